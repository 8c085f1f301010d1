/-
  The fixed-width encodings of the program and of its model: what each call gives, said by one plain function of numbers and bytes.
-/
import Derived.Test.YtljlkhlnjjchgaaDoorKit
namespace Go.Proofs.YtljlkhlnjjchgaaDoor
open Go.RowKit

/-- The low k bytes of n, most significant byte first. -/
def be : Nat → Nat → List UInt8
  | 0, _ => []
  | k + 1, n => UInt8.ofNat (n / 256 ^ k % 256) :: be k n
theorem be_length : ∀ k n, (be k n).length = k
  | 0, _ => rfl
  | k + 1, n => by simp [be, be_length k n]

def encF (n w : Int) : List UInt8 := if 1 ≤ w ∧ w ≤ 7 ∧ 0 ≤ n ∧ n / 256 ^ w.toNat ≤ 0 then be w.toNat n.toNat else []

theorem encF_no {n w : Int} (h : w < 1 ∨ 7 < w ∨ n < 0) : encF n w = [] := by unfold encF; rw [if_neg]; omega
theorem encF_big {N W : Nat} (h : 0 < N / 256 ^ W) : encF (N : Int) (W : Int) = [] := by
  unfold encF
  rw [if_neg]
  rintro ⟨-, -, -, h'⟩
  have e : ((N : Int) / 256 ^ (W : Int).toNat) = ((N / 256 ^ W : Nat) : Int) := by simp
  rw [e] at h'
  omega
theorem encF_yes {N W : Nat} (h1 : 1 ≤ W) (h2 : W ≤ 7) (h : ¬ 0 < N / 256 ^ W) : encF (N : Int) (W : Int) = be W N := by
  unfold encF
  have e : ((N : Int) / 256 ^ (W : Int).toNat) = ((N / 256 ^ W : Nat) : Int) := by simp
  rw [e, if_pos ⟨by omega, by omega, by omega, by omega⟩]
  simp

theorem div_step (N k : Nat) : N / 256 ^ k / 256 = N / 256 ^ (k + 1) := by rw [Nat.div_div_eq_div_mul, Nat.pow_succ]

theorem ret_S {a b : List UInt8} (h : a = b) : Ending.returned (.string ⟨a.toArray⟩) = .returned (.string ⟨b.toArray⟩) := by rw [h]

set_option maxHeartbeats 400000 in
theorem sEncF_in (N W : Nat) (w : World) (h : 1 ≤ W) (h2 : W ≤ 7) (h3 : N ≤ 9223372036854775807) :
    Calls Tryd.prog 14 #[.int .i64 N, .int .i64 W] w fun e w' => e = .returned (S (encF N W)) ∧ Below w.heap.size w w' := by
  have hconv := conv_one
  go_enter Tryd.func14, Tryd.ntmps14
  go_wp2
  go_loopw [0, 5, 6] (fun n out i wr => ∃ k m : Nat, k ≤ W ∧ m ≤ 9223372036854775807 ∧ i = .int .i64 k ∧ n = .int .i64 m ∧ Hid (m = N / 256 ^ k) ∧ out = .string ⟨(be k N).toArray⟩ ∧ Below w.heap.size w wr) (fun _ _ i _ => W - (intOf i).toNat)
  case atStart => exact ⟨0, N, Nat.zero_le _, h3, rfl, rfl, by simp [Hid], rfl, Below.refl _ _⟩
  case round =>
    obtain ⟨k, m, hk, hm, rfl, rfl, hmk, rfl, hb⟩ := hrel
    have hl := be_length k N
    have hl2 : (be k N).length ≤ 7 := by omega
    clear hl
    go_wp2
    · go_roundw
      case rel => exact ⟨k + 1, m / 256, by omega, by omega, by go_num, by go_num, by rw [hmk.out]; exact div_step N k, by
        simp only [be, ← hmk.out]
        exact congrArg Value.string (S_append [_] _), hb.alloc hb.size _⟩
      case measure => simp [intOf]; omega
    · go_ret
      have : k = W := by omega
      subst this
      exact ⟨ret_S (encF_big (by rw [← hmk.out]; omega)).symm, hb⟩
    · go_ret
      have : k = W := by omega
      subst this
      exact ⟨ret_S (encF_yes h h2 (by rw [← hmk.out]; omega)).symm, hb⟩

theorem sEncF_any (n v : Int) (w : World) (h : n ≤ 9223372036854775807) :
    Calls Tryd.prog 14 #[.int .i64 n, .int .i64 v] w fun e w' => e = .returned (S (encF n v)) ∧ Below w.heap.size w w' := by
  by_cases h1 : 1 ≤ v
  · by_cases h2 : v ≤ 7
    · by_cases h3 : 0 ≤ n
      · obtain ⟨N, rfl⟩ := Int.eq_ofNat_of_zero_le h3
        obtain ⟨W, rfl⟩ := Int.eq_ofNat_of_zero_le (by omega : 0 ≤ v)
        exact sEncF_in N W w (by omega) (by omega) (by omega)
      · rw [encF_no (by omega)]
        go_enter Tryd.func14, Tryd.ntmps14
        go_wp2
        go_ret
        exact ⟨rfl, Below.refl _ _⟩
    · rw [encF_no (by omega)]
      go_enter Tryd.func14, Tryd.ntmps14
      go_wp2
      go_ret
      exact ⟨rfl, Below.refl _ _⟩
  · rw [encF_no (by omega)]
    go_enter Tryd.func14, Tryd.ntmps14
    go_wp2
    go_ret
    exact ⟨rfl, Below.refl _ _⟩


theorem shl_yes {N W : Nat} (h1 : 1 ≤ W) (h2 : W ≤ 7) (h : 0 < N / 256 ^ W) : decide (wrap64 (2 ^ (8 * W)) ≤ (N : Int)) = true := by
  have hp : 256 ^ W ≤ N := by
    rcases Nat.lt_or_ge N (256 ^ W) with hl | hl
    · rw [Nat.div_eq_of_lt hl] at h; omega
    · exact hl
  have hc : W = 1 ∨ W = 2 ∨ W = 3 ∨ W = 4 ∨ W = 5 ∨ W = 6 ∨ W = 7 := by omega
  rcases hc with rfl | rfl | rfl | rfl | rfl | rfl | rfl <;> (simp [wrap64] at *; omega)
theorem shl_no {N W : Nat} (h1 : 1 ≤ W) (h2 : W ≤ 7) (h : ¬ 0 < N / 256 ^ W) : decide (wrap64 (2 ^ (8 * W)) ≤ (N : Int)) = false := by
  have hp : N < 256 ^ W := by
    rcases Nat.lt_or_ge N (256 ^ W) with hl | hl
    · exact hl
    · exact absurd (Nat.div_pos hl (Nat.pos_of_ne_zero (by simp))) h
  have hc : W = 1 ∨ W = 2 ∨ W = 3 ∨ W = 4 ∨ W = 5 ∨ W = 6 ∨ W = 7 := by omega
  rcases hc with rfl | rfl | rfl | rfl | rfl | rfl | rfl <;> (simp [wrap64] at *; omega)

theorem made_zero (W N : Nat) : (madeCells #[Value.int .u8 0] W).toList = (List.replicate (W - 0) (0 : UInt8) ++ be 0 N).map B := by
  rw [toList_madeCells_one]
  simp [be, B]
theorem set_step (W k N : Nat) (h : k < W) : ((List.replicate (W - k) (0 : UInt8) ++ be k N).map B).set (W - 1 - k) (B (UInt8.ofNat (N / 256 ^ k % 256))) = (List.replicate (W - (k + 1)) (0 : UInt8) ++ be (k + 1) N).map B := by
  have e : W - k = (W - 1 - k) + 1 := by omega
  have e2 : W - (k + 1) = W - 1 - k := by omega
  rw [e, e2, List.replicate_succ']
  rw [← List.map_set]
  congr 1
  simp [be]
theorem B_mod (m : Nat) : B (UInt8.ofNat (m % 256)) = .int .u8 ((m : Int) % 256) := by
  unfold B
  congr 1
  simp
theorem row_at (W k N : Nat) (h : k < W) : ((List.replicate (W - k) (0 : UInt8) ++ be k N).map B)[W - 1 - k]? = some (.int .u8 0) := by
  have : W - 1 - k < W - k := by omega
  simp [List.getElem?_append, this, B]

set_option maxHeartbeats 1000000 in
theorem iEncF_in (N W : Nat) (w : World) (h : 1 ≤ W) (h2 : W ≤ 7) (h3 : N ≤ 9223372036854775807) (hf : ¬ 0 < N / 256 ^ W) :
    Calls Tryd.prog 12 #[.int .i64 N, .int .i64 W] w fun e w' => e = .returned (S (be W N)) ∧ Below w.heap.size w w' := by
  have hd := shl_no h h2 hf
  clear hf
  have hn : decide ((N : Int) < 0) = false := by simp
  obtain ⟨i0, hi, hz0, hz1, hz2⟩ := info_parts info_u8
  go_enter Tryd.func12, Tryd.ntmps12
  go_wp2_with (first | (at_make; refine wpList_make_full _ rfl _ _ 22 rfl w.heap.size 5 i0 (.int .u8 0) 1 Tryd.underlying22 hi hz0 hz1 _ _ _ _ W rfl rfl rfl rfl ?b2 ?b3 (Nat.le_refl _) ?_) | go_in)
  case b2 => rw [hz2]; omega
  case b3 => unfold maxLen; omega
  intro w0 hown0 hgrow0
  rw [made_zero W N] at hown0
  go_wp2
  go_loopw [0, 25] (fun n i wr => ∃ k m : Nat, k ≤ W ∧ m ≤ 9223372036854775807 ∧ i = .int .i64 k ∧ n = .int .i64 m ∧ Hid (m = N / 256 ^ k) ∧
      wr.ownsRow w.heap.size 5 1 (.slice (some ⟨w.heap.size, 0, none⟩) W W) W ((List.replicate (W - k) (0 : UInt8) ++ be k N).map B) ∧ Below w.heap.size w wr) (fun _ i _ => W - (intOf i).toNat)
  case atStart => exact ⟨0, N, Nat.zero_le _, h3, rfl, rfl, by simp [Hid], hown0, (Below.refl _ _).grown hgrow0 (Nat.le_refl _) (fun k h => by cases h)⟩
  case round =>
    obtain ⟨k, m, hk, hm, rfl, rfl, hmk, hown, hb⟩ := hrel
    by_cases hlt : k < W
    · have hcell := hown.cellAt (W - 1 - k) (by omega)
      rw [row_at W k N hlt] at hcell
      have hfr := hown.frozenAt (W - 1 - k)
      have hst := hown.stored (W - 1 - k) (B (UInt8.ofNat (N / 256 ^ k % 256)))
      rw [set_step W k N hlt] at hst
      have HST := Lib.hid hst
      clear hst
      go_wp2
      go_roundw
      case rel =>
        have H := HST.out
        rw [← hmk.out, B_mod] at H
        exact ⟨k + 1, m / 256, by omega, by omega, by go_num, by go_num, by rw [hmk.out]; exact div_step N k, H.1, hb.grown H.2 hb.size (fun k h => by cases h; exact Nat.le_refl _)⟩
      case measure => simp [intOf]; omega
    · have hcv := conv_own hown
      go_wp2
      go_ret
      obtain rfl : k = W := by omega
      exact ⟨ret_S (by simp), hb⟩

theorem iEncF_no (n v : Int) (w : World) (h : v < 1 ∨ 7 < v ∨ n < 0) :
    Calls Tryd.prog 12 #[.int .i64 n, .int .i64 v] w fun e w' => e = .returned (S []) ∧ Below w.heap.size w w' := by
  by_cases h1 : 1 ≤ v
  · by_cases h2 : v ≤ 7
    · have hn : decide (n < 0) = true := by simp; omega
      go_enter Tryd.func12, Tryd.ntmps12
      go_wp2
      go_ret
      exact ⟨rfl, Below.refl _ _⟩
    · go_enter Tryd.func12, Tryd.ntmps12
      go_wp2
      go_ret
      exact ⟨rfl, Below.refl _ _⟩
  · go_enter Tryd.func12, Tryd.ntmps12
    go_wp2
    go_ret
    exact ⟨rfl, Below.refl _ _⟩

theorem iEncF_any (n v : Int) (w : World) (h : n ≤ 9223372036854775807) :
    Calls Tryd.prog 12 #[.int .i64 n, .int .i64 v] w fun e w' => e = .returned (S (encF n v)) ∧ Below w.heap.size w w' := by
  by_cases h1 : v < 1 ∨ 7 < v ∨ n < 0
  · rw [encF_no h1]
    exact iEncF_no n v w h1
  · obtain ⟨N, rfl⟩ := Int.eq_ofNat_of_zero_le (by omega : 0 ≤ n)
    obtain ⟨W, rfl⟩ := Int.eq_ofNat_of_zero_le (by omega : 0 ≤ v)
    by_cases hf : 0 < N / 256 ^ W
    · rw [encF_big hf]
      have hd := shl_yes (by omega) (by omega) hf
      have hn : decide ((N : Int) < 0) = false := by simp
      have h2 : 1 ≤ W := by omega
      have h3 : W ≤ 7 := by omega
      clear hf h1
      go_enter Tryd.func12, Tryd.ntmps12
      go_wp2
      go_ret
      exact ⟨rfl, Below.refl _ _⟩
    · rw [encF_yes (by omega) (by omega) hf]
      exact iEncF_in N W w (by omega) (by omega) (by omega) hf

end Go.Proofs.YtljlkhlnjjchgaaDoor
