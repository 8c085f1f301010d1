/-
  The varint encoders of the program and of its model: what each call gives, said by one plain function of numbers and bytes.
-/
import Derived.Test.YtljlkhlnjjchgaaDoorDfx
namespace Go.Proofs.YtljlkhlnjjchgaaDoor
open Go.RowKit

/-- n in groups of seven bits, least significant first, at most f groups. -/
def vi : Nat → Nat → List UInt8
  | 0, _ => []
  | f + 1, n => if n < 128 then [UInt8.ofNat n] else UInt8.ofNat (128 + n % 128) :: vi f (n / 128)

def encV (n : Int) : List UInt8 := if 0 ≤ n ∧ n ≤ 562949953421311 then vi 7 n.toNat else []
theorem encV_no {n : Int} (h : n < 0 ∨ 562949953421311 < n) : encV n = [] := by unfold encV; rw [if_neg]; omega
theorem encV_yes {N : Nat} (h : N ≤ 562949953421311) : encV (N : Int) = vi 7 N := by
  unfold encV
  rw [if_pos ⟨by omega, by omega⟩]
  simp

theorem vi_small {f n : Nat} (h : n < 128) : vi (f + 1) n = [UInt8.ofNat n] := by rw [vi, if_pos h]
theorem vi_big {f n : Nat} (h : ¬ n < 128) : vi (f + 1) n = UInt8.ofNat (128 + n % 128) :: vi f (n / 128) := by rw [vi, if_neg h]

theorem B_small {m : Nat} (h : m < 128) : Value.int .u8 (m : Int) = B (UInt8.ofNat m) := by
  unfold B
  congr 1
  simp
  omega
theorem or_128 : ∀ x : Nat, x < 256 → x ||| 128 = 128 + x % 128 := by decide +kernel
theorem B_or (m : Nat) : Value.int .u8 (bits .or .u8 ((m : Int) % 256) 128) = B (UInt8.ofNat (128 + m % 128)) := by
  have h : bits .or .u8 ((m % 256 : Nat) : Int) ((128 : Nat) : Int) = ((m % 256 ||| 128 : Nat) : Int) := u8_or_nat _ _ (by omega) (by omega)
  have e : m % 256 ||| 128 = 128 + m % 128 := by
    rw [or_128 (m % 256) (by omega)]
    omega
  rw [e] at h
  unfold B
  congr 1
  rw [show ((m : Int) % 256) = ((m % 256 : Nat) : Int) by omega, show (128 : Int) = ((128 : Nat) : Int) by rfl, h]
  simp
  omega
theorem B_group (m : Nat) : Value.int .u8 (128 + (m : Int) % 128) = B (UInt8.ofNat (128 + m % 128)) := by
  unfold B
  congr 1
  simp
  omega

theorem one_new (wr : World) (T : TypeId) (u : Value) : ∀ j v, [u][j]? = some v → (wr.alloc (.cells #[u] T)).cell? ((⟨wr.heap.size, 0, none⟩ : Addr).add j) = some v := by
  intro j v hj
  match j, hj with
  | 0, hj => simp at hj; subst hj; exact World.cell?_alloc_at _ _ _ _ rfl
theorem one_one (u : Value) (h : u.oneCell' = true) : ∀ v ∈ [u], v.oneCell' = true := by
  intro v hv; simp at hv; subst hv; exact h

theorem pow_step (m f : Nat) (h : ¬ m < 128) (hm : m < 128 ^ f) (hf : 1 ≤ f) : 1 ≤ f - 1 ∧ m / 128 < 128 ^ (f - 1) := by
  obtain ⟨g, rfl⟩ : ∃ g, f = g + 1 := ⟨f - 1, by omega⟩
  have h0 : g ≠ 0 := by rintro rfl; simp at hm; omega
  refine ⟨by omega, ?_⟩
  rw [Nat.pow_succ] at hm
  exact Nat.div_lt_of_lt_mul (by simpa [Nat.mul_comm] using hm)
theorem vi_step (m f : Nat) (h : ¬ m < 128) (hf : 1 ≤ f) (l r : List UInt8) (e : l ++ vi f m = r) : (l ++ [UInt8.ofNat (128 + m % 128)]) ++ vi (f - 1) (m / 128) = r := by
  obtain ⟨g, rfl⟩ : ∃ g, f = g + 1 := ⟨f - 1, by omega⟩
  rw [vi_big h] at e
  simpa using e
theorem vi_end (m f : Nat) (h : m < 128) (hf : 1 ≤ f) (l r : List UInt8) (e : l ++ vi f m = r) : l ++ [UInt8.ofNat m] = r := by
  obtain ⟨g, rfl⟩ : ∃ g, f = g + 1 := ⟨f - 1, by omega⟩
  rw [vi_small h] at e
  exact e
theorem map_snoc (l : List UInt8) (b : UInt8) : l.map B ++ [B b] = (l ++ [b]).map B := by simp


set_option maxHeartbeats 1000000 in
set_option maxRecDepth 100000 in
theorem iEncV_in (N : Nat) (w : World) (h : N ≤ 562949953421311) :
    Calls Tryd.prog 9 #[.int .i64 N] w fun e w' => e = .returned (S (vi 7 N)) ∧ Below w.heap.size w w' := by
  obtain ⟨i0, hi, hz0, hz1, hz2⟩ := info_parts info_u8
  have hmax : decide ((562949953421311 : Int) < (N : Int)) = false := by simp; omega
  go_enter Tryd.func9, Tryd.ntmps9
  go_wp2
  go_loopw [0, 3] (fun n v wr => ∃ m f l, Hid (m < 128 ^ f) ∧ 1 ≤ f ∧ f ≤ 7 ∧ m ≤ 562949953421311 ∧ Hid (l ++ vi f m = vi 7 N) ∧ l.length ≤ 7 - f ∧ n = .int .i64 (m : Nat) ∧
      wr.ownsRow w.heap.size 5 1 v l.length (l.map B) ∧ Below w.heap.size w wr) (fun n _ _ => (intOf n).toNat)
  case atStart => exact ⟨N, 7, [], by unfold Hid; omega, by omega, by omega, h, by simp [Hid], by simp, rfl, World.ownsRow_nil _ _ _ _, Below.refl _ _⟩
  case round =>
    clear hmax
    obtain ⟨m, f, l, hm, hf, hf7, hmN, he, hl, rfl, hown, hb⟩ := hrel
    have hsz := hb.size
    by_cases hlt : m < 128
    · go_wp2_with (first | (at_builtin; refine wpList_append_own _ rfl _ _ 22 rfl w.heap.size 5 i0 (.int .u8 0) 1 1 Tryd.underlying22 hi hz0 hz1 hz2 rfl (by decide) _ _ _ rfl (hown.alloc _) ⟨wr.heap.size, 0, none⟩ 1 1 [.int .u8 (m : Int)] rfl rfl (one_new _ _ _) (one_one _ rfl) ?c3 ?c4 ?c5 ?_) | go_in)
      case c3 => unfold maxLen; omega
      case c4 => omega
      case c5 => simp; omega
      intro v' w1 hown1 hgrow _
      rw [B_small hlt, map_snoc] at hown1
      have hcv := conv_own hown1
      go_wp2
      go_ret
      exact ⟨ret_S (vi_end m f hlt hf l _ he.out), (hb.alloc hb.size _).grown hgrow (by simp; omega) (fun k hk => (hown.lt k hk).1)⟩
    · go_wp2_with (first | (at_builtin; refine wpList_append_own _ rfl _ _ 22 rfl w.heap.size 5 i0 (.int .u8 0) 1 1 Tryd.underlying22 hi hz0 hz1 hz2 rfl (by decide) _ _ _ rfl (hown.alloc _) ⟨wr.heap.size, 0, none⟩ 1 1 [.int .u8 (bits .or .u8 ((m : Int) % 256) 128)] rfl rfl (one_new _ _ _) (one_one _ rfl) ?c3 ?c4 ?c5 ?_) | go_in)
      case c3 => unfold maxLen; omega
      case c4 => omega
      case c5 => simp; omega
      intro v' w1 hown1 hgrow _
      rw [B_or m, map_snoc] at hown1
      go_wp2
      go_roundw
      case rel =>
        have hp := pow_step m f hlt hm.out hf
        have hr := vi_step m f hlt hf l _ he.out
        have hln : (l ++ [UInt8.ofNat (128 + m % 128)]).length = l.length + 1 := by simp
        first
          | exact ⟨m / 128, f - 1, l ++ [UInt8.ofNat (128 + m % 128)], hp.2, hp.1, by omega, by omega, hr, by omega, by go_num, by rw [hln]; exact hown1, (hb.alloc hb.size _).grown hgrow (by simp; omega) (fun k hk => (hown.lt k hk).1)⟩
          | (repeat apply Exists.intro
             exact ⟨⟨m / 128, f - 1, l ++ [UInt8.ofNat (128 + m % 128)], hp.2, hp.1, by omega, by omega, hr, by omega, by go_num, by rw [hln]; exact hown1, (hb.alloc hb.size _).grown hgrow (by simp; omega) (fun k hk => (hown.lt k hk).1)⟩, rfl⟩)
      case measure => simp [intOf]; omega

theorem iEncV_any (n : Int) (w : World) :
    Calls Tryd.prog 9 #[.int .i64 n] w fun e w' => e = .returned (S (encV n)) ∧ Below w.heap.size w w' := by
  by_cases h1 : 0 ≤ n
  · by_cases h2 : n ≤ 562949953421311
    · obtain ⟨N, rfl⟩ := Int.eq_ofNat_of_zero_le h1
      rw [encV_yes (by omega)]
      exact iEncV_in N w (by omega)
    · rw [encV_no (by omega)]
      have hmax : decide ((562949953421311 : Int) < n) = true := by simp; omega
      have hneg : decide (n < 0) = false := by simp; omega
      clear h2 h1
      go_enter Tryd.func9, Tryd.ntmps9
      go_wp2
      go_ret
      exact ⟨rfl, Below.refl _ _⟩
  · rw [encV_no (by omega)]
    have hneg : decide (n < 0) = true := by simp; omega
    clear h1
    go_enter Tryd.func9, Tryd.ntmps9
    go_wp2
    go_ret
    exact ⟨rfl, Below.refl _ _⟩

end Go.Proofs.YtljlkhlnjjchgaaDoor
