/-
  The hexadecimal encoders of the program and of its model: what each call gives, said by one plain function on bytes.
-/
import Derived.Test.YtljlkhlnjjchgaaDvs
import Derived.Deep.RegionHeld3
import Derived.Deep.AppendLies
import Derived.Deep.DrawnRows
namespace Go.Proofs.Ytljlkhlnjjchgaa
open Go.RowKit

def digits : ByteArray := ⟨#[48, 49, 50, 51, 52, 53, 54, 55, 56, 57, 97, 98, 99, 100, 101, 102]⟩
/-- The digit of n, n below 16. -/
def hexd (n : Nat) : UInt8 := digits.data.getD n 0
def encH : List UInt8 → List UInt8
  | [] => []
  | b :: r => hexd (b.toNat / 16) :: hexd (b.toNat % 16) :: encH r
theorem encH_append (a b : List UInt8) : encH (a ++ b) = encH a ++ encH b := by
  induction a with
  | nil => rfl
  | cons c r ih => simp [encH, ih]
theorem encH_length : ∀ l : List UInt8, (encH l).length = 2 * l.length
  | [] => rfl
  | b :: r => by simp only [encH, List.length_cons, encH_length r]; omega

theorem hexd_at (n : Nat) (h : n < digits.size) : digits[n] = hexd n := by
  unfold hexd
  rw [Array.getD_eq_getD_getElem?, Array.getElem?_eq_getElem (by exact h)]
  rfl

theorem sDigit (n : Nat) (w : World) (h : n < 16) : Calls Try.prog 24 #[.int .i64 n] w fun e w' => e = .returned (.int .u8 ((hexd n).toNat : Int)) ∧ w = w' := by
  go_enter Try.func24, Try.ntmps24
  go_wp2
  go_ret
  exact ⟨congrArg (fun b : UInt8 => Ending.returned (.int .u8 (b.toNat : Int))) (hexd_at n h), rfl⟩

theorem sDigitI (x : Int) (w : World) (h0 : 0 ≤ x) (h : x < 16) : Calls Try.prog 24 #[.int .i64 x] w fun e w' => e = .returned (.int .u8 ((hexd x.toNat).toNat : Int)) ∧ w = w' := by
  obtain ⟨n, rfl⟩ := Int.eq_ofNat_of_zero_le h0
  rw [Int.toNat_natCast]
  exact sDigit n w (by omega)

theorem encH_step (s : ByteArray) (k : Nat) (h : k < s.size) : (encH ((bs s).take k)).map B ++ [.int .u8 ((hexd ((s[k].toNat : Int) / 16).toNat).toNat : Int), .int .u8 ((hexd ((s[k].toNat : Int) % 16).toNat).toNat : Int)] = (encH ((bs s).take (k + 1))).map B := by
  have e1 : ((s[k].toNat : Int) / 16).toNat = s[k].toNat / 16 := by omega
  have e2 : ((s[k].toNat : Int) % 16).toNat = s[k].toNat % 16 := by omega
  rw [e1, e2, take_snoc s k h, encH_append]
  simp only [encH, List.map_append, List.map_cons, List.map_nil]
  rfl
theorem dq (b : UInt8) : 0 ≤ (b.toNat : Int) / 16 ∧ (b.toNat : Int) / 16 < 16 := by have := b.toNat_lt; omega
theorem dr (b : UInt8) : 0 ≤ (b.toNat : Int) % 16 ∧ (b.toNat : Int) % 16 < 16 := by have := b.toNat_lt; omega
theorem dw (b : UInt8) : IntKind.i64.wrap (b.toNat : Int) = (b.toNat : Int) := IntWalk.i64_in _ (by have := b.toNat_lt; omega)
theorem dv (b : UInt8) : IntKind.i64.wrap ((b.toNat : Int) / 16) = (b.toNat : Int) / 16 := IntWalk.i64_in _ (by have := b.toNat_lt; omega)
theorem dm (b : UInt8) : (b.toNat : Int).tmod 16 = (b.toNat : Int) % 16 := IntWalk.rem_in _ _ (by omega)

set_option maxHeartbeats 400000 in
set_option maxRecDepth 100000 in
theorem sEncH_any (s : ByteArray) (w : World) (hs : s.size ≤ 4194304) :
    Calls Try.prog 17 #[.string s] w fun e w' => e = .returned (S (encH (bs s))) ∧ Below w.heap.size w w' := by
  obtain ⟨i0, hi, hz0, hz1, hz2⟩ := info_parts info_u8
  go_enter Try.func17, Try.ntmps17
  go_wp2
  go_loopw [3, 4] (fun v i wr => ∃ k : Nat, k ≤ s.size ∧ i = .int .i64 k ∧ wr.ownsRow w.heap.size 5 1 v (2 * k) ((encH ((bs s).take k)).map B) ∧ Below w.heap.size w wr) (fun _ i _ => s.size - (intOf i).toNat)
  case atStart => exact ⟨0, by omega, rfl, by simpa [encH] using World.ownsRow_lit (base := w.heap.size) (e := 5) (size := 1) w #[] 0 (Nat.le_refl _) (by simp [maxLen]) rfl, (Below.refl _ _).alloc (Nat.le_refl _) _⟩
  case round =>
    obtain ⟨k, hk, rfl, hown, hb⟩ := hrel
    by_cases hlt : k < s.size
    · have hbt : s[k].toNat < 256 := s[k].toNat_lt
      have hsz := hb.size
      have hw1 := dw s[k]
      have hw2 := dv s[k]
      have hw3 := dm s[k]
      go_wp2_with fail
      go_region_held3 (fun _ => True) (trivial)
        (first
          | (go_at_call 24; refine Calls.mono (sDigitI _ _ (dq _).1 (dq _).2) ?_; rintro e w' ⟨rfl, rfl⟩)
          | (go_at_call 24; refine Calls.mono (sDigitI _ _ (dr _).1 (dr _).2) ?_; rintro e w' ⟨rfl, rfl⟩)
          | (refine step_append_lies _ (by rfl) _ _ _ (by rfl) w.heap.size 5 i0 _ 1 1 Try.underlying36 hi hz0 hz1 hz2 rfl (by omega) _ _ _ (by rfl) ((hown.drew).alloc _) ⟨wr.heap.size, 0, none⟩ 2 2 [.int .u8 ((hexd ((s[k].toNat : Int) / 16).toNat).toNat : Int), .int .u8 ((hexd ((s[k].toNat : Int) % 16).toNat).toNat : Int)] (by rfl) (by rfl) (World.news_of_block (cs := #[.int .u8 ((hexd ((s[k].toNat : Int) / 16).toNat).toNat : Int), .int .u8 ((hexd ((s[k].toNat : Int) % 16).toNat).toNat : Int)]) (t := 5) (fr := (0, 0)) (heap_alloc_new _ _)) (by simp [Value.oneCell']) (by omega) (by unfold maxLen; omega) (by omega) (by simp; omega) (wr.heap.size + 1) (by simp) ?_; intro gg cap w1 hown1 hgrow _ _))
      all_goals go_wp2
      all_goals
        clear hw1 hw2 hw3
        go_roundw
        case rel => exact ⟨k + 1, by omega, by go_num, (by have h := hown1; rw [encH_step s k hlt] at h; exact h), (hb.alloc hsz _).drew.grown hgrow (by simp; omega) (fun j hj => (hown.lt j hj).1)⟩
        case measure => simp [intOf]; omega
    · have hcv := conv_own hown
      go_wp2
      go_ret
      obtain rfl : k = s.size := by omega
      exact ⟨ret_S (by rw [List.take_of_length_le (by simp)]), hb⟩

end Go.Proofs.Ytljlkhlnjjchgaa
