/-
  FormatInt of the program and of its model: each gives the decimal numeral.
-/
import Derived.Test.YtljlkhlnjjchgaaDoorUni
import Derived.Test.YtljlkhlnjjchgaaDoorShelf
import Derived.Lib.AppendIntMem
import Derived.Lib.ItoaLen
namespace Go.Proofs.YtljlkhlnjjchgaaDoor
open Go.RowKit

/-- The library's table of powers of ten reads as its initialiser lays it, whatever is done from block B on. -/
def Tab (B : Nat) (w : World) : Prop := Lib.TabBelow Tryd.prog B w "internal/strconv.uint64pow10" .u64 Lib.pow10Tab
theorem Tab.on {B : Nat} {w w' : World} (h : Tab B w) (hb : Below B w w') : Tab B w' := Lib.TabBelow.on h hb

theorem iFormatInt (n : Int) (h0 : -9223372036854775808 ≤ n) (h1 : n ≤ 9223372036854775807) (B : Nat) (w : World) (hT : Tab B w) (hB : B ≤ w.heap.size) :
    Calls Tryd.prog 17 #[.int .i64 n] w fun e w' => e = .returned (S (Lib.itoa n)) ∧ Below B w w' := by
  have HT := Lib.hid hT
  clear hT
  go_enter Tryd.func17, Tryd.ntmps17
  go_wp2_with fail
  refine (Tryd.strconv_Itoa n h0 h1 _ HT.out.here).mono ?_
  rintro e w1 ⟨rfl, k, os, rfl⟩
  go_wp2
  go_ret
  exact ⟨rfl, Lib.below_grow B w hB k os⟩

def dd (m : Nat) : List UInt8 := if m = 0 then [] else Lib.decDigits m
theorem dd_zero : dd 0 = [] := rfl
theorem dd_step (m : Nat) (h : m ≠ 0) : dd m = dd (m / 10) ++ [UInt8.ofNat (48 + m % 10)] := by
  unfold dd
  rw [if_neg h, Lib.decDigits]
  split
  · rename_i h10
    rw [if_pos (by omega), Nat.mod_eq_of_lt h10]
    rfl
  · rw [if_neg (by omega)]
theorem itoa_pos {N : Nat} (h : N ≠ 0) : Lib.itoa (N : Int) = dd N := by
  unfold Lib.itoa dd
  rw [if_neg (by omega), if_neg h, Int.toNat_natCast]
theorem itoa_neg {N : Nat} (h : N ≠ 0) : Lib.itoa (-(N : Int)) = 45 :: dd N := by
  unfold Lib.itoa dd
  rw [if_pos (by omega), if_neg h]
  simp
theorem itoa_zero : Lib.itoa 0 = [48] := by
  unfold Lib.itoa
  rw [if_neg (by omega), Lib.decDigits, dif_pos (by decide)]
  rfl
theorem dd_snoc (m N : Nat) (out : List UInt8) (h : m ≠ 0) (e : dd m ++ out = dd N) : dd (m / 10) ++ (UInt8.ofNat (48 + m % 10) :: out) = dd N := by
  rw [dd_step m h] at e
  simpa using e

theorem dd_len (m N : Nat) (l : List UInt8) (hN : N ≤ 9223372036854775808) (e : dd m ++ l = dd N) : l.length ≤ 20 := by
  have h1 : (dd N).length ≤ 20 := by
    unfold dd
    split
    · simp
    · rw [Lib.decDigits_length]
      exact Lib.nDigits_le20 N (by omega)
  rw [← e, List.length_append] at h1
  omega
theorem ret_S45 {l r : List UInt8} (h : l = r) : Ending.returned (.string (⟨#[45]⟩ ++ ⟨l.toArray⟩)) = .returned (S (45 :: r)) := by
  rw [h]
  exact congrArg (fun b => Ending.returned (.string b)) (S_append [45] r)
theorem digit_S (x : Nat) (l : List UInt8) : Value.string ({ data := #[48 + UInt8.ofNat x] } ++ { data := l.toArray }) = .string ⟨(UInt8.ofNat (48 + x) :: l).toArray⟩ := by
  rw [UInt8.ofNat_add]
  exact congrArg Value.string (S_append [_] _)

set_option maxHeartbeats 400000 in
theorem sFmt_pos (N : Nat) (w : World) (h : N ≤ 9223372036854775807) (hn : N ≠ 0) :
    Calls Tryd.prog 19 #[.int .i64 N] w fun e w' => e = .returned (S (dd N)) ∧ Below w.heap.size w w' := by
  have hconv := conv_one
  have h00 : ((N : Int) == 0) = false := by simp; exact hn
  have hlt : decide ((N : Int) < 0) = false := by simp
  clear hn
  go_enter Tryd.func19, Tryd.ntmps19
  go_wp2
  go_loopw [0, 3] (fun n out wr => ∃ (m : Nat) (l : List UInt8), m ≤ 9223372036854775807 ∧ n = .int .i64 m ∧ Hid (dd m ++ l = dd N) ∧ l.length ≤ 20 ∧ out = .string ⟨l.toArray⟩ ∧ Below w.heap.size w wr) (fun n _ _ => (intOf n).toNat)
  case atStart => exact ⟨N, [], h, rfl, by simp [Hid], by simp, rfl, Below.refl _ _⟩
  case round =>
    obtain ⟨m, l, hm, rfl, he, hl, rfl, hb⟩ := hrel
    by_cases h0 : m = 0
    · subst h0
      go_wp2
      go_ret
      exact ⟨ret_S (by have := he.out; rwa [dd_zero, List.nil_append] at this), hb⟩
    · have hne : ((m : Int) != 0) = true := by simp; exact h0
      have H0 := Lib.hid h0
      clear h0
      go_wp2
      go_roundw
      case rel =>
        have he' := dd_snoc m N l H0.out he.out
        exact ⟨m / 10, _, by omega, by go_num, he', dd_len _ N _ (by omega) he', digit_S _ _, hb.alloc hb.size _⟩
      case measure => have := H0.out; simp [intOf]; omega

set_option maxHeartbeats 400000 in
theorem sFmt_neg (N : Nat) (w : World) (h : N ≤ 9223372036854775808) (hn : N ≠ 0) :
    Calls Tryd.prog 19 #[.int .i64 (-(N : Int))] w fun e w' => e = .returned (S (45 :: dd N)) ∧ Below w.heap.size w w' := by
  have hconv := conv_one
  have h00 : (-(N : Int) == 0) = false := by simp; exact hn
  have hlt : decide (0 < N) = true := by simp; omega
  clear hn
  go_enter Tryd.func19, Tryd.ntmps19
  go_wp2
  go_loopw [0, 3, 5] (fun n out _ wr => ∃ (m : Nat) (l : List UInt8), m ≤ 9223372036854775808 ∧ n = .int .i64 (-(m : Int)) ∧ Hid (dd m ++ l = dd N) ∧ l.length ≤ 20 ∧ out = .string ⟨l.toArray⟩ ∧ Below w.heap.size w wr) (fun n _ _ _ => (-intOf n).toNat)
  case atStart => exact ⟨N, [], h, rfl, by simp [Hid], by simp, rfl, Below.refl _ _⟩
  case round =>
    obtain ⟨m, l, hm, rfl, he, hl, rfl, hb⟩ := hrel
    by_cases h0 : m = 0
    · subst h0
      go_wp2
      go_ret
      refine ⟨ret_S45 ?_, hb⟩
      have := he.out
      rwa [dd_zero, List.nil_append] at this
    · have hne : (-(m : Int) != 0) = true := by simp; exact h0
      have H0 := Lib.hid h0
      clear h0
      go_wp2
      · go_roundw
        case rel =>
          have he' := dd_snoc m N l H0.out he.out
          exact ⟨m / 10, _, by omega, by go_num, he', dd_len _ N _ (by omega) he', digit_S _ _, hb.alloc hb.size _⟩
        case measure => have := H0.out; simp [intOf]; omega
      · have h10 : m % 10 = 0 := by omega
        go_roundw
        case rel =>
          have he' := dd_snoc m N l H0.out he.out
          have e : (48 + -((m : Int) % 10)).toNat = 48 + m % 10 := by omega
          exact ⟨m / 10, _, by omega, by go_num, he', dd_len _ N _ (by omega) he', by rw [e]; exact congrArg Value.string (S_append [_] _), hb.alloc hb.size _⟩
        case measure => have := H0.out; simp [intOf]; omega

theorem sFormatInt (n : Int) (h0 : -9223372036854775808 ≤ n) (h1 : n ≤ 9223372036854775807) (w : World) :
    Calls Tryd.prog 19 #[.int .i64 n] w fun e w' => e = .returned (S (Lib.itoa n)) ∧ Below w.heap.size w w' := by
  by_cases hz : n = 0
  · subst hz
    rw [itoa_zero]
    go_enter Tryd.func19, Tryd.ntmps19
    go_wp2
    go_ret
    exact ⟨rfl, Below.refl _ _⟩
  · by_cases hp : 0 ≤ n
    · obtain ⟨N, rfl⟩ := Int.eq_ofNat_of_zero_le hp
      rw [itoa_pos (by omega)]
      exact sFmt_pos N w (by omega) (by omega)
    · obtain ⟨N, hN⟩ := Int.eq_ofNat_of_zero_le (by omega : 0 ≤ -n)
      obtain rfl : n = -(N : Int) := by omega
      rw [itoa_neg (by omega)]
      exact sFmt_neg N w (by omega) (by omega)

end Go.Proofs.YtljlkhlnjjchgaaDoor
