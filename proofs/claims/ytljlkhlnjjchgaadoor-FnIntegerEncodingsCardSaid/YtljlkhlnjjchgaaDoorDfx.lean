/-
  The fixed-width decodings of the program and of its model: what each call gives, said by one plain function of numbers and bytes.
-/
import Derived.Test.YtljlkhlnjjchgaaDoorFix
namespace Go.Proofs.YtljlkhlnjjchgaaDoor
open Go.RowKit

/-- The number whose big-endian bytes are l. -/
def ofBe (l : List UInt8) : Nat := l.foldl (fun a b => a * 256 + b.toNat) 0
theorem ofBe_snoc (l : List UInt8) (b : UInt8) : ofBe (l ++ [b]) = ofBe l * 256 + b.toNat := by simp [ofBe]
theorem ofBe_lt : ∀ l : List UInt8, ofBe l < 256 ^ l.length := by
  intro l
  rcases List.eq_nil_or_concat l with rfl | ⟨m, b, rfl⟩
  · simp [ofBe]
  · rw [List.concat_eq_append, ofBe_snoc, List.length_append, List.length_singleton, Nat.pow_succ]
    have h1 := ofBe_lt m
    have h2 := b.toNat_lt
    omega
  termination_by l => l.length
theorem take_snoc (s : ByteArray) (k : Nat) (h : k < s.size) : s.data.toList.take (k + 1) = s.data.toList.take k ++ [s[k]] := by
  rw [List.take_succ_eq_append_getElem (by simpa using h)]; rfl
theorem ofBe_take_lt (l : List UInt8) (k : Nat) (hk : k ≤ 7) : ofBe (l.take k) < 72057594037927936 := by
  have h1 := ofBe_lt (l.take k)
  have h2 : (l.take k).length ≤ 7 := by rw [List.length_take]; omega
  have h3 : 256 ^ (l.take k).length ≤ 256 ^ 7 := Nat.pow_le_pow_right (by omega) h2
  have h4 : 256 ^ 7 = 72057594037927936 := by decide
  omega
theorem ofBe_take_lt6 (l : List UInt8) (k : Nat) (hk : k ≤ 6) : ofBe (l.take k) < 281474976710656 := by
  have h1 := ofBe_lt (l.take k)
  have h2 : (l.take k).length ≤ 6 := by rw [List.length_take]; omega
  have h3 : 256 ^ (l.take k).length ≤ 256 ^ 6 := Nat.pow_le_pow_right (by omega) h2
  have h4 : 256 ^ 6 = 281474976710656 := by decide
  omega

theorem ret_NB {a b : Nat} {x : Bool} (h : a = b) : Ending.returned (.tuple #[.int .i64 (a : Int), .bool x]) = .returned (.tuple #[.int .i64 (b : Int), .bool x]) := by rw [h]

def decF (s : ByteArray) (w : Int) : Nat × Bool := if 1 ≤ w ∧ w ≤ 7 ∧ w ≤ s.size then (ofBe (s.data.toList.take w.toNat), true) else (0, false)
theorem decF_no {s : ByteArray} {w : Int} (h : w < 1 ∨ 7 < w ∨ s.size < w) : decF s w = (0, false) := by unfold decF; rw [if_neg]; omega
theorem decF_yes {s : ByteArray} {W : Nat} (h1 : 1 ≤ W) (h2 : W ≤ 7) (h : W ≤ s.size) : decF s (W : Int) = (ofBe (s.data.toList.take W), true) := by
  unfold decF
  rw [if_pos ⟨by omega, by omega, by omega⟩]
  simp


set_option maxHeartbeats 400000 in
theorem iDecF_in (s : ByteArray) (W : Nat) (w : World) (h : 1 ≤ W) (h2 : W ≤ 7) (h3 : W ≤ s.size) :
    Calls Tryd.prog 13 #[.string s, .int .i64 W] w fun e w' => e = .returned (.tuple #[.int .i64 (ofBe (s.data.toList.take W) : Nat), .bool true]) ∧ w = w' := by
  go_enter Tryd.func13, Tryd.ntmps13
  go_wp2
  go_loop [6, 18] (fun n i => ∃ k m : Nat, k ≤ W ∧ i = .int .i64 k ∧ n = .int .i64 m ∧ Hid (m = ofBe (s.data.toList.take k))) (fun _ i => W - (intOf i).toNat)
  case atStart => exact ⟨0, 0, Nat.zero_le _, rfl, rfl, by simp [Hid, ofBe]⟩
  case round =>
    obtain ⟨k, m, hk, rfl, rfl, hm⟩ := hrel
    by_cases hlt : k < W
    · have hb := ofBe_take_lt6 s.data.toList k (by omega)
      rw [← hm.out] at hb
      have HS := Lib.hid (take_snoc s k (by omega))
      have hks : k < s.size := by omega
      have hbt := s[k].toNat_lt
      have hbits := Lib.hid (i64_join 8 m s[k].toNat (by omega) (by omega) (by omega))
      go_wp2
      go_round
      case rel => exact ⟨k + 1, m * 256 + s[k].toNat, by omega, by go_num, congrArg (Value.int .i64) hbits.out, by rw [HS.out, ofBe_snoc, ← hm.out]; rfl⟩
      case measure => simp [intOf]; omega
    · go_wp2
      go_ret2
      obtain rfl : k = W := by omega
      exact ⟨ret_NB hm.out, rfl⟩

theorem iDecF_any (s : ByteArray) (v : Int) (w : World) :
    Calls Tryd.prog 13 #[.string s, .int .i64 v] w fun e w' => e = .returned (.tuple #[.int .i64 ((decF s v).1 : Nat), .bool (decF s v).2]) ∧ w = w' := by
  by_cases h1 : 1 ≤ v
  · by_cases h2 : v ≤ 7
    · by_cases h3 : v ≤ s.size
      · obtain ⟨W, rfl⟩ := Int.eq_ofNat_of_zero_le (by omega : 0 ≤ v)
        rw [decF_yes (by omega) (by omega) (by omega)]
        exact iDecF_in s W w (by omega) (by omega) (by omega)
      · rw [decF_no (by omega)]
        go_enter Tryd.func13, Tryd.ntmps13
        go_wp2
        go_ret2
        exact ⟨rfl, rfl⟩
    · rw [decF_no (by omega)]
      go_enter Tryd.func13, Tryd.ntmps13
      go_wp2
      go_ret2
      exact ⟨rfl, rfl⟩
  · rw [decF_no (by omega)]
    go_enter Tryd.func13, Tryd.ntmps13
    go_wp2
    go_ret2
    exact ⟨rfl, rfl⟩

end Go.Proofs.YtljlkhlnjjchgaaDoor
