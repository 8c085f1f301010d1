/-
  The varint decoder of the model: what each call gives.
-/
import Derived.Test.YtljlkhlnjjchgaaDoorDvw
import Derived.Deep.RegionWith
namespace Go.Proofs.YtljlkhlnjjchgaaDoor
open Go.RowKit

theorem bs_length (s : ByteArray) : (bs s).length = s.size := by simp
theorem ext_toList (s : ByteArray) (k : Nat) : (s.extract 0 k).toList = (bs s).take k := by
  rw [ByteArray.toList_eq]
  simp
theorem of_beq_true {a b : List UInt8} (h : (a == b) = true) : a = b := eq_of_beq h
theorem drop_all (s : ByteArray) (k : Nat) (h : 1 ≤ k) : Hid (0 = val (((bs s).take k).drop ((k : Int) - 1 + 1).toNat)) := by
  have e : ((k : Int) - 1 + 1).toNat = k := by omega
  rw [e, List.drop_of_length_le (by rw [List.length_take]; omega)]
  rfl
theorem val_drop_step (s : ByteArray) (k j : Nat) (h : j < k) (hk : k ≤ s.size) : val (((bs s).take k).drop j) = val (((bs s).take k).drop ((j : Int) + 1).toNat) * 128 + (s[j]'(by omega)).toNat % 128 := by
  have e : ((j : Int) + 1).toNat = j + 1 := by omega
  have hl : j < ((bs s).take k).length := by rw [List.length_take]; simp; omega
  rw [e, List.drop_eq_getElem_cons hl, val]
  have : ((bs s).take k)[j] = s[j]'(by omega) := by simp; rfl
  rw [this]
  omega
theorem val_drop_lt (s : ByteArray) (k j : Nat) (h : k ≤ 7) : val (((bs s).take k).drop j) < 562949953421312 := by
  have h1 := val_lt (((bs s).take k).drop j)
  have h2 : (((bs s).take k).drop j).length ≤ 7 := by rw [List.length_drop, List.length_take]; omega
  have h3 : 128 ^ (((bs s).take k).drop j).length ≤ 128 ^ 7 := Nat.pow_le_pow_right (by omega) h2
  have h4 : 128 ^ 7 = 562949953421312 := by decide
  omega


end Go.Proofs.YtljlkhlnjjchgaaDoor
