/-
  The hexadecimal decoder of the model: what each call gives, said by one plain function on bytes.
-/
import Derived.Test.YtljlkhlnjjchgaaDoorHxi
namespace Go.Proofs.YtljlkhlnjjchgaaDoor
open Go.RowKit

/-- The value of a hexadecimal digit; -1 of another byte. -/
def fh (b : UInt8) : Int := if 48 ≤ b.toNat ∧ b.toNat ≤ 57 then b.toNat - 48 else if 97 ≤ b.toNat ∧ b.toNat ≤ 102 then b.toNat - 87 else -1
theorem fh_range (b : UInt8) : -1 ≤ fh b ∧ fh b ≤ 15 := by unfold fh; split <;> (try split) <;> omega
theorem fh_hexd : ∀ k, k < 16 → fh (hexd k) = k := by decide +kernel
theorem fh_none_nat : ∀ n, n < 256 → (∀ j, j < 16 → hexd j ≠ UInt8.ofNat n) → fh (UInt8.ofNat n) = -1 := by decide +kernel
theorem fh_none (b : UInt8) (h : ∀ j, j < 16 → hexd j ≠ b) : fh b = -1 := by
  have := fh_none_nat b.toNat b.toNat_lt
  rw [UInt8.ofNat_toNat] at this
  exact this h

theorem ret_I {a b : Int} (h : a = b) : Ending.returned (.int .i64 a) = .returned (.int .i64 b) := by rw [h]


/-- Are all bytes hexadecimal digits, an even number of them? -/
def hexOk (l : List UInt8) : Bool := l.length % 2 == 0 && l.all fun b => decide (0 ≤ fh b)
def dh (l : List UInt8) (k : Nat) : List UInt8 := (List.range k).map fun j => UInt8.ofNat (16 * fh (l.getD (2 * j) 0) + fh (l.getD (2 * j + 1) 0)).toNat
def dhR (l : List UInt8) : List UInt8 := if hexOk l then dh l (l.length / 2) else []
theorem dh_succ (l : List UInt8) (k : Nat) : dh l (k + 1) = dh l k ++ [UInt8.ofNat (16 * fh (l.getD (2 * k) 0) + fh (l.getD (2 * k + 1) 0)).toNat] := by
  simp [dh, List.range_succ]
theorem hexOk_odd {l : List UInt8} (h : l.length % 2 ≠ 0) : hexOk l = false := by simp [hexOk, h]
theorem hexOk_bad {l : List UInt8} (j : Nat) (hj : j < l.length) (h : fh l[j] < 0) : hexOk l = false := by
  unfold hexOk
  rw [Bool.and_eq_false_iff]
  right
  rw [List.all_eq_false]
  exact ⟨l[j], List.getElem_mem hj, by simp; omega⟩
theorem hexOk_good {l : List UInt8} (h : l.length % 2 = 0) (hall : ∀ j (hj : j < l.length), 0 ≤ fh l[j]) : hexOk l = true := by
  unfold hexOk
  rw [Bool.and_eq_true]
  refine ⟨by simp [h], List.all_eq_true.2 fun b hb => ?_⟩
  obtain ⟨j, hj, rfl⟩ := List.mem_iff_getElem.1 hb
  simpa using hall j hj
theorem dhR_no {l : List UInt8} (h : hexOk l = false) : dhR l = [] := by simp [dhR, h]
theorem dhR_yes {l : List UInt8} (h : hexOk l = true) : dhR l = dh l (l.length / 2) := by simp [dhR, h]
theorem bs_get (s : ByteArray) (k : Nat) (h : k < s.size) : (bs s).getD k 0 = s[k] := by
  rw [List.getD_eq_getElem?_getD, List.getElem?_eq_getElem (by simpa using h)]
  rfl
theorem ret_SB {a b : List UInt8} {x y : Bool} (h : a = b) (h' : x = y) : Ending.returned (.tuple #[.string ⟨a.toArray⟩, .bool x]) = .returned (.tuple #[.string ⟨b.toArray⟩, .bool y]) := by rw [h, h']

theorem B_pair (x y : Int) (h1 : 0 ≤ x) (h2 : x ≤ 15) (h3 : 0 ≤ y) (h4 : y ≤ 15) : Value.int .u8 (16 * x + y) = B (UInt8.ofNat (16 * x + y).toNat) := by
  unfold B
  congr 1
  simp
  omega


end Go.Proofs.YtljlkhlnjjchgaaDoor
