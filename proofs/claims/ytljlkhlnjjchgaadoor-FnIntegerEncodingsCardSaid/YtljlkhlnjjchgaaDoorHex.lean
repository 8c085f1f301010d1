/-
  The hexadecimal encoders of the program and of its model: what each call gives, said by one plain function on bytes.
-/
import Derived.Test.YtljlkhlnjjchgaaDoorDvs
import Derived.Deep.RegionHeld3
import Derived.Deep.AppendLies
import Derived.Deep.DrawnRows
namespace Go.Proofs.YtljlkhlnjjchgaaDoor
open Go.RowKit

def digits : ByteArray := ⟨#[48, 49, 50, 51, 52, 53, 54, 55, 56, 57, 97, 98, 99, 100, 101, 102]⟩
/-- The digit of n, n below 16. -/
def hexd (n : Nat) : UInt8 := digits.data.getD n 0
def encH : List UInt8 → List UInt8
  | [] => []
  | b :: r => hexd (b.toNat / 16) :: hexd (b.toNat % 16) :: encH r
theorem encH_append (a b : List UInt8) : encH (a ++ b) = encH a ++ encH b := by
  induction a with
  | nil => rfl
  | cons c r ih => simp [encH, ih]
theorem encH_length : ∀ l : List UInt8, (encH l).length = 2 * l.length
  | [] => rfl
  | b :: r => by simp only [encH, List.length_cons, encH_length r]; omega

theorem hexd_at (n : Nat) (h : n < digits.size) : digits[n] = hexd n := by
  unfold hexd
  rw [Array.getD_eq_getD_getElem?, Array.getElem?_eq_getElem (by exact h)]
  rfl


theorem encH_step (s : ByteArray) (k : Nat) (h : k < s.size) : (encH ((bs s).take k)).map B ++ [.int .u8 ((hexd ((s[k].toNat : Int) / 16).toNat).toNat : Int), .int .u8 ((hexd ((s[k].toNat : Int) % 16).toNat).toNat : Int)] = (encH ((bs s).take (k + 1))).map B := by
  have e1 : ((s[k].toNat : Int) / 16).toNat = s[k].toNat / 16 := by omega
  have e2 : ((s[k].toNat : Int) % 16).toNat = s[k].toNat % 16 := by omega
  rw [e1, e2, take_snoc s k h, encH_append]
  simp only [encH, List.map_append, List.map_cons, List.map_nil]
  rfl
theorem dq (b : UInt8) : 0 ≤ (b.toNat : Int) / 16 ∧ (b.toNat : Int) / 16 < 16 := by have := b.toNat_lt; omega
theorem dr (b : UInt8) : 0 ≤ (b.toNat : Int) % 16 ∧ (b.toNat : Int) % 16 < 16 := by have := b.toNat_lt; omega
theorem dw (b : UInt8) : IntKind.i64.wrap (b.toNat : Int) = (b.toNat : Int) := IntWalk.i64_in _ (by have := b.toNat_lt; omega)
theorem dv (b : UInt8) : IntKind.i64.wrap ((b.toNat : Int) / 16) = (b.toNat : Int) / 16 := IntWalk.i64_in _ (by have := b.toNat_lt; omega)
theorem dm (b : UInt8) : (b.toNat : Int).tmod 16 = (b.toNat : Int) % 16 := IntWalk.rem_in _ _ (by omega)


end Go.Proofs.YtljlkhlnjjchgaaDoor
