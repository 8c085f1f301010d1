/-
  The mask of a region: in the model and in the program: what each call gives.
-/
import Derived.Test.YtailmmamgnebhaaSr1
import Derived.Test.YtailmmamgnebhaaPm1
namespace Go.Proofs.Ytailmmamgnebhaa
open Go.RowKit

theorem i64_or_top (k a b : Nat) (ha : a < 2 ^ k) (ha2 : a < 9223372036854775808) (hb : b * 2 ^ k < 9223372036854775808) : bits .or .i64 (a : Int) ((b * 2 ^ k : Nat) : Int) = ((a + b * 2 ^ k : Nat) : Int) := by
  rw [i64_or_nat _ _ ha2 hb]
  congr 1
  rw [Nat.or_comm, Nat.add_comm, Nat.mul_comm]
  exact (Nat.two_pow_add_eq_or_of_lt ha b).symm
/-- A row of a region at its place of the mask. -/
theorem Rg.row_lt {W H : Nat} {l : List Int} (h : Rg W H l) {y : Nat} (hy : y < H) : rN l y * 2 ^ (y * W) < 68719476736 ∧ y * W ≤ 36 := by
  have h1 := h.mk_lt (y + 1) (by omega)
  have h2 := pow36 h.w6 h.h6 (show y + 1 ≤ H by omega)
  rw [mkTo] at h1
  have h3 : y * W ≤ 6 * 6 := Nat.mul_le_mul (by have := h.h6; omega) h.w6
  omega



set_option maxHeartbeats 1000000 in
theorem iBitOf (x y N b : Nat) (w : World) (h : y * N + x = b) (hb : b ≤ 50) (hx : x ≤ 8) (hy : y ≤ 8) (hN : N ≤ 6) :
    Calls Try.prog 16 #[.agg #[.int .i64 x, .int .i64 y], .int .i64 N] w fun e w' => e = .returned (.int .i64 (2 ^ b : Nat)) ∧ Below w.heap.size w w' := by
  have h1 : (2 : Nat) ^ b ≤ 2 ^ 50 := Nat.pow_le_pow_right (by omega) hb
  obtain ⟨m, hm, e⟩ := pw_nat b
  rw [hm] at h1
  obtain ⟨s, hs⟩ : ∃ s : Nat, y * N = s := ⟨_, rfl⟩
  have hmul : (y : Int) * (N : Int) = (s : Int) := by rw [← hs]; simp
  rw [hs] at h
  have hadd : (s : Int) + (x : Int) = (b : Int) := by omega
  rw [hm]
  clear hm hs
  go_enter Try.func16, Try.ntmps16
  go_wp2
  go_ret
  exact ⟨rfl, (Below.refl _ _).alloc (Nat.le_refl _) _⟩

end Go.Proofs.Ytailmmamgnebhaa
