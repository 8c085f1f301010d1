/-
  The cells beside one, in the program: what the call gives.
-/
import Derived.Test.YtcfioncnpfoccaaGreatDoorPen
import Derived.Test.YtcfioncnpfoccaaGreatDoorIan
namespace Go.Proofs.YtcfioncnpfoccaaGreatDoor
open Go.RowKit

/-- The four cells beside one, as the program's array. -/
def nbv (c : Cl) : Value := .agg #[.int .i64 (nbC c 0).1, .int .i64 (nbC c 0).2, .int .i64 (nbC c 1).1, .int .i64 (nbC c 1).2, .int .i64 (nbC c 2).1, .int .i64 (nbC c 2).2, .int .i64 (nbC c 3).1, .int .i64 (nbC c 3).2]
theorem nb_index (p0 q0 p1 q1 p2 q2 p3 q3 : Int) (w : World) :
    (Instr.index 96 (.agg #[.int .i64 p0, .int .i64 q0, .int .i64 p1, .int .i64 q1, .int .i64 p2, .int .i64 q2, .int .i64 p3, .int .i64 q3]) (.int .i64 ((0 : Nat) : Int))).run Tryz.prog w = .ok (.agg #[.int .i64 p0, .int .i64 q0]) w ∧
    (Instr.index 96 (.agg #[.int .i64 p0, .int .i64 q0, .int .i64 p1, .int .i64 q1, .int .i64 p2, .int .i64 q2, .int .i64 p3, .int .i64 q3]) (.int .i64 ((1 : Nat) : Int))).run Tryz.prog w = .ok (.agg #[.int .i64 p1, .int .i64 q1]) w ∧
    (Instr.index 96 (.agg #[.int .i64 p0, .int .i64 q0, .int .i64 p1, .int .i64 q1, .int .i64 p2, .int .i64 q2, .int .i64 p3, .int .i64 q3]) (.int .i64 ((2 : Nat) : Int))).run Tryz.prog w = .ok (.agg #[.int .i64 p2, .int .i64 q2]) w ∧
    (Instr.index 96 (.agg #[.int .i64 p0, .int .i64 q0, .int .i64 p1, .int .i64 q1, .int .i64 p2, .int .i64 q2, .int .i64 p3, .int .i64 q3]) (.int .i64 ((3 : Nat) : Int))).run Tryz.prog w = .ok (.agg #[.int .i64 p3, .int .i64 q3]) w :=
  ⟨by kernel_rfl, by kernel_rfl, by kernel_rfl, by kernel_rfl⟩
theorem nbv_index (c : Cl) (k : Nat) (hk : k < 4) (w : World) : (Instr.index 96 (nbv c) (.int .i64 (k : Int))).run Tryz.prog w = .ok (.agg #[.int .i64 (nbC c k).1, .int .i64 (nbC c k).2]) w := by
  have h := nb_index (nbC c 0).1 (nbC c 0).2 (nbC c 1).1 (nbC c 1).2 (nbC c 2).1 (nbC c 2).2 (nbC c 3).1 (nbC c 3).2 w
  have : k = 0 ∨ k = 1 ∨ k = 2 ∨ k = 3 := by omega
  rcases this with rfl | rfl | rfl | rfl
  · exact h.1
  · exact h.2.1
  · exact h.2.2.1
  · exact h.2.2.2

theorem row_new (w : World) (t : TypeId) (c : Array Value) (j : Nat) : (w.alloc (.cells c t)).cell? ⟨w.heap.size, j, none⟩ = c[j]? := cell_of_row _ w.heap.size j c t (0, 0) (heap_alloc_new _ _)

set_option maxHeartbeats 1000000 in
set_option maxRecDepth 100000 in
theorem iBeside (x y : Int) (w : World) (hx : -1000 ≤ x ∧ x ≤ 1000) (hy : -1000 ≤ y ∧ y ≤ 1000) :
    Calls Tryz.prog 75 #[.agg #[.int .i64 x, .int .i64 y]] w fun e w' => e = .returned (nbv (x, y)) ∧ Below w.heap.size w w' := by
  have e0 := nb0 x y
  have e1 := nb1 x y
  have e2 := nb2 x y
  have e3 := nb3 x y
  have HV : Hid (nbv (x, y) = .agg #[.int .i64 (x + 1), .int .i64 y, .int .i64 x, .int .i64 (y + 1), .int .i64 (x - 1), .int .i64 y, .int .i64 x, .int .i64 (y - 1)]) := by
    unfold nbv
    rw [e0, e1, e2, e3]
    exact rfl
  have w1 : IntKind.i64.wrap (x + 1) = x + 1 := IntWalk.i64_in _ (by omega)
  have w2 : IntKind.i64.wrap (x - 1) = x - 1 := IntWalk.i64_in _ (by omega)
  have w3 : IntKind.i64.wrap (y + 1) = y + 1 := IntWalk.i64_in _ (by omega)
  have w4 : IntKind.i64.wrap (y - 1) = y - 1 := IntWalk.i64_in _ (by omega)
  rw [HV.out]
  clear e0 e1 e2 e3
  have HB := Lib.hid (((Below.refl w.heap.size w).alloc (Nat.le_refl _) (.cells #[.int .i64 x, .int .i64 y] 79)).alloc (by simp) (.cells #[.int .i64 (x + 1), .int .i64 y, .int .i64 x, .int .i64 (y + 1), .int .i64 (x - 1), .int .i64 y, .int .i64 x, .int .i64 (y - 1)] 96))
  have HE := Lib.hid (row_new (w.alloc (.cells #[.int .i64 x, .int .i64 y] 79)) 96 #[.int .i64 (x + 1), .int .i64 y, .int .i64 x, .int .i64 (y + 1), .int .i64 (x - 1), .int .i64 y, .int .i64 x, .int .i64 (y - 1)])
  go_enter Tryz.func75, Tryz.ntmps75
  go_wp2
  have E := HE.out
  simp only [World.size_alloc] at E
  refine bodyPost_ret (v := .agg #[.int .i64 (x + 1), .int .i64 y, .int .i64 x, .int .i64 (y + 1), .int .i64 (x - 1), .int .i64 y, .int .i64 x, .int .i64 (y - 1)]) ?_ rfl ⟨rfl, HB.out⟩
  simp [results, Tryz.results75, go_sem, E]

end Go.Proofs.YtcfioncnpfoccaaGreatDoor
