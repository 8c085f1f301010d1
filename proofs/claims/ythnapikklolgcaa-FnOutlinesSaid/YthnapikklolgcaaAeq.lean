/-
  Sets of places as rows of bits, in memory; two of them compared.
-/
import Derived.Test.YthnapikklolgcaaCst
namespace Go.Proofs.Ythnapikklolgcaa
open Go.RowKit

theorem set_guard : Try.prog.eqGuardType Try.prog.depth 93 = false := by kernel_rfl
theorem set_array : Try.prog.underlying 93 = some (.array 8 3) := by kernel_rfl
theorem int_size : ∀ w, (Go.sizeOf 3).run Try.prog w = .ok 1 w := Try.sizeOf3
/-- A set of places as a value: rows 0 to 7. -/
def setV (R : Nat → Nat) : Value := .agg #[.int .i64 (R 0), .int .i64 (R 1), .int .i64 (R 2), .int .i64 (R 3), .int .i64 (R 4), .int .i64 (R 5), .int .i64 (R 6), .int .i64 (R 7)]
def sameR (R T : Nat → Nat) : Bool := R 0 == T 0 && (R 1 == T 1 && (R 2 == T 2 && (R 3 == T 3 && (R 4 == T 4 && (R 5 == T 5 && (R 6 == T 6 && R 7 == T 7))))))
theorem sameR_iff (R T : Nat → Nat) : sameR R T = true ↔ ∀ y, y < 8 → R y = T y := by
  unfold sameR
  simp only [Bool.and_eq_true, beq_iff_eq]
  constructor
  · rintro ⟨h0, h1, h2, h3, h4, h5, h6, h7⟩ y hy
    match y, hy with
    | 0, _ => exact h0
    | 1, _ => exact h1
    | 2, _ => exact h2
    | 3, _ => exact h3
    | 4, _ => exact h4
    | 5, _ => exact h5
    | 6, _ => exact h6
    | 7, _ => exact h7
  · intro h
    exact ⟨h 0 (by omega), h 1 (by omega), h 2 (by omega), h 3 (by omega), h 4 (by omega), h 5 (by omega), h 6 (by omega), h 7 (by omega)⟩

theorem eq_nat (a b : Nat) (w : World) : (Op.equalIn 9999 3 (.int .i64 a) (.int .i64 b)).run Try.prog w = .ok (a == b) w := by
  rw [run_equalIn_int w 9998 3 .i64 .i64 _ _ int_plain]
  have e : ((a : Int) == (b : Int)) = (a == b) := by
    rw [Bool.eq_iff_iff, beq_iff_eq, beq_iff_eq]
    omega
  rw [e]

set_option maxHeartbeats 1000000 in
theorem set_eq (a0 a1 a2 a3 a4 a5 a6 a7 b0 b1 b2 b3 b4 b5 b6 b7 : Nat) (w : World) : (Op.equalIn 10000 93 (.agg #[.int .i64 a0, .int .i64 a1, .int .i64 a2, .int .i64 a3, .int .i64 a4, .int .i64 a5, .int .i64 a6, .int .i64 a7]) (.agg #[.int .i64 b0, .int .i64 b1, .int .i64 b2, .int .i64 b3, .int .i64 b4, .int .i64 b5, .int .i64 b6, .int .i64 b7])).run Try.prog w
    = .ok (a0 == b0 && (a1 == b1 && (a2 == b2 && (a3 == b3 && (a4 == b4 && (a5 == b5 && (a6 == b6 && a7 == b7))))))) w := by
  rw [show (10000 : Nat) = 9999 + 1 from rfl, Op.equalIn]
  simp only [Sem.run_bind, run_underlying set_array, Result.andThen_ok, int_size, Std.Legacy.Range.forIn_eq_forIn_range']
  have hr : List.range' 0 ([:8] : Std.Legacy.Range).size = [0, 1, 2, 3, 4, 5, 6, 7] := rfl
  have pa0 : (part 3 #[.int .i64 a0, .int .i64 a1, .int .i64 a2, .int .i64 a3, .int .i64 a4, .int .i64 a5, .int .i64 a6, .int .i64 a7] 0).run Try.prog w = .ok (.int .i64 a0) w := part_int _ _ _ rfl w
  have pb0 : (part 3 #[.int .i64 b0, .int .i64 b1, .int .i64 b2, .int .i64 b3, .int .i64 b4, .int .i64 b5, .int .i64 b6, .int .i64 b7] 0).run Try.prog w = .ok (.int .i64 b0) w := part_int _ _ _ rfl w
  have pa1 : (part 3 #[.int .i64 a0, .int .i64 a1, .int .i64 a2, .int .i64 a3, .int .i64 a4, .int .i64 a5, .int .i64 a6, .int .i64 a7] 1).run Try.prog w = .ok (.int .i64 a1) w := part_int _ _ _ rfl w
  have pb1 : (part 3 #[.int .i64 b0, .int .i64 b1, .int .i64 b2, .int .i64 b3, .int .i64 b4, .int .i64 b5, .int .i64 b6, .int .i64 b7] 1).run Try.prog w = .ok (.int .i64 b1) w := part_int _ _ _ rfl w
  have pa2 : (part 3 #[.int .i64 a0, .int .i64 a1, .int .i64 a2, .int .i64 a3, .int .i64 a4, .int .i64 a5, .int .i64 a6, .int .i64 a7] 2).run Try.prog w = .ok (.int .i64 a2) w := part_int _ _ _ rfl w
  have pb2 : (part 3 #[.int .i64 b0, .int .i64 b1, .int .i64 b2, .int .i64 b3, .int .i64 b4, .int .i64 b5, .int .i64 b6, .int .i64 b7] 2).run Try.prog w = .ok (.int .i64 b2) w := part_int _ _ _ rfl w
  have pa3 : (part 3 #[.int .i64 a0, .int .i64 a1, .int .i64 a2, .int .i64 a3, .int .i64 a4, .int .i64 a5, .int .i64 a6, .int .i64 a7] 3).run Try.prog w = .ok (.int .i64 a3) w := part_int _ _ _ rfl w
  have pb3 : (part 3 #[.int .i64 b0, .int .i64 b1, .int .i64 b2, .int .i64 b3, .int .i64 b4, .int .i64 b5, .int .i64 b6, .int .i64 b7] 3).run Try.prog w = .ok (.int .i64 b3) w := part_int _ _ _ rfl w
  have pa4 : (part 3 #[.int .i64 a0, .int .i64 a1, .int .i64 a2, .int .i64 a3, .int .i64 a4, .int .i64 a5, .int .i64 a6, .int .i64 a7] 4).run Try.prog w = .ok (.int .i64 a4) w := part_int _ _ _ rfl w
  have pb4 : (part 3 #[.int .i64 b0, .int .i64 b1, .int .i64 b2, .int .i64 b3, .int .i64 b4, .int .i64 b5, .int .i64 b6, .int .i64 b7] 4).run Try.prog w = .ok (.int .i64 b4) w := part_int _ _ _ rfl w
  have pa5 : (part 3 #[.int .i64 a0, .int .i64 a1, .int .i64 a2, .int .i64 a3, .int .i64 a4, .int .i64 a5, .int .i64 a6, .int .i64 a7] 5).run Try.prog w = .ok (.int .i64 a5) w := part_int _ _ _ rfl w
  have pb5 : (part 3 #[.int .i64 b0, .int .i64 b1, .int .i64 b2, .int .i64 b3, .int .i64 b4, .int .i64 b5, .int .i64 b6, .int .i64 b7] 5).run Try.prog w = .ok (.int .i64 b5) w := part_int _ _ _ rfl w
  have pa6 : (part 3 #[.int .i64 a0, .int .i64 a1, .int .i64 a2, .int .i64 a3, .int .i64 a4, .int .i64 a5, .int .i64 a6, .int .i64 a7] 6).run Try.prog w = .ok (.int .i64 a6) w := part_int _ _ _ rfl w
  have pb6 : (part 3 #[.int .i64 b0, .int .i64 b1, .int .i64 b2, .int .i64 b3, .int .i64 b4, .int .i64 b5, .int .i64 b6, .int .i64 b7] 6).run Try.prog w = .ok (.int .i64 b6) w := part_int _ _ _ rfl w
  have pa7 : (part 3 #[.int .i64 a0, .int .i64 a1, .int .i64 a2, .int .i64 a3, .int .i64 a4, .int .i64 a5, .int .i64 a6, .int .i64 a7] 7).run Try.prog w = .ok (.int .i64 a7) w := part_int _ _ _ rfl w
  have pb7 : (part 3 #[.int .i64 b0, .int .i64 b1, .int .i64 b2, .int .i64 b3, .int .i64 b4, .int .i64 b5, .int .i64 b6, .int .i64 b7] 7).run Try.prog w = .ok (.int .i64 b7) w := part_int _ _ _ rfl w
  simp only [hr, List.forIn_cons, List.forIn_nil, Nat.mul_one, Sem.run_bind, Result.andThen_ok]
  simp only [Sem.run_bind, Sem.run_pure, pa0, pb0, Result.andThen_ok, eq_nat, Bool.not_true, Bool.false_eq_true, if_false, Bool.true_and]
  cases h0 : (a0 == b0) with
  | false => simp [Sem.run_pure]
  | true =>
    skip
    simp only [Sem.run_bind, Sem.run_pure, pa1, pb1, Result.andThen_ok, eq_nat, Bool.not_true, Bool.false_eq_true, if_false, Bool.true_and]
    cases h1 : (a1 == b1) with
    | false => simp [Sem.run_pure]
    | true =>
      skip
      simp only [Sem.run_bind, Sem.run_pure, pa2, pb2, Result.andThen_ok, eq_nat, Bool.not_true, Bool.false_eq_true, if_false, Bool.true_and]
      cases h2 : (a2 == b2) with
      | false => simp [Sem.run_pure]
      | true =>
        skip
        simp only [Sem.run_bind, Sem.run_pure, pa3, pb3, Result.andThen_ok, eq_nat, Bool.not_true, Bool.false_eq_true, if_false, Bool.true_and]
        cases h3 : (a3 == b3) with
        | false => simp [Sem.run_pure]
        | true =>
          skip
          simp only [Sem.run_bind, Sem.run_pure, pa4, pb4, Result.andThen_ok, eq_nat, Bool.not_true, Bool.false_eq_true, if_false, Bool.true_and]
          cases h4 : (a4 == b4) with
          | false => simp [Sem.run_pure]
          | true =>
            skip
            simp only [Sem.run_bind, Sem.run_pure, pa5, pb5, Result.andThen_ok, eq_nat, Bool.not_true, Bool.false_eq_true, if_false, Bool.true_and]
            cases h5 : (a5 == b5) with
            | false => simp [Sem.run_pure]
            | true =>
              skip
              simp only [Sem.run_bind, Sem.run_pure, pa6, pb6, Result.andThen_ok, eq_nat, Bool.not_true, Bool.false_eq_true, if_false, Bool.true_and]
              cases h6 : (a6 == b6) with
              | false => simp [Sem.run_pure]
              | true =>
                skip
                simp only [Sem.run_bind, Sem.run_pure, pa7, pb7, Result.andThen_ok, eq_nat, Bool.not_true, Bool.false_eq_true, if_false, Bool.true_and]
                cases h7 : (a7 == b7) with
                | false => simp [Sem.run_pure]
                | true =>
                  simp [Sem.run_bind, Sem.run_pure]

theorem eql_set (R T : Nat → Nat) (w : World) : (binOp .eql 93 (setV R) (setV T)).run Try.prog w = .ok (.bool (sameR R T)) w := by
  unfold setV
  rw [run_eql_struct, set_eq]
  rfl

/-- A block of one set of places. -/
def Arr (w : World) (g : Nat) (R : Nat → Nat) : Prop := w.heap[g]? = some (.cells #[.int .i64 (R 0), .int .i64 (R 1), .int .i64 (R 2), .int .i64 (R 3), .int .i64 (R 4), .int .i64 (R 5), .int .i64 (R 6), .int .i64 (R 7)] 93 (0, 0))
theorem Arr.lt {w : World} {g : Nat} {R : Nat → Nat} (h : Arr w g R) : g < w.heap.size := (Array.getElem?_eq_some_iff.1 h).1
theorem Arr.cell {w : World} {g : Nat} {R : Nat → Nat} (h : Arr w g R) (y : Nat) (hy : y < 8) : w.cell? ⟨g, y, none⟩ = some (.int .i64 (R y)) := by
  have := cell_of_row w g y _ _ _ h
  rw [this]
  match y, hy with
  | 0, _ => rfl
  | 1, _ => rfl
  | 2, _ => rfl
  | 3, _ => rfl
  | 4, _ => rfl
  | 5, _ => rfl
  | 6, _ => rfl
  | 7, _ => rfl
theorem Arr.fr {w : World} {g : Nat} {R : Nat → Nat} (h : Arr w g R) (j : Nat) : w.frozen? ⟨g, j, none⟩ = false := by unfold Arr at h; simp [World.frozen?, h]
theorem Arr.on {w w' : World} {g B : Nat} {R : Nat → Nat} (h : Arr w g R) (hb : Below B w w') (hlt : g < B) : Arr w' g R := (hb.block g hlt).trans h
theorem Arr.alloc {w : World} {g : Nat} {R : Nat → Nat} (h : Arr w g R) (o : Obj) : Arr (w.alloc o) g R := (Below.heap_alloc w o g h.lt).trans h
theorem Arr.far {w : World} {g g' j : Nat} {R : Nat → Nat} {v : Value} (h : Arr w g R) (hne : g' ≠ g) : Arr (w.setCell ⟨g', j, none⟩ v) g R := (Below.heap_setCell w ⟨g', j, none⟩ v g (fun e => hne e.symm)).trans h
def updR (R : Nat → Nat) (y v : Nat) : Nat → Nat := fun t => if t = y then v else R t
theorem Arr.set {w : World} {g : Nat} {R : Nat → Nat} (h : Arr w g R) (y v : Nat) (hy : y < 8) : Arr (w.setCell ⟨g, y, none⟩ (.int .i64 v)) g (updR R y v) := by
  have := set_row h y (.int .i64 v)
  unfold Arr
  rw [this]
  match y, hy with
  | 0, _ => rfl
  | 1, _ => rfl
  | 2, _ => rfl
  | 3, _ => rfl
  | 4, _ => rfl
  | 5, _ => rfl
  | 6, _ => rfl
  | 7, _ => rfl
theorem new_arr {w : World} {N : Nat} (o : Obj) (h : w.heap.size = N) : (w.alloc o).heap[N]? = some o := by subst h; exact heap_alloc_new _ _
theorem Arr.congr {w : World} {g : Nat} {R T : Nat → Nat} (h : Arr w g R) (e : ∀ y, y < 8 → R y = T y) : Arr w g T := by
  unfold Arr at *
  rw [← e 0 (by omega), ← e 1 (by omega), ← e 2 (by omega), ← e 3 (by omega), ← e 4 (by omega), ← e 5 (by omega), ← e 6 (by omega), ← e 7 (by omega)]
  exact h
theorem setV_congr {R T : Nat → Nat} (e : ∀ y, y < 8 → R y = T y) : setV R = setV T := by
  unfold setV
  rw [e 0 (by omega), e 1 (by omega), e 2 (by omega), e 3 (by omega), e 4 (by omega), e 5 (by omega), e 6 (by omega), e 7 (by omega)]
/-- All eight rows written. -/
def sets8 (w : World) (g : Nat) (T : Nat → Nat) : World := (((((((w.setCell ⟨g, 0, none⟩ (.int .i64 (T 0))).setCell ⟨g, 1, none⟩ (.int .i64 (T 1))).setCell ⟨g, 2, none⟩ (.int .i64 (T 2))).setCell ⟨g, 3, none⟩ (.int .i64 (T 3))).setCell ⟨g, 4, none⟩ (.int .i64 (T 4))).setCell ⟨g, 5, none⟩ (.int .i64 (T 5))).setCell ⟨g, 6, none⟩ (.int .i64 (T 6))).setCell ⟨g, 7, none⟩ (.int .i64 (T 7))
theorem Arr.set8 {w : World} {g : Nat} {R : Nat → Nat} (h : Arr w g R) (T : Nat → Nat) : Arr (sets8 w g T) g T := by
  have h1 := (((((((h.set 0 (T 0) (by omega)).set 1 (T 1) (by omega)).set 2 (T 2) (by omega)).set 3 (T 3) (by omega)).set 4 (T 4) (by omega)).set 5 (T 5) (by omega)).set 6 (T 6) (by omega)).set 7 (T 7) (by omega)
  refine h1.congr ?_
  intro y hy
  match y, hy with
  | 0, _ => rfl
  | 1, _ => rfl
  | 2, _ => rfl
  | 3, _ => rfl
  | 4, _ => rfl
  | 5, _ => rfl
  | 6, _ => rfl
  | 7, _ => rfl
theorem below_set8 {B g : Nat} {a w : World} (hg : B ≤ g) (T : Nat → Nat) (h : Below B a w) : Below B a (sets8 w g T) :=
  (((((((h.setCell (p := ⟨g, 0, none⟩) hg _).setCell (p := ⟨g, 1, none⟩) hg _).setCell (p := ⟨g, 2, none⟩) hg _).setCell (p := ⟨g, 3, none⟩) hg _).setCell (p := ⟨g, 4, none⟩) hg _).setCell (p := ⟨g, 5, none⟩) hg _).setCell (p := ⟨g, 6, none⟩) hg _).setCell (p := ⟨g, 7, none⟩) hg _
theorem Arr.far8 {w : World} {g g' : Nat} {R T : Nat → Nat} (h : Arr w g R) (hne : g' ≠ g) : Arr (sets8 w g' T) g R := (((((((h.far hne).far hne).far hne).far hne).far hne).far hne).far hne).far hne

end Go.Proofs.Ythnapikklolgcaa
