/-
  Cells compared as structs: what the comparison gives.
-/
import Derived.Test.YtailmmamgnebhaaCmk
import Derived.Laws.StructEq
namespace Go.Proofs.Ytailmmamgnebhaa
open Go.RowKit

theorem cell_guard : Try.prog.eqGuardType Try.prog.depth 45 = false := by kernel_rfl
theorem cell_held : Try.prog.stoodInHeld 45 = false := by kernel_rfl
theorem cell_struct : Try.prog.underlying 45 = some (.struct (Try.prog.fieldsOf 45)) := by kernel_rfl
theorem cell_fields : (Try.prog.fieldsOf 45).toList.map (fun f => (f.name, f.type, f.offset)) = [("X", 3, 0), ("Y", 3, 1)] := by kernel_rfl
theorem int_plain : (Try.prog.underlying 3) = some (.int .i64) := Try.underlying3
def sameC (a b : Cl) : Bool := decide (a = b)
theorem sameC_eq (x y u v : Int) : sameC (x, y) (u, v) = ((x == u) && (y == v)) := by
  unfold sameC
  rw [Bool.eq_iff_iff]
  simp
theorem part_int (cs : Array Value) (off : Nat) (v : Value) (h : cs[off]? = some v) (w : World) : (part 3 cs off).run Try.prog w = .ok v w := by
  unfold part
  simp [go_sem, h]

theorem part_0 (a b : Value) (w : World) : (part 3 #[a, b] 0).run Try.prog w = .ok a w := part_int _ _ _ rfl w
theorem part_1 (a b : Value) (w : World) : (part 3 #[a, b] 1).run Try.prog w = .ok b w := part_int _ _ _ rfl w
theorem cell_eq (x y u v : Int) (w : World) : (Op.equalIn 10000 45 (.agg #[.int .i64 x, .int .i64 y]) (.agg #[.int .i64 u, .int .i64 v])).run Try.prog w = .ok (sameC (x, y) (u, v)) w := by
  rw [run_equalIn_struct w 9999 45 _ _ cell_struct cell_held, sameC_eq]
  have h := cell_fields
  generalize (Try.prog.fieldsOf 45).toList = fs at h
  match fs, h with
  | [], h => simp at h
  | [_], h => simp at h
  | _ :: _ :: _ :: _, h => simp at h
  | [f, g], h =>
    simp only [List.map_cons, List.map_nil, List.cons.injEq, Prod.mk.injEq, and_true] at h
    obtain ⟨⟨h1, h2, h3⟩, h4, h5, h6⟩ := h
    simp only [Op.eqFields, h1, h2, h3, h4, h5, h6]
    have n1 : ("X" ≠ "_") = True := eq_true (by decide)
    have n2 : ("Y" ≠ "_") = True := eq_true (by decide)
    simp only [n1, n2, if_true, Sem.run_bind, part_0, Result.andThen_ok]
    by_cases hx : x = u <;> by_cases hy : y = v <;> simp [hx, hy, Sem.run_bind, part_1, run_equalIn_int w 9998 3 .i64 .i64 _ _ int_plain]

theorem eql_cell (x y u v : Int) (w : World) : (binOp .eql 45 (.agg #[.int .i64 x, .int .i64 y]) (.agg #[.int .i64 u, .int .i64 v])).run Try.prog w = .ok (.bool (sameC (x, y) (u, v))) w := by
  rw [run_eql_struct, cell_eq]; rfl
theorem neq_cell (x y u v : Int) (w : World) : (binOp .neq 45 (.agg #[.int .i64 x, .int .i64 y]) (.agg #[.int .i64 u, .int .i64 v])).run Try.prog w = .ok (.bool (!sameC (x, y) (u, v))) w := by
  rw [run_neq_struct, cell_eq]; rfl

end Go.Proofs.Ytailmmamgnebhaa
