/-
  The package's table of names, out of the row's condition on the listed variables: its cells.
-/
import Derived.Test.YtecfabhpjihcbaaGreatDoorPpn
import Derived.Test.YtecfabhpjihcbaaGreatDoorRows
import Derived.LaidMore
import Derived.MakeChecks
import Derived.Stop.LaidErr
import Derived.ChangeArms
import Derived.ChangeSame
import Derived.OpenShut
namespace Go.Proofs.YtecfabhpjihcbaaGreatDoor
open Go.RowKit

def pcD (p : List UInt8 × List UInt8) : DataW Unit := .agg [.lit (.string p.1), .lit (.string p.2)]
theorem pc_datum : (Rows.laid_loop_example_g03400_impl_namedPieces : DataW Unit) = .agg (pcL.map pcD) := by kernel_rfl
theorem pc_glob : Tryz.prog.globalNamed "loop.example/g03400/impl.namedPieces" = some 0 := by kernel_rfl
theorem pc_type : (Tryz.prog.globals[0]?).map (·.type) = some 39 := by kernel_rfl
theorem pc_c1 : Tryz.prog.cellsOf 9 = 1 := by kernel_rfl
theorem pc_c2 : Tryz.prog.cellsOf 38 = 2 := by kernel_rfl
theorem one_of {l : List Value} {i : Nat} {v : Value} (h : (l.drop i).take 1 = [v]) : l[i]? = some v := by
  have h0 : ((l.drop i).take 1)[0]? = some v := by rw [h]; rfl
  simpa using h0

theorem tab_of_laid {W : World} (h : laidMetH Tryz.prog Rows.fnExactNameOfPieceRow.laid W) : Nmd W := by
  rw [MakeChecks.laidMetH_plain _ _ _ (by kernel_rfl)] at h
  have h2 := laidMet.tail h
  obtain ⟨ps, ⟨g, t, cs, fuel, p, q, hg, ht, hv, hd, _, _⟩, _⟩ := h2
  obtain rfl := Option.some.inj (pc_glob.symm.trans hg)
  obtain rfl := Option.some.inj (pc_type.symm.trans ht)
  rw [pc_datum] at hd
  obtain ⟨xs, m, _, ex, _, hl, hel⟩ := DataW.trod_array Tryz.underlying39 hd
  have e3 : xs.map (·.1) = pcL.map pcD := (DataW.agg.inj (Prod.mk.inj ex).1).symm
  have hlen : pcL.length = 12 := rfl
  have key : ∀ k, k < 12 → cs.toList[k * 2]? = some (.string (nmB k)) ∧ cs.toList[k * 2 + 1]? = some (.string (txB k)) := by
    intro k hk
    have hE := hel k hk
    rw [pc_c2, List.getElem?_eq_getElem (by omega : k < xs.length)] at hE
    have e4 : (xs.map (·.1))[k]? = (pcL.map pcD)[k]? := by rw [e3]
    rw [List.getElem?_map, List.getElem?_map, List.getElem?_eq_getElem (by omega : k < xs.length), List.getElem?_eq_getElem (by omega : k < pcL.length)] at e4
    simp only [Option.map_some, Option.some.injEq] at e4
    obtain ⟨y0, y1, n, hx, _, t0, t1⟩ := Go.ChangeShapes.trod_struct2 Tryz.underlying38 hE
    rw [hx] at e4
    obtain ⟨s0, c0, rfl, _⟩ := DataW.trod_string Tryz.underlying9 t0
    obtain ⟨s1, c1, rfl, _⟩ := DataW.trod_string Tryz.underlying9 t1
    rw [pc_c1] at c0 c1
    simp only [pcD, DataW.agg.injEq, List.cons.injEq, DataW.lit.injEq, Lit.string.injEq, and_true] at e4
    have gk : pcL.getD k ([], []) = pcL[k] := by rw [List.getD, List.getElem?_eq_getElem (by omega : k < pcL.length)]; rfl
    have n0 : s0 = nmB k := by
      unfold nmB
      rw [gk]
      exact Go.WideShapes.bytes_inj e4.1
    have n1 : s1 = txB k := by
      unfold txB
      rw [gk]
      exact Go.WideShapes.bytes_inj e4.2
    subst n0 n1
    have d0 := one_of c0
    have d1 := one_of c1
    rw [List.getElem?_take_of_lt (by decide), List.getElem?_drop] at d0 d1
    exact ⟨d0, d1⟩
  intro k hk
  have hc := World.var?_cell pc_glob hv
  constructor
  · rw [hc (k * 2)]
    simpa using (key k hk).1
  · rw [hc (k * 2 + 1)]
    simpa using (key k hk).2

end Go.Proofs.YtecfabhpjihcbaaGreatDoor
