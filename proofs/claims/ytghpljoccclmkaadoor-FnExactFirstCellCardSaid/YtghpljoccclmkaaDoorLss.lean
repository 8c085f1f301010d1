/-
  The laws' helpers that compare, mark and look at slices of shapes.
-/
import Derived.Test.YtghpljoccclmkaaDoorOwn
import Derived.Test.YtghpljoccclmkaaDoorPall
import Derived.Test.YtghpljoccclmkaaDoorMon
import Derived.Test.YtghpljoccclmkaaDoorLw3
namespace Go.Proofs.YtghpljoccclmkaaDoor
open Go.RowKit

/-- A value that reads as a list of shapes. -/
def SsRd (B : Nat) (w : World) (v : Value) (L : List (List Cl)) : Prop := ∃ a cap, v = .slice a L.length cap ∧ (0 < L.length → ∃ g vs, a = some ⟨g, 0, none⟩ ∧ SsAt B w g vs L)
theorem SsRd.on {B : Nat} {w w' : World} {v : Value} {L : List (List Cl)} (h : SsRd B w v L) (hb : Below B w w') : SsRd B w' v L := by
  obtain ⟨a, cap, e, h1⟩ := h
  exact ⟨a, cap, e, fun h0 => by obtain ⟨g, vs, e1, h2⟩ := h1 h0; exact ⟨g, vs, e1, h2.on hb⟩⟩
theorem SsRd.more {B B' : Nat} {w : World} {v : Value} {L : List (List Cl)} (h : SsRd B w v L) (hB : B ≤ B') : SsRd B' w v L := by
  obtain ⟨a, cap, e, h1⟩ := h
  exact ⟨a, cap, e, fun h0 => by obtain ⟨g, vs, e1, h2⟩ := h1 h0; exact ⟨g, vs, e1, h2.more hB⟩⟩
theorem SsRd.of_at {B g cap : Nat} {w : World} {vs : List Value} {L : List (List Cl)} (h : SsAt B w g vs L) : SsRd B w (.slice (some ⟨g, 0, none⟩) L.length cap) L := ⟨_, _, rfl, fun _ => ⟨g, vs, rfl, h⟩⟩
theorem SsRd.of_own {B : Nat} {w : World} {v : Value} {es : List Ent} (h : OwnS B w v es) (hs : SmallS es) : SsRd w.heap.size w v (es.map kE) := by
  rcases h.row.2 with ⟨rfl, h0⟩ | ⟨g, cap, cur, rfl, hb, hg, _⟩
  · have : es = [] := List.eq_nil_of_length_eq_zero h0
    subst this
    exact ⟨none, 0, rfl, fun h9 => absurd h9 (Nat.lt_irrefl 0)⟩
  · refine ⟨_, cap, by rw [List.length_map], fun _ => ⟨g, es.map ev, rfl, (Array.getElem?_eq_some_iff.1 hg).1, by simp, fun k hk => ?_, fun k v l hv hl => ?_⟩⟩
    · rw [List.length_map] at hk
      exact h.row.cellAt k (by omega)
    · rw [List.getElem?_map] at hv hl
      cases he : es[k]? with
      | none => rw [he] at hv; cases hv
      | some e =>
        rw [he] at hv hl
        cases hv
        cases hl
        have hm : e ∈ es := List.mem_of_getElem? he
        exact ⟨_, _, rfl, h.each.cells hs hm, (hs e hm).1⟩

def totE (es : List Ent) : Nat := (es.map fun e => e.2.2.length).sum
/-- Marks written into shapes, one after the other. -/
def mkE : Int → List Ent → List Ent
  | _, [] => []
  | k, e :: r => (e.1, e.2.1, marks k e.2.2.length) :: mkE (k + 2 * e.2.2.length) r
theorem totE_append (a b : List Ent) : totE (a ++ b) = totE a + totE b := by simp [totE]
theorem totE_take (es : List Ent) (k : Nat) (h : k < es.length) : totE (es.take (k + 1)) = totE (es.take k) + (es.getD k dE).2.2.length := by
  rw [takeG_snoc dE es k h, totE_append]
  simp [totE]
theorem totE_mono (es : List Ent) (k : Nat) : totE (es.take k) ≤ totE es := by
  conv => rhs; rw [← List.take_append_drop k es]
  rw [totE_append]
  omega
theorem mkE_length (es : List Ent) : ∀ k, (mkE k es).length = es.length := by
  induction es with
  | nil => intro k; rfl
  | cons e r ih => intro k; simp [mkE, ih]
theorem mkE_append (a b : List Ent) : ∀ k, mkE k (a ++ b) = mkE k a ++ mkE (k + 2 * totE a) b := by
  induction a with
  | nil => intro k; simp [mkE, totE]
  | cons e r ih =>
    intro k
    simp only [List.cons_append, mkE]
    rw [ih]
    simp only [totE, List.map_cons, List.sum_cons]
    congr 3
    omega
theorem mkE_ev (es : List Ent) : ∀ k, (mkE k es).map ev = es.map ev := by
  induction es with
  | nil => intro k; rfl
  | cons e r ih =>
    intro k
    simp only [mkE, List.map_cons, ih]
    congr 1
    unfold ev
    simp [marks_length]
theorem mkE_fst (es : List Ent) : ∀ k, (mkE k es).map Prod.fst = es.map Prod.fst := by
  induction es with
  | nil => intro k; rfl
  | cons e r ih => intro k; simp only [mkE, List.map_cons, ih]
theorem mkE_get (es : List Ent) (j : Nat) (h : j < es.length) (k : Int) : (mkE k es).getD j dE = ((es.getD j dE).1, (es.getD j dE).2.1, marks (k + 2 * totE (es.take j)) (es.getD j dE).2.2.length) := by
  have e1 : es = es.take j ++ (es.getD j dE :: es.drop (j + 1)) := by
    conv => lhs; rw [← List.take_append_drop j es]
    congr 1
    rw [List.drop_eq_getElem_cons h]
    simp [List.getD, h]
  have hl : (mkE k (es.take j)).length = j := by rw [mkE_length, List.length_take]; omega
  conv => lhs; rw [e1]
  rw [mkE_append]
  simp only [List.getD_eq_getElem?_getD]
  rw [List.getElem?_append_right (by omega), hl, Nat.sub_self]
  rfl

end Go.Proofs.YtghpljoccclmkaaDoor
