/-
  Shapes moved, in the program: what the call gives.
  A shape moved to its corner, in the program: what the call gives.
  Looking for a cell, and equal lists of cells, in the program: what each call gives.
  The laws on what is asked of a shape: the walk of each law, out of the contracts of the program's function and of its model.
  The laws on what gives a row of cells: helpers, and the walk of the law on CornerShape.
  The laws' helpers that compare, mark and look at slices of shapes.
  The laws' helpers that size, copy and compare slices of shapes; such an argument out of its reading.
  A region that came in as an argument, out of its reading.
  The laws on masks and pieces that give a plain value: the walk of each law.
  The laws' helpers that write marks into slices of shapes and look whether they stand there.
-/
import Derived.Test.YtkcclhnligajeaaDoorVam
import Derived.Test.YtkcclhnligajeaaDoorVan
import Derived.Test.YtkcclhnligajeaaDoorVad
import Derived.Test.YtkcclhnligajeaaDoorVaa
import Derived.Test.YtkcclhnligajeaaDoorVag
import Derived.Test.YtkcclhnligajeaaDoorVab
import Derived.Test.YtkcclhnligajeaaDoorRga
import Derived.ChangeArms
import Derived.ChangeSlices
namespace Go.Proofs.YtkcclhnligajeaaDoor

section
open Go.RowKit

theorem moveS_no {p q : Int} {l : List Cl} (h : canMove p q l = false) : moveS p q l = [] := if_neg (by rw [h]; simp)

theorem move_fill (p q : Int) (l : List Cl) (k n : Nat) (h : k < n) (hl : l.length = n) : (moveC p q (l.take k) ++ List.replicate (n - k) ((0 : Int), (0 : Int))).set k ((l.getD k (0, 0)).1 + p, (l.getD k (0, 0)).2 + q) = moveC p q (l.take (k + 1)) ++ List.replicate (n - (k + 1)) (0, 0) := by
  have e : n - k = (n - (k + 1)) + 1 := by omega
  have el : (moveC p q (l.take k)).length = k := by rw [moveC_len]; simp; omega
  rw [e, List.replicate_succ, List.set_append_right _ _ (by omega), el, Nat.sub_self, List.set_cons_zero]
  have e2 : moveC p q (l.take (k + 1)) = moveC p q (l.take k) ++ [((l.getD k (0, 0)).1 + p, (l.getD k (0, 0)).2 + q)] := by
    rw [take_snoc l k (by omega)]
    simp [moveC]
  rw [e2, List.append_assoc]
  rfl
end

section
open Go.RowKit

theorem cornS_no {l : List Cl} (h : isShape l = false) : cornS l = [] := if_neg (by rw [h]; simp)
end

section
open Go.RowKit
end

section
open Go.RowKit

theorem eqb_refl (l : List Cl) : eqb l l = true := by simp [eqb]
end

section
open Go.RowKit

theorem none_row (v : Value) : v.ownBlock = none ∨ v.ownBlock ≠ none := by
  cases v.ownBlock with
  | none => exact .inl rfl
  | some k => exact .inr (by simp)
theorem ne_row {v u : Value} {B m : Nat} (h : ∀ k, v.ownBlock = some k → B ≤ k ∧ k < m) (h2 : ∀ k, u.ownBlock = some k → k < B) : v.ownBlock = none ∨ v.ownBlock ≠ u.ownBlock := by
  cases e : v.ownBlock with
  | none => exact .inl rfl
  | some k =>
    refine .inr fun e2 => ?_
    have := h k e
    have := h2 k e2.symm
    omega
theorem cornS_le (l : List Cl) : (cornS l).length ≤ l.length := by
  unfold cornS cornerC
  split
  · simp
  · simp
end

section
open Go.RowKit

/-- A value that reads as a list of shapes. -/
def SsRd (B : Nat) (w : World) (v : Value) (L : List (List Cl)) : Prop := ∃ a cap, v = .slice a L.length cap ∧ (0 < L.length → ∃ g vs, a = some ⟨g, 0, none⟩ ∧ SsAt B w g vs L)
theorem SsRd.on {B : Nat} {w w' : World} {v : Value} {L : List (List Cl)} (h : SsRd B w v L) (hb : Below B w w') : SsRd B w' v L := by
  obtain ⟨a, cap, e, h1⟩ := h
  exact ⟨a, cap, e, fun h0 => by obtain ⟨g, vs, e1, h2⟩ := h1 h0; exact ⟨g, vs, e1, h2.on hb⟩⟩
theorem SsRd.more {B B' : Nat} {w : World} {v : Value} {L : List (List Cl)} (h : SsRd B w v L) (hB : B ≤ B') : SsRd B' w v L := by
  obtain ⟨a, cap, e, h1⟩ := h
  exact ⟨a, cap, e, fun h0 => by obtain ⟨g, vs, e1, h2⟩ := h1 h0; exact ⟨g, vs, e1, h2.more hB⟩⟩
theorem SsRd.of_at {B g cap : Nat} {w : World} {vs : List Value} {L : List (List Cl)} (h : SsAt B w g vs L) : SsRd B w (.slice (some ⟨g, 0, none⟩) L.length cap) L := ⟨_, _, rfl, fun _ => ⟨g, vs, rfl, h⟩⟩
def totE (es : List Ent) : Nat := (es.map fun e => e.2.2.length).sum
/-- Marks written into shapes, one after the other. -/
def mkE : Int → List Ent → List Ent
  | _, [] => []
  | k, e :: r => (e.1, e.2.1, marks k e.2.2.length) :: mkE (k + 2 * e.2.2.length) r
theorem totE_append (a b : List Ent) : totE (a ++ b) = totE a + totE b := by simp [totE]
theorem totE_take (es : List Ent) (k : Nat) (h : k < es.length) : totE (es.take (k + 1)) = totE (es.take k) + (es.getD k dE).2.2.length := by
  rw [takeG_snoc dE es k h, totE_append]
  simp [totE]
theorem totE_mono (es : List Ent) (k : Nat) : totE (es.take k) ≤ totE es := by
  conv => rhs; rw [← List.take_append_drop k es]
  rw [totE_append]
  omega
theorem mkE_length (es : List Ent) : ∀ k, (mkE k es).length = es.length := by
  induction es with
  | nil => intro k; rfl
  | cons e r ih => intro k; simp [mkE, ih]
theorem mkE_append (a b : List Ent) : ∀ k, mkE k (a ++ b) = mkE k a ++ mkE (k + 2 * totE a) b := by
  induction a with
  | nil => intro k; simp [mkE, totE]
  | cons e r ih =>
    intro k
    simp only [List.cons_append, mkE]
    rw [ih]
    simp only [totE, List.map_cons, List.sum_cons]
    congr 3
    omega
theorem mkE_ev (es : List Ent) : ∀ k, (mkE k es).map ev = es.map ev := by
  induction es with
  | nil => intro k; rfl
  | cons e r ih =>
    intro k
    simp only [mkE, List.map_cons, ih]
    congr 1
    unfold ev
    simp [marks_length]
theorem mkE_fst (es : List Ent) : ∀ k, (mkE k es).map Prod.fst = es.map Prod.fst := by
  induction es with
  | nil => intro k; rfl
  | cons e r ih => intro k; simp only [mkE, List.map_cons, ih]
theorem mkE_get (es : List Ent) (j : Nat) (h : j < es.length) (k : Int) : (mkE k es).getD j dE = ((es.getD j dE).1, (es.getD j dE).2.1, marks (k + 2 * totE (es.take j)) (es.getD j dE).2.2.length) := by
  have e1 : es = es.take j ++ (es.getD j dE :: es.drop (j + 1)) := by
    conv => lhs; rw [← List.take_append_drop j es]
    congr 1
    rw [List.drop_eq_getElem_cons h]
    simp [List.getD, h]
  have hl : (mkE k (es.take j)).length = j := by rw [mkE_length, List.length_take]; omega
  conv => lhs; rw [e1]
  rw [mkE_append]
  simp only [List.getD_eq_getElem?_getD]
  rw [List.getElem?_append_right (by omega), hl, Nat.sub_self]
  rfl
end

section
open Go.RowKit Go.ChangeShapes Go.WideShapes

def totL (L : List (List Cl)) : Nat := (L.map List.length).sum
theorem totL_take (L : List (List Cl)) (k : Nat) (h : k < L.length) : totL (L.take (k + 1)) = totL (L.take k) + (L.getD k []).length := by
  have e : L.getD k [] = L[k] := by simp [List.getD, h]
  rw [List.take_succ_eq_append_getElem h, e]
  unfold totL
  rw [List.map_append, List.sum_append]
  simp only [List.map_cons, List.map_nil, List.sum_cons, List.sum_nil, Nat.add_zero]
theorem totL_mono (L : List (List Cl)) (k : Nat) : totL (L.take k) ≤ totL L := by
  conv => rhs; rw [← List.take_append_drop k L]
  unfold totL
  rw [List.map_append, List.sum_append]
  omega
theorem totL_get (L : List (List Cl)) (k : Nat) (h : k < L.length) : (L.getD k []).length ≤ totL L := by
  have h1 := totL_take L k h
  have h2 := totL_mono L (k + 1)
  omega
theorem totL_ent (es : List Ent) : totE es = totL (es.map kE) := by
  unfold totE totL
  rw [List.map_map]
  rfl

theorem made_ps (n : Nat) : (madeCells #[Value.slice none 0 0] (n * 1)).toList = List.replicate n (.slice none 0 0) := by
  apply List.ext_getElem?
  intro j
  by_cases hj : j < n
  · simp [madeCells, hj, Nat.mod_one]
  · rw [List.getElem?_eq_none (by simp [madeCells]; omega), List.getElem?_eq_none (by simp; omega)]
theorem ps_fill (es : List Ent) (e : Ent) (k n : Nat) (hl : es.length = k) (h : k < n) : (es.map ev ++ List.replicate (n - k) (Value.slice none 0 0)).set k (ev e) = (es ++ [e]).map ev ++ List.replicate (n - (k + 1)) (.slice none 0 0) := by
  have e1 : n - k = (n - (k + 1)) + 1 := by omega
  rw [e1, List.replicate_succ, List.set_append_right _ _ (by simp; omega), List.length_map, hl, Nat.sub_self, List.set_cons_zero, List.map_append, List.append_assoc]
  rfl
end

section
open Go.RowKit Go.ChangeShapes Go.WideShapes

set_option maxRecDepth 100000 in
theorem open_ints_at {H : Type} {enc : TypeId × Value → H} {W : World} {fuel : Nat} {v : Value} {d : DataW H × List MemPlace}
    (h : DataW.trod enc Tryd.prog W 0 (fun _ => true) true fuel 22 [v] = some d) : ∃ a len cap zs, v = .slice a len cap ∧ len ≤ maxLen ∧ IntsAt W.heap.size W a len zs := by
  rcases open_ints Tryd.underlying22 Tryd.underlying3 (by kernel_rfl) h with ⟨hcs, _⟩ | ⟨x, len, cap, zs, hcs, _, hl, hm, hz, _, hcell, hwz⟩
  · simp only [List.cons.injEq, and_true] at hcs
    exact ⟨none, 0, 0, [], hcs, Nat.zero_le _, rfl, (fun c hc => absurd hc (List.not_mem_nil)), fun h => absurd h (Nat.lt_irrefl 0)⟩
  · simp only [List.cons.injEq, and_true] at hcs
    simp only [if_true] at hz
    refine ⟨some x, len, cap, zs.take len, hcs, Nat.le_trans hl hm, by rw [List.length_take, hz]; omega, fun z hz9 => wf_i64 (hwz z (List.mem_of_mem_take hz9)), fun hp => ?_⟩
    obtain ⟨b, off, spot⟩ := x
    have h0 := hcell 0 (by omega)
    have hspot : spot = none := by simpa [Addr.add] using World.cell?_spot h0
    subst hspot
    have hblk := World.block_lt_of_cell? W _ h0
    have ad : ∀ j, (⟨b, off, none⟩ : Addr).add j = ⟨b, off + j, none⟩ := fun j => by unfold Addr.add; split <;> simp_all
    refine ⟨b, off, rfl, by simpa [Addr.add] using hblk, fun k hk => ?_⟩
    have hc := hcell k (by omega)
    rw [ad] at hc
    rw [hc]
    congr 2
    simp [List.getD, hk]

set_option maxRecDepth 100000 in
theorem open_region {H : Type} {enc : TypeId × Value → H} {W : World} {base : Nat} {v : Value} {d : DataW H} {ps : List MemPlace}
    (hval : Value.okWide Tryd.prog W .any base 24 v) (h : DataW.Trod enc Tryd.prog W 0 (fun _ => true) true 24 v d ps) :
    ∃ x a len cap zs, v = .agg #[.int .i64 x, .slice a len cap] ∧ len ≤ maxLen ∧ In64 x ∧ IntsAt W.heap.size W a len zs := by
  obtain ⟨fuel, h⟩ := h
  obtain ⟨xs, n, rfl, _, hlen, hxl, hf⟩ := DataW.trod_struct Tryd.underlying24 h
  obtain ⟨cs, rfl, hsz⟩ := okWide_struct Tryd.underlying24 hval
  have c2 : Tryd.prog.cellsOf 24 = 2 := by kernel_rfl
  have c0 : Tryd.prog.cellsOf 3 = 1 := by kernel_rfl
  have c1 : Tryd.prog.cellsOf 22 = 1 := by kernel_rfl
  rw [c2] at hsz
  obtain ⟨l⟩ := cs
  match l, hsz with
  | [v0, v1], _ =>
    match xs, hxl with
    | [y0, y1], _ =>
      have g0 : DataW.trod enc Tryd.prog W 0 (fun _ => true) true n 3 ((List.drop 0 [v0, v1]).take (Tryd.prog.cellsOf 3)) = some y0 := hf 0 _ rfl
      have g1 : DataW.trod enc Tryd.prog W 0 (fun _ => true) true n 22 ((List.drop 1 [v0, v1]).take (Tryd.prog.cellsOf 22)) = some y1 := hf 1 _ rfl
      rw [c0] at g0
      rw [c1] at g1
      obtain ⟨p, hp, _, wp⟩ := DataW.trod_int Tryd.underlying3 g0
      obtain ⟨a, len, cap, zs, hv1, hm, hz⟩ := open_ints_at (v := v1) g1
      have hp0 : v0 = .int .i64 p := by simpa using hp
      subst hp0 hv1
      exact ⟨p, a, len, cap, zs, rfl, hm, wf_i64 wp, hz⟩
end

section
open Go.RowKit
end

section
open Go.RowKit

theorem apart_iff (es : List Ent) : ApartS es ↔ (es.map Prod.fst).Pairwise (· ≠ ·) := by unfold ApartS; rw [List.pairwise_map]
theorem mkE_take (es : List Ent) (j : Nat) (h : j < es.length) (k : Int) : mkE k (es.take (j + 1)) = mkE k (es.take j) ++ [((es.getD j dE).1, (es.getD j dE).2.1, marks (k + 2 * totE (es.take j)) (es.getD j dE).2.2.length)] := by
  rw [takeG_snoc dE es j h, mkE_append]
  rfl
theorem drop_cons (es : List Ent) (j : Nat) (h : j < es.length) : es.drop j = es.getD j dE :: es.drop (j + 1) := by
  rw [List.drop_eq_getElem_cons h]
  simp [List.getD, h]
theorem mix_apart {es : List Ent} (h : ApartS es) (k : Int) (j : Nat) : ApartS (mkE k (es.take j) ++ es.drop j) := by
  rw [apart_iff] at *
  rwa [List.map_append, mkE_fst, ← List.map_append, List.take_append_drop]
theorem mkE_keys (es : List Ent) (k : Int) (j : Nat) (h : j < es.length) : ((mkE k es).map kE).getD j [] = marks (k + 2 * totE (es.take j)) (es.getD j dE).2.2.length := by
  have e := mkE_get es j h k
  have hl : j < (mkE k es).length := by rw [mkE_length]; exact h
  have e2 : ((mkE k es).map kE).getD j [] = kE ((mkE k es).getD j dE) := by simp [List.getD, hl]
  rw [e2, e]
  rfl
end

end Go.Proofs.YtkcclhnligajeaaDoor
