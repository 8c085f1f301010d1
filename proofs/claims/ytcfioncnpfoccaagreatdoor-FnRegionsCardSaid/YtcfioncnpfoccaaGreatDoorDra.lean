/-
  The draws of the law of shapes that give cells.
-/
import Derived.ArgAppend
import Derived.Test.YtcfioncnpfoccaaGreatDoorAny
namespace Go.Proofs.YtcfioncnpfoccaaGreatDoor
open Go.RowKit

theorem blw {w w' : World} (h : w.grownBy w' none) : Below w.heap.size w w' := (Below.refl _ w).grown h (Nat.le_refl _) (fun k e => by cases e)

theorem came_lies {w : World} {ad : Addr} {gg off n cap : Nat} {l : List Cl} (h : Came w 2 (some ad) gg off n cap (cvs l)) : Lies w ad l := by
  intro j u hj
  have hjl := (List.getElem?_eq_some_iff.1 hj).1
  have hol := h.oldsLen
  have hle := h.le
  have ha := h.addr (by omega)
  injection ha with ha
  subst ha
  rw [add_at]
  exact h.olds j u hj

/-- One cell appended to a slice that came in. -/
theorem append_came (ad : Addr) (gg off n cap : Nat) (l : List Cl) (c : Cl) (W : World) (hc : Came W 2 (some ad) gg off n cap (cvs l)) (hi : ∀ c ∈ l, InC c) (hn : n ≤ 9) (bd : Addr) (cc : Nat) (hnews : Lies W bd [c]) (hic : InC c) (ty : TypeId) :
    ∃ b o cap' W', (Builtin.append_ #[41, 41] ty #[.slice (some ad) n cap, .slice (some bd) 1 cc]).run Tryz.prog W = .ok (.slice (some ⟨b, o, none⟩) (n + 1) cap') W' ∧
      CellsAt W'.heap.size W' (some ⟨b, o, none⟩) (n + 1) (l ++ [c]) ∧ n + 1 ≤ cap' ∧ ∃ r, W.grownBy W' r ∧ ∀ k, r = some k → k = gg ∧ 0 < cap := by
  obtain ⟨i, h1, h2, h3, h4⟩ := cell_size
  have hl : l.length = n := by have := hc.oldsLen; rw [cvs_length] at this; omega
  have hle := hc.le
  by_cases hr : n + 1 ≤ cap
  · have ha := hc.addr (by omega)
    injection ha with ha
    subst ha
    have hlt := hc.lt (by omega)
    have e2 : (cvs [c]).length = 2 := rfl
    have hrun := run_append_room_cells (P := Tryz.prog) (w := W) 41 ty 79 i Tryz.underlying41 h1 gg off n cap bd 1 cc (cvs [c]) (by rw [h3]; rfl) hnews (by intro u hu; exact cvs_oneCell _ u hu) hr
      (fun j hj => by rw [h3]; exact (hc.spare j (by rw [e2] at hj; omega)).1) (fun j hj => by rw [h3]; exact (hc.spare j (by rw [e2] at hj; omega)).2)
    rw [h3] at hrun
    have hg : W.grownBy (W.setCells gg (off + n * 2) (cvs [c])) (some gg) := by
      show W.grownBy ((W.setCell ⟨gg, off + n * 2, none⟩ (.int .i64 c.1)).setCell ⟨gg, off + n * 2 + 1, none⟩ (.int .i64 c.2)) (some gg)
      exact grow_set (grow_set (grow_below (Below.refl _ W) _))
    have hin := World.cell?_setCells_in gg (cvs [c]) (off + n * 2) W (fun j hj => (hc.spare j (by rw [e2] at hj; omega)).1)
    have hout : ∀ k, k < n * 2 → (W.setCells gg (off + n * 2) (cvs [c])).cell? ⟨gg, off + k, none⟩ = W.cell? ⟨gg, off + k, none⟩ := fun k hk =>
      World.cell?_setCells_out gg (cvs [c]) (off + n * 2) W _ (fun _ _ => .inl (by show off + k < off + n * 2; omega))
    have hsz := hg.size
    refine ⟨gg, off, cap, _, hrun, ⟨by rw [List.length_append, hl]; rfl, inC_snoc hi hic, fun _ => ⟨gg, off, rfl, by omega, fun k hk => ?_⟩⟩, hr, _, hg, fun k e => by cases e; exact ⟨rfl, by omega⟩⟩
    by_cases hkn : k < n
    · have hgt := cvs_get l k (by omega)
      have eg : (l ++ [c]).getD k (0, 0) = l.getD k (0, 0) := by
        rw [List.getD_eq_getElem?_getD, List.getD_eq_getElem?_getD, List.getElem?_append_left (by omega)]
      rw [eg]
      refine ⟨(hout (k * 2) (by omega)).trans (hc.olds _ _ hgt.1), ?_⟩
      have := (hout (k * 2 + 1) (by omega)).trans (hc.olds _ _ hgt.2)
      rw [show off + k * 2 + 1 = off + (k * 2 + 1) by omega]
      exact this
    · obtain rfl : k = n := by omega
      have eg : (l ++ [c]).getD k (0, 0) = c := by
        rw [List.getD_eq_getElem?_getD, List.getElem?_append_right (by omega), hl, Nat.sub_self]
        rfl
      rw [eg]
      exact ⟨hin 0 (by rw [e2]; omega), hin 1 (by rw [e2]; omega)⟩
  · obtain ⟨v', w', hrun, hown, hg⟩ := run_append_arg_grows (P := Tryz.prog) (w := W) 41 ty 79 i _ 2 16 Tryz.underlying41 h1 h2 h3 h4 rfl (by omega)
      ad n cap (cvs l) hc.oldsLen (came_lies hc) bd 1 cc (cvs [c]) rfl hnews (by omega) (by unfold maxLen; omega) (by omega)
    rw [← cvs_append] at hown
    obtain ⟨g, cap', rfl, hb, hgl⟩ := hown.form (by omega)
    have hcap : n + 1 ≤ cap' := (came_own hown).1.le
    exact ⟨g, 0, cap', w', hrun, CellsAt.of_own hown (inC_snoc hi hic), hcap, _, hg, fun k e => by cases e⟩

theorem wpList_came {ops : Array Oper} {rest : List Oper} {o : Oper} {a : Act} {W : World} {Q : Exit → Act → World → Prop} (hgd : o.guard = none) (s x : Operand)
    (ho : o.op = .call { callee := .builtin .append, args := #[s, x], argTypes := #[41, 41] })
    (ad : Addr) (gg off n cap : Nat) (l : List Cl) (c : Cl) (bd : Addr) (cc : Nat) (hs : a.eval s = .slice (some ad) n cap) (hx : a.eval x = .slice (some bd) 1 cc)
    (hc : Came W 2 (some ad) gg off n cap (cvs l)) (hi : ∀ c ∈ l, InC c) (hn : n ≤ 9) (hnews : Lies W bd [c]) (hic : InC c)
    (h : ∀ b o' cap' w', CellsAt w'.heap.size w' (some ⟨b, o', none⟩) (n + 1) (l ++ [c]) → n + 1 ≤ cap' → (∃ r, W.grownBy w' r ∧ ∀ k, r = some k → k = gg ∧ 0 < cap) → wpList Tryz.prog ops Q rest (a.put o.dst (.slice (some ⟨b, o', none⟩) (n + 1) cap')) w') : wpList Tryz.prog ops Q (o :: rest) a W := by
  refine wpList_plain hgd fun K hK => ?_
  obtain ⟨b, o', cap', w', hr, h2, h3, h4⟩ := append_came ad gg off n cap l c W hc hi hn bd cc hnews hic o.type
  unfold Oper.wp execOp
  simp only [ho, resolve, invoke, builtin, Sem.run_bind, Sem.run_pure, Result.andThen_ok, List.map_toArray, List.map_cons, List.map_nil, hs, hx, hr]
  exact hK _ _ (h b o' cap' w' h2 h3 h4)

/-- A drawn list of cells, ready to be read. -/
def GivesL (w : World) (e : Ending) (w' : World) : Prop := ∃ (ad : Addr) (n cap : Nat) (l : List Cl), e = .returned (.slice (some ad) n cap) ∧ CellsAt w'.heap.size w' (some ad) n l ∧ n ≤ cap ∧ n ≤ 20 ∧ Below w.heap.size w w'

/-- A drawn list of cells and two small numbers. -/
def GivesL2 (w : World) (e : Ending) (w' : World) : Prop := ∃ (ad : Addr) (n cap : Nat) (l : List Cl) (x y : Int), e = .returned (.tuple #[.slice (some ad) n cap, .int .i64 x, .int .i64 y]) ∧ -2 ≤ x ∧ x ≤ 7 ∧ -2 ≤ y ∧ y ≤ 7 ∧ CellsAt w'.heap.size w' (some ad) n l ∧ n ≤ cap ∧ n ≤ 20 ∧ Below w.heap.size w w'

set_option maxRecDepth 100000 in
theorem dOnce (B g : Nat) (n : Int) (w : World) (hc : Cur B w g) (hn : 0 < n) (hn2 : n ≤ 4294967296) :
    Calls Tryz.prog 52 #[.pointer (some ⟨g, 0, none⟩), .int .i64 n] w fun e w' => ∃ b : Bool, e = .returned (.bool b) ∧ Cur B w' g ∧ w.grownBy w' (some g) := by
  have HC := Lib.hid hc
  clear hc
  go_enter Tryz.func52, Tryz.ntmps52
  go_wp2_with fail
  refine (dBelow B g n _ HC.out hn hn2).mono ?_
  rintro e w1 ⟨x, hx0, hx1, rfl, hc1, hg1⟩
  have HR := Lib.hid (show ∃ b : Bool, Ending.returned (.bool (x == 0)) = .returned (.bool b) ∧ Cur B w1 g ∧ w.grownBy w1 (some g) from ⟨_, rfl, hc1, hg1⟩)
  clear hc1 hg1
  go_wp2
  go_ret
  exact HR.out

/-- Two drawn lists of cells. -/
def GivesLL (w : World) (e : Ending) (w' : World) : Prop := ∃ (ad : Addr) (n cap : Nat) (l : List Cl) (ad2 : Addr) (n2 cap2 : Nat) (l2 : List Cl), e = .returned (.tuple #[.slice (some ad) n cap, .slice (some ad2) n2 cap2]) ∧ CellsAt w'.heap.size w' (some ad) n l ∧ n ≤ 20 ∧ CellsAt w'.heap.size w' (some ad2) n2 l2 ∧ n2 ≤ 20 ∧ Below w.heap.size w w'

end Go.Proofs.YtcfioncnpfoccaaGreatDoor
