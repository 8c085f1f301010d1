/-
  The draws of the law of shapes that give cells.
-/
import Derived.ArgAppend
import Derived.Test.YtihjcifpihkpoaaGreatDoorAny
namespace Go.Proofs.YtihjcifpihkpoaaGreatDoor
open Go.RowKit

theorem blw {w w' : World} (h : w.grownBy w' none) : Below w.heap.size w w' := (Below.refl _ w).grown h (Nat.le_refl _) (fun k e => by cases e)

theorem came_lies {w : World} {ad : Addr} {gg off n cap : Nat} {l : List Cl} (h : Came w 2 (some ad) gg off n cap (cvs l)) : Lies w ad l := by
  intro j u hj
  have hjl := (List.getElem?_eq_some_iff.1 hj).1
  have hol := h.oldsLen
  have hle := h.le
  have ha := h.addr (by omega)
  injection ha with ha
  subst ha
  rw [add_at]
  exact h.olds j u hj

/-- One cell appended to a slice that came in. -/
theorem append_came (ad : Addr) (gg off n cap : Nat) (l : List Cl) (c : Cl) (W : World) (hc : Came W 2 (some ad) gg off n cap (cvs l)) (hi : ∀ c ∈ l, InC c) (hn : n ≤ 9) (bd : Addr) (cc : Nat) (hnews : Lies W bd [c]) (hic : InC c) (ty : TypeId) :
    ∃ b o cap' W', (Builtin.append_ #[24, 24] ty #[.slice (some ad) n cap, .slice (some bd) 1 cc]).run Tryz.prog W = .ok (.slice (some ⟨b, o, none⟩) (n + 1) cap') W' ∧
      CellsAt W'.heap.size W' (some ⟨b, o, none⟩) (n + 1) (l ++ [c]) ∧ n + 1 ≤ cap' ∧ ∃ r, W.grownBy W' r ∧ ∀ k, r = some k → k = gg ∧ 0 < cap := by
  obtain ⟨i, h1, h2, h3, h4⟩ := cell_size
  have hl : l.length = n := by have := hc.oldsLen; rw [cvs_length] at this; omega
  have hle := hc.le
  by_cases hr : n + 1 ≤ cap
  · have ha := hc.addr (by omega)
    injection ha with ha
    subst ha
    have hlt := hc.lt (by omega)
    have e2 : (cvs [c]).length = 2 := rfl
    have hrun := run_append_room_cells (P := Tryz.prog) (w := W) 24 ty 48 i Tryz.underlying24 h1 gg off n cap bd 1 cc (cvs [c]) (by rw [h3]; rfl) hnews (by intro u hu; exact cvs_oneCell _ u hu) hr
      (fun j hj => by rw [h3]; exact (hc.spare j (by rw [e2] at hj; omega)).1) (fun j hj => by rw [h3]; exact (hc.spare j (by rw [e2] at hj; omega)).2)
    rw [h3] at hrun
    have hg : W.grownBy (W.setCells gg (off + n * 2) (cvs [c])) (some gg) := by
      show W.grownBy ((W.setCell ⟨gg, off + n * 2, none⟩ (.int .i64 c.1)).setCell ⟨gg, off + n * 2 + 1, none⟩ (.int .i64 c.2)) (some gg)
      exact grow_set (grow_set (grow_below (Below.refl _ W) _))
    have hin := World.cell?_setCells_in gg (cvs [c]) (off + n * 2) W (fun j hj => (hc.spare j (by rw [e2] at hj; omega)).1)
    have hout : ∀ k, k < n * 2 → (W.setCells gg (off + n * 2) (cvs [c])).cell? ⟨gg, off + k, none⟩ = W.cell? ⟨gg, off + k, none⟩ := fun k hk =>
      World.cell?_setCells_out gg (cvs [c]) (off + n * 2) W _ (fun _ _ => .inl (by show off + k < off + n * 2; omega))
    have hsz := hg.size
    refine ⟨gg, off, cap, _, hrun, ⟨by rw [List.length_append, hl]; rfl, inC_snoc hi hic, fun _ => ⟨gg, off, rfl, by omega, fun k hk => ?_⟩⟩, hr, _, hg, fun k e => by cases e; exact ⟨rfl, by omega⟩⟩
    by_cases hkn : k < n
    · have hgt := cvs_get l k (by omega)
      have eg : (l ++ [c]).getD k (0, 0) = l.getD k (0, 0) := by
        rw [List.getD_eq_getElem?_getD, List.getD_eq_getElem?_getD, List.getElem?_append_left (by omega)]
      rw [eg]
      refine ⟨(hout (k * 2) (by omega)).trans (hc.olds _ _ hgt.1), ?_⟩
      have := (hout (k * 2 + 1) (by omega)).trans (hc.olds _ _ hgt.2)
      rw [show off + k * 2 + 1 = off + (k * 2 + 1) by omega]
      exact this
    · obtain rfl : k = n := by omega
      have eg : (l ++ [c]).getD k (0, 0) = c := by
        rw [List.getD_eq_getElem?_getD, List.getElem?_append_right (by omega), hl, Nat.sub_self]
        rfl
      rw [eg]
      exact ⟨hin 0 (by rw [e2]; omega), hin 1 (by rw [e2]; omega)⟩
  · obtain ⟨v', w', hrun, hown, hg⟩ := run_append_arg_grows (P := Tryz.prog) (w := W) 24 ty 48 i _ 2 16 Tryz.underlying24 h1 h2 h3 h4 rfl (by omega)
      ad n cap (cvs l) hc.oldsLen (came_lies hc) bd 1 cc (cvs [c]) rfl hnews (by omega) (by unfold maxLen; omega) (by omega)
    rw [← cvs_append] at hown
    obtain ⟨g, cap', rfl, hb, hgl⟩ := hown.form (by omega)
    have hcap : n + 1 ≤ cap' := (came_own hown).1.le
    exact ⟨g, 0, cap', w', hrun, CellsAt.of_own hown (inC_snoc hi hic), hcap, _, hg, fun k e => by cases e⟩

theorem wpList_came {ops : Array Oper} {rest : List Oper} {o : Oper} {a : Act} {W : World} {Q : Exit → Act → World → Prop} (hgd : o.guard = none) (s x : Operand)
    (ho : o.op = .call { callee := .builtin .append, args := #[s, x], argTypes := #[24, 24] })
    (ad : Addr) (gg off n cap : Nat) (l : List Cl) (c : Cl) (bd : Addr) (cc : Nat) (hs : a.eval s = .slice (some ad) n cap) (hx : a.eval x = .slice (some bd) 1 cc)
    (hc : Came W 2 (some ad) gg off n cap (cvs l)) (hi : ∀ c ∈ l, InC c) (hn : n ≤ 9) (hnews : Lies W bd [c]) (hic : InC c)
    (h : ∀ b o' cap' w', CellsAt w'.heap.size w' (some ⟨b, o', none⟩) (n + 1) (l ++ [c]) → n + 1 ≤ cap' → (∃ r, W.grownBy w' r ∧ ∀ k, r = some k → k = gg ∧ 0 < cap) → wpList Tryz.prog ops Q rest (a.put o.dst (.slice (some ⟨b, o', none⟩) (n + 1) cap')) w') : wpList Tryz.prog ops Q (o :: rest) a W := by
  refine wpList_plain hgd fun K hK => ?_
  obtain ⟨b, o', cap', w', hr, h2, h3, h4⟩ := append_came ad gg off n cap l c W hc hi hn bd cc hnews hic o.type
  unfold Oper.wp execOp
  simp only [ho, resolve, invoke, builtin, Sem.run_bind, Sem.run_pure, Result.andThen_ok, List.map_toArray, List.map_cons, List.map_nil, hs, hx, hr]
  exact hK _ _ (h b o' cap' w' h2 h3 h4)

/-- A drawn list of cells, ready to be read. -/
def GivesL (w : World) (e : Ending) (w' : World) : Prop := ∃ (ad : Addr) (n cap : Nat) (l : List Cl), e = .returned (.slice (some ad) n cap) ∧ CellsAt w'.heap.size w' (some ad) n l ∧ n ≤ cap ∧ n ≤ 20 ∧ Below w.heap.size w w'

set_option maxRecDepth 100000 in
theorem dFmt (a : Option Addr) (len cap : Nat) (w : World) (hc : Code w.heap.size w a len cap) (hl : len ≤ 1048576) :
    Calls Tryz.prog 5 #[.slice a len cap] w (GivesL w) := by
  have HC := Lib.hid hc
  clear hc
  go_enter Tryz.func5, Tryz.ntmps5
  go_wp2_with fail
  refine (dNew w.heap.size a len cap _ HC.out hl (Nat.le_refl _)).mono ?_
  rintro e w1 ⟨rfl, hc1, hg1⟩
  have hlt := hc1.lt
  go_wp2_with fail
  refine (dAny w.heap.size w.heap.size w1 hc1).mono ?_
  rintro e w2 ⟨ad, gg, off, n, cp, l, rfl, hcam, hgg, hcm, hin, hln, hn9, hc2, hg2⟩
  have HR := Lib.hid (show GivesL w (.returned (.slice (some ad) n cp)) w2 from ⟨ad, n, cp, l, rfl, CellsAt.of_came hcam hin, hcam.le, by omega, blw (grow_new hg1 hg2 (fun k hk => by cases hk; omega))⟩)
  clear hcam hgg hin hc2 hg2 hg1 hc1
  go_wp2
  go_ret
  exact HR.out

set_option maxRecDepth 100000 in
theorem dCon (a : Option Addr) (len cap : Nat) (w : World) (hc : Code w.heap.size w a len cap) (hl : len ≤ 1048576) :
    Calls Tryz.prog 22 #[.slice a len cap] w (GivesL w) := by
  have HC := Lib.hid hc
  clear hc
  go_enter Tryz.func22, Tryz.ntmps22
  go_wp2_with fail
  refine (dNew w.heap.size a len cap _ HC.out hl (Nat.le_refl _)).mono ?_
  rintro e w1 ⟨rfl, hc1, hg1⟩
  have hlt := hc1.lt
  go_wp2_with fail
  refine (dAny w.heap.size w.heap.size w1 hc1).mono ?_
  rintro e w2 ⟨ad, gg, off, n, cp, l, rfl, hcam, hgg, hcm, hin, hln, hn9, hc2, hg2⟩
  have HR := Lib.hid (show GivesL w (.returned (.slice (some ad) n cp)) w2 from ⟨ad, n, cp, l, rfl, CellsAt.of_came hcam hin, hcam.le, by omega, blw (grow_new hg1 hg2 (fun k hk => by cases hk; omega))⟩)
  clear hcam hgg hin hc2 hg2 hg1 hc1
  go_wp2
  go_ret
  exact HR.out

/-- A drawn list of cells and two small numbers. -/
def GivesL2 (w : World) (e : Ending) (w' : World) : Prop := ∃ (ad : Addr) (n cap : Nat) (l : List Cl) (x y : Int), e = .returned (.tuple #[.slice (some ad) n cap, .int .i64 x, .int .i64 y]) ∧ -2 ≤ x ∧ x ≤ 7 ∧ -2 ≤ y ∧ y ≤ 7 ∧ CellsAt w'.heap.size w' (some ad) n l ∧ n ≤ cap ∧ n ≤ 20 ∧ Below w.heap.size w w'

set_option maxRecDepth 100000 in
set_option maxHeartbeats 1000000 in
theorem dMove (a : Option Addr) (len cap : Nat) (w : World) (hc : Code w.heap.size w a len cap) (hl : len ≤ 1048576) :
    Calls Tryz.prog 16 #[.slice a len cap] w (GivesL2 w) := by
  have HC := Lib.hid hc
  clear hc
  go_enter Tryz.func16, Tryz.ntmps16
  go_wp2_with fail
  refine (dNew w.heap.size a len cap _ HC.out hl (Nat.le_refl _)).mono ?_
  rintro e w1 ⟨rfl, hc1, hg1⟩
  have hlt := hc1.lt
  go_wp2_with fail
  refine (dAny w.heap.size w.heap.size w1 hc1).mono ?_
  rintro e w2 ⟨ad, gg, off, n, cp, l, rfl, hcam, hgg, hcm, hin, hln, hn9, hc2, hg2⟩
  have HG2 := Lib.hid (grow_new hg1 hg2 (fun k hk => by cases hk; omega))
  have HC2 := Lib.hid hc2
  have HCAM := Lib.hid hcam
  have HIN := Lib.hid hin
  clear hcam hin hc2 hg2 hg1 hc1
  go_wp2_with fail
  refine (dBelow w.heap.size w.heap.size 9 _ HC2.out (by omega) (by omega)).mono ?_
  rintro e w3 ⟨x, hx0, hx1, rfl, hc3, hg3⟩
  have HG3 := Lib.hid (grow_new HG2.out hg3 (fun k hk => by cases hk; omega))
  have HC3 := Lib.hid hc3
  have HCAM3 := Lib.hid (Came.kept HCAM.out hg3 (fun h e => by have h9 : w.heap.size = gg := Option.some.inj e; have := hgg h; omega))
  clear hc3 hg3 HC2 HG2 HCAM
  go_wp2_with fail
  refine (dBelow w.heap.size w.heap.size 9 _ HC3.out (by omega) (by omega)).mono ?_
  rintro e w4 ⟨y, hy0, hy1, rfl, hc4, hg4⟩
  have HR := Lib.hid (show GivesL2 w (.returned (.tuple #[.slice (some ad) n cp, .int .i64 (x - 2), .int .i64 (y - 2)])) w4 from ⟨ad, n, cp, l, _, _, rfl, by omega, by omega, by omega, by omega,
    CellsAt.of_came (Came.kept HCAM3.out hg4 (fun h e => by have h9 : w.heap.size = gg := Option.some.inj e; have := hgg h; omega)) HIN.out, HCAM3.out.le, by omega, blw (grow_new HG3.out hg4 (fun k hk => by cases hk; omega))⟩)
  clear hc4 hg4 hgg HCAM3 HC3 HG3 HIN
  go_wp2
  go_ret3
  exact HR.out

set_option maxRecDepth 100000 in
set_option maxHeartbeats 1000000 in
theorem dHas (a : Option Addr) (len cap : Nat) (w : World) (hc : Code w.heap.size w a len cap) (hl : len ≤ 1048576) :
    Calls Tryz.prog 23 #[.slice a len cap] w (GivesL2 w) := by
  have HC := Lib.hid hc
  clear hc
  go_enter Tryz.func23, Tryz.ntmps23
  go_wp2_with fail
  refine (dNew w.heap.size a len cap _ HC.out hl (Nat.le_refl _)).mono ?_
  rintro e w1 ⟨rfl, hc1, hg1⟩
  have hlt := hc1.lt
  go_wp2_with fail
  refine (dAny w.heap.size w.heap.size w1 hc1).mono ?_
  rintro e w2 ⟨ad, gg, off, n, cp, l, rfl, hcam, hgg, hcm, hin, hln, hn9, hc2, hg2⟩
  have HG2 := Lib.hid (grow_new hg1 hg2 (fun k hk => by cases hk; omega))
  have HC2 := Lib.hid hc2
  have HCAM := Lib.hid hcam
  have HIN := Lib.hid hin
  clear hcam hin hc2 hg2 hg1 hc1
  go_wp2_with fail
  refine (dBelow w.heap.size w.heap.size 4 _ HC2.out (by omega) (by omega)).mono ?_
  rintro e w3 ⟨x, hx0, hx1, rfl, hc3, hg3⟩
  have HG3 := Lib.hid (grow_new HG2.out hg3 (fun k hk => by cases hk; omega))
  have HC3 := Lib.hid hc3
  have HCAM3 := Lib.hid (Came.kept HCAM.out hg3 (fun h e => by have h9 : w.heap.size = gg := Option.some.inj e; have := hgg h; omega))
  clear hc3 hg3 HC2 HG2 HCAM
  go_wp2_with fail
  refine (dBelow w.heap.size w.heap.size 4 _ HC3.out (by omega) (by omega)).mono ?_
  rintro e w4 ⟨y, hy0, hy1, rfl, hc4, hg4⟩
  have HR := Lib.hid (show GivesL2 w (.returned (.tuple #[.slice (some ad) n cp, .int .i64 x, .int .i64 y])) w4 from ⟨ad, n, cp, l, _, _, rfl, by omega, by omega, by omega, by omega,
    CellsAt.of_came (Came.kept HCAM3.out hg4 (fun h e => by have h9 : w.heap.size = gg := Option.some.inj e; have := hgg h; omega)) HIN.out, HCAM3.out.le, by omega, blw (grow_new HG3.out hg4 (fun k hk => by cases hk; omega))⟩)
  clear hc4 hg4 hgg HCAM3 HC3 HG3 HIN
  go_wp2
  go_ret3
  exact HR.out

set_option maxRecDepth 100000 in
set_option maxHeartbeats 1000000 in
theorem dSort (a : Option Addr) (len cap : Nat) (w : World) (hc : Code w.heap.size w a len cap) (hl : len ≤ 1048576) :
    Calls Tryz.prog 21 #[.slice a len cap] w (fun e w' => ∃ (b off n cap : Nat) (l : List Cl), e = .returned (.slice (some ⟨b, off, none⟩) n cap) ∧ CellsAt w'.heap.size w' (some ⟨b, off, none⟩) n l ∧ 1 ≤ n ∧ n ≤ cap ∧ n ≤ 20 ∧ Below w.heap.size w w') := by
  have HC := Lib.hid hc
  clear hc
  go_enter Tryz.func21, Tryz.ntmps21
  go_wp2_with fail
  refine (dNew w.heap.size a len cap _ HC.out hl (Nat.le_refl _)).mono ?_
  rintro e w1 ⟨rfl, hc1, hg1⟩
  have hlt := hc1.lt
  go_wp2_with fail
  refine (dAny w.heap.size w.heap.size w1 hc1).mono ?_
  rintro e w2 ⟨ad, gg, off, n, cp, l, rfl, hcam, hgg, hcm, hin, hln, hn9, hc2, hg2⟩
  have HG2 := Lib.hid (grow_new hg1 hg2 (fun k hk => by cases hk; omega))
  have HC2 := Lib.hid hc2
  have HCAM := Lib.hid hcam
  have HIN := Lib.hid hin
  have HCM := Lib.hid hcm
  clear hcam hin hc2 hg2 hg1 hc1 hcm
  go_wp2_with fail
  refine (dBelow w.heap.size w.heap.size 3 _ HC2.out (by omega) (by omega)).mono ?_
  rintro e w3 ⟨x, hx0, hx1, rfl, hc3, hg3⟩
  have HG3 := Lib.hid (grow_new HG2.out hg3 (fun k hk => by cases hk; omega))
  have HC3 := Lib.hid hc3
  have HCAM3 := Lib.hid (Came.kept HCAM.out hg3 (fun h e => by have h9 : w.heap.size = gg := Option.some.inj e; have := hgg h; omega))
  clear hc3 hg3 HC2 HG2 HCAM
  go_wp2_with fail
  refine (dBelow w.heap.size w.heap.size 3 _ HC3.out (by omega) (by omega)).mono ?_
  rintro e w4 ⟨y, hy0, hy1, rfl, hc4, hg4⟩
  have HG4 := Lib.hid (grow_new HG3.out hg4 (fun k hk => by cases hk; omega))
  have HCAM4 := Lib.hid (Came.kept HCAM3.out hg4 (fun h e => by have h9 : w.heap.size = gg := Option.some.inj e; have := hgg h; omega))
  clear hc4 hg4 HC3 HG3 HCAM3
  have hs4 := HG4.out.size
  have HGG := Lib.hid hgg
  clear hgg
  go_wp2_with (first | (at_builtin; refine wpList_came rfl _ _ rfl ad gg off n cp l (x, y) ⟨w4.heap.size, 0, none⟩ 1 rfl rfl (Came.kept HCAM4.out (World.grownBy_alloc w4 _ none) (fun _ => by simp)) HIN.out hn9 (lies_block (t := 48) (fr := (0, 0)) (heap_alloc_new _ _)) (inC_of (by omega) (by omega)) ?_) | go_in)
  intro b o' cap' w5 hat hle r hgr hrr
  have hblw := blw (grow_new (grow_trans HG4.out (World.grownBy_alloc w4 (.cells #[.int .i64 x, .int .i64 y] 48) none)) hgr (fun k hk => by
    obtain ⟨rfl, h0⟩ := hrr k hk
    have := HGG.out h0
    omega))
  have HR := Lib.hid (show ∃ (b' off n' cap : Nat) (l : List Cl), Ending.returned (.slice (some ⟨b, o', none⟩) (n + 1) cap') = .returned (.slice (some ⟨b', off, none⟩) n' cap) ∧ CellsAt w5.heap.size w5 (some ⟨b', off, none⟩) n' l ∧ 1 ≤ n' ∧ n' ≤ cap ∧ n' ≤ 20 ∧ Below w.heap.size w w5 from
    ⟨b, o', n + 1, cap', _, rfl, hat, by omega, hle, by omega, hblw⟩)
  clear hat hgr hblw hrr
  go_wp2
  go_ret
  exact HR.out

set_option maxRecDepth 100000 in
theorem dOnce (B g : Nat) (n : Int) (w : World) (hc : Cur B w g) (hn : 0 < n) (hn2 : n ≤ 4294967296) :
    Calls Tryz.prog 49 #[.pointer (some ⟨g, 0, none⟩), .int .i64 n] w fun e w' => ∃ b : Bool, e = .returned (.bool b) ∧ Cur B w' g ∧ w.grownBy w' (some g) := by
  have HC := Lib.hid hc
  clear hc
  go_enter Tryz.func49, Tryz.ntmps49
  go_wp2_with fail
  refine (dBelow B g n _ HC.out hn hn2).mono ?_
  rintro e w1 ⟨x, hx0, hx1, rfl, hc1, hg1⟩
  have HR := Lib.hid (show ∃ b : Bool, Ending.returned (.bool (x == 0)) = .returned (.bool b) ∧ Cur B w1 g ∧ w.grownBy w1 (some g) from ⟨_, rfl, hc1, hg1⟩)
  clear hc1 hg1
  go_wp2
  go_ret
  exact HR.out

/-- Two drawn lists of cells. -/
def GivesLL (w : World) (e : Ending) (w' : World) : Prop := ∃ (ad : Addr) (n cap : Nat) (l : List Cl) (ad2 : Addr) (n2 cap2 : Nat) (l2 : List Cl), e = .returned (.tuple #[.slice (some ad) n cap, .slice (some ad2) n2 cap2]) ∧ CellsAt w'.heap.size w' (some ad) n l ∧ n ≤ 20 ∧ CellsAt w'.heap.size w' (some ad2) n2 l2 ∧ n2 ≤ 20 ∧ Below w.heap.size w w'

set_option maxRecDepth 100000 in
set_option maxHeartbeats 1000000 in
theorem dEq (a : Option Addr) (len cap : Nat) (w : World) (hc : Code w.heap.size w a len cap) (hl : len ≤ 1048576) :
    Calls Tryz.prog 24 #[.slice a len cap] w (GivesLL w) := by
  have HC := Lib.hid hc
  clear hc
  go_enter Tryz.func24, Tryz.ntmps24
  go_wp2_with fail
  refine (dNew w.heap.size a len cap _ HC.out hl (Nat.le_refl _)).mono ?_
  rintro e w1 ⟨rfl, hc1, hg1⟩
  have hlt := hc1.lt
  go_wp2_with fail
  refine (dAny w.heap.size w.heap.size w1 hc1).mono ?_
  rintro e w2 ⟨ad, gg, off, n, cp, l, rfl, hcam, hgg, hcm, hin, hln, hn9, hc2, hg2⟩
  have HG2 := Lib.hid (grow_new hg1 hg2 (fun k hk => by cases hk; omega))
  have HC2 := Lib.hid hc2
  have HCAM := Lib.hid hcam
  have HIN := Lib.hid hin
  have HGG := Lib.hid hgg
  clear hcam hin hc2 hg2 hg1 hc1 hgg
  go_wp2_with fail
  refine (dOnce w.heap.size w.heap.size 2 _ HC2.out (by omega) (by omega)).mono ?_
  rintro e w3 ⟨bb, rfl, hc3, hg3⟩
  have HG3 := Lib.hid (grow_new HG2.out hg3 (fun k hk => by cases hk; omega))
  have HC3 := Lib.hid hc3
  have HCAM3 := Lib.hid (Came.kept HCAM.out hg3 (fun h e => by have h9 : w.heap.size = gg := Option.some.inj e; have := HGG.out h; omega))
  clear hc3 hg3 HC2 HG2 HCAM
  have hs3 := HG3.out.size
  cases bb with
  | true =>
    have hown0 : (w3.alloc (.cells #[] 48)).ownsRow w3.heap.size 48 2 (.slice (some ⟨w3.heap.size, 0, none⟩) 0 0) 0 (cvs []) := World.ownsRow_lit (base := w3.heap.size) (e := 48) (size := 2) w3 #[] 0 (Nat.le_refl _) (by simp [maxLen]) rfl
    have HOWN0 := Lib.hid hown0
    clear hown0
    have HLIES := Lib.hid (came_lies (Came.kept HCAM3.out (World.grownBy_alloc w3 (.cells #[] 48) none) (fun _ => by simp)))
    go_wp2_with (first | (at_builtin; refine wpList_cells rfl _ _ rfl w3.heap.size w3.heap.size 0 0 [] ad n cp l rfl rfl HOWN0.out hln HLIES.out (by omega) ?c5 (w3.heap.size + 1) ?c6 ?_) | go_in)
    case c5 => simp
    case c6 => simp
    intro g' cc' w5 hown5 hgrow5 hat5 hgb5 hlt5
    have ha1 := CellsAt.of_came (Came.kept HCAM3.out (grow_new (World.grownBy_alloc w3 (.cells #[] 48) none) hgrow5 (fun k hk => by cases hk; exact Nat.le_refl _)) (fun _ => by simp)) HIN.out
    have ha2 := CellsAt.of_own hown5 HIN.out
    have hg5 := blw (grow_new (grow_trans HG3.out (World.grownBy_alloc w3 (.cells #[] 48) none)) hgrow5 (fun k hk => by cases hk; exact hs3))
    have HR := Lib.hid (show GivesLL w (.returned (.tuple #[.slice (some ad) n cp, .slice (some ⟨g', 0, none⟩) n cc'])) w5 from
      ⟨ad, n, cp, l, _, n, _, l, rfl, ha1, by omega, ha2, by omega, hg5⟩)
    clear hown5 hgrow5 ha1 ha2 hg5
    go_wp2
    go_ret2
    exact HR.out
  | false =>
    go_wp2_with fail
    refine (dAny w.heap.size w.heap.size w3 HC3.out).mono ?_
    rintro e w5 ⟨ad2, gg2, off2, n2, cp2, l2, rfl, hcam5, hgg5, hcm5, hin5, hln5, hn95, hc5, hg5⟩
    have ha1 := CellsAt.of_came (Came.kept HCAM3.out hg5 (fun h e => by have h9 : w.heap.size = gg := Option.some.inj e; have := HGG.out h; omega)) HIN.out
    have HR := Lib.hid (show GivesLL w (.returned (.tuple #[.slice (some ad) n cp, .slice (some ad2) n2 cp2])) w5 from
      ⟨ad, n, cp, l, ad2, n2, cp2, l2, rfl, ha1, by omega, CellsAt.of_came hcam5 hin5, by omega, blw (grow_new HG3.out hg5 (fun k hk => by cases hk; omega))⟩)
    clear hcam5 hgg5 hin5 hc5 hg5 ha1
    go_wp2
    go_ret2
    exact HR.out

end Go.Proofs.YtihjcifpihkpoaaGreatDoor
