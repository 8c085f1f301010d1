/-
  Drawn lists of cells: a grown shape, spoilt or not.
  The draws of the law of shapes that give cells.
  The draws of the law on placements.
  Shapes that hang together grow cell by cell: plain facts.
-/
import Derived.Deep.Onto
import Derived.Test.YtkjlmgkjcmebbaaGreatDoorWaz
import Derived.ArgAppend
import Derived.Test.YtkjlmgkjcmebbaaGreatDoorWay
import Derived.Test.YtkjlmgkjcmebbaaGreatDoorWaf
namespace Go.Proofs.YtkjlmgkjcmebbaaGreatDoor

section
open Go.RowKit

/-- An own row is a slice that came in. -/
theorem came_own {base g n cap : Nat} {w : World} {l : List Cl} (h : w.ownsRow base 86 2 (.slice (some ⟨g, 0, none⟩) n cap) n (cvs l)) :
    Came w 2 (some ⟨g, 0, none⟩) g 0 n cap (cvs l) ∧ base ≤ g ∧ g < w.heap.size ∧ cap ≤ maxLen ∧ l.length = n := by
  have hl : l.length = n := by have := h.1; rw [cvs_length] at this; omega
  have hlt := h.lt g rfl
  have hc := h.cellAt
  have hf := h.frozenAt
  rcases h.2 with ⟨e, _⟩ | ⟨g', cap', cur, e, h1, h2, h3, h4, h5, h6⟩
  · cases e
  injection e with e1 e2 e3
  injection e1 with e1
  injection e1 with e1 _ _
  subst e1 e3
  refine ⟨⟨h3, fun _ => rfl, fun _ => hlt.2, h.1, fun j u hj => ?_, fun j hj => ⟨?_, hf _⟩⟩, hlt.1, hlt.2, h4, hl⟩
  · have hjl : j < n * 2 := by
      rw [← h.1]
      exact (List.getElem?_eq_some_iff.1 hj).1
    rw [Nat.zero_add, hc j hjl]
    exact hj
  · have e0 : w.cell? ⟨g, 0 + n * 2 + j, none⟩ = cur[0 + n * 2 + j]? := cell_of_row w g (0 + n * 2 + j) _ _ _ h2
    rw [e0, Array.getElem?_eq_getElem (by rw [h5]; omega)]
    rfl

/-- Without its first element. -/
theorem Came.tail {w : World} {b off n cap : Nat} {l : List Cl} (h : Came w 2 (some ⟨b, off, none⟩) b off n cap (cvs l)) (hn : 1 ≤ n) : Came w 2 (some ⟨b, off + 2, none⟩) b (off + 2) (n - 1) (cap - 1) (cvs l.tail) := by
  have hlen := h.oldsLen
  have hle := h.le
  rw [cvs_length] at hlen
  cases l with
  | nil => simp at hlen; omega
  | cons c r =>
    simp at hlen
    refine ⟨by omega, fun _ => rfl, fun _ => h.lt (by omega), by rw [cvs_length]; simp; omega, fun j u hj => ?_, fun j hj => ?_⟩
    · have := h.olds (j + 2) u (by rw [cvs_cons]; simpa using hj)
      rw [show off + 2 + j = off + (j + 2) by omega]
      exact this
    · have := h.spare j (by omega)
      rw [show off + 2 + (n - 1) * 2 + j = off + n * 2 + j by omega]
      exact this
theorem Came.none0 {w : World} {ao : Option Addr} {b off : Nat} : Came w 2 ao b off 0 0 (cvs []) :=
  ⟨Nat.le_refl _, fun h => absurd h (by omega), fun h => absurd h (by omega), rfl, fun j u hj => by simp [cvs] at hj, fun j hj => by omega⟩
theorem Came.addr0 {w : World} {ao ao' : Option Addr} {b off n cap : Nat} {l : List Cl} (h : Came w 2 ao b off n cap (cvs l)) (h0 : cap = 0) : Came w 2 ao' b off n cap (cvs l) := by
  subst h0
  exact ⟨h.le, fun hp => absurd hp (by omega), h.lt, h.oldsLen, h.olds, h.spare⟩
/-- What came in reads as its list. -/
theorem CellsAt.of_came {w : World} {ao : Option Addr} {b off n cap : Nat} {l : List Cl} (h : Came w 2 ao b off n cap (cvs l)) (hi : ∀ c ∈ l, InC c) : CellsAt w.heap.size w ao n l := by
  have hl : l.length = n := by have := h.oldsLen; rw [cvs_length] at this; omega
  refine ⟨hl, hi, fun hp => ⟨b, off, h.addr (by have := h.le; omega), h.lt (by have := h.le; omega), fun k hk => ?_⟩⟩
  have hg := cvs_get l k (by omega)
  exact ⟨h.olds _ _ hg.1, by have := h.olds _ _ hg.2; rw [show off + k * 2 + 1 = off + (k * 2 + 1) by omega]; exact this⟩
theorem Came.kept {w w' : World} {r : Option Nat} {ao : Option Addr} {b off n cap : Nat} {olds : List Value} (h : Came w 2 ao b off n cap olds) (hg : w.grownBy w' r) (hr : 0 < cap → r ≠ some b) : Came w' 2 ao b off n cap olds := by
  have hs := hg.size
  have hle := h.le
  by_cases hc : 0 < cap
  · have hblk := hg.block b (h.lt hc) (fun e => hr hc e.symm)
    refine ⟨h.le, h.addr, fun hp => by have := h.lt hp; omega, h.oldsLen, fun j u hj => ?_, fun j hj => ?_⟩
    · exact (World.cell?_of_block (a := ⟨b, off + j, none⟩) hblk).trans (h.olds j u hj)
    · have := h.spare j hj
      exact ⟨by rw [World.cell?_of_block (a := ⟨b, off + n * 2 + j, none⟩) hblk]; exact this.1, by rw [World.frozen?_of_block (a := ⟨b, off + n * 2 + j, none⟩) hblk]; exact this.2⟩
  · obtain rfl : cap = 0 := by omega
    obtain rfl : n = 0 := by omega
    have hol := h.oldsLen
    refine ⟨h.le, h.addr, fun hp => absurd hp hc, h.oldsLen, fun j u hj => ?_, fun j hj => by omega⟩
    have := (List.getElem?_eq_some_iff.1 hj).1
    omega

/-- A drawn list of cells. -/
def GivesA (B g : Nat) (w : World) (e : Ending) (w' : World) : Prop := ∃ (ad : Addr) (gg off n cap : Nat) (l : List Cl), e = .returned (.slice (some ad) n cap) ∧ Came w' 2 (some ad) gg off n cap (cvs l) ∧ (0 < cap → w.heap.size ≤ gg) ∧ cap ≤ maxLen ∧ (∀ c ∈ l, InC c) ∧ l.length = n ∧ n ≤ 9 ∧ Cur B w' g ∧ w.grownBy w' (some g)

set_option maxRecDepth 100000 in
theorem dShape (B g : Nat) (w : World) (hc : Cur B w g) :
    Calls Tryz.prog 139 #[.pointer (some ⟨g, 0, none⟩)] w (GivesD B g w) := by
  have HC := Lib.hid hc
  clear hc
  go_enter Tryz.func139, Tryz.ntmps139
  go_wp2_with fail
  refine (dBelow B g 7 _ HC.out (by omega) (by omega)).mono ?_
  rintro e w1 ⟨x, hx0, hx1, rfl, hc1, hg1⟩
  obtain ⟨j, rfl⟩ := Int.eq_ofNat_of_zero_le hx0
  have HC1 := Lib.hid hc1
  have HG1 := Lib.hid hg1
  have hs := hg1.size
  clear hc1 hg1
  go_wp2_with fail
  have ej : (1 : Int) + (j : Int) = ((1 + j : Nat) : Int) := by omega
  simp only [ej]
  clear ej
  refine (dGrow B g (1 + j) w1 HC1.out (by omega)).mono ?_
  rintro e w2 ⟨gg, cap, l, rfl, hown, hin, hl1, hl8, hc2, hg2⟩
  have HR := Lib.hid (show GivesD B g w (.returned (.slice (some ⟨gg, 0, none⟩) l.length cap)) w2 from ⟨gg, cap, l, rfl, own_below hown hs, hin, hl1, hl8, hc2, grow_trans HG1.out hg2⟩)
  clear hown hc2 hg2
  generalize l.length = m at *
  go_wp2
  go_ret
  exact HR.out

theorem givesA_own {B g gg n cap : Nat} {w w' : World} {l : List Cl} (ho : w'.ownsRow w.heap.size 86 2 (.slice (some ⟨gg, 0, none⟩) n cap) n (cvs l)) (hi : ∀ c ∈ l, InC c) (hn : n ≤ 9) (hc : Cur B w' g) (hg : w.grownBy w' (some g)) :
    GivesA B g w (.returned (.slice (some ⟨gg, 0, none⟩) n cap)) w' := by
  obtain ⟨h1, h2, h3, h4, h5⟩ := came_own ho
  exact ⟨_, gg, 0, n, cap, l, rfl, h1, fun _ => h2, h4, hi, h5, hn, hc, hg⟩
theorem inC_of {p q : Int} (h1 : -9223372036854775808 ≤ p ∧ p ≤ 9223372036854775807) (h2 : -9223372036854775808 ≤ q ∧ q ≤ 9223372036854775807) : InC (p, q) := by
  unfold InC
  dsimp only
  omega
theorem inC_snoc {l : List Cl} {c : Cl} (h : ∀ c ∈ l, InC c) (hc : InC c) : ∀ x ∈ l ++ [c], InC x := fun x hx => by
  rcases List.mem_append.1 hx with h1 | h1
  · exact h x h1
  · obtain rfl := List.mem_singleton.1 h1
    exact hc
theorem sortU_inC {l : List Cl} (h : ∀ c ∈ l, InC c) : ∀ c ∈ sortU l, InC c := fun c hc => h c ((sortU_mem l c).1 hc)

set_option maxHeartbeats 2000000 in
set_option maxRecDepth 100000 in
theorem dAny (B g : Nat) (w : World) (hc : Cur B w g) :
    Calls Tryz.prog 115 #[.pointer (some ⟨g, 0, none⟩)] w (GivesA B g w) := by
  have hlt := hc.lt
  obtain ⟨hl1, hl2⟩ := hlt
  have HC := Lib.hid hc
  clear hc
  go_enter Tryz.func115, Tryz.ntmps115
  go_wp2_with fail
  refine (dShape B g _ HC.out).mono ?_
  rintro e w1 ⟨gg, cap, l, rfl, hown1, hin, hm1, hm8, hc1, hg1⟩
  have hs1 := hg1.size
  have hggw := (hown1.lt gg rfl)
  have hgne : gg ≠ g := by omega
  have HIN := Lib.hid hin
  have HC1 := Lib.hid hc1
  have HG1 := Lib.hid hg1
  have HO1 := Lib.hid hown1
  generalize hm : l.length = m at *
  have HM := Lib.hid hm
  clear hin hc1 hg1 hown1 HC hm
  go_wp2_with fail
  refine (dBelow B g 12 _ HC1.out (by omega) (by omega)).mono ?_
  rintro e w2 ⟨d, hd0, hd1, rfl, hc2, hg2⟩
  have HO2 := Lib.hid (HO1.out.kept hg2 (.inr (by intro e; have h9 : gg = g := Option.some.inj e; omega)))
  have HC2 := Lib.hid hc2
  have HG2 := Lib.hid (grow_trans HG1.out hg2)
  have hs2 := HG2.out.size
  clear hc2 hg2 HC1 HG1 HO1
  have hd : d = 0 ∨ d = 1 ∨ d = 2 ∨ d = 3 ∨ 4 ≤ d := by omega
  rcases hd with rfl | rfl | rfl | rfl | hd
  · go_wp2_with fail
    refine (dBelow B g 9 _ HC2.out (by omega) (by omega)).mono ?_
    rintro e w3 ⟨x, hx0, hx1, rfl, hc3, hg3⟩
    have HO3 := Lib.hid (HO2.out.kept hg3 (.inr (by intro e; have h9 : gg = g := Option.some.inj e; omega)))
    have HC3 := Lib.hid hc3
    have HG3 := Lib.hid (grow_trans HG2.out hg3)
    clear hc3 hg3 HO2 HC2 HG2
    go_wp2_with fail
    refine (dBelow B g 9 _ HC3.out (by omega) (by omega)).mono ?_
    rintro e w4 ⟨y, hy0, hy1, rfl, hc4, hg4⟩
    have HO4 := Lib.hid (HO3.out.kept hg4 (.inr (by intro e; have h9 : gg = g := Option.some.inj e; omega)))
    have HC4 := Lib.hid hc4
    have HG4 := Lib.hid (grow_trans HG3.out hg4)
    have hs4 := HG4.out.size
    clear hc4 hg4 HO3 HC3 HG3
    go_wp2_with (first | (at_builtin; refine wpList_cells rfl _ _ rfl w.heap.size gg m cap l ⟨w4.heap.size, 0, none⟩ 1 1 [(x - 1, y)] rfl rfl (HO4.out.alloc _) rfl (lies_block (t := 86) (fr := (0, 0)) (heap_alloc_new _ _)) (by omega) ?c5 (w4.heap.size + 1) ?c6 ?_) | go_in)
    case c5 => simp; omega
    case c6 => simp
    intro g' cc' w5 hown5 hgrow5 hat5 hgb5 hlt5
    have hc5 := (HC4.out.alloc (.cells #[.int .i64 (x - 1), .int .i64 y] 86)).grown hgrow5 (fun x hx => by cases hx; omega)
    have hg5 := grow_new (grow_trans HG4.out (World.grownBy_alloc w4 (.cells #[.int .i64 (x - 1), .int .i64 y] 86) (some g))) hgrow5 (fun x hx => by cases hx; omega)
    have HR := Lib.hid (givesA_own hown5 (inC_snoc HIN.out (inC_of (by omega) (by omega))) (by omega) hc5 hg5)
    clear hown5 hgrow5 hc5 hg5
    go_wp2
    go_ret
    exact HR.out
  · go_wp2_with fail
    refine (dBelow B g 8 _ HC2.out (by omega) (by omega)).mono ?_
    rintro e w3 ⟨x, hx0, hx1, rfl, hc3, hg3⟩
    have HO3 := Lib.hid (HO2.out.kept hg3 (.inr (by intro e; have h9 : gg = g := Option.some.inj e; omega)))
    have HC3 := Lib.hid hc3
    have HG3 := Lib.hid (grow_trans HG2.out hg3)
    clear hc3 hg3 HO2 HC2 HG2
    go_wp2_with fail
    refine (dBelow B g 8 _ HC3.out (by omega) (by omega)).mono ?_
    rintro e w4 ⟨y, hy0, hy1, rfl, hc4, hg4⟩
    have HO4 := Lib.hid (HO3.out.kept hg4 (.inr (by intro e; have h9 : gg = g := Option.some.inj e; omega)))
    have HC4 := Lib.hid hc4
    have HG4 := Lib.hid (grow_trans HG3.out hg4)
    have hs4 := HG4.out.size
    clear hc4 hg4 HO3 HC3 HG3
    go_wp2_with (first | (at_builtin; refine wpList_cells rfl _ _ rfl w.heap.size gg m cap l ⟨w4.heap.size, 0, none⟩ 1 1 [(x, y)] rfl rfl (HO4.out.alloc _) rfl (lies_block (t := 86) (fr := (0, 0)) (heap_alloc_new _ _)) (by omega) ?c5 (w4.heap.size + 1) ?c6 ?_) | go_in)
    case c5 => simp; omega
    case c6 => simp
    intro g' cc' w5 hown5 hgrow5 hat5 hgb5 hlt5
    have HL5 := Lib.hid (inC_snoc HIN.out (inC_of (p := x) (q := y) (by omega) (by omega)))
    have HC5 := Lib.hid ((HC4.out.alloc (.cells #[.int .i64 x, .int .i64 y] 86)).grown hgrow5 (fun x hx => by cases hx; omega))
    have HG5 := Lib.hid (grow_new (grow_trans HG4.out (World.grownBy_alloc w4 (.cells #[.int .i64 x, .int .i64 y] 86) (some g))) hgrow5 (fun x hx => by cases hx; omega))
    have HA5 := Lib.hid (CellsAt.of_own hown5 HL5.out)
    have hs5 := HG5.out.size
    have HLN := Lib.hid (show (l ++ [(x, y)]).length = m + 1 by rw [List.length_append, HM.out]; rfl)
    clear hown5 hgrow5
    generalize l ++ [(x, y)] = l5 at *
    go_wp2_with fail
    refine (sSort w5.heap.size (m + 1) cc' _ l5 w5 (by omega) HA5.out (Nat.le_refl _)).mono ?_
    rintro e w6 ⟨g6, c6, rfl, hown6, hb6⟩
    have hsl := sortU_len l5
    rw [HLN.out] at hsl
    have HR := Lib.hid (givesA_own (own_below hown6 (by omega)) (sortU_inC HL5.out) (by omega) (HC5.out.grown (grow_below hb6 none) (fun k hk => by cases hk)) (grow_trans HG5.out (grow_below hb6 (some g))))
    clear hown6 hb6
    go_wp2
    go_ret
    exact HR.out
  · obtain ⟨hcam, hcb, hcl, hcm, -⟩ := came_own HO2.out
    have hle := hcam.le
    have hcap63 : cap ≤ 9223372036854775807 := by unfold maxLen at hcm; omega
    have htl : ∀ c ∈ l.tail, InC c := fun c hc => HIN.out c (List.mem_of_mem_tail hc)
    have htn : l.tail.length = m - 1 := by rw [List.length_tail, HM.out]
    have hct := Came.tail hcam hm1
    by_cases hc1 : cap = 1
    · have HR := Lib.hid (show GivesA B g w (.returned (.slice (some ⟨gg, 0, none⟩) (m - 1) 0)) w2 from
        ⟨_, gg, 2, m - 1, 0, l.tail, rfl, by have := Came.addr0 hct (ao' := some ⟨gg, 0, none⟩) (by omega); rw [show cap - 1 = 0 by omega] at this; exact this, fun h => absurd h (by omega), by simp [maxLen], htl, htn, by omega, HC2.out, HG2.out⟩)
      clear hcam htl htn hct
      go_wp2
      go_ret
      exact HR.out
    · have HR := Lib.hid (show GivesA B g w (.returned (.slice (some ⟨gg, 2, none⟩) (m - 1) (cap - 1))) w2 from
        ⟨_, gg, 2, m - 1, cap - 1, l.tail, rfl, hct, fun _ => hcb, by omega, htl, htn, by omega, HC2.out, HG2.out⟩)
      clear hcam htl htn hct
      go_wp2
      go_ret
      exact HR.out
  · go_wp2_with fail
    refine (dPick B g w2.heap.size 3 [-1, 8, 9223372036854775807] _ (HC2.out.alloc _) (by omega) (by omega) rfl (heap_alloc_new _ _) (by omega) (by decide)).mono ?_
    rintro e w4 ⟨x, hx0, hx1, rfl, hc4, hg4⟩
    have HO4 := Lib.hid ((HO2.out.alloc (.cells #[.int .i64 (-1), .int .i64 8, .int .i64 9223372036854775807] 3)).kept hg4 (.inr (by intro e; have h9 : gg = g := Option.some.inj e; omega)))
    have HG4 := Lib.hid (grow_trans HG2.out (grow_trans (World.grownBy_alloc w2 (.cells #[.int .i64 (-1), .int .i64 8, .int .i64 9223372036854775807] 3) (some g)) hg4))
    have HC4 := Lib.hid hc4
    clear hc4 hg4
    have q0 : w4.cell? ⟨gg, 0, none⟩ = some (.int .i64 (l.getD 0 (0, 0)).1) := by
      rw [HO4.out.cellAt 0 (by omega)]
      exact (cvs_get l 0 (by have := HM.out; omega)).1
    have q1 : w4.frozen? ⟨gg, 0, none⟩ = false := HO4.out.frozenAt 0
    have hst := HO4.out.stored 0 (.int .i64 x)
    have hcs : ∃ l' : List Cl, (cvs l).set 0 (.int .i64 x) = cvs l' ∧ (∀ c ∈ l', InC c) := by
      have h1 := HM.out
      have h2 := HIN.out
      cases l with
      | nil => simp at h1; omega
      | cons c r =>
        refine ⟨(x, c.2) :: r, by simp [cvs_cons], fun d hd => ?_⟩
        rcases List.mem_cons.1 hd with rfl | h
        · have := h2 c (List.mem_cons_self ..)
          unfold InC at this
          exact inC_of ⟨hx0, hx1⟩ ⟨this.2.2.1, this.2.2.2⟩
        · exact h2 d (List.mem_cons_of_mem _ h)
    obtain ⟨l', e1, e2⟩ := hcs
    rw [e1] at hst
    have HR := Lib.hid (givesA_own hst.1 e2 (by omega) (HC4.out.grown hst.2 (fun k hk => by cases hk; exact ⟨by omega, hgne⟩)) (grow_new HG4.out hst.2 (fun k hk => by cases hk; exact hggw.1)))
    clear hst e1 e2
    go_wp2
    go_ret
    exact HR.out
  · have t0 : ((d : Int) == 0) = false := by simp; omega
    have t1 : ((d : Int) == 1) = false := by simp; omega
    have t2 : ((d : Int) == 2) = false := by simp; omega
    have t3 : ((d : Int) == 3) = false := by simp; omega
    have HR := Lib.hid (givesA_own HO2.out HIN.out (by omega) HC2.out HG2.out)
    go_wp2
    go_ret
    exact HR.out
end

section
open Go.RowKit

theorem blw {w w' : World} (h : w.grownBy w' none) : Below w.heap.size w w' := (Below.refl _ w).grown h (Nat.le_refl _) (fun k e => by cases e)

theorem came_lies {w : World} {ad : Addr} {gg off n cap : Nat} {l : List Cl} (h : Came w 2 (some ad) gg off n cap (cvs l)) : Lies w ad l := by
  intro j u hj
  have hjl := (List.getElem?_eq_some_iff.1 hj).1
  have hol := h.oldsLen
  have hle := h.le
  have ha := h.addr (by omega)
  injection ha with ha
  subst ha
  rw [add_at]
  exact h.olds j u hj

/-- One cell appended to a slice that came in. -/
theorem append_came (ad : Addr) (gg off n cap : Nat) (l : List Cl) (c : Cl) (W : World) (hc : Came W 2 (some ad) gg off n cap (cvs l)) (hi : ∀ c ∈ l, InC c) (hn : n ≤ 9) (bd : Addr) (cc : Nat) (hnews : Lies W bd [c]) (hic : InC c) (ty : TypeId) :
    ∃ b o cap' W', (Builtin.append_ #[95, 95] ty #[.slice (some ad) n cap, .slice (some bd) 1 cc]).run Tryz.prog W = .ok (.slice (some ⟨b, o, none⟩) (n + 1) cap') W' ∧
      CellsAt W'.heap.size W' (some ⟨b, o, none⟩) (n + 1) (l ++ [c]) ∧ n + 1 ≤ cap' ∧ ∃ r, W.grownBy W' r ∧ ∀ k, r = some k → k = gg ∧ 0 < cap := by
  obtain ⟨i, h1, h2, h3, h4⟩ := cell_size
  have hl : l.length = n := by have := hc.oldsLen; rw [cvs_length] at this; omega
  have hle := hc.le
  by_cases hr : n + 1 ≤ cap
  · have ha := hc.addr (by omega)
    injection ha with ha
    subst ha
    have hlt := hc.lt (by omega)
    have e2 : (cvs [c]).length = 2 := rfl
    have hrun := run_append_room_cells (P := Tryz.prog) (w := W) 95 ty 86 i Tryz.underlying95 h1 gg off n cap bd 1 cc (cvs [c]) (by rw [h3]; rfl) hnews (by intro u hu; exact cvs_oneCell _ u hu) hr
      (fun j hj => by rw [h3]; exact (hc.spare j (by rw [e2] at hj; omega)).1) (fun j hj => by rw [h3]; exact (hc.spare j (by rw [e2] at hj; omega)).2)
    rw [h3] at hrun
    have hg : W.grownBy (W.setCells gg (off + n * 2) (cvs [c])) (some gg) := by
      show W.grownBy ((W.setCell ⟨gg, off + n * 2, none⟩ (.int .i64 c.1)).setCell ⟨gg, off + n * 2 + 1, none⟩ (.int .i64 c.2)) (some gg)
      exact grow_set (grow_set (grow_below (Below.refl _ W) _))
    have hin := World.cell?_setCells_in gg (cvs [c]) (off + n * 2) W (fun j hj => (hc.spare j (by rw [e2] at hj; omega)).1)
    have hout : ∀ k, k < n * 2 → (W.setCells gg (off + n * 2) (cvs [c])).cell? ⟨gg, off + k, none⟩ = W.cell? ⟨gg, off + k, none⟩ := fun k hk =>
      World.cell?_setCells_out gg (cvs [c]) (off + n * 2) W _ (fun _ _ => .inl (by show off + k < off + n * 2; omega))
    have hsz := hg.size
    refine ⟨gg, off, cap, _, hrun, ⟨by rw [List.length_append, hl]; rfl, inC_snoc hi hic, fun _ => ⟨gg, off, rfl, by omega, fun k hk => ?_⟩⟩, hr, _, hg, fun k e => by cases e; exact ⟨rfl, by omega⟩⟩
    by_cases hkn : k < n
    · have hgt := cvs_get l k (by omega)
      have eg : (l ++ [c]).getD k (0, 0) = l.getD k (0, 0) := by
        rw [List.getD_eq_getElem?_getD, List.getD_eq_getElem?_getD, List.getElem?_append_left (by omega)]
      rw [eg]
      refine ⟨(hout (k * 2) (by omega)).trans (hc.olds _ _ hgt.1), ?_⟩
      have := (hout (k * 2 + 1) (by omega)).trans (hc.olds _ _ hgt.2)
      rw [show off + k * 2 + 1 = off + (k * 2 + 1) by omega]
      exact this
    · obtain rfl : k = n := by omega
      have eg : (l ++ [c]).getD k (0, 0) = c := by
        rw [List.getD_eq_getElem?_getD, List.getElem?_append_right (by omega), hl, Nat.sub_self]
        rfl
      rw [eg]
      exact ⟨hin 0 (by rw [e2]; omega), hin 1 (by rw [e2]; omega)⟩
  · obtain ⟨v', w', hrun, hown, hg⟩ := run_append_arg_grows (P := Tryz.prog) (w := W) 95 ty 86 i _ 2 16 Tryz.underlying95 h1 h2 h3 h4 rfl (by omega)
      ad n cap (cvs l) hc.oldsLen (came_lies hc) bd 1 cc (cvs [c]) rfl hnews (by omega) (by unfold maxLen; omega) (by omega)
    rw [← cvs_append] at hown
    obtain ⟨g, cap', rfl, hb, hgl⟩ := hown.form (by omega)
    have hcap : n + 1 ≤ cap' := (came_own hown).1.le
    exact ⟨g, 0, cap', w', hrun, CellsAt.of_own hown (inC_snoc hi hic), hcap, _, hg, fun k e => by cases e⟩

theorem wpList_came {ops : Array Oper} {rest : List Oper} {o : Oper} {a : Act} {W : World} {Q : Exit → Act → World → Prop} (hgd : o.guard = none) (s x : Operand)
    (ho : o.op = .call { callee := .builtin .append, args := #[s, x], argTypes := #[95, 95] })
    (ad : Addr) (gg off n cap : Nat) (l : List Cl) (c : Cl) (bd : Addr) (cc : Nat) (hs : a.eval s = .slice (some ad) n cap) (hx : a.eval x = .slice (some bd) 1 cc)
    (hc : Came W 2 (some ad) gg off n cap (cvs l)) (hi : ∀ c ∈ l, InC c) (hn : n ≤ 9) (hnews : Lies W bd [c]) (hic : InC c)
    (h : ∀ b o' cap' w', CellsAt w'.heap.size w' (some ⟨b, o', none⟩) (n + 1) (l ++ [c]) → n + 1 ≤ cap' → (∃ r, W.grownBy w' r ∧ ∀ k, r = some k → k = gg ∧ 0 < cap) → wpList Tryz.prog ops Q rest (a.put o.dst (.slice (some ⟨b, o', none⟩) (n + 1) cap')) w') : wpList Tryz.prog ops Q (o :: rest) a W := by
  refine wpList_plain hgd fun K hK => ?_
  obtain ⟨b, o', cap', w', hr, h2, h3, h4⟩ := append_came ad gg off n cap l c W hc hi hn bd cc hnews hic o.type
  unfold Oper.wp execOp
  simp only [ho, resolve, invoke, builtin, Sem.run_bind, Sem.run_pure, Result.andThen_ok, List.map_toArray, List.map_cons, List.map_nil, hs, hx, hr]
  exact hK _ _ (h b o' cap' w' h2 h3 h4)

/-- A drawn list of cells, ready to be read. -/
def GivesL (w : World) (e : Ending) (w' : World) : Prop := ∃ (ad : Addr) (n cap : Nat) (l : List Cl), e = .returned (.slice (some ad) n cap) ∧ CellsAt w'.heap.size w' (some ad) n l ∧ n ≤ cap ∧ n ≤ 20 ∧ Below w.heap.size w w'

/-- A drawn list of cells and two small numbers. -/
def GivesL2 (w : World) (e : Ending) (w' : World) : Prop := ∃ (ad : Addr) (n cap : Nat) (l : List Cl) (x y : Int), e = .returned (.tuple #[.slice (some ad) n cap, .int .i64 x, .int .i64 y]) ∧ -2 ≤ x ∧ x ≤ 7 ∧ -2 ≤ y ∧ y ≤ 7 ∧ CellsAt w'.heap.size w' (some ad) n l ∧ n ≤ cap ∧ n ≤ 20 ∧ Below w.heap.size w w'

set_option maxRecDepth 100000 in
theorem dOnce (B g : Nat) (n : Int) (w : World) (hc : Cur B w g) (hn : 0 < n) (hn2 : n ≤ 4294967296) :
    Calls Tryz.prog 105 #[.pointer (some ⟨g, 0, none⟩), .int .i64 n] w fun e w' => ∃ b : Bool, e = .returned (.bool b) ∧ Cur B w' g ∧ w.grownBy w' (some g) := by
  have HC := Lib.hid hc
  clear hc
  go_enter Tryz.func105, Tryz.ntmps105
  go_wp2_with fail
  refine (dBelow B g n _ HC.out hn hn2).mono ?_
  rintro e w1 ⟨x, hx0, hx1, rfl, hc1, hg1⟩
  have HR := Lib.hid (show ∃ b : Bool, Ending.returned (.bool (x == 0)) = .returned (.bool b) ∧ Cur B w1 g ∧ w.grownBy w1 (some g) from ⟨_, rfl, hc1, hg1⟩)
  clear hc1 hg1
  go_wp2
  go_ret
  exact HR.out

/-- Two drawn lists of cells. -/
def GivesLL (w : World) (e : Ending) (w' : World) : Prop := ∃ (ad : Addr) (n cap : Nat) (l : List Cl) (ad2 : Addr) (n2 cap2 : Nat) (l2 : List Cl), e = .returned (.tuple #[.slice (some ad) n cap, .slice (some ad2) n2 cap2]) ∧ CellsAt w'.heap.size w' (some ad) n l ∧ n ≤ 20 ∧ CellsAt w'.heap.size w' (some ad2) n2 l2 ∧ n2 ≤ 20 ∧ Below w.heap.size w w'
end

section
open Go.RowKit

theorem dNames (w : World) :
    Calls Tryz.prog 137 #[] w fun e w' => e = .returned (.slice (some ⟨w.heap.size, 0, none⟩) 12 12) ∧ w' = w.alloc (.cells #[.string (nmB 0), .string (nmB 1), .string (nmB 2), .string (nmB 3), .string (nmB 4), .string (nmB 5), .string (nmB 6), .string (nmB 7), .string (nmB 8), .string (nmB 9), .string (nmB 10), .string (nmB 11)] 9) := by
  go_enter Tryz.func137, Tryz.ntmps137
  go_wp2
  go_ret
  exact ⟨rfl, rfl⟩

theorem piece_ok : ∀ k, k < 12 → (parS (tx (txB k))).length ≤ 9 ∧ (parS (tx (txB k))).all inP = true := by decide +kernel
theorem piece_in {k : Nat} (hk : k < 12) : ∀ c ∈ parS (tx (txB k)), InC c := fun c hc => by
  have h := inP_out (List.all_eq_true.1 (piece_ok k hk).2 c hc)
  unfold InC
  omega
theorem names_at (W : World) (b : Nat) (h : W.heap[b]? = some (.cells #[.string (nmB 0), .string (nmB 1), .string (nmB 2), .string (nmB 3), .string (nmB 4), .string (nmB 5), .string (nmB 6), .string (nmB 7), .string (nmB 8), .string (nmB 9), .string (nmB 10), .string (nmB 11)] 9 (0, 0))) (k : Nat) (hk : k < 12) : W.cell? ⟨b, k, none⟩ = some (.string (nmB k)) := by
  have e : ∀ k, k < 12 → (#[Value.string (nmB 0), .string (nmB 1), .string (nmB 2), .string (nmB 3), .string (nmB 4), .string (nmB 5), .string (nmB 6), .string (nmB 7), .string (nmB 8), .string (nmB 9), .string (nmB 10), .string (nmB 11)] : Array Value)[k]? = some (.string (nmB k)) := fun k hk => by
    rcases (show k = 0 ∨ k = 1 ∨ k = 2 ∨ k = 3 ∨ k = 4 ∨ k = 5 ∨ k = 6 ∨ k = 7 ∨ k = 8 ∨ k = 9 ∨ k = 10 ∨ k = 11 by omega) with rfl | rfl | rfl | rfl | rfl | rfl | rfl | rfl | rfl | rfl | rfl | rfl <;> rfl
  exact (cell_of_row W b k _ _ (0, 0) h).trans (e k hk)

set_option maxHeartbeats 2000000 in
set_option maxRecDepth 100000 in
theorem dPiece4 (B g : Nat) (w : World) (hc : Cur B w g) :
    Calls Tryz.prog 114 #[.pointer (some ⟨g, 0, none⟩)] w (GivesA B g w) := by
  have HC := Lib.hid hc
  have hlt := hc.lt
  clear hc
  go_enter Tryz.func114, Tryz.ntmps114
  go_wp2_with fail
  refine (dNames w).mono ?_
  rintro e w1 ⟨rfl, rfl⟩
  obtain ⟨nb, hnb⟩ : ∃ b, w.heap.size = b := ⟨_, rfl⟩
  have hnm := heap_alloc_new w (.cells #[.string (nmB 0), .string (nmB 1), .string (nmB 2), .string (nmB 3), .string (nmB 4), .string (nmB 5), .string (nmB 6), .string (nmB 7), .string (nmB 8), .string (nmB 9), .string (nmB 10), .string (nmB 11)] 9)
  have hg0 := World.grownBy_alloc w (.cells #[.string (nmB 0), .string (nmB 1), .string (nmB 2), .string (nmB 3), .string (nmB 4), .string (nmB 5), .string (nmB 6), .string (nmB 7), .string (nmB 8), .string (nmB 9), .string (nmB 10), .string (nmB 11)] 9) (some g)
  have hc1 := HC.out.alloc (.cells #[.string (nmB 0), .string (nmB 1), .string (nmB 2), .string (nmB 3), .string (nmB 4), .string (nmB 5), .string (nmB 6), .string (nmB 7), .string (nmB 8), .string (nmB 9), .string (nmB 10), .string (nmB 11)] 9)
  rw [hnb] at hnm hlt ⊢
  have hs0 : (w.alloc (.cells #[.string (nmB 0), .string (nmB 1), .string (nmB 2), .string (nmB 3), .string (nmB 4), .string (nmB 5), .string (nmB 6), .string (nmB 7), .string (nmB 8), .string (nmB 9), .string (nmB 10), .string (nmB 11)] 9)).heap.size = nb + 1 := by simp [hnb]
  generalize (w.alloc (.cells #[.string (nmB 0), .string (nmB 1), .string (nmB 2), .string (nmB 3), .string (nmB 4), .string (nmB 5), .string (nmB 6), .string (nmB 7), .string (nmB 8), .string (nmB 9), .string (nmB 10), .string (nmB 11)] 9)) = w1 at *
  have HNM := Lib.hid (fun k hk => names_at w1 nb hnm k hk)
  have HC1 := Lib.hid hc1
  have HG0 := Lib.hid hg0
  clear hnm hc1 hg0 HC
  go_wp2_with fail
  refine (dBelow B g 12 w1 HC1.out (by omega) (by omega)).mono ?_
  rintro e w2 ⟨x, hx0, hx1, rfl, hc2, hg2⟩
  obtain ⟨k, rfl⟩ := Int.eq_ofNat_of_zero_le hx0
  have hk : k < 12 := by omega
  have hq : w2.cell? ⟨nb, k, none⟩ = some (.string (nmB k)) := (World.cell?_of_block (a := ⟨nb, k, none⟩) (hg2.block nb (by omega) (by intro e; injection e with e; omega))).trans (HNM.out k hk)
  have hs2 := hg2.size
  have HG2 := Lib.hid (grow_trans HG0.out hg2)
  have HC2 := Lib.hid hc2
  clear hc2 hg2 HC1 HG0
  go_wp2_with fail
  refine (sNamed (nmB k) w2).mono ?_
  rintro e w3 ⟨g3, c3, rfl, hown, hb3⟩
  rw [fmB_nm k hk] at hown ⊢
  have hin := piece_in hk
  have hln := (piece_ok k hk).1
  have hc3 := HC2.out.grown (grow_below hb3 none) (fun k h => by cases h)
  have HR := Lib.hid (givesA_own (g := g) (own_below hown (show w.heap.size ≤ w2.heap.size by omega)) hin hln hc3 (grow_trans HG2.out (grow_below hb3 (some g))))
  clear hown hin hc3 hb3
  generalize (parS (tx (txB k))).length = nn at *
  generalize okP (tx (txB k)) = bb at *
  go_wp2
  go_ret
  exact HR.out
end

section
/-- Cells in an order in which each is beside one before it. -/
inductive Gr : List Cl → Prop
  | one (c : Cl) : Gr [c]
  | more {l : List Cl} {x a : Cl} : Gr l → x ∉ l → a ∈ l → nearC a x = true → Gr (l ++ [x])
theorem Gr.pos {l : List Cl} (h : Gr l) : 0 < l.length := by
  cases h with
  | one c => simp
  | more _ _ _ _ => simp
theorem Gr.nodup {l : List Cl} (h : Gr l) : l.Nodup := by
  induction h with
  | one c => simp
  | more _ hx _ _ ih =>
    rw [List.nodup_append]
    refine ⟨ih, by simp, fun a ha b hb => ?_⟩
    rw [List.mem_singleton] at hb
    subst hb
    exact fun e => hx (e ▸ ha)
theorem gr_all {l : List Cl} (hpos : 0 < l.length) (h : AllRch l) : ∃ g, Gr g ∧ ∀ x, x ∈ g ↔ x ∈ l := by
  have key : ∀ (k : Nat) (g : List Cl), Gr g → (∀ x ∈ g, x ∈ l) → l.getD 0 (0, 0) ∈ g → l.length - g.length ≤ k → ∃ g', Gr g' ∧ ∀ x, x ∈ g' ↔ x ∈ l := by
    intro k
    induction k with
    | zero =>
      intro g hg hs h0 hk
      rcases Classical.em (∀ a ∈ g, ∀ b ∈ l, nearC a b = true → b ∈ g) with hc | hc
      · refine ⟨g, hg, fun x => ⟨hs x, fun hx => ?_⟩⟩
        have : ∀ c, Rch l c → c ∈ g := fun c hr => by
          induction hr with
          | base _ => exact h0
          | step _ hb hn ih => exact hc _ ih _ hb hn
        exact this x (h x hx)
      · simp only [Classical.not_forall] at hc
        obtain ⟨a, ha, b, hb, hn, hbg⟩ := hc
        have h1 := (Gr.more hg hbg ha hn).nodup
        have h2 := nodup_sub_len _ l h1 fun y hy => by
          rcases List.mem_append.1 hy with hy | hy
          · exact hs y hy
          · rw [List.mem_singleton] at hy; subst hy; exact hb
        simp at h2
        omega
    | succ k ih =>
      intro g hg hs h0 hk
      rcases Classical.em (∀ a ∈ g, ∀ b ∈ l, nearC a b = true → b ∈ g) with hc | hc
      · refine ⟨g, hg, fun x => ⟨hs x, fun hx => ?_⟩⟩
        have : ∀ c, Rch l c → c ∈ g := fun c hr => by
          induction hr with
          | base _ => exact h0
          | step _ hb hn ih => exact hc _ ih _ hb hn
        exact this x (h x hx)
      · simp only [Classical.not_forall] at hc
        obtain ⟨a, ha, b, hb, hn, hbg⟩ := hc
        refine ih (g ++ [b]) (Gr.more hg hbg ha hn) (fun y hy => ?_) (List.mem_append_left _ h0) (by simp; omega)
        rcases List.mem_append.1 hy with hy | hy
        · exact hs y hy
        · rw [List.mem_singleton] at hy; subst hy; exact hb
  refine key l.length [l.getD 0 (0, 0)] (Gr.one _) (fun x hx => ?_) (by simp) (by omega)
  rw [List.mem_singleton] at hx
  subst hx
  exact getD_mem hpos
theorem conn_gr {l : List Cl} (h : Conn l) : ∃ g, Gr g ∧ sortU g = l ∧ g.length = l.length := by
  obtain ⟨hlen, _, hs⟩ := (isShape_iff l).1 h.1
  obtain ⟨g, hg, hm⟩ := gr_all (by omega) h.2
  refine ⟨g, hg, (sortU_unique hs fun x => (hm x).symm).symm, Nat.le_antisymm ?_ ?_⟩
  · exact nodup_sub_len _ _ hg.nodup fun x hx => (hm x).1 hx
  · exact nodup_sub_len _ _ (srt_nodup hs) fun x hx => (hm x).2 hx
theorem near_nb {a x : Cl} (h : nearC a x = true) : ∃ d, d < 4 ∧ x = nbC a d := by
  obtain ⟨p, q⟩ := a
  obtain ⟨u, v⟩ := x
  rw [nearC_iff] at h
  dsimp only at h
  rcases h with ⟨h1, h2 | h2⟩ | ⟨h1, h2 | h2⟩
  · exact ⟨3, by omega, by rw [nb3]; congr 1 <;> omega⟩
  · exact ⟨1, by omega, by rw [nb1]; congr 1 <;> omega⟩
  · exact ⟨2, by omega, by rw [nb2]; congr 1 <;> omega⟩
  · exact ⟨0, by omega, by rw [nb0]; congr 1 <;> omega⟩
theorem nb_move (a : Cl) (x y : Int) (d : Nat) : nbC (a.1 + x, a.2 + y) d = ((nbC a d).1 + x, (nbC a d).2 + y) := by
  unfold nbC
  dsimp only
  congr 1 <;> omega
theorem corner_more {g : List Cl} (x : Cl) (_hg : 0 < g.length) : cornerC (sortU (g ++ [x])) = moreC (cornerC (sortU g)) (x.1 + -minX (sortU g), x.2 + -minY (sortU g)) := by
  have e1 : cornerC (sortU g) ++ [(x.1 + -minX (sortU g), x.2 + -minY (sortU g))] = moveC (-minX (sortU g)) (-minY (sortU g)) (sortU g ++ [x]) := by
    rw [cornerC_move]
    simp [moveC]
  have e2 : sortU (sortU g ++ [x]) = sortU (g ++ [x]) := sortU_unique (sortU_srt _) fun y => by rw [sortU_mem, List.mem_append, List.mem_append, sortU_mem]
  unfold moreC
  rw [e1, sortU_move, cornerC_of_move _ _ _ (sortU_pos (by simp)), e2]
/-- What holds of one cell and is handed on from a shape to each that it becomes by one more cell at a side is so of every shape that hangs together, in its corner. -/
theorem grow_all (E : Nat → List Cl → Prop) (h1 : E 1 [(0, 0)]) (hE : ∀ n, 1 ≤ n → ∀ l, E n l → ∀ c ∈ l, ∀ d, d < 4 → nbC c d ∉ l → E (n + 1) (moreC l (nbC c d))) {g : List Cl} (h : Gr g) : E g.length (cornerC (sortU g)) := by
  induction h with
  | one c =>
    have e : cornerC (sortU [c]) = [(0, 0)] := by
      have e1 : sortU [c] = [c] := (sortU_unique (l := [c]) (r := [c]) (by simp [Srt]) fun _ => Iff.rfl).symm
      rw [e1]
      simp [cornerC, minX, minY, minTo]
    rw [e]
    exact h1
  | more hg hx ha hn ih =>
    rename_i l x a
    obtain ⟨d, hd, rfl⟩ := near_nb hn
    rw [corner_more _ hg.pos, List.length_append, List.length_singleton, ← nb_move]
    have hmem : ∀ y : Cl, (y.1 + -minX (sortU l), y.2 + -minY (sortU l)) ∈ cornerC (sortU l) ↔ y ∈ l := fun y => by
      rw [cornerC_move, ← sortU_mem l]
      unfold moveC
      constructor
      · intro hy
        obtain ⟨z, hz, e⟩ := List.mem_map.1 hy
        injection e with e1 e2
        have : z = y := by
          obtain ⟨z1, z2⟩ := z
          obtain ⟨y1, y2⟩ := y
          dsimp only at e1 e2
          congr 1 <;> omega
        exact this ▸ hz
      · intro hy
        exact List.mem_map.2 ⟨y, hy, rfl⟩
    refine hE l.length hg.pos _ ih _ ((hmem a).2 ha) d hd ?_
    rw [nb_move]
    exact fun hc => hx ((hmem _).1 hc)
theorem conn_all (E : Nat → List Cl → Prop) (h1 : E 1 [(0, 0)]) (hE : ∀ n, 1 ≤ n → ∀ l, E n l → ∀ c ∈ l, ∀ d, d < 4 → nbC c d ∉ l → E (n + 1) (moreC l (nbC c d))) {l : List Cl} (h : Conn l) : E l.length (cornerC l) := by
  obtain ⟨g, hg, rfl, e⟩ := conn_gr h
  rw [← e]
  exact grow_all E h1 hE hg
end

end Go.Proofs.YtkjlmgkjcmebbaaGreatDoor
