/-
  Drawn lists of cells: a grown shape, spoilt or not.
-/
import Derived.Deep.Onto
import Derived.Test.YtcfioncnpfoccaaGreatDoorDrw
namespace Go.Proofs.YtcfioncnpfoccaaGreatDoor
open Go.RowKit

/-- An own row is a slice that came in. -/
theorem came_own {base g n cap : Nat} {w : World} {l : List Cl} (h : w.ownsRow base 79 2 (.slice (some ⟨g, 0, none⟩) n cap) n (cvs l)) :
    Came w 2 (some ⟨g, 0, none⟩) g 0 n cap (cvs l) ∧ base ≤ g ∧ g < w.heap.size ∧ cap ≤ maxLen ∧ l.length = n := by
  have hl : l.length = n := by have := h.1; rw [cvs_length] at this; omega
  have hlt := h.lt g rfl
  have hc := h.cellAt
  have hf := h.frozenAt
  rcases h.2 with ⟨e, _⟩ | ⟨g', cap', cur, e, h1, h2, h3, h4, h5, h6⟩
  · cases e
  injection e with e1 e2 e3
  injection e1 with e1
  injection e1 with e1 _ _
  subst e1 e3
  refine ⟨⟨h3, fun _ => rfl, fun _ => hlt.2, h.1, fun j u hj => ?_, fun j hj => ⟨?_, hf _⟩⟩, hlt.1, hlt.2, h4, hl⟩
  · have hjl : j < n * 2 := by
      rw [← h.1]
      exact (List.getElem?_eq_some_iff.1 hj).1
    rw [Nat.zero_add, hc j hjl]
    exact hj
  · have e0 : w.cell? ⟨g, 0 + n * 2 + j, none⟩ = cur[0 + n * 2 + j]? := cell_of_row w g (0 + n * 2 + j) _ _ _ h2
    rw [e0, Array.getElem?_eq_getElem (by rw [h5]; omega)]
    rfl

/-- Without its first element. -/
theorem Came.tail {w : World} {b off n cap : Nat} {l : List Cl} (h : Came w 2 (some ⟨b, off, none⟩) b off n cap (cvs l)) (hn : 1 ≤ n) : Came w 2 (some ⟨b, off + 2, none⟩) b (off + 2) (n - 1) (cap - 1) (cvs l.tail) := by
  have hlen := h.oldsLen
  have hle := h.le
  rw [cvs_length] at hlen
  cases l with
  | nil => simp at hlen; omega
  | cons c r =>
    simp at hlen
    refine ⟨by omega, fun _ => rfl, fun _ => h.lt (by omega), by rw [cvs_length]; simp; omega, fun j u hj => ?_, fun j hj => ?_⟩
    · have := h.olds (j + 2) u (by rw [cvs_cons]; simpa using hj)
      rw [show off + 2 + j = off + (j + 2) by omega]
      exact this
    · have := h.spare j (by omega)
      rw [show off + 2 + (n - 1) * 2 + j = off + n * 2 + j by omega]
      exact this
theorem Came.none0 {w : World} {ao : Option Addr} {b off : Nat} : Came w 2 ao b off 0 0 (cvs []) :=
  ⟨Nat.le_refl _, fun h => absurd h (by omega), fun h => absurd h (by omega), rfl, fun j u hj => by simp [cvs] at hj, fun j hj => by omega⟩
theorem Came.addr0 {w : World} {ao ao' : Option Addr} {b off n cap : Nat} {l : List Cl} (h : Came w 2 ao b off n cap (cvs l)) (h0 : cap = 0) : Came w 2 ao' b off n cap (cvs l) := by
  subst h0
  exact ⟨h.le, fun hp => absurd hp (by omega), h.lt, h.oldsLen, h.olds, h.spare⟩
/-- What came in reads as its list. -/
theorem CellsAt.of_came {w : World} {ao : Option Addr} {b off n cap : Nat} {l : List Cl} (h : Came w 2 ao b off n cap (cvs l)) (hi : ∀ c ∈ l, InC c) : CellsAt w.heap.size w ao n l := by
  have hl : l.length = n := by have := h.oldsLen; rw [cvs_length] at this; omega
  refine ⟨hl, hi, fun hp => ⟨b, off, h.addr (by have := h.le; omega), h.lt (by have := h.le; omega), fun k hk => ?_⟩⟩
  have hg := cvs_get l k (by omega)
  exact ⟨h.olds _ _ hg.1, by have := h.olds _ _ hg.2; rw [show off + k * 2 + 1 = off + (k * 2 + 1) by omega]; exact this⟩
theorem Came.kept {w w' : World} {r : Option Nat} {ao : Option Addr} {b off n cap : Nat} {olds : List Value} (h : Came w 2 ao b off n cap olds) (hg : w.grownBy w' r) (hr : 0 < cap → r ≠ some b) : Came w' 2 ao b off n cap olds := by
  have hs := hg.size
  have hle := h.le
  by_cases hc : 0 < cap
  · have hblk := hg.block b (h.lt hc) (fun e => hr hc e.symm)
    refine ⟨h.le, h.addr, fun hp => by have := h.lt hp; omega, h.oldsLen, fun j u hj => ?_, fun j hj => ?_⟩
    · exact (World.cell?_of_block (a := ⟨b, off + j, none⟩) hblk).trans (h.olds j u hj)
    · have := h.spare j hj
      exact ⟨by rw [World.cell?_of_block (a := ⟨b, off + n * 2 + j, none⟩) hblk]; exact this.1, by rw [World.frozen?_of_block (a := ⟨b, off + n * 2 + j, none⟩) hblk]; exact this.2⟩
  · obtain rfl : cap = 0 := by omega
    obtain rfl : n = 0 := by omega
    have hol := h.oldsLen
    refine ⟨h.le, h.addr, fun hp => absurd hp hc, h.oldsLen, fun j u hj => ?_, fun j hj => by omega⟩
    have := (List.getElem?_eq_some_iff.1 hj).1
    omega

/-- A drawn list of cells. -/
def GivesA (B g : Nat) (w : World) (e : Ending) (w' : World) : Prop := ∃ (ad : Addr) (gg off n cap : Nat) (l : List Cl), e = .returned (.slice (some ad) n cap) ∧ Came w' 2 (some ad) gg off n cap (cvs l) ∧ (0 < cap → w.heap.size ≤ gg) ∧ cap ≤ maxLen ∧ (∀ c ∈ l, InC c) ∧ l.length = n ∧ n ≤ 9 ∧ Cur B w' g ∧ w.grownBy w' (some g)

set_option maxRecDepth 100000 in
theorem dShape (B g : Nat) (w : World) (hc : Cur B w g) :
    Calls Tryz.prog 78 #[.pointer (some ⟨g, 0, none⟩)] w (GivesD B g w) := by
  have HC := Lib.hid hc
  clear hc
  go_enter Tryz.func78, Tryz.ntmps78
  go_wp2_with fail
  refine (dBelow B g 7 _ HC.out (by omega) (by omega)).mono ?_
  rintro e w1 ⟨x, hx0, hx1, rfl, hc1, hg1⟩
  obtain ⟨j, rfl⟩ := Int.eq_ofNat_of_zero_le hx0
  have HC1 := Lib.hid hc1
  have HG1 := Lib.hid hg1
  have hs := hg1.size
  clear hc1 hg1
  go_wp2_with fail
  have ej : (1 : Int) + (j : Int) = ((1 + j : Nat) : Int) := by omega
  simp only [ej]
  clear ej
  refine (dGrow B g (1 + j) w1 HC1.out (by omega)).mono ?_
  rintro e w2 ⟨gg, cap, l, rfl, hown, hin, hl1, hl8, hc2, hg2⟩
  have HR := Lib.hid (show GivesD B g w (.returned (.slice (some ⟨gg, 0, none⟩) l.length cap)) w2 from ⟨gg, cap, l, rfl, own_below hown hs, hin, hl1, hl8, hc2, grow_trans HG1.out hg2⟩)
  clear hown hc2 hg2
  generalize l.length = m at *
  go_wp2
  go_ret
  exact HR.out

theorem givesA_own {B g gg n cap : Nat} {w w' : World} {l : List Cl} (ho : w'.ownsRow w.heap.size 79 2 (.slice (some ⟨gg, 0, none⟩) n cap) n (cvs l)) (hi : ∀ c ∈ l, InC c) (hn : n ≤ 9) (hc : Cur B w' g) (hg : w.grownBy w' (some g)) :
    GivesA B g w (.returned (.slice (some ⟨gg, 0, none⟩) n cap)) w' := by
  obtain ⟨h1, h2, h3, h4, h5⟩ := came_own ho
  exact ⟨_, gg, 0, n, cap, l, rfl, h1, fun _ => h2, h4, hi, h5, hn, hc, hg⟩
theorem inC_of {p q : Int} (h1 : -9223372036854775808 ≤ p ∧ p ≤ 9223372036854775807) (h2 : -9223372036854775808 ≤ q ∧ q ≤ 9223372036854775807) : InC (p, q) := by
  unfold InC
  dsimp only
  omega
theorem inC_snoc {l : List Cl} {c : Cl} (h : ∀ c ∈ l, InC c) (hc : InC c) : ∀ x ∈ l ++ [c], InC x := fun x hx => by
  rcases List.mem_append.1 hx with h1 | h1
  · exact h x h1
  · obtain rfl := List.mem_singleton.1 h1
    exact hc
theorem sortU_inC {l : List Cl} (h : ∀ c ∈ l, InC c) : ∀ c ∈ sortU l, InC c := fun c hc => h c ((sortU_mem l c).1 hc)

set_option maxHeartbeats 2000000 in
set_option maxRecDepth 100000 in
theorem dAny (B g : Nat) (w : World) (hc : Cur B w g) :
    Calls Tryz.prog 63 #[.pointer (some ⟨g, 0, none⟩)] w (GivesA B g w) := by
  have hlt := hc.lt
  obtain ⟨hl1, hl2⟩ := hlt
  have HC := Lib.hid hc
  clear hc
  go_enter Tryz.func63, Tryz.ntmps63
  go_wp2_with fail
  refine (dShape B g _ HC.out).mono ?_
  rintro e w1 ⟨gg, cap, l, rfl, hown1, hin, hm1, hm8, hc1, hg1⟩
  have hs1 := hg1.size
  have hggw := (hown1.lt gg rfl)
  have hgne : gg ≠ g := by omega
  have HIN := Lib.hid hin
  have HC1 := Lib.hid hc1
  have HG1 := Lib.hid hg1
  have HO1 := Lib.hid hown1
  generalize hm : l.length = m at *
  have HM := Lib.hid hm
  clear hin hc1 hg1 hown1 HC hm
  go_wp2_with fail
  refine (dBelow B g 12 _ HC1.out (by omega) (by omega)).mono ?_
  rintro e w2 ⟨d, hd0, hd1, rfl, hc2, hg2⟩
  have HO2 := Lib.hid (HO1.out.kept hg2 (.inr (by intro e; have h9 : gg = g := Option.some.inj e; omega)))
  have HC2 := Lib.hid hc2
  have HG2 := Lib.hid (grow_trans HG1.out hg2)
  have hs2 := HG2.out.size
  clear hc2 hg2 HC1 HG1 HO1
  have hd : d = 0 ∨ d = 1 ∨ d = 2 ∨ d = 3 ∨ 4 ≤ d := by omega
  rcases hd with rfl | rfl | rfl | rfl | hd
  · go_wp2_with fail
    refine (dBelow B g 9 _ HC2.out (by omega) (by omega)).mono ?_
    rintro e w3 ⟨x, hx0, hx1, rfl, hc3, hg3⟩
    have HO3 := Lib.hid (HO2.out.kept hg3 (.inr (by intro e; have h9 : gg = g := Option.some.inj e; omega)))
    have HC3 := Lib.hid hc3
    have HG3 := Lib.hid (grow_trans HG2.out hg3)
    clear hc3 hg3 HO2 HC2 HG2
    go_wp2_with fail
    refine (dBelow B g 9 _ HC3.out (by omega) (by omega)).mono ?_
    rintro e w4 ⟨y, hy0, hy1, rfl, hc4, hg4⟩
    have HO4 := Lib.hid (HO3.out.kept hg4 (.inr (by intro e; have h9 : gg = g := Option.some.inj e; omega)))
    have HC4 := Lib.hid hc4
    have HG4 := Lib.hid (grow_trans HG3.out hg4)
    have hs4 := HG4.out.size
    clear hc4 hg4 HO3 HC3 HG3
    go_wp2_with (first | (at_builtin; refine wpList_cells rfl _ _ rfl w.heap.size gg m cap l ⟨w4.heap.size, 0, none⟩ 1 1 [(x - 1, y)] rfl rfl (HO4.out.alloc _) rfl (lies_block (t := 79) (fr := (0, 0)) (heap_alloc_new _ _)) (by omega) ?c5 (w4.heap.size + 1) ?c6 ?_) | go_in)
    case c5 => simp; omega
    case c6 => simp
    intro g' cc' w5 hown5 hgrow5 hat5 hgb5 hlt5
    have hc5 := (HC4.out.alloc (.cells #[.int .i64 (x - 1), .int .i64 y] 79)).grown hgrow5 (fun x hx => by cases hx; omega)
    have hg5 := grow_new (grow_trans HG4.out (World.grownBy_alloc w4 (.cells #[.int .i64 (x - 1), .int .i64 y] 79) (some g))) hgrow5 (fun x hx => by cases hx; omega)
    have HR := Lib.hid (givesA_own hown5 (inC_snoc HIN.out (inC_of (by omega) (by omega))) (by omega) hc5 hg5)
    clear hown5 hgrow5 hc5 hg5
    go_wp2
    go_ret
    exact HR.out
  · go_wp2_with fail
    refine (dBelow B g 8 _ HC2.out (by omega) (by omega)).mono ?_
    rintro e w3 ⟨x, hx0, hx1, rfl, hc3, hg3⟩
    have HO3 := Lib.hid (HO2.out.kept hg3 (.inr (by intro e; have h9 : gg = g := Option.some.inj e; omega)))
    have HC3 := Lib.hid hc3
    have HG3 := Lib.hid (grow_trans HG2.out hg3)
    clear hc3 hg3 HO2 HC2 HG2
    go_wp2_with fail
    refine (dBelow B g 8 _ HC3.out (by omega) (by omega)).mono ?_
    rintro e w4 ⟨y, hy0, hy1, rfl, hc4, hg4⟩
    have HO4 := Lib.hid (HO3.out.kept hg4 (.inr (by intro e; have h9 : gg = g := Option.some.inj e; omega)))
    have HC4 := Lib.hid hc4
    have HG4 := Lib.hid (grow_trans HG3.out hg4)
    have hs4 := HG4.out.size
    clear hc4 hg4 HO3 HC3 HG3
    go_wp2_with (first | (at_builtin; refine wpList_cells rfl _ _ rfl w.heap.size gg m cap l ⟨w4.heap.size, 0, none⟩ 1 1 [(x, y)] rfl rfl (HO4.out.alloc _) rfl (lies_block (t := 79) (fr := (0, 0)) (heap_alloc_new _ _)) (by omega) ?c5 (w4.heap.size + 1) ?c6 ?_) | go_in)
    case c5 => simp; omega
    case c6 => simp
    intro g' cc' w5 hown5 hgrow5 hat5 hgb5 hlt5
    have HL5 := Lib.hid (inC_snoc HIN.out (inC_of (p := x) (q := y) (by omega) (by omega)))
    have HC5 := Lib.hid ((HC4.out.alloc (.cells #[.int .i64 x, .int .i64 y] 79)).grown hgrow5 (fun x hx => by cases hx; omega))
    have HG5 := Lib.hid (grow_new (grow_trans HG4.out (World.grownBy_alloc w4 (.cells #[.int .i64 x, .int .i64 y] 79) (some g))) hgrow5 (fun x hx => by cases hx; omega))
    have HA5 := Lib.hid (CellsAt.of_own hown5 HL5.out)
    have hs5 := HG5.out.size
    have HLN := Lib.hid (show (l ++ [(x, y)]).length = m + 1 by rw [List.length_append, HM.out]; rfl)
    clear hown5 hgrow5
    generalize l ++ [(x, y)] = l5 at *
    go_wp2_with fail
    refine (sSort w5.heap.size (m + 1) cc' _ l5 w5 (by omega) HA5.out (Nat.le_refl _)).mono ?_
    rintro e w6 ⟨g6, c6, rfl, hown6, hb6⟩
    have hsl := sortU_len l5
    rw [HLN.out] at hsl
    have HR := Lib.hid (givesA_own (own_below hown6 (by omega)) (sortU_inC HL5.out) (by omega) (HC5.out.grown (grow_below hb6 none) (fun k hk => by cases hk)) (grow_trans HG5.out (grow_below hb6 (some g))))
    clear hown6 hb6
    go_wp2
    go_ret
    exact HR.out
  · obtain ⟨hcam, hcb, hcl, hcm, -⟩ := came_own HO2.out
    have hle := hcam.le
    have hcap63 : cap ≤ 9223372036854775807 := by unfold maxLen at hcm; omega
    have htl : ∀ c ∈ l.tail, InC c := fun c hc => HIN.out c (List.mem_of_mem_tail hc)
    have htn : l.tail.length = m - 1 := by rw [List.length_tail, HM.out]
    have hct := Came.tail hcam hm1
    by_cases hc1 : cap = 1
    · have HR := Lib.hid (show GivesA B g w (.returned (.slice (some ⟨gg, 0, none⟩) (m - 1) 0)) w2 from
        ⟨_, gg, 2, m - 1, 0, l.tail, rfl, by have := Came.addr0 hct (ao' := some ⟨gg, 0, none⟩) (by omega); rw [show cap - 1 = 0 by omega] at this; exact this, fun h => absurd h (by omega), by simp [maxLen], htl, htn, by omega, HC2.out, HG2.out⟩)
      clear hcam htl htn hct
      go_wp2
      go_ret
      exact HR.out
    · have HR := Lib.hid (show GivesA B g w (.returned (.slice (some ⟨gg, 2, none⟩) (m - 1) (cap - 1))) w2 from
        ⟨_, gg, 2, m - 1, cap - 1, l.tail, rfl, hct, fun _ => hcb, by omega, htl, htn, by omega, HC2.out, HG2.out⟩)
      clear hcam htl htn hct
      go_wp2
      go_ret
      exact HR.out
  · go_wp2_with fail
    refine (dPick B g w2.heap.size 3 [-1, 8, 9223372036854775807] _ (HC2.out.alloc _) (by omega) (by omega) rfl (heap_alloc_new _ _) (by omega) (by decide)).mono ?_
    rintro e w4 ⟨x, hx0, hx1, rfl, hc4, hg4⟩
    have HO4 := Lib.hid ((HO2.out.alloc (.cells #[.int .i64 (-1), .int .i64 8, .int .i64 9223372036854775807] 3)).kept hg4 (.inr (by intro e; have h9 : gg = g := Option.some.inj e; omega)))
    have HG4 := Lib.hid (grow_trans HG2.out (grow_trans (World.grownBy_alloc w2 (.cells #[.int .i64 (-1), .int .i64 8, .int .i64 9223372036854775807] 3) (some g)) hg4))
    have HC4 := Lib.hid hc4
    clear hc4 hg4
    have q0 : w4.cell? ⟨gg, 0, none⟩ = some (.int .i64 (l.getD 0 (0, 0)).1) := by
      rw [HO4.out.cellAt 0 (by omega)]
      exact (cvs_get l 0 (by have := HM.out; omega)).1
    have q1 : w4.frozen? ⟨gg, 0, none⟩ = false := HO4.out.frozenAt 0
    have hst := HO4.out.stored 0 (.int .i64 x)
    have hcs : ∃ l' : List Cl, (cvs l).set 0 (.int .i64 x) = cvs l' ∧ (∀ c ∈ l', InC c) := by
      have h1 := HM.out
      have h2 := HIN.out
      cases l with
      | nil => simp at h1; omega
      | cons c r =>
        refine ⟨(x, c.2) :: r, by simp [cvs_cons], fun d hd => ?_⟩
        rcases List.mem_cons.1 hd with rfl | h
        · have := h2 c (List.mem_cons_self ..)
          unfold InC at this
          exact inC_of ⟨hx0, hx1⟩ ⟨this.2.2.1, this.2.2.2⟩
        · exact h2 d (List.mem_cons_of_mem _ h)
    obtain ⟨l', e1, e2⟩ := hcs
    rw [e1] at hst
    have HR := Lib.hid (givesA_own hst.1 e2 (by omega) (HC4.out.grown hst.2 (fun k hk => by cases hk; exact ⟨by omega, hgne⟩)) (grow_new HG4.out hst.2 (fun k hk => by cases hk; exact hggw.1)))
    clear hst e1 e2
    go_wp2
    go_ret
    exact HR.out
  · have t0 : ((d : Int) == 0) = false := by simp; omega
    have t1 : ((d : Int) == 1) = false := by simp; omega
    have t2 : ((d : Int) == 2) = false := by simp; omega
    have t3 : ((d : Int) == 3) = false := by simp; omega
    have HR := Lib.hid (givesA_own HO2.out HIN.out (by omega) HC2.out HG2.out)
    go_wp2
    go_ret
    exact HR.out

end Go.Proofs.YtcfioncnpfoccaaGreatDoor
