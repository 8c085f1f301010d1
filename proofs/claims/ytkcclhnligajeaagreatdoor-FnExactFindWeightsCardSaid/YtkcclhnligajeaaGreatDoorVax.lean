/-
  The bounds of a list of cells, in the program: what the call gives.
  The mask of some cells, in the program: what the call gives.
  The size of a shape, in the program: what the call gives.
  Looking for a cell, and equal lists of cells, in the program: what each call gives.
-/
import Derived.Test.YtkcclhnligajeaaGreatDoorVas
import Derived.Test.YtkcclhnligajeaaGreatDoorVad
import Derived.Test.YtkcclhnligajeaaGreatDoorVaq
namespace Go.Proofs.YtkcclhnligajeaaGreatDoor

section
open Go.RowKit

def lstX (l : List Cl) : Int := lstTo Prod.fst l l.length
def lstY (l : List Cl) : Int := lstTo Prod.snd l l.length
def grtX (l : List Cl) : Int := grtTo Prod.fst l l.length
def grtY (l : List Cl) : Int := grtTo Prod.snd l l.length

/-- A block of one cell. -/
def Two (w : World) (g : Nat) (x y : Int) : Prop := w.heap[g]? = some (.cells #[.int .i64 x, .int .i64 y] 126 (0, 0))
theorem Two.lt {w : World} {g : Nat} {x y : Int} (h : Two w g x y) : g < w.heap.size := (Array.getElem?_eq_some_iff.1 h).1
theorem Two.c0 {w : World} {g : Nat} {x y : Int} (h : Two w g x y) : w.cell? ⟨g, 0, none⟩ = some (.int .i64 x) := cell_of_row w g 0 _ _ _ h
theorem Two.c1 {w : World} {g : Nat} {x y : Int} (h : Two w g x y) : w.cell? ⟨g, 1, none⟩ = some (.int .i64 y) := cell_of_row w g 1 _ _ _ h
theorem Two.f0 {w : World} {g : Nat} {x y : Int} (h : Two w g x y) (j : Nat) : w.frozen? ⟨g, j, none⟩ = false := by unfold Two at h; simp [World.frozen?, h]
theorem Two.new {w : World} {N : Nat} (x y : Int) (h : w.heap.size = N) : Two (w.alloc (.cells #[.int .i64 x, .int .i64 y] 126)) N x y := by subst h; exact heap_alloc_new _ _
theorem Two.alloc {w : World} {g : Nat} {x y : Int} (h : Two w g x y) (o : Obj) : Two (w.alloc o) g x y := (Below.heap_alloc w o g h.lt).trans h
theorem Two.on {w w' : World} {g B : Nat} {x y : Int} (h : Two w g x y) (hb : Below B w w') (hlt : g < B) : Two w' g x y := (hb.block g hlt).trans h
theorem Two.set {w : World} {g : Nat} {x y : Int} (h : Two w g x y) (u v : Int) : Two ((w.setCell ⟨g, 0, none⟩ (.int .i64 u)).setCell ⟨g, 1, none⟩ (.int .i64 v)) g u v := by
  have := set_row (set_row h 0 (.int .i64 u)) 1 (.int .i64 v)
  unfold Two
  simpa using this
theorem Two.at2 {w : World} (a b : Obj) (x y : Int) : Two (((w.alloc a).alloc b).alloc (.cells #[.int .i64 x, .int .i64 y] 126)) (w.heap.size + 1 + 1) x y := Two.new x y (by simp)
theorem Two.at3 {w : World} (a b c : Obj) (x y : Int) : Two ((((w.alloc a).alloc b).alloc c).alloc (.cells #[.int .i64 x, .int .i64 y] 126)) (w.heap.size + 1 + 1 + 1) x y := Two.new x y (by simp)
theorem Two.far {w : World} {g g' j : Nat} {x y : Int} {v : Value} (h : Two w g x y) (hne : g' ≠ g) : Two (w.setCell ⟨g', j, none⟩ v) g x y := (Below.heap_setCell w ⟨g', j, none⟩ v g (fun e => hne e.symm)).trans h

set_option maxHeartbeats 2000000 in
set_option maxRecDepth 100000 in
theorem iBounds (B n cap : Nat) (a : Option Addr) (l : List Cl) (w : World) (hn : n ≤ 4194304) (h0 : 0 < n) (hc : CellsAt B w a n l) (hB : B ≤ w.heap.size) :
    Calls Tryz.prog 192 #[.slice a n cap] w fun e w' => e = .returned (.tuple #[.agg #[.int .i64 (lstX l), .int .i64 (lstY l)], .agg #[.int .i64 (grtX l), .int .i64 (grtY l)]]) ∧ Below w.heap.size w w' := by
  obtain ⟨b1, o1, rfl, hb1, hc1⟩ := hc.2.2 h0
  have H := Lib.hid hc
  clear hc
  obtain ⟨x0, y0, hxy0⟩ : ∃ x y, l.getD 0 (0, 0) = (x, y) := ⟨_, _, rfl⟩
  have z1 := (hc1 0 h0).1
  have z2 := (hc1 0 h0).2
  rw [hxy0] at z1 z2
  simp only [Nat.zero_mul, Nat.add_zero] at z1 z2
  have hz1 : (0 : Int) < (n : Int) := by omega
  have hbl : b1 < w.heap.size := by omega
  have HX0 := Lib.hid hxy0
  clear hxy0
  go_enter Tryz.func192, Tryz.ntmps192
  go_wp2_with fail
  go_region_held3 (fun w' => w'.cell? ⟨b1, o1, none⟩ = some (.int .i64 x0) ∧ w'.cell? ⟨b1, o1 + 1, none⟩ = some (.int .i64 y0)) (first | (simp (config := { maxDischargeDepth := 12 }) [*, World.cell?_alloc_some])) (fail)
  rotate_left
  generalize hp : w.heap.size + 1 + 1 + 1 = p
  generalize hq : w.heap.size + 1 + 1 = q
  rotate_left
  generalize hq : w.heap.size + 1 + 1 + 1 = q
  generalize hp : w.heap.size + 1 + 1 = p
  all_goals
    generalize hW : World.drew _ = W1
    have hb0 : Below w.heap.size w W1 := by rw [← hW]; exact (((((Below.refl _ _).alloc (Nat.le_refl _) _).alloc (by simp) _).alloc (by simp; omega) _).alloc (by simp; omega) _).drew
    have r0 : Two W1 w.heap.size 0 0 := by rw [← hW]; exact (((Two.new (w := w) 0 0 rfl).alloc _).alloc _).alloc _
    have r1 : Two W1 (w.heap.size + 1) 0 0 := by rw [← hW]; exact ((Two.new 0 0 (by simp)).alloc _).alloc _
    have rp : Two W1 p x0 y0 := by rw [← hW, ← hp]; first | exact (Two.at2 _ _ x0 y0).alloc _ | exact Two.at3 _ _ _ x0 y0
    have rq : Two W1 q x0 y0 := by rw [← hW, ← hq]; first | exact (Two.at2 _ _ x0 y0).alloc _ | exact Two.at3 _ _ _ x0 y0
    have hpq : p ≠ q ∧ p ≠ w.heap.size ∧ p ≠ w.heap.size + 1 ∧ q ≠ w.heap.size ∧ q ≠ w.heap.size + 1 ∧ w.heap.size ≤ p ∧ w.heap.size ≤ q := by omega
    have HPQ := Lib.hid hpq
    have HR := Lib.hid (show _ ∧ _ ∧ _ ∧ _ from ⟨r0, r1, rp, rq⟩)
    have HB0 := Lib.hid hb0
    clear hW hp hq hpq r0 r1 rp rq hb0
    simp only [Exit.then]
    go_wp2
    go_loopw [16] (fun i wr => ∃ k : Nat, k ≤ n ∧ i = .int .i64 k ∧ Hid (Two wr w.heap.size 0 0 ∧ Two wr (w.heap.size + 1) 0 0) ∧ Hid (Two wr p (lstTo Prod.fst l k) (lstTo Prod.snd l k) ∧ Two wr q (grtTo Prod.fst l k) (grtTo Prod.snd l k)) ∧ Below w.heap.size w wr) (fun i _ => n - (intOf i).toNat)
    case atStart =>
      refine ⟨0, by omega, rfl, ⟨HR.out.1, HR.out.2.1⟩, ⟨?_, ?_⟩, HB0.out⟩
      · have := HR.out.2.2.1
        simp only [lstTo]
        rw [HX0.out]
        exact this
      · have := HR.out.2.2.2
        simp only [grtTo]
        rw [HX0.out]
        exact this
    case round =>
      obtain ⟨k, hk, rfl, hRR, hPQ, hb⟩ := hrel
      have hsz := hb.size
      by_cases hlt : k < n
      · obtain ⟨x, y, hxy⟩ : ∃ x y, l.getD k (0, 0) = (x, y) := ⟨_, _, rfl⟩
        have p1 := (hb.cell (p := ⟨b1, o1 + k * 2, none⟩) (Nat.lt_of_lt_of_le hb1 hB)).trans (hc1 k hlt).1
        have p2 := (hb.cell (p := ⟨b1, o1 + k * 2 + 1, none⟩) (Nat.lt_of_lt_of_le hb1 hB)).trans (hc1 k hlt).2
        rw [hxy] at p1 p2
        have HX := Lib.hid hxy
        have hkz : (0 : Int) ≤ (k : Int) := by omega
        have hk1 : (k : Int) < (n : Int) := by omega
        have s1 : lstTo Prod.fst l (k + 1) = if x < lstTo Prod.fst l k then x else lstTo Prod.fst l k := by rw [lstTo_step, hxy]
        have s2 : lstTo Prod.snd l (k + 1) = if y < lstTo Prod.snd l k then y else lstTo Prod.snd l k := by rw [lstTo_step, hxy]
        have s3 : grtTo Prod.fst l (k + 1) = if grtTo Prod.fst l k < x then x else grtTo Prod.fst l k := by rw [grtTo_step, hxy]
        have s4 : grtTo Prod.snd l (k + 1) = if grtTo Prod.snd l k < y then y else grtTo Prod.snd l k := by rw [grtTo_step, hxy]
        have HS := Lib.hid (show _ ∧ _ ∧ _ ∧ _ from ⟨s1, s2, s3, s4⟩)
        generalize lstTo Prod.fst l k = a1 at hPQ HS
        generalize lstTo Prod.snd l k = a2 at hPQ HS
        generalize grtTo Prod.fst l k = a3 at hPQ HS
        generalize grtTo Prod.snd l k = a4 at hPQ HS
        have hpl := hPQ.out.1.lt
        have hql := hPQ.out.2.lt
        have g1 := hPQ.out.1.c0
        have g2 := hPQ.out.1.c1
        have g3 := hPQ.out.2.c0
        have g4 := hPQ.out.2.c1
        have e1 := hPQ.out.1.f0 0
        have e2 := hPQ.out.1.f0 1
        have e3 := hPQ.out.2.f0 0
        have e4 := hPQ.out.2.f0 1
        have hbl2 : b1 < wr.heap.size := by omega
        have hne1 : p ≠ wr.heap.size := by omega
        have hne2 : q ≠ wr.heap.size := by omega
        have hne3 : b1 ≠ p := by have := HPQ.out; omega
        have hne4 : b1 ≠ q := by have := HPQ.out; omega
        have hne5 : p ≠ q := HPQ.out.1
        clear hxy hc1 s1 s2 s3 s4
        go_wp2
        go_roundw
        case rel =>
          have hpg := HPQ.out
          have hb4 := (((hb.setCell (p := ⟨p, 0, none⟩) hpg.2.2.2.2.2.1 (.int .i64 (if x < a1 then x else a1))).setCell (p := ⟨p, 1, none⟩) hpg.2.2.2.2.2.1 (.int .i64 (if y < a2 then y else a2))).setCell (p := ⟨q, 0, none⟩) hpg.2.2.2.2.2.2 (.int .i64 (if a3 < x then x else a3))).setCell (p := ⟨q, 1, none⟩) hpg.2.2.2.2.2.2 (.int .i64 (if a4 < y then y else a4))
          refine ⟨k + 1, by omega, by go_num, ⟨?_, ?_⟩, ⟨?_, ?_⟩, hb4.alloc hb4.size _⟩
          · exact ((((hRR.out.1.far hpg.2.1).far hpg.2.1).far hpg.2.2.2.1).far hpg.2.2.2.1).alloc _
          · exact ((((hRR.out.2.far hpg.2.2.1).far hpg.2.2.1).far hpg.2.2.2.2.1).far hpg.2.2.2.2.1).alloc _
          · rw [HS.out.1, HS.out.2.1]
            exact (((hPQ.out.1.set _ _).far hpg.1.symm).far hpg.1.symm).alloc _
          · rw [HS.out.2.2.1, HS.out.2.2.2]
            exact (((hPQ.out.2.far hpg.1).far hpg.1).set _ _).alloc _
        case measure => simp [intOf]; omega
      · obtain rfl : k = n := by omega
        have t1 : lstX l = lstTo Prod.fst l k := by unfold lstX; rw [H.out.1]
        have t2 : lstY l = lstTo Prod.snd l k := by unfold lstY; rw [H.out.1]
        have t3 : grtX l = grtTo Prod.fst l k := by unfold grtX; rw [H.out.1]
        have t4 : grtY l = grtTo Prod.snd l k := by unfold grtY; rw [H.out.1]
        rw [← t1, ← t2, ← t3, ← t4] at hPQ
        clear t1 t2 t3 t4
        have hpl := hPQ.out.1.lt
        have hql := hPQ.out.2.lt
        have g1 := hPQ.out.1.c0
        have g2 := hPQ.out.1.c1
        have g3 := hPQ.out.2.c0
        have g4 := hPQ.out.2.c1
        have r1 := hRR.out.1.c0
        have r2 := hRR.out.1.c1
        have r3 := hRR.out.2.c0
        have r4 := hRR.out.2.c1
        have e1 := hRR.out.1.f0 0
        have e2 := hRR.out.1.f0 1
        have e3 := hRR.out.2.f0 0
        have e4 := hRR.out.2.f0 1
        have hn1 : p ≠ w.heap.size := HPQ.out.2.1
        have hn2 : p ≠ w.heap.size + 1 := HPQ.out.2.2.1
        have hn3 : q ≠ w.heap.size := HPQ.out.2.2.2.1
        have hn4 : q ≠ w.heap.size + 1 := HPQ.out.2.2.2.2.1
        clear hc1
        generalize hA1 : lstX l = a1 at hPQ g1
        have A1 := Lib.hid hA1
        clear hA1
        generalize hA2 : lstY l = a2 at hPQ g2
        have A2 := Lib.hid hA2
        clear hA2
        generalize hA3 : grtX l = a3 at hPQ g3
        have A3 := Lib.hid hA3
        clear hA3
        generalize hA4 : grtY l = a4 at hPQ g4
        have A4 := Lib.hid hA4
        clear hA4
        go_wp2_with fail
        go_region_held3 (fun w' => w'.cell? ⟨p, 0, none⟩ = some (.int .i64 a1) ∧ w'.cell? ⟨p, 1, none⟩ = some (.int .i64 a2) ∧ w'.cell? ⟨q, 0, none⟩ = some (.int .i64 a3) ∧ w'.cell? ⟨q, 1, none⟩ = some (.int .i64 a4))
          (first | (simp (config := { maxDischargeDepth := 12 }) [*, Ne.symm hn1, Ne.symm hn2, Ne.symm hn3, Ne.symm hn4, World.cell?_setCell_far])) (fail)
        all_goals
          generalize hW2 : World.drew _ = W2
          have hb2 : Below w.heap.size w W2 := by rw [← hW2]; exact ((((hb.setCell (p := ⟨w.heap.size, 0, none⟩) (Nat.le_refl _) _).setCell (p := ⟨w.heap.size, 1, none⟩) (Nat.le_refl _) _).setCell (p := ⟨w.heap.size + 1, 0, none⟩) (Nat.le_succ _) _).setCell (p := ⟨w.heap.size + 1, 1, none⟩) (Nat.le_succ _) _).drew
          have T1 : Two W2 w.heap.size a1 a2 := by rw [← hW2]; exact ((hRR.out.1.set a1 a2).far (Nat.succ_ne_self _)).far (Nat.succ_ne_self _)
          have T2 : Two W2 (w.heap.size + 1) a3 a4 := by rw [← hW2]; exact ((hRR.out.2.far (Nat.succ_ne_self _).symm).far (Nat.succ_ne_self _).symm).set a3 a4
          have d1 := T1.c0
          have d2 := T1.c1
          have d3 := T2.c0
          have d4 := T2.c1
          have HB2 := Lib.hid hb2
          clear hW2 T1 T2 hb2 hb
          simp only [Exit.then]
          go_wp2
          refine bodyPost_ret (v := .tuple #[.agg #[.int .i64 a1, .int .i64 a2], .agg #[.int .i64 a3, .int .i64 a4]]) ?_ rfl ⟨by rw [A1.out, A2.out, A3.out, A4.out], HB2.out⟩
          simp [results, Tryz.results192, go_sem, d1, d2, d3, d4]
end

section
open Go.RowKit
end

section
open Go.RowKit

theorem size_no {l : List Cl} (h : isShape l = false) : wideC l = 0 ∧ highC l = 0 := by
  have e : cornS l = [] := if_neg (by rw [h]; simp)
  unfold wideC highC
  rw [e]
  exact ⟨rfl, rfl⟩
theorem size_yes {l : List Cl} (h : isShape l = true) : wideC l = grtX l - lstX l + 1 ∧ highC l = grtY l - lstY l + 1 := by
  have h1 := size_of h
  have h2 := ((isShape_iff l).1 h).1
  unfold grtX grtY lstX lstY
  rw [lst_min _ _ (by omega), lst_min _ _ (by omega)]
  exact h1
theorem bounds_in {l : List Cl} (h : isShape l = true) : (0 ≤ lstX l ∧ lstX l ≤ 7) ∧ (0 ≤ lstY l ∧ lstY l ≤ 7) ∧ (0 ≤ grtX l ∧ grtX l ≤ 7) ∧ (0 ≤ grtY l ∧ grtY l ≤ 7) := by
  obtain ⟨h1, h2, _⟩ := (isShape_iff l).1 h
  have hx : ∀ c ∈ l, 0 ≤ Prod.fst c ∧ Prod.fst c ≤ 7 := fun c hc => by have := inP_out (h2 c hc); omega
  have hy : ∀ c ∈ l, 0 ≤ Prod.snd c ∧ Prod.snd c ≤ 7 := fun c hc => by have := inP_out (h2 c hc); omega
  exact ⟨lstTo_bd _ l (by omega) hx _ (Nat.le_refl _), lstTo_bd _ l (by omega) hy _ (Nat.le_refl _), grtTo_bd _ l (by omega) hx _ (Nat.le_refl _), grtTo_bd _ l (by omega) hy _ (Nat.le_refl _)⟩

set_option maxHeartbeats 1000000 in
set_option maxRecDepth 100000 in
theorem iSize (B n cap : Nat) (a : Option Addr) (l : List Cl) (w : World) (hn : n ≤ 4194304) (hc : CellsAt B w a n l) (hB : B ≤ w.heap.size) :
    Calls Tryz.prog 169 #[.slice a n cap] w fun e w' => e = .returned (.tuple #[.int .i64 (wideC l), .int .i64 (highC l)]) ∧ Below w.heap.size w w' := by
  have H := Lib.hid hc
  clear hc
  by_cases h : isShape l = true
  · have HS := Lib.hid (size_yes h)
    have HBD := Lib.hid (bounds_in h)
    have hl := ((isShape_iff l).1 h).1
    rw [H.out.1] at hl
    go_enter Tryz.func169, Tryz.ntmps169
    go_wp2_with fail
    refine (iIsShape B n cap a l w hn H.out hB).mono ?_
    rintro e w1 ⟨rfl, hb1⟩
    go_wp2_with fail
    refine (iBounds B n cap a l w1 hn (by omega) (H.out.on (hb1.mono hB)) (Nat.le_trans hB hb1.size)).mono ?_
    rintro e w2 ⟨rfl, hb2⟩
    have hb := hb1.trans (hb2.mono hb1.size)
    have hbd := HBD.out
    generalize hA1 : lstX l = a1 at hbd
    generalize hA2 : lstY l = a2 at hbd
    generalize hA3 : grtX l = a3 at hbd
    generalize hA4 : grtY l = a4 at hbd
    have HA := Lib.hid (show _ ∧ _ ∧ _ ∧ _ from ⟨hA1, hA2, hA3, hA4⟩)
    have j1 : IntKind.i64.wrap (a3 - a1) = a3 - a1 := IntWalk.i64_in _ (by omega)
    have j2 : IntKind.i64.wrap (a3 - a1 + 1) = a3 - a1 + 1 := IntWalk.i64_in _ (by omega)
    have j3 : IntKind.i64.wrap (a4 - a2) = a4 - a2 := IntWalk.i64_in _ (by omega)
    have j4 : IntKind.i64.wrap (a4 - a2 + 1) = a4 - a2 + 1 := IntWalk.i64_in _ (by omega)
    clear hA1 hA2 hA3 hA4
    go_wp2_with fail
    go_quiet (fail)
    go_wp2
    go_ret2
    rw [HS.out.1, HS.out.2, HA.out.1, HA.out.2.1, HA.out.2.2.1, HA.out.2.2.2]
    exact ⟨rfl, below_drewn ((hb.alloc hb.size _).alloc (hb.alloc hb.size _).size _) _⟩
  · have h' : isShape l = false := by simpa using h
    have HS := Lib.hid (size_no h')
    clear h
    go_enter Tryz.func169, Tryz.ntmps169
    go_wp2_with fail
    refine (iIsShape B n cap a l w hn H.out hB).mono ?_
    rintro e w1 ⟨rfl, hb1⟩
    go_wp2
    go_ret2
    rw [HS.out.1, HS.out.2]
    exact ⟨rfl, hb1⟩
end

section
open Go.RowKit

set_option maxHeartbeats 1000000 in
set_option maxRecDepth 100000 in
theorem iEqual_same (B n c1 c2 : Nat) (a1 a2 : Option Addr) (l r : List Cl) (w : World) (hn : n ≤ 4194304) (h1 : CellsAt B w a1 n l) (h2 : CellsAt B w a2 n r) (hB : B ≤ w.heap.size) :
    Calls Tryz.prog 191 #[.slice a1 n c1, .slice a2 n c2] w fun e w' => e = .returned (.bool (eqb l r)) ∧ Below w.heap.size w w' := by
  have H1 := Lib.hid h1
  have H2 := Lib.hid h2
  clear h1 h2
  have hne : (((n : Nat) : Int) != (n : Int)) = false := by simp
  go_enter Tryz.func191, Tryz.ntmps191
  go_wp2
  go_loopw [13] (fun i wr => ∃ k : Nat, k ≤ n ∧ i = .int .i64 k ∧ Hid (l.take k = r.take k) ∧ Below w.heap.size w wr) (fun i _ => n - (intOf i).toNat)
  case atStart => exact ⟨0, by omega, rfl, by simp [Hid], Below.refl _ _⟩
  case round =>
    obtain ⟨k, hk, rfl, hsame, hb⟩ := hrel
    have hsz := hb.size
    by_cases hlt : k < n
    · obtain ⟨b1, o1, rfl, hb1, hc1⟩ := H1.out.2.2 (by omega)
      obtain ⟨b2, o2, rfl, hb2, hc2⟩ := H2.out.2.2 (by omega)
      obtain ⟨x, y, hxy⟩ : ∃ x y, l.getD k (0, 0) = (x, y) := ⟨_, _, rfl⟩
      obtain ⟨u, v, huv⟩ : ∃ u v, r.getD k (0, 0) = (u, v) := ⟨_, _, rfl⟩
      have p1 := (hb.cell (p := ⟨b1, o1 + k * 2, none⟩) (Nat.lt_of_lt_of_le hb1 hB)).trans (hc1 k hlt).1
      have p2 := (hb.cell (p := ⟨b1, o1 + k * 2 + 1, none⟩) (Nat.lt_of_lt_of_le hb1 hB)).trans (hc1 k hlt).2
      have q1 := (hb.cell (p := ⟨b2, o2 + k * 2, none⟩) (Nat.lt_of_lt_of_le hb2 hB)).trans (hc2 k hlt).1
      have q2 := (hb.cell (p := ⟨b2, o2 + k * 2 + 1, none⟩) (Nat.lt_of_lt_of_le hb2 hB)).trans (hc2 k hlt).2
      rw [hxy] at p1 p2
      rw [huv] at q1 q2
      have HX := Lib.hid hxy
      have HU := Lib.hid huv
      have hk0 : (0 : Int) ≤ (k : Int) := by omega
      have hk1 : (k : Int) < (n : Int) := by omega
      have hE := neq_cell x y u v
      have hG := cell_guard
      clear hc1 hc2 hxy huv
      go_wp2_with fail
      go_quiet (fail)
      go_wp2
      all_goals
        rename_i hcase
        clear hE hG
        simp [sameC] at hcase
        first
          | (have hd : l.getD k (0, 0) ≠ r.getD k (0, 0) := by
               rw [HX.out, HU.out]
               intro e
               injection e with e1 e2
               subst e1 e2
               simp at hcase
             go_ret
             exact ⟨by rw [eqb_no hd]; rfl, below_drewn hb _⟩)
          | (have hd : l.getD k (0, 0) = r.getD k (0, 0) := by
               rw [HX.out, HU.out, hcase.1, hcase.2]
             have hst := take_same l r k (by have := H1.out.1; omega) (by have := H2.out.1; omega) hsame.out hd
             go_roundw
             case rel => exact ⟨k + 1, by omega, by go_num, hst, below_drewn hb _⟩
             case measure => simp [intOf]; omega)
    · have e : l = r := by
        have h := hsame.out
        rwa [List.take_of_length_le (by have := H1.out.1; omega), List.take_of_length_le (by have := H2.out.1; omega)] at h
      have E := Lib.hid e
      clear e
      go_wp2
      go_ret
      exact ⟨by rw [eqb, E.out]; simp, hb⟩

set_option maxHeartbeats 400000 in
theorem iEqual_any (B n m c1 c2 : Nat) (a1 a2 : Option Addr) (l r : List Cl) (w : World) (hn : n ≤ 4194304) (hm : m ≤ 4194304) (h1 : CellsAt B w a1 n l) (h2 : CellsAt B w a2 m r) (hB : B ≤ w.heap.size) :
    Calls Tryz.prog 168 #[.slice a1 n c1, .slice a2 m c2] w fun e w' => e = .returned (.bool (eqb l r)) ∧ Below w.heap.size w w' := by
  by_cases hnm : n = m
  · subst hnm
    have H1 := Lib.hid h1
    have H2 := Lib.hid h2
    clear h1 h2
    go_enter Tryz.func168, Tryz.ntmps168
    go_wp2_with fail
    refine (iEqual_same B n c1 c2 a1 a2 l r w hn H1.out H2.out hB).mono ?_
    rintro e w1 ⟨rfl, hb1⟩
    go_wp2
    go_ret
    exact ⟨rfl, hb1⟩
  · have hne : (((n : Nat) : Int) != (m : Int)) = true := by rw [bne_iff_ne]; omega
    have he : eqb l r = false := by
      unfold eqb
      simp
      intro e
      have a := h1.1
      have b := h2.1
      rw [e] at a
      omega
    rw [he]
    clear he hnm h1 h2
    go_enter Tryz.func168, Tryz.ntmps168
    go_wp2
    go_ret
    exact ⟨rfl, Below.refl _ _⟩
end

end Go.Proofs.YtkcclhnligajeaaGreatDoor
