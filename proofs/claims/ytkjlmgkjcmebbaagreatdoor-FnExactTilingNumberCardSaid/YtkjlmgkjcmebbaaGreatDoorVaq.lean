/-
  The bounds of a list of cells, in the program: what the call gives.
  The places of a list of cells as a set, in the program: what the call gives.
  A set of shapes that a map keeps, keyed by their places: what it holds, and the laws at the operations.
-/
import Derived.Test.YtkjlmgkjcmebbaaGreatDoorVak
import Derived.Test.YtkjlmgkjcmebbaaGreatDoorVad
import Derived.Test.YtkjlmgkjcmebbaaGreatDoorVap
import Derived.Test.YtkjlmgkjcmebbaaGreatDoorVae
import Derived.Maps.OwnSet
import Derived.Maps.RangeWalk
import Derived.DeepKeys4
import Derived.WideKeyPair
namespace Go.Proofs.YtkjlmgkjcmebbaaGreatDoor

section
open Go.RowKit

def lstX (l : List Cl) : Int := lstTo Prod.fst l l.length
def lstY (l : List Cl) : Int := lstTo Prod.snd l l.length
def grtX (l : List Cl) : Int := grtTo Prod.fst l l.length
def grtY (l : List Cl) : Int := grtTo Prod.snd l l.length

/-- A block of one cell. -/
def Two (w : World) (g : Nat) (x y : Int) : Prop := w.heap[g]? = some (.cells #[.int .i64 x, .int .i64 y] 86 (0, 0))
theorem Two.lt {w : World} {g : Nat} {x y : Int} (h : Two w g x y) : g < w.heap.size := (Array.getElem?_eq_some_iff.1 h).1
theorem Two.c0 {w : World} {g : Nat} {x y : Int} (h : Two w g x y) : w.cell? ⟨g, 0, none⟩ = some (.int .i64 x) := cell_of_row w g 0 _ _ _ h
theorem Two.c1 {w : World} {g : Nat} {x y : Int} (h : Two w g x y) : w.cell? ⟨g, 1, none⟩ = some (.int .i64 y) := cell_of_row w g 1 _ _ _ h
theorem Two.f0 {w : World} {g : Nat} {x y : Int} (h : Two w g x y) (j : Nat) : w.frozen? ⟨g, j, none⟩ = false := by unfold Two at h; simp [World.frozen?, h]
theorem Two.new {w : World} {N : Nat} (x y : Int) (h : w.heap.size = N) : Two (w.alloc (.cells #[.int .i64 x, .int .i64 y] 86)) N x y := by subst h; exact heap_alloc_new _ _
theorem Two.alloc {w : World} {g : Nat} {x y : Int} (h : Two w g x y) (o : Obj) : Two (w.alloc o) g x y := (Below.heap_alloc w o g h.lt).trans h
theorem Two.on {w w' : World} {g B : Nat} {x y : Int} (h : Two w g x y) (hb : Below B w w') (hlt : g < B) : Two w' g x y := (hb.block g hlt).trans h
theorem Two.set {w : World} {g : Nat} {x y : Int} (h : Two w g x y) (u v : Int) : Two ((w.setCell ⟨g, 0, none⟩ (.int .i64 u)).setCell ⟨g, 1, none⟩ (.int .i64 v)) g u v := by
  have := set_row (set_row h 0 (.int .i64 u)) 1 (.int .i64 v)
  unfold Two
  simpa using this
theorem Two.at2 {w : World} (a b : Obj) (x y : Int) : Two (((w.alloc a).alloc b).alloc (.cells #[.int .i64 x, .int .i64 y] 86)) (w.heap.size + 1 + 1) x y := Two.new x y (by simp)
theorem Two.at3 {w : World} (a b c : Obj) (x y : Int) : Two ((((w.alloc a).alloc b).alloc c).alloc (.cells #[.int .i64 x, .int .i64 y] 86)) (w.heap.size + 1 + 1 + 1) x y := Two.new x y (by simp)
theorem Two.far {w : World} {g g' j : Nat} {x y : Int} {v : Value} (h : Two w g x y) (hne : g' ≠ g) : Two (w.setCell ⟨g', j, none⟩ v) g x y := (Below.heap_setCell w ⟨g', j, none⟩ v g (fun e => hne e.symm)).trans h

set_option maxHeartbeats 2000000 in
set_option maxRecDepth 100000 in
theorem iBounds (B n cap : Nat) (a : Option Addr) (l : List Cl) (w : World) (hn : n ≤ 4194304) (h0 : 0 < n) (hc : CellsAt B w a n l) (hB : B ≤ w.heap.size) :
    Calls Tryz.prog 166 #[.slice a n cap] w fun e w' => e = .returned (.tuple #[.agg #[.int .i64 (lstX l), .int .i64 (lstY l)], .agg #[.int .i64 (grtX l), .int .i64 (grtY l)]]) ∧ Below w.heap.size w w' := by
  obtain ⟨b1, o1, rfl, hb1, hc1⟩ := hc.2.2 h0
  have H := Lib.hid hc
  clear hc
  obtain ⟨x0, y0, hxy0⟩ : ∃ x y, l.getD 0 (0, 0) = (x, y) := ⟨_, _, rfl⟩
  have z1 := (hc1 0 h0).1
  have z2 := (hc1 0 h0).2
  rw [hxy0] at z1 z2
  simp only [Nat.zero_mul, Nat.add_zero] at z1 z2
  have hz1 : (0 : Int) < (n : Int) := by omega
  have hbl : b1 < w.heap.size := by omega
  have HX0 := Lib.hid hxy0
  clear hxy0
  go_enter Tryz.func166, Tryz.ntmps166
  go_wp2_with fail
  go_region_held3 (fun w' => w'.cell? ⟨b1, o1, none⟩ = some (.int .i64 x0) ∧ w'.cell? ⟨b1, o1 + 1, none⟩ = some (.int .i64 y0)) (first | (simp (config := { maxDischargeDepth := 12 }) [*, World.cell?_alloc_some])) (fail)
  rotate_left
  generalize hp : w.heap.size + 1 + 1 + 1 = p
  generalize hq : w.heap.size + 1 + 1 = q
  rotate_left
  generalize hq : w.heap.size + 1 + 1 + 1 = q
  generalize hp : w.heap.size + 1 + 1 = p
  all_goals
    generalize hW : World.drew _ = W1
    have hb0 : Below w.heap.size w W1 := by rw [← hW]; exact (((((Below.refl _ _).alloc (Nat.le_refl _) _).alloc (by simp) _).alloc (by simp; omega) _).alloc (by simp; omega) _).drew
    have r0 : Two W1 w.heap.size 0 0 := by rw [← hW]; exact (((Two.new (w := w) 0 0 rfl).alloc _).alloc _).alloc _
    have r1 : Two W1 (w.heap.size + 1) 0 0 := by rw [← hW]; exact ((Two.new 0 0 (by simp)).alloc _).alloc _
    have rp : Two W1 p x0 y0 := by rw [← hW, ← hp]; first | exact (Two.at2 _ _ x0 y0).alloc _ | exact Two.at3 _ _ _ x0 y0
    have rq : Two W1 q x0 y0 := by rw [← hW, ← hq]; first | exact (Two.at2 _ _ x0 y0).alloc _ | exact Two.at3 _ _ _ x0 y0
    have hpq : p ≠ q ∧ p ≠ w.heap.size ∧ p ≠ w.heap.size + 1 ∧ q ≠ w.heap.size ∧ q ≠ w.heap.size + 1 ∧ w.heap.size ≤ p ∧ w.heap.size ≤ q := by omega
    have HPQ := Lib.hid hpq
    have HR := Lib.hid (show _ ∧ _ ∧ _ ∧ _ from ⟨r0, r1, rp, rq⟩)
    have HB0 := Lib.hid hb0
    clear hW hp hq hpq r0 r1 rp rq hb0
    simp only [Exit.then]
    go_wp2
    go_loopw [16] (fun i wr => ∃ k : Nat, k ≤ n ∧ i = .int .i64 k ∧ Hid (Two wr w.heap.size 0 0 ∧ Two wr (w.heap.size + 1) 0 0) ∧ Hid (Two wr p (lstTo Prod.fst l k) (lstTo Prod.snd l k) ∧ Two wr q (grtTo Prod.fst l k) (grtTo Prod.snd l k)) ∧ Below w.heap.size w wr) (fun i _ => n - (intOf i).toNat)
    case atStart =>
      refine ⟨0, by omega, rfl, ⟨HR.out.1, HR.out.2.1⟩, ⟨?_, ?_⟩, HB0.out⟩
      · have := HR.out.2.2.1
        simp only [lstTo]
        rw [HX0.out]
        exact this
      · have := HR.out.2.2.2
        simp only [grtTo]
        rw [HX0.out]
        exact this
    case round =>
      obtain ⟨k, hk, rfl, hRR, hPQ, hb⟩ := hrel
      have hsz := hb.size
      by_cases hlt : k < n
      · obtain ⟨x, y, hxy⟩ : ∃ x y, l.getD k (0, 0) = (x, y) := ⟨_, _, rfl⟩
        have p1 := (hb.cell (p := ⟨b1, o1 + k * 2, none⟩) (Nat.lt_of_lt_of_le hb1 hB)).trans (hc1 k hlt).1
        have p2 := (hb.cell (p := ⟨b1, o1 + k * 2 + 1, none⟩) (Nat.lt_of_lt_of_le hb1 hB)).trans (hc1 k hlt).2
        rw [hxy] at p1 p2
        have HX := Lib.hid hxy
        have hkz : (0 : Int) ≤ (k : Int) := by omega
        have hk1 : (k : Int) < (n : Int) := by omega
        have s1 : lstTo Prod.fst l (k + 1) = if x < lstTo Prod.fst l k then x else lstTo Prod.fst l k := by rw [lstTo_step, hxy]
        have s2 : lstTo Prod.snd l (k + 1) = if y < lstTo Prod.snd l k then y else lstTo Prod.snd l k := by rw [lstTo_step, hxy]
        have s3 : grtTo Prod.fst l (k + 1) = if grtTo Prod.fst l k < x then x else grtTo Prod.fst l k := by rw [grtTo_step, hxy]
        have s4 : grtTo Prod.snd l (k + 1) = if grtTo Prod.snd l k < y then y else grtTo Prod.snd l k := by rw [grtTo_step, hxy]
        have HS := Lib.hid (show _ ∧ _ ∧ _ ∧ _ from ⟨s1, s2, s3, s4⟩)
        generalize lstTo Prod.fst l k = a1 at hPQ HS
        generalize lstTo Prod.snd l k = a2 at hPQ HS
        generalize grtTo Prod.fst l k = a3 at hPQ HS
        generalize grtTo Prod.snd l k = a4 at hPQ HS
        have hpl := hPQ.out.1.lt
        have hql := hPQ.out.2.lt
        have g1 := hPQ.out.1.c0
        have g2 := hPQ.out.1.c1
        have g3 := hPQ.out.2.c0
        have g4 := hPQ.out.2.c1
        have e1 := hPQ.out.1.f0 0
        have e2 := hPQ.out.1.f0 1
        have e3 := hPQ.out.2.f0 0
        have e4 := hPQ.out.2.f0 1
        have hbl2 : b1 < wr.heap.size := by omega
        have hne1 : p ≠ wr.heap.size := by omega
        have hne2 : q ≠ wr.heap.size := by omega
        have hne3 : b1 ≠ p := by have := HPQ.out; omega
        have hne4 : b1 ≠ q := by have := HPQ.out; omega
        have hne5 : p ≠ q := HPQ.out.1
        clear hxy hc1 s1 s2 s3 s4
        go_wp2
        go_roundw
        case rel =>
          have hpg := HPQ.out
          have hb4 := (((hb.setCell (p := ⟨p, 0, none⟩) hpg.2.2.2.2.2.1 (.int .i64 (if x < a1 then x else a1))).setCell (p := ⟨p, 1, none⟩) hpg.2.2.2.2.2.1 (.int .i64 (if y < a2 then y else a2))).setCell (p := ⟨q, 0, none⟩) hpg.2.2.2.2.2.2 (.int .i64 (if a3 < x then x else a3))).setCell (p := ⟨q, 1, none⟩) hpg.2.2.2.2.2.2 (.int .i64 (if a4 < y then y else a4))
          refine ⟨k + 1, by omega, by go_num, ⟨?_, ?_⟩, ⟨?_, ?_⟩, hb4.alloc hb4.size _⟩
          · exact ((((hRR.out.1.far hpg.2.1).far hpg.2.1).far hpg.2.2.2.1).far hpg.2.2.2.1).alloc _
          · exact ((((hRR.out.2.far hpg.2.2.1).far hpg.2.2.1).far hpg.2.2.2.2.1).far hpg.2.2.2.2.1).alloc _
          · rw [HS.out.1, HS.out.2.1]
            exact (((hPQ.out.1.set _ _).far hpg.1.symm).far hpg.1.symm).alloc _
          · rw [HS.out.2.2.1, HS.out.2.2.2]
            exact (((hPQ.out.2.far hpg.1).far hpg.1).set _ _).alloc _
        case measure => simp [intOf]; omega
      · obtain rfl : k = n := by omega
        have t1 : lstX l = lstTo Prod.fst l k := by unfold lstX; rw [H.out.1]
        have t2 : lstY l = lstTo Prod.snd l k := by unfold lstY; rw [H.out.1]
        have t3 : grtX l = grtTo Prod.fst l k := by unfold grtX; rw [H.out.1]
        have t4 : grtY l = grtTo Prod.snd l k := by unfold grtY; rw [H.out.1]
        rw [← t1, ← t2, ← t3, ← t4] at hPQ
        clear t1 t2 t3 t4
        have hpl := hPQ.out.1.lt
        have hql := hPQ.out.2.lt
        have g1 := hPQ.out.1.c0
        have g2 := hPQ.out.1.c1
        have g3 := hPQ.out.2.c0
        have g4 := hPQ.out.2.c1
        have r1 := hRR.out.1.c0
        have r2 := hRR.out.1.c1
        have r3 := hRR.out.2.c0
        have r4 := hRR.out.2.c1
        have e1 := hRR.out.1.f0 0
        have e2 := hRR.out.1.f0 1
        have e3 := hRR.out.2.f0 0
        have e4 := hRR.out.2.f0 1
        have hn1 : p ≠ w.heap.size := HPQ.out.2.1
        have hn2 : p ≠ w.heap.size + 1 := HPQ.out.2.2.1
        have hn3 : q ≠ w.heap.size := HPQ.out.2.2.2.1
        have hn4 : q ≠ w.heap.size + 1 := HPQ.out.2.2.2.2.1
        clear hc1
        generalize hA1 : lstX l = a1 at hPQ g1
        have A1 := Lib.hid hA1
        clear hA1
        generalize hA2 : lstY l = a2 at hPQ g2
        have A2 := Lib.hid hA2
        clear hA2
        generalize hA3 : grtX l = a3 at hPQ g3
        have A3 := Lib.hid hA3
        clear hA3
        generalize hA4 : grtY l = a4 at hPQ g4
        have A4 := Lib.hid hA4
        clear hA4
        go_wp2_with fail
        go_region_held3 (fun w' => w'.cell? ⟨p, 0, none⟩ = some (.int .i64 a1) ∧ w'.cell? ⟨p, 1, none⟩ = some (.int .i64 a2) ∧ w'.cell? ⟨q, 0, none⟩ = some (.int .i64 a3) ∧ w'.cell? ⟨q, 1, none⟩ = some (.int .i64 a4))
          (first | (simp (config := { maxDischargeDepth := 12 }) [*, Ne.symm hn1, Ne.symm hn2, Ne.symm hn3, Ne.symm hn4, World.cell?_setCell_far])) (fail)
        all_goals
          generalize hW2 : World.drew _ = W2
          have hb2 : Below w.heap.size w W2 := by rw [← hW2]; exact ((((hb.setCell (p := ⟨w.heap.size, 0, none⟩) (Nat.le_refl _) _).setCell (p := ⟨w.heap.size, 1, none⟩) (Nat.le_refl _) _).setCell (p := ⟨w.heap.size + 1, 0, none⟩) (Nat.le_succ _) _).setCell (p := ⟨w.heap.size + 1, 1, none⟩) (Nat.le_succ _) _).drew
          have T1 : Two W2 w.heap.size a1 a2 := by rw [← hW2]; exact ((hRR.out.1.set a1 a2).far (Nat.succ_ne_self _)).far (Nat.succ_ne_self _)
          have T2 : Two W2 (w.heap.size + 1) a3 a4 := by rw [← hW2]; exact ((hRR.out.2.far (Nat.succ_ne_self _).symm).far (Nat.succ_ne_self _).symm).set a3 a4
          have d1 := T1.c0
          have d2 := T1.c1
          have d3 := T2.c0
          have d4 := T2.c1
          have HB2 := Lib.hid hb2
          clear hW2 T1 T2 hb2 hb
          simp only [Exit.then]
          go_wp2
          refine bodyPost_ret (v := .tuple #[.agg #[.int .i64 a1, .int .i64 a2], .agg #[.int .i64 a3, .int .i64 a4]]) ?_ rfl ⟨by rw [A1.out, A2.out, A3.out, A4.out], HB2.out⟩
          simp [results, Tryz.results166, go_sem, d1, d2, d3, d4]
end

section
open Go.RowKit

theorem two_pow_int (x : Nat) : (2 : Int) ^ x = ((2 ^ x : Nat) : Int) := by rw [Int.natCast_pow]; rfl
theorem or_bit (r x : Nat) (hr : r < 256) (hx : x ≤ 7) : bits .or .i64 (r : Int) (wrap64 (2 ^ x)) = ((r ||| 2 ^ x : Nat) : Int) := by
  have h1 : 2 ^ x ≤ 2 ^ 7 := Nat.pow_le_pow_right (by omega) hx
  rw [two_pow_int]
  generalize 2 ^ x = p at h1 ⊢
  rw [IntWalk.wrap64_in _ (by omega), i64_or_nat _ _ (by omega) (by omega)]
end

section
open Go.RowKit Go.Maps Go.ChangeMaps Go.MapKept
open Go.WideElems (Fit rd rg pl rd_val)

theorem ps_laid : laidOutB Tryz.prog = true := by kernel_rfl
theorem keyOf_eight {P : Program} {k e : TypeId} {q : IntKind} (A : WideMaps.ArrKey P k e 8) (he : P.underlying e = some (.int q)) (hsz : ∃ m, P.types.size = m + 1) {a b c d a' b' c' d' : Int}
    (h1 : (Lit.int q a).wf = true) (h2 : (Lit.int q b).wf = true) (h3 : (Lit.int q c).wf = true) (h4 : (Lit.int q d).wf = true) (h5 : (Lit.int q a').wf = true) (h6 : (Lit.int q b').wf = true) (h7 : (Lit.int q c').wf = true) (h8 : (Lit.int q d').wf = true) :
    keyOf P k (.agg #[.int q a, .int q b, .int q c, .int q d, .int q a', .int q b', .int q c', .int q d']) = some (.string (keyBytes [.int q a, .int q b, .int q c, .int q d, .int q a', .int q b', .int q c', .int q d'])) := by
  have hkt := A.keyType hsz
  obtain ⟨m, hm⟩ := hsz
  unfold keyOf
  simp only [A.hu]
  rw [if_pos (by simp [hkt, Value.formed, A.hu, A.size]), hm]
  unfold Program.keyLits
  simp only [A.hu, Value.cells]
  rw [if_pos (by rw [A.size]; rfl), show List.range 8 = [0, 1, 2, 3, 4, 5, 6, 7] from rfl]
  simp only [List.mapM_cons, List.mapM_nil]
  simp [A.one, Program.keyLits, he, h1, h2, h3, h4, h5, h6, h7, h8]
theorem wf_row {r : Nat} (h : r < 256) : (Lit.int .i64 (r : Int)).wf = true := by
  simp only [Lit.wf, Bool.and_eq_true, decide_eq_true_eq]
  constructor
  · have : (IntKind.i64.min : Int) ≤ 0 := by decide
    omega
  · have : (256 : Int) ≤ IntKind.i64.max := by decide
    omega
theorem setV_inj {R T : Nat → Nat} (h : setV R = setV T) : ∀ y, y < 8 → R y = T y := by
  unfold setV at h
  simp at h
  obtain ⟨h0, h1, h2, h3, h4, h5, h6, h7⟩ := h
  intro y hy
  have : y = 0 ∨ y = 1 ∨ y = 2 ∨ y = 3 ∨ y = 4 ∨ y = 5 ∨ y = 6 ∨ y = 7 := by omega
  rcases this with rfl | rfl | rfl | rfl | rfl | rfl | rfl | rfl <;> omega
/-- How the map's elements read. -/
noncomputable abbrev RB : Value → Option (DataW Nat × List MemPlace) := plainElem Tryz.prog 4

/-- Of what was below B nothing has turned but block b. -/
structure But (B b : Nat) (w w' : World) : Prop where
  os : w'.os = w.os
  tape : w'.tape = w.tape
  output : w'.output = w.output
  size : w.heap.size ≤ w'.heap.size
  block : ∀ k, k < B → k ≠ b → w'.heap[k]? = w.heap[k]?
theorem But.refl (B b : Nat) (w : World) : But B b w w := ⟨rfl, rfl, rfl, Nat.le_refl _, fun _ _ _ => rfl⟩
theorem But.trans {B b : Nat} {x y z : World} (h : But B b x y) (k : But B b y z) : But B b x z :=
  ⟨k.os.trans h.os, k.tape.trans h.tape, k.output.trans h.output, Nat.le_trans h.size k.size, fun i hi hne => (k.block i hi hne).trans (h.block i hi hne)⟩
theorem But.mono {B B' b : Nat} {w w' : World} (h : But B b w w') (hB : B' ≤ B) : But B' b w w' := ⟨h.os, h.tape, h.output, h.size, fun k hk => h.block k (Nat.lt_of_lt_of_le hk hB)⟩
theorem But.of_below {B b : Nat} {w w' : World} (h : Below B w w') : But B b w w' := ⟨h.os, h.tape, h.output, h.size, fun k hk _ => h.block k hk⟩
theorem But.below {B b : Nat} {w w' : World} (h : But B b w w') {B' : Nat} (h1 : B' ≤ B) (h2 : B' ≤ b) : Below B' w w' := ⟨h.os, h.tape, h.output, h.size, fun k hk => h.block k (by omega) (by omega)⟩
theorem But.grown {b : Nat} {w w' : World} (h : But w.heap.size b w w') : w.grownBy w' (some b) := ⟨h.os, h.tape, h.output, h.size, fun k hk hne => h.block k hk fun e => hne (by rw [e])⟩
theorem But.of_grown {B b : Nat} {w w' : World} (h : w.grownBy w' (some b)) (hB : B ≤ w.heap.size) : But B b w w' := ⟨h.os, h.tape, h.output, h.size, fun k hk hne => h.block k (by omega) fun e => hne (by injection e)⟩
theorem But.alloc {B b : Nat} {x w : World} (h : But B b x w) (hB : B ≤ w.heap.size) (o : Obj) : But B b x (w.alloc o) := h.trans (.of_below ((Below.refl B w).alloc hB o))
theorem But.setCell {B b : Nat} {x w : World} (h : But B b x w) {p : Addr} (hp : B ≤ p.block) (v : Value) : But B b x (w.setCell p v) := h.trans (.of_below ((Below.refl B w).setCell hp v))
theorem But.drew {B b : Nat} {x w : World} (h : But B b x w) : But B b x w.drew := ⟨h.os, h.tape, h.output, h.size, h.block⟩
theorem CellsAt.but {B b n : Nat} {w w' : World} {a : Option Addr} {l : List Cl} (h : CellsAt B w a n l) (hk : But B b w w') (hoff : ∀ q, a = some q → q.block ≠ b) : CellsAt B w' a n l := by
  obtain ⟨h1, h2, h3⟩ := h
  refine ⟨h1, h2, fun hn => ?_⟩
  obtain ⟨g, off, e, hlt, hc⟩ := h3 hn
  refine ⟨g, off, e, hlt, fun k hk2 => ?_⟩
  have hb : w'.heap[g]? = w.heap[g]? := hk.block g hlt (hoff _ e)
  rw [World.cell?_of_block (a := ⟨g, off + k * 2, none⟩) hb, World.cell?_of_block (a := ⟨g, off + k * 2 + 1, none⟩) hb]
  exact hc k hk2
theorem OwnS.but {B b : Nat} {w w' : World} {v : Value} {es : List Ent} (h : OwnS B w v es) (hk : But w.heap.size b w w') (h1 : v.ownBlock ≠ some b) (h2 : OffS b es) : OwnS B w' v es :=
  ⟨h.row.kept hk.grown (.inr h1), h.each.by hk.grown h2, h.apart, h.off⟩

/-! ### At the operations -/
theorem OwnS.by2 {B q : Nat} {w w' : World} {v : Value} {es : List Ent} (h : OwnS B w v es) (hg : w.grownBy w' (some q)) (h1 : v.ownBlock ≠ some q) (h2 : OffS q es) : OwnS B w' v es :=
  ⟨h.row.kept hg (.inr h1), h.each.by hg h2, h.apart, h.off⟩

theorem bool_inv {P : Program} {e : TypeId} (he : P.underlying e = some .bool) {v : Value} {z : DataW Nat × List MemPlace} (h : plainElem P e v = some z) : ∃ c, v = .bool c := by
  unfold plainElem at h
  rw [he] at h
  cases v <;> simp at h
  exact ⟨_, rfl⟩
end

end Go.Proofs.YtkjlmgkjcmebbaaGreatDoor
