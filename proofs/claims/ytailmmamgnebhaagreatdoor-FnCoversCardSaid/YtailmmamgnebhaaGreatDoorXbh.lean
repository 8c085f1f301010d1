/-
  What the law on tilings draws: a region, pieces, a number, a list of masks: what each call gives.
  What the law on tilings draws besides: the number of a tiling, a list of masks: what each call gives.
  A list of masks that the law on tilings draws: what each call gives.
-/
import Derived.Test.YtailmmamgnebhaaGreatDoorXau
import Derived.Test.YtailmmamgnebhaaGreatDoorXbg
namespace Go.Proofs.YtailmmamgnebhaaGreatDoor

section
open Go.RowKit

set_option maxHeartbeats 4000000 in
set_option maxRecDepth 100000 in
theorem dReg8 (B g : Nat) (w : World) (hc : Cur B w g) :
    Calls Tryz.prog 136 #[.pointer (some ⟨g, 0, none⟩)] w (GivesR B g w) := by
  have hlt := hc.lt
  obtain ⟨hl1, hl2⟩ := hlt
  obtain ⟨rb, hrb⟩ : ∃ rb, w.heap.size = rb := ⟨_, rfl⟩
  have hres := RgAt.new (w := w) 0 (.slice none 0 0) hrb
  have HC := Lib.hid (hc.alloc (.cells #[.int .i64 0, .slice none 0 0] 26))
  have HG := Lib.hid (World.grownBy_alloc w (.cells #[.int .i64 0, .slice none 0 0] 26) (some g))
  have hsz : (w.alloc (.cells #[.int .i64 0, .slice none 0 0] 26)).heap.size = rb + 1 := by simp [hrb]
  clear hc
  go_enter Tryz.func136, Tryz.ntmps136
  go_wp2_with fail
  generalize (w.alloc (.cells #[.int .i64 0, .slice none 0 0] 26)) = W0 at *
  refine (dOnce B g 14 _ HC.out (by omega) (by omega)).mono ?_
  rintro e w1 ⟨b, rfl, hc1, hg1⟩
  have hr1 := hres.by hg1 (by intro e; injection e with e; omega)
  have HC1 := Lib.hid hc1
  have HG1 := Lib.hid (grow_trans HG.out hg1)
  have hs1 := hg1.size
  clear hc1 hg1 HC HG hres
  cases b with
  | true =>
    go_wp2_with fail
    refine (dAny6 B g w1 HC1.out).mono ?_
    rintro e w2 ⟨W, M, gg, cap, l, rfl, hM, hin, hown, hc2, hg2⟩
    have hr2 := hr1.by hg2 (by intro e; injection e with e; omega)
    have HG2 := Lib.hid (grow_trans HG1.out hg2)
    have HIN := Lib.hid hin
    have HC2 := Lib.hid hc2
    have HO2 := Lib.hid hown
    have hgl := hown.lt gg rfl
    have q0 := hr2.c0
    have q1 := hr2.c1
    have q2 := hr2.f 0
    have q3 := hr2.f 1
    clear hr1 hc2 hg2 HC1 HG1 hin hown
    go_wp2
    have R9 := hr2.set2 W (.slice (some ⟨gg, 0, none⟩) M cap)
    have e0 := R9.c0
    have e1 := R9.c1
    have HO9 := Lib.hid (own_below (own_off (b := rb) (o := 1) (u := .slice (some ⟨gg, 0, none⟩) M cap) (own_off (b := rb) (o := 0) (u := .int .i64 W) HO2.out (by omega)) (by omega)) (show w.heap.size ≤ w1.heap.size by omega))
    have HC9 := Lib.hid ((HC2.out.grown (grown_set1 w2 rb 0 (.int .i64 W)) (fun k h => by injection h with h; omega)).grown (grown_set1 _ rb 1 (.slice (some ⟨gg, 0, none⟩) M cap)) (fun k h => by injection h with h; omega))
    have HG9 := Lib.hid (grow_new (grow_new HG2.out (grown_set1 w2 rb 0 (.int .i64 W)) (fun k h => by injection h with h; omega)) (grown_set1 _ rb 1 (.slice (some ⟨gg, 0, none⟩) M cap)) (fun k h => by injection h with h; omega))
    generalize ((w2.setCell ⟨rb, 0, none⟩ (.int .i64 W)).setCell ⟨rb, 1, none⟩ (.slice (some ⟨gg, 0, none⟩) M cap)) = w9 at *
    exact bodyPost_ret (v := .agg #[.int .i64 W, .slice (some ⟨gg, 0, none⟩) M cap]) (by simp [results, Tryz.results136, go_sem, e0, e1]) rfl ⟨W, M, gg, cap, l, rfl, hM, HIN.out, HO9.out, HC9.out, HG9.out⟩
  | false =>
    go_wp2_with fail
    refine (dDrawK B g 4 (by omega) (by omega) w1 HC1.out).mono ?_
    rintro e w2 ⟨N, M, gg, cap, l, rfl, hM5, hrg, hown, hc2, hg2⟩
    have hM : 1 ≤ M ∧ M ≤ 8 := ⟨hM5.1, by omega⟩
    have hin : ∀ z ∈ l, In64 z := hrg.in64
    have hr2 := hr1.by hg2 (by intro e; injection e with e; omega)
    have HG2 := Lib.hid (grow_trans HG1.out hg2)
    have HIN := Lib.hid hin
    have HC2 := Lib.hid hc2
    have HO2 := Lib.hid hown
    have hgl := hown.lt gg rfl
    have q0 := hr2.c0
    have q1 := hr2.c1
    have q2 := hr2.f 0
    have q3 := hr2.f 1
    clear hr1 hc2 hg2 HC1 HG1 hin hown hrg
    obtain ⟨W, hW⟩ : ∃ W : Int, (N : Int) = W := ⟨_, rfl⟩
    rw [hW] at *
    clear hW
    go_wp2
    have R9 := hr2.set2 W (.slice (some ⟨gg, 0, none⟩) M cap)
    have e0 := R9.c0
    have e1 := R9.c1
    have HO9 := Lib.hid (own_below (own_off (b := rb) (o := 1) (u := .slice (some ⟨gg, 0, none⟩) M cap) (own_off (b := rb) (o := 0) (u := .int .i64 W) HO2.out (by omega)) (by omega)) (show w.heap.size ≤ w1.heap.size by omega))
    have HC9 := Lib.hid ((HC2.out.grown (grown_set1 w2 rb 0 (.int .i64 W)) (fun k h => by injection h with h; omega)).grown (grown_set1 _ rb 1 (.slice (some ⟨gg, 0, none⟩) M cap)) (fun k h => by injection h with h; omega))
    have HG9 := Lib.hid (grow_new (grow_new HG2.out (grown_set1 w2 rb 0 (.int .i64 W)) (fun k h => by injection h with h; omega)) (grown_set1 _ rb 1 (.slice (some ⟨gg, 0, none⟩) M cap)) (fun k h => by injection h with h; omega))
    generalize ((w2.setCell ⟨rb, 0, none⟩ (.int .i64 W)).setCell ⟨rb, 1, none⟩ (.slice (some ⟨gg, 0, none⟩) M cap)) = w9 at *
    exact bodyPost_ret (v := .agg #[.int .i64 W, .slice (some ⟨gg, 0, none⟩) M cap]) (by simp [results, Tryz.results136, go_sem, e0, e1]) rfl ⟨W, M, gg, cap, l, rfl, hM, HIN.out, HO9.out, HC9.out, HG9.out⟩

theorem PcAt.less {base base' r : Nat} {w : World} {u : Value} {l : List Cl} (h : PcAt base r w u l) (hb : base' ≤ base) : PcAt base' r w u l := by
  obtain ⟨ad, gg, off, n, cap, h1, h2, h3, h4⟩ := h
  exact ⟨ad, gg, off, n, cap, h1, h2, fun hc => ⟨Nat.le_trans hb (h3 hc).1, (h3 hc).2⟩, h4⟩
/-- A drawn region and drawn pieces. -/
def GivesRP (w : World) (e : Ending) (w' : World) : Prop := ∃ (W : Int) (M gg cap : Nat) (l : List Int) (gr cp : Nat) (us : List Value) (ps : List (List Cl)), e = .returned (.tuple #[.agg #[.int .i64 W, .slice (some ⟨gg, 0, none⟩) M cap], .slice (some ⟨gr, 0, none⟩) ps.length cp]) ∧ M ≤ 8 ∧ (∀ z ∈ l, In64 z) ∧ w'.ownsRow w.heap.size 3 1 (.slice (some ⟨gg, 0, none⟩) M cap) M (iv l) ∧ w'.ownsRow w.heap.size 27 1 (.slice (some ⟨gr, 0, none⟩) ps.length cp) ps.length us ∧ (∀ j, j < ps.length → PcAt w.heap.size gr w' (us.getD j undef) (ps.getD j [])) ∧ ps.length ≤ 3 ∧ Below w.heap.size w w'

set_option maxHeartbeats 4000000 in
set_option maxRecDepth 100000 in
theorem dBoth8 (a : Option Addr) (len cap : Nat) (w : World) (hc : Code w.heap.size w a len cap) (hl : len ≤ 1048576) :
    Calls Tryz.prog 90 #[.slice a len cap] w (GivesRP w) := by
  obtain ⟨rb, hrb⟩ : ∃ rb, w.heap.size = rb := ⟨_, rfl⟩
  have hres := RgAt.new (w := w) 0 (.slice none 0 0) hrb
  have hb0 := (Below.refl w.heap.size w).alloc (Nat.le_refl _) (.cells #[.int .i64 0, .slice none 0 0] 26)
  have hsz : (w.alloc (.cells #[.int .i64 0, .slice none 0 0] 26)).heap.size = rb + 1 := by simp [hrb]
  have HC := Lib.hid (hc.on hb0)
  clear hc
  go_enter Tryz.func90, Tryz.ntmps90
  go_wp2_with fail
  generalize (w.alloc (.cells #[.int .i64 0, .slice none 0 0] 26)) = W0 at *
  have HB := Lib.hid hb0
  clear hb0
  refine (dNew w.heap.size a len cap W0 HC.out hl (by omega)).mono ?_
  rintro e w1 ⟨rfl, hc1, hg1⟩
  have hr1 := hres.by hg1 (by intro e; cases e)
  have HB1 := Lib.hid (HB.out.grown hg1 (by omega) (fun k h => by cases h))
  have hs1 := hg1.size
  rw [hsz] at hc1 ⊢
  have hlt1 := hc1.lt
  clear hres HC HB hg1
  obtain ⟨cg, hcg⟩ : ∃ cg, rb + 1 = cg := ⟨_, rfl⟩
  rw [hcg] at hc1 hlt1 ⊢
  go_wp2_with fail
  refine (dReg8 w.heap.size cg w1 hc1).mono ?_
  rintro e w2 ⟨W, M, gg, cp, l, rfl, hM, hin, hown, hc2, hg2⟩
  have hr2 := hr1.by hg2 (by intro e; injection e with e; omega)
  have HC2 := Lib.hid hc2
  have HB2 := Lib.hid (HB1.out.grown hg2 (by omega) (fun k h => by injection h with h; omega))
  have hs2 := hg2.size
  have ht2 := hown.lt gg rfl
  have HIN := Lib.hid hin
  clear hr1 hc1 hg2 hc2 HB1 hin
  obtain ⟨vb, hvb⟩ : ∃ vb, w2.heap.size = vb := ⟨_, rfl⟩
  have HV3 := Lib.hid (RgAt.new (w := w2) W (.slice (some ⟨gg, 0, none⟩) M cp) hvb)
  have HR3 := Lib.hid (hr2.alloc (.cells #[.int .i64 W, .slice (some ⟨gg, 0, none⟩) M cp] 26))
  have HC3 := Lib.hid (HC2.out.alloc (.cells #[.int .i64 W, .slice (some ⟨gg, 0, none⟩) M cp] 26))
  have HB3 := Lib.hid (HB2.out.alloc (by omega) (.cells #[.int .i64 W, .slice (some ⟨gg, 0, none⟩) M cp] 26))
  have HO3 := Lib.hid (own_below (hown.alloc (.cells #[.int .i64 W, .slice (some ⟨gg, 0, none⟩) M cp] 26)) (show cg + 1 ≤ w1.heap.size by omega))
  have hs3 : (w2.alloc (.cells #[.int .i64 W, .slice (some ⟨gg, 0, none⟩) M cp] 26)).heap.size = vb + 1 := by simp [hvb]
  have hgv : gg ≠ vb := by omega
  have hgc : gg ≠ cg := by omega
  have hvc : cg < vb := by omega
  have hrv : rb ≠ vb := by omega
  clear hr2 HC2 HB2 hown
  go_wp2_with fail
  generalize (w2.alloc (.cells #[.int .i64 W, .slice (some ⟨gg, 0, none⟩) M cp] 26)) = w3 at *
  have HVD := Lib.hid (show RgAt w3.drew vb W (.slice (some ⟨gg, 0, none⟩) M cp) from HV3.out)
  have HRD := Lib.hid (show RgAt w3.drew rb 0 (.slice none 0 0) from HR3.out)
  have HOD := Lib.hid (show w3.drew.ownsRow (cg + 1) 3 1 (.slice (some ⟨gg, 0, none⟩) M cp) M (iv l) from HO3.out)
  have HCD := Lib.hid (show Cur w.heap.size w3.drew cg from HC3.out)
  have HBD := Lib.hid (HB3.out.drew)
  have c0 := HV3.out.c0
  have c1 := HV3.out.c1
  have hsD : w3.drew.heap.size = w3.heap.size := rfl
  clear HV3 HR3 HO3 HC3 HB3
  (try go_wp2_with fail)
  go_region_with (go_at_call 83; refine (dPieces7 w.heap.size cg _ HCD.out).mono ?_; rintro e w7 ⟨gr, cp2, us, ps, rfl, hps3, hrow, hpcs, hc7, hg7⟩; have hv7 := RgAt.by (w := w3.drew) HVD.out hg7 (by intro e; injection e with e; omega); have hr7 := RgAt.by (w := w3.drew) HRD.out hg7 (by intro e; injection e with e; omega); have ho7 := World.ownsRow.kept (w := w3.drew) HOD.out hg7 (.inr (by intro e; have h9 : gg = cg := Option.some.inj e; omega)); have d0 := hv7.c0; have d1 := hv7.c1; have d2 := hr7.c0; have d3 := hr7.c1; have d4 := hr7.f 0; have d5 := hr7.f 1)
  all_goals
    have HBE := Lib.hid (HBD.out.grown hg7 (by omega) (fun k h => by injection h with h; omega))
    have HR7 := Lib.hid hr7
    have HO7 := Lib.hid (own_below ho7 (show rb + 1 ≤ cg + 1 by omega))
    have hrb9 : rb < w3.drew.heap.size := by omega
    have HW7 := Lib.hid (own_off (b := rb) (o := 1) (u := .slice (some ⟨gg, 0, none⟩) M cp) (own_off (b := rb) (o := 0) (u := .int .i64 W) hrow hrb9) hrb9)
    have HP7 := Lib.hid (fun j hj => ((hpcs j hj).kept (grownBy_put w7 rb 0 (.int .i64 W)) hrb9).kept (grownBy_put (w7.setCell ⟨rb, 0, none⟩ (.int .i64 W)) rb 1 (.slice (some ⟨gg, 0, none⟩) M cp)) hrb9)
    clear hr7 ho7 hv7 hc7 hg7 hrow hpcs HVD HRD HOD HCD HBD
    try simp only [Exit.then]
    go_wp2
    have R9 := HR7.out.set2 (W) (.slice (some ⟨gg, 0, none⟩) M cp)
    have e0 := R9.c0
    have e1 := R9.c1
    have HA9 := Lib.hid (own_below (own_off (b := rb) (o := 1) (u := .slice (some ⟨gg, 0, none⟩) M cp) (own_off (b := rb) (o := 0) (u := .int .i64 (W)) HO7.out (by omega)) (by omega)) (show w.heap.size ≤ rb + 1 by omega))
    have HB9 := Lib.hid ((HBE.out.setCell (p := ⟨rb, 0, none⟩) (by show w.heap.size ≤ rb; omega) (.int .i64 (W))).setCell (p := ⟨rb, 1, none⟩) (by show w.heap.size ≤ rb; omega) (.slice (some ⟨gg, 0, none⟩) M cp))
    generalize ((w7.setCell ⟨rb, 0, none⟩ (.int .i64 (W))).setCell ⟨rb, 1, none⟩ (.slice (some ⟨gg, 0, none⟩) M cp)) = w9 at *
    exact bodyPost_ret (v := .tuple #[.agg #[.int .i64 W, .slice (some ⟨gg, 0, none⟩) M cp], .slice (some ⟨gr, 0, none⟩) ps.length cp2]) (by simp [results, Tryz.results90, go_sem, e0, e1]) rfl ⟨W, M, gg, cp, l, gr, cp2, us, ps, rfl, hM.2, HIN.out, HA9.out, own_below HW7.out (show w.heap.size ≤ w3.drew.heap.size by omega), fun j hj => (HP7.out j hj).less (show w.heap.size ≤ w3.drew.heap.size by omega), hps3, HB9.out⟩
end

section
open Go.RowKit

theorem lit6 (k : Nat) (hk : k < 6) : ∃ x : Int, (In64 x ∧ (x = -1 ∨ 0 ≤ x) ∧ x ≤ 200) ∧ ∀ h : k < ([.int .i64 0, .int .i64 1, .int .i64 2, .int .i64 3, .int .i64 (-1), .int .i64 200] : List Value).length, ([.int .i64 0, .int .i64 1, .int .i64 2, .int .i64 3, .int .i64 (-1), .int .i64 200] : List Value)[k]'h = .int .i64 x := by
  have : k = 0 ∨ k = 1 ∨ k = 2 ∨ k = 3 ∨ k = 4 ∨ k = 5 := by omega
  unfold In64
  rcases this with rfl | rfl | rfl | rfl | rfl | rfl
  · exact ⟨0, by omega, fun _ => rfl⟩
  · exact ⟨1, by omega, fun _ => rfl⟩
  · exact ⟨2, by omega, fun _ => rfl⟩
  · exact ⟨3, by omega, fun _ => rfl⟩
  · exact ⟨-1, by omega, fun _ => rfl⟩
  · exact ⟨200, by omega, fun _ => rfl⟩
/-- A drawn region, drawn pieces, a drawn number. -/
def GivesRPx (w : World) (e : Ending) (w' : World) : Prop := ∃ (W : Int) (M gg cap : Nat) (l : List Int) (gr cp : Nat) (us : List Value) (ps : List (List Cl)) (x : Int), e = .returned (.tuple #[.agg #[.int .i64 W, .slice (some ⟨gg, 0, none⟩) M cap], .slice (some ⟨gr, 0, none⟩) ps.length cp, .int .i64 x]) ∧ M ≤ 8 ∧ (∀ z ∈ l, In64 z) ∧ w'.ownsRow w.heap.size 3 1 (.slice (some ⟨gg, 0, none⟩) M cap) M (iv l) ∧ w'.ownsRow w.heap.size 27 1 (.slice (some ⟨gr, 0, none⟩) ps.length cp) ps.length us ∧ (∀ j, j < ps.length → PcAt w.heap.size gr w' (us.getD j undef) (ps.getD j [])) ∧ ps.length ≤ 3 ∧ (In64 x ∧ (x = -1 ∨ 0 ≤ x) ∧ x ≤ 200) ∧ Below w.heap.size w w'
/-- What was drawn, in a world at hand. -/
structure RPAt (base : Nat) (w : World) (gg M cap : Nat) (l : List Int) (gr cp : Nat) (us : List Value) (ps : List (List Cl)) : Prop where
  row : w.ownsRow base 3 1 (.slice (some ⟨gg, 0, none⟩) M cap) M (iv l)
  prow : w.ownsRow base 27 1 (.slice (some ⟨gr, 0, none⟩) ps.length cp) ps.length us
  pcs : ∀ j, j < ps.length → PcAt base gr w (us.getD j undef) (ps.getD j [])
section
variable {base gg M cap gr cp : Nat} {w w' : World} {l : List Int} {us : List Value} {ps : List (List Cl)}
theorem RPAt.grow (h : RPAt base w gg M cap l gr cp us ps) (hg : w.grownBy w' none) : RPAt base w' gg M cap l gr cp us ps := ⟨h.row.kept hg (.inr (fun e => by cases e)), h.prow.kept hg (.inr (fun e => by cases e)), fun j hj => (h.pcs j hj).kept0 hg⟩
theorem RPAt.alloc (h : RPAt base w gg M cap l gr cp us ps) (o : Obj) : RPAt base (w.alloc o) gg M cap l gr cp us ps := h.grow (World.grownBy_alloc w o none)
theorem RPAt.on (h : RPAt base w gg M cap l gr cp us ps) (hb : Below w.heap.size w w') : RPAt base w' gg M cap l gr cp us ps := h.grow (grow_below hb none)
theorem RPAt.put (h : RPAt base w gg M cap l gr cp us ps) (b o : Nat) (v : Value) (hb : b < base) : RPAt base (w.setCell ⟨b, o, none⟩ v) gg M cap l gr cp us ps := ⟨own_off (b := b) (o := o) (u := v) h.row hb, own_off (b := b) (o := o) (u := v) h.prow hb, fun j hj => (h.pcs j hj).kept (grownBy_put w b o v) hb⟩
theorem RPAt.drew (h : RPAt base w gg M cap l gr cp us ps) : RPAt base w.drew gg M cap l gr cp us ps := h.grow ⟨rfl, rfl, rfl, Nat.le_refl _, fun _ _ _ => rfl⟩
theorem RPAt.less {base' : Nat} (h : RPAt base w gg M cap l gr cp us ps) (hb : base' ≤ base) : RPAt base' w gg M cap l gr cp us ps := ⟨own_below h.row hb, own_below h.prow hb, fun j hj => (h.pcs j hj).less hb⟩
theorem RPAt.psAt (h : RPAt base w gg M cap l gr cp us ps) : PsAt w.heap.size w (some ⟨gr, 0, none⟩) ps.length ps := psAt_of h.prow h.pcs
end

set_option maxHeartbeats 4000000 in
set_option maxRecDepth 100000 in
theorem dTilN8 (a : Option Addr) (len cap : Nat) (w : World) (hc : Code w.heap.size w a len cap) (hl : len ≤ 1048576) :
    Calls Tryz.prog 36 #[.slice a len cap] w (GivesRPx w) := by
  obtain ⟨rb, hrb⟩ : ∃ rb, w.heap.size = rb := ⟨_, rfl⟩
  have hres := RgAt.new (w := w) 0 (.slice none 0 0) hrb
  have hb0 := (Below.refl w.heap.size w).alloc (Nat.le_refl _) (.cells #[.int .i64 0, .slice none 0 0] 26)
  have hsz : (w.alloc (.cells #[.int .i64 0, .slice none 0 0] 26)).heap.size = rb + 1 := by simp [hrb]
  have HC := Lib.hid (hc.on hb0)
  clear hc
  obtain ⟨k, hk⟩ : ∃ k, len % 6 = k := ⟨_, rfl⟩
  have hk6 : k < 6 := by omega
  have hrem : (len : Int) % 6 = (k : Int) := by omega
  have hrem2 : Int.tmod (len : Int) 6 = (k : Int) := by rw [Int.tmod_eq_emod_of_nonneg (by omega)]; exact hrem
  clear hk
  go_enter Tryz.func36, Tryz.ntmps36
  go_wp2_with fail
  generalize (w.alloc (.cells #[.int .i64 0, .slice none 0 0] 26)) = W0 at *
  have HB := Lib.hid hb0
  clear hb0
  refine (dBoth8 a len cap W0 ((HC.out).more (by omega)) hl).mono ?_
  rintro e w1 ⟨W, M, gg, cp, l, gr, cp2, us, ps, rfl, hM, hin, hown, hprow, hpcs, hps3, hb1⟩
  have HRP := Lib.hid (RPAt.mk hown hprow hpcs)
  have hr1 := hres.on hb1 (by omega)
  have HB1 := Lib.hid (HB.out.trans (hb1.mono (by omega)))
  have hs1 := hb1.size
  have HIN := Lib.hid hin
  have ht1 := hown.lt gg rfl
  clear hres HC HB hin
  obtain ⟨vb, hvb⟩ : ∃ vb, w1.heap.size = vb := ⟨_, rfl⟩
  have HV3 := Lib.hid (RgAt.new (w := w1) W (.slice (some ⟨gg, 0, none⟩) M cp) hvb)
  have HR3 := Lib.hid (hr1.alloc (.cells #[.int .i64 W, .slice (some ⟨gg, 0, none⟩) M cp] 26))
  have HB3 := Lib.hid (HB1.out.alloc (by omega) (.cells #[.int .i64 W, .slice (some ⟨gg, 0, none⟩) M cp] 26))
  have HRP3 := Lib.hid (HRP.out.alloc (.cells #[.int .i64 W, .slice (some ⟨gg, 0, none⟩) M cp] 26))
  have hs3 : (w1.alloc (.cells #[.int .i64 W, .slice (some ⟨gg, 0, none⟩) M cp] 26)).heap.size = vb + 1 := by simp [hvb]
  clear hr1 HB1 hown hprow hpcs hb1 HRP
  go_wp2_with fail
  generalize (w1.alloc (.cells #[.int .i64 W, .slice (some ⟨gg, 0, none⟩) M cp] 26)) = w3 at *
  obtain ⟨x, hx, hlit⟩ := lit6 k hk6
  have HLX := Lib.hid hx
  have HLL := Lib.hid hlit
  clear hx hlit
  have p0 := HR3.out.c0
  have p1 := HR3.out.c1
  have p2 := HR3.out.f 0
  have p3 := HR3.out.f 1
  have HVA := Lib.hid (HV3.out.alloc (.cells #[.int .i64 0, .int .i64 1, .int .i64 2, .int .i64 3, .int .i64 (-1), .int .i64 200] 3))
  have HRA := Lib.hid (HR3.out.alloc (.cells #[.int .i64 0, .int .i64 1, .int .i64 2, .int .i64 3, .int .i64 (-1), .int .i64 200] 3))
  have HBA := Lib.hid (HB3.out.alloc (by omega) (.cells #[.int .i64 0, .int .i64 1, .int .i64 2, .int .i64 3, .int .i64 (-1), .int .i64 200] 3))
  have hsA : (w3.alloc (.cells #[.int .i64 0, .int .i64 1, .int .i64 2, .int .i64 3, .int .i64 (-1), .int .i64 200] 3)).heap.size = w3.heap.size + 1 := by simp
  have hrb1 : rb < W0.heap.size := by omega
  have c0 := HV3.out.c0
  have c1 := HV3.out.c1
  have n0 := HVA.out.c0
  have n1 := HVA.out.c1
  have q0 := HRA.out.c0
  have q1 := HRA.out.c1
  have q2 := HRA.out.f 0
  have q3 := HRA.out.f 1
  have hk0 : (0 : Int) ≤ (k : Int) := by omega
  have hk7 : (k : Int) < 6 := by omega
  go_region_law (fail)
  all_goals
    have hll := HLL.out
    simp only [hll]
    clear hll c0 c1 n0 n1 q0 q1 q2 q3 p0 p1 p2 p3
    (try simp only [Exit.then])
    go_wp2
    first
    | (have R9 := HRA.out.set2 W (.slice (some ⟨gg, 0, none⟩) M cp)
       have HRP9 := Lib.hid (((((HRP3.out.alloc (.cells #[.int .i64 0, .int .i64 1, .int .i64 2, .int .i64 3, .int .i64 (-1), .int .i64 200] 3)).put rb 0 (.int .i64 W) hrb1).put rb 1 (.slice (some ⟨gg, 0, none⟩) M cp) hrb1).drew).less (show w.heap.size ≤ W0.heap.size by omega))
       have HB9 := Lib.hid ((HBA.out.setCell (p := ⟨rb, 0, none⟩) (by show w.heap.size ≤ rb; omega) (.int .i64 W)).setCell (p := ⟨rb, 1, none⟩) (by show w.heap.size ≤ rb; omega) (.slice (some ⟨gg, 0, none⟩) M cp))
       generalize (((w3.alloc (.cells #[.int .i64 0, .int .i64 1, .int .i64 2, .int .i64 3, .int .i64 (-1), .int .i64 200] 3)).setCell ⟨rb, 0, none⟩ (.int .i64 W)).setCell ⟨rb, 1, none⟩ (.slice (some ⟨gg, 0, none⟩) M cp)) = w9 at *
       have R8 : RgAt w9.drew rb W (.slice (some ⟨gg, 0, none⟩) M cp) := R9
       have e0 := R8.c0
       have e1 := R8.c1
       exact bodyPost_ret (v := .tuple #[.agg #[.int .i64 W, .slice (some ⟨gg, 0, none⟩) M cp], .slice (some ⟨gr, 0, none⟩) ps.length cp2, .int .i64 x]) (by simp [results, Tryz.results36, go_sem, e0, e1]) rfl ⟨W, M, gg, cp, l, gr, cp2, us, ps, x, rfl, hM, HIN.out, HRP9.out.row, HRP9.out.prow, HRP9.out.pcs, hps3, HLX.out, HB9.out.drew⟩)
    | (have R9 := (HR3.out.set2 W (.slice (some ⟨gg, 0, none⟩) M cp)).alloc (.cells #[.int .i64 0, .int .i64 1, .int .i64 2, .int .i64 3, .int .i64 (-1), .int .i64 200] 3)
       have HRP9 := Lib.hid (((((HRP3.out.put rb 0 (.int .i64 W) hrb1).put rb 1 (.slice (some ⟨gg, 0, none⟩) M cp) hrb1).alloc (.cells #[.int .i64 0, .int .i64 1, .int .i64 2, .int .i64 3, .int .i64 (-1), .int .i64 200] 3)).drew).less (show w.heap.size ≤ W0.heap.size by omega))
       have HB9 := Lib.hid (((HB3.out.setCell (p := ⟨rb, 0, none⟩) (by show w.heap.size ≤ rb; omega) (.int .i64 W)).setCell (p := ⟨rb, 1, none⟩) (by show w.heap.size ≤ rb; omega) (.slice (some ⟨gg, 0, none⟩) M cp)).alloc (by rw [World.size_setCell, World.size_setCell]; omega) (.cells #[.int .i64 0, .int .i64 1, .int .i64 2, .int .i64 3, .int .i64 (-1), .int .i64 200] 3))
       generalize (((w3.setCell ⟨rb, 0, none⟩ (.int .i64 W)).setCell ⟨rb, 1, none⟩ (.slice (some ⟨gg, 0, none⟩) M cp)).alloc (.cells #[.int .i64 0, .int .i64 1, .int .i64 2, .int .i64 3, .int .i64 (-1), .int .i64 200] 3)) = w9 at *
       have R8 : RgAt w9.drew rb W (.slice (some ⟨gg, 0, none⟩) M cp) := R9
       have e0 := R8.c0
       have e1 := R8.c1
       exact bodyPost_ret (v := .tuple #[.agg #[.int .i64 W, .slice (some ⟨gg, 0, none⟩) M cp], .slice (some ⟨gr, 0, none⟩) ps.length cp2, .int .i64 x]) (by simp [results, Tryz.results36, go_sem, e0, e1]) rfl ⟨W, M, gg, cp, l, gr, cp2, us, ps, x, rfl, hM, HIN.out, HRP9.out.row, HRP9.out.prow, HRP9.out.pcs, hps3, HLX.out, HB9.out.drew⟩)
end

section
open Go.RowKit

/-- Numbers that are masks. -/
def MaskL (ls : List Int) : Prop := (∀ z ∈ ls, In64 z) ∧ ls.length ≤ 1440
theorem mask_way (W : Int) (l : List Int) (ps : List (List Cl)) : MaskL (wayI (tilN W l ps 0)) := by
  unfold wayI
  cases h : tilN W l ps 0 with
  | none => exact ⟨fun z hz => (by cases hz), by simp [ints]⟩
  | some t =>
    show MaskL (ints t)
    obtain ⟨h1, _, _, h2⟩ := tilN_some h
    have h3 := List.mem_of_getElem? h2
    refine ⟨ints_bd (fun m hm => ?_), by rw [ints_len]; have := til_len40 (maskR_lt W l) h3; show t.length ≤ 1440; omega⟩
    have h4 := til_isTp (pQ_ok W l ps) _ _ (Nat.le_refl _) (maskR_lt W l) t h3
    unfold isTp at h4
    rw [Bool.and_eq_true] at h4
    obtain ⟨k, hk, e⟩ := List.getElem_of_mem hm
    have h5 := (pT_parts ((allN_iff _ _).1 h4.1 k (by rw [ints_len]; exact hk))).2.2.2
    rw [ints_get, pQ_ints] at h5
    have h6 := apR_bd W l ps _ h5
    have h7 : t.getD k 0 = m := by simp [List.getD, hk, e]
    rw [h7] at h6
    omega
theorem mask_all (W : Int) (l : List Int) (ps : List (List Cl)) : MaskL (apR W l ps) :=
  ⟨fun z hz => by have := apR_bd W l ps z hz; unfold In64; omega, by rw [← pQ_ints, ints_len]; exact pQ_len W l ps⟩
/-- A drawn region, drawn pieces, drawn masks. -/
def GivesRPL (w : World) (e : Ending) (w' : World) : Prop := ∃ (W : Int) (M gg cap : Nat) (l : List Int) (gr cp : Nat) (us : List Value) (ps : List (List Cl)) (lv : Value) (ls : List Int), e = .returned (.tuple #[.agg #[.int .i64 W, .slice (some ⟨gg, 0, none⟩) M cap], .slice (some ⟨gr, 0, none⟩) ps.length cp, lv]) ∧ M ≤ 8 ∧ (∀ z ∈ l, In64 z) ∧ RPAt w.heap.size w' gg M cap l gr cp us ps ∧ ps.length ≤ 3 ∧ MaskL ls ∧ w'.ownsRow w.heap.size 3 1 lv ls.length (iv ls) ∧ Below w.heap.size w w'

set_option maxHeartbeats 4000000 in
set_option maxRecDepth 100000 in
theorem dIsT8 (a : Option Addr) (len cap : Nat) (w : World) (hc : Code w.heap.size w a len cap) (hl : len ≤ 1048576) :
    Calls Tryz.prog 43 #[.slice a len cap] w (GivesRPL w) := by
  obtain ⟨rb, hrb⟩ : ∃ rb, w.heap.size = rb := ⟨_, rfl⟩
  have hres := RgAt.new (w := w) 0 (.slice none 0 0) hrb
  have hb0 := (Below.refl w.heap.size w).alloc (Nat.le_refl _) (.cells #[.int .i64 0, .slice none 0 0] 26)
  have hsz : (w.alloc (.cells #[.int .i64 0, .slice none 0 0] 26)).heap.size = rb + 1 := by simp [hrb]
  have HC := Lib.hid (hc.on hb0)
  clear hc
  obtain ⟨k, hk⟩ : ∃ k, len % 5 = k := ⟨_, rfl⟩
  have hk6 : k < 5 := by omega
  have hrem : (len : Int) % 5 = (k : Int) := by omega
  have hrem2 : Int.tmod (len : Int) 5 = (k : Int) := by rw [Int.tmod_eq_emod_of_nonneg (by omega)]; exact hrem
  clear hk
  go_enter Tryz.func43, Tryz.ntmps43
  go_wp2_with fail
  generalize (w.alloc (.cells #[.int .i64 0, .slice none 0 0] 26)) = W0 at *
  have HB := Lib.hid hb0
  clear hb0
  refine (dBoth8 a len cap W0 ((HC.out).more (by omega)) hl).mono ?_
  rintro e w1 ⟨W, M, gg, cp, l, gr, cp2, us, ps, rfl, hM, hin, hown, hprow, hpcs, hps3, hb1⟩
  have HRP := Lib.hid (RPAt.mk hown hprow hpcs)
  have hr1 := hres.on hb1 (by omega)
  have HB1 := Lib.hid (HB.out.trans (hb1.mono (by omega)))
  have hs1 := hb1.size
  have HIN := Lib.hid hin
  have ht1 := hown.lt gg rfl
  clear hres HC HB hin
  obtain ⟨vb, hvb⟩ : ∃ vb, w1.heap.size = vb := ⟨_, rfl⟩
  have HV3 := Lib.hid (RgAt.new (w := w1) W (.slice (some ⟨gg, 0, none⟩) M cp) hvb)
  have HR3 := Lib.hid (hr1.alloc (.cells #[.int .i64 W, .slice (some ⟨gg, 0, none⟩) M cp] 26))
  have HB3 := Lib.hid (HB1.out.alloc (by omega) (.cells #[.int .i64 W, .slice (some ⟨gg, 0, none⟩) M cp] 26))
  have HRP3 := Lib.hid (HRP.out.alloc (.cells #[.int .i64 W, .slice (some ⟨gg, 0, none⟩) M cp] 26))
  have hs3 : (w1.alloc (.cells #[.int .i64 W, .slice (some ⟨gg, 0, none⟩) M cp] 26)).heap.size = vb + 1 := by simp [hvb]
  clear hr1 HB1 hown hprow hpcs hb1 HRP
  have c0 := HV3.out.c0
  have c1 := HV3.out.c1
  go_wp2_with fail
  generalize (w1.alloc (.cells #[.int .i64 W, .slice (some ⟨gg, 0, none⟩) M cp] 26)) = w3 at *
  have hps1 : ps.length ≤ 1048576 := by omega
  refine (sFindT w3.heap.size M cp ps.length cp2 _ _ W l ps w3 (by omega) hps1 (IntsAt.of_own HRP3.out.row HIN.out) HRP3.out.psAt (Nat.le_refl _)).mono ?_
  rintro e w4 ⟨lv, rfl, hlv, hb4⟩
  have HV4 := Lib.hid (HV3.out.on hb4 (by omega))
  have HR4 := Lib.hid (HR3.out.on hb4 (by omega))
  have HRP4 := Lib.hid (HRP3.out.on hb4)
  have HB4 := Lib.hid (HB3.out.trans (hb4.mono (by omega)))
  have HLV := Lib.hid hlv
  have hs4 := hb4.size
  have hrb1 : rb < W0.heap.size := by omega
  have HML := Lib.hid (mask_way W l ps)
  obtain ⟨t0, ht0⟩ : ∃ t0, tilN W l ps 0 = t0 := ⟨_, rfl⟩
  rw [ht0] at HLV HML ⊢
  obtain ⟨ls, hls⟩ : ∃ ls, wayI t0 = ls := ⟨_, rfl⟩
  rw [hls] at HLV HML
  obtain ⟨b0, hb0⟩ : ∃ b0, t0.isSome = b0 := ⟨_, rfl⟩
  rw [hb0]
  clear HV3 HR3 HRP3 HB3 hlv hb4 c0 c1 ht0 hls hb0
  have c0 := HV4.out.c0
  have c1 := HV4.out.c1
  have p0 := HR4.out.c0
  have p1 := HR4.out.c1
  have p2 := HR4.out.f 0
  have p3 := HR4.out.f 1
  by_cases hbk : b0 = true ∧ 0 < k
  · obtain ⟨rfl, hk1⟩ := hbk
    have hk2 : (0 : Int) < (k : Int) := by omega
    go_wp2
    have R9 := HR4.out.set2 W (.slice (some ⟨gg, 0, none⟩) M cp)
    have e0 := R9.c0
    have e1 := R9.c1
    have HRP9 := Lib.hid (((HRP4.out.put rb 0 (.int .i64 W) hrb1).put rb 1 (.slice (some ⟨gg, 0, none⟩) M cp) hrb1).less (show w.heap.size ≤ W0.heap.size by omega))
    have HL9 := Lib.hid (own_below (own_off (b := rb) (o := 1) (u := (.slice (some ⟨gg, 0, none⟩) M cp)) (own_off (b := rb) (o := 0) (u := .int .i64 W) HLV.out (by omega)) (by omega)) (show w.heap.size ≤ w3.heap.size by omega))
    have HB9 := Lib.hid ((HB4.out.setCell (p := ⟨rb, 0, none⟩) (by show w.heap.size ≤ rb; omega) (.int .i64 W)).setCell (p := ⟨rb, 1, none⟩) (by show w.heap.size ≤ rb; omega) (.slice (some ⟨gg, 0, none⟩) M cp))
    generalize ((w4.setCell ⟨rb, 0, none⟩ (.int .i64 W)).setCell ⟨rb, 1, none⟩ (.slice (some ⟨gg, 0, none⟩) M cp)) = w9 at *
    exact bodyPost_ret (v := .tuple #[.agg #[.int .i64 W, .slice (some ⟨gg, 0, none⟩) M cp], .slice (some ⟨gr, 0, none⟩) ps.length cp2, lv]) (by simp [results, Tryz.results43, go_sem, e0, e1]) rfl ⟨W, M, gg, cp, l, gr, cp2, us, ps, lv, ls, rfl, hM, HIN.out, HRP9.out, hps3, HML.out, HL9.out, HB9.out⟩
  · have HK := Lib.hid (fun v9 (h9 : Below w4.heap.size w4 v9) => sAp w4.heap.size M cp ps.length cp2 _ _ W l ps v9 (by omega) hps1 ((IntsAt.of_own HRP4.out.row HIN.out).on h9) (HRP4.out.psAt.on h9) h9.size)
    have HMA := Lib.hid (mask_all W l ps)
    obtain ⟨la, hla⟩ : ∃ la, apR W l ps = la := ⟨_, rfl⟩
    rw [hla] at HK HMA
    clear hla
    have hbt : (b0 && decide ((0 : Int) < (k : Int))) = false := by
      cases b0 with
      | false => rfl
      | true =>
        have : ¬ 0 < k := fun h => hbk ⟨rfl, h⟩
        simp
        omega
    cases b0 with
    | false =>
      go_wp2_with fail
      have HS := Lib.hid (fun v9 (h9 : Below w4.heap.size w4 v9) => (show (v9.cell? ⟨vb, 0, none⟩ = some (.int .i64 W) ∧ v9.cell? ⟨vb, 1, none⟩ = some (.slice (some ⟨gg, 0, none⟩) M cp)) from by have h8 := HV4.out.on h9 (by omega); exact ⟨h8.c0, h8.c1⟩))
      have k0 : Below w4.heap.size w4 w4.drew := (Below.refl _ w4).drew
      go_region_with (go_at_call 33; refine (HK.out _ k0).mono ?_; rintro e v5 ⟨av, rfl, ho5, hb5⟩; have k5 : Below w4.heap.size w4 v5 := Below.trans k0 (hb5.mono (Below.size k0)); have hv5 := RgAt.on (w := w4) HV4.out k5 (by omega); have hr5 := RgAt.on (w := w4) HR4.out k5 (by omega); have n0 := hv5.c0; have n1 := hv5.c1; have q0 := hr5.c0; have q1 := hr5.c1; have q2 := hr5.f 0; have q3 := hr5.f 1)
      all_goals
        have HRP9 := Lib.hid (((((HRP4.out.on k5).put rb 0 (.int .i64 W) hrb1).put rb 1 (.slice (some ⟨gg, 0, none⟩) M cp) hrb1)).less (show w.heap.size ≤ W0.heap.size by omega))
        have HL9 := Lib.hid (own_below (own_off (b := rb) (o := 1) (u := (.slice (some ⟨gg, 0, none⟩) M cp)) (own_off (b := rb) (o := 0) (u := .int .i64 W) ho5 (show rb < w4.drew.heap.size from by show rb < w4.heap.size; omega)) (show rb < w4.drew.heap.size from by show rb < w4.heap.size; omega)) (show w.heap.size ≤ w4.drew.heap.size from by show w.heap.size ≤ w4.heap.size; omega))
        have HB9 := Lib.hid (((HB4.out.trans (k5.mono (by omega))).setCell (p := ⟨rb, 0, none⟩) (by show w.heap.size ≤ rb; omega) (.int .i64 W)).setCell (p := ⟨rb, 1, none⟩) (by show w.heap.size ≤ rb; omega) (.slice (some ⟨gg, 0, none⟩) M cp))
        have R9 := hr5.set2 W (.slice (some ⟨gg, 0, none⟩) M cp)
        clear n0 n1 q0 q1 q2 q3 c0 c1 p0 p1 p2 p3 ho5 hb5 k5 hv5 hr5
        (try simp only [Exit.then])
        go_wp2
        have e0 := R9.c0
        have e1 := R9.c1
        generalize ((v5.setCell ⟨rb, 0, none⟩ (.int .i64 W)).setCell ⟨rb, 1, none⟩ (.slice (some ⟨gg, 0, none⟩) M cp)) = w9 at *
        exact bodyPost_ret (v := .tuple #[.agg #[.int .i64 W, .slice (some ⟨gg, 0, none⟩) M cp], .slice (some ⟨gr, 0, none⟩) ps.length cp2, av]) (by simp [results, Tryz.results43, go_sem, e0, e1]) rfl ⟨W, M, gg, cp, l, gr, cp2, us, ps, av, la, rfl, hM, HIN.out, HRP9.out, hps3, HMA.out, HL9.out, HB9.out⟩
    | true =>
      have hk3 : ¬ (0 : Int) < (k : Int) := by
        have : ¬ 0 < k := fun h => hbk ⟨rfl, h⟩
        omega
      go_wp2_with fail
      have HS := Lib.hid (fun v9 (h9 : Below w4.heap.size w4 v9) => (show (v9.cell? ⟨vb, 0, none⟩ = some (.int .i64 W) ∧ v9.cell? ⟨vb, 1, none⟩ = some (.slice (some ⟨gg, 0, none⟩) M cp)) from by have h8 := HV4.out.on h9 (by omega); exact ⟨h8.c0, h8.c1⟩))
      have k0 : Below w4.heap.size w4 w4.drew := (Below.refl _ w4).drew
      go_region_with (go_at_call 33; refine (HK.out _ k0).mono ?_; rintro e v5 ⟨av, rfl, ho5, hb5⟩; have k5 : Below w4.heap.size w4 v5 := Below.trans k0 (hb5.mono (Below.size k0)); have hv5 := RgAt.on (w := w4) HV4.out k5 (by omega); have hr5 := RgAt.on (w := w4) HR4.out k5 (by omega); have n0 := hv5.c0; have n1 := hv5.c1; have q0 := hr5.c0; have q1 := hr5.c1; have q2 := hr5.f 0; have q3 := hr5.f 1)
      all_goals
        have HRP9 := Lib.hid (((((HRP4.out.on k5).put rb 0 (.int .i64 W) hrb1).put rb 1 (.slice (some ⟨gg, 0, none⟩) M cp) hrb1)).less (show w.heap.size ≤ W0.heap.size by omega))
        have HL9 := Lib.hid (own_below (own_off (b := rb) (o := 1) (u := (.slice (some ⟨gg, 0, none⟩) M cp)) (own_off (b := rb) (o := 0) (u := .int .i64 W) ho5 (show rb < w4.drew.heap.size from by show rb < w4.heap.size; omega)) (show rb < w4.drew.heap.size from by show rb < w4.heap.size; omega)) (show w.heap.size ≤ w4.drew.heap.size from by show w.heap.size ≤ w4.heap.size; omega))
        have HB9 := Lib.hid (((HB4.out.trans (k5.mono (by omega))).setCell (p := ⟨rb, 0, none⟩) (by show w.heap.size ≤ rb; omega) (.int .i64 W)).setCell (p := ⟨rb, 1, none⟩) (by show w.heap.size ≤ rb; omega) (.slice (some ⟨gg, 0, none⟩) M cp))
        have R9 := hr5.set2 W (.slice (some ⟨gg, 0, none⟩) M cp)
        clear n0 n1 q0 q1 q2 q3 c0 c1 p0 p1 p2 p3 ho5 hb5 k5 hv5 hr5
        (try simp only [Exit.then])
        go_wp2
        have e0 := R9.c0
        have e1 := R9.c1
        generalize ((v5.setCell ⟨rb, 0, none⟩ (.int .i64 W)).setCell ⟨rb, 1, none⟩ (.slice (some ⟨gg, 0, none⟩) M cp)) = w9 at *
        exact bodyPost_ret (v := .tuple #[.agg #[.int .i64 W, .slice (some ⟨gg, 0, none⟩) M cp], .slice (some ⟨gr, 0, none⟩) ps.length cp2, av]) (by simp [results, Tryz.results43, go_sem, e0, e1]) rfl ⟨W, M, gg, cp, l, gr, cp2, us, ps, av, la, rfl, hM, HIN.out, HRP9.out, hps3, HMA.out, HL9.out, HB9.out⟩

/-- A drawn region, drawn masks. -/
def GivesRL (w : World) (e : Ending) (w' : World) : Prop := ∃ (W : Int) (M gg cap : Nat) (l : List Int) (lv : Value) (ls : List Int), e = .returned (.tuple #[.agg #[.int .i64 W, .slice (some ⟨gg, 0, none⟩) M cap], lv]) ∧ M ≤ 8 ∧ (∀ z ∈ l, In64 z) ∧ w'.ownsRow w.heap.size 3 1 (.slice (some ⟨gg, 0, none⟩) M cap) M (iv l) ∧ MaskL ls ∧ w'.ownsRow w.heap.size 3 1 lv ls.length (iv ls) ∧ Below w.heap.size w w'

set_option maxHeartbeats 4000000 in
set_option maxRecDepth 100000 in
theorem dFmT8 (a : Option Addr) (len cap : Nat) (w : World) (hc : Code w.heap.size w a len cap) (hl : len ≤ 1048576) :
    Calls Tryz.prog 44 #[.slice a len cap] w (GivesRL w) := by
  obtain ⟨rb, hrb⟩ : ∃ rb, w.heap.size = rb := ⟨_, rfl⟩
  have hres := RgAt.new (w := w) 0 (.slice none 0 0) hrb
  have hb0 := (Below.refl w.heap.size w).alloc (Nat.le_refl _) (.cells #[.int .i64 0, .slice none 0 0] 26)
  have hsz : (w.alloc (.cells #[.int .i64 0, .slice none 0 0] 26)).heap.size = rb + 1 := by simp [hrb]
  have HC := Lib.hid (hc.on hb0)
  clear hc
  go_enter Tryz.func44, Tryz.ntmps44
  go_wp2_with fail
  generalize (w.alloc (.cells #[.int .i64 0, .slice none 0 0] 26)) = W0 at *
  have HB := Lib.hid hb0
  clear hb0
  refine (dIsT8 a len cap W0 ((HC.out).more (by omega)) hl).mono ?_
  rintro e w1 ⟨W, M, gg, cp, l, gr, cp2, us, ps, lv, ls, rfl, hM, hin, hrp, hps3, hml, hlv, hb1⟩
  have hr1 := hres.on hb1 (by omega)
  have HB1 := Lib.hid (HB.out.trans (hb1.mono (by omega)))
  have hs1 := hb1.size
  have HIN := Lib.hid hin
  have HML := Lib.hid hml
  obtain ⟨vb, hvb⟩ : ∃ vb, w1.heap.size = vb := ⟨_, rfl⟩
  have HV3 := Lib.hid (RgAt.new (w := w1) W (.slice (some ⟨gg, 0, none⟩) M cp) hvb)
  have HR3 := Lib.hid (hr1.alloc (.cells #[.int .i64 W, .slice (some ⟨gg, 0, none⟩) M cp] 26))
  have HB3 := Lib.hid (HB1.out.alloc (by omega) (.cells #[.int .i64 W, .slice (some ⟨gg, 0, none⟩) M cp] 26))
  have HO3 := Lib.hid (hrp.row.alloc (.cells #[.int .i64 W, .slice (some ⟨gg, 0, none⟩) M cp] 26))
  have HL3 := Lib.hid (hlv.alloc (.cells #[.int .i64 W, .slice (some ⟨gg, 0, none⟩) M cp] 26))
  have hs3 : (w1.alloc (.cells #[.int .i64 W, .slice (some ⟨gg, 0, none⟩) M cp] 26)).heap.size = vb + 1 := by simp [hvb]
  clear hr1 HB1 hrp hlv hb1 hres HC HB hin hml
  have c0 := HV3.out.c0
  have c1 := HV3.out.c1
  have p0 := HR3.out.c0
  have p1 := HR3.out.c1
  have p2 := HR3.out.f 0
  have p3 := HR3.out.f 1
  go_wp2
  generalize (w1.alloc (.cells #[.int .i64 W, .slice (some ⟨gg, 0, none⟩) M cp] 26)) = w3 at *
  have R9 := HR3.out.set2 W (.slice (some ⟨gg, 0, none⟩) M cp)
  have e0 := R9.c0
  have e1 := R9.c1
  have HO9 := Lib.hid (own_below (own_off (b := rb) (o := 1) (u := (.slice (some ⟨gg, 0, none⟩) M cp)) (own_off (b := rb) (o := 0) (u := .int .i64 W) HO3.out (by omega)) (by omega)) (show w.heap.size ≤ W0.heap.size by omega))
  have HL9 := Lib.hid (own_below (own_off (b := rb) (o := 1) (u := (.slice (some ⟨gg, 0, none⟩) M cp)) (own_off (b := rb) (o := 0) (u := .int .i64 W) HL3.out (by omega)) (by omega)) (show w.heap.size ≤ W0.heap.size by omega))
  have HB9 := Lib.hid ((HB3.out.setCell (p := ⟨rb, 0, none⟩) (by show w.heap.size ≤ rb; omega) (.int .i64 W)).setCell (p := ⟨rb, 1, none⟩) (by show w.heap.size ≤ rb; omega) (.slice (some ⟨gg, 0, none⟩) M cp))
  generalize ((w3.setCell ⟨rb, 0, none⟩ (.int .i64 W)).setCell ⟨rb, 1, none⟩ (.slice (some ⟨gg, 0, none⟩) M cp)) = w9 at *
  exact bodyPost_ret (v := .tuple #[.agg #[.int .i64 W, .slice (some ⟨gg, 0, none⟩) M cp], lv]) (by simp [results, Tryz.results44, go_sem, e0, e1]) rfl ⟨W, M, gg, cp, l, lv, ls, rfl, hM, HIN.out, HO9.out, HML.out, HL9.out, HB9.out⟩
end

end Go.Proofs.YtailmmamgnebhaaGreatDoor
