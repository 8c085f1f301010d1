/-
  The draws of the law on placements, one by one (written by tools/draws7.py).
-/
import Derived.Test.YtailmmamgnebhaaGreatDoorXaf
import Derived.Test.YtailmmamgnebhaaGreatDoorXao
import Derived.RangeFuncBox
namespace Go.Proofs.YtailmmamgnebhaaGreatDoor
open Go.RowKit

theorem grownBy_put (W : World) (b o : Nat) (v : Value) : W.grownBy (W.setCell ⟨b, o, none⟩ v) (some b) :=
  ⟨rfl, rfl, rfl, (KeepsWalks.setCell W _ v).size, fun k _ hk => Below.heap_setCell _ _ _ k (fun e => hk (by rw [e]))⟩
/-- A drawn region and drawn cells. -/
def GivesBoth (w : World) (e : Ending) (w' : World) : Prop := ∃ (W : Int) (M gg cap : Nat) (l : List Int) (ad : Addr) (gk off n cp : Nat) (cs : List Cl), e = .returned (.tuple #[.agg #[.int .i64 W, .slice (some ⟨gg, 0, none⟩) M cap], .slice (some ad) n cp]) ∧ M ≤ 8 ∧ (∀ z ∈ l, In64 z) ∧ w'.ownsRow w.heap.size 3 1 (.slice (some ⟨gg, 0, none⟩) M cap) M (iv l) ∧ (Came w' 2 (some ad) gk off n cp (cvs cs) ∧ (0 < cp → w.heap.size ≤ gk)) ∧ (∀ c ∈ cs, InC c) ∧ n ≤ 9 ∧ n ≤ cp ∧ Below w.heap.size w w'
def GivesRgM (w : World) (e : Ending) (w' : World) : Prop := ∃ (W : Int) (M gg cap : Nat) (l : List Int) (x : Int), e = .returned (.tuple #[.agg #[.int .i64 W, .slice (some ⟨gg, 0, none⟩) M cap], .int .i64 x]) ∧ M ≤ 8 ∧ (∀ z ∈ l, In64 z) ∧ w'.ownsRow w.heap.size 3 1 (.slice (some ⟨gg, 0, none⟩) M cap) M (iv l) ∧ In64 x ∧ Below w.heap.size w w'
/-- The same and a place. -/
def GivesAt7 (w : World) (e : Ending) (w' : World) : Prop := ∃ (W : Int) (M gg cap : Nat) (l : List Int) (ad : Addr) (gk off n cp : Nat) (cs : List Cl) (x y : Int), e = .returned (.tuple #[.agg #[.int .i64 W, .slice (some ⟨gg, 0, none⟩) M cap], .slice (some ad) n cp, .int .i64 x, .int .i64 y]) ∧ M ≤ 8 ∧ (∀ z ∈ l, In64 z) ∧ w'.ownsRow w.heap.size 3 1 (.slice (some ⟨gg, 0, none⟩) M cap) M (iv l) ∧ (Came w' 2 (some ad) gk off n cp (cvs cs) ∧ (0 < cp → w.heap.size ≤ gk)) ∧ (∀ c ∈ cs, InC c) ∧ n ≤ 9 ∧ n ≤ cp ∧ (-1 ≤ x ∧ x ≤ 5) ∧ (0 ≤ y ∧ y ≤ 5) ∧ Below w.heap.size w w'

set_option maxHeartbeats 4000000 in
set_option maxRecDepth 100000 in
theorem dBoth7 (a : Option Addr) (len cap : Nat) (w : World) (hc : Code w.heap.size w a len cap) (hl : len ≤ 1048576) :
    Calls Tryz.prog 63 #[.slice a len cap] w (GivesBoth w) := by
  obtain ⟨rb, hrb⟩ : ∃ rb, w.heap.size = rb := ⟨_, rfl⟩
  have hres := RgAt.new (w := w) 0 (.slice none 0 0) hrb
  have hb0 := (Below.refl w.heap.size w).alloc (Nat.le_refl _) (.cells #[.int .i64 0, .slice none 0 0] 26)
  have hsz : (w.alloc (.cells #[.int .i64 0, .slice none 0 0] 26)).heap.size = rb + 1 := by simp [hrb]
  have HC := Lib.hid (hc.on hb0)
  clear hc
  go_enter Tryz.func63, Tryz.ntmps63
  go_wp2_with fail
  generalize (w.alloc (.cells #[.int .i64 0, .slice none 0 0] 26)) = W0 at *
  have HB := Lib.hid hb0
  clear hb0
  refine (dNew w.heap.size a len cap W0 HC.out hl (by omega)).mono ?_
  rintro e w1 ⟨rfl, hc1, hg1⟩
  have hr1 := hres.by hg1 (by intro e; cases e)
  have HB1 := Lib.hid (HB.out.grown hg1 (by omega) (fun k h => by cases h))
  have hs1 := hg1.size
  rw [hsz] at hc1 ⊢
  have hlt1 := hc1.lt
  clear hres HC HB hg1
  obtain ⟨cg, hcg⟩ : ∃ cg, rb + 1 = cg := ⟨_, rfl⟩
  rw [hcg] at hc1 hlt1 ⊢
  go_wp2_with fail
  refine (dAny6 w.heap.size cg w1 hc1).mono ?_
  rintro e w2 ⟨W, M, gg, cp, l, rfl, hM, hin, hown, hc2, hg2⟩
  have hr2 := hr1.by hg2 (by intro e; injection e with e; omega)
  have HC2 := Lib.hid hc2
  have HB2 := Lib.hid (HB1.out.grown hg2 (by omega) (fun k h => by injection h with h; omega))
  have hs2 := hg2.size
  have ht2 := hown.lt gg rfl
  have HIN := Lib.hid hin
  clear hr1 hc1 hg2 hc2 HB1 hin
  obtain ⟨vb, hvb⟩ : ∃ vb, w2.heap.size = vb := ⟨_, rfl⟩
  have HV3 := Lib.hid (RgAt.new (w := w2) W (.slice (some ⟨gg, 0, none⟩) M cp) hvb)
  have HR3 := Lib.hid (hr2.alloc (.cells #[.int .i64 W, .slice (some ⟨gg, 0, none⟩) M cp] 26))
  have HC3 := Lib.hid (HC2.out.alloc (.cells #[.int .i64 W, .slice (some ⟨gg, 0, none⟩) M cp] 26))
  have HB3 := Lib.hid (HB2.out.alloc (by omega) (.cells #[.int .i64 W, .slice (some ⟨gg, 0, none⟩) M cp] 26))
  have HO3 := Lib.hid (own_below (hown.alloc (.cells #[.int .i64 W, .slice (some ⟨gg, 0, none⟩) M cp] 26)) (show cg + 1 ≤ w1.heap.size by omega))
  have hs3 : (w2.alloc (.cells #[.int .i64 W, .slice (some ⟨gg, 0, none⟩) M cp] 26)).heap.size = vb + 1 := by simp [hvb]
  have hgv : gg ≠ vb := by omega
  have hgc : gg ≠ cg := by omega
  have hvc : cg < vb := by omega
  have hrv : rb ≠ vb := by omega
  clear hr2 HC2 HB2 hown
  go_wp2_with fail
  generalize (w2.alloc (.cells #[.int .i64 W, .slice (some ⟨gg, 0, none⟩) M cp] 26)) = w3 at *
  refine (dOnce w.heap.size cg 3 _ HC3.out (by omega) (by omega)).mono ?_
  rintro e w4 ⟨bb, rfl, hc4, hg4⟩
  have HV := Lib.hid (HV3.out.by hg4 (by intro e; injection e with e; omega))
  have HR := Lib.hid (HR3.out.by hg4 (by intro e; injection e with e; omega))
  have HO := Lib.hid (HO3.out.kept hg4 (.inr (by intro e; have h9 : gg = cg := Option.some.inj e; omega)))
  have HCC := Lib.hid hc4
  have HB := Lib.hid (HB3.out.grown hg4 (by omega) (fun k h => by injection h with h; omega))
  have hs4 := hg4.size
  clear hc4 hg4 HV3 HR3 HO3 HC3 HB3
  cases bb with
  | true =>
    go_wp2_with fail
    have HVD := Lib.hid (show RgAt w4.drew vb W (.slice (some ⟨gg, 0, none⟩) M cp) from HV.out)
    have HRD := Lib.hid (show RgAt w4.drew rb 0 (.slice none 0 0) from HR.out)
    have HOD := Lib.hid (show w4.drew.ownsRow (cg + 1) 3 1 (.slice (some ⟨gg, 0, none⟩) M cp) M (iv l) from HO.out)
    have HCD := Lib.hid (show Cur w.heap.size w4.drew cg from HCC.out)
    have HBD := Lib.hid (HB.out.drew)
    have c0 := HV.out.c0
    have c1 := HV.out.c1
    have hsD : w4.drew.heap.size = w4.heap.size := rfl
    clear HV HR HO HCC HB
    go_region_with (go_at_call 110; refine (dAny w.heap.size cg _ HCD.out).mono ?_; rintro e w7 ⟨ad, gg2, off2, n2, cp2, cs, rfl, hcam, hgg2, hcm, hin2, hln2, hn9, hc7, hg7⟩; have hv7 := RgAt.by (w := w4.drew) HVD.out hg7 (by intro e; injection e with e; omega); have hr7 := RgAt.by (w := w4.drew) HRD.out hg7 (by intro e; injection e with e; omega); have ho7 := World.ownsRow.kept (w := w4.drew) HOD.out hg7 (.inr (by intro e; have h9 : gg = cg := Option.some.inj e; omega)); have d0 := hv7.c0; have d1 := hv7.c1; have d2 := hr7.c0; have d3 := hr7.c1; have d4 := hr7.f 0; have d5 := hr7.f 1)
    all_goals
      have HBE := Lib.hid (HBD.out.grown hg7 (by omega) (fun k h => by injection h with h; omega))
      have HR7 := Lib.hid hr7
      have HO7 := Lib.hid (own_below ho7 (show rb + 1 ≤ cg + 1 by omega))
      have HIN2 := Lib.hid hin2
      have HK7 := Lib.hid (Came.kept (Came.kept hcam (grownBy_setCell' w7 rb (.int .i64 W)) (fun h e => by have h9 : rb = gg2 := Option.some.inj e; have := hgg2 h; omega)) (grownBy_put (w7.setCell ⟨rb, 0, none⟩ (.int .i64 W)) rb 1 (.slice (some ⟨gg, 0, none⟩) M cp)) (fun h e => by have h9 : rb = gg2 := Option.some.inj e; have := hgg2 h; omega))
      have hle2 := hcam.le
      have HGE := Lib.hid (show 0 < cp2 → w.heap.size ≤ gg2 from fun h => by have := hgg2 h; omega)
      clear hr7 ho7 hv7 hc7 hg7 hcam hgg2 hin2 HVD HRD HOD HCD HBD
      try simp only [Exit.then]
      go_wp2
      have R9 := HR7.out.set2 (W) (.slice (some ⟨gg, 0, none⟩) M cp)
      have e0 := R9.c0
      have e1 := R9.c1
      have HA9 := Lib.hid (own_below (own_off (b := rb) (o := 1) (u := .slice (some ⟨gg, 0, none⟩) M cp) (own_off (b := rb) (o := 0) (u := .int .i64 (W)) HO7.out (by omega)) (by omega)) (show w.heap.size ≤ rb + 1 by omega))
      have HB9 := Lib.hid ((HBE.out.setCell (p := ⟨rb, 0, none⟩) (by show w.heap.size ≤ rb; omega) (.int .i64 (W))).setCell (p := ⟨rb, 1, none⟩) (by show w.heap.size ≤ rb; omega) (.slice (some ⟨gg, 0, none⟩) M cp))
      generalize ((w7.setCell ⟨rb, 0, none⟩ (.int .i64 (W))).setCell ⟨rb, 1, none⟩ (.slice (some ⟨gg, 0, none⟩) M cp)) = w9 at *
      exact bodyPost_ret (v := .tuple #[.agg #[.int .i64 W, .slice (some ⟨gg, 0, none⟩) M cp], .slice (some ad) n2 cp2]) (by simp [results, Tryz.results63, go_sem, e0, e1]) rfl ⟨W, M, gg, cp, l, ad, gg2, off2, n2, cp2, cs, rfl, hM.2, HIN.out, HA9.out, ⟨HK7.out, HGE.out⟩, HIN2.out, hn9, hle2, HB9.out⟩
  | false =>
    go_wp2_with fail
    have HVD := Lib.hid (show RgAt w4.drew vb W (.slice (some ⟨gg, 0, none⟩) M cp) from HV.out)
    have HRD := Lib.hid (show RgAt w4.drew rb 0 (.slice none 0 0) from HR.out)
    have HOD := Lib.hid (show w4.drew.ownsRow (cg + 1) 3 1 (.slice (some ⟨gg, 0, none⟩) M cp) M (iv l) from HO.out)
    have HCD := Lib.hid (show Cur w.heap.size w4.drew cg from HCC.out)
    have HBD := Lib.hid (HB.out.drew)
    have c0 := HV.out.c0
    have c1 := HV.out.c1
    have hsD : w4.drew.heap.size = w4.heap.size := rfl
    clear HV HR HO HCC HB
    go_region_with (go_at_call 79; refine (dPiece4 w.heap.size cg _ HCD.out).mono ?_; rintro e w7 ⟨ad, gg2, off2, n2, cp2, cs, rfl, hcam, hgg2, hcm, hin2, hln2, hn9, hc7, hg7⟩; have hv7 := RgAt.by (w := w4.drew) HVD.out hg7 (by intro e; injection e with e; omega); have hr7 := RgAt.by (w := w4.drew) HRD.out hg7 (by intro e; injection e with e; omega); have ho7 := World.ownsRow.kept (w := w4.drew) HOD.out hg7 (.inr (by intro e; have h9 : gg = cg := Option.some.inj e; omega)); have d0 := hv7.c0; have d1 := hv7.c1; have d2 := hr7.c0; have d3 := hr7.c1; have d4 := hr7.f 0; have d5 := hr7.f 1)
    all_goals
      have HBE := Lib.hid (HBD.out.grown hg7 (by omega) (fun k h => by injection h with h; omega))
      have HR7 := Lib.hid hr7
      have HO7 := Lib.hid (own_below ho7 (show rb + 1 ≤ cg + 1 by omega))
      have HIN2 := Lib.hid hin2
      have HK7 := Lib.hid (Came.kept (Came.kept hcam (grownBy_setCell' w7 rb (.int .i64 W)) (fun h e => by have h9 : rb = gg2 := Option.some.inj e; have := hgg2 h; omega)) (grownBy_put (w7.setCell ⟨rb, 0, none⟩ (.int .i64 W)) rb 1 (.slice (some ⟨gg, 0, none⟩) M cp)) (fun h e => by have h9 : rb = gg2 := Option.some.inj e; have := hgg2 h; omega))
      have hle2 := hcam.le
      have HGE := Lib.hid (show 0 < cp2 → w.heap.size ≤ gg2 from fun h => by have := hgg2 h; omega)
      clear hr7 ho7 hv7 hc7 hg7 hcam hgg2 hin2 HVD HRD HOD HCD HBD
      try simp only [Exit.then]
      go_wp2
      have R9 := HR7.out.set2 (W) (.slice (some ⟨gg, 0, none⟩) M cp)
      have e0 := R9.c0
      have e1 := R9.c1
      have HA9 := Lib.hid (own_below (own_off (b := rb) (o := 1) (u := .slice (some ⟨gg, 0, none⟩) M cp) (own_off (b := rb) (o := 0) (u := .int .i64 (W)) HO7.out (by omega)) (by omega)) (show w.heap.size ≤ rb + 1 by omega))
      have HB9 := Lib.hid ((HBE.out.setCell (p := ⟨rb, 0, none⟩) (by show w.heap.size ≤ rb; omega) (.int .i64 (W))).setCell (p := ⟨rb, 1, none⟩) (by show w.heap.size ≤ rb; omega) (.slice (some ⟨gg, 0, none⟩) M cp))
      generalize ((w7.setCell ⟨rb, 0, none⟩ (.int .i64 (W))).setCell ⟨rb, 1, none⟩ (.slice (some ⟨gg, 0, none⟩) M cp)) = w9 at *
      exact bodyPost_ret (v := .tuple #[.agg #[.int .i64 W, .slice (some ⟨gg, 0, none⟩) M cp], .slice (some ad) n2 cp2]) (by simp [results, Tryz.results63, go_sem, e0, e1]) rfl ⟨W, M, gg, cp, l, ad, gg2, off2, n2, cp2, cs, rfl, hM.2, HIN.out, HA9.out, ⟨HK7.out, HGE.out⟩, HIN2.out, hn9, hle2, HB9.out⟩

set_option maxHeartbeats 4000000 in
set_option maxRecDepth 100000 in
theorem dPlOf (a : Option Addr) (len cap : Nat) (w : World) (hc : Code w.heap.size w a len cap) (hl : len ≤ 1048576) :
    Calls Tryz.prog 11 #[.slice a len cap] w (GivesBoth w) := by
  obtain ⟨rb, hrb⟩ : ∃ rb, w.heap.size = rb := ⟨_, rfl⟩
  have hres := RgAt.new (w := w) 0 (.slice none 0 0) hrb
  have hb0 := (Below.refl w.heap.size w).alloc (Nat.le_refl _) (.cells #[.int .i64 0, .slice none 0 0] 26)
  have hsz : (w.alloc (.cells #[.int .i64 0, .slice none 0 0] 26)).heap.size = rb + 1 := by simp [hrb]
  have HC := Lib.hid ((hc.on hb0).more hb0.size)
  clear hc
  go_enter Tryz.func11, Tryz.ntmps11
  go_wp2_with fail
  generalize (w.alloc (.cells #[.int .i64 0, .slice none 0 0] 26)) = W0 at *
  have HB := Lib.hid hb0
  clear hb0
  refine (dBoth7 a len cap W0 HC.out hl).mono ?_
  rintro e w2 ⟨W, M, gg, cp, l, ad, gg2, off2, n2, cp2, cs, rfl, hM, hin, hown, ⟨hcam, hgg2⟩, hin2, hn9, hle2, hb2⟩
  have hlt0 := hres.lt
  have hs2 := hb2.size
  have hr2 := (hres.on hb2 hlt0).alloc (.cells #[.int .i64 W, .slice (some ⟨gg, 0, none⟩) M cp] 26)
  obtain ⟨vb, hvb⟩ : ∃ vb, w2.heap.size = vb := ⟨_, rfl⟩
  have hv2 := RgAt.new (w := w2) W (.slice (some ⟨gg, 0, none⟩) M cp) hvb
  have HBE := Lib.hid ((HB.out.trans (hb2.mono HB.out.size)).alloc (by omega) (.cells #[.int .i64 W, .slice (some ⟨gg, 0, none⟩) M cp] 26))
  have HO2 := Lib.hid (own_below (hown.alloc (.cells #[.int .i64 W, .slice (some ⟨gg, 0, none⟩) M cp] 26)) (show rb + 1 ≤ W0.heap.size by omega))
  have hgv := hown.lt gg rfl
  have HK2 := Lib.hid (Came.kept hcam (World.grownBy_alloc w2 (.cells #[.int .i64 W, .slice (some ⟨gg, 0, none⟩) M cp] 26) none) (fun _ => by simp))
  have HGG := Lib.hid hgg2
  have HIN := Lib.hid hin
  have HIN2 := Lib.hid hin2
  clear hres hown hcam hgg2 hin hin2 hb2 HB HC
  have q0 := hr2.c0
  have q1 := hr2.c1
  have q2 := hr2.f 0
  have q3 := hr2.f 1
  have v0 := hv2.c0
  have v1 := hv2.c1
  have HR2 := Lib.hid hr2
  have hne : rb ≠ vb := by omega
  clear hr2 hv2
  go_wp2
  have HK7 := Lib.hid (Came.kept (Came.kept HK2.out (grownBy_put (w2.alloc (.cells #[.int .i64 W, .slice (some ⟨gg, 0, none⟩) M cp] 26)) rb 0 (.int .i64 W)) (fun h e => by have h9 : rb = gg2 := Option.some.inj e; have := HGG.out h; omega)) (grownBy_put ((w2.alloc (.cells #[.int .i64 W, .slice (some ⟨gg, 0, none⟩) M cp] 26)).setCell ⟨rb, 0, none⟩ (.int .i64 W)) rb 1 (.slice (some ⟨gg, 0, none⟩) M cp)) (fun h e => by have h9 : rb = gg2 := Option.some.inj e; have := HGG.out h; omega))
  have HGE := Lib.hid (show 0 < cp2 → w.heap.size ≤ gg2 from fun h => by have := HGG.out h; omega)
  have R9 := HR2.out.set2 (W) (.slice (some ⟨gg, 0, none⟩) M cp)
  have e0 := R9.c0
  have e1 := R9.c1
  have HA9 := Lib.hid (own_below (own_off (b := rb) (o := 1) (u := .slice (some ⟨gg, 0, none⟩) M cp) (own_off (b := rb) (o := 0) (u := .int .i64 (W)) HO2.out (by omega)) (by omega)) (show w.heap.size ≤ rb + 1 by omega))
  have HB9 := Lib.hid ((HBE.out.setCell (p := ⟨rb, 0, none⟩) (by show w.heap.size ≤ rb; omega) (.int .i64 (W))).setCell (p := ⟨rb, 1, none⟩) (by show w.heap.size ≤ rb; omega) (.slice (some ⟨gg, 0, none⟩) M cp))
  generalize (((w2.alloc (.cells #[.int .i64 W, .slice (some ⟨gg, 0, none⟩) M cp] 26)).setCell ⟨rb, 0, none⟩ (.int .i64 (W))).setCell ⟨rb, 1, none⟩ (.slice (some ⟨gg, 0, none⟩) M cp)) = w9 at *
  exact bodyPost_ret (v := .tuple #[.agg #[.int .i64 W, .slice (some ⟨gg, 0, none⟩) M cp], .slice (some ad) n2 cp2]) (by simp [results, Tryz.results11, go_sem, e0, e1]) rfl ⟨W, M, gg, cp, l, ad, gg2, off2, n2, cp2, cs, rfl, hM, HIN.out, HA9.out, ⟨HK7.out, HGE.out⟩, HIN2.out, hn9, hle2, HB9.out⟩

set_option maxHeartbeats 4000000 in
set_option maxRecDepth 100000 in
theorem dMkOf (a : Option Addr) (len cap : Nat) (w : World) (hc : Code w.heap.size w a len cap) (hl : len ≤ 1048576) :
    Calls Tryz.prog 23 #[.slice a len cap] w (GivesBoth w) := by
  obtain ⟨rb, hrb⟩ : ∃ rb, w.heap.size = rb := ⟨_, rfl⟩
  have hres := RgAt.new (w := w) 0 (.slice none 0 0) hrb
  have hb0 := (Below.refl w.heap.size w).alloc (Nat.le_refl _) (.cells #[.int .i64 0, .slice none 0 0] 26)
  have hsz : (w.alloc (.cells #[.int .i64 0, .slice none 0 0] 26)).heap.size = rb + 1 := by simp [hrb]
  have HC := Lib.hid ((hc.on hb0).more hb0.size)
  clear hc
  go_enter Tryz.func23, Tryz.ntmps23
  go_wp2_with fail
  generalize (w.alloc (.cells #[.int .i64 0, .slice none 0 0] 26)) = W0 at *
  have HB := Lib.hid hb0
  clear hb0
  refine (dBoth7 a len cap W0 HC.out hl).mono ?_
  rintro e w2 ⟨W, M, gg, cp, l, ad, gg2, off2, n2, cp2, cs, rfl, hM, hin, hown, ⟨hcam, hgg2⟩, hin2, hn9, hle2, hb2⟩
  have hlt0 := hres.lt
  have hs2 := hb2.size
  have hr2 := (hres.on hb2 hlt0).alloc (.cells #[.int .i64 W, .slice (some ⟨gg, 0, none⟩) M cp] 26)
  obtain ⟨vb, hvb⟩ : ∃ vb, w2.heap.size = vb := ⟨_, rfl⟩
  have hv2 := RgAt.new (w := w2) W (.slice (some ⟨gg, 0, none⟩) M cp) hvb
  have HBE := Lib.hid ((HB.out.trans (hb2.mono HB.out.size)).alloc (by omega) (.cells #[.int .i64 W, .slice (some ⟨gg, 0, none⟩) M cp] 26))
  have HO2 := Lib.hid (own_below (hown.alloc (.cells #[.int .i64 W, .slice (some ⟨gg, 0, none⟩) M cp] 26)) (show rb + 1 ≤ W0.heap.size by omega))
  have hgv := hown.lt gg rfl
  have HK2 := Lib.hid (Came.kept hcam (World.grownBy_alloc w2 (.cells #[.int .i64 W, .slice (some ⟨gg, 0, none⟩) M cp] 26) none) (fun _ => by simp))
  have HGG := Lib.hid hgg2
  have HIN := Lib.hid hin
  have HIN2 := Lib.hid hin2
  clear hres hown hcam hgg2 hin hin2 hb2 HB HC
  have q0 := hr2.c0
  have q1 := hr2.c1
  have q2 := hr2.f 0
  have q3 := hr2.f 1
  have v0 := hv2.c0
  have v1 := hv2.c1
  have HR2 := Lib.hid hr2
  have hne : rb ≠ vb := by omega
  clear hr2 hv2
  go_wp2
  have HK7 := Lib.hid (Came.kept (Came.kept HK2.out (grownBy_put (w2.alloc (.cells #[.int .i64 W, .slice (some ⟨gg, 0, none⟩) M cp] 26)) rb 0 (.int .i64 W)) (fun h e => by have h9 : rb = gg2 := Option.some.inj e; have := HGG.out h; omega)) (grownBy_put ((w2.alloc (.cells #[.int .i64 W, .slice (some ⟨gg, 0, none⟩) M cp] 26)).setCell ⟨rb, 0, none⟩ (.int .i64 W)) rb 1 (.slice (some ⟨gg, 0, none⟩) M cp)) (fun h e => by have h9 : rb = gg2 := Option.some.inj e; have := HGG.out h; omega))
  have HGE := Lib.hid (show 0 < cp2 → w.heap.size ≤ gg2 from fun h => by have := HGG.out h; omega)
  have R9 := HR2.out.set2 (W) (.slice (some ⟨gg, 0, none⟩) M cp)
  have e0 := R9.c0
  have e1 := R9.c1
  have HA9 := Lib.hid (own_below (own_off (b := rb) (o := 1) (u := .slice (some ⟨gg, 0, none⟩) M cp) (own_off (b := rb) (o := 0) (u := .int .i64 (W)) HO2.out (by omega)) (by omega)) (show w.heap.size ≤ rb + 1 by omega))
  have HB9 := Lib.hid ((HBE.out.setCell (p := ⟨rb, 0, none⟩) (by show w.heap.size ≤ rb; omega) (.int .i64 (W))).setCell (p := ⟨rb, 1, none⟩) (by show w.heap.size ≤ rb; omega) (.slice (some ⟨gg, 0, none⟩) M cp))
  generalize (((w2.alloc (.cells #[.int .i64 W, .slice (some ⟨gg, 0, none⟩) M cp] 26)).setCell ⟨rb, 0, none⟩ (.int .i64 (W))).setCell ⟨rb, 1, none⟩ (.slice (some ⟨gg, 0, none⟩) M cp)) = w9 at *
  exact bodyPost_ret (v := .tuple #[.agg #[.int .i64 W, .slice (some ⟨gg, 0, none⟩) M cp], .slice (some ad) n2 cp2]) (by simp [results, Tryz.results23, go_sem, e0, e1]) rfl ⟨W, M, gg, cp, l, ad, gg2, off2, n2, cp2, cs, rfl, hM, HIN.out, HA9.out, ⟨HK7.out, HGE.out⟩, HIN2.out, hn9, hle2, HB9.out⟩

set_option maxHeartbeats 4000000 in
set_option maxRecDepth 100000 in
theorem dPlAt (a : Option Addr) (len cap : Nat) (w : World) (hc : Code w.heap.size w a len cap) (hl : len ≤ 1048576) :
    Calls Tryz.prog 21 #[.slice a len cap] w (GivesAt7 w) := by
  obtain ⟨rb, hrb⟩ : ∃ rb, w.heap.size = rb := ⟨_, rfl⟩
  have hres := RgAt.new (w := w) 0 (.slice none 0 0) hrb
  have hb0 := (Below.refl w.heap.size w).alloc (Nat.le_refl _) (.cells #[.int .i64 0, .slice none 0 0] 26)
  have hsz : (w.alloc (.cells #[.int .i64 0, .slice none 0 0] 26)).heap.size = rb + 1 := by simp [hrb]
  have HC := Lib.hid (hc.on hb0)
  clear hc
  go_enter Tryz.func21, Tryz.ntmps21
  go_wp2_with fail
  generalize (w.alloc (.cells #[.int .i64 0, .slice none 0 0] 26)) = W0 at *
  have HB := Lib.hid hb0
  clear hb0
  refine (dNew w.heap.size a len cap W0 HC.out hl (by omega)).mono ?_
  rintro e w1 ⟨rfl, hc1, hg1⟩
  have hr1 := hres.by hg1 (by intro e; cases e)
  have HB1 := Lib.hid (HB.out.grown hg1 (by omega) (fun k h => by cases h))
  have hs1 := hg1.size
  rw [hsz] at hc1 ⊢
  have hlt1 := hc1.lt
  clear hres HC HB hg1
  obtain ⟨cg, hcg⟩ : ∃ cg, rb + 1 = cg := ⟨_, rfl⟩
  rw [hcg] at hc1 hlt1 ⊢
  go_wp2_with fail
  refine (dAny6 w.heap.size cg w1 hc1).mono ?_
  rintro e w2 ⟨W, M, gg, cp, l, rfl, hM, hin, hown, hc2, hg2⟩
  have hr2 := hr1.by hg2 (by intro e; injection e with e; omega)
  have HC2 := Lib.hid hc2
  have HB2 := Lib.hid (HB1.out.grown hg2 (by omega) (fun k h => by injection h with h; omega))
  have hs2 := hg2.size
  have ht2 := hown.lt gg rfl
  have HIN := Lib.hid hin
  clear hr1 hc1 hg2 hc2 HB1 hin
  obtain ⟨vb, hvb⟩ : ∃ vb, w2.heap.size = vb := ⟨_, rfl⟩
  have HV3 := Lib.hid (RgAt.new (w := w2) W (.slice (some ⟨gg, 0, none⟩) M cp) hvb)
  have HR3 := Lib.hid (hr2.alloc (.cells #[.int .i64 W, .slice (some ⟨gg, 0, none⟩) M cp] 26))
  have HC3 := Lib.hid (HC2.out.alloc (.cells #[.int .i64 W, .slice (some ⟨gg, 0, none⟩) M cp] 26))
  have HB3 := Lib.hid (HB2.out.alloc (by omega) (.cells #[.int .i64 W, .slice (some ⟨gg, 0, none⟩) M cp] 26))
  have HO3 := Lib.hid (own_below (hown.alloc (.cells #[.int .i64 W, .slice (some ⟨gg, 0, none⟩) M cp] 26)) (show cg + 1 ≤ w1.heap.size by omega))
  have hs3 : (w2.alloc (.cells #[.int .i64 W, .slice (some ⟨gg, 0, none⟩) M cp] 26)).heap.size = vb + 1 := by simp [hvb]
  have hgv : gg ≠ vb := by omega
  have hgc : gg ≠ cg := by omega
  have hvc : cg < vb := by omega
  have hrv : rb ≠ vb := by omega
  clear hr2 HC2 HB2 hown
  go_wp2_with fail
  generalize (w2.alloc (.cells #[.int .i64 W, .slice (some ⟨gg, 0, none⟩) M cp] 26)) = w3 at *
  refine (dPiece4 w.heap.size cg w3 HC3.out).mono ?_
  rintro e w4 ⟨ad, gg2, off2, n2, cp2, cs, rfl, hcam, hgg2, hcm, hin2, hln2, hn9, hc4, hg4⟩
  have HV4 := Lib.hid (HV3.out.by hg4 (by intro e; injection e with e; omega))
  have HR4 := Lib.hid (HR3.out.by hg4 (by intro e; injection e with e; omega))
  have HO4 := Lib.hid (HO3.out.kept hg4 (.inr (by intro e; have h9 : gg = cg := Option.some.inj e; omega)))
  have HC4 := Lib.hid hc4
  have HB4 := Lib.hid (HB3.out.grown hg4 (by omega) (fun k h => by injection h with h; omega))
  have hs4 := hg4.size
  have HGG := Lib.hid hgg2
  have HK4 := Lib.hid hcam
  have HIN2 := Lib.hid hin2
  have hle2 := hcam.le
  clear hc4 hg4 HV3 HR3 HO3 HC3 HB3 hcam hgg2 hin2
  go_wp2_with fail
  refine (dBelow w.heap.size cg 6 w4 HC4.out (by omega) (by omega)).mono ?_
  rintro e w5 ⟨x, hx0, hx1, rfl, hc5, hg5⟩
  have HV := Lib.hid (HV4.out.by hg5 (by intro e; injection e with e; omega))
  have HR := Lib.hid (HR4.out.by hg5 (by intro e; injection e with e; omega))
  have HO := Lib.hid (HO4.out.kept hg5 (.inr (by intro e; have h9 : gg = cg := Option.some.inj e; omega)))
  have HCC := Lib.hid hc5
  have HB := Lib.hid (HB4.out.grown hg5 (by omega) (fun k h => by injection h with h; omega))
  have HK5 := Lib.hid (Came.kept HK4.out hg5 (fun h e => by have h9 : cg = gg2 := Option.some.inj e; have := HGG.out h; omega))
  have hs5 := hg5.size
  have hwx : IntKind.i64.wrap (x - 1) = x - 1 := IntWalk.i64_in _ (by omega)
  clear hc5 hg5 HV4 HR4 HO4 HC4 HB4 HK4
  go_wp2_with fail
  have HVD := Lib.hid (show RgAt w5.drew vb W (.slice (some ⟨gg, 0, none⟩) M cp) from HV.out)
  have HRD := Lib.hid (show RgAt w5.drew rb 0 (.slice none 0 0) from HR.out)
  have HOD := Lib.hid (show w5.drew.ownsRow (cg + 1) 3 1 (.slice (some ⟨gg, 0, none⟩) M cp) M (iv l) from HO.out)
  have HCD := Lib.hid (show Cur w.heap.size w5.drew cg from HCC.out)
  have HBD := Lib.hid (HB.out.drew)
  have c0 := HV.out.c0
  have c1 := HV.out.c1
  have hsD : w5.drew.heap.size = w5.heap.size := rfl
  clear HV HR HO HCC HB
  go_wp2_with fail
  go_region_with (go_at_call 80; refine (dBelow w.heap.size cg 5 _ HCD.out (by omega) (by omega)).mono ?_; rintro e w7 ⟨y, hy0, hy1, rfl, hc7, hg7⟩; have hv7 := RgAt.by (w := w5.drew) HVD.out hg7 (by intro e; injection e with e; omega); have hr7 := RgAt.by (w := w5.drew) HRD.out hg7 (by intro e; injection e with e; omega); have ho7 := World.ownsRow.kept (w := w5.drew) HOD.out hg7 (.inr (by intro e; have h9 : gg = cg := Option.some.inj e; omega)); have d0 := hv7.c0; have d1 := hv7.c1; have d2 := hr7.c0; have d3 := hr7.c1; have d4 := hr7.f 0; have d5 := hr7.f 1)
  all_goals
    have HBE := Lib.hid (HBD.out.grown hg7 (by omega) (fun k h => by injection h with h; omega))
    have HR7 := Lib.hid hr7
    have HO7 := Lib.hid (own_below ho7 (show rb + 1 ≤ cg + 1 by omega))
    have HK6 := Lib.hid (Came.kept (show Came w5.drew 2 (some ad) gg2 off2 n2 cp2 (cvs cs) from ⟨HK5.out.le, HK5.out.addr, HK5.out.lt, HK5.out.oldsLen, HK5.out.olds, HK5.out.spare⟩) hg7 (fun h e => by have h9 : cg = gg2 := Option.some.inj e; have := HGG.out h; omega))
    have HK7 := Lib.hid (Came.kept (Came.kept HK6.out (grownBy_put w7 rb 0 (.int .i64 W)) (fun h e => by have h9 : rb = gg2 := Option.some.inj e; have := HGG.out h; omega)) (grownBy_put (w7.setCell ⟨rb, 0, none⟩ (.int .i64 W)) rb 1 (.slice (some ⟨gg, 0, none⟩) M cp)) (fun h e => by have h9 : rb = gg2 := Option.some.inj e; have := HGG.out h; omega))
    have HGE := Lib.hid (show 0 < cp2 → w.heap.size ≤ gg2 from fun h => by have := HGG.out h; omega)
    clear hr7 ho7 hv7 hc7 hg7 HVD HRD HOD HCD HBD
    try simp only [Exit.then]
    go_wp2
    have R9 := HR7.out.set2 (W) (.slice (some ⟨gg, 0, none⟩) M cp)
    have e0 := R9.c0
    have e1 := R9.c1
    have HA9 := Lib.hid (own_below (own_off (b := rb) (o := 1) (u := .slice (some ⟨gg, 0, none⟩) M cp) (own_off (b := rb) (o := 0) (u := .int .i64 (W)) HO7.out (by omega)) (by omega)) (show w.heap.size ≤ rb + 1 by omega))
    have HB9 := Lib.hid ((HBE.out.setCell (p := ⟨rb, 0, none⟩) (by show w.heap.size ≤ rb; omega) (.int .i64 (W))).setCell (p := ⟨rb, 1, none⟩) (by show w.heap.size ≤ rb; omega) (.slice (some ⟨gg, 0, none⟩) M cp))
    generalize ((w7.setCell ⟨rb, 0, none⟩ (.int .i64 (W))).setCell ⟨rb, 1, none⟩ (.slice (some ⟨gg, 0, none⟩) M cp)) = w9 at *
    exact bodyPost_ret (v := .tuple #[.agg #[.int .i64 W, .slice (some ⟨gg, 0, none⟩) M cp], .slice (some ad) n2 cp2, .int .i64 (x - 1), .int .i64 y]) (by simp [results, Tryz.results21, go_sem, e0, e1]) rfl ⟨W, M, gg, cp, l, ad, gg2, off2, n2, cp2, cs, x - 1, y, rfl, hM.2, HIN.out, HA9.out, ⟨HK7.out, HGE.out⟩, HIN2.out, hn9, hle2, ⟨by omega, by omega⟩, ⟨by omega, by omega⟩, HB9.out⟩

end Go.Proofs.YtailmmamgnebhaaGreatDoor
