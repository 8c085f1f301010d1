/-
  The draws of the law on all regions, one by one (written by tools/draws.py).
  More draws of the law on all regions (written by tools/draws.py): two regions, a shape.
  The draw of a region with rows of its own (written by tools/draws.py).
-/
import Derived.Test.YtcfioncnpfoccaaGreatDoorRdr
namespace Go.Proofs.YtcfioncnpfoccaaGreatDoor

section
open Go.RowKit

theorem Code.more {B B' : Nat} {w : World} {a : Option Addr} {len cap : Nat} (h : Code B w a len cap) (hB : B ≤ B') : Code B' w a len cap :=
  ⟨h.1, fun hp => by
    obtain ⟨b, off, e, hlt, hc⟩ := h.2 hp
    exact ⟨b, off, e, Nat.lt_of_lt_of_le hlt hB, hc⟩⟩
/-- A drawn region; with one number; with two. -/
def GivesRg (w : World) (e : Ending) (w' : World) : Prop := ∃ (W : Int) (M gg cap : Nat) (l : List Int), e = .returned (.agg #[.int .i64 W, .slice (some ⟨gg, 0, none⟩) M cap]) ∧ M ≤ 8 ∧ (∀ z ∈ l, In64 z) ∧ w'.ownsRow w.heap.size 3 1 (.slice (some ⟨gg, 0, none⟩) M cap) M (iv l) ∧ Below w.heap.size w w'
def GivesRg1 (w : World) (e : Ending) (w' : World) : Prop := ∃ (W : Int) (M gg cap : Nat) (l : List Int) (x : Int), e = .returned (.tuple #[.agg #[.int .i64 W, .slice (some ⟨gg, 0, none⟩) M cap], .int .i64 x]) ∧ -1 ≤ x ∧ x ≤ 7 ∧ M ≤ 8 ∧ (∀ z ∈ l, In64 z) ∧ w'.ownsRow w.heap.size 3 1 (.slice (some ⟨gg, 0, none⟩) M cap) M (iv l) ∧ Below w.heap.size w w'
def GivesRg2 (w : World) (e : Ending) (w' : World) : Prop := ∃ (W : Int) (M gg cap : Nat) (l : List Int) (x y : Int), e = .returned (.tuple #[.agg #[.int .i64 W, .slice (some ⟨gg, 0, none⟩) M cap], .int .i64 x, .int .i64 y]) ∧ (-1 ≤ x ∧ x ≤ 5) ∧ (0 ≤ y ∧ y ≤ 5) ∧ M ≤ 8 ∧ (∀ z ∈ l, In64 z) ∧ w'.ownsRow w.heap.size 3 1 (.slice (some ⟨gg, 0, none⟩) M cap) M (iv l) ∧ Below w.heap.size w w'

set_option maxHeartbeats 4000000 in
set_option maxRecDepth 100000 in
theorem dFmtR (a : Option Addr) (len cap : Nat) (w : World) (hc : Code w.heap.size w a len cap) (hl : len ≤ 1048576) :
    Calls Tryz.prog 5 #[.slice a len cap] w (GivesRg w) := by
  obtain ⟨rb, hrb⟩ : ∃ rb, w.heap.size = rb := ⟨_, rfl⟩
  have hres := RgAt.new (w := w) 0 (.slice none 0 0) hrb
  have hb0 := (Below.refl w.heap.size w).alloc (Nat.le_refl _) (.cells #[.int .i64 0, .slice none 0 0] 26)
  have hsz : (w.alloc (.cells #[.int .i64 0, .slice none 0 0] 26)).heap.size = rb + 1 := by simp [hrb]
  have HC := Lib.hid (hc.on hb0)
  clear hc
  go_enter Tryz.func5, Tryz.ntmps5
  go_wp2_with fail
  generalize (w.alloc (.cells #[.int .i64 0, .slice none 0 0] 26)) = W0 at *
  have HB := Lib.hid hb0
  clear hb0
  refine (dNew w.heap.size a len cap W0 HC.out hl (by omega)).mono ?_
  rintro e w1 ⟨rfl, hc1, hg1⟩
  have hr1 := hres.by hg1 (by intro e; cases e)
  have HB1 := Lib.hid (HB.out.grown hg1 (by omega) (fun k h => by cases h))
  have hs1 := hg1.size
  rw [hsz] at hc1 ⊢
  have hlt1 := hc1.lt
  clear hres HC HB hg1
  obtain ⟨cg, hcg⟩ : ∃ cg, rb + 1 = cg := ⟨_, rfl⟩
  rw [hcg] at hc1 hlt1 ⊢
  go_wp2_with fail
  refine (dAny6 w.heap.size cg w1 hc1).mono ?_
  rintro e w2 ⟨W, M, gg, cp, l, rfl, hM, hin, hown, hc2, hg2⟩
  have hr2 := hr1.by hg2 (by intro e; injection e with e; omega)
  have HC2 := Lib.hid hc2
  have HB2 := Lib.hid (HB1.out.grown hg2 (by omega) (fun k h => by injection h with h; omega))
  have hs2 := hg2.size
  have ht2 := hown.lt gg rfl
  have HIN := Lib.hid hin
  clear hr1 hc1 hg2 hc2 HB1 hin
  have q0 := hr2.c0
  have q1 := hr2.c1
  have q2 := hr2.f 0
  have q3 := hr2.f 1
  have HR2 := Lib.hid hr2
  have HO2 := Lib.hid (own_below hown (show rb + 1 ≤ w1.heap.size by omega))
  have HBE := Lib.hid HB2.out
  clear hr2 hown HB2
  go_wp2
  have R9 := HR2.out.set2 (W) (.slice (some ⟨gg, 0, none⟩) M cp)
  have e0 := R9.c0
  have e1 := R9.c1
  have HA9 := Lib.hid (own_below (own_off (b := rb) (o := 1) (u := .slice (some ⟨gg, 0, none⟩) M cp) (own_off (b := rb) (o := 0) (u := .int .i64 (W)) HO2.out (by omega)) (by omega)) (show w.heap.size ≤ rb + 1 by omega))
  have HB9 := Lib.hid ((HBE.out.setCell (p := ⟨rb, 0, none⟩) (by show w.heap.size ≤ rb; omega) (.int .i64 (W))).setCell (p := ⟨rb, 1, none⟩) (by show w.heap.size ≤ rb; omega) (.slice (some ⟨gg, 0, none⟩) M cp))
  generalize ((w2.setCell ⟨rb, 0, none⟩ (.int .i64 (W))).setCell ⟨rb, 1, none⟩ (.slice (some ⟨gg, 0, none⟩) M cp)) = w9 at *
  exact bodyPost_ret (v := .agg #[.int .i64 W, .slice (some ⟨gg, 0, none⟩) M cp]) (by simp [results, Tryz.results5, go_sem, e0, e1]) rfl ⟨W, M, gg, cp, l, rfl, hM.2, HIN.out, HA9.out, HB9.out⟩

set_option maxHeartbeats 4000000 in
set_option maxRecDepth 100000 in
theorem dAt6 (a : Option Addr) (len cap : Nat) (w : World) (hc : Code w.heap.size w a len cap) (hl : len ≤ 1048576) :
    Calls Tryz.prog 59 #[.slice a len cap] w (GivesRg2 w) := by
  obtain ⟨rb, hrb⟩ : ∃ rb, w.heap.size = rb := ⟨_, rfl⟩
  have hres := RgAt.new (w := w) 0 (.slice none 0 0) hrb
  have hb0 := (Below.refl w.heap.size w).alloc (Nat.le_refl _) (.cells #[.int .i64 0, .slice none 0 0] 26)
  have hsz : (w.alloc (.cells #[.int .i64 0, .slice none 0 0] 26)).heap.size = rb + 1 := by simp [hrb]
  have HC := Lib.hid (hc.on hb0)
  clear hc
  go_enter Tryz.func59, Tryz.ntmps59
  go_wp2_with fail
  generalize (w.alloc (.cells #[.int .i64 0, .slice none 0 0] 26)) = W0 at *
  have HB := Lib.hid hb0
  clear hb0
  refine (dNew w.heap.size a len cap W0 HC.out hl (by omega)).mono ?_
  rintro e w1 ⟨rfl, hc1, hg1⟩
  have hr1 := hres.by hg1 (by intro e; cases e)
  have HB1 := Lib.hid (HB.out.grown hg1 (by omega) (fun k h => by cases h))
  have hs1 := hg1.size
  rw [hsz] at hc1 ⊢
  have hlt1 := hc1.lt
  clear hres HC HB hg1
  obtain ⟨cg, hcg⟩ : ∃ cg, rb + 1 = cg := ⟨_, rfl⟩
  rw [hcg] at hc1 hlt1 ⊢
  go_wp2_with fail
  refine (dAny6 w.heap.size cg w1 hc1).mono ?_
  rintro e w2 ⟨W, M, gg, cp, l, rfl, hM, hin, hown, hc2, hg2⟩
  have hr2 := hr1.by hg2 (by intro e; injection e with e; omega)
  have HC2 := Lib.hid hc2
  have HB2 := Lib.hid (HB1.out.grown hg2 (by omega) (fun k h => by injection h with h; omega))
  have hs2 := hg2.size
  have ht2 := hown.lt gg rfl
  have HIN := Lib.hid hin
  clear hr1 hc1 hg2 hc2 HB1 hin
  obtain ⟨vb, hvb⟩ : ∃ vb, w2.heap.size = vb := ⟨_, rfl⟩
  have HV3 := Lib.hid (RgAt.new (w := w2) W (.slice (some ⟨gg, 0, none⟩) M cp) hvb)
  have HR3 := Lib.hid (hr2.alloc (.cells #[.int .i64 W, .slice (some ⟨gg, 0, none⟩) M cp] 26))
  have HC3 := Lib.hid (HC2.out.alloc (.cells #[.int .i64 W, .slice (some ⟨gg, 0, none⟩) M cp] 26))
  have HB3 := Lib.hid (HB2.out.alloc (by omega) (.cells #[.int .i64 W, .slice (some ⟨gg, 0, none⟩) M cp] 26))
  have HO3 := Lib.hid (own_below (hown.alloc (.cells #[.int .i64 W, .slice (some ⟨gg, 0, none⟩) M cp] 26)) (show cg + 1 ≤ w1.heap.size by omega))
  have hs3 : (w2.alloc (.cells #[.int .i64 W, .slice (some ⟨gg, 0, none⟩) M cp] 26)).heap.size = vb + 1 := by simp [hvb]
  have hgv : gg ≠ vb := by omega
  have hgc : gg ≠ cg := by omega
  have hvc : cg < vb := by omega
  have hrv : rb ≠ vb := by omega
  clear hr2 HC2 HB2 hown
  go_wp2_with fail
  generalize (w2.alloc (.cells #[.int .i64 W, .slice (some ⟨gg, 0, none⟩) M cp] 26)) = w3 at *
  refine (dBelow w.heap.size cg 7 _ HC3.out (by omega) (by omega)).mono ?_
  rintro e w4 ⟨x, hx0, hx1, rfl, hc4, hg4⟩
  have HV := Lib.hid (HV3.out.by hg4 (by intro e; injection e with e; omega))
  have HR := Lib.hid (HR3.out.by hg4 (by intro e; injection e with e; omega))
  have HO := Lib.hid (HO3.out.kept hg4 (.inr (by intro e; have h9 : gg = cg := Option.some.inj e; omega)))
  have HCC := Lib.hid hc4
  have HB := Lib.hid (HB3.out.grown hg4 (by omega) (fun k h => by injection h with h; omega))
  have hs4 := hg4.size
  have hwx : IntKind.i64.wrap (x - 1) = x - 1 := IntWalk.i64_in _ (by omega)
  clear hc4 hg4 HV3 HR3 HO3 HC3 HB3
  go_wp2_with fail
  have HVD := Lib.hid (show RgAt w4.drew vb W (.slice (some ⟨gg, 0, none⟩) M cp) from HV.out)
  have HRD := Lib.hid (show RgAt w4.drew rb 0 (.slice none 0 0) from HR.out)
  have HOD := Lib.hid (show w4.drew.ownsRow (cg + 1) 3 1 (.slice (some ⟨gg, 0, none⟩) M cp) M (iv l) from HO.out)
  have HCD := Lib.hid (show Cur w.heap.size w4.drew cg from HCC.out)
  have HBD := Lib.hid (HB.out.drew)
  have c0 := HV.out.c0
  have c1 := HV.out.c1
  have hsD : w4.drew.heap.size = w4.heap.size := rfl
  clear HV HR HO HCC HB
  go_wp2_with fail
  go_region_with (go_at_call 45; refine (dBelow w.heap.size cg 6 _ HCD.out (by omega) (by omega)).mono ?_; rintro e w7 ⟨y, hy0, hy1, rfl, hc7, hg7⟩; have hv7 := RgAt.by (w := w4.drew) HVD.out hg7 (by intro e; injection e with e; omega); have hr7 := RgAt.by (w := w4.drew) HRD.out hg7 (by intro e; injection e with e; omega); have ho7 := World.ownsRow.kept (w := w4.drew) HOD.out hg7 (.inr (by intro e; have h9 : gg = cg := Option.some.inj e; omega)); have d0 := hv7.c0; have d1 := hv7.c1; have d2 := hr7.c0; have d3 := hr7.c1; have d4 := hr7.f 0; have d5 := hr7.f 1)
  all_goals
    have HBE := Lib.hid (HBD.out.grown hg7 (by omega) (fun k h => by injection h with h; omega))
    have HR7 := Lib.hid hr7
    have HO7 := Lib.hid (own_below ho7 (show rb + 1 ≤ cg + 1 by omega))
    clear hr7 ho7 hv7 hc7 hg7 HVD HRD HOD HCD HBD
    try simp only [Exit.then]
    go_wp2
    have R9 := HR7.out.set2 (W) (.slice (some ⟨gg, 0, none⟩) M cp)
    have e0 := R9.c0
    have e1 := R9.c1
    have HA9 := Lib.hid (own_below (own_off (b := rb) (o := 1) (u := .slice (some ⟨gg, 0, none⟩) M cp) (own_off (b := rb) (o := 0) (u := .int .i64 (W)) HO7.out (by omega)) (by omega)) (show w.heap.size ≤ rb + 1 by omega))
    have HB9 := Lib.hid ((HBE.out.setCell (p := ⟨rb, 0, none⟩) (by show w.heap.size ≤ rb; omega) (.int .i64 (W))).setCell (p := ⟨rb, 1, none⟩) (by show w.heap.size ≤ rb; omega) (.slice (some ⟨gg, 0, none⟩) M cp))
    generalize ((w7.setCell ⟨rb, 0, none⟩ (.int .i64 (W))).setCell ⟨rb, 1, none⟩ (.slice (some ⟨gg, 0, none⟩) M cp)) = w9 at *
    exact bodyPost_ret (v := .tuple #[.agg #[.int .i64 W, .slice (some ⟨gg, 0, none⟩) M cp], .int .i64 (x - 1), .int .i64 y]) (by simp [results, Tryz.results59, go_sem, e0, e1]) rfl ⟨W, M, gg, cp, l, x - 1, y, rfl, ⟨by omega, by omega⟩, ⟨by omega, by omega⟩, hM.2, HIN.out, HA9.out, HB9.out⟩

set_option maxHeartbeats 4000000 in
set_option maxRecDepth 100000 in
theorem dColR (a : Option Addr) (len cap : Nat) (w : World) (hc : Code w.heap.size w a len cap) (hl : len ≤ 1048576) :
    Calls Tryz.prog 26 #[.slice a len cap] w (GivesRg1 w) := by
  obtain ⟨rb, hrb⟩ : ∃ rb, w.heap.size = rb := ⟨_, rfl⟩
  have hres := RgAt.new (w := w) 0 (.slice none 0 0) hrb
  have hb0 := (Below.refl w.heap.size w).alloc (Nat.le_refl _) (.cells #[.int .i64 0, .slice none 0 0] 26)
  have hsz : (w.alloc (.cells #[.int .i64 0, .slice none 0 0] 26)).heap.size = rb + 1 := by simp [hrb]
  have HC := Lib.hid (hc.on hb0)
  clear hc
  go_enter Tryz.func26, Tryz.ntmps26
  go_wp2_with fail
  generalize (w.alloc (.cells #[.int .i64 0, .slice none 0 0] 26)) = W0 at *
  have HB := Lib.hid hb0
  clear hb0
  refine (dNew w.heap.size a len cap W0 HC.out hl (by omega)).mono ?_
  rintro e w1 ⟨rfl, hc1, hg1⟩
  have hr1 := hres.by hg1 (by intro e; cases e)
  have HB1 := Lib.hid (HB.out.grown hg1 (by omega) (fun k h => by cases h))
  have hs1 := hg1.size
  rw [hsz] at hc1 ⊢
  have hlt1 := hc1.lt
  clear hres HC HB hg1
  obtain ⟨cg, hcg⟩ : ∃ cg, rb + 1 = cg := ⟨_, rfl⟩
  rw [hcg] at hc1 hlt1 ⊢
  go_wp2_with fail
  refine (dAny6 w.heap.size cg w1 hc1).mono ?_
  rintro e w2 ⟨W, M, gg, cp, l, rfl, hM, hin, hown, hc2, hg2⟩
  have hr2 := hr1.by hg2 (by intro e; injection e with e; omega)
  have HC2 := Lib.hid hc2
  have HB2 := Lib.hid (HB1.out.grown hg2 (by omega) (fun k h => by injection h with h; omega))
  have hs2 := hg2.size
  have ht2 := hown.lt gg rfl
  have HIN := Lib.hid hin
  clear hr1 hc1 hg2 hc2 HB1 hin
  obtain ⟨vb, hvb⟩ : ∃ vb, w2.heap.size = vb := ⟨_, rfl⟩
  have HV3 := Lib.hid (RgAt.new (w := w2) W (.slice (some ⟨gg, 0, none⟩) M cp) hvb)
  have HR3 := Lib.hid (hr2.alloc (.cells #[.int .i64 W, .slice (some ⟨gg, 0, none⟩) M cp] 26))
  have HC3 := Lib.hid (HC2.out.alloc (.cells #[.int .i64 W, .slice (some ⟨gg, 0, none⟩) M cp] 26))
  have HB3 := Lib.hid (HB2.out.alloc (by omega) (.cells #[.int .i64 W, .slice (some ⟨gg, 0, none⟩) M cp] 26))
  have HO3 := Lib.hid (own_below (hown.alloc (.cells #[.int .i64 W, .slice (some ⟨gg, 0, none⟩) M cp] 26)) (show cg + 1 ≤ w1.heap.size by omega))
  have hs3 : (w2.alloc (.cells #[.int .i64 W, .slice (some ⟨gg, 0, none⟩) M cp] 26)).heap.size = vb + 1 := by simp [hvb]
  have hgv : gg ≠ vb := by omega
  have hgc : gg ≠ cg := by omega
  have hvc : cg < vb := by omega
  have hrv : rb ≠ vb := by omega
  clear hr2 HC2 HB2 hown
  go_wp2_with fail
  generalize (w2.alloc (.cells #[.int .i64 W, .slice (some ⟨gg, 0, none⟩) M cp] 26)) = w3 at *
  have HV := HV3
  have HR := HR3
  have HO := HO3
  have HCC := HC3
  have HB := HB3
  clear HV3 HR3 HO3 HC3 HB3
  have HVD := Lib.hid (show RgAt w3.drew vb W (.slice (some ⟨gg, 0, none⟩) M cp) from HV.out)
  have HRD := Lib.hid (show RgAt w3.drew rb 0 (.slice none 0 0) from HR.out)
  have HOD := Lib.hid (show w3.drew.ownsRow (cg + 1) 3 1 (.slice (some ⟨gg, 0, none⟩) M cp) M (iv l) from HO.out)
  have HCD := Lib.hid (show Cur w.heap.size w3.drew cg from HCC.out)
  have HBD := Lib.hid (HB.out.drew)
  have c0 := HV.out.c0
  have c1 := HV.out.c1
  have hsD : w3.drew.heap.size = w3.heap.size := rfl
  clear HV HR HO HCC HB
  go_wp2_with fail
  go_region_with (go_at_call 45; refine (dBelow w.heap.size cg 9 _ HCD.out (by omega) (by omega)).mono ?_; rintro e w7 ⟨y, hy0, hy1, rfl, hc7, hg7⟩; have hwy : IntKind.i64.wrap (y - 1) = y - 1 := IntWalk.i64_in _ (by omega); have hv7 := RgAt.by (w := w3.drew) HVD.out hg7 (by intro e; injection e with e; omega); have hr7 := RgAt.by (w := w3.drew) HRD.out hg7 (by intro e; injection e with e; omega); have ho7 := World.ownsRow.kept (w := w3.drew) HOD.out hg7 (.inr (by intro e; have h9 : gg = cg := Option.some.inj e; omega)); have d0 := hv7.c0; have d1 := hv7.c1; have d2 := hr7.c0; have d3 := hr7.c1; have d4 := hr7.f 0; have d5 := hr7.f 1)
  all_goals
    have HBE := Lib.hid (HBD.out.grown hg7 (by omega) (fun k h => by injection h with h; omega))
    have HR7 := Lib.hid hr7
    have HO7 := Lib.hid (own_below ho7 (show rb + 1 ≤ cg + 1 by omega))
    clear hr7 ho7 hv7 hc7 hg7 HVD HRD HOD HCD HBD
    try simp only [Exit.then]
    go_wp2
    have R9 := HR7.out.set2 (W) (.slice (some ⟨gg, 0, none⟩) M cp)
    have e0 := R9.c0
    have e1 := R9.c1
    have HA9 := Lib.hid (own_below (own_off (b := rb) (o := 1) (u := .slice (some ⟨gg, 0, none⟩) M cp) (own_off (b := rb) (o := 0) (u := .int .i64 (W)) HO7.out (by omega)) (by omega)) (show w.heap.size ≤ rb + 1 by omega))
    have HB9 := Lib.hid ((HBE.out.setCell (p := ⟨rb, 0, none⟩) (by show w.heap.size ≤ rb; omega) (.int .i64 (W))).setCell (p := ⟨rb, 1, none⟩) (by show w.heap.size ≤ rb; omega) (.slice (some ⟨gg, 0, none⟩) M cp))
    generalize ((w7.setCell ⟨rb, 0, none⟩ (.int .i64 (W))).setCell ⟨rb, 1, none⟩ (.slice (some ⟨gg, 0, none⟩) M cp)) = w9 at *
    exact bodyPost_ret (v := .tuple #[.agg #[.int .i64 W, .slice (some ⟨gg, 0, none⟩) M cp], .int .i64 (y - 1)]) (by simp [results, Tryz.results26, go_sem, e0, e1]) rfl ⟨W, M, gg, cp, l, y - 1, rfl, by omega, by omega, hM.2, HIN.out, HA9.out, HB9.out⟩

set_option maxHeartbeats 4000000 in
set_option maxRecDepth 100000 in
theorem dRemR (a : Option Addr) (len cap : Nat) (w : World) (hc : Code w.heap.size w a len cap) (hl : len ≤ 1048576) :
    Calls Tryz.prog 19 #[.slice a len cap] w (GivesRg2 w) := by
  obtain ⟨rb, hrb⟩ : ∃ rb, w.heap.size = rb := ⟨_, rfl⟩
  have hres := RgAt.new (w := w) 0 (.slice none 0 0) hrb
  have hb0 := (Below.refl w.heap.size w).alloc (Nat.le_refl _) (.cells #[.int .i64 0, .slice none 0 0] 26)
  have hsz : (w.alloc (.cells #[.int .i64 0, .slice none 0 0] 26)).heap.size = rb + 1 := by simp [hrb]
  have HC := Lib.hid ((hc.on hb0).more (show w.heap.size ≤ (w.alloc (.cells #[.int .i64 0, .slice none 0 0] 26)).heap.size by omega))
  clear hc
  go_enter Tryz.func19, Tryz.ntmps19
  go_wp2_with fail
  generalize (w.alloc (.cells #[.int .i64 0, .slice none 0 0] 26)) = W0 at *
  have HB := Lib.hid hb0
  clear hb0
  refine (dAt6 a len cap W0 HC.out hl).mono ?_
  rintro e w1 ⟨W, M, gg, cp, l, x, y, rfl, hx, hy, hM, hin, hown, hb1⟩
  have hr1 := hres.on hb1 hres.lt
  have HB1 := Lib.hid (HB.out.trans (hb1.mono (by omega)))
  have HIN := Lib.hid hin
  have hs1 := hb1.size
  have HO2 := Lib.hid (own_below (hown.alloc (.cells #[.int .i64 W, .slice (some ⟨gg, 0, none⟩) M cp] 26)) (show rb + 1 ≤ W0.heap.size by omega))
  obtain ⟨vb, hvb⟩ : ∃ vb, w1.heap.size = vb := ⟨_, rfl⟩
  have hv2 := RgAt.new (w := w1) W (.slice (some ⟨gg, 0, none⟩) M cp) hvb
  have hr2 := hr1.alloc (.cells #[.int .i64 W, .slice (some ⟨gg, 0, none⟩) M cp] 26)
  have HBE := Lib.hid (HB1.out.alloc (by omega) (.cells #[.int .i64 W, .slice (some ⟨gg, 0, none⟩) M cp] 26))
  have c0 := hv2.c0
  have c1 := hv2.c1
  have q0 := hr2.c0
  have q1 := hr2.c1
  have q2 := hr2.f 0
  have q3 := hr2.f 1
  have HR2 := Lib.hid hr2
  clear hr1 hres hb1 hown HB HC HB1 hr2 hv2 hin
  go_wp2
  generalize (w1.alloc (.cells #[.int .i64 W, .slice (some ⟨gg, 0, none⟩) M cp] 26)) = w2 at *
  have R9 := HR2.out.set2 (W) (.slice (some ⟨gg, 0, none⟩) M cp)
  have e0 := R9.c0
  have e1 := R9.c1
  have HA9 := Lib.hid (own_below (own_off (b := rb) (o := 1) (u := .slice (some ⟨gg, 0, none⟩) M cp) (own_off (b := rb) (o := 0) (u := .int .i64 (W)) HO2.out (by omega)) (by omega)) (show w.heap.size ≤ rb + 1 by omega))
  have HB9 := Lib.hid ((HBE.out.setCell (p := ⟨rb, 0, none⟩) (by show w.heap.size ≤ rb; omega) (.int .i64 (W))).setCell (p := ⟨rb, 1, none⟩) (by show w.heap.size ≤ rb; omega) (.slice (some ⟨gg, 0, none⟩) M cp))
  generalize ((w2.setCell ⟨rb, 0, none⟩ (.int .i64 (W))).setCell ⟨rb, 1, none⟩ (.slice (some ⟨gg, 0, none⟩) M cp)) = w9 at *
  exact bodyPost_ret (v := .tuple #[.agg #[.int .i64 W, .slice (some ⟨gg, 0, none⟩) M cp], .int .i64 x, .int .i64 y]) (by simp [results, Tryz.results19, go_sem, e0, e1]) rfl ⟨W, M, gg, cp, l, x, y, rfl, hx, hy, hM, HIN.out, HA9.out, HB9.out⟩
end

section
open Go.RowKit

def GivesRR (w : World) (e : Ending) (w' : World) : Prop := ∃ (W : Int) (M gg cap : Nat) (l : List Int) (W2 : Int) (M2 g2 cap2 : Nat) (l2 : List Int), e = .returned (.tuple #[.agg #[.int .i64 W, .slice (some ⟨gg, 0, none⟩) M cap], .agg #[.int .i64 W2, .slice (some ⟨g2, 0, none⟩) M2 cap2]]) ∧
  M ≤ 8 ∧ (∀ z ∈ l, In64 z) ∧ w'.ownsRow w.heap.size 3 1 (.slice (some ⟨gg, 0, none⟩) M cap) M (iv l) ∧ M2 ≤ 8 ∧ (∀ z ∈ l2, In64 z) ∧ w'.ownsRow w.heap.size 3 1 (.slice (some ⟨g2, 0, none⟩) M2 cap2) M2 (iv l2) ∧ Below w.heap.size w w'

set_option maxHeartbeats 4000000 in
set_option maxRecDepth 100000 in
theorem dEqRR (a : Option Addr) (len cap : Nat) (w : World) (hc : Code w.heap.size w a len cap) (hl : len ≤ 1048576) :
    Calls Tryz.prog 30 #[.slice a len cap] w (GivesRR w) := by
  obtain ⟨rb, hrb⟩ : ∃ rb, w.heap.size = rb := ⟨_, rfl⟩
  have hres := RgAt.new (w := w) 0 (.slice none 0 0) hrb
  have hb0 := (Below.refl w.heap.size w).alloc (Nat.le_refl _) (.cells #[.int .i64 0, .slice none 0 0] 26)
  have hsz : (w.alloc (.cells #[.int .i64 0, .slice none 0 0] 26)).heap.size = rb + 1 := by simp [hrb]
  have hrs2 := RgAt.new (w := (w.alloc (.cells #[.int .i64 0, .slice none 0 0] 26))) 0 (.slice none 0 0) hsz
  replace hres := hres.alloc (.cells #[.int .i64 0, .slice none 0 0] 26)
  replace hb0 := hb0.alloc hb0.size (.cells #[.int .i64 0, .slice none 0 0] 26)
  replace hsz : ((w.alloc (.cells #[.int .i64 0, .slice none 0 0] 26)).alloc (.cells #[.int .i64 0, .slice none 0 0] 26)).heap.size = rb + 1 + 1 := by simp [hrb]
  have HC := Lib.hid (hc.on hb0)
  clear hc
  go_enter Tryz.func30, Tryz.ntmps30
  go_wp2_with fail
  generalize ((w.alloc (.cells #[.int .i64 0, .slice none 0 0] 26)).alloc (.cells #[.int .i64 0, .slice none 0 0] 26)) = W0 at *
  have HB := Lib.hid hb0
  clear hb0
  refine (dNew w.heap.size a len cap W0 HC.out hl (by omega)).mono ?_
  rintro e w1 ⟨rfl, hc1, hg1⟩
  have hr1 := hres.by hg1 (by intro e; cases e)
  have hr12 := hrs2.by hg1 (by intro e; cases e)
  have HB1 := Lib.hid (HB.out.grown hg1 (by omega) (fun k h => by cases h))
  have hs1 := hg1.size
  rw [hsz] at hc1 ⊢
  have hlt1 := hc1.lt
  clear hres HC HB hg1 hrs2
  obtain ⟨cg, hcg⟩ : ∃ cg, rb + 1 + 1 = cg := ⟨_, rfl⟩
  rw [hcg] at hc1 hlt1 ⊢
  go_wp2_with fail
  refine (dAny6 w.heap.size cg w1 hc1).mono ?_
  rintro e w2 ⟨W, M, gg, cp, l, rfl, hM, hin, hown, hc2, hg2⟩
  have hr2 := hr1.by hg2 (by intro e; injection e with e; omega)
  have hr22 := hr12.by hg2 (by intro e; injection e with e; omega)
  have HC2 := Lib.hid hc2
  have HB2 := Lib.hid (HB1.out.grown hg2 (by omega) (fun k h => by injection h with h; omega))
  have hs2 := hg2.size
  have ht2 := hown.lt gg rfl
  have HIN := Lib.hid hin
  clear hr1 hc1 hg2 hc2 HB1 hin hr12
  obtain ⟨vb, hvb⟩ : ∃ vb, w2.heap.size = vb := ⟨_, rfl⟩
  have HV3 := Lib.hid (RgAt.new (w := w2) W (.slice (some ⟨gg, 0, none⟩) M cp) hvb)
  have HR3 := Lib.hid (hr2.alloc (.cells #[.int .i64 W, .slice (some ⟨gg, 0, none⟩) M cp] 26))
  have HQ3 := Lib.hid (hr22.alloc (.cells #[.int .i64 W, .slice (some ⟨gg, 0, none⟩) M cp] 26))
  have HC3 := Lib.hid (HC2.out.alloc (.cells #[.int .i64 W, .slice (some ⟨gg, 0, none⟩) M cp] 26))
  have HB3 := Lib.hid (HB2.out.alloc (by omega) (.cells #[.int .i64 W, .slice (some ⟨gg, 0, none⟩) M cp] 26))
  have HO3 := Lib.hid (own_below (hown.alloc (.cells #[.int .i64 W, .slice (some ⟨gg, 0, none⟩) M cp] 26)) (show cg + 1 ≤ w1.heap.size by omega))
  have hs3 : (w2.alloc (.cells #[.int .i64 W, .slice (some ⟨gg, 0, none⟩) M cp] 26)).heap.size = vb + 1 := by simp [hvb]
  have hgv : gg ≠ vb := by omega
  have hgc : gg ≠ cg := by omega
  have hvc : cg < vb := by omega
  have hrv : rb ≠ vb := by omega
  clear hr2 HC2 HB2 hown hr22
  go_wp2_with fail
  generalize (w2.alloc (.cells #[.int .i64 W, .slice (some ⟨gg, 0, none⟩) M cp] 26)) = w3 at *
  refine (dOnce w.heap.size cg 2 _ HC3.out (by omega) (by omega)).mono ?_
  rintro e w4 ⟨bb, rfl, hc4, hg4⟩
  have hv4 := HV3.out.by hg4 (by intro e; injection e with e; omega)
  have hr4 := HR3.out.by hg4 (by intro e; injection e with e; omega)
  have hq4 := HQ3.out.by hg4 (by intro e; injection e with e; omega)
  have ho4 := HO3.out.kept hg4 (.inr (by intro e; have h9 : gg = cg := Option.some.inj e; omega))
  have HVD := Lib.hid (show RgAt w4.drew vb W (.slice (some ⟨gg, 0, none⟩) M cp) from hv4)
  have HRD := Lib.hid (show RgAt w4.drew rb 0 (.slice none 0 0) from hr4)
  have HQD := Lib.hid (show RgAt w4.drew (rb + 1) 0 (.slice none 0 0) from hq4)
  have HOD := Lib.hid (show w4.drew.ownsRow (cg + 1) 3 1 (.slice (some ⟨gg, 0, none⟩) M cp) M (iv l) from ho4)
  have HCD := Lib.hid (show Cur w.heap.size w4.drew cg from hc4)
  have HBD := Lib.hid ((HB3.out.grown hg4 (by omega) (fun k h => by injection h with h; omega)).drew)
  have hs4 := hg4.size
  have c0 := HVD.out.c0
  have c1 := HVD.out.c1
  have c2 : w4.cell? ⟨vb, 0, none⟩ = some (.int .i64 W) := c0
  have c3 : w4.cell? ⟨vb, 1, none⟩ = some (.slice (some ⟨gg, 0, none⟩) M cp) := c1
  have hsD : w4.drew.heap.size = w4.heap.size := rfl
  clear hc4 hg4 HV3 HR3 HQ3 HO3 HC3 HB3 hv4 hr4 hq4 ho4
  cases bb
  · go_wp2_with fail
    go_region_with (go_at_call 38; refine (dAny6 w.heap.size cg w4.drew HCD.out).mono ?_; rintro e w7 ⟨W2, M2, g8, cp8, l8, rfl, hM8, hin8, hown8, hc7, hg7⟩; have hv7 := RgAt.by (w := w4.drew) HVD.out hg7 (by intro e; injection e with e; omega); have hr7 := RgAt.by (w := w4.drew) HRD.out hg7 (by intro e; injection e with e; omega); have hq7 := RgAt.by (w := w4.drew) HQD.out hg7 (by intro e; injection e with e; omega); have ho7 := World.ownsRow.kept (w := w4.drew) HOD.out hg7 (.inr (by intro e; have h9 : gg = cg := Option.some.inj e; omega)); have hB7 := HBD.out.grown hg7 (by omega) (fun k h => by injection h with h; omega); have d0 := hv7.c0; have d1 := hv7.c1; have d2 := hr7.c0; have d3 := hr7.c1; have d4 := hr7.f 0; have d5 := hr7.f 1; have d6 := hq7.c0; have d7 := hq7.c1; have d8 := hq7.f 0; have d9 := hq7.f 1)
    all_goals
      have HBE := Lib.hid ((((hB7.setCell (p := ⟨rb, 0, none⟩) (by show w.heap.size ≤ rb; omega) (.int .i64 W)).setCell (p := ⟨rb, 1, none⟩) (by show w.heap.size ≤ rb; omega) (.slice (some ⟨gg, 0, none⟩) M cp)).setCell (p := ⟨rb + 1, 0, none⟩) (by show w.heap.size ≤ rb + 1; omega) (.int .i64 W2)).setCell (p := ⟨rb + 1, 1, none⟩) (by show w.heap.size ≤ rb + 1; omega) (.slice (some ⟨g8, 0, none⟩) M2 cp8))
      have HR7 := Lib.hid hr7
      have HQ7 := Lib.hid hq7
      have HO7 := Lib.hid ho7
      have HO8 := Lib.hid (own_below hown8 (show cg + 1 ≤ w4.drew.heap.size by omega))
      have HI8 := Lib.hid hin8
      clear hr7 hq7 ho7 hv7 hB7 HVD HRD HQD HOD HCD HBD hown8
      try simp only [Exit.then]
      go_wp2
      have R9 := RgAt.far (g' := rb + 1) (j := 1) (u := .slice (some ⟨g8, 0, none⟩) M2 cp8) (RgAt.far (g' := rb + 1) (j := 0) (u := .int .i64 W2) (HR7.out.set2 W (.slice (some ⟨gg, 0, none⟩) M cp)) (by omega)) (by omega)
      have Q9 := (RgAt.far (g' := rb) (j := 1) (u := .slice (some ⟨gg, 0, none⟩) M cp) (RgAt.far (g' := rb) (j := 0) (u := .int .i64 W) HQ7.out (by omega)) (by omega)).set2 W2 (.slice (some ⟨g8, 0, none⟩) M2 cp8)
      have e0 := R9.c0
      have e1 := R9.c1
      have e2 := Q9.c0
      have e3 := Q9.c1
      have HA9 := Lib.hid (own_below (own_off (b := rb + 1) (o := 1) (u := .slice (some ⟨g8, 0, none⟩) M2 cp8) (own_off (b := rb + 1) (o := 0) (u := .int .i64 W2) (own_off (b := rb) (o := 1) (u := .slice (some ⟨gg, 0, none⟩) M cp) (own_off (b := rb) (o := 0) (u := .int .i64 W) HO7.out (by omega)) (by omega)) (by omega)) (by omega)) (show w.heap.size ≤ cg + 1 by omega))
      have HX9 := Lib.hid (own_below (own_off (b := rb + 1) (o := 1) (u := .slice (some ⟨g8, 0, none⟩) M2 cp8) (own_off (b := rb + 1) (o := 0) (u := .int .i64 W2) (own_off (b := rb) (o := 1) (u := .slice (some ⟨gg, 0, none⟩) M cp) (own_off (b := rb) (o := 0) (u := .int .i64 W) HO8.out (by omega)) (by omega)) (by omega)) (by omega)) (show w.heap.size ≤ cg + 1 by omega))
      generalize ((((w7.setCell ⟨rb, 0, none⟩ (.int .i64 W)).setCell ⟨rb, 1, none⟩ (.slice (some ⟨gg, 0, none⟩) M cp)).setCell ⟨rb + 1, 0, none⟩ (.int .i64 W2)).setCell ⟨rb + 1, 1, none⟩ (.slice (some ⟨g8, 0, none⟩) M2 cp8)) = w9 at *
      exact bodyPost_ret (v := .tuple #[.agg #[.int .i64 W, .slice (some ⟨gg, 0, none⟩) M cp], .agg #[.int .i64 W2, .slice (some ⟨g8, 0, none⟩) M2 cp8]]) (by simp [results, Tryz.results30, go_sem, e0, e1, e2, e3]) rfl ⟨W, M, gg, cp, l, W2, M2, g8, cp8, l8, rfl, hM.2, HIN.out, HA9.out, by omega, HI8.out, HX9.out, HBE.out⟩
  · go_wp2_with fail
    go_region_with (go_at_call 61; refine (sCopy w4.drew.heap.size M cp _ W l w4.drew (by omega) (IntsAt.of_own HOD.out HIN.out) (Nat.le_refl _)).mono ?_; rintro e w7 ⟨g8, cp8, rfl, hown8, hb7⟩; have hv7 := RgAt.on (w := w4.drew) HVD.out hb7 HVD.out.lt; have hr7 := RgAt.on (w := w4.drew) HRD.out hb7 HRD.out.lt; have hq7 := RgAt.on (w := w4.drew) HQD.out hb7 HQD.out.lt; have ho7 := World.ownsRow.kept (w := w4.drew) HOD.out (grow_below hb7 none) (.inr (by intro e; cases e)); have hB7 := HBD.out.trans (hb7.mono HBD.out.size); have d0 := hv7.c0; have d1 := hv7.c1; have d2 := hr7.c0; have d3 := hr7.c1; have d4 := hr7.f 0; have d5 := hr7.f 1; have d6 := hq7.c0; have d7 := hq7.c1; have d8 := hq7.f 0; have d9 := hq7.f 1)
    all_goals
      have HBE := Lib.hid ((((hB7.setCell (p := ⟨rb, 0, none⟩) (by show w.heap.size ≤ rb; omega) (.int .i64 W)).setCell (p := ⟨rb, 1, none⟩) (by show w.heap.size ≤ rb; omega) (.slice (some ⟨gg, 0, none⟩) M cp)).setCell (p := ⟨rb + 1, 0, none⟩) (by show w.heap.size ≤ rb + 1; omega) (.int .i64 W)).setCell (p := ⟨rb + 1, 1, none⟩) (by show w.heap.size ≤ rb + 1; omega) (.slice (some ⟨g8, 0, none⟩) M cp8))
      have HR7 := Lib.hid hr7
      have HQ7 := Lib.hid hq7
      have HO7 := Lib.hid ho7
      have HO8 := Lib.hid (own_below hown8 (show cg + 1 ≤ w4.drew.heap.size by omega))
      have HI8 := Lib.hid HIN.out
      clear hr7 hq7 ho7 hv7 hB7 HVD HRD HQD HOD HCD HBD hown8
      try simp only [Exit.then]
      go_wp2
      have R9 := RgAt.far (g' := rb + 1) (j := 1) (u := .slice (some ⟨g8, 0, none⟩) M cp8) (RgAt.far (g' := rb + 1) (j := 0) (u := .int .i64 W) (HR7.out.set2 W (.slice (some ⟨gg, 0, none⟩) M cp)) (by omega)) (by omega)
      have Q9 := (RgAt.far (g' := rb) (j := 1) (u := .slice (some ⟨gg, 0, none⟩) M cp) (RgAt.far (g' := rb) (j := 0) (u := .int .i64 W) HQ7.out (by omega)) (by omega)).set2 W (.slice (some ⟨g8, 0, none⟩) M cp8)
      have e0 := R9.c0
      have e1 := R9.c1
      have e2 := Q9.c0
      have e3 := Q9.c1
      have HA9 := Lib.hid (own_below (own_off (b := rb + 1) (o := 1) (u := .slice (some ⟨g8, 0, none⟩) M cp8) (own_off (b := rb + 1) (o := 0) (u := .int .i64 W) (own_off (b := rb) (o := 1) (u := .slice (some ⟨gg, 0, none⟩) M cp) (own_off (b := rb) (o := 0) (u := .int .i64 W) HO7.out (by omega)) (by omega)) (by omega)) (by omega)) (show w.heap.size ≤ cg + 1 by omega))
      have HX9 := Lib.hid (own_below (own_off (b := rb + 1) (o := 1) (u := .slice (some ⟨g8, 0, none⟩) M cp8) (own_off (b := rb + 1) (o := 0) (u := .int .i64 W) (own_off (b := rb) (o := 1) (u := .slice (some ⟨gg, 0, none⟩) M cp) (own_off (b := rb) (o := 0) (u := .int .i64 W) HO8.out (by omega)) (by omega)) (by omega)) (by omega)) (show w.heap.size ≤ cg + 1 by omega))
      generalize ((((w7.setCell ⟨rb, 0, none⟩ (.int .i64 W)).setCell ⟨rb, 1, none⟩ (.slice (some ⟨gg, 0, none⟩) M cp)).setCell ⟨rb + 1, 0, none⟩ (.int .i64 W)).setCell ⟨rb + 1, 1, none⟩ (.slice (some ⟨g8, 0, none⟩) M cp8)) = w9 at *
      exact bodyPost_ret (v := .tuple #[.agg #[.int .i64 W, .slice (some ⟨gg, 0, none⟩) M cp], .agg #[.int .i64 W, .slice (some ⟨g8, 0, none⟩) M cp8]]) (by simp [results, Tryz.results30, go_sem, e0, e1, e2, e3]) rfl ⟨W, M, gg, cp, l, W, M, g8, cp8, l, rfl, hM.2, HIN.out, HA9.out, by omega, HI8.out, HX9.out, HBE.out⟩

set_option maxHeartbeats 4000000 in
set_option maxRecDepth 100000 in
theorem dShpR (a : Option Addr) (len cap : Nat) (w : World) (hc : Code w.heap.size w a len cap) (hl : len ≤ 1048576) :
    Calls Tryz.prog 23 #[.slice a len cap] w (GivesL w) := by
  have HC := Lib.hid hc
  clear hc
  go_enter Tryz.func23, Tryz.ntmps23
  go_wp2_with fail
  refine (dNew w.heap.size a len cap _ HC.out hl (Nat.le_refl _)).mono ?_
  rintro e w1 ⟨rfl, hc1, hg1⟩
  have hlt := hc1.lt
  go_wp2_with fail
  refine (dAny w.heap.size w.heap.size w1 hc1).mono ?_
  rintro e w2 ⟨ad, gg, off, n, cp, l, rfl, hcam, hgg, hcm, hin, hln, hn9, hc2, hg2⟩
  have HR := Lib.hid (show GivesL w (.returned (.slice (some ad) n cp)) w2 from ⟨ad, n, cp, l, rfl, CellsAt.of_came hcam hin, hcam.le, by omega, blw (grow_new hg1 hg2 (fun k hk => by cases hk; omega))⟩)
  clear hcam hgg hin hc2 hg2 hg1 hc1
  go_wp2
  go_ret
  exact HR.out
end

section
open Go.RowKit

set_option maxHeartbeats 4000000 in
set_option maxRecDepth 100000 in
theorem dPartR (a : Option Addr) (len cap : Nat) (w : World) (hc : Code w.heap.size w a len cap) (hl : len ≤ 1048576) :
    Calls Tryz.prog 14 #[.slice a len cap] w (GivesRg w) := by
  obtain ⟨rb, hrb⟩ : ∃ rb, w.heap.size = rb := ⟨_, rfl⟩
  have hres := RgAt.new (w := w) 0 (.slice none 0 0) hrb
  have hb0 := (Below.refl w.heap.size w).alloc (Nat.le_refl _) (.cells #[.int .i64 0, .slice none 0 0] 26)
  have hsz : (w.alloc (.cells #[.int .i64 0, .slice none 0 0] 26)).heap.size = rb + 1 := by simp [hrb]
  have HC := Lib.hid (hc.on hb0)
  clear hc
  go_enter Tryz.func14, Tryz.ntmps14
  go_wp2_with fail
  generalize (w.alloc (.cells #[.int .i64 0, .slice none 0 0] 26)) = W0 at *
  have HB := Lib.hid hb0
  clear hb0
  refine (dNew w.heap.size a len cap W0 HC.out hl (by omega)).mono ?_
  rintro e w1 ⟨rfl, hc1, hg1⟩
  have hr1 := hres.by hg1 (by intro e; cases e)
  have HB1 := Lib.hid (HB.out.grown hg1 (by omega) (fun k h => by cases h))
  have hs1 := hg1.size
  rw [hsz] at hc1 ⊢
  have hlt1 := hc1.lt
  clear hres HC HB hg1
  obtain ⟨cg, hcg⟩ : ∃ cg, rb + 1 = cg := ⟨_, rfl⟩
  rw [hcg] at hc1 hlt1 ⊢
  go_wp2_with fail
  refine (dAny6 w.heap.size cg w1 hc1).mono ?_
  rintro e w2 ⟨W, M, gg, cp, l, rfl, hM, hin, hown, hc2, hg2⟩
  have hr2 := hr1.by hg2 (by intro e; injection e with e; omega)
  have HC2 := Lib.hid hc2
  have HB2 := Lib.hid (HB1.out.grown hg2 (by omega) (fun k h => by injection h with h; omega))
  have hs2 := hg2.size
  have ht2 := hown.lt gg rfl
  have HIN := Lib.hid hin
  clear hr1 hc1 hg2 hc2 HB1 hin
  obtain ⟨vb, hvb⟩ : ∃ vb, w2.heap.size = vb := ⟨_, rfl⟩
  have HV3 := Lib.hid (RgAt.new (w := w2) W (.slice (some ⟨gg, 0, none⟩) M cp) hvb)
  have HR3 := Lib.hid (hr2.alloc (.cells #[.int .i64 W, .slice (some ⟨gg, 0, none⟩) M cp] 26))
  have HC3 := Lib.hid (HC2.out.alloc (.cells #[.int .i64 W, .slice (some ⟨gg, 0, none⟩) M cp] 26))
  have HB3 := Lib.hid (HB2.out.alloc (by omega) (.cells #[.int .i64 W, .slice (some ⟨gg, 0, none⟩) M cp] 26))
  have HO3 := Lib.hid (own_below (hown.alloc (.cells #[.int .i64 W, .slice (some ⟨gg, 0, none⟩) M cp] 26)) (show cg + 1 ≤ w1.heap.size by omega))
  have hs3 : (w2.alloc (.cells #[.int .i64 W, .slice (some ⟨gg, 0, none⟩) M cp] 26)).heap.size = vb + 1 := by simp [hvb]
  have hgv : gg ≠ vb := by omega
  have hgc : gg ≠ cg := by omega
  have hvc : cg < vb := by omega
  have hrv : rb ≠ vb := by omega
  clear hr2 HC2 HB2 hown
  go_wp2_with fail
  generalize (w2.alloc (.cells #[.int .i64 W, .slice (some ⟨gg, 0, none⟩) M cp] 26)) = w3 at *
  have c0 := HV3.out.c0
  have c1 := HV3.out.c1
  have HA3 := Lib.hid (IntsAt.of_own HO3.out HIN.out)
  obtain ⟨ws, hws⟩ : ∃ x, w3.heap.size = x := ⟨_, rfl⟩
  rw [hws] at HA3
  go_wp2_with fail
  refine (sIsReg ws M cp _ W l w3 (by omega) HA3.out (Nat.le_of_eq hws.symm)).mono ?_
  rintro e w4 ⟨rfl, hb4⟩
  have HV := Lib.hid (HV3.out.on hb4 HV3.out.lt)
  have HR := Lib.hid (HR3.out.on hb4 HR3.out.lt)
  have HO := Lib.hid (HO3.out.kept (grow_below hb4 none) (.inr (by intro e; cases e)))
  have HCC := Lib.hid (HC3.out.grown (grow_below hb4 none) (fun k h => by cases h))
  have HB := Lib.hid (HB3.out.trans (hb4.mono HB3.out.size))
  have hs4 := hb4.size
  have hwv : vb < w3.heap.size := HV3.out.lt
  clear hb4 HV3 HR3 HO3 HC3 HB3 c0 c1 HA3
  cases hreg : isReg W l with
  | false =>
    have HBE := Lib.hid HB.out
    have HR2 := Lib.hid HR.out
    have HO2 := Lib.hid (own_below HO.out (show rb + 1 ≤ cg + 1 by omega))
    have v0 := HV.out.c0
    have v1 := HV.out.c1
    have q0 := HR.out.c0
    have q1 := HR.out.c1
    have q2 := HR.out.f 0
    have q3 := HR.out.f 1
    clear HV HR HO HB
    go_wp2
    have R9 := HR2.out.set2 (W) (.slice (some ⟨gg, 0, none⟩) M cp)
    have e0 := R9.c0
    have e1 := R9.c1
    have HA9 := Lib.hid (own_below (own_off (b := rb) (o := 1) (u := .slice (some ⟨gg, 0, none⟩) M cp) (own_off (b := rb) (o := 0) (u := .int .i64 (W)) HO2.out (by omega)) (by omega)) (show w.heap.size ≤ rb + 1 by omega))
    have HB9 := Lib.hid ((HBE.out.setCell (p := ⟨rb, 0, none⟩) (by show w.heap.size ≤ rb; omega) (.int .i64 (W))).setCell (p := ⟨rb, 1, none⟩) (by show w.heap.size ≤ rb; omega) (.slice (some ⟨gg, 0, none⟩) M cp))
    generalize ((w4.setCell ⟨rb, 0, none⟩ (.int .i64 (W))).setCell ⟨rb, 1, none⟩ (.slice (some ⟨gg, 0, none⟩) M cp)) = w9 at *
    exact bodyPost_ret (v := .agg #[.int .i64 W, .slice (some ⟨gg, 0, none⟩) M cp]) (by simp [results, Tryz.results14, go_sem, e0, e1]) rfl ⟨W, M, gg, cp, l, rfl, hM.2, HIN.out, HA9.out, HB9.out⟩
  | true =>
    obtain ⟨N, rfl, hrg⟩ := isReg_out hreg
    have hN1 := hrg.w0
    have hN6 := hrg.w6
    have hln : l.length = M := by have := HO.out.1; rw [iv_length] at this; omega
    have HLN := Lib.hid hln
    clear hrg hreg hln
    go_wp2_with fail
    refine (dOnce w.heap.size cg 2 _ HCC.out (by omega) (by omega)).mono ?_
    rintro e w5 ⟨bb, rfl, hc5, hg5⟩
    have HV5 := Lib.hid (HV.out.by hg5 (by intro e; injection e with e; omega))
    have HR5 := Lib.hid (HR.out.by hg5 (by intro e; injection e with e; omega))
    have HO5 := Lib.hid (HO.out.kept hg5 (.inr (by intro e; have h9 : gg = cg := Option.some.inj e; omega)))
    have HC5 := Lib.hid hc5
    have HB5 := Lib.hid (HB.out.grown hg5 (by omega) (fun k h => by injection h with h; omega))
    have hs5 := hg5.size
    clear hc5 hg5 HV HR HO HCC HB
    cases bb with
    | false =>
      have HBE := Lib.hid HB5.out
      have HR2 := Lib.hid HR5.out
      have HO2 := Lib.hid (own_below HO5.out (show rb + 1 ≤ cg + 1 by omega))
      have v0 := HV5.out.c0
      have v1 := HV5.out.c1
      have q0 := HR5.out.c0
      have q1 := HR5.out.c1
      have q2 := HR5.out.f 0
      have q3 := HR5.out.f 1
      clear HV5 HR5 HO5 HB5
      go_wp2
      have R9 := HR2.out.set2 (N) (.slice (some ⟨gg, 0, none⟩) M cp)
      have e0 := R9.c0
      have e1 := R9.c1
      have HA9 := Lib.hid (own_below (own_off (b := rb) (o := 1) (u := .slice (some ⟨gg, 0, none⟩) M cp) (own_off (b := rb) (o := 0) (u := .int .i64 (N)) HO2.out (by omega)) (by omega)) (show w.heap.size ≤ rb + 1 by omega))
      have HB9 := Lib.hid ((HBE.out.setCell (p := ⟨rb, 0, none⟩) (by show w.heap.size ≤ rb; omega) (.int .i64 (N))).setCell (p := ⟨rb, 1, none⟩) (by show w.heap.size ≤ rb; omega) (.slice (some ⟨gg, 0, none⟩) M cp))
      generalize ((w5.setCell ⟨rb, 0, none⟩ (.int .i64 (N))).setCell ⟨rb, 1, none⟩ (.slice (some ⟨gg, 0, none⟩) M cp)) = w9 at *
      exact bodyPost_ret (v := .agg #[.int .i64 N, .slice (some ⟨gg, 0, none⟩) M cp]) (by simp [results, Tryz.results14, go_sem, e0, e1]) rfl ⟨N, M, gg, cp, l, rfl, hM.2, HIN.out, HA9.out, HB9.out⟩
    | true =>
      have hp := (full_w N hN6).1
      have hp2 : (2 : Int) ^ N ≤ 64 ∧ 0 < (2 : Int) ^ N := by
        have : N = 1 ∨ N = 2 ∨ N = 3 ∨ N = 4 ∨ N = 5 ∨ N = 6 := by omega
        rcases this with rfl | rfl | rfl | rfl | rfl | rfl <;> decide
      have hq1 : 0 < IntKind.i64.wrap ((2 : Int) ^ N) := by rw [hp]; exact hp2.2
      have hq2 : IntKind.i64.wrap ((2 : Int) ^ N) ≤ 64 := by rw [hp]; exact hp2.1
      clear hp hp2
      go_wp2
      go_loopw [5] (fun i wr => ∃ (k : Nat) (r : List Int), k ≤ M ∧ i = .int .i64 k ∧ Hid (∀ z ∈ r, In64 z) ∧ Hid (RgAt wr vb N (.slice (some ⟨gg, 0, none⟩) M cp)) ∧ Hid (wr.ownsRow (cg + 1) 3 1 (.slice (some ⟨gg, 0, none⟩) M cp) M (iv r)) ∧ Hid (RgAt wr rb 0 (.slice none 0 0)) ∧ Hid (Cur w.heap.size wr cg) ∧ Hid (Below w.heap.size w wr)) (fun i _ => M - (intOf i).toNat)
      case atStart => exact ⟨0, l, by omega, rfl, HIN.out, HV5.out, HO5.out, HR5.out, HC5.out, HB5.out⟩
      case round =>
        obtain ⟨k, r, hk, rfl, hri, hv, hown, hr, hcr, hb⟩ := hrel
        clear HV5 HR5 HO5 HC5 HB5
        have c0 := hv.out.c0
        have c1 := hv.out.c1
        by_cases hlt : k < M
        · have hk0 : (0 : Int) ≤ (k : Int) := by omega
          have hk1 : (k : Int) < (M : Int) := by omega
          have hrl : k < r.length := by have := hown.out.1; rw [iv_length] at this; omega
          have HVD := Lib.hid (show RgAt wr.drew vb N (.slice (some ⟨gg, 0, none⟩) M cp) from hv.out)
          have HRD := Lib.hid (show RgAt wr.drew rb 0 (.slice none 0 0) from hr.out)
          have HOD := Lib.hid (show wr.drew.ownsRow (cg + 1) 3 1 (.slice (some ⟨gg, 0, none⟩) M cp) M (iv r) from hown.out)
          have HCD := Lib.hid (show Cur w.heap.size wr.drew cg from hcr.out)
          have HBD := Lib.hid (hb.out.drew)
          have hbs := hb.out.size
          have hvl := hv.out.lt
          clear hv hr hown hcr hb
          go_wp2_with fail
          go_region_with (go_at_call 45; refine (dBelow w.heap.size cg (IntKind.i64.wrap ((2 : Int) ^ N)) _ HCD.out hq1 (by omega)).mono ?_; rintro e w7 ⟨y, hy0, hy1, rfl, hc7, hg7⟩; have hv7 := RgAt.by (w := wr.drew) HVD.out hg7 (by intro e; injection e with e; omega); have hr7 := RgAt.by (w := wr.drew) HRD.out hg7 (by intro e; injection e with e; omega); have ho7 := World.ownsRow.kept (w := wr.drew) HOD.out hg7 (.inr (by intro e; have h9 : gg = cg := Option.some.inj e; omega)); have hB7 := HBD.out.grown hg7 (by show w.heap.size ≤ wr.heap.size; omega) (fun k h => by injection h with h; omega); have d0 := hv7.c0; have d1 := hv7.c1; have p1 := ho7.cellAt k (by omega); have p2 := ho7.frozenAt k; rw [iv_get r k hrl] at p1)
          all_goals
            have hst := ho7.stored k (.int .i64 y)
            rw [iv_set] at hst
            have HO9 := Lib.hid hst.1
            have HV9 := Lib.hid (RgAt.far (g' := gg) (j := k) (u := .int .i64 y) hv7 (by omega))
            have HR9 := Lib.hid (RgAt.far (g' := gg) (j := k) (u := .int .i64 y) hr7 (by omega))
            have HC9 := Lib.hid (hc7.grown (grown_set1 w7 gg k (.int .i64 y)) (fun k h => by injection h with h; omega))
            have HB9 := Lib.hid (hB7.setCell (p := ⟨gg, k, none⟩) (by show w.heap.size ≤ gg; omega) (.int .i64 y))
            have HI9 := Lib.hid (in64_set hri.out k (show In64 y from by unfold In64; omega))
            clear hst hc7 hg7 hv7 hr7 ho7 hB7 d0 d1 p1 p2 c0 c1 HCD HVD HRD HOD HBD hri
            generalize (w7.setCell ⟨gg, k, none⟩ (.int .i64 y)) = w8 at *
            try simp only [Exit.then]
            go_wp2
            go_roundw
            case rel => first
              | exact ⟨k + 1, _, by omega, by go_num, HI9.out, HV9.out, HO9.out, HR9.out, HC9.out, HB9.out⟩
              | (repeat apply Exists.intro
                 exact ⟨⟨k + 1, _, by omega, by go_num, HI9.out, HV9.out, HO9.out, HR9.out, HC9.out, HB9.out⟩, rfl⟩)
            case measure => simp [intOf]; omega
        · obtain rfl : k = M := by omega
          have HBE := Lib.hid hb.out
          have HR2 := Lib.hid hr.out
          have HO2 := Lib.hid (own_below hown.out (show rb + 1 ≤ cg + 1 by omega))
          have q0 := hr.out.c0
          have q1 := hr.out.c1
          have q2 := hr.out.f 0
          have q3 := hr.out.f 1
          clear hv hr hown hcr hb
          go_wp2
          have R9 := HR2.out.set2 (N) (.slice (some ⟨gg, 0, none⟩) k cp)
          have e0 := R9.c0
          have e1 := R9.c1
          have HA9 := Lib.hid (own_below (own_off (b := rb) (o := 1) (u := .slice (some ⟨gg, 0, none⟩) k cp) (own_off (b := rb) (o := 0) (u := .int .i64 (N)) HO2.out (by omega)) (by omega)) (show w.heap.size ≤ rb + 1 by omega))
          have HB9 := Lib.hid ((HBE.out.setCell (p := ⟨rb, 0, none⟩) (by show w.heap.size ≤ rb; omega) (.int .i64 (N))).setCell (p := ⟨rb, 1, none⟩) (by show w.heap.size ≤ rb; omega) (.slice (some ⟨gg, 0, none⟩) k cp))
          generalize ((wr.setCell ⟨rb, 0, none⟩ (.int .i64 (N))).setCell ⟨rb, 1, none⟩ (.slice (some ⟨gg, 0, none⟩) k cp)) = w9 at *
          exact bodyPost_ret (v := .agg #[.int .i64 N, .slice (some ⟨gg, 0, none⟩) k cp]) (by simp [results, Tryz.results14, go_sem, e0, e1]) rfl ⟨N, k, gg, cp, r, rfl, hM.2, hri.out, HA9.out, HB9.out⟩
end

end Go.Proofs.YtcfioncnpfoccaaGreatDoor
