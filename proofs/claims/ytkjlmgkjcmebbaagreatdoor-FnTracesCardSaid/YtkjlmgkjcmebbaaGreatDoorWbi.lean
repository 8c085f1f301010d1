/-
  Drawn texts of shapes.
  What the law on refutations draws: a region, pieces and a text: what each call gives.
-/
import Derived.Deep.RegionWith
import Derived.Deep.QuietTactic
import Derived.BigQuiet
import Derived.Test.YtkjlmgkjcmebbaaGreatDoorWaz
import Derived.Test.YtkjlmgkjcmebbaaGreatDoorDrd
import Derived.Test.YtkjlmgkjcmebbaaGreatDoorWbf
namespace Go.Proofs.YtkjlmgkjcmebbaaGreatDoor

section
open Go.RowKit

set_option maxHeartbeats 400000 in
set_option maxRecDepth 100000 in
/-- One text of a list of constants that the call itself has laid. -/
theorem dPickT (B g L n : Nat) (xs : List ByteArray) (w : World) (hc : Cur B w g) (hn : 0 < n) (hn2 : n ≤ 1000) (hlen : xs.length = n) (hL : w.heap[L]? = some (.cells (xs.map Value.string).toArray 9 (0, 0))) (hne : L ≠ g)
    (hx : ∀ x ∈ xs, x.size ≤ 100) :
    Calls Tryz.prog 107 #[.pointer (some ⟨g, 0, none⟩), .slice (some ⟨L, 0, none⟩) n n] w fun e w' => ∃ x : ByteArray, x.size ≤ 100 ∧ e = .returned (.string x) ∧ Cur B w' g ∧ w.grownBy w' (some g) := by
  have HC := Lib.hid hc
  have HL := Lib.hid hL
  have HX := Lib.hid hx
  have HLEN := Lib.hid hlen
  clear hc hL hx hlen
  go_enter Tryz.func107, Tryz.ntmps107
  go_wp2_with fail
  refine (dBelow B g n _ HC.out (by omega) (by omega)).mono ?_
  rintro e w1 ⟨x, hx0, hx1, rfl, hc1, hg1⟩
  have HC1 := Lib.hid hc1
  have HG1 := Lib.hid hg1
  clear hc1 hg1
  obtain ⟨j, rfl⟩ := Int.eq_ofNat_of_zero_le hx0
  have hj : j < xs.length := by rw [HLEN.out]; omega
  have hcell : ∃ X : ByteArray, X.size ≤ 100 ∧ w1.cell? ⟨L, j, none⟩ = some (.string X) := by
    refine ⟨xs[j], HX.out _ (List.getElem_mem hj), ?_⟩
    have hlt := (Array.getElem?_eq_some_iff.1 HL.out).1
    have h1 := (HG1.out.block L hlt (fun e => hne (Option.some.inj e))).trans HL.out
    rw [cell_of_row w1 L j _ _ _ h1]
    simp [hj]
  obtain ⟨X, hb, hX⟩ := hcell
  have HB := Lib.hid hb
  clear hb hj
  go_wp2
  go_ret
  exact ⟨_, HB.out, rfl, HC1.out, HG1.out⟩

theorem size_oneT (b : UInt8) : (ByteArray.mk #[b]).size = 1 := rfl

/-- A drawn text. -/
def GivesTx (B g : Nat) (w : World) (e : Ending) (w' : World) : Prop := ∃ t : ByteArray, t.size ≤ 3000 ∧ e = .returned (.string t) ∧ Cur B w' g ∧ w.grownBy w' (some g)

set_option maxHeartbeats 2000000 in
set_option maxRecDepth 100000 in
theorem dSpoilT (B g : Nat) (s : ByteArray) (w : World) (hc : Cur B w g) (hs : s.size ≤ 2000) :
    Calls Tryz.prog 106 #[.pointer (some ⟨g, 0, none⟩), .string s] w (GivesTx B g w) := by
  have HC := Lib.hid hc
  clear hc
  go_enter Tryz.func106, Tryz.ntmps106
  by_cases h0 : s.size = 0
  · go_wp2_with fail
    refine (dText B g 3 _ HC.out (by omega) (by omega)).mono ?_
    rintro e w1 ⟨l, hl, rfl, hc1, hg1⟩
    have HR := Lib.hid (show GivesTx B g w (.returned (S l)) w1 from ⟨⟨l.toArray⟩, by show l.toArray.size ≤ 3000; simp; omega, rfl, hc1, hg1⟩)
    clear hc1 hg1
    go_wp2
    go_ret
    exact HR.out
  · have hb0 : ((s.size : Int) == 0) = false := beq_eq_false_iff_ne.2 (by omega)
    go_wp2_with fail
    refine (dBelow B g s.size _ HC.out (by omega) (by omega)).mono ?_
    rintro e w1 ⟨x, hx0, hx1, rfl, hc1, hg1⟩
    obtain ⟨k, rfl⟩ := Int.eq_ofNat_of_zero_le hx0
    have hk : k < s.size := by omega
    have HC1 := Lib.hid hc1
    have HG1 := Lib.hid hg1
    clear hc1 hg1 HC
    go_wp2_with fail
    refine (dBelow B g 4 _ HC1.out (by omega) (by omega)).mono ?_
    rintro e w2 ⟨d, hd0, hd1, rfl, hc2, hg2⟩
    have HC2 := Lib.hid hc2
    have HG2 := Lib.hid (grow_trans HG1.out hg2)
    have HCD := Lib.hid (show Cur B w2.drew g from HC2.out)
    have HGD := Lib.hid (show w.grownBy w2.drew (some g) from grow_drewN HG2.out 1)
    clear hc2 hg2 HC1 HG1
    have hd : d = 0 ∨ d = 1 ∨ d = 2 ∨ d = 3 := by omega
    rcases hd with rfl | rfl | rfl | rfl
    · go_wp2_with fail
      go_quiet (fail)
      go_wp2
      go_ret
      refine ⟨_, ?_, rfl, HCD.out, grow_drewN HG2.out _⟩
      rw [ByteArray.size_append, ByteArray.size_extract, ByteArray.size_extract]; omega
    · go_wp2_with fail
      go_region_with (go_at_call 133; refine (dByte B g _ HCD.out).mono ?_; rintro e w' ⟨y, hy0, hy1, rfl, hc3, hg3⟩; have hcv := fun v : Int => conv_one v w')
      all_goals
        go_wp2
        go_ret
        refine ⟨_, ?_, rfl, hc3.alloc _, grow_trans HGD.out (grow_trans hg3 (World.grownBy_alloc w' _ (some g)))⟩
        rw [ByteArray.size_append, ByteArray.size_append, ByteArray.size_extract, ByteArray.size_extract, size_oneT]; omega
    · go_wp2
      go_ret
      refine ⟨_, ?_, rfl, HC2.out, HG2.out⟩
      rw [ByteArray.size_extract]; omega
    · have hk1 : IntKind.i64.wrap ((k : Int) + 1) = (k : Int) + 1 := IntWalk.i64_in _ (by omega)
      have hk2 : (k : Int) + 1 ≤ s.size := by omega
      have hk3 : ¬ ((s.size : Int) < (k : Int) + 1) := by omega
      have hk4 : ¬ ((k : Int) + 1 < 0) := by omega
      go_wp2_with fail
      go_region_with (go_at_call 131; refine (dBelow B g 255 _ HCD.out (by omega) (by omega)).mono ?_; rintro e w' ⟨y, hy0, hy1, rfl, hc3, hg3⟩; have hcv := fun v : Int => conv_one v w')
      all_goals
        go_wp2
        go_ret
        refine ⟨_, ?_, rfl, hc3.alloc _, grow_trans HGD.out (grow_trans hg3 (World.grownBy_alloc w' _ (some g)))⟩
        rw [ByteArray.size_append, ByteArray.size_append, ByteArray.size_extract, ByteArray.size_extract, size_oneT]; omega
end

section
open Go.RowKit

/-- A drawn region, drawn pieces, a drawn text. -/
def GivesRPs (w : World) (e : Ending) (w' : World) : Prop := ∃ (W : Int) (M gg cap : Nat) (l : List Int) (gr cp : Nat) (us : List Value) (ps : List (List Cl)) (t : ByteArray), e = .returned (.tuple #[.agg #[.int .i64 W, .slice (some ⟨gg, 0, none⟩) M cap], .slice (some ⟨gr, 0, none⟩) ps.length cp, .string t]) ∧ M ≤ 8 ∧ (∀ z ∈ l, In64 z) ∧ RPAt w.heap.size w' gg M cap l gr cp us ps ∧ ps.length ≤ 3 ∧ t.size ≤ 3000 ∧ Below w.heap.size w w'
theorem RPAt.by {base gg M cap gr cp g : Nat} {w w' : World} {l : List Int} {us : List Value} {ps : List (List Cl)} (h : RPAt base w gg M cap l gr cp us ps) (hg : w.grownBy w' (some g)) (hb : g < base) : RPAt base w' gg M cap l gr cp us ps := by
  have h1 := (h.row.lt gg rfl).1
  have h2 := (h.prow.lt gr rfl).1
  exact ⟨h.row.kept hg (.inr (fun e => by have h9 : gg = g := Option.some.inj e; omega)), h.prow.kept hg (.inr (fun e => by have h9 : gr = g := Option.some.inj e; omega)), fun j hj => (h.pcs j hj).kept hg hb⟩

set_option maxHeartbeats 4000000 in
set_option maxRecDepth 100000 in
theorem dText9 (a : Option Addr) (len cap : Nat) (w : World) (hc : Code w.heap.size w a len cap) (hl : len ≤ 1048576) :
    Calls Tryz.prog 75 #[.slice a len cap] w (GivesRPs w) := by
  obtain ⟨rb, hrb⟩ : ∃ rb, w.heap.size = rb := ⟨_, rfl⟩
  have hres := RgAt.new (w := w) 0 (.slice none 0 0) hrb
  have hb0 := (Below.refl w.heap.size w).alloc (Nat.le_refl _) (.cells #[.int .i64 0, .slice none 0 0] 26)
  have hsz : (w.alloc (.cells #[.int .i64 0, .slice none 0 0] 26)).heap.size = rb + 1 := by simp [hrb]
  have HC := Lib.hid (hc.on hb0)
  clear hc
  go_enter Tryz.func75, Tryz.ntmps75
  go_wp2_with fail
  generalize (w.alloc (.cells #[.int .i64 0, .slice none 0 0] 26)) = W0 at *
  have HB := Lib.hid hb0
  clear hb0
  refine (dNew w.heap.size a len cap W0 HC.out hl (by omega)).mono ?_
  rintro e w1 ⟨rfl, hc1, hg1⟩
  have hr1 := hres.by hg1 (by intro e; cases e)
  have HB1 := Lib.hid (HB.out.grown hg1 (by omega) (fun k h => by cases h))
  have hs1 := hg1.size
  have HCD := Lib.hid (HC.out.on (show Below w.heap.size W0 w1 from ⟨hg1.os, hg1.tape, hg1.output, hg1.size, fun k hk => hg1.block k (by omega) (by simp)⟩))
  rw [hsz] at hc1 ⊢
  have hlt1 := hc1.lt
  clear hres HC HB hg1
  obtain ⟨cg, hcg⟩ : ∃ cg, rb + 1 = cg := ⟨_, rfl⟩
  rw [hcg] at hc1 hlt1 ⊢
  have HC1 := Lib.hid hc1
  clear hc1
  go_wp2_with fail
  refine (dBoth8 a len cap w1 (HCD.out.more (by omega)) hl).mono ?_
  rintro e w2 ⟨W, M, gg, cp, l, gr, cp2, us, ps, rfl, hM, hin, hown, hprow, hpcs, hps3, hb2⟩
  have HRP := Lib.hid (RPAt.mk hown hprow hpcs)
  have hr2 := hr1.on hb2 (by omega)
  have HC2 := Lib.hid (HC1.out.grown (grow_below hb2 none) (fun k hk => by cases hk))
  have HB2 := Lib.hid (HB1.out.trans (hb2.mono (by omega)))
  have hs2 := hb2.size
  have HIN := Lib.hid hin
  have ht1 := hown.lt gg rfl
  clear hr1 HB1 HC1 HCD hin hown hprow hpcs hb2
  obtain ⟨vb, hvb⟩ : ∃ vb, w2.heap.size = vb := ⟨_, rfl⟩
  have HV3 := Lib.hid (RgAt.new (w := w2) W (.slice (some ⟨gg, 0, none⟩) M cp) hvb)
  have HR3 := Lib.hid (hr2.alloc (.cells #[.int .i64 W, .slice (some ⟨gg, 0, none⟩) M cp] 26))
  have HC3 := Lib.hid (HC2.out.alloc (.cells #[.int .i64 W, .slice (some ⟨gg, 0, none⟩) M cp] 26))
  have HB3 := Lib.hid (HB2.out.alloc (by omega) (.cells #[.int .i64 W, .slice (some ⟨gg, 0, none⟩) M cp] 26))
  have HRP3 := Lib.hid (HRP.out.alloc (.cells #[.int .i64 W, .slice (some ⟨gg, 0, none⟩) M cp] 26))
  have hs3 : (w2.alloc (.cells #[.int .i64 W, .slice (some ⟨gg, 0, none⟩) M cp] 26)).heap.size = vb + 1 := by simp [hvb]
  have hcv : cg < vb := by omega
  have hrv : rb < vb := by omega
  clear hr2 HB2 HC2 HRP
  have c0 := HV3.out.c0
  have c1 := HV3.out.c1
  go_wp2_with fail
  generalize (w2.alloc (.cells #[.int .i64 W, .slice (some ⟨gg, 0, none⟩) M cp] 26)) = w3 at *
  have hps1 : ps.length ≤ 1048576 := by omega
  refine (sRef w3.heap.size M cp ps.length cp2 _ _ W l ps w3 (by omega) hps1 (IntsAt.of_own HRP3.out.row HIN.out) HRP3.out.psAt (Nat.le_refl _)).mono ?_
  rintro e w4 ⟨rfl, hb4⟩
  have htl := refT_len W l ps
  obtain ⟨sz, hsz9⟩ : ∃ sz : ByteArray, ByteArray.mk ((refT W l ps).getD []).toArray = sz := ⟨_, rfl⟩
  obtain ⟨bz, hbz⟩ : ∃ bz, (refT W l ps).isSome = bz := ⟨_, rfl⟩
  have hts : sz.size ≤ 2000 := by rw [← hsz9]; show ((refT W l ps).getD []).toArray.size ≤ 2000; simpa using htl
  rw [show S ((refT W l ps).getD []) = .string sz from congrArg Value.string hsz9]
  rw [hbz]
  clear hsz9 hbz htl
  have HV4 := Lib.hid (HV3.out.on hb4 (by omega))
  have HR4 := Lib.hid (HR3.out.on hb4 (by omega))
  have HC4 := Lib.hid (HC3.out.grown (grow_below hb4 none) (fun k hk => by cases hk))
  have HRP4 := Lib.hid (HRP3.out.on hb4)
  have HB4 := Lib.hid (HB3.out.trans (hb4.mono (by omega)))
  have hs4 := hb4.size
  clear HV3 HR3 HC3 HRP3 HB3 hb4 c0 c1
  have hcb : cg < w1.heap.size := by omega
  have hrbb : rb < w1.heap.size := by omega
  obtain ⟨B1, hB1⟩ : ∃ B1, w1.heap.size = B1 := ⟨_, rfl⟩
  rw [hB1] at HRP4 hcb hrbb
  have hwB : w.heap.size ≤ B1 := by omega
  cases bz with
  | true =>
    go_wp2_with fail
    refine (dOnce w.heap.size cg 5 w4 HC4.out (by omega) (by omega)).mono ?_
    rintro e w5 ⟨b, rfl, hc5, hg5⟩
    have HV5 := Lib.hid (HV4.out.by hg5 (by intro e; injection e with e; omega))
    have HR5 := Lib.hid (HR4.out.by hg5 (by intro e; injection e with e; omega))
    have HC5 := Lib.hid hc5
    have HRP5 := Lib.hid (HRP4.out.by hg5 hcb)
    have HB5 := Lib.hid (HB4.out.grown hg5 (by omega) (fun k h => by injection h with h; omega))
    have hs5 := hg5.size
    clear HV4 HR4 HC4 HRP4 HB4 hc5 hg5
    cases b with
    | true =>
      have c0 := HV5.out.c0
      have c1 := HV5.out.c1
      have HVD := Lib.hid (show RgAt w5.drew vb W (.slice (some ⟨gg, 0, none⟩) M cp) from HV5.out)
      have HRD := Lib.hid (show RgAt w5.drew rb 0 (.slice none 0 0) from HR5.out)
      have HCD := Lib.hid (show Cur w.heap.size w5.drew cg from HC5.out)
      have HPD := Lib.hid (HRP5.out.drew)
      have HBD := Lib.hid (HB5.out.drew)
      have hsD : w5.drew.heap.size = w5.heap.size := rfl
      clear HV5 HR5 HC5 HRP5 HB5
      go_wp2_with fail
      go_region_with (go_at_call 106; refine (dSpoilT w.heap.size cg sz _ HCD.out hts).mono ?_; rintro e w7 ⟨t, ht, rfl, hc7, hg7⟩; have hv7 := RgAt.by (w := w5.drew) HVD.out hg7 (by intro e; injection e with e; omega); have hr7 := RgAt.by (w := w5.drew) HRD.out hg7 (by intro e; injection e with e; omega); have hp7 := RPAt.by (w := w5.drew) HPD.out hg7 hcb; have d0 := hv7.c0; have d1 := hv7.c1; have d2 := hr7.c0; have d3 := hr7.c1; have d4 := hr7.f 0; have d5 := hr7.f 1)
      all_goals
        have HBE := Lib.hid (HBD.out.grown hg7 (by omega) (fun k h => by injection h with h; omega))
        have HR7 := Lib.hid hr7
        have HP7 := Lib.hid hp7
        clear hr7 hp7 hv7 hc7 hg7 HVD HRD HCD HPD HBD
        try simp only [Exit.then]
        go_wp2
        have R9 := HR7.out.set2 W (.slice (some ⟨gg, 0, none⟩) M cp)
        have e0 := R9.c0
        have e1 := R9.c1
        have HP9 := Lib.hid (((HP7.out.put rb 0 (.int .i64 W) hrbb).put rb 1 (.slice (some ⟨gg, 0, none⟩) M cp) hrbb).less hwB)
        have HB9 := Lib.hid ((HBE.out.setCell (p := ⟨rb, 0, none⟩) (by show w.heap.size ≤ rb; omega) (.int .i64 W)).setCell (p := ⟨rb, 1, none⟩) (by show w.heap.size ≤ rb; omega) (.slice (some ⟨gg, 0, none⟩) M cp))
        generalize ((w7.setCell ⟨rb, 0, none⟩ (.int .i64 W)).setCell ⟨rb, 1, none⟩ (.slice (some ⟨gg, 0, none⟩) M cp)) = w9 at *
        exact bodyPost_ret (v := .tuple #[.agg #[.int .i64 W, .slice (some ⟨gg, 0, none⟩) M cp], .slice (some ⟨gr, 0, none⟩) ps.length cp2, .string t]) (by simp [results, Tryz.results75, go_sem, e0, e1]) rfl ⟨W, M, gg, cp, l, gr, cp2, us, ps, t, rfl, hM, HIN.out, HP9.out, hps3, by omega, HB9.out⟩
    | false =>
      have c0 := HV5.out.c0
      have c1 := HV5.out.c1
      have d2 := HR5.out.c0
      have d3 := HR5.out.c1
      have d4 := HR5.out.f 0
      have d5 := HR5.out.f 1
      have HBE := Lib.hid HB5.out
      have HR7 := Lib.hid HR5.out
      have HP7 := Lib.hid HRP5.out
      generalize w5 = w7 at *
      clear HV5 HR5 HC5 HRP5 HB5
      go_wp2
      have R9 := HR7.out.set2 W (.slice (some ⟨gg, 0, none⟩) M cp)
      have e0 := R9.c0
      have e1 := R9.c1
      have HP9 := Lib.hid (((HP7.out.put rb 0 (.int .i64 W) hrbb).put rb 1 (.slice (some ⟨gg, 0, none⟩) M cp) hrbb).less hwB)
      have HB9 := Lib.hid ((HBE.out.setCell (p := ⟨rb, 0, none⟩) (by show w.heap.size ≤ rb; omega) (.int .i64 W)).setCell (p := ⟨rb, 1, none⟩) (by show w.heap.size ≤ rb; omega) (.slice (some ⟨gg, 0, none⟩) M cp))
      generalize ((w7.setCell ⟨rb, 0, none⟩ (.int .i64 W)).setCell ⟨rb, 1, none⟩ (.slice (some ⟨gg, 0, none⟩) M cp)) = w9 at *
      exact bodyPost_ret (v := .tuple #[.agg #[.int .i64 W, .slice (some ⟨gg, 0, none⟩) M cp], .slice (some ⟨gr, 0, none⟩) ps.length cp2, .string sz]) (by simp [results, Tryz.results75, go_sem, e0, e1]) rfl ⟨W, M, gg, cp, l, gr, cp2, us, ps, sz, rfl, hM, HIN.out, HP9.out, hps3, by omega, HB9.out⟩
  | false =>
    have c0 := HV4.out.c0
    have c1 := HV4.out.c1
    have HVD := Lib.hid (show RgAt (w4.alloc (.cells #[.string ⟨#[]⟩, .string ⟨#[40, 41]⟩, .string ⟨#[40, 40, 41, 41]⟩, .string ⟨#[40]⟩, .string ⟨#[120]⟩, .string ⟨#[40, 41, 41, 40]⟩] 9)).drew vb W (.slice (some ⟨gg, 0, none⟩) M cp) from HV4.out.alloc _)
    have HRD := Lib.hid (show RgAt (w4.alloc (.cells #[.string ⟨#[]⟩, .string ⟨#[40, 41]⟩, .string ⟨#[40, 40, 41, 41]⟩, .string ⟨#[40]⟩, .string ⟨#[120]⟩, .string ⟨#[40, 41, 41, 40]⟩] 9)).drew rb 0 (.slice none 0 0) from HR4.out.alloc _)
    have HCD := Lib.hid (show Cur w.heap.size (w4.alloc (.cells #[.string ⟨#[]⟩, .string ⟨#[40, 41]⟩, .string ⟨#[40, 40, 41, 41]⟩, .string ⟨#[40]⟩, .string ⟨#[120]⟩, .string ⟨#[40, 41, 41, 40]⟩] 9)).drew cg from HC4.out.alloc _)
    have HPD := Lib.hid (HRP4.out.alloc (.cells #[.string ⟨#[]⟩, .string ⟨#[40, 41]⟩, .string ⟨#[40, 40, 41, 41]⟩, .string ⟨#[40]⟩, .string ⟨#[120]⟩, .string ⟨#[40, 41, 41, 40]⟩] 9)).drew
    have HBD := Lib.hid (HB4.out.alloc (by omega) (.cells #[.string ⟨#[]⟩, .string ⟨#[40, 41]⟩, .string ⟨#[40, 40, 41, 41]⟩, .string ⟨#[40]⟩, .string ⟨#[120]⟩, .string ⟨#[40, 41, 41, 40]⟩] 9)).drew
    have HLW := Lib.hid (show (w4.alloc (.cells #[.string ⟨#[]⟩, .string ⟨#[40, 41]⟩, .string ⟨#[40, 40, 41, 41]⟩, .string ⟨#[40]⟩, .string ⟨#[120]⟩, .string ⟨#[40, 41, 41, 40]⟩] 9)).drew.heap[w4.heap.size]? = some (.cells (([⟨#[]⟩, ⟨#[40, 41]⟩, ⟨#[40, 40, 41, 41]⟩, ⟨#[40]⟩, ⟨#[120]⟩, ⟨#[40, 41, 41, 40]⟩] : List ByteArray).map Value.string).toArray 9 (0, 0)) from heap_alloc_new _ _)
    have hsD : (w4.alloc (.cells #[.string ⟨#[]⟩, .string ⟨#[40, 41]⟩, .string ⟨#[40, 40, 41, 41]⟩, .string ⟨#[40]⟩, .string ⟨#[120]⟩, .string ⟨#[40, 41, 41, 40]⟩] 9)).drew.heap.size = w4.heap.size + 1 := by show (w4.alloc (.cells #[.string ⟨#[]⟩, .string ⟨#[40, 41]⟩, .string ⟨#[40, 40, 41, 41]⟩, .string ⟨#[40]⟩, .string ⟨#[120]⟩, .string ⟨#[40, 41, 41, 40]⟩] 9)).heap.size = _; simp
    have n0 := HVD.out.c0
    have n1 := HVD.out.c1
    have hcl4 : cg < w4.heap.size := by omega
    clear HV4 HR4 HC4 HRP4 HB4
    go_wp2_with fail
    go_region_with (go_at_call 107; refine (dPickT w.heap.size cg w4.heap.size 6 [⟨#[]⟩, ⟨#[40, 41]⟩, ⟨#[40, 40, 41, 41]⟩, ⟨#[40]⟩, ⟨#[120]⟩, ⟨#[40, 41, 41, 40]⟩] _ HCD.out (by omega) (by omega) rfl HLW.out (by omega) (by decide)).mono ?_; rintro e w7 ⟨t, ht, rfl, hc7, hg7⟩; have hv7 := RgAt.by (w := (w4.alloc (.cells #[.string ⟨#[]⟩, .string ⟨#[40, 41]⟩, .string ⟨#[40, 40, 41, 41]⟩, .string ⟨#[40]⟩, .string ⟨#[120]⟩, .string ⟨#[40, 41, 41, 40]⟩] 9)).drew) HVD.out hg7 (by intro e; injection e with e; omega); have hr7 := RgAt.by (w := (w4.alloc (.cells #[.string ⟨#[]⟩, .string ⟨#[40, 41]⟩, .string ⟨#[40, 40, 41, 41]⟩, .string ⟨#[40]⟩, .string ⟨#[120]⟩, .string ⟨#[40, 41, 41, 40]⟩] 9)).drew) HRD.out hg7 (by intro e; injection e with e; omega); have hp7 := RPAt.by (w := (w4.alloc (.cells #[.string ⟨#[]⟩, .string ⟨#[40, 41]⟩, .string ⟨#[40, 40, 41, 41]⟩, .string ⟨#[40]⟩, .string ⟨#[120]⟩, .string ⟨#[40, 41, 41, 40]⟩] 9)).drew) HPD.out hg7 hcb; have d0 := hv7.c0; have d1 := hv7.c1; have d2 := hr7.c0; have d3 := hr7.c1; have d4 := hr7.f 0; have d5 := hr7.f 1)
    all_goals
      have HBE := Lib.hid (HBD.out.grown hg7 (by omega) (fun k h => by injection h with h; omega))
      have HR7 := Lib.hid hr7
      have HP7 := Lib.hid hp7
      clear hr7 hp7 hv7 hc7 hg7 HVD HRD HCD HPD HBD HLW
      try simp only [Exit.then]
      go_wp2
      have R9 := HR7.out.set2 W (.slice (some ⟨gg, 0, none⟩) M cp)
      have e0 := R9.c0
      have e1 := R9.c1
      have HP9 := Lib.hid (((HP7.out.put rb 0 (.int .i64 W) hrbb).put rb 1 (.slice (some ⟨gg, 0, none⟩) M cp) hrbb).less hwB)
      have HB9 := Lib.hid ((HBE.out.setCell (p := ⟨rb, 0, none⟩) (by show w.heap.size ≤ rb; omega) (.int .i64 W)).setCell (p := ⟨rb, 1, none⟩) (by show w.heap.size ≤ rb; omega) (.slice (some ⟨gg, 0, none⟩) M cp))
      generalize ((w7.setCell ⟨rb, 0, none⟩ (.int .i64 W)).setCell ⟨rb, 1, none⟩ (.slice (some ⟨gg, 0, none⟩) M cp)) = w9 at *
      exact bodyPost_ret (v := .tuple #[.agg #[.int .i64 W, .slice (some ⟨gg, 0, none⟩) M cp], .slice (some ⟨gr, 0, none⟩) ps.length cp2, .string t]) (by simp [results, Tryz.results75, go_sem, e0, e1]) rfl ⟨W, M, gg, cp, l, gr, cp2, us, ps, t, rfl, hM, HIN.out, HP9.out, hps3, by omega, HB9.out⟩

set_option maxHeartbeats 4000000 in
set_option maxRecDepth 100000 in
theorem dIsR9 (a : Option Addr) (len cap : Nat) (w : World) (hc : Code w.heap.size w a len cap) (hl : len ≤ 1048576) :
    Calls Tryz.prog 26 #[.slice a len cap] w (GivesRPs w) := by
  obtain ⟨rb, hrb⟩ : ∃ rb, w.heap.size = rb := ⟨_, rfl⟩
  have hres := RgAt.new (w := w) 0 (.slice none 0 0) hrb
  have hb0 := (Below.refl w.heap.size w).alloc (Nat.le_refl _) (.cells #[.int .i64 0, .slice none 0 0] 26)
  have hsz : (w.alloc (.cells #[.int .i64 0, .slice none 0 0] 26)).heap.size = rb + 1 := by simp [hrb]
  have HC := Lib.hid (hc.on hb0)
  clear hc
  go_enter Tryz.func26, Tryz.ntmps26
  go_wp2_with fail
  generalize (w.alloc (.cells #[.int .i64 0, .slice none 0 0] 26)) = W0 at *
  have HB := Lib.hid hb0
  clear hb0
  refine (dText9 a len cap W0 ((HC.out).more (by omega)) hl).mono ?_
  rintro e w1 ⟨W, M, gg, cp, l, gr, cp2, us, ps, t, rfl, hM, hin, hrp, hps3, ht, hb1⟩
  have hr1 := hres.on hb1 (by omega)
  have HB1 := Lib.hid (HB.out.trans (hb1.mono (by omega)))
  have hs1 := hb1.size
  have HIN := Lib.hid hin
  obtain ⟨vb, hvb⟩ : ∃ vb, w1.heap.size = vb := ⟨_, rfl⟩
  have HV3 := Lib.hid (RgAt.new (w := w1) W (.slice (some ⟨gg, 0, none⟩) M cp) hvb)
  have HR7 := Lib.hid (hr1.alloc (.cells #[.int .i64 W, .slice (some ⟨gg, 0, none⟩) M cp] 26))
  have HBE := Lib.hid (HB1.out.alloc (by omega) (.cells #[.int .i64 W, .slice (some ⟨gg, 0, none⟩) M cp] 26))
  have HP7 := Lib.hid (hrp.alloc (.cells #[.int .i64 W, .slice (some ⟨gg, 0, none⟩) M cp] 26))
  have hrbb : rb < W0.heap.size := by omega
  have hwB : w.heap.size ≤ W0.heap.size := by omega
  have c0 := HV3.out.c0
  have c1 := HV3.out.c1
  have d2 := HR7.out.c0
  have d3 := HR7.out.c1
  have d4 := HR7.out.f 0
  have d5 := HR7.out.f 1
  clear hres HC HB hin hr1 HB1 hrp hb1
  go_wp2
  generalize (w1.alloc (.cells #[.int .i64 W, .slice (some ⟨gg, 0, none⟩) M cp] 26)) = w7 at *
  have R9 := HR7.out.set2 W (.slice (some ⟨gg, 0, none⟩) M cp)
  have e0 := R9.c0
  have e1 := R9.c1
  have HP9 := Lib.hid (((HP7.out.put rb 0 (.int .i64 W) hrbb).put rb 1 (.slice (some ⟨gg, 0, none⟩) M cp) hrbb).less hwB)
  have HB9 := Lib.hid ((HBE.out.setCell (p := ⟨rb, 0, none⟩) (by show w.heap.size ≤ rb; omega) (.int .i64 W)).setCell (p := ⟨rb, 1, none⟩) (by show w.heap.size ≤ rb; omega) (.slice (some ⟨gg, 0, none⟩) M cp))
  generalize ((w7.setCell ⟨rb, 0, none⟩ (.int .i64 W)).setCell ⟨rb, 1, none⟩ (.slice (some ⟨gg, 0, none⟩) M cp)) = w9 at *
  exact bodyPost_ret (v := .tuple #[.agg #[.int .i64 W, .slice (some ⟨gg, 0, none⟩) M cp], .slice (some ⟨gr, 0, none⟩) ps.length cp2, .string t]) (by simp [results, Tryz.results26, go_sem, e0, e1]) rfl ⟨W, M, gg, cp, l, gr, cp2, us, ps, t, rfl, hM, HIN.out, HP9.out, hps3, by omega, HB9.out⟩

set_option maxHeartbeats 4000000 in
set_option maxRecDepth 100000 in
theorem dSrc9 (a : Option Addr) (len cap : Nat) (w : World) (hc : Code w.heap.size w a len cap) (hl : len ≤ 1048576) :
    Calls Tryz.prog 35 #[.slice a len cap] w fun e w' => ∃ (W : Int) (M gg cap : Nat) (l : List Int) (gr cp : Nat) (us : List Value) (ps : List (List Cl)), e = .returned (.tuple #[.agg #[.int .i64 W, .slice (some ⟨gg, 0, none⟩) M cap], .slice (some ⟨gr, 0, none⟩) ps.length cp]) ∧ M ≤ 8 ∧ (∀ z ∈ l, In64 z) ∧ RPAt w.heap.size w' gg M cap l gr cp us ps ∧ ps.length ≤ 3 ∧ Below w.heap.size w w' := by
  obtain ⟨rb, hrb⟩ : ∃ rb, w.heap.size = rb := ⟨_, rfl⟩
  have hres := RgAt.new (w := w) 0 (.slice none 0 0) hrb
  have hb0 := (Below.refl w.heap.size w).alloc (Nat.le_refl _) (.cells #[.int .i64 0, .slice none 0 0] 26)
  have hsz : (w.alloc (.cells #[.int .i64 0, .slice none 0 0] 26)).heap.size = rb + 1 := by simp [hrb]
  have HC := Lib.hid (hc.on hb0)
  clear hc
  go_enter Tryz.func35, Tryz.ntmps35
  go_wp2_with fail
  generalize (w.alloc (.cells #[.int .i64 0, .slice none 0 0] 26)) = W0 at *
  have HB := Lib.hid hb0
  clear hb0
  refine (dBoth8 a len cap W0 ((HC.out).more (by omega)) hl).mono ?_
  rintro e w1 ⟨W, M, gg, cp, l, gr, cp2, us, ps, rfl, hM, hin, hown, hprow, hpcs, hps3, hb1⟩
  have hrp := RPAt.mk hown hprow hpcs
  have hr1 := hres.on hb1 (by omega)
  have HB1 := Lib.hid (HB.out.trans (hb1.mono (by omega)))
  have hs1 := hb1.size
  have HIN := Lib.hid hin
  obtain ⟨vb, hvb⟩ : ∃ vb, w1.heap.size = vb := ⟨_, rfl⟩
  have HV3 := Lib.hid (RgAt.new (w := w1) W (.slice (some ⟨gg, 0, none⟩) M cp) hvb)
  have HR7 := Lib.hid (hr1.alloc (.cells #[.int .i64 W, .slice (some ⟨gg, 0, none⟩) M cp] 26))
  have HBE := Lib.hid (HB1.out.alloc (by omega) (.cells #[.int .i64 W, .slice (some ⟨gg, 0, none⟩) M cp] 26))
  have HP7 := Lib.hid (hrp.alloc (.cells #[.int .i64 W, .slice (some ⟨gg, 0, none⟩) M cp] 26))
  have hrbb : rb < W0.heap.size := by omega
  have hwB : w.heap.size ≤ W0.heap.size := by omega
  have c0 := HV3.out.c0
  have c1 := HV3.out.c1
  have d2 := HR7.out.c0
  have d3 := HR7.out.c1
  have d4 := HR7.out.f 0
  have d5 := HR7.out.f 1
  clear hres HC HB hin hr1 HB1 hrp hb1 hown hprow hpcs
  go_wp2
  generalize (w1.alloc (.cells #[.int .i64 W, .slice (some ⟨gg, 0, none⟩) M cp] 26)) = w7 at *
  have R9 := HR7.out.set2 W (.slice (some ⟨gg, 0, none⟩) M cp)
  have e0 := R9.c0
  have e1 := R9.c1
  have HP9 := Lib.hid (((HP7.out.put rb 0 (.int .i64 W) hrbb).put rb 1 (.slice (some ⟨gg, 0, none⟩) M cp) hrbb).less hwB)
  have HB9 := Lib.hid ((HBE.out.setCell (p := ⟨rb, 0, none⟩) (by show w.heap.size ≤ rb; omega) (.int .i64 W)).setCell (p := ⟨rb, 1, none⟩) (by show w.heap.size ≤ rb; omega) (.slice (some ⟨gg, 0, none⟩) M cp))
  generalize ((w7.setCell ⟨rb, 0, none⟩ (.int .i64 W)).setCell ⟨rb, 1, none⟩ (.slice (some ⟨gg, 0, none⟩) M cp)) = w9 at *
  exact bodyPost_ret (v := .tuple #[.agg #[.int .i64 W, .slice (some ⟨gg, 0, none⟩) M cp], .slice (some ⟨gr, 0, none⟩) ps.length cp2]) (by simp [results, Tryz.results35, go_sem, e0, e1]) rfl ⟨W, M, gg, cp, l, gr, cp2, us, ps, rfl, hM, HIN.out, HP9.out, hps3, HB9.out⟩
end

end Go.Proofs.YtkjlmgkjcmebbaaGreatDoor
