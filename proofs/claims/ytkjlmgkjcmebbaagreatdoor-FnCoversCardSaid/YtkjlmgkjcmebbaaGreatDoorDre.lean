/-
  A list of masks that the law on tilings draws: what each call gives.
-/
import Derived.Test.YtkjlmgkjcmebbaaGreatDoorDrd
namespace Go.Proofs.YtkjlmgkjcmebbaaGreatDoor
open Go.RowKit

/-- Numbers that are masks. -/
def MaskL (ls : List Int) : Prop := (∀ z ∈ ls, In64 z) ∧ ls.length ≤ 1440
theorem mask_way (W : Int) (l : List Int) (ps : List (List Cl)) : MaskL (wayI (tilN W l ps 0)) := by
  unfold wayI
  cases h : tilN W l ps 0 with
  | none => exact ⟨fun z hz => (by cases hz), by simp [ints]⟩
  | some t =>
    show MaskL (ints t)
    obtain ⟨h1, _, _, h2⟩ := tilN_some h
    have h3 := List.mem_of_getElem? h2
    refine ⟨ints_bd (fun m hm => ?_), by rw [ints_len]; have := til_len40 (maskR_lt W l) h3; show t.length ≤ 1440; omega⟩
    have h4 := til_isTp (pQ_ok W l ps) _ _ (Nat.le_refl _) (maskR_lt W l) t h3
    unfold isTp at h4
    rw [Bool.and_eq_true] at h4
    obtain ⟨k, hk, e⟩ := List.getElem_of_mem hm
    have h5 := (pT_parts ((allN_iff _ _).1 h4.1 k (by rw [ints_len]; exact hk))).2.2.2
    rw [ints_get, pQ_ints] at h5
    have h6 := apR_bd W l ps _ h5
    have h7 : t.getD k 0 = m := by simp [List.getD, hk, e]
    rw [h7] at h6
    omega
theorem mask_all (W : Int) (l : List Int) (ps : List (List Cl)) : MaskL (apR W l ps) :=
  ⟨fun z hz => by have := apR_bd W l ps z hz; unfold In64; omega, by rw [← pQ_ints, ints_len]; exact pQ_len W l ps⟩
/-- A drawn region, drawn pieces, drawn masks. -/
def GivesRPL (w : World) (e : Ending) (w' : World) : Prop := ∃ (W : Int) (M gg cap : Nat) (l : List Int) (gr cp : Nat) (us : List Value) (ps : List (List Cl)) (lv : Value) (ls : List Int), e = .returned (.tuple #[.agg #[.int .i64 W, .slice (some ⟨gg, 0, none⟩) M cap], .slice (some ⟨gr, 0, none⟩) ps.length cp, lv]) ∧ M ≤ 8 ∧ (∀ z ∈ l, In64 z) ∧ RPAt w.heap.size w' gg M cap l gr cp us ps ∧ ps.length ≤ 3 ∧ MaskL ls ∧ w'.ownsRow w.heap.size 3 1 lv ls.length (iv ls) ∧ Below w.heap.size w w'

set_option maxHeartbeats 4000000 in
set_option maxRecDepth 100000 in
theorem dIsT8 (a : Option Addr) (len cap : Nat) (w : World) (hc : Code w.heap.size w a len cap) (hl : len ≤ 1048576) :
    Calls Tryz.prog 21 #[.slice a len cap] w (GivesRPL w) := by
  obtain ⟨rb, hrb⟩ : ∃ rb, w.heap.size = rb := ⟨_, rfl⟩
  have hres := RgAt.new (w := w) 0 (.slice none 0 0) hrb
  have hb0 := (Below.refl w.heap.size w).alloc (Nat.le_refl _) (.cells #[.int .i64 0, .slice none 0 0] 26)
  have hsz : (w.alloc (.cells #[.int .i64 0, .slice none 0 0] 26)).heap.size = rb + 1 := by simp [hrb]
  have HC := Lib.hid (hc.on hb0)
  clear hc
  obtain ⟨k, hk⟩ : ∃ k, len % 5 = k := ⟨_, rfl⟩
  have hk6 : k < 5 := by omega
  have hrem : (len : Int) % 5 = (k : Int) := by omega
  have hrem2 : Int.tmod (len : Int) 5 = (k : Int) := by rw [Int.tmod_eq_emod_of_nonneg (by omega)]; exact hrem
  clear hk
  go_enter Tryz.func21, Tryz.ntmps21
  go_wp2_with fail
  generalize (w.alloc (.cells #[.int .i64 0, .slice none 0 0] 26)) = W0 at *
  have HB := Lib.hid hb0
  clear hb0
  refine (dBoth8 a len cap W0 ((HC.out).more (by omega)) hl).mono ?_
  rintro e w1 ⟨W, M, gg, cp, l, gr, cp2, us, ps, rfl, hM, hin, hown, hprow, hpcs, hps3, hb1⟩
  have HRP := Lib.hid (RPAt.mk hown hprow hpcs)
  have hr1 := hres.on hb1 (by omega)
  have HB1 := Lib.hid (HB.out.trans (hb1.mono (by omega)))
  have hs1 := hb1.size
  have HIN := Lib.hid hin
  have ht1 := hown.lt gg rfl
  clear hres HC HB hin
  obtain ⟨vb, hvb⟩ : ∃ vb, w1.heap.size = vb := ⟨_, rfl⟩
  have HV3 := Lib.hid (RgAt.new (w := w1) W (.slice (some ⟨gg, 0, none⟩) M cp) hvb)
  have HR3 := Lib.hid (hr1.alloc (.cells #[.int .i64 W, .slice (some ⟨gg, 0, none⟩) M cp] 26))
  have HB3 := Lib.hid (HB1.out.alloc (by omega) (.cells #[.int .i64 W, .slice (some ⟨gg, 0, none⟩) M cp] 26))
  have HRP3 := Lib.hid (HRP.out.alloc (.cells #[.int .i64 W, .slice (some ⟨gg, 0, none⟩) M cp] 26))
  have hs3 : (w1.alloc (.cells #[.int .i64 W, .slice (some ⟨gg, 0, none⟩) M cp] 26)).heap.size = vb + 1 := by simp [hvb]
  clear hr1 HB1 hown hprow hpcs hb1 HRP
  have c0 := HV3.out.c0
  have c1 := HV3.out.c1
  go_wp2_with fail
  generalize (w1.alloc (.cells #[.int .i64 W, .slice (some ⟨gg, 0, none⟩) M cp] 26)) = w3 at *
  have hps1 : ps.length ≤ 1048576 := by omega
  refine (sFindT w3.heap.size M cp ps.length cp2 _ _ W l ps w3 (by omega) hps1 (IntsAt.of_own HRP3.out.row HIN.out) HRP3.out.psAt (Nat.le_refl _)).mono ?_
  rintro e w4 ⟨lv, rfl, hlv, hb4⟩
  have HV4 := Lib.hid (HV3.out.on hb4 (by omega))
  have HR4 := Lib.hid (HR3.out.on hb4 (by omega))
  have HRP4 := Lib.hid (HRP3.out.on hb4)
  have HB4 := Lib.hid (HB3.out.trans (hb4.mono (by omega)))
  have HLV := Lib.hid hlv
  have hs4 := hb4.size
  have hrb1 : rb < W0.heap.size := by omega
  have HML := Lib.hid (mask_way W l ps)
  obtain ⟨t0, ht0⟩ : ∃ t0, tilN W l ps 0 = t0 := ⟨_, rfl⟩
  rw [ht0] at HLV HML ⊢
  obtain ⟨ls, hls⟩ : ∃ ls, wayI t0 = ls := ⟨_, rfl⟩
  rw [hls] at HLV HML
  obtain ⟨b0, hb0⟩ : ∃ b0, t0.isSome = b0 := ⟨_, rfl⟩
  rw [hb0]
  clear HV3 HR3 HRP3 HB3 hlv hb4 c0 c1 ht0 hls hb0
  have c0 := HV4.out.c0
  have c1 := HV4.out.c1
  have p0 := HR4.out.c0
  have p1 := HR4.out.c1
  have p2 := HR4.out.f 0
  have p3 := HR4.out.f 1
  by_cases hbk : b0 = true ∧ 0 < k
  · obtain ⟨rfl, hk1⟩ := hbk
    have hk2 : (0 : Int) < (k : Int) := by omega
    go_wp2
    have R9 := HR4.out.set2 W (.slice (some ⟨gg, 0, none⟩) M cp)
    have e0 := R9.c0
    have e1 := R9.c1
    have HRP9 := Lib.hid (((HRP4.out.put rb 0 (.int .i64 W) hrb1).put rb 1 (.slice (some ⟨gg, 0, none⟩) M cp) hrb1).less (show w.heap.size ≤ W0.heap.size by omega))
    have HL9 := Lib.hid (own_below (own_off (b := rb) (o := 1) (u := (.slice (some ⟨gg, 0, none⟩) M cp)) (own_off (b := rb) (o := 0) (u := .int .i64 W) HLV.out (by omega)) (by omega)) (show w.heap.size ≤ w3.heap.size by omega))
    have HB9 := Lib.hid ((HB4.out.setCell (p := ⟨rb, 0, none⟩) (by show w.heap.size ≤ rb; omega) (.int .i64 W)).setCell (p := ⟨rb, 1, none⟩) (by show w.heap.size ≤ rb; omega) (.slice (some ⟨gg, 0, none⟩) M cp))
    generalize ((w4.setCell ⟨rb, 0, none⟩ (.int .i64 W)).setCell ⟨rb, 1, none⟩ (.slice (some ⟨gg, 0, none⟩) M cp)) = w9 at *
    exact bodyPost_ret (v := .tuple #[.agg #[.int .i64 W, .slice (some ⟨gg, 0, none⟩) M cp], .slice (some ⟨gr, 0, none⟩) ps.length cp2, lv]) (by simp [results, Tryz.results21, go_sem, e0, e1]) rfl ⟨W, M, gg, cp, l, gr, cp2, us, ps, lv, ls, rfl, hM, HIN.out, HRP9.out, hps3, HML.out, HL9.out, HB9.out⟩
  · have HK := Lib.hid (fun v9 (h9 : Below w4.heap.size w4 v9) => sAp w4.heap.size M cp ps.length cp2 _ _ W l ps v9 (by omega) hps1 ((IntsAt.of_own HRP4.out.row HIN.out).on h9) (HRP4.out.psAt.on h9) h9.size)
    have HMA := Lib.hid (mask_all W l ps)
    obtain ⟨la, hla⟩ : ∃ la, apR W l ps = la := ⟨_, rfl⟩
    rw [hla] at HK HMA
    clear hla
    have hbt : (b0 && decide ((0 : Int) < (k : Int))) = false := by
      cases b0 with
      | false => rfl
      | true =>
        have : ¬ 0 < k := fun h => hbk ⟨rfl, h⟩
        simp
        omega
    cases b0 with
    | false =>
      go_wp2_with fail
      have HS := Lib.hid (fun v9 (h9 : Below w4.heap.size w4 v9) => (show (v9.cell? ⟨vb, 0, none⟩ = some (.int .i64 W) ∧ v9.cell? ⟨vb, 1, none⟩ = some (.slice (some ⟨gg, 0, none⟩) M cp)) from by have h8 := HV4.out.on h9 (by omega); exact ⟨h8.c0, h8.c1⟩))
      have k0 : Below w4.heap.size w4 w4.drew := (Below.refl _ w4).drew
      go_region_with (go_at_call 62; refine (HK.out _ k0).mono ?_; rintro e v5 ⟨av, rfl, ho5, hb5⟩; have k5 : Below w4.heap.size w4 v5 := Below.trans k0 (hb5.mono (Below.size k0)); have hv5 := RgAt.on (w := w4) HV4.out k5 (by omega); have hr5 := RgAt.on (w := w4) HR4.out k5 (by omega); have n0 := hv5.c0; have n1 := hv5.c1; have q0 := hr5.c0; have q1 := hr5.c1; have q2 := hr5.f 0; have q3 := hr5.f 1)
      all_goals
        have HRP9 := Lib.hid (((((HRP4.out.on k5).put rb 0 (.int .i64 W) hrb1).put rb 1 (.slice (some ⟨gg, 0, none⟩) M cp) hrb1)).less (show w.heap.size ≤ W0.heap.size by omega))
        have HL9 := Lib.hid (own_below (own_off (b := rb) (o := 1) (u := (.slice (some ⟨gg, 0, none⟩) M cp)) (own_off (b := rb) (o := 0) (u := .int .i64 W) ho5 (show rb < w4.drew.heap.size from by show rb < w4.heap.size; omega)) (show rb < w4.drew.heap.size from by show rb < w4.heap.size; omega)) (show w.heap.size ≤ w4.drew.heap.size from by show w.heap.size ≤ w4.heap.size; omega))
        have HB9 := Lib.hid (((HB4.out.trans (k5.mono (by omega))).setCell (p := ⟨rb, 0, none⟩) (by show w.heap.size ≤ rb; omega) (.int .i64 W)).setCell (p := ⟨rb, 1, none⟩) (by show w.heap.size ≤ rb; omega) (.slice (some ⟨gg, 0, none⟩) M cp))
        have R9 := hr5.set2 W (.slice (some ⟨gg, 0, none⟩) M cp)
        clear n0 n1 q0 q1 q2 q3 c0 c1 p0 p1 p2 p3 ho5 hb5 k5 hv5 hr5
        (try simp only [Exit.then])
        go_wp2
        have e0 := R9.c0
        have e1 := R9.c1
        generalize ((v5.setCell ⟨rb, 0, none⟩ (.int .i64 W)).setCell ⟨rb, 1, none⟩ (.slice (some ⟨gg, 0, none⟩) M cp)) = w9 at *
        exact bodyPost_ret (v := .tuple #[.agg #[.int .i64 W, .slice (some ⟨gg, 0, none⟩) M cp], .slice (some ⟨gr, 0, none⟩) ps.length cp2, av]) (by simp [results, Tryz.results21, go_sem, e0, e1]) rfl ⟨W, M, gg, cp, l, gr, cp2, us, ps, av, la, rfl, hM, HIN.out, HRP9.out, hps3, HMA.out, HL9.out, HB9.out⟩
    | true =>
      have hk3 : ¬ (0 : Int) < (k : Int) := by
        have : ¬ 0 < k := fun h => hbk ⟨rfl, h⟩
        omega
      go_wp2_with fail
      have HS := Lib.hid (fun v9 (h9 : Below w4.heap.size w4 v9) => (show (v9.cell? ⟨vb, 0, none⟩ = some (.int .i64 W) ∧ v9.cell? ⟨vb, 1, none⟩ = some (.slice (some ⟨gg, 0, none⟩) M cp)) from by have h8 := HV4.out.on h9 (by omega); exact ⟨h8.c0, h8.c1⟩))
      have k0 : Below w4.heap.size w4 w4.drew := (Below.refl _ w4).drew
      go_region_with (go_at_call 62; refine (HK.out _ k0).mono ?_; rintro e v5 ⟨av, rfl, ho5, hb5⟩; have k5 : Below w4.heap.size w4 v5 := Below.trans k0 (hb5.mono (Below.size k0)); have hv5 := RgAt.on (w := w4) HV4.out k5 (by omega); have hr5 := RgAt.on (w := w4) HR4.out k5 (by omega); have n0 := hv5.c0; have n1 := hv5.c1; have q0 := hr5.c0; have q1 := hr5.c1; have q2 := hr5.f 0; have q3 := hr5.f 1)
      all_goals
        have HRP9 := Lib.hid (((((HRP4.out.on k5).put rb 0 (.int .i64 W) hrb1).put rb 1 (.slice (some ⟨gg, 0, none⟩) M cp) hrb1)).less (show w.heap.size ≤ W0.heap.size by omega))
        have HL9 := Lib.hid (own_below (own_off (b := rb) (o := 1) (u := (.slice (some ⟨gg, 0, none⟩) M cp)) (own_off (b := rb) (o := 0) (u := .int .i64 W) ho5 (show rb < w4.drew.heap.size from by show rb < w4.heap.size; omega)) (show rb < w4.drew.heap.size from by show rb < w4.heap.size; omega)) (show w.heap.size ≤ w4.drew.heap.size from by show w.heap.size ≤ w4.heap.size; omega))
        have HB9 := Lib.hid (((HB4.out.trans (k5.mono (by omega))).setCell (p := ⟨rb, 0, none⟩) (by show w.heap.size ≤ rb; omega) (.int .i64 W)).setCell (p := ⟨rb, 1, none⟩) (by show w.heap.size ≤ rb; omega) (.slice (some ⟨gg, 0, none⟩) M cp))
        have R9 := hr5.set2 W (.slice (some ⟨gg, 0, none⟩) M cp)
        clear n0 n1 q0 q1 q2 q3 c0 c1 p0 p1 p2 p3 ho5 hb5 k5 hv5 hr5
        (try simp only [Exit.then])
        go_wp2
        have e0 := R9.c0
        have e1 := R9.c1
        generalize ((v5.setCell ⟨rb, 0, none⟩ (.int .i64 W)).setCell ⟨rb, 1, none⟩ (.slice (some ⟨gg, 0, none⟩) M cp)) = w9 at *
        exact bodyPost_ret (v := .tuple #[.agg #[.int .i64 W, .slice (some ⟨gg, 0, none⟩) M cp], .slice (some ⟨gr, 0, none⟩) ps.length cp2, av]) (by simp [results, Tryz.results21, go_sem, e0, e1]) rfl ⟨W, M, gg, cp, l, gr, cp2, us, ps, av, la, rfl, hM, HIN.out, HRP9.out, hps3, HMA.out, HL9.out, HB9.out⟩

/-- A drawn region, drawn masks. -/
def GivesRL (w : World) (e : Ending) (w' : World) : Prop := ∃ (W : Int) (M gg cap : Nat) (l : List Int) (lv : Value) (ls : List Int), e = .returned (.tuple #[.agg #[.int .i64 W, .slice (some ⟨gg, 0, none⟩) M cap], lv]) ∧ M ≤ 8 ∧ (∀ z ∈ l, In64 z) ∧ w'.ownsRow w.heap.size 3 1 (.slice (some ⟨gg, 0, none⟩) M cap) M (iv l) ∧ MaskL ls ∧ w'.ownsRow w.heap.size 3 1 lv ls.length (iv ls) ∧ Below w.heap.size w w'

set_option maxHeartbeats 4000000 in
set_option maxRecDepth 100000 in
theorem dFmT8 (a : Option Addr) (len cap : Nat) (w : World) (hc : Code w.heap.size w a len cap) (hl : len ≤ 1048576) :
    Calls Tryz.prog 22 #[.slice a len cap] w (GivesRL w) := by
  obtain ⟨rb, hrb⟩ : ∃ rb, w.heap.size = rb := ⟨_, rfl⟩
  have hres := RgAt.new (w := w) 0 (.slice none 0 0) hrb
  have hb0 := (Below.refl w.heap.size w).alloc (Nat.le_refl _) (.cells #[.int .i64 0, .slice none 0 0] 26)
  have hsz : (w.alloc (.cells #[.int .i64 0, .slice none 0 0] 26)).heap.size = rb + 1 := by simp [hrb]
  have HC := Lib.hid (hc.on hb0)
  clear hc
  go_enter Tryz.func22, Tryz.ntmps22
  go_wp2_with fail
  generalize (w.alloc (.cells #[.int .i64 0, .slice none 0 0] 26)) = W0 at *
  have HB := Lib.hid hb0
  clear hb0
  refine (dIsT8 a len cap W0 ((HC.out).more (by omega)) hl).mono ?_
  rintro e w1 ⟨W, M, gg, cp, l, gr, cp2, us, ps, lv, ls, rfl, hM, hin, hrp, hps3, hml, hlv, hb1⟩
  have hr1 := hres.on hb1 (by omega)
  have HB1 := Lib.hid (HB.out.trans (hb1.mono (by omega)))
  have hs1 := hb1.size
  have HIN := Lib.hid hin
  have HML := Lib.hid hml
  obtain ⟨vb, hvb⟩ : ∃ vb, w1.heap.size = vb := ⟨_, rfl⟩
  have HV3 := Lib.hid (RgAt.new (w := w1) W (.slice (some ⟨gg, 0, none⟩) M cp) hvb)
  have HR3 := Lib.hid (hr1.alloc (.cells #[.int .i64 W, .slice (some ⟨gg, 0, none⟩) M cp] 26))
  have HB3 := Lib.hid (HB1.out.alloc (by omega) (.cells #[.int .i64 W, .slice (some ⟨gg, 0, none⟩) M cp] 26))
  have HO3 := Lib.hid (hrp.row.alloc (.cells #[.int .i64 W, .slice (some ⟨gg, 0, none⟩) M cp] 26))
  have HL3 := Lib.hid (hlv.alloc (.cells #[.int .i64 W, .slice (some ⟨gg, 0, none⟩) M cp] 26))
  have hs3 : (w1.alloc (.cells #[.int .i64 W, .slice (some ⟨gg, 0, none⟩) M cp] 26)).heap.size = vb + 1 := by simp [hvb]
  clear hr1 HB1 hrp hlv hb1 hres HC HB hin hml
  have c0 := HV3.out.c0
  have c1 := HV3.out.c1
  have p0 := HR3.out.c0
  have p1 := HR3.out.c1
  have p2 := HR3.out.f 0
  have p3 := HR3.out.f 1
  go_wp2
  generalize (w1.alloc (.cells #[.int .i64 W, .slice (some ⟨gg, 0, none⟩) M cp] 26)) = w3 at *
  have R9 := HR3.out.set2 W (.slice (some ⟨gg, 0, none⟩) M cp)
  have e0 := R9.c0
  have e1 := R9.c1
  have HO9 := Lib.hid (own_below (own_off (b := rb) (o := 1) (u := (.slice (some ⟨gg, 0, none⟩) M cp)) (own_off (b := rb) (o := 0) (u := .int .i64 W) HO3.out (by omega)) (by omega)) (show w.heap.size ≤ W0.heap.size by omega))
  have HL9 := Lib.hid (own_below (own_off (b := rb) (o := 1) (u := (.slice (some ⟨gg, 0, none⟩) M cp)) (own_off (b := rb) (o := 0) (u := .int .i64 W) HL3.out (by omega)) (by omega)) (show w.heap.size ≤ W0.heap.size by omega))
  have HB9 := Lib.hid ((HB3.out.setCell (p := ⟨rb, 0, none⟩) (by show w.heap.size ≤ rb; omega) (.int .i64 W)).setCell (p := ⟨rb, 1, none⟩) (by show w.heap.size ≤ rb; omega) (.slice (some ⟨gg, 0, none⟩) M cp))
  generalize ((w3.setCell ⟨rb, 0, none⟩ (.int .i64 W)).setCell ⟨rb, 1, none⟩ (.slice (some ⟨gg, 0, none⟩) M cp)) = w9 at *
  exact bodyPost_ret (v := .tuple #[.agg #[.int .i64 W, .slice (some ⟨gg, 0, none⟩) M cp], lv]) (by simp [results, Tryz.results22, go_sem, e0, e1]) rfl ⟨W, M, gg, cp, l, lv, ls, rfl, hM, HIN.out, HO9.out, HML.out, HL9.out, HB9.out⟩
end Go.Proofs.YtkjlmgkjcmebbaaGreatDoor
