/-
  The law on tilings (FnCovers): its walk (written by tools/lawcov.py), out of the contracts of the functions that it calls.
-/
import Derived.Test.YtkjlmgkjcmebbaaGreatDoorLawCvp
namespace Go.Proofs.YtkjlmgkjcmebbaaGreatDoor
open Go.RowKit

set_option maxHeartbeats 16000000 in
set_option maxRecDepth 100000 in
theorem law_Covers (a0 : Option Addr) (len0 cap0 : Nat) (z0 : List Int) (w : World) (w0 : IsRow .u8 w a0 len0 cap0 z0) (hT : Tz w) :
    Calls Tryz.prog 3 #[.slice a0 len0 cap0] w fun e w' => e = .returned (.bool true) ∧ Below w.heap.size w w' := by
  have HC := Lib.hid (code_of_row w0)
  by_cases hs : (1048576 : Int) < len0
  · go_enter Tryz.func3, Tryz.ntmps3
    go_wp2_with (first | (go_at_call 12; go_in))
    go_ret
    exact ⟨rfl, Below.refl _ _⟩
  go_enter Tryz.func3, Tryz.ntmps3
  go_wp2_with (first | (go_at_call 12; go_in))
  have hl0 : len0 ≤ 1048576 := by omega
  clear hs
  have ST_w := Lib.hid (show St7 w w a0 len0 cap0 from ⟨Below.refl _ _, HC.out, hT⟩)
  clear HC w0 hT
  go_wp2_with fail
  refine (dTilN8 a0 len0 cap0 w ST_w.out.2.1 hl0).mono ?_
  rintro e w1 ⟨Wr, Mr, gr, cr, lr, gp, cp, us, ps, x, rfl, hMr, hin, hown, hprow, hpcs, hps3, ⟨hx, hx1, hx2⟩, hb⟩
  have ST_w1 := Lib.hid (ST_w.out.go hb)
  clear ST_w
  clear hb
  have HA_r := Lib.hid (IntsAt.of_own hown hin)
  have HR_p := Lib.hid (RPAt.mk hown hprow hpcs).psAt
  clear hown hin hprow hpcs
  obtain ⟨np, hnp⟩ : ∃ n, ps.length = n := ⟨_, rfl⟩
  rw [hnp] at HR_p hps3 ⊢
  clear hnp
  obtain ⟨br, hbr⟩ : ∃ b, w1.heap.size = b := ⟨_, rfl⟩
  have hb := (Below.refl w1.heap.size w1).alloc (Nat.le_refl _) (.cells #[.int .i64 Wr, .slice (some ⟨gr, 0, none⟩) Mr cr] 26)
  have ST_w2 := Lib.hid (ST_w1.out.go hb)
  replace HA_r := Lib.hid ((HA_r.out.on hb).more hb.size)
  replace HR_p := Lib.hid ((HR_p.out.on hb).more hb.size)
  clear ST_w1
  clear hb
  have HV_r := Lib.hid (RgAt.new (w := w1) Wr (.slice (some ⟨gr, 0, none⟩) Mr cr) hbr)
  have qr0 := HV_r.out.c0
  have qr1 := HV_r.out.c1
  go_wp2_with fail
  generalize (w1.alloc (.cells #[.int .i64 Wr, .slice (some ⟨gr, 0, none⟩) Mr cr] 26)) = w2 at *
  clear hbr
  refine (iTilN w2.heap.size Mr cr np cp _ _ Wr lr ps x w2 hx (by omega) (by omega) HA_r.out HR_p.out (Nat.le_refl _) ST_w2.out.2.2).mono ?_
  rintro e w3 ⟨v1, rfl, ho, hb⟩
  obtain ⟨zs, hzs⟩ : ∃ z, wayI (tilN Wr lr ps x) = z := ⟨_, rfl⟩
  have hzl := way_len Wr lr ps x
  have HZI := Lib.hid (way_in Wr lr ps x)
  rw [hzs] at hzl HZI
  have HZ := Lib.hid hzs
  clear hzs
  rw [HZ.out] at ho
  obtain ⟨a1, c1, rfl⟩ := own_sl_i ho
  clear qr0 qr1
  have ST_w3 := Lib.hid (ST_w2.out.go hb)
  replace HV_r := Lib.hid (HV_r.out.on hb HV_r.out.lt)
  replace HA_r := Lib.hid ((HA_r.out.on hb).more hb.size)
  replace HR_p := Lib.hid ((HR_p.out.on hb).more hb.size)
  clear ST_w2
  clear hb
  have HR_1 := Lib.hid (IsRd.of_own2 ho)
  clear ho
  have qr0 := HV_r.out.c0
  have qr1 := HV_r.out.c1
  go_wp2_with fail
  refine (sTilN w3.heap.size Mr cr np cp _ _ Wr lr ps x w3 hx (by omega) (by omega) HA_r.out HR_p.out (Nat.le_refl _)).mono ?_
  rintro e w4 ⟨v2, rfl, ho, hb⟩
  rw [HZ.out] at ho
  obtain ⟨a2, c2, rfl⟩ := own_sl_i ho
  clear qr0 qr1
  have ST_w4 := Lib.hid (ST_w3.out.go hb)
  replace HV_r := Lib.hid (HV_r.out.on hb HV_r.out.lt)
  replace HA_r := Lib.hid ((HA_r.out.on hb).more hb.size)
  replace HR_p := Lib.hid ((HR_p.out.on hb).more hb.size)
  replace HR_1 := Lib.hid ((HR_1.out.on hb).more hb.size)
  clear ST_w3
  clear hb
  have HR_2 := Lib.hid (IsRd.of_own2 ho)
  have HA_m := Lib.hid (IntsAt.of_own ho HZI.out)
  clear ho
  have qr0 := HV_r.out.c0
  have qr1 := HV_r.out.c1
  go_wp2_with fail
  refine (iCntT w4.heap.size Mr cr np cp _ _ Wr lr ps w4 (by omega) (by omega) HA_r.out HR_p.out (Nat.le_refl _) ST_w4.out.2.2).mono ?_
  rintro e w5 ⟨rfl, hb⟩
  clear qr0 qr1
  have ST_w5 := Lib.hid (ST_w4.out.go hb)
  replace HV_r := Lib.hid (HV_r.out.on hb HV_r.out.lt)
  replace HA_r := Lib.hid ((HA_r.out.on hb).more hb.size)
  replace HA_m := Lib.hid ((HA_m.out.on hb).more hb.size)
  replace HR_p := Lib.hid ((HR_p.out.on hb).more hb.size)
  replace HR_1 := Lib.hid ((HR_1.out.on hb).more hb.size)
  replace HR_2 := Lib.hid ((HR_2.out.on hb).more hb.size)
  clear ST_w4
  clear hb
  have HHAS := Lib.hid (cov_has Wr lr ps)
  have hzn := HZ.out
  obtain ⟨c, hc⟩ : ∃ c, cntT Wr lr ps = c := ⟨_, rfl⟩
  have HCC := Lib.hid hc
  have hcc : (c != c) = false := by simp
  obtain ⟨hg, hhg⟩ : ∃ b, decide (0 < c) = b := ⟨_, rfl⟩
  rw [hc, hhg] at HHAS
  have hgg : (hg != hg) = false := by simp
  rw [hc]
  clear hc
  obtain ⟨to, hto⟩ : ∃ t, tilN Wr lr ps x = t := ⟨_, rfl⟩
  have HTO := Lib.hid hto
  rw [hto] at hzn ⊢
  clear hto
  cases to with
  | none =>
    have hnn := fun (h0 : 0 ≤ x) (h1 : x ≤ 199) => cov_none HTO.out h0 h1
    rw [HCC.out] at hnn
    have hst : (Option.isSome (none : Option (List Nat))) = false := rfl
    rw [hst]
    clear hzn HTO
    by_cases hx0 : 0 ≤ x
    · have hg1 : decide (0 ≤ x) = true := by simp; omega
      have hg1b : decide (x ≥ 0) = true := by simp; omega
      by_cases hx9 : x ≤ 199
      · have hnn2 := hnn hx0 (by omega)
        have hg2 : decide (x < 200) = true := by simp; omega
        have hg3 : decide (c > x) = false := by simp; omega
        have hg3b : decide (x < c) = false := by simp; omega
        clear hnn
        go_wp2_with fail
        refine (lSameI w5.heap.size _ _ zs w5 (by omega) HR_1.out HR_2.out (Nat.le_refl _)).mono ?_
        rintro e w6 ⟨rfl, hb⟩
        have ST_w6 := Lib.hid (ST_w5.out.go hb)
        replace HV_r := Lib.hid (HV_r.out.on hb HV_r.out.lt)
        replace HA_r := Lib.hid ((HA_r.out.on hb).more hb.size)
        replace HA_m := Lib.hid ((HA_m.out.on hb).more hb.size)
        replace HR_p := Lib.hid ((HR_p.out.on hb).more hb.size)
        replace HR_1 := Lib.hid ((HR_1.out.on hb).more hb.size)
        replace HR_2 := Lib.hid ((HR_2.out.on hb).more hb.size)
        clear ST_w5
        clear hb
        clear HR_1
        have qr0 := HV_r.out.c0
        have qr1 := HV_r.out.c1
        go_wp2_with fail
        refine (sCntT w6.heap.size Mr cr np cp _ _ Wr lr ps w6 (by omega) (by omega) HA_r.out HR_p.out (Nat.le_refl _)).mono ?_
        rintro e w7 ⟨rfl, hb⟩
        rw [HCC.out]
        clear qr0 qr1
        have ST_w7 := Lib.hid (ST_w6.out.go hb)
        replace HV_r := Lib.hid (HV_r.out.on hb HV_r.out.lt)
        replace HA_r := Lib.hid ((HA_r.out.on hb).more hb.size)
        replace HA_m := Lib.hid ((HA_m.out.on hb).more hb.size)
        replace HR_p := Lib.hid ((HR_p.out.on hb).more hb.size)
        replace HR_2 := Lib.hid ((HR_2.out.on hb).more hb.size)
        clear ST_w6
        clear hb
        have qr0 := HV_r.out.c0
        have qr1 := HV_r.out.c1
        go_wp2_with fail
        refine (iHasT w7.heap.size Mr cr np cp _ _ Wr lr ps w7 (by omega) (by omega) HA_r.out HR_p.out (Nat.le_refl _) ST_w7.out.2.2).mono ?_
        rintro e w8 ⟨rfl, hb⟩
        rw [← HHAS.out]
        clear qr0 qr1
        have ST_w8 := Lib.hid (ST_w7.out.go hb)
        replace HV_r := Lib.hid (HV_r.out.on hb HV_r.out.lt)
        replace HA_r := Lib.hid ((HA_r.out.on hb).more hb.size)
        replace HA_m := Lib.hid ((HA_m.out.on hb).more hb.size)
        replace HR_p := Lib.hid ((HR_p.out.on hb).more hb.size)
        replace HR_2 := Lib.hid ((HR_2.out.on hb).more hb.size)
        clear ST_w7
        clear hb
        clear HV_r
        clear HA_r
        clear HR_p
        clear HR_2
        clear HA_m
        go_wp2_with fail
        refine (dIsT8 a0 len0 cap0 w8 ST_w8.out.2.1 hl0).mono ?_
        rintro e w9 ⟨Wd, Md, gd, cd, ld, gq, cq, ud, qs, dv, ds, rfl, hMd, hin, hrp, hqs3, ⟨hdi, hdl⟩, hdo, hb⟩
        have ST_w9 := Lib.hid (ST_w8.out.go hb)
        clear ST_w8
        clear hb
        obtain ⟨a5, c5, rfl⟩ := own_sl_i hdo
        have HA_d := Lib.hid (IntsAt.of_own hrp.row hin)
        have HR_q := Lib.hid hrp.psAt
        have HA_e := Lib.hid (IntsAt.of_own hdo hdi)
        clear hrp hin hdo hdi
        obtain ⟨nq, hnq⟩ : ∃ n, qs.length = n := ⟨_, rfl⟩
        rw [hnq] at HR_q hqs3 ⊢
        clear hnq
        obtain ⟨bd, hbd⟩ : ∃ b, w9.heap.size = b := ⟨_, rfl⟩
        have hb := (Below.refl w9.heap.size w9).alloc (Nat.le_refl _) (.cells #[.int .i64 Wd, .slice (some ⟨gd, 0, none⟩) Md cd] 26)
        have ST_w10 := Lib.hid (ST_w9.out.go hb)
        replace HA_d := Lib.hid ((HA_d.out.on hb).more hb.size)
        replace HA_e := Lib.hid ((HA_e.out.on hb).more hb.size)
        replace HR_q := Lib.hid ((HR_q.out.on hb).more hb.size)
        clear ST_w9
        clear hb
        have HV_d := Lib.hid (RgAt.new (w := w9) Wd (.slice (some ⟨gd, 0, none⟩) Md cd) hbd)
        go_wp2_with fail
        generalize (w9.alloc (.cells #[.int .i64 Wd, .slice (some ⟨gd, 0, none⟩) Md cd] 26)) = w10 at *
        clear hbd
        refine (dFmT8 a0 len0 cap0 w10 ST_w10.out.2.1 hl0).mono ?_
        rintro e w11 ⟨Wf, Mf, gf, cf, lf, fv, fs, rfl, hMf, hin, hown, ⟨hfi, hfl⟩, hfo, hb⟩
        have ST_w11 := Lib.hid (ST_w10.out.go hb)
        replace HV_d := Lib.hid (HV_d.out.on hb HV_d.out.lt)
        replace HA_d := Lib.hid ((HA_d.out.on hb).more hb.size)
        replace HA_e := Lib.hid ((HA_e.out.on hb).more hb.size)
        replace HR_q := Lib.hid ((HR_q.out.on hb).more hb.size)
        clear ST_w10
        clear hb
        obtain ⟨a6, c6, rfl⟩ := own_sl_i hfo
        have HA_f := Lib.hid (IntsAt.of_own hown hin)
        have HA_g := Lib.hid (IntsAt.of_own hfo hfi)
        clear hown hin hfo hfi
        obtain ⟨bf, hbf⟩ : ∃ b, w11.heap.size = b := ⟨_, rfl⟩
        have hb := (Below.refl w11.heap.size w11).alloc (Nat.le_refl _) (.cells #[.int .i64 Wf, .slice (some ⟨gf, 0, none⟩) Mf cf] 26)
        have ST_w12 := Lib.hid (ST_w11.out.go hb)
        replace HV_d := Lib.hid (HV_d.out.on hb HV_d.out.lt)
        replace HA_d := Lib.hid ((HA_d.out.on hb).more hb.size)
        replace HA_e := Lib.hid ((HA_e.out.on hb).more hb.size)
        replace HA_f := Lib.hid ((HA_f.out.on hb).more hb.size)
        replace HA_g := Lib.hid ((HA_g.out.on hb).more hb.size)
        replace HR_q := Lib.hid ((HR_q.out.on hb).more hb.size)
        clear ST_w11
        clear hb
        have HV_f := Lib.hid (RgAt.new (w := w11) Wf (.slice (some ⟨gf, 0, none⟩) Mf cf) hbf)
        go_wp2_with fail
        generalize (w11.alloc (.cells #[.int .i64 Wf, .slice (some ⟨gf, 0, none⟩) Mf cf] 26)) = w12 at *
        clear hbf
        obtain ⟨ti, hti⟩ : ∃ b, isTil Wd ld qs ds = b := ⟨_, rfl⟩
        obtain ⟨fn, hfn⟩ : ∃ z : List UInt8, fmtM Wf lf fs = z := ⟨_, rfl⟩
        have htt : (ti == ti) = true := by simp
        have hff : (fn == fn) = true := by simp
        have HK1 := Lib.hid (fun w9 (h9 : Below w12.heap.size w12 w9) => iIsTil w12.heap.size Md cd nq cq _ c5 _ _ a5 Wd ld qs ds w9 (by omega) (by omega) (by omega) (HA_d.out.on h9) (HR_q.out.on h9) (HA_e.out.on h9) h9.size (ST_w12.out.2.2.on h9 ST_w12.out.2.2.2))
        have HK2 := Lib.hid (fun w9 (h9 : Below w12.heap.size w12 w9) => sIsTil w12.heap.size Md cd nq cq _ c5 _ _ a5 Wd ld qs ds w9 (by omega) (by omega) (by omega) (HA_d.out.on h9) (HR_q.out.on h9) (HA_e.out.on h9) h9.size)
        have HK3 := Lib.hid (fun w9 (h9 : Below w12.heap.size w12 w9) => iFmtM w12.heap.size Mf cf _ c6 _ a6 Wf lf fs w9 (by omega) (by omega) (HA_f.out.on h9) (HA_g.out.on h9) h9.size)
        have HK4 := Lib.hid (fun w9 (h9 : Below w12.heap.size w12 w9) => sFmtM w12.heap.size Mf cf _ c6 _ a6 Wf lf fs w9 (by omega) (by omega) (HA_f.out.on h9) (HA_g.out.on h9) h9.size)
        rw [hti] at HK1 HK2
        rw [hfn] at HK3 HK4
        have HSC := Lib.hid (fun w' (h9 : Below w12.heap.size w12 w') => (show w'.cell? ⟨bd, 0, none⟩ = some (.int .i64 Wd) ∧ w'.cell? ⟨bd, 1, none⟩ = some (.slice (some ⟨gd, 0, none⟩) Md cd) ∧ w'.cell? ⟨bf, 0, none⟩ = some (.int .i64 Wf) ∧ w'.cell? ⟨bf, 1, none⟩ = some (.slice (some ⟨gf, 0, none⟩) Mf cf) from ⟨(HV_d.out.on h9 HV_d.out.lt).c0, (HV_d.out.on h9 HV_d.out.lt).c1, (HV_f.out.on h9 HV_f.out.lt).c0, (HV_f.out.on h9 HV_f.out.lt).c1⟩))
        clear hti hfn
        have k0 : Below w12.heap.size w12 w12.drew := (Below.refl _ w12).drew
        go_region_held3 (fun w' => w'.cell? ⟨bd, 0, none⟩ = some (.int .i64 Wd) ∧ w'.cell? ⟨bd, 1, none⟩ = some (.slice (some ⟨gd, 0, none⟩) Md cd) ∧ w'.cell? ⟨bf, 0, none⟩ = some (.int .i64 Wf) ∧ w'.cell? ⟨bf, 1, none⟩ = some (.slice (some ⟨gf, 0, none⟩) Mf cf))
          (first | exact HSC.out _ k0 | exact HSC.out _ k1 | exact HSC.out _ k2 | exact HSC.out _ k3 | exact HSC.out _ k4)
          (first
            | (go_at_call 19
               refine (HK1.out _ k0).mono ?_
               rintro e va ⟨rfl, hba⟩
               have k1 : Below w12.heap.size w12 va := Below.trans k0 (hba.mono (Below.size k0)))
            | (go_at_call 23
               refine (HK2.out _ k1).mono ?_
               rintro e vb ⟨rfl, hbb⟩
               have k2 : Below w12.heap.size w12 vb := Below.trans k1 (hbb.mono (Below.size k1)))
            | (go_at_call 24
               refine (HK3.out _ k2).mono ?_
               rintro e vc ⟨rfl, hbc⟩
               have k3 : Below w12.heap.size w12 vc := Below.trans k2 (hbc.mono (Below.size k2)))
            | (go_at_call 25
               refine (HK4.out _ k3).mono ?_
               rintro e vd ⟨rfl, hbd⟩
               have k4 : Below w12.heap.size w12 vd := Below.trans k3 (hbd.mono (Below.size k3))))
        have HEND := Lib.hid (ST_w12.out.1.trans (k4.mono ST_w12.out.1.size))
        clear k0 k1 k2 k3 k4 hba hbb hbc hbd HK1 HK2 HK3 HK4 HSC
        (try simp only [Exit.then])
        go_wp2
        go_ret
        exact ⟨rfl, HEND.out⟩
      · have hg2 : decide (x < 200) = false := by simp; omega
        clear hnn
        go_wp2_with fail
        refine (lSameI w5.heap.size _ _ zs w5 (by omega) HR_1.out HR_2.out (Nat.le_refl _)).mono ?_
        rintro e w6 ⟨rfl, hb⟩
        have ST_w6 := Lib.hid (ST_w5.out.go hb)
        replace HV_r := Lib.hid (HV_r.out.on hb HV_r.out.lt)
        replace HA_r := Lib.hid ((HA_r.out.on hb).more hb.size)
        replace HA_m := Lib.hid ((HA_m.out.on hb).more hb.size)
        replace HR_p := Lib.hid ((HR_p.out.on hb).more hb.size)
        replace HR_1 := Lib.hid ((HR_1.out.on hb).more hb.size)
        replace HR_2 := Lib.hid ((HR_2.out.on hb).more hb.size)
        clear ST_w5
        clear hb
        clear HR_1
        have qr0 := HV_r.out.c0
        have qr1 := HV_r.out.c1
        go_wp2_with fail
        refine (sCntT w6.heap.size Mr cr np cp _ _ Wr lr ps w6 (by omega) (by omega) HA_r.out HR_p.out (Nat.le_refl _)).mono ?_
        rintro e w7 ⟨rfl, hb⟩
        rw [HCC.out]
        clear qr0 qr1
        have ST_w7 := Lib.hid (ST_w6.out.go hb)
        replace HV_r := Lib.hid (HV_r.out.on hb HV_r.out.lt)
        replace HA_r := Lib.hid ((HA_r.out.on hb).more hb.size)
        replace HA_m := Lib.hid ((HA_m.out.on hb).more hb.size)
        replace HR_p := Lib.hid ((HR_p.out.on hb).more hb.size)
        replace HR_2 := Lib.hid ((HR_2.out.on hb).more hb.size)
        clear ST_w6
        clear hb
        have qr0 := HV_r.out.c0
        have qr1 := HV_r.out.c1
        go_wp2_with fail
        refine (iHasT w7.heap.size Mr cr np cp _ _ Wr lr ps w7 (by omega) (by omega) HA_r.out HR_p.out (Nat.le_refl _) ST_w7.out.2.2).mono ?_
        rintro e w8 ⟨rfl, hb⟩
        rw [← HHAS.out]
        clear qr0 qr1
        have ST_w8 := Lib.hid (ST_w7.out.go hb)
        replace HV_r := Lib.hid (HV_r.out.on hb HV_r.out.lt)
        replace HA_r := Lib.hid ((HA_r.out.on hb).more hb.size)
        replace HA_m := Lib.hid ((HA_m.out.on hb).more hb.size)
        replace HR_p := Lib.hid ((HR_p.out.on hb).more hb.size)
        replace HR_2 := Lib.hid ((HR_2.out.on hb).more hb.size)
        clear ST_w7
        clear hb
        clear HV_r
        clear HA_r
        clear HR_p
        clear HR_2
        clear HA_m
        go_wp2_with fail
        refine (dIsT8 a0 len0 cap0 w8 ST_w8.out.2.1 hl0).mono ?_
        rintro e w9 ⟨Wd, Md, gd, cd, ld, gq, cq, ud, qs, dv, ds, rfl, hMd, hin, hrp, hqs3, ⟨hdi, hdl⟩, hdo, hb⟩
        have ST_w9 := Lib.hid (ST_w8.out.go hb)
        clear ST_w8
        clear hb
        obtain ⟨a5, c5, rfl⟩ := own_sl_i hdo
        have HA_d := Lib.hid (IntsAt.of_own hrp.row hin)
        have HR_q := Lib.hid hrp.psAt
        have HA_e := Lib.hid (IntsAt.of_own hdo hdi)
        clear hrp hin hdo hdi
        obtain ⟨nq, hnq⟩ : ∃ n, qs.length = n := ⟨_, rfl⟩
        rw [hnq] at HR_q hqs3 ⊢
        clear hnq
        obtain ⟨bd, hbd⟩ : ∃ b, w9.heap.size = b := ⟨_, rfl⟩
        have hb := (Below.refl w9.heap.size w9).alloc (Nat.le_refl _) (.cells #[.int .i64 Wd, .slice (some ⟨gd, 0, none⟩) Md cd] 26)
        have ST_w10 := Lib.hid (ST_w9.out.go hb)
        replace HA_d := Lib.hid ((HA_d.out.on hb).more hb.size)
        replace HA_e := Lib.hid ((HA_e.out.on hb).more hb.size)
        replace HR_q := Lib.hid ((HR_q.out.on hb).more hb.size)
        clear ST_w9
        clear hb
        have HV_d := Lib.hid (RgAt.new (w := w9) Wd (.slice (some ⟨gd, 0, none⟩) Md cd) hbd)
        go_wp2_with fail
        generalize (w9.alloc (.cells #[.int .i64 Wd, .slice (some ⟨gd, 0, none⟩) Md cd] 26)) = w10 at *
        clear hbd
        refine (dFmT8 a0 len0 cap0 w10 ST_w10.out.2.1 hl0).mono ?_
        rintro e w11 ⟨Wf, Mf, gf, cf, lf, fv, fs, rfl, hMf, hin, hown, ⟨hfi, hfl⟩, hfo, hb⟩
        have ST_w11 := Lib.hid (ST_w10.out.go hb)
        replace HV_d := Lib.hid (HV_d.out.on hb HV_d.out.lt)
        replace HA_d := Lib.hid ((HA_d.out.on hb).more hb.size)
        replace HA_e := Lib.hid ((HA_e.out.on hb).more hb.size)
        replace HR_q := Lib.hid ((HR_q.out.on hb).more hb.size)
        clear ST_w10
        clear hb
        obtain ⟨a6, c6, rfl⟩ := own_sl_i hfo
        have HA_f := Lib.hid (IntsAt.of_own hown hin)
        have HA_g := Lib.hid (IntsAt.of_own hfo hfi)
        clear hown hin hfo hfi
        obtain ⟨bf, hbf⟩ : ∃ b, w11.heap.size = b := ⟨_, rfl⟩
        have hb := (Below.refl w11.heap.size w11).alloc (Nat.le_refl _) (.cells #[.int .i64 Wf, .slice (some ⟨gf, 0, none⟩) Mf cf] 26)
        have ST_w12 := Lib.hid (ST_w11.out.go hb)
        replace HV_d := Lib.hid (HV_d.out.on hb HV_d.out.lt)
        replace HA_d := Lib.hid ((HA_d.out.on hb).more hb.size)
        replace HA_e := Lib.hid ((HA_e.out.on hb).more hb.size)
        replace HA_f := Lib.hid ((HA_f.out.on hb).more hb.size)
        replace HA_g := Lib.hid ((HA_g.out.on hb).more hb.size)
        replace HR_q := Lib.hid ((HR_q.out.on hb).more hb.size)
        clear ST_w11
        clear hb
        have HV_f := Lib.hid (RgAt.new (w := w11) Wf (.slice (some ⟨gf, 0, none⟩) Mf cf) hbf)
        go_wp2_with fail
        generalize (w11.alloc (.cells #[.int .i64 Wf, .slice (some ⟨gf, 0, none⟩) Mf cf] 26)) = w12 at *
        clear hbf
        obtain ⟨ti, hti⟩ : ∃ b, isTil Wd ld qs ds = b := ⟨_, rfl⟩
        obtain ⟨fn, hfn⟩ : ∃ z : List UInt8, fmtM Wf lf fs = z := ⟨_, rfl⟩
        have htt : (ti == ti) = true := by simp
        have hff : (fn == fn) = true := by simp
        have HK1 := Lib.hid (fun w9 (h9 : Below w12.heap.size w12 w9) => iIsTil w12.heap.size Md cd nq cq _ c5 _ _ a5 Wd ld qs ds w9 (by omega) (by omega) (by omega) (HA_d.out.on h9) (HR_q.out.on h9) (HA_e.out.on h9) h9.size (ST_w12.out.2.2.on h9 ST_w12.out.2.2.2))
        have HK2 := Lib.hid (fun w9 (h9 : Below w12.heap.size w12 w9) => sIsTil w12.heap.size Md cd nq cq _ c5 _ _ a5 Wd ld qs ds w9 (by omega) (by omega) (by omega) (HA_d.out.on h9) (HR_q.out.on h9) (HA_e.out.on h9) h9.size)
        have HK3 := Lib.hid (fun w9 (h9 : Below w12.heap.size w12 w9) => iFmtM w12.heap.size Mf cf _ c6 _ a6 Wf lf fs w9 (by omega) (by omega) (HA_f.out.on h9) (HA_g.out.on h9) h9.size)
        have HK4 := Lib.hid (fun w9 (h9 : Below w12.heap.size w12 w9) => sFmtM w12.heap.size Mf cf _ c6 _ a6 Wf lf fs w9 (by omega) (by omega) (HA_f.out.on h9) (HA_g.out.on h9) h9.size)
        rw [hti] at HK1 HK2
        rw [hfn] at HK3 HK4
        have HSC := Lib.hid (fun w' (h9 : Below w12.heap.size w12 w') => (show w'.cell? ⟨bd, 0, none⟩ = some (.int .i64 Wd) ∧ w'.cell? ⟨bd, 1, none⟩ = some (.slice (some ⟨gd, 0, none⟩) Md cd) ∧ w'.cell? ⟨bf, 0, none⟩ = some (.int .i64 Wf) ∧ w'.cell? ⟨bf, 1, none⟩ = some (.slice (some ⟨gf, 0, none⟩) Mf cf) from ⟨(HV_d.out.on h9 HV_d.out.lt).c0, (HV_d.out.on h9 HV_d.out.lt).c1, (HV_f.out.on h9 HV_f.out.lt).c0, (HV_f.out.on h9 HV_f.out.lt).c1⟩))
        clear hti hfn
        have k0 : Below w12.heap.size w12 w12.drew := (Below.refl _ w12).drew
        go_region_held3 (fun w' => w'.cell? ⟨bd, 0, none⟩ = some (.int .i64 Wd) ∧ w'.cell? ⟨bd, 1, none⟩ = some (.slice (some ⟨gd, 0, none⟩) Md cd) ∧ w'.cell? ⟨bf, 0, none⟩ = some (.int .i64 Wf) ∧ w'.cell? ⟨bf, 1, none⟩ = some (.slice (some ⟨gf, 0, none⟩) Mf cf))
          (first | exact HSC.out _ k0 | exact HSC.out _ k1 | exact HSC.out _ k2 | exact HSC.out _ k3 | exact HSC.out _ k4)
          (first
            | (go_at_call 19
               refine (HK1.out _ k0).mono ?_
               rintro e va ⟨rfl, hba⟩
               have k1 : Below w12.heap.size w12 va := Below.trans k0 (hba.mono (Below.size k0)))
            | (go_at_call 23
               refine (HK2.out _ k1).mono ?_
               rintro e vb ⟨rfl, hbb⟩
               have k2 : Below w12.heap.size w12 vb := Below.trans k1 (hbb.mono (Below.size k1)))
            | (go_at_call 24
               refine (HK3.out _ k2).mono ?_
               rintro e vc ⟨rfl, hbc⟩
               have k3 : Below w12.heap.size w12 vc := Below.trans k2 (hbc.mono (Below.size k2)))
            | (go_at_call 25
               refine (HK4.out _ k3).mono ?_
               rintro e vd ⟨rfl, hbd⟩
               have k4 : Below w12.heap.size w12 vd := Below.trans k3 (hbd.mono (Below.size k3))))
        have HEND := Lib.hid (ST_w12.out.1.trans (k4.mono ST_w12.out.1.size))
        clear k0 k1 k2 k3 k4 hba hbb hbc hbd HK1 HK2 HK3 HK4 HSC
        (try simp only [Exit.then])
        go_wp2
        go_ret
        exact ⟨rfl, HEND.out⟩
    · have hg1 : decide (0 ≤ x) = false := by simp; omega
      have hg1b : decide (x ≥ 0) = false := by simp; omega
      go_wp2_with fail
      refine (lSameI w5.heap.size _ _ zs w5 (by omega) HR_1.out HR_2.out (Nat.le_refl _)).mono ?_
      rintro e w6 ⟨rfl, hb⟩
      have ST_w6 := Lib.hid (ST_w5.out.go hb)
      replace HV_r := Lib.hid (HV_r.out.on hb HV_r.out.lt)
      replace HA_r := Lib.hid ((HA_r.out.on hb).more hb.size)
      replace HA_m := Lib.hid ((HA_m.out.on hb).more hb.size)
      replace HR_p := Lib.hid ((HR_p.out.on hb).more hb.size)
      replace HR_1 := Lib.hid ((HR_1.out.on hb).more hb.size)
      replace HR_2 := Lib.hid ((HR_2.out.on hb).more hb.size)
      clear ST_w5
      clear hb
      clear HR_1
      have qr0 := HV_r.out.c0
      have qr1 := HV_r.out.c1
      go_wp2_with fail
      refine (sCntT w6.heap.size Mr cr np cp _ _ Wr lr ps w6 (by omega) (by omega) HA_r.out HR_p.out (Nat.le_refl _)).mono ?_
      rintro e w7 ⟨rfl, hb⟩
      rw [HCC.out]
      clear qr0 qr1
      have ST_w7 := Lib.hid (ST_w6.out.go hb)
      replace HV_r := Lib.hid (HV_r.out.on hb HV_r.out.lt)
      replace HA_r := Lib.hid ((HA_r.out.on hb).more hb.size)
      replace HA_m := Lib.hid ((HA_m.out.on hb).more hb.size)
      replace HR_p := Lib.hid ((HR_p.out.on hb).more hb.size)
      replace HR_2 := Lib.hid ((HR_2.out.on hb).more hb.size)
      clear ST_w6
      clear hb
      have qr0 := HV_r.out.c0
      have qr1 := HV_r.out.c1
      go_wp2_with fail
      refine (iHasT w7.heap.size Mr cr np cp _ _ Wr lr ps w7 (by omega) (by omega) HA_r.out HR_p.out (Nat.le_refl _) ST_w7.out.2.2).mono ?_
      rintro e w8 ⟨rfl, hb⟩
      rw [← HHAS.out]
      clear qr0 qr1
      have ST_w8 := Lib.hid (ST_w7.out.go hb)
      replace HV_r := Lib.hid (HV_r.out.on hb HV_r.out.lt)
      replace HA_r := Lib.hid ((HA_r.out.on hb).more hb.size)
      replace HA_m := Lib.hid ((HA_m.out.on hb).more hb.size)
      replace HR_p := Lib.hid ((HR_p.out.on hb).more hb.size)
      replace HR_2 := Lib.hid ((HR_2.out.on hb).more hb.size)
      clear ST_w7
      clear hb
      clear HV_r
      clear HA_r
      clear HR_p
      clear HR_2
      clear HA_m
      go_wp2_with fail
      refine (dIsT8 a0 len0 cap0 w8 ST_w8.out.2.1 hl0).mono ?_
      rintro e w9 ⟨Wd, Md, gd, cd, ld, gq, cq, ud, qs, dv, ds, rfl, hMd, hin, hrp, hqs3, ⟨hdi, hdl⟩, hdo, hb⟩
      have ST_w9 := Lib.hid (ST_w8.out.go hb)
      clear ST_w8
      clear hb
      obtain ⟨a5, c5, rfl⟩ := own_sl_i hdo
      have HA_d := Lib.hid (IntsAt.of_own hrp.row hin)
      have HR_q := Lib.hid hrp.psAt
      have HA_e := Lib.hid (IntsAt.of_own hdo hdi)
      clear hrp hin hdo hdi
      obtain ⟨nq, hnq⟩ : ∃ n, qs.length = n := ⟨_, rfl⟩
      rw [hnq] at HR_q hqs3 ⊢
      clear hnq
      obtain ⟨bd, hbd⟩ : ∃ b, w9.heap.size = b := ⟨_, rfl⟩
      have hb := (Below.refl w9.heap.size w9).alloc (Nat.le_refl _) (.cells #[.int .i64 Wd, .slice (some ⟨gd, 0, none⟩) Md cd] 26)
      have ST_w10 := Lib.hid (ST_w9.out.go hb)
      replace HA_d := Lib.hid ((HA_d.out.on hb).more hb.size)
      replace HA_e := Lib.hid ((HA_e.out.on hb).more hb.size)
      replace HR_q := Lib.hid ((HR_q.out.on hb).more hb.size)
      clear ST_w9
      clear hb
      have HV_d := Lib.hid (RgAt.new (w := w9) Wd (.slice (some ⟨gd, 0, none⟩) Md cd) hbd)
      go_wp2_with fail
      generalize (w9.alloc (.cells #[.int .i64 Wd, .slice (some ⟨gd, 0, none⟩) Md cd] 26)) = w10 at *
      clear hbd
      refine (dFmT8 a0 len0 cap0 w10 ST_w10.out.2.1 hl0).mono ?_
      rintro e w11 ⟨Wf, Mf, gf, cf, lf, fv, fs, rfl, hMf, hin, hown, ⟨hfi, hfl⟩, hfo, hb⟩
      have ST_w11 := Lib.hid (ST_w10.out.go hb)
      replace HV_d := Lib.hid (HV_d.out.on hb HV_d.out.lt)
      replace HA_d := Lib.hid ((HA_d.out.on hb).more hb.size)
      replace HA_e := Lib.hid ((HA_e.out.on hb).more hb.size)
      replace HR_q := Lib.hid ((HR_q.out.on hb).more hb.size)
      clear ST_w10
      clear hb
      obtain ⟨a6, c6, rfl⟩ := own_sl_i hfo
      have HA_f := Lib.hid (IntsAt.of_own hown hin)
      have HA_g := Lib.hid (IntsAt.of_own hfo hfi)
      clear hown hin hfo hfi
      obtain ⟨bf, hbf⟩ : ∃ b, w11.heap.size = b := ⟨_, rfl⟩
      have hb := (Below.refl w11.heap.size w11).alloc (Nat.le_refl _) (.cells #[.int .i64 Wf, .slice (some ⟨gf, 0, none⟩) Mf cf] 26)
      have ST_w12 := Lib.hid (ST_w11.out.go hb)
      replace HV_d := Lib.hid (HV_d.out.on hb HV_d.out.lt)
      replace HA_d := Lib.hid ((HA_d.out.on hb).more hb.size)
      replace HA_e := Lib.hid ((HA_e.out.on hb).more hb.size)
      replace HA_f := Lib.hid ((HA_f.out.on hb).more hb.size)
      replace HA_g := Lib.hid ((HA_g.out.on hb).more hb.size)
      replace HR_q := Lib.hid ((HR_q.out.on hb).more hb.size)
      clear ST_w11
      clear hb
      have HV_f := Lib.hid (RgAt.new (w := w11) Wf (.slice (some ⟨gf, 0, none⟩) Mf cf) hbf)
      go_wp2_with fail
      generalize (w11.alloc (.cells #[.int .i64 Wf, .slice (some ⟨gf, 0, none⟩) Mf cf] 26)) = w12 at *
      clear hbf
      obtain ⟨ti, hti⟩ : ∃ b, isTil Wd ld qs ds = b := ⟨_, rfl⟩
      obtain ⟨fn, hfn⟩ : ∃ z : List UInt8, fmtM Wf lf fs = z := ⟨_, rfl⟩
      have htt : (ti == ti) = true := by simp
      have hff : (fn == fn) = true := by simp
      have HK1 := Lib.hid (fun w9 (h9 : Below w12.heap.size w12 w9) => iIsTil w12.heap.size Md cd nq cq _ c5 _ _ a5 Wd ld qs ds w9 (by omega) (by omega) (by omega) (HA_d.out.on h9) (HR_q.out.on h9) (HA_e.out.on h9) h9.size (ST_w12.out.2.2.on h9 ST_w12.out.2.2.2))
      have HK2 := Lib.hid (fun w9 (h9 : Below w12.heap.size w12 w9) => sIsTil w12.heap.size Md cd nq cq _ c5 _ _ a5 Wd ld qs ds w9 (by omega) (by omega) (by omega) (HA_d.out.on h9) (HR_q.out.on h9) (HA_e.out.on h9) h9.size)
      have HK3 := Lib.hid (fun w9 (h9 : Below w12.heap.size w12 w9) => iFmtM w12.heap.size Mf cf _ c6 _ a6 Wf lf fs w9 (by omega) (by omega) (HA_f.out.on h9) (HA_g.out.on h9) h9.size)
      have HK4 := Lib.hid (fun w9 (h9 : Below w12.heap.size w12 w9) => sFmtM w12.heap.size Mf cf _ c6 _ a6 Wf lf fs w9 (by omega) (by omega) (HA_f.out.on h9) (HA_g.out.on h9) h9.size)
      rw [hti] at HK1 HK2
      rw [hfn] at HK3 HK4
      have HSC := Lib.hid (fun w' (h9 : Below w12.heap.size w12 w') => (show w'.cell? ⟨bd, 0, none⟩ = some (.int .i64 Wd) ∧ w'.cell? ⟨bd, 1, none⟩ = some (.slice (some ⟨gd, 0, none⟩) Md cd) ∧ w'.cell? ⟨bf, 0, none⟩ = some (.int .i64 Wf) ∧ w'.cell? ⟨bf, 1, none⟩ = some (.slice (some ⟨gf, 0, none⟩) Mf cf) from ⟨(HV_d.out.on h9 HV_d.out.lt).c0, (HV_d.out.on h9 HV_d.out.lt).c1, (HV_f.out.on h9 HV_f.out.lt).c0, (HV_f.out.on h9 HV_f.out.lt).c1⟩))
      clear hti hfn
      have k0 : Below w12.heap.size w12 w12.drew := (Below.refl _ w12).drew
      go_region_held3 (fun w' => w'.cell? ⟨bd, 0, none⟩ = some (.int .i64 Wd) ∧ w'.cell? ⟨bd, 1, none⟩ = some (.slice (some ⟨gd, 0, none⟩) Md cd) ∧ w'.cell? ⟨bf, 0, none⟩ = some (.int .i64 Wf) ∧ w'.cell? ⟨bf, 1, none⟩ = some (.slice (some ⟨gf, 0, none⟩) Mf cf))
        (first | exact HSC.out _ k0 | exact HSC.out _ k1 | exact HSC.out _ k2 | exact HSC.out _ k3 | exact HSC.out _ k4)
        (first
          | (go_at_call 19
             refine (HK1.out _ k0).mono ?_
             rintro e va ⟨rfl, hba⟩
             have k1 : Below w12.heap.size w12 va := Below.trans k0 (hba.mono (Below.size k0)))
          | (go_at_call 23
             refine (HK2.out _ k1).mono ?_
             rintro e vb ⟨rfl, hbb⟩
             have k2 : Below w12.heap.size w12 vb := Below.trans k1 (hbb.mono (Below.size k1)))
          | (go_at_call 24
             refine (HK3.out _ k2).mono ?_
             rintro e vc ⟨rfl, hbc⟩
             have k3 : Below w12.heap.size w12 vc := Below.trans k2 (hbc.mono (Below.size k2)))
          | (go_at_call 25
             refine (HK4.out _ k3).mono ?_
             rintro e vd ⟨rfl, hbd⟩
             have k4 : Below w12.heap.size w12 vd := Below.trans k3 (hbd.mono (Below.size k3))))
      have HEND := Lib.hid (ST_w12.out.1.trans (k4.mono ST_w12.out.1.size))
      clear k0 k1 k2 k3 k4 hba hbb hbc hbd HK1 HK2 HK3 HK4 HSC
      (try simp only [Exit.then])
      go_wp2
      go_ret
      exact ⟨rfl, HEND.out⟩
  | some t =>
    have hmm := cov_more HTO.out
    rw [HCC.out] at hmm
    have HIS := Lib.hid (cov_is HTO.out)
    have hte : ints t = zs := hzn
    rw [hte] at HIS
    have hst : (Option.isSome (some t : Option (List Nat))) = true := rfl
    rw [hst]
    obtain ⟨_, hxa, hxb, _⟩ := tilN_some HTO.out
    have hg3 : decide (c ≤ x) = false := by simp; omega
    by_cases hx0 : 0 < x
    · have HAP := Lib.hid (way_apart HTO.out hx0)
      rw [hte] at HAP
      have hg4 : decide (0 < x) = true := by simp; omega
      have hg4b : decide (x > 0) = true := by simp; omega
      have hxw : IntKind.i64.wrap (x - 1) = x - 1 := by rw [IntKind.wrap_i64]; omega
      have hxm : In64 (x - 1) := by unfold In64; omega
      clear hzn hte HTO
      go_wp2_with fail
      refine (lSameI w5.heap.size _ _ zs w5 (by omega) HR_1.out HR_2.out (Nat.le_refl _)).mono ?_
      rintro e w6 ⟨rfl, hb⟩
      have ST_w6 := Lib.hid (ST_w5.out.go hb)
      replace HV_r := Lib.hid (HV_r.out.on hb HV_r.out.lt)
      replace HA_r := Lib.hid ((HA_r.out.on hb).more hb.size)
      replace HA_m := Lib.hid ((HA_m.out.on hb).more hb.size)
      replace HR_p := Lib.hid ((HR_p.out.on hb).more hb.size)
      replace HR_1 := Lib.hid ((HR_1.out.on hb).more hb.size)
      replace HR_2 := Lib.hid ((HR_2.out.on hb).more hb.size)
      clear ST_w5
      clear hb
      clear HR_1
      have qr0 := HV_r.out.c0
      have qr1 := HV_r.out.c1
      go_wp2_with fail
      refine (sCntT w6.heap.size Mr cr np cp _ _ Wr lr ps w6 (by omega) (by omega) HA_r.out HR_p.out (Nat.le_refl _)).mono ?_
      rintro e w7 ⟨rfl, hb⟩
      rw [HCC.out]
      clear qr0 qr1
      have ST_w7 := Lib.hid (ST_w6.out.go hb)
      replace HV_r := Lib.hid (HV_r.out.on hb HV_r.out.lt)
      replace HA_r := Lib.hid ((HA_r.out.on hb).more hb.size)
      replace HA_m := Lib.hid ((HA_m.out.on hb).more hb.size)
      replace HR_p := Lib.hid ((HR_p.out.on hb).more hb.size)
      replace HR_2 := Lib.hid ((HR_2.out.on hb).more hb.size)
      clear ST_w6
      clear hb
      have qr0 := HV_r.out.c0
      have qr1 := HV_r.out.c1
      go_wp2_with fail
      refine (iIsTil w7.heap.size Mr cr np cp _ _ _ _ _ Wr lr ps zs w7 (by omega) (by omega) (by omega) HA_r.out HR_p.out HA_m.out (Nat.le_refl _) ST_w7.out.2.2).mono ?_
      rintro e w8 ⟨rfl, hb⟩
      rw [HIS.out]
      clear qr0 qr1
      have ST_w8 := Lib.hid (ST_w7.out.go hb)
      replace HV_r := Lib.hid (HV_r.out.on hb HV_r.out.lt)
      replace HA_r := Lib.hid ((HA_r.out.on hb).more hb.size)
      replace HA_m := Lib.hid ((HA_m.out.on hb).more hb.size)
      replace HR_p := Lib.hid ((HR_p.out.on hb).more hb.size)
      replace HR_2 := Lib.hid ((HR_2.out.on hb).more hb.size)
      clear ST_w7
      clear hb
      have qr0 := HV_r.out.c0
      have qr1 := HV_r.out.c1
      go_wp2_with fail
      refine (iHasT w8.heap.size Mr cr np cp _ _ Wr lr ps w8 (by omega) (by omega) HA_r.out HR_p.out (Nat.le_refl _) ST_w8.out.2.2).mono ?_
      rintro e w9 ⟨rfl, hb⟩
      rw [← HHAS.out]
      clear qr0 qr1
      have ST_w9 := Lib.hid (ST_w8.out.go hb)
      replace HV_r := Lib.hid (HV_r.out.on hb HV_r.out.lt)
      replace HA_r := Lib.hid ((HA_r.out.on hb).more hb.size)
      replace HA_m := Lib.hid ((HA_m.out.on hb).more hb.size)
      replace HR_p := Lib.hid ((HR_p.out.on hb).more hb.size)
      replace HR_2 := Lib.hid ((HR_2.out.on hb).more hb.size)
      clear ST_w8
      clear hb
      have qr0 := HV_r.out.c0
      have qr1 := HV_r.out.c1
      go_wp2_with fail
      refine (iTilN w9.heap.size Mr cr np cp _ _ Wr lr ps (x - 1) w9 hxm (by omega) (by omega) HA_r.out HR_p.out (Nat.le_refl _) ST_w9.out.2.2).mono ?_
      rintro e w10 ⟨v3, rfl, ho, hb⟩
      obtain ⟨ys, hys⟩ : ∃ z, wayI (tilN Wr lr ps (x - 1)) = z := ⟨_, rfl⟩
      have hyl := way_len Wr lr ps (x - 1)
      rw [hys] at hyl ho HAP
      clear hys
      obtain ⟨a3, c3, rfl⟩ := own_sl_i ho
      clear qr0 qr1
      have ST_w10 := Lib.hid (ST_w9.out.go hb)
      replace HV_r := Lib.hid (HV_r.out.on hb HV_r.out.lt)
      replace HA_r := Lib.hid ((HA_r.out.on hb).more hb.size)
      replace HA_m := Lib.hid ((HA_m.out.on hb).more hb.size)
      replace HR_p := Lib.hid ((HR_p.out.on hb).more hb.size)
      replace HR_2 := Lib.hid ((HR_2.out.on hb).more hb.size)
      clear ST_w9
      clear hb
      have HR_3 := Lib.hid (IsRd.of_own2 ho)
      clear ho
      go_wp2_with fail
      refine (lSameD w10.heap.size _ _ ys zs w10 (by omega) (by omega) HR_3.out HR_2.out (Nat.le_refl _) HAP.out).mono ?_
      rintro e w11 ⟨rfl, hb⟩
      have ST_w11 := Lib.hid (ST_w10.out.go hb)
      replace HV_r := Lib.hid (HV_r.out.on hb HV_r.out.lt)
      replace HA_r := Lib.hid ((HA_r.out.on hb).more hb.size)
      replace HA_m := Lib.hid ((HA_m.out.on hb).more hb.size)
      replace HR_p := Lib.hid ((HR_p.out.on hb).more hb.size)
      replace HR_2 := Lib.hid ((HR_2.out.on hb).more hb.size)
      replace HR_3 := Lib.hid ((HR_3.out.on hb).more hb.size)
      clear ST_w10
      clear hb
      clear HV_r
      clear HA_r
      clear HR_p
      clear HR_2
      clear HR_3
      clear HA_m
      go_wp2_with fail
      refine (dIsT8 a0 len0 cap0 w11 ST_w11.out.2.1 hl0).mono ?_
      rintro e w12 ⟨Wd, Md, gd, cd, ld, gq, cq, ud, qs, dv, ds, rfl, hMd, hin, hrp, hqs3, ⟨hdi, hdl⟩, hdo, hb⟩
      have ST_w12 := Lib.hid (ST_w11.out.go hb)
      clear ST_w11
      clear hb
      obtain ⟨a5, c5, rfl⟩ := own_sl_i hdo
      have HA_d := Lib.hid (IntsAt.of_own hrp.row hin)
      have HR_q := Lib.hid hrp.psAt
      have HA_e := Lib.hid (IntsAt.of_own hdo hdi)
      clear hrp hin hdo hdi
      obtain ⟨nq, hnq⟩ : ∃ n, qs.length = n := ⟨_, rfl⟩
      rw [hnq] at HR_q hqs3 ⊢
      clear hnq
      obtain ⟨bd, hbd⟩ : ∃ b, w12.heap.size = b := ⟨_, rfl⟩
      have hb := (Below.refl w12.heap.size w12).alloc (Nat.le_refl _) (.cells #[.int .i64 Wd, .slice (some ⟨gd, 0, none⟩) Md cd] 26)
      have ST_w13 := Lib.hid (ST_w12.out.go hb)
      replace HA_d := Lib.hid ((HA_d.out.on hb).more hb.size)
      replace HA_e := Lib.hid ((HA_e.out.on hb).more hb.size)
      replace HR_q := Lib.hid ((HR_q.out.on hb).more hb.size)
      clear ST_w12
      clear hb
      have HV_d := Lib.hid (RgAt.new (w := w12) Wd (.slice (some ⟨gd, 0, none⟩) Md cd) hbd)
      go_wp2_with fail
      generalize (w12.alloc (.cells #[.int .i64 Wd, .slice (some ⟨gd, 0, none⟩) Md cd] 26)) = w13 at *
      clear hbd
      refine (dFmT8 a0 len0 cap0 w13 ST_w13.out.2.1 hl0).mono ?_
      rintro e w14 ⟨Wf, Mf, gf, cf, lf, fv, fs, rfl, hMf, hin, hown, ⟨hfi, hfl⟩, hfo, hb⟩
      have ST_w14 := Lib.hid (ST_w13.out.go hb)
      replace HV_d := Lib.hid (HV_d.out.on hb HV_d.out.lt)
      replace HA_d := Lib.hid ((HA_d.out.on hb).more hb.size)
      replace HA_e := Lib.hid ((HA_e.out.on hb).more hb.size)
      replace HR_q := Lib.hid ((HR_q.out.on hb).more hb.size)
      clear ST_w13
      clear hb
      obtain ⟨a6, c6, rfl⟩ := own_sl_i hfo
      have HA_f := Lib.hid (IntsAt.of_own hown hin)
      have HA_g := Lib.hid (IntsAt.of_own hfo hfi)
      clear hown hin hfo hfi
      obtain ⟨bf, hbf⟩ : ∃ b, w14.heap.size = b := ⟨_, rfl⟩
      have hb := (Below.refl w14.heap.size w14).alloc (Nat.le_refl _) (.cells #[.int .i64 Wf, .slice (some ⟨gf, 0, none⟩) Mf cf] 26)
      have ST_w15 := Lib.hid (ST_w14.out.go hb)
      replace HV_d := Lib.hid (HV_d.out.on hb HV_d.out.lt)
      replace HA_d := Lib.hid ((HA_d.out.on hb).more hb.size)
      replace HA_e := Lib.hid ((HA_e.out.on hb).more hb.size)
      replace HA_f := Lib.hid ((HA_f.out.on hb).more hb.size)
      replace HA_g := Lib.hid ((HA_g.out.on hb).more hb.size)
      replace HR_q := Lib.hid ((HR_q.out.on hb).more hb.size)
      clear ST_w14
      clear hb
      have HV_f := Lib.hid (RgAt.new (w := w14) Wf (.slice (some ⟨gf, 0, none⟩) Mf cf) hbf)
      go_wp2_with fail
      generalize (w14.alloc (.cells #[.int .i64 Wf, .slice (some ⟨gf, 0, none⟩) Mf cf] 26)) = w15 at *
      clear hbf
      obtain ⟨ti, hti⟩ : ∃ b, isTil Wd ld qs ds = b := ⟨_, rfl⟩
      obtain ⟨fn, hfn⟩ : ∃ z : List UInt8, fmtM Wf lf fs = z := ⟨_, rfl⟩
      have htt : (ti == ti) = true := by simp
      have hff : (fn == fn) = true := by simp
      have HK1 := Lib.hid (fun w9 (h9 : Below w15.heap.size w15 w9) => iIsTil w15.heap.size Md cd nq cq _ c5 _ _ a5 Wd ld qs ds w9 (by omega) (by omega) (by omega) (HA_d.out.on h9) (HR_q.out.on h9) (HA_e.out.on h9) h9.size (ST_w15.out.2.2.on h9 ST_w15.out.2.2.2))
      have HK2 := Lib.hid (fun w9 (h9 : Below w15.heap.size w15 w9) => sIsTil w15.heap.size Md cd nq cq _ c5 _ _ a5 Wd ld qs ds w9 (by omega) (by omega) (by omega) (HA_d.out.on h9) (HR_q.out.on h9) (HA_e.out.on h9) h9.size)
      have HK3 := Lib.hid (fun w9 (h9 : Below w15.heap.size w15 w9) => iFmtM w15.heap.size Mf cf _ c6 _ a6 Wf lf fs w9 (by omega) (by omega) (HA_f.out.on h9) (HA_g.out.on h9) h9.size)
      have HK4 := Lib.hid (fun w9 (h9 : Below w15.heap.size w15 w9) => sFmtM w15.heap.size Mf cf _ c6 _ a6 Wf lf fs w9 (by omega) (by omega) (HA_f.out.on h9) (HA_g.out.on h9) h9.size)
      rw [hti] at HK1 HK2
      rw [hfn] at HK3 HK4
      have HSC := Lib.hid (fun w' (h9 : Below w15.heap.size w15 w') => (show w'.cell? ⟨bd, 0, none⟩ = some (.int .i64 Wd) ∧ w'.cell? ⟨bd, 1, none⟩ = some (.slice (some ⟨gd, 0, none⟩) Md cd) ∧ w'.cell? ⟨bf, 0, none⟩ = some (.int .i64 Wf) ∧ w'.cell? ⟨bf, 1, none⟩ = some (.slice (some ⟨gf, 0, none⟩) Mf cf) from ⟨(HV_d.out.on h9 HV_d.out.lt).c0, (HV_d.out.on h9 HV_d.out.lt).c1, (HV_f.out.on h9 HV_f.out.lt).c0, (HV_f.out.on h9 HV_f.out.lt).c1⟩))
      clear hti hfn
      have k0 : Below w15.heap.size w15 w15.drew := (Below.refl _ w15).drew
      go_region_held3 (fun w' => w'.cell? ⟨bd, 0, none⟩ = some (.int .i64 Wd) ∧ w'.cell? ⟨bd, 1, none⟩ = some (.slice (some ⟨gd, 0, none⟩) Md cd) ∧ w'.cell? ⟨bf, 0, none⟩ = some (.int .i64 Wf) ∧ w'.cell? ⟨bf, 1, none⟩ = some (.slice (some ⟨gf, 0, none⟩) Mf cf))
        (first | exact HSC.out _ k0 | exact HSC.out _ k1 | exact HSC.out _ k2 | exact HSC.out _ k3 | exact HSC.out _ k4)
        (first
          | (go_at_call 19
             refine (HK1.out _ k0).mono ?_
             rintro e va ⟨rfl, hba⟩
             have k1 : Below w15.heap.size w15 va := Below.trans k0 (hba.mono (Below.size k0)))
          | (go_at_call 23
             refine (HK2.out _ k1).mono ?_
             rintro e vb ⟨rfl, hbb⟩
             have k2 : Below w15.heap.size w15 vb := Below.trans k1 (hbb.mono (Below.size k1)))
          | (go_at_call 24
             refine (HK3.out _ k2).mono ?_
             rintro e vc ⟨rfl, hbc⟩
             have k3 : Below w15.heap.size w15 vc := Below.trans k2 (hbc.mono (Below.size k2)))
          | (go_at_call 25
             refine (HK4.out _ k3).mono ?_
             rintro e vd ⟨rfl, hbd⟩
             have k4 : Below w15.heap.size w15 vd := Below.trans k3 (hbd.mono (Below.size k3))))
      have HEND := Lib.hid (ST_w15.out.1.trans (k4.mono ST_w15.out.1.size))
      clear k0 k1 k2 k3 k4 hba hbb hbc hbd HK1 HK2 HK3 HK4 HSC
      (try simp only [Exit.then])
      go_wp2
      go_ret
      exact ⟨rfl, HEND.out⟩
    · have hg4 : decide (0 < x) = false := by simp; omega
      have hg4b : decide (x > 0) = false := by simp; omega
      clear hzn hte HTO
      go_wp2_with fail
      refine (lSameI w5.heap.size _ _ zs w5 (by omega) HR_1.out HR_2.out (Nat.le_refl _)).mono ?_
      rintro e w6 ⟨rfl, hb⟩
      have ST_w6 := Lib.hid (ST_w5.out.go hb)
      replace HV_r := Lib.hid (HV_r.out.on hb HV_r.out.lt)
      replace HA_r := Lib.hid ((HA_r.out.on hb).more hb.size)
      replace HA_m := Lib.hid ((HA_m.out.on hb).more hb.size)
      replace HR_p := Lib.hid ((HR_p.out.on hb).more hb.size)
      replace HR_1 := Lib.hid ((HR_1.out.on hb).more hb.size)
      replace HR_2 := Lib.hid ((HR_2.out.on hb).more hb.size)
      clear ST_w5
      clear hb
      clear HR_1
      have qr0 := HV_r.out.c0
      have qr1 := HV_r.out.c1
      go_wp2_with fail
      refine (sCntT w6.heap.size Mr cr np cp _ _ Wr lr ps w6 (by omega) (by omega) HA_r.out HR_p.out (Nat.le_refl _)).mono ?_
      rintro e w7 ⟨rfl, hb⟩
      rw [HCC.out]
      clear qr0 qr1
      have ST_w7 := Lib.hid (ST_w6.out.go hb)
      replace HV_r := Lib.hid (HV_r.out.on hb HV_r.out.lt)
      replace HA_r := Lib.hid ((HA_r.out.on hb).more hb.size)
      replace HA_m := Lib.hid ((HA_m.out.on hb).more hb.size)
      replace HR_p := Lib.hid ((HR_p.out.on hb).more hb.size)
      replace HR_2 := Lib.hid ((HR_2.out.on hb).more hb.size)
      clear ST_w6
      clear hb
      have qr0 := HV_r.out.c0
      have qr1 := HV_r.out.c1
      go_wp2_with fail
      refine (iIsTil w7.heap.size Mr cr np cp _ _ _ _ _ Wr lr ps zs w7 (by omega) (by omega) (by omega) HA_r.out HR_p.out HA_m.out (Nat.le_refl _) ST_w7.out.2.2).mono ?_
      rintro e w8 ⟨rfl, hb⟩
      rw [HIS.out]
      clear qr0 qr1
      have ST_w8 := Lib.hid (ST_w7.out.go hb)
      replace HV_r := Lib.hid (HV_r.out.on hb HV_r.out.lt)
      replace HA_r := Lib.hid ((HA_r.out.on hb).more hb.size)
      replace HA_m := Lib.hid ((HA_m.out.on hb).more hb.size)
      replace HR_p := Lib.hid ((HR_p.out.on hb).more hb.size)
      replace HR_2 := Lib.hid ((HR_2.out.on hb).more hb.size)
      clear ST_w7
      clear hb
      have qr0 := HV_r.out.c0
      have qr1 := HV_r.out.c1
      go_wp2_with fail
      refine (iHasT w8.heap.size Mr cr np cp _ _ Wr lr ps w8 (by omega) (by omega) HA_r.out HR_p.out (Nat.le_refl _) ST_w8.out.2.2).mono ?_
      rintro e w9 ⟨rfl, hb⟩
      rw [← HHAS.out]
      clear qr0 qr1
      have ST_w9 := Lib.hid (ST_w8.out.go hb)
      replace HV_r := Lib.hid (HV_r.out.on hb HV_r.out.lt)
      replace HA_r := Lib.hid ((HA_r.out.on hb).more hb.size)
      replace HA_m := Lib.hid ((HA_m.out.on hb).more hb.size)
      replace HR_p := Lib.hid ((HR_p.out.on hb).more hb.size)
      replace HR_2 := Lib.hid ((HR_2.out.on hb).more hb.size)
      clear ST_w8
      clear hb
      clear HV_r
      clear HA_r
      clear HR_p
      clear HR_2
      clear HA_m
      go_wp2_with fail
      refine (dIsT8 a0 len0 cap0 w9 ST_w9.out.2.1 hl0).mono ?_
      rintro e w10 ⟨Wd, Md, gd, cd, ld, gq, cq, ud, qs, dv, ds, rfl, hMd, hin, hrp, hqs3, ⟨hdi, hdl⟩, hdo, hb⟩
      have ST_w10 := Lib.hid (ST_w9.out.go hb)
      clear ST_w9
      clear hb
      obtain ⟨a5, c5, rfl⟩ := own_sl_i hdo
      have HA_d := Lib.hid (IntsAt.of_own hrp.row hin)
      have HR_q := Lib.hid hrp.psAt
      have HA_e := Lib.hid (IntsAt.of_own hdo hdi)
      clear hrp hin hdo hdi
      obtain ⟨nq, hnq⟩ : ∃ n, qs.length = n := ⟨_, rfl⟩
      rw [hnq] at HR_q hqs3 ⊢
      clear hnq
      obtain ⟨bd, hbd⟩ : ∃ b, w10.heap.size = b := ⟨_, rfl⟩
      have hb := (Below.refl w10.heap.size w10).alloc (Nat.le_refl _) (.cells #[.int .i64 Wd, .slice (some ⟨gd, 0, none⟩) Md cd] 26)
      have ST_w11 := Lib.hid (ST_w10.out.go hb)
      replace HA_d := Lib.hid ((HA_d.out.on hb).more hb.size)
      replace HA_e := Lib.hid ((HA_e.out.on hb).more hb.size)
      replace HR_q := Lib.hid ((HR_q.out.on hb).more hb.size)
      clear ST_w10
      clear hb
      have HV_d := Lib.hid (RgAt.new (w := w10) Wd (.slice (some ⟨gd, 0, none⟩) Md cd) hbd)
      go_wp2_with fail
      generalize (w10.alloc (.cells #[.int .i64 Wd, .slice (some ⟨gd, 0, none⟩) Md cd] 26)) = w11 at *
      clear hbd
      refine (dFmT8 a0 len0 cap0 w11 ST_w11.out.2.1 hl0).mono ?_
      rintro e w12 ⟨Wf, Mf, gf, cf, lf, fv, fs, rfl, hMf, hin, hown, ⟨hfi, hfl⟩, hfo, hb⟩
      have ST_w12 := Lib.hid (ST_w11.out.go hb)
      replace HV_d := Lib.hid (HV_d.out.on hb HV_d.out.lt)
      replace HA_d := Lib.hid ((HA_d.out.on hb).more hb.size)
      replace HA_e := Lib.hid ((HA_e.out.on hb).more hb.size)
      replace HR_q := Lib.hid ((HR_q.out.on hb).more hb.size)
      clear ST_w11
      clear hb
      obtain ⟨a6, c6, rfl⟩ := own_sl_i hfo
      have HA_f := Lib.hid (IntsAt.of_own hown hin)
      have HA_g := Lib.hid (IntsAt.of_own hfo hfi)
      clear hown hin hfo hfi
      obtain ⟨bf, hbf⟩ : ∃ b, w12.heap.size = b := ⟨_, rfl⟩
      have hb := (Below.refl w12.heap.size w12).alloc (Nat.le_refl _) (.cells #[.int .i64 Wf, .slice (some ⟨gf, 0, none⟩) Mf cf] 26)
      have ST_w13 := Lib.hid (ST_w12.out.go hb)
      replace HV_d := Lib.hid (HV_d.out.on hb HV_d.out.lt)
      replace HA_d := Lib.hid ((HA_d.out.on hb).more hb.size)
      replace HA_e := Lib.hid ((HA_e.out.on hb).more hb.size)
      replace HA_f := Lib.hid ((HA_f.out.on hb).more hb.size)
      replace HA_g := Lib.hid ((HA_g.out.on hb).more hb.size)
      replace HR_q := Lib.hid ((HR_q.out.on hb).more hb.size)
      clear ST_w12
      clear hb
      have HV_f := Lib.hid (RgAt.new (w := w12) Wf (.slice (some ⟨gf, 0, none⟩) Mf cf) hbf)
      go_wp2_with fail
      generalize (w12.alloc (.cells #[.int .i64 Wf, .slice (some ⟨gf, 0, none⟩) Mf cf] 26)) = w13 at *
      clear hbf
      obtain ⟨ti, hti⟩ : ∃ b, isTil Wd ld qs ds = b := ⟨_, rfl⟩
      obtain ⟨fn, hfn⟩ : ∃ z : List UInt8, fmtM Wf lf fs = z := ⟨_, rfl⟩
      have htt : (ti == ti) = true := by simp
      have hff : (fn == fn) = true := by simp
      have HK1 := Lib.hid (fun w9 (h9 : Below w13.heap.size w13 w9) => iIsTil w13.heap.size Md cd nq cq _ c5 _ _ a5 Wd ld qs ds w9 (by omega) (by omega) (by omega) (HA_d.out.on h9) (HR_q.out.on h9) (HA_e.out.on h9) h9.size (ST_w13.out.2.2.on h9 ST_w13.out.2.2.2))
      have HK2 := Lib.hid (fun w9 (h9 : Below w13.heap.size w13 w9) => sIsTil w13.heap.size Md cd nq cq _ c5 _ _ a5 Wd ld qs ds w9 (by omega) (by omega) (by omega) (HA_d.out.on h9) (HR_q.out.on h9) (HA_e.out.on h9) h9.size)
      have HK3 := Lib.hid (fun w9 (h9 : Below w13.heap.size w13 w9) => iFmtM w13.heap.size Mf cf _ c6 _ a6 Wf lf fs w9 (by omega) (by omega) (HA_f.out.on h9) (HA_g.out.on h9) h9.size)
      have HK4 := Lib.hid (fun w9 (h9 : Below w13.heap.size w13 w9) => sFmtM w13.heap.size Mf cf _ c6 _ a6 Wf lf fs w9 (by omega) (by omega) (HA_f.out.on h9) (HA_g.out.on h9) h9.size)
      rw [hti] at HK1 HK2
      rw [hfn] at HK3 HK4
      have HSC := Lib.hid (fun w' (h9 : Below w13.heap.size w13 w') => (show w'.cell? ⟨bd, 0, none⟩ = some (.int .i64 Wd) ∧ w'.cell? ⟨bd, 1, none⟩ = some (.slice (some ⟨gd, 0, none⟩) Md cd) ∧ w'.cell? ⟨bf, 0, none⟩ = some (.int .i64 Wf) ∧ w'.cell? ⟨bf, 1, none⟩ = some (.slice (some ⟨gf, 0, none⟩) Mf cf) from ⟨(HV_d.out.on h9 HV_d.out.lt).c0, (HV_d.out.on h9 HV_d.out.lt).c1, (HV_f.out.on h9 HV_f.out.lt).c0, (HV_f.out.on h9 HV_f.out.lt).c1⟩))
      clear hti hfn
      have k0 : Below w13.heap.size w13 w13.drew := (Below.refl _ w13).drew
      go_region_held3 (fun w' => w'.cell? ⟨bd, 0, none⟩ = some (.int .i64 Wd) ∧ w'.cell? ⟨bd, 1, none⟩ = some (.slice (some ⟨gd, 0, none⟩) Md cd) ∧ w'.cell? ⟨bf, 0, none⟩ = some (.int .i64 Wf) ∧ w'.cell? ⟨bf, 1, none⟩ = some (.slice (some ⟨gf, 0, none⟩) Mf cf))
        (first | exact HSC.out _ k0 | exact HSC.out _ k1 | exact HSC.out _ k2 | exact HSC.out _ k3 | exact HSC.out _ k4)
        (first
          | (go_at_call 19
             refine (HK1.out _ k0).mono ?_
             rintro e va ⟨rfl, hba⟩
             have k1 : Below w13.heap.size w13 va := Below.trans k0 (hba.mono (Below.size k0)))
          | (go_at_call 23
             refine (HK2.out _ k1).mono ?_
             rintro e vb ⟨rfl, hbb⟩
             have k2 : Below w13.heap.size w13 vb := Below.trans k1 (hbb.mono (Below.size k1)))
          | (go_at_call 24
             refine (HK3.out _ k2).mono ?_
             rintro e vc ⟨rfl, hbc⟩
             have k3 : Below w13.heap.size w13 vc := Below.trans k2 (hbc.mono (Below.size k2)))
          | (go_at_call 25
             refine (HK4.out _ k3).mono ?_
             rintro e vd ⟨rfl, hbd⟩
             have k4 : Below w13.heap.size w13 vd := Below.trans k3 (hbd.mono (Below.size k3))))
      have HEND := Lib.hid (ST_w13.out.1.trans (k4.mono ST_w13.out.1.size))
      clear k0 k1 k2 k3 k4 hba hbb hbc hbd HK1 HK2 HK3 HK4 HSC
      (try simp only [Exit.then])
      go_wp2
      go_ret
      exact ⟨rfl, HEND.out⟩

end Go.Proofs.YtkjlmgkjcmebbaaGreatDoor
