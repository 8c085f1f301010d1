/-
  The law on placements (FnPlaces): its walk (written by tools/lawplaces.py), out of the contracts of the functions that it calls.
-/
import Derived.Test.YtailmmamgnebhaaGreatDoorLawPlp
namespace Go.Proofs.YtailmmamgnebhaaGreatDoor
open Go.RowKit

set_option maxHeartbeats 16000000 in
set_option maxRecDepth 100000 in
theorem law_Places (a0 : Option Addr) (len0 cap0 : Nat) (z0 : List Int) (w : World) (w0 : IsRow .u8 w a0 len0 cap0 z0) (hT : Tz w) :
    Calls Tryz.prog 3 #[.slice a0 len0 cap0] w fun e w' => e = .returned (.bool true) ∧ Below w.heap.size w w' := by
  have HC := Lib.hid (code_of_row w0)
  by_cases hs : (1048576 : Int) < len0
  · go_enter Tryz.func3, Tryz.ntmps3
    go_wp2_with (first | (go_at_call 10; go_in))
    go_ret
    exact ⟨rfl, Below.refl _ _⟩
  go_enter Tryz.func3, Tryz.ntmps3
  go_wp2_with (first | (go_at_call 10; go_in))
  have hl0 : len0 ≤ 1048576 := by omega
  clear hs
  have ST_w := Lib.hid (show St7 w w a0 len0 cap0 from ⟨Below.refl _ _, HC.out, hT⟩)
  clear HC w0 hT
  go_wp2_with fail
  refine (dPlOf a0 len0 cap0 w ST_w.out.2.1 hl0).mono ?_
  rintro e w1 ⟨Wr, Mr, gr, cr, lr, ads, gks, ofs, ns, cps, ss, rfl, hMr, hin, hown, ⟨hcam, hgk⟩, hinc, hns, hle, hb⟩
  have ST_w1 := Lib.hid (ST_w.out.go hb)
  clear ST_w
  clear hb
  have HA_r := Lib.hid (IntsAt.of_own hown hin)
  have HC_s := Lib.hid (CellsAt.of_came hcam hinc)
  clear hown hin hcam hgk hinc
  obtain ⟨br, hbr⟩ : ∃ b, w1.heap.size = b := ⟨_, rfl⟩
  have hb := (Below.refl w1.heap.size w1).alloc (Nat.le_refl _) (.cells #[.int .i64 Wr, .slice (some ⟨gr, 0, none⟩) Mr cr] 26)
  have ST_w2 := Lib.hid (ST_w1.out.go hb)
  replace HA_r := Lib.hid ((HA_r.out.on hb).more hb.size)
  replace HC_s := Lib.hid (at_go HC_s.out hb)
  clear ST_w1
  clear hb
  have HV_r := Lib.hid (RgAt.new (w := w1) Wr (.slice (some ⟨gr, 0, none⟩) Mr cr) hbr)
  have qr0 := HV_r.out.c0
  have qr1 := HV_r.out.c1
  go_wp2_with fail
  generalize (w1.alloc (.cells #[.int .i64 Wr, .slice (some ⟨gr, 0, none⟩) Mr cr] 26)) = w2 at *
  clear hbr
  obtain ⟨zs, hzs⟩ : ∃ z, plR Wr lr ss = z := ⟨_, rfl⟩
  have hzl := plR_len Wr lr ss
  have HZB := Lib.hid (plR_bd Wr lr ss)
  have HPL := Lib.hid (fun i (hi : i < (plR Wr lr ss).length) => place_at hi)
  have HAS := Lib.hid (fun i (h0 : 0 < i) (hi : i < (plR Wr lr ss).length) => place_asc h0 hi)
  rw [hzs] at hzl HZB HPL HAS
  have HZ := Lib.hid hzs
  clear hzs
  have HZI := Lib.hid (show ∀ z ∈ zs, In64 z from fun z hz => by have := HZB.out z hz; unfold In64; omega)
  refine (iPl w2.heap.size Mr cr ns cps _ _ Wr lr ss w2 (by omega) (by omega) HA_r.out HC_s.out (Nat.le_refl _)).mono ?_
  rintro e w3 ⟨v1, rfl, ho, hb⟩
  rw [HZ.out] at ho
  obtain ⟨a1, c1, rfl⟩ := own_sl_i ho
  clear qr0 qr1
  have ST_w3 := Lib.hid (ST_w2.out.go hb)
  replace HV_r := Lib.hid (HV_r.out.on hb HV_r.out.lt)
  replace HA_r := Lib.hid ((HA_r.out.on hb).more hb.size)
  replace HC_s := Lib.hid (at_go HC_s.out hb)
  clear ST_w2
  clear hb
  have HR_1 := Lib.hid (IsRd.of_own2 ho)
  clear ho
  have qr0 := HV_r.out.c0
  have qr1 := HV_r.out.c1
  go_wp2_with fail
  refine (sPl w3.heap.size Mr cr ns cps _ _ Wr lr ss w3 (by omega) (by omega) HA_r.out HC_s.out (Nat.le_refl _)).mono ?_
  rintro e w4 ⟨v2, rfl, ho, hb⟩
  rw [HZ.out] at ho
  obtain ⟨a2, c2, rfl⟩ := own_sl_i ho
  clear qr0 qr1
  have ST_w4 := Lib.hid (ST_w3.out.go hb)
  replace HV_r := Lib.hid (HV_r.out.on hb HV_r.out.lt)
  replace HA_r := Lib.hid ((HA_r.out.on hb).more hb.size)
  replace HR_1 := Lib.hid ((HR_1.out.on hb).more hb.size)
  replace HC_s := Lib.hid (at_go HC_s.out hb)
  clear ST_w3
  clear hb
  have HR_2 := Lib.hid (IsRd.of_own2 ho)
  have HA_m := Lib.hid (IntsAt.of_own ho HZI.out)
  clear ho
  have qr0 := HV_r.out.c0
  have qr1 := HV_r.out.c1
  go_wp2_with fail
  obtain ⟨MM, hMM⟩ : ∃ M : Nat, maskR Wr lr = M := ⟨_, rfl⟩
  have HK1 := Lib.hid (fun w9 (h9 : Below w4.heap.size w4 w9) => lSameI w4.heap.size _ _ zs w9 (by omega) (HR_1.out.on h9) (HR_2.out.on h9) h9.size)
  have HK2 := Lib.hid (fun w9 (h9 : Below w4.heap.size w4 w9) => iMask w4.heap.size Mr cr _ Wr lr w9 (by omega) (HA_r.out.on h9) h9.size)
  have HK3 := Lib.hid (fun w9 (h9 : Below w4.heap.size w4 w9) => sMask w4.heap.size Mr cr _ Wr lr w9 (by omega) (HA_r.out.on h9) h9.size)
  rw [hMM] at HK2 HK3
  have hmm9 : ((MM : Int) != (MM : Int)) = false := by simp
  have k0 : Below w4.heap.size w4 w4.drew := (Below.refl _ w4).drew
  have HSC := Lib.hid (fun w' (h9 : Below w4.heap.size w4 w') => (show w'.cell? ⟨br, 0, none⟩ = some (.int .i64 Wr) ∧ w'.cell? ⟨br, 1, none⟩ = some (.slice (some ⟨gr, 0, none⟩) Mr cr) from ⟨(HV_r.out.on h9 HV_r.out.lt).c0, (HV_r.out.on h9 HV_r.out.lt).c1⟩))
  clear hMM
  clear qr0 qr1
  go_region_held3 (fun w' => w'.cell? ⟨br, 0, none⟩ = some (.int .i64 Wr) ∧ w'.cell? ⟨br, 1, none⟩ = some (.slice (some ⟨gr, 0, none⟩) Mr cr))
    (first | exact HSC.out _ k0 | exact HSC.out _ k1 | exact HSC.out _ k2 | exact HSC.out _ k3)
    (first
      | (go_at_call 14
         refine (HK1.out _ k0).mono ?_
         rintro e va ⟨rfl, hba⟩
         have k1 : Below w4.heap.size w4 va := Below.trans k0 (hba.mono (Below.size k0)))
      | (go_at_call 15
         refine (HK2.out _ k1).mono ?_
         rintro e vb ⟨rfl, hbb⟩
         have k2 : Below w4.heap.size w4 vb := Below.trans k1 (hbb.mono (Below.size k1)))
      | (go_at_call 16
         refine (HK3.out _ k2).mono ?_
         rintro e vc ⟨rfl, hbc⟩
         have k3 : Below w4.heap.size w4 vc := Below.trans k2 (hbc.mono (Below.size k2))))
  have ST_vc := Lib.hid (ST_w4.out.go k3)
  replace HV_r := Lib.hid (HV_r.out.on k3 HV_r.out.lt)
  replace HA_r := Lib.hid ((HA_r.out.on k3).more k3.size)
  replace HA_m := Lib.hid ((HA_m.out.on k3).more k3.size)
  replace HR_1 := Lib.hid ((HR_1.out.on k3).more k3.size)
  replace HR_2 := Lib.hid ((HR_2.out.on k3).more k3.size)
  replace HC_s := Lib.hid (at_go HC_s.out k3)
  clear ST_w4
  clear k0 k1 k2 k3 hba hbb hbc HK1 HK2 HK3 HSC hmm9
  (try simp only [Exit.then])
  clear HR_1
  clear HR_2
  go_wp2_with fail
  go_loopw [7] (fun i wr => ∃ j : Nat, j ≤ zs.length ∧ i = .int .i64 j ∧ Below vc.heap.size vc wr) (fun i _ => zs.length - (intOf i).toNat)
  case atStart => exact ⟨0, by omega, rfl, Below.refl _ _⟩
  case round =>
    obtain ⟨j, hj, rfl, hbl⟩ := hrel
    have hszl := hbl.size
    have hrr := HV_r.out.on hbl HV_r.out.lt
    by_cases hlt : j < zs.length
    · have hj1 : (j : Int) < (zs.length : Int) := by omega
      have hj00 : (0 : Int) ≤ (j : Int) := by omega
      have HTr := Lib.hid (ST_vc.out.2.2.on hbl ST_vc.out.2.2.2)
      have HAr := Lib.hid ((HA_r.out.on hbl).more hbl.size)
      have HCs := Lib.hid (at_go HC_s.out hbl)
      obtain ⟨bm, om, rfl, hbm, hcm⟩ := HA_m.out.2.2 (by omega)
      have pm := fun i (hi : i < zs.length) => (hbl.cell (p := ⟨bm, om + i, none⟩) hbm).trans (hcm i hi)
      have p1 := pm j hlt
      obtain ⟨f1, f2, f3, f4, f5, f6⟩ := HPL.out j hlt
      obtain ⟨z, hz⟩ : ∃ z, zs.getD j 0 = z := ⟨_, rfl⟩
      have hzb := HZB.out _ (show zs.getD j 0 ∈ zs by simp [List.getD, hlt])
      rw [hz] at p1 f1 f2 f3 f4 f5 f6 hzb
      have HIND := Lib.hid (cellsM_inC Wr lr z)
      have hdl := cellsM_len Wr lr z
      obtain ⟨ds, hds⟩ : ∃ d, cellsM Wr lr z = d := ⟨_, rfl⟩
      rw [hds] at f1 f2 f3 f4 f6 hdl HIND
      obtain ⟨dx, dy, hdd⟩ : ∃ dx dy, ds.getD 0 (0, 0) = (dx, dy) := ⟨_, _, rfl⟩
      rw [hdd] at f6
      have HF1 := Lib.hid f1
      have HF2 := Lib.hid f2
      have HF3 := Lib.hid f3
      have HF5 := Lib.hid f5
      have HF6 := Lib.hid f6
      have HDD := Lib.hid hdd
      have HKC := Lib.hid (fun w9 (h9 : Below wr.heap.size wr w9) => iCellsM wr.heap.size Mr cr _ Wr lr z w9 (by omega) (by omega) (by omega) (HAr.out.on h9) h9.size (HTr.out.on h9 HTr.out.2))
      rw [hds] at HKC
      clear f1 f2 f3 f5 f6 hdd hds
      have HVr := Lib.hid hrr
      have hmlt : bm < wr.heap.size := Nat.lt_of_lt_of_le hbm hszl
      have HSC := Lib.hid (fun w' (h9 : Below wr.heap.size wr w') => (show (w'.cell? ⟨br, 0, none⟩ = some (.int .i64 Wr) ∧ w'.cell? ⟨br, 1, none⟩ = some (.slice (some ⟨gr, 0, none⟩) Mr cr)) ∧ w'.cell? ⟨bm, om + j, none⟩ = some (.int .i64 z) from ⟨⟨(HVr.out.on h9 HVr.out.lt).c0, (HVr.out.on h9 HVr.out.lt).c1⟩, (h9.cell (p := ⟨bm, om + j, none⟩) hmlt).trans p1⟩))
      have k0 : Below wr.heap.size wr wr.drew := (Below.refl _ wr).drew
      have HPM := Lib.hid pm
      clear hcm hrr p1 pm
      go_wp2_with fail
      go_region_held3 (fun w' => w'.cell? ⟨br, 0, none⟩ = some (.int .i64 Wr) ∧ w'.cell? ⟨br, 1, none⟩ = some (.slice (some ⟨gr, 0, none⟩) Mr cr) ∧ w'.cell? ⟨bm, om + j, none⟩ = some (.int .i64 z))
        (first | exact ⟨(HSC.out _ k0).1.1, (HSC.out _ k0).1.2, (HSC.out _ k0).2⟩ | exact ⟨(HSC.out _ k1).1.1, (HSC.out _ k1).1.2, (HSC.out _ k1).2⟩)
        (first
          | (go_at_call 17
             refine (HKC.out _ k0).mono ?_
             rintro e va ⟨v8, rfl, ho8, hba⟩
             have k1 : Below wr.heap.size wr va := Below.trans k0 (hba.mono (Below.size k0))
             obtain ⟨a8, c8, rfl⟩ := own_sliceB ho8))
      have HC8 := Lib.hid (CellsAt.of_own ho8 HIND.out)
      have K1 := Lib.hid k1
      have q0 := (HSC.out _ k1).1.1
      have q1 := (HSC.out _ k1).1.2
      clear ho8 hba k0 k1 HKC
      (try simp only [Exit.then])
      go_wp2_with fail
      refine (iMaskC va.heap.size Mr cr ds.length c8 _ _ Wr lr ds va (by omega) (by omega) ((HAr.out.on K1.out).more K1.out.size) HC8.out (Nat.le_refl _)).mono ?_
      rintro e vb ⟨rfl, hbb⟩
      rw [HF3.out, HF2.out]
      have K2 := Lib.hid (K1.out.trans (hbb.mono K1.out.size))
      have HC9 := Lib.hid (at_go HC8.out hbb)
      clear q0 q1 hbb HC8 K1
      have HKG := Lib.hid (fun w9 (h9 : Below vb.heap.size vb w9) => sCongr vb.heap.size ds.length ns c8 cps _ _ ds ss w9 (by omega) (by omega) (HC9.out.on h9) ((at_go HCs.out K2.out).on h9) h9.size)
      rw [HF1.out] at HKG
      have hzz : (z != z) = false := by simp
      by_cases hj0 : 0 < j
      · have has := HAS.out j hj0 hlt
        have pz := HPM.out (j - 1) (by omega)
        rw [hz] at has
        obtain ⟨z0, hz0⟩ : ∃ z0, zs.getD (j - 1) 0 = z0 := ⟨_, rfl⟩
        rw [hz0] at has pz
        have hle9 : decide (z ≤ z0) = false := by simp; omega
        have hle8 : ¬ z ≤ z0 := by omega
        obtain ⟨i, rfl⟩ : ∃ i, j = i + 1 := ⟨j - 1, by omega⟩
        have hii : i + 1 - 1 = i := by omega
        rw [hii] at pz
        have hgi : (0 : Int) < ((i + 1 : Nat) : Int) := by omega
        have hgi2 : (i : Int) < (zs.length : Int) := by omega
        have hgi3 : (0 : Int) ≤ (i : Int) := by omega
        have hgi5 : (i : Int) + 1 < (zs.length : Int) := by omega
        have hgi6 : (0 : Int) ≤ (i : Int) + 1 := by omega
        have hwi : IntKind.i64.wrap (i : Int) = (i : Int) := by rw [IntKind.wrap_i64]; omega
        have hgw : IntKind.i64.wrap (((i + 1 : Nat) : Int) - 1) = (i : Int) := by rw [IntKind.wrap_i64]; omega
        have HS13 := Lib.hid (fun w' (h9 : Below wr.heap.size wr w') => (show w'.cell? ⟨bm, om + (i + 1), none⟩ = some (.int .i64 z) ∧ w'.cell? ⟨bm, om + i, none⟩ = some (.int .i64 z0) from ⟨(HSC.out _ h9).2, (h9.cell (p := ⟨bm, om + i, none⟩) hmlt).trans pz⟩))
        go_wp2_with fail
        have k0 : Below vb.heap.size vb vb.drew := (Below.refl _ vb).drew
        go_region_held3 (fun w' => w'.cell? ⟨bm, om + (i + 1), none⟩ = some (.int .i64 z) ∧ w'.cell? ⟨bm, om + i, none⟩ = some (.int .i64 z0))
          (first | exact HS13.out _ (K2.out.trans (k0.mono K2.out.size)) | exact HS13.out _ (K2.out.trans (k1.mono K2.out.size)))
          (first
            | (go_at_call 19
               refine (HKG.out _ k0).mono ?_
               rintro e vd ⟨rfl, hbd⟩
               have k1 : Below vb.heap.size vb vd := Below.trans k0 (hbd.mono (Below.size k0))))
        have K3 := Lib.hid (K2.out.trans (k1.mono K2.out.size))
        have HC7 := Lib.hid (at_go HC9.out k1)
        clear HC9 k0 k1 hbd HKG HS13
        (try simp only [Exit.then])
        go_wp2_with fail
        have k0 : Below vd.heap.size vd vd.drew := (Below.refl _ vd).drew
        have HKF := Lib.hid (fun w9 (h9 : Below vd.heap.size vd w9) => iFirst vd.heap.size Mr cr _ Wr lr z w9 (by omega) (by omega) (by omega) (((HAr.out.on K3.out).more K3.out.size).on h9) h9.size ((HTr.out.on K3.out HTr.out.2).on h9 (Nat.lt_of_lt_of_le HTr.out.2 K3.out.size)))
        rw [HF6.out, HF5.out] at HKF
        go_region_held3 (fun w' => w'.cell? ⟨br, 0, none⟩ = some (.int .i64 Wr) ∧ w'.cell? ⟨br, 1, none⟩ = some (.slice (some ⟨gr, 0, none⟩) Mr cr) ∧ w'.cell? ⟨bm, om + (i + 1), none⟩ = some (.int .i64 z))
          (first | exact ⟨(HSC.out _ (K3.out.trans (k0.mono K3.out.size))).1.1, (HSC.out _ (K3.out.trans (k0.mono K3.out.size))).1.2, (HSC.out _ (K3.out.trans (k0.mono K3.out.size))).2⟩ | exact ⟨(HSC.out _ (K3.out.trans (k1.mono K3.out.size))).1.1, (HSC.out _ (K3.out.trans (k1.mono K3.out.size))).1.2, (HSC.out _ (K3.out.trans (k1.mono K3.out.size))).2⟩)
          (first
            | (go_at_call 20
               refine (HKF.out _ k0).mono ?_
               rintro e ve ⟨rfl, hbe⟩
               have k1 : Below vd.heap.size vd ve := Below.trans k0 (hbe.mono (Below.size k0))))
        have K4 := Lib.hid (K3.out.trans (k1.mono K3.out.size))
        obtain ⟨b8, o8, rfl, hb8, hc8⟩ := (at_go HC7.out k1).2.2 (by omega)
        have pd := hc8 0 (by omega)
        rw [HDD.out] at pd
        simp only [Nat.zero_mul, Nat.add_zero] at pd
        obtain ⟨pd1, pd2⟩ := pd
        have hxx : (dx != dx) = false := by simp
        have hyy : (dy != dy) = false := by simp
        have hd0 : (0 : Int) < (ds.length : Int) := by omega
        clear HC7 k0 k1 hbe HKF hc8 HSC
        (try simp only [Exit.then])
        go_wp2
        go_roundw
        case rel => exact ⟨(i + 1) + 1, by omega, by go_num, hbl.trans (K4.out.mono hbl.size)⟩
        case measure => simp [intOf]; omega
      · obtain rfl : j = 0 := by omega
        have HS13 := Lib.hid (fun w' (h9 : Below wr.heap.size wr w') => (show w'.cell? ⟨bm, om, none⟩ = some (.int .i64 z) from (HSC.out _ h9).2))
        have pz1 : vb.cell? ⟨bm, om, none⟩ = some (.int .i64 z) := (HSC.out _ K2.out).2
        have r0 := cell_regrown pz1
        have kI : ∀ d os, Calls Tryz.prog 19 #[.slice a8 ds.length c8, .slice (some ads) ns cps] (Go.Sort.grow (redrawn vb d) os) fun e w9 => e = .returned (.bool true) ∧ Below (Go.Sort.grow (redrawn vb d) os).heap.size (Go.Sort.grow (redrawn vb d) os) w9 := fun d os => HKG.out _ (below_regrown vb d os)
        clear pz1
        go_wp2_with fail
        refine wp_region_quiet_below (by kernel_rfl) (by kernel_rfl) ?_
        repeat (first | (go_big_quiet_step (first | (go_at_call 19; with_reducible refine Calls.regrown_of (kI _ _)))) | (quiet_step (first | (go_at_call 19; with_reducible refine Calls.regrown_of (kI _ _)))))
        refine wpQuiet_nil ?_
        intro _ hw9
        obtain ⟨⟨nq, osq⟩, hw8⟩ := hw9
        subst hw8
        have k1 := below_regrown vb nq osq
        have k0 := k1
        have hbd := k1
        clear kI r0
        generalize Go.Sort.grow (redrawn vb nq) osq = vd at *
        have K3 := Lib.hid (K2.out.trans (k1.mono K2.out.size))
        have HC7 := Lib.hid (at_go HC9.out k1)
        clear HC9 k0 k1 hbd HKG HS13
        (try simp only [Exit.then])
        go_wp2_with fail
        have k0 : Below vd.heap.size vd vd.drew := (Below.refl _ vd).drew
        have HKF := Lib.hid (fun w9 (h9 : Below vd.heap.size vd w9) => iFirst vd.heap.size Mr cr _ Wr lr z w9 (by omega) (by omega) (by omega) (((HAr.out.on K3.out).more K3.out.size).on h9) h9.size ((HTr.out.on K3.out HTr.out.2).on h9 (Nat.lt_of_lt_of_le HTr.out.2 K3.out.size)))
        rw [HF6.out, HF5.out] at HKF
        go_region_held3 (fun w' => w'.cell? ⟨br, 0, none⟩ = some (.int .i64 Wr) ∧ w'.cell? ⟨br, 1, none⟩ = some (.slice (some ⟨gr, 0, none⟩) Mr cr) ∧ w'.cell? ⟨bm, om, none⟩ = some (.int .i64 z))
          (first | exact ⟨(HSC.out _ (K3.out.trans (k0.mono K3.out.size))).1.1, (HSC.out _ (K3.out.trans (k0.mono K3.out.size))).1.2, (HSC.out _ (K3.out.trans (k0.mono K3.out.size))).2⟩ | exact ⟨(HSC.out _ (K3.out.trans (k1.mono K3.out.size))).1.1, (HSC.out _ (K3.out.trans (k1.mono K3.out.size))).1.2, (HSC.out _ (K3.out.trans (k1.mono K3.out.size))).2⟩)
          (first
            | (go_at_call 20
               refine (HKF.out _ k0).mono ?_
               rintro e ve ⟨rfl, hbe⟩
               have k1 : Below vd.heap.size vd ve := Below.trans k0 (hbe.mono (Below.size k0))))
        have K4 := Lib.hid (K3.out.trans (k1.mono K3.out.size))
        obtain ⟨b8, o8, rfl, hb8, hc8⟩ := (at_go HC7.out k1).2.2 (by omega)
        have pd := hc8 0 (by omega)
        rw [HDD.out] at pd
        simp only [Nat.zero_mul, Nat.add_zero] at pd
        obtain ⟨pd1, pd2⟩ := pd
        have hxx : (dx != dx) = false := by simp
        have hyy : (dy != dy) = false := by simp
        have hd0 : (0 : Int) < (ds.length : Int) := by omega
        clear HC7 k0 k1 hbe HKF hc8 HSC
        (try simp only [Exit.then])
        go_wp2
        go_roundw
        case rel => exact ⟨0 + 1, by omega, by go_num, hbl.trans (K4.out.mono hbl.size)⟩
        case measure => simp [intOf]; omega
    · obtain rfl : j = zs.length := by omega
      have ST_wr := Lib.hid (ST_vc.out.go hbl)
      clear HA_r HA_m HC_s HV_r hrr hbl hszl hlt hj HPL HAS HZB HZI HZ ST_vc
      go_wp2_with fail
      refine (dPlAt a0 len0 cap0 wr ST_wr.out.2.1 hl0).mono ?_
      rintro e w1 ⟨Wa, Ma, ga, ca, la, ada, gka, ofa, na, cpa, sa, xa, ya, rfl, hMa, hin, hown, ⟨hcam, hgk⟩, hinc, hna, hlea, hxa, hya, hb⟩
      have ST_w1 := Lib.hid (ST_wr.out.go hb)
      clear ST_wr
      clear hb
      have HA_a := Lib.hid (IntsAt.of_own hown hin)
      have HC_a := Lib.hid (CellsAt.of_came hcam hinc)
      clear hown hin hcam hgk hinc
      obtain ⟨ba, hba⟩ : ∃ b, w1.heap.size = b := ⟨_, rfl⟩
      have hb := (Below.refl w1.heap.size w1).alloc (Nat.le_refl _) (.cells #[.int .i64 Wa, .slice (some ⟨ga, 0, none⟩) Ma ca] 26)
      have ST_w2 := Lib.hid (ST_w1.out.go hb)
      replace HA_a := Lib.hid ((HA_a.out.on hb).more hb.size)
      replace HC_a := Lib.hid (at_go HC_a.out hb)
      clear ST_w1
      clear hb
      have HV_a := Lib.hid (RgAt.new (w := w1) Wa (.slice (some ⟨ga, 0, none⟩) Ma ca) hba)
      go_wp2_with fail
      generalize (w1.alloc (.cells #[.int .i64 Wa, .slice (some ⟨ga, 0, none⟩) Ma ca] 26)) = w2 at *
      clear hba
      refine (dCmOf a0 len0 cap0 w2 ST_w2.out.2.1 hl0).mono ?_
      rintro e w3 ⟨Wc, Mc, gc, cc, lc, xd, rfl, hMc, hin, hown, hxd, hb⟩
      have ST_w3 := Lib.hid (ST_w2.out.go hb)
      replace HV_a := Lib.hid (HV_a.out.on hb HV_a.out.lt)
      replace HA_a := Lib.hid ((HA_a.out.on hb).more hb.size)
      replace HC_a := Lib.hid (at_go HC_a.out hb)
      clear ST_w2
      clear hb
      have HA_c := Lib.hid (IntsAt.of_own hown hin)
      clear hown hin
      obtain ⟨bc, hbc⟩ : ∃ b, w3.heap.size = b := ⟨_, rfl⟩
      have hb := (Below.refl w3.heap.size w3).alloc (Nat.le_refl _) (.cells #[.int .i64 Wc, .slice (some ⟨gc, 0, none⟩) Mc cc] 26)
      have ST_w4 := Lib.hid (ST_w3.out.go hb)
      replace HV_a := Lib.hid (HV_a.out.on hb HV_a.out.lt)
      replace HA_a := Lib.hid ((HA_a.out.on hb).more hb.size)
      replace HA_c := Lib.hid ((HA_c.out.on hb).more hb.size)
      replace HC_a := Lib.hid (at_go HC_a.out hb)
      clear ST_w3
      clear hb
      have HV_c := Lib.hid (RgAt.new (w := w3) Wc (.slice (some ⟨gc, 0, none⟩) Mc cc) hbc)
      go_wp2_with fail
      generalize (w3.alloc (.cells #[.int .i64 Wc, .slice (some ⟨gc, 0, none⟩) Mc cc] 26)) = w4 at *
      clear hbc
      refine (dMkOf a0 len0 cap0 w4 ST_w4.out.2.1 hl0).mono ?_
      rintro e w5 ⟨We, Me, ge, ce, le, adf, gkf, off, nf, cpf, sf, rfl, hMe, hin, hown, ⟨hcam, hgk⟩, hinc, hnf, hlef, hb⟩
      have ST_w5 := Lib.hid (ST_w4.out.go hb)
      replace HV_a := Lib.hid (HV_a.out.on hb HV_a.out.lt)
      replace HV_c := Lib.hid (HV_c.out.on hb HV_c.out.lt)
      replace HA_a := Lib.hid ((HA_a.out.on hb).more hb.size)
      replace HA_c := Lib.hid ((HA_c.out.on hb).more hb.size)
      replace HC_a := Lib.hid (at_go HC_a.out hb)
      clear ST_w4
      clear hb
      have HA_e := Lib.hid (IntsAt.of_own hown hin)
      have HC_f := Lib.hid (CellsAt.of_came hcam hinc)
      clear hown hin hcam hgk hinc
      obtain ⟨be, hbe⟩ : ∃ b, w5.heap.size = b := ⟨_, rfl⟩
      have hb := (Below.refl w5.heap.size w5).alloc (Nat.le_refl _) (.cells #[.int .i64 We, .slice (some ⟨ge, 0, none⟩) Me ce] 26)
      have ST_w6 := Lib.hid (ST_w5.out.go hb)
      replace HV_a := Lib.hid (HV_a.out.on hb HV_a.out.lt)
      replace HV_c := Lib.hid (HV_c.out.on hb HV_c.out.lt)
      replace HA_a := Lib.hid ((HA_a.out.on hb).more hb.size)
      replace HA_c := Lib.hid ((HA_c.out.on hb).more hb.size)
      replace HA_e := Lib.hid ((HA_e.out.on hb).more hb.size)
      replace HC_a := Lib.hid (at_go HC_a.out hb)
      replace HC_f := Lib.hid (at_go HC_f.out hb)
      clear ST_w5
      clear hb
      have HV_e := Lib.hid (RgAt.new (w := w5) We (.slice (some ⟨ge, 0, none⟩) Me ce) hbe)
      have qe0 := HV_e.out.c0
      have qe1 := HV_e.out.c1
      go_wp2_with fail
      generalize (w5.alloc (.cells #[.int .i64 We, .slice (some ⟨ge, 0, none⟩) Me ce] 26)) = w6 at *
      clear hbe
      obtain ⟨mv, hmv⟩ : ∃ z, mcV We le sf = z := ⟨_, rfl⟩
      obtain ⟨mo, hmo⟩ : ∃ z, mcOk We le sf = z := ⟨_, rfl⟩
      have HMV := Lib.hid hmv
      have HMO := Lib.hid hmo
      clear hmv hmo
      refine (iMaskC w6.heap.size Me ce nf cpf _ _ We le sf w6 (by omega) (by omega) HA_e.out HC_f.out (Nat.le_refl _)).mono ?_
      rintro e w7 ⟨rfl, hb⟩
      rw [HMV.out, HMO.out]
      clear qe0 qe1
      have ST_w7 := Lib.hid (ST_w6.out.go hb)
      replace HV_a := Lib.hid (HV_a.out.on hb HV_a.out.lt)
      replace HV_c := Lib.hid (HV_c.out.on hb HV_c.out.lt)
      replace HV_e := Lib.hid (HV_e.out.on hb HV_e.out.lt)
      replace HA_a := Lib.hid ((HA_a.out.on hb).more hb.size)
      replace HA_c := Lib.hid ((HA_c.out.on hb).more hb.size)
      replace HA_e := Lib.hid ((HA_e.out.on hb).more hb.size)
      replace HC_a := Lib.hid (at_go HC_a.out hb)
      replace HC_f := Lib.hid (at_go HC_f.out hb)
      clear ST_w6
      clear hb
      have qe0 := HV_e.out.c0
      have qe1 := HV_e.out.c1
      go_wp2_with fail
      refine (sMaskC w7.heap.size Me ce nf cpf _ _ We le sf w7 (by omega) (by omega) HA_e.out HC_f.out (Nat.le_refl _)).mono ?_
      rintro e w8 ⟨rfl, hb⟩
      rw [HMV.out, HMO.out]
      clear qe0 qe1
      have ST_w8 := Lib.hid (ST_w7.out.go hb)
      replace HV_a := Lib.hid (HV_a.out.on hb HV_a.out.lt)
      replace HV_c := Lib.hid (HV_c.out.on hb HV_c.out.lt)
      replace HV_e := Lib.hid (HV_e.out.on hb HV_e.out.lt)
      replace HA_a := Lib.hid ((HA_a.out.on hb).more hb.size)
      replace HA_c := Lib.hid ((HA_c.out.on hb).more hb.size)
      replace HA_e := Lib.hid ((HA_e.out.on hb).more hb.size)
      replace HC_a := Lib.hid (at_go HC_a.out hb)
      replace HC_f := Lib.hid (at_go HC_f.out hb)
      clear ST_w7
      clear hb
      clear HV_e
      clear HA_e
      clear HC_f
      clear HMV HMO
      go_wp2_with fail
      refine (dAll7 a0 len0 cap0 w8 ST_w8.out.2.1 hl0).mono ?_
      rintro e w9 ⟨Wi, Mi, gi, ci, li, gp, cpp, pp, rfl, hMi, hin, hown, hps, hp3, hpl, hb⟩
      have ST_w9 := Lib.hid (ST_w8.out.go hb)
      replace HV_a := Lib.hid (HV_a.out.on hb HV_a.out.lt)
      replace HV_c := Lib.hid (HV_c.out.on hb HV_c.out.lt)
      replace HA_a := Lib.hid ((HA_a.out.on hb).more hb.size)
      replace HA_c := Lib.hid ((HA_c.out.on hb).more hb.size)
      replace HC_a := Lib.hid (at_go HC_a.out hb)
      clear ST_w8
      clear hb
      have HA_i := Lib.hid (IntsAt.of_own hown hin)
      have HR_p := Lib.hid hps
      clear hown hin hps hpl
      obtain ⟨np, hnp⟩ : ∃ n, pp.length = n := ⟨_, rfl⟩
      rw [hnp] at HR_p hp3 ⊢
      obtain ⟨bi, hbi⟩ : ∃ b, w9.heap.size = b := ⟨_, rfl⟩
      have hb := (Below.refl w9.heap.size w9).alloc (Nat.le_refl _) (.cells #[.int .i64 Wi, .slice (some ⟨gi, 0, none⟩) Mi ci] 26)
      have ST_w10 := Lib.hid (ST_w9.out.go hb)
      replace HV_a := Lib.hid (HV_a.out.on hb HV_a.out.lt)
      replace HV_c := Lib.hid (HV_c.out.on hb HV_c.out.lt)
      replace HA_a := Lib.hid ((HA_a.out.on hb).more hb.size)
      replace HA_c := Lib.hid ((HA_c.out.on hb).more hb.size)
      replace HA_i := Lib.hid ((HA_i.out.on hb).more hb.size)
      replace HR_p := Lib.hid ((HR_p.out.on hb).more hb.size)
      replace HC_a := Lib.hid (at_go HC_a.out hb)
      clear ST_w9
      clear hb
      have HV_i := Lib.hid (RgAt.new (w := w9) Wi (.slice (some ⟨gi, 0, none⟩) Mi ci) hbi)
      go_wp2_with fail
      generalize (w9.alloc (.cells #[.int .i64 Wi, .slice (some ⟨gi, 0, none⟩) Mi ci] 26)) = w10 at *
      clear hbi
      refine (dFcOf a0 len0 cap0 w10 ST_w10.out.2.1 hl0).mono ?_
      rintro e w11 ⟨Wj, Mj, gj, cj, lj, xj, rfl, hMj, hin, hown, hxj, hb⟩
      have ST_w11 := Lib.hid (ST_w10.out.go hb)
      replace HV_a := Lib.hid (HV_a.out.on hb HV_a.out.lt)
      replace HV_c := Lib.hid (HV_c.out.on hb HV_c.out.lt)
      replace HV_i := Lib.hid (HV_i.out.on hb HV_i.out.lt)
      replace HA_a := Lib.hid ((HA_a.out.on hb).more hb.size)
      replace HA_c := Lib.hid ((HA_c.out.on hb).more hb.size)
      replace HA_i := Lib.hid ((HA_i.out.on hb).more hb.size)
      replace HR_p := Lib.hid ((HR_p.out.on hb).more hb.size)
      replace HC_a := Lib.hid (at_go HC_a.out hb)
      clear ST_w10
      clear hb
      have HA_j := Lib.hid (IntsAt.of_own hown hin)
      clear hown hin
      obtain ⟨bj, hbj⟩ : ∃ b, w11.heap.size = b := ⟨_, rfl⟩
      have hb := (Below.refl w11.heap.size w11).alloc (Nat.le_refl _) (.cells #[.int .i64 Wj, .slice (some ⟨gj, 0, none⟩) Mj cj] 26)
      have ST_w12 := Lib.hid (ST_w11.out.go hb)
      replace HV_a := Lib.hid (HV_a.out.on hb HV_a.out.lt)
      replace HV_c := Lib.hid (HV_c.out.on hb HV_c.out.lt)
      replace HV_i := Lib.hid (HV_i.out.on hb HV_i.out.lt)
      replace HA_a := Lib.hid ((HA_a.out.on hb).more hb.size)
      replace HA_c := Lib.hid ((HA_c.out.on hb).more hb.size)
      replace HA_i := Lib.hid ((HA_i.out.on hb).more hb.size)
      replace HA_j := Lib.hid ((HA_j.out.on hb).more hb.size)
      replace HR_p := Lib.hid ((HR_p.out.on hb).more hb.size)
      replace HC_a := Lib.hid (at_go HC_a.out hb)
      clear ST_w11
      clear hb
      have HV_j := Lib.hid (RgAt.new (w := w11) Wj (.slice (some ⟨gj, 0, none⟩) Mj cj) hbj)
      have qj0 := HV_j.out.c0
      have qj1 := HV_j.out.c1
      go_wp2_with fail
      generalize (w11.alloc (.cells #[.int .i64 Wj, .slice (some ⟨gj, 0, none⟩) Mj cj] 26)) = w12 at *
      clear hbj
      obtain ⟨fx, hfx⟩ : ∃ z, (fcX Wj lj xj).1 = z := ⟨_, rfl⟩
      obtain ⟨fy, hfy⟩ : ∃ z, (fcX Wj lj xj).2 = z := ⟨_, rfl⟩
      obtain ⟨fb, hfb⟩ : ∃ z, fcB Wj lj xj = z := ⟨_, rfl⟩
      have HFX := Lib.hid hfx
      have HFY := Lib.hid hfy
      have HFB := Lib.hid hfb
      clear hfx hfy hfb
      refine (iFirst w12.heap.size Mj cj _ Wj lj xj w12 hxj.1 hxj.2 (by omega) HA_j.out (Nat.le_refl _) ST_w12.out.2.2).mono ?_
      rintro e w13 ⟨rfl, hb⟩
      rw [HFX.out, HFY.out, HFB.out]
      clear qj0 qj1
      have ST_w13 := Lib.hid (ST_w12.out.go hb)
      replace HV_a := Lib.hid (HV_a.out.on hb HV_a.out.lt)
      replace HV_c := Lib.hid (HV_c.out.on hb HV_c.out.lt)
      replace HV_i := Lib.hid (HV_i.out.on hb HV_i.out.lt)
      replace HV_j := Lib.hid (HV_j.out.on hb HV_j.out.lt)
      replace HA_a := Lib.hid ((HA_a.out.on hb).more hb.size)
      replace HA_c := Lib.hid ((HA_c.out.on hb).more hb.size)
      replace HA_i := Lib.hid ((HA_i.out.on hb).more hb.size)
      replace HA_j := Lib.hid ((HA_j.out.on hb).more hb.size)
      replace HR_p := Lib.hid ((HR_p.out.on hb).more hb.size)
      replace HC_a := Lib.hid (at_go HC_a.out hb)
      clear ST_w12
      clear hb
      have qj0 := HV_j.out.c0
      have qj1 := HV_j.out.c1
      go_wp2_with fail
      refine (sFirst w13.heap.size Mj cj _ Wj lj xj w13 hxj.1 hxj.2 (by omega) HA_j.out (Nat.le_refl _)).mono ?_
      rintro e w14 ⟨rfl, hb⟩
      rw [HFX.out, HFY.out, HFB.out]
      clear qj0 qj1
      have ST_w14 := Lib.hid (ST_w13.out.go hb)
      replace HV_a := Lib.hid (HV_a.out.on hb HV_a.out.lt)
      replace HV_c := Lib.hid (HV_c.out.on hb HV_c.out.lt)
      replace HV_i := Lib.hid (HV_i.out.on hb HV_i.out.lt)
      replace HV_j := Lib.hid (HV_j.out.on hb HV_j.out.lt)
      replace HA_a := Lib.hid ((HA_a.out.on hb).more hb.size)
      replace HA_c := Lib.hid ((HA_c.out.on hb).more hb.size)
      replace HA_i := Lib.hid ((HA_i.out.on hb).more hb.size)
      replace HA_j := Lib.hid ((HA_j.out.on hb).more hb.size)
      replace HR_p := Lib.hid ((HR_p.out.on hb).more hb.size)
      replace HC_a := Lib.hid (at_go HC_a.out hb)
      clear ST_w13
      clear hb
      clear HV_j
      clear HA_j
      clear HFX HFY HFB
      go_wp2_with fail
      refine reg27 HV_a HA_a HC_a HV_c HA_c HV_i HA_i HR_p (Lib.hid ST_w14.out.2.2) hMa hMc hMi hna hp3 (by unfold In64; omega) (by unfold In64; omega) hxd (fun _ _ _ _ _ h => h) ?_
      intro v191 v192 v193 v194 v195 v196 v197 v198 v199 v200 v201 v202 v203 v204 v205 v206 v207 v208 v209 v210 v211 v212 v213 v214 v215 v216 v217 v218 v219 v220 v221 v222 v223 v224 v225 v226 v227 v228 v229 v230 v231 v232 v233 v234 v235 v236 v237 v238 v239 v240 v241 v242 v243 v244 v245 v246 v247 v248 v249 v250 v251 wf hb
      have HEND := Lib.hid (ST_w14.out.1.trans (hb.mono ST_w14.out.1.size))
      clear hb
      (try simp only [Exit.then])
      go_wp2
      go_ret
      exact ⟨rfl, HEND.out⟩

end Go.Proofs.YtailmmamgnebhaaGreatDoor
