/-
  The law on all regions (FnRegions): its walk (written by tools/lawregions.py), out of the contracts of the functions that it calls.
-/
import Derived.Test.YtcfioncnpfoccaaGreatDoorLawRgp
namespace Go.Proofs.YtcfioncnpfoccaaGreatDoor
open Go.RowKit

set_option maxHeartbeats 16000000 in
set_option maxRecDepth 100000 in
theorem law_Regions (a0 : Option Addr) (len0 cap0 : Nat) (z0 : List Int) (w : World) (w0 : IsRow .u8 w a0 len0 cap0 z0) (hM : Mx w) :
    Calls Tryz.prog 3 #[.slice a0 len0 cap0] w fun e w' => e = .returned (.bool true) ∧ Below w.heap.size w w' := by
  have HC := Lib.hid (code_of_row w0)
  have HMX := Lib.hid hM
  clear w0 hM
  by_cases hs : (1048576 : Int) < len0
  · go_enter Tryz.func3, Tryz.ntmps3
    go_wp2_with (first | (go_at_call 4; go_in))
    go_ret
    exact ⟨rfl, Below.refl _ _⟩
  go_enter Tryz.func3, Tryz.ntmps3
  go_wp2_with (first | (go_at_call 4; go_in))
  have hl0 : len0 ≤ 1048576 := by omega
  clear hs
  have ST_w := Lib.hid (show St w w a0 len0 cap0 from ⟨Below.refl _ _, HC.out, HMX.out⟩)
  clear HC HMX
  go_wp2_with fail
  refine (dFmtR a0 len0 cap0 w ST_w.out.2.1 hl0).mono ?_
  rintro e w1 ⟨Wr, Mr, gr, cr, lr, rfl, hMr, hin, hown, hb⟩
  have ST_w1 := Lib.hid (ST_w.out.go hb)
  clear ST_w
  clear hb
  have HA_r := Lib.hid (IntsAt.of_own hown hin)
  have HI_r := Lib.hid hin
  clear hown hin
  obtain ⟨br, hbr⟩ : ∃ b, w1.heap.size = b := ⟨_, rfl⟩
  have hb := (Below.refl w1.heap.size w1).alloc (Nat.le_refl _) (.cells #[.int .i64 Wr, .slice (some ⟨gr, 0, none⟩) Mr cr] 26)
  have ST_w2 := Lib.hid (ST_w1.out.go hb)
  replace HA_r := Lib.hid ((HA_r.out.on hb).more hb.size)
  clear ST_w1
  clear hb
  have HV_r := Lib.hid (RgAt.new (w := w1) Wr (.slice (some ⟨gr, 0, none⟩) Mr cr) hbr)
  have qr0 := HV_r.out.c0
  have qr1 := HV_r.out.c1
  go_wp2_with fail
  generalize (w1.alloc (.cells #[.int .i64 Wr, .slice (some ⟨gr, 0, none⟩) Mr cr] 26)) = w2 at *
  clear hbr
  refine (iFmtR w2.heap.size Mr cr _ Wr lr w2 (by omega) HA_r.out (Nat.le_refl _)).mono ?_
  rintro e w3 ⟨rfl, hb⟩
  clear qr0 qr1
  have ST_w3 := Lib.hid (ST_w2.out.go hb)
  replace HV_r := Lib.hid (HV_r.out.on hb HV_r.out.lt)
  replace HA_r := Lib.hid ((HA_r.out.on hb).more hb.size)
  clear ST_w2
  clear hb
  obtain ⟨T, hT⟩ : ∃ T : ByteArray, ByteArray.mk (fmtR Wr lr).toArray = T := ⟨_, rfl⟩
  obtain ⟨b, hb⟩ : ∃ b, isReg Wr lr = b := ⟨_, rfl⟩
  have hTs : T.size ≤ 41 := by rw [← hT]; exact fmtR_size Wr lr
  have HT := Lib.hid (show S (fmtR Wr lr) = .string T from congrArg Value.string hT)
  have HIS := Lib.hid hb
  have htx : tx T = fmtR Wr lr := by rw [← hT]
  have HP := Lib.hid (show dP (okQ (tx T)) = b from by rw [htx, ← hb]; exact okQ_is Wr lr)
  have HQ := Lib.hid (show b = true → resW (tx T) = Wr ∧ resL (tx T) = lr from by rw [htx, ← hb]; exact fun h => (fmt_back h).2)
  have hxl := resL_len (tx T)
  have HXI := Lib.hid (resL_in (tx T))
  rw [HT.out]
  clear hT hb htx
  obtain ⟨Wx, hWx⟩ : ∃ z, resW (tx T) = z := ⟨_, rfl⟩
  obtain ⟨lx, hlx⟩ : ∃ z, resL (tx T) = z := ⟨_, rfl⟩
  rw [hlx] at hxl HXI
  have HXW := Lib.hid hWx
  have HXL := Lib.hid hlx
  rw [hWx, hlx] at HQ
  clear hWx hlx
  go_wp2_with fail
  refine (iParR T w3 (by omega) ST_w3.out.2.2).mono ?_
  rintro e w4 ⟨v, rfl, ho, hb⟩
  rw [HXL.out] at ho
  rw [HXW.out, HP.out]
  obtain ⟨ax, cx, rfl⟩ := own_sl_i ho
  have ST_w4 := Lib.hid (ST_w3.out.go hb)
  replace HV_r := Lib.hid (HV_r.out.on hb HV_r.out.lt)
  replace HA_r := Lib.hid ((HA_r.out.on hb).more hb.size)
  clear ST_w3
  clear hb
  have HA_x := Lib.hid (IntsAt.of_own ho HXI.out)
  clear ho
  obtain ⟨bx, hbx⟩ : ∃ b, w4.heap.size = b := ⟨_, rfl⟩
  have hb := (Below.refl w4.heap.size w4).alloc (Nat.le_refl _) (.cells #[.int .i64 Wx, .slice ax lx.length cx] 26)
  have ST_w5 := Lib.hid (ST_w4.out.go hb)
  replace HV_r := Lib.hid (HV_r.out.on hb HV_r.out.lt)
  replace HA_r := Lib.hid ((HA_r.out.on hb).more hb.size)
  replace HA_x := Lib.hid ((HA_x.out.on hb).more hb.size)
  clear ST_w4
  clear hb
  have HV_x := Lib.hid (RgAt.new (w := w4) Wx (.slice ax lx.length cx) hbx)
  go_wp2_with fail
  generalize (w4.alloc (.cells #[.int .i64 Wx, .slice ax lx.length cx] 26)) = w5 at *
  clear hbx
  refine (dParR a0 len0 cap0 w5 ST_w5.out.2.1 hl0).mono ?_
  rintro e w6 ⟨U, hU, rfl, hb⟩
  have ST_w6 := Lib.hid (ST_w5.out.go hb)
  replace HV_r := Lib.hid (HV_r.out.on hb HV_r.out.lt)
  replace HV_x := Lib.hid (HV_x.out.on hb HV_x.out.lt)
  replace HA_r := Lib.hid ((HA_r.out.on hb).more hb.size)
  replace HA_x := Lib.hid ((HA_x.out.on hb).more hb.size)
  clear ST_w5
  clear hb
  go_wp2_with fail
  obtain ⟨Wy, hWy⟩ : ∃ z, resW (tx U) = z := ⟨_, rfl⟩
  obtain ⟨ly, hly⟩ : ∃ z, resL (tx U) = z := ⟨_, rfl⟩
  obtain ⟨q, hq⟩ : ∃ z, dP (okQ (tx U)) = z := ⟨_, rfl⟩
  have HYW := Lib.hid hWy
  have HYL := Lib.hid hly
  have HYQ := Lib.hid hq
  clear hWy hly hq
  refine (iParR U w6 (by omega) ST_w6.out.2.2).mono ?_
  rintro e w7 ⟨v, rfl, ho, hb⟩
  rw [HYL.out] at ho
  rw [HYW.out, HYQ.out]
  obtain ⟨ay, cy, rfl⟩ := own_sl_i ho
  clear ho
  have ST_w7 := Lib.hid (ST_w6.out.go hb)
  replace HV_r := Lib.hid (HV_r.out.on hb HV_r.out.lt)
  replace HV_x := Lib.hid (HV_x.out.on hb HV_x.out.lt)
  replace HA_r := Lib.hid ((HA_r.out.on hb).more hb.size)
  replace HA_x := Lib.hid ((HA_x.out.on hb).more hb.size)
  clear ST_w6
  clear hb
  obtain ⟨byy, hbyy⟩ : ∃ b, w7.heap.size = b := ⟨_, rfl⟩
  have hb := (Below.refl w7.heap.size w7).alloc (Nat.le_refl _) (.cells #[.int .i64 Wy, .slice ay ly.length cy] 26)
  have ST_w8 := Lib.hid (ST_w7.out.go hb)
  replace HV_r := Lib.hid (HV_r.out.on hb HV_r.out.lt)
  replace HV_x := Lib.hid (HV_x.out.on hb HV_x.out.lt)
  replace HA_r := Lib.hid ((HA_r.out.on hb).more hb.size)
  replace HA_x := Lib.hid ((HA_x.out.on hb).more hb.size)
  clear ST_w7
  clear hb
  go_wp2_with fail
  generalize (w7.alloc (.cells #[.int .i64 Wy, .slice ay ly.length cy] 26)) = w8 at *
  clear hbyy
  refine (sParR U w8 (by omega)).mono ?_
  rintro e w9 ⟨v, rfl, ho, hb⟩
  rw [HYL.out] at ho
  rw [HYW.out, HYQ.out]
  obtain ⟨ay, cy, rfl⟩ := own_sl_i ho
  clear ho
  have ST_w9 := Lib.hid (ST_w8.out.go hb)
  replace HV_r := Lib.hid (HV_r.out.on hb HV_r.out.lt)
  replace HV_x := Lib.hid (HV_x.out.on hb HV_x.out.lt)
  replace HA_r := Lib.hid ((HA_r.out.on hb).more hb.size)
  replace HA_x := Lib.hid ((HA_x.out.on hb).more hb.size)
  clear ST_w8
  clear hb
  obtain ⟨byy, hbyy⟩ : ∃ b, w9.heap.size = b := ⟨_, rfl⟩
  have hb := (Below.refl w9.heap.size w9).alloc (Nat.le_refl _) (.cells #[.int .i64 Wy, .slice ay ly.length cy] 26)
  have ST_w10 := Lib.hid (ST_w9.out.go hb)
  replace HV_r := Lib.hid (HV_r.out.on hb HV_r.out.lt)
  replace HV_x := Lib.hid (HV_x.out.on hb HV_x.out.lt)
  replace HA_r := Lib.hid ((HA_r.out.on hb).more hb.size)
  replace HA_x := Lib.hid ((HA_x.out.on hb).more hb.size)
  clear ST_w9
  clear hb
  go_upto_region 9 with fail
  generalize (w9.alloc (.cells #[.int .i64 Wy, .slice ay ly.length cy] 26)) = w10 at *
  clear hbyy
  clear HYW HYL HYQ
  go_cut [6, 91] from 39 to 91 (fun s6 s91 wx => s91 = .bool false ∧ Below w10.heap.size w10 wx)
  case first =>
    have qr0 := HV_r.out.c0
    have qr1 := HV_r.out.c1
    go_wp2_with fail
    refine (sFmtR w10.heap.size Mr cr _ Wr lr w10 (by omega) HA_r.out (Nat.le_refl _)).mono ?_
    rintro e w11 ⟨rfl, hb⟩
    clear qr0 qr1
    have ST_w11 := Lib.hid (ST_w10.out.go hb)
    replace HV_r := Lib.hid (HV_r.out.on hb HV_r.out.lt)
    replace HV_x := Lib.hid (HV_x.out.on hb HV_x.out.lt)
    replace HA_r := Lib.hid ((HA_r.out.on hb).more hb.size)
    replace HA_x := Lib.hid ((HA_x.out.on hb).more hb.size)
    clear ST_w10
    have hz_w11 := hb
    clear hb
    rw [HT.out]
    have qr0 := HV_r.out.c0
    have qr1 := HV_r.out.c1
    go_wp2_with fail
    refine (sIsReg w11.heap.size Mr cr _ Wr lr w11 (by omega) HA_r.out (Nat.le_refl _)).mono ?_
    rintro e w12 ⟨rfl, hb⟩
    clear qr0 qr1
    have ST_w12 := Lib.hid (ST_w11.out.go hb)
    replace HV_r := Lib.hid (HV_r.out.on hb HV_r.out.lt)
    replace HV_x := Lib.hid (HV_x.out.on hb HV_x.out.lt)
    replace HA_r := Lib.hid ((HA_r.out.on hb).more hb.size)
    replace HA_x := Lib.hid ((HA_x.out.on hb).more hb.size)
    clear ST_w11
    have hz_w12 := hz_w11.trans (hb.mono hz_w11.size)
    clear hz_w11
    clear hb
    rw [HIS.out]
    have hbb : (b != b) = false := by simp
    have qr0 := HV_r.out.c0
    have qr1 := HV_r.out.c1
    go_wp2_with fail
    refine (iIsReg w12.heap.size Mr cr _ Wr lr w12 (by omega) HA_r.out (Nat.le_refl _)).mono ?_
    rintro e w13 ⟨rfl, hb⟩
    clear qr0 qr1
    have ST_w13 := Lib.hid (ST_w12.out.go hb)
    replace HV_r := Lib.hid (HV_r.out.on hb HV_r.out.lt)
    replace HV_x := Lib.hid (HV_x.out.on hb HV_x.out.lt)
    replace HA_r := Lib.hid ((HA_r.out.on hb).more hb.size)
    replace HA_x := Lib.hid ((HA_x.out.on hb).more hb.size)
    clear ST_w12
    have hz_w13 := hz_w12.trans (hb.mono hz_w12.size)
    clear hz_w12
    clear hb
    rw [HIS.out]
    have hqq : (q != q) = false := by simp
    cases b
    · clear hbb
      go_wp2_with fail
      go_meet
      exact ⟨rfl, hz_w13⟩
    · clear hbb
      obtain ⟨e1, e2⟩ := HQ.out rfl
      have HEQ := Lib.hid (show eqR Wx lx Wr lr = true from by rw [e1, e2]; exact eqR_self Wr lr)
      have hrl : lx.length ≤ 8 := by omega
      clear e1 e2
      have qx0 := HV_x.out.c0
      have qx1 := HV_x.out.c1
      have qr0 := HV_r.out.c0
      have qr1 := HV_r.out.c1
      go_wp2_with fail
      refine (sEqR w13.heap.size lx.length cx Mr cr ax _ Wx Wr lx lr w13 (by omega) (by omega) HA_x.out HA_r.out (Nat.le_refl _)).mono ?_
      rintro e w14 ⟨rfl, hb⟩
      clear qx0 qx1 qr0 qr1
      have ST_w14 := Lib.hid (ST_w13.out.go hb)
      replace HV_r := Lib.hid (HV_r.out.on hb HV_r.out.lt)
      replace HV_x := Lib.hid (HV_x.out.on hb HV_x.out.lt)
      replace HA_r := Lib.hid ((HA_r.out.on hb).more hb.size)
      replace HA_x := Lib.hid ((HA_x.out.on hb).more hb.size)
      clear ST_w13
      have hz_w14 := hz_w13.trans (hb.mono hz_w13.size)
      clear hz_w13
      clear hb
      rw [HEQ.out]
      go_wp2_with fail
      go_meet
      exact ⟨rfl, hz_w14⟩
  case rest =>
  obtain ⟨rfl, hb⟩ := hcut
  obtain ⟨w15, rfl⟩ : ∃ x, x = wc := ⟨_, rfl⟩
  have ST_w15 := Lib.hid (ST_w10.out.go hb)
  replace HV_r := Lib.hid (HV_r.out.on hb HV_r.out.lt)
  replace HV_x := Lib.hid (HV_x.out.on hb HV_x.out.lt)
  replace HA_r := Lib.hid ((HA_r.out.on hb).more hb.size)
  replace HA_x := Lib.hid ((HA_x.out.on hb).more hb.size)
  clear ST_w10
  clear hb
  clear HV_r
  clear HA_r
  clear HV_x
  clear HA_x
  clear HIS HP HQ HT HXI HXW HXL HI_r hxl hTs hU
  go_wp2_with fail
  refine (dPartR a0 len0 cap0 w15 ST_w15.out.2.1 hl0).mono ?_
  rintro e w16 ⟨Wa, Ma, ga, ca, la, rfl, hMa, hin, hown, hb⟩
  have ST_w16 := Lib.hid (ST_w15.out.go hb)
  clear ST_w15
  clear hb
  have HA_a := Lib.hid (IntsAt.of_own hown hin)
  have HI_a := Lib.hid hin
  clear hown hin
  obtain ⟨ba, hba⟩ : ∃ b, w16.heap.size = b := ⟨_, rfl⟩
  have hb := (Below.refl w16.heap.size w16).alloc (Nat.le_refl _) (.cells #[.int .i64 Wa, .slice (some ⟨ga, 0, none⟩) Ma ca] 26)
  have ST_w17 := Lib.hid (ST_w16.out.go hb)
  replace HA_a := Lib.hid ((HA_a.out.on hb).more hb.size)
  clear ST_w16
  clear hb
  have HV_a := Lib.hid (RgAt.new (w := w16) Wa (.slice (some ⟨ga, 0, none⟩) Ma ca) hba)
  have qa0 := HV_a.out.c0
  have qa1 := HV_a.out.c1
  go_wp2_with fail
  generalize (w16.alloc (.cells #[.int .i64 Wa, .slice (some ⟨ga, 0, none⟩) Ma ca] 26)) = w17 at *
  clear hba
  obtain ⟨ps, hps⟩ : ∃ ps, partsR Wa la = ps := ⟨_, rfl⟩
  have hpl := partsR_len Wa la
  have HPM := Lib.hid (show ∀ p ∈ ps, isReg Wa p = true ∧ partsR Wa p = [p] from by rw [← hps]; exact partsR_one)
  have HPX := Lib.hid (show ∀ p ∈ ps, p.length ≤ 6 from by rw [← hps]; exact partsR_mem Wa la)
  obtain ⟨A, hA⟩ : ∃ A, areaR Wa la = A := ⟨_, rfl⟩
  have hAb := areaR_bd Wa la
  have HPA := Lib.hid (show isReg Wa la = true → areaTo Wa ps ps.length = A from by rw [← hps, ← hA]; exact area_parts)
  rw [hps] at hpl
  rw [hA] at hAb
  have HPS := Lib.hid hps
  have HAA := Lib.hid hA
  clear hps hA
  refine (iParts w17.heap.size Ma ca _ Wa la w17 (by omega) HA_a.out (Nat.le_refl _)).mono ?_
  rintro e w18 ⟨v, es, rfl, hos, hes, hws, hb⟩
  clear qa0 qa1
  have ST_w18 := Lib.hid (ST_w17.out.go hb)
  replace HV_a := Lib.hid (HV_a.out.on hb HV_a.out.lt)
  replace HA_a := Lib.hid ((HA_a.out.on hb).more hb.size)
  clear ST_w17
  clear hb
  rw [HPS.out] at hes
  have HR_L := Lib.hid (show RsRd w18.heap.size w18 v (List.replicate ps.length Wa) ps from by have h9 := RsRd.of_own hos; rw [hes, wid_rep hes hws] at h9; exact h9)
  obtain ⟨aL, cL, rfl⟩ : ∃ a c, v = .slice a ps.length c := by obtain ⟨_, a, c, e, _⟩ := HR_L.out; exact ⟨a, c, e⟩
  clear hos hes hws es
  have qa0 := HV_a.out.c0
  have qa1 := HV_a.out.c1
  go_wp2_with fail
  refine (sParts w18.heap.size Ma ca _ Wa la w18 (by omega) HA_a.out (Nat.le_refl _)).mono ?_
  rintro e w19 ⟨v, es, rfl, hos, hes, hws, hb⟩
  clear qa0 qa1
  have ST_w19 := Lib.hid (ST_w18.out.go hb)
  replace HV_a := Lib.hid (HV_a.out.on hb HV_a.out.lt)
  replace HA_a := Lib.hid ((HA_a.out.on hb).more hb.size)
  replace HR_L := Lib.hid ((HR_L.out.on hb).more hb.size)
  clear ST_w18
  clear hb
  rw [HPS.out] at hes
  have HR_K := Lib.hid (show RsRd w19.heap.size w19 v (List.replicate ps.length Wa) ps from by have h9 := RsRd.of_own hos; rw [hes, wid_rep hes hws] at h9; exact h9)
  obtain ⟨aK, cK, rfl⟩ : ∃ a c, v = .slice a ps.length c := by obtain ⟨_, a, c, e, _⟩ := HR_K.out; exact ⟨a, c, e⟩
  clear hos hes hws es
  go_wp2
  go_loopw [15, 16] (fun n i wr => ∃ k : Nat, k ≤ ps.length ∧ n = .int .i64 (areaTo Wa ps k) ∧ i = .int .i64 k ∧ Below w19.heap.size w19 wr) (fun _ i _ => ps.length - (intOf i).toNat)
  case atStart => exact ⟨0, by omega, rfl, rfl, Below.refl _ _⟩
  case round =>
    obtain ⟨k, hk, rfl, rfl, hb⟩ := hrel
    have hbl := hb
    have ST_wr := Lib.hid (ST_w19.out.go hb)
    replace HV_a := Lib.hid (HV_a.out.on hb HV_a.out.lt)
    replace HA_a := Lib.hid ((HA_a.out.on hb).more hb.size)
    replace HR_L := Lib.hid ((HR_L.out.on hb).more hb.size)
    replace HR_K := Lib.hid ((HR_K.out.on hb).more hb.size)
    clear ST_w19
    clear hb
    by_cases hlt : k < ps.length
    · have hk0 : (0 : Int) ≤ (k : Int) := by omega
      have hk1 : (k : Int) < (ps.length : Int) := by omega
      obtain ⟨p, hp⟩ : ∃ p, ps.getD k [] = p := ⟨_, rfl⟩
      have hpm : p ∈ ps := by rw [← hp, List.getD_eq_getElem?_getD, List.getElem?_eq_getElem hlt]; exact List.getElem_mem hlt
      have hpx := HPX.out p hpm
      have HP1 := Lib.hid (HPM.out p hpm)
      have HPI := Lib.hid (reg_in HP1.out.1)
      have HST := Lib.hid (show areaTo Wa ps (k + 1) = areaTo Wa ps k + areaR Wa p from by rw [← hp]; exact areaTo_step Wa ps k hlt)
      have hz1 := areaTo_bd Wa ps k hk
      have hz2 := areaR_bd Wa p
      have hkp : k ≤ 36 := by omega
      obtain ⟨gL, eL, p1, nL, p2, hiL⟩ := rs_get HR_L.out hlt
      obtain ⟨gK, eK, q1, nK, q2, hiK⟩ := rs_get HR_K.out hlt
      rw [hp] at p2 q2 hiL hiK
      subst eL eK
      have hgL := World.block_lt_of_cell? _ _ p1
      have hgK := World.block_lt_of_cell? _ _ q1
      have HIL := Lib.hid (ints_of_rd hiL HPI.out)
      have HIK := Lib.hid (ints_of_rd hiK HPI.out)
      have HCL := Lib.hid (fun w' (h9 : Below wr.heap.size wr w') => sEqR wr.heap.size p.length nL.2 p.length nK.2 nL.1 nK.1 Wa Wa p p w' (by omega) (by omega) (HIL.out.on h9) (HIK.out.on h9) h9.size)
      rw [eqR_self] at HCL
      have HCP := Lib.hid (fun w' (h9 : Below wr.heap.size wr w') => iParts wr.heap.size p.length nK.2 nK.1 Wa p w' (by omega) (HIK.out.on h9) h9.size)
      rw [HP1.out.2] at HCP
      have hb9 := Below.refl wr.heap.size wr
      clear hp hpm hiL hiK
      go_upto_region 18 with fail
      go_cut [129] from 98 to 136 (fun s129 wx => s129 = .bool false ∧ Below wr.heap.size wr wx)
      case first =>
        have hll : ((ps.length : Int) != (ps.length : Int)) = false := by simp
        go_region_held3 (fun w' => w'.cell? ⟨gL, k * 2, none⟩ = some (.int .i64 Wa) ∧ w'.cell? ⟨gL, k * 2 + 1, none⟩ = some (.slice nL.1 p.length nL.2) ∧ w'.cell? ⟨gK, k * 2, none⟩ = some (.int .i64 Wa) ∧ w'.cell? ⟨gK, k * 2 + 1, none⟩ = some (.slice nK.1 p.length nK.2))
          (first
            | exact ⟨(hbx.cell (p := ⟨gL, k * 2, none⟩) hgL).trans p1, (hbx.cell (p := ⟨gL, k * 2 + 1, none⟩) hgL).trans p2, (hbx.cell (p := ⟨gK, k * 2, none⟩) hgK).trans q1, (hbx.cell (p := ⟨gK, k * 2 + 1, none⟩) hgK).trans q2⟩
            | exact ⟨(hbw.cell (p := ⟨gL, k * 2, none⟩) hgL).trans p1, (hbw.cell (p := ⟨gL, k * 2 + 1, none⟩) hgL).trans p2, (hbw.cell (p := ⟨gK, k * 2, none⟩) hgK).trans q1, (hbw.cell (p := ⟨gK, k * 2 + 1, none⟩) hgK).trans q2⟩
            | exact ⟨p1, p2, q1, q2⟩)
          (first
            | (go_at_call 13; refine (HCL.out _ (by first | exact hb9 | exact hb9.drew)).mono ?_; rintro e w1 ⟨rfl, hbe⟩; have hbw : Below wr.heap.size wr w1 := by first | exact hb9.trans hbe | exact hb9.drew.trans hbe)
            | (go_at_call 15; refine (HCP.out _ hbw).mono ?_; rintro e w2 ⟨v, es, rfl, hos, hes, hws, hbp⟩; obtain ⟨aP, cP, rfl⟩ := one_list hos hes; have hbx : Below wr.heap.size wr w2 := hbw.trans (hbp.mono hbw.size)))
        all_goals
          (try simp only [Exit.then])
          go_wp2_with fail
          go_meet
          exact ⟨rfl, hbx⟩
      case rest =>
      obtain ⟨rfl, hb⟩ := hcut
      obtain ⟨wq, rfl⟩ : ∃ x, x = wc := ⟨_, rfl⟩
      have m1 := (hb.cell (p := ⟨gK, k * 2, none⟩) hgK).trans q1
      have m2 := (hb.cell (p := ⟨gK, k * 2 + 1, none⟩) hgK).trans q2
      have HBQ := Lib.hid (hbl.trans (hb.mono hbl.size))
      have HIQ := Lib.hid ((HIK.out.on hb).more hb.size)
      clear HCL HCP hb9 hb p1 p2 q1 q2 HIL HIK hbl
      go_wp2_with fail
      refine (iArea wq.heap.size p.length nK.2 nK.1 Wa p wq (by omega) HIQ.out (Nat.le_refl _)).mono ?_
      rintro e wp ⟨rfl, hb⟩
      have HBP := Lib.hid (HBQ.out.trans (hb.mono HBQ.out.size))
      have hwz : IntKind.i64.wrap (areaTo Wa ps k + areaR Wa p) = areaTo Wa ps k + areaR Wa p := IntWalk.i64_in _ (by omega)
      clear hb m1 m2 HBQ HIQ
      go_wp2
      go_roundw
      case rel => first
        | exact ⟨k + 1, by omega, by rw [HST.out], by go_num, HBP.out⟩
        | ((repeat apply Exists.intro); exact ⟨⟨k + 1, by omega, by rw [HST.out], by go_num, HBP.out⟩, rfl⟩)
      case measure => simp [intOf]; omega
    obtain rfl : k = ps.length := by omega
    clear HPM HPX hk hlt hbl
    clear HR_L HR_K
    have hzz := HPA.out
    go_upto_region 21 with fail
    go_cut [158] from 92 to 158 (fun s158 wx => s158 = .bool false ∧ Below wr.heap.size wr wx)
    case first =>
      have HQA := Lib.hid (show isReg Wa la = true → (areaTo Wa ps ps.length != A) = false from fun h => by rw [HPA.out h]; simp)
      have hAA : (A != A) = false := by simp
      have hll : ((ps.length : Int) != (ps.length : Int)) = false := by simp
      have kA : ∀ d os, Calls Tryz.prog 17 #[.agg #[.int .i64 Wa, .slice (some ⟨ga, 0, none⟩) Ma ca]] (Go.Sort.grow (redrawn wr d) os) fun e w9 => e = .returned (.int .i64 A) ∧ Below (Go.Sort.grow (redrawn wr d) os).heap.size (Go.Sort.grow (redrawn wr d) os) w9 := fun d os => by
        have h9 := iArea wr.heap.size Ma ca _ Wa la (Go.Sort.grow (redrawn wr d) os) (by omega) ((HA_a.out.on (below_regrown wr d os))) (below_regrown wr d os).size
        rw [HAA.out] at h9
        exact h9
      have kB : ∀ d os, Calls Tryz.prog 18 #[.agg #[.int .i64 Wa, .slice (some ⟨ga, 0, none⟩) Ma ca]] (Go.Sort.grow (redrawn wr d) os) fun e w9 => e = .returned (.int .i64 A) ∧ Below (Go.Sort.grow (redrawn wr d) os).heap.size (Go.Sort.grow (redrawn wr d) os) w9 := fun d os => by
        have h9 := sArea wr.heap.size Ma ca _ Wa la (Go.Sort.grow (redrawn wr d) os) (by omega) ((HA_a.out.on (below_regrown wr d os))) (below_regrown wr d os).size
        rw [HAA.out] at h9
        exact h9
      cases hreg : isReg Wa la
      · clear hzz
        have hmix : Tryz.prog.follows .mixedOrders = true := by kernel_rfl
        have r0 := cell_regrown (HV_a.out.c0)
        have r1 := cell_regrown (HV_a.out.c1)
        have kR : ∀ d os, Calls Tryz.prog 11 #[.agg #[.int .i64 Wa, .slice (some ⟨ga, 0, none⟩) Ma ca]] (Go.Sort.grow (redrawn wr d) os) fun e w9 => e = .returned (.bool false) ∧ Below (Go.Sort.grow (redrawn wr d) os).heap.size (Go.Sort.grow (redrawn wr d) os) w9 := fun d os => by
          have h9 := sIsReg wr.heap.size Ma ca _ Wa la (Go.Sort.grow (redrawn wr d) os) (by omega) ((HA_a.out.on (below_regrown wr d os))) (below_regrown wr d os).size
          rw [hreg] at h9
          exact h9
        clear hreg HQA
        refine wp_region_quiet_below hmix (by kernel_rfl) ?_
        repeat (first | (go_big_quiet_step (first | (go_at_call 11; with_reducible refine Calls.regrown_of (kR _ _)) | (go_at_call 17; with_reducible refine Calls.regrown_of (kA _ _)) | (go_at_call 18; with_reducible refine Calls.regrown_of (kB _ _)))) | (quiet_step (first | (go_at_call 11; with_reducible refine Calls.regrown_of (kR _ _)) | (go_at_call 17; with_reducible refine Calls.regrown_of (kA _ _)) | (go_at_call 18; with_reducible refine Calls.regrown_of (kB _ _)))))
        refine wpQuiet_nil ?_
        intro _ hw9
        obtain ⟨⟨nq, osq⟩, hw8⟩ := hw9
        subst hw8
        have hbz := below_regrown wr nq osq
        go_wp2_with fail
        go_meet
        exact ⟨rfl, hbz⟩
      · clear hzz
        have hzA := HQA.out hreg
        have hmix : Tryz.prog.follows .mixedOrders = true := by kernel_rfl
        have r0 := cell_regrown (HV_a.out.c0)
        have r1 := cell_regrown (HV_a.out.c1)
        have kR : ∀ d os, Calls Tryz.prog 11 #[.agg #[.int .i64 Wa, .slice (some ⟨ga, 0, none⟩) Ma ca]] (Go.Sort.grow (redrawn wr d) os) fun e w9 => e = .returned (.bool true) ∧ Below (Go.Sort.grow (redrawn wr d) os).heap.size (Go.Sort.grow (redrawn wr d) os) w9 := fun d os => by
          have h9 := sIsReg wr.heap.size Ma ca _ Wa la (Go.Sort.grow (redrawn wr d) os) (by omega) ((HA_a.out.on (below_regrown wr d os))) (below_regrown wr d os).size
          rw [hreg] at h9
          exact h9
        clear hreg HQA
        refine wp_region_quiet_below hmix (by kernel_rfl) ?_
        repeat (first | (go_big_quiet_step (first | (go_at_call 11; with_reducible refine Calls.regrown_of (kR _ _)) | (go_at_call 17; with_reducible refine Calls.regrown_of (kA _ _)) | (go_at_call 18; with_reducible refine Calls.regrown_of (kB _ _)))) | (quiet_step (first | (go_at_call 11; with_reducible refine Calls.regrown_of (kR _ _)) | (go_at_call 17; with_reducible refine Calls.regrown_of (kA _ _)) | (go_at_call 18; with_reducible refine Calls.regrown_of (kB _ _)))))
        refine wpQuiet_nil ?_
        intro _ hw9
        obtain ⟨⟨nq, osq⟩, hw8⟩ := hw9
        subst hw8
        have hbz := below_regrown wr nq osq
        go_wp2_with fail
        go_meet
        exact ⟨rfl, hbz⟩
    case rest =>
    obtain ⟨rfl, hb⟩ := hcut
    obtain ⟨w20, rfl⟩ : ∃ x, x = wc := ⟨_, rfl⟩
    have ST_w20 := Lib.hid (ST_wr.out.go hb)
    replace HV_a := Lib.hid (HV_a.out.on hb HV_a.out.lt)
    replace HA_a := Lib.hid ((HA_a.out.on hb).more hb.size)
    clear ST_wr
    clear hb
    clear hzz HPA HPS
    go_wp2_with fail
    refine (dRemR a0 len0 cap0 w20 ST_w20.out.2.1 hl0).mono ?_
    rintro e w21 ⟨Wb, Mb, gb, cb, lb, px, py, rfl, hxb, hyb, hMb, hin, hown, hb⟩
    have ST_w21 := Lib.hid (ST_w20.out.go hb)
    replace HV_a := Lib.hid (HV_a.out.on hb HV_a.out.lt)
    replace HA_a := Lib.hid ((HA_a.out.on hb).more hb.size)
    clear ST_w20
    clear hb
    have HA_b := Lib.hid (IntsAt.of_own hown hin)
    have HI_b := Lib.hid hin
    clear hown hin
    obtain ⟨bb, hbb⟩ : ∃ b, w21.heap.size = b := ⟨_, rfl⟩
    have hb := (Below.refl w21.heap.size w21).alloc (Nat.le_refl _) (.cells #[.int .i64 Wb, .slice (some ⟨gb, 0, none⟩) Mb cb] 26)
    have ST_w22 := Lib.hid (ST_w21.out.go hb)
    replace HV_a := Lib.hid (HV_a.out.on hb HV_a.out.lt)
    replace HA_a := Lib.hid ((HA_a.out.on hb).more hb.size)
    replace HA_b := Lib.hid ((HA_b.out.on hb).more hb.size)
    clear ST_w21
    clear hb
    have HV_b := Lib.hid (RgAt.new (w := w21) Wb (.slice (some ⟨gb, 0, none⟩) Mb cb) hbb)
    have qb0 := HV_b.out.c0
    have qb1 := HV_b.out.c1
    go_wp2_with fail
    generalize (w21.alloc (.cells #[.int .i64 Wb, .slice (some ⟨gb, 0, none⟩) Mb cb] 26)) = w22 at *
    clear hbb
    obtain ⟨ld, hld⟩ : ∃ z, remR Wb lb px py = z := ⟨_, rfl⟩
    obtain ⟨t, ht⟩ : ∃ z, cellB Wb lb px py = z := ⟨_, rfl⟩
    have hldl : ld.length = Mb := by rw [← hld, remR_len]; exact HA_b.out.1
    have HDI := Lib.hid (show ∀ z ∈ ld, In64 z from by rw [← hld]; exact remR_in HI_b.out px py)
    have HRA := Lib.hid (show t = true → areaR Wb ld = areaR Wb lb - 1 ∧ cellB Wb ld px py = false from by rw [← hld, ← ht]; exact rem_area)
    have HLD := Lib.hid hld
    have HTT := Lib.hid ht
    clear hld ht
    refine (iRem w22.heap.size Mb cb _ Wb lb px py w22 (by omega) HA_b.out (Nat.le_refl _)).mono ?_
    rintro e w23 ⟨gc, cc, rfl, ho, hb⟩
    rw [HLD.out] at ho
    rw [HTT.out]
    clear qb0 qb1
    have ST_w23 := Lib.hid (ST_w22.out.go hb)
    replace HV_a := Lib.hid (HV_a.out.on hb HV_a.out.lt)
    replace HV_b := Lib.hid (HV_b.out.on hb HV_b.out.lt)
    replace HA_a := Lib.hid ((HA_a.out.on hb).more hb.size)
    replace HA_b := Lib.hid ((HA_b.out.on hb).more hb.size)
    clear ST_w22
    clear hb
    have HA_c := Lib.hid (IntsAt.of_own ho HDI.out)
    clear ho
    obtain ⟨bc, hbc⟩ : ∃ b, w23.heap.size = b := ⟨_, rfl⟩
    have hb := (Below.refl w23.heap.size w23).alloc (Nat.le_refl _) (.cells #[.int .i64 Wb, .slice (some ⟨gc, 0, none⟩) Mb cc] 26)
    have ST_w24 := Lib.hid (ST_w23.out.go hb)
    replace HV_a := Lib.hid (HV_a.out.on hb HV_a.out.lt)
    replace HV_b := Lib.hid (HV_b.out.on hb HV_b.out.lt)
    replace HA_a := Lib.hid ((HA_a.out.on hb).more hb.size)
    replace HA_b := Lib.hid ((HA_b.out.on hb).more hb.size)
    replace HA_c := Lib.hid ((HA_c.out.on hb).more hb.size)
    clear ST_w23
    clear hb
    have HV_c := Lib.hid (RgAt.new (w := w23) Wb (.slice (some ⟨gc, 0, none⟩) Mb cc) hbc)
    have qb0 := HV_b.out.c0
    have qb1 := HV_b.out.c1
    go_wp2_with fail
    generalize (w23.alloc (.cells #[.int .i64 Wb, .slice (some ⟨gc, 0, none⟩) Mb cc] 26)) = w24 at *
    clear hbc
    refine (sRem w24.heap.size Mb cb _ Wb lb px py w24 (by omega) HA_b.out (Nat.le_refl _)).mono ?_
    rintro e w25 ⟨gd, cd, rfl, ho, hb⟩
    rw [HLD.out] at ho
    rw [HTT.out]
    clear qb0 qb1
    have ST_w25 := Lib.hid (ST_w24.out.go hb)
    replace HV_a := Lib.hid (HV_a.out.on hb HV_a.out.lt)
    replace HV_b := Lib.hid (HV_b.out.on hb HV_b.out.lt)
    replace HV_c := Lib.hid (HV_c.out.on hb HV_c.out.lt)
    replace HA_a := Lib.hid ((HA_a.out.on hb).more hb.size)
    replace HA_b := Lib.hid ((HA_b.out.on hb).more hb.size)
    replace HA_c := Lib.hid ((HA_c.out.on hb).more hb.size)
    clear ST_w24
    clear hb
    have HA_d := Lib.hid (IntsAt.of_own ho HDI.out)
    clear ho
    obtain ⟨bd, hbd⟩ : ∃ b, w25.heap.size = b := ⟨_, rfl⟩
    have hb := (Below.refl w25.heap.size w25).alloc (Nat.le_refl _) (.cells #[.int .i64 Wb, .slice (some ⟨gd, 0, none⟩) Mb cd] 26)
    have ST_w26 := Lib.hid (ST_w25.out.go hb)
    replace HV_a := Lib.hid (HV_a.out.on hb HV_a.out.lt)
    replace HV_b := Lib.hid (HV_b.out.on hb HV_b.out.lt)
    replace HV_c := Lib.hid (HV_c.out.on hb HV_c.out.lt)
    replace HA_a := Lib.hid ((HA_a.out.on hb).more hb.size)
    replace HA_b := Lib.hid ((HA_b.out.on hb).more hb.size)
    replace HA_c := Lib.hid ((HA_c.out.on hb).more hb.size)
    replace HA_d := Lib.hid ((HA_d.out.on hb).more hb.size)
    clear ST_w25
    clear hb
    have HV_d := Lib.hid (RgAt.new (w := w25) Wb (.slice (some ⟨gd, 0, none⟩) Mb cd) hbd)
    go_upto_region 26 with fail
    generalize (w25.alloc (.cells #[.int .i64 Wb, .slice (some ⟨gd, 0, none⟩) Mb cd] 26)) = w26 at *
    clear hbd
    go_cut [21, 23, 212] from 159 to 212 (fun s21 s23 s212 wx => s212 = .bool false ∧ Below w26.heap.size w26 wx)
    case first =>
      have kE : ∀ d os, Calls Tryz.prog 13 #[.agg #[.int .i64 Wb, .slice (some ⟨gc, 0, none⟩) Mb cc], .agg #[.int .i64 Wb, .slice (some ⟨gd, 0, none⟩) Mb cd]] (Go.Sort.grow (redrawn w26 d) os) fun e w9 => e = .returned (.bool true) ∧ Below (Go.Sort.grow (redrawn w26 d) os).heap.size (Go.Sort.grow (redrawn w26 d) os) w9 := fun d os => by
        have h9 := sEqR w26.heap.size Mb cc Mb cd _ _ Wb Wb ld ld (Go.Sort.grow (redrawn w26 d) os) (by omega) (by omega) (HA_c.out.on (below_regrown w26 d os)) (HA_d.out.on (below_regrown w26 d os)) (below_regrown w26 d os).size
        rw [eqR_self] at h9
        exact h9
      have HQT := HTT.out
      cases t
      · skip
        have hmix : Tryz.prog.follows .mixedOrders = true := by kernel_rfl
        have r0 := cell_regrown (HV_b.out.c0)
        have r1 := cell_regrown (HV_b.out.c1)
        have r2 := cell_regrown (HV_c.out.c0)
        have r3 := cell_regrown (HV_c.out.c1)
        have r4 := cell_regrown (HV_d.out.c0)
        have r5 := cell_regrown (HV_d.out.c1)
        have kI : ∀ d os, Calls Tryz.prog 22 #[.agg #[.int .i64 Wb, .slice (some ⟨gb, 0, none⟩) Mb cb], .int .i64 px, .int .i64 py] (Go.Sort.grow (redrawn w26 d) os) fun e w9 => e = .returned (.bool false) ∧ Below (Go.Sort.grow (redrawn w26 d) os).heap.size (Go.Sort.grow (redrawn w26 d) os) w9 := fun d os => by
          have h9 := iInReg w26.heap.size Mb cb _ Wb lb px py (Go.Sort.grow (redrawn w26 d) os) (by omega) (HA_b.out.on (below_regrown w26 d os)) (below_regrown w26 d os).size
          rw [HQT] at h9
          exact h9
        clear HQT HRA
        refine wp_region_quiet_below hmix (by kernel_rfl) ?_
        repeat (first | (go_big_quiet_step (first | (go_at_call 13; with_reducible refine Calls.regrown_of (kE _ _)) | (go_at_call 22; with_reducible refine Calls.regrown_of (kI _ _)))) | (quiet_step (first | (go_at_call 13; with_reducible refine Calls.regrown_of (kE _ _)) | (go_at_call 22; with_reducible refine Calls.regrown_of (kI _ _)))))
        refine wpQuiet_nil ?_
        intro _ hw9
        obtain ⟨⟨nq, osq⟩, hw8⟩ := hw9
        subst hw8
        have hbz := below_regrown w26 nq osq
        go_wp2_with fail
        go_meet
        exact ⟨rfl, hbz⟩
      · skip
        obtain ⟨e1, e2⟩ := HRA.out rfl
        obtain ⟨Q, hQ⟩ : ∃ Q, areaR Wb lb = Q := ⟨_, rfl⟩
        have hQb := areaR_bd Wb lb
        rw [hQ] at hQb e1
        have hqw : IntKind.i64.wrap (Q - 1) = Q - 1 := IntWalk.i64_in _ (by omega)
        have hqq2 : (Q - 1 != Q - 1) = false := by simp
        have hmix : Tryz.prog.follows .mixedOrders = true := by kernel_rfl
        have r0 := cell_regrown (HV_b.out.c0)
        have r1 := cell_regrown (HV_b.out.c1)
        have r2 := cell_regrown (HV_c.out.c0)
        have r3 := cell_regrown (HV_c.out.c1)
        have r4 := cell_regrown (HV_d.out.c0)
        have r5 := cell_regrown (HV_d.out.c1)
        have kI : ∀ d os, Calls Tryz.prog 22 #[.agg #[.int .i64 Wb, .slice (some ⟨gb, 0, none⟩) Mb cb], .int .i64 px, .int .i64 py] (Go.Sort.grow (redrawn w26 d) os) fun e w9 => e = .returned (.bool true) ∧ Below (Go.Sort.grow (redrawn w26 d) os).heap.size (Go.Sort.grow (redrawn w26 d) os) w9 := fun d os => by
          have h9 := iInReg w26.heap.size Mb cb _ Wb lb px py (Go.Sort.grow (redrawn w26 d) os) (by omega) (HA_b.out.on (below_regrown w26 d os)) (below_regrown w26 d os).size
          rw [HQT] at h9
          exact h9
        have kJ : ∀ d os, Calls Tryz.prog 22 #[.agg #[.int .i64 Wb, .slice (some ⟨gd, 0, none⟩) Mb cd], .int .i64 px, .int .i64 py] (Go.Sort.grow (redrawn w26 d) os) fun e w9 => e = .returned (.bool false) ∧ Below (Go.Sort.grow (redrawn w26 d) os).heap.size (Go.Sort.grow (redrawn w26 d) os) w9 := fun d os => by
          have h9 := iInReg w26.heap.size Mb cd _ Wb ld px py (Go.Sort.grow (redrawn w26 d) os) (by omega) (HA_d.out.on (below_regrown w26 d os)) (below_regrown w26 d os).size
          rw [e2] at h9
          exact h9
        have kA : ∀ d os, Calls Tryz.prog 17 #[.agg #[.int .i64 Wb, .slice (some ⟨gb, 0, none⟩) Mb cb]] (Go.Sort.grow (redrawn w26 d) os) fun e w9 => e = .returned (.int .i64 Q) ∧ Below (Go.Sort.grow (redrawn w26 d) os).heap.size (Go.Sort.grow (redrawn w26 d) os) w9 := fun d os => by
          have h9 := iArea w26.heap.size Mb cb _ Wb lb (Go.Sort.grow (redrawn w26 d) os) (by omega) (HA_b.out.on (below_regrown w26 d os)) (below_regrown w26 d os).size
          rw [hQ] at h9
          exact h9
        have kD : ∀ d os, Calls Tryz.prog 17 #[.agg #[.int .i64 Wb, .slice (some ⟨gd, 0, none⟩) Mb cd]] (Go.Sort.grow (redrawn w26 d) os) fun e w9 => e = .returned (.int .i64 (Q - 1)) ∧ Below (Go.Sort.grow (redrawn w26 d) os).heap.size (Go.Sort.grow (redrawn w26 d) os) w9 := fun d os => by
          have h9 := iArea w26.heap.size Mb cd _ Wb ld (Go.Sort.grow (redrawn w26 d) os) (by omega) (HA_d.out.on (below_regrown w26 d os)) (below_regrown w26 d os).size
          rw [e1] at h9
          exact h9
        clear e1 e2 hQ
        clear HQT HRA
        refine wp_region_quiet_below hmix (by kernel_rfl) ?_
        repeat (first | (go_big_quiet_step (first | (go_at_call 13; with_reducible refine Calls.regrown_of (kE _ _)) | (go_at_call 22; with_reducible refine Calls.regrown_of (kJ _ _)) | (go_at_call 17; with_reducible refine Calls.regrown_of (kD _ _)) | (go_at_call 17; with_reducible refine Calls.regrown_of (kA _ _)) | (go_at_call 22; with_reducible refine Calls.regrown_of (kI _ _)))) | (quiet_step (first | (go_at_call 13; with_reducible refine Calls.regrown_of (kE _ _)) | (go_at_call 22; with_reducible refine Calls.regrown_of (kJ _ _)) | (go_at_call 17; with_reducible refine Calls.regrown_of (kD _ _)) | (go_at_call 17; with_reducible refine Calls.regrown_of (kA _ _)) | (go_at_call 22; with_reducible refine Calls.regrown_of (kI _ _)))))
        refine wpQuiet_nil ?_
        intro _ hw9
        obtain ⟨⟨nq, osq⟩, hw8⟩ := hw9
        subst hw8
        have hbz := below_regrown w26 nq osq
        go_wp2_with fail
        go_meet
        exact ⟨rfl, hbz⟩
    case rest =>
    obtain ⟨rfl, hb⟩ := hcut
    obtain ⟨w27, rfl⟩ : ∃ x, x = wc := ⟨_, rfl⟩
    have ST_w27 := Lib.hid (ST_w26.out.go hb)
    replace HV_a := Lib.hid (HV_a.out.on hb HV_a.out.lt)
    replace HV_b := Lib.hid (HV_b.out.on hb HV_b.out.lt)
    replace HV_c := Lib.hid (HV_c.out.on hb HV_c.out.lt)
    replace HV_d := Lib.hid (HV_d.out.on hb HV_d.out.lt)
    replace HA_a := Lib.hid ((HA_a.out.on hb).more hb.size)
    replace HA_b := Lib.hid ((HA_b.out.on hb).more hb.size)
    replace HA_c := Lib.hid ((HA_c.out.on hb).more hb.size)
    replace HA_d := Lib.hid ((HA_d.out.on hb).more hb.size)
    clear ST_w26
    clear hb
    clear HV_b
    clear HA_b
    clear HV_c
    clear HA_c
    clear HV_d
    clear HA_d
    clear HI_b HDI HRA HLD HTT hldl
    go_wp2_with fail
    refine (dShpR a0 len0 cap0 w27 ST_w27.out.2.1 hl0).mono ?_
    rintro e w28 ⟨se, ne, ce, E, rfl, hat, hce, hne, hb⟩
    have ST_w28 := Lib.hid (ST_w27.out.go hb)
    replace HV_a := Lib.hid (HV_a.out.on hb HV_a.out.lt)
    replace HA_a := Lib.hid ((HA_a.out.on hb).more hb.size)
    clear ST_w27
    clear hb
    have HC_e := Lib.hid hat
    have hel : E.length = ne := hat.1
    clear hat
    go_wp2_with fail
    obtain ⟨Wf, hWf⟩ : ∃ z, shpW E = z := ⟨_, rfl⟩
    obtain ⟨lf, hlf⟩ : ∃ z, shpL E = z := ⟨_, rfl⟩
    obtain ⟨f5, hf5⟩ : ∃ z, shpOk E = z := ⟨_, rfl⟩
    have hfl := shpL_len E
    have HFI := Lib.hid (shpL_in E)
    have HF5 := Lib.hid (fun h => @shp_area E h)
    rw [hlf] at hfl HFI
    rw [hWf, hlf, hf5] at HF5
    have HFW := Lib.hid hWf
    have HFL := Lib.hid hlf
    have HFO := Lib.hid hf5
    clear hWf hlf hf5
    refine (iShp w28.heap.size ne ce _ E w28 (by omega) HC_e.out (Nat.le_refl _)).mono ?_
    rintro e w29 ⟨v, rfl, ho, hb⟩
    rw [HFL.out] at ho
    rw [HFW.out, HFO.out]
    obtain ⟨af, cf, rfl⟩ := own_sl_i ho
    have ST_w29 := Lib.hid (ST_w28.out.go hb)
    replace HV_a := Lib.hid (HV_a.out.on hb HV_a.out.lt)
    replace HA_a := Lib.hid ((HA_a.out.on hb).more hb.size)
    replace HC_e := Lib.hid (at_go HC_e.out hb)
    clear ST_w28
    clear hb
    have HA_f := Lib.hid (IntsAt.of_own ho HFI.out)
    clear ho
    obtain ⟨bf, hbf⟩ : ∃ b, w29.heap.size = b := ⟨_, rfl⟩
    have hb := (Below.refl w29.heap.size w29).alloc (Nat.le_refl _) (.cells #[.int .i64 Wf, .slice af lf.length cf] 26)
    have ST_w30 := Lib.hid (ST_w29.out.go hb)
    replace HV_a := Lib.hid (HV_a.out.on hb HV_a.out.lt)
    replace HA_a := Lib.hid ((HA_a.out.on hb).more hb.size)
    replace HA_f := Lib.hid ((HA_f.out.on hb).more hb.size)
    replace HC_e := Lib.hid (at_go HC_e.out hb)
    clear ST_w29
    clear hb
    have HV_f := Lib.hid (RgAt.new (w := w29) Wf (.slice af lf.length cf) hbf)
    go_wp2_with fail
    generalize (w29.alloc (.cells #[.int .i64 Wf, .slice af lf.length cf] 26)) = w30 at *
    clear hbf
    refine (sShp w30.heap.size ne ce _ E w30 (by omega) HC_e.out (Nat.le_refl _)).mono ?_
    rintro e w31 ⟨v, rfl, ho, hb⟩
    rw [HFL.out] at ho
    rw [HFW.out, HFO.out]
    obtain ⟨ag, cg, rfl⟩ := own_sl_i ho
    have ST_w31 := Lib.hid (ST_w30.out.go hb)
    replace HV_a := Lib.hid (HV_a.out.on hb HV_a.out.lt)
    replace HV_f := Lib.hid (HV_f.out.on hb HV_f.out.lt)
    replace HA_a := Lib.hid ((HA_a.out.on hb).more hb.size)
    replace HA_f := Lib.hid ((HA_f.out.on hb).more hb.size)
    replace HC_e := Lib.hid (at_go HC_e.out hb)
    clear ST_w30
    clear hb
    have HA_g := Lib.hid (IntsAt.of_own ho HFI.out)
    clear ho
    obtain ⟨bg, hbg⟩ : ∃ b, w31.heap.size = b := ⟨_, rfl⟩
    have hb := (Below.refl w31.heap.size w31).alloc (Nat.le_refl _) (.cells #[.int .i64 Wf, .slice ag lf.length cg] 26)
    have ST_w32 := Lib.hid (ST_w31.out.go hb)
    replace HV_a := Lib.hid (HV_a.out.on hb HV_a.out.lt)
    replace HV_f := Lib.hid (HV_f.out.on hb HV_f.out.lt)
    replace HA_a := Lib.hid ((HA_a.out.on hb).more hb.size)
    replace HA_f := Lib.hid ((HA_f.out.on hb).more hb.size)
    replace HA_g := Lib.hid ((HA_g.out.on hb).more hb.size)
    replace HC_e := Lib.hid (at_go HC_e.out hb)
    clear ST_w31
    clear hb
    have HV_g := Lib.hid (RgAt.new (w := w31) Wf (.slice ag lf.length cg) hbg)
    go_wp2_with fail
    generalize (w31.alloc (.cells #[.int .i64 Wf, .slice ag lf.length cg] 26)) = w32 at *
    clear hbg
    clear HC_e
    clear HFW HFL HFO HFI
    refine (dColR a0 len0 cap0 w32 ST_w32.out.2.1 hl0).mono ?_
    rintro e w33 ⟨Wh, Mh, gh, ch, lh, kk, rfl, hk1, hk2, hMh, hin, hown, hb⟩
    have ST_w33 := Lib.hid (ST_w32.out.go hb)
    replace HV_a := Lib.hid (HV_a.out.on hb HV_a.out.lt)
    replace HV_f := Lib.hid (HV_f.out.on hb HV_f.out.lt)
    replace HV_g := Lib.hid (HV_g.out.on hb HV_g.out.lt)
    replace HA_a := Lib.hid ((HA_a.out.on hb).more hb.size)
    replace HA_f := Lib.hid ((HA_f.out.on hb).more hb.size)
    replace HA_g := Lib.hid ((HA_g.out.on hb).more hb.size)
    clear ST_w32
    clear hb
    have HA_h := Lib.hid (IntsAt.of_own hown hin)
    clear hown hin
    obtain ⟨bh, hbh⟩ : ∃ b, w33.heap.size = b := ⟨_, rfl⟩
    have hb := (Below.refl w33.heap.size w33).alloc (Nat.le_refl _) (.cells #[.int .i64 Wh, .slice (some ⟨gh, 0, none⟩) Mh ch] 26)
    have ST_w34 := Lib.hid (ST_w33.out.go hb)
    replace HV_a := Lib.hid (HV_a.out.on hb HV_a.out.lt)
    replace HV_f := Lib.hid (HV_f.out.on hb HV_f.out.lt)
    replace HV_g := Lib.hid (HV_g.out.on hb HV_g.out.lt)
    replace HA_a := Lib.hid ((HA_a.out.on hb).more hb.size)
    replace HA_f := Lib.hid ((HA_f.out.on hb).more hb.size)
    replace HA_g := Lib.hid ((HA_g.out.on hb).more hb.size)
    replace HA_h := Lib.hid ((HA_h.out.on hb).more hb.size)
    clear ST_w33
    clear hb
    have HV_h := Lib.hid (RgAt.new (w := w33) Wh (.slice (some ⟨gh, 0, none⟩) Mh ch) hbh)
    go_wp2_with fail
    generalize (w33.alloc (.cells #[.int .i64 Wh, .slice (some ⟨gh, 0, none⟩) Mh ch] 26)) = w34 at *
    clear hbh
    refine (dRectOf w34.heap.size len0 cap0 a0 w34 ST_w34.out.2.1 hl0 (Nat.le_refl _)).mono ?_
    rintro e w35 ⟨rw, rv9, rfl, hrx, hry, hb⟩
    have ST_w35 := Lib.hid (ST_w34.out.go hb)
    replace HV_a := Lib.hid (HV_a.out.on hb HV_a.out.lt)
    replace HV_f := Lib.hid (HV_f.out.on hb HV_f.out.lt)
    replace HV_g := Lib.hid (HV_g.out.on hb HV_g.out.lt)
    replace HV_h := Lib.hid (HV_h.out.on hb HV_h.out.lt)
    replace HA_a := Lib.hid ((HA_a.out.on hb).more hb.size)
    replace HA_f := Lib.hid ((HA_f.out.on hb).more hb.size)
    replace HA_g := Lib.hid ((HA_g.out.on hb).more hb.size)
    replace HA_h := Lib.hid ((HA_h.out.on hb).more hb.size)
    clear ST_w34
    clear hb
    go_wp2_with fail
    obtain ⟨Wi, hWi⟩ : ∃ z, rectW rw rv9 = z := ⟨_, rfl⟩
    obtain ⟨li, hli⟩ : ∃ z, rectL rw rv9 = z := ⟨_, rfl⟩
    obtain ⟨s7, hs7⟩ : ∃ z, rectOk rw rv9 = z := ⟨_, rfl⟩
    have hil := rectL_len rw rv9
    have HII := Lib.hid (rectL_in rw rv9)
    rw [hli] at hil HII
    have HIW := Lib.hid hWi
    have HIL := Lib.hid hli
    have HIO := Lib.hid hs7
    clear hWi hli hs7
    refine (iRect rw rv9 w35).mono ?_
    rintro e w36 ⟨v, rfl, ho, hb⟩
    rw [HIL.out] at ho
    rw [HIW.out, HIO.out]
    obtain ⟨ai, ci, rfl⟩ := own_sl_i ho
    have ST_w36 := Lib.hid (ST_w35.out.go hb)
    replace HV_a := Lib.hid (HV_a.out.on hb HV_a.out.lt)
    replace HV_f := Lib.hid (HV_f.out.on hb HV_f.out.lt)
    replace HV_g := Lib.hid (HV_g.out.on hb HV_g.out.lt)
    replace HV_h := Lib.hid (HV_h.out.on hb HV_h.out.lt)
    replace HA_a := Lib.hid ((HA_a.out.on hb).more hb.size)
    replace HA_f := Lib.hid ((HA_f.out.on hb).more hb.size)
    replace HA_g := Lib.hid ((HA_g.out.on hb).more hb.size)
    replace HA_h := Lib.hid ((HA_h.out.on hb).more hb.size)
    clear ST_w35
    clear hb
    have HA_i := Lib.hid (IntsAt.of_own ho HII.out)
    clear ho
    obtain ⟨bi, hbi⟩ : ∃ b, w36.heap.size = b := ⟨_, rfl⟩
    have hb := (Below.refl w36.heap.size w36).alloc (Nat.le_refl _) (.cells #[.int .i64 Wi, .slice ai li.length ci] 26)
    have ST_w37 := Lib.hid (ST_w36.out.go hb)
    replace HV_a := Lib.hid (HV_a.out.on hb HV_a.out.lt)
    replace HV_f := Lib.hid (HV_f.out.on hb HV_f.out.lt)
    replace HV_g := Lib.hid (HV_g.out.on hb HV_g.out.lt)
    replace HV_h := Lib.hid (HV_h.out.on hb HV_h.out.lt)
    replace HA_a := Lib.hid ((HA_a.out.on hb).more hb.size)
    replace HA_f := Lib.hid ((HA_f.out.on hb).more hb.size)
    replace HA_g := Lib.hid ((HA_g.out.on hb).more hb.size)
    replace HA_h := Lib.hid ((HA_h.out.on hb).more hb.size)
    replace HA_i := Lib.hid ((HA_i.out.on hb).more hb.size)
    clear ST_w36
    clear hb
    have HV_i := Lib.hid (RgAt.new (w := w36) Wi (.slice ai li.length ci) hbi)
    go_wp2_with fail
    generalize (w36.alloc (.cells #[.int .i64 Wi, .slice ai li.length ci] 26)) = w37 at *
    clear hbi
    refine (sRect rw rv9 w37).mono ?_
    rintro e w38 ⟨v, rfl, ho, hb⟩
    rw [HIL.out] at ho
    rw [HIW.out, HIO.out]
    obtain ⟨aj, cj, rfl⟩ := own_sl_i ho
    have ST_w38 := Lib.hid (ST_w37.out.go hb)
    replace HV_a := Lib.hid (HV_a.out.on hb HV_a.out.lt)
    replace HV_f := Lib.hid (HV_f.out.on hb HV_f.out.lt)
    replace HV_g := Lib.hid (HV_g.out.on hb HV_g.out.lt)
    replace HV_h := Lib.hid (HV_h.out.on hb HV_h.out.lt)
    replace HV_i := Lib.hid (HV_i.out.on hb HV_i.out.lt)
    replace HA_a := Lib.hid ((HA_a.out.on hb).more hb.size)
    replace HA_f := Lib.hid ((HA_f.out.on hb).more hb.size)
    replace HA_g := Lib.hid ((HA_g.out.on hb).more hb.size)
    replace HA_h := Lib.hid ((HA_h.out.on hb).more hb.size)
    replace HA_i := Lib.hid ((HA_i.out.on hb).more hb.size)
    clear ST_w37
    clear hb
    have HA_j := Lib.hid (IntsAt.of_own ho HII.out)
    clear ho
    obtain ⟨bj, hbj⟩ : ∃ b, w38.heap.size = b := ⟨_, rfl⟩
    have hb := (Below.refl w38.heap.size w38).alloc (Nat.le_refl _) (.cells #[.int .i64 Wi, .slice aj li.length cj] 26)
    have ST_w39 := Lib.hid (ST_w38.out.go hb)
    replace HV_a := Lib.hid (HV_a.out.on hb HV_a.out.lt)
    replace HV_f := Lib.hid (HV_f.out.on hb HV_f.out.lt)
    replace HV_g := Lib.hid (HV_g.out.on hb HV_g.out.lt)
    replace HV_h := Lib.hid (HV_h.out.on hb HV_h.out.lt)
    replace HV_i := Lib.hid (HV_i.out.on hb HV_i.out.lt)
    replace HA_a := Lib.hid ((HA_a.out.on hb).more hb.size)
    replace HA_f := Lib.hid ((HA_f.out.on hb).more hb.size)
    replace HA_g := Lib.hid ((HA_g.out.on hb).more hb.size)
    replace HA_h := Lib.hid ((HA_h.out.on hb).more hb.size)
    replace HA_i := Lib.hid ((HA_i.out.on hb).more hb.size)
    replace HA_j := Lib.hid ((HA_j.out.on hb).more hb.size)
    clear ST_w38
    clear hb
    have HV_j := Lib.hid (RgAt.new (w := w38) Wi (.slice aj li.length cj) hbj)
    go_wp2_with fail
    generalize (w38.alloc (.cells #[.int .i64 Wi, .slice aj li.length cj] 26)) = w39 at *
    clear hbj
    clear HIW HIL HIO HII hrx hry
    refine (dEqRR a0 len0 cap0 w39 ST_w39.out.2.1 hl0).mono ?_
    rintro e w40 ⟨Wo, Mo, go, co, lo, Wq, Mq, gq, cq, lq, rfl, hMo, hio, hoo, hMq, hiq, hoq, hb⟩
    have ST_w40 := Lib.hid (ST_w39.out.go hb)
    replace HV_a := Lib.hid (HV_a.out.on hb HV_a.out.lt)
    replace HV_f := Lib.hid (HV_f.out.on hb HV_f.out.lt)
    replace HV_g := Lib.hid (HV_g.out.on hb HV_g.out.lt)
    replace HV_h := Lib.hid (HV_h.out.on hb HV_h.out.lt)
    replace HV_i := Lib.hid (HV_i.out.on hb HV_i.out.lt)
    replace HV_j := Lib.hid (HV_j.out.on hb HV_j.out.lt)
    replace HA_a := Lib.hid ((HA_a.out.on hb).more hb.size)
    replace HA_f := Lib.hid ((HA_f.out.on hb).more hb.size)
    replace HA_g := Lib.hid ((HA_g.out.on hb).more hb.size)
    replace HA_h := Lib.hid ((HA_h.out.on hb).more hb.size)
    replace HA_i := Lib.hid ((HA_i.out.on hb).more hb.size)
    replace HA_j := Lib.hid ((HA_j.out.on hb).more hb.size)
    clear ST_w39
    clear hb
    have HA_o := Lib.hid (IntsAt.of_own hoo hio)
    have HA_q := Lib.hid (IntsAt.of_own hoq hiq)
    clear hoo hio hoq hiq
    obtain ⟨bo, hbo⟩ : ∃ b, w40.heap.size = b := ⟨_, rfl⟩
    have hsa : (w40.alloc (.cells #[.int .i64 0, .slice none 0 0] 26)).heap.size = bo + 1 := by simp [hbo]
    have hsa2 : (w40.alloc (.cells #[.int .i64 Wo, .slice (some ⟨go, 0, none⟩) Mo co] 26)).heap.size = bo + 1 := by simp [hbo]
    have hb := ((Below.refl w40.heap.size w40).alloc (Nat.le_refl _) (.cells #[.int .i64 Wo, .slice (some ⟨go, 0, none⟩) Mo co] 26)).alloc (by rw [hsa2, ← hbo]; omega) (.cells #[.int .i64 Wq, .slice (some ⟨gq, 0, none⟩) Mq cq] 26)
    have ST_w41 := Lib.hid (ST_w40.out.go hb)
    replace HV_a := Lib.hid (HV_a.out.on hb HV_a.out.lt)
    replace HV_f := Lib.hid (HV_f.out.on hb HV_f.out.lt)
    replace HV_g := Lib.hid (HV_g.out.on hb HV_g.out.lt)
    replace HV_h := Lib.hid (HV_h.out.on hb HV_h.out.lt)
    replace HV_i := Lib.hid (HV_i.out.on hb HV_i.out.lt)
    replace HV_j := Lib.hid (HV_j.out.on hb HV_j.out.lt)
    replace HA_a := Lib.hid ((HA_a.out.on hb).more hb.size)
    replace HA_f := Lib.hid ((HA_f.out.on hb).more hb.size)
    replace HA_g := Lib.hid ((HA_g.out.on hb).more hb.size)
    replace HA_h := Lib.hid ((HA_h.out.on hb).more hb.size)
    replace HA_i := Lib.hid ((HA_i.out.on hb).more hb.size)
    replace HA_j := Lib.hid ((HA_j.out.on hb).more hb.size)
    replace HA_o := Lib.hid ((HA_o.out.on hb).more hb.size)
    replace HA_q := Lib.hid ((HA_q.out.on hb).more hb.size)
    clear ST_w40
    clear hb
    have HV_o := Lib.hid ((RgAt.new (w := w40) Wo (.slice (some ⟨go, 0, none⟩) Mo co) hbo).alloc (.cells #[.int .i64 Wq, .slice (some ⟨gq, 0, none⟩) Mq cq] 26))
    have HV_q := Lib.hid (RgAt.new (w := w40.alloc (.cells #[.int .i64 Wo, .slice (some ⟨go, 0, none⟩) Mo co] 26)) Wq (.slice (some ⟨gq, 0, none⟩) Mq cq) hsa2)
    go_upto_region 36 with fail
    generalize ((w40.alloc (.cells #[.int .i64 Wo, .slice (some ⟨go, 0, none⟩) Mo co] 26)).alloc (.cells #[.int .i64 Wq, .slice (some ⟨gq, 0, none⟩) Mq cq] 26)) = wz at *
    refine reg36 HV_f HA_f HV_g HA_g HV_h HA_h HV_i HA_i HV_j HA_j HV_a HA_a HV_o HA_o HV_q HA_q hel HF5 hfl hil hMa hMh hMo hMq (fun _ _ _ _ _ h => h) ?_
    intro v252 v253 v254 v255 v256 v257 v258 v259 v260 v261 v262 v263 v264 v265 v266 v267 v268 v269 v270 v271 v272 v273 v274 v275 v276 v277 v278 v279 v280 v281 v282 v283 v284 v285 v286 v287 v288 v289 v290 v291 v292 v293 v294 v295 v296 v297 v298 v299 v300 v301 v302 v303 v304 v305 wf hb
    have HEND := Lib.hid (ST_w41.out.1.trans (hb.mono ST_w41.out.1.size))
    clear hb
    (try simp only [Exit.then])
    go_wp2
    go_ret
    exact ⟨rfl, HEND.out⟩

theorem mx_of_shape {W : World} (h : W.ShapedOpen Tryz.prog) : Mx W := Tryz.laysM146.s1_3 W h

end Go.Proofs.YtcfioncnpfoccaaGreatDoor
