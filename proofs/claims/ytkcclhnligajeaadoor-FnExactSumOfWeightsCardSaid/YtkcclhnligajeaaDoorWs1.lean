/-
  Are these weights, the sum of weights: in the model: what each call gives.
-/
import Derived.Test.YtkcclhnligajeaaDoorVaj
import Derived.Test.YtkcclhnligajeaaDoorSm1
import Derived.Test.YtkcclhnligajeaaDoorVak
import Derived.Test.YtkcclhnligajeaaDoorVal
namespace Go.Proofs.YtkcclhnligajeaaDoor
open Go.RowKit

theorem inb_inZ (p z : Int) : inb z 0 (p - 1) = inZ p z := by
  unfold inb inZ
  congr 1
  rw [decide_eq_decide]
  omega
theorem inZ_iff (p z : Int) : inZ p z = true ↔ 0 ≤ z ∧ z < p := by unfold inZ; simp
set_option maxHeartbeats 4000000 in
set_option maxRecDepth 100000 in
theorem sAreW (B n cap m3 cap3 : Nat) (a a3 : Option Addr) (W : Int) (l ws : List Int) (p : Int) (w : World) (hn : n ≤ 4194304) (hm : m3 ≤ 4194304) (hc : IntsAt B w a n l) (hw : IntsAt B w a3 m3 ws) (hB : B ≤ w.heap.size) :
    Calls Tryd.prog 12 #[.agg #[.int .i64 W, .slice a n cap], .slice a3 m3 cap3, .int .i64 p] w fun e w' => e = .returned (.bool (areW W l ws p)) ∧ Below w.heap.size w w' := by
  have H := Lib.hid hc
  have HW := Lib.hid hw
  have hln := hc.1
  have hlw := hw.1
  clear hc hw
  have hb0 := (Below.refl w.heap.size w).alloc (Nat.le_refl _) (.cells #[.int .i64 W, .slice a n cap] 27)
  have hbox0 := RgAt.new (w := w) W (.slice a n cap) rfl
  have c0 := hbox0.c0
  have c1 := hbox0.c1
  cases h1 : isReg W l with
  | false =>
    have HO := Lib.hid (show areW W l ws p = false from by unfold areW; rw [h1]; rfl)
    have HI := Lib.hid h1
    rw [HO.out]
    clear h1
    go_enter Tryd.func12, Tryd.ntmps12
    go_wp2_with fail
    refine (sIsReg B n cap a W l _ hn (H.out.on (hb0.mono hB)) (Nat.le_trans hB hb0.size)).mono ?_
    rintro e w1 ⟨rfl, hb⟩
    rw [HI.out]
    go_wp2
    go_ret
    exact ⟨rfl, hb0.trans (hb.mono hb0.size)⟩
  | true =>
    have HI := Lib.hid h1
    obtain ⟨N, rfl, hr⟩ := isReg_out h1
    rw [hln] at hr
    cases h2 : prmB p with
    | false =>
      have HO := Lib.hid (show areW N l ws p = false from by unfold areW; rw [h1, h2]; rfl)
      have HP := Lib.hid h2
      rw [HO.out]
      clear h1 h2 hr
      go_enter Tryd.func12, Tryd.ntmps12
      go_wp2_with fail
      refine (sIsReg B n cap a N l _ hn (H.out.on (hb0.mono hB)) (Nat.le_trans hB hb0.size)).mono ?_
      rintro e w1 ⟨rfl, hb⟩
      rw [HI.out]
      have HB1 := Lib.hid (hb0.trans (hb.mono hb0.size))
      clear hb hb0 c0 c1 hbox0
      go_wp2_with fail
      refine (sPrm p w1).mono ?_
      rintro e w2 ⟨rfl, rfl⟩
      rw [HP.out]
      go_wp2
      go_ret
      exact ⟨rfl, HB1.out⟩
    | true =>
      have HP := Lib.hid h2
      have HE := Lib.hid (show areW N l ws p = (decide (m3 = plcN N l) && inPW p ws) from by unfold areW; rw [h1, h2, hlw]; rfl)
      have hp5 := ((prmB_iff p).1 h2).pos
      have hm36 := mul_36 hr.w6 hr.h6
      have hpb := plcN_bd hr
      have HT := Lib.hid (plcN_rg hr)
      have hmm := hm36.2
      obtain ⟨t, ht⟩ : ∃ t, plcN N l = t := ⟨_, rfl⟩
      rw [ht] at HE hpb HT
      rw [← HT.out] at hm36
      have HM := Lib.hid hm36.1
      clear h1 h2 hr ht hm36
      have hpw : (-9223372036854775807 : Int) ≤ p ∧ p ≤ 5 := by omega
      by_cases hl : m3 = t
      · have hb : ((m3 : Int) != ((N : Int) * (n : Int))) = false := by rw [HM.out]; simp [hl]
        have HD := Lib.hid (show areW N l ws p = inTo p ws m3 from by rw [HE.out, decide_eq_true hl, Bool.true_and]; unfold inPW; rw [hlw])
        rw [HD.out]
        clear hl
        go_enter Tryd.func12, Tryd.ntmps12
        go_wp2_with fail
        refine (sIsReg B n cap a N l _ hn (H.out.on (hb0.mono hB)) (Nat.le_trans hB hb0.size)).mono ?_
        rintro e w1 ⟨rfl, hb9⟩
        rw [HI.out]
        have HB1 := Lib.hid (hb0.trans (hb9.mono hb0.size))
        have hbx := hbox0.on hb9 hbox0.lt
        clear hb9 hb0 c0 c1 hbox0
        have c0 := hbx.c0
        have c1 := hbx.c1
        go_wp2_with fail
        refine (sPrm p w1).mono ?_
        rintro e w2 ⟨rfl, rfl⟩
        rw [HP.out]
        go_wp2
        go_loopw [7] (fun i wr => ∃ k : Nat, k ≤ m3 ∧ i = .int .i64 k ∧ Hid (inTo p ws k = true) ∧ Hid (wr = w2)) (fun i _ => m3 - (intOf i).toNat)
        case atStart => exact ⟨0, by omega, rfl, by simp [Hid, inTo, allN], rfl⟩
        case round =>
          obtain ⟨k, hk, rfl, ho, hw⟩ := hrel
          by_cases hlt : k < m3
          · have hk1 : (k : Int) < (m3 : Int) := by omega
            have hk0 : (0 : Int) ≤ (k : Int) := by omega
            obtain ⟨b, off, rfl, hbB, hcell⟩ := HW.out.2.2 (by omega)
            have p1 := (HB1.out.cell (p := ⟨b, off + k, none⟩) (Nat.lt_of_lt_of_le hbB hB)).trans (hcell k hlt)
            rw [← hw.out] at p1
            have HS := Lib.hid (inTo_step p ws k)
            have HF := Lib.hid (fun h => inTo_bad (p := p) (ws := ws) (k := k) (n := m3) h (by omega))
            obtain ⟨q, hq⟩ : ∃ q, ws.getD k 0 = q := ⟨_, rfl⟩
            rw [hq] at p1 HS HF
            clear hcell hq
            go_wp2_with fail
            refine (sIn q 0 (p - 1) wr).mono ?_
            rintro e w3 ⟨rfl, rfl⟩
            rw [inb_inZ]
            cases hs : inZ p q with
            | false =>
              have HN := Lib.hid (HF.out (fun h9 => by rw [(inZ_iff p q).2 h9] at hs; cases hs))
              clear hs
              go_wp2
              go_ret
              exact ⟨by rw [HN.out]; rfl, by rw [hw.out]; exact HB1.out⟩
            | true =>
              have HN := Lib.hid (show inTo p ws (k + 1) = true from by rw [HS.out, ho.out]; exact hs)
              clear hs
              go_wp2
              go_roundw
              case rel => first
                | exact ⟨k + 1, by omega, by go_num, HN.out, hw⟩
                | (repeat apply Exists.intro
                   exact ⟨⟨k + 1, by omega, by go_num, HN.out, hw⟩, rfl⟩)
              case measure => first | (simp [intOf]; done) | (simp [intOf]; omega)
          · obtain rfl : k = m3 := by omega
            go_wp2
            go_ret
            exact ⟨by rw [ho.out]; rfl, by rw [hw.out]; exact HB1.out⟩
      · have hb : ((m3 : Int) != ((N : Int) * (n : Int))) = true := by rw [HM.out, bne_iff_ne]; omega
        have HD := Lib.hid (show areW N l ws p = false from by rw [HE.out, decide_eq_false hl, Bool.false_and])
        rw [HD.out]
        clear hl
        go_enter Tryd.func12, Tryd.ntmps12
        go_wp2_with fail
        refine (sIsReg B n cap a N l _ hn (H.out.on (hb0.mono hB)) (Nat.le_trans hB hb0.size)).mono ?_
        rintro e w1 ⟨rfl, hb9⟩
        rw [HI.out]
        have HB1 := Lib.hid (hb0.trans (hb9.mono hb0.size))
        have hbx := hbox0.on hb9 hbox0.lt
        clear hb9 hb0 c0 c1 hbox0
        have c0 := hbx.c0
        have c1 := hbx.c1
        go_wp2_with fail
        refine (sPrm p w1).mono ?_
        rintro e w2 ⟨rfl, rfl⟩
        rw [HP.out]
        go_wp2
        go_ret
        exact ⟨rfl, HB1.out⟩

theorem areW_len {W : Int} {l ws : List Int} {p : Int} (h : areW W l ws p = true) : ws.length ≤ 36 := by
  obtain ⟨h1, _, h3, _⟩ := areW_parts h
  obtain ⟨N, rfl, hr⟩ := isReg_out h1
  have := plcN_bd hr
  omega
theorem smN_yes {m : Nat} {ws : List Int} {k : Nat} (h : m.testBit k = true) : smN m ws (k + 1) = smN m ws k + ws.getD k 0 := by
  show smN m ws k + (if m.testBit k = true then ws.getD k 0 else 0) = _
  rw [if_pos h]
theorem smN_no {m : Nat} {ws : List Int} {k : Nat} (h : m.testBit k = false) : smN m ws (k + 1) = smN m ws k := by
  show smN m ws k + (if m.testBit k = true then ws.getD k 0 else 0) = _
  rw [h]
  simp
set_option maxHeartbeats 4000000 in
set_option maxRecDepth 100000 in
theorem sSumW (B n cap m3 cap3 : Nat) (a a3 : Option Addr) (W : Int) (l ws : List Int) (m p : Int) (w : World) (hm : In64 m) (hn : n ≤ 4194304) (hm3 : m3 ≤ 4194304) (hc : IntsAt B w a n l) (hw : IntsAt B w a3 m3 ws) (hB : B ≤ w.heap.size) :
    Calls Tryd.prog 5 #[.agg #[.int .i64 W, .slice a n cap], .int .i64 m, .slice a3 m3 cap3, .int .i64 p] w fun e w' => e = .returned (.int .i64 (sumW W l m ws p)) ∧ Below w.heap.size w w' := by
  have H := Lib.hid hc
  have HW := Lib.hid hw
  have hlw := hw.1
  clear hc hw
  unfold In64 at hm
  have hb0 := (Below.refl w.heap.size w).alloc (Nat.le_refl _) (.cells #[.int .i64 W, .slice a n cap] 27)
  have hbox0 := RgAt.new (w := w) W (.slice a n cap) rfl
  have c0 := hbox0.c0
  have c1 := hbox0.c1
  cases h1 : areW W l ws p with
  | false =>
    have HO := Lib.hid (sumW_no (m := m) (fun h9 => by rw [h1] at h9; cases h9.1))
    have HI := Lib.hid h1
    rw [HO.out]
    clear h1
    go_enter Tryd.func5, Tryd.ntmps5
    go_wp2_with fail
    refine (sAreW B n cap m3 cap3 a a3 W l ws p _ hn hm3 (H.out.on (hb0.mono hB)) (HW.out.on (hb0.mono hB)) (Nat.le_trans hB hb0.size)).mono ?_
    rintro e w1 ⟨rfl, hb⟩
    rw [HI.out]
    go_wp2
    go_ret
    exact ⟨rfl, hb0.trans (hb.mono hb0.size)⟩
  | true =>
    have HI := Lib.hid h1
    obtain ⟨-, hp, -, hin⟩ := areW_parts h1
    have hp5 := hp.pos
    have hlen := areW_len h1
    have HSB := Lib.hid (fun q k => smN_bd hin ⟨by omega, hp5.2⟩ q k)
    have HIN := Lib.hid (fun k => inPW_get hin (by omega) k)
    by_cases hm0 : m < 0
    · have HO := Lib.hid (sumW_no (W := W) (l := l) (m := m) (ws := ws) (p := p) (fun h9 => by rw [okM_neg (by omega)] at h9; cases h9.2))
      rw [HO.out]
      clear h1 hp hin
      go_enter Tryd.func5, Tryd.ntmps5
      go_wp2_with fail
      refine (sAreW B n cap m3 cap3 a a3 W l ws p _ hn hm3 (H.out.on (hb0.mono hB)) (HW.out.on (hb0.mono hB)) (Nat.le_trans hB hb0.size)).mono ?_
      rintro e w1 ⟨rfl, hb⟩
      rw [HI.out]
      have HB1 := Lib.hid (hb0.trans (hb.mono hb0.size))
      clear hb hb0 c0 c1 hbox0
      go_wp2
      go_ret
      exact ⟨rfl, HB1.out⟩
    · obtain ⟨k, rfl⟩ := Int.eq_ofNat_of_zero_le (show 0 ≤ m by omega)
      have hmk := maskR_lt W l
      have hand := i64_and_nat k (maskR W l) (by omega) (by omega)
      have HOM := Lib.hid (okM_nat (areW_parts h1).1 k)
      cases h2 : okM W l (k : Int) with
      | false =>
        have HO := Lib.hid (sumW_no (W := W) (l := l) (m := (k : Int)) (ws := ws) (p := p) (fun h9 => by rw [h2] at h9; cases h9.2))
        have hne : ¬ k &&& maskR W l = k := fun h9 => by
          have h8 := HOM.out
          rw [h2, decide_eq_true h9] at h8
          cases h8
        have hb9 : (bits .and .i64 (k : Int) ((maskR W l : Nat) : Int) != (k : Int)) = true := by
          rw [hand, bne_iff_ne]
          omega
        rw [HO.out]
        obtain ⟨q, hq⟩ : ∃ q, maskR W l = q := ⟨_, rfl⟩
        have HQ := Lib.hid hq
        rw [hq] at hb9
        clear h1 h2 hp hin hand hne hq
        go_enter Tryd.func5, Tryd.ntmps5
        go_wp2_with fail
        refine (sAreW B n cap m3 cap3 a a3 W l ws p _ hn hm3 (H.out.on (hb0.mono hB)) (HW.out.on (hb0.mono hB)) (Nat.le_trans hB hb0.size)).mono ?_
        rintro e w1 ⟨rfl, hb⟩
        rw [HI.out]
        have HB1 := Lib.hid (hb0.trans (hb.mono hb0.size))
        have hbx := hbox0.on hb hbox0.lt
        clear hb hb0 c0 c1 hbox0
        have c0 := hbx.c0
        have c1 := hbx.c1
        go_wp2_with fail
        refine (sMask B n cap a W l w1 hn (H.out.on (HB1.out.mono hB)) (Nat.le_trans hB HB1.out.size)).mono ?_
        rintro e w2 ⟨rfl, hb⟩
        rw [HQ.out]
        have HB2 := Lib.hid (HB1.out.trans (hb.mono HB1.out.size))
        clear hb c0 c1 hbx
        go_wp2
        go_ret
        exact ⟨rfl, HB2.out⟩
      | true =>
        have HO := Lib.hid (show sumW W l (k : Int) ws p = smN k ws m3 % p from by rw [sumW_yes h1 h2, hlw])
        have hklt := okM_lt h2
        have hne : k &&& maskR W l = k := by
          have h8 := HOM.out
          rw [h2] at h8
          exact of_decide_eq_true h8.symm
        have hb9 : (bits .and .i64 (k : Int) ((maskR W l : Nat) : Int) != (k : Int)) = false := by
          rw [hand, hne]
          simp
        rw [HO.out]
        rw [hlw] at hlen
        obtain ⟨q, hq⟩ : ∃ q, maskR W l = q := ⟨_, rfl⟩
        have HQ := Lib.hid hq
        rw [hq] at hb9
        have hpn : ¬ p = 0 := by omega
        clear h1 h2 hp hin hand hne hq HOM hmk
        go_enter Tryd.func5, Tryd.ntmps5
        go_wp2_with fail
        refine (sAreW B n cap m3 cap3 a a3 W l ws p _ hn hm3 (H.out.on (hb0.mono hB)) (HW.out.on (hb0.mono hB)) (Nat.le_trans hB hb0.size)).mono ?_
        rintro e w1 ⟨rfl, hb⟩
        rw [HI.out]
        have HB1 := Lib.hid (hb0.trans (hb.mono hb0.size))
        have hbx := hbox0.on hb hbox0.lt
        clear hb hb0 c0 c1 hbox0
        have c0 := hbx.c0
        have c1 := hbx.c1
        go_wp2_with fail
        refine (sMask B n cap a W l w1 hn (H.out.on (HB1.out.mono hB)) (Nat.le_trans hB HB1.out.size)).mono ?_
        rintro e w2 ⟨rfl, hb⟩
        rw [HQ.out]
        have HB2 := Lib.hid (HB1.out.trans (hb.mono HB1.out.size))
        clear hb c0 c1 hbx
        go_wp2
        go_loopw [9, 10] (fun v i wr => ∃ j : Nat, j ≤ m3 ∧ i = .int .i64 j ∧ v = .int .i64 (smN k ws j) ∧ Hid (wr = w2)) (fun _ i _ => m3 - (intOf i).toNat)
        case atStart => exact ⟨0, by omega, rfl, rfl, rfl⟩
        case round =>
          obtain ⟨j, hj, rfl, rfl, hw⟩ := hrel
          have hsb := HSB.out k j
          by_cases hlt : j < m3
          · have hj1 : (j : Int) < (m3 : Int) := by omega
            have hj0 : (0 : Int) ≤ (j : Int) := by omega
            have hj6 : (j : Int) < 64 := by omega
            obtain ⟨b, off, rfl, hbB, hcell⟩ := HW.out.2.2 (by omega)
            have p1 := (HB2.out.cell (p := ⟨b, off + j, none⟩) (Nat.lt_of_lt_of_le hbB hB)).trans (hcell j hlt)
            rw [← hw.out] at p1
            obtain ⟨t, t1, t2, t3⟩ := shr_bitW k j hklt
            have hz := HIN.out j
            cases hbt : k.testBit j with
            | true =>
              have HN := Lib.hid (smN_yes (ws := ws) hbt)
              rw [hbt, if_pos rfl] at t3
              generalize ws.getD j 0 = z at p1 hz HN
              generalize smN k ws j = y at hsb HN
              clear hbt hcell
              go_wp2
              go_roundw
              case rel => first
                | exact ⟨j + 1, by omega, by go_num, by rw [HN.out], hw⟩
                | (repeat apply Exists.intro
                   exact ⟨⟨j + 1, by omega, by go_num, by rw [HN.out], hw⟩, rfl⟩)
              case measure => first | (simp [intOf]; done) | (simp [intOf]; omega)
            | false =>
              have HN := Lib.hid (smN_no (ws := ws) hbt)
              rw [hbt, if_neg (by simp)] at t3
              generalize ws.getD j 0 = z at p1 hz
              generalize smN k ws j = y at hsb HN
              clear hbt hcell
              go_wp2
              go_roundw
              case rel => first
                | exact ⟨j + 1, by omega, by go_num, by rw [HN.out], hw⟩
                | (repeat apply Exists.intro
                   exact ⟨⟨j + 1, by omega, by go_num, by rw [HN.out], hw⟩, rfl⟩)
              case measure => first | (simp [intOf]; done) | (simp [intOf]; omega)
          · obtain rfl : j = m3 := by omega
            go_wp2
            go_ret
            exact ⟨rfl, by rw [hw.out]; exact HB2.out⟩
end Go.Proofs.YtkcclhnligajeaaDoor
