/-
  Are these weights, the sum of weights: in the model: what each call gives.
  A region without calls that draws its order, within a round of a loop over an iterator: what holds of it plainly holds of it there.
  The sum of weights: in the program: what the call gives.
-/
import Derived.Test.YtkcclhnligajeaaGreatDoorVan
import Derived.Test.YtkcclhnligajeaaGreatDoorVah
import Derived.Test.YtkcclhnligajeaaGreatDoorVaq
import Derived.Test.YtkcclhnligajeaaGreatDoorVab
import Derived.OrdersIn
import Derived.OrdersHeld
namespace Go.Proofs.YtkcclhnligajeaaGreatDoor

section
open Go.RowKit

theorem inb_inZ (p z : Int) : inb z 0 (p - 1) = inZ p z := by
  unfold inb inZ
  congr 1
  rw [decide_eq_decide]
  omega
theorem inZ_iff (p z : Int) : inZ p z = true ↔ 0 ≤ z ∧ z < p := by unfold inZ; simp
set_option maxHeartbeats 4000000 in
set_option maxRecDepth 100000 in
theorem sAreW (B n cap m3 cap3 : Nat) (a a3 : Option Addr) (W : Int) (l ws : List Int) (p : Int) (w : World) (hn : n ≤ 4194304) (hm : m3 ≤ 4194304) (hc : IntsAt B w a n l) (hw : IntsAt B w a3 m3 ws) (hB : B ≤ w.heap.size) :
    Calls Tryz.prog 84 #[.agg #[.int .i64 W, .slice a n cap], .slice a3 m3 cap3, .int .i64 p] w fun e w' => e = .returned (.bool (areW W l ws p)) ∧ Below w.heap.size w w' := by
  have H := Lib.hid hc
  have HW := Lib.hid hw
  have hln := hc.1
  have hlw := hw.1
  clear hc hw
  have hb0 := (Below.refl w.heap.size w).alloc (Nat.le_refl _) (.cells #[.int .i64 W, .slice a n cap] 26)
  have hbox0 := RgAt.new (w := w) W (.slice a n cap) rfl
  have c0 := hbox0.c0
  have c1 := hbox0.c1
  cases h1 : isReg W l with
  | false =>
    have HO := Lib.hid (show areW W l ws p = false from by unfold areW; rw [h1]; rfl)
    have HI := Lib.hid h1
    rw [HO.out]
    clear h1
    go_enter Tryz.func84, Tryz.ntmps84
    go_wp2_with fail
    refine (sIsReg B n cap a W l _ hn (H.out.on (hb0.mono hB)) (Nat.le_trans hB hb0.size)).mono ?_
    rintro e w1 ⟨rfl, hb⟩
    rw [HI.out]
    go_wp2
    go_ret
    exact ⟨rfl, hb0.trans (hb.mono hb0.size)⟩
  | true =>
    have HI := Lib.hid h1
    obtain ⟨N, rfl, hr⟩ := isReg_out h1
    rw [hln] at hr
    cases h2 : prmB p with
    | false =>
      have HO := Lib.hid (show areW N l ws p = false from by unfold areW; rw [h1, h2]; rfl)
      have HP := Lib.hid h2
      rw [HO.out]
      clear h1 h2 hr
      go_enter Tryz.func84, Tryz.ntmps84
      go_wp2_with fail
      refine (sIsReg B n cap a N l _ hn (H.out.on (hb0.mono hB)) (Nat.le_trans hB hb0.size)).mono ?_
      rintro e w1 ⟨rfl, hb⟩
      rw [HI.out]
      have HB1 := Lib.hid (hb0.trans (hb.mono hb0.size))
      clear hb hb0 c0 c1 hbox0
      go_wp2_with fail
      refine (sPrm p w1).mono ?_
      rintro e w2 ⟨rfl, rfl⟩
      rw [HP.out]
      go_wp2
      go_ret
      exact ⟨rfl, HB1.out⟩
    | true =>
      have HP := Lib.hid h2
      have HE := Lib.hid (show areW N l ws p = (decide (m3 = plcN N l) && inPW p ws) from by unfold areW; rw [h1, h2, hlw]; rfl)
      have hp5 := ((prmB_iff p).1 h2).pos
      have hm36 := mul_36 hr.w6 hr.h6
      have hpb := plcN_bd hr
      have HT := Lib.hid (plcN_rg hr)
      have hmm := hm36.2
      obtain ⟨t, ht⟩ : ∃ t, plcN N l = t := ⟨_, rfl⟩
      rw [ht] at HE hpb HT
      rw [← HT.out] at hm36
      have HM := Lib.hid hm36.1
      clear h1 h2 hr ht hm36
      have hpw : (-9223372036854775807 : Int) ≤ p ∧ p ≤ 5 := by omega
      by_cases hl : m3 = t
      · have hb : ((m3 : Int) != ((N : Int) * (n : Int))) = false := by rw [HM.out]; simp [hl]
        have HD := Lib.hid (show areW N l ws p = inTo p ws m3 from by rw [HE.out, decide_eq_true hl, Bool.true_and]; unfold inPW; rw [hlw])
        rw [HD.out]
        clear hl
        go_enter Tryz.func84, Tryz.ntmps84
        go_wp2_with fail
        refine (sIsReg B n cap a N l _ hn (H.out.on (hb0.mono hB)) (Nat.le_trans hB hb0.size)).mono ?_
        rintro e w1 ⟨rfl, hb9⟩
        rw [HI.out]
        have HB1 := Lib.hid (hb0.trans (hb9.mono hb0.size))
        have hbx := hbox0.on hb9 hbox0.lt
        clear hb9 hb0 c0 c1 hbox0
        have c0 := hbx.c0
        have c1 := hbx.c1
        go_wp2_with fail
        refine (sPrm p w1).mono ?_
        rintro e w2 ⟨rfl, rfl⟩
        rw [HP.out]
        go_wp2
        go_loopw [7] (fun i wr => ∃ k : Nat, k ≤ m3 ∧ i = .int .i64 k ∧ Hid (inTo p ws k = true) ∧ Hid (wr = w2)) (fun i _ => m3 - (intOf i).toNat)
        case atStart => exact ⟨0, by omega, rfl, by simp [Hid, inTo, allN], rfl⟩
        case round =>
          obtain ⟨k, hk, rfl, ho, hw⟩ := hrel
          by_cases hlt : k < m3
          · have hk1 : (k : Int) < (m3 : Int) := by omega
            have hk0 : (0 : Int) ≤ (k : Int) := by omega
            obtain ⟨b, off, rfl, hbB, hcell⟩ := HW.out.2.2 (by omega)
            have p1 := (HB1.out.cell (p := ⟨b, off + k, none⟩) (Nat.lt_of_lt_of_le hbB hB)).trans (hcell k hlt)
            rw [← hw.out] at p1
            have HS := Lib.hid (inTo_step p ws k)
            have HF := Lib.hid (fun h => inTo_bad (p := p) (ws := ws) (k := k) (n := m3) h (by omega))
            obtain ⟨q, hq⟩ : ∃ q, ws.getD k 0 = q := ⟨_, rfl⟩
            rw [hq] at p1 HS HF
            clear hcell hq
            go_wp2_with fail
            refine (sIn q 0 (p - 1) wr).mono ?_
            rintro e w3 ⟨rfl, rfl⟩
            rw [inb_inZ]
            cases hs : inZ p q with
            | false =>
              have HN := Lib.hid (HF.out (fun h9 => by rw [(inZ_iff p q).2 h9] at hs; cases hs))
              clear hs
              go_wp2
              go_ret
              exact ⟨by rw [HN.out]; rfl, by rw [hw.out]; exact HB1.out⟩
            | true =>
              have HN := Lib.hid (show inTo p ws (k + 1) = true from by rw [HS.out, ho.out]; exact hs)
              clear hs
              go_wp2
              go_roundw
              case rel => first
                | exact ⟨k + 1, by omega, by go_num, HN.out, hw⟩
                | (repeat apply Exists.intro
                   exact ⟨⟨k + 1, by omega, by go_num, HN.out, hw⟩, rfl⟩)
              case measure => first | (simp [intOf]; done) | (simp [intOf]; omega)
          · obtain rfl : k = m3 := by omega
            go_wp2
            go_ret
            exact ⟨by rw [ho.out]; rfl, by rw [hw.out]; exact HB1.out⟩
      · have hb : ((m3 : Int) != ((N : Int) * (n : Int))) = true := by rw [HM.out, bne_iff_ne]; omega
        have HD := Lib.hid (show areW N l ws p = false from by rw [HE.out, decide_eq_false hl, Bool.false_and])
        rw [HD.out]
        clear hl
        go_enter Tryz.func84, Tryz.ntmps84
        go_wp2_with fail
        refine (sIsReg B n cap a N l _ hn (H.out.on (hb0.mono hB)) (Nat.le_trans hB hb0.size)).mono ?_
        rintro e w1 ⟨rfl, hb9⟩
        rw [HI.out]
        have HB1 := Lib.hid (hb0.trans (hb9.mono hb0.size))
        have hbx := hbox0.on hb9 hbox0.lt
        clear hb9 hb0 c0 c1 hbox0
        have c0 := hbx.c0
        have c1 := hbx.c1
        go_wp2_with fail
        refine (sPrm p w1).mono ?_
        rintro e w2 ⟨rfl, rfl⟩
        rw [HP.out]
        go_wp2
        go_ret
        exact ⟨rfl, HB1.out⟩

theorem areW_len {W : Int} {l ws : List Int} {p : Int} (h : areW W l ws p = true) : ws.length ≤ 36 := by
  obtain ⟨h1, _, h3, _⟩ := areW_parts h
  obtain ⟨N, rfl, hr⟩ := isReg_out h1
  have := plcN_bd hr
  omega
theorem smN_yes {m : Nat} {ws : List Int} {k : Nat} (h : m.testBit k = true) : smN m ws (k + 1) = smN m ws k + ws.getD k 0 := by
  show smN m ws k + (if m.testBit k = true then ws.getD k 0 else 0) = _
  rw [if_pos h]
theorem smN_no {m : Nat} {ws : List Int} {k : Nat} (h : m.testBit k = false) : smN m ws (k + 1) = smN m ws k := by
  show smN m ws k + (if m.testBit k = true then ws.getD k 0 else 0) = _
  rw [h]
  simp
set_option maxHeartbeats 4000000 in
set_option maxRecDepth 100000 in
theorem sSumW (B n cap m3 cap3 : Nat) (a a3 : Option Addr) (W : Int) (l ws : List Int) (m p : Int) (w : World) (hm : In64 m) (hn : n ≤ 4194304) (hm3 : m3 ≤ 4194304) (hc : IntsAt B w a n l) (hw : IntsAt B w a3 m3 ws) (hB : B ≤ w.heap.size) :
    Calls Tryz.prog 37 #[.agg #[.int .i64 W, .slice a n cap], .int .i64 m, .slice a3 m3 cap3, .int .i64 p] w fun e w' => e = .returned (.int .i64 (sumW W l m ws p)) ∧ Below w.heap.size w w' := by
  have H := Lib.hid hc
  have HW := Lib.hid hw
  have hlw := hw.1
  clear hc hw
  unfold In64 at hm
  have hb0 := (Below.refl w.heap.size w).alloc (Nat.le_refl _) (.cells #[.int .i64 W, .slice a n cap] 26)
  have hbox0 := RgAt.new (w := w) W (.slice a n cap) rfl
  have c0 := hbox0.c0
  have c1 := hbox0.c1
  cases h1 : areW W l ws p with
  | false =>
    have HO := Lib.hid (sumW_no (m := m) (fun h9 => by rw [h1] at h9; cases h9.1))
    have HI := Lib.hid h1
    rw [HO.out]
    clear h1
    go_enter Tryz.func37, Tryz.ntmps37
    go_wp2_with fail
    refine (sAreW B n cap m3 cap3 a a3 W l ws p _ hn hm3 (H.out.on (hb0.mono hB)) (HW.out.on (hb0.mono hB)) (Nat.le_trans hB hb0.size)).mono ?_
    rintro e w1 ⟨rfl, hb⟩
    rw [HI.out]
    go_wp2
    go_ret
    exact ⟨rfl, hb0.trans (hb.mono hb0.size)⟩
  | true =>
    have HI := Lib.hid h1
    obtain ⟨-, hp, -, hin⟩ := areW_parts h1
    have hp5 := hp.pos
    have hlen := areW_len h1
    have HSB := Lib.hid (fun q k => smN_bd hin ⟨by omega, hp5.2⟩ q k)
    have HIN := Lib.hid (fun k => inPW_get hin (by omega) k)
    by_cases hm0 : m < 0
    · have HO := Lib.hid (sumW_no (W := W) (l := l) (m := m) (ws := ws) (p := p) (fun h9 => by rw [okM_neg (by omega)] at h9; cases h9.2))
      rw [HO.out]
      clear h1 hp hin
      go_enter Tryz.func37, Tryz.ntmps37
      go_wp2_with fail
      refine (sAreW B n cap m3 cap3 a a3 W l ws p _ hn hm3 (H.out.on (hb0.mono hB)) (HW.out.on (hb0.mono hB)) (Nat.le_trans hB hb0.size)).mono ?_
      rintro e w1 ⟨rfl, hb⟩
      rw [HI.out]
      have HB1 := Lib.hid (hb0.trans (hb.mono hb0.size))
      clear hb hb0 c0 c1 hbox0
      go_wp2
      go_ret
      exact ⟨rfl, HB1.out⟩
    · obtain ⟨k, rfl⟩ := Int.eq_ofNat_of_zero_le (show 0 ≤ m by omega)
      have hmk := maskR_lt W l
      have hand := i64_and_nat k (maskR W l) (by omega) (by omega)
      have HOM := Lib.hid (okM_nat (areW_parts h1).1 k)
      cases h2 : okM W l (k : Int) with
      | false =>
        have HO := Lib.hid (sumW_no (W := W) (l := l) (m := (k : Int)) (ws := ws) (p := p) (fun h9 => by rw [h2] at h9; cases h9.2))
        have hne : ¬ k &&& maskR W l = k := fun h9 => by
          have h8 := HOM.out
          rw [h2, decide_eq_true h9] at h8
          cases h8
        have hb9 : (bits .and .i64 (k : Int) ((maskR W l : Nat) : Int) != (k : Int)) = true := by
          rw [hand, bne_iff_ne]
          omega
        rw [HO.out]
        obtain ⟨q, hq⟩ : ∃ q, maskR W l = q := ⟨_, rfl⟩
        have HQ := Lib.hid hq
        rw [hq] at hb9
        clear h1 h2 hp hin hand hne hq
        go_enter Tryz.func37, Tryz.ntmps37
        go_wp2_with fail
        refine (sAreW B n cap m3 cap3 a a3 W l ws p _ hn hm3 (H.out.on (hb0.mono hB)) (HW.out.on (hb0.mono hB)) (Nat.le_trans hB hb0.size)).mono ?_
        rintro e w1 ⟨rfl, hb⟩
        rw [HI.out]
        have HB1 := Lib.hid (hb0.trans (hb.mono hb0.size))
        have hbx := hbox0.on hb hbox0.lt
        clear hb hb0 c0 c1 hbox0
        have c0 := hbx.c0
        have c1 := hbx.c1
        go_wp2_with fail
        refine (sMask B n cap a W l w1 hn (H.out.on (HB1.out.mono hB)) (Nat.le_trans hB HB1.out.size)).mono ?_
        rintro e w2 ⟨rfl, hb⟩
        rw [HQ.out]
        have HB2 := Lib.hid (HB1.out.trans (hb.mono HB1.out.size))
        clear hb c0 c1 hbx
        go_wp2
        go_ret
        exact ⟨rfl, HB2.out⟩
      | true =>
        have HO := Lib.hid (show sumW W l (k : Int) ws p = smN k ws m3 % p from by rw [sumW_yes h1 h2, hlw])
        have hklt := okM_lt h2
        have hne : k &&& maskR W l = k := by
          have h8 := HOM.out
          rw [h2] at h8
          exact of_decide_eq_true h8.symm
        have hb9 : (bits .and .i64 (k : Int) ((maskR W l : Nat) : Int) != (k : Int)) = false := by
          rw [hand, hne]
          simp
        rw [HO.out]
        rw [hlw] at hlen
        obtain ⟨q, hq⟩ : ∃ q, maskR W l = q := ⟨_, rfl⟩
        have HQ := Lib.hid hq
        rw [hq] at hb9
        have hpn : ¬ p = 0 := by omega
        clear h1 h2 hp hin hand hne hq HOM hmk
        go_enter Tryz.func37, Tryz.ntmps37
        go_wp2_with fail
        refine (sAreW B n cap m3 cap3 a a3 W l ws p _ hn hm3 (H.out.on (hb0.mono hB)) (HW.out.on (hb0.mono hB)) (Nat.le_trans hB hb0.size)).mono ?_
        rintro e w1 ⟨rfl, hb⟩
        rw [HI.out]
        have HB1 := Lib.hid (hb0.trans (hb.mono hb0.size))
        have hbx := hbox0.on hb hbox0.lt
        clear hb hb0 c0 c1 hbox0
        have c0 := hbx.c0
        have c1 := hbx.c1
        go_wp2_with fail
        refine (sMask B n cap a W l w1 hn (H.out.on (HB1.out.mono hB)) (Nat.le_trans hB HB1.out.size)).mono ?_
        rintro e w2 ⟨rfl, hb⟩
        rw [HQ.out]
        have HB2 := Lib.hid (HB1.out.trans (hb.mono HB1.out.size))
        clear hb c0 c1 hbx
        go_wp2
        go_loopw [9, 10] (fun v i wr => ∃ j : Nat, j ≤ m3 ∧ i = .int .i64 j ∧ v = .int .i64 (smN k ws j) ∧ Hid (wr = w2)) (fun _ i _ => m3 - (intOf i).toNat)
        case atStart => exact ⟨0, by omega, rfl, rfl, rfl⟩
        case round =>
          obtain ⟨j, hj, rfl, rfl, hw⟩ := hrel
          have hsb := HSB.out k j
          by_cases hlt : j < m3
          · have hj1 : (j : Int) < (m3 : Int) := by omega
            have hj0 : (0 : Int) ≤ (j : Int) := by omega
            have hj6 : (j : Int) < 64 := by omega
            obtain ⟨b, off, rfl, hbB, hcell⟩ := HW.out.2.2 (by omega)
            have p1 := (HB2.out.cell (p := ⟨b, off + j, none⟩) (Nat.lt_of_lt_of_le hbB hB)).trans (hcell j hlt)
            rw [← hw.out] at p1
            obtain ⟨t, t1, t2, t3⟩ := shr_bitW k j hklt
            have hz := HIN.out j
            cases hbt : k.testBit j with
            | true =>
              have HN := Lib.hid (smN_yes (ws := ws) hbt)
              rw [hbt, if_pos rfl] at t3
              generalize ws.getD j 0 = z at p1 hz HN
              generalize smN k ws j = y at hsb HN
              clear hbt hcell
              go_wp2
              go_roundw
              case rel => first
                | exact ⟨j + 1, by omega, by go_num, by rw [HN.out], hw⟩
                | (repeat apply Exists.intro
                   exact ⟨⟨j + 1, by omega, by go_num, by rw [HN.out], hw⟩, rfl⟩)
              case measure => first | (simp [intOf]; done) | (simp [intOf]; omega)
            | false =>
              have HN := Lib.hid (smN_no (ws := ws) hbt)
              rw [hbt, if_neg (by simp)] at t3
              generalize ws.getD j 0 = z at p1 hz
              generalize smN k ws j = y at hsb HN
              clear hbt hcell
              go_wp2
              go_roundw
              case rel => first
                | exact ⟨j + 1, by omega, by go_num, by rw [HN.out], hw⟩
                | (repeat apply Exists.intro
                   exact ⟨⟨j + 1, by omega, by go_num, by rw [HN.out], hw⟩, rfl⟩)
              case measure => first | (simp [intOf]; done) | (simp [intOf]; omega)
          · obtain rfl : j = m3 := by omega
            go_wp2
            go_ret
            exact ⟨rfl, by rw [hw.out]; exact HB2.out⟩
end

section
def CalmR : Result Next → Prop
  | .ok (.value _) _ => True
  | .ok .skip _ => True
  | .halt _ _ => True
  | _ => False
theorem calm_v {P : Program} (s : Sem Value) (w : World) : CalmR ((do pure (.value (← s)) : Sem Next).run P w) := by
  rw [Sem.run_bind]
  cases s.run P w <;> trivial
theorem calm_u {P : Program} (s : Sem Unit) (w : World) : CalmR ((do s; pure .skip : Sem Next).run P w) := by
  rw [Sem.run_bind]
  cases s.run P w <;> trivial
def plainOp : Op → Bool
  | .move _ | .assign _ | .load _ _ | .store _ _ _ | .binOp _ _ _ _ _ | .fieldAddr _ _ _ | .build _ _ | .buildSlice _ _ _ => true
  | .call c => match c.callee with | .builtin .append => true | _ => false
  | _ => false
theorem plainOp_calm {P : Program} {o : Oper} (h : plainOp o.op = true) : (∀ c, o.op ≠ .defer c) ∧ ∀ ρ w, CalmR ((execOp ρ o).run P w) := by
  refine ⟨fun c e => (by rw [e] at h; cases h), fun ρ w => ?_⟩
  cases ho : o.op with
  | move x => simp only [execOp, ho]; trivial
  | assign x => simp only [execOp, ho]; trivial
  | load t x => simp only [execOp, ho]; exact calm_v _ _
  | store t x y => simp only [execOp, ho]; exact calm_u _ _
  | binOp op t x y p => simp only [execOp, ho]; exact calm_v _ _
  | fieldAddr t x f => simp only [execOp, ho]; exact calm_v _ _
  | build t p => simp only [execOp, ho]; exact calm_v _ _
  | buildSlice t l p => simp only [execOp, ho]; exact calm_v _ _
  | call c =>
    rw [ho] at h
    cases hc : c.callee with
    | builtin b =>
      cases b with
      | append =>
        simp only [execOp, ho, resolve, hc, Sem.run_bind, Sem.run_pure, Result.andThen_ok, invoke, builtin]
        cases (Builtin.append_ c.argTypes o.type (c.args.map ρ)).run P w <;> trivial
      | _ => simp [plainOp, hc] at h
    | _ => simp [plainOp, hc] at h
  | _ => rw [ho] at h; cases h

section
variable {F : Fence} {n : Nat} {P : Program} {ops : Array Oper} {Q : Exit → Act → World → Prop} {md : Region.Mode}
theorem wpOpIn_of {i : Nat} {K K' : Act → World → Prop} {a : Act} {w : World} (hL : ¬ LetsOut Q) (hF : ∀ f, F.fn f) (hp : ∀ o, ops[i]? = some o → plainOp o.op = true) (hK : ∀ a w, K a w → K' a w)
    (h : wpOp P ops Q i K a w) : wpOpIn F n P ops Q i K' a w := by
  unfold wpOp at h
  unfold wpOpIn
  cases ho : ops[i]? with
  | none => simp only [ho] at h ⊢; exact hK _ _ h
  | some o =>
    simp only [ho] at h ⊢
    obtain ⟨h1, h2⟩ := plainOp_calm (P := P) (hp o ho)
    split
    · rename_i hw
      simp only [hw, if_true] at h
      refine ⟨fun f _ => hF f, ?_⟩
      rw [Oper.semAt_eq _ _ _ h1]
      have hc := h2 a.eval w
      have h := (show Oper.upon P o a K Q ((execOp a.eval o).run P w) ∨ _ from h).resolve_right (fun h9 => hL h9.2)
      generalize (execOp a.eval o).run P w = r at *
      cases r with
      | ok x w' =>
        cases x <;> first
          | exact hc.elim
          | exact hK _ _ h
      | halt x w' => cases x <;> exact h
    · rename_i hw
      simp only [hw] at h
      exact ⟨fun f _ => hF f, hK _ _ h⟩
theorem wpAnyIn_of (hL : ¬ LetsOut Q) (hF : ∀ f, F.fn f) (hp : ∀ (i : Nat) (o : Oper), ops[i]? = some o → plainOp o.op = true) : ∀ (fuel : Nat) (listed : Array Bool) (a : Act) (w : World), wpAny P md ops Q fuel listed a w → wpAnyIn F n P md ops Q fuel listed a w
  | 0, _, _, _, h => h
  | fuel + 1, _, _, _, h => ⟨h.1, fun i hi => wpOpIn_of hL hF (hp i) (fun a' w' h' => wpAnyIn_of hL hF hp fuel _ a' w' h') (h.2 i hi)⟩
/-- The beginning, within a round. -/
theorem wpIn_region_heldP {id : Nat} {l : List Oper} {a : Act} {w : World} {S : World → Prop} (hL : ¬ LetsOut Q) (hF : ∀ f, F.fn f) (hm : P.follows .mixedOrders = true) (hp : (l.all fun o => plainOp o.op) = true) (hS : S w.drew)
    (h : S w.drew → wpAnyH P .any l.toArray Q S l.toArray.size (Array.replicate l.toArray.size false) a w.drew) : (Code.region id l.toArray true).wpIn F n P Q a w :=
  wpIn_region_any hm (wpAnyIn_of hL hF (fun i o ho => by
    rw [List.getElem?_toArray] at ho
    exact List.all_eq_true.1 hp o (List.mem_of_getElem? ho)) _ _ _ _ (wpAny_of_held _ _ _ _ (h hS)))
end
end

section
open Go.RowKit Go.Shelf

attribute [local go_sem] Oper.semAt_some

def vlM {m : Nat} (pre : List (MB m)) : List Nat := pre.map (·.1)
theorem vlM_snoc {m : Nat} (pre : List (MB m)) (x : MB m) : vlM (pre ++ [x]) = vlM pre ++ [x.1] := by simp [vlM]
theorem boxed_own {β : Type} (B : Nat) (t : TypeId) (f : β → Value) : Own (fun s W => Boxed W B t (f s)) := fun s W W' row hs hg hr => hs.kept hg fun e => by
  obtain ⟨o, ho, hc⟩ := hr B e.symm
  rw [show W.heap[B]? = some (.cells #[f s] t (0, 0)) from hs] at ho
  injection ho with ho
  rw [← ho] at hc
  cases hc
set_option maxHeartbeats 4000000 in
set_option maxRecDepth 100000 in
theorem iSumW_in (k : Nat) (hk : 3 ≤ k) (B n cap m3 cap3 : Nat) (a a3 : Option Addr) (W : Int) (l ws : List Int) (m : Nat) (p : Int) (w : World) (h1 : areW W l ws p = true) (h2 : okM W l (m : Int) = true) (hn : n ≤ 4194304) (hm3 : m3 ≤ 4194304) (hc : IntsAt B w a n l) (hw : IntsAt B w a3 m3 ws) (hB : B ≤ w.heap.size) (hT : Tz w) :
    CallsIn Fence.wide k Tryz.prog 36 #[.agg #[.int .i64 W, .slice a n cap], .int .i64 m, .slice a3 m3 cap3, .int .i64 p] w fun e w' => e = .returned (.int .i64 (sumW W l (m : Int) ws p)) ∧ Below w.heap.size w w' := by
  have H := Lib.hid hc
  have HW := Lib.hid hw
  have hlw := hw.1
  clear hc hw
  have hk1 : 1 ≤ k := by omega
  obtain ⟨hr0, hp, hlen0, hin⟩ := areW_parts h1
  have hp5 := hp.pos
  have hpn : ¬ p = 0 := by omega
  have hlen := areW_len h1
  have hmlt := okM_lt h2
  obtain ⟨N, rfl, hr⟩ := isReg_out hr0
  have HBT := Lib.hid (show ∀ i, m.testBit i = true → i < m3 from fun i hi => by
    have h9 := (hr.mask_out (okM_bits h2 hi)).1
    rw [← hlw, hlen0, plcN_rg hr]
    exact h9)
  have hm36 : m3 ≤ 36 := by omega
  have HSB := Lib.hid (fun pre => smL_bd hin ⟨by omega, hp5.2⟩ pre)
  have HIN := Lib.hid (fun k => inPW_get hin (by omega) k)
  have HO := Lib.hid (show ∀ ys : List (MB m), vlM ys = bitL m → sumW N l (m : Int) ws p = smL ws (vlM ys) % p from fun ys hys => by
    rw [hys, sumW_yes h1 h2, hlw, smL_bitL ws (fun i hi => HBT.out i hi) (by omega)])
  have HA := Lib.hid h1
  have HK := Lib.hid h2
  have hb0 : Below w.heap.size w ((w.alloc (.cells #[.int .i64 N, .slice a n cap] 26)).alloc (.cells #[.slice a3 m3 cap3] 24)) := ((Below.refl w.heap.size w).alloc (Nat.le_refl _) _).alloc (by simp) _
  have hbox0 := (RgAt.new (w := w) N (.slice a n cap) rfl).alloc (.cells #[.slice a3 m3 cap3] 24)
  have bW0 := Boxed.new (w.alloc (.cells #[.int .i64 N, .slice a n cap] 26)) 24 (.slice a3 m3 cap3)
  rw [World.size_alloc] at bW0
  have hs0 : ((w.alloc (.cells #[.int .i64 N, .slice a n cap] 26)).alloc (.cells #[.slice a3 m3 cap3] 24)).heap.size = w.heap.size + 1 + 1 := by simp
  clear h1 h2 hr hin hp hr0 hlen0
  refine callsIn_of_wp_marks Tryz.func36 rfl trivial ?_ rfl
  simp only [Tryz.ntmps36, List.size_toArray, List.length_cons, List.length_nil, Nat.reduceAdd, Nat.reduceSub, Array.replicate_succ, Array.replicate_zero, List.push_toArray, List.append_toArray, List.nil_append, List.cons_append]
  have c0 := hbox0.c0
  have c1 := hbox0.c1
  have c2 := bW0.cell
  gi_wp2_with fail
  (try simp only [World.size_alloc])
  generalize ((w.alloc (.cells #[.int .i64 N, .slice a n cap] 26)).alloc (.cells #[.slice a3 m3 cap3] 24)) = w0 at *
  refine ⟨trivial, (callsIn_wide.2 (iAreW B n cap m3 cap3 a a3 N l ws p w0 hn hm3 (H.out.on (hb0.mono hB)) (HW.out.on (hb0.mono hB)) (Nat.le_trans hB hb0.size))).mono ?_⟩
  rintro e w1 ⟨rfl, hb⟩
  rw [HA.out]
  have hb1 := hb0.trans (hb.mono hb0.size)
  have hbox1 := hbox0.on hb (by omega)
  have bW1 := bW0.kept (grow_below hb none) (by simp)
  have hs1 : w.heap.size + 1 + 1 ≤ w1.heap.size := by have := hb.size; omega
  clear hb hb0 hbox0 bW0 c0 c1 c2
  have c0 := hbox1.c0
  have c1 := hbox1.c1
  have c2 := bW1.cell
  gi_wp2_with fail
  refine ⟨trivial, (callsIn_wide.2 (iIsMask B n cap a N l m w1 (by omega) (by omega) hn (H.out.on (hb1.mono hB)) (Nat.le_trans hB hb1.size))).mono ?_⟩
  rintro e w2 ⟨rfl, hb⟩
  rw [HK.out]
  have hb2 := hb1.trans (hb.mono hb1.size)
  have hbox2 := hbox1.on hb hbox1.lt
  have bW2 := bW1.kept (grow_below hb none) (by simp)
  have hs2 : w.heap.size + 1 + 1 ≤ w2.heap.size := by have := hb.size; omega
  clear hb hb1 hbox1 bW1 c0 c1 c2
  have c0 := hbox2.c0
  have c1 := hbox2.c1
  have c2 := bW2.cell
  gi_wp2_with fail
  refine ⟨trivial, (callsIn_wide.2 (iBitsOf m _)).mono ?_⟩
  rintro e w3 ⟨rfl, rfl⟩
  gi_wp2
  obtain ⟨bs, hbs⟩ : ∃ bs, w2.heap.size = bs := ⟨_, rfl⟩
  have bO := (Boxed.new w2 3 (.int .i64 0)).alloc (.cells #[.int .i64 (m : Int)] 3)
  have bN := Boxed.new (w2.alloc (.cells #[.int .i64 0] 3)) 3 (.int .i64 (m : Int))
  rw [World.size_alloc, hbs] at bN
  rw [hbs] at bO
  have hB3 : Below bs w2 ((w2.alloc (.cells #[.int .i64 0] 3)).alloc (.cells #[.int .i64 (m : Int)] 3)) := ((Below.refl _ w2).alloc (by omega) _).alloc (by simp; omega) _
  have hs3 : ((w2.alloc (.cells #[.int .i64 0] 3)).alloc (.cells #[.int .i64 (m : Int)] 3)).heap.size = bs + 1 + 1 := by simp [hbs]
  have hgt : gDB < bs := by have := hT.2; omega
  have hT3 := (hT.on hb2 hT.2).on hB3 hgt
  have HX := Lib.hid hbox2
  have HWB := Lib.hid bW2
  have HB2 := Lib.hid hb2
  have hs2' : w.heap.size + 1 + 1 ≤ bs := by omega
  clear hbox2 bW2 hb2 c0 c1 c2
  rw [hbs]
  generalize ((w2.alloc (.cells #[.int .i64 0] 3)).alloc (.cells #[.int .i64 (m : Int)] 3)) = W3 at *
  refine wpIn_rangeFunc_ownG rfl hk1 (gf := 120) (lb := #[.pointer (some ⟨bs + 1, 0, none⟩)]) rfl trivial (enters_of Tryz.func120 (by kernel_rfl) rfl)
    (iBitsM_stops (k - 1) (by omega) (bs + 1) bs m (by omega) W3 (by omega) (by omega) bN.cell hT3 hgt) belowK_t (belowK_b (by omega)) (Below.refl _ _) (fun _ => rfl)
    (fun pre W => Boxed W bs 3 (.int .i64 (smL ws (vlM pre))) ∧ Below bs w2 W)
    (fun _ _ _ => False)
    (OwnFrom.and (Own.from (boxed_own bs 3 (fun pre : List (MB m) => .int .i64 (smL ws (vlM pre)))) _) (ownFrom_below (by omega) (by omega)))
    (fun _ _ _ _ _ hs _ _ => hs)
    ⟨bO, hB3⟩
    (fun x => { tmps := #[.agg #[.int .i64 N, .slice a n cap], .int .i64 m, .slice a3 m3 cap3, .int .i64 p, .pointer (some ⟨w.heap.size, 0, none⟩), undef, .pointer (some ⟨w.heap.size + 1, 0, none⟩), undef, .int .i64 0, .pointer (some ⟨bs, 0, none⟩), .int .i64 (x.1 : Int), .agg #[.int .i64 N, .slice a n cap], .slice a3 m3 cap3, .int .i64 p, .bool true, .bool false, .bool false, .agg #[.int .i64 N, .slice a n cap], .int .i64 m, .bool true, .bool false, .bool false, .int .i64 m, .func (.func 120) #[] #[.pointer (some ⟨bs + 1, 0, none⟩)], .int .i64 (x.1 : Int), undef, undef, undef, undef, undef, undef, undef, undef, undef], defers := [] }) ?assign ?body ?done ?stop
  case assign =>
    intro l x W K hK
    gi_wp2
    exact hK
  case body =>
    rintro l pre ⟨b, hbm, hb64⟩ V ⟨hv, hB⟩ hlt
    have q0 := hv.cell
    have q1 := hv.frozen
    have q2 := (show Boxed V (w.heap.size + 1) 24 (.slice a3 m3 cap3) from (hB.block (w.heap.size + 1) (by omega)).trans HWB.out).cell
    have hbn : b < m3 := HBT.out b hbm
    have hb1 : (b : Int) < (m3 : Int) := by omega
    have hb0 : (0 : Int) ≤ (b : Int) := by omega
    obtain ⟨b9, o9, rfl, hb9, hc9⟩ := HW.out.2.2 (by omega)
    have q3 := (hB.cell (p := ⟨b9, o9 + b, none⟩) (by show b9 < bs; omega)).trans ((HB2.out.cell (p := ⟨b9, o9 + b, none⟩) (by show b9 < w.heap.size; omega)).trans (hc9 b hbn))
    have hin := HIN.out b
    have hsb := HSB.out (vlM pre)
    have hpl : (vlM pre).length ≤ 64 := by
      unfold vlM
      rw [List.length_map]
      have h9 : (bitL m).length ≤ 64 := by
        unfold bitL
        have := List.length_filter_le m.testBit (List.range 64)
        simpa using this
      omega
    have HE := Lib.hid (show smL ws (vlM (pre ++ [⟨b, hbm, hb64⟩])) = smL ws (vlM pre) + ws.getD b 0 from by rw [vlM_snoc, smL_snoc])
    generalize smL ws (vlM pre) = y at *
    generalize ws.getD b 0 = z at *
    refine wpIn_block ?_
    have hwz : IntKind.i64.wrap (y + z) = y + z := by rw [IntKind.wrap_i64]; omega
    have HWZ := Lib.hid hwz
    have HEND := Lib.hid (show KeepsFrom W3.heap.size V (V.setCell ⟨bs, 0, none⟩ (.int .i64 (IntKind.i64.wrap (y + z)))).drew ∧ Below bs V (V.setCell ⟨bs, 0, none⟩ (.int .i64 (IntKind.i64.wrap (y + z)))).drew ∧
        Boxed (V.setCell ⟨bs, 0, none⟩ (.int .i64 (IntKind.i64.wrap (y + z)))).drew bs 3 (.int .i64 (smL ws (vlM (pre ++ [⟨b, hbm, hb64⟩])))) ∧ Below bs w2 (V.setCell ⟨bs, 0, none⟩ (.int .i64 (IntKind.i64.wrap (y + z)))).drew from
      ⟨((KeepsOthers.setCell V _ _).trans (KeepsOthers.drew _)).from _, ((Below.refl _ V).setCell (p := ⟨bs, 0, none⟩) (Nat.le_refl _) _).drew, by rw [HE.out, hwz]; exact hv.set _, (hB.setCell (p := ⟨bs, 0, none⟩) (Nat.le_refl _) _).drew⟩)
    clear hwz
    gi_region
    all_goals exact HEND.out
  case done =>
    rintro D ys V hD hys ⟨hv, hB⟩ hK
    have q0 := hv.cell
    have hsb := HSB.out (vlM ys)
    have HY := Lib.hid (HO.out ys hys)
    clear hys
    gi_wp2
    refine ⟨by simp, .inl ⟨_, _, rfl, run_takeDeferred hK, ?_⟩⟩
    refine ⟨_, results_tmp rfl _ _ _, by rw [HY.out]; rfl, ?_⟩
    exact HB2.out.trans ((hB.trans (belowK_b (w := W3) (by omega) V D _ _ (by omega) hK rfl rfl)).mono (by omega))
  case stop =>
    rintro D c pre V _ _ h _
    exact h.elim
set_option maxHeartbeats 4000000 in
set_option maxRecDepth 100000 in
theorem iSumW (B n cap m3 cap3 : Nat) (a a3 : Option Addr) (W : Int) (l ws : List Int) (m p : Int) (w : World) (hm : In64 m) (hn : n ≤ 4194304) (hm3 : m3 ≤ 4194304) (hc : IntsAt B w a n l) (hw : IntsAt B w a3 m3 ws) (hB : B ≤ w.heap.size) (hT : Tz w) :
    Calls Tryz.prog 36 #[.agg #[.int .i64 W, .slice a n cap], .int .i64 m, .slice a3 m3 cap3, .int .i64 p] w fun e w' => e = .returned (.int .i64 (sumW W l m ws p)) ∧ Below w.heap.size w w' := by
  have hb0 := ((Below.refl w.heap.size w).alloc (Nat.le_refl _) (.cells #[.int .i64 W, .slice a n cap] 26)).alloc (by simp) (.cells #[.slice a3 m3 cap3] 24)
  have hbox0 := (RgAt.new (w := w) W (.slice a n cap) rfl).alloc (.cells #[.slice a3 m3 cap3] 24)
  have bW0 := Boxed.new (w.alloc (.cells #[.int .i64 W, .slice a n cap] 26)) 24 (.slice a3 m3 cap3)
  rw [World.size_alloc] at bW0
  have c0 := hbox0.c0
  have c1 := hbox0.c1
  have c2 := bW0.cell
  unfold In64 at hm
  cases h1 : areW W l ws p with
  | false =>
    have HO := Lib.hid (sumW_no (m := m) (fun h9 => by rw [h1] at h9; cases h9.1))
    have HI := Lib.hid h1
    have H := Lib.hid hc
    have HW := Lib.hid hw
    rw [HO.out]
    clear h1 hc hw
    go_enter Tryz.func36, Tryz.ntmps36
    go_wp2_with fail
    generalize ((w.alloc (.cells #[.int .i64 W, .slice a n cap] 26)).alloc (.cells #[.slice a3 m3 cap3] 24)) = w0 at *
    refine (iAreW B n cap m3 cap3 a a3 W l ws p w0 hn hm3 (H.out.on (hb0.mono hB)) (HW.out.on (hb0.mono hB)) (Nat.le_trans hB hb0.size)).mono ?_
    rintro e w1 ⟨rfl, hb⟩
    rw [HI.out]
    go_wp2
    go_ret
    exact ⟨rfl, hb0.trans (hb.mono hb0.size)⟩
  | true =>
    cases h2 : okM W l m with
    | false =>
      have HO := Lib.hid (sumW_no (p := p) (ws := ws) (fun h9 => by rw [h2] at h9; cases h9.2))
      have HI := Lib.hid h1
      have HK := Lib.hid h2
      have H := Lib.hid hc
      have HW := Lib.hid hw
      rw [HO.out]
      clear h1 h2 hc hw
      go_enter Tryz.func36, Tryz.ntmps36
      go_wp2_with fail
      generalize ((w.alloc (.cells #[.int .i64 W, .slice a n cap] 26)).alloc (.cells #[.slice a3 m3 cap3] 24)) = w0 at *
      refine (iAreW B n cap m3 cap3 a a3 W l ws p w0 hn hm3 (H.out.on (hb0.mono hB)) (HW.out.on (hb0.mono hB)) (Nat.le_trans hB hb0.size)).mono ?_
      rintro e w1 ⟨rfl, hb⟩
      rw [HI.out]
      have hb1 := hb0.trans (hb.mono hb0.size)
      have hbox1 := hbox0.on hb hbox0.lt
      clear hb hb0 hbox0 bW0 c0 c1 c2
      have c0 := hbox1.c0
      have c1 := hbox1.c1
      go_wp2_with fail
      refine (iIsMask B n cap a W l m w1 hm.1 hm.2 hn (H.out.on (hb1.mono hB)) (Nat.le_trans hB hb1.size)).mono ?_
      rintro e w2 ⟨rfl, hb⟩
      rw [HK.out]
      go_wp2
      go_ret
      exact ⟨rfl, hb1.trans (hb.mono hb1.size)⟩
    | true =>
      obtain ⟨N, H, k, rfl, rfl, hr⟩ := okM_reg h2
      exact callsIn_wide.1 (iSumW_in 3 (Nat.le_refl _) B n cap m3 cap3 a a3 N l ws k p w h1 h2 hn hm3 hc hw hB hT)
end

end Go.Proofs.YtkcclhnligajeaaGreatDoor
