/-
  The search for weights that forbid: in the model: what the call gives.
-/
import Derived.Test.YtkcclhnligajeaaGreatDoorVaw
import Derived.Test.YtkcclhnligajeaaGreatDoorWs4
import Derived.Test.YtkcclhnligajeaaGreatDoorVbg
import Derived.Test.YtkcclhnligajeaaGreatDoorVbf
import Derived.Test.YtkcclhnligajeaaGreatDoorVaq
import Derived.StillTailTactics
namespace Go.Proofs.YtkcclhnligajeaaGreatDoor
open Go.RowKit

set_option maxHeartbeats 16000000 in
set_option maxRecDepth 100000 in
theorem sFndW (B n cap m2 cap2 : Nat) (a a2 : Option Addr) (W : Int) (l : List Int) (ps : List (List Cl)) (p : Int) (w : World) (hn : n ≤ 4194304) (hm2 : m2 ≤ 1048576)
    (hc : IntsAt B w a n l) (hd : PsAt B w a2 m2 ps) (hB : B ≤ w.heap.size) :
    Calls Tryz.prog 22 #[.agg #[.int .i64 W, .slice a n cap], .slice a2 m2 cap2, .int .i64 p] w (GivesO w (fndW W l ps p)) := by
  obtain ⟨i0, hi, hz0, hz1, hz2⟩ := info_parts info_int
  obtain ⟨j0, hj, hy0, hy1, hy2⟩ := info_parts info_intss
  have H := Lib.hid hc
  have HD := Lib.hid hd
  have hln := hc.1
  clear hc hd
  have hb0 := (Below.refl w.heap.size w).alloc (Nat.le_refl _) (.cells #[.int .i64 W, .slice a n cap] 26)
  have hX := RgAt.new (w := w) W (.slice a n cap) rfl
  have c0 := hX.c0
  have c1 := hX.c1
  have HRG := Lib.hid (fun W9 (h9 : Below w.heap.size w W9) => sIsReg B n cap a W l W9 hn (H.out.on (h9.mono hB)) (Nat.le_trans hB h9.size))
  have HPC := Lib.hid (fun W9 (h9 : Below w.heap.size w W9) => sArePc B m2 cap2 a2 ps W9 (by omega) (HD.out.on (h9.mono hB)) (Nat.le_trans hB h9.size))
  have HB0 := Lib.hid hb0
  cases h1 : okPr W l ps p with
  | false =>
    have HO := Lib.hid (fndW_no h1)
    rw [HO.out]
    rcases okPr_cases h1 with e1 | ⟨e1, e2⟩ | ⟨e1, e2, e3⟩
    · rw [e1] at HRG
      clear h1 e1 HPC
      go_enter Tryz.func22, Tryz.ntmps22
      go_wp2_with fail
      refine (HRG.out _ HB0.out).mono ?_
      rintro e w1 ⟨rfl, hb⟩
      have HB1 := Lib.hid (HB0.out.trans (hb.mono HB0.out.size))
      clear hb hb0 c0 c1 hX
      go_wp2
      go_ret2
      exact GivesO.lit w HB1.out
    · rw [e1] at HRG
      rw [e2] at HPC
      clear h1 e1 e2
      go_enter Tryz.func22, Tryz.ntmps22
      go_wp2_with fail
      refine (HRG.out _ HB0.out).mono ?_
      rintro e w1 ⟨rfl, hb⟩
      have HB1 := Lib.hid (HB0.out.trans (hb.mono HB0.out.size))
      clear hb hb0 c0 c1 hX
      go_wp2_with fail
      refine (HPC.out _ HB1.out).mono ?_
      rintro e w2 ⟨rfl, hb⟩
      have HB2 := Lib.hid (HB1.out.trans (hb.mono HB1.out.size))
      clear hb
      go_wp2
      go_ret2
      exact GivesO.lit w HB2.out
    · rw [e1] at HRG
      rw [e2] at HPC
      have HP := Lib.hid e3
      clear h1 e1 e2 e3
      go_enter Tryz.func22, Tryz.ntmps22
      go_wp2_with fail
      refine (HRG.out _ HB0.out).mono ?_
      rintro e w1 ⟨rfl, hb⟩
      have HB1 := Lib.hid (HB0.out.trans (hb.mono HB0.out.size))
      clear hb hb0 c0 c1 hX
      go_wp2_with fail
      refine (HPC.out _ HB1.out).mono ?_
      rintro e w2 ⟨rfl, hb⟩
      have HB2 := Lib.hid (HB1.out.trans (hb.mono HB1.out.size))
      clear hb
      go_wp2_with fail
      refine (sPrm p w2).mono ?_
      rintro e w3 ⟨rfl, rfl⟩
      rw [HP.out]
      go_wp2
      go_ret2
      exact GivesO.lit w HB2.out
  | true =>
    obtain ⟨-, hr0, hpc, hp⟩ := okPr_parts h1
    have hp5 := hp.pos
    have HP := Lib.hid ((prmB_iff p).2 hp)
    have HF := Lib.hid (fndW_yes h1)
    rw [hr0] at HRG
    rw [hpc] at HPC
    obtain ⟨N, rfl, hr⟩ := isReg_out hr0
    rw [hln] at hr
    have hpb := plcN_bd hr
    have hm36 := mul_36 hr.w6 hr.h6
    rw [← plcN_rg hr] at hm36
    have HQB := Lib.hid (pQ_ok (N : Int) l ps)
    have hql := pQ_len (N : Int) l ps
    have HQI := Lib.hid (pQ_ints (N : Int) l ps)
    have HPB := Lib.hid (apR_bd (N : Int) l ps)
    have HSW := Lib.hid (fun f hf => sumW_lst (f := f) hr0 hp hf)
    have hmk : maskR (N : Int) l < 68719476736 := maskR_lt _ l
    have HAP := Lib.hid (fun W9 (h9 : Below w.heap.size w W9) => sAp B n cap m2 cap2 a a2 N l ps W9 hn hm2 (H.out.on (h9.mono hB)) (HD.out.on (h9.mono hB)) (Nat.le_trans hB h9.size))
    have HMK := Lib.hid (fun W9 (h9 : Below w.heap.size w W9) => sMask B n cap a N l W9 hn (H.out.on (h9.mono hB)) (Nat.le_trans hB h9.size))
    have HSM := Lib.hid (fun z (hz : In64 z) m3 cap3 a3 ws (hm3 : m3 ≤ 4194304) W9 (h9 : Below w.heap.size w W9) (hw : IntsAt W9.heap.size W9 a3 m3 ws) => sSumW W9.heap.size n cap m3 cap3 a a3 N l ws z p W9 hz hn hm3 ((H.out.on (h9.mono hB)).more (by have := h9.size; omega)) hw (Nat.le_refl _))
    obtain ⟨t, ht⟩ : ∃ t, plcN (N : Int) l = t := ⟨_, rfl⟩
    obtain ⟨Q, hQ⟩ : ∃ Q, pQ (N : Int) l ps = Q := ⟨_, rfl⟩
    rw [hQ] at HF HQB hql HQI
    rw [ht] at HF hpb HSW hm36
    rw [← HQI.out] at HAP HPB
    obtain ⟨mk, hmke⟩ : ∃ mk, maskR (N : Int) l = mk := ⟨_, rfl⟩
    rw [hmke] at HF HSW HMK hmk
    obtain ⟨u, hu⟩ : ∃ u, bitV mk = u := ⟨_, rfl⟩
    rw [hu] at HF HSW
    rw [HF.out]
    have HBD := Lib.hid (fun i j (_ : i < Q.length) (_ : j < t) => rowP_bd hp Q i j)
    obtain ⟨hm1, hm2', hm3⟩ := hm36
    clear h1 hr0 hr ht hQ hu hmke HQI hpc
    go_enter Tryz.func22, Tryz.ntmps22
    go_wp2_with fail
    refine (HRG.out _ HB0.out).mono ?_
    rintro e w1 ⟨rfl, hb⟩
    have HB1 := Lib.hid (HB0.out.trans (hb.mono HB0.out.size))
    have HX1 := Lib.hid (hX.on hb hX.lt)
    clear hb hb0 c0 c1 hX
    go_wp2_with fail
    refine (HPC.out _ HB1.out).mono ?_
    rintro e w2 ⟨rfl, hb⟩
    have HB2 := Lib.hid (HB1.out.trans (hb.mono HB1.out.size))
    have HX2 := Lib.hid (HX1.out.on hb HX1.out.lt)
    clear hb HX1 HB1
    go_wp2_with fail
    refine (sPrm p w2).mono ?_
    rintro e w3 ⟨rfl, rfl⟩
    rw [HP.out]
    have c0 := HX2.out.c0
    have c1 := HX2.out.c1
    have HX3 := Lib.hid (HX2.out.alloc (.cells #[] 24))
    have d0 := HX3.out.c0
    have d1 := HX3.out.c1
    have HB3 := Lib.hid (HB2.out.alloc HB2.out.size (.cells #[] 24))
    obtain ⟨g, hg⟩ : ∃ g, w3.heap.size = g := ⟨_, rfl⟩
    have HR3 := Lib.hid (own_lit_ss w3 g g (by omega) hg)
    have hwg : w.heap.size < g := by have := HX2.out.lt; omega
    have hg4 : (w3.alloc (.cells #[] 24)).heap.size = g + 1 := by simp [hg]
    go_wp2_with fail
    generalize (w3.alloc (.cells #[] 24)) = w4 at *
    refine (HAP.out w4 HB3.out).mono ?_
    rintro e w5 ⟨v, rfl, hrow, hb⟩
    rw [ints_len, hg4] at hrow
    obtain ⟨ap, cpp, rfl⟩ := own_form hrow
    have HPR := Lib.hid hrow
    have HB5 := Lib.hid (HB3.out.trans (hb.mono HB3.out.size))
    have HX5 := Lib.hid (HX3.out.on hb HX3.out.lt)
    have HR5 := Lib.hid (own_on HR3.out hb)
    have hs5 : g + 1 ≤ w5.heap.size := by have := hb.size; omega
    have HK5 := Lib.hid (show ∀ c, InR 0 (fun _ => 0) c → False from fun c h => by obtain ⟨i, h, _⟩ := h; omega)
    clear hrow hb d0 d1 c0 c1 HX3 HR3 HB3 HK5 HPC HRG
    go_wp2
    go_loopw [9, 11] (fun v i wr => ∃ (k : Nat) (b1 d1 : Nat → Nat), k ≤ Q.length ∧ i = .int .i64 k ∧ Hid (MtAt g wr v k t b1 d1 (rowP Q)) ∧ Hid (ButP (fun c => c = g) w5 wr) ∧ Hid (∀ b, v.ownBlock = some b → b = g ∨ w5.heap.size ≤ b)) (fun _ i _ => Q.length - (intOf i).toNat)
    case atStart => exact ⟨0, fun _ => 0, fun _ => 0, by omega, rfl, ⟨HR5.out, fun i hi => absurd hi (by omega), fun i j hi => absurd hi (by omega), fun i hi => absurd hi (by omega)⟩, ButP.refl _ _, fun b hb => by injection hb with hb; exact .inl hb.symm⟩
    case round =>
      obtain ⟨k, b1, d1, hk, rfl, hM, hK, hV⟩ := hrel
      obtain ⟨sa, sc, rfl⟩ := own_form hM.out.spine
      have HPI := Lib.hid (IntsAt.of_own (hK.out.own HPR.out fun b hb e => by have := (HPR.out.lt b hb).1; omega) (fun z hz => by have := HPB.out z hz; unfold In64; omega))
      have hsz := hK.out.size
      by_cases hlt : k < Q.length
      · have hk1 : (k : Int) < (Q.length : Int) := by omega
        have hk0 : (0 : Int) ≤ (k : Int) := by omega
        obtain ⟨b9, o9, rfl, hb9, hc9⟩ := HPI.out.2.2 (by omega)
        have p1 := hc9 k hlt
        rw [ints_get] at p1
        have hqm := getD_memN (Q := Q) hlt
        have hqb := HQB.out _ hqm
        have HDG := Lib.hid (sBits (Q.getD k 0) t wr hqb.2 hpb.2)
        have HRW := Lib.hid (show bitV (Q.getD k 0) = rowP Q k from rfl)
        obtain ⟨q, hq⟩ : ∃ q, Q.getD k 0 = q := ⟨_, rfl⟩
        rw [hq] at p1 HDG HRW
        clear hc9 hqm hqb hq
        go_wp2_with fail
        refine HDG.out.mono ?_
        rintro e w6 ⟨vv, rfl, hr4, hb4⟩
        rw [HRW.out] at hr4
        obtain ⟨b, c, rfl, hb1, hb2⟩ := own_pos hr4 (by omega)
        have hs6 := hb4.size
        have HM4 := Lib.hid (hM.out.on hb4)
        have HLW := Lib.hid (fun i (hi : i < k) => (hM.out.lt hi).2)
        have HSP := Lib.hid (fun x (hx : (Value.slice sa k sc).ownBlock = some x) => (hM.out.spine.lt x hx).2)
        have HR4 := Lib.hid hr4
        have HK4 := Lib.hid (hK.out.trans (ButP.of_below hb4))
        clear hM hr4 hb4 p1 hK
        go_wp2_with (first | (at_builtin; refine wpList_append_own_at _ rfl _ _ 66 rfl g 24 j0 (.slice none 0 0) 1 24 Tryz.underlying66 hj hy0 hy1 hy2 rfl (by decide) _ _ _ rfl (HM4.out.spine.alloc _) ⟨w6.heap.size, 0, none⟩ 1 1 [.slice (some ⟨b, 0, none⟩) t c] rfl rfl (liesV_block (l := [.slice (some ⟨b, 0, none⟩) t c]) (t := 24) (fr := (0, 0)) (heap_alloc_new _ _)) ?d2 ?d3 ?d4 ?d5 ?_) | go_in)
        case d2 => intro u hu; rw [List.mem_singleton] at hu; subst hu; rfl
        case d3 => unfold maxLen; omega
        case d4 => omega
        case d5 => simp; omega
        intro v2 w7 hs7 hg7 hiff hob
        have HM5 := Lib.hid (MtAt.snoc (f := rowP Q k) (HM4.out.on ((Below.refl w6.heap.size w6).alloc (Nat.le_refl _) (.cells #[.slice (some ⟨b, 0, none⟩) t c] 24))) hs7 (own_below (HR4.out.alloc _) (by omega)) hg7 (fun i hi e => by have := HLW.out i hi; omega) (fun e => by have := HSP.out b e; omega) (by
          rcases hob with h9 | h9
          · exact .inl h9
          · exact .inr ⟨_, h9, by simp⟩))
        have HM6 := Lib.hid (HM5.out.same (a' := rowP Q) (fun i hi j _ => by
          by_cases e : i = k
          · subst e; rw [updM_at]
          · rw [updM_off _ _ e]))
        have HK7 := Lib.hid (show ButP (fun c => c = g) w5 w7 from by
          have h9 := HK4.out.trans (ButP.of_below ((Below.refl w6.heap.size w6).alloc (Nat.le_refl _) (.cells #[.slice (some ⟨b, 0, none⟩) t c] 24)))
          refine ⟨hg7.os.trans h9.os, hg7.tape.trans h9.tape, hg7.output.trans h9.output, Nat.le_trans h9.size hg7.size, fun x hx hn => (hg7.block x (Nat.lt_of_lt_of_le hx h9.size) fun e => ?_).trans (h9.block x hx hn)⟩
          rcases hV.out x e.symm with h8 | h8
          · exact hn h8
          · omega)
        have HV7 := Lib.hid (show ∀ b, v2.ownBlock = some b → b = g ∨ w5.heap.size ≤ b from fun b hb => by
          rcases hob with h9 | h9
          · exact hV.out b (h9.symm.trans hb)
          · rw [h9] at hb
            injection hb with hb
            right
            try simp at hb
            omega)
        clear hs7 hg7 hiff hob HM5 HM4 HR4 HK4
        go_wp2
        go_roundw
        case rel => first
          | exact ⟨k + 1, _, _, by omega, by go_num, HM6.out, HK7.out, HV7.out⟩
          | (repeat apply Exists.intro
             exact ⟨⟨k + 1, _, _, by omega, by go_num, HM6.out, HK7.out, HV7.out⟩, rfl⟩)
        case measure => first | (simp [intOf]; done) | (simp [intOf]; omega)
      · obtain rfl : k = Q.length := by omega
        have HRD := Lib.hid (sReduce g Q.length t sc sa b1 d1 (rowP Q) p wr hp (by omega) (by omega) (by omega) HBD.out hM.out)
        have HFW := Lib.hid (redI_few hp HBD.out (Nat.le_refl t))
        have HRI := Lib.hid (redI_is hp HBD.out t (Nat.le_refl t))
        have HLV := Lib.hid (fun k => lay_vec (k := k) hp HBD.out)
        have HHIT := Lib.hid (fun k => ansW_hit (p := p) (m := Q.length) (n := t) (P := rowP Q) (u := u) (k := k))
        have HNO := Lib.hid (ansW_no (p := p) (m := Q.length) (n := t) (P := rowP Q) (u := u))
        have HSRV := Lib.hid (show ∀ k, srvW p Q.length t (rowP Q) u k = ((posL (redI p Q.length (rowP Q) t).2 k).isNone && decide (dotI t u (vecI p (redI p Q.length (rowP Q) t).1 (redI p Q.length (rowP Q) t).2 k) % p ≠ 0)) from fun k => rfl)
        have HVB := Lib.hid (fun k j => vecI_bd hp (redI p Q.length (rowP Q) t).1 (redI p Q.length (rowP Q) t).2 k j)
        obtain ⟨srv, hsv⟩ : ∃ srv, srvW p Q.length t (rowP Q) u = srv := ⟨_, rfl⟩
        obtain ⟨V, hV9⟩ : ∃ V : Nat → Nat → Int, vecI p (redI p Q.length (rowP Q) t).1 (redI p Q.length (rowP Q) t).2 = V := ⟨_, rfl⟩
        unfold GivesRS at HRD
        rw [hsv] at HHIT HNO HSRV
        rw [hV9] at HHIT HVB HLV HSRV
        generalize redI p Q.length (rowP Q) t = st at HRD HFW HRI HLV HSRV
        obtain ⟨RR, L⟩ := st
        try dsimp only at HFW
        try dsimp only at HLV
        try dsimp only at HSRV
        have HBr := Lib.hid (HB5.out.trans (hK.out.below (B := w.heap.size) (fun c hc => by omega) (by omega)))
        have HXr := Lib.hid (show RgAt wr w.heap.size (N : Int) (.slice a n cap) from by
          have h9 := HX5.out
          unfold RgAt at h9 ⊢
          rw [hK.out.block w.heap.size (by omega) (by omega)]
          exact h9)
        clear hM HPI HPB HQB HPR hsv hV9 HBD hV hK HX5 HB5 HR5
        go_wp2_with fail
        refine HRD.out.mono ?_
        rintro e w6 ⟨v6, vl, b2, d2, rfl, hM6, hL6, hb6⟩
        try dsimp only at hM6
        try dsimp only at hL6
        obtain ⟨sa6, sc6, rfl⟩ := own_form hM6.spine
        obtain ⟨la, lc, rfl⟩ := own_form hL6
        have hs6 := hb6.size
        have HX6 := Lib.hid (HXr.out.on hb6 HXr.out.lt)
        have HB6 := Lib.hid (HBr.out.trans (hb6.mono HBr.out.size))
        have HM6 := Lib.hid hM6
        have HL6 := Lib.hid hL6
        obtain ⟨LN, hLN⟩ : ∃ LN, L.length = LN := ⟨_, rfl⟩
        rw [hLN] at HL6
        have hfw := HFW.out
        rw [hLN] at hfw
        clear hM6 hL6 hb6 HRD HXr HBr
        go_wp2
        go_loopw [14] (fun i wr => ∃ k : Nat, k ≤ t ∧ i = .int .i64 k ∧ Hid (∀ j, j < k → srv j = false) ∧ Hid (Below w6.heap.size w6 wr)) (fun i _ => t - (intOf i).toNat)
        case atStart => exact ⟨0, by omega, rfl, fun j h9 => absurd h9 (by omega), Below.refl _ _⟩
        case round =>
          obtain ⟨k, hk, rfl, hno, hB7⟩ := hrel
          by_cases hlt : k < t
          · have hk1 : (k : Int) < (t : Int) := by omega
            have hk0 : (0 : Int) ≤ (k : Int) := by omega
            have hs7 := hB7.out.size
            have HL7 := Lib.hid (own_on HL6.out hB7.out)
            have HI7 := Lib.hid (IntsAt.of_own HL7.out (ints_In64 fun x hx => by have := hfw.2.2 x hx; omega))
            have HC7 := Lib.hid (sHasI wr.heap.size LN lc la (ints L) (k : Int) wr (by omega) HI7.out (Nat.le_refl _))
            cases hpl : posL L k with
            | some r =>
              have HV := Lib.hid (show (ints L).contains (k : Int) = true from by rw [posL_has, hpl]; rfl)
              have HN := Lib.hid (show ∀ j, j < k + 1 → srv j = false from fun j hj => by
                by_cases e : j = k
                · subst e; rw [HSRV.out, hpl]; rfl
                · exact hno.out j (by omega))
              clear hpl hno
              go_wp2_with fail
              refine HC7.out.mono ?_
              rintro e w7 ⟨rfl, hb7⟩
              have HB7 := Lib.hid (hB7.out.trans (hb7.mono hs7))
              rw [HV.out]
              clear hb7
              go_wp2
              go_roundw
              case rel => first
                | exact ⟨k + 1, by omega, by go_num, HN.out, HB7.out⟩
                | (repeat apply Exists.intro
                   exact ⟨⟨k + 1, by omega, by go_num, HN.out, HB7.out⟩, rfl⟩)
              case measure => first | (simp [intOf]; done) | (simp [intOf]; omega)
            | none =>
              have HV := Lib.hid (show (ints L).contains (k : Int) = false from by rw [posL_has, hpl]; rfl)
              have hLK := HLV.out k hpl
              rw [hLN] at hLK
              have HSK := Lib.hid (show srv k = decide (dotI t u (V k) % p ≠ 0) from by rw [HSRV.out, hpl]; rfl)
              clear hpl
              go_wp2_with fail
              refine HC7.out.mono ?_
              rintro e w7 ⟨rfl, hb7⟩
              have HB7 := Lib.hid (hB7.out.trans (hb7.mono hs7))
              rw [HV.out]
              have hs8 := HB7.out.size
              clear hb7 HI7 HL7 HC7
              go_wp2_with (first | (at_make; refine wpList_make_full _ rfl _ _ 24 rfl w7.heap.size 3 i0 (.int .i64 0) 1 Tryz.underlying24 hi hz0 hz1 _ _ _ _ t rfl rfl rfl rfl ?b2 ?b3 ?b4 ?_) | go_in)
              case b2 => rw [hz2]; omega
              case b3 => unfold maxLen; omega
              case b4 => exact Nat.le_refl _
              intro w8 hown8 hgrow8
              rw [made_ints t] at hown8
              have HB8 := Lib.hid (show Below w7.heap.size w7 w8 from (Below.refl _ w7).grown hgrow8 (Nat.le_refl _) (fun k h => by cases h))
              have HR8 := Lib.hid (show w8.ownsRow w7.heap.size 3 1 (.slice (some ⟨w7.heap.size, 0, none⟩) t t) t (iv (lstI t fun _ => 0)) from by
                have e : lstI t (fun _ => (0 : Int)) = List.replicate t 0 := by
                  apply List.ext_getElem
                  · simp [lstI]
                  · intro i h1 h2; simp [lstI]
                rw [e]
                exact hown8)
              clear hown8 hgrow8
              have p2 := row_num HR8.out hlt
              have p3 := HR8.out.frozenAt k
              have HS := Lib.hid (row_set (j := k) HR8.out 1)
              have HB8' := Lib.hid (HB8.out.setCell (p := ⟨w7.heap.size, k, none⟩) (Nat.le_refl _) (.int .i64 1))
              go_wp2
              have HRS := Lib.hid HS.out.1
              generalize (w8.setCell ⟨w7.heap.size, k, none⟩ (.int .i64 1)) = w9 at *
              clear HS HB8 HR8 p2 p3
              have HB9 := Lib.hid (HB7.out.trans (HB8'.out.mono hs8))
              have hsb : w6.heap.size ≤ w7.heap.size := hs8
              clear HB8' hs8
              generalize w7.heap.size = bw at *
              go_wp2
              go_loopw [16] (fun i wr => ∃ k2 : Nat, k2 ≤ LN ∧ i = .int .i64 k2 ∧ Hid (wr.ownsRow bw 3 1 (.slice (some ⟨bw, 0, none⟩) t t) t (iv (lstI t (layL L (fun i => (p - RR i k) % p) (fun j => if j = k then 1 else 0) k2)))) ∧ Hid (Below w6.heap.size w6 wr)) (fun i _ => LN - (intOf i).toNat)
              case atStart => exact ⟨0, by omega, rfl, HRS.out, HB9.out⟩
              case round =>
                obtain ⟨k2, hk2, rfl, hrow, hB10⟩ := hrel
                have hs10 := hB10.out.size
                by_cases hlt2 : k2 < LN
                · have hi1 : (k2 : Int) < (LN : Int) := by omega
                  have hi0 : (0 : Int) ≤ (k2 : Int) := by omega
                  have hi3 : k2 < Q.length := by omega
                  have hi2 : (k2 : Int) < (Q.length : Int) := by omega
                  obtain ⟨b9, o9, e9, hb9, hc9⟩ := (IntsAt.of_own (own_on HL6.out hB10.out) (ints_In64 fun x hx => by have := hfw.2.2 x hx; omega)).2.2 (by omega)
                  obtain rfl := e9
                  have q1 := hc9 k2 hlt2
                  rw [ints_get] at q1
                  have hmp : L.getD k2 0 < t := hfw.2.2 _ (getD_memN (Q := L) (by omega))
                  have hM10 := HM6.out.on hB10.out
                  obtain ⟨g6, cap9, e9, -, -, -⟩ := hM10.form (by omega)
                  injection e9 with e1 _ e2
                  subst e1 e2
                  have q2 := hM10.cell hi3
                  have q3 := hM10.num hi3 hlt
                  have hbd := HRI.out.bnd k2 k hi3 hlt
                  have htm : (p - RR k2 k).tmod p = (p - RR k2 k) % p := Int.tmod_eq_emod_of_nonneg (by omega)
                  have hpx : 0 ≤ (p - RR k2 k) % p ∧ (p - RR k2 k) % p < p := ⟨Int.emod_nonneg _ (by omega), Int.emod_lt_of_pos _ (by omega)⟩
                  have hpn : ¬ p = 0 := by omega
                  obtain ⟨z, hz⟩ : ∃ z, (p - RR k2 k) % p = z := ⟨_, rfl⟩
                  have HLAY := Lib.hid (show lstI t (fun j => if j = L.getD k2 0 then z else layL L (fun i => (p - RR i k) % p) (fun j => if j = k then 1 else 0) k2 j) = lstI t (layL L (fun i => (p - RR i k) % p) (fun j => if j = k then 1 else 0) (k2 + 1)) from by rw [← hz]; exact layL_step L (fun i => (p - RR i k) % p) (fun j => if j = k then 1 else 0) k2 t)
                  rw [hz] at htm hpx
                  obtain ⟨pl, hpl⟩ : ∃ pl, L.getD k2 0 = pl := ⟨_, rfl⟩
                  rw [hpl] at q1 hmp HLAY
                  have hm1 : (pl : Int) < (t : Int) := by omega
                  have hm0 : (0 : Int) ≤ (pl : Int) := by omega
                  have q4 := row_num hrow.out hmp
                  have q5 := hrow.out.frozenAt pl
                  obtain ⟨rx, hrx⟩ : ∃ rx, RR k2 k = rx := ⟨_, rfl⟩
                  rw [hrx] at q3 hbd htm
                  have hzn : -rx % p = z := by rw [← hz, hrx]; simp
                  obtain ⟨xx, hxx⟩ : ∃ xx, layL L (fun i => (p - RR i k) % p) (fun j => if j = k then 1 else 0) k2 pl = xx := ⟨_, rfl⟩
                  rw [hxx] at q4
                  have HRW := Lib.hid hrow.out
                  clear hM10 hc9 hrow hpl hz hrx hxx
                  go_wp2_with fail
                  go_still_tail 17, (by kernel_rfl)
                  change wpList _ _ _ _ _ wr.drew
                  have HRD : Hid (wr.drew.ownsRow bw 3 1 (.slice (some ⟨bw, 0, none⟩) t t) t (iv (lstI t (layL L (fun i => (p - RR i k) % p) (fun j => if j = k then 1 else 0) k2)))) := HRW.out
                  have HBD : Hid (Below w6.heap.size w6 wr.drew) := ⟨hB10.out.os, hB10.out.tape, hB10.out.output, hB10.out.size, hB10.out.block⟩
                  have q6 : wr.drew.cell? ⟨bw, pl, none⟩ = some (.int .i64 xx) := q4
                  have q7 : wr.drew.frozen? ⟨bw, pl, none⟩ = false := q5
                  clear q1 q2 q3 q4 q5 HRW hB10 hb9 hs10
                  generalize wr.drew = w11 at *
                  have HS := Lib.hid (row_set (j := pl) HRD.out z)
                  have HB12 := Lib.hid (HBD.out.setCell (p := ⟨bw, pl, none⟩) hsb (.int .i64 z))
                  go_wp2
                  have HN := Lib.hid HS.out.1
                  rw [HLAY.out] at HN
                  go_roundw
                  case rel => exact ⟨k2 + 1, by omega, by go_num, HN.out, HB12.out⟩
                  case measure => first | (simp [intOf]; done) | (simp [intOf]; omega)
                · have ek2 : k2 = LN := by omega
                  rw [← ek2] at hLK
                  have HRV := Lib.hid (show wr.ownsRow bw 3 1 (.slice (some ⟨bw, 0, none⟩) t t) t (iv (lstI t (V k))) from by
                    have h9 := hrow.out
                    rw [hLK] at h9
                    exact h9)
                  have HX10 := Lib.hid (HX6.out.on hB10.out HX6.out.lt)
                  have c0 := HX10.out.c0
                  have c1 := HX10.out.c1
                  have HBw := Lib.hid (HB6.out.trans (hB10.out.mono HB6.out.size))
                  have hbws := HBw.out.size
                  have HWI := Lib.hid (IntsAt.of_own HRV.out (fun z hz => by
                    obtain ⟨j, _, rfl⟩ := lstI_mem hz
                    have := HVB.out k j
                    unfold In64; omega))
                  have r0 := cell_regrown c0
                  have r1 := cell_regrown c1
                  have kM := fun d os => HMK.out _ (HBw.out.trans ((below_regrown wr d os).mono hbws))
                  have kS := fun d os => HSM.out ((mk : Nat) : Int) (by unfold In64; omega) t t (some ⟨bw, 0, none⟩) (lstI t (V k)) (by omega) _ (HBw.out.trans ((below_regrown wr d os).mono hbws)) ((HWI.out.on (below_regrown wr d os)).more (below_regrown wr d os).size)
                  obtain ⟨s0, hs0⟩ : ∃ s0, sumW (N : Int) l ((mk : Nat) : Int) (lstI t (V k)) p = s0 := ⟨_, rfl⟩
                  have HSV := Lib.hid (show (s0 != 0) = srv k from by
                    rw [← hs0, HSK.out, HSW.out (V k) (HVB.out k)]
                    by_cases h0 : dotI t u (V k) % p = 0
                    · simp [h0]
                    · simp [h0])
                  rw [hs0] at kS
                  clear hrow hs0
                  go_wp2_with fail
                  refine wp_region_quiet_below (by kernel_rfl) (by kernel_rfl) ?_
                  repeat (first | (go_big_quiet_step (first | (go_at_call 57; with_reducible refine Calls.regrown_of (kM _ _)) | (go_at_call 37; with_reducible refine Calls.regrown_of (kS _ _)))) | (quiet_step (first | (go_at_call 57; with_reducible refine Calls.regrown_of (kM _ _)) | (go_at_call 37; with_reducible refine Calls.regrown_of (kS _ _)))))
                  refine wpQuiet_nil ?_
                  intro _ hw9
                  obtain ⟨⟨nq, osq⟩, hw8⟩ := hw9
                  subst hw8
                  have hbz := below_regrown wr nq osq
                  generalize (Go.Sort.grow (redrawn wr nq) osq) = w12 at *
                  have HB12 := Lib.hid (hB10.out.trans (hbz.mono hs10))
                  have HRW := Lib.hid (own_on HRV.out hbz)
                  have HB14 := Lib.hid (HBw.out.trans (hbz.mono hbws))
                  clear hbz c0 c1 r0 r1 kM kS
                  cases hsk : srv k with
                  | false =>
                    have HN := Lib.hid (show ∀ j, j < k + 1 → srv j = false from fun j hj => by
                      by_cases e : j = k
                      · subst e; exact hsk
                      · exact hno.out j (by omega))
                    have e4 : (s0 != 0) = false := by rw [HSV.out, hsk]
                    clear hsk
                    go_wp2
                    go_roundw
                    case rel => first
                      | exact ⟨k + 1, by omega, by go_num, HN.out, HB12.out⟩
                      | (repeat apply Exists.intro
                         exact ⟨⟨k + 1, by omega, by go_num, HN.out, HB12.out⟩, rfl⟩)
                    case measure => first | (simp [intOf]; done) | (simp [intOf]; omega)
                  | true =>
                    have HE := Lib.hid (HHIT.out k hlt hsk hno.out)
                    have hwb : w.heap.size ≤ bw := by have := HB6.out.size; omega
                    have e4 : (s0 != 0) = true := by rw [HSV.out, hsk]
                    clear hsk
                    go_wp2
                    go_ret2
                    rw [HE.out]
                    exact GivesO.got (lstI_len _ _) (own_below HRW.out hwb) HB14.out
          · obtain rfl : k = t := by omega
            have HE := Lib.hid (HNO.out hno.out)
            have HB7 := Lib.hid (HB6.out.trans (hB7.out.mono HB6.out.size))
            go_wp2
            go_ret2
            rw [HE.out]
            exact GivesO.lit w HB7.out
end Go.Proofs.YtkcclhnligajeaaGreatDoor
