/-
  Is a list of masks a tiling, in the program: what the call gives.
-/
import Derived.Test.YtkjlmgkjcmebbaaGreatDoorWaw
import Derived.Test.YtkjlmgkjcmebbaaGreatDoorShelf
namespace Go.Proofs.YtkjlmgkjcmebbaaGreatDoor
open Go.RowKit Go.Maps Go.ChangeMaps Go.MapKept

theorem andnot_neg {m : Int} {f : Nat} (h : m < 0) (hi : In64 m) (hf : f < 9223372036854775808) : bits .andNot .i64 m (f : Int) ≠ 0 := by
  intro e
  have hx : (BitVec.ofInt 64 m &&& ~~~ BitVec.ofInt 64 (f : Int)).toNat < 2 ^ 64 := BitVec.isLt _
  have hb : (BitVec.ofInt 64 m &&& ~~~ BitVec.ofInt 64 (f : Int)).toNat.testBit 63 = true := by
    rw [BitVec.testBit_toNat, BitVec.getLsbD_and, BitVec.getLsbD_not, BitVec.ofInt_natCast, BitVec.getLsbD_ofNat]
    have h1 : f.testBit 63 = false := Nat.testBit_lt_two_pow (by omega)
    have h2 : (BitVec.ofInt 64 m).getLsbD 63 = true := by
      have h3 : (BitVec.ofInt 64 m).toNat = (m + 18446744073709551616).toNat := by
        rw [BitVec.toNat_ofInt]
        unfold In64 at hi
        congr 1
        omega
      rw [← BitVec.testBit_toNat, h3, Nat.testBit_eq_decide_div_mod_eq]
      unfold In64 at hi
      simp
      omega
    rw [h1, h2]
    rfl
  have e2 : IntKind.i64.wrap ((BitVec.ofInt 64 m &&& ~~~ BitVec.ofInt 64 (f : Int)).toNat : Int) = 0 := e
  have h4 : 2 ^ 63 ≤ (BitVec.ofInt 64 m &&& ~~~ BitVec.ofInt 64 (f : Int)).toNat := Nat.ge_two_pow_of_testBit hb
  rw [IntKind.wrap_i64] at e2
  omega

set_option maxHeartbeats 2000000 in
set_option maxRecDepth 100000 in
theorem iHasI (n cap : Nat) (a : Option Addr) (l : List Int) (z : Int) (w : World) (hn : n ≤ 4194304) (hc : IntsAt w.heap.size w a n l) :
    Calls Tryz.prog 67 #[.slice a n cap, .int .i64 z] w fun e w' => e = .returned (.bool (l.contains z)) ∧ w' = w := by
  have hln := hc.1
  by_cases h0 : 0 < n
  · obtain ⟨b, off, rfl, hb, hcell⟩ := hc.2.2 h0
    have h1 := Tryz.slices_Contains_int b off n cap l z w (by omega) (by omega) (fun j hj => hcell j (by omega))
    rw [List.take_of_length_le (by omega)] at h1
    exact h1
  · have hl : l = [] := List.eq_nil_of_length_eq_zero (by omega)
    obtain rfl : n = 0 := by omega
    subst hl
    clear hc hln h0
    have HX : Calls Tryz.prog 101 #[.slice a 0 cap, .int .i64 z] w fun e w' => e = .returned (.int .i64 (-1)) ∧ w' = w := by
      go_enter Tryz.func101, Tryz.ntmps101
      go_wp2
      refine wp_loop_rounds 1 ?_
      rw [rounds_succ]
      go_wp2
      go_ret
      exact ⟨rfl, rfl⟩
    have HH := Lib.hid HX
    clear HX
    go_enter Tryz.func67, Tryz.ntmps67
    go_wp2_with fail
    refine HH.out.mono ?_
    rintro e w' ⟨rfl, hw⟩
    have hw2 := hw.symm
    subst hw2
    go_wp2
    go_ret
    exact ⟨rfl, rfl⟩

theorem isTp_false {P : List Int} {F : Nat} {l : List Int} {i : Nat} (hi : i < l.length) (h : pT P F l i = false) : isTp P F l = false := by
  unfold isTp
  rw [allN_false h hi]
  rfl
theorem pT_neg {P : List Int} {F : Nat} {l : List Int} {i : Nat} (h : l.getD i 0 < 0) : pT P F l i = false := by
  unfold pT
  rw [decide_eq_false (by omega)]
  rfl
theorem pT_nat {P : List Int} {F : Nat} {l : List Int} {i m : Nat} (h : l.getD i 0 = (m : Int)) : pT P F l i = (subB (fre F l i) m && (decide (lowB m = lowB (fre F l i)) && P.contains (m : Int))) := by
  unfold pT atI subB
  rw [h, decide_eq_true (show (0 : Int) ≤ (m : Int) by omega)]
  rfl

theorem own_intsI {V V1 : World} {v : Value} {W : Int} {l : List Int} {ps : List (List Cl)} (ho : V1.ownsRow V.heap.size 3 1 v (apR W l ps).length (iv (apR W l ps))) :
    ∃ a cap, v = .slice a (apR W l ps).length cap ∧ (apR W l ps).length ≤ 100000 ∧ IntsAt V1.heap.size V1 a (apR W l ps).length (apR W l ps) := by
  obtain ⟨a, cap, rfl⟩ := own_sliceI ho
  exact ⟨a, cap, rfl, by rw [← pQ_ints, ints_len]; exact Nat.le_trans (pQ_len W l ps) (by omega), IntsAt.of_own ho (fun z hz => by have := apR_bd W l ps z hz; unfold In64; omega)⟩

set_option maxHeartbeats 4000000 in
set_option maxRecDepth 100000 in
theorem iIsTil (B n cap m2 cap2 m3 cap3 : Nat) (a a2 a3 : Option Addr) (W : Int) (l : List Int) (ps : List (List Cl)) (ls : List Int) (w : World) (hn : n ≤ 4194304) (hm : m2 ≤ 1048576) (hm3 : m3 ≤ 4194304) (hc : IntsAt B w a n l) (hd : PsAt B w a2 m2 ps) (he : IntsAt B w a3 m3 ls) (hB : B ≤ w.heap.size) (hT : Tz w) :
    Calls Tryz.prog 19 #[.agg #[.int .i64 W, .slice a n cap], .slice a2 m2 cap2, .slice a3 m3 cap3] w fun e w' => e = .returned (.bool (isTil W l ps ls)) ∧ Below w.heap.size w w' := by
  have H := Lib.hid hc
  have HD := Lib.hid hd
  have HE := Lib.hid he
  have hl3 := he.1
  have HT := Lib.hid hT
  clear hc hd he hT
  have hb0 := (Below.refl w.heap.size w).alloc (Nat.le_refl _) (.cells #[.int .i64 W, .slice a n cap] 26)
  have hbox0 := RgAt.new (w := w) W (.slice a n cap) rfl
  have hsz0 : (w.alloc (.cells #[.int .i64 W, .slice a n cap] 26)).heap.size = w.heap.size + 1 := by simp
  cases h : okT W l ps with
  | false =>
    have HI := Lib.hid h
    have HO := Lib.hid (isTil_no h ls)
    rw [HO.out]
    clear h
    go_enter Tryz.func19, Tryz.ntmps19
    go_wp2_with fail
    refine (iCanT B n cap m2 cap2 a a2 W l ps _ hn (by omega) (H.out.on (hb0.mono hB)) (HD.out.on (hb0.mono hB)) (Nat.le_trans hB hb0.size)).mono ?_
    rintro e w' ⟨rfl, hb⟩
    rw [HI.out]
    go_wp2
    go_ret
    exact ⟨rfl, hb0.trans (hb.mono hb0.size)⟩
  | true =>
    have HI := Lib.hid h
    have HO := Lib.hid (isTil_p h ls)
    rw [HO.out]
    clear h
    go_enter Tryz.func19, Tryz.ntmps19
    go_wp2_with fail
    refine (iCanT B n cap m2 cap2 a a2 W l ps _ hn (by omega) (H.out.on (hb0.mono hB)) (HD.out.on (hb0.mono hB)) (Nat.le_trans hB hb0.size)).mono ?_
    rintro e vb ⟨rfl, hb⟩
    rw [HI.out]
    have HB := Lib.hid (hb0.trans (hb.mono hb0.size))
    have HBX := Lib.hid (hbox0.on hb hbox0.lt)
    clear hb hb0 hbox0 hsz0
    have hsb := HB.out.size
    have HK1 := Lib.hid (fun v9 (h9 : Below vb.heap.size vb v9) => iAp B n cap m2 cap2 a a2 W l ps v9 hn hm (H.out.on ((HB.out.mono hB).trans (h9.mono (by omega)))) (HD.out.on ((HB.out.mono hB).trans (h9.mono (by omega)))) (by have := h9.size; omega))
    have HK3 := Lib.hid (fun v9 (h9 : Below vb.heap.size vb v9) => iMask B n cap a W l v9 hn (H.out.on ((HB.out.mono hB).trans (h9.mono (by omega)))) (by have := h9.size; omega))
    have HS := Lib.hid (fun v9 (h9 : Below vb.heap.size vb v9) => (show v9.cell? ⟨w.heap.size, 0, none⟩ = some (.int .i64 W) ∧ v9.cell? ⟨w.heap.size, 1, none⟩ = some (.slice a n cap) from by have h8 := HBX.out.on h9 HBX.out.lt; exact ⟨h8.c0, h8.c1⟩))
    have c0 := HBX.out.c0
    have c1 := HBX.out.c1
    go_wp2_with fail
    have k0 : Below vb.heap.size vb vb.drew := (Below.refl _ vb).drew
    go_region_held3 (fun w' => w'.cell? ⟨w.heap.size, 0, none⟩ = some (.int .i64 W) ∧ w'.cell? ⟨w.heap.size, 1, none⟩ = some (.slice a n cap))
      (first | exact HS.out _ k0 | exact HS.out _ k1 | exact HS.out _ k3)
      (first
        | (go_at_call 55
           refine (HK1.out _ k0).mono ?_
           rintro e v1 ⟨av, rfl, ho1, hb1⟩
           have k1 : Below vb.heap.size vb v1 := Below.trans k0 (hb1.mono (Below.size k0)))
        | (go_at_call 57
           refine (HK3.out _ k1).mono ?_
           rintro e v3 ⟨rfl, hb3⟩
           have k3 : Below vb.heap.size vb v3 := Below.trans k1 (hb3.mono (Below.size k1))))
    obtain ⟨ap, cpp, rfl, hpl, hpi⟩ := own_intsI ho1
    have HPI := Lib.hid ((hpi.on hb3).more hb3.size)
    have HB9 := Lib.hid (HB.out.trans (k3.mono hsb))
    have HT9 := Lib.hid (HT.out.on HB9.out HT.out.2)
    have HE9 := Lib.hid (HE.out.on (HB9.out.mono hB))
    have hs9 := HB9.out.size
    have hF36 := maskR_lt W l
    obtain ⟨P, hP⟩ : ∃ P, apR W l ps = P := ⟨_, rfl⟩
    obtain ⟨Fm, hFm⟩ : ∃ Fm, maskR W l = Fm := ⟨_, rfl⟩
    have HTP := Lib.hid (show isTp (apR W l ps) (maskR W l) ls = isTp P Fm ls from by rw [hP, hFm])
    rw [hP] at hpl HPI
    rw [hFm] at hF36
    (try rw [hP])
    (try rw [hFm])
    clear k0 k1 k3 c0 c1 ho1 hb1 hb3 hpi hP hFm
    (try simp only [Exit.then])
    go_wp2
    go_loopw [8, 22] (fun fv ix wr => ∃ i : Nat, i ≤ m3 ∧ ix = .int .i64 (i : Int) ∧ fv = .int .i64 (fre Fm ls i : Nat) ∧ Hid (allN (pT P Fm ls) i = true) ∧ wr = v3) (fun _ ix _ => m3 - (intOf ix).toNat)
    case atStart => exact ⟨0, by omega, rfl, rfl, rfl, rfl⟩
    case round =>
      obtain ⟨i, hi, rfl, rfl, hall, hwr⟩ := hrel
      subst hwr
      have hfl := fre_le Fm ls i
      by_cases hlt : i < m3
      · have hi1 : (i : Int) < (m3 : Int) := by omega
        have hi0 : (0 : Int) ≤ (i : Int) := by omega
        obtain ⟨b9, o9, rfl, hb9, hc9⟩ := HE9.out.2.2 (by omega)
        have p1 := hc9 i hlt
        have hin := HE9.out.2.1 (ls.getD i 0) (by simp [List.getD, show i < ls.length by omega])
        have HNG := Lib.hid (fun h => pT_neg (P := P) (F := Fm) (l := ls) (i := i) h)
        have HNT := Lib.hid (fun m h => pT_nat (P := P) (F := Fm) (l := ls) (i := i) (m := m) h)
        have HFS := Lib.hid (fun h => isTp_false (P := P) (F := Fm) (l := ls) (i := i) (by omega) h)
        have HAS := Lib.hid (allN_step (pT P Fm ls) i)
        have HFR := Lib.hid (show fre Fm ls (i + 1) = fre Fm ls i - (ls.getD i 0).toNat from rfl)
        obtain ⟨f, hf⟩ : ∃ f, fre Fm ls i = f := ⟨_, rfl⟩
        obtain ⟨z, hz⟩ : ∃ z, ls.getD i 0 = z := ⟨_, rfl⟩
        rw [hf] at hfl HFR HNT ⊢
        rw [hz] at p1 hin HNG HNT HFR
        clear hc9 hz hf
        rcases Int.lt_or_le z 0 with hneg | hpos
        · have k1 := andnot_neg hneg hin (show f < 9223372036854775808 by omega)
          have k3 : (bits .andNot .i64 z (f : Int) != 0) = true := by rw [bne_iff_ne]; exact k1
          have HR := Lib.hid (HFS.out (HNG.out hneg))
          clear HNG HNT HFS HAS HFR k1
          go_wp2
          go_ret
          exact ⟨by rw [HTP.out, HR.out]; rfl, HB9.out⟩
        obtain ⟨m, rfl⟩ : ∃ m : Nat, z = m := ⟨z.toNat, by omega⟩
        have hm63 : m < 9223372036854775808 := by unfold In64 at hin; omega
        have HPT := Lib.hid (HNT.out m rfl)
        clear HNG HNT
        cases hsb2 : subB f m with
        | false =>
          have k1 := andnot_no hsb2 hm63 (show f < 9223372036854775808 by omega)
          have k3 : (bits .andNot .i64 (m : Int) (f : Int) != 0) = true := by rw [bne_iff_ne]; exact k1
          have HR := Lib.hid (HFS.out (by rw [HPT.out, hsb2]; rfl))
          clear HPT HFS HAS HFR k1 hsb2
          go_wp2
          go_ret
          exact ⟨by rw [HTP.out, HR.out]; rfl, HB9.out⟩
        | true =>
          obtain ⟨k1, k2⟩ := andnot_sub hsb2 hm63 (show f < 9223372036854775808 by omega)
          have k3 : ((0 : Int) != 0) = false := by decide
          have HL1 := Lib.hid (iLow m hm63 wr HT9.out)
          have HL2 := Lib.hid (iLow f (by omega) wr HT9.out)
          have hl64 : lowB m ≤ 64 ∧ lowB f ≤ 64 := by
            constructor
            · by_cases h0 : m = 0
              · subst h0; rw [lowB_zero]; omega
              · have := lowB_lt h0 (by omega); omega
            · by_cases h0 : f = 0
              · subst h0; rw [lowB_zero]; omega
              · have := lowB_lt h0 (by omega); omega
          obtain ⟨q1, hq1⟩ : ∃ q1, lowB m = q1 := ⟨_, rfl⟩
          obtain ⟨q2, hq2⟩ : ∃ q2, lowB f = q2 := ⟨_, rfl⟩
          rw [hq1] at HL1 hl64 HPT
          rw [hq2] at HL2 hl64 HPT
          clear hq1 hq2
          by_cases hqq : q1 = q2
          · subst hqq
            have e3 : ((q1 : Int) != (q1 : Int)) = false := by simp
            have HH := Lib.hid (iHasI (P.length) cpp ap P (m : Int) wr (by omega) (HPI.out))
            cases hct : P.contains (m : Int) with
            | false =>
              rw [hct] at HH
              have HR := Lib.hid (HFS.out (by rw [HPT.out, hct]; simp))
              clear HPT HFS HAS HFR hct hsb2
              go_wp2_with fail
              refine HL1.out.mono ?_
              rintro e w5 ⟨rfl, hw5⟩
              have hw5' := hw5.symm
              subst hw5'
              go_wp2_with fail
              refine HL2.out.mono ?_
              rintro e w6 ⟨rfl, hw6⟩
              have hw6' := hw6.symm
              subst hw6'
              go_wp2_with fail
              refine HH.out.mono ?_
              rintro e w7 ⟨rfl, hw7⟩
              have hw7' := hw7.symm
              subst hw7'
              go_wp2
              go_ret
              exact ⟨by rw [HTP.out, HR.out]; rfl, HB9.out⟩
            | true =>
              rw [hct] at HH
              have HR := Lib.hid (show allN (pT P Fm ls) (i + 1) = true from by
                have h1 := hall.out
                unfold Hid at h1
                rw [HAS.out, h1, HPT.out, hct, hsb2]
                simp)
              have HFR2 := Lib.hid (show fre Fm ls (i + 1) = f - m from HFR.out)
              obtain ⟨fm, hfm⟩ : ∃ fm, f - m = fm := ⟨_, rfl⟩
              rw [hfm] at k2 HFR2
              clear HPT HFS HAS HFR hct hsb2 hall
              go_wp2_with fail
              refine HL1.out.mono ?_
              rintro e w5 ⟨rfl, hw5⟩
              have hw5' := hw5.symm
              subst hw5'
              go_wp2_with fail
              refine HL2.out.mono ?_
              rintro e w6 ⟨rfl, hw6⟩
              have hw6' := hw6.symm
              subst hw6'
              go_wp2_with fail
              refine HH.out.mono ?_
              rintro e w7 ⟨rfl, hw7⟩
              have hw7' := hw7.symm
              subst hw7'
              go_wp2
              go_roundw
              case rel => first
                | exact ⟨i + 1, by omega, by go_num, by rw [HFR2.out], HR.out, trivial⟩
              case measure => first | (simp [intOf]; done) | (simp [intOf]; omega)
          · have e3 : ((q1 : Int) != (q2 : Int)) = true := by rw [bne_iff_ne]; omega
            have HR := Lib.hid (HFS.out (by rw [HPT.out, decide_eq_false hqq]; simp))
            clear HPT HFS HAS HFR hsb2
            go_wp2_with fail
            refine HL1.out.mono ?_
            rintro e w5 ⟨rfl, hw5⟩
            have hw5' := hw5.symm
            subst hw5'
            go_wp2_with fail
            refine HL2.out.mono ?_
            rintro e w6 ⟨rfl, hw6⟩
            have hw6' := hw6.symm
            subst hw6'
            go_wp2
            go_ret
            exact ⟨by rw [HTP.out, HR.out]; rfl, HB9.out⟩
      · obtain rfl : i = m3 := by omega
        have HR := Lib.hid (show isTp P Fm ls = decide (fre Fm ls i = 0) from by
          have h1 := hall.out
          unfold Hid at h1
          unfold isTp
          rw [hl3, h1]
          rfl)
        obtain ⟨f, hf⟩ : ∃ f, fre Fm ls i = f := ⟨_, rfl⟩
        rw [hf] at HR hfl ⊢
        have e3 : ((f : Int) == 0) = decide (f = 0) := by rw [Bool.eq_iff_iff]; simp
        clear hall hf
        go_wp2
        go_ret
        exact ⟨by rw [HTP.out, HR.out, ← e3]; rfl, HB9.out⟩
end Go.Proofs.YtkjlmgkjcmebbaaGreatDoor
