/-
  Is a list of masks a tiling, in the model: what the call gives.
-/
import Derived.Test.YtkjlmgkjcmebbaaGreatDoorWao
import Derived.Lib.QuietBelow
namespace Go.Proofs.YtkjlmgkjcmebbaaGreatDoor
open Go.RowKit

theorem isTm_false {P : List Int} {F : Nat} {l : List Int} {i : Nat} (hi : i < l.length) (h : mT P l i = false) : isTm P F l = false := by
  unfold isTm
  rw [allN_false h hi]
  rfl
theorem mT_has {P l : List Int} {i : Nat} {z : Int} (h : l.getD i 0 = z) (hc : P.contains z = false) : mT P l i = false := by
  unfold mT
  rw [h, hc]
  rfl
theorem mT_nat {P l : List Int} {i m : Nat} (h : l.getD i 0 = (m : Int)) (hc : P.contains (m : Int) = true) : mT P l i = ((usd l i &&& m == 0) && !(decide (0 < i) && decide (lowB m < lowB (atI l (i - 1))))) := by
  unfold mT atI
  rw [h, hc]
  rfl
theorem own_intsS {V V1 : World} {v : Value} {W : Int} {l : List Int} {ps : List (List Cl)} (ho : V1.ownsRow V.heap.size 3 1 v (apR W l ps).length (iv (apR W l ps))) :
    ∃ a cap, v = .slice a (apR W l ps).length cap ∧ (apR W l ps).length ≤ 100000 ∧ IntsAt V1.heap.size V1 a (apR W l ps).length (apR W l ps) := by
  obtain ⟨a, cap, rfl, h1, h2⟩ := own_intsQ ho
  rw [pQ_ints] at h2
  exact ⟨a, cap, rfl, h1, h2⟩
theorem usd_lt {P l : List Int} (hP : ∀ x ∈ P, 0 < x ∧ x < 68719476736) : ∀ k, k ≤ l.length → allN (mT P l) k = true → usd l k < 68719476736
  | 0, _, _ => by rw [usd_zero]; omega
  | k + 1, h, hp => by
    rw [allN_step, Bool.and_eq_true] at hp
    have h1 := usd_lt hP k (by omega) hp.1
    have h2 := hP _ (mT_parts hp.2).1
    rw [usd_step (by omega)]
    have h3 : atI l k < 2 ^ 36 := by unfold atI; omega
    have := Nat.or_lt_two_pow (show usd l k < 2 ^ 36 by omega) h3
    omega

set_option maxHeartbeats 8000000 in
set_option maxRecDepth 100000 in
theorem sIsTil (B n cap m2 cap2 m3 cap3 : Nat) (a a2 a3 : Option Addr) (W : Int) (l : List Int) (ps : List (List Cl)) (ls : List Int) (w : World) (hn : n ≤ 4194304) (hm : m2 ≤ 1048576) (hm3 : m3 ≤ 4194304) (hc : IntsAt B w a n l) (hd : PsAt B w a2 m2 ps) (he : IntsAt B w a3 m3 ls) (hB : B ≤ w.heap.size) :
    Calls Tryz.prog 23 #[.agg #[.int .i64 W, .slice a n cap], .slice a2 m2 cap2, .slice a3 m3 cap3] w fun e w' => e = .returned (.bool (isTil W l ps ls)) ∧ Below w.heap.size w w' := by
  have H := Lib.hid hc
  have HD := Lib.hid hd
  have HE := Lib.hid he
  have hl3 := he.1
  clear hc hd he
  have hb0 := (Below.refl w.heap.size w).alloc (Nat.le_refl _) (.cells #[.int .i64 W, .slice a n cap] 26)
  have hbox0 := RgAt.new (w := w) W (.slice a n cap) rfl
  have hsz0 : (w.alloc (.cells #[.int .i64 W, .slice a n cap] 26)).heap.size = w.heap.size + 1 := by simp
  cases h1 : isReg W l with
  | false =>
    have HI := Lib.hid h1
    have HO := Lib.hid (isTil_no (ps := ps) (show okT W l ps = false from by unfold okT; rw [h1]; rfl) ls)
    rw [HO.out]
    clear h1
    go_enter Tryz.func23, Tryz.ntmps23
    go_wp2_with fail
    refine (sIsReg B n cap a W l _ hn (H.out.on (hb0.mono hB)) (Nat.le_trans hB hb0.size)).mono ?_
    rintro e w' ⟨rfl, hb⟩
    rw [HI.out]
    go_wp2
    go_ret
    exact ⟨rfl, hb0.trans (hb.mono hb0.size)⟩
  | true =>
    have HI := Lib.hid h1
    cases h2 : arePc ps with
    | false =>
      have HP := Lib.hid h2
      have HO := Lib.hid (isTil_no (W := W) (l := l) (show okT W l ps = false from by unfold okT; rw [h1, h2]; rfl) ls)
      rw [HO.out]
      clear h1 h2
      go_enter Tryz.func23, Tryz.ntmps23
      go_wp2_with fail
      refine (sIsReg B n cap a W l _ hn (H.out.on (hb0.mono hB)) (Nat.le_trans hB hb0.size)).mono ?_
      rintro e w1 ⟨rfl, hb⟩
      rw [HI.out]
      have HB1 := Lib.hid (hb0.trans (hb.mono hb0.size))
      clear hb hb0
      go_wp2_with fail
      refine (sArePc B m2 cap2 a2 ps w1 (by omega) (HD.out.on (HB1.out.mono hB)) (Nat.le_trans hB HB1.out.size)).mono ?_
      rintro e w2 ⟨rfl, hb2⟩
      rw [HP.out]
      go_wp2
      go_ret
      exact ⟨rfl, HB1.out.trans (hb2.mono HB1.out.size)⟩
    | true =>
      have HP := Lib.hid h2
      have HO := Lib.hid (isTil_m (show okT W l ps = true from by unfold okT; rw [h1, h2]; rfl) ls)
      rw [HO.out]
      clear h1 h2
      go_enter Tryz.func23, Tryz.ntmps23
      go_wp2_with fail
      refine (sIsReg B n cap a W l _ hn (H.out.on (hb0.mono hB)) (Nat.le_trans hB hb0.size)).mono ?_
      rintro e w1 ⟨rfl, hb⟩
      rw [HI.out]
      have HB1 := Lib.hid (hb0.trans (hb.mono hb0.size))
      have HX1 := Lib.hid (hbox0.on hb hbox0.lt)
      clear hb hb0 hbox0 hsz0
      go_wp2_with fail
      refine (sArePc B m2 cap2 a2 ps w1 (by omega) (HD.out.on (HB1.out.mono hB)) (Nat.le_trans hB HB1.out.size)).mono ?_
      rintro e vb ⟨rfl, hb2⟩
      rw [HP.out]
      have HB := Lib.hid (HB1.out.trans (hb2.mono HB1.out.size))
      have HBX := Lib.hid (HX1.out.on hb2 HX1.out.lt)
      clear hb2 HB1 HX1
      have hsb := HB.out.size
      have c0 := HBX.out.c0
      have c1 := HBX.out.c1
      go_wp2_with fail
      refine (sAp B n cap m2 cap2 a a2 W l ps vb hn hm (H.out.on (HB.out.mono hB)) (HD.out.on (HB.out.mono hB)) (by omega)).mono ?_
      rintro e v3 ⟨av, rfl, ho1, hb1⟩
      obtain ⟨ap, cpp, rfl, hpl, hpi⟩ := own_intsS ho1
      have HPI := Lib.hid hpi
      have HB9 := Lib.hid (HB.out.trans (hb1.mono hsb))
      have HX9 := Lib.hid (HBX.out.on hb1 HBX.out.lt)
      have hs9 := HB9.out.size
      have hs8 := hb1.size
      have hPB := apR_bd W l ps
      have HK3 := Lib.hid (fun v9 (h9 : Below w.heap.size w v9) => sMask B n cap a W l v9 hn (H.out.on (h9.mono hB)) (Nat.le_trans hB h9.size))
      obtain ⟨P, hP⟩ : ∃ P, apR W l ps = P := ⟨_, rfl⟩
      obtain ⟨Fm, hFm⟩ : ∃ Fm, maskR W l = Fm := ⟨_, rfl⟩
      have HTP := Lib.hid (show isTm (apR W l ps) (maskR W l) ls = isTm P Fm ls from by rw [hP, hFm])
      rw [hP] at hpl HPI hPB
      rw [hFm] at HK3
      (try rw [hP])
      have HPB := Lib.hid hPB
      clear c0 c1 ho1 hb1 hpi hP hFm hPB
      go_wp2
      go_loopw [8, 9] (fun uv ix wr => ∃ i : Nat, i ≤ m3 ∧ ix = .int .i64 (i : Int) ∧ uv = .int .i64 (usd ls i : Nat) ∧ Hid (allN (mT P ls) i = true) ∧ Below v3.heap.size v3 wr) (fun _ ix _ => m3 - (intOf ix).toNat)
      case atStart => exact ⟨0, by omega, rfl, rfl, rfl, Below.refl _ _⟩
      case round =>
        obtain ⟨i, hi, rfl, rfl, hall, hb'⟩ := hrel
        have hb := HB9.out.trans (hb'.mono (by omega))
        have HE9 := Lib.hid (HE.out.on (hb.mono hB))
        have hsr := hb.size
        have hul := usd_lt (l := ls) HPB.out i (by omega) (by have h1 := hall.out; unfold Hid at h1; exact h1)
        by_cases hlt : i < m3
        · have hi1 : (i : Int) < (m3 : Int) := by omega
          have hi0 : (0 : Int) ≤ (i : Int) := by omega
          obtain ⟨b9, o9, rfl, hb9, hc9⟩ := HE9.out.2.2 (by omega)
          have p1 := hc9 i hlt
          have HMF := Lib.hid (fun z h => mT_has (P := P) (l := ls) (i := i) (z := z) h)
          have HMN := Lib.hid (fun m h => mT_nat (P := P) (l := ls) (i := i) (m := m) h)
          have HFS := Lib.hid (fun h => isTm_false (P := P) (F := Fm) (l := ls) (i := i) (by omega) h)
          have HAS := Lib.hid (allN_step (mT P ls) i)
          have HUS0 := Lib.hid (usd_step (l := ls) (k := i) (by omega))
          obtain ⟨u, hu⟩ : ∃ u, usd ls i = u := ⟨_, rfl⟩
          obtain ⟨z, hz⟩ : ∃ z, ls.getD i 0 = z := ⟨_, rfl⟩
          have HZ := Lib.hid hz
          rw [hu] at hul HUS0 HMN ⊢
          rw [hz] at p1
          have r1 := cell_regrown p1
          have HHS := Lib.hid (fun W9 (h9 : Below v3.heap.size v3 W9) => sHasI v3.heap.size P.length cpp ap P z W9 (by omega) (HPI.out.on h9) h9.size)
          cases hct : P.contains z with
          | false =>
            rw [hct] at HHS
            have kH : ∀ d os, Calls Tryz.prog 68 #[.slice ap P.length cpp, .int .i64 z] (Go.Sort.grow (redrawn wr d) os) fun e w9 => e = .returned (.bool false) ∧ Below (Go.Sort.grow (redrawn wr d) os).heap.size (Go.Sort.grow (redrawn wr d) os) w9 := fun d os => HHS.out _ (hb'.trans ((below_regrown wr d os).mono hb'.size))
            have HR := Lib.hid (HFS.out (HMF.out z hz hct))
            clear HMF HMN HFS HAS HUS0 HHS hct hu hz
            go_wp2_with fail
            refine wp_region_quiet_below (by kernel_rfl) (by kernel_rfl) ?_
            repeat (first | (go_big_quiet_step (first | (go_at_call 68; with_reducible refine Calls.regrown_of (kH _ _)))) | (quiet_step (first | (go_at_call 68; with_reducible refine Calls.regrown_of (kH _ _)))))
            refine wpQuiet_nil ?_
            intro _ hw9
            obtain ⟨⟨nq, osq⟩, hw8⟩ := hw9
            subst hw8
            have hbz := below_regrown wr nq osq
            generalize (Go.Sort.grow (redrawn wr nq) osq) = w6 at *
            have HB6 := Lib.hid (hb.trans (hbz.mono hb.size))
            clear r1 kH p1
            go_wp2
            go_ret
            exact ⟨by rw [HTP.out, HR.out]; rfl, HB6.out⟩
          | true =>
            rw [hct] at HHS
            have hzp := HPB.out z (List.contains_iff_mem.1 hct)
            obtain ⟨m, rfl⟩ : ∃ m : Nat, z = m := ⟨z.toNat, by omega⟩
            have hm36 : m < 68719476736 := by omega
            have hm0 : m ≠ 0 := by omega
            have HMT := Lib.hid (HMN.out m hz hct)
            have kH : ∀ d os, Calls Tryz.prog 68 #[.slice ap P.length cpp, .int .i64 (m : Int)] (Go.Sort.grow (redrawn wr d) os) fun e w9 => e = .returned (.bool true) ∧ Below (Go.Sort.grow (redrawn wr d) os).heap.size (Go.Sort.grow (redrawn wr d) os) w9 := fun d os => HHS.out _ (hb'.trans ((below_regrown wr d os).mono hb'.size))
            have hand := i64_and_nat u m (by omega) (by omega)
            have hor := i64_or_nat u m (by omega) (by omega)
            have HUS1 := Lib.hid (show usd ls (i + 1) = u ||| m from by rw [HUS0.out]; unfold atI; rw [HZ.out]; rfl)
            obtain ⟨o, ho⟩ : ∃ o, u ||| m = o := ⟨_, rfl⟩
            rw [ho] at hor HUS1
            have HUS := HUS1
            clear HMF HMN HHS HUS0 hu hz ho
            by_cases hun : u &&& m = 0
            · rw [hun] at hand HMT
              have hand1 : bits .and .i64 (u : Int) (m : Int) = 0 := hand
              have k3 : ((0 : Int) != 0) = false := by decide
              by_cases hi00 : i = 0
              · have hn0 : ¬ (0 : Int) < (i : Int) := by omega
                have HR := Lib.hid (show allN (mT P ls) (i + 1) = true from by
                  rw [HAS.out, HMT.out, decide_eq_false (show ¬ 0 < i by omega)]
                  have h1 := hall.out
                  unfold Hid at h1
                  rw [h1]
                  rfl)
                clear HMT HFS HAS hand hun hct hall hn0 r1
                subst hi00
                rw [show ((0 : Nat) : Int) = 0 from rfl] at hi1 ⊢
                have p0 : wr.cell? ⟨b9, o9, none⟩ = some (.int .i64 (m : Int)) := p1
                have r1 := cell_regrown p0
                go_wp2_with fail
                refine wp_region_quiet_below (by kernel_rfl) (by kernel_rfl) ?_
                repeat (first | (go_big_quiet_step (first | (go_at_call 68; with_reducible refine Calls.regrown_of (kH _ _)))) | (quiet_step (first | (go_at_call 68; with_reducible refine Calls.regrown_of (kH _ _)))))
                refine wpQuiet_nil ?_
                intro _ hw9
                obtain ⟨⟨nq, osq⟩, hw8⟩ := hw9
                subst hw8
                have hbz := below_regrown wr nq osq
                generalize (Go.Sort.grow (redrawn wr nq) osq) = w6 at *
                have HB6 := Lib.hid (hb.trans (hbz.mono hb.size))
                have p1 := (hbz.cell (p := ⟨b9, o9, none⟩) (by show b9 < wr.heap.size; omega)).trans p0
                have HB6 := Lib.hid (hb'.trans (hbz.mono hb'.size))
                clear r1 kH p0
                go_wp2
                go_roundw
                case rel => first
                  | exact ⟨0 + 1, by omega, by go_num, by rw [HUS.out], HR.out, HB6.out⟩
                  | (repeat apply Exists.intro
                     exact ⟨⟨0 + 1, by omega, by go_num, by rw [HUS.out], HR.out, HB6.out⟩, rfl⟩)
                case measure => first | (simp [intOf]; done) | (simp [intOf]; omega)
              · obtain ⟨j, hj⟩ : ∃ j, i = j + 1 := ⟨i - 1, by omega⟩
                have hij : (i : Int) - 1 = (j : Int) := by omega
                have hij2 : i - 1 = j := by omega
                have hip : (0 : Int) < (i : Int) := by omega
                have hj0 : (0 : Int) ≤ (j : Int) := by omega
                have hj1 : (j : Int) < (m3 : Int) := by omega
                have p2 := hc9 j (by omega)
                have hjm := HPB.out _ (mT_parts ((allN_iff _ _).1 (by have h1 := hall.out; unfold Hid at h1; exact h1) j (by omega))).1
                have HAT := Lib.hid (show atI ls (i - 1) = (ls.getD j 0).toNat from by rw [hij2]; rfl)
                obtain ⟨z2, hz2⟩ : ∃ z2, ls.getD j 0 = z2 := ⟨_, rfl⟩
                rw [hz2] at p2 hjm HAT
                obtain ⟨m', rfl⟩ : ∃ m' : Nat, z2 = m' := ⟨z2.toNat, by omega⟩
                have hm'0 : m' ≠ 0 := by omega
                rw [HAT.out] at HMT
                have h9 : ((m' : Int)).toNat = m' := by omega
                rw [h9] at HMT
                have r2 := cell_regrown p2
                have HL1 := Lib.hid (fun W9 => sLow m hm0 (by omega) W9)
                have HL2 := Lib.hid (fun W9 => sLow m' hm'0 (by omega) W9)
                obtain ⟨q1, hq1⟩ : ∃ q1, lowB m = q1 := ⟨_, rfl⟩
                obtain ⟨q2, hq2⟩ : ∃ q2, lowB m' = q2 := ⟨_, rfl⟩
                rw [hq1] at HL1 HMT
                rw [hq2] at HL2 HMT
                have kL1 : ∀ d os, Calls Tryz.prog 69 #[.int .i64 (m : Int)] (Go.Sort.grow (redrawn wr d) os) fun e w9 => e = .returned (.int .i64 (q1 : Nat)) ∧ Below (Go.Sort.grow (redrawn wr d) os).heap.size (Go.Sort.grow (redrawn wr d) os) w9 := fun d os => HL1.out _
                have kL2 : ∀ d os, Calls Tryz.prog 69 #[.int .i64 (m' : Int)] (Go.Sort.grow (redrawn wr d) os) fun e w9 => e = .returned (.int .i64 (q2 : Nat)) ∧ Below (Go.Sort.grow (redrawn wr d) os).heap.size (Go.Sort.grow (redrawn wr d) os) w9 := fun d os => HL2.out _
                have hi0p : 0 < i := by omega
                clear hq1 hq2 hz2 HAT hj hij2 hi00
                by_cases hqq : q1 < q2
                · have hqq1 : (q1 : Int) < (q2 : Int) := by omega
                  have HR := Lib.hid (HFS.out (by rw [HMT.out, decide_eq_true hqq, decide_eq_true hi0p]; simp))
                  clear HMT HFS HAS hand hun hct hall
                  go_wp2_with fail
                  refine wp_region_quiet_below (by kernel_rfl) (by kernel_rfl) ?_
                  repeat (first | (go_big_quiet_step (first | (go_at_call 68; with_reducible refine Calls.regrown_of (kH _ _)) | (go_at_call 69; with_reducible refine Calls.regrown_of (kL1 _ _)) | (go_at_call 69; with_reducible refine Calls.regrown_of (kL2 _ _)))) | (quiet_step (first | (go_at_call 68; with_reducible refine Calls.regrown_of (kH _ _)) | (go_at_call 69; with_reducible refine Calls.regrown_of (kL1 _ _)) | (go_at_call 69; with_reducible refine Calls.regrown_of (kL2 _ _)))))
                  refine wpQuiet_nil ?_
                  intro _ hw9
                  obtain ⟨⟨nq, osq⟩, hw8⟩ := hw9
                  subst hw8
                  have hbz := below_regrown wr nq osq
                  generalize (Go.Sort.grow (redrawn wr nq) osq) = w6 at *
                  have HB6 := Lib.hid (hb.trans (hbz.mono hb.size))
                  clear r1 r2 kH kL1 kL2 p1 p2
                  go_wp2
                  go_ret
                  exact ⟨by rw [HTP.out, HR.out]; rfl, HB6.out⟩
                · have hqq1 : ¬ (q1 : Int) < (q2 : Int) := by omega
                  have HR := Lib.hid (show allN (mT P ls) (i + 1) = true from by
                    rw [HAS.out, HMT.out]
                    have h1 := hall.out
                    unfold Hid at h1
                    rw [h1, decide_eq_false hqq]
                    simp)
                  clear HMT HFS HAS hand hun hct hall
                  go_wp2_with fail
                  refine wp_region_quiet_below (by kernel_rfl) (by kernel_rfl) ?_
                  repeat (first | (go_big_quiet_step (first | (go_at_call 68; with_reducible refine Calls.regrown_of (kH _ _)) | (go_at_call 69; with_reducible refine Calls.regrown_of (kL1 _ _)) | (go_at_call 69; with_reducible refine Calls.regrown_of (kL2 _ _)))) | (quiet_step (first | (go_at_call 68; with_reducible refine Calls.regrown_of (kH _ _)) | (go_at_call 69; with_reducible refine Calls.regrown_of (kL1 _ _)) | (go_at_call 69; with_reducible refine Calls.regrown_of (kL2 _ _)))))
                  refine wpQuiet_nil ?_
                  intro _ hw9
                  obtain ⟨⟨nq, osq⟩, hw8⟩ := hw9
                  subst hw8
                  have hbz := below_regrown wr nq osq
                  generalize (Go.Sort.grow (redrawn wr nq) osq) = w6 at *
                  have HB6 := Lib.hid (hb.trans (hbz.mono hb.size))
                  have p1 := (hbz.cell (p := ⟨b9, o9 + i, none⟩) (by show b9 < wr.heap.size; omega)).trans p1
                  have HB6 := Lib.hid (hb'.trans (hbz.mono hb'.size))
                  clear r1 r2 kH kL1 kL2
                  go_wp2
                  go_roundw
                  case rel => first
                    | exact ⟨i + 1, by omega, by go_num, by rw [HUS.out], HR.out, HB6.out⟩
                    | (repeat apply Exists.intro
                       exact ⟨⟨i + 1, by omega, by go_num, by rw [HUS.out], HR.out, HB6.out⟩, rfl⟩)
                  case measure => first | (simp [intOf]; done) | (simp [intOf]; omega)
            · obtain ⟨um, hum⟩ : ∃ um, u &&& m = um := ⟨_, rfl⟩
              rw [hum] at hand hun HMT
              have k3 : ((um : Int) != 0) = true := by rw [bne_iff_ne]; omega
              have HR := Lib.hid (HFS.out (by
                have h9 : (um == 0) = false := by simpa using hun
                rw [HMT.out, h9]
                rfl))
              clear HMT HFS HAS hun hum hct
              go_wp2_with fail
              refine wp_region_quiet_below (by kernel_rfl) (by kernel_rfl) ?_
              repeat (first | (go_big_quiet_step (first | (go_at_call 68; with_reducible refine Calls.regrown_of (kH _ _)))) | (quiet_step (first | (go_at_call 68; with_reducible refine Calls.regrown_of (kH _ _)))))
              refine wpQuiet_nil ?_
              intro _ hw9
              obtain ⟨⟨nq, osq⟩, hw8⟩ := hw9
              subst hw8
              have hbz := below_regrown wr nq osq
              generalize (Go.Sort.grow (redrawn wr nq) osq) = w6 at *
              have HB6 := Lib.hid (hb.trans (hbz.mono hb.size))
              clear r1 kH p1
              go_wp2
              go_ret
              exact ⟨by rw [HTP.out, HR.out]; rfl, HB6.out⟩
        · obtain rfl : i = m3 := by omega
          have HR := Lib.hid (show isTm P Fm ls = decide (usd ls i = Fm) from by
            have h1 := hall.out
            unfold Hid at h1
            unfold isTm
            rw [hl3, h1]
            rfl)
          obtain ⟨u, hu⟩ : ∃ u, usd ls i = u := ⟨_, rfl⟩
          rw [hu] at HR hul ⊢
          have e3 : ((u : Int) == (Fm : Int)) = decide (u = Fm) := by rw [Bool.eq_iff_iff]; simp; exact ⟨fun h9 => by omega, fun h9 => by omega⟩
          have hx := HX9.out.on hb' HX9.out.lt
          have c0 := hx.c0
          have c1 := hx.c1
          clear hall hu hx
          go_wp2_with fail
          refine (HK3.out _ hb).mono ?_
          rintro e w7 ⟨rfl, hb7⟩
          have HB7 := Lib.hid (hb.trans (hb7.mono hb.size))
          clear c0 c1 hb7
          go_wp2
          go_ret
          exact ⟨by rw [HTP.out, HR.out, ← e3]; rfl, HB7.out⟩
end Go.Proofs.YtkjlmgkjcmebbaaGreatDoor
