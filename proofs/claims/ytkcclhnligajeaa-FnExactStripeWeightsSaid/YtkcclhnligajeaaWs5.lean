/-
  Stripes: in the model: what the call gives.
-/
import Derived.Test.YtkcclhnligajeaaVaf
import Derived.Test.YtkcclhnligajeaaVag
import Derived.Test.YtkcclhnligajeaaMtx
import Derived.Deep.RegionHeld3
namespace Go.Proofs.Ytkcclhnligajeaa
open Go.RowKit

theorem ints_new (w : World) (z : Int) (hz : In64 z) : IntsAt (w.heap.size + 1) (w.alloc (.cells #[.int .i64 z] 3)) (some ⟨w.heap.size, 0, none⟩) 1 [z] := by
  refine ⟨rfl, fun y hy => ?_, fun _ => ⟨_, _, rfl, by omega, fun k hk => ?_⟩⟩
  · rw [List.mem_singleton] at hy; subst hy; exact hz
  · obtain rfl : k = 0 := by omega
    exact World.cell?_alloc_at _ _ _ _ rfl
theorem strOk_no1 {W : Int} {l : List Int} {x y p : Int} (h : isReg W l = false) : strOk W l x y p = false := by unfold strOk; rw [h]; rfl
theorem strOk_no2 {W : Int} {l : List Int} {x y p : Int} (h : prmB p = false) : strOk W l x y p = false := by unfold strOk; rw [h]; simp
theorem strOk_no3 {W : Int} {l : List Int} {x y p : Int} (h : inZ p x = false) : strOk W l x y p = false := by
  unfold strOk
  unfold inZ at h
  rw [h]
  simp
theorem strOk_no4 {W : Int} {l : List Int} {x y p : Int} (h : inZ p y = false) : strOk W l x y p = false := by
  unfold strOk
  unfold inZ at h
  rw [h]
  simp
theorem strOk_of {W : Int} {l : List Int} {x y p : Int} (h1 : isReg W l = true) (h2 : prmB p = true) (h3 : inZ p x = true) (h4 : inZ p y = true) : strOk W l x y p = true := by
  unfold strOk
  unfold inZ at h3 h4
  rw [h1, h2, h3, h4]
  rfl
set_option maxHeartbeats 8000000 in
set_option maxRecDepth 100000 in
theorem sStr (B n cap : Nat) (a : Option Addr) (W : Int) (l : List Int) (x y p : Int) (w : World) (hn : n ≤ 4194304) (hc : IntsAt B w a n l) (hB : B ≤ w.heap.size) :
    Calls Try.prog 8 #[.agg #[.int .i64 W, .slice a n cap], .int .i64 x, .int .i64 y, .int .i64 p] w fun e w' => ∃ v, e = .returned v ∧ w'.ownsRow w.heap.size 3 1 v (strW W l x y p).length (iv (strW W l x y p)) ∧ Below w.heap.size w w' := by
  have H := Lib.hid hc
  have hln := hc.1
  clear hc
  have hb0 := ((Below.refl w.heap.size w).alloc (Nat.le_refl _) (.cells #[.int .i64 W, .slice a n cap] 28)).alloc (by simp) (.cells #[] 3)
  have hbox0 := (RgAt.new (w := w) W (.slice a n cap) rfl).alloc (.cells #[] 3)
  have HL0 := Lib.hid (own_lit_i (w.alloc (.cells #[.int .i64 W, .slice a n cap] 28)) (w.heap.size + 1) (w.heap.size + 1) (by simp) (by simp))
  have c0 := hbox0.c0
  have c1 := hbox0.c1
  have HB0 := Lib.hid hb0
  have hs1 : w.heap.size ≤ ((w.alloc (.cells #[.int .i64 W, .slice a n cap] 28)).alloc (.cells #[] 3)).heap.size := hb0.size
  cases h1 : isReg W l with
  | false =>
    have HO := Lib.hid (strW_no (strOk_no1 (x := x) (y := y) (p := p) h1))
    have HI := Lib.hid h1
    rw [HO.out]
    clear h1
    go_enter Try.func8, Try.ntmps8
    go_wp2_with fail
    generalize ((w.alloc (.cells #[.int .i64 W, .slice a n cap] 28)).alloc (.cells #[] 3)) = w1 at *
    refine (sIsReg B n cap a W l w1 hn (H.out.on (hb0.mono hB)) (Nat.le_trans hB hb0.size)).mono ?_
    rintro e w2 ⟨rfl, hb⟩
    rw [HI.out]
    have HL2 := Lib.hid (own_on HL0.out hb)
    have HB2 := Lib.hid (hb0.trans (hb.mono hb0.size))
    go_wp2
    go_ret
    exact ⟨_, rfl, own_below HL2.out (by omega), HB2.out⟩
  | true =>
    have HI := Lib.hid h1
    obtain ⟨N, rfl, hr⟩ := isReg_out h1
    rw [hln] at hr
    cases h2 : prmB p with
    | false =>
      have HO := Lib.hid (strW_no (strOk_no2 (W := N) (l := l) (x := x) (y := y) h2))
      have HP := Lib.hid h2
      rw [HO.out]
      clear h1 h2 hr
      go_enter Try.func8, Try.ntmps8
      go_wp2_with fail
      generalize ((w.alloc (.cells #[.int .i64 N, .slice a n cap] 28)).alloc (.cells #[] 3)) = w1 at *
      refine (sIsReg B n cap a N l w1 hn (H.out.on (hb0.mono hB)) (Nat.le_trans hB hb0.size)).mono ?_
      rintro e w2 ⟨rfl, hb⟩
      rw [HI.out]
      have HL2 := Lib.hid (own_on HL0.out hb)
      have HB2 := Lib.hid (hb0.trans (hb.mono hb0.size))
      clear hb hb0 c0 c1 hbox0
      go_wp2_with fail
      refine (sPrm p w2).mono ?_
      rintro e w3 ⟨rfl, rfl⟩
      rw [HP.out]
      go_wp2
      go_ret
      exact ⟨_, rfl, own_below HL2.out (by omega), HB2.out⟩
    | true =>
      have HP := Lib.hid h2
      have hp5 := ((prmB_iff p).1 h2).pos
      cases h3 : inZ p x with
      | false =>
        have HO := Lib.hid (strW_no (strOk_no3 (W := N) (l := l) (x := x) (y := y) h3))
        have H3 := Lib.hid h3
        rw [HO.out]
        clear h1 h2 h3 hr
        go_enter Try.func8, Try.ntmps8
        go_wp2_with fail
        generalize ((w.alloc (.cells #[.int .i64 N, .slice a n cap] 28)).alloc (.cells #[] 3)) = w1 at *
        refine (sIsReg B n cap a N l w1 hn (H.out.on (hb0.mono hB)) (Nat.le_trans hB hb0.size)).mono ?_
        rintro e w2 ⟨rfl, hb⟩
        rw [HI.out]
        have HL2 := Lib.hid (own_on HL0.out hb)
        have HB2 := Lib.hid (hb0.trans (hb.mono hb0.size))
        clear hb hb0 c0 c1 hbox0
        go_wp2_with fail
        refine (sPrm p w2).mono ?_
        rintro e w3 ⟨rfl, rfl⟩
        rw [HP.out]
        go_wp2_with fail
        refine (sIn x 0 (p - 1) w3).mono ?_
        rintro e w4 ⟨rfl, rfl⟩
        rw [inb_inZ, H3.out]
        go_wp2
        go_ret
        exact ⟨_, rfl, own_below HL2.out (by omega), HB2.out⟩
      | true =>
        have H3 := Lib.hid h3
        cases h4 : inZ p y with
        | false =>
          have HO := Lib.hid (strW_no (strOk_no4 (W := N) (l := l) (x := x) (y := y) h4))
          have H4 := Lib.hid h4
          rw [HO.out]
          clear h1 h2 h3 h4 hr
          go_enter Try.func8, Try.ntmps8
          go_wp2_with fail
          generalize ((w.alloc (.cells #[.int .i64 N, .slice a n cap] 28)).alloc (.cells #[] 3)) = w1 at *
          refine (sIsReg B n cap a N l w1 hn (H.out.on (hb0.mono hB)) (Nat.le_trans hB hb0.size)).mono ?_
          rintro e w2 ⟨rfl, hb⟩
          rw [HI.out]
          have HL2 := Lib.hid (own_on HL0.out hb)
          have HB2 := Lib.hid (hb0.trans (hb.mono hb0.size))
          clear hb hb0 c0 c1 hbox0
          go_wp2_with fail
          refine (sPrm p w2).mono ?_
          rintro e w3 ⟨rfl, rfl⟩
          rw [HP.out]
          go_wp2_with fail
          refine (sIn x 0 (p - 1) w3).mono ?_
          rintro e w4 ⟨rfl, rfl⟩
          rw [inb_inZ, H3.out]
          go_wp2_with fail
          refine (sIn y 0 (p - 1) w3).mono ?_
          rintro e w4 ⟨rfl, rfl⟩
          rw [inb_inZ, H4.out]
          go_wp2
          go_ret
          exact ⟨_, rfl, own_below HL2.out (by omega), HB2.out⟩
        | true =>
          have H4 := Lib.hid h4
          have HO := Lib.hid (strW_yes (strOk_of h1 h2 h3 h4))
          have hx5 := (inZ_iff p x).1 h3
          have hy5 := (inZ_iff p y).1 h4
          have hN1 := hr.w0
          have hm36 := mul_36 hr.w6 hr.h6
          have hN6 := hr.w6
          have hpb := plcN_bd hr
          have HT := Lib.hid (plcN_rg hr)
          rw [HO.out]
          rw [show ((N : Int)).toNat = N by omega, lstI_len]
          obtain ⟨t, ht⟩ : ∃ t, plcN N l = t := ⟨_, rfl⟩
          rw [ht] at hpb HT ⊢
          rw [← HT.out] at hm36
          have HMM := Lib.hid hm36.1
          have hmm := hm36.2
          have HF := Lib.hid (fun i => (show strF N x y p i = (x * ((i % N : Nat) : Int) + y * ((i / N : Nat) : Int)) % p from rfl))
          generalize strF N x y p = F at HF ⊢
          clear h1 h2 h3 h4 hr ht hm36 HO
          have hpn : ¬ p = 0 := by omega
          have hNn : ¬ (N : Int) = 0 := by omega
          have hNz : ¬ N = 0 := by omega
          go_enter Try.func8, Try.ntmps8
          go_wp2_with fail
          generalize ((w.alloc (.cells #[.int .i64 N, .slice a n cap] 28)).alloc (.cells #[] 3)) = w1 at *
          refine (sIsReg B n cap a N l w1 hn (H.out.on (hb0.mono hB)) (Nat.le_trans hB hb0.size)).mono ?_
          rintro e w2 ⟨rfl, hb⟩
          rw [HI.out]
          have HL2 := Lib.hid (own_on HL0.out hb)
          have HB2 := Lib.hid (hb0.trans (hb.mono hb0.size))
          have HX2 := Lib.hid (hbox0.on hb hbox0.lt)
          have hs2 := HB2.out.size
          clear hb hb0 c0 c1 hbox0
          go_wp2_with fail
          refine (sPrm p w2).mono ?_
          rintro e w3 ⟨rfl, rfl⟩
          rw [HP.out]
          go_wp2_with fail
          refine (sIn x 0 (p - 1) w3).mono ?_
          rintro e w4 ⟨rfl, rfl⟩
          rw [inb_inZ, H3.out]
          go_wp2_with fail
          refine (sIn y 0 (p - 1) w3).mono ?_
          rintro e w4 ⟨rfl, rfl⟩
          rw [inb_inZ, H4.out]
          go_wp2
          go_loopw [9, 10] (fun v i wr => ∃ (k g cp : Nat), k ≤ t ∧ i = .int .i64 k ∧ v = .slice (some ⟨g, 0, none⟩) k cp ∧ Hid (wr.ownsRow (w.heap.size + 1) 3 1 (.slice (some ⟨g, 0, none⟩) k cp) k (iv (lstI k F))) ∧ Hid (RgAt wr w.heap.size N (.slice a n cap)) ∧ Below w.heap.size w wr) (fun _ i _ => t - (intOf i).toNat)
          case atStart => exact ⟨0, _, _, by omega, rfl, rfl, HL2.out, HX2.out, HB2.out⟩
          case round =>
            obtain ⟨k, g, cp, hk, rfl, rfl, hrow, hX, hb⟩ := hrel
            have c0 := hX.out.c0
            have c1 := hX.out.c1
            have hmn := HMM.out
            by_cases hlt : k < t
            · have hk1 : (k : Int) < (N : Int) * (n : Int) := by omega
              have hk0 : (0 : Int) ≤ (k : Int) := by omega
              have m1 := mul_56 (x := x) (k := k % N) (by omega) (by have := Nat.mod_lt k (show 0 < N by omega); omega)
              have m2 := mul_56 (x := y) (k := k / N) (by omega) (by have := Nat.div_le_self k N; omega)
              have HR2 := Lib.hid (show ((k : Int)).tmod (N : Int) = ((k % N : Nat) : Int) from by rw [Int.tmod_eq_emod_of_nonneg (by omega)]; simp)
              have HQ := Lib.hid (show ((k : Int)).tdiv (N : Int) = ((k / N : Nat) : Int) from by rw [Int.tdiv_eq_ediv_of_nonneg (by omega)]; simp)
              have HE := Lib.hid (HF.out k)
              have m3 : 0 ≤ x * ((k % N : Nat) : Int) + y * ((k / N : Nat) : Int) ∧ x * ((k % N : Nat) : Int) + y * ((k / N : Nat) : Int) ≤ 360 := by omega
              have hdv : IntKind.i64.wrap ((k : Int) / (N : Int)) = ((k / N : Nat) : Int) := by
                rw [show (k : Int) / (N : Int) = ((k / N : Nat) : Int) from by simp, IntKind.wrap_i64]
                have := Nat.div_le_self k N
                generalize k / N = q at this ⊢
                omega
              have hv : (IntKind.i64.wrap (IntKind.i64.wrap (x * ((k : Int).tmod (N : Int))) + IntKind.i64.wrap (y * IntKind.i64.wrap ((k : Int) / (N : Int))))).tmod p = F k := by
                rw [hdv, HR2.out, HE.out]
                have e1 : ∀ z : Int, 0 ≤ z ∧ z ≤ 400 → IntKind.i64.wrap z = z := fun z hz => by rw [IntKind.wrap_i64]; omega
                rw [e1 (x * ((k % N : Nat) : Int)) (by omega), e1 (y * ((k / N : Nat) : Int)) (by omega), e1 _ (by omega)]
                exact Int.tmod_eq_emod_of_nonneg m3.1
              have hzb : 0 ≤ F k ∧ F k < 5 := by
                rw [HE.out]
                have h1 := Int.emod_nonneg (x * ((k % N : Nat) : Int) + y * ((k / N : Nat) : Int)) hpn
                have h2 := Int.emod_lt_of_pos (x * ((k % N : Nat) : Int) + y * ((k / N : Nat) : Int)) (show 0 < p by omega)
                omega
              obtain ⟨z, hz⟩ : ∃ z, F k = z := ⟨_, rfl⟩
              have HZ := Lib.hid hz
              rw [hz] at hv hzb
              have hrw := hrow.out
              have hsr := hb.size
              clear hmn hdv m1 m2 m3 HE hz
              go_wp2_with fail
              go_region_held3 (fun w' => w'.cell? ⟨w.heap.size, 0, none⟩ = some (.int .i64 N))
                (first | exact c0 | exact (RgAt.alloc (w := wr) hX.out _).c0 | exact hX9.c0)
                (first
                  | (refine step_intsR rfl _ _ rfl (w.heap.size + 1) g k cp (wr.heap.size + 1) (lstI k F) (some ⟨wr.heap.size, 0, none⟩) 1 1 [z] ?h1 ?h2 ?a1 ?a2 ?a3 ?a4 ?_
                     (case h1 => rfl)
                     (case h2 => rfl)
                     (case a1 => exact hrw.alloc _)
                     (case a2 => (try rw [hv]); exact ints_new wr z (by unfold In64; omega))
                     (case a3 => omega)
                     (case a4 => have h9 := hX.out.lt; simp; omega)
                     intro g' cap' w9 hown9 hgr9 hge9
                     have hX9 : RgAt w9 w.heap.size N (.slice a n cap) := by
                       refine RgAt.by ?_ hgr9 ?_
                       · exact RgAt.alloc (w := wr) hX.out _
                       · intro e
                         injection e with e
                         have := hrw.lt g rfl
                         omega))
              have HR9 := Lib.hid (show w9.ownsRow (w.heap.size + 1) 3 1 (.slice (some ⟨g', 0, none⟩) (k + 1) cap') (k + 1) (iv (lstI (k + 1) F)) from by rw [lstI_snoc, HZ.out]; exact hown9)
              have HX9 := Lib.hid hX9
              have HB9 := Lib.hid (show Below w.heap.size w w9 from by
                refine Below.grown ((hb.alloc hsr _).drew) hgr9 ?_ ?_
                · simp; omega
                · intro x hx
                  injection hx with hx
                  have := (hrw.lt g rfl).1
                  omega)
              clear hown9 hgr9 hge9 hX9 hrw hrow
              (try simp only [Exit.then])
              go_wp2
              go_roundw
              case rel => first
                | exact ⟨k + 1, g', cap', by omega, by go_num, rfl, HR9.out, HX9.out, HB9.out⟩
                | (repeat apply Exists.intro
                   exact ⟨⟨k + 1, g', cap', by omega, by go_num, rfl, HR9.out, HX9.out, HB9.out⟩, rfl⟩)
              case measure => first | (simp [intOf]; done) | (simp [intOf]; omega)
            · obtain rfl : k = t := by omega
              have hnk : ¬ (k : Int) < (N : Int) * (n : Int) := by omega
              go_wp2
              go_ret
              exact ⟨_, rfl, own_below hrow.out (by omega), hb⟩
end Go.Proofs.Ytkcclhnligajeaa
