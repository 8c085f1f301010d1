/-
  The law on the search for weights that forbid: its walk.
-/
import Derived.Test.YtkcclhnligajeaaGreatDoorVbg
import Derived.Test.YtkcclhnligajeaaGreatDoorWf2
import Derived.Test.YtkcclhnligajeaaGreatDoorVbd
import Derived.Test.YtkcclhnligajeaaGreatDoorVbe
namespace Go.Proofs.YtkcclhnligajeaaGreatDoor
open Go.RowKit

theorem fndW_len (W : Int) (l : List Int) (ps : List (List Cl)) (p : Int) : (ansL (fndW W l ps p)).length ≤ 1440 := by
  cases h : okPr W l ps p with
  | false => rw [fndW_no h]; show (0 : Nat) ≤ 1440; omega
  | true =>
    rw [fndW_yes h]
    obtain ⟨-, hr0, -, -⟩ := okPr_parts h
    obtain ⟨N, rfl, hr⟩ := isReg_out hr0
    have := plcN_bd hr
    unfold ansW
    cases colW p (pQ (N : Int) l ps).length (plcN (N : Int) l) (rowP (pQ (N : Int) l ps)) (bitV (maskR (N : Int) l)) with
    | none => show (0 : Nat) ≤ 1440; omega
    | some k => show (lstI _ _).length ≤ 1440; rw [lstI_len]; omega

set_option maxHeartbeats 4000000 in
set_option maxRecDepth 100000 in
theorem law_FindWeights (W : Int) (a : Option Addr) (n cap : Nat) (l : List Int) (a2 : Option Addr) (m2 cap2 : Nat) (ps : List (List Cl)) (p : Int) (hwp : (Lit.int .i64 p).wf = true) (w : World) (hc : IntsAt w.heap.size w a n l) (hm : n ≤ maxLen) (hc2 : PsB maxLen w.heap.size w a2 m2 ps) (hm2 : m2 ≤ maxLen) (hT : Tz w) :
    Calls Tryz.prog 6 #[.agg #[.int .i64 W, .slice a n cap], .slice a2 m2 cap2, .int .i64 p] w fun e w' => e = .returned (.bool true) ∧ Below w.heap.size w w' := by
  have hmx : n ≤ 9223372036854775807 := by unfold maxLen at hm; omega
  have HC := Lib.hid hc
  have hln := hc.1
  clear hc hm
  have HC2 := Lib.hid hc2
  have HM2 := Lib.hid hm2
  have hln2 := hc2.1
  clear hc2 hm2
  obtain ⟨zs, hzs⟩ : ∃ zs, ansL (fndW W l ps p) = zs := ⟨_, rfl⟩
  have HZ := Lib.hid hzs
  obtain ⟨rt, hrt⟩ : ∃ z, (fndW W l ps p).isSome = z := ⟨_, rfl⟩
  have HT := Lib.hid hrt
  clear hrt
  have hne : (rt != rt) = false := by simp
  have hzb : zs.length ≤ 4000 := by rw [← hzs]; exact Nat.le_trans (fndW_len W l ps p) (by omega)
  clear hzs
  by_cases hs : (1048576 : Int) < n
  · go_enter Tryz.func6, Tryz.ntmps6
    have VB_w1 := LgAt.new (w := w) W (.slice a n cap) rfl
    obtain ⟨bB, hbB⟩ : ∃ b, w.heap.size = b := ⟨_, rfl⟩
    have h_w1 := (Below.refl w.heap.size w).alloc (Nat.le_refl _) (.cells #[.int .i64 W, .slice a n cap] 52)
    have s_w1 : (w.alloc (.cells #[.int .i64 W, .slice a n cap] 52)).heap.size = bB + 1 := by simp [hbB]
    rw [hbB] at VB_w1
    have qB0 := VB_w1.c0
    have qB1 := VB_w1.c1
    go_wp2_with fail
    generalize (w.alloc (.cells #[.int .i64 W, .slice a n cap] 52)) = w1 at *
    refine (lSzR_big W a n cap 1048576 _ (by omega) hs hmx).mono ?_
    rintro e w' ⟨rfl, hb0⟩
    go_wp2
    go_ret
    exact ⟨rfl, h_w1.trans (hb0.mono h_w1.size)⟩
  have hn : n ≤ 1048576 := by omega
  have hn4 : n ≤ 4194304 := by omega
  have hl4 : l.length ≤ 4194304 := by rw [hln]; omega
  have hz4 : zs.length ≤ 4194304 := by omega
  have hk2 : ¬ ((1 : Int) + (zs.length : Int) < 0) := by omega
  have hk3 : (((1 : Int) + (zs.length : Int)) != (1 + (zs.length : Int))) = false := by simp
  have hk1 : ¬ ((1 : Int) + (n : Int) + 2 * (totL ps : Int) < 0) := by omega
  go_enter Tryz.func6, Tryz.ntmps6
  have VB_w1 := LgAt.new (w := w) W (.slice a n cap) rfl
  obtain ⟨bB, hbB⟩ : ∃ b, w.heap.size = b := ⟨_, rfl⟩
  have h_w1 := (Below.refl w.heap.size w).alloc (Nat.le_refl _) (.cells #[.int .i64 W, .slice a n cap] 52)
  have s_w1 : (w.alloc (.cells #[.int .i64 W, .slice a n cap] 52)).heap.size = bB + 1 := by simp [hbB]
  rw [hbB] at VB_w1
  have qB0 := VB_w1.c0
  have qB1 := VB_w1.c1
  go_wp2_with fail
  generalize (w.alloc (.cells #[.int .i64 W, .slice a n cap] 52)) = w1 at *
  refine (lSzR_fits W a n cap 1048576 _ (by omega) (by omega)).mono ?_
  rintro e w2 ⟨rfl, hbb⟩
  clear qB0 qB1
  have VB_w2 := VB_w1.on hbb VB_w1.lt
  have h_w2 := h_w1.trans (hbb.mono h_w1.size)
  have s_w2 := hbb.size
  clear VB_w1 h_w1
  clear hbb
  have qB0 := VB_w2.c0
  have qB1 := VB_w2.c1
  go_wp2_with fail
  refine (lSzPs w.heap.size m2 cap2 a2 ps (1048576 - n) _ (by omega) (by omega) HM2.out (HC2.out.on h_w2) h_w2.size).mono ?_
  rintro e w' ⟨rr, rfl, hrr, hrl, rfl⟩
  by_cases hs2 : rr < 0
  · go_wp2
    go_ret
    exact ⟨rfl, h_w2⟩
  have hrt := hrr (by omega)
  have hn2 : m2 ≤ 1048576 := by omega
  have hn24 : m2 ≤ 4194304 := by omega
  have htot : totL ps ≤ 1048576 := by omega
  have HC3 := Lib.hid (HC2.out.small (M' := 1048576) (fun k hk => by have := totL_get ps k (by omega); omega))
  clear hrr hrl hrt
  go_wp2_with fail
  refine (lToRegion w.heap.size n cap a W l w2 hn (HC.out.on h_w2) h_w2.size).mono ?_
  rintro e w3 ⟨gw3, rfl, OA_w3, hbb⟩
  clear qB0 qB1
  have VB_w3 := VB_w2.on hbb VB_w2.lt
  have h_w3 := h_w2.trans (hbb.mono h_w2.size)
  have s_w3 := hbb.size
  clear VB_w2 h_w2
  have TA := OA_w3.lt
  clear hbb
  have qB0 := VB_w3.c0
  have qB1 := VB_w3.c1
  go_wp2_with fail
  obtain ⟨bsD, hbsD⟩ : ∃ b, w3.heap.size = b := ⟨_, rfl⟩
  refine (lToPs w.heap.size m2 cap2 a2 ps w3 hn2 (HC3.out.on h_w3) h_w3.size).mono ?_
  rintro e w4 ⟨gD, esD, rfl, hkD, hsmD, PD_w4, hbb⟩
  rw [hbsD] at PD_w4
  have HKD := Lib.hid hkD
  have HSD := Lib.hid hsmD
  have helD : esD.length = m2 := by have := congrArg List.length hkD; rw [List.length_map] at this; omega
  clear hkD hsmD
  clear qB0 qB1
  have VB_w4 := VB_w3.on hbb VB_w3.lt
  have OA_w4 := OA_w3.kept (grow_below hbb none) (Classical.em _)
  have h_w4 := h_w3.trans (hbb.mono h_w3.size)
  have s_w4 := hbb.size
  clear VB_w3 OA_w3 h_w3
  have UPD := Lib.hid (ownS_up PD_w4)
  obtain ⟨upD, hupD⟩ : ∃ b, w4.heap.size = b := ⟨_, rfl⟩
  rw [hupD] at UPD
  clear hbb
  have qB0 := VB_w4.c0
  have qB1 := VB_w4.c1
  go_wp2_with fail
  refine (sFndW w4.heap.size n n m2 m2 _ _ W l ps p w4 hn4 hn2 (IntsAt.of_own OA_w4 HC.out.2.1) (ps_at PD_w4 HSD.out HKD.out helD (by omega)) (Nat.le_refl _)).mono ?_
  rintro e w5 ⟨vw5, rfl, OS_w5, hbb⟩
  rw [HZ.out] at OS_w5
  rw [HT.out]
  have PD_w5 := PD_w4.on hbb
  clear PD_w4
  clear qB0 qB1
  have VB_w5 := VB_w4.on hbb VB_w4.lt
  have OA_w5 := OA_w4.kept (grow_below hbb none) (Classical.em _)
  have h_w5 := h_w4.trans (hbb.mono h_w4.size)
  have s_w5 := hbb.size
  clear VB_w4 OA_w4 h_w4
  have TS := OS_w5.lt
  clear hbb
  have qB0 := VB_w5.c0
  have qB1 := VB_w5.c1
  go_wp2_with fail
  refine (lToRegion w.heap.size n cap a W l w5 hn (HC.out.on h_w5) h_w5.size).mono ?_
  rintro e w6 ⟨gw6, rfl, OX_w6, hbb⟩
  clear qB0 qB1
  have VB_w6 := VB_w5.on hbb VB_w5.lt
  have OA_w6 := OA_w5.kept (grow_below hbb none) (Classical.em _)
  have OS_w6 := OS_w5.kept (grow_below hbb none) (Classical.em _)
  have h_w6 := h_w5.trans (hbb.mono h_w5.size)
  have s_w6 := hbb.size
  clear VB_w5 OA_w5 OS_w5 h_w5
  have TX := OX_w6.lt
  clear hbb
  obtain ⟨bX, hbX⟩ : ∃ b, w6.heap.size = b := ⟨_, rfl⟩
  have VX_w7 := RgAt.new (w := w6) W (.slice (some ⟨gw6, 0, none⟩) n n) hbX
  have VB_w7 := VB_w6.alloc (.cells #[.int .i64 W, .slice (some ⟨gw6, 0, none⟩) n n] 26)
  have OA_w7 := OA_w6.alloc (.cells #[.int .i64 W, .slice (some ⟨gw6, 0, none⟩) n n] 26)
  have OS_w7 := OS_w6.alloc (.cells #[.int .i64 W, .slice (some ⟨gw6, 0, none⟩) n n] 26)
  have OX_w7 := OX_w6.alloc (.cells #[.int .i64 W, .slice (some ⟨gw6, 0, none⟩) n n] 26)
  have h_w7 := h_w6.alloc h_w6.size (.cells #[.int .i64 W, .slice (some ⟨gw6, 0, none⟩) n n] 26)
  have s_w7 : (w6.alloc (.cells #[.int .i64 W, .slice (some ⟨gw6, 0, none⟩) n n] 26)).heap.size = bX + 1 := by simp [hbX]
  clear VB_w6 OA_w6 OS_w6 OX_w6 h_w6
  have qB0 := VB_w7.c0
  have qB1 := VB_w7.c1
  have qX0 := VX_w7.c0
  have qX1 := VX_w7.c1
  go_wp2_with fail
  generalize (w6.alloc (.cells #[.int .i64 W, .slice (some ⟨gw6, 0, none⟩) n n] 26)) = w7 at *
  obtain ⟨bsY, hbsY⟩ : ∃ b, w7.heap.size = b := ⟨_, rfl⟩
  refine (lToPs w.heap.size m2 cap2 a2 ps w7 hn2 (HC3.out.on h_w7) h_w7.size).mono ?_
  rintro e w8 ⟨gY, esY, rfl, hkY, hsmY, PY_w8, hbb⟩
  rw [hbsY] at PY_w8
  have HKY := Lib.hid hkY
  have HSY := Lib.hid hsmY
  have helY : esY.length = m2 := by have := congrArg List.length hkY; rw [List.length_map] at this; omega
  clear hkY hsmY
  clear qB0 qB1 qX0 qX1
  have VB_w8 := VB_w7.on hbb VB_w7.lt
  have VX_w8 := VX_w7.on hbb VX_w7.lt
  have OA_w8 := OA_w7.kept (grow_below hbb none) (Classical.em _)
  have OS_w8 := OS_w7.kept (grow_below hbb none) (Classical.em _)
  have OX_w8 := OX_w7.kept (grow_below hbb none) (Classical.em _)
  have h_w8 := h_w7.trans (hbb.mono h_w7.size)
  have s_w8 := hbb.size
  clear VB_w7 VX_w7 OA_w7 OS_w7 OX_w7 h_w7
  have UPY := Lib.hid (ownS_up PY_w8)
  obtain ⟨upY, hupY⟩ : ∃ b, w8.heap.size = b := ⟨_, rfl⟩
  rw [hupY] at UPY
  clear hbb
  have qB0 := VB_w8.c0
  have qB1 := VB_w8.c1
  have qX0 := VX_w8.c0
  have qX1 := VX_w8.c1
  go_wp2_with fail
  refine (iFndW w8.heap.size n n m2 m2 _ _ W l ps p w8 hn4 hn2 (IntsAt.of_own OX_w8 HC.out.2.1) (ps_at PY_w8 HSY.out HKY.out helY (by omega)) (Nat.le_refl _) (hT.on h_w8 hT.2)).mono ?_
  rintro e w9 ⟨vw9, rfl, OG_w9, hbb⟩
  rw [HZ.out] at OG_w9
  rw [HT.out]
  have PY_w9 := PY_w8.on hbb
  clear PY_w8
  clear qB0 qB1 qX0 qX1
  have VB_w9 := VB_w8.on hbb VB_w8.lt
  have VX_w9 := VX_w8.on hbb VX_w8.lt
  have OA_w9 := OA_w8.kept (grow_below hbb none) (Classical.em _)
  have OS_w9 := OS_w8.kept (grow_below hbb none) (Classical.em _)
  have OX_w9 := OX_w8.kept (grow_below hbb none) (Classical.em _)
  have h_w9 := h_w8.trans (hbb.mono h_w8.size)
  have s_w9 := hbb.size
  clear VB_w8 VX_w8 OA_w8 OS_w8 OX_w8 h_w8
  have TG := OG_w9.lt
  clear hbb
  have qB0 := VB_w9.c0
  have qB1 := VB_w9.c1
  have qX0 := VX_w9.c0
  have qX1 := VX_w9.c1
  go_wp2_with fail
  refine (lEqI w9.heap.size _ _ zs w9 hz4 (IsRd.of_own (zs := zs) OG_w9) (IsRd.of_own (zs := zs) OS_w9) (Nat.le_refl _)).mono ?_
  rintro e w10 ⟨rfl, hbb⟩
  have PY_w10 := PY_w9.on hbb
  clear PY_w9
  clear qB0 qB1 qX0 qX1
  have VB_w10 := VB_w9.on hbb VB_w9.lt
  have VX_w10 := VX_w9.on hbb VX_w9.lt
  have OA_w10 := OA_w9.kept (grow_below hbb none) (Classical.em _)
  have OS_w10 := OS_w9.kept (grow_below hbb none) (Classical.em _)
  have OX_w10 := OX_w9.kept (grow_below hbb none) (Classical.em _)
  have OG_w10 := OG_w9.kept (grow_below hbb none) (Classical.em _)
  have h_w10 := h_w9.trans (hbb.mono h_w9.size)
  have s_w10 := hbb.size
  clear VB_w9 VX_w9 OA_w9 OS_w9 OX_w9 OG_w9 h_w9
  clear hbb
  have qB0 := VB_w10.c0
  have qB1 := VB_w10.c1
  have qX0 := VX_w10.c0
  have qX1 := VX_w10.c1
  go_wp2_with fail
  go_region_held3 (fun w' => w'.cell? ⟨bX, 0, none⟩ = some (.int .i64 W) ∧ w'.cell? ⟨bX, 1, none⟩ = some (.slice (some ⟨gw6, 0, none⟩) n n) ∧ w'.cell? ⟨bB, 0, none⟩ = some (.int .i64 W) ∧ w'.cell? ⟨bB, 1, none⟩ = some (.slice a n cap))
    (first
      | exact ⟨VX_w10.c0, VX_w10.c1, VB_w10.c0, VB_w10.c1⟩
      | exact ⟨xx6.c0, xx6.c1, bb6.c0, bb6.c1⟩
      | exact ⟨xx7.c0, xx7.c1, bb7.c0, bb7.c1⟩)
    (first
      | (go_at_call 43
         refine (lToRegion w.heap.size n cap a W l _ hn (HC.out.on (h_w10).drew) h_w10.size).mono ?_
         rintro e w11 ⟨gw11, rfl, OY_w11, hbb⟩
         have xx6 : RgAt w11 bX W (.slice (some ⟨gw6, 0, none⟩) n n) := RgAt.on (w := w10.drew) VX_w10 hbb VX_w10.lt
         have bb6 : LgAt w11 bB W (.slice a n cap) := LgAt.on (w := w10.drew) VB_w10 hbb VB_w10.lt
         have hbd : Below w10.heap.size w10 w11 := ((Below.refl _ w10).drew).trans hbb)
      | (go_at_call 46
         refine (lEqR w11.heap.size W _ _ l w11 hl4 (IsRd.of_own2 (OX_w10.kept (grow_below hbd none) (Classical.em _))) (IsRd.of_own2 OY_w11) (Nat.le_refl _)).mono ?_
         rintro e w12 ⟨rfl, hbe⟩
         have xx7 := xx6.on hbe xx6.lt
         have bb7 := bb6.on hbe bb6.lt))
  have hbq : Below w10.heap.size w10 w12 := hbd.trans (hbe.mono hbd.size)
  clear hbd hbe hbb xx6 bb6 xx7 bb7 OY_w11
  have PY_w12 := PY_w10.on hbq
  clear PY_w10
  clear qB0 qB1 qX0 qX1
  have VB_w12 := VB_w10.on hbq VB_w10.lt
  have VX_w12 := VX_w10.on hbq VX_w10.lt
  have OA_w12 := OA_w10.kept (grow_below hbq none) (Classical.em _)
  have OS_w12 := OS_w10.kept (grow_below hbq none) (Classical.em _)
  have OX_w12 := OX_w10.kept (grow_below hbq none) (Classical.em _)
  have OG_w12 := OG_w10.kept (grow_below hbq none) (Classical.em _)
  have h_w12 := h_w10.trans (hbq.mono h_w10.size)
  have s_w12 := hbq.size
  clear VB_w10 VX_w10 OA_w10 OS_w10 OX_w10 OG_w10 h_w10
  clear hbq
  have qB0 := VB_w12.c0
  have qB1 := VB_w12.c1
  have qX0 := VX_w12.c0
  have qX1 := VX_w12.c1
  go_wp2_with fail
  obtain ⟨bsZ, hbsZ⟩ : ∃ b, w12.heap.size = b := ⟨_, rfl⟩
  refine (lToPs w.heap.size m2 cap2 a2 ps w12 hn2 (HC3.out.on h_w12) h_w12.size).mono ?_
  rintro e w13 ⟨gZ, esZ, rfl, hkZ, hsmZ, PZ_w13, hbb⟩
  rw [hbsZ] at PZ_w13
  have HKZ := Lib.hid hkZ
  have HSZ := Lib.hid hsmZ
  have helZ : esZ.length = m2 := by have := congrArg List.length hkZ; rw [List.length_map] at this; omega
  clear hkZ hsmZ
  have PY_w13 := PY_w12.on hbb
  clear PY_w12
  clear qB0 qB1 qX0 qX1
  have VB_w13 := VB_w12.on hbb VB_w12.lt
  have VX_w13 := VX_w12.on hbb VX_w12.lt
  have OA_w13 := OA_w12.kept (grow_below hbb none) (Classical.em _)
  have OS_w13 := OS_w12.kept (grow_below hbb none) (Classical.em _)
  have OX_w13 := OX_w12.kept (grow_below hbb none) (Classical.em _)
  have OG_w13 := OG_w12.kept (grow_below hbb none) (Classical.em _)
  have h_w13 := h_w12.trans (hbb.mono h_w12.size)
  have s_w13 := hbb.size
  clear VB_w12 VX_w12 OA_w12 OS_w12 OX_w12 OG_w12 h_w12
  have UPZ := Lib.hid (ownS_up PZ_w13)
  obtain ⟨upZ, hupZ⟩ : ∃ b, w13.heap.size = b := ⟨_, rfl⟩
  rw [hupZ] at UPZ
  clear hbb
  have qB0 := VB_w13.c0
  have qB1 := VB_w13.c1
  have qX0 := VX_w13.c0
  have qX1 := VX_w13.c1
  go_wp2_with fail
  refine (lEqSS w13.heap.size _ _ ps w13 (by omega) (by have h9 := SsRd.of_own PY_w13 HSY.out; rw [HKY.out] at h9; exact h9) (by have h9 := SsRd.of_own PZ_w13 HSZ.out; rw [HKZ.out] at h9; exact h9) (Nat.le_refl _)).mono ?_
  rintro e w14 ⟨rfl, hbb⟩
  have PY_w14 := PY_w13.on hbb
  clear PY_w13
  have PZ_w14 := PZ_w13.on hbb
  clear PZ_w13
  clear qB0 qB1 qX0 qX1
  have VB_w14 := VB_w13.on hbb VB_w13.lt
  have VX_w14 := VX_w13.on hbb VX_w13.lt
  have OA_w14 := OA_w13.kept (grow_below hbb none) (Classical.em _)
  have OS_w14 := OS_w13.kept (grow_below hbb none) (Classical.em _)
  have OX_w14 := OX_w13.kept (grow_below hbb none) (Classical.em _)
  have OG_w14 := OG_w13.kept (grow_below hbb none) (Classical.em _)
  have h_w14 := h_w13.trans (hbb.mono h_w13.size)
  have s_w14 := hbb.size
  clear VB_w13 VX_w13 OA_w13 OS_w13 OX_w13 OG_w13 h_w13
  clear hbb
  have qB0 := VB_w14.c0
  have qB1 := VB_w14.c1
  have qX0 := VX_w14.c0
  have qX1 := VX_w14.c1
  go_wp2_with fail
  refine (lMarkR _ W _ l 1 w14 hl4 (by omega) (by omega) (by rw [hln]; exact OX_w14)).mono ?_
  rintro e w15 ⟨rfl, OX_w15, hgg⟩
  rw [hln] at OX_w15
  rw [hln]
  have PY_w15 := PY_w14.byLow hgg (fun k hk => by have := TX k hk; omega)
  clear PY_w14
  clear qB0 qB1 qX0 qX1
  have VB_w15 := VB_w14.by hgg (ne_blkT TX (by omega))
  have VX_w15 := VX_w14.by hgg (ne_blkT TX (by omega))
  have OA_w15 := OA_w14.kept hgg (ne_rowT TA TX (by omega))
  have OS_w15 := OS_w14.kept hgg (ne_rowT TS TX (by omega))
  have OG_w15 := OG_w14.kept hgg (ne_rowT TG TX (by omega))
  have h_w15 := h_w14.grown hgg h_w14.size (fun j hj => by have := TX j hj; omega)
  have s_w15 := hgg.size
  clear VB_w14 VX_w14 OA_w14 OS_w14 OG_w14 h_w14
  clear hgg
  have qB0 := VB_w15.c0
  have qB1 := VB_w15.c1
  have qX0 := VX_w15.c0
  have qX1 := VX_w15.c1
  go_wp2_with fail
  refine (lMarkSS2 bsY _ esY (1 + (n : Int)) w15 (by omega) (by omega) (by rw [totL_ent, HKY.out]; omega) HSY.out PY_w15 (by omega)).mono ?_
  rintro e w16 ⟨rfl, hbY, hkp⟩
  rw [totL_ent, HKY.out]
  clear qB0 qB1 qX0 qX1
  have VB_w16 := VB_w15.kp hkp (off_up UPY.out (by omega))
  have VX_w16 := VX_w15.kp hkp (off_up UPY.out (by omega))
  have OA_w16 := own_kp hkp OA_w15 (fun k9 h9 => off_up UPY.out (by have := TA k9 h9; omega))
  have OS_w16 := own_kp hkp OS_w15 (fun k9 h9 => off_up UPY.out (by have := TS k9 h9; omega))
  have OX_w16 := own_kp hkp OX_w15 (fun k9 h9 => off_up UPY.out (by have := TX k9 h9; omega))
  have OG_w16 := own_kp hkp OG_w15 (fun k9 h9 => off_up UPY.out (by have := TG k9 h9; omega))
  have h_w16 := h_w15.trans (hbY.mono (by have := h_w15.size; omega))
  have s_w16 := hkp.size
  clear VB_w15 VX_w15 OA_w15 OS_w15 OX_w15 OG_w15 h_w15 hkp hbY
  have qB0 := VB_w16.c0
  have qB1 := VB_w16.c1
  have qX0 := VX_w16.c0
  have qX1 := VX_w16.c1
  go_wp2_with fail
  refine (lEqI w16.heap.size _ _ zs w16 hz4 (IsRd.of_own (zs := zs) OG_w16) (IsRd.of_own (zs := zs) OS_w16) (Nat.le_refl _)).mono ?_
  rintro e w17 ⟨rfl, hbb⟩
  clear qB0 qB1 qX0 qX1
  have VB_w17 := VB_w16.on hbb VB_w16.lt
  have VX_w17 := VX_w16.on hbb VX_w16.lt
  have OA_w17 := OA_w16.kept (grow_below hbb none) (Classical.em _)
  have OS_w17 := OS_w16.kept (grow_below hbb none) (Classical.em _)
  have OX_w17 := OX_w16.kept (grow_below hbb none) (Classical.em _)
  have OG_w17 := OG_w16.kept (grow_below hbb none) (Classical.em _)
  have h_w17 := h_w16.trans (hbb.mono h_w16.size)
  have s_w17 := hbb.size
  clear VB_w16 VX_w16 OA_w16 OS_w16 OX_w16 OG_w16 h_w16
  clear hbb
  have qB0 := VB_w17.c0
  have qB1 := VB_w17.c1
  have qX0 := VX_w17.c0
  have qX1 := VX_w17.c1
  go_wp2_with fail
  refine (lMarkI _ _ zs 1 w17 hz4 (by omega) (by omega) OG_w17).mono ?_
  rintro e w18 ⟨rfl, OG_w18, hgg⟩
  clear qB0 qB1 qX0 qX1
  have VB_w18 := VB_w17.by hgg (ne_blkT TG (by omega))
  have VX_w18 := VX_w17.by hgg (ne_blkT TG (by omega))
  have OA_w18 := OA_w17.kept hgg (ne_rowT TA TG (by omega))
  have OS_w18 := OS_w17.kept hgg (ne_rowT TS TG (by omega))
  have OX_w18 := OX_w17.kept hgg (ne_rowT TX TG (by omega))
  have h_w18 := h_w17.grown hgg h_w17.size (fun j hj => by have := TG j hj; omega)
  have s_w18 := hgg.size
  clear VB_w17 VX_w17 OA_w17 OS_w17 OX_w17 h_w17
  clear hgg
  have qB0 := VB_w18.c0
  have qB1 := VB_w18.c1
  have qX0 := VX_w18.c0
  have qX1 := VX_w18.c1
  go_wp2_with fail
  refine (lHeldI w18.heap.size zs.length _ 1 w18 hz4 (by omega) (by omega) (IsRd.of_own (zs := marksI 1 zs.length) (by rw [marksI_length]; exact OG_w18)) (Nat.le_refl _)).mono ?_
  rintro e w19 ⟨rfl, hbb⟩
  clear qB0 qB1 qX0 qX1
  have VB_w19 := VB_w18.on hbb VB_w18.lt
  have VX_w19 := VX_w18.on hbb VX_w18.lt
  have OA_w19 := OA_w18.kept (grow_below hbb none) (Classical.em _)
  have OS_w19 := OS_w18.kept (grow_below hbb none) (Classical.em _)
  have OX_w19 := OX_w18.kept (grow_below hbb none) (Classical.em _)
  have OG_w19 := OG_w18.kept (grow_below hbb none) (Classical.em _)
  have h_w19 := h_w18.trans (hbb.mono h_w18.size)
  have s_w19 := hbb.size
  clear VB_w18 VX_w18 OA_w18 OS_w18 OX_w18 OG_w18 h_w18
  clear hbb
  have qB0 := VB_w19.c0
  have qB1 := VB_w19.c1
  have qX0 := VX_w19.c0
  have qX1 := VX_w19.c1
  go_wp2_with fail
  refine (lToRegion w.heap.size n cap a W l w19 hn (HC.out.on h_w19) h_w19.size).mono ?_
  rintro e w20 ⟨gw20, rfl, OZ_w20, hbb⟩
  clear qB0 qB1 qX0 qX1
  have VB_w20 := VB_w19.on hbb VB_w19.lt
  have VX_w20 := VX_w19.on hbb VX_w19.lt
  have OA_w20 := OA_w19.kept (grow_below hbb none) (Classical.em _)
  have OS_w20 := OS_w19.kept (grow_below hbb none) (Classical.em _)
  have OX_w20 := OX_w19.kept (grow_below hbb none) (Classical.em _)
  have OG_w20 := OG_w19.kept (grow_below hbb none) (Classical.em _)
  have h_w20 := h_w19.trans (hbb.mono h_w19.size)
  have s_w20 := hbb.size
  clear VB_w19 VX_w19 OA_w19 OS_w19 OX_w19 OG_w19 h_w19
  have TZ := OZ_w20.lt
  clear hbb
  have qB0 := VB_w20.c0
  have qB1 := VB_w20.c1
  have qX0 := VX_w20.c0
  have qX1 := VX_w20.c1
  go_wp2_with fail
  obtain ⟨bsQ, hbsQ⟩ : ∃ b, w20.heap.size = b := ⟨_, rfl⟩
  refine (lToPs w.heap.size m2 cap2 a2 ps w20 hn2 (HC3.out.on h_w20) h_w20.size).mono ?_
  rintro e w21 ⟨gQ, esQ, rfl, hkQ, hsmQ, PQ_w21, hbb⟩
  rw [hbsQ] at PQ_w21
  have HKQ := Lib.hid hkQ
  have HSQ := Lib.hid hsmQ
  have helQ : esQ.length = m2 := by have := congrArg List.length hkQ; rw [List.length_map] at this; omega
  clear hkQ hsmQ
  clear qB0 qB1 qX0 qX1
  have VB_w21 := VB_w20.on hbb VB_w20.lt
  have VX_w21 := VX_w20.on hbb VX_w20.lt
  have OA_w21 := OA_w20.kept (grow_below hbb none) (Classical.em _)
  have OS_w21 := OS_w20.kept (grow_below hbb none) (Classical.em _)
  have OX_w21 := OX_w20.kept (grow_below hbb none) (Classical.em _)
  have OG_w21 := OG_w20.kept (grow_below hbb none) (Classical.em _)
  have OZ_w21 := OZ_w20.kept (grow_below hbb none) (Classical.em _)
  have h_w21 := h_w20.trans (hbb.mono h_w20.size)
  have s_w21 := hbb.size
  clear VB_w20 VX_w20 OA_w20 OS_w20 OX_w20 OG_w20 OZ_w20 h_w20
  have UPQ := Lib.hid (ownS_up PQ_w21)
  obtain ⟨upQ, hupQ⟩ : ∃ b, w21.heap.size = b := ⟨_, rfl⟩
  rw [hupQ] at UPQ
  clear hbb
  have qB0 := VB_w21.c0
  have qB1 := VB_w21.c1
  have qX0 := VX_w21.c0
  have qX1 := VX_w21.c1
  go_wp2_with fail
  refine (iFndW w21.heap.size n n m2 m2 _ _ W l ps p w21 hn4 hn2 (IntsAt.of_own OZ_w21 HC.out.2.1) (ps_at PQ_w21 HSQ.out HKQ.out helQ (by omega)) (Nat.le_refl _) (hT.on h_w21 hT.2)).mono ?_
  rintro e w22 ⟨vw22, rfl, OK_w22, hbb⟩
  rw [HZ.out] at OK_w22
  rw [HT.out]
  have PQ_w22 := PQ_w21.on hbb
  clear PQ_w21
  clear qB0 qB1 qX0 qX1
  have VB_w22 := VB_w21.on hbb VB_w21.lt
  have VX_w22 := VX_w21.on hbb VX_w21.lt
  have OA_w22 := OA_w21.kept (grow_below hbb none) (Classical.em _)
  have OS_w22 := OS_w21.kept (grow_below hbb none) (Classical.em _)
  have OX_w22 := OX_w21.kept (grow_below hbb none) (Classical.em _)
  have OG_w22 := OG_w21.kept (grow_below hbb none) (Classical.em _)
  have OZ_w22 := OZ_w21.kept (grow_below hbb none) (Classical.em _)
  have h_w22 := h_w21.trans (hbb.mono h_w21.size)
  have s_w22 := hbb.size
  clear VB_w21 VX_w21 OA_w21 OS_w21 OX_w21 OG_w21 OZ_w21 h_w21
  have TK := OK_w22.lt
  clear hbb
  have qB0 := VB_w22.c0
  have qB1 := VB_w22.c1
  have qX0 := VX_w22.c0
  have qX1 := VX_w22.c1
  go_wp2_with fail
  refine (lEqI w22.heap.size _ _ zs w22 hz4 (IsRd.of_own (zs := zs) OK_w22) (IsRd.of_own (zs := zs) OS_w22) (Nat.le_refl _)).mono ?_
  rintro e w23 ⟨rfl, hbb⟩
  clear qB0 qB1 qX0 qX1
  have VB_w23 := VB_w22.on hbb VB_w22.lt
  have VX_w23 := VX_w22.on hbb VX_w22.lt
  have OA_w23 := OA_w22.kept (grow_below hbb none) (Classical.em _)
  have OS_w23 := OS_w22.kept (grow_below hbb none) (Classical.em _)
  have OX_w23 := OX_w22.kept (grow_below hbb none) (Classical.em _)
  have OG_w23 := OG_w22.kept (grow_below hbb none) (Classical.em _)
  have OZ_w23 := OZ_w22.kept (grow_below hbb none) (Classical.em _)
  have OK_w23 := OK_w22.kept (grow_below hbb none) (Classical.em _)
  have h_w23 := h_w22.trans (hbb.mono h_w22.size)
  have s_w23 := hbb.size
  clear VB_w22 VX_w22 OA_w22 OS_w22 OX_w22 OG_w22 OZ_w22 OK_w22 h_w22
  clear hbb
  have qB0 := VB_w23.c0
  have qB1 := VB_w23.c1
  have qX0 := VX_w23.c0
  have qX1 := VX_w23.c1
  go_wp2_with fail
  refine (lHeldI w23.heap.size zs.length _ 1 w23 hz4 (by omega) (by omega) (IsRd.of_own (zs := marksI 1 zs.length) (by rw [marksI_length]; exact OG_w23)) (Nat.le_refl _)).mono ?_
  rintro e w24 ⟨rfl, hbb⟩
  clear qB0 qB1 qX0 qX1
  have VB_w24 := VB_w23.on hbb VB_w23.lt
  have VX_w24 := VX_w23.on hbb VX_w23.lt
  have OA_w24 := OA_w23.kept (grow_below hbb none) (Classical.em _)
  have OS_w24 := OS_w23.kept (grow_below hbb none) (Classical.em _)
  have OX_w24 := OX_w23.kept (grow_below hbb none) (Classical.em _)
  have OG_w24 := OG_w23.kept (grow_below hbb none) (Classical.em _)
  have OZ_w24 := OZ_w23.kept (grow_below hbb none) (Classical.em _)
  have OK_w24 := OK_w23.kept (grow_below hbb none) (Classical.em _)
  have h_w24 := h_w23.trans (hbb.mono h_w23.size)
  have s_w24 := hbb.size
  clear VB_w23 VX_w23 OA_w23 OS_w23 OX_w23 OG_w23 OZ_w23 OK_w23 h_w23
  clear hbb
  go_wp2
  go_ret
  exact ⟨rfl, h_w24⟩

end Go.Proofs.YtkcclhnligajeaaGreatDoor
