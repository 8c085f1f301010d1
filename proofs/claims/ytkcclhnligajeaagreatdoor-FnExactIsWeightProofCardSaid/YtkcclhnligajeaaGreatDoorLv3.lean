/-
  The law on weights that are accepted: its walk.
-/
import Derived.Test.YtkcclhnligajeaaGreatDoorVbc
import Derived.Test.YtkcclhnligajeaaGreatDoorVbd
import Derived.Test.YtkcclhnligajeaaGreatDoorVbe
namespace Go.Proofs.YtkcclhnligajeaaGreatDoor
open Go.RowKit

set_option maxHeartbeats 4000000 in
set_option maxRecDepth 100000 in
theorem law_IsWeightProof (W : Int) (a : Option Addr) (n cap : Nat) (l : List Int) (a2 : Option Addr) (m2 cap2 : Nat) (ps : List (List Cl)) (p : Int) (a3 : Option Addr) (m3 cap3 : Nat) (zs3 : List Int) (hwp : (Lit.int .i64 p).wf = true) (w : World) (hc : IntsAt w.heap.size w a n l) (hm : n ≤ maxLen) (hc2 : PsB maxLen w.heap.size w a2 m2 ps) (hm2 : m2 ≤ maxLen) (w3 : IsRow .i64 w a3 m3 cap3 zs3) (hT : Tz w) :
    Calls Tryz.prog 5 #[.agg #[.int .i64 W, .slice a n cap], .slice a2 m2 cap2, .int .i64 p, .slice a3 m3 cap3] w fun e w' => e = .returned (.bool true) ∧ Below w.heap.size w w' := by
  have hmx : n ≤ 9223372036854775807 := by unfold maxLen at hm; omega
  have HC := Lib.hid hc
  have hln := hc.1
  clear hc hm
  have HC2 := Lib.hid hc2
  have HM2 := Lib.hid hm2
  have hln2 := hc2.1
  clear hc2 hm2
  obtain ⟨hc3, hm3⟩ := ints_of_row w3
  obtain ⟨ls, hls⟩ : ∃ ls, zs3.take m3 = ls := ⟨_, rfl⟩
  rw [hls] at hc3
  clear hls w3
  have hmx3 : m3 ≤ 9223372036854775807 := by unfold maxLen at hm3; omega
  have HCI := Lib.hid hc3
  have hln3 := hc3.1
  clear hc3 hm3
  obtain ⟨z0, hz0⟩ : ∃ z : Bool, isWP W l ps p ls = z := ⟨_, rfl⟩
  have HZ0 := Lib.hid hz0
  have hne0 : (z0 != z0) = false := by simp
  clear hz0
  by_cases hsI : (1048576 : Int) < m3
  · go_enter Tryz.func5, Tryz.ntmps5
    have VB_w1 := LgAt.new (w := w) W (.slice a n cap) rfl
    obtain ⟨bB, hbB⟩ : ∃ b, w.heap.size = b := ⟨_, rfl⟩
    have h_w1 := (Below.refl w.heap.size w).alloc (Nat.le_refl _) (.cells #[.int .i64 W, .slice a n cap] 52)
    have s_w1 : (w.alloc (.cells #[.int .i64 W, .slice a n cap] 52)).heap.size = bB + 1 := by simp [hbB]
    rw [hbB] at VB_w1
    have qB0 := VB_w1.c0
    have qB1 := VB_w1.c1
    go_wp2
    go_ret
    exact ⟨rfl, h_w1⟩
  have hn3 : m3 ≤ 1048576 := by omega
  have hn34 : m3 ≤ 4194304 := by omega
  have hl34 : ls.length ≤ 4194304 := by rw [hln3]; omega
  by_cases hs : (1048576 : Int) < n
  · go_enter Tryz.func5, Tryz.ntmps5
    have VB_w1 := LgAt.new (w := w) W (.slice a n cap) rfl
    obtain ⟨bB, hbB⟩ : ∃ b, w.heap.size = b := ⟨_, rfl⟩
    have h_w1 := (Below.refl w.heap.size w).alloc (Nat.le_refl _) (.cells #[.int .i64 W, .slice a n cap] 52)
    have s_w1 : (w.alloc (.cells #[.int .i64 W, .slice a n cap] 52)).heap.size = bB + 1 := by simp [hbB]
    rw [hbB] at VB_w1
    have qB0 := VB_w1.c0
    have qB1 := VB_w1.c1
    go_wp2_with fail
    generalize (w.alloc (.cells #[.int .i64 W, .slice a n cap] 52)) = w1 at *
    refine (lSzR_big W a n cap 1048576 _ (by omega) hs hmx).mono ?_
    rintro e w' ⟨rfl, hb0⟩
    go_wp2
    go_ret
    exact ⟨rfl, h_w1.trans (hb0.mono h_w1.size)⟩
  have hn : n ≤ 1048576 := by omega
  have hn4 : n ≤ 4194304 := by omega
  have hl4 : l.length ≤ 4194304 := by rw [hln]; omega
  go_enter Tryz.func5, Tryz.ntmps5
  have VB_w1 := LgAt.new (w := w) W (.slice a n cap) rfl
  obtain ⟨bB, hbB⟩ : ∃ b, w.heap.size = b := ⟨_, rfl⟩
  have h_w1 := (Below.refl w.heap.size w).alloc (Nat.le_refl _) (.cells #[.int .i64 W, .slice a n cap] 52)
  have s_w1 : (w.alloc (.cells #[.int .i64 W, .slice a n cap] 52)).heap.size = bB + 1 := by simp [hbB]
  rw [hbB] at VB_w1
  have qB0 := VB_w1.c0
  have qB1 := VB_w1.c1
  go_wp2_with fail
  generalize (w.alloc (.cells #[.int .i64 W, .slice a n cap] 52)) = w1 at *
  refine (lSzR_fits W a n cap 1048576 _ (by omega) (by omega)).mono ?_
  rintro e w2 ⟨rfl, hbb⟩
  clear qB0 qB1
  have VB_w2 := VB_w1.on hbb VB_w1.lt
  have h_w2 := h_w1.trans (hbb.mono h_w1.size)
  have s_w2 := hbb.size
  clear VB_w1 h_w1
  clear hbb
  have qB0 := VB_w2.c0
  have qB1 := VB_w2.c1
  go_wp2_with fail
  refine (lSzPs w.heap.size m2 cap2 a2 ps (1048576 - n) _ (by omega) (by omega) HM2.out (HC2.out.on h_w2) h_w2.size).mono ?_
  rintro e w' ⟨rr, rfl, hrr, hrl, rfl⟩
  by_cases hs2 : rr < 0
  · go_wp2
    go_ret
    exact ⟨rfl, h_w2⟩
  have hrt := hrr (by omega)
  have hn2 : m2 ≤ 1048576 := by omega
  have hn24 : m2 ≤ 4194304 := by omega
  have htot : totL ps ≤ 1048576 := by omega
  have HC3 := Lib.hid (HC2.out.small (M' := 1048576) (fun k hk => by have := totL_get ps k (by omega); omega))
  clear hrr hrl hrt
  go_wp2_with fail
  refine (lToRegion w.heap.size n cap a W l w2 hn (HC.out.on h_w2) h_w2.size).mono ?_
  rintro e w3 ⟨gw3, rfl, OA_w3, hbb⟩
  clear qB0 qB1
  have VB_w3 := VB_w2.on hbb VB_w2.lt
  have h_w3 := h_w2.trans (hbb.mono h_w2.size)
  have s_w3 := hbb.size
  clear VB_w2 h_w2
  have TA := OA_w3.lt
  clear hbb
  have qB0 := VB_w3.c0
  have qB1 := VB_w3.c1
  go_wp2_with fail
  obtain ⟨bsD, hbsD⟩ : ∃ b, w3.heap.size = b := ⟨_, rfl⟩
  refine (lToPs w.heap.size m2 cap2 a2 ps w3 hn2 (HC3.out.on h_w3) h_w3.size).mono ?_
  rintro e w4 ⟨gD, esD, rfl, hkD, hsmD, PD_w4, hbb⟩
  rw [hbsD] at PD_w4
  have HKD := Lib.hid hkD
  have HSD := Lib.hid hsmD
  have helD : esD.length = m2 := by have := congrArg List.length hkD; rw [List.length_map] at this; omega
  clear hkD hsmD
  clear qB0 qB1
  have VB_w4 := VB_w3.on hbb VB_w3.lt
  have OA_w4 := OA_w3.kept (grow_below hbb none) (Classical.em _)
  have h_w4 := h_w3.trans (hbb.mono h_w3.size)
  have s_w4 := hbb.size
  clear VB_w3 OA_w3 h_w3
  have UPD := Lib.hid (ownS_up PD_w4)
  obtain ⟨upD, hupD⟩ : ∃ b, w4.heap.size = b := ⟨_, rfl⟩
  rw [hupD] at UPD
  clear hbb
  have qB0 := VB_w4.c0
  have qB1 := VB_w4.c1
  go_wp2_with fail
  obtain ⟨gw5, hgw5⟩ : ∃ g, w4.heap.size = g := ⟨_, rfl⟩
  refine (lToIntS w.heap.size m3 cap3 a3 ls w4 hn3 (HCI.out.on h_w4) h_w4.size).mono ?_
  rintro e w5 ⟨rfl, OE_w5, hbb⟩
  rw [hgw5] at OE_w5 ⊢
  have PD_w5 := PD_w4.on hbb
  clear PD_w4
  clear qB0 qB1
  have VB_w5 := VB_w4.on hbb VB_w4.lt
  have OA_w5 := OA_w4.kept (grow_below hbb none) (Classical.em _)
  have h_w5 := h_w4.trans (hbb.mono h_w4.size)
  have s_w5 := hbb.size
  clear VB_w4 OA_w4 h_w4
  have TE := OE_w5.lt
  clear hbb
  have qB0 := VB_w5.c0
  have qB1 := VB_w5.c1
  go_wp2_with fail
  refine (sIsWP w5.heap.size n n m2 m2 m3 m3 _ _ _ W l ls ps p w5 hn4 hn2 hn34 (IntsAt.of_own OA_w5 HC.out.2.1) (ps_at PD_w5 HSD.out HKD.out helD (by omega)) (IntsAt.of_own OE_w5 HCI.out.2.1) (Nat.le_refl _)).mono ?_
  rintro e w6 ⟨rfl, hbb⟩
  rw [HZ0.out]
  have PD_w6 := PD_w5.on hbb
  clear PD_w5
  clear qB0 qB1
  have VB_w6 := VB_w5.on hbb VB_w5.lt
  have OA_w6 := OA_w5.kept (grow_below hbb none) (Classical.em _)
  have OE_w6 := OE_w5.kept (grow_below hbb none) (Classical.em _)
  have h_w6 := h_w5.trans (hbb.mono h_w5.size)
  have s_w6 := hbb.size
  clear VB_w5 OA_w5 OE_w5 h_w5
  clear hbb
  have qB0 := VB_w6.c0
  have qB1 := VB_w6.c1
  go_wp2_with fail
  refine (lToRegion w.heap.size n cap a W l w6 hn (HC.out.on h_w6) h_w6.size).mono ?_
  rintro e w7 ⟨gw7, rfl, OX_w7, hbb⟩
  clear qB0 qB1
  have VB_w7 := VB_w6.on hbb VB_w6.lt
  have OA_w7 := OA_w6.kept (grow_below hbb none) (Classical.em _)
  have OE_w7 := OE_w6.kept (grow_below hbb none) (Classical.em _)
  have h_w7 := h_w6.trans (hbb.mono h_w6.size)
  have s_w7 := hbb.size
  clear VB_w6 OA_w6 OE_w6 h_w6
  have TX := OX_w7.lt
  clear hbb
  obtain ⟨bX, hbX⟩ : ∃ b, w7.heap.size = b := ⟨_, rfl⟩
  have VX_w8 := RgAt.new (w := w7) W (.slice (some ⟨gw7, 0, none⟩) n n) hbX
  have VB_w8 := VB_w7.alloc (.cells #[.int .i64 W, .slice (some ⟨gw7, 0, none⟩) n n] 26)
  have OA_w8 := OA_w7.alloc (.cells #[.int .i64 W, .slice (some ⟨gw7, 0, none⟩) n n] 26)
  have OE_w8 := OE_w7.alloc (.cells #[.int .i64 W, .slice (some ⟨gw7, 0, none⟩) n n] 26)
  have OX_w8 := OX_w7.alloc (.cells #[.int .i64 W, .slice (some ⟨gw7, 0, none⟩) n n] 26)
  have h_w8 := h_w7.alloc h_w7.size (.cells #[.int .i64 W, .slice (some ⟨gw7, 0, none⟩) n n] 26)
  have s_w8 : (w7.alloc (.cells #[.int .i64 W, .slice (some ⟨gw7, 0, none⟩) n n] 26)).heap.size = bX + 1 := by simp [hbX]
  clear VB_w7 OA_w7 OE_w7 OX_w7 h_w7
  have qB0 := VB_w8.c0
  have qB1 := VB_w8.c1
  have qX0 := VX_w8.c0
  have qX1 := VX_w8.c1
  go_wp2_with fail
  generalize (w7.alloc (.cells #[.int .i64 W, .slice (some ⟨gw7, 0, none⟩) n n] 26)) = w8 at *
  obtain ⟨bsY, hbsY⟩ : ∃ b, w8.heap.size = b := ⟨_, rfl⟩
  refine (lToPs w.heap.size m2 cap2 a2 ps w8 hn2 (HC3.out.on h_w8) h_w8.size).mono ?_
  rintro e w9 ⟨gY, esY, rfl, hkY, hsmY, PY_w9, hbb⟩
  rw [hbsY] at PY_w9
  have HKY := Lib.hid hkY
  have HSY := Lib.hid hsmY
  have helY : esY.length = m2 := by have := congrArg List.length hkY; rw [List.length_map] at this; omega
  clear hkY hsmY
  clear qB0 qB1 qX0 qX1
  have VB_w9 := VB_w8.on hbb VB_w8.lt
  have VX_w9 := VX_w8.on hbb VX_w8.lt
  have OA_w9 := OA_w8.kept (grow_below hbb none) (Classical.em _)
  have OE_w9 := OE_w8.kept (grow_below hbb none) (Classical.em _)
  have OX_w9 := OX_w8.kept (grow_below hbb none) (Classical.em _)
  have h_w9 := h_w8.trans (hbb.mono h_w8.size)
  have s_w9 := hbb.size
  clear VB_w8 VX_w8 OA_w8 OE_w8 OX_w8 h_w8
  have UPY := Lib.hid (ownS_up PY_w9)
  obtain ⟨upY, hupY⟩ : ∃ b, w9.heap.size = b := ⟨_, rfl⟩
  rw [hupY] at UPY
  clear hbb
  have qB0 := VB_w9.c0
  have qB1 := VB_w9.c1
  have qX0 := VX_w9.c0
  have qX1 := VX_w9.c1
  go_wp2_with fail
  obtain ⟨gw10, hgw10⟩ : ∃ g, w9.heap.size = g := ⟨_, rfl⟩
  refine (lToIntS w.heap.size m3 cap3 a3 ls w9 hn3 (HCI.out.on h_w9) h_w9.size).mono ?_
  rintro e w10 ⟨rfl, OV_w10, hbb⟩
  rw [hgw10] at OV_w10 ⊢
  have PY_w10 := PY_w9.on hbb
  clear PY_w9
  clear qB0 qB1 qX0 qX1
  have VB_w10 := VB_w9.on hbb VB_w9.lt
  have VX_w10 := VX_w9.on hbb VX_w9.lt
  have OA_w10 := OA_w9.kept (grow_below hbb none) (Classical.em _)
  have OE_w10 := OE_w9.kept (grow_below hbb none) (Classical.em _)
  have OX_w10 := OX_w9.kept (grow_below hbb none) (Classical.em _)
  have h_w10 := h_w9.trans (hbb.mono h_w9.size)
  have s_w10 := hbb.size
  clear VB_w9 VX_w9 OA_w9 OE_w9 OX_w9 h_w9
  have TV := OV_w10.lt
  clear hbb
  have qB0 := VB_w10.c0
  have qB1 := VB_w10.c1
  have qX0 := VX_w10.c0
  have qX1 := VX_w10.c1
  go_wp2_with fail
  refine (iIsWP w10.heap.size n n m2 m2 m3 m3 _ _ _ W l ls ps p w10 hn4 hn2 hn34 (IntsAt.of_own OX_w10 HC.out.2.1) (ps_at PY_w10 HSY.out HKY.out helY (by omega)) (IntsAt.of_own OV_w10 HCI.out.2.1) (Nat.le_refl _) (hT.on h_w10 hT.2)).mono ?_
  rintro e w11 ⟨rfl, hbb⟩
  rw [HZ0.out]
  have PY_w11 := PY_w10.on hbb
  clear PY_w10
  clear qB0 qB1 qX0 qX1
  have VB_w11 := VB_w10.on hbb VB_w10.lt
  have VX_w11 := VX_w10.on hbb VX_w10.lt
  have OA_w11 := OA_w10.kept (grow_below hbb none) (Classical.em _)
  have OE_w11 := OE_w10.kept (grow_below hbb none) (Classical.em _)
  have OX_w11 := OX_w10.kept (grow_below hbb none) (Classical.em _)
  have OV_w11 := OV_w10.kept (grow_below hbb none) (Classical.em _)
  have h_w11 := h_w10.trans (hbb.mono h_w10.size)
  have s_w11 := hbb.size
  clear VB_w10 VX_w10 OA_w10 OE_w10 OX_w10 OV_w10 h_w10
  clear hbb
  have qB0 := VB_w11.c0
  have qB1 := VB_w11.c1
  have qX0 := VX_w11.c0
  have qX1 := VX_w11.c1
  go_wp2_with fail
  go_region_held3 (fun w' => w'.cell? ⟨bX, 0, none⟩ = some (.int .i64 W) ∧ w'.cell? ⟨bX, 1, none⟩ = some (.slice (some ⟨gw7, 0, none⟩) n n) ∧ w'.cell? ⟨bB, 0, none⟩ = some (.int .i64 W) ∧ w'.cell? ⟨bB, 1, none⟩ = some (.slice a n cap))
    (first
      | exact ⟨VX_w11.c0, VX_w11.c1, VB_w11.c0, VB_w11.c1⟩
      | exact ⟨xx6.c0, xx6.c1, bb6.c0, bb6.c1⟩
      | exact ⟨xx7.c0, xx7.c1, bb7.c0, bb7.c1⟩)
    (first
      | (go_at_call 43
         refine (lToRegion w.heap.size n cap a W l _ hn (HC.out.on (h_w11).drew) h_w11.size).mono ?_
         rintro e w12 ⟨gw12, rfl, OY_w12, hbb⟩
         have xx6 : RgAt w12 bX W (.slice (some ⟨gw7, 0, none⟩) n n) := RgAt.on (w := w11.drew) VX_w11 hbb VX_w11.lt
         have bb6 : LgAt w12 bB W (.slice a n cap) := LgAt.on (w := w11.drew) VB_w11 hbb VB_w11.lt
         have hbd : Below w11.heap.size w11 w12 := ((Below.refl _ w11).drew).trans hbb)
      | (go_at_call 46
         refine (lEqR w12.heap.size W _ _ l w12 hl4 (IsRd.of_own2 (OX_w11.kept (grow_below hbd none) (Classical.em _))) (IsRd.of_own2 OY_w12) (Nat.le_refl _)).mono ?_
         rintro e w13 ⟨rfl, hbe⟩
         have xx7 := xx6.on hbe xx6.lt
         have bb7 := bb6.on hbe bb6.lt))
  have hbq : Below w11.heap.size w11 w13 := hbd.trans (hbe.mono hbd.size)
  clear hbd hbe hbb xx6 bb6 xx7 bb7 OY_w12
  have PY_w13 := PY_w11.on hbq
  clear PY_w11
  clear qB0 qB1 qX0 qX1
  have VB_w13 := VB_w11.on hbq VB_w11.lt
  have VX_w13 := VX_w11.on hbq VX_w11.lt
  have OA_w13 := OA_w11.kept (grow_below hbq none) (Classical.em _)
  have OE_w13 := OE_w11.kept (grow_below hbq none) (Classical.em _)
  have OX_w13 := OX_w11.kept (grow_below hbq none) (Classical.em _)
  have OV_w13 := OV_w11.kept (grow_below hbq none) (Classical.em _)
  have h_w13 := h_w11.trans (hbq.mono h_w11.size)
  have s_w13 := hbq.size
  clear VB_w11 VX_w11 OA_w11 OE_w11 OX_w11 OV_w11 h_w11
  clear hbq
  have qB0 := VB_w13.c0
  have qB1 := VB_w13.c1
  have qX0 := VX_w13.c0
  have qX1 := VX_w13.c1
  go_wp2_with fail
  obtain ⟨bsZ, hbsZ⟩ : ∃ b, w13.heap.size = b := ⟨_, rfl⟩
  refine (lToPs w.heap.size m2 cap2 a2 ps w13 hn2 (HC3.out.on h_w13) h_w13.size).mono ?_
  rintro e w14 ⟨gZ, esZ, rfl, hkZ, hsmZ, PZ_w14, hbb⟩
  rw [hbsZ] at PZ_w14
  have HKZ := Lib.hid hkZ
  have HSZ := Lib.hid hsmZ
  have helZ : esZ.length = m2 := by have := congrArg List.length hkZ; rw [List.length_map] at this; omega
  clear hkZ hsmZ
  have PY_w14 := PY_w13.on hbb
  clear PY_w13
  clear qB0 qB1 qX0 qX1
  have VB_w14 := VB_w13.on hbb VB_w13.lt
  have VX_w14 := VX_w13.on hbb VX_w13.lt
  have OA_w14 := OA_w13.kept (grow_below hbb none) (Classical.em _)
  have OE_w14 := OE_w13.kept (grow_below hbb none) (Classical.em _)
  have OX_w14 := OX_w13.kept (grow_below hbb none) (Classical.em _)
  have OV_w14 := OV_w13.kept (grow_below hbb none) (Classical.em _)
  have h_w14 := h_w13.trans (hbb.mono h_w13.size)
  have s_w14 := hbb.size
  clear VB_w13 VX_w13 OA_w13 OE_w13 OX_w13 OV_w13 h_w13
  have UPZ := Lib.hid (ownS_up PZ_w14)
  obtain ⟨upZ, hupZ⟩ : ∃ b, w14.heap.size = b := ⟨_, rfl⟩
  rw [hupZ] at UPZ
  clear hbb
  have qB0 := VB_w14.c0
  have qB1 := VB_w14.c1
  have qX0 := VX_w14.c0
  have qX1 := VX_w14.c1
  go_wp2_with fail
  refine (lEqSS w14.heap.size _ _ ps w14 (by omega) (by have h9 := SsRd.of_own PY_w14 HSY.out; rw [HKY.out] at h9; exact h9) (by have h9 := SsRd.of_own PZ_w14 HSZ.out; rw [HKZ.out] at h9; exact h9) (Nat.le_refl _)).mono ?_
  rintro e w15 ⟨rfl, hbb⟩
  have PY_w15 := PY_w14.on hbb
  clear PY_w14
  have PZ_w15 := PZ_w14.on hbb
  clear PZ_w14
  clear qB0 qB1 qX0 qX1
  have VB_w15 := VB_w14.on hbb VB_w14.lt
  have VX_w15 := VX_w14.on hbb VX_w14.lt
  have OA_w15 := OA_w14.kept (grow_below hbb none) (Classical.em _)
  have OE_w15 := OE_w14.kept (grow_below hbb none) (Classical.em _)
  have OX_w15 := OX_w14.kept (grow_below hbb none) (Classical.em _)
  have OV_w15 := OV_w14.kept (grow_below hbb none) (Classical.em _)
  have h_w15 := h_w14.trans (hbb.mono h_w14.size)
  have s_w15 := hbb.size
  clear VB_w14 VX_w14 OA_w14 OE_w14 OX_w14 OV_w14 h_w14
  clear hbb
  have qB0 := VB_w15.c0
  have qB1 := VB_w15.c1
  have qX0 := VX_w15.c0
  have qX1 := VX_w15.c1
  go_wp2_with fail
  obtain ⟨gw16, hgw16⟩ : ∃ g, w15.heap.size = g := ⟨_, rfl⟩
  refine (lToIntS w.heap.size m3 cap3 a3 ls w15 hn3 (HCI.out.on h_w15) h_w15.size).mono ?_
  rintro e w16 ⟨rfl, OJ_w16, hbb⟩
  rw [hgw16] at OJ_w16 ⊢
  have PY_w16 := PY_w15.on hbb
  clear PY_w15
  clear qB0 qB1 qX0 qX1
  have VB_w16 := VB_w15.on hbb VB_w15.lt
  have VX_w16 := VX_w15.on hbb VX_w15.lt
  have OA_w16 := OA_w15.kept (grow_below hbb none) (Classical.em _)
  have OE_w16 := OE_w15.kept (grow_below hbb none) (Classical.em _)
  have OX_w16 := OX_w15.kept (grow_below hbb none) (Classical.em _)
  have OV_w16 := OV_w15.kept (grow_below hbb none) (Classical.em _)
  have h_w16 := h_w15.trans (hbb.mono h_w15.size)
  have s_w16 := hbb.size
  clear VB_w15 VX_w15 OA_w15 OE_w15 OX_w15 OV_w15 h_w15
  have TJ := OJ_w16.lt
  clear hbb
  have qB0 := VB_w16.c0
  have qB1 := VB_w16.c1
  have qX0 := VX_w16.c0
  have qX1 := VX_w16.c1
  go_wp2_with fail
  refine (lEqI w16.heap.size _ _ ls w16 hl34 (IsRd.of_own2 OV_w16) (IsRd.of_own2 OJ_w16) (Nat.le_refl _)).mono ?_
  rintro e w17 ⟨rfl, hbb⟩
  have PY_w17 := PY_w16.on hbb
  clear PY_w16
  clear qB0 qB1 qX0 qX1
  have VB_w17 := VB_w16.on hbb VB_w16.lt
  have VX_w17 := VX_w16.on hbb VX_w16.lt
  have OA_w17 := OA_w16.kept (grow_below hbb none) (Classical.em _)
  have OE_w17 := OE_w16.kept (grow_below hbb none) (Classical.em _)
  have OX_w17 := OX_w16.kept (grow_below hbb none) (Classical.em _)
  have OV_w17 := OV_w16.kept (grow_below hbb none) (Classical.em _)
  have OJ_w17 := OJ_w16.kept (grow_below hbb none) (Classical.em _)
  have h_w17 := h_w16.trans (hbb.mono h_w16.size)
  have s_w17 := hbb.size
  clear VB_w16 VX_w16 OA_w16 OE_w16 OX_w16 OV_w16 OJ_w16 h_w16
  clear hbb
  go_wp2
  go_ret
  exact ⟨rfl, h_w17⟩

end Go.Proofs.YtkcclhnligajeaaGreatDoor
