/-
  The laws on refutations: the walk of each law.
-/
import Derived.Test.YtkjlmgkjcmebbaaGreatDoorWbf
import Derived.Test.YtkjlmgkjcmebbaaGreatDoorWbg
import Derived.Test.YtkjlmgkjcmebbaaGreatDoorWbh
import Derived.Test.YtkjlmgkjcmebbaaGreatDoorWbj
import Derived.Test.YtkjlmgkjcmebbaaGreatDoorWax
namespace Go.Proofs.YtkjlmgkjcmebbaaGreatDoor
open Go.RowKit

set_option maxHeartbeats 4000000 in
set_option maxRecDepth 100000 in
theorem law_SearchNodes (W : Int) (a : Option Addr) (n cap : Nat) (l : List Int) (a2 : Option Addr) (m2 cap2 : Nat) (ps : List (List Cl)) (w : World) (hc : IntsAt w.heap.size w a n l) (hm : n ≤ maxLen) (hc2 : PsB maxLen w.heap.size w a2 m2 ps) (hm2 : m2 ≤ maxLen) (hT : Tz w) :
    Calls Tryz.prog 11 #[.agg #[.int .i64 W, .slice a n cap], .slice a2 m2 cap2] w fun e w' => e = .returned (.bool true) ∧ Below w.heap.size w w' := by
  have hmx : n ≤ 9223372036854775807 := by unfold maxLen at hm; omega
  have HC := Lib.hid hc
  have hln := hc.1
  clear hc hm
  have HC2 := Lib.hid hc2
  have HM2 := Lib.hid hm2
  have hln2 := hc2.1
  clear hc2 hm2
  obtain ⟨z0, hz0⟩ : ∃ z : Int, srcN W l ps = z := ⟨_, rfl⟩
  have HZ0 := Lib.hid hz0
  have hne0 : (z0 != z0) = false := by simp
  clear hz0
  by_cases hs : (1048576 : Int) < n
  · go_enter Tryz.func11, Tryz.ntmps11
    have VB_w1 := LgAt.new (w := w) W (.slice a n cap) rfl
    obtain ⟨bB, hbB⟩ : ∃ b, w.heap.size = b := ⟨_, rfl⟩
    have h_w1 := (Below.refl w.heap.size w).alloc (Nat.le_refl _) (.cells #[.int .i64 W, .slice a n cap] 47)
    have s_w1 : (w.alloc (.cells #[.int .i64 W, .slice a n cap] 47)).heap.size = bB + 1 := by simp [hbB]
    rw [hbB] at VB_w1
    have qB0 := VB_w1.c0
    have qB1 := VB_w1.c1
    go_wp2_with fail
    generalize (w.alloc (.cells #[.int .i64 W, .slice a n cap] 47)) = w1 at *
    refine (lSzR_big W a n cap 1048576 _ (by omega) hs hmx).mono ?_
    rintro e w' ⟨rfl, hb0⟩
    go_wp2
    go_ret
    exact ⟨rfl, h_w1.trans (hb0.mono h_w1.size)⟩
  have hn : n ≤ 1048576 := by omega
  have hn4 : n ≤ 4194304 := by omega
  have hl4 : l.length ≤ 4194304 := by rw [hln]; omega
  go_enter Tryz.func11, Tryz.ntmps11
  have VB_w1 := LgAt.new (w := w) W (.slice a n cap) rfl
  obtain ⟨bB, hbB⟩ : ∃ b, w.heap.size = b := ⟨_, rfl⟩
  have h_w1 := (Below.refl w.heap.size w).alloc (Nat.le_refl _) (.cells #[.int .i64 W, .slice a n cap] 47)
  have s_w1 : (w.alloc (.cells #[.int .i64 W, .slice a n cap] 47)).heap.size = bB + 1 := by simp [hbB]
  rw [hbB] at VB_w1
  have qB0 := VB_w1.c0
  have qB1 := VB_w1.c1
  go_wp2_with fail
  generalize (w.alloc (.cells #[.int .i64 W, .slice a n cap] 47)) = w1 at *
  refine (lSzR_fits W a n cap 1048576 _ (by omega) (by omega)).mono ?_
  rintro e w2 ⟨rfl, hbb⟩
  clear qB0 qB1
  have VB_w2 := VB_w1.on hbb VB_w1.lt
  have h_w2 := h_w1.trans (hbb.mono h_w1.size)
  have s_w2 := hbb.size
  clear VB_w1 h_w1
  clear hbb
  have qB0 := VB_w2.c0
  have qB1 := VB_w2.c1
  go_wp2_with fail
  refine (lSzPs w.heap.size m2 cap2 a2 ps (1048576 - n) _ (by omega) (by omega) HM2.out (HC2.out.on h_w2) h_w2.size).mono ?_
  rintro e w' ⟨rr, rfl, hrr, hrl, rfl⟩
  by_cases hs2 : rr < 0
  · go_wp2
    go_ret
    exact ⟨rfl, h_w2⟩
  have hrt := hrr (by omega)
  have hn2 : m2 ≤ 1048576 := by omega
  have hn24 : m2 ≤ 4194304 := by omega
  have htot : totL ps ≤ 1048576 := by omega
  have HC3 := Lib.hid (HC2.out.small (M' := 1048576) (fun k hk => by have := totL_get ps k (by omega); omega))
  clear hrr hrl hrt
  go_wp2_with fail
  refine (lToRegion w.heap.size n cap a W l w2 hn (HC.out.on h_w2) h_w2.size).mono ?_
  rintro e w3 ⟨gw3, rfl, OA_w3, hbb⟩
  clear qB0 qB1
  have VB_w3 := VB_w2.on hbb VB_w2.lt
  have h_w3 := h_w2.trans (hbb.mono h_w2.size)
  have s_w3 := hbb.size
  clear VB_w2 h_w2
  have TA := OA_w3.lt
  clear hbb
  have qB0 := VB_w3.c0
  have qB1 := VB_w3.c1
  go_wp2_with fail
  obtain ⟨bsD, hbsD⟩ : ∃ b, w3.heap.size = b := ⟨_, rfl⟩
  refine (lToPs w.heap.size m2 cap2 a2 ps w3 hn2 (HC3.out.on h_w3) h_w3.size).mono ?_
  rintro e w4 ⟨gD, esD, rfl, hkD, hsmD, PD_w4, hbb⟩
  rw [hbsD] at PD_w4
  have HKD := Lib.hid hkD
  have HSD := Lib.hid hsmD
  have helD : esD.length = m2 := by have := congrArg List.length hkD; rw [List.length_map] at this; omega
  clear hkD hsmD
  clear qB0 qB1
  have VB_w4 := VB_w3.on hbb VB_w3.lt
  have OA_w4 := OA_w3.kept (grow_below hbb none) (Classical.em _)
  have h_w4 := h_w3.trans (hbb.mono h_w3.size)
  have s_w4 := hbb.size
  clear VB_w3 OA_w3 h_w3
  have UPD := Lib.hid (ownS_up PD_w4)
  obtain ⟨upD, hupD⟩ : ∃ b, w4.heap.size = b := ⟨_, rfl⟩
  rw [hupD] at UPD
  clear hbb
  have qB0 := VB_w4.c0
  have qB1 := VB_w4.c1
  go_wp2_with fail
  refine (sSrch w4.heap.size n n m2 m2 _ _ W l ps w4 hn4 hn2 (IntsAt.of_own OA_w4 HC.out.2.1) (ps_at PD_w4 HSD.out HKD.out helD (by omega)) (Nat.le_refl _)).mono ?_
  rintro e w5 ⟨rfl, hbb⟩
  rw [HZ0.out]
  have PD_w5 := PD_w4.on hbb
  clear PD_w4
  clear qB0 qB1
  have VB_w5 := VB_w4.on hbb VB_w4.lt
  have OA_w5 := OA_w4.kept (grow_below hbb none) (Classical.em _)
  have h_w5 := h_w4.trans (hbb.mono h_w4.size)
  have s_w5 := hbb.size
  clear VB_w4 OA_w4 h_w4
  clear hbb
  have qB0 := VB_w5.c0
  have qB1 := VB_w5.c1
  go_wp2_with fail
  refine (lToRegion w.heap.size n cap a W l w5 hn (HC.out.on h_w5) h_w5.size).mono ?_
  rintro e w6 ⟨gw6, rfl, OX_w6, hbb⟩
  clear qB0 qB1
  have VB_w6 := VB_w5.on hbb VB_w5.lt
  have OA_w6 := OA_w5.kept (grow_below hbb none) (Classical.em _)
  have h_w6 := h_w5.trans (hbb.mono h_w5.size)
  have s_w6 := hbb.size
  clear VB_w5 OA_w5 h_w5
  have TX := OX_w6.lt
  clear hbb
  obtain ⟨bX, hbX⟩ : ∃ b, w6.heap.size = b := ⟨_, rfl⟩
  have VX_w7 := RgAt.new (w := w6) W (.slice (some ⟨gw6, 0, none⟩) n n) hbX
  have VB_w7 := VB_w6.alloc (.cells #[.int .i64 W, .slice (some ⟨gw6, 0, none⟩) n n] 26)
  have OA_w7 := OA_w6.alloc (.cells #[.int .i64 W, .slice (some ⟨gw6, 0, none⟩) n n] 26)
  have OX_w7 := OX_w6.alloc (.cells #[.int .i64 W, .slice (some ⟨gw6, 0, none⟩) n n] 26)
  have h_w7 := h_w6.alloc h_w6.size (.cells #[.int .i64 W, .slice (some ⟨gw6, 0, none⟩) n n] 26)
  have s_w7 : (w6.alloc (.cells #[.int .i64 W, .slice (some ⟨gw6, 0, none⟩) n n] 26)).heap.size = bX + 1 := by simp [hbX]
  clear VB_w6 OA_w6 OX_w6 h_w6
  have qB0 := VB_w7.c0
  have qB1 := VB_w7.c1
  have qX0 := VX_w7.c0
  have qX1 := VX_w7.c1
  go_wp2_with fail
  generalize (w6.alloc (.cells #[.int .i64 W, .slice (some ⟨gw6, 0, none⟩) n n] 26)) = w7 at *
  obtain ⟨bsY, hbsY⟩ : ∃ b, w7.heap.size = b := ⟨_, rfl⟩
  refine (lToPs w.heap.size m2 cap2 a2 ps w7 hn2 (HC3.out.on h_w7) h_w7.size).mono ?_
  rintro e w8 ⟨gY, esY, rfl, hkY, hsmY, PY_w8, hbb⟩
  rw [hbsY] at PY_w8
  have HKY := Lib.hid hkY
  have HSY := Lib.hid hsmY
  have helY : esY.length = m2 := by have := congrArg List.length hkY; rw [List.length_map] at this; omega
  clear hkY hsmY
  clear qB0 qB1 qX0 qX1
  have VB_w8 := VB_w7.on hbb VB_w7.lt
  have VX_w8 := VX_w7.on hbb VX_w7.lt
  have OA_w8 := OA_w7.kept (grow_below hbb none) (Classical.em _)
  have OX_w8 := OX_w7.kept (grow_below hbb none) (Classical.em _)
  have h_w8 := h_w7.trans (hbb.mono h_w7.size)
  have s_w8 := hbb.size
  clear VB_w7 VX_w7 OA_w7 OX_w7 h_w7
  have UPY := Lib.hid (ownS_up PY_w8)
  obtain ⟨upY, hupY⟩ : ∃ b, w8.heap.size = b := ⟨_, rfl⟩
  rw [hupY] at UPY
  clear hbb
  have qB0 := VB_w8.c0
  have qB1 := VB_w8.c1
  have qX0 := VX_w8.c0
  have qX1 := VX_w8.c1
  go_wp2_with fail
  refine (iSrch w8.heap.size n n m2 m2 _ _ W l ps w8 hn4 hn2 (IntsAt.of_own OX_w8 HC.out.2.1) (ps_at PY_w8 HSY.out HKY.out helY (by omega)) (Nat.le_refl _) (hT.on h_w8 hT.2)).mono ?_
  rintro e w9 ⟨rfl, hbb⟩
  rw [HZ0.out]
  have PY_w9 := PY_w8.on hbb
  clear PY_w8
  clear qB0 qB1 qX0 qX1
  have VB_w9 := VB_w8.on hbb VB_w8.lt
  have VX_w9 := VX_w8.on hbb VX_w8.lt
  have OA_w9 := OA_w8.kept (grow_below hbb none) (Classical.em _)
  have OX_w9 := OX_w8.kept (grow_below hbb none) (Classical.em _)
  have h_w9 := h_w8.trans (hbb.mono h_w8.size)
  have s_w9 := hbb.size
  clear VB_w8 VX_w8 OA_w8 OX_w8 h_w8
  clear hbb
  have qB0 := VB_w9.c0
  have qB1 := VB_w9.c1
  have qX0 := VX_w9.c0
  have qX1 := VX_w9.c1
  go_wp2_with fail
  go_region_held3 (fun w' => w'.cell? ⟨bX, 0, none⟩ = some (.int .i64 W) ∧ w'.cell? ⟨bX, 1, none⟩ = some (.slice (some ⟨gw6, 0, none⟩) n n) ∧ w'.cell? ⟨bB, 0, none⟩ = some (.int .i64 W) ∧ w'.cell? ⟨bB, 1, none⟩ = some (.slice a n cap))
    (first
      | exact ⟨VX_w9.c0, VX_w9.c1, VB_w9.c0, VB_w9.c1⟩
      | exact ⟨xx6.c0, xx6.c1, bb6.c0, bb6.c1⟩
      | exact ⟨xx7.c0, xx7.c1, bb7.c0, bb7.c1⟩)
    (first
      | (go_at_call 40
         refine (lToRegion w.heap.size n cap a W l _ hn (HC.out.on (h_w9).drew) h_w9.size).mono ?_
         rintro e w10 ⟨gw10, rfl, OY_w10, hbb⟩
         have xx6 : RgAt w10 bX W (.slice (some ⟨gw6, 0, none⟩) n n) := RgAt.on (w := w9.drew) VX_w9 hbb VX_w9.lt
         have bb6 : LgAt w10 bB W (.slice a n cap) := LgAt.on (w := w9.drew) VB_w9 hbb VB_w9.lt
         have hbd : Below w9.heap.size w9 w10 := ((Below.refl _ w9).drew).trans hbb)
      | (go_at_call 44
         refine (lEqR w10.heap.size W _ _ l w10 hl4 (IsRd.of_own2 (OX_w9.kept (grow_below hbd none) (Classical.em _))) (IsRd.of_own2 OY_w10) (Nat.le_refl _)).mono ?_
         rintro e w11 ⟨rfl, hbe⟩
         have xx7 := xx6.on hbe xx6.lt
         have bb7 := bb6.on hbe bb6.lt))
  have hbq : Below w9.heap.size w9 w11 := hbd.trans (hbe.mono hbd.size)
  clear hbd hbe hbb xx6 bb6 xx7 bb7 OY_w10
  have PY_w11 := PY_w9.on hbq
  clear PY_w9
  clear qB0 qB1 qX0 qX1
  have VB_w11 := VB_w9.on hbq VB_w9.lt
  have VX_w11 := VX_w9.on hbq VX_w9.lt
  have OA_w11 := OA_w9.kept (grow_below hbq none) (Classical.em _)
  have OX_w11 := OX_w9.kept (grow_below hbq none) (Classical.em _)
  have h_w11 := h_w9.trans (hbq.mono h_w9.size)
  have s_w11 := hbq.size
  clear VB_w9 VX_w9 OA_w9 OX_w9 h_w9
  clear hbq
  have qB0 := VB_w11.c0
  have qB1 := VB_w11.c1
  have qX0 := VX_w11.c0
  have qX1 := VX_w11.c1
  go_wp2_with fail
  obtain ⟨bsZ, hbsZ⟩ : ∃ b, w11.heap.size = b := ⟨_, rfl⟩
  refine (lToPs w.heap.size m2 cap2 a2 ps w11 hn2 (HC3.out.on h_w11) h_w11.size).mono ?_
  rintro e w12 ⟨gZ, esZ, rfl, hkZ, hsmZ, PZ_w12, hbb⟩
  rw [hbsZ] at PZ_w12
  have HKZ := Lib.hid hkZ
  have HSZ := Lib.hid hsmZ
  have helZ : esZ.length = m2 := by have := congrArg List.length hkZ; rw [List.length_map] at this; omega
  clear hkZ hsmZ
  have PY_w12 := PY_w11.on hbb
  clear PY_w11
  clear qB0 qB1 qX0 qX1
  have VB_w12 := VB_w11.on hbb VB_w11.lt
  have VX_w12 := VX_w11.on hbb VX_w11.lt
  have OA_w12 := OA_w11.kept (grow_below hbb none) (Classical.em _)
  have OX_w12 := OX_w11.kept (grow_below hbb none) (Classical.em _)
  have h_w12 := h_w11.trans (hbb.mono h_w11.size)
  have s_w12 := hbb.size
  clear VB_w11 VX_w11 OA_w11 OX_w11 h_w11
  have UPZ := Lib.hid (ownS_up PZ_w12)
  obtain ⟨upZ, hupZ⟩ : ∃ b, w12.heap.size = b := ⟨_, rfl⟩
  rw [hupZ] at UPZ
  clear hbb
  have qB0 := VB_w12.c0
  have qB1 := VB_w12.c1
  have qX0 := VX_w12.c0
  have qX1 := VX_w12.c1
  go_wp2_with fail
  refine (lEqSS w12.heap.size _ _ ps w12 (by omega) (by have h9 := SsRd.of_own PY_w12 HSY.out; rw [HKY.out] at h9; exact h9) (by have h9 := SsRd.of_own PZ_w12 HSZ.out; rw [HKZ.out] at h9; exact h9) (Nat.le_refl _)).mono ?_
  rintro e w13 ⟨rfl, hbb⟩
  have PY_w13 := PY_w12.on hbb
  clear PY_w12
  have PZ_w13 := PZ_w12.on hbb
  clear PZ_w12
  clear qB0 qB1 qX0 qX1
  have VB_w13 := VB_w12.on hbb VB_w12.lt
  have VX_w13 := VX_w12.on hbb VX_w12.lt
  have OA_w13 := OA_w12.kept (grow_below hbb none) (Classical.em _)
  have OX_w13 := OX_w12.kept (grow_below hbb none) (Classical.em _)
  have h_w13 := h_w12.trans (hbb.mono h_w12.size)
  have s_w13 := hbb.size
  clear VB_w12 VX_w12 OA_w12 OX_w12 h_w12
  clear hbb
  go_wp2
  go_ret
  exact ⟨rfl, h_w13⟩

set_option maxHeartbeats 4000000 in
set_option maxRecDepth 100000 in
theorem law_RefutationOf (W : Int) (a : Option Addr) (n cap : Nat) (l : List Int) (a2 : Option Addr) (m2 cap2 : Nat) (ps : List (List Cl)) (w : World) (hc : IntsAt w.heap.size w a n l) (hm : n ≤ maxLen) (hc2 : PsB maxLen w.heap.size w a2 m2 ps) (hm2 : m2 ≤ maxLen) (hT : Tz w) :
    Calls Tryz.prog 9 #[.agg #[.int .i64 W, .slice a n cap], .slice a2 m2 cap2] w fun e w' => e = .returned (.bool true) ∧ Below w.heap.size w w' := by
  have hmx : n ≤ 9223372036854775807 := by unfold maxLen at hm; omega
  have HC := Lib.hid hc
  have hln := hc.1
  clear hc hm
  have HC2 := Lib.hid hc2
  have HM2 := Lib.hid hm2
  have hln2 := hc2.1
  clear hc2 hm2
  obtain ⟨z0, hz0⟩ : ∃ z : List UInt8, (refT W l ps).getD [] = z := ⟨_, rfl⟩
  have HZ0 := Lib.hid hz0
  have hne0 : (z0 == z0) = true := by simp
  have hzl0 : z0.length ≤ 2000 := by rw [← hz0]; exact refT_len W l ps
  clear hz0
  obtain ⟨z1, hz1⟩ : ∃ z : Bool, (refT W l ps).isSome = z := ⟨_, rfl⟩
  have HZ1 := Lib.hid hz1
  have hne1 : (z1 != z1) = false := by simp
  clear hz1
  by_cases hs : (1048576 : Int) < n
  · go_enter Tryz.func9, Tryz.ntmps9
    have VB_w1 := LgAt.new (w := w) W (.slice a n cap) rfl
    obtain ⟨bB, hbB⟩ : ∃ b, w.heap.size = b := ⟨_, rfl⟩
    have h_w1 := (Below.refl w.heap.size w).alloc (Nat.le_refl _) (.cells #[.int .i64 W, .slice a n cap] 47)
    have s_w1 : (w.alloc (.cells #[.int .i64 W, .slice a n cap] 47)).heap.size = bB + 1 := by simp [hbB]
    rw [hbB] at VB_w1
    have qB0 := VB_w1.c0
    have qB1 := VB_w1.c1
    go_wp2_with fail
    generalize (w.alloc (.cells #[.int .i64 W, .slice a n cap] 47)) = w1 at *
    refine (lSzR_big W a n cap 1048576 _ (by omega) hs hmx).mono ?_
    rintro e w' ⟨rfl, hb0⟩
    go_wp2
    go_ret
    exact ⟨rfl, h_w1.trans (hb0.mono h_w1.size)⟩
  have hn : n ≤ 1048576 := by omega
  have hn4 : n ≤ 4194304 := by omega
  have hl4 : l.length ≤ 4194304 := by rw [hln]; omega
  go_enter Tryz.func9, Tryz.ntmps9
  have VB_w1 := LgAt.new (w := w) W (.slice a n cap) rfl
  obtain ⟨bB, hbB⟩ : ∃ b, w.heap.size = b := ⟨_, rfl⟩
  have h_w1 := (Below.refl w.heap.size w).alloc (Nat.le_refl _) (.cells #[.int .i64 W, .slice a n cap] 47)
  have s_w1 : (w.alloc (.cells #[.int .i64 W, .slice a n cap] 47)).heap.size = bB + 1 := by simp [hbB]
  rw [hbB] at VB_w1
  have qB0 := VB_w1.c0
  have qB1 := VB_w1.c1
  go_wp2_with fail
  generalize (w.alloc (.cells #[.int .i64 W, .slice a n cap] 47)) = w1 at *
  refine (lSzR_fits W a n cap 1048576 _ (by omega) (by omega)).mono ?_
  rintro e w2 ⟨rfl, hbb⟩
  clear qB0 qB1
  have VB_w2 := VB_w1.on hbb VB_w1.lt
  have h_w2 := h_w1.trans (hbb.mono h_w1.size)
  have s_w2 := hbb.size
  clear VB_w1 h_w1
  clear hbb
  have qB0 := VB_w2.c0
  have qB1 := VB_w2.c1
  go_wp2_with fail
  refine (lSzPs w.heap.size m2 cap2 a2 ps (1048576 - n) _ (by omega) (by omega) HM2.out (HC2.out.on h_w2) h_w2.size).mono ?_
  rintro e w' ⟨rr, rfl, hrr, hrl, rfl⟩
  by_cases hs2 : rr < 0
  · go_wp2
    go_ret
    exact ⟨rfl, h_w2⟩
  have hrt := hrr (by omega)
  have hn2 : m2 ≤ 1048576 := by omega
  have hn24 : m2 ≤ 4194304 := by omega
  have htot : totL ps ≤ 1048576 := by omega
  have HC3 := Lib.hid (HC2.out.small (M' := 1048576) (fun k hk => by have := totL_get ps k (by omega); omega))
  clear hrr hrl hrt
  go_wp2_with fail
  refine (lToRegion w.heap.size n cap a W l w2 hn (HC.out.on h_w2) h_w2.size).mono ?_
  rintro e w3 ⟨gw3, rfl, OA_w3, hbb⟩
  clear qB0 qB1
  have VB_w3 := VB_w2.on hbb VB_w2.lt
  have h_w3 := h_w2.trans (hbb.mono h_w2.size)
  have s_w3 := hbb.size
  clear VB_w2 h_w2
  have TA := OA_w3.lt
  clear hbb
  have qB0 := VB_w3.c0
  have qB1 := VB_w3.c1
  go_wp2_with fail
  obtain ⟨bsD, hbsD⟩ : ∃ b, w3.heap.size = b := ⟨_, rfl⟩
  refine (lToPs w.heap.size m2 cap2 a2 ps w3 hn2 (HC3.out.on h_w3) h_w3.size).mono ?_
  rintro e w4 ⟨gD, esD, rfl, hkD, hsmD, PD_w4, hbb⟩
  rw [hbsD] at PD_w4
  have HKD := Lib.hid hkD
  have HSD := Lib.hid hsmD
  have helD : esD.length = m2 := by have := congrArg List.length hkD; rw [List.length_map] at this; omega
  clear hkD hsmD
  clear qB0 qB1
  have VB_w4 := VB_w3.on hbb VB_w3.lt
  have OA_w4 := OA_w3.kept (grow_below hbb none) (Classical.em _)
  have h_w4 := h_w3.trans (hbb.mono h_w3.size)
  have s_w4 := hbb.size
  clear VB_w3 OA_w3 h_w3
  have UPD := Lib.hid (ownS_up PD_w4)
  obtain ⟨upD, hupD⟩ : ∃ b, w4.heap.size = b := ⟨_, rfl⟩
  rw [hupD] at UPD
  clear hbb
  have qB0 := VB_w4.c0
  have qB1 := VB_w4.c1
  go_wp2_with fail
  refine (sRef w4.heap.size n n m2 m2 _ _ W l ps w4 hn4 hn2 (IntsAt.of_own OA_w4 HC.out.2.1) (ps_at PD_w4 HSD.out HKD.out helD (by omega)) (Nat.le_refl _)).mono ?_
  rintro e w5 ⟨rfl, hbb⟩
  rw [HZ0.out, HZ1.out]
  have PD_w5 := PD_w4.on hbb
  clear PD_w4
  clear qB0 qB1
  have VB_w5 := VB_w4.on hbb VB_w4.lt
  have OA_w5 := OA_w4.kept (grow_below hbb none) (Classical.em _)
  have h_w5 := h_w4.trans (hbb.mono h_w4.size)
  have s_w5 := hbb.size
  clear VB_w4 OA_w4 h_w4
  clear hbb
  have qB0 := VB_w5.c0
  have qB1 := VB_w5.c1
  go_wp2_with fail
  refine (lToRegion w.heap.size n cap a W l w5 hn (HC.out.on h_w5) h_w5.size).mono ?_
  rintro e w6 ⟨gw6, rfl, OX_w6, hbb⟩
  clear qB0 qB1
  have VB_w6 := VB_w5.on hbb VB_w5.lt
  have OA_w6 := OA_w5.kept (grow_below hbb none) (Classical.em _)
  have h_w6 := h_w5.trans (hbb.mono h_w5.size)
  have s_w6 := hbb.size
  clear VB_w5 OA_w5 h_w5
  have TX := OX_w6.lt
  clear hbb
  obtain ⟨bX, hbX⟩ : ∃ b, w6.heap.size = b := ⟨_, rfl⟩
  have VX_w7 := RgAt.new (w := w6) W (.slice (some ⟨gw6, 0, none⟩) n n) hbX
  have VB_w7 := VB_w6.alloc (.cells #[.int .i64 W, .slice (some ⟨gw6, 0, none⟩) n n] 26)
  have OA_w7 := OA_w6.alloc (.cells #[.int .i64 W, .slice (some ⟨gw6, 0, none⟩) n n] 26)
  have OX_w7 := OX_w6.alloc (.cells #[.int .i64 W, .slice (some ⟨gw6, 0, none⟩) n n] 26)
  have h_w7 := h_w6.alloc h_w6.size (.cells #[.int .i64 W, .slice (some ⟨gw6, 0, none⟩) n n] 26)
  have s_w7 : (w6.alloc (.cells #[.int .i64 W, .slice (some ⟨gw6, 0, none⟩) n n] 26)).heap.size = bX + 1 := by simp [hbX]
  clear VB_w6 OA_w6 OX_w6 h_w6
  have qB0 := VB_w7.c0
  have qB1 := VB_w7.c1
  have qX0 := VX_w7.c0
  have qX1 := VX_w7.c1
  go_wp2_with fail
  generalize (w6.alloc (.cells #[.int .i64 W, .slice (some ⟨gw6, 0, none⟩) n n] 26)) = w7 at *
  obtain ⟨bsY, hbsY⟩ : ∃ b, w7.heap.size = b := ⟨_, rfl⟩
  refine (lToPs w.heap.size m2 cap2 a2 ps w7 hn2 (HC3.out.on h_w7) h_w7.size).mono ?_
  rintro e w8 ⟨gY, esY, rfl, hkY, hsmY, PY_w8, hbb⟩
  rw [hbsY] at PY_w8
  have HKY := Lib.hid hkY
  have HSY := Lib.hid hsmY
  have helY : esY.length = m2 := by have := congrArg List.length hkY; rw [List.length_map] at this; omega
  clear hkY hsmY
  clear qB0 qB1 qX0 qX1
  have VB_w8 := VB_w7.on hbb VB_w7.lt
  have VX_w8 := VX_w7.on hbb VX_w7.lt
  have OA_w8 := OA_w7.kept (grow_below hbb none) (Classical.em _)
  have OX_w8 := OX_w7.kept (grow_below hbb none) (Classical.em _)
  have h_w8 := h_w7.trans (hbb.mono h_w7.size)
  have s_w8 := hbb.size
  clear VB_w7 VX_w7 OA_w7 OX_w7 h_w7
  have UPY := Lib.hid (ownS_up PY_w8)
  obtain ⟨upY, hupY⟩ : ∃ b, w8.heap.size = b := ⟨_, rfl⟩
  rw [hupY] at UPY
  clear hbb
  have qB0 := VB_w8.c0
  have qB1 := VB_w8.c1
  have qX0 := VX_w8.c0
  have qX1 := VX_w8.c1
  go_wp2_with fail
  refine (iRef w8.heap.size n n m2 m2 _ _ W l ps w8 hn4 hn2 (IntsAt.of_own OX_w8 HC.out.2.1) (ps_at PY_w8 HSY.out HKY.out helY (by omega)) (Nat.le_refl _) (hT.on h_w8 hT.2)).mono ?_
  rintro e w9 ⟨rfl, hbb⟩
  rw [HZ0.out, HZ1.out]
  have PY_w9 := PY_w8.on hbb
  clear PY_w8
  clear qB0 qB1 qX0 qX1
  have VB_w9 := VB_w8.on hbb VB_w8.lt
  have VX_w9 := VX_w8.on hbb VX_w8.lt
  have OA_w9 := OA_w8.kept (grow_below hbb none) (Classical.em _)
  have OX_w9 := OX_w8.kept (grow_below hbb none) (Classical.em _)
  have h_w9 := h_w8.trans (hbb.mono h_w8.size)
  have s_w9 := hbb.size
  clear VB_w8 VX_w8 OA_w8 OX_w8 h_w8
  clear hbb
  have qB0 := VB_w9.c0
  have qB1 := VB_w9.c1
  have qX0 := VX_w9.c0
  have qX1 := VX_w9.c1
  go_wp2_with fail
  go_region_held3 (fun w' => w'.cell? ⟨bX, 0, none⟩ = some (.int .i64 W) ∧ w'.cell? ⟨bX, 1, none⟩ = some (.slice (some ⟨gw6, 0, none⟩) n n) ∧ w'.cell? ⟨bB, 0, none⟩ = some (.int .i64 W) ∧ w'.cell? ⟨bB, 1, none⟩ = some (.slice a n cap))
    (first
      | exact ⟨VX_w9.c0, VX_w9.c1, VB_w9.c0, VB_w9.c1⟩
      | exact ⟨xx6.c0, xx6.c1, bb6.c0, bb6.c1⟩
      | exact ⟨xx7.c0, xx7.c1, bb7.c0, bb7.c1⟩)
    (first
      | (go_at_call 40
         refine (lToRegion w.heap.size n cap a W l _ hn (HC.out.on (h_w9).drew) h_w9.size).mono ?_
         rintro e w10 ⟨gw10, rfl, OY_w10, hbb⟩
         have xx6 : RgAt w10 bX W (.slice (some ⟨gw6, 0, none⟩) n n) := RgAt.on (w := w9.drew) VX_w9 hbb VX_w9.lt
         have bb6 : LgAt w10 bB W (.slice a n cap) := LgAt.on (w := w9.drew) VB_w9 hbb VB_w9.lt
         have hbd : Below w9.heap.size w9 w10 := ((Below.refl _ w9).drew).trans hbb)
      | (go_at_call 44
         refine (lEqR w10.heap.size W _ _ l w10 hl4 (IsRd.of_own2 (OX_w9.kept (grow_below hbd none) (Classical.em _))) (IsRd.of_own2 OY_w10) (Nat.le_refl _)).mono ?_
         rintro e w11 ⟨rfl, hbe⟩
         have xx7 := xx6.on hbe xx6.lt
         have bb7 := bb6.on hbe bb6.lt))
  have hbq : Below w9.heap.size w9 w11 := hbd.trans (hbe.mono hbd.size)
  clear hbd hbe hbb xx6 bb6 xx7 bb7 OY_w10
  have PY_w11 := PY_w9.on hbq
  clear PY_w9
  clear qB0 qB1 qX0 qX1
  have VB_w11 := VB_w9.on hbq VB_w9.lt
  have VX_w11 := VX_w9.on hbq VX_w9.lt
  have OA_w11 := OA_w9.kept (grow_below hbq none) (Classical.em _)
  have OX_w11 := OX_w9.kept (grow_below hbq none) (Classical.em _)
  have h_w11 := h_w9.trans (hbq.mono h_w9.size)
  have s_w11 := hbq.size
  clear VB_w9 VX_w9 OA_w9 OX_w9 h_w9
  clear hbq
  have qB0 := VB_w11.c0
  have qB1 := VB_w11.c1
  have qX0 := VX_w11.c0
  have qX1 := VX_w11.c1
  go_wp2_with fail
  obtain ⟨bsZ, hbsZ⟩ : ∃ b, w11.heap.size = b := ⟨_, rfl⟩
  refine (lToPs w.heap.size m2 cap2 a2 ps w11 hn2 (HC3.out.on h_w11) h_w11.size).mono ?_
  rintro e w12 ⟨gZ, esZ, rfl, hkZ, hsmZ, PZ_w12, hbb⟩
  rw [hbsZ] at PZ_w12
  have HKZ := Lib.hid hkZ
  have HSZ := Lib.hid hsmZ
  have helZ : esZ.length = m2 := by have := congrArg List.length hkZ; rw [List.length_map] at this; omega
  clear hkZ hsmZ
  have PY_w12 := PY_w11.on hbb
  clear PY_w11
  clear qB0 qB1 qX0 qX1
  have VB_w12 := VB_w11.on hbb VB_w11.lt
  have VX_w12 := VX_w11.on hbb VX_w11.lt
  have OA_w12 := OA_w11.kept (grow_below hbb none) (Classical.em _)
  have OX_w12 := OX_w11.kept (grow_below hbb none) (Classical.em _)
  have h_w12 := h_w11.trans (hbb.mono h_w11.size)
  have s_w12 := hbb.size
  clear VB_w11 VX_w11 OA_w11 OX_w11 h_w11
  have UPZ := Lib.hid (ownS_up PZ_w12)
  obtain ⟨upZ, hupZ⟩ : ∃ b, w12.heap.size = b := ⟨_, rfl⟩
  rw [hupZ] at UPZ
  clear hbb
  have qB0 := VB_w12.c0
  have qB1 := VB_w12.c1
  have qX0 := VX_w12.c0
  have qX1 := VX_w12.c1
  go_wp2_with fail
  refine (lEqSS w12.heap.size _ _ ps w12 (by omega) (by have h9 := SsRd.of_own PY_w12 HSY.out; rw [HKY.out] at h9; exact h9) (by have h9 := SsRd.of_own PZ_w12 HSZ.out; rw [HKZ.out] at h9; exact h9) (Nat.le_refl _)).mono ?_
  rintro e w13 ⟨rfl, hbb⟩
  have PY_w13 := PY_w12.on hbb
  clear PY_w12
  have PZ_w13 := PZ_w12.on hbb
  clear PZ_w12
  clear qB0 qB1 qX0 qX1
  have VB_w13 := VB_w12.on hbb VB_w12.lt
  have VX_w13 := VX_w12.on hbb VX_w12.lt
  have OA_w13 := OA_w12.kept (grow_below hbb none) (Classical.em _)
  have OX_w13 := OX_w12.kept (grow_below hbb none) (Classical.em _)
  have h_w13 := h_w12.trans (hbb.mono h_w12.size)
  have s_w13 := hbb.size
  clear VB_w12 VX_w12 OA_w12 OX_w12 h_w12
  clear hbb
  go_wp2
  go_ret
  exact ⟨rfl, h_w13⟩

set_option maxHeartbeats 4000000 in
set_option maxRecDepth 100000 in
theorem law_IsRefutation (W : Int) (a : Option Addr) (n cap : Nat) (l : List Int) (a2 : Option Addr) (m2 cap2 : Nat) (ps : List (List Cl)) (s : ByteArray) (_ : s.size ≤ maxLen) (w : World) (hc : IntsAt w.heap.size w a n l) (hm : n ≤ maxLen) (hc2 : PsB maxLen w.heap.size w a2 m2 ps) (hm2 : m2 ≤ maxLen) (hT : Tz w) :
    Calls Tryz.prog 10 #[.agg #[.int .i64 W, .slice a n cap], .slice a2 m2 cap2, .string s] w fun e w' => e = .returned (.bool true) ∧ Below w.heap.size w w' := by
  have hmx : n ≤ 9223372036854775807 := by unfold maxLen at hm; omega
  have HC := Lib.hid hc
  have hln := hc.1
  clear hc hm
  have HC2 := Lib.hid hc2
  have HM2 := Lib.hid hm2
  have hln2 := hc2.1
  clear hc2 hm2
  obtain ⟨z0, hz0⟩ : ∃ z : Bool, isRef W l ps (tbs s) = z := ⟨_, rfl⟩
  have HZ0 := Lib.hid hz0
  have hne0 : (z0 != z0) = false := by simp
  clear hz0
  by_cases hsI : (1048576 : Int) < (s.size : Int)
  · go_enter Tryz.func10, Tryz.ntmps10
    have VB_w1 := LgAt.new (w := w) W (.slice a n cap) rfl
    obtain ⟨bB, hbB⟩ : ∃ b, w.heap.size = b := ⟨_, rfl⟩
    have h_w1 := (Below.refl w.heap.size w).alloc (Nat.le_refl _) (.cells #[.int .i64 W, .slice a n cap] 47)
    have s_w1 : (w.alloc (.cells #[.int .i64 W, .slice a n cap] 47)).heap.size = bB + 1 := by simp [hbB]
    rw [hbB] at VB_w1
    have qB0 := VB_w1.c0
    have qB1 := VB_w1.c1
    go_wp2
    go_ret
    exact ⟨rfl, h_w1⟩
  have hs34 : s.size ≤ 4194304 := by omega
  by_cases hs : (1048576 : Int) < n
  · go_enter Tryz.func10, Tryz.ntmps10
    have VB_w1 := LgAt.new (w := w) W (.slice a n cap) rfl
    obtain ⟨bB, hbB⟩ : ∃ b, w.heap.size = b := ⟨_, rfl⟩
    have h_w1 := (Below.refl w.heap.size w).alloc (Nat.le_refl _) (.cells #[.int .i64 W, .slice a n cap] 47)
    have s_w1 : (w.alloc (.cells #[.int .i64 W, .slice a n cap] 47)).heap.size = bB + 1 := by simp [hbB]
    rw [hbB] at VB_w1
    have qB0 := VB_w1.c0
    have qB1 := VB_w1.c1
    go_wp2_with fail
    generalize (w.alloc (.cells #[.int .i64 W, .slice a n cap] 47)) = w1 at *
    refine (lSzR_big W a n cap 1048576 _ (by omega) hs hmx).mono ?_
    rintro e w' ⟨rfl, hb0⟩
    go_wp2
    go_ret
    exact ⟨rfl, h_w1.trans (hb0.mono h_w1.size)⟩
  have hn : n ≤ 1048576 := by omega
  have hn4 : n ≤ 4194304 := by omega
  have hl4 : l.length ≤ 4194304 := by rw [hln]; omega
  go_enter Tryz.func10, Tryz.ntmps10
  have VB_w1 := LgAt.new (w := w) W (.slice a n cap) rfl
  obtain ⟨bB, hbB⟩ : ∃ b, w.heap.size = b := ⟨_, rfl⟩
  have h_w1 := (Below.refl w.heap.size w).alloc (Nat.le_refl _) (.cells #[.int .i64 W, .slice a n cap] 47)
  have s_w1 : (w.alloc (.cells #[.int .i64 W, .slice a n cap] 47)).heap.size = bB + 1 := by simp [hbB]
  rw [hbB] at VB_w1
  have qB0 := VB_w1.c0
  have qB1 := VB_w1.c1
  go_wp2_with fail
  generalize (w.alloc (.cells #[.int .i64 W, .slice a n cap] 47)) = w1 at *
  refine (lSzR_fits W a n cap 1048576 _ (by omega) (by omega)).mono ?_
  rintro e w2 ⟨rfl, hbb⟩
  clear qB0 qB1
  have VB_w2 := VB_w1.on hbb VB_w1.lt
  have h_w2 := h_w1.trans (hbb.mono h_w1.size)
  have s_w2 := hbb.size
  clear VB_w1 h_w1
  clear hbb
  have qB0 := VB_w2.c0
  have qB1 := VB_w2.c1
  go_wp2_with fail
  refine (lSzPs w.heap.size m2 cap2 a2 ps (1048576 - n) _ (by omega) (by omega) HM2.out (HC2.out.on h_w2) h_w2.size).mono ?_
  rintro e w' ⟨rr, rfl, hrr, hrl, rfl⟩
  by_cases hs2 : rr < 0
  · go_wp2
    go_ret
    exact ⟨rfl, h_w2⟩
  have hrt := hrr (by omega)
  have hn2 : m2 ≤ 1048576 := by omega
  have hn24 : m2 ≤ 4194304 := by omega
  have htot : totL ps ≤ 1048576 := by omega
  have HC3 := Lib.hid (HC2.out.small (M' := 1048576) (fun k hk => by have := totL_get ps k (by omega); omega))
  clear hrr hrl hrt
  go_wp2_with fail
  refine (lToRegion w.heap.size n cap a W l w2 hn (HC.out.on h_w2) h_w2.size).mono ?_
  rintro e w3 ⟨gw3, rfl, OA_w3, hbb⟩
  clear qB0 qB1
  have VB_w3 := VB_w2.on hbb VB_w2.lt
  have h_w3 := h_w2.trans (hbb.mono h_w2.size)
  have s_w3 := hbb.size
  clear VB_w2 h_w2
  have TA := OA_w3.lt
  clear hbb
  have qB0 := VB_w3.c0
  have qB1 := VB_w3.c1
  go_wp2_with fail
  obtain ⟨bsD, hbsD⟩ : ∃ b, w3.heap.size = b := ⟨_, rfl⟩
  refine (lToPs w.heap.size m2 cap2 a2 ps w3 hn2 (HC3.out.on h_w3) h_w3.size).mono ?_
  rintro e w4 ⟨gD, esD, rfl, hkD, hsmD, PD_w4, hbb⟩
  rw [hbsD] at PD_w4
  have HKD := Lib.hid hkD
  have HSD := Lib.hid hsmD
  have helD : esD.length = m2 := by have := congrArg List.length hkD; rw [List.length_map] at this; omega
  clear hkD hsmD
  clear qB0 qB1
  have VB_w4 := VB_w3.on hbb VB_w3.lt
  have OA_w4 := OA_w3.kept (grow_below hbb none) (Classical.em _)
  have h_w4 := h_w3.trans (hbb.mono h_w3.size)
  have s_w4 := hbb.size
  clear VB_w3 OA_w3 h_w3
  have UPD := Lib.hid (ownS_up PD_w4)
  obtain ⟨upD, hupD⟩ : ∃ b, w4.heap.size = b := ⟨_, rfl⟩
  rw [hupD] at UPD
  clear hbb
  have qB0 := VB_w4.c0
  have qB1 := VB_w4.c1
  go_wp2_with fail
  refine (sIsRef w4.heap.size n n m2 m2 _ _ W l ps s w4 hn4 hn2 hs34 (IntsAt.of_own OA_w4 HC.out.2.1) (ps_at PD_w4 HSD.out HKD.out helD (by omega)) (Nat.le_refl _)).mono ?_
  rintro e w5 ⟨rfl, hbb⟩
  rw [HZ0.out]
  have PD_w5 := PD_w4.on hbb
  clear PD_w4
  clear qB0 qB1
  have VB_w5 := VB_w4.on hbb VB_w4.lt
  have OA_w5 := OA_w4.kept (grow_below hbb none) (Classical.em _)
  have h_w5 := h_w4.trans (hbb.mono h_w4.size)
  have s_w5 := hbb.size
  clear VB_w4 OA_w4 h_w4
  clear hbb
  have qB0 := VB_w5.c0
  have qB1 := VB_w5.c1
  go_wp2_with fail
  refine (lToRegion w.heap.size n cap a W l w5 hn (HC.out.on h_w5) h_w5.size).mono ?_
  rintro e w6 ⟨gw6, rfl, OX_w6, hbb⟩
  clear qB0 qB1
  have VB_w6 := VB_w5.on hbb VB_w5.lt
  have OA_w6 := OA_w5.kept (grow_below hbb none) (Classical.em _)
  have h_w6 := h_w5.trans (hbb.mono h_w5.size)
  have s_w6 := hbb.size
  clear VB_w5 OA_w5 h_w5
  have TX := OX_w6.lt
  clear hbb
  obtain ⟨bX, hbX⟩ : ∃ b, w6.heap.size = b := ⟨_, rfl⟩
  have VX_w7 := RgAt.new (w := w6) W (.slice (some ⟨gw6, 0, none⟩) n n) hbX
  have VB_w7 := VB_w6.alloc (.cells #[.int .i64 W, .slice (some ⟨gw6, 0, none⟩) n n] 26)
  have OA_w7 := OA_w6.alloc (.cells #[.int .i64 W, .slice (some ⟨gw6, 0, none⟩) n n] 26)
  have OX_w7 := OX_w6.alloc (.cells #[.int .i64 W, .slice (some ⟨gw6, 0, none⟩) n n] 26)
  have h_w7 := h_w6.alloc h_w6.size (.cells #[.int .i64 W, .slice (some ⟨gw6, 0, none⟩) n n] 26)
  have s_w7 : (w6.alloc (.cells #[.int .i64 W, .slice (some ⟨gw6, 0, none⟩) n n] 26)).heap.size = bX + 1 := by simp [hbX]
  clear VB_w6 OA_w6 OX_w6 h_w6
  have qB0 := VB_w7.c0
  have qB1 := VB_w7.c1
  have qX0 := VX_w7.c0
  have qX1 := VX_w7.c1
  go_wp2_with fail
  generalize (w6.alloc (.cells #[.int .i64 W, .slice (some ⟨gw6, 0, none⟩) n n] 26)) = w7 at *
  obtain ⟨bsY, hbsY⟩ : ∃ b, w7.heap.size = b := ⟨_, rfl⟩
  refine (lToPs w.heap.size m2 cap2 a2 ps w7 hn2 (HC3.out.on h_w7) h_w7.size).mono ?_
  rintro e w8 ⟨gY, esY, rfl, hkY, hsmY, PY_w8, hbb⟩
  rw [hbsY] at PY_w8
  have HKY := Lib.hid hkY
  have HSY := Lib.hid hsmY
  have helY : esY.length = m2 := by have := congrArg List.length hkY; rw [List.length_map] at this; omega
  clear hkY hsmY
  clear qB0 qB1 qX0 qX1
  have VB_w8 := VB_w7.on hbb VB_w7.lt
  have VX_w8 := VX_w7.on hbb VX_w7.lt
  have OA_w8 := OA_w7.kept (grow_below hbb none) (Classical.em _)
  have OX_w8 := OX_w7.kept (grow_below hbb none) (Classical.em _)
  have h_w8 := h_w7.trans (hbb.mono h_w7.size)
  have s_w8 := hbb.size
  clear VB_w7 VX_w7 OA_w7 OX_w7 h_w7
  have UPY := Lib.hid (ownS_up PY_w8)
  obtain ⟨upY, hupY⟩ : ∃ b, w8.heap.size = b := ⟨_, rfl⟩
  rw [hupY] at UPY
  clear hbb
  have qB0 := VB_w8.c0
  have qB1 := VB_w8.c1
  have qX0 := VX_w8.c0
  have qX1 := VX_w8.c1
  go_wp2_with fail
  refine (iIsRef w8.heap.size n n m2 m2 _ _ W l ps s w8 hn4 hn2 (IntsAt.of_own OX_w8 HC.out.2.1) (ps_at PY_w8 HSY.out HKY.out helY (by omega)) (Nat.le_refl _) (hT.on h_w8 hT.2)).mono ?_
  rintro e w9 ⟨rfl, hbb⟩
  rw [HZ0.out]
  have PY_w9 := PY_w8.on hbb
  clear PY_w8
  clear qB0 qB1 qX0 qX1
  have VB_w9 := VB_w8.on hbb VB_w8.lt
  have VX_w9 := VX_w8.on hbb VX_w8.lt
  have OA_w9 := OA_w8.kept (grow_below hbb none) (Classical.em _)
  have OX_w9 := OX_w8.kept (grow_below hbb none) (Classical.em _)
  have h_w9 := h_w8.trans (hbb.mono h_w8.size)
  have s_w9 := hbb.size
  clear VB_w8 VX_w8 OA_w8 OX_w8 h_w8
  clear hbb
  have qB0 := VB_w9.c0
  have qB1 := VB_w9.c1
  have qX0 := VX_w9.c0
  have qX1 := VX_w9.c1
  go_wp2_with fail
  go_region_held3 (fun w' => w'.cell? ⟨bX, 0, none⟩ = some (.int .i64 W) ∧ w'.cell? ⟨bX, 1, none⟩ = some (.slice (some ⟨gw6, 0, none⟩) n n) ∧ w'.cell? ⟨bB, 0, none⟩ = some (.int .i64 W) ∧ w'.cell? ⟨bB, 1, none⟩ = some (.slice a n cap))
    (first
      | exact ⟨VX_w9.c0, VX_w9.c1, VB_w9.c0, VB_w9.c1⟩
      | exact ⟨xx6.c0, xx6.c1, bb6.c0, bb6.c1⟩
      | exact ⟨xx7.c0, xx7.c1, bb7.c0, bb7.c1⟩)
    (first
      | (go_at_call 40
         refine (lToRegion w.heap.size n cap a W l _ hn (HC.out.on (h_w9).drew) h_w9.size).mono ?_
         rintro e w10 ⟨gw10, rfl, OY_w10, hbb⟩
         have xx6 : RgAt w10 bX W (.slice (some ⟨gw6, 0, none⟩) n n) := RgAt.on (w := w9.drew) VX_w9 hbb VX_w9.lt
         have bb6 : LgAt w10 bB W (.slice a n cap) := LgAt.on (w := w9.drew) VB_w9 hbb VB_w9.lt
         have hbd : Below w9.heap.size w9 w10 := ((Below.refl _ w9).drew).trans hbb)
      | (go_at_call 44
         refine (lEqR w10.heap.size W _ _ l w10 hl4 (IsRd.of_own2 (OX_w9.kept (grow_below hbd none) (Classical.em _))) (IsRd.of_own2 OY_w10) (Nat.le_refl _)).mono ?_
         rintro e w11 ⟨rfl, hbe⟩
         have xx7 := xx6.on hbe xx6.lt
         have bb7 := bb6.on hbe bb6.lt))
  have hbq : Below w9.heap.size w9 w11 := hbd.trans (hbe.mono hbd.size)
  clear hbd hbe hbb xx6 bb6 xx7 bb7 OY_w10
  have PY_w11 := PY_w9.on hbq
  clear PY_w9
  clear qB0 qB1 qX0 qX1
  have VB_w11 := VB_w9.on hbq VB_w9.lt
  have VX_w11 := VX_w9.on hbq VX_w9.lt
  have OA_w11 := OA_w9.kept (grow_below hbq none) (Classical.em _)
  have OX_w11 := OX_w9.kept (grow_below hbq none) (Classical.em _)
  have h_w11 := h_w9.trans (hbq.mono h_w9.size)
  have s_w11 := hbq.size
  clear VB_w9 VX_w9 OA_w9 OX_w9 h_w9
  clear hbq
  have qB0 := VB_w11.c0
  have qB1 := VB_w11.c1
  have qX0 := VX_w11.c0
  have qX1 := VX_w11.c1
  go_wp2_with fail
  obtain ⟨bsZ, hbsZ⟩ : ∃ b, w11.heap.size = b := ⟨_, rfl⟩
  refine (lToPs w.heap.size m2 cap2 a2 ps w11 hn2 (HC3.out.on h_w11) h_w11.size).mono ?_
  rintro e w12 ⟨gZ, esZ, rfl, hkZ, hsmZ, PZ_w12, hbb⟩
  rw [hbsZ] at PZ_w12
  have HKZ := Lib.hid hkZ
  have HSZ := Lib.hid hsmZ
  have helZ : esZ.length = m2 := by have := congrArg List.length hkZ; rw [List.length_map] at this; omega
  clear hkZ hsmZ
  have PY_w12 := PY_w11.on hbb
  clear PY_w11
  clear qB0 qB1 qX0 qX1
  have VB_w12 := VB_w11.on hbb VB_w11.lt
  have VX_w12 := VX_w11.on hbb VX_w11.lt
  have OA_w12 := OA_w11.kept (grow_below hbb none) (Classical.em _)
  have OX_w12 := OX_w11.kept (grow_below hbb none) (Classical.em _)
  have h_w12 := h_w11.trans (hbb.mono h_w11.size)
  have s_w12 := hbb.size
  clear VB_w11 VX_w11 OA_w11 OX_w11 h_w11
  have UPZ := Lib.hid (ownS_up PZ_w12)
  obtain ⟨upZ, hupZ⟩ : ∃ b, w12.heap.size = b := ⟨_, rfl⟩
  rw [hupZ] at UPZ
  clear hbb
  have qB0 := VB_w12.c0
  have qB1 := VB_w12.c1
  have qX0 := VX_w12.c0
  have qX1 := VX_w12.c1
  go_wp2_with fail
  refine (lEqSS w12.heap.size _ _ ps w12 (by omega) (by have h9 := SsRd.of_own PY_w12 HSY.out; rw [HKY.out] at h9; exact h9) (by have h9 := SsRd.of_own PZ_w12 HSZ.out; rw [HKZ.out] at h9; exact h9) (Nat.le_refl _)).mono ?_
  rintro e w13 ⟨rfl, hbb⟩
  have PY_w13 := PY_w12.on hbb
  clear PY_w12
  have PZ_w13 := PZ_w12.on hbb
  clear PZ_w12
  clear qB0 qB1 qX0 qX1
  have VB_w13 := VB_w12.on hbb VB_w12.lt
  have VX_w13 := VX_w12.on hbb VX_w12.lt
  have OA_w13 := OA_w12.kept (grow_below hbb none) (Classical.em _)
  have OX_w13 := OX_w12.kept (grow_below hbb none) (Classical.em _)
  have h_w13 := h_w12.trans (hbb.mono h_w12.size)
  have s_w13 := hbb.size
  clear VB_w12 VX_w12 OA_w12 OX_w12 h_w12
  clear hbb
  go_wp2
  go_ret
  exact ⟨rfl, h_w13⟩

end Go.Proofs.YtkjlmgkjcmebbaaGreatDoor
