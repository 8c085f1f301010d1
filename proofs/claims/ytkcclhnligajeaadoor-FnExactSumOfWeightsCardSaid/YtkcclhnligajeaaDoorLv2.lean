/-
  The law on the sum of weights: its walk.
-/
import Derived.Test.YtkcclhnligajeaaDoorVam
import Derived.Test.YtkcclhnligajeaaDoorVao
import Derived.Test.YtkcclhnligajeaaDoorVap
namespace Go.Proofs.YtkcclhnligajeaaDoor
open Go.RowKit

set_option maxHeartbeats 4000000 in
set_option maxRecDepth 100000 in
theorem law_SumOfWeights (W : Int) (a : Option Addr) (n cap : Nat) (l : List Int) (x : Int) (a3 : Option Addr) (m3 cap3 : Nat) (zs3 : List Int) (p : Int) (hwx : (Lit.int .i64 x).wf = true) (hwp : (Lit.int .i64 p).wf = true) (w : World) (hc : IntsAt w.heap.size w a n l) (hm : n ≤ maxLen) (w3 : IsRow .i64 w a3 m3 cap3 zs3) (hT : Tz w) :
    Calls Tryd.prog 3 #[.agg #[.int .i64 W, .slice a n cap], .int .i64 x, .slice a3 m3 cap3, .int .i64 p] w fun e w' => e = .returned (.bool true) ∧ Below w.heap.size w w' := by
  have hmx : n ≤ 9223372036854775807 := by unfold maxLen at hm; omega
  have HC := Lib.hid hc
  have hln := hc.1
  clear hc hm
  obtain ⟨hc3, hm3⟩ := ints_of_row w3
  obtain ⟨ls, hls⟩ : ∃ ls, zs3.take m3 = ls := ⟨_, rfl⟩
  rw [hls] at hc3
  clear hls w3
  have hmx3 : m3 ≤ 9223372036854775807 := by unfold maxLen at hm3; omega
  have HCI := Lib.hid hc3
  have hln3 := hc3.1
  clear hc3 hm3
  obtain ⟨z0, hz0⟩ : ∃ z : Int, sumW W l x ls p = z := ⟨_, rfl⟩
  have HZ0 := Lib.hid hz0
  have hne0 : (z0 != z0) = false := by simp
  clear hz0
  by_cases hsI : (1048576 : Int) < m3
  · go_enter Tryd.func3, Tryd.ntmps3
    have VB_w1 := LgAt.new (w := w) W (.slice a n cap) rfl
    obtain ⟨bB, hbB⟩ : ∃ b, w.heap.size = b := ⟨_, rfl⟩
    have h_w1 := (Below.refl w.heap.size w).alloc (Nat.le_refl _) (.cells #[.int .i64 W, .slice a n cap] 24)
    have s_w1 : (w.alloc (.cells #[.int .i64 W, .slice a n cap] 24)).heap.size = bB + 1 := by simp [hbB]
    rw [hbB] at VB_w1
    have qB0 := VB_w1.c0
    have qB1 := VB_w1.c1
    go_wp2
    go_ret
    exact ⟨rfl, h_w1⟩
  have hn3 : m3 ≤ 1048576 := by omega
  have hn34 : m3 ≤ 4194304 := by omega
  have hl34 : ls.length ≤ 4194304 := by rw [hln3]; omega
  by_cases hs : (1048576 : Int) < n
  · go_enter Tryd.func3, Tryd.ntmps3
    have VB_w1 := LgAt.new (w := w) W (.slice a n cap) rfl
    obtain ⟨bB, hbB⟩ : ∃ b, w.heap.size = b := ⟨_, rfl⟩
    have h_w1 := (Below.refl w.heap.size w).alloc (Nat.le_refl _) (.cells #[.int .i64 W, .slice a n cap] 24)
    have s_w1 : (w.alloc (.cells #[.int .i64 W, .slice a n cap] 24)).heap.size = bB + 1 := by simp [hbB]
    rw [hbB] at VB_w1
    have qB0 := VB_w1.c0
    have qB1 := VB_w1.c1
    go_wp2_with fail
    generalize (w.alloc (.cells #[.int .i64 W, .slice a n cap] 24)) = w1 at *
    refine (lSzR_big W a n cap 1048576 _ (by omega) hs hmx).mono ?_
    rintro e w' ⟨rfl, hb0⟩
    go_wp2
    go_ret
    exact ⟨rfl, h_w1.trans (hb0.mono h_w1.size)⟩
  have hn : n ≤ 1048576 := by omega
  have hn4 : n ≤ 4194304 := by omega
  have hl4 : l.length ≤ 4194304 := by rw [hln]; omega
  go_enter Tryd.func3, Tryd.ntmps3
  have VB_w1 := LgAt.new (w := w) W (.slice a n cap) rfl
  obtain ⟨bB, hbB⟩ : ∃ b, w.heap.size = b := ⟨_, rfl⟩
  have h_w1 := (Below.refl w.heap.size w).alloc (Nat.le_refl _) (.cells #[.int .i64 W, .slice a n cap] 24)
  have s_w1 : (w.alloc (.cells #[.int .i64 W, .slice a n cap] 24)).heap.size = bB + 1 := by simp [hbB]
  rw [hbB] at VB_w1
  have qB0 := VB_w1.c0
  have qB1 := VB_w1.c1
  go_wp2_with fail
  generalize (w.alloc (.cells #[.int .i64 W, .slice a n cap] 24)) = w1 at *
  refine (lSzR_fits W a n cap 1048576 _ (by omega) (by omega)).mono ?_
  rintro e w2 ⟨rfl, hbb⟩
  clear qB0 qB1
  have VB_w2 := VB_w1.on hbb VB_w1.lt
  have h_w2 := h_w1.trans (hbb.mono h_w1.size)
  have s_w2 := hbb.size
  clear VB_w1 h_w1
  clear hbb
  have qB0 := VB_w2.c0
  have qB1 := VB_w2.c1
  go_wp2_with fail
  refine (lToRegion w.heap.size n cap a W l w2 hn (HC.out.on h_w2) h_w2.size).mono ?_
  rintro e w3 ⟨gw3, rfl, OA_w3, hbb⟩
  clear qB0 qB1
  have VB_w3 := VB_w2.on hbb VB_w2.lt
  have h_w3 := h_w2.trans (hbb.mono h_w2.size)
  have s_w3 := hbb.size
  clear VB_w2 h_w2
  have TA := OA_w3.lt
  clear hbb
  have qB0 := VB_w3.c0
  have qB1 := VB_w3.c1
  go_wp2_with fail
  obtain ⟨gw4, hgw4⟩ : ∃ g, w3.heap.size = g := ⟨_, rfl⟩
  refine (lToIntS w.heap.size m3 cap3 a3 ls w3 hn3 (HCI.out.on h_w3) h_w3.size).mono ?_
  rintro e w4 ⟨rfl, OE_w4, hbb⟩
  rw [hgw4] at OE_w4 ⊢
  clear qB0 qB1
  have VB_w4 := VB_w3.on hbb VB_w3.lt
  have OA_w4 := OA_w3.kept (grow_below hbb none) (Classical.em _)
  have h_w4 := h_w3.trans (hbb.mono h_w3.size)
  have s_w4 := hbb.size
  clear VB_w3 OA_w3 h_w3
  have TE := OE_w4.lt
  clear hbb
  have qB0 := VB_w4.c0
  have qB1 := VB_w4.c1
  go_wp2_with fail
  refine (sSumW w4.heap.size n n m3 m3 _ _ W l ls x p w4 (wf_i64 hwx) hn4 hn34 (IntsAt.of_own OA_w4 HC.out.2.1) (IntsAt.of_own OE_w4 HCI.out.2.1) (Nat.le_refl _)).mono ?_
  rintro e w5 ⟨rfl, hbb⟩
  rw [HZ0.out]
  clear qB0 qB1
  have VB_w5 := VB_w4.on hbb VB_w4.lt
  have OA_w5 := OA_w4.kept (grow_below hbb none) (Classical.em _)
  have OE_w5 := OE_w4.kept (grow_below hbb none) (Classical.em _)
  have h_w5 := h_w4.trans (hbb.mono h_w4.size)
  have s_w5 := hbb.size
  clear VB_w4 OA_w4 OE_w4 h_w4
  clear hbb
  have qB0 := VB_w5.c0
  have qB1 := VB_w5.c1
  go_wp2_with fail
  refine (lToRegion w.heap.size n cap a W l w5 hn (HC.out.on h_w5) h_w5.size).mono ?_
  rintro e w6 ⟨gw6, rfl, OX_w6, hbb⟩
  clear qB0 qB1
  have VB_w6 := VB_w5.on hbb VB_w5.lt
  have OA_w6 := OA_w5.kept (grow_below hbb none) (Classical.em _)
  have OE_w6 := OE_w5.kept (grow_below hbb none) (Classical.em _)
  have h_w6 := h_w5.trans (hbb.mono h_w5.size)
  have s_w6 := hbb.size
  clear VB_w5 OA_w5 OE_w5 h_w5
  have TX := OX_w6.lt
  clear hbb
  obtain ⟨bX, hbX⟩ : ∃ b, w6.heap.size = b := ⟨_, rfl⟩
  have VX_w7 := RgAt.new (w := w6) W (.slice (some ⟨gw6, 0, none⟩) n n) hbX
  have VB_w7 := VB_w6.alloc (.cells #[.int .i64 W, .slice (some ⟨gw6, 0, none⟩) n n] 27)
  have OA_w7 := OA_w6.alloc (.cells #[.int .i64 W, .slice (some ⟨gw6, 0, none⟩) n n] 27)
  have OE_w7 := OE_w6.alloc (.cells #[.int .i64 W, .slice (some ⟨gw6, 0, none⟩) n n] 27)
  have OX_w7 := OX_w6.alloc (.cells #[.int .i64 W, .slice (some ⟨gw6, 0, none⟩) n n] 27)
  have h_w7 := h_w6.alloc h_w6.size (.cells #[.int .i64 W, .slice (some ⟨gw6, 0, none⟩) n n] 27)
  have s_w7 : (w6.alloc (.cells #[.int .i64 W, .slice (some ⟨gw6, 0, none⟩) n n] 27)).heap.size = bX + 1 := by simp [hbX]
  clear VB_w6 OA_w6 OE_w6 OX_w6 h_w6
  have qB0 := VB_w7.c0
  have qB1 := VB_w7.c1
  have qX0 := VX_w7.c0
  have qX1 := VX_w7.c1
  go_wp2_with fail
  generalize (w6.alloc (.cells #[.int .i64 W, .slice (some ⟨gw6, 0, none⟩) n n] 27)) = w7 at *
  obtain ⟨gw8, hgw8⟩ : ∃ g, w7.heap.size = g := ⟨_, rfl⟩
  refine (lToIntS w.heap.size m3 cap3 a3 ls w7 hn3 (HCI.out.on h_w7) h_w7.size).mono ?_
  rintro e w8 ⟨rfl, OV_w8, hbb⟩
  rw [hgw8] at OV_w8 ⊢
  clear qB0 qB1 qX0 qX1
  have VB_w8 := VB_w7.on hbb VB_w7.lt
  have VX_w8 := VX_w7.on hbb VX_w7.lt
  have OA_w8 := OA_w7.kept (grow_below hbb none) (Classical.em _)
  have OE_w8 := OE_w7.kept (grow_below hbb none) (Classical.em _)
  have OX_w8 := OX_w7.kept (grow_below hbb none) (Classical.em _)
  have h_w8 := h_w7.trans (hbb.mono h_w7.size)
  have s_w8 := hbb.size
  clear VB_w7 VX_w7 OA_w7 OE_w7 OX_w7 h_w7
  have TV := OV_w8.lt
  clear hbb
  have qB0 := VB_w8.c0
  have qB1 := VB_w8.c1
  have qX0 := VX_w8.c0
  have qX1 := VX_w8.c1
  go_wp2_with fail
  refine (iSumW w8.heap.size n n m3 m3 _ _ W l ls x p w8 (wf_i64 hwx) hn4 hn34 (IntsAt.of_own OX_w8 HC.out.2.1) (IntsAt.of_own OV_w8 HCI.out.2.1) (Nat.le_refl _) (hT.on h_w8 hT.2)).mono ?_
  rintro e w9 ⟨rfl, hbb⟩
  rw [HZ0.out]
  clear qB0 qB1 qX0 qX1
  have VB_w9 := VB_w8.on hbb VB_w8.lt
  have VX_w9 := VX_w8.on hbb VX_w8.lt
  have OA_w9 := OA_w8.kept (grow_below hbb none) (Classical.em _)
  have OE_w9 := OE_w8.kept (grow_below hbb none) (Classical.em _)
  have OX_w9 := OX_w8.kept (grow_below hbb none) (Classical.em _)
  have OV_w9 := OV_w8.kept (grow_below hbb none) (Classical.em _)
  have h_w9 := h_w8.trans (hbb.mono h_w8.size)
  have s_w9 := hbb.size
  clear VB_w8 VX_w8 OA_w8 OE_w8 OX_w8 OV_w8 h_w8
  clear hbb
  have qB0 := VB_w9.c0
  have qB1 := VB_w9.c1
  have qX0 := VX_w9.c0
  have qX1 := VX_w9.c1
  go_wp2_with fail
  go_region_held3 (fun w' => w'.cell? ⟨bX, 0, none⟩ = some (.int .i64 W) ∧ w'.cell? ⟨bX, 1, none⟩ = some (.slice (some ⟨gw6, 0, none⟩) n n) ∧ w'.cell? ⟨bB, 0, none⟩ = some (.int .i64 W) ∧ w'.cell? ⟨bB, 1, none⟩ = some (.slice a n cap))
    (first
      | exact ⟨VX_w9.c0, VX_w9.c1, VB_w9.c0, VB_w9.c1⟩
      | exact ⟨xx6.c0, xx6.c1, bb6.c0, bb6.c1⟩
      | exact ⟨xx7.c0, xx7.c1, bb7.c0, bb7.c1⟩)
    (first
      | (go_at_call 6
         refine (lToRegion w.heap.size n cap a W l _ hn (HC.out.on (h_w9).drew) h_w9.size).mono ?_
         rintro e w10 ⟨gw10, rfl, OY_w10, hbb⟩
         have xx6 : RgAt w10 bX W (.slice (some ⟨gw6, 0, none⟩) n n) := RgAt.on (w := w9.drew) VX_w9 hbb VX_w9.lt
         have bb6 : LgAt w10 bB W (.slice a n cap) := LgAt.on (w := w9.drew) VB_w9 hbb VB_w9.lt
         have hbd : Below w9.heap.size w9 w10 := ((Below.refl _ w9).drew).trans hbb)
      | (go_at_call 9
         refine (lEqR w10.heap.size W _ _ l w10 hl4 (IsRd.of_own2 (OX_w9.kept (grow_below hbd none) (Classical.em _))) (IsRd.of_own2 OY_w10) (Nat.le_refl _)).mono ?_
         rintro e w11 ⟨rfl, hbe⟩
         have xx7 := xx6.on hbe xx6.lt
         have bb7 := bb6.on hbe bb6.lt))
  have hbq : Below w9.heap.size w9 w11 := hbd.trans (hbe.mono hbd.size)
  clear hbd hbe hbb xx6 bb6 xx7 bb7 OY_w10
  clear qB0 qB1 qX0 qX1
  have VB_w11 := VB_w9.on hbq VB_w9.lt
  have VX_w11 := VX_w9.on hbq VX_w9.lt
  have OA_w11 := OA_w9.kept (grow_below hbq none) (Classical.em _)
  have OE_w11 := OE_w9.kept (grow_below hbq none) (Classical.em _)
  have OX_w11 := OX_w9.kept (grow_below hbq none) (Classical.em _)
  have OV_w11 := OV_w9.kept (grow_below hbq none) (Classical.em _)
  have h_w11 := h_w9.trans (hbq.mono h_w9.size)
  have s_w11 := hbq.size
  clear VB_w9 VX_w9 OA_w9 OE_w9 OX_w9 OV_w9 h_w9
  clear hbq
  have qB0 := VB_w11.c0
  have qB1 := VB_w11.c1
  have qX0 := VX_w11.c0
  have qX1 := VX_w11.c1
  go_wp2_with fail
  obtain ⟨gw12, hgw12⟩ : ∃ g, w11.heap.size = g := ⟨_, rfl⟩
  refine (lToIntS w.heap.size m3 cap3 a3 ls w11 hn3 (HCI.out.on h_w11) h_w11.size).mono ?_
  rintro e w12 ⟨rfl, OJ_w12, hbb⟩
  rw [hgw12] at OJ_w12 ⊢
  clear qB0 qB1 qX0 qX1
  have VB_w12 := VB_w11.on hbb VB_w11.lt
  have VX_w12 := VX_w11.on hbb VX_w11.lt
  have OA_w12 := OA_w11.kept (grow_below hbb none) (Classical.em _)
  have OE_w12 := OE_w11.kept (grow_below hbb none) (Classical.em _)
  have OX_w12 := OX_w11.kept (grow_below hbb none) (Classical.em _)
  have OV_w12 := OV_w11.kept (grow_below hbb none) (Classical.em _)
  have h_w12 := h_w11.trans (hbb.mono h_w11.size)
  have s_w12 := hbb.size
  clear VB_w11 VX_w11 OA_w11 OE_w11 OX_w11 OV_w11 h_w11
  have TJ := OJ_w12.lt
  clear hbb
  have qB0 := VB_w12.c0
  have qB1 := VB_w12.c1
  have qX0 := VX_w12.c0
  have qX1 := VX_w12.c1
  go_wp2_with fail
  refine (lEqI w12.heap.size _ _ ls w12 hl34 (IsRd.of_own2 OV_w12) (IsRd.of_own2 OJ_w12) (Nat.le_refl _)).mono ?_
  rintro e w13 ⟨rfl, hbb⟩
  clear qB0 qB1 qX0 qX1
  have VB_w13 := VB_w12.on hbb VB_w12.lt
  have VX_w13 := VX_w12.on hbb VX_w12.lt
  have OA_w13 := OA_w12.kept (grow_below hbb none) (Classical.em _)
  have OE_w13 := OE_w12.kept (grow_below hbb none) (Classical.em _)
  have OX_w13 := OX_w12.kept (grow_below hbb none) (Classical.em _)
  have OV_w13 := OV_w12.kept (grow_below hbb none) (Classical.em _)
  have OJ_w13 := OJ_w12.kept (grow_below hbb none) (Classical.em _)
  have h_w13 := h_w12.trans (hbb.mono h_w12.size)
  have s_w13 := hbb.size
  clear VB_w12 VX_w12 OA_w12 OE_w12 OX_w12 OV_w12 OJ_w12 h_w12
  clear hbb
  go_wp2
  go_ret
  exact ⟨rfl, h_w13⟩

end Go.Proofs.YtkcclhnligajeaaDoor
