/-
  The law on stripes: its walk.
-/
import Derived.Test.YtkcclhnligajeaaWs5
import Derived.Test.YtkcclhnligajeaaVai
import Derived.Test.YtkcclhnligajeaaVal
import Derived.Test.YtkcclhnligajeaaVam
namespace Go.Proofs.Ytkcclhnligajeaa
open Go.RowKit

theorem law_IsPrime (p : Int) (_ : (Lit.int .i64 p).wf = true) (w : World) :
    Calls Try.prog 3 #[.int .i64 p] w fun e w' => e = .returned (.bool true) ∧ Below w.heap.size w w' := by
  go_enter Try.func3, Try.ntmps3
  go_wp2_with fail
  refine (sPrm p w).mono ?_
  rintro e w1 ⟨rfl, rfl⟩
  go_wp2_with fail
  refine (iPrm p w1).mono ?_
  rintro e w2 ⟨rfl, rfl⟩
  obtain ⟨b, hb⟩ : ∃ b, prmB p = b := ⟨_, rfl⟩
  have h9 : (b != b) = false := by simp
  rw [hb]
  clear hb
  go_wp2
  go_ret
  exact ⟨rfl, Below.refl _ _⟩
set_option maxHeartbeats 4000000 in
set_option maxRecDepth 100000 in
theorem law_StripeWeights (W : Int) (a : Option Addr) (n cap : Nat) (l : List Int) (x : Int) (y : Int) (p : Int) (hwx : (Lit.int .i64 x).wf = true) (hwy : (Lit.int .i64 y).wf = true) (hwp : (Lit.int .i64 p).wf = true) (w : World) (hc : IntsAt w.heap.size w a n l) (hm : n ≤ maxLen) :
    Calls Try.prog 4 #[.agg #[.int .i64 W, .slice a n cap], .int .i64 x, .int .i64 y, .int .i64 p] w fun e w' => e = .returned (.bool true) ∧ Below w.heap.size w w' := by
  have hmx : n ≤ 9223372036854775807 := by unfold maxLen at hm; omega
  have HC := Lib.hid hc
  have hln := hc.1
  clear hc hm
  obtain ⟨zs, hzs⟩ : ∃ zs, strW W l x y p = zs := ⟨_, rfl⟩
  have HZ := Lib.hid hzs
  have hzb : zs.length ≤ 4000 := by rw [← hzs]; exact Nat.le_trans (strW_len W l x y p) (by omega)
  clear hzs
  by_cases hs : (1048576 : Int) < n
  · go_enter Try.func4, Try.ntmps4
    have VB_w1 := LgAt.new (w := w) W (.slice a n cap) rfl
    obtain ⟨bB, hbB⟩ : ∃ b, w.heap.size = b := ⟨_, rfl⟩
    have h_w1 := (Below.refl w.heap.size w).alloc (Nat.le_refl _) (.cells #[.int .i64 W, .slice a n cap] 25)
    have s_w1 : (w.alloc (.cells #[.int .i64 W, .slice a n cap] 25)).heap.size = bB + 1 := by simp [hbB]
    rw [hbB] at VB_w1
    have qB0 := VB_w1.c0
    have qB1 := VB_w1.c1
    go_wp2_with fail
    generalize (w.alloc (.cells #[.int .i64 W, .slice a n cap] 25)) = w1 at *
    refine (lSzR_big W a n cap 1048576 _ (by omega) hs hmx).mono ?_
    rintro e w' ⟨rfl, hb0⟩
    go_wp2
    go_ret
    exact ⟨rfl, h_w1.trans (hb0.mono h_w1.size)⟩
  have hn : n ≤ 1048576 := by omega
  have hn4 : n ≤ 4194304 := by omega
  have hl4 : l.length ≤ 4194304 := by rw [hln]; omega
  have hz4 : zs.length ≤ 4194304 := by omega
  have hk2 : ¬ ((1 : Int) + (zs.length : Int) < 0) := by omega
  have hk3 : (((1 : Int) + (zs.length : Int)) != (1 + (zs.length : Int))) = false := by simp
  have hk1 : ¬ ((1 : Int) + (n : Int) < 0) := by omega
  go_enter Try.func4, Try.ntmps4
  have VB_w1 := LgAt.new (w := w) W (.slice a n cap) rfl
  obtain ⟨bB, hbB⟩ : ∃ b, w.heap.size = b := ⟨_, rfl⟩
  have h_w1 := (Below.refl w.heap.size w).alloc (Nat.le_refl _) (.cells #[.int .i64 W, .slice a n cap] 25)
  have s_w1 : (w.alloc (.cells #[.int .i64 W, .slice a n cap] 25)).heap.size = bB + 1 := by simp [hbB]
  rw [hbB] at VB_w1
  have qB0 := VB_w1.c0
  have qB1 := VB_w1.c1
  go_wp2_with fail
  generalize (w.alloc (.cells #[.int .i64 W, .slice a n cap] 25)) = w1 at *
  refine (lSzR_fits W a n cap 1048576 _ (by omega) (by omega)).mono ?_
  rintro e w2 ⟨rfl, hbb⟩
  clear qB0 qB1
  have VB_w2 := VB_w1.on hbb VB_w1.lt
  have h_w2 := h_w1.trans (hbb.mono h_w1.size)
  have s_w2 := hbb.size
  clear VB_w1 h_w1
  clear hbb
  have qB0 := VB_w2.c0
  have qB1 := VB_w2.c1
  go_wp2_with fail
  refine (lToRegion w.heap.size n cap a W l w2 hn (HC.out.on h_w2) h_w2.size).mono ?_
  rintro e w3 ⟨gw3, rfl, OA_w3, hbb⟩
  clear qB0 qB1
  have VB_w3 := VB_w2.on hbb VB_w2.lt
  have h_w3 := h_w2.trans (hbb.mono h_w2.size)
  have s_w3 := hbb.size
  clear VB_w2 h_w2
  have TA := OA_w3.lt
  clear hbb
  have qB0 := VB_w3.c0
  have qB1 := VB_w3.c1
  go_wp2_with fail
  refine (sStr w3.heap.size n n _ W l x y p w3 hn4 (IntsAt.of_own OA_w3 HC.out.2.1) (Nat.le_refl _)).mono ?_
  rintro e w4 ⟨vw4, rfl, OS_w4, hbb⟩
  rw [HZ.out] at OS_w4
  clear qB0 qB1
  have VB_w4 := VB_w3.on hbb VB_w3.lt
  have OA_w4 := OA_w3.kept (grow_below hbb none) (Classical.em _)
  have h_w4 := h_w3.trans (hbb.mono h_w3.size)
  have s_w4 := hbb.size
  clear VB_w3 OA_w3 h_w3
  have TS := OS_w4.lt
  clear hbb
  have qB0 := VB_w4.c0
  have qB1 := VB_w4.c1
  go_wp2_with fail
  refine (lToRegion w.heap.size n cap a W l w4 hn (HC.out.on h_w4) h_w4.size).mono ?_
  rintro e w5 ⟨gw5, rfl, OX_w5, hbb⟩
  clear qB0 qB1
  have VB_w5 := VB_w4.on hbb VB_w4.lt
  have OA_w5 := OA_w4.kept (grow_below hbb none) (Classical.em _)
  have OS_w5 := OS_w4.kept (grow_below hbb none) (Classical.em _)
  have h_w5 := h_w4.trans (hbb.mono h_w4.size)
  have s_w5 := hbb.size
  clear VB_w4 OA_w4 OS_w4 h_w4
  have TX := OX_w5.lt
  clear hbb
  obtain ⟨bX, hbX⟩ : ∃ b, w5.heap.size = b := ⟨_, rfl⟩
  have VX_w6 := RgAt.new (w := w5) W (.slice (some ⟨gw5, 0, none⟩) n n) hbX
  have VB_w6 := VB_w5.alloc (.cells #[.int .i64 W, .slice (some ⟨gw5, 0, none⟩) n n] 28)
  have OA_w6 := OA_w5.alloc (.cells #[.int .i64 W, .slice (some ⟨gw5, 0, none⟩) n n] 28)
  have OS_w6 := OS_w5.alloc (.cells #[.int .i64 W, .slice (some ⟨gw5, 0, none⟩) n n] 28)
  have OX_w6 := OX_w5.alloc (.cells #[.int .i64 W, .slice (some ⟨gw5, 0, none⟩) n n] 28)
  have h_w6 := h_w5.alloc h_w5.size (.cells #[.int .i64 W, .slice (some ⟨gw5, 0, none⟩) n n] 28)
  have s_w6 : (w5.alloc (.cells #[.int .i64 W, .slice (some ⟨gw5, 0, none⟩) n n] 28)).heap.size = bX + 1 := by simp [hbX]
  clear VB_w5 OA_w5 OS_w5 OX_w5 h_w5
  have qB0 := VB_w6.c0
  have qB1 := VB_w6.c1
  have qX0 := VX_w6.c0
  have qX1 := VX_w6.c1
  go_wp2_with fail
  generalize (w5.alloc (.cells #[.int .i64 W, .slice (some ⟨gw5, 0, none⟩) n n] 28)) = w6 at *
  refine (iStr w6.heap.size n n _ W l x y p w6 (wf_i64 hwx) (wf_i64 hwy) hn4 (IntsAt.of_own OX_w6 HC.out.2.1) (Nat.le_refl _)).mono ?_
  rintro e w7 ⟨vw7, rfl, OG_w7, hbb⟩
  rw [HZ.out] at OG_w7
  clear qB0 qB1 qX0 qX1
  have VB_w7 := VB_w6.on hbb VB_w6.lt
  have VX_w7 := VX_w6.on hbb VX_w6.lt
  have OA_w7 := OA_w6.kept (grow_below hbb none) (Classical.em _)
  have OS_w7 := OS_w6.kept (grow_below hbb none) (Classical.em _)
  have OX_w7 := OX_w6.kept (grow_below hbb none) (Classical.em _)
  have h_w7 := h_w6.trans (hbb.mono h_w6.size)
  have s_w7 := hbb.size
  clear VB_w6 VX_w6 OA_w6 OS_w6 OX_w6 h_w6
  have TG := OG_w7.lt
  clear hbb
  have qB0 := VB_w7.c0
  have qB1 := VB_w7.c1
  have qX0 := VX_w7.c0
  have qX1 := VX_w7.c1
  go_wp2_with fail
  refine (lEqI w7.heap.size _ _ zs w7 hz4 (IsRd.of_own (zs := zs) OG_w7) (IsRd.of_own (zs := zs) OS_w7) (Nat.le_refl _)).mono ?_
  rintro e w8 ⟨rfl, hbb⟩
  clear qB0 qB1 qX0 qX1
  have VB_w8 := VB_w7.on hbb VB_w7.lt
  have VX_w8 := VX_w7.on hbb VX_w7.lt
  have OA_w8 := OA_w7.kept (grow_below hbb none) (Classical.em _)
  have OS_w8 := OS_w7.kept (grow_below hbb none) (Classical.em _)
  have OX_w8 := OX_w7.kept (grow_below hbb none) (Classical.em _)
  have OG_w8 := OG_w7.kept (grow_below hbb none) (Classical.em _)
  have h_w8 := h_w7.trans (hbb.mono h_w7.size)
  have s_w8 := hbb.size
  clear VB_w7 VX_w7 OA_w7 OS_w7 OX_w7 OG_w7 h_w7
  clear hbb
  have qB0 := VB_w8.c0
  have qB1 := VB_w8.c1
  have qX0 := VX_w8.c0
  have qX1 := VX_w8.c1
  go_wp2_with fail
  go_region_held3 (fun w' => w'.cell? ⟨bX, 0, none⟩ = some (.int .i64 W) ∧ w'.cell? ⟨bX, 1, none⟩ = some (.slice (some ⟨gw5, 0, none⟩) n n) ∧ w'.cell? ⟨bB, 0, none⟩ = some (.int .i64 W) ∧ w'.cell? ⟨bB, 1, none⟩ = some (.slice a n cap))
    (first
      | exact ⟨VX_w8.c0, VX_w8.c1, VB_w8.c0, VB_w8.c1⟩
      | exact ⟨xx6.c0, xx6.c1, bb6.c0, bb6.c1⟩
      | exact ⟨xx7.c0, xx7.c1, bb7.c0, bb7.c1⟩)
    (first
      | (go_at_call 9
         refine (lToRegion w.heap.size n cap a W l _ hn (HC.out.on (h_w8).drew) h_w8.size).mono ?_
         rintro e w9 ⟨gw9, rfl, OY_w9, hbb⟩
         have xx6 : RgAt w9 bX W (.slice (some ⟨gw5, 0, none⟩) n n) := RgAt.on (w := w8.drew) VX_w8 hbb VX_w8.lt
         have bb6 : LgAt w9 bB W (.slice a n cap) := LgAt.on (w := w8.drew) VB_w8 hbb VB_w8.lt
         have hbd : Below w8.heap.size w8 w9 := ((Below.refl _ w8).drew).trans hbb)
      | (go_at_call 12
         refine (lEqR w9.heap.size W _ _ l w9 hl4 (IsRd.of_own2 (OX_w8.kept (grow_below hbd none) (Classical.em _))) (IsRd.of_own2 OY_w9) (Nat.le_refl _)).mono ?_
         rintro e w10 ⟨rfl, hbe⟩
         have xx7 := xx6.on hbe xx6.lt
         have bb7 := bb6.on hbe bb6.lt))
  have hbq : Below w8.heap.size w8 w10 := hbd.trans (hbe.mono hbd.size)
  clear hbd hbe hbb xx6 bb6 xx7 bb7 OY_w9
  clear qB0 qB1 qX0 qX1
  have VB_w10 := VB_w8.on hbq VB_w8.lt
  have VX_w10 := VX_w8.on hbq VX_w8.lt
  have OA_w10 := OA_w8.kept (grow_below hbq none) (Classical.em _)
  have OS_w10 := OS_w8.kept (grow_below hbq none) (Classical.em _)
  have OX_w10 := OX_w8.kept (grow_below hbq none) (Classical.em _)
  have OG_w10 := OG_w8.kept (grow_below hbq none) (Classical.em _)
  have h_w10 := h_w8.trans (hbq.mono h_w8.size)
  have s_w10 := hbq.size
  clear VB_w8 VX_w8 OA_w8 OS_w8 OX_w8 OG_w8 h_w8
  clear hbq
  have qB0 := VB_w10.c0
  have qB1 := VB_w10.c1
  have qX0 := VX_w10.c0
  have qX1 := VX_w10.c1
  go_wp2_with fail
  refine (lMarkR _ W _ l 1 w10 hl4 (by omega) (by omega) (by rw [hln]; exact OX_w10)).mono ?_
  rintro e w11 ⟨rfl, OX_w11, hgg⟩
  rw [hln] at OX_w11
  rw [hln]
  clear qB0 qB1 qX0 qX1
  have VB_w11 := VB_w10.by hgg (ne_blkT TX (by omega))
  have VX_w11 := VX_w10.by hgg (ne_blkT TX (by omega))
  have OA_w11 := OA_w10.kept hgg (ne_rowT TA TX (by omega))
  have OS_w11 := OS_w10.kept hgg (ne_rowT TS TX (by omega))
  have OG_w11 := OG_w10.kept hgg (ne_rowT TG TX (by omega))
  have h_w11 := h_w10.grown hgg h_w10.size (fun j hj => by have := TX j hj; omega)
  have s_w11 := hgg.size
  clear VB_w10 VX_w10 OA_w10 OS_w10 OG_w10 h_w10
  clear hgg
  have qB0 := VB_w11.c0
  have qB1 := VB_w11.c1
  have qX0 := VX_w11.c0
  have qX1 := VX_w11.c1
  go_wp2_with fail
  refine (lEqI w11.heap.size _ _ zs w11 hz4 (IsRd.of_own (zs := zs) OG_w11) (IsRd.of_own (zs := zs) OS_w11) (Nat.le_refl _)).mono ?_
  rintro e w12 ⟨rfl, hbb⟩
  clear qB0 qB1 qX0 qX1
  have VB_w12 := VB_w11.on hbb VB_w11.lt
  have VX_w12 := VX_w11.on hbb VX_w11.lt
  have OA_w12 := OA_w11.kept (grow_below hbb none) (Classical.em _)
  have OS_w12 := OS_w11.kept (grow_below hbb none) (Classical.em _)
  have OX_w12 := OX_w11.kept (grow_below hbb none) (Classical.em _)
  have OG_w12 := OG_w11.kept (grow_below hbb none) (Classical.em _)
  have h_w12 := h_w11.trans (hbb.mono h_w11.size)
  have s_w12 := hbb.size
  clear VB_w11 VX_w11 OA_w11 OS_w11 OX_w11 OG_w11 h_w11
  clear hbb
  have qB0 := VB_w12.c0
  have qB1 := VB_w12.c1
  have qX0 := VX_w12.c0
  have qX1 := VX_w12.c1
  go_wp2_with fail
  refine (lMarkI _ _ zs 1 w12 hz4 (by omega) (by omega) OG_w12).mono ?_
  rintro e w13 ⟨rfl, OG_w13, hgg⟩
  clear qB0 qB1 qX0 qX1
  have VB_w13 := VB_w12.by hgg (ne_blkT TG (by omega))
  have VX_w13 := VX_w12.by hgg (ne_blkT TG (by omega))
  have OA_w13 := OA_w12.kept hgg (ne_rowT TA TG (by omega))
  have OS_w13 := OS_w12.kept hgg (ne_rowT TS TG (by omega))
  have OX_w13 := OX_w12.kept hgg (ne_rowT TX TG (by omega))
  have h_w13 := h_w12.grown hgg h_w12.size (fun j hj => by have := TG j hj; omega)
  have s_w13 := hgg.size
  clear VB_w12 VX_w12 OA_w12 OS_w12 OX_w12 h_w12
  clear hgg
  have qB0 := VB_w13.c0
  have qB1 := VB_w13.c1
  have qX0 := VX_w13.c0
  have qX1 := VX_w13.c1
  go_wp2_with fail
  refine (lHeldI w13.heap.size zs.length _ 1 w13 hz4 (by omega) (by omega) (IsRd.of_own (zs := marksI 1 zs.length) (by rw [marksI_length]; exact OG_w13)) (Nat.le_refl _)).mono ?_
  rintro e w14 ⟨rfl, hbb⟩
  clear qB0 qB1 qX0 qX1
  have VB_w14 := VB_w13.on hbb VB_w13.lt
  have VX_w14 := VX_w13.on hbb VX_w13.lt
  have OA_w14 := OA_w13.kept (grow_below hbb none) (Classical.em _)
  have OS_w14 := OS_w13.kept (grow_below hbb none) (Classical.em _)
  have OX_w14 := OX_w13.kept (grow_below hbb none) (Classical.em _)
  have OG_w14 := OG_w13.kept (grow_below hbb none) (Classical.em _)
  have h_w14 := h_w13.trans (hbb.mono h_w13.size)
  have s_w14 := hbb.size
  clear VB_w13 VX_w13 OA_w13 OS_w13 OX_w13 OG_w13 h_w13
  clear hbb
  have qB0 := VB_w14.c0
  have qB1 := VB_w14.c1
  have qX0 := VX_w14.c0
  have qX1 := VX_w14.c1
  go_wp2_with fail
  refine (lToRegion w.heap.size n cap a W l w14 hn (HC.out.on h_w14) h_w14.size).mono ?_
  rintro e w15 ⟨gw15, rfl, OZ_w15, hbb⟩
  clear qB0 qB1 qX0 qX1
  have VB_w15 := VB_w14.on hbb VB_w14.lt
  have VX_w15 := VX_w14.on hbb VX_w14.lt
  have OA_w15 := OA_w14.kept (grow_below hbb none) (Classical.em _)
  have OS_w15 := OS_w14.kept (grow_below hbb none) (Classical.em _)
  have OX_w15 := OX_w14.kept (grow_below hbb none) (Classical.em _)
  have OG_w15 := OG_w14.kept (grow_below hbb none) (Classical.em _)
  have h_w15 := h_w14.trans (hbb.mono h_w14.size)
  have s_w15 := hbb.size
  clear VB_w14 VX_w14 OA_w14 OS_w14 OX_w14 OG_w14 h_w14
  have TZ := OZ_w15.lt
  clear hbb
  have qB0 := VB_w15.c0
  have qB1 := VB_w15.c1
  have qX0 := VX_w15.c0
  have qX1 := VX_w15.c1
  go_wp2_with fail
  refine (iStr w15.heap.size n n _ W l x y p w15 (wf_i64 hwx) (wf_i64 hwy) hn4 (IntsAt.of_own OZ_w15 HC.out.2.1) (Nat.le_refl _)).mono ?_
  rintro e w16 ⟨vw16, rfl, OK_w16, hbb⟩
  rw [HZ.out] at OK_w16
  clear qB0 qB1 qX0 qX1
  have VB_w16 := VB_w15.on hbb VB_w15.lt
  have VX_w16 := VX_w15.on hbb VX_w15.lt
  have OA_w16 := OA_w15.kept (grow_below hbb none) (Classical.em _)
  have OS_w16 := OS_w15.kept (grow_below hbb none) (Classical.em _)
  have OX_w16 := OX_w15.kept (grow_below hbb none) (Classical.em _)
  have OG_w16 := OG_w15.kept (grow_below hbb none) (Classical.em _)
  have OZ_w16 := OZ_w15.kept (grow_below hbb none) (Classical.em _)
  have h_w16 := h_w15.trans (hbb.mono h_w15.size)
  have s_w16 := hbb.size
  clear VB_w15 VX_w15 OA_w15 OS_w15 OX_w15 OG_w15 OZ_w15 h_w15
  have TK := OK_w16.lt
  clear hbb
  have qB0 := VB_w16.c0
  have qB1 := VB_w16.c1
  have qX0 := VX_w16.c0
  have qX1 := VX_w16.c1
  go_wp2_with fail
  refine (lEqI w16.heap.size _ _ zs w16 hz4 (IsRd.of_own (zs := zs) OK_w16) (IsRd.of_own (zs := zs) OS_w16) (Nat.le_refl _)).mono ?_
  rintro e w17 ⟨rfl, hbb⟩
  clear qB0 qB1 qX0 qX1
  have VB_w17 := VB_w16.on hbb VB_w16.lt
  have VX_w17 := VX_w16.on hbb VX_w16.lt
  have OA_w17 := OA_w16.kept (grow_below hbb none) (Classical.em _)
  have OS_w17 := OS_w16.kept (grow_below hbb none) (Classical.em _)
  have OX_w17 := OX_w16.kept (grow_below hbb none) (Classical.em _)
  have OG_w17 := OG_w16.kept (grow_below hbb none) (Classical.em _)
  have OZ_w17 := OZ_w16.kept (grow_below hbb none) (Classical.em _)
  have OK_w17 := OK_w16.kept (grow_below hbb none) (Classical.em _)
  have h_w17 := h_w16.trans (hbb.mono h_w16.size)
  have s_w17 := hbb.size
  clear VB_w16 VX_w16 OA_w16 OS_w16 OX_w16 OG_w16 OZ_w16 OK_w16 h_w16
  clear hbb
  have qB0 := VB_w17.c0
  have qB1 := VB_w17.c1
  have qX0 := VX_w17.c0
  have qX1 := VX_w17.c1
  go_wp2_with fail
  refine (lHeldI w17.heap.size zs.length _ 1 w17 hz4 (by omega) (by omega) (IsRd.of_own (zs := marksI 1 zs.length) (by rw [marksI_length]; exact OG_w17)) (Nat.le_refl _)).mono ?_
  rintro e w18 ⟨rfl, hbb⟩
  clear qB0 qB1 qX0 qX1
  have VB_w18 := VB_w17.on hbb VB_w17.lt
  have VX_w18 := VX_w17.on hbb VX_w17.lt
  have OA_w18 := OA_w17.kept (grow_below hbb none) (Classical.em _)
  have OS_w18 := OS_w17.kept (grow_below hbb none) (Classical.em _)
  have OX_w18 := OX_w17.kept (grow_below hbb none) (Classical.em _)
  have OG_w18 := OG_w17.kept (grow_below hbb none) (Classical.em _)
  have OZ_w18 := OZ_w17.kept (grow_below hbb none) (Classical.em _)
  have OK_w18 := OK_w17.kept (grow_below hbb none) (Classical.em _)
  have h_w18 := h_w17.trans (hbb.mono h_w17.size)
  have s_w18 := hbb.size
  clear VB_w17 VX_w17 OA_w17 OS_w17 OX_w17 OG_w17 OZ_w17 OK_w17 h_w17
  clear hbb
  go_wp2
  go_ret
  exact ⟨rfl, h_w18⟩

end Go.Proofs.Ytkcclhnligajeaa
