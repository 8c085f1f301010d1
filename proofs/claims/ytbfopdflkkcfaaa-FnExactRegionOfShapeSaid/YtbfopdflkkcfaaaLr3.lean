/-
  The law on the region of a shape: its walk.
-/
import Derived.Test.YtbfopdflkkcfaaaSra
import Derived.Test.YtbfopdflkkcfaaaLr2
namespace Go.Proofs.Ytbfopdflkkcfaaa
open Go.RowKit

set_option maxHeartbeats 4000000 in
set_option maxRecDepth 100000 in
theorem law_RegionOfShape (a : Option Addr) (n cap : Nat) (l : List Cl) (w : World) (hc : CellsAt w.heap.size w a n l) (hm : n ≤ maxLen) :
    Calls Try.prog 7 #[.slice a n cap] w fun e w' => e = .returned (.bool true) ∧ Below w.heap.size w w' := by
  have hm2 : n ≤ 9223372036854775807 := by unfold maxLen at hm; omega
  have HC := Lib.hid hc
  have HE := Lib.hid (eqb_refl l)
  have hln := hc.1
  clear hc hm
  obtain ⟨zs, hzs⟩ : ∃ zs, shpL l = zs := ⟨_, rfl⟩
  have HZ := Lib.hid hzs
  obtain ⟨rw0, hrw⟩ : ∃ z, shpW l = z := ⟨_, rfl⟩
  have HW := Lib.hid hrw
  clear hrw
  obtain ⟨rt, hrt⟩ : ∃ z, shpOk l = z := ⟨_, rfl⟩
  have HT := Lib.hid hrt
  clear hrt
  have hne : (rt != rt) = false := by simp
  have hzb : zs.length ≤ 36 := by rw [← hzs]; exact Nat.le_trans (shpL_len l) (by omega)
  clear hzs
  by_cases hs : (1048576 : Int) < n
  · go_enter Try.func7, Try.ntmps7
    go_wp2_with fail
    refine (lSz_big a n cap 1048576 _ (by omega) hs hm2).mono ?_
    rintro e w' ⟨rfl, rfl⟩
    go_wp2
    go_ret
    exact ⟨rfl, Below.refl _ _⟩
  · have hn : n ≤ 1048576 := by omega
    have hn4 : n ≤ 4194304 := by omega
    have hk1 : ¬ ((1 : Int) + 2 * (n : Int) < 0) := by omega
    have hz4 : zs.length ≤ 4194304 := by omega
    have hk2 : ¬ ((1 : Int) + (zs.length : Int) < 0) := by omega
    have hk3 : (((1 : Int) + (zs.length : Int)) != (1 + (zs.length : Int))) = false := by simp
    go_enter Try.func7, Try.ntmps7
    go_wp2_with fail
    refine (lSz_fits a n cap 1048576 _ (by omega) (by omega)).mono ?_
    rintro e w' ⟨rfl, rfl⟩
    go_wp2_with fail
    obtain ⟨gw1, hgw1⟩ : ∃ g, w.heap.size = g := ⟨_, rfl⟩
    refine (lToCellS_any w.heap.size n cap a l w hn (HC.out.on (Below.refl w.heap.size w)) (Nat.le_refl _)).mono ?_
    rintro e w1 ⟨rfl, OA_w1, hbb⟩
    rw [hgw1] at OA_w1 ⊢
    have h_w1 := (Below.refl w.heap.size w).trans (hbb.mono (Nat.le_refl _))
    have s_w1 := hbb.size
    have TA := OA_w1.lt
    clear hbb
    go_wp2_with fail
    refine (sShp w1.heap.size n n _ l w1 hn4 (CellsAt.of_own OA_w1 HC.out.2.1) (Nat.le_refl _)).mono ?_
    rintro e w2 ⟨vw2, rfl, OS_w2, hbb⟩
    rw [HZ.out] at OS_w2
    obtain ⟨aw2, cw2, rfl⟩ := own_sl_i OS_w2
    rw [HW.out, HT.out]
    have OA_w2 := OA_w1.kept (grow_below hbb none) (Classical.em _)
    have h_w2 := h_w1.trans (hbb.mono h_w1.size)
    have s_w2 := hbb.size
    clear OA_w1 h_w1
    have TS := OS_w2.lt
    clear hbb
    obtain ⟨bS, hbS⟩ : ∃ b, w2.heap.size = b := ⟨_, rfl⟩
    have VS_w3 := RgAt.new (w := w2) rw0 (.slice aw2 zs.length cw2) hbS
    have OA_w3 := OA_w2.alloc (.cells #[.int .i64 rw0, .slice aw2 zs.length cw2] 27)
    have OS_w3 := OS_w2.alloc (.cells #[.int .i64 rw0, .slice aw2 zs.length cw2] 27)
    have h_w3 := h_w2.alloc h_w2.size (.cells #[.int .i64 rw0, .slice aw2 zs.length cw2] 27)
    have s_w3 : (w2.alloc (.cells #[.int .i64 rw0, .slice aw2 zs.length cw2] 27)).heap.size = bS + 1 := by simp [hbS]
    clear OA_w2 OS_w2 h_w2
    have qS0 := VS_w3.c0
    have qS1 := VS_w3.c1
    go_wp2_with fail
    generalize (w2.alloc (.cells #[.int .i64 rw0, .slice aw2 zs.length cw2] 27)) = w3 at *
    obtain ⟨gw4, hgw4⟩ : ∃ g, w3.heap.size = g := ⟨_, rfl⟩
    refine (lToCellS_any w.heap.size n cap a l w3 hn (HC.out.on h_w3) h_w3.size).mono ?_
    rintro e w4 ⟨rfl, OX_w4, hbb⟩
    rw [hgw4] at OX_w4 ⊢
    clear qS0 qS1
    have VS_w4 := VS_w3.on hbb VS_w3.lt
    have OA_w4 := OA_w3.kept (grow_below hbb none) (Classical.em _)
    have OS_w4 := OS_w3.kept (grow_below hbb none) (Classical.em _)
    have h_w4 := h_w3.trans (hbb.mono h_w3.size)
    have s_w4 := hbb.size
    clear VS_w3 OA_w3 OS_w3 h_w3
    have TX := OX_w4.lt
    clear hbb
    have qS0 := VS_w4.c0
    have qS1 := VS_w4.c1
    go_wp2_with fail
    refine (iShp w4.heap.size n n _ l w4 hn4 (CellsAt.of_own OX_w4 HC.out.2.1) (Nat.le_refl _)).mono ?_
    rintro e w5 ⟨vw5, rfl, OG_w5, hbb⟩
    rw [HZ.out] at OG_w5
    obtain ⟨aw5, cw5, rfl⟩ := own_sl_i OG_w5
    rw [HW.out, HT.out]
    clear qS0 qS1
    have VS_w5 := VS_w4.on hbb VS_w4.lt
    have OA_w5 := OA_w4.kept (grow_below hbb none) (Classical.em _)
    have OS_w5 := OS_w4.kept (grow_below hbb none) (Classical.em _)
    have OX_w5 := OX_w4.kept (grow_below hbb none) (Classical.em _)
    have h_w5 := h_w4.trans (hbb.mono h_w4.size)
    have s_w5 := hbb.size
    clear VS_w4 OA_w4 OS_w4 OX_w4 h_w4
    have TG := OG_w5.lt
    clear hbb
    obtain ⟨bG, hbG⟩ : ∃ b, w5.heap.size = b := ⟨_, rfl⟩
    have VG_w6 := RgAt.new (w := w5) rw0 (.slice aw5 zs.length cw5) hbG
    have VS_w6 := VS_w5.alloc (.cells #[.int .i64 rw0, .slice aw5 zs.length cw5] 27)
    have OA_w6 := OA_w5.alloc (.cells #[.int .i64 rw0, .slice aw5 zs.length cw5] 27)
    have OS_w6 := OS_w5.alloc (.cells #[.int .i64 rw0, .slice aw5 zs.length cw5] 27)
    have OX_w6 := OX_w5.alloc (.cells #[.int .i64 rw0, .slice aw5 zs.length cw5] 27)
    have OG_w6 := OG_w5.alloc (.cells #[.int .i64 rw0, .slice aw5 zs.length cw5] 27)
    have h_w6 := h_w5.alloc h_w5.size (.cells #[.int .i64 rw0, .slice aw5 zs.length cw5] 27)
    have s_w6 : (w5.alloc (.cells #[.int .i64 rw0, .slice aw5 zs.length cw5] 27)).heap.size = bG + 1 := by simp [hbG]
    clear VS_w5 OA_w5 OS_w5 OX_w5 OG_w5 h_w5
    have qS0 := VS_w6.c0
    have qS1 := VS_w6.c1
    have qG0 := VG_w6.c0
    have qG1 := VG_w6.c1
    go_wp2_with fail
    generalize (w5.alloc (.cells #[.int .i64 rw0, .slice aw5 zs.length cw5] 27)) = w6 at *
    refine (lEqR w6.heap.size rw0 _ _ zs w6 hz4 (IsRd.of_own (zs := zs) OG_w6) (IsRd.of_own (zs := zs) OS_w6) (Nat.le_refl _)).mono ?_
    rintro e w7 ⟨rfl, hbb⟩
    clear qS0 qS1 qG0 qG1
    have VS_w7 := VS_w6.on hbb VS_w6.lt
    have VG_w7 := VG_w6.on hbb VG_w6.lt
    have OA_w7 := OA_w6.kept (grow_below hbb none) (Classical.em _)
    have OS_w7 := OS_w6.kept (grow_below hbb none) (Classical.em _)
    have OX_w7 := OX_w6.kept (grow_below hbb none) (Classical.em _)
    have OG_w7 := OG_w6.kept (grow_below hbb none) (Classical.em _)
    have h_w7 := h_w6.trans (hbb.mono h_w6.size)
    have s_w7 := hbb.size
    clear VS_w6 VG_w6 OA_w6 OS_w6 OX_w6 OG_w6 h_w6
    clear hbb
    have qS0 := VS_w7.c0
    have qS1 := VS_w7.c1
    have qG0 := VG_w7.c0
    have qG1 := VG_w7.c1
    go_wp2_with fail
    obtain ⟨gw8, hgw8⟩ : ∃ g, w7.heap.size = g := ⟨_, rfl⟩
    refine (lToCellS_any w.heap.size n cap a l w7 hn (HC.out.on h_w7) h_w7.size).mono ?_
    rintro e w8 ⟨rfl, OY_w8, hbb⟩
    rw [hgw8] at OY_w8 ⊢
    clear qS0 qS1 qG0 qG1
    have VS_w8 := VS_w7.on hbb VS_w7.lt
    have VG_w8 := VG_w7.on hbb VG_w7.lt
    have OA_w8 := OA_w7.kept (grow_below hbb none) (Classical.em _)
    have OS_w8 := OS_w7.kept (grow_below hbb none) (Classical.em _)
    have OX_w8 := OX_w7.kept (grow_below hbb none) (Classical.em _)
    have OG_w8 := OG_w7.kept (grow_below hbb none) (Classical.em _)
    have h_w8 := h_w7.trans (hbb.mono h_w7.size)
    have s_w8 := hbb.size
    clear VS_w7 VG_w7 OA_w7 OS_w7 OX_w7 OG_w7 h_w7
    have TY := OY_w8.lt
    clear hbb
    have qS0 := VS_w8.c0
    have qS1 := VS_w8.c1
    have qG0 := VG_w8.c0
    have qG1 := VG_w8.c1
    go_wp2_with fail
    refine (lEqCellS_any w8.heap.size n n n n _ _ l l w8 hn4 (CellsAt.of_own OX_w8 HC.out.2.1) (CellsAt.of_own OY_w8 HC.out.2.1) (Nat.le_refl _)).mono ?_
    rintro e w9 ⟨rfl, hbb⟩
    rw [HE.out]
    clear qS0 qS1 qG0 qG1
    have VS_w9 := VS_w8.on hbb VS_w8.lt
    have VG_w9 := VG_w8.on hbb VG_w8.lt
    have OA_w9 := OA_w8.kept (grow_below hbb none) (Classical.em _)
    have OS_w9 := OS_w8.kept (grow_below hbb none) (Classical.em _)
    have OX_w9 := OX_w8.kept (grow_below hbb none) (Classical.em _)
    have OG_w9 := OG_w8.kept (grow_below hbb none) (Classical.em _)
    have OY_w9 := OY_w8.kept (grow_below hbb none) (Classical.em _)
    have h_w9 := h_w8.trans (hbb.mono h_w8.size)
    have s_w9 := hbb.size
    clear VS_w8 VG_w8 OA_w8 OS_w8 OX_w8 OG_w8 OY_w8 h_w8
    clear hbb
    have qS0 := VS_w9.c0
    have qS1 := VS_w9.c1
    have qG0 := VG_w9.c0
    have qG1 := VG_w9.c1
    go_wp2_with fail
    refine (lMark_any _ n _ _ 1 l w9 hn4 (by omega) (by omega) hln OX_w9).mono ?_
    rintro e w10 ⟨rfl, OX_w10, hgg⟩
    clear qS0 qS1 qG0 qG1
    have VS_w10 := VS_w9.by hgg (ne_blkT TX (by omega))
    have VG_w10 := VG_w9.by hgg (ne_blkT TX (by omega))
    have OA_w10 := OA_w9.kept hgg (ne_rowT TA TX (by omega))
    have OS_w10 := OS_w9.kept hgg (ne_rowT TS TX (by omega))
    have OG_w10 := OG_w9.kept hgg (ne_rowT TG TX (by omega))
    have h_w10 := h_w9.grown hgg h_w9.size (fun j hj => by have := TX j hj; omega)
    have s_w10 := hgg.size
    clear VS_w9 VG_w9 OA_w9 OS_w9 OG_w9 h_w9
    clear hgg
    have qS0 := VS_w10.c0
    have qS1 := VS_w10.c1
    have qG0 := VG_w10.c0
    have qG1 := VG_w10.c1
    go_wp2_with fail
    refine (lEqR w10.heap.size rw0 _ _ zs w10 hz4 (IsRd.of_own (zs := zs) OG_w10) (IsRd.of_own (zs := zs) OS_w10) (Nat.le_refl _)).mono ?_
    rintro e w11 ⟨rfl, hbb⟩
    clear qS0 qS1 qG0 qG1
    have VS_w11 := VS_w10.on hbb VS_w10.lt
    have VG_w11 := VG_w10.on hbb VG_w10.lt
    have OA_w11 := OA_w10.kept (grow_below hbb none) (Classical.em _)
    have OS_w11 := OS_w10.kept (grow_below hbb none) (Classical.em _)
    have OX_w11 := OX_w10.kept (grow_below hbb none) (Classical.em _)
    have OG_w11 := OG_w10.kept (grow_below hbb none) (Classical.em _)
    have h_w11 := h_w10.trans (hbb.mono h_w10.size)
    have s_w11 := hbb.size
    clear VS_w10 VG_w10 OA_w10 OS_w10 OX_w10 OG_w10 h_w10
    clear hbb
    have qS0 := VS_w11.c0
    have qS1 := VS_w11.c1
    have qG0 := VG_w11.c0
    have qG1 := VG_w11.c1
    go_wp2_with fail
    refine (lMarkR _ rw0 _ zs 1 w11 hz4 (by omega) (by omega) OG_w11).mono ?_
    rintro e w12 ⟨rfl, OG_w12, hgg⟩
    clear qS0 qS1 qG0 qG1
    have VS_w12 := VS_w11.by hgg (ne_blkT TG (by omega))
    have VG_w12 := VG_w11.by hgg (ne_blkT TG (by omega))
    have OA_w12 := OA_w11.kept hgg (ne_rowT TA TG (by omega))
    have OS_w12 := OS_w11.kept hgg (ne_rowT TS TG (by omega))
    have OX_w12 := OX_w11.kept hgg (ne_rowT TX TG (by omega))
    have h_w12 := h_w11.grown hgg h_w11.size (fun j hj => by have := TG j hj; omega)
    have s_w12 := hgg.size
    clear VS_w11 VG_w11 OA_w11 OS_w11 OX_w11 h_w11
    clear hgg
    have qS0 := VS_w12.c0
    have qS1 := VS_w12.c1
    have qG0 := VG_w12.c0
    have qG1 := VG_w12.c1
    go_wp2_with fail
    refine (lHeldR w12.heap.size zs.length rw0 _ 1 w12 hz4 (by omega) (by omega) (IsRd.of_own (zs := marksI 1 zs.length) (by rw [marksI_length]; exact OG_w12)) (Nat.le_refl _)).mono ?_
    rintro e w13 ⟨rfl, hbb⟩
    clear qS0 qS1 qG0 qG1
    have VS_w13 := VS_w12.on hbb VS_w12.lt
    have VG_w13 := VG_w12.on hbb VG_w12.lt
    have OA_w13 := OA_w12.kept (grow_below hbb none) (Classical.em _)
    have OS_w13 := OS_w12.kept (grow_below hbb none) (Classical.em _)
    have OX_w13 := OX_w12.kept (grow_below hbb none) (Classical.em _)
    have OG_w13 := OG_w12.kept (grow_below hbb none) (Classical.em _)
    have h_w13 := h_w12.trans (hbb.mono h_w12.size)
    have s_w13 := hbb.size
    clear VS_w12 VG_w12 OA_w12 OS_w12 OX_w12 OG_w12 h_w12
    clear hbb
    have qS0 := VS_w13.c0
    have qS1 := VS_w13.c1
    have qG0 := VG_w13.c0
    have qG1 := VG_w13.c1
    go_wp2_with fail
    obtain ⟨gw14, hgw14⟩ : ∃ g, w13.heap.size = g := ⟨_, rfl⟩
    refine (lToCellS_any w.heap.size n cap a l w13 hn (HC.out.on h_w13) h_w13.size).mono ?_
    rintro e w14 ⟨rfl, OZ_w14, hbb⟩
    rw [hgw14] at OZ_w14 ⊢
    clear qS0 qS1 qG0 qG1
    have VS_w14 := VS_w13.on hbb VS_w13.lt
    have VG_w14 := VG_w13.on hbb VG_w13.lt
    have OA_w14 := OA_w13.kept (grow_below hbb none) (Classical.em _)
    have OS_w14 := OS_w13.kept (grow_below hbb none) (Classical.em _)
    have OX_w14 := OX_w13.kept (grow_below hbb none) (Classical.em _)
    have OG_w14 := OG_w13.kept (grow_below hbb none) (Classical.em _)
    have h_w14 := h_w13.trans (hbb.mono h_w13.size)
    have s_w14 := hbb.size
    clear VS_w13 VG_w13 OA_w13 OS_w13 OX_w13 OG_w13 h_w13
    have TZ := OZ_w14.lt
    clear hbb
    have qS0 := VS_w14.c0
    have qS1 := VS_w14.c1
    have qG0 := VG_w14.c0
    have qG1 := VG_w14.c1
    go_wp2_with fail
    refine (iShp w14.heap.size n n _ l w14 hn4 (CellsAt.of_own OZ_w14 HC.out.2.1) (Nat.le_refl _)).mono ?_
    rintro e w15 ⟨vw15, rfl, OK_w15, hbb⟩
    rw [HZ.out] at OK_w15
    obtain ⟨aw15, cw15, rfl⟩ := own_sl_i OK_w15
    rw [HW.out, HT.out]
    clear qS0 qS1 qG0 qG1
    have VS_w15 := VS_w14.on hbb VS_w14.lt
    have VG_w15 := VG_w14.on hbb VG_w14.lt
    have OA_w15 := OA_w14.kept (grow_below hbb none) (Classical.em _)
    have OS_w15 := OS_w14.kept (grow_below hbb none) (Classical.em _)
    have OX_w15 := OX_w14.kept (grow_below hbb none) (Classical.em _)
    have OG_w15 := OG_w14.kept (grow_below hbb none) (Classical.em _)
    have OZ_w15 := OZ_w14.kept (grow_below hbb none) (Classical.em _)
    have h_w15 := h_w14.trans (hbb.mono h_w14.size)
    have s_w15 := hbb.size
    clear VS_w14 VG_w14 OA_w14 OS_w14 OX_w14 OG_w14 OZ_w14 h_w14
    have TK := OK_w15.lt
    clear hbb
    obtain ⟨bK, hbK⟩ : ∃ b, w15.heap.size = b := ⟨_, rfl⟩
    have VK_w16 := RgAt.new (w := w15) rw0 (.slice aw15 zs.length cw15) hbK
    have VS_w16 := VS_w15.alloc (.cells #[.int .i64 rw0, .slice aw15 zs.length cw15] 27)
    have VG_w16 := VG_w15.alloc (.cells #[.int .i64 rw0, .slice aw15 zs.length cw15] 27)
    have OA_w16 := OA_w15.alloc (.cells #[.int .i64 rw0, .slice aw15 zs.length cw15] 27)
    have OS_w16 := OS_w15.alloc (.cells #[.int .i64 rw0, .slice aw15 zs.length cw15] 27)
    have OX_w16 := OX_w15.alloc (.cells #[.int .i64 rw0, .slice aw15 zs.length cw15] 27)
    have OG_w16 := OG_w15.alloc (.cells #[.int .i64 rw0, .slice aw15 zs.length cw15] 27)
    have OZ_w16 := OZ_w15.alloc (.cells #[.int .i64 rw0, .slice aw15 zs.length cw15] 27)
    have OK_w16 := OK_w15.alloc (.cells #[.int .i64 rw0, .slice aw15 zs.length cw15] 27)
    have h_w16 := h_w15.alloc h_w15.size (.cells #[.int .i64 rw0, .slice aw15 zs.length cw15] 27)
    have s_w16 : (w15.alloc (.cells #[.int .i64 rw0, .slice aw15 zs.length cw15] 27)).heap.size = bK + 1 := by simp [hbK]
    clear VS_w15 VG_w15 OA_w15 OS_w15 OX_w15 OG_w15 OZ_w15 OK_w15 h_w15
    have qS0 := VS_w16.c0
    have qS1 := VS_w16.c1
    have qG0 := VG_w16.c0
    have qG1 := VG_w16.c1
    have qK0 := VK_w16.c0
    have qK1 := VK_w16.c1
    go_wp2_with fail
    generalize (w15.alloc (.cells #[.int .i64 rw0, .slice aw15 zs.length cw15] 27)) = w16 at *
    refine (lEqR w16.heap.size rw0 _ _ zs w16 hz4 (IsRd.of_own (zs := zs) OK_w16) (IsRd.of_own (zs := zs) OS_w16) (Nat.le_refl _)).mono ?_
    rintro e w17 ⟨rfl, hbb⟩
    clear qS0 qS1 qG0 qG1 qK0 qK1
    have VS_w17 := VS_w16.on hbb VS_w16.lt
    have VG_w17 := VG_w16.on hbb VG_w16.lt
    have VK_w17 := VK_w16.on hbb VK_w16.lt
    have OA_w17 := OA_w16.kept (grow_below hbb none) (Classical.em _)
    have OS_w17 := OS_w16.kept (grow_below hbb none) (Classical.em _)
    have OX_w17 := OX_w16.kept (grow_below hbb none) (Classical.em _)
    have OG_w17 := OG_w16.kept (grow_below hbb none) (Classical.em _)
    have OZ_w17 := OZ_w16.kept (grow_below hbb none) (Classical.em _)
    have OK_w17 := OK_w16.kept (grow_below hbb none) (Classical.em _)
    have h_w17 := h_w16.trans (hbb.mono h_w16.size)
    have s_w17 := hbb.size
    clear VS_w16 VG_w16 VK_w16 OA_w16 OS_w16 OX_w16 OG_w16 OZ_w16 OK_w16 h_w16
    clear hbb
    have qS0 := VS_w17.c0
    have qS1 := VS_w17.c1
    have qG0 := VG_w17.c0
    have qG1 := VG_w17.c1
    have qK0 := VK_w17.c0
    have qK1 := VK_w17.c1
    go_wp2_with fail
    refine (lHeldR w17.heap.size zs.length rw0 _ 1 w17 hz4 (by omega) (by omega) (IsRd.of_own (zs := marksI 1 zs.length) (by rw [marksI_length]; exact OG_w17)) (Nat.le_refl _)).mono ?_
    rintro e w18 ⟨rfl, hbb⟩
    clear qS0 qS1 qG0 qG1 qK0 qK1
    have VS_w18 := VS_w17.on hbb VS_w17.lt
    have VG_w18 := VG_w17.on hbb VG_w17.lt
    have VK_w18 := VK_w17.on hbb VK_w17.lt
    have OA_w18 := OA_w17.kept (grow_below hbb none) (Classical.em _)
    have OS_w18 := OS_w17.kept (grow_below hbb none) (Classical.em _)
    have OX_w18 := OX_w17.kept (grow_below hbb none) (Classical.em _)
    have OG_w18 := OG_w17.kept (grow_below hbb none) (Classical.em _)
    have OZ_w18 := OZ_w17.kept (grow_below hbb none) (Classical.em _)
    have OK_w18 := OK_w17.kept (grow_below hbb none) (Classical.em _)
    have h_w18 := h_w17.trans (hbb.mono h_w17.size)
    have s_w18 := hbb.size
    clear VS_w17 VG_w17 VK_w17 OA_w17 OS_w17 OX_w17 OG_w17 OZ_w17 OK_w17 h_w17
    clear hbb
    go_wp2
    go_ret
    exact ⟨rfl, h_w18⟩

end Go.Proofs.Ytbfopdflkkcfaaa
