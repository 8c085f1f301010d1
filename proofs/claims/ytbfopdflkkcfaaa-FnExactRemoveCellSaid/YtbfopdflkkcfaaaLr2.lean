/-
  The laws on regions that give cells, numbers, a region: the walk of each law.
-/
import Derived.Test.YtbfopdflkkcfaaaSr8
import Derived.Test.YtbfopdflkkcfaaaSr6
import Derived.Test.YtbfopdflkkcfaaaLw3
import Derived.Test.YtbfopdflkkcfaaaRar
namespace Go.Proofs.Ytbfopdflkkcfaaa
open Go.RowKit

theorem sRem2 (B n cap : Nat) (a : Option Addr) (W : Int) (l : List Int) (x y : Int) (w : World) (hn : n ≤ 1048576) (hc : IntsAt B w a n l) (hB : B ≤ w.heap.size) :
    Calls Try.prog 36 #[.agg #[.int .i64 W, .slice a n cap], .int .i64 x, .int .i64 y] w fun e w' => ∃ v, e = .returned (.tuple #[.agg #[.int .i64 W, v], .bool (cellB W l x y)]) ∧
      w'.ownsRow w.heap.size 3 1 v (remR W l x y).length (iv (remR W l x y)) ∧ Below w.heap.size w w' := by
  refine (sRem B n cap a W l x y w hn hc hB).mono ?_
  rintro e w' ⟨g, c, rfl, h1, h2⟩
  exact ⟨_, rfl, by rw [remR_len, hc.1]; exact h1, h2⟩
theorem iRem2 (B n cap : Nat) (a : Option Addr) (W : Int) (l : List Int) (x y : Int) (w : World) (hn : n ≤ 1048576) (hc : IntsAt B w a n l) (hB : B ≤ w.heap.size) :
    Calls Try.prog 37 #[.agg #[.int .i64 W, .slice a n cap], .int .i64 x, .int .i64 y] w fun e w' => ∃ v, e = .returned (.tuple #[.agg #[.int .i64 W, v], .bool (cellB W l x y)]) ∧
      w'.ownsRow w.heap.size 3 1 v (remR W l x y).length (iv (remR W l x y)) ∧ Below w.heap.size w w' := by
  refine (iRem B n cap a W l x y w hn hc hB).mono ?_
  rintro e w' ⟨g, c, rfl, h1, h2⟩
  exact ⟨_, rfl, by rw [remR_len, hc.1]; exact h1, h2⟩

set_option maxHeartbeats 4000000 in
set_option maxRecDepth 100000 in
theorem law_CellsOf (W : Int) (a : Option Addr) (n cap : Nat) (l : List Int) (w : World) (hc : IntsAt w.heap.size w a n l) (hm : n ≤ maxLen) :
    Calls Try.prog 8 #[.agg #[.int .i64 W, .slice a n cap]] w fun e w' => e = .returned (.bool true) ∧ Below w.heap.size w w' := by
  have hm2 : n ≤ 9223372036854775807 := by unfold maxLen at hm; omega
  have HC := Lib.hid hc
  have hln := hc.1
  clear hc hm
  obtain ⟨zs, hzs⟩ : ∃ zs, cellsR W l = zs := ⟨_, rfl⟩
  have HZ := Lib.hid hzs
  have HIN := Lib.hid (show ∀ c ∈ zs, InC c from by rw [← hzs]; exact cellsR_inC W l)
  have HF := Lib.hid (eqb_refl zs)
  have hzb : zs.length ≤ 36 := by rw [← hzs]; exact Nat.le_trans (cellsR_len W l) (by omega)
  clear hzs
  by_cases hs : (1048576 : Int) < n
  · go_enter Try.func8, Try.ntmps8
    have VB_w1 := LgAt.new (w := w) W (.slice a n cap) rfl
    obtain ⟨bB, hbB⟩ : ∃ b, w.heap.size = b := ⟨_, rfl⟩
    have h_w1 := (Below.refl w.heap.size w).alloc (Nat.le_refl _) (.cells #[.int .i64 W, .slice a n cap] 24)
    have s_w1 : (w.alloc (.cells #[.int .i64 W, .slice a n cap] 24)).heap.size = bB + 1 := by simp [hbB]
    rw [hbB] at VB_w1
    have qB0 := VB_w1.c0
    have qB1 := VB_w1.c1
    go_wp2_with fail
    generalize (w.alloc (.cells #[.int .i64 W, .slice a n cap] 24)) = w1 at *
    refine (lSzR_big W a n cap 1048576 _ (by omega) hs hm2).mono ?_
    rintro e w' ⟨rfl, hb0⟩
    go_wp2
    go_ret
    exact ⟨rfl, h_w1.trans (hb0.mono h_w1.size)⟩
  · have hn : n ≤ 1048576 := by omega
    have hn4 : n ≤ 4194304 := by omega
    have hl4 : l.length ≤ 4194304 := by rw [hln]; omega
    have hk1 : ¬ ((1 : Int) + (n : Int) < 0) := by omega
    have hz4 : zs.length ≤ 4194304 := by omega
    have hk2 : ¬ ((1 : Int) + 2 * (zs.length : Int) < 0) := by omega
    have hk3 : (((1 : Int) + 2 * (zs.length : Int)) != (1 + 2 * (zs.length : Int))) = false := by simp
    go_enter Try.func8, Try.ntmps8
    have VB_w1 := LgAt.new (w := w) W (.slice a n cap) rfl
    obtain ⟨bB, hbB⟩ : ∃ b, w.heap.size = b := ⟨_, rfl⟩
    have h_w1 := (Below.refl w.heap.size w).alloc (Nat.le_refl _) (.cells #[.int .i64 W, .slice a n cap] 24)
    have s_w1 : (w.alloc (.cells #[.int .i64 W, .slice a n cap] 24)).heap.size = bB + 1 := by simp [hbB]
    rw [hbB] at VB_w1
    have qB0 := VB_w1.c0
    have qB1 := VB_w1.c1
    go_wp2_with fail
    generalize (w.alloc (.cells #[.int .i64 W, .slice a n cap] 24)) = w1 at *
    refine (lSzR_fits W a n cap 1048576 _ (by omega) (by omega)).mono ?_
    rintro e w2 ⟨rfl, hbb⟩
    clear qB0 qB1
    have VB_w2 := VB_w1.on hbb VB_w1.lt
    have h_w2 := h_w1.trans (hbb.mono h_w1.size)
    have s_w2 := hbb.size
    clear VB_w1 h_w1
    clear hbb
    have qB0 := VB_w2.c0
    have qB1 := VB_w2.c1
    go_wp2_with fail
    refine (lToRegion w.heap.size n cap a W l w2 hn (HC.out.on h_w2) h_w2.size).mono ?_
    rintro e w3 ⟨gw3, rfl, OA_w3, hbb⟩
    clear qB0 qB1
    have VB_w3 := VB_w2.on hbb VB_w2.lt
    have h_w3 := h_w2.trans (hbb.mono h_w2.size)
    have s_w3 := hbb.size
    clear VB_w2 h_w2
    have TA := OA_w3.lt
    clear hbb
    have qB0 := VB_w3.c0
    have qB1 := VB_w3.c1
    go_wp2_with fail
    refine (sCells w3.heap.size n n _ W l w3 hn4 (IntsAt.of_own OA_w3 HC.out.2.1) (Nat.le_refl _)).mono ?_
    rintro e w4 ⟨vw4, rfl, OS_w4, hbb⟩
    rw [HZ.out] at OS_w4
    obtain ⟨aw4, cw4, rfl⟩ := own_slice OS_w4
    clear qB0 qB1
    have VB_w4 := VB_w3.on hbb VB_w3.lt
    have OA_w4 := OA_w3.kept (grow_below hbb none) (Classical.em _)
    have h_w4 := h_w3.trans (hbb.mono h_w3.size)
    have s_w4 := hbb.size
    clear VB_w3 OA_w3 h_w3
    have TS := OS_w4.lt
    clear hbb
    have qB0 := VB_w4.c0
    have qB1 := VB_w4.c1
    go_wp2_with fail
    refine (lToRegion w.heap.size n cap a W l w4 hn (HC.out.on h_w4) h_w4.size).mono ?_
    rintro e w5 ⟨gw5, rfl, OX_w5, hbb⟩
    clear qB0 qB1
    have VB_w5 := VB_w4.on hbb VB_w4.lt
    have OA_w5 := OA_w4.kept (grow_below hbb none) (Classical.em _)
    have OS_w5 := OS_w4.kept (grow_below hbb none) (Classical.em _)
    have h_w5 := h_w4.trans (hbb.mono h_w4.size)
    have s_w5 := hbb.size
    clear VB_w4 OA_w4 OS_w4 h_w4
    have TX := OX_w5.lt
    clear hbb
    obtain ⟨bX, hbX⟩ : ∃ b, w5.heap.size = b := ⟨_, rfl⟩
    have VX_w6 := RgAt.new (w := w5) W (.slice (some ⟨gw5, 0, none⟩) n n) hbX
    have VB_w6 := VB_w5.alloc (.cells #[.int .i64 W, .slice (some ⟨gw5, 0, none⟩) n n] 27)
    have OA_w6 := OA_w5.alloc (.cells #[.int .i64 W, .slice (some ⟨gw5, 0, none⟩) n n] 27)
    have OS_w6 := OS_w5.alloc (.cells #[.int .i64 W, .slice (some ⟨gw5, 0, none⟩) n n] 27)
    have OX_w6 := OX_w5.alloc (.cells #[.int .i64 W, .slice (some ⟨gw5, 0, none⟩) n n] 27)
    have h_w6 := h_w5.alloc h_w5.size (.cells #[.int .i64 W, .slice (some ⟨gw5, 0, none⟩) n n] 27)
    have s_w6 : (w5.alloc (.cells #[.int .i64 W, .slice (some ⟨gw5, 0, none⟩) n n] 27)).heap.size = bX + 1 := by simp [hbX]
    clear VB_w5 OA_w5 OS_w5 OX_w5 h_w5
    have qB0 := VB_w6.c0
    have qB1 := VB_w6.c1
    have qX0 := VX_w6.c0
    have qX1 := VX_w6.c1
    go_wp2_with fail
    generalize (w5.alloc (.cells #[.int .i64 W, .slice (some ⟨gw5, 0, none⟩) n n] 27)) = w6 at *
    refine (iCells w6.heap.size n n _ W l w6 hn4 (IntsAt.of_own OX_w6 HC.out.2.1) (Nat.le_refl _)).mono ?_
    rintro e w7 ⟨vw7, rfl, OG_w7, hbb⟩
    rw [HZ.out] at OG_w7
    obtain ⟨aw7, cw7, rfl⟩ := own_slice OG_w7
    clear qB0 qB1 qX0 qX1
    have VB_w7 := VB_w6.on hbb VB_w6.lt
    have VX_w7 := VX_w6.on hbb VX_w6.lt
    have OA_w7 := OA_w6.kept (grow_below hbb none) (Classical.em _)
    have OS_w7 := OS_w6.kept (grow_below hbb none) (Classical.em _)
    have OX_w7 := OX_w6.kept (grow_below hbb none) (Classical.em _)
    have h_w7 := h_w6.trans (hbb.mono h_w6.size)
    have s_w7 := hbb.size
    clear VB_w6 VX_w6 OA_w6 OS_w6 OX_w6 h_w6
    have TG := OG_w7.lt
    clear hbb
    have qB0 := VB_w7.c0
    have qB1 := VB_w7.c1
    have qX0 := VX_w7.c0
    have qX1 := VX_w7.c1
    go_wp2_with fail
    refine (lEqCellS_any w7.heap.size zs.length zs.length _ _ _ _ zs zs w7 hz4 (CellsAt.of_own OG_w7 HIN.out) (CellsAt.of_own OS_w7 HIN.out) (Nat.le_refl _)).mono ?_
    rintro e w8 ⟨rfl, hbb⟩
    rw [HF.out]
    clear qB0 qB1 qX0 qX1
    have VB_w8 := VB_w7.on hbb VB_w7.lt
    have VX_w8 := VX_w7.on hbb VX_w7.lt
    have OA_w8 := OA_w7.kept (grow_below hbb none) (Classical.em _)
    have OS_w8 := OS_w7.kept (grow_below hbb none) (Classical.em _)
    have OX_w8 := OX_w7.kept (grow_below hbb none) (Classical.em _)
    have OG_w8 := OG_w7.kept (grow_below hbb none) (Classical.em _)
    have h_w8 := h_w7.trans (hbb.mono h_w7.size)
    have s_w8 := hbb.size
    clear VB_w7 VX_w7 OA_w7 OS_w7 OX_w7 OG_w7 h_w7
    clear hbb
    have qB0 := VB_w8.c0
    have qB1 := VB_w8.c1
    have qX0 := VX_w8.c0
    have qX1 := VX_w8.c1
    go_wp2_with fail
    go_region_held3 (fun w' => w'.cell? ⟨bX, 0, none⟩ = some (.int .i64 W) ∧ w'.cell? ⟨bX, 1, none⟩ = some (.slice (some ⟨gw5, 0, none⟩) n n) ∧ w'.cell? ⟨bB, 0, none⟩ = some (.int .i64 W) ∧ w'.cell? ⟨bB, 1, none⟩ = some (.slice a n cap))
      (first
        | exact ⟨VX_w8.c0, VX_w8.c1, VB_w8.c0, VB_w8.c1⟩
        | exact ⟨xx6.c0, xx6.c1, bb6.c0, bb6.c1⟩
        | exact ⟨xx7.c0, xx7.c1, bb7.c0, bb7.c1⟩)
      (first
        | (go_at_call 16
           refine (lToRegion w.heap.size n cap a W l _ hn (HC.out.on (h_w8).drew) h_w8.size).mono ?_
           rintro e w9 ⟨gw9, rfl, OY_w9, hbb⟩
           have xx6 : RgAt w9 bX W (.slice (some ⟨gw5, 0, none⟩) n n) := RgAt.on (w := w8.drew) VX_w8 hbb VX_w8.lt
           have bb6 : LgAt w9 bB W (.slice a n cap) := LgAt.on (w := w8.drew) VB_w8 hbb VB_w8.lt
           have hbd : Below w8.heap.size w8 w9 := ((Below.refl _ w8).drew).trans hbb)
        | (go_at_call 18
           refine (lEqR w9.heap.size W _ _ l w9 hl4 (IsRd.of_own2 (OX_w8.kept (grow_below hbd none) (Classical.em _))) (IsRd.of_own2 OY_w9) (Nat.le_refl _)).mono ?_
           rintro e w10 ⟨rfl, hbe⟩
           have xx7 := xx6.on hbe xx6.lt
           have bb7 := bb6.on hbe bb6.lt))
    have hbq : Below w8.heap.size w8 w10 := hbd.trans (hbe.mono hbd.size)
    clear hbd hbe hbb xx6 bb6 xx7 bb7 OY_w9
    clear qB0 qB1 qX0 qX1
    have VB_w10 := VB_w8.on hbq VB_w8.lt
    have VX_w10 := VX_w8.on hbq VX_w8.lt
    have OA_w10 := OA_w8.kept (grow_below hbq none) (Classical.em _)
    have OS_w10 := OS_w8.kept (grow_below hbq none) (Classical.em _)
    have OX_w10 := OX_w8.kept (grow_below hbq none) (Classical.em _)
    have OG_w10 := OG_w8.kept (grow_below hbq none) (Classical.em _)
    have h_w10 := h_w8.trans (hbq.mono h_w8.size)
    have s_w10 := hbq.size
    clear VB_w8 VX_w8 OA_w8 OS_w8 OX_w8 OG_w8 h_w8
    clear hbq
    have qB0 := VB_w10.c0
    have qB1 := VB_w10.c1
    have qX0 := VX_w10.c0
    have qX1 := VX_w10.c1
    go_wp2_with fail
    refine (lMarkR _ W _ l 1 w10 hl4 (by omega) (by omega) (by rw [hln]; exact OX_w10)).mono ?_
    rintro e w11 ⟨rfl, OX_w11, hgg⟩
    rw [hln] at OX_w11
    rw [hln]
    clear qB0 qB1 qX0 qX1
    have VB_w11 := VB_w10.by hgg (ne_blkT TX (by omega))
    have VX_w11 := VX_w10.by hgg (ne_blkT TX (by omega))
    have OA_w11 := OA_w10.kept hgg (ne_rowT TA TX (by omega))
    have OS_w11 := OS_w10.kept hgg (ne_rowT TS TX (by omega))
    have OG_w11 := OG_w10.kept hgg (ne_rowT TG TX (by omega))
    have h_w11 := h_w10.grown hgg h_w10.size (fun j hj => by have := TX j hj; omega)
    have s_w11 := hgg.size
    clear VB_w10 VX_w10 OA_w10 OS_w10 OG_w10 h_w10
    clear hgg
    have qB0 := VB_w11.c0
    have qB1 := VB_w11.c1
    have qX0 := VX_w11.c0
    have qX1 := VX_w11.c1
    go_wp2_with fail
    refine (lEqCellS_any w11.heap.size zs.length zs.length _ _ _ _ zs zs w11 hz4 (CellsAt.of_own OG_w11 HIN.out) (CellsAt.of_own OS_w11 HIN.out) (Nat.le_refl _)).mono ?_
    rintro e w12 ⟨rfl, hbb⟩
    rw [HF.out]
    clear qB0 qB1 qX0 qX1
    have VB_w12 := VB_w11.on hbb VB_w11.lt
    have VX_w12 := VX_w11.on hbb VX_w11.lt
    have OA_w12 := OA_w11.kept (grow_below hbb none) (Classical.em _)
    have OS_w12 := OS_w11.kept (grow_below hbb none) (Classical.em _)
    have OX_w12 := OX_w11.kept (grow_below hbb none) (Classical.em _)
    have OG_w12 := OG_w11.kept (grow_below hbb none) (Classical.em _)
    have h_w12 := h_w11.trans (hbb.mono h_w11.size)
    have s_w12 := hbb.size
    clear VB_w11 VX_w11 OA_w11 OS_w11 OX_w11 OG_w11 h_w11
    clear hbb
    have qB0 := VB_w12.c0
    have qB1 := VB_w12.c1
    have qX0 := VX_w12.c0
    have qX1 := VX_w12.c1
    go_wp2_with fail
    refine (lMark_any _ zs.length _ _ 1 zs w12 hz4 (by omega) (by omega) rfl OG_w12).mono ?_
    rintro e w13 ⟨rfl, OG_w13, hgg⟩
    clear qB0 qB1 qX0 qX1
    have VB_w13 := VB_w12.by hgg (ne_blkT TG (by omega))
    have VX_w13 := VX_w12.by hgg (ne_blkT TG (by omega))
    have OA_w13 := OA_w12.kept hgg (ne_rowT TA TG (by omega))
    have OS_w13 := OS_w12.kept hgg (ne_rowT TS TG (by omega))
    have OX_w13 := OX_w12.kept hgg (ne_rowT TX TG (by omega))
    have h_w13 := h_w12.grown hgg h_w12.size (fun j hj => by have := TG j hj; omega)
    have s_w13 := hgg.size
    clear VB_w12 VX_w12 OA_w12 OS_w12 OX_w12 h_w12
    clear hgg
    have qB0 := VB_w13.c0
    have qB1 := VB_w13.c1
    have qX0 := VX_w13.c0
    have qX1 := VX_w13.c1
    go_wp2_with fail
    refine (lHeld w13.heap.size zs.length _ _ 1 w13 hz4 (by omega) (by omega) (CellsAt.of_own OG_w13 (marks_in 1 zs.length (by omega) (by omega)))).mono ?_
    rintro e w14 ⟨rfl, ww⟩
    have hbb : Below w13.heap.size w13 w14 := by rw [← ww]; exact Below.refl _ _
    rw [← ww]
    clear qB0 qB1 qX0 qX1
    have VB_w14 := VB_w13.on hbb VB_w13.lt
    have VX_w14 := VX_w13.on hbb VX_w13.lt
    have OA_w14 := OA_w13.kept (grow_below hbb none) (Classical.em _)
    have OS_w14 := OS_w13.kept (grow_below hbb none) (Classical.em _)
    have OX_w14 := OX_w13.kept (grow_below hbb none) (Classical.em _)
    have OG_w14 := OG_w13.kept (grow_below hbb none) (Classical.em _)
    have h_w14 := h_w13.trans (hbb.mono h_w13.size)
    have s_w14 := hbb.size
    clear VB_w13 VX_w13 OA_w13 OS_w13 OX_w13 OG_w13 h_w13
    clear hbb
    have qB0 := VB_w14.c0
    have qB1 := VB_w14.c1
    have qX0 := VX_w14.c0
    have qX1 := VX_w14.c1
    go_wp2_with fail
    refine (lToRegion w.heap.size n cap a W l w14 hn (HC.out.on h_w14) h_w14.size).mono ?_
    rintro e w15 ⟨gw15, rfl, OZ_w15, hbb⟩
    clear qB0 qB1 qX0 qX1
    have VB_w15 := VB_w14.on hbb VB_w14.lt
    have VX_w15 := VX_w14.on hbb VX_w14.lt
    have OA_w15 := OA_w14.kept (grow_below hbb none) (Classical.em _)
    have OS_w15 := OS_w14.kept (grow_below hbb none) (Classical.em _)
    have OX_w15 := OX_w14.kept (grow_below hbb none) (Classical.em _)
    have OG_w15 := OG_w14.kept (grow_below hbb none) (Classical.em _)
    have h_w15 := h_w14.trans (hbb.mono h_w14.size)
    have s_w15 := hbb.size
    clear VB_w14 VX_w14 OA_w14 OS_w14 OX_w14 OG_w14 h_w14
    have TZ := OZ_w15.lt
    clear hbb
    have qB0 := VB_w15.c0
    have qB1 := VB_w15.c1
    have qX0 := VX_w15.c0
    have qX1 := VX_w15.c1
    go_wp2_with fail
    refine (iCells w15.heap.size n n _ W l w15 hn4 (IntsAt.of_own OZ_w15 HC.out.2.1) (Nat.le_refl _)).mono ?_
    rintro e w16 ⟨vw16, rfl, OK_w16, hbb⟩
    rw [HZ.out] at OK_w16
    obtain ⟨aw16, cw16, rfl⟩ := own_slice OK_w16
    clear qB0 qB1 qX0 qX1
    have VB_w16 := VB_w15.on hbb VB_w15.lt
    have VX_w16 := VX_w15.on hbb VX_w15.lt
    have OA_w16 := OA_w15.kept (grow_below hbb none) (Classical.em _)
    have OS_w16 := OS_w15.kept (grow_below hbb none) (Classical.em _)
    have OX_w16 := OX_w15.kept (grow_below hbb none) (Classical.em _)
    have OG_w16 := OG_w15.kept (grow_below hbb none) (Classical.em _)
    have OZ_w16 := OZ_w15.kept (grow_below hbb none) (Classical.em _)
    have h_w16 := h_w15.trans (hbb.mono h_w15.size)
    have s_w16 := hbb.size
    clear VB_w15 VX_w15 OA_w15 OS_w15 OX_w15 OG_w15 OZ_w15 h_w15
    have TK := OK_w16.lt
    clear hbb
    have qB0 := VB_w16.c0
    have qB1 := VB_w16.c1
    have qX0 := VX_w16.c0
    have qX1 := VX_w16.c1
    go_wp2_with fail
    refine (lEqCellS_any w16.heap.size zs.length zs.length _ _ _ _ zs zs w16 hz4 (CellsAt.of_own OK_w16 HIN.out) (CellsAt.of_own OS_w16 HIN.out) (Nat.le_refl _)).mono ?_
    rintro e w17 ⟨rfl, hbb⟩
    rw [HF.out]
    clear qB0 qB1 qX0 qX1
    have VB_w17 := VB_w16.on hbb VB_w16.lt
    have VX_w17 := VX_w16.on hbb VX_w16.lt
    have OA_w17 := OA_w16.kept (grow_below hbb none) (Classical.em _)
    have OS_w17 := OS_w16.kept (grow_below hbb none) (Classical.em _)
    have OX_w17 := OX_w16.kept (grow_below hbb none) (Classical.em _)
    have OG_w17 := OG_w16.kept (grow_below hbb none) (Classical.em _)
    have OZ_w17 := OZ_w16.kept (grow_below hbb none) (Classical.em _)
    have OK_w17 := OK_w16.kept (grow_below hbb none) (Classical.em _)
    have h_w17 := h_w16.trans (hbb.mono h_w16.size)
    have s_w17 := hbb.size
    clear VB_w16 VX_w16 OA_w16 OS_w16 OX_w16 OG_w16 OZ_w16 OK_w16 h_w16
    clear hbb
    have qB0 := VB_w17.c0
    have qB1 := VB_w17.c1
    have qX0 := VX_w17.c0
    have qX1 := VX_w17.c1
    go_wp2_with fail
    refine (lHeld w17.heap.size zs.length _ _ 1 w17 hz4 (by omega) (by omega) (CellsAt.of_own OG_w17 (marks_in 1 zs.length (by omega) (by omega)))).mono ?_
    rintro e w18 ⟨rfl, ww⟩
    have hbb : Below w17.heap.size w17 w18 := by rw [← ww]; exact Below.refl _ _
    rw [← ww]
    clear qB0 qB1 qX0 qX1
    have VB_w18 := VB_w17.on hbb VB_w17.lt
    have VX_w18 := VX_w17.on hbb VX_w17.lt
    have OA_w18 := OA_w17.kept (grow_below hbb none) (Classical.em _)
    have OS_w18 := OS_w17.kept (grow_below hbb none) (Classical.em _)
    have OX_w18 := OX_w17.kept (grow_below hbb none) (Classical.em _)
    have OG_w18 := OG_w17.kept (grow_below hbb none) (Classical.em _)
    have OZ_w18 := OZ_w17.kept (grow_below hbb none) (Classical.em _)
    have OK_w18 := OK_w17.kept (grow_below hbb none) (Classical.em _)
    have h_w18 := h_w17.trans (hbb.mono h_w17.size)
    have s_w18 := hbb.size
    clear VB_w17 VX_w17 OA_w17 OS_w17 OX_w17 OG_w17 OZ_w17 OK_w17 h_w17
    clear hbb
    go_wp2
    go_ret
    exact ⟨rfl, h_w18⟩

set_option maxHeartbeats 4000000 in
set_option maxRecDepth 100000 in
theorem law_ColorCount (W : Int) (a : Option Addr) (n cap : Nat) (l : List Int) (x : Int) (_ : (Lit.int .i64 x).wf = true) (w : World) (hc : IntsAt w.heap.size w a n l) (hm : n ≤ maxLen) :
    Calls Try.prog 11 #[.agg #[.int .i64 W, .slice a n cap], .int .i64 x] w fun e w' => e = .returned (.bool true) ∧ Below w.heap.size w w' := by
  have hm2 : n ≤ 9223372036854775807 := by unfold maxLen at hm; omega
  have HC := Lib.hid hc
  have hln := hc.1
  clear hc hm
  obtain ⟨zs, hzs⟩ : ∃ zs, colR W l x = zs := ⟨_, rfl⟩
  have HZ := Lib.hid hzs
  have hzb : zs.length ≤ 36 := by rw [← hzs]; exact Nat.le_trans (colR_len W l x) (by omega)
  clear hzs
  by_cases hs : (1048576 : Int) < n
  · go_enter Try.func11, Try.ntmps11
    have VB_w1 := LgAt.new (w := w) W (.slice a n cap) rfl
    obtain ⟨bB, hbB⟩ : ∃ b, w.heap.size = b := ⟨_, rfl⟩
    have h_w1 := (Below.refl w.heap.size w).alloc (Nat.le_refl _) (.cells #[.int .i64 W, .slice a n cap] 24)
    have s_w1 : (w.alloc (.cells #[.int .i64 W, .slice a n cap] 24)).heap.size = bB + 1 := by simp [hbB]
    rw [hbB] at VB_w1
    have qB0 := VB_w1.c0
    have qB1 := VB_w1.c1
    go_wp2_with fail
    generalize (w.alloc (.cells #[.int .i64 W, .slice a n cap] 24)) = w1 at *
    refine (lSzR_big W a n cap 1048576 _ (by omega) hs hm2).mono ?_
    rintro e w' ⟨rfl, hb0⟩
    go_wp2
    go_ret
    exact ⟨rfl, h_w1.trans (hb0.mono h_w1.size)⟩
  · have hn : n ≤ 1048576 := by omega
    have hn4 : n ≤ 4194304 := by omega
    have hl4 : l.length ≤ 4194304 := by rw [hln]; omega
    have hk1 : ¬ ((1 : Int) + (n : Int) < 0) := by omega
    have hz4 : zs.length ≤ 4194304 := by omega
    have hk2 : ¬ ((1 : Int) + (zs.length : Int) < 0) := by omega
    have hk3 : (((1 : Int) + (zs.length : Int)) != (1 + (zs.length : Int))) = false := by simp
    go_enter Try.func11, Try.ntmps11
    have VB_w1 := LgAt.new (w := w) W (.slice a n cap) rfl
    obtain ⟨bB, hbB⟩ : ∃ b, w.heap.size = b := ⟨_, rfl⟩
    have h_w1 := (Below.refl w.heap.size w).alloc (Nat.le_refl _) (.cells #[.int .i64 W, .slice a n cap] 24)
    have s_w1 : (w.alloc (.cells #[.int .i64 W, .slice a n cap] 24)).heap.size = bB + 1 := by simp [hbB]
    rw [hbB] at VB_w1
    have qB0 := VB_w1.c0
    have qB1 := VB_w1.c1
    go_wp2_with fail
    generalize (w.alloc (.cells #[.int .i64 W, .slice a n cap] 24)) = w1 at *
    refine (lSzR_fits W a n cap 1048576 _ (by omega) (by omega)).mono ?_
    rintro e w2 ⟨rfl, hbb⟩
    clear qB0 qB1
    have VB_w2 := VB_w1.on hbb VB_w1.lt
    have h_w2 := h_w1.trans (hbb.mono h_w1.size)
    have s_w2 := hbb.size
    clear VB_w1 h_w1
    clear hbb
    have qB0 := VB_w2.c0
    have qB1 := VB_w2.c1
    go_wp2_with fail
    refine (lToRegion w.heap.size n cap a W l w2 hn (HC.out.on h_w2) h_w2.size).mono ?_
    rintro e w3 ⟨gw3, rfl, OA_w3, hbb⟩
    clear qB0 qB1
    have VB_w3 := VB_w2.on hbb VB_w2.lt
    have h_w3 := h_w2.trans (hbb.mono h_w2.size)
    have s_w3 := hbb.size
    clear VB_w2 h_w2
    have TA := OA_w3.lt
    clear hbb
    have qB0 := VB_w3.c0
    have qB1 := VB_w3.c1
    go_wp2_with fail
    refine (sCol w3.heap.size n n _ W x l w3 hn4 (IntsAt.of_own OA_w3 HC.out.2.1) (Nat.le_refl _)).mono ?_
    rintro e w4 ⟨vw4, rfl, OS_w4, hbb⟩
    rw [HZ.out] at OS_w4
    clear qB0 qB1
    have VB_w4 := VB_w3.on hbb VB_w3.lt
    have OA_w4 := OA_w3.kept (grow_below hbb none) (Classical.em _)
    have h_w4 := h_w3.trans (hbb.mono h_w3.size)
    have s_w4 := hbb.size
    clear VB_w3 OA_w3 h_w3
    have TS := OS_w4.lt
    clear hbb
    have qB0 := VB_w4.c0
    have qB1 := VB_w4.c1
    go_wp2_with fail
    refine (lToRegion w.heap.size n cap a W l w4 hn (HC.out.on h_w4) h_w4.size).mono ?_
    rintro e w5 ⟨gw5, rfl, OX_w5, hbb⟩
    clear qB0 qB1
    have VB_w5 := VB_w4.on hbb VB_w4.lt
    have OA_w5 := OA_w4.kept (grow_below hbb none) (Classical.em _)
    have OS_w5 := OS_w4.kept (grow_below hbb none) (Classical.em _)
    have h_w5 := h_w4.trans (hbb.mono h_w4.size)
    have s_w5 := hbb.size
    clear VB_w4 OA_w4 OS_w4 h_w4
    have TX := OX_w5.lt
    clear hbb
    obtain ⟨bX, hbX⟩ : ∃ b, w5.heap.size = b := ⟨_, rfl⟩
    have VX_w6 := RgAt.new (w := w5) W (.slice (some ⟨gw5, 0, none⟩) n n) hbX
    have VB_w6 := VB_w5.alloc (.cells #[.int .i64 W, .slice (some ⟨gw5, 0, none⟩) n n] 27)
    have OA_w6 := OA_w5.alloc (.cells #[.int .i64 W, .slice (some ⟨gw5, 0, none⟩) n n] 27)
    have OS_w6 := OS_w5.alloc (.cells #[.int .i64 W, .slice (some ⟨gw5, 0, none⟩) n n] 27)
    have OX_w6 := OX_w5.alloc (.cells #[.int .i64 W, .slice (some ⟨gw5, 0, none⟩) n n] 27)
    have h_w6 := h_w5.alloc h_w5.size (.cells #[.int .i64 W, .slice (some ⟨gw5, 0, none⟩) n n] 27)
    have s_w6 : (w5.alloc (.cells #[.int .i64 W, .slice (some ⟨gw5, 0, none⟩) n n] 27)).heap.size = bX + 1 := by simp [hbX]
    clear VB_w5 OA_w5 OS_w5 OX_w5 h_w5
    have qB0 := VB_w6.c0
    have qB1 := VB_w6.c1
    have qX0 := VX_w6.c0
    have qX1 := VX_w6.c1
    go_wp2_with fail
    generalize (w5.alloc (.cells #[.int .i64 W, .slice (some ⟨gw5, 0, none⟩) n n] 27)) = w6 at *
    refine (iCol w6.heap.size n n _ W x l w6 hn4 (IntsAt.of_own OX_w6 HC.out.2.1) (Nat.le_refl _)).mono ?_
    rintro e w7 ⟨vw7, rfl, OG_w7, hbb⟩
    rw [HZ.out] at OG_w7
    clear qB0 qB1 qX0 qX1
    have VB_w7 := VB_w6.on hbb VB_w6.lt
    have VX_w7 := VX_w6.on hbb VX_w6.lt
    have OA_w7 := OA_w6.kept (grow_below hbb none) (Classical.em _)
    have OS_w7 := OS_w6.kept (grow_below hbb none) (Classical.em _)
    have OX_w7 := OX_w6.kept (grow_below hbb none) (Classical.em _)
    have h_w7 := h_w6.trans (hbb.mono h_w6.size)
    have s_w7 := hbb.size
    clear VB_w6 VX_w6 OA_w6 OS_w6 OX_w6 h_w6
    have TG := OG_w7.lt
    clear hbb
    have qB0 := VB_w7.c0
    have qB1 := VB_w7.c1
    have qX0 := VX_w7.c0
    have qX1 := VX_w7.c1
    go_wp2_with fail
    refine (lEqI w7.heap.size _ _ zs w7 hz4 (IsRd.of_own (zs := zs) OG_w7) (IsRd.of_own (zs := zs) OS_w7) (Nat.le_refl _)).mono ?_
    rintro e w8 ⟨rfl, hbb⟩
    clear qB0 qB1 qX0 qX1
    have VB_w8 := VB_w7.on hbb VB_w7.lt
    have VX_w8 := VX_w7.on hbb VX_w7.lt
    have OA_w8 := OA_w7.kept (grow_below hbb none) (Classical.em _)
    have OS_w8 := OS_w7.kept (grow_below hbb none) (Classical.em _)
    have OX_w8 := OX_w7.kept (grow_below hbb none) (Classical.em _)
    have OG_w8 := OG_w7.kept (grow_below hbb none) (Classical.em _)
    have h_w8 := h_w7.trans (hbb.mono h_w7.size)
    have s_w8 := hbb.size
    clear VB_w7 VX_w7 OA_w7 OS_w7 OX_w7 OG_w7 h_w7
    clear hbb
    have qB0 := VB_w8.c0
    have qB1 := VB_w8.c1
    have qX0 := VX_w8.c0
    have qX1 := VX_w8.c1
    go_wp2_with fail
    go_region_held3 (fun w' => w'.cell? ⟨bX, 0, none⟩ = some (.int .i64 W) ∧ w'.cell? ⟨bX, 1, none⟩ = some (.slice (some ⟨gw5, 0, none⟩) n n) ∧ w'.cell? ⟨bB, 0, none⟩ = some (.int .i64 W) ∧ w'.cell? ⟨bB, 1, none⟩ = some (.slice a n cap))
      (first
        | exact ⟨VX_w8.c0, VX_w8.c1, VB_w8.c0, VB_w8.c1⟩
        | exact ⟨xx6.c0, xx6.c1, bb6.c0, bb6.c1⟩
        | exact ⟨xx7.c0, xx7.c1, bb7.c0, bb7.c1⟩)
      (first
        | (go_at_call 16
           refine (lToRegion w.heap.size n cap a W l _ hn (HC.out.on (h_w8).drew) h_w8.size).mono ?_
           rintro e w9 ⟨gw9, rfl, OY_w9, hbb⟩
           have xx6 : RgAt w9 bX W (.slice (some ⟨gw5, 0, none⟩) n n) := RgAt.on (w := w8.drew) VX_w8 hbb VX_w8.lt
           have bb6 : LgAt w9 bB W (.slice a n cap) := LgAt.on (w := w8.drew) VB_w8 hbb VB_w8.lt
           have hbd : Below w8.heap.size w8 w9 := ((Below.refl _ w8).drew).trans hbb)
        | (go_at_call 18
           refine (lEqR w9.heap.size W _ _ l w9 hl4 (IsRd.of_own2 (OX_w8.kept (grow_below hbd none) (Classical.em _))) (IsRd.of_own2 OY_w9) (Nat.le_refl _)).mono ?_
           rintro e w10 ⟨rfl, hbe⟩
           have xx7 := xx6.on hbe xx6.lt
           have bb7 := bb6.on hbe bb6.lt))
    have hbq : Below w8.heap.size w8 w10 := hbd.trans (hbe.mono hbd.size)
    clear hbd hbe hbb xx6 bb6 xx7 bb7 OY_w9
    clear qB0 qB1 qX0 qX1
    have VB_w10 := VB_w8.on hbq VB_w8.lt
    have VX_w10 := VX_w8.on hbq VX_w8.lt
    have OA_w10 := OA_w8.kept (grow_below hbq none) (Classical.em _)
    have OS_w10 := OS_w8.kept (grow_below hbq none) (Classical.em _)
    have OX_w10 := OX_w8.kept (grow_below hbq none) (Classical.em _)
    have OG_w10 := OG_w8.kept (grow_below hbq none) (Classical.em _)
    have h_w10 := h_w8.trans (hbq.mono h_w8.size)
    have s_w10 := hbq.size
    clear VB_w8 VX_w8 OA_w8 OS_w8 OX_w8 OG_w8 h_w8
    clear hbq
    have qB0 := VB_w10.c0
    have qB1 := VB_w10.c1
    have qX0 := VX_w10.c0
    have qX1 := VX_w10.c1
    go_wp2_with fail
    refine (lMarkR _ W _ l 1 w10 hl4 (by omega) (by omega) (by rw [hln]; exact OX_w10)).mono ?_
    rintro e w11 ⟨rfl, OX_w11, hgg⟩
    rw [hln] at OX_w11
    rw [hln]
    clear qB0 qB1 qX0 qX1
    have VB_w11 := VB_w10.by hgg (ne_blkT TX (by omega))
    have VX_w11 := VX_w10.by hgg (ne_blkT TX (by omega))
    have OA_w11 := OA_w10.kept hgg (ne_rowT TA TX (by omega))
    have OS_w11 := OS_w10.kept hgg (ne_rowT TS TX (by omega))
    have OG_w11 := OG_w10.kept hgg (ne_rowT TG TX (by omega))
    have h_w11 := h_w10.grown hgg h_w10.size (fun j hj => by have := TX j hj; omega)
    have s_w11 := hgg.size
    clear VB_w10 VX_w10 OA_w10 OS_w10 OG_w10 h_w10
    clear hgg
    have qB0 := VB_w11.c0
    have qB1 := VB_w11.c1
    have qX0 := VX_w11.c0
    have qX1 := VX_w11.c1
    go_wp2_with fail
    refine (lEqI w11.heap.size _ _ zs w11 hz4 (IsRd.of_own (zs := zs) OG_w11) (IsRd.of_own (zs := zs) OS_w11) (Nat.le_refl _)).mono ?_
    rintro e w12 ⟨rfl, hbb⟩
    clear qB0 qB1 qX0 qX1
    have VB_w12 := VB_w11.on hbb VB_w11.lt
    have VX_w12 := VX_w11.on hbb VX_w11.lt
    have OA_w12 := OA_w11.kept (grow_below hbb none) (Classical.em _)
    have OS_w12 := OS_w11.kept (grow_below hbb none) (Classical.em _)
    have OX_w12 := OX_w11.kept (grow_below hbb none) (Classical.em _)
    have OG_w12 := OG_w11.kept (grow_below hbb none) (Classical.em _)
    have h_w12 := h_w11.trans (hbb.mono h_w11.size)
    have s_w12 := hbb.size
    clear VB_w11 VX_w11 OA_w11 OS_w11 OX_w11 OG_w11 h_w11
    clear hbb
    have qB0 := VB_w12.c0
    have qB1 := VB_w12.c1
    have qX0 := VX_w12.c0
    have qX1 := VX_w12.c1
    go_wp2_with fail
    refine (lMarkI _ _ zs 1 w12 hz4 (by omega) (by omega) OG_w12).mono ?_
    rintro e w13 ⟨rfl, OG_w13, hgg⟩
    clear qB0 qB1 qX0 qX1
    have VB_w13 := VB_w12.by hgg (ne_blkT TG (by omega))
    have VX_w13 := VX_w12.by hgg (ne_blkT TG (by omega))
    have OA_w13 := OA_w12.kept hgg (ne_rowT TA TG (by omega))
    have OS_w13 := OS_w12.kept hgg (ne_rowT TS TG (by omega))
    have OX_w13 := OX_w12.kept hgg (ne_rowT TX TG (by omega))
    have h_w13 := h_w12.grown hgg h_w12.size (fun j hj => by have := TG j hj; omega)
    have s_w13 := hgg.size
    clear VB_w12 VX_w12 OA_w12 OS_w12 OX_w12 h_w12
    clear hgg
    have qB0 := VB_w13.c0
    have qB1 := VB_w13.c1
    have qX0 := VX_w13.c0
    have qX1 := VX_w13.c1
    go_wp2_with fail
    refine (lHeldI w13.heap.size zs.length _ 1 w13 hz4 (by omega) (by omega) (IsRd.of_own (zs := marksI 1 zs.length) (by rw [marksI_length]; exact OG_w13)) (Nat.le_refl _)).mono ?_
    rintro e w14 ⟨rfl, hbb⟩
    clear qB0 qB1 qX0 qX1
    have VB_w14 := VB_w13.on hbb VB_w13.lt
    have VX_w14 := VX_w13.on hbb VX_w13.lt
    have OA_w14 := OA_w13.kept (grow_below hbb none) (Classical.em _)
    have OS_w14 := OS_w13.kept (grow_below hbb none) (Classical.em _)
    have OX_w14 := OX_w13.kept (grow_below hbb none) (Classical.em _)
    have OG_w14 := OG_w13.kept (grow_below hbb none) (Classical.em _)
    have h_w14 := h_w13.trans (hbb.mono h_w13.size)
    have s_w14 := hbb.size
    clear VB_w13 VX_w13 OA_w13 OS_w13 OX_w13 OG_w13 h_w13
    clear hbb
    have qB0 := VB_w14.c0
    have qB1 := VB_w14.c1
    have qX0 := VX_w14.c0
    have qX1 := VX_w14.c1
    go_wp2_with fail
    refine (lToRegion w.heap.size n cap a W l w14 hn (HC.out.on h_w14) h_w14.size).mono ?_
    rintro e w15 ⟨gw15, rfl, OZ_w15, hbb⟩
    clear qB0 qB1 qX0 qX1
    have VB_w15 := VB_w14.on hbb VB_w14.lt
    have VX_w15 := VX_w14.on hbb VX_w14.lt
    have OA_w15 := OA_w14.kept (grow_below hbb none) (Classical.em _)
    have OS_w15 := OS_w14.kept (grow_below hbb none) (Classical.em _)
    have OX_w15 := OX_w14.kept (grow_below hbb none) (Classical.em _)
    have OG_w15 := OG_w14.kept (grow_below hbb none) (Classical.em _)
    have h_w15 := h_w14.trans (hbb.mono h_w14.size)
    have s_w15 := hbb.size
    clear VB_w14 VX_w14 OA_w14 OS_w14 OX_w14 OG_w14 h_w14
    have TZ := OZ_w15.lt
    clear hbb
    have qB0 := VB_w15.c0
    have qB1 := VB_w15.c1
    have qX0 := VX_w15.c0
    have qX1 := VX_w15.c1
    go_wp2_with fail
    refine (iCol w15.heap.size n n _ W x l w15 hn4 (IntsAt.of_own OZ_w15 HC.out.2.1) (Nat.le_refl _)).mono ?_
    rintro e w16 ⟨vw16, rfl, OK_w16, hbb⟩
    rw [HZ.out] at OK_w16
    clear qB0 qB1 qX0 qX1
    have VB_w16 := VB_w15.on hbb VB_w15.lt
    have VX_w16 := VX_w15.on hbb VX_w15.lt
    have OA_w16 := OA_w15.kept (grow_below hbb none) (Classical.em _)
    have OS_w16 := OS_w15.kept (grow_below hbb none) (Classical.em _)
    have OX_w16 := OX_w15.kept (grow_below hbb none) (Classical.em _)
    have OG_w16 := OG_w15.kept (grow_below hbb none) (Classical.em _)
    have OZ_w16 := OZ_w15.kept (grow_below hbb none) (Classical.em _)
    have h_w16 := h_w15.trans (hbb.mono h_w15.size)
    have s_w16 := hbb.size
    clear VB_w15 VX_w15 OA_w15 OS_w15 OX_w15 OG_w15 OZ_w15 h_w15
    have TK := OK_w16.lt
    clear hbb
    have qB0 := VB_w16.c0
    have qB1 := VB_w16.c1
    have qX0 := VX_w16.c0
    have qX1 := VX_w16.c1
    go_wp2_with fail
    refine (lEqI w16.heap.size _ _ zs w16 hz4 (IsRd.of_own (zs := zs) OK_w16) (IsRd.of_own (zs := zs) OS_w16) (Nat.le_refl _)).mono ?_
    rintro e w17 ⟨rfl, hbb⟩
    clear qB0 qB1 qX0 qX1
    have VB_w17 := VB_w16.on hbb VB_w16.lt
    have VX_w17 := VX_w16.on hbb VX_w16.lt
    have OA_w17 := OA_w16.kept (grow_below hbb none) (Classical.em _)
    have OS_w17 := OS_w16.kept (grow_below hbb none) (Classical.em _)
    have OX_w17 := OX_w16.kept (grow_below hbb none) (Classical.em _)
    have OG_w17 := OG_w16.kept (grow_below hbb none) (Classical.em _)
    have OZ_w17 := OZ_w16.kept (grow_below hbb none) (Classical.em _)
    have OK_w17 := OK_w16.kept (grow_below hbb none) (Classical.em _)
    have h_w17 := h_w16.trans (hbb.mono h_w16.size)
    have s_w17 := hbb.size
    clear VB_w16 VX_w16 OA_w16 OS_w16 OX_w16 OG_w16 OZ_w16 OK_w16 h_w16
    clear hbb
    have qB0 := VB_w17.c0
    have qB1 := VB_w17.c1
    have qX0 := VX_w17.c0
    have qX1 := VX_w17.c1
    go_wp2_with fail
    refine (lHeldI w17.heap.size zs.length _ 1 w17 hz4 (by omega) (by omega) (IsRd.of_own (zs := marksI 1 zs.length) (by rw [marksI_length]; exact OG_w17)) (Nat.le_refl _)).mono ?_
    rintro e w18 ⟨rfl, hbb⟩
    clear qB0 qB1 qX0 qX1
    have VB_w18 := VB_w17.on hbb VB_w17.lt
    have VX_w18 := VX_w17.on hbb VX_w17.lt
    have OA_w18 := OA_w17.kept (grow_below hbb none) (Classical.em _)
    have OS_w18 := OS_w17.kept (grow_below hbb none) (Classical.em _)
    have OX_w18 := OX_w17.kept (grow_below hbb none) (Classical.em _)
    have OG_w18 := OG_w17.kept (grow_below hbb none) (Classical.em _)
    have OZ_w18 := OZ_w17.kept (grow_below hbb none) (Classical.em _)
    have OK_w18 := OK_w17.kept (grow_below hbb none) (Classical.em _)
    have h_w18 := h_w17.trans (hbb.mono h_w17.size)
    have s_w18 := hbb.size
    clear VB_w17 VX_w17 OA_w17 OS_w17 OX_w17 OG_w17 OZ_w17 OK_w17 h_w17
    clear hbb
    go_wp2
    go_ret
    exact ⟨rfl, h_w18⟩

set_option maxHeartbeats 4000000 in
set_option maxRecDepth 100000 in
theorem law_RemoveCell (W : Int) (a : Option Addr) (n cap : Nat) (l : List Int) (x : Int) (y : Int) (_ : (Lit.int .i64 x).wf = true) (_ : (Lit.int .i64 y).wf = true) (w : World) (hc : IntsAt w.heap.size w a n l) (hm : n ≤ maxLen) :
    Calls Try.prog 9 #[.agg #[.int .i64 W, .slice a n cap], .int .i64 x, .int .i64 y] w fun e w' => e = .returned (.bool true) ∧ Below w.heap.size w w' := by
  have hm2 : n ≤ 9223372036854775807 := by unfold maxLen at hm; omega
  have HC := Lib.hid hc
  have hln := hc.1
  clear hc hm
  obtain ⟨zs, hzs⟩ : ∃ zs, remR W l x y = zs := ⟨_, rfl⟩
  have HZ := Lib.hid hzs
  obtain ⟨rt, hrt⟩ : ∃ z, cellB W l x y = z := ⟨_, rfl⟩
  have HT := Lib.hid hrt
  clear hrt
  have hne : (rt != rt) = false := by simp
  have HZN := Lib.hid (show zs.length = n from by rw [← hzs, remR_len]; exact HC.out.1)
  clear hzs
  by_cases hs : (1048576 : Int) < n
  · go_enter Try.func9, Try.ntmps9
    have VB_w1 := LgAt.new (w := w) W (.slice a n cap) rfl
    obtain ⟨bB, hbB⟩ : ∃ b, w.heap.size = b := ⟨_, rfl⟩
    have h_w1 := (Below.refl w.heap.size w).alloc (Nat.le_refl _) (.cells #[.int .i64 W, .slice a n cap] 24)
    have s_w1 : (w.alloc (.cells #[.int .i64 W, .slice a n cap] 24)).heap.size = bB + 1 := by simp [hbB]
    rw [hbB] at VB_w1
    have qB0 := VB_w1.c0
    have qB1 := VB_w1.c1
    go_wp2_with fail
    generalize (w.alloc (.cells #[.int .i64 W, .slice a n cap] 24)) = w1 at *
    refine (lSzR_big W a n cap 1048576 _ (by omega) hs hm2).mono ?_
    rintro e w' ⟨rfl, hb0⟩
    go_wp2
    go_ret
    exact ⟨rfl, h_w1.trans (hb0.mono h_w1.size)⟩
  · have hn : n ≤ 1048576 := by omega
    have hn4 : n ≤ 4194304 := by omega
    have hl4 : l.length ≤ 4194304 := by rw [hln]; omega
    have hk1 : ¬ ((1 : Int) + (n : Int) < 0) := by omega
    have hz4 : zs.length ≤ 4194304 := by have := HZN.out; omega
    have hk2 : ¬ ((1 : Int) + (zs.length : Int) < 0) := by omega
    have hk3 : (((1 : Int) + (zs.length : Int)) != (1 + (zs.length : Int))) = false := by simp
    go_enter Try.func9, Try.ntmps9
    have VB_w1 := LgAt.new (w := w) W (.slice a n cap) rfl
    obtain ⟨bB, hbB⟩ : ∃ b, w.heap.size = b := ⟨_, rfl⟩
    have h_w1 := (Below.refl w.heap.size w).alloc (Nat.le_refl _) (.cells #[.int .i64 W, .slice a n cap] 24)
    have s_w1 : (w.alloc (.cells #[.int .i64 W, .slice a n cap] 24)).heap.size = bB + 1 := by simp [hbB]
    rw [hbB] at VB_w1
    have qB0 := VB_w1.c0
    have qB1 := VB_w1.c1
    go_wp2_with fail
    generalize (w.alloc (.cells #[.int .i64 W, .slice a n cap] 24)) = w1 at *
    refine (lSzR_fits W a n cap 1048576 _ (by omega) (by omega)).mono ?_
    rintro e w2 ⟨rfl, hbb⟩
    clear qB0 qB1
    have VB_w2 := VB_w1.on hbb VB_w1.lt
    have h_w2 := h_w1.trans (hbb.mono h_w1.size)
    have s_w2 := hbb.size
    clear VB_w1 h_w1
    clear hbb
    have qB0 := VB_w2.c0
    have qB1 := VB_w2.c1
    go_wp2_with fail
    refine (lToRegion w.heap.size n cap a W l w2 hn (HC.out.on h_w2) h_w2.size).mono ?_
    rintro e w3 ⟨gw3, rfl, OA_w3, hbb⟩
    clear qB0 qB1
    have VB_w3 := VB_w2.on hbb VB_w2.lt
    have h_w3 := h_w2.trans (hbb.mono h_w2.size)
    have s_w3 := hbb.size
    clear VB_w2 h_w2
    have TA := OA_w3.lt
    clear hbb
    have qB0 := VB_w3.c0
    have qB1 := VB_w3.c1
    go_wp2_with fail
    refine (sRem2 w3.heap.size n n _ W l x y w3 hn (IntsAt.of_own OA_w3 HC.out.2.1) (Nat.le_refl _)).mono ?_
    rintro e w4 ⟨vw4, rfl, OS_w4, hbb⟩
    rw [HZ.out] at OS_w4
    obtain ⟨aw4, cw4, rfl⟩ := own_sl_i OS_w4
    rw [HT.out]
    clear qB0 qB1
    have VB_w4 := VB_w3.on hbb VB_w3.lt
    have OA_w4 := OA_w3.kept (grow_below hbb none) (Classical.em _)
    have h_w4 := h_w3.trans (hbb.mono h_w3.size)
    have s_w4 := hbb.size
    clear VB_w3 OA_w3 h_w3
    have TS := OS_w4.lt
    clear hbb
    obtain ⟨bS, hbS⟩ : ∃ b, w4.heap.size = b := ⟨_, rfl⟩
    have VS_w5 := RgAt.new (w := w4) W (.slice aw4 zs.length cw4) hbS
    have VB_w5 := VB_w4.alloc (.cells #[.int .i64 W, .slice aw4 zs.length cw4] 27)
    have OA_w5 := OA_w4.alloc (.cells #[.int .i64 W, .slice aw4 zs.length cw4] 27)
    have OS_w5 := OS_w4.alloc (.cells #[.int .i64 W, .slice aw4 zs.length cw4] 27)
    have h_w5 := h_w4.alloc h_w4.size (.cells #[.int .i64 W, .slice aw4 zs.length cw4] 27)
    have s_w5 : (w4.alloc (.cells #[.int .i64 W, .slice aw4 zs.length cw4] 27)).heap.size = bS + 1 := by simp [hbS]
    clear VB_w4 OA_w4 OS_w4 h_w4
    have qB0 := VB_w5.c0
    have qB1 := VB_w5.c1
    have qS0 := VS_w5.c0
    have qS1 := VS_w5.c1
    go_wp2_with fail
    generalize (w4.alloc (.cells #[.int .i64 W, .slice aw4 zs.length cw4] 27)) = w5 at *
    refine (lToRegion w.heap.size n cap a W l w5 hn (HC.out.on h_w5) h_w5.size).mono ?_
    rintro e w6 ⟨gw6, rfl, OX_w6, hbb⟩
    clear qB0 qB1 qS0 qS1
    have VB_w6 := VB_w5.on hbb VB_w5.lt
    have VS_w6 := VS_w5.on hbb VS_w5.lt
    have OA_w6 := OA_w5.kept (grow_below hbb none) (Classical.em _)
    have OS_w6 := OS_w5.kept (grow_below hbb none) (Classical.em _)
    have h_w6 := h_w5.trans (hbb.mono h_w5.size)
    have s_w6 := hbb.size
    clear VB_w5 VS_w5 OA_w5 OS_w5 h_w5
    have TX := OX_w6.lt
    clear hbb
    obtain ⟨bX, hbX⟩ : ∃ b, w6.heap.size = b := ⟨_, rfl⟩
    have VX_w7 := RgAt.new (w := w6) W (.slice (some ⟨gw6, 0, none⟩) n n) hbX
    have VB_w7 := VB_w6.alloc (.cells #[.int .i64 W, .slice (some ⟨gw6, 0, none⟩) n n] 27)
    have VS_w7 := VS_w6.alloc (.cells #[.int .i64 W, .slice (some ⟨gw6, 0, none⟩) n n] 27)
    have OA_w7 := OA_w6.alloc (.cells #[.int .i64 W, .slice (some ⟨gw6, 0, none⟩) n n] 27)
    have OS_w7 := OS_w6.alloc (.cells #[.int .i64 W, .slice (some ⟨gw6, 0, none⟩) n n] 27)
    have OX_w7 := OX_w6.alloc (.cells #[.int .i64 W, .slice (some ⟨gw6, 0, none⟩) n n] 27)
    have h_w7 := h_w6.alloc h_w6.size (.cells #[.int .i64 W, .slice (some ⟨gw6, 0, none⟩) n n] 27)
    have s_w7 : (w6.alloc (.cells #[.int .i64 W, .slice (some ⟨gw6, 0, none⟩) n n] 27)).heap.size = bX + 1 := by simp [hbX]
    clear VB_w6 VS_w6 OA_w6 OS_w6 OX_w6 h_w6
    have qB0 := VB_w7.c0
    have qB1 := VB_w7.c1
    have qX0 := VX_w7.c0
    have qX1 := VX_w7.c1
    have qS0 := VS_w7.c0
    have qS1 := VS_w7.c1
    go_wp2_with fail
    generalize (w6.alloc (.cells #[.int .i64 W, .slice (some ⟨gw6, 0, none⟩) n n] 27)) = w7 at *
    refine (iRem2 w7.heap.size n n _ W l x y w7 hn (IntsAt.of_own OX_w7 HC.out.2.1) (Nat.le_refl _)).mono ?_
    rintro e w8 ⟨vw8, rfl, OG_w8, hbb⟩
    rw [HZ.out] at OG_w8
    obtain ⟨aw8, cw8, rfl⟩ := own_sl_i OG_w8
    rw [HT.out]
    clear qB0 qB1 qX0 qX1 qS0 qS1
    have VB_w8 := VB_w7.on hbb VB_w7.lt
    have VS_w8 := VS_w7.on hbb VS_w7.lt
    have VX_w8 := VX_w7.on hbb VX_w7.lt
    have OA_w8 := OA_w7.kept (grow_below hbb none) (Classical.em _)
    have OS_w8 := OS_w7.kept (grow_below hbb none) (Classical.em _)
    have OX_w8 := OX_w7.kept (grow_below hbb none) (Classical.em _)
    have h_w8 := h_w7.trans (hbb.mono h_w7.size)
    have s_w8 := hbb.size
    clear VB_w7 VS_w7 VX_w7 OA_w7 OS_w7 OX_w7 h_w7
    have TG := OG_w8.lt
    clear hbb
    obtain ⟨bG, hbG⟩ : ∃ b, w8.heap.size = b := ⟨_, rfl⟩
    have VG_w9 := RgAt.new (w := w8) W (.slice aw8 zs.length cw8) hbG
    have VB_w9 := VB_w8.alloc (.cells #[.int .i64 W, .slice aw8 zs.length cw8] 27)
    have VS_w9 := VS_w8.alloc (.cells #[.int .i64 W, .slice aw8 zs.length cw8] 27)
    have VX_w9 := VX_w8.alloc (.cells #[.int .i64 W, .slice aw8 zs.length cw8] 27)
    have OA_w9 := OA_w8.alloc (.cells #[.int .i64 W, .slice aw8 zs.length cw8] 27)
    have OS_w9 := OS_w8.alloc (.cells #[.int .i64 W, .slice aw8 zs.length cw8] 27)
    have OX_w9 := OX_w8.alloc (.cells #[.int .i64 W, .slice aw8 zs.length cw8] 27)
    have OG_w9 := OG_w8.alloc (.cells #[.int .i64 W, .slice aw8 zs.length cw8] 27)
    have h_w9 := h_w8.alloc h_w8.size (.cells #[.int .i64 W, .slice aw8 zs.length cw8] 27)
    have s_w9 : (w8.alloc (.cells #[.int .i64 W, .slice aw8 zs.length cw8] 27)).heap.size = bG + 1 := by simp [hbG]
    clear VB_w8 VS_w8 VX_w8 OA_w8 OS_w8 OX_w8 OG_w8 h_w8
    have qB0 := VB_w9.c0
    have qB1 := VB_w9.c1
    have qX0 := VX_w9.c0
    have qX1 := VX_w9.c1
    have qS0 := VS_w9.c0
    have qS1 := VS_w9.c1
    have qG0 := VG_w9.c0
    have qG1 := VG_w9.c1
    go_wp2_with fail
    generalize (w8.alloc (.cells #[.int .i64 W, .slice aw8 zs.length cw8] 27)) = w9 at *
    refine (lEqR w9.heap.size W _ _ zs w9 hz4 (IsRd.of_own (zs := zs) OG_w9) (IsRd.of_own (zs := zs) OS_w9) (Nat.le_refl _)).mono ?_
    rintro e w10 ⟨rfl, hbb⟩
    clear qB0 qB1 qX0 qX1 qS0 qS1 qG0 qG1
    have VB_w10 := VB_w9.on hbb VB_w9.lt
    have VS_w10 := VS_w9.on hbb VS_w9.lt
    have VX_w10 := VX_w9.on hbb VX_w9.lt
    have VG_w10 := VG_w9.on hbb VG_w9.lt
    have OA_w10 := OA_w9.kept (grow_below hbb none) (Classical.em _)
    have OS_w10 := OS_w9.kept (grow_below hbb none) (Classical.em _)
    have OX_w10 := OX_w9.kept (grow_below hbb none) (Classical.em _)
    have OG_w10 := OG_w9.kept (grow_below hbb none) (Classical.em _)
    have h_w10 := h_w9.trans (hbb.mono h_w9.size)
    have s_w10 := hbb.size
    clear VB_w9 VS_w9 VX_w9 VG_w9 OA_w9 OS_w9 OX_w9 OG_w9 h_w9
    clear hbb
    have qB0 := VB_w10.c0
    have qB1 := VB_w10.c1
    have qX0 := VX_w10.c0
    have qX1 := VX_w10.c1
    have qS0 := VS_w10.c0
    have qS1 := VS_w10.c1
    have qG0 := VG_w10.c0
    have qG1 := VG_w10.c1
    go_wp2_with fail
    go_region_held3 (fun w' => w'.cell? ⟨bX, 0, none⟩ = some (.int .i64 W) ∧ w'.cell? ⟨bX, 1, none⟩ = some (.slice (some ⟨gw6, 0, none⟩) n n) ∧ w'.cell? ⟨bB, 0, none⟩ = some (.int .i64 W) ∧ w'.cell? ⟨bB, 1, none⟩ = some (.slice a n cap))
      (first
        | exact ⟨VX_w10.c0, VX_w10.c1, VB_w10.c0, VB_w10.c1⟩
        | exact ⟨xx6.c0, xx6.c1, bb6.c0, bb6.c1⟩
        | exact ⟨xx7.c0, xx7.c1, bb7.c0, bb7.c1⟩)
      (first
        | (go_at_call 16
           refine (lToRegion w.heap.size n cap a W l _ hn (HC.out.on (h_w10).drew) h_w10.size).mono ?_
           rintro e w11 ⟨gw11, rfl, OY_w11, hbb⟩
           have xx6 : RgAt w11 bX W (.slice (some ⟨gw6, 0, none⟩) n n) := RgAt.on (w := w10.drew) VX_w10 hbb VX_w10.lt
           have bb6 : LgAt w11 bB W (.slice a n cap) := LgAt.on (w := w10.drew) VB_w10 hbb VB_w10.lt
           have hbd : Below w10.heap.size w10 w11 := ((Below.refl _ w10).drew).trans hbb)
        | (go_at_call 18
           refine (lEqR w11.heap.size W _ _ l w11 hl4 (IsRd.of_own2 (OX_w10.kept (grow_below hbd none) (Classical.em _))) (IsRd.of_own2 OY_w11) (Nat.le_refl _)).mono ?_
           rintro e w12 ⟨rfl, hbe⟩
           have xx7 := xx6.on hbe xx6.lt
           have bb7 := bb6.on hbe bb6.lt))
    have hbq : Below w10.heap.size w10 w12 := hbd.trans (hbe.mono hbd.size)
    clear hbd hbe hbb xx6 bb6 xx7 bb7 OY_w11
    clear qB0 qB1 qX0 qX1 qS0 qS1 qG0 qG1
    have VB_w12 := VB_w10.on hbq VB_w10.lt
    have VS_w12 := VS_w10.on hbq VS_w10.lt
    have VX_w12 := VX_w10.on hbq VX_w10.lt
    have VG_w12 := VG_w10.on hbq VG_w10.lt
    have OA_w12 := OA_w10.kept (grow_below hbq none) (Classical.em _)
    have OS_w12 := OS_w10.kept (grow_below hbq none) (Classical.em _)
    have OX_w12 := OX_w10.kept (grow_below hbq none) (Classical.em _)
    have OG_w12 := OG_w10.kept (grow_below hbq none) (Classical.em _)
    have h_w12 := h_w10.trans (hbq.mono h_w10.size)
    have s_w12 := hbq.size
    clear VB_w10 VS_w10 VX_w10 VG_w10 OA_w10 OS_w10 OX_w10 OG_w10 h_w10
    clear hbq
    have qB0 := VB_w12.c0
    have qB1 := VB_w12.c1
    have qX0 := VX_w12.c0
    have qX1 := VX_w12.c1
    have qS0 := VS_w12.c0
    have qS1 := VS_w12.c1
    have qG0 := VG_w12.c0
    have qG1 := VG_w12.c1
    go_wp2_with fail
    refine (lMarkR _ W _ l 1 w12 hl4 (by omega) (by omega) (by rw [hln]; exact OX_w12)).mono ?_
    rintro e w13 ⟨rfl, OX_w13, hgg⟩
    rw [hln] at OX_w13
    rw [hln]
    clear qB0 qB1 qX0 qX1 qS0 qS1 qG0 qG1
    have VB_w13 := VB_w12.by hgg (ne_blkT TX (by omega))
    have VS_w13 := VS_w12.by hgg (ne_blkT TX (by omega))
    have VX_w13 := VX_w12.by hgg (ne_blkT TX (by omega))
    have VG_w13 := VG_w12.by hgg (ne_blkT TX (by omega))
    have OA_w13 := OA_w12.kept hgg (ne_rowT TA TX (by omega))
    have OS_w13 := OS_w12.kept hgg (ne_rowT TS TX (by omega))
    have OG_w13 := OG_w12.kept hgg (ne_rowT TG TX (by omega))
    have h_w13 := h_w12.grown hgg h_w12.size (fun j hj => by have := TX j hj; omega)
    have s_w13 := hgg.size
    clear VB_w12 VS_w12 VX_w12 VG_w12 OA_w12 OS_w12 OG_w12 h_w12
    clear hgg
    have qB0 := VB_w13.c0
    have qB1 := VB_w13.c1
    have qX0 := VX_w13.c0
    have qX1 := VX_w13.c1
    have qS0 := VS_w13.c0
    have qS1 := VS_w13.c1
    have qG0 := VG_w13.c0
    have qG1 := VG_w13.c1
    go_wp2_with fail
    refine (lEqR w13.heap.size W _ _ zs w13 hz4 (IsRd.of_own (zs := zs) OG_w13) (IsRd.of_own (zs := zs) OS_w13) (Nat.le_refl _)).mono ?_
    rintro e w14 ⟨rfl, hbb⟩
    clear qB0 qB1 qX0 qX1 qS0 qS1 qG0 qG1
    have VB_w14 := VB_w13.on hbb VB_w13.lt
    have VS_w14 := VS_w13.on hbb VS_w13.lt
    have VX_w14 := VX_w13.on hbb VX_w13.lt
    have VG_w14 := VG_w13.on hbb VG_w13.lt
    have OA_w14 := OA_w13.kept (grow_below hbb none) (Classical.em _)
    have OS_w14 := OS_w13.kept (grow_below hbb none) (Classical.em _)
    have OX_w14 := OX_w13.kept (grow_below hbb none) (Classical.em _)
    have OG_w14 := OG_w13.kept (grow_below hbb none) (Classical.em _)
    have h_w14 := h_w13.trans (hbb.mono h_w13.size)
    have s_w14 := hbb.size
    clear VB_w13 VS_w13 VX_w13 VG_w13 OA_w13 OS_w13 OX_w13 OG_w13 h_w13
    clear hbb
    have qB0 := VB_w14.c0
    have qB1 := VB_w14.c1
    have qX0 := VX_w14.c0
    have qX1 := VX_w14.c1
    have qS0 := VS_w14.c0
    have qS1 := VS_w14.c1
    have qG0 := VG_w14.c0
    have qG1 := VG_w14.c1
    go_wp2_with fail
    refine (lMarkR _ W _ zs 1 w14 hz4 (by omega) (by omega) OG_w14).mono ?_
    rintro e w15 ⟨rfl, OG_w15, hgg⟩
    clear qB0 qB1 qX0 qX1 qS0 qS1 qG0 qG1
    have VB_w15 := VB_w14.by hgg (ne_blkT TG (by omega))
    have VS_w15 := VS_w14.by hgg (ne_blkT TG (by omega))
    have VX_w15 := VX_w14.by hgg (ne_blkT TG (by omega))
    have VG_w15 := VG_w14.by hgg (ne_blkT TG (by omega))
    have OA_w15 := OA_w14.kept hgg (ne_rowT TA TG (by omega))
    have OS_w15 := OS_w14.kept hgg (ne_rowT TS TG (by omega))
    have OX_w15 := OX_w14.kept hgg (ne_rowT TX TG (by omega))
    have h_w15 := h_w14.grown hgg h_w14.size (fun j hj => by have := TG j hj; omega)
    have s_w15 := hgg.size
    clear VB_w14 VS_w14 VX_w14 VG_w14 OA_w14 OS_w14 OX_w14 h_w14
    clear hgg
    have qB0 := VB_w15.c0
    have qB1 := VB_w15.c1
    have qX0 := VX_w15.c0
    have qX1 := VX_w15.c1
    have qS0 := VS_w15.c0
    have qS1 := VS_w15.c1
    have qG0 := VG_w15.c0
    have qG1 := VG_w15.c1
    go_wp2_with fail
    refine (lHeldR w15.heap.size zs.length W _ 1 w15 hz4 (by omega) (by omega) (IsRd.of_own (zs := marksI 1 zs.length) (by rw [marksI_length]; exact OG_w15)) (Nat.le_refl _)).mono ?_
    rintro e w16 ⟨rfl, hbb⟩
    clear qB0 qB1 qX0 qX1 qS0 qS1 qG0 qG1
    have VB_w16 := VB_w15.on hbb VB_w15.lt
    have VS_w16 := VS_w15.on hbb VS_w15.lt
    have VX_w16 := VX_w15.on hbb VX_w15.lt
    have VG_w16 := VG_w15.on hbb VG_w15.lt
    have OA_w16 := OA_w15.kept (grow_below hbb none) (Classical.em _)
    have OS_w16 := OS_w15.kept (grow_below hbb none) (Classical.em _)
    have OX_w16 := OX_w15.kept (grow_below hbb none) (Classical.em _)
    have OG_w16 := OG_w15.kept (grow_below hbb none) (Classical.em _)
    have h_w16 := h_w15.trans (hbb.mono h_w15.size)
    have s_w16 := hbb.size
    clear VB_w15 VS_w15 VX_w15 VG_w15 OA_w15 OS_w15 OX_w15 OG_w15 h_w15
    clear hbb
    have qB0 := VB_w16.c0
    have qB1 := VB_w16.c1
    have qX0 := VX_w16.c0
    have qX1 := VX_w16.c1
    have qS0 := VS_w16.c0
    have qS1 := VS_w16.c1
    have qG0 := VG_w16.c0
    have qG1 := VG_w16.c1
    go_wp2_with fail
    refine (lToRegion w.heap.size n cap a W l w16 hn (HC.out.on h_w16) h_w16.size).mono ?_
    rintro e w17 ⟨gw17, rfl, OZ_w17, hbb⟩
    clear qB0 qB1 qX0 qX1 qS0 qS1 qG0 qG1
    have VB_w17 := VB_w16.on hbb VB_w16.lt
    have VS_w17 := VS_w16.on hbb VS_w16.lt
    have VX_w17 := VX_w16.on hbb VX_w16.lt
    have VG_w17 := VG_w16.on hbb VG_w16.lt
    have OA_w17 := OA_w16.kept (grow_below hbb none) (Classical.em _)
    have OS_w17 := OS_w16.kept (grow_below hbb none) (Classical.em _)
    have OX_w17 := OX_w16.kept (grow_below hbb none) (Classical.em _)
    have OG_w17 := OG_w16.kept (grow_below hbb none) (Classical.em _)
    have h_w17 := h_w16.trans (hbb.mono h_w16.size)
    have s_w17 := hbb.size
    clear VB_w16 VS_w16 VX_w16 VG_w16 OA_w16 OS_w16 OX_w16 OG_w16 h_w16
    have TZ := OZ_w17.lt
    clear hbb
    have qB0 := VB_w17.c0
    have qB1 := VB_w17.c1
    have qX0 := VX_w17.c0
    have qX1 := VX_w17.c1
    have qS0 := VS_w17.c0
    have qS1 := VS_w17.c1
    have qG0 := VG_w17.c0
    have qG1 := VG_w17.c1
    go_wp2_with fail
    refine (iRem2 w17.heap.size n n _ W l x y w17 hn (IntsAt.of_own OZ_w17 HC.out.2.1) (Nat.le_refl _)).mono ?_
    rintro e w18 ⟨vw18, rfl, OK_w18, hbb⟩
    rw [HZ.out] at OK_w18
    obtain ⟨aw18, cw18, rfl⟩ := own_sl_i OK_w18
    rw [HT.out]
    clear qB0 qB1 qX0 qX1 qS0 qS1 qG0 qG1
    have VB_w18 := VB_w17.on hbb VB_w17.lt
    have VS_w18 := VS_w17.on hbb VS_w17.lt
    have VX_w18 := VX_w17.on hbb VX_w17.lt
    have VG_w18 := VG_w17.on hbb VG_w17.lt
    have OA_w18 := OA_w17.kept (grow_below hbb none) (Classical.em _)
    have OS_w18 := OS_w17.kept (grow_below hbb none) (Classical.em _)
    have OX_w18 := OX_w17.kept (grow_below hbb none) (Classical.em _)
    have OG_w18 := OG_w17.kept (grow_below hbb none) (Classical.em _)
    have OZ_w18 := OZ_w17.kept (grow_below hbb none) (Classical.em _)
    have h_w18 := h_w17.trans (hbb.mono h_w17.size)
    have s_w18 := hbb.size
    clear VB_w17 VS_w17 VX_w17 VG_w17 OA_w17 OS_w17 OX_w17 OG_w17 OZ_w17 h_w17
    have TK := OK_w18.lt
    clear hbb
    obtain ⟨bK, hbK⟩ : ∃ b, w18.heap.size = b := ⟨_, rfl⟩
    have VK_w19 := RgAt.new (w := w18) W (.slice aw18 zs.length cw18) hbK
    have VB_w19 := VB_w18.alloc (.cells #[.int .i64 W, .slice aw18 zs.length cw18] 27)
    have VS_w19 := VS_w18.alloc (.cells #[.int .i64 W, .slice aw18 zs.length cw18] 27)
    have VX_w19 := VX_w18.alloc (.cells #[.int .i64 W, .slice aw18 zs.length cw18] 27)
    have VG_w19 := VG_w18.alloc (.cells #[.int .i64 W, .slice aw18 zs.length cw18] 27)
    have OA_w19 := OA_w18.alloc (.cells #[.int .i64 W, .slice aw18 zs.length cw18] 27)
    have OS_w19 := OS_w18.alloc (.cells #[.int .i64 W, .slice aw18 zs.length cw18] 27)
    have OX_w19 := OX_w18.alloc (.cells #[.int .i64 W, .slice aw18 zs.length cw18] 27)
    have OG_w19 := OG_w18.alloc (.cells #[.int .i64 W, .slice aw18 zs.length cw18] 27)
    have OZ_w19 := OZ_w18.alloc (.cells #[.int .i64 W, .slice aw18 zs.length cw18] 27)
    have OK_w19 := OK_w18.alloc (.cells #[.int .i64 W, .slice aw18 zs.length cw18] 27)
    have h_w19 := h_w18.alloc h_w18.size (.cells #[.int .i64 W, .slice aw18 zs.length cw18] 27)
    have s_w19 : (w18.alloc (.cells #[.int .i64 W, .slice aw18 zs.length cw18] 27)).heap.size = bK + 1 := by simp [hbK]
    clear VB_w18 VS_w18 VX_w18 VG_w18 OA_w18 OS_w18 OX_w18 OG_w18 OZ_w18 OK_w18 h_w18
    have qB0 := VB_w19.c0
    have qB1 := VB_w19.c1
    have qX0 := VX_w19.c0
    have qX1 := VX_w19.c1
    have qS0 := VS_w19.c0
    have qS1 := VS_w19.c1
    have qG0 := VG_w19.c0
    have qG1 := VG_w19.c1
    have qK0 := VK_w19.c0
    have qK1 := VK_w19.c1
    go_wp2_with fail
    generalize (w18.alloc (.cells #[.int .i64 W, .slice aw18 zs.length cw18] 27)) = w19 at *
    refine (lEqR w19.heap.size W _ _ zs w19 hz4 (IsRd.of_own (zs := zs) OK_w19) (IsRd.of_own (zs := zs) OS_w19) (Nat.le_refl _)).mono ?_
    rintro e w20 ⟨rfl, hbb⟩
    clear qB0 qB1 qX0 qX1 qS0 qS1 qG0 qG1 qK0 qK1
    have VB_w20 := VB_w19.on hbb VB_w19.lt
    have VS_w20 := VS_w19.on hbb VS_w19.lt
    have VX_w20 := VX_w19.on hbb VX_w19.lt
    have VG_w20 := VG_w19.on hbb VG_w19.lt
    have VK_w20 := VK_w19.on hbb VK_w19.lt
    have OA_w20 := OA_w19.kept (grow_below hbb none) (Classical.em _)
    have OS_w20 := OS_w19.kept (grow_below hbb none) (Classical.em _)
    have OX_w20 := OX_w19.kept (grow_below hbb none) (Classical.em _)
    have OG_w20 := OG_w19.kept (grow_below hbb none) (Classical.em _)
    have OZ_w20 := OZ_w19.kept (grow_below hbb none) (Classical.em _)
    have OK_w20 := OK_w19.kept (grow_below hbb none) (Classical.em _)
    have h_w20 := h_w19.trans (hbb.mono h_w19.size)
    have s_w20 := hbb.size
    clear VB_w19 VS_w19 VX_w19 VG_w19 VK_w19 OA_w19 OS_w19 OX_w19 OG_w19 OZ_w19 OK_w19 h_w19
    clear hbb
    have qB0 := VB_w20.c0
    have qB1 := VB_w20.c1
    have qX0 := VX_w20.c0
    have qX1 := VX_w20.c1
    have qS0 := VS_w20.c0
    have qS1 := VS_w20.c1
    have qG0 := VG_w20.c0
    have qG1 := VG_w20.c1
    have qK0 := VK_w20.c0
    have qK1 := VK_w20.c1
    go_wp2_with fail
    refine (lHeldR w20.heap.size zs.length W _ 1 w20 hz4 (by omega) (by omega) (IsRd.of_own (zs := marksI 1 zs.length) (by rw [marksI_length]; exact OG_w20)) (Nat.le_refl _)).mono ?_
    rintro e w21 ⟨rfl, hbb⟩
    clear qB0 qB1 qX0 qX1 qS0 qS1 qG0 qG1 qK0 qK1
    have VB_w21 := VB_w20.on hbb VB_w20.lt
    have VS_w21 := VS_w20.on hbb VS_w20.lt
    have VX_w21 := VX_w20.on hbb VX_w20.lt
    have VG_w21 := VG_w20.on hbb VG_w20.lt
    have VK_w21 := VK_w20.on hbb VK_w20.lt
    have OA_w21 := OA_w20.kept (grow_below hbb none) (Classical.em _)
    have OS_w21 := OS_w20.kept (grow_below hbb none) (Classical.em _)
    have OX_w21 := OX_w20.kept (grow_below hbb none) (Classical.em _)
    have OG_w21 := OG_w20.kept (grow_below hbb none) (Classical.em _)
    have OZ_w21 := OZ_w20.kept (grow_below hbb none) (Classical.em _)
    have OK_w21 := OK_w20.kept (grow_below hbb none) (Classical.em _)
    have h_w21 := h_w20.trans (hbb.mono h_w20.size)
    have s_w21 := hbb.size
    clear VB_w20 VS_w20 VX_w20 VG_w20 VK_w20 OA_w20 OS_w20 OX_w20 OG_w20 OZ_w20 OK_w20 h_w20
    clear hbb
    go_wp2
    go_ret
    exact ⟨rfl, h_w21⟩

set_option maxHeartbeats 4000000 in
set_option maxRecDepth 100000 in
theorem law_RectangleOf (x : Int) (y : Int) (_ : (Lit.int .i64 x).wf = true) (_ : (Lit.int .i64 y).wf = true) (w : World) :
    Calls Try.prog 4 #[.int .i64 x, .int .i64 y] w fun e w' => e = .returned (.bool true) ∧ Below w.heap.size w w' := by
  obtain ⟨zs, hzs⟩ : ∃ zs, rectL x y = zs := ⟨_, rfl⟩
  have HZ := Lib.hid hzs
  obtain ⟨rw0, hrw⟩ : ∃ z, rectW x y = z := ⟨_, rfl⟩
  have HW := Lib.hid hrw
  clear hrw
  obtain ⟨rt, hrt⟩ : ∃ z, rectOk x y = z := ⟨_, rfl⟩
  have HT := Lib.hid hrt
  clear hrt
  have hne : (rt != rt) = false := by simp
  have hzb : zs.length ≤ 36 := by rw [← hzs]; exact Nat.le_trans (rectL_len x y) (by omega)
  clear hzs
  have hz4 : zs.length ≤ 4194304 := by omega
  have hk2 : ¬ ((1 : Int) + (zs.length : Int) < 0) := by omega
  have hk3 : (((1 : Int) + (zs.length : Int)) != (1 + (zs.length : Int))) = false := by simp
  go_enter Try.func4, Try.ntmps4
  go_wp2_with fail
  refine (sRect x y w).mono ?_
  rintro e w1 ⟨vw1, rfl, OS_w1, hbb⟩
  rw [HZ.out] at OS_w1
  obtain ⟨aw1, cw1, rfl⟩ := own_sl_i OS_w1
  rw [HW.out, HT.out]
  have h_w1 := (Below.refl w.heap.size w).trans (hbb.mono (Nat.le_refl _))
  have s_w1 := hbb.size
  have TS := OS_w1.lt
  clear hbb
  obtain ⟨bS, hbS⟩ : ∃ b, w1.heap.size = b := ⟨_, rfl⟩
  have VS_w2 := RgAt.new (w := w1) rw0 (.slice aw1 zs.length cw1) hbS
  have OS_w2 := OS_w1.alloc (.cells #[.int .i64 rw0, .slice aw1 zs.length cw1] 27)
  have h_w2 := h_w1.alloc h_w1.size (.cells #[.int .i64 rw0, .slice aw1 zs.length cw1] 27)
  have s_w2 : (w1.alloc (.cells #[.int .i64 rw0, .slice aw1 zs.length cw1] 27)).heap.size = bS + 1 := by simp [hbS]
  clear OS_w1 h_w1
  have qS0 := VS_w2.c0
  have qS1 := VS_w2.c1
  go_wp2_with fail
  generalize (w1.alloc (.cells #[.int .i64 rw0, .slice aw1 zs.length cw1] 27)) = w2 at *
  refine (iRect x y w2).mono ?_
  rintro e w3 ⟨vw3, rfl, OG_w3, hbb⟩
  rw [HZ.out] at OG_w3
  obtain ⟨aw3, cw3, rfl⟩ := own_sl_i OG_w3
  rw [HW.out, HT.out]
  clear qS0 qS1
  have VS_w3 := VS_w2.on hbb VS_w2.lt
  have OS_w3 := OS_w2.kept (grow_below hbb none) (Classical.em _)
  have h_w3 := h_w2.trans (hbb.mono h_w2.size)
  have s_w3 := hbb.size
  clear VS_w2 OS_w2 h_w2
  have TG := OG_w3.lt
  clear hbb
  obtain ⟨bG, hbG⟩ : ∃ b, w3.heap.size = b := ⟨_, rfl⟩
  have VG_w4 := RgAt.new (w := w3) rw0 (.slice aw3 zs.length cw3) hbG
  have VS_w4 := VS_w3.alloc (.cells #[.int .i64 rw0, .slice aw3 zs.length cw3] 27)
  have OS_w4 := OS_w3.alloc (.cells #[.int .i64 rw0, .slice aw3 zs.length cw3] 27)
  have OG_w4 := OG_w3.alloc (.cells #[.int .i64 rw0, .slice aw3 zs.length cw3] 27)
  have h_w4 := h_w3.alloc h_w3.size (.cells #[.int .i64 rw0, .slice aw3 zs.length cw3] 27)
  have s_w4 : (w3.alloc (.cells #[.int .i64 rw0, .slice aw3 zs.length cw3] 27)).heap.size = bG + 1 := by simp [hbG]
  clear VS_w3 OS_w3 OG_w3 h_w3
  have qS0 := VS_w4.c0
  have qS1 := VS_w4.c1
  have qG0 := VG_w4.c0
  have qG1 := VG_w4.c1
  go_wp2_with fail
  generalize (w3.alloc (.cells #[.int .i64 rw0, .slice aw3 zs.length cw3] 27)) = w4 at *
  refine (lEqR w4.heap.size rw0 _ _ zs w4 hz4 (IsRd.of_own (zs := zs) OG_w4) (IsRd.of_own (zs := zs) OS_w4) (Nat.le_refl _)).mono ?_
  rintro e w5 ⟨rfl, hbb⟩
  clear qS0 qS1 qG0 qG1
  have VS_w5 := VS_w4.on hbb VS_w4.lt
  have VG_w5 := VG_w4.on hbb VG_w4.lt
  have OS_w5 := OS_w4.kept (grow_below hbb none) (Classical.em _)
  have OG_w5 := OG_w4.kept (grow_below hbb none) (Classical.em _)
  have h_w5 := h_w4.trans (hbb.mono h_w4.size)
  have s_w5 := hbb.size
  clear VS_w4 VG_w4 OS_w4 OG_w4 h_w4
  clear hbb
  have qS0 := VS_w5.c0
  have qS1 := VS_w5.c1
  have qG0 := VG_w5.c0
  have qG1 := VG_w5.c1
  go_wp2_with fail
  refine (lMarkR _ rw0 _ zs 1 w5 hz4 (by omega) (by omega) OG_w5).mono ?_
  rintro e w6 ⟨rfl, OG_w6, hgg⟩
  clear qS0 qS1 qG0 qG1
  have VS_w6 := VS_w5.by hgg (ne_blkT TG (by omega))
  have VG_w6 := VG_w5.by hgg (ne_blkT TG (by omega))
  have OS_w6 := OS_w5.kept hgg (ne_rowT TS TG (by omega))
  have h_w6 := h_w5.grown hgg h_w5.size (fun j hj => by have := TG j hj; omega)
  have s_w6 := hgg.size
  clear VS_w5 VG_w5 OS_w5 h_w5
  clear hgg
  have qS0 := VS_w6.c0
  have qS1 := VS_w6.c1
  have qG0 := VG_w6.c0
  have qG1 := VG_w6.c1
  go_wp2_with fail
  refine (lHeldR w6.heap.size zs.length rw0 _ 1 w6 hz4 (by omega) (by omega) (IsRd.of_own (zs := marksI 1 zs.length) (by rw [marksI_length]; exact OG_w6)) (Nat.le_refl _)).mono ?_
  rintro e w7 ⟨rfl, hbb⟩
  clear qS0 qS1 qG0 qG1
  have VS_w7 := VS_w6.on hbb VS_w6.lt
  have VG_w7 := VG_w6.on hbb VG_w6.lt
  have OS_w7 := OS_w6.kept (grow_below hbb none) (Classical.em _)
  have OG_w7 := OG_w6.kept (grow_below hbb none) (Classical.em _)
  have h_w7 := h_w6.trans (hbb.mono h_w6.size)
  have s_w7 := hbb.size
  clear VS_w6 VG_w6 OS_w6 OG_w6 h_w6
  clear hbb
  have qS0 := VS_w7.c0
  have qS1 := VS_w7.c1
  have qG0 := VG_w7.c0
  have qG1 := VG_w7.c1
  go_wp2_with fail
  refine (iRect x y w7).mono ?_
  rintro e w8 ⟨vw8, rfl, OK_w8, hbb⟩
  rw [HZ.out] at OK_w8
  obtain ⟨aw8, cw8, rfl⟩ := own_sl_i OK_w8
  rw [HW.out, HT.out]
  clear qS0 qS1 qG0 qG1
  have VS_w8 := VS_w7.on hbb VS_w7.lt
  have VG_w8 := VG_w7.on hbb VG_w7.lt
  have OS_w8 := OS_w7.kept (grow_below hbb none) (Classical.em _)
  have OG_w8 := OG_w7.kept (grow_below hbb none) (Classical.em _)
  have h_w8 := h_w7.trans (hbb.mono h_w7.size)
  have s_w8 := hbb.size
  clear VS_w7 VG_w7 OS_w7 OG_w7 h_w7
  have TK := OK_w8.lt
  clear hbb
  obtain ⟨bK, hbK⟩ : ∃ b, w8.heap.size = b := ⟨_, rfl⟩
  have VK_w9 := RgAt.new (w := w8) rw0 (.slice aw8 zs.length cw8) hbK
  have VS_w9 := VS_w8.alloc (.cells #[.int .i64 rw0, .slice aw8 zs.length cw8] 27)
  have VG_w9 := VG_w8.alloc (.cells #[.int .i64 rw0, .slice aw8 zs.length cw8] 27)
  have OS_w9 := OS_w8.alloc (.cells #[.int .i64 rw0, .slice aw8 zs.length cw8] 27)
  have OG_w9 := OG_w8.alloc (.cells #[.int .i64 rw0, .slice aw8 zs.length cw8] 27)
  have OK_w9 := OK_w8.alloc (.cells #[.int .i64 rw0, .slice aw8 zs.length cw8] 27)
  have h_w9 := h_w8.alloc h_w8.size (.cells #[.int .i64 rw0, .slice aw8 zs.length cw8] 27)
  have s_w9 : (w8.alloc (.cells #[.int .i64 rw0, .slice aw8 zs.length cw8] 27)).heap.size = bK + 1 := by simp [hbK]
  clear VS_w8 VG_w8 OS_w8 OG_w8 OK_w8 h_w8
  have qS0 := VS_w9.c0
  have qS1 := VS_w9.c1
  have qG0 := VG_w9.c0
  have qG1 := VG_w9.c1
  have qK0 := VK_w9.c0
  have qK1 := VK_w9.c1
  go_wp2_with fail
  generalize (w8.alloc (.cells #[.int .i64 rw0, .slice aw8 zs.length cw8] 27)) = w9 at *
  refine (lEqR w9.heap.size rw0 _ _ zs w9 hz4 (IsRd.of_own (zs := zs) OK_w9) (IsRd.of_own (zs := zs) OS_w9) (Nat.le_refl _)).mono ?_
  rintro e w10 ⟨rfl, hbb⟩
  clear qS0 qS1 qG0 qG1 qK0 qK1
  have VS_w10 := VS_w9.on hbb VS_w9.lt
  have VG_w10 := VG_w9.on hbb VG_w9.lt
  have VK_w10 := VK_w9.on hbb VK_w9.lt
  have OS_w10 := OS_w9.kept (grow_below hbb none) (Classical.em _)
  have OG_w10 := OG_w9.kept (grow_below hbb none) (Classical.em _)
  have OK_w10 := OK_w9.kept (grow_below hbb none) (Classical.em _)
  have h_w10 := h_w9.trans (hbb.mono h_w9.size)
  have s_w10 := hbb.size
  clear VS_w9 VG_w9 VK_w9 OS_w9 OG_w9 OK_w9 h_w9
  clear hbb
  have qS0 := VS_w10.c0
  have qS1 := VS_w10.c1
  have qG0 := VG_w10.c0
  have qG1 := VG_w10.c1
  have qK0 := VK_w10.c0
  have qK1 := VK_w10.c1
  go_wp2_with fail
  refine (lHeldR w10.heap.size zs.length rw0 _ 1 w10 hz4 (by omega) (by omega) (IsRd.of_own (zs := marksI 1 zs.length) (by rw [marksI_length]; exact OG_w10)) (Nat.le_refl _)).mono ?_
  rintro e w11 ⟨rfl, hbb⟩
  clear qS0 qS1 qG0 qG1 qK0 qK1
  have VS_w11 := VS_w10.on hbb VS_w10.lt
  have VG_w11 := VG_w10.on hbb VG_w10.lt
  have VK_w11 := VK_w10.on hbb VK_w10.lt
  have OS_w11 := OS_w10.kept (grow_below hbb none) (Classical.em _)
  have OG_w11 := OG_w10.kept (grow_below hbb none) (Classical.em _)
  have OK_w11 := OK_w10.kept (grow_below hbb none) (Classical.em _)
  have h_w11 := h_w10.trans (hbb.mono h_w10.size)
  have s_w11 := hbb.size
  clear VS_w10 VG_w10 VK_w10 OS_w10 OG_w10 OK_w10 h_w10
  clear hbb
  go_wp2
  go_ret
  exact ⟨rfl, h_w11⟩

end Go.Proofs.Ytbfopdflkkcfaaa
