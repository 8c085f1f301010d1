/-
  The law on a text as a region: its walk (written by tools/lawregp.py).
-/
import Derived.Test.YtbfopdflkkcfaaaDoorSq2
namespace Go.Proofs.YtbfopdflkkcfaaaDoor
open Go.RowKit

theorem own_sl_i {w : World} {base n : Nat} {v : Value} {xs : List Value} (h : w.ownsRow base 3 1 v n xs) : ∃ a cap, v = .slice a n cap := by
  rcases h.2 with ⟨rfl, rfl⟩ | ⟨g, cap, cur, rfl, _⟩
  · exact ⟨_, _, rfl⟩
  · exact ⟨_, _, rfl⟩
theorem resL_len (s : ByteArray) : (resL (tx s)).length ≤ 6 := by
  by_cases h : okQ (tx s)
  · obtain ⟨W, H, l, hr, e, h1, h2, _⟩ := okQ_out h
    rw [(res_yes h).2, h2, hr.len]
    exact hr.h6
  · rw [(res_no h).2]
    simp

set_option maxHeartbeats 4000000 in
set_option maxRecDepth 100000 in
theorem law_ParseRegion (s : ByteArray) (hm : s.size ≤ maxLen) (w : World) (hM : Mx w) :
    Calls Tryd.prog 3 #[.string s] w fun e w' => e = .returned (.bool true) ∧ Below w.heap.size w w' := by
  by_cases hs : (1048576 : Int) < s.size
  · go_enter Tryd.func3, Tryd.ntmps3
    go_wp2
    go_ret
    exact ⟨rfl, Below.refl _ _⟩
  · have hn : s.size ≤ 1048576 := by omega
    have HMX := Lib.hid hM
    have hMl := hM.lt
    clear hM hm
    obtain ⟨zs, hzs⟩ : ∃ zs, resL (tx s) = zs := ⟨_, rfl⟩
    have HZ := Lib.hid hzs
    obtain ⟨rw0, hrw⟩ : ∃ z, resW (tx s) = z := ⟨_, rfl⟩
    have HW := Lib.hid hrw
    clear hrw
    obtain ⟨rt, hrt⟩ : ∃ z, dP (okQ (tx s)) = z := ⟨_, rfl⟩
    have HT := Lib.hid hrt
    clear hrt
    have hne : (rt != rt) = false := by simp
    have hzb : zs.length ≤ 36 := by rw [← hzs]; exact Nat.le_trans (resL_len s) (by omega)
    clear hzs
    have hz4 : zs.length ≤ 4194304 := by omega
    have hk2 : ¬ ((1 : Int) + (zs.length : Int) < 0) := by omega
    have hk3 : (((1 : Int) + (zs.length : Int)) != (1 + (zs.length : Int))) = false := by simp
    go_enter Tryd.func3, Tryd.ntmps3
    go_wp2_with fail
    refine (sParR s w hn).mono ?_
    rintro e w1 ⟨vw1, rfl, OS_w1, hbb⟩
    rw [HZ.out] at OS_w1
    obtain ⟨aw1, cw1, rfl⟩ := own_sl_i OS_w1
    rw [HW.out, HT.out]
    have h_w1 := (Below.refl w.heap.size w).trans (hbb.mono (Nat.le_refl _))
    have s_w1 := hbb.size
    have TS := OS_w1.lt
    clear hbb
    obtain ⟨bS, hbS⟩ : ∃ b, w1.heap.size = b := ⟨_, rfl⟩
    have VS_w2 := RgAt.new (w := w1) rw0 (.slice aw1 zs.length cw1) hbS
    have OS_w2 := OS_w1.alloc (.cells #[.int .i64 rw0, .slice aw1 zs.length cw1] 24)
    have h_w2 := h_w1.alloc h_w1.size (.cells #[.int .i64 rw0, .slice aw1 zs.length cw1] 24)
    have s_w2 : (w1.alloc (.cells #[.int .i64 rw0, .slice aw1 zs.length cw1] 24)).heap.size = bS + 1 := by simp [hbS]
    clear OS_w1 h_w1
    have qS0 := VS_w2.c0
    have qS1 := VS_w2.c1
    go_wp2_with fail
    generalize (w1.alloc (.cells #[.int .i64 rw0, .slice aw1 zs.length cw1] 24)) = w2 at *
    refine (iParR s w2 hn (HMX.out.on h_w2 hMl)).mono ?_
    rintro e w3 ⟨vw3, rfl, OG_w3, hbb⟩
    rw [HZ.out] at OG_w3
    obtain ⟨aw3, cw3, rfl⟩ := own_sl_i OG_w3
    rw [HW.out, HT.out]
    clear qS0 qS1
    have VS_w3 := VS_w2.on hbb VS_w2.lt
    have OS_w3 := OS_w2.kept (grow_below hbb none) (Classical.em _)
    have h_w3 := h_w2.trans (hbb.mono h_w2.size)
    have s_w3 := hbb.size
    clear VS_w2 OS_w2 h_w2
    have TG := OG_w3.lt
    clear hbb
    obtain ⟨bG, hbG⟩ : ∃ b, w3.heap.size = b := ⟨_, rfl⟩
    have VG_w4 := RgAt.new (w := w3) rw0 (.slice aw3 zs.length cw3) hbG
    have VS_w4 := VS_w3.alloc (.cells #[.int .i64 rw0, .slice aw3 zs.length cw3] 24)
    have OS_w4 := OS_w3.alloc (.cells #[.int .i64 rw0, .slice aw3 zs.length cw3] 24)
    have OG_w4 := OG_w3.alloc (.cells #[.int .i64 rw0, .slice aw3 zs.length cw3] 24)
    have h_w4 := h_w3.alloc h_w3.size (.cells #[.int .i64 rw0, .slice aw3 zs.length cw3] 24)
    have s_w4 : (w3.alloc (.cells #[.int .i64 rw0, .slice aw3 zs.length cw3] 24)).heap.size = bG + 1 := by simp [hbG]
    clear VS_w3 OS_w3 OG_w3 h_w3
    have qS0 := VS_w4.c0
    have qS1 := VS_w4.c1
    have qG0 := VG_w4.c0
    have qG1 := VG_w4.c1
    go_wp2_with fail
    generalize (w3.alloc (.cells #[.int .i64 rw0, .slice aw3 zs.length cw3] 24)) = w4 at *
    refine (lEqR w4.heap.size rw0 _ _ zs w4 hz4 (IsRd.of_own (zs := zs) OG_w4) (IsRd.of_own (zs := zs) OS_w4) (Nat.le_refl _)).mono ?_
    rintro e w5 ⟨rfl, hbb⟩
    clear qS0 qS1 qG0 qG1
    have VS_w5 := VS_w4.on hbb VS_w4.lt
    have VG_w5 := VG_w4.on hbb VG_w4.lt
    have OS_w5 := OS_w4.kept (grow_below hbb none) (Classical.em _)
    have OG_w5 := OG_w4.kept (grow_below hbb none) (Classical.em _)
    have h_w5 := h_w4.trans (hbb.mono h_w4.size)
    have s_w5 := hbb.size
    clear VS_w4 VG_w4 OS_w4 OG_w4 h_w4
    clear hbb
    have qS0 := VS_w5.c0
    have qS1 := VS_w5.c1
    have qG0 := VG_w5.c0
    have qG1 := VG_w5.c1
    go_wp2_with fail
    refine (lMarkR _ rw0 _ zs 1 w5 hz4 (by omega) (by omega) OG_w5).mono ?_
    rintro e w6 ⟨rfl, OG_w6, hgg⟩
    clear qS0 qS1 qG0 qG1
    have VS_w6 := VS_w5.by hgg (ne_blkT TG (by omega))
    have VG_w6 := VG_w5.by hgg (ne_blkT TG (by omega))
    have OS_w6 := OS_w5.kept hgg (ne_rowT TS TG (by omega))
    have h_w6 := h_w5.grown hgg h_w5.size (fun j hj => by have := TG j hj; omega)
    have s_w6 := hgg.size
    clear VS_w5 VG_w5 OS_w5 h_w5
    clear hgg
    have qS0 := VS_w6.c0
    have qS1 := VS_w6.c1
    have qG0 := VG_w6.c0
    have qG1 := VG_w6.c1
    go_wp2_with fail
    refine (lHeldR w6.heap.size zs.length rw0 _ 1 w6 hz4 (by omega) (by omega) (IsRd.of_own (zs := marksI 1 zs.length) (by rw [marksI_length]; exact OG_w6)) (Nat.le_refl _)).mono ?_
    rintro e w7 ⟨rfl, hbb⟩
    clear qS0 qS1 qG0 qG1
    have VS_w7 := VS_w6.on hbb VS_w6.lt
    have VG_w7 := VG_w6.on hbb VG_w6.lt
    have OS_w7 := OS_w6.kept (grow_below hbb none) (Classical.em _)
    have OG_w7 := OG_w6.kept (grow_below hbb none) (Classical.em _)
    have h_w7 := h_w6.trans (hbb.mono h_w6.size)
    have s_w7 := hbb.size
    clear VS_w6 VG_w6 OS_w6 OG_w6 h_w6
    clear hbb
    have qS0 := VS_w7.c0
    have qS1 := VS_w7.c1
    have qG0 := VG_w7.c0
    have qG1 := VG_w7.c1
    go_wp2_with fail
    refine (iParR s w7 hn (HMX.out.on h_w7 hMl)).mono ?_
    rintro e w8 ⟨vw8, rfl, OK_w8, hbb⟩
    rw [HZ.out] at OK_w8
    obtain ⟨aw8, cw8, rfl⟩ := own_sl_i OK_w8
    rw [HW.out, HT.out]
    clear qS0 qS1 qG0 qG1
    have VS_w8 := VS_w7.on hbb VS_w7.lt
    have VG_w8 := VG_w7.on hbb VG_w7.lt
    have OS_w8 := OS_w7.kept (grow_below hbb none) (Classical.em _)
    have OG_w8 := OG_w7.kept (grow_below hbb none) (Classical.em _)
    have h_w8 := h_w7.trans (hbb.mono h_w7.size)
    have s_w8 := hbb.size
    clear VS_w7 VG_w7 OS_w7 OG_w7 h_w7
    have TK := OK_w8.lt
    clear hbb
    obtain ⟨bK, hbK⟩ : ∃ b, w8.heap.size = b := ⟨_, rfl⟩
    have VK_w9 := RgAt.new (w := w8) rw0 (.slice aw8 zs.length cw8) hbK
    have VS_w9 := VS_w8.alloc (.cells #[.int .i64 rw0, .slice aw8 zs.length cw8] 24)
    have VG_w9 := VG_w8.alloc (.cells #[.int .i64 rw0, .slice aw8 zs.length cw8] 24)
    have OS_w9 := OS_w8.alloc (.cells #[.int .i64 rw0, .slice aw8 zs.length cw8] 24)
    have OG_w9 := OG_w8.alloc (.cells #[.int .i64 rw0, .slice aw8 zs.length cw8] 24)
    have OK_w9 := OK_w8.alloc (.cells #[.int .i64 rw0, .slice aw8 zs.length cw8] 24)
    have h_w9 := h_w8.alloc h_w8.size (.cells #[.int .i64 rw0, .slice aw8 zs.length cw8] 24)
    have s_w9 : (w8.alloc (.cells #[.int .i64 rw0, .slice aw8 zs.length cw8] 24)).heap.size = bK + 1 := by simp [hbK]
    clear VS_w8 VG_w8 OS_w8 OG_w8 OK_w8 h_w8
    have qS0 := VS_w9.c0
    have qS1 := VS_w9.c1
    have qG0 := VG_w9.c0
    have qG1 := VG_w9.c1
    have qK0 := VK_w9.c0
    have qK1 := VK_w9.c1
    go_wp2_with fail
    generalize (w8.alloc (.cells #[.int .i64 rw0, .slice aw8 zs.length cw8] 24)) = w9 at *
    refine (lEqR w9.heap.size rw0 _ _ zs w9 hz4 (IsRd.of_own (zs := zs) OK_w9) (IsRd.of_own (zs := zs) OS_w9) (Nat.le_refl _)).mono ?_
    rintro e w10 ⟨rfl, hbb⟩
    clear qS0 qS1 qG0 qG1 qK0 qK1
    have VS_w10 := VS_w9.on hbb VS_w9.lt
    have VG_w10 := VG_w9.on hbb VG_w9.lt
    have VK_w10 := VK_w9.on hbb VK_w9.lt
    have OS_w10 := OS_w9.kept (grow_below hbb none) (Classical.em _)
    have OG_w10 := OG_w9.kept (grow_below hbb none) (Classical.em _)
    have OK_w10 := OK_w9.kept (grow_below hbb none) (Classical.em _)
    have h_w10 := h_w9.trans (hbb.mono h_w9.size)
    have s_w10 := hbb.size
    clear VS_w9 VG_w9 VK_w9 OS_w9 OG_w9 OK_w9 h_w9
    clear hbb
    have qS0 := VS_w10.c0
    have qS1 := VS_w10.c1
    have qG0 := VG_w10.c0
    have qG1 := VG_w10.c1
    have qK0 := VK_w10.c0
    have qK1 := VK_w10.c1
    go_wp2_with fail
    refine (lHeldR w10.heap.size zs.length rw0 _ 1 w10 hz4 (by omega) (by omega) (IsRd.of_own (zs := marksI 1 zs.length) (by rw [marksI_length]; exact OG_w10)) (Nat.le_refl _)).mono ?_
    rintro e w11 ⟨rfl, hbb⟩
    clear qS0 qS1 qG0 qG1 qK0 qK1
    have VS_w11 := VS_w10.on hbb VS_w10.lt
    have VG_w11 := VG_w10.on hbb VG_w10.lt
    have VK_w11 := VK_w10.on hbb VK_w10.lt
    have OS_w11 := OS_w10.kept (grow_below hbb none) (Classical.em _)
    have OG_w11 := OG_w10.kept (grow_below hbb none) (Classical.em _)
    have OK_w11 := OK_w10.kept (grow_below hbb none) (Classical.em _)
    have h_w11 := h_w10.trans (hbb.mono h_w10.size)
    have s_w11 := hbb.size
    clear VS_w10 VG_w10 VK_w10 OS_w10 OG_w10 OK_w10 h_w10
    clear hbb
    go_wp2
    go_ret
    exact ⟨rfl, h_w11⟩

/-- The variable of the library holds a number, by the shape of the world in which the call begins. -/
theorem mx_of_shape {W : World} (h : W.ShapedOpen Tryd.prog) : Mx W := Tryd.laysM146.s1_3 W h

end Go.Proofs.YtbfopdflkkcfaaaDoor
