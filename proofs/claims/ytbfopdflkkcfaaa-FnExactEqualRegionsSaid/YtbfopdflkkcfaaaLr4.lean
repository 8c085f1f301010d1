/-
  The law on whether two regions are alike: its walk.
-/
import Derived.Test.YtbfopdflkkcfaaaSr4
import Derived.Test.YtbfopdflkkcfaaaRar
namespace Go.Proofs.Ytbfopdflkkcfaaa
open Go.RowKit

set_option maxHeartbeats 4000000 in
set_option maxRecDepth 100000 in
theorem law_EqualRegions (W : Int) (a : Option Addr) (n cap : Nat) (l : List Int) (U : Int) (a2 : Option Addr) (m cap2 : Nat) (r : List Int) (w : World) (hc : IntsAt w.heap.size w a n l) (hm : n ≤ maxLen) (hc2 : IntsAt w.heap.size w a2 m r) (hm3 : m ≤ maxLen) :
    Calls Try.prog 13 #[.agg #[.int .i64 W, .slice a n cap], .agg #[.int .i64 U, .slice a2 m cap2]] w fun e w' => e = .returned (.bool true) ∧ Below w.heap.size w w' := by
  have hm2 : n ≤ 9223372036854775807 := by unfold maxLen at hm; omega
  have hm4 : m ≤ 9223372036854775807 := by unfold maxLen at hm3; omega
  have HC := Lib.hid hc
  have HC2 := Lib.hid hc2
  have hln := hc.1
  have hln2 := hc2.1
  clear hc hm hc2 hm3
  obtain ⟨z, hz⟩ : ∃ z, (eqR W l U r) = z := ⟨_, rfl⟩
  have HZ := Lib.hid hz
  have hne : (z != z) = false := by simp
  clear hz
  by_cases hs : (1048576 : Int) < n
  · go_enter Try.func13, Try.ntmps13
    have VB_w0 := LgAt.new (w := w) W (.slice a n cap) rfl
    obtain ⟨bB, hbB⟩ : ∃ b, w.heap.size = b := ⟨_, rfl⟩
    have VB_w1 := VB_w0.alloc (.cells #[.int .i64 U, .slice a2 m cap2] 24)
    have hs0 : (w.alloc (.cells #[.int .i64 W, .slice a n cap] 24)).heap.size = bB + 1 := by simp [hbB]
    have VC_w1 := LgAt.new (w := w.alloc (.cells #[.int .i64 W, .slice a n cap] 24)) U (.slice a2 m cap2) hs0
    have h_w1 := ((Below.refl w.heap.size w).alloc (Nat.le_refl _) (.cells #[.int .i64 W, .slice a n cap] 24)).alloc (by simp) (.cells #[.int .i64 U, .slice a2 m cap2] 24)
    have s_w1 : ((w.alloc (.cells #[.int .i64 W, .slice a n cap] 24)).alloc (.cells #[.int .i64 U, .slice a2 m cap2] 24)).heap.size = bB + 1 + 1 := by simp [hbB]
    clear VB_w0 hs0
    rw [hbB] at VB_w1
    have qB0 := VB_w1.c0
    have qB1 := VB_w1.c1
    have qC0 := VC_w1.c0
    have qC1 := VC_w1.c1
    go_wp2_with fail
    generalize ((w.alloc (.cells #[.int .i64 W, .slice a n cap] 24)).alloc (.cells #[.int .i64 U, .slice a2 m cap2] 24)) = w1 at *
    refine (lSzR_big W a n cap 1048576 _ (by omega) hs hm2).mono ?_
    rintro e w' ⟨rfl, hb0⟩
    go_wp2
    go_ret
    exact ⟨rfl, h_w1.trans (hb0.mono h_w1.size)⟩
  · have hn : n ≤ 1048576 := by omega
    have hn4 : n ≤ 4194304 := by omega
    have hl4 : l.length ≤ 4194304 := by rw [hln]; omega
    by_cases hs2 : (1048576 : Int) - n < m
    · go_enter Try.func13, Try.ntmps13
      have VB_w0 := LgAt.new (w := w) W (.slice a n cap) rfl
      obtain ⟨bB, hbB⟩ : ∃ b, w.heap.size = b := ⟨_, rfl⟩
      have VB_w1 := VB_w0.alloc (.cells #[.int .i64 U, .slice a2 m cap2] 24)
      have hs0 : (w.alloc (.cells #[.int .i64 W, .slice a n cap] 24)).heap.size = bB + 1 := by simp [hbB]
      have VC_w1 := LgAt.new (w := w.alloc (.cells #[.int .i64 W, .slice a n cap] 24)) U (.slice a2 m cap2) hs0
      have h_w1 := ((Below.refl w.heap.size w).alloc (Nat.le_refl _) (.cells #[.int .i64 W, .slice a n cap] 24)).alloc (by simp) (.cells #[.int .i64 U, .slice a2 m cap2] 24)
      have s_w1 : ((w.alloc (.cells #[.int .i64 W, .slice a n cap] 24)).alloc (.cells #[.int .i64 U, .slice a2 m cap2] 24)).heap.size = bB + 1 + 1 := by simp [hbB]
      clear VB_w0 hs0
      rw [hbB] at VB_w1
      have qB0 := VB_w1.c0
      have qB1 := VB_w1.c1
      have qC0 := VC_w1.c0
      have qC1 := VC_w1.c1
      go_wp2_with fail
      generalize ((w.alloc (.cells #[.int .i64 W, .slice a n cap] 24)).alloc (.cells #[.int .i64 U, .slice a2 m cap2] 24)) = w1 at *
      refine (lSzR_fits W a n cap 1048576 _ (by omega) (by omega)).mono ?_
      rintro e w2 ⟨rfl, hbb⟩
      clear qB0 qB1 qC0 qC1
      have VB_w2 := VB_w1.on hbb VB_w1.lt
      have VC_w2 := VC_w1.on hbb VC_w1.lt
      have h_w2 := h_w1.trans (hbb.mono h_w1.size)
      have s_w2 := hbb.size
      clear VB_w1 VC_w1 h_w1
      clear hbb
      have qB0 := VB_w2.c0
      have qB1 := VB_w2.c1
      have qC0 := VC_w2.c0
      have qC1 := VC_w2.c1
      go_wp2_with fail
      refine (lSzR_big U a2 m cap2 (1048576 - n) _ (by omega) (by omega) hm4).mono ?_
      rintro e w' ⟨rfl, hb0⟩
      go_wp2
      go_ret
      exact ⟨rfl, h_w2.trans (hb0.mono h_w2.size)⟩
    · have hm1 : m ≤ 1048576 := by omega
      have hm5 : m ≤ 4194304 := by omega
      have hl5 : r.length ≤ 4194304 := by rw [hln2]; omega
      go_enter Try.func13, Try.ntmps13
      have VB_w0 := LgAt.new (w := w) W (.slice a n cap) rfl
      obtain ⟨bB, hbB⟩ : ∃ b, w.heap.size = b := ⟨_, rfl⟩
      have VB_w1 := VB_w0.alloc (.cells #[.int .i64 U, .slice a2 m cap2] 24)
      have hs0 : (w.alloc (.cells #[.int .i64 W, .slice a n cap] 24)).heap.size = bB + 1 := by simp [hbB]
      have VC_w1 := LgAt.new (w := w.alloc (.cells #[.int .i64 W, .slice a n cap] 24)) U (.slice a2 m cap2) hs0
      have h_w1 := ((Below.refl w.heap.size w).alloc (Nat.le_refl _) (.cells #[.int .i64 W, .slice a n cap] 24)).alloc (by simp) (.cells #[.int .i64 U, .slice a2 m cap2] 24)
      have s_w1 : ((w.alloc (.cells #[.int .i64 W, .slice a n cap] 24)).alloc (.cells #[.int .i64 U, .slice a2 m cap2] 24)).heap.size = bB + 1 + 1 := by simp [hbB]
      clear VB_w0 hs0
      rw [hbB] at VB_w1
      have qB0 := VB_w1.c0
      have qB1 := VB_w1.c1
      have qC0 := VC_w1.c0
      have qC1 := VC_w1.c1
      go_wp2_with fail
      generalize ((w.alloc (.cells #[.int .i64 W, .slice a n cap] 24)).alloc (.cells #[.int .i64 U, .slice a2 m cap2] 24)) = w1 at *
      refine (lSzR_fits W a n cap 1048576 _ (by omega) (by omega)).mono ?_
      rintro e w2 ⟨rfl, hbb⟩
      clear qB0 qB1 qC0 qC1
      have VB_w2 := VB_w1.on hbb VB_w1.lt
      have VC_w2 := VC_w1.on hbb VC_w1.lt
      have h_w2 := h_w1.trans (hbb.mono h_w1.size)
      have s_w2 := hbb.size
      clear VB_w1 VC_w1 h_w1
      clear hbb
      have qB0 := VB_w2.c0
      have qB1 := VB_w2.c1
      have qC0 := VC_w2.c0
      have qC1 := VC_w2.c1
      go_wp2_with fail
      refine (lSzR_fits U a2 m cap2 (1048576 - n) _ (by omega) (by omega)).mono ?_
      rintro e w3 ⟨rfl, hbb⟩
      clear qB0 qB1 qC0 qC1
      have VB_w3 := VB_w2.on hbb VB_w2.lt
      have VC_w3 := VC_w2.on hbb VC_w2.lt
      have h_w3 := h_w2.trans (hbb.mono h_w2.size)
      have s_w3 := hbb.size
      clear VB_w2 VC_w2 h_w2
      clear hbb
      have qB0 := VB_w3.c0
      have qB1 := VB_w3.c1
      have qC0 := VC_w3.c0
      have qC1 := VC_w3.c1
      go_wp2_with fail
      go_region_held3 (fun w' => w'.cell? ⟨bB, 0, none⟩ = some (.int .i64 W) ∧ w'.cell? ⟨bB, 1, none⟩ = some (.slice a n cap) ∧ w'.cell? ⟨bB + 1, 0, none⟩ = some (.int .i64 U) ∧ w'.cell? ⟨bB + 1, 1, none⟩ = some (.slice a2 m cap2))
        (first
          | exact ⟨VB_w3.c0, VB_w3.c1, VC_w3.c0, VC_w3.c1⟩
          | exact ⟨b6.c0, b6.c1, d6.c0, d6.c1⟩
          | exact ⟨b7.c0, b7.c1, d7.c0, d7.c1⟩
          | exact ⟨b8.c0, b8.c1, d8.c0, d8.c1⟩)
        (first
          | (have h9 := hbd
             clear h9
             go_at_call 16
             refine (lToRegion w.heap.size m cap2 a2 U r w4 hm1 (HC2.out.on (h_w3.trans (hbd.mono h_w3.size))) (h_w3.trans (hbd.mono h_w3.size)).size).mono ?_
             rintro e w5 ⟨gB, rfl, OZ_w5, hbe⟩
             have b7 := b6.on hbe b6.lt
             have d7 := d6.on hbe d6.lt)
          | (go_at_call 16
             refine (lToRegion w.heap.size n cap a W l _ hn (HC.out.on (h_w3.drew)) h_w3.size).mono ?_
             rintro e w4 ⟨gA, rfl, OY_w4, hba⟩
             have b6 : LgAt w4 bB W (.slice a n cap) := LgAt.on (w := w3.drew) VB_w3 hba VB_w3.lt
             have d6 : LgAt w4 (bB + 1) U (.slice a2 m cap2) := LgAt.on (w := w3.drew) VC_w3 hba VC_w3.lt
             have hbd : Below w3.heap.size w3 w4 := ((Below.refl _ w3).drew).trans hba)
          | (go_at_call 50
             refine (sEqR w5.heap.size n n m m _ _ W U l r w5 hn4 hm5 (IntsAt.of_own (OY_w4.kept (grow_below hbe none) (Classical.em _)) HC.out.2.1) (IntsAt.of_own OZ_w5 HC2.out.2.1) (Nat.le_refl _)).mono ?_
             rintro e w6 ⟨rfl, hbf⟩
             have b8 := b7.on hbf b7.lt
             have d8 := d7.on hbf d7.lt))
      have hbq : Below w3.heap.size w3 w6 := hbd.trans ((hbe.trans (hbf.mono hbe.size)).mono hbd.size)
      clear hba hbd hbe hbf b6 d6 b7 d7 b8 d8 OY_w4 OZ_w5
      rw [HZ.out]
      clear qB0 qB1 qC0 qC1
      have VB_w6 := VB_w3.on hbq VB_w3.lt
      have VC_w6 := VC_w3.on hbq VC_w3.lt
      have h_w6 := h_w3.trans (hbq.mono h_w3.size)
      have s_w6 := hbq.size
      clear VB_w3 VC_w3 h_w3
      clear hbq
      have qB0 := VB_w6.c0
      have qB1 := VB_w6.c1
      have qC0 := VC_w6.c0
      have qC1 := VC_w6.c1
      go_wp2_with fail
      refine (lToRegion w.heap.size n cap a W l w6 hn (HC.out.on h_w6) h_w6.size).mono ?_
      rintro e w7 ⟨gX, rfl, OX_w7, hbb⟩
      clear qB0 qB1 qC0 qC1
      have VB_w7 := VB_w6.on hbb VB_w6.lt
      have VC_w7 := VC_w6.on hbb VC_w6.lt
      have h_w7 := h_w6.trans (hbb.mono h_w6.size)
      have s_w7 := hbb.size
      clear VB_w6 VC_w6 h_w6
      have TX := OX_w7.lt
      clear hbb
      obtain ⟨bX, hbX⟩ : ∃ b, w7.heap.size = b := ⟨_, rfl⟩
      have VX_w8 := RgAt.new (w := w7) W (.slice (some ⟨gX, 0, none⟩) n n) hbX
      have VB_w8 := VB_w7.alloc (.cells #[.int .i64 W, .slice (some ⟨gX, 0, none⟩) n n] 27)
      have VC_w8 := VC_w7.alloc (.cells #[.int .i64 W, .slice (some ⟨gX, 0, none⟩) n n] 27)
      have OX_w8 := OX_w7.alloc (.cells #[.int .i64 W, .slice (some ⟨gX, 0, none⟩) n n] 27)
      have h_w8 := h_w7.alloc h_w7.size (.cells #[.int .i64 W, .slice (some ⟨gX, 0, none⟩) n n] 27)
      have s_w8 : (w7.alloc (.cells #[.int .i64 W, .slice (some ⟨gX, 0, none⟩) n n] 27)).heap.size = bX + 1 := by simp [hbX]
      clear VB_w7 VC_w7 OX_w7 h_w7
      have qB0 := VB_w8.c0
      have qB1 := VB_w8.c1
      have qC0 := VC_w8.c0
      have qC1 := VC_w8.c1
      have qX0 := VX_w8.c0
      have qX1 := VX_w8.c1
      go_wp2_with fail
      generalize (w7.alloc (.cells #[.int .i64 W, .slice (some ⟨gX, 0, none⟩) n n] 27)) = w8 at *
      refine (lToRegion w.heap.size m cap2 a2 U r w8 hm1 (HC2.out.on h_w8) h_w8.size).mono ?_
      rintro e w9 ⟨gY, rfl, OY_w9, hbb⟩
      clear qB0 qB1 qC0 qC1 qX0 qX1
      have VB_w9 := VB_w8.on hbb VB_w8.lt
      have VC_w9 := VC_w8.on hbb VC_w8.lt
      have VX_w9 := VX_w8.on hbb VX_w8.lt
      have OX_w9 := OX_w8.kept (grow_below hbb none) (Classical.em _)
      have h_w9 := h_w8.trans (hbb.mono h_w8.size)
      have s_w9 := hbb.size
      clear VB_w8 VC_w8 VX_w8 OX_w8 h_w8
      have TY := OY_w9.lt
      clear hbb
      obtain ⟨bY, hbY⟩ : ∃ b, w9.heap.size = b := ⟨_, rfl⟩
      have VY_w10 := RgAt.new (w := w9) U (.slice (some ⟨gY, 0, none⟩) m m) hbY
      have VB_w10 := VB_w9.alloc (.cells #[.int .i64 U, .slice (some ⟨gY, 0, none⟩) m m] 27)
      have VC_w10 := VC_w9.alloc (.cells #[.int .i64 U, .slice (some ⟨gY, 0, none⟩) m m] 27)
      have VX_w10 := VX_w9.alloc (.cells #[.int .i64 U, .slice (some ⟨gY, 0, none⟩) m m] 27)
      have OX_w10 := OX_w9.alloc (.cells #[.int .i64 U, .slice (some ⟨gY, 0, none⟩) m m] 27)
      have OY_w10 := OY_w9.alloc (.cells #[.int .i64 U, .slice (some ⟨gY, 0, none⟩) m m] 27)
      have h_w10 := h_w9.alloc h_w9.size (.cells #[.int .i64 U, .slice (some ⟨gY, 0, none⟩) m m] 27)
      have s_w10 : (w9.alloc (.cells #[.int .i64 U, .slice (some ⟨gY, 0, none⟩) m m] 27)).heap.size = bY + 1 := by simp [hbY]
      clear VB_w9 VC_w9 VX_w9 OX_w9 OY_w9 h_w9
      have qB0 := VB_w10.c0
      have qB1 := VB_w10.c1
      have qC0 := VC_w10.c0
      have qC1 := VC_w10.c1
      have qX0 := VX_w10.c0
      have qX1 := VX_w10.c1
      have qY0 := VY_w10.c0
      have qY1 := VY_w10.c1
      go_wp2_with fail
      generalize (w9.alloc (.cells #[.int .i64 U, .slice (some ⟨gY, 0, none⟩) m m] 27)) = w10 at *
      refine (iEqR w10.heap.size n n m m _ _ W U l r w10 hn4 hm5 (IntsAt.of_own OX_w10 HC.out.2.1) (IntsAt.of_own OY_w10 HC2.out.2.1) (Nat.le_refl _)).mono ?_
      rintro e w11 ⟨rfl, hbb⟩
      rw [HZ.out]
      clear qB0 qB1 qC0 qC1 qX0 qX1 qY0 qY1
      have VB_w11 := VB_w10.on hbb VB_w10.lt
      have VC_w11 := VC_w10.on hbb VC_w10.lt
      have VX_w11 := VX_w10.on hbb VX_w10.lt
      have VY_w11 := VY_w10.on hbb VY_w10.lt
      have OX_w11 := OX_w10.kept (grow_below hbb none) (Classical.em _)
      have OY_w11 := OY_w10.kept (grow_below hbb none) (Classical.em _)
      have h_w11 := h_w10.trans (hbb.mono h_w10.size)
      have s_w11 := hbb.size
      clear VB_w10 VC_w10 VX_w10 VY_w10 OX_w10 OY_w10 h_w10
      clear hbb
      have qB0 := VB_w11.c0
      have qB1 := VB_w11.c1
      have qC0 := VC_w11.c0
      have qC1 := VC_w11.c1
      have qX0 := VX_w11.c0
      have qX1 := VX_w11.c1
      have qY0 := VY_w11.c0
      have qY1 := VY_w11.c1
      go_wp2_with fail
      go_region_held3 (fun w' => w'.cell? ⟨bX, 0, none⟩ = some (.int .i64 W) ∧ w'.cell? ⟨bX, 1, none⟩ = some (.slice (some ⟨gX, 0, none⟩) n n) ∧ w'.cell? ⟨bB, 0, none⟩ = some (.int .i64 W) ∧ w'.cell? ⟨bB, 1, none⟩ = some (.slice a n cap))
        (first
          | exact ⟨VX_w11.c0, VX_w11.c1, VB_w11.c0, VB_w11.c1⟩
          | exact ⟨xx6.c0, xx6.c1, bb6.c0, bb6.c1⟩
          | exact ⟨xx7.c0, xx7.c1, bb7.c0, bb7.c1⟩)
        (first
          | (go_at_call 16
             refine (lToRegion w.heap.size n cap a W l _ hn (HC.out.on (h_w11).drew) h_w11.size).mono ?_
             rintro e w12 ⟨gw12, rfl, OQ_w12, hbb⟩
             have xx6 : RgAt w12 bX W (.slice (some ⟨gX, 0, none⟩) n n) := RgAt.on (w := w11.drew) VX_w11 hbb VX_w11.lt
             have bb6 : LgAt w12 (bB) W (.slice a n cap) := LgAt.on (w := w11.drew) VB_w11 hbb VB_w11.lt
             have hbd : Below w11.heap.size w11 w12 := ((Below.refl _ w11).drew).trans hbb)
          | (go_at_call 18
             refine (lEqR w12.heap.size W _ _ l w12 hl4 (IsRd.of_own2 (OX_w11.kept (grow_below hbd none) (Classical.em _))) (IsRd.of_own2 OQ_w12) (Nat.le_refl _)).mono ?_
             rintro e w13 ⟨rfl, hbe⟩
             have xx7 := xx6.on hbe xx6.lt
             have bb7 := bb6.on hbe bb6.lt))
      have hbq : Below w11.heap.size w11 w13 := hbd.trans (hbe.mono hbd.size)
      clear hbd hbe hbb xx6 bb6 xx7 bb7 OQ_w12
      clear qB0 qB1 qC0 qC1 qX0 qX1 qY0 qY1
      have VB_w13 := VB_w11.on hbq VB_w11.lt
      have VC_w13 := VC_w11.on hbq VC_w11.lt
      have VX_w13 := VX_w11.on hbq VX_w11.lt
      have VY_w13 := VY_w11.on hbq VY_w11.lt
      have OX_w13 := OX_w11.kept (grow_below hbq none) (Classical.em _)
      have OY_w13 := OY_w11.kept (grow_below hbq none) (Classical.em _)
      have h_w13 := h_w11.trans (hbq.mono h_w11.size)
      have s_w13 := hbq.size
      clear VB_w11 VC_w11 VX_w11 VY_w11 OX_w11 OY_w11 h_w11
      clear hbq
      have qB0 := VB_w13.c0
      have qB1 := VB_w13.c1
      have qC0 := VC_w13.c0
      have qC1 := VC_w13.c1
      have qX0 := VX_w13.c0
      have qX1 := VX_w13.c1
      have qY0 := VY_w13.c0
      have qY1 := VY_w13.c1
      go_wp2_with fail
      go_region_held3 (fun w' => w'.cell? ⟨bY, 0, none⟩ = some (.int .i64 U) ∧ w'.cell? ⟨bY, 1, none⟩ = some (.slice (some ⟨gY, 0, none⟩) m m) ∧ w'.cell? ⟨bB + 1, 0, none⟩ = some (.int .i64 U) ∧ w'.cell? ⟨bB + 1, 1, none⟩ = some (.slice a2 m cap2))
        (first
          | exact ⟨VY_w13.c0, VY_w13.c1, VC_w13.c0, VC_w13.c1⟩
          | exact ⟨xx6.c0, xx6.c1, bb6.c0, bb6.c1⟩
          | exact ⟨xx7.c0, xx7.c1, bb7.c0, bb7.c1⟩)
        (first
          | (go_at_call 16
             refine (lToRegion w.heap.size m cap2 a2 U r _ hm1 (HC2.out.on (h_w13).drew) h_w13.size).mono ?_
             rintro e w14 ⟨gw14, rfl, OQ_w14, hbb⟩
             have xx6 : RgAt w14 bY U (.slice (some ⟨gY, 0, none⟩) m m) := RgAt.on (w := w13.drew) VY_w13 hbb VY_w13.lt
             have bb6 : LgAt w14 (bB + 1) U (.slice a2 m cap2) := LgAt.on (w := w13.drew) VC_w13 hbb VC_w13.lt
             have hbd : Below w13.heap.size w13 w14 := ((Below.refl _ w13).drew).trans hbb)
          | (go_at_call 18
             refine (lEqR w14.heap.size U _ _ r w14 hl5 (IsRd.of_own2 (OY_w13.kept (grow_below hbd none) (Classical.em _))) (IsRd.of_own2 OQ_w14) (Nat.le_refl _)).mono ?_
             rintro e w15 ⟨rfl, hbe⟩
             have xx7 := xx6.on hbe xx6.lt
             have bb7 := bb6.on hbe bb6.lt))
      have hbq : Below w13.heap.size w13 w15 := hbd.trans (hbe.mono hbd.size)
      clear hbd hbe hbb xx6 bb6 xx7 bb7 OQ_w14
      clear qB0 qB1 qC0 qC1 qX0 qX1 qY0 qY1
      have VB_w15 := VB_w13.on hbq VB_w13.lt
      have VC_w15 := VC_w13.on hbq VC_w13.lt
      have VX_w15 := VX_w13.on hbq VX_w13.lt
      have VY_w15 := VY_w13.on hbq VY_w13.lt
      have OX_w15 := OX_w13.kept (grow_below hbq none) (Classical.em _)
      have OY_w15 := OY_w13.kept (grow_below hbq none) (Classical.em _)
      have h_w15 := h_w13.trans (hbq.mono h_w13.size)
      have s_w15 := hbq.size
      clear VB_w13 VC_w13 VX_w13 VY_w13 OX_w13 OY_w13 h_w13
      clear hbq
      go_wp2
      go_ret
      exact ⟨rfl, h_w15⟩

end Go.Proofs.Ytbfopdflkkcfaaa
