/-
  The laws on regions that give a plain value: the walk of each law.
-/
import Derived.Test.YtbfopdflkkcfaaaSr3
import Derived.Test.YtbfopdflkkcfaaaSr9
import Derived.Test.YtbfopdflkkcfaaaLw3
import Derived.Test.YtbfopdflkkcfaaaRar
namespace Go.Proofs.Ytbfopdflkkcfaaa
open Go.RowKit

theorem fmtR_le (W : Int) (l : List Int) : (fmtR W l).length ≤ 100 := by
  cases h : isReg W l with
  | false => rw [fmtR_no h]; simp
  | true =>
    obtain ⟨N, rfl, hr⟩ := isReg_out h
    rw [fmtR_yes hr]
    have h1 := fmtT_le N l l.length
    have h2 := Nat.mul_le_mul (show N + 1 ≤ 7 by have := hr.w6; omega) hr.h6
    omega

set_option maxHeartbeats 4000000 in
set_option maxRecDepth 100000 in
theorem law_IsRegion (W : Int) (a : Option Addr) (n cap : Nat) (l : List Int) (w : World) (hc : IntsAt w.heap.size w a n l) (hm : n ≤ maxLen) :
    Calls Try.prog 3 #[.agg #[.int .i64 W, .slice a n cap]] w fun e w' => e = .returned (.bool true) ∧ Below w.heap.size w w' := by
  have hm2 : n ≤ 9223372036854775807 := by unfold maxLen at hm; omega
  have HC := Lib.hid hc
  have hln := hc.1
  clear hc hm
  obtain ⟨z, hz⟩ : ∃ z, (isReg W l) = z := ⟨_, rfl⟩
  have HZ := Lib.hid hz
  have hne : (z != z) = false := by simp
  clear hz
  by_cases hs : (1048576 : Int) < n
  · go_enter Try.func3, Try.ntmps3
    have VB_w1 := LgAt.new (w := w) W (.slice a n cap) rfl
    obtain ⟨bB, hbB⟩ : ∃ b, w.heap.size = b := ⟨_, rfl⟩
    have h_w1 := (Below.refl w.heap.size w).alloc (Nat.le_refl _) (.cells #[.int .i64 W, .slice a n cap] 24)
    have s_w1 : (w.alloc (.cells #[.int .i64 W, .slice a n cap] 24)).heap.size = bB + 1 := by simp [hbB]
    rw [hbB] at VB_w1
    have qB0 := VB_w1.c0
    have qB1 := VB_w1.c1
    go_wp2_with fail
    generalize (w.alloc (.cells #[.int .i64 W, .slice a n cap] 24)) = w1 at *
    refine (lSzR_big W a n cap 1048576 _ (by omega) hs hm2).mono ?_
    rintro e w' ⟨rfl, hb0⟩
    go_wp2
    go_ret
    exact ⟨rfl, h_w1.trans (hb0.mono h_w1.size)⟩
  · have hn : n ≤ 1048576 := by omega
    have hn4 : n ≤ 4194304 := by omega
    have hl4 : l.length ≤ 4194304 := by rw [hln]; omega
    go_enter Try.func3, Try.ntmps3
    have VB_w1 := LgAt.new (w := w) W (.slice a n cap) rfl
    obtain ⟨bB, hbB⟩ : ∃ b, w.heap.size = b := ⟨_, rfl⟩
    have h_w1 := (Below.refl w.heap.size w).alloc (Nat.le_refl _) (.cells #[.int .i64 W, .slice a n cap] 24)
    have s_w1 : (w.alloc (.cells #[.int .i64 W, .slice a n cap] 24)).heap.size = bB + 1 := by simp [hbB]
    rw [hbB] at VB_w1
    have qB0 := VB_w1.c0
    have qB1 := VB_w1.c1
    go_wp2_with fail
    generalize (w.alloc (.cells #[.int .i64 W, .slice a n cap] 24)) = w1 at *
    refine (lSzR_fits W a n cap 1048576 _ (by omega) (by omega)).mono ?_
    rintro e w2 ⟨rfl, hbb⟩
    clear qB0 qB1
    have VB_w2 := VB_w1.on hbb VB_w1.lt
    have h_w2 := h_w1.trans (hbb.mono h_w1.size)
    have s_w2 := hbb.size
    clear VB_w1 h_w1
    clear hbb
    have qB0 := VB_w2.c0
    have qB1 := VB_w2.c1
    go_wp2_with fail
    refine (lToRegion w.heap.size n cap a W l w2 hn (HC.out.on h_w2) h_w2.size).mono ?_
    rintro e w3 ⟨gw3, rfl, OA_w3, hbb⟩
    clear qB0 qB1
    have VB_w3 := VB_w2.on hbb VB_w2.lt
    have h_w3 := h_w2.trans (hbb.mono h_w2.size)
    have s_w3 := hbb.size
    clear VB_w2 h_w2
    have TA := OA_w3.lt
    clear hbb
    have qB0 := VB_w3.c0
    have qB1 := VB_w3.c1
    go_wp2_with fail
    refine (sIsReg w3.heap.size n n _ W l w3 hn4 (IntsAt.of_own OA_w3 HC.out.2.1) (Nat.le_refl _)).mono ?_
    rintro e w4 ⟨rfl, hbb⟩
    rw [HZ.out]
    clear qB0 qB1
    have VB_w4 := VB_w3.on hbb VB_w3.lt
    have OA_w4 := OA_w3.kept (grow_below hbb none) (Classical.em _)
    have h_w4 := h_w3.trans (hbb.mono h_w3.size)
    have s_w4 := hbb.size
    clear VB_w3 OA_w3 h_w3
    clear hbb
    have qB0 := VB_w4.c0
    have qB1 := VB_w4.c1
    go_wp2_with fail
    refine (lToRegion w.heap.size n cap a W l w4 hn (HC.out.on h_w4) h_w4.size).mono ?_
    rintro e w5 ⟨gw5, rfl, OX_w5, hbb⟩
    clear qB0 qB1
    have VB_w5 := VB_w4.on hbb VB_w4.lt
    have OA_w5 := OA_w4.kept (grow_below hbb none) (Classical.em _)
    have h_w5 := h_w4.trans (hbb.mono h_w4.size)
    have s_w5 := hbb.size
    clear VB_w4 OA_w4 h_w4
    have TX := OX_w5.lt
    clear hbb
    obtain ⟨bX, hbX⟩ : ∃ b, w5.heap.size = b := ⟨_, rfl⟩
    have VX_w6 := RgAt.new (w := w5) W (.slice (some ⟨gw5, 0, none⟩) n n) hbX
    have VB_w6 := VB_w5.alloc (.cells #[.int .i64 W, .slice (some ⟨gw5, 0, none⟩) n n] 27)
    have OA_w6 := OA_w5.alloc (.cells #[.int .i64 W, .slice (some ⟨gw5, 0, none⟩) n n] 27)
    have OX_w6 := OX_w5.alloc (.cells #[.int .i64 W, .slice (some ⟨gw5, 0, none⟩) n n] 27)
    have h_w6 := h_w5.alloc h_w5.size (.cells #[.int .i64 W, .slice (some ⟨gw5, 0, none⟩) n n] 27)
    have s_w6 : (w5.alloc (.cells #[.int .i64 W, .slice (some ⟨gw5, 0, none⟩) n n] 27)).heap.size = bX + 1 := by simp [hbX]
    clear VB_w5 OA_w5 OX_w5 h_w5
    have qB0 := VB_w6.c0
    have qB1 := VB_w6.c1
    have qX0 := VX_w6.c0
    have qX1 := VX_w6.c1
    go_wp2_with fail
    generalize (w5.alloc (.cells #[.int .i64 W, .slice (some ⟨gw5, 0, none⟩) n n] 27)) = w6 at *
    refine (iIsReg w6.heap.size n n _ W l w6 hn4 (IntsAt.of_own OX_w6 HC.out.2.1) (Nat.le_refl _)).mono ?_
    rintro e w7 ⟨rfl, hbb⟩
    rw [HZ.out]
    clear qB0 qB1 qX0 qX1
    have VB_w7 := VB_w6.on hbb VB_w6.lt
    have VX_w7 := VX_w6.on hbb VX_w6.lt
    have OA_w7 := OA_w6.kept (grow_below hbb none) (Classical.em _)
    have OX_w7 := OX_w6.kept (grow_below hbb none) (Classical.em _)
    have h_w7 := h_w6.trans (hbb.mono h_w6.size)
    have s_w7 := hbb.size
    clear VB_w6 VX_w6 OA_w6 OX_w6 h_w6
    clear hbb
    have qB0 := VB_w7.c0
    have qB1 := VB_w7.c1
    have qX0 := VX_w7.c0
    have qX1 := VX_w7.c1
    go_wp2_with fail
    go_region_held3 (fun w' => w'.cell? ⟨bX, 0, none⟩ = some (.int .i64 W) ∧ w'.cell? ⟨bX, 1, none⟩ = some (.slice (some ⟨gw5, 0, none⟩) n n) ∧ w'.cell? ⟨bB, 0, none⟩ = some (.int .i64 W) ∧ w'.cell? ⟨bB, 1, none⟩ = some (.slice a n cap))
      (first
        | exact ⟨VX_w7.c0, VX_w7.c1, VB_w7.c0, VB_w7.c1⟩
        | exact ⟨xx6.c0, xx6.c1, bb6.c0, bb6.c1⟩
        | exact ⟨xx7.c0, xx7.c1, bb7.c0, bb7.c1⟩)
      (first
        | (go_at_call 16
           refine (lToRegion w.heap.size n cap a W l _ hn (HC.out.on (h_w7).drew) h_w7.size).mono ?_
           rintro e w8 ⟨gw8, rfl, OY_w8, hbb⟩
           have xx6 : RgAt w8 bX W (.slice (some ⟨gw5, 0, none⟩) n n) := RgAt.on (w := w7.drew) VX_w7 hbb VX_w7.lt
           have bb6 : LgAt w8 bB W (.slice a n cap) := LgAt.on (w := w7.drew) VB_w7 hbb VB_w7.lt
           have hbd : Below w7.heap.size w7 w8 := ((Below.refl _ w7).drew).trans hbb)
        | (go_at_call 18
           refine (lEqR w8.heap.size W _ _ l w8 hl4 (IsRd.of_own2 (OX_w7.kept (grow_below hbd none) (Classical.em _))) (IsRd.of_own2 OY_w8) (Nat.le_refl _)).mono ?_
           rintro e w9 ⟨rfl, hbe⟩
           have xx7 := xx6.on hbe xx6.lt
           have bb7 := bb6.on hbe bb6.lt))
    have hbq : Below w7.heap.size w7 w9 := hbd.trans (hbe.mono hbd.size)
    clear hbd hbe hbb xx6 bb6 xx7 bb7 OY_w8
    clear qB0 qB1 qX0 qX1
    have VB_w9 := VB_w7.on hbq VB_w7.lt
    have VX_w9 := VX_w7.on hbq VX_w7.lt
    have OA_w9 := OA_w7.kept (grow_below hbq none) (Classical.em _)
    have OX_w9 := OX_w7.kept (grow_below hbq none) (Classical.em _)
    have h_w9 := h_w7.trans (hbq.mono h_w7.size)
    have s_w9 := hbq.size
    clear VB_w7 VX_w7 OA_w7 OX_w7 h_w7
    clear hbq
    go_wp2
    go_ret
    exact ⟨rfl, h_w9⟩

set_option maxHeartbeats 4000000 in
set_option maxRecDepth 100000 in
theorem law_InRegion (W : Int) (a : Option Addr) (n cap : Nat) (l : List Int) (x : Int) (y : Int) (_ : (Lit.int .i64 x).wf = true) (_ : (Lit.int .i64 y).wf = true) (w : World) (hc : IntsAt w.heap.size w a n l) (hm : n ≤ maxLen) :
    Calls Try.prog 5 #[.agg #[.int .i64 W, .slice a n cap], .int .i64 x, .int .i64 y] w fun e w' => e = .returned (.bool true) ∧ Below w.heap.size w w' := by
  have hm2 : n ≤ 9223372036854775807 := by unfold maxLen at hm; omega
  have HC := Lib.hid hc
  have hln := hc.1
  clear hc hm
  obtain ⟨z, hz⟩ : ∃ z, (cellB W l x y) = z := ⟨_, rfl⟩
  have HZ := Lib.hid hz
  have hne : (z != z) = false := by simp
  clear hz
  by_cases hs : (1048576 : Int) < n
  · go_enter Try.func5, Try.ntmps5
    have VB_w1 := LgAt.new (w := w) W (.slice a n cap) rfl
    obtain ⟨bB, hbB⟩ : ∃ b, w.heap.size = b := ⟨_, rfl⟩
    have h_w1 := (Below.refl w.heap.size w).alloc (Nat.le_refl _) (.cells #[.int .i64 W, .slice a n cap] 24)
    have s_w1 : (w.alloc (.cells #[.int .i64 W, .slice a n cap] 24)).heap.size = bB + 1 := by simp [hbB]
    rw [hbB] at VB_w1
    have qB0 := VB_w1.c0
    have qB1 := VB_w1.c1
    go_wp2_with fail
    generalize (w.alloc (.cells #[.int .i64 W, .slice a n cap] 24)) = w1 at *
    refine (lSzR_big W a n cap 1048576 _ (by omega) hs hm2).mono ?_
    rintro e w' ⟨rfl, hb0⟩
    go_wp2
    go_ret
    exact ⟨rfl, h_w1.trans (hb0.mono h_w1.size)⟩
  · have hn : n ≤ 1048576 := by omega
    have hn4 : n ≤ 4194304 := by omega
    have hl4 : l.length ≤ 4194304 := by rw [hln]; omega
    go_enter Try.func5, Try.ntmps5
    have VB_w1 := LgAt.new (w := w) W (.slice a n cap) rfl
    obtain ⟨bB, hbB⟩ : ∃ b, w.heap.size = b := ⟨_, rfl⟩
    have h_w1 := (Below.refl w.heap.size w).alloc (Nat.le_refl _) (.cells #[.int .i64 W, .slice a n cap] 24)
    have s_w1 : (w.alloc (.cells #[.int .i64 W, .slice a n cap] 24)).heap.size = bB + 1 := by simp [hbB]
    rw [hbB] at VB_w1
    have qB0 := VB_w1.c0
    have qB1 := VB_w1.c1
    go_wp2_with fail
    generalize (w.alloc (.cells #[.int .i64 W, .slice a n cap] 24)) = w1 at *
    refine (lSzR_fits W a n cap 1048576 _ (by omega) (by omega)).mono ?_
    rintro e w2 ⟨rfl, hbb⟩
    clear qB0 qB1
    have VB_w2 := VB_w1.on hbb VB_w1.lt
    have h_w2 := h_w1.trans (hbb.mono h_w1.size)
    have s_w2 := hbb.size
    clear VB_w1 h_w1
    clear hbb
    have qB0 := VB_w2.c0
    have qB1 := VB_w2.c1
    go_wp2_with fail
    refine (lToRegion w.heap.size n cap a W l w2 hn (HC.out.on h_w2) h_w2.size).mono ?_
    rintro e w3 ⟨gw3, rfl, OA_w3, hbb⟩
    clear qB0 qB1
    have VB_w3 := VB_w2.on hbb VB_w2.lt
    have h_w3 := h_w2.trans (hbb.mono h_w2.size)
    have s_w3 := hbb.size
    clear VB_w2 h_w2
    have TA := OA_w3.lt
    clear hbb
    have qB0 := VB_w3.c0
    have qB1 := VB_w3.c1
    go_wp2_with fail
    refine (sInReg w3.heap.size n n _ W l x y w3 hn4 (IntsAt.of_own OA_w3 HC.out.2.1) (Nat.le_refl _)).mono ?_
    rintro e w4 ⟨rfl, hbb⟩
    rw [HZ.out]
    clear qB0 qB1
    have VB_w4 := VB_w3.on hbb VB_w3.lt
    have OA_w4 := OA_w3.kept (grow_below hbb none) (Classical.em _)
    have h_w4 := h_w3.trans (hbb.mono h_w3.size)
    have s_w4 := hbb.size
    clear VB_w3 OA_w3 h_w3
    clear hbb
    have qB0 := VB_w4.c0
    have qB1 := VB_w4.c1
    go_wp2_with fail
    refine (lToRegion w.heap.size n cap a W l w4 hn (HC.out.on h_w4) h_w4.size).mono ?_
    rintro e w5 ⟨gw5, rfl, OX_w5, hbb⟩
    clear qB0 qB1
    have VB_w5 := VB_w4.on hbb VB_w4.lt
    have OA_w5 := OA_w4.kept (grow_below hbb none) (Classical.em _)
    have h_w5 := h_w4.trans (hbb.mono h_w4.size)
    have s_w5 := hbb.size
    clear VB_w4 OA_w4 h_w4
    have TX := OX_w5.lt
    clear hbb
    obtain ⟨bX, hbX⟩ : ∃ b, w5.heap.size = b := ⟨_, rfl⟩
    have VX_w6 := RgAt.new (w := w5) W (.slice (some ⟨gw5, 0, none⟩) n n) hbX
    have VB_w6 := VB_w5.alloc (.cells #[.int .i64 W, .slice (some ⟨gw5, 0, none⟩) n n] 27)
    have OA_w6 := OA_w5.alloc (.cells #[.int .i64 W, .slice (some ⟨gw5, 0, none⟩) n n] 27)
    have OX_w6 := OX_w5.alloc (.cells #[.int .i64 W, .slice (some ⟨gw5, 0, none⟩) n n] 27)
    have h_w6 := h_w5.alloc h_w5.size (.cells #[.int .i64 W, .slice (some ⟨gw5, 0, none⟩) n n] 27)
    have s_w6 : (w5.alloc (.cells #[.int .i64 W, .slice (some ⟨gw5, 0, none⟩) n n] 27)).heap.size = bX + 1 := by simp [hbX]
    clear VB_w5 OA_w5 OX_w5 h_w5
    have qB0 := VB_w6.c0
    have qB1 := VB_w6.c1
    have qX0 := VX_w6.c0
    have qX1 := VX_w6.c1
    go_wp2_with fail
    generalize (w5.alloc (.cells #[.int .i64 W, .slice (some ⟨gw5, 0, none⟩) n n] 27)) = w6 at *
    refine (iInReg w6.heap.size n n _ W l x y w6 hn4 (IntsAt.of_own OX_w6 HC.out.2.1) (Nat.le_refl _)).mono ?_
    rintro e w7 ⟨rfl, hbb⟩
    rw [HZ.out]
    clear qB0 qB1 qX0 qX1
    have VB_w7 := VB_w6.on hbb VB_w6.lt
    have VX_w7 := VX_w6.on hbb VX_w6.lt
    have OA_w7 := OA_w6.kept (grow_below hbb none) (Classical.em _)
    have OX_w7 := OX_w6.kept (grow_below hbb none) (Classical.em _)
    have h_w7 := h_w6.trans (hbb.mono h_w6.size)
    have s_w7 := hbb.size
    clear VB_w6 VX_w6 OA_w6 OX_w6 h_w6
    clear hbb
    have qB0 := VB_w7.c0
    have qB1 := VB_w7.c1
    have qX0 := VX_w7.c0
    have qX1 := VX_w7.c1
    go_wp2_with fail
    go_region_held3 (fun w' => w'.cell? ⟨bX, 0, none⟩ = some (.int .i64 W) ∧ w'.cell? ⟨bX, 1, none⟩ = some (.slice (some ⟨gw5, 0, none⟩) n n) ∧ w'.cell? ⟨bB, 0, none⟩ = some (.int .i64 W) ∧ w'.cell? ⟨bB, 1, none⟩ = some (.slice a n cap))
      (first
        | exact ⟨VX_w7.c0, VX_w7.c1, VB_w7.c0, VB_w7.c1⟩
        | exact ⟨xx6.c0, xx6.c1, bb6.c0, bb6.c1⟩
        | exact ⟨xx7.c0, xx7.c1, bb7.c0, bb7.c1⟩)
      (first
        | (go_at_call 16
           refine (lToRegion w.heap.size n cap a W l _ hn (HC.out.on (h_w7).drew) h_w7.size).mono ?_
           rintro e w8 ⟨gw8, rfl, OY_w8, hbb⟩
           have xx6 : RgAt w8 bX W (.slice (some ⟨gw5, 0, none⟩) n n) := RgAt.on (w := w7.drew) VX_w7 hbb VX_w7.lt
           have bb6 : LgAt w8 bB W (.slice a n cap) := LgAt.on (w := w7.drew) VB_w7 hbb VB_w7.lt
           have hbd : Below w7.heap.size w7 w8 := ((Below.refl _ w7).drew).trans hbb)
        | (go_at_call 18
           refine (lEqR w8.heap.size W _ _ l w8 hl4 (IsRd.of_own2 (OX_w7.kept (grow_below hbd none) (Classical.em _))) (IsRd.of_own2 OY_w8) (Nat.le_refl _)).mono ?_
           rintro e w9 ⟨rfl, hbe⟩
           have xx7 := xx6.on hbe xx6.lt
           have bb7 := bb6.on hbe bb6.lt))
    have hbq : Below w7.heap.size w7 w9 := hbd.trans (hbe.mono hbd.size)
    clear hbd hbe hbb xx6 bb6 xx7 bb7 OY_w8
    clear qB0 qB1 qX0 qX1
    have VB_w9 := VB_w7.on hbq VB_w7.lt
    have VX_w9 := VX_w7.on hbq VX_w7.lt
    have OA_w9 := OA_w7.kept (grow_below hbq none) (Classical.em _)
    have OX_w9 := OX_w7.kept (grow_below hbq none) (Classical.em _)
    have h_w9 := h_w7.trans (hbq.mono h_w7.size)
    have s_w9 := hbq.size
    clear VB_w7 VX_w7 OA_w7 OX_w7 h_w7
    clear hbq
    go_wp2
    go_ret
    exact ⟨rfl, h_w9⟩

set_option maxHeartbeats 4000000 in
set_option maxRecDepth 100000 in
theorem law_AreaOf (W : Int) (a : Option Addr) (n cap : Nat) (l : List Int) (w : World) (hc : IntsAt w.heap.size w a n l) (hm : n ≤ maxLen) :
    Calls Try.prog 6 #[.agg #[.int .i64 W, .slice a n cap]] w fun e w' => e = .returned (.bool true) ∧ Below w.heap.size w w' := by
  have hm2 : n ≤ 9223372036854775807 := by unfold maxLen at hm; omega
  have HC := Lib.hid hc
  have hln := hc.1
  clear hc hm
  obtain ⟨z, hz⟩ : ∃ z, (areaR W l) = z := ⟨_, rfl⟩
  have HZ := Lib.hid hz
  have hne : (z != z) = false := by simp
  clear hz
  by_cases hs : (1048576 : Int) < n
  · go_enter Try.func6, Try.ntmps6
    have VB_w1 := LgAt.new (w := w) W (.slice a n cap) rfl
    obtain ⟨bB, hbB⟩ : ∃ b, w.heap.size = b := ⟨_, rfl⟩
    have h_w1 := (Below.refl w.heap.size w).alloc (Nat.le_refl _) (.cells #[.int .i64 W, .slice a n cap] 24)
    have s_w1 : (w.alloc (.cells #[.int .i64 W, .slice a n cap] 24)).heap.size = bB + 1 := by simp [hbB]
    rw [hbB] at VB_w1
    have qB0 := VB_w1.c0
    have qB1 := VB_w1.c1
    go_wp2_with fail
    generalize (w.alloc (.cells #[.int .i64 W, .slice a n cap] 24)) = w1 at *
    refine (lSzR_big W a n cap 1048576 _ (by omega) hs hm2).mono ?_
    rintro e w' ⟨rfl, hb0⟩
    go_wp2
    go_ret
    exact ⟨rfl, h_w1.trans (hb0.mono h_w1.size)⟩
  · have hn : n ≤ 1048576 := by omega
    have hn4 : n ≤ 4194304 := by omega
    have hl4 : l.length ≤ 4194304 := by rw [hln]; omega
    go_enter Try.func6, Try.ntmps6
    have VB_w1 := LgAt.new (w := w) W (.slice a n cap) rfl
    obtain ⟨bB, hbB⟩ : ∃ b, w.heap.size = b := ⟨_, rfl⟩
    have h_w1 := (Below.refl w.heap.size w).alloc (Nat.le_refl _) (.cells #[.int .i64 W, .slice a n cap] 24)
    have s_w1 : (w.alloc (.cells #[.int .i64 W, .slice a n cap] 24)).heap.size = bB + 1 := by simp [hbB]
    rw [hbB] at VB_w1
    have qB0 := VB_w1.c0
    have qB1 := VB_w1.c1
    go_wp2_with fail
    generalize (w.alloc (.cells #[.int .i64 W, .slice a n cap] 24)) = w1 at *
    refine (lSzR_fits W a n cap 1048576 _ (by omega) (by omega)).mono ?_
    rintro e w2 ⟨rfl, hbb⟩
    clear qB0 qB1
    have VB_w2 := VB_w1.on hbb VB_w1.lt
    have h_w2 := h_w1.trans (hbb.mono h_w1.size)
    have s_w2 := hbb.size
    clear VB_w1 h_w1
    clear hbb
    have qB0 := VB_w2.c0
    have qB1 := VB_w2.c1
    go_wp2_with fail
    refine (lToRegion w.heap.size n cap a W l w2 hn (HC.out.on h_w2) h_w2.size).mono ?_
    rintro e w3 ⟨gw3, rfl, OA_w3, hbb⟩
    clear qB0 qB1
    have VB_w3 := VB_w2.on hbb VB_w2.lt
    have h_w3 := h_w2.trans (hbb.mono h_w2.size)
    have s_w3 := hbb.size
    clear VB_w2 h_w2
    have TA := OA_w3.lt
    clear hbb
    have qB0 := VB_w3.c0
    have qB1 := VB_w3.c1
    go_wp2_with fail
    refine (sArea w3.heap.size n n _ W l w3 hn4 (IntsAt.of_own OA_w3 HC.out.2.1) (Nat.le_refl _)).mono ?_
    rintro e w4 ⟨rfl, hbb⟩
    rw [HZ.out]
    clear qB0 qB1
    have VB_w4 := VB_w3.on hbb VB_w3.lt
    have OA_w4 := OA_w3.kept (grow_below hbb none) (Classical.em _)
    have h_w4 := h_w3.trans (hbb.mono h_w3.size)
    have s_w4 := hbb.size
    clear VB_w3 OA_w3 h_w3
    clear hbb
    have qB0 := VB_w4.c0
    have qB1 := VB_w4.c1
    go_wp2_with fail
    refine (lToRegion w.heap.size n cap a W l w4 hn (HC.out.on h_w4) h_w4.size).mono ?_
    rintro e w5 ⟨gw5, rfl, OX_w5, hbb⟩
    clear qB0 qB1
    have VB_w5 := VB_w4.on hbb VB_w4.lt
    have OA_w5 := OA_w4.kept (grow_below hbb none) (Classical.em _)
    have h_w5 := h_w4.trans (hbb.mono h_w4.size)
    have s_w5 := hbb.size
    clear VB_w4 OA_w4 h_w4
    have TX := OX_w5.lt
    clear hbb
    obtain ⟨bX, hbX⟩ : ∃ b, w5.heap.size = b := ⟨_, rfl⟩
    have VX_w6 := RgAt.new (w := w5) W (.slice (some ⟨gw5, 0, none⟩) n n) hbX
    have VB_w6 := VB_w5.alloc (.cells #[.int .i64 W, .slice (some ⟨gw5, 0, none⟩) n n] 27)
    have OA_w6 := OA_w5.alloc (.cells #[.int .i64 W, .slice (some ⟨gw5, 0, none⟩) n n] 27)
    have OX_w6 := OX_w5.alloc (.cells #[.int .i64 W, .slice (some ⟨gw5, 0, none⟩) n n] 27)
    have h_w6 := h_w5.alloc h_w5.size (.cells #[.int .i64 W, .slice (some ⟨gw5, 0, none⟩) n n] 27)
    have s_w6 : (w5.alloc (.cells #[.int .i64 W, .slice (some ⟨gw5, 0, none⟩) n n] 27)).heap.size = bX + 1 := by simp [hbX]
    clear VB_w5 OA_w5 OX_w5 h_w5
    have qB0 := VB_w6.c0
    have qB1 := VB_w6.c1
    have qX0 := VX_w6.c0
    have qX1 := VX_w6.c1
    go_wp2_with fail
    generalize (w5.alloc (.cells #[.int .i64 W, .slice (some ⟨gw5, 0, none⟩) n n] 27)) = w6 at *
    refine (iArea w6.heap.size n n _ W l w6 hn4 (IntsAt.of_own OX_w6 HC.out.2.1) (Nat.le_refl _)).mono ?_
    rintro e w7 ⟨rfl, hbb⟩
    rw [HZ.out]
    clear qB0 qB1 qX0 qX1
    have VB_w7 := VB_w6.on hbb VB_w6.lt
    have VX_w7 := VX_w6.on hbb VX_w6.lt
    have OA_w7 := OA_w6.kept (grow_below hbb none) (Classical.em _)
    have OX_w7 := OX_w6.kept (grow_below hbb none) (Classical.em _)
    have h_w7 := h_w6.trans (hbb.mono h_w6.size)
    have s_w7 := hbb.size
    clear VB_w6 VX_w6 OA_w6 OX_w6 h_w6
    clear hbb
    have qB0 := VB_w7.c0
    have qB1 := VB_w7.c1
    have qX0 := VX_w7.c0
    have qX1 := VX_w7.c1
    go_wp2_with fail
    go_region_held3 (fun w' => w'.cell? ⟨bX, 0, none⟩ = some (.int .i64 W) ∧ w'.cell? ⟨bX, 1, none⟩ = some (.slice (some ⟨gw5, 0, none⟩) n n) ∧ w'.cell? ⟨bB, 0, none⟩ = some (.int .i64 W) ∧ w'.cell? ⟨bB, 1, none⟩ = some (.slice a n cap))
      (first
        | exact ⟨VX_w7.c0, VX_w7.c1, VB_w7.c0, VB_w7.c1⟩
        | exact ⟨xx6.c0, xx6.c1, bb6.c0, bb6.c1⟩
        | exact ⟨xx7.c0, xx7.c1, bb7.c0, bb7.c1⟩)
      (first
        | (go_at_call 16
           refine (lToRegion w.heap.size n cap a W l _ hn (HC.out.on (h_w7).drew) h_w7.size).mono ?_
           rintro e w8 ⟨gw8, rfl, OY_w8, hbb⟩
           have xx6 : RgAt w8 bX W (.slice (some ⟨gw5, 0, none⟩) n n) := RgAt.on (w := w7.drew) VX_w7 hbb VX_w7.lt
           have bb6 : LgAt w8 bB W (.slice a n cap) := LgAt.on (w := w7.drew) VB_w7 hbb VB_w7.lt
           have hbd : Below w7.heap.size w7 w8 := ((Below.refl _ w7).drew).trans hbb)
        | (go_at_call 18
           refine (lEqR w8.heap.size W _ _ l w8 hl4 (IsRd.of_own2 (OX_w7.kept (grow_below hbd none) (Classical.em _))) (IsRd.of_own2 OY_w8) (Nat.le_refl _)).mono ?_
           rintro e w9 ⟨rfl, hbe⟩
           have xx7 := xx6.on hbe xx6.lt
           have bb7 := bb6.on hbe bb6.lt))
    have hbq : Below w7.heap.size w7 w9 := hbd.trans (hbe.mono hbd.size)
    clear hbd hbe hbb xx6 bb6 xx7 bb7 OY_w8
    clear qB0 qB1 qX0 qX1
    have VB_w9 := VB_w7.on hbq VB_w7.lt
    have VX_w9 := VX_w7.on hbq VX_w7.lt
    have OA_w9 := OA_w7.kept (grow_below hbq none) (Classical.em _)
    have OX_w9 := OX_w7.kept (grow_below hbq none) (Classical.em _)
    have h_w9 := h_w7.trans (hbq.mono h_w7.size)
    have s_w9 := hbq.size
    clear VB_w7 VX_w7 OA_w7 OX_w7 h_w7
    clear hbq
    go_wp2
    go_ret
    exact ⟨rfl, h_w9⟩

set_option maxHeartbeats 4000000 in
set_option maxRecDepth 100000 in
theorem law_FormatRegion (W : Int) (a : Option Addr) (n cap : Nat) (l : List Int) (w : World) (hc : IntsAt w.heap.size w a n l) (hm : n ≤ maxLen) :
    Calls Try.prog 12 #[.agg #[.int .i64 W, .slice a n cap]] w fun e w' => e = .returned (.bool true) ∧ Below w.heap.size w w' := by
  have hm2 : n ≤ 9223372036854775807 := by unfold maxLen at hm; omega
  have HC := Lib.hid hc
  have hln := hc.1
  clear hc hm
  obtain ⟨z, hz⟩ : ∃ z, (fmtR W l) = z := ⟨_, rfl⟩
  have HZ := Lib.hid hz
  have hne : (z == z) = true := by simp
  have hzl : z.length ≤ 100 := by rw [← hz]; exact fmtR_le W l
  clear hz
  by_cases hs : (1048576 : Int) < n
  · go_enter Try.func12, Try.ntmps12
    have VB_w1 := LgAt.new (w := w) W (.slice a n cap) rfl
    obtain ⟨bB, hbB⟩ : ∃ b, w.heap.size = b := ⟨_, rfl⟩
    have h_w1 := (Below.refl w.heap.size w).alloc (Nat.le_refl _) (.cells #[.int .i64 W, .slice a n cap] 24)
    have s_w1 : (w.alloc (.cells #[.int .i64 W, .slice a n cap] 24)).heap.size = bB + 1 := by simp [hbB]
    rw [hbB] at VB_w1
    have qB0 := VB_w1.c0
    have qB1 := VB_w1.c1
    go_wp2_with fail
    generalize (w.alloc (.cells #[.int .i64 W, .slice a n cap] 24)) = w1 at *
    refine (lSzR_big W a n cap 1048576 _ (by omega) hs hm2).mono ?_
    rintro e w' ⟨rfl, hb0⟩
    go_wp2
    go_ret
    exact ⟨rfl, h_w1.trans (hb0.mono h_w1.size)⟩
  · have hn : n ≤ 1048576 := by omega
    have hn4 : n ≤ 4194304 := by omega
    have hl4 : l.length ≤ 4194304 := by rw [hln]; omega
    go_enter Try.func12, Try.ntmps12
    have VB_w1 := LgAt.new (w := w) W (.slice a n cap) rfl
    obtain ⟨bB, hbB⟩ : ∃ b, w.heap.size = b := ⟨_, rfl⟩
    have h_w1 := (Below.refl w.heap.size w).alloc (Nat.le_refl _) (.cells #[.int .i64 W, .slice a n cap] 24)
    have s_w1 : (w.alloc (.cells #[.int .i64 W, .slice a n cap] 24)).heap.size = bB + 1 := by simp [hbB]
    rw [hbB] at VB_w1
    have qB0 := VB_w1.c0
    have qB1 := VB_w1.c1
    go_wp2_with fail
    generalize (w.alloc (.cells #[.int .i64 W, .slice a n cap] 24)) = w1 at *
    refine (lSzR_fits W a n cap 1048576 _ (by omega) (by omega)).mono ?_
    rintro e w2 ⟨rfl, hbb⟩
    clear qB0 qB1
    have VB_w2 := VB_w1.on hbb VB_w1.lt
    have h_w2 := h_w1.trans (hbb.mono h_w1.size)
    have s_w2 := hbb.size
    clear VB_w1 h_w1
    clear hbb
    have qB0 := VB_w2.c0
    have qB1 := VB_w2.c1
    go_wp2_with fail
    refine (lToRegion w.heap.size n cap a W l w2 hn (HC.out.on h_w2) h_w2.size).mono ?_
    rintro e w3 ⟨gw3, rfl, OA_w3, hbb⟩
    clear qB0 qB1
    have VB_w3 := VB_w2.on hbb VB_w2.lt
    have h_w3 := h_w2.trans (hbb.mono h_w2.size)
    have s_w3 := hbb.size
    clear VB_w2 h_w2
    have TA := OA_w3.lt
    clear hbb
    have qB0 := VB_w3.c0
    have qB1 := VB_w3.c1
    go_wp2_with fail
    refine (sFmtR w3.heap.size n n _ W l w3 hn4 (IntsAt.of_own OA_w3 HC.out.2.1) (Nat.le_refl _)).mono ?_
    rintro e w4 ⟨rfl, hbb⟩
    rw [HZ.out]
    clear qB0 qB1
    have VB_w4 := VB_w3.on hbb VB_w3.lt
    have OA_w4 := OA_w3.kept (grow_below hbb none) (Classical.em _)
    have h_w4 := h_w3.trans (hbb.mono h_w3.size)
    have s_w4 := hbb.size
    clear VB_w3 OA_w3 h_w3
    clear hbb
    have qB0 := VB_w4.c0
    have qB1 := VB_w4.c1
    go_wp2_with fail
    refine (lToRegion w.heap.size n cap a W l w4 hn (HC.out.on h_w4) h_w4.size).mono ?_
    rintro e w5 ⟨gw5, rfl, OX_w5, hbb⟩
    clear qB0 qB1
    have VB_w5 := VB_w4.on hbb VB_w4.lt
    have OA_w5 := OA_w4.kept (grow_below hbb none) (Classical.em _)
    have h_w5 := h_w4.trans (hbb.mono h_w4.size)
    have s_w5 := hbb.size
    clear VB_w4 OA_w4 h_w4
    have TX := OX_w5.lt
    clear hbb
    obtain ⟨bX, hbX⟩ : ∃ b, w5.heap.size = b := ⟨_, rfl⟩
    have VX_w6 := RgAt.new (w := w5) W (.slice (some ⟨gw5, 0, none⟩) n n) hbX
    have VB_w6 := VB_w5.alloc (.cells #[.int .i64 W, .slice (some ⟨gw5, 0, none⟩) n n] 27)
    have OA_w6 := OA_w5.alloc (.cells #[.int .i64 W, .slice (some ⟨gw5, 0, none⟩) n n] 27)
    have OX_w6 := OX_w5.alloc (.cells #[.int .i64 W, .slice (some ⟨gw5, 0, none⟩) n n] 27)
    have h_w6 := h_w5.alloc h_w5.size (.cells #[.int .i64 W, .slice (some ⟨gw5, 0, none⟩) n n] 27)
    have s_w6 : (w5.alloc (.cells #[.int .i64 W, .slice (some ⟨gw5, 0, none⟩) n n] 27)).heap.size = bX + 1 := by simp [hbX]
    clear VB_w5 OA_w5 OX_w5 h_w5
    have qB0 := VB_w6.c0
    have qB1 := VB_w6.c1
    have qX0 := VX_w6.c0
    have qX1 := VX_w6.c1
    go_wp2_with fail
    generalize (w5.alloc (.cells #[.int .i64 W, .slice (some ⟨gw5, 0, none⟩) n n] 27)) = w6 at *
    refine (iFmtR w6.heap.size n n _ W l w6 hn4 (IntsAt.of_own OX_w6 HC.out.2.1) (Nat.le_refl _)).mono ?_
    rintro e w7 ⟨rfl, hbb⟩
    rw [HZ.out]
    clear qB0 qB1 qX0 qX1
    have VB_w7 := VB_w6.on hbb VB_w6.lt
    have VX_w7 := VX_w6.on hbb VX_w6.lt
    have OA_w7 := OA_w6.kept (grow_below hbb none) (Classical.em _)
    have OX_w7 := OX_w6.kept (grow_below hbb none) (Classical.em _)
    have h_w7 := h_w6.trans (hbb.mono h_w6.size)
    have s_w7 := hbb.size
    clear VB_w6 VX_w6 OA_w6 OX_w6 h_w6
    clear hbb
    have qB0 := VB_w7.c0
    have qB1 := VB_w7.c1
    have qX0 := VX_w7.c0
    have qX1 := VX_w7.c1
    go_wp2_with fail
    go_region_held3 (fun w' => w'.cell? ⟨bX, 0, none⟩ = some (.int .i64 W) ∧ w'.cell? ⟨bX, 1, none⟩ = some (.slice (some ⟨gw5, 0, none⟩) n n) ∧ w'.cell? ⟨bB, 0, none⟩ = some (.int .i64 W) ∧ w'.cell? ⟨bB, 1, none⟩ = some (.slice a n cap))
      (first
        | exact ⟨VX_w7.c0, VX_w7.c1, VB_w7.c0, VB_w7.c1⟩
        | exact ⟨xx6.c0, xx6.c1, bb6.c0, bb6.c1⟩
        | exact ⟨xx7.c0, xx7.c1, bb7.c0, bb7.c1⟩)
      (first
        | (go_at_call 16
           refine (lToRegion w.heap.size n cap a W l _ hn (HC.out.on (h_w7).drew) h_w7.size).mono ?_
           rintro e w8 ⟨gw8, rfl, OY_w8, hbb⟩
           have xx6 : RgAt w8 bX W (.slice (some ⟨gw5, 0, none⟩) n n) := RgAt.on (w := w7.drew) VX_w7 hbb VX_w7.lt
           have bb6 : LgAt w8 bB W (.slice a n cap) := LgAt.on (w := w7.drew) VB_w7 hbb VB_w7.lt
           have hbd : Below w7.heap.size w7 w8 := ((Below.refl _ w7).drew).trans hbb)
        | (go_at_call 18
           refine (lEqR w8.heap.size W _ _ l w8 hl4 (IsRd.of_own2 (OX_w7.kept (grow_below hbd none) (Classical.em _))) (IsRd.of_own2 OY_w8) (Nat.le_refl _)).mono ?_
           rintro e w9 ⟨rfl, hbe⟩
           have xx7 := xx6.on hbe xx6.lt
           have bb7 := bb6.on hbe bb6.lt))
    have hbq : Below w7.heap.size w7 w9 := hbd.trans (hbe.mono hbd.size)
    clear hbd hbe hbb xx6 bb6 xx7 bb7 OY_w8
    clear qB0 qB1 qX0 qX1
    have VB_w9 := VB_w7.on hbq VB_w7.lt
    have VX_w9 := VX_w7.on hbq VX_w7.lt
    have OA_w9 := OA_w7.kept (grow_below hbq none) (Classical.em _)
    have OX_w9 := OX_w7.kept (grow_below hbq none) (Classical.em _)
    have h_w9 := h_w7.trans (hbq.mono h_w7.size)
    have s_w9 := hbq.size
    clear VB_w7 VX_w7 OA_w7 OX_w7 h_w7
    clear hbq
    go_wp2
    go_ret
    exact ⟨rfl, h_w9⟩

end Go.Proofs.Ytbfopdflkkcfaaa
