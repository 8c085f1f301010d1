/-
  The laws on masks and pieces that give a plain value: the walk of each law.
-/
import Derived.Test.YtghpljoccclmkaaSm3
import Derived.Test.YtghpljoccclmkaaLps
import Derived.Test.YtghpljoccclmkaaRar
namespace Go.Proofs.Ytghpljoccclmkaa
open Go.RowKit

theorem ownS_up {B : Nat} {w : World} {g n cap : Nat} {es : List Ent} (h : OwnS B w (.slice (some ⟨g, 0, none⟩) n cap) es) : (B ≤ g ∧ g < w.heap.size) ∧ ∀ e ∈ es, B ≤ e.1 ∧ e.1 < w.heap.size :=
  ⟨h.row.lt g rfl, fun e he => h.each.lt he⟩
theorem ps_at {B m2 g cap : Nat} {w : World} {es : List Ent} {ps : List (List Cl)} (h : OwnS B w (.slice (some ⟨g, 0, none⟩) m2 cap) es) (hs : SmallS es) (hk : es.map kE = ps) (hl : es.length = m2) (ht : totL ps ≤ 1048576) : PsAt w.heap.size w (some ⟨g, 0, none⟩) m2 ps := by
  obtain ⟨a, c, e, hp⟩ := PsB.of_own (M := 1048576) h hs (fun e he => by
    have h1 : kE e ∈ ps := by rw [← hk]; exact List.mem_map_of_mem he
    obtain ⟨k, hk2, e2⟩ := List.getElem_of_mem h1
    have h2 := totL_get ps k hk2
    have e3 : ps.getD k [] = ps[k] := by simp [List.getD, hk2]
    rw [e3, e2] at h2
    exact Nat.le_trans h2 ht)
  injection e with e1 e2 e3
  subst e1
  rw [hl, hk] at hp
  exact hp

set_option maxHeartbeats 4000000 in
set_option maxRecDepth 100000 in
theorem law_MaskOf (W : Int) (a : Option Addr) (n cap : Nat) (l : List Int) (w : World) (hc : IntsAt w.heap.size w a n l) (hm : n ≤ maxLen) :
    Calls Try.prog 3 #[.agg #[.int .i64 W, .slice a n cap]] w fun e w' => e = .returned (.bool true) ∧ Below w.heap.size w w' := by
  have hmx : n ≤ 9223372036854775807 := by unfold maxLen at hm; omega
  have HC := Lib.hid hc
  have hln := hc.1
  clear hc hm
  obtain ⟨z0, hz0⟩ : ∃ z : Int, ((maskR W l : Nat) : Int) = z := ⟨_, rfl⟩
  have HZ0 := Lib.hid hz0
  have hne0 : (z0 != z0) = false := by simp
  clear hz0
  by_cases hs : (1048576 : Int) < n
  · go_enter Try.func3, Try.ntmps3
    have VB_w1 := LgAt.new (w := w) W (.slice a n cap) rfl
    obtain ⟨bB, hbB⟩ : ∃ b, w.heap.size = b := ⟨_, rfl⟩
    have h_w1 := (Below.refl w.heap.size w).alloc (Nat.le_refl _) (.cells #[.int .i64 W, .slice a n cap] 24)
    have s_w1 : (w.alloc (.cells #[.int .i64 W, .slice a n cap] 24)).heap.size = bB + 1 := by simp [hbB]
    rw [hbB] at VB_w1
    have qB0 := VB_w1.c0
    have qB1 := VB_w1.c1
    go_wp2_with fail
    generalize (w.alloc (.cells #[.int .i64 W, .slice a n cap] 24)) = w1 at *
    refine (lSzR_big W a n cap 1048576 _ (by omega) hs hmx).mono ?_
    rintro e w' ⟨rfl, hb0⟩
    go_wp2
    go_ret
    exact ⟨rfl, h_w1.trans (hb0.mono h_w1.size)⟩
  have hn : n ≤ 1048576 := by omega
  have hn4 : n ≤ 4194304 := by omega
  have hl4 : l.length ≤ 4194304 := by rw [hln]; omega
  go_enter Try.func3, Try.ntmps3
  have VB_w1 := LgAt.new (w := w) W (.slice a n cap) rfl
  obtain ⟨bB, hbB⟩ : ∃ b, w.heap.size = b := ⟨_, rfl⟩
  have h_w1 := (Below.refl w.heap.size w).alloc (Nat.le_refl _) (.cells #[.int .i64 W, .slice a n cap] 24)
  have s_w1 : (w.alloc (.cells #[.int .i64 W, .slice a n cap] 24)).heap.size = bB + 1 := by simp [hbB]
  rw [hbB] at VB_w1
  have qB0 := VB_w1.c0
  have qB1 := VB_w1.c1
  go_wp2_with fail
  generalize (w.alloc (.cells #[.int .i64 W, .slice a n cap] 24)) = w1 at *
  refine (lSzR_fits W a n cap 1048576 _ (by omega) (by omega)).mono ?_
  rintro e w2 ⟨rfl, hbb⟩
  clear qB0 qB1
  have VB_w2 := VB_w1.on hbb VB_w1.lt
  have h_w2 := h_w1.trans (hbb.mono h_w1.size)
  have s_w2 := hbb.size
  clear VB_w1 h_w1
  clear hbb
  have qB0 := VB_w2.c0
  have qB1 := VB_w2.c1
  go_wp2_with fail
  refine (lToRegion w.heap.size n cap a W l w2 hn (HC.out.on h_w2) h_w2.size).mono ?_
  rintro e w3 ⟨gw3, rfl, OA_w3, hbb⟩
  clear qB0 qB1
  have VB_w3 := VB_w2.on hbb VB_w2.lt
  have h_w3 := h_w2.trans (hbb.mono h_w2.size)
  have s_w3 := hbb.size
  clear VB_w2 h_w2
  have TA := OA_w3.lt
  clear hbb
  have qB0 := VB_w3.c0
  have qB1 := VB_w3.c1
  go_wp2_with fail
  refine (sMask w3.heap.size n n _ W l w3 hn4 (IntsAt.of_own OA_w3 HC.out.2.1) (Nat.le_refl _)).mono ?_
  rintro e w4 ⟨rfl, hbb⟩
  rw [HZ0.out]
  clear qB0 qB1
  have VB_w4 := VB_w3.on hbb VB_w3.lt
  have OA_w4 := OA_w3.kept (grow_below hbb none) (Classical.em _)
  have h_w4 := h_w3.trans (hbb.mono h_w3.size)
  have s_w4 := hbb.size
  clear VB_w3 OA_w3 h_w3
  clear hbb
  have qB0 := VB_w4.c0
  have qB1 := VB_w4.c1
  go_wp2_with fail
  refine (lToRegion w.heap.size n cap a W l w4 hn (HC.out.on h_w4) h_w4.size).mono ?_
  rintro e w5 ⟨gw5, rfl, OX_w5, hbb⟩
  clear qB0 qB1
  have VB_w5 := VB_w4.on hbb VB_w4.lt
  have OA_w5 := OA_w4.kept (grow_below hbb none) (Classical.em _)
  have h_w5 := h_w4.trans (hbb.mono h_w4.size)
  have s_w5 := hbb.size
  clear VB_w4 OA_w4 h_w4
  have TX := OX_w5.lt
  clear hbb
  obtain ⟨bX, hbX⟩ : ∃ b, w5.heap.size = b := ⟨_, rfl⟩
  have VX_w6 := RgAt.new (w := w5) W (.slice (some ⟨gw5, 0, none⟩) n n) hbX
  have VB_w6 := VB_w5.alloc (.cells #[.int .i64 W, .slice (some ⟨gw5, 0, none⟩) n n] 27)
  have OA_w6 := OA_w5.alloc (.cells #[.int .i64 W, .slice (some ⟨gw5, 0, none⟩) n n] 27)
  have OX_w6 := OX_w5.alloc (.cells #[.int .i64 W, .slice (some ⟨gw5, 0, none⟩) n n] 27)
  have h_w6 := h_w5.alloc h_w5.size (.cells #[.int .i64 W, .slice (some ⟨gw5, 0, none⟩) n n] 27)
  have s_w6 : (w5.alloc (.cells #[.int .i64 W, .slice (some ⟨gw5, 0, none⟩) n n] 27)).heap.size = bX + 1 := by simp [hbX]
  clear VB_w5 OA_w5 OX_w5 h_w5
  have qB0 := VB_w6.c0
  have qB1 := VB_w6.c1
  have qX0 := VX_w6.c0
  have qX1 := VX_w6.c1
  go_wp2_with fail
  generalize (w5.alloc (.cells #[.int .i64 W, .slice (some ⟨gw5, 0, none⟩) n n] 27)) = w6 at *
  refine (iMask w6.heap.size n n _ W l w6 hn4 (IntsAt.of_own OX_w6 HC.out.2.1) (Nat.le_refl _)).mono ?_
  rintro e w7 ⟨rfl, hbb⟩
  rw [HZ0.out]
  clear qB0 qB1 qX0 qX1
  have VB_w7 := VB_w6.on hbb VB_w6.lt
  have VX_w7 := VX_w6.on hbb VX_w6.lt
  have OA_w7 := OA_w6.kept (grow_below hbb none) (Classical.em _)
  have OX_w7 := OX_w6.kept (grow_below hbb none) (Classical.em _)
  have h_w7 := h_w6.trans (hbb.mono h_w6.size)
  have s_w7 := hbb.size
  clear VB_w6 VX_w6 OA_w6 OX_w6 h_w6
  clear hbb
  have qB0 := VB_w7.c0
  have qB1 := VB_w7.c1
  have qX0 := VX_w7.c0
  have qX1 := VX_w7.c1
  go_wp2_with fail
  go_region_held3 (fun w' => w'.cell? ⟨bX, 0, none⟩ = some (.int .i64 W) ∧ w'.cell? ⟨bX, 1, none⟩ = some (.slice (some ⟨gw5, 0, none⟩) n n) ∧ w'.cell? ⟨bB, 0, none⟩ = some (.int .i64 W) ∧ w'.cell? ⟨bB, 1, none⟩ = some (.slice a n cap))
    (first
      | exact ⟨VX_w7.c0, VX_w7.c1, VB_w7.c0, VB_w7.c1⟩
      | exact ⟨xx6.c0, xx6.c1, bb6.c0, bb6.c1⟩
      | exact ⟨xx7.c0, xx7.c1, bb7.c0, bb7.c1⟩)
    (first
      | (go_at_call 8
         refine (lToRegion w.heap.size n cap a W l _ hn (HC.out.on (h_w7).drew) h_w7.size).mono ?_
         rintro e w8 ⟨gw8, rfl, OY_w8, hbb⟩
         have xx6 : RgAt w8 bX W (.slice (some ⟨gw5, 0, none⟩) n n) := RgAt.on (w := w7.drew) VX_w7 hbb VX_w7.lt
         have bb6 : LgAt w8 bB W (.slice a n cap) := LgAt.on (w := w7.drew) VB_w7 hbb VB_w7.lt
         have hbd : Below w7.heap.size w7 w8 := ((Below.refl _ w7).drew).trans hbb)
      | (go_at_call 10
         refine (lEqR w8.heap.size W _ _ l w8 hl4 (IsRd.of_own2 (OX_w7.kept (grow_below hbd none) (Classical.em _))) (IsRd.of_own2 OY_w8) (Nat.le_refl _)).mono ?_
         rintro e w9 ⟨rfl, hbe⟩
         have xx7 := xx6.on hbe xx6.lt
         have bb7 := bb6.on hbe bb6.lt))
  have hbq : Below w7.heap.size w7 w9 := hbd.trans (hbe.mono hbd.size)
  clear hbd hbe hbb xx6 bb6 xx7 bb7 OY_w8
  clear qB0 qB1 qX0 qX1
  have VB_w9 := VB_w7.on hbq VB_w7.lt
  have VX_w9 := VX_w7.on hbq VX_w7.lt
  have OA_w9 := OA_w7.kept (grow_below hbq none) (Classical.em _)
  have OX_w9 := OX_w7.kept (grow_below hbq none) (Classical.em _)
  have h_w9 := h_w7.trans (hbq.mono h_w7.size)
  have s_w9 := hbq.size
  clear VB_w7 VX_w7 OA_w7 OX_w7 h_w7
  clear hbq
  have qB0 := VB_w9.c0
  have qB1 := VB_w9.c1
  have qX0 := VX_w9.c0
  have qX1 := VX_w9.c1
  go_wp2_with fail
  go_wp2
  go_ret
  exact ⟨rfl, h_w9⟩

set_option maxHeartbeats 4000000 in
set_option maxRecDepth 100000 in
theorem law_MaskOfCells (W : Int) (a : Option Addr) (n cap : Nat) (l : List Int) (a2 : Option Addr) (m2 cap2 : Nat) (cs : List Cl) (w : World) (hc : IntsAt w.heap.size w a n l) (hm : n ≤ maxLen) (hc2 : CellsAt w.heap.size w a2 m2 cs) (hm2 : m2 ≤ maxLen) :
    Calls Try.prog 4 #[.agg #[.int .i64 W, .slice a n cap], .slice a2 m2 cap2] w fun e w' => e = .returned (.bool true) ∧ Below w.heap.size w w' := by
  have hmx : n ≤ 9223372036854775807 := by unfold maxLen at hm; omega
  have HC := Lib.hid hc
  have hln := hc.1
  clear hc hm
  have hmx2 : m2 ≤ 9223372036854775807 := by unfold maxLen at hm2; omega
  have HC2 := Lib.hid hc2
  have HE := Lib.hid (eqb_refl cs)
  have hln2 := hc2.1
  clear hc2 hm2
  obtain ⟨z0, hz0⟩ : ∃ z : Int, ((mcV W l cs : Nat) : Int) = z := ⟨_, rfl⟩
  have HZ0 := Lib.hid hz0
  have hne0 : (z0 != z0) = false := by simp
  clear hz0
  obtain ⟨z1, hz1⟩ : ∃ z : Bool, mcOk W l cs = z := ⟨_, rfl⟩
  have HZ1 := Lib.hid hz1
  have hne1 : (z1 != z1) = false := by simp
  clear hz1
  by_cases hs : (1048576 : Int) < n
  · go_enter Try.func4, Try.ntmps4
    have VB_w1 := LgAt.new (w := w) W (.slice a n cap) rfl
    obtain ⟨bB, hbB⟩ : ∃ b, w.heap.size = b := ⟨_, rfl⟩
    have h_w1 := (Below.refl w.heap.size w).alloc (Nat.le_refl _) (.cells #[.int .i64 W, .slice a n cap] 24)
    have s_w1 : (w.alloc (.cells #[.int .i64 W, .slice a n cap] 24)).heap.size = bB + 1 := by simp [hbB]
    rw [hbB] at VB_w1
    have qB0 := VB_w1.c0
    have qB1 := VB_w1.c1
    go_wp2_with fail
    generalize (w.alloc (.cells #[.int .i64 W, .slice a n cap] 24)) = w1 at *
    refine (lSzR_big W a n cap 1048576 _ (by omega) hs hmx).mono ?_
    rintro e w' ⟨rfl, hb0⟩
    go_wp2
    go_ret
    exact ⟨rfl, h_w1.trans (hb0.mono h_w1.size)⟩
  have hn : n ≤ 1048576 := by omega
  have hn4 : n ≤ 4194304 := by omega
  have hl4 : l.length ≤ 4194304 := by rw [hln]; omega
  by_cases hs2 : ((1048576 : Int) - n) < m2
  · go_enter Try.func4, Try.ntmps4
    have VB_w1 := LgAt.new (w := w) W (.slice a n cap) rfl
    obtain ⟨bB, hbB⟩ : ∃ b, w.heap.size = b := ⟨_, rfl⟩
    have h_w1 := (Below.refl w.heap.size w).alloc (Nat.le_refl _) (.cells #[.int .i64 W, .slice a n cap] 24)
    have s_w1 : (w.alloc (.cells #[.int .i64 W, .slice a n cap] 24)).heap.size = bB + 1 := by simp [hbB]
    rw [hbB] at VB_w1
    have qB0 := VB_w1.c0
    have qB1 := VB_w1.c1
    go_wp2_with fail
    generalize (w.alloc (.cells #[.int .i64 W, .slice a n cap] 24)) = w1 at *
    refine (lSzR_fits W a n cap 1048576 _ (by omega) (by omega)).mono ?_
    rintro e w2 ⟨rfl, hbb⟩
    clear qB0 qB1
    have VB_w2 := VB_w1.on hbb VB_w1.lt
    have h_w2 := h_w1.trans (hbb.mono h_w1.size)
    have s_w2 := hbb.size
    clear VB_w1 h_w1
    clear hbb
    have qB0 := VB_w2.c0
    have qB1 := VB_w2.c1
    go_wp2_with fail
    refine (lSz_big a2 m2 cap2 (1048576 - n) _ (by omega) hs2 hmx2).mono ?_
    rintro e w' ⟨rfl, rfl⟩
    go_wp2
    go_ret
    exact ⟨rfl, h_w2⟩
  have hn2 : m2 ≤ 1048576 := by omega
  have hn24 : m2 ≤ 4194304 := by omega
  go_enter Try.func4, Try.ntmps4
  have VB_w1 := LgAt.new (w := w) W (.slice a n cap) rfl
  obtain ⟨bB, hbB⟩ : ∃ b, w.heap.size = b := ⟨_, rfl⟩
  have h_w1 := (Below.refl w.heap.size w).alloc (Nat.le_refl _) (.cells #[.int .i64 W, .slice a n cap] 24)
  have s_w1 : (w.alloc (.cells #[.int .i64 W, .slice a n cap] 24)).heap.size = bB + 1 := by simp [hbB]
  rw [hbB] at VB_w1
  have qB0 := VB_w1.c0
  have qB1 := VB_w1.c1
  go_wp2_with fail
  generalize (w.alloc (.cells #[.int .i64 W, .slice a n cap] 24)) = w1 at *
  refine (lSzR_fits W a n cap 1048576 _ (by omega) (by omega)).mono ?_
  rintro e w2 ⟨rfl, hbb⟩
  clear qB0 qB1
  have VB_w2 := VB_w1.on hbb VB_w1.lt
  have h_w2 := h_w1.trans (hbb.mono h_w1.size)
  have s_w2 := hbb.size
  clear VB_w1 h_w1
  clear hbb
  have qB0 := VB_w2.c0
  have qB1 := VB_w2.c1
  go_wp2_with fail
  refine (lSz_fits a2 m2 cap2 (1048576 - n) _ (by omega) (by omega)).mono ?_
  rintro e w' ⟨rfl, rfl⟩
  go_wp2_with fail
  refine (lToRegion w.heap.size n cap a W l w2 hn (HC.out.on h_w2) h_w2.size).mono ?_
  rintro e w3 ⟨gw3, rfl, OA_w3, hbb⟩
  clear qB0 qB1
  have VB_w3 := VB_w2.on hbb VB_w2.lt
  have h_w3 := h_w2.trans (hbb.mono h_w2.size)
  have s_w3 := hbb.size
  clear VB_w2 h_w2
  have TA := OA_w3.lt
  clear hbb
  have qB0 := VB_w3.c0
  have qB1 := VB_w3.c1
  go_wp2_with fail
  obtain ⟨gw4, hgw4⟩ : ∃ g, w3.heap.size = g := ⟨_, rfl⟩
  refine (lToCellS_any w.heap.size m2 cap2 a2 cs w3 hn2 (HC2.out.on h_w3) h_w3.size).mono ?_
  rintro e w4 ⟨rfl, OD_w4, hbb⟩
  rw [hgw4] at OD_w4 ⊢
  clear qB0 qB1
  have VB_w4 := VB_w3.on hbb VB_w3.lt
  have OA_w4 := OA_w3.kept (grow_below hbb none) (Classical.em _)
  have h_w4 := h_w3.trans (hbb.mono h_w3.size)
  have s_w4 := hbb.size
  clear VB_w3 OA_w3 h_w3
  have TD := OD_w4.lt
  clear hbb
  have qB0 := VB_w4.c0
  have qB1 := VB_w4.c1
  go_wp2_with fail
  refine (sMaskC w4.heap.size n n m2 m2 _ _ W l cs w4 hn4 hn24 (IntsAt.of_own OA_w4 HC.out.2.1) (CellsAt.of_own OD_w4 HC2.out.2.1) (Nat.le_refl _)).mono ?_
  rintro e w5 ⟨rfl, hbb⟩
  rw [HZ0.out, HZ1.out]
  clear qB0 qB1
  have VB_w5 := VB_w4.on hbb VB_w4.lt
  have OA_w5 := OA_w4.kept (grow_below hbb none) (Classical.em _)
  have OD_w5 := OD_w4.kept (grow_below hbb none) (Classical.em _)
  have h_w5 := h_w4.trans (hbb.mono h_w4.size)
  have s_w5 := hbb.size
  clear VB_w4 OA_w4 OD_w4 h_w4
  clear hbb
  have qB0 := VB_w5.c0
  have qB1 := VB_w5.c1
  go_wp2_with fail
  refine (lToRegion w.heap.size n cap a W l w5 hn (HC.out.on h_w5) h_w5.size).mono ?_
  rintro e w6 ⟨gw6, rfl, OX_w6, hbb⟩
  clear qB0 qB1
  have VB_w6 := VB_w5.on hbb VB_w5.lt
  have OA_w6 := OA_w5.kept (grow_below hbb none) (Classical.em _)
  have OD_w6 := OD_w5.kept (grow_below hbb none) (Classical.em _)
  have h_w6 := h_w5.trans (hbb.mono h_w5.size)
  have s_w6 := hbb.size
  clear VB_w5 OA_w5 OD_w5 h_w5
  have TX := OX_w6.lt
  clear hbb
  obtain ⟨bX, hbX⟩ : ∃ b, w6.heap.size = b := ⟨_, rfl⟩
  have VX_w7 := RgAt.new (w := w6) W (.slice (some ⟨gw6, 0, none⟩) n n) hbX
  have VB_w7 := VB_w6.alloc (.cells #[.int .i64 W, .slice (some ⟨gw6, 0, none⟩) n n] 27)
  have OA_w7 := OA_w6.alloc (.cells #[.int .i64 W, .slice (some ⟨gw6, 0, none⟩) n n] 27)
  have OD_w7 := OD_w6.alloc (.cells #[.int .i64 W, .slice (some ⟨gw6, 0, none⟩) n n] 27)
  have OX_w7 := OX_w6.alloc (.cells #[.int .i64 W, .slice (some ⟨gw6, 0, none⟩) n n] 27)
  have h_w7 := h_w6.alloc h_w6.size (.cells #[.int .i64 W, .slice (some ⟨gw6, 0, none⟩) n n] 27)
  have s_w7 : (w6.alloc (.cells #[.int .i64 W, .slice (some ⟨gw6, 0, none⟩) n n] 27)).heap.size = bX + 1 := by simp [hbX]
  clear VB_w6 OA_w6 OD_w6 OX_w6 h_w6
  have qB0 := VB_w7.c0
  have qB1 := VB_w7.c1
  have qX0 := VX_w7.c0
  have qX1 := VX_w7.c1
  go_wp2_with fail
  generalize (w6.alloc (.cells #[.int .i64 W, .slice (some ⟨gw6, 0, none⟩) n n] 27)) = w7 at *
  obtain ⟨gw8, hgw8⟩ : ∃ g, w7.heap.size = g := ⟨_, rfl⟩
  refine (lToCellS_any w.heap.size m2 cap2 a2 cs w7 hn2 (HC2.out.on h_w7) h_w7.size).mono ?_
  rintro e w8 ⟨rfl, OY_w8, hbb⟩
  rw [hgw8] at OY_w8 ⊢
  clear qB0 qB1 qX0 qX1
  have VB_w8 := VB_w7.on hbb VB_w7.lt
  have VX_w8 := VX_w7.on hbb VX_w7.lt
  have OA_w8 := OA_w7.kept (grow_below hbb none) (Classical.em _)
  have OD_w8 := OD_w7.kept (grow_below hbb none) (Classical.em _)
  have OX_w8 := OX_w7.kept (grow_below hbb none) (Classical.em _)
  have h_w8 := h_w7.trans (hbb.mono h_w7.size)
  have s_w8 := hbb.size
  clear VB_w7 VX_w7 OA_w7 OD_w7 OX_w7 h_w7
  have TY := OY_w8.lt
  clear hbb
  have qB0 := VB_w8.c0
  have qB1 := VB_w8.c1
  have qX0 := VX_w8.c0
  have qX1 := VX_w8.c1
  go_wp2_with fail
  refine (iMaskC w8.heap.size n n m2 m2 _ _ W l cs w8 hn4 hn24 (IntsAt.of_own OX_w8 HC.out.2.1) (CellsAt.of_own OY_w8 HC2.out.2.1) (Nat.le_refl _)).mono ?_
  rintro e w9 ⟨rfl, hbb⟩
  rw [HZ0.out, HZ1.out]
  clear qB0 qB1 qX0 qX1
  have VB_w9 := VB_w8.on hbb VB_w8.lt
  have VX_w9 := VX_w8.on hbb VX_w8.lt
  have OA_w9 := OA_w8.kept (grow_below hbb none) (Classical.em _)
  have OD_w9 := OD_w8.kept (grow_below hbb none) (Classical.em _)
  have OX_w9 := OX_w8.kept (grow_below hbb none) (Classical.em _)
  have OY_w9 := OY_w8.kept (grow_below hbb none) (Classical.em _)
  have h_w9 := h_w8.trans (hbb.mono h_w8.size)
  have s_w9 := hbb.size
  clear VB_w8 VX_w8 OA_w8 OD_w8 OX_w8 OY_w8 h_w8
  clear hbb
  have qB0 := VB_w9.c0
  have qB1 := VB_w9.c1
  have qX0 := VX_w9.c0
  have qX1 := VX_w9.c1
  go_wp2_with fail
  go_region_held3 (fun w' => w'.cell? ⟨bX, 0, none⟩ = some (.int .i64 W) ∧ w'.cell? ⟨bX, 1, none⟩ = some (.slice (some ⟨gw6, 0, none⟩) n n) ∧ w'.cell? ⟨bB, 0, none⟩ = some (.int .i64 W) ∧ w'.cell? ⟨bB, 1, none⟩ = some (.slice a n cap))
    (first
      | exact ⟨VX_w9.c0, VX_w9.c1, VB_w9.c0, VB_w9.c1⟩
      | exact ⟨xx6.c0, xx6.c1, bb6.c0, bb6.c1⟩
      | exact ⟨xx7.c0, xx7.c1, bb7.c0, bb7.c1⟩)
    (first
      | (go_at_call 8
         refine (lToRegion w.heap.size n cap a W l _ hn (HC.out.on (h_w9).drew) h_w9.size).mono ?_
         rintro e w10 ⟨gw10, rfl, OY_w10, hbb⟩
         have xx6 : RgAt w10 bX W (.slice (some ⟨gw6, 0, none⟩) n n) := RgAt.on (w := w9.drew) VX_w9 hbb VX_w9.lt
         have bb6 : LgAt w10 bB W (.slice a n cap) := LgAt.on (w := w9.drew) VB_w9 hbb VB_w9.lt
         have hbd : Below w9.heap.size w9 w10 := ((Below.refl _ w9).drew).trans hbb)
      | (go_at_call 10
         refine (lEqR w10.heap.size W _ _ l w10 hl4 (IsRd.of_own2 (OX_w9.kept (grow_below hbd none) (Classical.em _))) (IsRd.of_own2 OY_w10) (Nat.le_refl _)).mono ?_
         rintro e w11 ⟨rfl, hbe⟩
         have xx7 := xx6.on hbe xx6.lt
         have bb7 := bb6.on hbe bb6.lt))
  have hbq : Below w9.heap.size w9 w11 := hbd.trans (hbe.mono hbd.size)
  clear hbd hbe hbb xx6 bb6 xx7 bb7 OY_w10
  clear qB0 qB1 qX0 qX1
  have VB_w11 := VB_w9.on hbq VB_w9.lt
  have VX_w11 := VX_w9.on hbq VX_w9.lt
  have OA_w11 := OA_w9.kept (grow_below hbq none) (Classical.em _)
  have OD_w11 := OD_w9.kept (grow_below hbq none) (Classical.em _)
  have OX_w11 := OX_w9.kept (grow_below hbq none) (Classical.em _)
  have OY_w11 := OY_w9.kept (grow_below hbq none) (Classical.em _)
  have h_w11 := h_w9.trans (hbq.mono h_w9.size)
  have s_w11 := hbq.size
  clear VB_w9 VX_w9 OA_w9 OD_w9 OX_w9 OY_w9 h_w9
  clear hbq
  have qB0 := VB_w11.c0
  have qB1 := VB_w11.c1
  have qX0 := VX_w11.c0
  have qX1 := VX_w11.c1
  go_wp2_with fail
  obtain ⟨gw12, hgw12⟩ : ∃ g, w11.heap.size = g := ⟨_, rfl⟩
  refine (lToCellS_any w.heap.size m2 cap2 a2 cs w11 hn2 (HC2.out.on h_w11) h_w11.size).mono ?_
  rintro e w12 ⟨rfl, OZ_w12, hbb⟩
  rw [hgw12] at OZ_w12 ⊢
  clear qB0 qB1 qX0 qX1
  have VB_w12 := VB_w11.on hbb VB_w11.lt
  have VX_w12 := VX_w11.on hbb VX_w11.lt
  have OA_w12 := OA_w11.kept (grow_below hbb none) (Classical.em _)
  have OD_w12 := OD_w11.kept (grow_below hbb none) (Classical.em _)
  have OX_w12 := OX_w11.kept (grow_below hbb none) (Classical.em _)
  have OY_w12 := OY_w11.kept (grow_below hbb none) (Classical.em _)
  have h_w12 := h_w11.trans (hbb.mono h_w11.size)
  have s_w12 := hbb.size
  clear VB_w11 VX_w11 OA_w11 OD_w11 OX_w11 OY_w11 h_w11
  have TZ := OZ_w12.lt
  clear hbb
  have qB0 := VB_w12.c0
  have qB1 := VB_w12.c1
  have qX0 := VX_w12.c0
  have qX1 := VX_w12.c1
  go_wp2_with fail
  refine (lEqCellS_any w12.heap.size m2 m2 m2 m2 _ _ cs cs w12 hn24 (CellsAt.of_own OY_w12 HC2.out.2.1) (CellsAt.of_own OZ_w12 HC2.out.2.1) (Nat.le_refl _)).mono ?_
  rintro e w13 ⟨rfl, hbb⟩
  rw [HE.out]
  clear qB0 qB1 qX0 qX1
  have VB_w13 := VB_w12.on hbb VB_w12.lt
  have VX_w13 := VX_w12.on hbb VX_w12.lt
  have OA_w13 := OA_w12.kept (grow_below hbb none) (Classical.em _)
  have OD_w13 := OD_w12.kept (grow_below hbb none) (Classical.em _)
  have OX_w13 := OX_w12.kept (grow_below hbb none) (Classical.em _)
  have OY_w13 := OY_w12.kept (grow_below hbb none) (Classical.em _)
  have OZ_w13 := OZ_w12.kept (grow_below hbb none) (Classical.em _)
  have h_w13 := h_w12.trans (hbb.mono h_w12.size)
  have s_w13 := hbb.size
  clear VB_w12 VX_w12 OA_w12 OD_w12 OX_w12 OY_w12 OZ_w12 h_w12
  clear hbb
  go_wp2
  go_ret
  exact ⟨rfl, h_w13⟩

set_option maxHeartbeats 4000000 in
set_option maxRecDepth 100000 in
theorem law_ArePieces (a2 : Option Addr) (m2 cap2 : Nat) (ps : List (List Cl)) (w : World) (hc2 : PsB maxLen w.heap.size w a2 m2 ps) (hm2 : m2 ≤ maxLen) :
    Calls Try.prog 5 #[.slice a2 m2 cap2] w fun e w' => e = .returned (.bool true) ∧ Below w.heap.size w w' := by
  have HC2 := Lib.hid hc2
  have HM2 := Lib.hid hm2
  have hln2 := hc2.1
  clear hc2 hm2
  obtain ⟨z0, hz0⟩ : ∃ z : Bool, arePc ps = z := ⟨_, rfl⟩
  have HZ0 := Lib.hid hz0
  have hne0 : (z0 != z0) = false := by simp
  clear hz0
  go_enter Try.func5, Try.ntmps5
  go_wp2_with fail
  refine (lSzPs w.heap.size m2 cap2 a2 ps 1048576 _ (by omega) (by omega) HM2.out (HC2.out.on (Below.refl w.heap.size w)) (Nat.le_refl _)).mono ?_
  rintro e w' ⟨rr, rfl, hrr, hrl, rfl⟩
  by_cases hs2 : rr < 0
  · go_wp2
    go_ret
    exact ⟨rfl, (Below.refl w.heap.size w)⟩
  have hrt := hrr (by omega)
  have hn2 : m2 ≤ 1048576 := by omega
  have hn24 : m2 ≤ 4194304 := by omega
  have htot : totL ps ≤ 1048576 := by omega
  have HC3 := Lib.hid (HC2.out.small (M' := 1048576) (fun k hk => by have := totL_get ps k (by omega); omega))
  clear hrr hrl hrt
  go_wp2_with fail
  obtain ⟨bsD, hbsD⟩ : ∃ b, w.heap.size = b := ⟨_, rfl⟩
  refine (lToPs w.heap.size m2 cap2 a2 ps w hn2 (HC3.out.on (Below.refl w.heap.size w)) (Nat.le_refl _)).mono ?_
  rintro e w1 ⟨gD, esD, rfl, hkD, hsmD, PD_w1, hbb⟩
  rw [hbsD] at PD_w1
  have HKD := Lib.hid hkD
  have HSD := Lib.hid hsmD
  have helD : esD.length = m2 := by have := congrArg List.length hkD; rw [List.length_map] at this; omega
  clear hkD hsmD
  have h_w1 := (Below.refl w.heap.size w).trans (hbb.mono (Nat.le_refl _))
  have s_w1 := hbb.size
  have UPD := Lib.hid (ownS_up PD_w1)
  obtain ⟨upD, hupD⟩ : ∃ b, w1.heap.size = b := ⟨_, rfl⟩
  rw [hupD] at UPD
  clear hbb
  go_wp2_with fail
  refine (sArePc w1.heap.size m2 m2 _ ps w1 hn24 (ps_at PD_w1 HSD.out HKD.out helD (by omega)) (Nat.le_refl _)).mono ?_
  rintro e w2 ⟨rfl, hbb⟩
  rw [HZ0.out]
  have PD_w2 := PD_w1.on hbb
  clear PD_w1
  have h_w2 := h_w1.trans (hbb.mono h_w1.size)
  have s_w2 := hbb.size
  clear h_w1
  clear hbb
  go_wp2_with fail
  obtain ⟨bsY, hbsY⟩ : ∃ b, w2.heap.size = b := ⟨_, rfl⟩
  refine (lToPs w.heap.size m2 cap2 a2 ps w2 hn2 (HC3.out.on h_w2) h_w2.size).mono ?_
  rintro e w3 ⟨gY, esY, rfl, hkY, hsmY, PY_w3, hbb⟩
  rw [hbsY] at PY_w3
  have HKY := Lib.hid hkY
  have HSY := Lib.hid hsmY
  have helY : esY.length = m2 := by have := congrArg List.length hkY; rw [List.length_map] at this; omega
  clear hkY hsmY
  have h_w3 := h_w2.trans (hbb.mono h_w2.size)
  have s_w3 := hbb.size
  clear h_w2
  have UPY := Lib.hid (ownS_up PY_w3)
  obtain ⟨upY, hupY⟩ : ∃ b, w3.heap.size = b := ⟨_, rfl⟩
  rw [hupY] at UPY
  clear hbb
  go_wp2_with fail
  refine (iArePc w3.heap.size m2 m2 _ ps w3 hn24 (ps_at PY_w3 HSY.out HKY.out helY (by omega)) (Nat.le_refl _)).mono ?_
  rintro e w4 ⟨rfl, hbb⟩
  rw [HZ0.out]
  have PY_w4 := PY_w3.on hbb
  clear PY_w3
  have h_w4 := h_w3.trans (hbb.mono h_w3.size)
  have s_w4 := hbb.size
  clear h_w3
  clear hbb
  go_wp2_with fail
  obtain ⟨bsZ, hbsZ⟩ : ∃ b, w4.heap.size = b := ⟨_, rfl⟩
  refine (lToPs w.heap.size m2 cap2 a2 ps w4 hn2 (HC3.out.on h_w4) h_w4.size).mono ?_
  rintro e w5 ⟨gZ, esZ, rfl, hkZ, hsmZ, PZ_w5, hbb⟩
  rw [hbsZ] at PZ_w5
  have HKZ := Lib.hid hkZ
  have HSZ := Lib.hid hsmZ
  have helZ : esZ.length = m2 := by have := congrArg List.length hkZ; rw [List.length_map] at this; omega
  clear hkZ hsmZ
  have PY_w5 := PY_w4.on hbb
  clear PY_w4
  have h_w5 := h_w4.trans (hbb.mono h_w4.size)
  have s_w5 := hbb.size
  clear h_w4
  have UPZ := Lib.hid (ownS_up PZ_w5)
  obtain ⟨upZ, hupZ⟩ : ∃ b, w5.heap.size = b := ⟨_, rfl⟩
  rw [hupZ] at UPZ
  clear hbb
  go_wp2_with fail
  refine (lEqSS w5.heap.size _ _ ps w5 (by omega) (by have h9 := SsRd.of_own PY_w5 HSY.out; rw [HKY.out] at h9; exact h9) (by have h9 := SsRd.of_own PZ_w5 HSZ.out; rw [HKZ.out] at h9; exact h9) (Nat.le_refl _)).mono ?_
  rintro e w6 ⟨rfl, hbb⟩
  have PY_w6 := PY_w5.on hbb
  clear PY_w5
  have PZ_w6 := PZ_w5.on hbb
  clear PZ_w5
  have h_w6 := h_w5.trans (hbb.mono h_w5.size)
  have s_w6 := hbb.size
  clear h_w5
  clear hbb
  go_wp2
  go_ret
  exact ⟨rfl, h_w6⟩

end Go.Proofs.Ytghpljoccclmkaa
