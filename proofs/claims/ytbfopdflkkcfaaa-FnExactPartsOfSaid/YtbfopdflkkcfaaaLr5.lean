/-
  The law on the parts of a region: its walk (written by tools/lawregs.py).
-/
import Derived.Test.YtbfopdflkkcfaaaLrx
import Derived.Test.YtbfopdflkkcfaaaRar
namespace Go.Proofs.Ytbfopdflkkcfaaa
open Go.RowKit

theorem OwnRs.byL {B : Nat} {w w' : World} {v : Value} {es : List REnt} {r : Option Nat} (h : OwnRs B w v es) (hg : w.grownBy w' r) (hr : ∀ k, r = some k → k < B) : OwnRs B w' v es :=
  ⟨h.row.kept hg (by
    cases hv : v.ownBlock with
    | none => exact .inl rfl
    | some k => exact .inr fun e => by have := (h.row.lt k hv).1; have := hr k e.symm; omega), fun e he => (h.each e he).kept hg (.inr fun e9 => by rw [rvE_block] at e9; have := (h.lt he).1; have := hr _ e9.symm; omega), h.apart, h.off⟩
theorem wid_rep {W : Int} {zs : List (List Int)} {es : List REnt} (hm : es.map kR = zs) (hw : ∀ e ∈ es, e.2.2.1 = W) : es.map wR = List.replicate zs.length W := by
  rw [← hm, List.length_map]
  exact List.eq_replicate_iff.2 ⟨by simp, fun b hb => by
    obtain ⟨e, he, rfl⟩ := List.mem_map.1 hb
    exact hw e he⟩
theorem partsR_len (W : Int) (l : List Int) : (partsR W l).length ≤ 36 := by
  cases h : isReg W l with
  | false => rw [partsR_no h]; simp
  | true =>
    obtain ⟨N, rfl, hr⟩ := isReg_out h
    rw [partsR_yes hr]
    exact partsB_le hr
theorem partsR_mem (W : Int) (l : List Int) : ∀ x ∈ partsR W l, x.length ≤ 6 := by
  cases h : isReg W l with
  | false => rw [partsR_no h]; intro x hx; cases hx
  | true =>
    obtain ⟨N, rfl, hr⟩ := isReg_out h
    rw [partsR_yes hr]
    intro x hx
    have h9 := partsB_rg hr x hx
    rw [h9.len]
    exact h9.h6
theorem tot_le {W : Int} {l : List Int} {es : List REnt} (hm : es.map kR = partsR W l) : totR es ≤ 252 := by
  have h1 : es.length ≤ 36 := by have := partsR_len W l; rw [← hm, List.length_map] at this; exact this
  have h2 : ∀ e ∈ es, e.2.2.2.length ≤ 6 := fun e he => partsR_mem W l (kR e) (by rw [← hm]; exact List.mem_map_of_mem he)
  have h3 : ∀ es : List REnt, (∀ e ∈ es, e.2.2.2.length ≤ 6) → totR es ≤ 7 * es.length := by
    intro es
    induction es with
    | nil => intro _; simp [totR]
    | cons e r ih =>
      intro h
      have h4 := ih fun x hx => h x (by simp [hx])
      have h5 := h e (by simp)
      have h6 : totR (e :: r) = 1 + e.2.2.2.length + totR r := by simp [totR]
      rw [List.length_cons, h6]
      omega
  have := h3 es h2
  omega

set_option maxHeartbeats 4000000 in
set_option maxRecDepth 100000 in
theorem law_PartsOf (W : Int) (a : Option Addr) (n cap : Nat) (l : List Int) (w : World) (hc : IntsAt w.heap.size w a n l) (hm : n ≤ maxLen) :
    Calls Try.prog 10 #[.agg #[.int .i64 W, .slice a n cap]] w fun e w' => e = .returned (.bool true) ∧ Below w.heap.size w w' := by
  have hm2 : n ≤ 9223372036854775807 := by unfold maxLen at hm; omega
  have HC := Lib.hid hc
  have hln := hc.1
  clear hc hm
  have hp36 := partsR_len W l
  have hpx := partsR_mem W l
  obtain ⟨zs, hzs⟩ : ∃ zs, partsR W l = zs := ⟨_, rfl⟩
  have HZ := Lib.hid hzs
  rw [hzs] at hp36 hpx
  have HX4 := Lib.hid (show ∀ x ∈ zs, x.length ≤ 4194304 from fun x hx => Nat.le_trans (hpx x hx) (by omega))
  clear hzs hpx
  by_cases hs : (1048576 : Int) < n
  · go_enter Try.func10, Try.ntmps10
    have VB_w1 := LgAt.new (w := w) W (.slice a n cap) rfl
    obtain ⟨bB, hbB⟩ : ∃ b, w.heap.size = b := ⟨_, rfl⟩
    have h_w1 := (Below.refl w.heap.size w).alloc (Nat.le_refl _) (.cells #[.int .i64 W, .slice a n cap] 24)
    have s_w1 : (w.alloc (.cells #[.int .i64 W, .slice a n cap] 24)).heap.size = bB + 1 := by simp [hbB]
    rw [hbB] at VB_w1
    have qB0 := VB_w1.c0
    have qB1 := VB_w1.c1
    go_wp2_with fail
    generalize (w.alloc (.cells #[.int .i64 W, .slice a n cap] 24)) = w1 at *
    refine (lSzR_big W a n cap 1048576 _ (by omega) hs hm2).mono ?_
    rintro e w' ⟨rfl, hb0⟩
    go_wp2
    go_ret
    exact ⟨rfl, h_w1.trans (hb0.mono h_w1.size)⟩
  · have hn : n ≤ 1048576 := by omega
    have hl4 : l.length ≤ 4194304 := by rw [hln]; omega
    have hk1 : ¬ ((1 : Int) + (n : Int) < 0) := by omega
    go_enter Try.func10, Try.ntmps10
    have VB_w1 := LgAt.new (w := w) W (.slice a n cap) rfl
    obtain ⟨bB, hbB⟩ : ∃ b, w.heap.size = b := ⟨_, rfl⟩
    have h_w1 := (Below.refl w.heap.size w).alloc (Nat.le_refl _) (.cells #[.int .i64 W, .slice a n cap] 24)
    have s_w1 : (w.alloc (.cells #[.int .i64 W, .slice a n cap] 24)).heap.size = bB + 1 := by simp [hbB]
    rw [hbB] at VB_w1
    have qB0 := VB_w1.c0
    have qB1 := VB_w1.c1
    go_wp2_with fail
    generalize (w.alloc (.cells #[.int .i64 W, .slice a n cap] 24)) = w1 at *
    refine (lSzR_fits W a n cap 1048576 _ (by omega) (by omega)).mono ?_
    rintro e w2 ⟨rfl, hbb⟩
    clear qB0 qB1
    have VB_w2 := VB_w1.on hbb VB_w1.lt
    have h_w2 := h_w1.trans (hbb.mono h_w1.size)
    have s_w2 := hbb.size
    clear VB_w1 h_w1
    clear hbb
    have qB0 := VB_w2.c0
    have qB1 := VB_w2.c1
    go_wp2_with fail
    refine (lToRegion w.heap.size n cap a W l w2 hn (HC.out.on h_w2) h_w2.size).mono ?_
    rintro e w3 ⟨gw3, rfl, OA_w3, hbb⟩
    clear qB0 qB1
    have VB_w3 := VB_w2.on hbb VB_w2.lt
    have h_w3 := h_w2.trans (hbb.mono h_w2.size)
    have s_w3 := hbb.size
    clear VB_w2 h_w2
    have TA := OA_w3.lt
    clear hbb
    have qB0 := VB_w3.c0
    have qB1 := VB_w3.c1
    go_wp2_with fail
    obtain ⟨uS, huS⟩ : ∃ u, w3.heap.size = u := ⟨_, rfl⟩
    refine (sParts w3.heap.size n n _ W l w3 hn (IntsAt.of_own OA_w3 HC.out.2.1) (Nat.le_refl _)).mono ?_
    rintro e w4 ⟨vS, esS, rfl, PS, hmS, hwS, hbb⟩
    rw [huS] at PS
    have HMS := Lib.hid (hmS.trans HZ.out)
    have HWS := Lib.hid (wid_rep HMS.out hwS)
    clear qB0 qB1
    have VB_w4 := VB_w3.on hbb VB_w3.lt
    have OA_w4 := OA_w3.kept (grow_below hbb none) (Classical.em _)
    have h_w4 := h_w3.trans (hbb.mono h_w3.size)
    have s_w4 := hbb.size
    clear VB_w3 OA_w3 h_w3
    clear hbb hmS hwS
    have OS_w4 : RsRd w4.heap.size w4 vS (List.replicate zs.length W) zs := (by have h9 := RsRd.of_own PS; rw [HMS.out, HWS.out] at h9; exact h9)
    obtain ⟨tS, htS⟩ : ∃ t, w4.heap.size = t := ⟨_, rfl⟩
    rw [htS] at OS_w4
    clear PS
    have qB0 := VB_w4.c0
    have qB1 := VB_w4.c1
    go_wp2_with fail
    refine (lToRegion w.heap.size n cap a W l w4 hn (HC.out.on h_w4) h_w4.size).mono ?_
    rintro e w5 ⟨gw5, rfl, OX_w5, hbb⟩
    have OS_w5 := OS_w4.on (hbb.mono (by omega))
    clear OS_w4
    clear qB0 qB1
    have VB_w5 := VB_w4.on hbb VB_w4.lt
    have h_w5 := h_w4.trans (hbb.mono h_w4.size)
    have s_w5 := hbb.size
    clear VB_w4 h_w4
    have TX := OX_w5.lt
    clear hbb
    have OS_w6 := OS_w5.on ((Below.refl _ w5).alloc (by omega) (.cells #[.int .i64 W, .slice (some ⟨gw5, 0, none⟩) n n] 27))
    clear OS_w5
    obtain ⟨bX, hbX⟩ : ∃ b, w5.heap.size = b := ⟨_, rfl⟩
    have VX_w6 := RgAt.new (w := w5) W (.slice (some ⟨gw5, 0, none⟩) n n) hbX
    have VB_w6 := VB_w5.alloc (.cells #[.int .i64 W, .slice (some ⟨gw5, 0, none⟩) n n] 27)
    have OX_w6 := OX_w5.alloc (.cells #[.int .i64 W, .slice (some ⟨gw5, 0, none⟩) n n] 27)
    have h_w6 := h_w5.alloc h_w5.size (.cells #[.int .i64 W, .slice (some ⟨gw5, 0, none⟩) n n] 27)
    have s_w6 : (w5.alloc (.cells #[.int .i64 W, .slice (some ⟨gw5, 0, none⟩) n n] 27)).heap.size = bX + 1 := by simp [hbX]
    clear VB_w5 OX_w5 h_w5
    have qB0 := VB_w6.c0
    have qB1 := VB_w6.c1
    have qX0 := VX_w6.c0
    have qX1 := VX_w6.c1
    go_wp2_with fail
    generalize (w5.alloc (.cells #[.int .i64 W, .slice (some ⟨gw5, 0, none⟩) n n] 27)) = w6 at *
    obtain ⟨uG, huG⟩ : ∃ u, w6.heap.size = u := ⟨_, rfl⟩
    refine (iParts w6.heap.size n n _ W l w6 hn (IntsAt.of_own OX_w6 HC.out.2.1) (Nat.le_refl _)).mono ?_
    rintro e w7 ⟨vG, esG, rfl, PG, hmG, hwG, hbb⟩
    rw [huG] at PG
    have HMG := Lib.hid (hmG.trans HZ.out)
    have HWG := Lib.hid (wid_rep HMG.out hwG)
    have OS_w7 := OS_w6.on (hbb.mono (by omega))
    clear OS_w6
    clear qB0 qB1 qX0 qX1
    have VB_w7 := VB_w6.on hbb VB_w6.lt
    have VX_w7 := VX_w6.on hbb VX_w6.lt
    have OX_w7 := OX_w6.kept (grow_below hbb none) (Classical.em _)
    have h_w7 := h_w6.trans (hbb.mono h_w6.size)
    have s_w7 := hbb.size
    clear VB_w6 VX_w6 OX_w6 h_w6
    clear hbb hmG hwG
    have OG_w7 : OwnRs uG w7 vG esG := PG
    clear PG
    have HT := Lib.hid (tot_le (W := W) (l := l) (by rw [HZ.out]; exact HMG.out))
    have htot := HT.out
    have HLG := Lib.hid (show esG.length ≤ 4194304 from by have := congrArg List.length HMG.out; rw [List.length_map] at this; omega)
    have HXG := Lib.hid (show ∀ e ∈ esG, e.2.2.2.length ≤ 4194304 from fun e he => HX4.out (kR e) (by rw [← HMG.out]; exact List.mem_map_of_mem he))
    have hk2 : ¬ ((1 : Int) + (totR esG : Int) < 0) := by omega
    have hk3 : (((1 : Int) + (totR esG : Int)) != (1 + (totR esG : Int))) = false := by simp
    have qB0 := VB_w7.c0
    have qB1 := VB_w7.c1
    have qX0 := VX_w7.c0
    have qX1 := VX_w7.c1
    go_wp2_with fail
    refine (lEqRs w7.heap.size _ _ (List.replicate zs.length W) zs w7 (by omega) HX4.out (by have h9 := RsRd.of_own OG_w7; rw [HMG.out, HWG.out] at h9; exact h9) (OS_w7.more (by omega)) (Nat.le_refl _)).mono ?_
    rintro e w8 ⟨rfl, hbb⟩
    have OS_w8 := OS_w7.on (hbb.mono (by omega))
    clear OS_w7
    have OG_w8 := OG_w7.on hbb
    clear OG_w7
    clear qB0 qB1 qX0 qX1
    have VB_w8 := VB_w7.on hbb VB_w7.lt
    have VX_w8 := VX_w7.on hbb VX_w7.lt
    have OX_w8 := OX_w7.kept (grow_below hbb none) (Classical.em _)
    have h_w8 := h_w7.trans (hbb.mono h_w7.size)
    have s_w8 := hbb.size
    clear VB_w7 VX_w7 OX_w7 h_w7
    clear hbb
    have qB0 := VB_w8.c0
    have qB1 := VB_w8.c1
    have qX0 := VX_w8.c0
    have qX1 := VX_w8.c1
    go_wp2_with fail
    go_region_held3 (fun w' => w'.cell? ⟨bX, 0, none⟩ = some (.int .i64 W) ∧ w'.cell? ⟨bX, 1, none⟩ = some (.slice (some ⟨gw5, 0, none⟩) n n) ∧ w'.cell? ⟨bB, 0, none⟩ = some (.int .i64 W) ∧ w'.cell? ⟨bB, 1, none⟩ = some (.slice a n cap))
      (first
        | exact ⟨VX_w8.c0, VX_w8.c1, VB_w8.c0, VB_w8.c1⟩
        | exact ⟨xx6.c0, xx6.c1, bb6.c0, bb6.c1⟩
        | exact ⟨xx7.c0, xx7.c1, bb7.c0, bb7.c1⟩)
      (first
        | (go_at_call 16
           refine (lToRegion w.heap.size n cap a W l _ hn (HC.out.on (h_w8).drew) h_w8.size).mono ?_
           rintro e w9 ⟨gw9, rfl, OY_w9, hbb⟩
           have xx6 : RgAt w9 bX W (.slice (some ⟨gw5, 0, none⟩) n n) := RgAt.on (w := w8.drew) VX_w8 hbb VX_w8.lt
           have bb6 : LgAt w9 bB W (.slice a n cap) := LgAt.on (w := w8.drew) VB_w8 hbb VB_w8.lt
           have hbd : Below w8.heap.size w8 w9 := ((Below.refl _ w8).drew).trans hbb)
        | (go_at_call 18
           refine (lEqR w9.heap.size W _ _ l w9 hl4 (IsRd.of_own2 (OX_w8.kept (grow_below hbd none) (Classical.em _))) (IsRd.of_own2 OY_w9) (Nat.le_refl _)).mono ?_
           rintro e w10 ⟨rfl, hbe⟩
           have xx7 := xx6.on hbe xx6.lt
           have bb7 := bb6.on hbe bb6.lt))
    have hbq : Below w8.heap.size w8 w10 := hbd.trans (hbe.mono hbd.size)
    clear hbd hbe hbb xx6 bb6 xx7 bb7 OY_w9
    have OS_w10 := OS_w8.on (hbq.mono (by omega))
    clear OS_w8
    have OG_w10 := OG_w8.on hbq
    clear OG_w8
    clear qB0 qB1 qX0 qX1
    have VB_w10 := VB_w8.on hbq VB_w8.lt
    have VX_w10 := VX_w8.on hbq VX_w8.lt
    have OX_w10 := OX_w8.kept (grow_below hbq none) (Classical.em _)
    have h_w10 := h_w8.trans (hbq.mono h_w8.size)
    have s_w10 := hbq.size
    clear VB_w8 VX_w8 OX_w8 h_w8
    clear hbq
    have qB0 := VB_w10.c0
    have qB1 := VB_w10.c1
    have qX0 := VX_w10.c0
    have qX1 := VX_w10.c1
    go_wp2_with fail
    refine (lMarkR _ W _ l 1 w10 hl4 (by omega) (by omega) (by rw [hln]; exact OX_w10)).mono ?_
    rintro e w11 ⟨rfl, OX_w11, hgg⟩
    rw [hln] at OX_w11
    rw [hln]
    have OS_w11 := OS_w10.on ((Below.refl _ w10).grown hgg (by omega) (fun j hj => by have := TX j hj; omega))
    clear OS_w10
    have OG_w11 := OG_w10.byL hgg (fun j hj => by have := TX j hj; omega)
    clear OG_w10
    clear qB0 qB1 qX0 qX1
    have VB_w11 := VB_w10.by hgg (ne_blkT TX (by omega))
    have VX_w11 := VX_w10.by hgg (ne_blkT TX (by omega))
    have h_w11 := h_w10.grown hgg h_w10.size (fun j hj => by have := TX j hj; omega)
    have s_w11 := hgg.size
    clear VB_w10 VX_w10 h_w10
    clear hgg
    have qB0 := VB_w11.c0
    have qB1 := VB_w11.c1
    have qX0 := VX_w11.c0
    have qX1 := VX_w11.c1
    go_wp2_with fail
    refine (lEqRs w11.heap.size _ _ (List.replicate zs.length W) zs w11 (by omega) HX4.out (by have h9 := RsRd.of_own OG_w11; rw [HMG.out, HWG.out] at h9; exact h9) (OS_w11.more (by omega)) (Nat.le_refl _)).mono ?_
    rintro e w12 ⟨rfl, hbb⟩
    have OS_w12 := OS_w11.on (hbb.mono (by omega))
    clear OS_w11
    have OG_w12 := OG_w11.on hbb
    clear OG_w11
    clear qB0 qB1 qX0 qX1
    have VB_w12 := VB_w11.on hbb VB_w11.lt
    have VX_w12 := VX_w11.on hbb VX_w11.lt
    have OX_w12 := OX_w11.kept (grow_below hbb none) (Classical.em _)
    have h_w12 := h_w11.trans (hbb.mono h_w11.size)
    have s_w12 := hbb.size
    clear VB_w11 VX_w11 OX_w11 h_w11
    clear hbb
    clear OX_w12
    have qB0 := VB_w12.c0
    have qB1 := VB_w12.c1
    have qX0 := VX_w12.c0
    have qX1 := VX_w12.c1
    go_wp2_with fail
    clear qB0 qB1 qX0 qX1
    refine (lMarkRs uG _ esG 1 w12 HLG.out HXG.out (by omega) (by omega) OG_w12 (by omega)).mono ?_
    rintro e w13 ⟨rfl, OG_w13, hbb⟩
    have VB_w13 := VB_w12.on hbb (by omega)
    clear VB_w12
    clear VX_w12
    have OS_w13 := OS_w12.on (hbb.mono (by omega))
    clear OS_w12
    have h_w13 := h_w12.trans (hbb.mono (by omega))
    have s_w13 := hbb.size
    clear h_w12 OG_w12
    clear hbb
    have qB0 := VB_w13.c0
    have qB1 := VB_w13.c1
    go_wp2_with fail
    refine (lHeldRs w13.heap.size _ esG 1 w13 HLG.out HXG.out (by omega) (by omega) (RsRd.of_own OG_w13) (Nat.le_refl _)).mono ?_
    rintro e w14 ⟨rfl, hbb⟩
    have OS_w14 := OS_w13.on (hbb.mono (by omega))
    clear OS_w13
    have OG_w14 := OG_w13.on hbb
    clear OG_w13
    clear qB0 qB1
    have VB_w14 := VB_w13.on hbb VB_w13.lt
    have h_w14 := h_w13.trans (hbb.mono h_w13.size)
    have s_w14 := hbb.size
    clear VB_w13 h_w13
    clear hbb
    have qB0 := VB_w14.c0
    have qB1 := VB_w14.c1
    go_wp2_with fail
    refine (lToRegion w.heap.size n cap a W l w14 hn (HC.out.on h_w14) h_w14.size).mono ?_
    rintro e w15 ⟨gw15, rfl, OZ_w15, hbb⟩
    have OS_w15 := OS_w14.on (hbb.mono (by omega))
    clear OS_w14
    have OG_w15 := OG_w14.on hbb
    clear OG_w14
    clear qB0 qB1
    have VB_w15 := VB_w14.on hbb VB_w14.lt
    have h_w15 := h_w14.trans (hbb.mono h_w14.size)
    have s_w15 := hbb.size
    clear VB_w14 h_w14
    have TZ := OZ_w15.lt
    clear hbb
    have qB0 := VB_w15.c0
    have qB1 := VB_w15.c1
    go_wp2_with fail
    obtain ⟨uK, huK⟩ : ∃ u, w15.heap.size = u := ⟨_, rfl⟩
    refine (iParts w15.heap.size n n _ W l w15 hn (IntsAt.of_own OZ_w15 HC.out.2.1) (Nat.le_refl _)).mono ?_
    rintro e w16 ⟨vK, esK, rfl, PK, hmK, hwK, hbb⟩
    rw [huK] at PK
    have HMK := Lib.hid (hmK.trans HZ.out)
    have HWK := Lib.hid (wid_rep HMK.out hwK)
    have OS_w16 := OS_w15.on (hbb.mono (by omega))
    clear OS_w15
    have OG_w16 := OG_w15.on hbb
    clear OG_w15
    clear qB0 qB1
    have VB_w16 := VB_w15.on hbb VB_w15.lt
    have OZ_w16 := OZ_w15.kept (grow_below hbb none) (Classical.em _)
    have h_w16 := h_w15.trans (hbb.mono h_w15.size)
    have s_w16 := hbb.size
    clear VB_w15 OZ_w15 h_w15
    clear hbb hmK hwK
    have OK_w16 : OwnRs uK w16 vK esK := PK
    clear PK
    have qB0 := VB_w16.c0
    have qB1 := VB_w16.c1
    go_wp2_with fail
    refine (lEqRs w16.heap.size _ _ (List.replicate zs.length W) zs w16 (by omega) HX4.out (by have h9 := RsRd.of_own OK_w16; rw [HMK.out, HWK.out] at h9; exact h9) (OS_w16.more (by omega)) (Nat.le_refl _)).mono ?_
    rintro e w17 ⟨rfl, hbb⟩
    have OS_w17 := OS_w16.on (hbb.mono (by omega))
    clear OS_w16
    have OG_w17 := OG_w16.on hbb
    clear OG_w16
    have OK_w17 := OK_w16.on hbb
    clear OK_w16
    clear qB0 qB1
    have VB_w17 := VB_w16.on hbb VB_w16.lt
    have OZ_w17 := OZ_w16.kept (grow_below hbb none) (Classical.em _)
    have h_w17 := h_w16.trans (hbb.mono h_w16.size)
    have s_w17 := hbb.size
    clear VB_w16 OZ_w16 h_w16
    clear hbb
    have qB0 := VB_w17.c0
    have qB1 := VB_w17.c1
    go_wp2_with fail
    refine (lHeldRs w17.heap.size _ esG 1 w17 HLG.out HXG.out (by omega) (by omega) (RsRd.of_own OG_w17) (Nat.le_refl _)).mono ?_
    rintro e w18 ⟨rfl, hbb⟩
    have OS_w18 := OS_w17.on (hbb.mono (by omega))
    clear OS_w17
    have OG_w18 := OG_w17.on hbb
    clear OG_w17
    have OK_w18 := OK_w17.on hbb
    clear OK_w17
    clear qB0 qB1
    have VB_w18 := VB_w17.on hbb VB_w17.lt
    have OZ_w18 := OZ_w17.kept (grow_below hbb none) (Classical.em _)
    have h_w18 := h_w17.trans (hbb.mono h_w17.size)
    have s_w18 := hbb.size
    clear VB_w17 OZ_w17 h_w17
    clear hbb
    go_wp2
    go_ret
    exact ⟨rfl, h_w18⟩

end Go.Proofs.Ytbfopdflkkcfaaa
