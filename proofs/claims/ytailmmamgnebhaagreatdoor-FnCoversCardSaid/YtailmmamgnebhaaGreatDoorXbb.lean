/-
  The way with a number, as the program reaches it: what the call gives.
  The mask of some cells, in the program: what the call gives.
-/
import Derived.Test.YtailmmamgnebhaaGreatDoorXba
import Derived.Test.YtailmmamgnebhaaGreatDoorXaw
import Derived.WalkMore
import Derived.ScopeJumps
import Derived.Test.YtailmmamgnebhaaGreatDoorXaq
import Derived.Test.YtailmmamgnebhaaGreatDoorXal
namespace Go.Proofs.YtailmmamgnebhaaGreatDoor

section
open Go.RowKit Go.Maps Go.ChangeMaps Go.MapKept

theorem scope_jumps {P : Program} {a : Act} {w : World} {Q : Exit → Act → World → Prop} {c rest : Go.Code} (l : Nat) (J : Act → World → Prop) (μ : Act → World → Nat) (hf : findLabel c l = some (.seq .skip rest))
    (pass : ∀ a w, J a w → rest.wp P (Exit.jump l (fun a' w' => J a' w' ∧ μ a' w' < μ a w) Q) a w)
    (first : (∀ a w, J a w → rest.wp P (Exit.jump l J Q) a w) → c.wp P (Exit.jump l J Q) a w) : (Code.scope c).wp P Q a w :=
  wp_scope_jumps l J μ hf (first fun a w h => wp_mono (pass a w h) fun e a' w' hq => by
    cases e with
    | goto l' => exact ⟨hq.1, hq.2.1⟩
    | normal => exact hq
    | exit id => exact hq
    | ret => exact hq
    | panic ch => exact hq
    | outgrown => exact hq) fun a w h => wp_seq (wp_skip (pass a w h))
theorem But.grow {B b : Nat} {x w w' : World} {o : Obj} {r : Option Nat} (h : But B b x w) (hB : B ≤ w.heap.size) (hg : (w.alloc o).grownBy w' r) (hr : ∀ j, r = some j → B ≤ j) : But B b x w' :=
  (h.alloc hB o).trans ⟨hg.os, hg.tape, hg.output, hg.size, fun k hk _ => hg.block k (by simp; omega) fun e => by have := hr k e.symm; omega⟩
/-- What holds at the label. -/
def NumJ (B g mb L : Nat) (Q : List Nat) (f0 n0 : Nat) (w : World) (f n : Nat) (out : List Nat) (ov : Value) (w' : World) : Prop :=
  f < 68719476736 ∧ n < L ∧ out.length + f ≤ f0 ∧ (out = [] ∨ n < cntR Q f) ∧ (tilR Q f0)[n0]? = ((tilR Q f)[n]?).map (out ++ ·) ∧
    w'.ownsRow w.heap.size 3 1 ov out.length (iv (ints out)) ∧ CntM w' mb (cutC Q L) ∧ But w.heap.size mb w w'
theorem ints_app (a : List Nat) (m : Nat) : iv (ints a) ++ [.int .i64 (m : Int)] = iv (ints (a ++ [m])) := by simp [iv, ints]
theorem map_app {o : Option (List Nat)} (a : List Nat) (m : Nat) : (o.map (m :: ·)).map (a ++ ·) = o.map ((a ++ [m]) ++ ·) := by
  cases o with
  | none => rfl
  | some x => simp

set_option maxHeartbeats 8000000 in
set_option maxRecDepth 100000 in
theorem iNumber (B g mb : Nat) (rows : Nat → Value) (d : Nat → Bool) (L : Nat) (Q : List Nat) (hL : 1 ≤ L) (hL2 : L ≤ 100000) (hQ : ∀ m ∈ Q, m ≠ 0 ∧ m < 68719476736) (hQl : Q.length ≤ 100000) (hd : SumTo Q d 65)
    (f0 n0 : Nat) (hf0 : f0 < 68719476736) (hn0 : n0 < L) (w : World) (hF : FilOk B w g mb rows d L Q) (hM : CntM w mb (cutC Q L)) :
    Calls Tryz.prog 93 #[.pointer (some ⟨g, 0, none⟩), .int .i64 f0, .int .i64 n0] w fun e w' => ∃ v, e = .returned (.tuple #[v, .bool ((tilR Q f0)[n0]?).isSome]) ∧ w'.ownsRow w.heap.size 3 1 v (wayI ((tilR Q f0)[n0]?)).length (iv (wayI ((tilR Q f0)[n0]?))) ∧ But w.heap.size mb w w' := by
  obtain ⟨i0, hi, hz0, hz1, hz2⟩ := info_parts info_int
  have HQ := Lib.hid hQ
  have HF := Lib.hid hF
  have HCT := Lib.hid (iCount B g mb rows d L Q hL hL2 hQ hQl hd)
  have HJ0 := Lib.hid (show NumJ B g mb L Q f0 n0 w f0 n0 [] (.slice none 0 0) w from ⟨hf0, hn0, by simp, .inl rfl, by cases (tilR Q f0)[n0]? <;> rfl, ⟨rfl, .inl ⟨rfl, rfl⟩⟩, hM, But.refl _ _ _⟩)
  clear hQ hd hF hM
  go_enter Tryz.func93, Tryz.ntmps93
  go_wp2
  refine scope_jumps 0 (fun a' w' => ∃ (f n : Nat) (out : List Nat) (ov : Value) (u3 u4 u5 u6 u7 u9 u10 u11 u12 u13 u14 u15 u16 u17 u18 u19 u20 u21 u22 u23 u24 u25 u26 u27 u28 u29 u30 u31 u32 u33 u34 u35 u36 u37 u38 u39 u40 u41 u42 u43 u44 u45 u46 u47 : Value), a' = { tmps := #[.pointer (some ⟨g, 0, none⟩), .int .i64 (f : Int), .int .i64 (n : Int), u3, u4, u5, u6, u7, ov, u9, u10, u11, u12, u13, u14, u15, u16, u17, u18, u19, u20, u21, u22, u23, u24, u25, u26, u27, u28, u29, u30, u31, u32, u33, u34, u35, u36, u37, u38, u39, u40, u41, u42, u43, u44, u45, u46, u47], defers := [] } ∧ NumJ B g mb L Q f0 n0 w f n out ov w') (fun a' _ => (intOf (a'.tmps.getD 1 undef)).toNat) rfl ?_ ?_
  · rintro a' wl ⟨f, n, out, ov, u3, u4, u5, u6, u7, u9, u10, u11, u12, u13, u14, u15, u16, u17, u18, u19, u20, u21, u22, u23, u24, u25, u26, u27, u28, u29, u30, u31, u32, u33, u34, u35, u36, u37, u38, u39, u40, u41, u42, u43, u44, u45, u46, u47, rfl, hfb, hnL, hol, hon, htl, hown, hcm, hbt⟩
    have HTL := Lib.hid htl
    have HON := Lib.hid hon
    have HOW := Lib.hid hown
    have HCM := Lib.hid hcm
    clear htl hon hown hcm
    by_cases h0 : f = 0
    · subst h0
      have HR := Lib.hid (show ((tilR Q f0)[n0]?).isSome = decide (n = 0) ∧ wayI ((tilR Q f0)[n0]?) = ints out from by
        rw [HTL.out, tilR_zero]
        by_cases h1 : n = 0
        · subst h1
          exact ⟨rfl, by simp [wayI]⟩
        · obtain ⟨k, rfl⟩ : ∃ k, n = k + 1 := ⟨n - 1, by omega⟩
          have h2 : out = [] := by
            rcases HON.out with h3 | h3
            · exact h3
            · rw [cntR_zero] at h3; omega
          subst h2
          exact ⟨by simp, by simp [wayI]⟩)
      have hnn : ((n : Int) == 0) = decide (n = 0) := by
        rw [Bool.eq_iff_iff]
        simp
      go_wp2
      simp only [Exit.jump]
      go_ret2
      refine ⟨ov, ?_, ?_, hbt⟩
      · rw [HR.out.1, ← hnn]; rfl
      · rw [HR.out.2, ints_len]; exact HOW.out
    have hfz : ((f : Int) == 0) = false := by simp; omega
    have hsl := hbt.size
    have HFl := Lib.hid (FilOk.but HF.out hbt)
    have HTG := Lib.hid (tilR_grp (fun m hm => (HQ.out m hm).1) h0 (show f < 2 ^ 64 by omega))
    have HTF := Lib.hid (grp_sub (fun m hm => (HQ.out m hm).1) (f := f) (by omega))
    have HST := Lib.hid (tilR_step Q h0)
    go_wp2_with fail
    refine (iCands B g mb f rows d L Q wl h0 hfb HFl.out).mono ?_
    rintro e w4 ⟨rfl, hb4⟩
    have HB4 := Lib.hid (hbt.trans ((But.of_below (b := mb) hb4).mono hsl))
    have HCM4 := Lib.hid (HCM.out.on hb4)
    have HOW4 := Lib.hid (HOW.out.kept (grow_below hb4 none) (Classical.em _))
    have HF4 := Lib.hid (HFl.out.on hb4)
    have hlow := lowB_lt h0 (show f < 2 ^ 64 by omega)
    obtain ⟨low, hlw⟩ : ∃ low, lowB f = low := ⟨_, rfl⟩
    rw [hlw] at hlow HTG HTF ⊢
    have HLW := Lib.hid hlw
    obtain ⟨C, hC⟩ : ∃ C, grpB Q low = C := ⟨_, rfl⟩
    have HCQ := Lib.hid (show ∀ m ∈ C, m ∈ Q ∧ m ≠ 0 ∧ m < 68719476736 from by rw [← hC]; intro m hm; have h9 := (List.mem_filter.1 hm).1; exact ⟨h9, HQ.out m h9⟩)
    have hCl : C.length ≤ 100000 := by rw [← hC]; exact Nat.le_trans (grpB_len Q low) hQl
    have HRW := Lib.hid (fun W (h9 : FilOk B W g mb rows d L Q) => (show W.ownsRow B 3 1 (rows low) C.length (iv (ints C)) from by rw [← hC]; exact h9.grp.each low hlow))
    have HCE := Lib.hid hC
    rw [hC] at HTG HTF
    obtain ⟨N, hN⟩ : ∃ N, C.length = N := ⟨_, rfl⟩
    rw [hN] at hCl HTG HRW
    obtain ⟨a, cap, hv⟩ := own_sliceI (HRW.out w4 HF4.out)
    rw [hv] at HRW ⊢
    have HIN := Lib.hid (ints_bd fun m hm => (HCQ.out m hm).2.2)
    have hsz4 := HB4.out.size
    clear HCM HOW hb4 hlw hC hv hbt HFl
    go_wp2
    go_loopw [1, 2, 8, 22] (fun fv nv oo ix wr => ∃ i n' : Nat, i ≤ N ∧ fv = .int .i64 (f : Int) ∧ oo = ov ∧ ix = .int .i64 (i : Int) ∧ nv = .int .i64 (n' : Int) ∧ n' ≤ n ∧ Hid (n' + cntTo Q C (subB f) f i = n) ∧ Hid (wr.ownsRow w.heap.size 3 1 ov out.length (iv (ints out))) ∧ Hid (CntM wr mb (cutC Q L)) ∧ But w.heap.size mb w wr) (fun _ _ _ ix _ => N - (intOf ix).toNat)
    case atStart => exact ⟨0, n, by omega, rfl, rfl, rfl, rfl, by omega, rfl, HOW4.out, HCM4.out, HB4.out⟩
    case round =>
      clear HOW4 HCM4 HB4 HF4
      obtain ⟨i, n', hi9, rfl, hoo, rfl, rfl, hn', hcn, hown, hcm, hbt⟩ := hrel
      have hoo2 := hoo.symm
      subst hoo2
      have HFr := Lib.hid (FilOk.but HF.out hbt)
      have hsr := hbt.size
      by_cases hlt : i < N
      · have hi1 : (i : Int) < (N : Int) := by omega
        have hi2 : (0 : Int) ≤ (i : Int) := by omega
        obtain ⟨b9, o9, rfl, hb9, hc9⟩ := (IntsAt.of_own (HRW.out wr HFr.out) HIN.out).2.2 (by omega)
        have p1 := hc9 i hlt
        rw [ints_get] at p1
        have hm := HCQ.out (C.getD i 0) (getD_memN (by omega))
        have HCY := Lib.hid (cntTo_yes Q (C := C) (p := subB f) f (i := i) (by omega))
        have HCN := Lib.hid (cntTo_no Q (C := C) (p := subB f) f (i := i) (by omega))
        have HSG := Lib.hid (seg_get (Q := Q) (C := C) (p := subB f) (f := f) (i := i) (n := n) (by omega))
        have HGF := Lib.hid (fun h => grp_fit (fun m hm => (HQ.out m hm).1) (f := f) (m := C.getD i 0) (by omega) (by rw [HLW.out, HCE.out]; exact getD_memN (by omega)) h)
        obtain ⟨m, hmm⟩ : ∃ m, C.getD i 0 = m := ⟨_, rfl⟩
        rw [hmm] at p1 hm HCY HCN HGF HSG
        clear hc9 hmm
        cases hsb : subB f m with
        | true =>
          obtain ⟨k1, k2⟩ := andnot_sub hsb (show m < 9223372036854775808 by omega) (show f < 9223372036854775808 by omega)
          have k3 : ((0 : Int) != 0) = false := by decide
          have hfs := fit_sub (HGF.out hsb)
          have hfp := fit_pos (HGF.out hsb)
          have HCS := Lib.hid (HCY.out hsb)
          have HSS := Lib.hid (HSG.out hsb)
          have HR := Lib.hid (HCT.out (f - m) (f - m) (Nat.le_refl _) (by omega) wr HFr.out hcm.out)
          have hcl := cutC_le Q L (f - m)
          have HCD := Lib.hid (show cutC Q L (f - m) = min (cntR Q (f - m)) L from rfl)
          obtain ⟨c, hcc⟩ : ∃ c, cutC Q L (f - m) = c := ⟨_, rfl⟩
          rw [hcc] at HR hcl HCD
          obtain ⟨fm, hfm⟩ : ∃ fm, f - m = fm := ⟨_, rfl⟩
          rw [hfm] at HR HCD HCS HSS k2 hfs
          have HFM := Lib.hid hfm
          clear HCY HCN HGF HSG hsb hcc hfm
          go_wp2_with fail
          refine HR.out.mono ?_
          rintro e w5 ⟨rfl, hcm5, hb5⟩
          have HB5 := Lib.hid (hbt.trans (hb5.mono hsr))
          have HM5 := Lib.hid hcm5
          have hmn : (ov).ownBlock ≠ some mb := by
            obtain ⟨D, hD, _⟩ := hcm.out
            exact own_map hown.out hD
          have HO5 := Lib.hid (hown.out.kept hb5.grown (.inr hmn))
          have hs5 := HB5.out.size
          clear hcm5 hb5 HR hcm hbt hown p1
          by_cases hnc : n' < c
          · have hnc1 : (n' : Int) < (c : Int) := by omega
            have HNE := Lib.hid (show (tilR Q f0)[n0]? = ((tilR Q fm)[n']?).map ((out ++ [m]) ++ ·) from by
              have h1 := hcn.out
              have h2 := HCD.out
              rw [HTL.out, HST.out, ← HTF.out, HSS.out (by omega) (by omega), show n - cntTo Q C (subB f) f i = n' by omega]
              exact map_app out m)
            have HLT := Lib.hid (show n' < cntR Q fm from by have h2 := HCD.out; omega)
            clear HSS HCS HTL HTG HTF HST
            have hO6 := HO5.out
            go_wp2_with (first | (at_builtin; refine wpList_append_own _ rfl _ _ 24 rfl w.heap.size 3 i0 (.int .i64 0) 1 8 Tryz.underlying24 hi hz0 hz1 hz2 rfl (by decide) _ _ _ rfl (hO6.alloc _) ⟨w5.heap.size, 0, none⟩ 1 1 [.int .i64 (m : Int)] rfl rfl (liesV_block (t := 3) (fr := (0, 0)) (heap_alloc_new _ _)) (by simp [Value.oneCell']) ?c3 ?c4 ?c5 ?_) | go_in)
            case c3 => unfold maxLen; omega
            case c4 => omega
            case c5 => simp; omega
            intro v' w6 hown6 hgrow _
            rw [ints_app] at hown6
            have HM6 := Lib.hid ((HM5.out.kept (World.grownBy_alloc w5 (.cells #[.int .i64 (m : Int)] 3) none) (by simp)).kept hgrow (fun e => hmn e.symm))
            have HB6 := Lib.hid (HB5.out.grow (by omega) hgrow (fun j hj => (hO6.lt j hj).1))
            have HO6 := Lib.hid (show w6.ownsRow w.heap.size 3 1 v' (out ++ [m]).length (iv (ints (out ++ [m]))) from by rw [List.length_append]; exact hown6)
            have hfs6 : fm < 68719476736 := by omega
            have hol6 : (out ++ [m]).length + fm ≤ f0 := by have h1 := HFM.out; rw [List.length_append]; simp only [List.length_cons, List.length_nil]; omega
            clear hown6 hgrow hO6 HO5 HM5 HB5
            go_wp2
            go_step3
            simp only [Exit.then, Exit.inBlock, Exit.jump]
            refine ⟨rfl, ⟨fm, n', out ++ [m], v', _, _, _, _, _, _, _, _, _, _, _, _, _, _, _, _, _, _, _, _, _, _, _, _, _, _, _, _, _, _, _, _, _, _, _, _, _, _, _, _, _, _, _, _, rfl, hfs6, by omega, hol6, .inr HLT.out, HNE.out, HO6.out, HM6.out, HB6.out⟩, ?_⟩
            simp [intOf]
            omega
          · have hnc1 : ¬ (n' : Int) < (c : Int) := by omega
            have HCN9 := Lib.hid (show n' - c + cntTo Q C (subB f) f (i + 1) = n from by
              have h1 := hcn.out
              have h2 := HCD.out
              have h3 := HCS.out
              unfold Hid at *
              omega)
            clear HSS HCS HCD hcn
            go_wp2
            go_roundw
            case rel => first
              | exact ⟨i + 1, n' - c, by omega, rfl, rfl, by go_num, by go_num, by omega, HCN9.out, HO5.out, HM5.out, HB5.out⟩
              | (repeat apply Exists.intro
                 exact ⟨⟨i + 1, n' - c, by omega, rfl, rfl, by go_num, by go_num, by omega, HCN9.out, HO5.out, HM5.out, HB5.out⟩, rfl⟩)
            case measure => simp [intOf]; omega
        | false =>
          have k1 := andnot_no hsb (show m < 9223372036854775808 by omega) (show f < 9223372036854775808 by omega)
          have k3 : (bits .andNot .i64 (m : Int) (f : Int) != 0) = true := by rw [bne_iff_ne]; exact k1
          have HCN9 := Lib.hid (show n' + cntTo Q C (subB f) f (i + 1) = n from by rw [HCN.out hsb]; exact hcn.out)
          clear HCY HCN HGF HSG hsb k1 hcn
          go_wp2
          go_roundw
          case rel => first
            | exact ⟨i + 1, n', by omega, rfl, rfl, by go_num, rfl, hn', HCN9.out, hown, hcm, hbt⟩
            | (repeat apply Exists.intro
               exact ⟨⟨i + 1, n', by omega, rfl, rfl, by go_num, rfl, hn', HCN9.out, hown, hcm, hbt⟩, rfl⟩)
          case measure => simp [intOf]; omega
      · obtain rfl : i = N := by omega
        have HR := Lib.hid (show ((tilR Q f0)[n0]?).isSome = false ∧ wayI ((tilR Q f0)[n0]?) = [] from by
          have h1 := hcn.out
          have h2 : (tilR Q f)[n]? = none := by
            rw [List.getElem?_eq_none_iff, HTG.out]
            show cntTo Q C (subB f) f i ≤ n
            omega
          rw [HTL.out, h2]
          exact ⟨rfl, rfl⟩)
        clear hcn hown hcm HTL HTG HTF HST
        go_wp2
        simp only [Exit.jump]
        go_ret2
        refine ⟨.slice none 0 0, ?_, ?_, hbt⟩
        · rw [HR.out.1]; rfl
        · rw [HR.out.2]; exact ⟨rfl, .inl ⟨rfl, rfl⟩⟩
  · intro hpass
    go_wp2
    go_step3
    simp only [Exit.then]
    rename_i hK
    exact hK _ _ (hpass _ _ ⟨f0, n0, [], _, _, _, _, _, _, _, _, _, _, _, _, _, _, _, _, _, _, _, _, _, _, _, _, _, _, _, _, _, _, _, _, _, _, _, _, _, _, _, _, _, _, _, _, _, rfl, HJ0.out⟩)
end

section
open Go.RowKit

set_option maxHeartbeats 8000000 in
set_option maxRecDepth 100000 in
theorem iMaskC (B n cap m2 cap2 : Nat) (a a2 : Option Addr) (W : Int) (l : List Int) (cs : List Cl) (w : World) (hn : n ≤ 4194304) (hm : m2 ≤ 4194304) (hc : IntsAt B w a n l) (hd : CellsAt B w a2 m2 cs) (hB : B ≤ w.heap.size) :
    Calls Tryz.prog 18 #[.agg #[.int .i64 W, .slice a n cap], .slice a2 m2 cap2] w fun e w' => e = .returned (.tuple #[.int .i64 (mcV W l cs : Nat), .bool (mcOk W l cs)]) ∧ Below w.heap.size w w' := by
  have H := Lib.hid hc
  have HD := Lib.hid hd
  have HLN := Lib.hid hc.1
  have hlc := hd.1
  clear hc hd
  have hb0 := (Below.refl w.heap.size w).alloc (Nat.le_refl _) (.cells #[.int .i64 W, .slice a n cap] 26)
  have hbox0 := RgAt.new (w := w) W (.slice a n cap) rfl
  have hsz0 : (w.alloc (.cells #[.int .i64 W, .slice a n cap] 26)).heap.size = w.heap.size + 1 := by simp
  cases h : isReg W l with
  | false =>
    have HI := Lib.hid h
    have HO := Lib.hid (mcOk_no h cs)
    clear h
    go_enter Tryz.func18, Tryz.ntmps18
    go_wp2_with fail
    refine (iIsReg B n cap a W l _ hn (H.out.on (hb0.mono hB)) (Nat.le_trans hB hb0.size)).mono ?_
    rintro e w' ⟨rfl, hb⟩
    rw [HI.out]
    have HB2 := Lib.hid (hb0.trans (hb.mono hb0.size))
    clear hb hb0
    go_wp2
    go_ret2
    exact ⟨by rw [HO.out, mcV_no HO.out]; rfl, HB2.out⟩
  | true =>
    obtain ⟨N, rfl, hr⟩ := isReg_out h
    have hln := HLN.out
    rw [hln] at hr
    have HR := Lib.hid hr
    have HI := Lib.hid h
    have HCB := Lib.hid (fun x y => cellB_yes h x y)
    have HO := Lib.hid (mcOk_yes hr cs)
    have hN6 := hr.w6
    have hn6 := hr.h6
    clear h hr hln
    go_enter Tryz.func18, Tryz.ntmps18
    go_wp2_with fail
    refine (iIsReg B n cap a N l _ hn (H.out.on (hb0.mono hB)) (Nat.le_trans hB hb0.size)).mono ?_
    rintro e W1 ⟨rfl, hb⟩
    rw [HI.out]
    have HB := Lib.hid (hb0.trans (hb.mono hb0.size))
    have hbox := hbox0.on hb hbox0.lt
    have hsz1 := hb.size
    rw [hsz0] at hsz1
    clear hb hb0 hbox0 hsz0
    go_wp2
    go_loopw [6, 15] (fun v i wr => ∃ k m : Nat, k ≤ m2 ∧ i = .int .i64 k ∧ v = .int .i64 m ∧ Hid (m = orB N (cs.take k)) ∧ Hid (okC N l cs k = true) ∧ Below (w.heap.size + 1) W1 wr) (fun _ i _ => m2 - (intOf i).toNat)
    case atStart => exact ⟨0, 0, by omega, rfl, rfl, rfl, by simp [Hid, okC], Below.refl _ _⟩
    case round =>
      obtain ⟨k, m, hk, rfl, rfl, hmm, hok, hb⟩ := hrel
      have hsz := hb.size
      have hbx := hbox.on hb (by omega)
      have hbw := HB.out.trans (hb.mono (by omega))
      by_cases hlt : k < m2
      · have hk1 : (k : Int) < (m2 : Int) := by omega
        have hk0 : (0 : Int) ≤ (k : Int) := by omega
        obtain ⟨b2, off2, rfl, hbB2, hcell2⟩ := HD.out.2.2 (by omega)
        obtain ⟨x, y, hxy⟩ : ∃ x y, cs.getD k (0, 0) = (x, y) := ⟨_, _, rfl⟩
        have p0 := hcell2 k hlt
        rw [hxy] at p0
        have p1 := (hbw.cell (p := ⟨b2, off2 + k * 2, none⟩) (Nat.lt_of_lt_of_le hbB2 hB)).trans p0.1
        have p2 := (hbw.cell (p := ⟨b2, off2 + k * 2 + 1, none⟩) (Nat.lt_of_lt_of_le hbB2 hB)).trans p0.2
        have hmb : m < 68719476736 := by
          have h1 := okC_lt HR.out (k := k) (by omega) hok.out
          rw [← hmm.out] at h1
          have h2 := pow36 HR.out.w6 HR.out.h6 (Nat.le_refl n)
          rw [Nat.mul_comm n N] at h2
          omega
        have HST := Lib.hid (okC_step N l cs k)
        have HXY := Lib.hid hxy
        have hszw := hbw.size
        obtain ⟨rb, hrb⟩ : ∃ rb, wr.heap.size = rb := ⟨_, rfl⟩
        have HC := Lib.hid (Two.new (w := wr) x y hrb)
        have HB1 := Lib.hid (hb.alloc (show w.heap.size + 1 ≤ wr.heap.size by omega) (.cells #[.int .i64 x, .int .i64 y] 40))
        have HBX := Lib.hid (hbx.alloc (.cells #[.int .i64 x, .int .i64 y] 40))
        have hsa : (wr.alloc (.cells #[.int .i64 x, .int .i64 y] 40)).heap.size = rb + 1 := by simp [hrb]
        have c0 := HBX.out.c0
        have c1 := HBX.out.c1
        have d0 := HC.out.c0
        have d1 := HC.out.c1
        clear p0 hxy hcell2 hbx hbw hb
        go_wp2_with fail
        generalize (wr.alloc (.cells #[.int .i64 x, .int .i64 y] 40)) = w2 at *
        have hbw2 := HB.out.trans (HB1.out.mono (by omega))
        refine (iInReg B n cap a N l x y w2 hn (H.out.on (hbw2.mono hB)) (Nat.le_trans hB hbw2.size)).mono ?_
        rintro e w3 ⟨rfl, hb3⟩
        rw [HCB.out]
        have HB3 := Lib.hid (HB1.out.trans (hb3.mono (by have := HB1.out.size; omega)))
        have HBW3 := Lib.hid (HB.out.trans (HB3.out.mono (by omega)))
        have hc3 := HC.out.on hb3 HC.out.lt
        have hbx3 := HBX.out.on hb3 HBX.out.lt
        clear c0 c1 d0 d1 HC HBX hbw2 p1 p2
        cases hbt : bt l (x, y) with
        | false =>
          have HF := Lib.hid (show okC N l cs m2 = false from okC_false (k := k) (by rw [HST.out, HXY.out, hbt]; simp) hlt)
          have HO2 := Lib.hid (show mcOk N l cs = false from by rw [HO.out, hlc]; exact HF.out)
          clear hbt hb3 hc3 hbx3
          go_wp2
          go_ret2
          exact ⟨by rw [HO2.out, mcV_no HO2.out]; rfl, HBW3.out⟩
        | true =>
          obtain ⟨u, v, rfl, rfl, hu, hv, hu6, hv6, hbn, h36⟩ := HR.out.place hbt
          obtain ⟨q, hq⟩ : ∃ q : Nat, v * N + u = q := ⟨_, rfl⟩
          rw [hq] at hbn h36
          have hand := and_bit (m := m) (b := q) (by omega) (by omega)
          have HBT := Lib.hid hbt
          have HBN := Lib.hid hbn
          have hp2 : (2 : Nat) ^ q ≤ 2 ^ 36 := Nat.pow_le_pow_right (by omega) (by omega)
          have hp1 : 0 < (2 : Nat) ^ q := Nat.pos_of_ne_zero (by simp)
          have c0 := hbx3.c0
          have d0 := hc3.c0
          have d1 := hc3.c1
          clear hbt hbn hb3 hc3 hbx3
          go_wp2_with fail
          refine (iBitOf u v N q w3 hq (by omega) (by omega) (by omega) hN6).mono ?_
          rintro e w4 ⟨rfl, hb4⟩
          have HB4 := Lib.hid (HB3.out.trans (hb4.mono (by have := HB3.out.size; omega)))
          have HBW4 := Lib.hid (HB.out.trans (HB4.out.mono (by omega)))
          clear c0 d0 d1 hb4
          cases htb : m.testBit q with
          | true =>
            rw [htb, if_pos rfl] at hand
            have HF := Lib.hid (show okC N l cs m2 = false from okC_false (k := k) (by rw [HST.out, HXY.out, HBN.out, ← hmm.out, htb]; simp) hlt)
            have HO2 := Lib.hid (show mcOk N l cs = false from by rw [HO.out, hlc]; exact HF.out)
            clear htb hq
            generalize 2 ^ q = g at *
            have hne : ((g : Int) != 0) = true := by rw [bne_iff_ne]; omega
            go_wp2
            go_ret2
            exact ⟨by rw [HO2.out, mcV_no HO2.out]; rfl, HBW4.out⟩
          | false =>
            rw [htb, if_neg (by simp)] at hand
            have hand1 : bits .and .i64 (m : Int) ((2 ^ q : Nat) : Int) = 0 := hand
            have HF := Lib.hid (show okC N l cs (k + 1) = true from by rw [HST.out, hok.out, HXY.out, HBT.out, HBN.out, ← hmm.out, htb]; rfl)
            have HM := Lib.hid (show m ||| 2 ^ q = orB N (cs.take (k + 1)) from by rw [orB_take cs (by omega), HXY.out, HBN.out, ← hmm.out])
            have hor := i64_or_nat m (2 ^ q) (by omega) (by omega)
            clear htb hand hq
            generalize m ||| 2 ^ q = t at *
            generalize 2 ^ q = g at *
            go_wp2
            go_roundw
            case rel => exact ⟨k + 1, t, by omega, by go_num, rfl, HM.out, HF.out, HB4.out⟩
            case measure => simp [intOf]; omega
      · obtain rfl : k = m2 := by omega
        have HOK := Lib.hid (show mcOk N l cs = true from by rw [HO.out, hlc]; exact hok.out)
        have HMV := Lib.hid (show (m : Int) = (mcV N l cs : Nat) from by rw [mcV_yes HOK.out, hmm.out, List.take_of_length_le (by omega)])
        have HBW := Lib.hid hbw
        clear hb hbx hbw
        go_wp2
        go_ret2
        exact ⟨by rw [HOK.out, ← HMV.out]; rfl, HBW.out⟩
end

end Go.Proofs.YtailmmamgnebhaaGreatDoor
