/-
  The way with a number, as the program reaches it: what the call gives.
  The mask of some cells, in the program: what the call gives.
  The size of a shape, in the program: what the call gives.
  Looking for a cell, and equal lists of cells, in the program: what each call gives.
-/
import Derived.Test.YtkjlmgkjcmebbaaGreatDoorVas
import Derived.Test.YtkjlmgkjcmebbaaGreatDoorVah
import Derived.WalkMore
import Derived.ScopeJumps
import Derived.Test.YtkjlmgkjcmebbaaGreatDoorVaj
import Derived.Test.YtkjlmgkjcmebbaaGreatDoorVaq
import Derived.Test.YtkjlmgkjcmebbaaGreatDoorVak
import Derived.Test.YtkjlmgkjcmebbaaGreatDoorVac
namespace Go.Proofs.YtkjlmgkjcmebbaaGreatDoor

section
open Go.RowKit Go.Maps Go.ChangeMaps Go.MapKept

theorem scope_jumps {P : Program} {a : Act} {w : World} {Q : Exit → Act → World → Prop} {c rest : Go.Code} (l : Nat) (J : Act → World → Prop) (μ : Act → World → Nat) (hf : findLabel c l = some (.seq .skip rest))
    (pass : ∀ a w, J a w → rest.wp P (Exit.jump l (fun a' w' => J a' w' ∧ μ a' w' < μ a w) Q) a w)
    (first : (∀ a w, J a w → rest.wp P (Exit.jump l J Q) a w) → c.wp P (Exit.jump l J Q) a w) : (Code.scope c).wp P Q a w :=
  wp_scope_jumps l J μ hf (first fun a w h => wp_mono (pass a w h) fun e a' w' hq => by
    cases e with
    | goto l' => exact ⟨hq.1, hq.2.1⟩
    | normal => exact hq
    | exit id => exact hq
    | ret => exact hq
    | panic ch => exact hq
    | outgrown => exact hq) fun a w h => wp_seq (wp_skip (pass a w h))
theorem But.grow {B b : Nat} {x w w' : World} {o : Obj} {r : Option Nat} (h : But B b x w) (hB : B ≤ w.heap.size) (hg : (w.alloc o).grownBy w' r) (hr : ∀ j, r = some j → B ≤ j) : But B b x w' :=
  (h.alloc hB o).trans ⟨hg.os, hg.tape, hg.output, hg.size, fun k hk _ => hg.block k (by simp; omega) fun e => by have := hr k e.symm; omega⟩
/-- What holds at the label. -/
def NumJ (B g mb L : Nat) (Q : List Nat) (f0 n0 : Nat) (w : World) (f n : Nat) (out : List Nat) (ov : Value) (w' : World) : Prop :=
  f < 68719476736 ∧ n < L ∧ out.length + f ≤ f0 ∧ (out = [] ∨ n < cntR Q f) ∧ (tilR Q f0)[n0]? = ((tilR Q f)[n]?).map (out ++ ·) ∧
    w'.ownsRow w.heap.size 3 1 ov out.length (iv (ints out)) ∧ CntM w' mb (cutC Q L) ∧ But w.heap.size mb w w'
theorem ints_app (a : List Nat) (m : Nat) : iv (ints a) ++ [.int .i64 (m : Int)] = iv (ints (a ++ [m])) := by simp [iv, ints]
theorem map_app {o : Option (List Nat)} (a : List Nat) (m : Nat) : (o.map (m :: ·)).map (a ++ ·) = o.map ((a ++ [m]) ++ ·) := by
  cases o with
  | none => rfl
  | some x => simp

set_option maxHeartbeats 8000000 in
set_option maxRecDepth 100000 in
theorem iNumber (B g mb : Nat) (rows : Nat → Value) (d : Nat → Bool) (L : Nat) (Q : List Nat) (hL : 1 ≤ L) (hL2 : L ≤ 100000) (hQ : ∀ m ∈ Q, m ≠ 0 ∧ m < 68719476736) (hQl : Q.length ≤ 100000) (hd : SumTo Q d 65)
    (f0 n0 : Nat) (hf0 : f0 < 68719476736) (hn0 : n0 < L) (w : World) (hF : FilOk B w g mb rows d L Q) (hM : CntM w mb (cutC Q L)) :
    Calls Tryz.prog 56 #[.pointer (some ⟨g, 0, none⟩), .int .i64 f0, .int .i64 n0] w fun e w' => ∃ v, e = .returned (.tuple #[v, .bool ((tilR Q f0)[n0]?).isSome]) ∧ w'.ownsRow w.heap.size 3 1 v (wayI ((tilR Q f0)[n0]?)).length (iv (wayI ((tilR Q f0)[n0]?))) ∧ But w.heap.size mb w w' := by
  obtain ⟨i0, hi, hz0, hz1, hz2⟩ := info_parts info_int
  have HQ := Lib.hid hQ
  have HF := Lib.hid hF
  have HCT := Lib.hid (iCount B g mb rows d L Q hL hL2 hQ hQl hd)
  have HJ0 := Lib.hid (show NumJ B g mb L Q f0 n0 w f0 n0 [] (.slice none 0 0) w from ⟨hf0, hn0, by simp, .inl rfl, by cases (tilR Q f0)[n0]? <;> rfl, ⟨rfl, .inl ⟨rfl, rfl⟩⟩, hM, But.refl _ _ _⟩)
  clear hQ hd hF hM
  go_enter Tryz.func56, Tryz.ntmps56
  go_wp2
  refine scope_jumps 0 (fun a' w' => ∃ (f n : Nat) (out : List Nat) (ov : Value) (u3 u4 u5 u6 u7 u9 u10 u11 u12 u13 u14 u15 u16 u17 u18 u19 u20 u21 u22 u23 u24 u25 u26 u27 u28 u29 u30 u31 u32 u33 u34 u35 u36 u37 u38 u39 u40 u41 u42 u43 u44 u45 u46 u47 u48 u49 : Value), a' = { tmps := #[.pointer (some ⟨g, 0, none⟩), .int .i64 (f : Int), .int .i64 (n : Int), u3, u4, u5, u6, u7, ov, u9, u10, u11, u12, u13, u14, u15, u16, u17, u18, u19, u20, u21, u22, u23, u24, u25, u26, u27, u28, u29, u30, u31, u32, u33, u34, u35, u36, u37, u38, u39, u40, u41, u42, u43, u44, u45, u46, u47, u48, u49], defers := [] } ∧ NumJ B g mb L Q f0 n0 w f n out ov w') (fun a' _ => (intOf (a'.tmps.getD 1 undef)).toNat) rfl ?_ ?_
  · rintro a' wl ⟨f, n, out, ov, u3, u4, u5, u6, u7, u9, u10, u11, u12, u13, u14, u15, u16, u17, u18, u19, u20, u21, u22, u23, u24, u25, u26, u27, u28, u29, u30, u31, u32, u33, u34, u35, u36, u37, u38, u39, u40, u41, u42, u43, u44, u45, u46, u47, u48, u49, rfl, hfb, hnL, hol, hon, htl, hown, hcm, hbt⟩
    have HTL := Lib.hid htl
    have HON := Lib.hid hon
    have HOW := Lib.hid hown
    have HCM := Lib.hid hcm
    clear htl hon hown hcm
    by_cases h0 : f = 0
    · subst h0
      have HR := Lib.hid (show ((tilR Q f0)[n0]?).isSome = decide (n = 0) ∧ wayI ((tilR Q f0)[n0]?) = ints out from by
        rw [HTL.out, tilR_zero]
        by_cases h1 : n = 0
        · subst h1
          exact ⟨rfl, by simp [wayI]⟩
        · obtain ⟨k, rfl⟩ : ∃ k, n = k + 1 := ⟨n - 1, by omega⟩
          have h2 : out = [] := by
            rcases HON.out with h3 | h3
            · exact h3
            · rw [cntR_zero] at h3; omega
          subst h2
          exact ⟨by simp, by simp [wayI]⟩)
      have hnn : ((n : Int) == 0) = decide (n = 0) := by
        rw [Bool.eq_iff_iff]
        simp
      go_wp2
      simp only [Exit.jump]
      go_ret2
      refine ⟨ov, ?_, ?_, hbt⟩
      · rw [HR.out.1, ← hnn]; rfl
      · rw [HR.out.2, ints_len]; exact HOW.out
    have hfz : ((f : Int) == 0) = false := by simp; omega
    have hsl := hbt.size
    have HFl := Lib.hid (FilOk.but HF.out hbt)
    have HTG := Lib.hid (tilR_grp (fun m hm => (HQ.out m hm).1) h0 (show f < 2 ^ 64 by omega))
    have HTF := Lib.hid (grp_sub (fun m hm => (HQ.out m hm).1) (f := f) (by omega))
    have HST := Lib.hid (tilR_step Q h0)
    go_wp2_with fail
    refine (iCands B g mb f rows d L Q wl h0 hfb HFl.out).mono ?_
    rintro e w4 ⟨rfl, hb4⟩
    have HB4 := Lib.hid (hbt.trans ((But.of_below (b := mb) hb4).mono hsl))
    have HCM4 := Lib.hid (HCM.out.on hb4)
    have HOW4 := Lib.hid (HOW.out.kept (grow_below hb4 none) (Classical.em _))
    have HF4 := Lib.hid (HFl.out.on hb4)
    have hlow := lowB_lt h0 (show f < 2 ^ 64 by omega)
    obtain ⟨low, hlw⟩ : ∃ low, lowB f = low := ⟨_, rfl⟩
    rw [hlw] at hlow HTG HTF ⊢
    have HLW := Lib.hid hlw
    obtain ⟨C, hC⟩ : ∃ C, grpB Q low = C := ⟨_, rfl⟩
    have HCQ := Lib.hid (show ∀ m ∈ C, m ∈ Q ∧ m ≠ 0 ∧ m < 68719476736 from by rw [← hC]; intro m hm; have h9 := (List.mem_filter.1 hm).1; exact ⟨h9, HQ.out m h9⟩)
    have hCl : C.length ≤ 100000 := by rw [← hC]; exact Nat.le_trans (grpB_len Q low) hQl
    have HRW := Lib.hid (fun W (h9 : FilOk B W g mb rows d L Q) => (show W.ownsRow B 3 1 (rows low) C.length (iv (ints C)) from by rw [← hC]; exact h9.grp.each low hlow))
    have HCE := Lib.hid hC
    rw [hC] at HTG HTF
    obtain ⟨N, hN⟩ : ∃ N, C.length = N := ⟨_, rfl⟩
    rw [hN] at hCl HTG HRW
    obtain ⟨a, cap, hv⟩ := own_sliceI (HRW.out w4 HF4.out)
    rw [hv] at HRW ⊢
    have HIN := Lib.hid (ints_bd fun m hm => (HCQ.out m hm).2.2)
    have hsz4 := HB4.out.size
    clear HCM HOW hb4 hlw hC hv hbt HFl
    go_wp2
    go_loopw [1, 2, 8, 24] (fun fv nv oo ix wr => ∃ i n' : Nat, i ≤ N ∧ fv = .int .i64 (f : Int) ∧ oo = ov ∧ ix = .int .i64 (i : Int) ∧ nv = .int .i64 (n' : Int) ∧ n' ≤ n ∧ Hid (n' + cntTo Q C (subB f) f i = n) ∧ Hid (wr.ownsRow w.heap.size 3 1 ov out.length (iv (ints out))) ∧ Hid (CntM wr mb (cutC Q L)) ∧ But w.heap.size mb w wr) (fun _ _ _ ix _ => N - (intOf ix).toNat)
    case atStart => exact ⟨0, n, by omega, rfl, rfl, rfl, rfl, by omega, rfl, HOW4.out, HCM4.out, HB4.out⟩
    case round =>
      clear HOW4 HCM4 HB4 HF4
      obtain ⟨i, n', hi9, rfl, hoo, rfl, rfl, hn', hcn, hown, hcm, hbt⟩ := hrel
      have hoo2 := hoo.symm
      subst hoo2
      have HFr := Lib.hid (FilOk.but HF.out hbt)
      have hsr := hbt.size
      by_cases hlt : i < N
      · have hi1 : (i : Int) < (N : Int) := by omega
        have hi2 : (0 : Int) ≤ (i : Int) := by omega
        obtain ⟨b9, o9, rfl, hb9, hc9⟩ := (IntsAt.of_own (HRW.out wr HFr.out) HIN.out).2.2 (by omega)
        have p1 := hc9 i hlt
        rw [ints_get] at p1
        have hm := HCQ.out (C.getD i 0) (getD_memN (by omega))
        have HCY := Lib.hid (cntTo_yes Q (C := C) (p := subB f) f (i := i) (by omega))
        have HCN := Lib.hid (cntTo_no Q (C := C) (p := subB f) f (i := i) (by omega))
        have HSG := Lib.hid (seg_get (Q := Q) (C := C) (p := subB f) (f := f) (i := i) (n := n) (by omega))
        have HGF := Lib.hid (fun h => grp_fit (fun m hm => (HQ.out m hm).1) (f := f) (m := C.getD i 0) (by omega) (by rw [HLW.out, HCE.out]; exact getD_memN (by omega)) h)
        obtain ⟨m, hmm⟩ : ∃ m, C.getD i 0 = m := ⟨_, rfl⟩
        rw [hmm] at p1 hm HCY HCN HGF HSG
        clear hc9 hmm
        cases hsb : subB f m with
        | true =>
          obtain ⟨k1, k2⟩ := andnot_sub hsb (show m < 9223372036854775808 by omega) (show f < 9223372036854775808 by omega)
          have k3 : ((0 : Int) != 0) = false := by decide
          have hfs := fit_sub (HGF.out hsb)
          have hfp := fit_pos (HGF.out hsb)
          have HCS := Lib.hid (HCY.out hsb)
          have HSS := Lib.hid (HSG.out hsb)
          have HR := Lib.hid (HCT.out (f - m) (f - m) (Nat.le_refl _) (by omega) wr HFr.out hcm.out)
          have hcl := cutC_le Q L (f - m)
          have HCD := Lib.hid (show cutC Q L (f - m) = min (cntR Q (f - m)) L from rfl)
          obtain ⟨c, hcc⟩ : ∃ c, cutC Q L (f - m) = c := ⟨_, rfl⟩
          rw [hcc] at HR hcl HCD
          obtain ⟨fm, hfm⟩ : ∃ fm, f - m = fm := ⟨_, rfl⟩
          rw [hfm] at HR HCD HCS HSS k2 hfs
          have HFM := Lib.hid hfm
          clear HCY HCN HGF HSG hsb hcc hfm
          go_wp2_with fail
          refine HR.out.mono ?_
          rintro e w5 ⟨rfl, hcm5, hb5⟩
          have HB5 := Lib.hid (hbt.trans (hb5.mono hsr))
          have HM5 := Lib.hid hcm5
          have hmn : (ov).ownBlock ≠ some mb := by
            obtain ⟨D, hD, _⟩ := hcm.out
            exact own_map hown.out hD
          have HO5 := Lib.hid (hown.out.kept hb5.grown (.inr hmn))
          have hs5 := HB5.out.size
          clear hcm5 hb5 HR hcm hbt hown p1
          by_cases hnc : n' < c
          · have hnc1 : (n' : Int) < (c : Int) := by omega
            have HNE := Lib.hid (show (tilR Q f0)[n0]? = ((tilR Q fm)[n']?).map ((out ++ [m]) ++ ·) from by
              have h1 := hcn.out
              have h2 := HCD.out
              rw [HTL.out, HST.out, ← HTF.out, HSS.out (by omega) (by omega), show n - cntTo Q C (subB f) f i = n' by omega]
              exact map_app out m)
            have HLT := Lib.hid (show n' < cntR Q fm from by have h2 := HCD.out; omega)
            clear HSS HCS HTL HTG HTF HST
            have hO6 := HO5.out
            go_wp2_with (first | (at_builtin; refine wpList_append_own _ rfl _ _ 24 rfl w.heap.size 3 i0 (.int .i64 0) 1 8 Tryz.underlying24 hi hz0 hz1 hz2 rfl (by decide) _ _ _ rfl (hO6.alloc _) ⟨w5.heap.size, 0, none⟩ 1 1 [.int .i64 (m : Int)] rfl rfl (liesV_block (t := 3) (fr := (0, 0)) (heap_alloc_new _ _)) (by simp [Value.oneCell']) ?c3 ?c4 ?c5 ?_) | go_in)
            case c3 => unfold maxLen; omega
            case c4 => omega
            case c5 => simp; omega
            intro v' w6 hown6 hgrow _
            rw [ints_app] at hown6
            have HM6 := Lib.hid ((HM5.out.kept (World.grownBy_alloc w5 (.cells #[.int .i64 (m : Int)] 3) none) (by simp)).kept hgrow (fun e => hmn e.symm))
            have HB6 := Lib.hid (HB5.out.grow (by omega) hgrow (fun j hj => (hO6.lt j hj).1))
            have HO6 := Lib.hid (show w6.ownsRow w.heap.size 3 1 v' (out ++ [m]).length (iv (ints (out ++ [m]))) from by rw [List.length_append]; exact hown6)
            have hfs6 : fm < 68719476736 := by omega
            have hol6 : (out ++ [m]).length + fm ≤ f0 := by have h1 := HFM.out; rw [List.length_append]; simp only [List.length_cons, List.length_nil]; omega
            clear hown6 hgrow hO6 HO5 HM5 HB5
            go_wp2
            go_step3
            simp only [Exit.then, Exit.inBlock, Exit.jump]
            refine ⟨rfl, ⟨fm, n', out ++ [m], v', _, _, _, _, _, _, _, _, _, _, _, _, _, _, _, _, _, _, _, _, _, _, _, _, _, _, _, _, _, _, _, _, _, _, _, _, _, _, _, _, _, _, _, _, _, _, rfl, hfs6, by omega, hol6, .inr HLT.out, HNE.out, HO6.out, HM6.out, HB6.out⟩, ?_⟩
            simp [intOf]
            omega
          · have hnc1 : ¬ (n' : Int) < (c : Int) := by omega
            have HCN9 := Lib.hid (show n' - c + cntTo Q C (subB f) f (i + 1) = n from by
              have h1 := hcn.out
              have h2 := HCD.out
              have h3 := HCS.out
              unfold Hid at *
              omega)
            clear HSS HCS HCD hcn
            go_wp2
            go_roundw
            case rel => first
              | exact ⟨i + 1, n' - c, by omega, rfl, rfl, by go_num, by go_num, by omega, HCN9.out, HO5.out, HM5.out, HB5.out⟩
              | (repeat apply Exists.intro
                 exact ⟨⟨i + 1, n' - c, by omega, rfl, rfl, by go_num, by go_num, by omega, HCN9.out, HO5.out, HM5.out, HB5.out⟩, rfl⟩)
            case measure => simp [intOf]; omega
        | false =>
          have k1 := andnot_no hsb (show m < 9223372036854775808 by omega) (show f < 9223372036854775808 by omega)
          have k3 : (bits .andNot .i64 (m : Int) (f : Int) != 0) = true := by rw [bne_iff_ne]; exact k1
          have HCN9 := Lib.hid (show n' + cntTo Q C (subB f) f (i + 1) = n from by rw [HCN.out hsb]; exact hcn.out)
          clear HCY HCN HGF HSG hsb k1 hcn
          go_wp2
          go_roundw
          case rel => first
            | exact ⟨i + 1, n', by omega, rfl, rfl, by go_num, rfl, hn', HCN9.out, hown, hcm, hbt⟩
            | (repeat apply Exists.intro
               exact ⟨⟨i + 1, n', by omega, rfl, rfl, by go_num, rfl, hn', HCN9.out, hown, hcm, hbt⟩, rfl⟩)
          case measure => simp [intOf]; omega
      · obtain rfl : i = N := by omega
        have HR := Lib.hid (show ((tilR Q f0)[n0]?).isSome = false ∧ wayI ((tilR Q f0)[n0]?) = [] from by
          have h1 := hcn.out
          have h2 : (tilR Q f)[n]? = none := by
            rw [List.getElem?_eq_none_iff, HTG.out]
            show cntTo Q C (subB f) f i ≤ n
            omega
          rw [HTL.out, h2]
          exact ⟨rfl, rfl⟩)
        clear hcn hown hcm HTL HTG HTF HST
        go_wp2
        simp only [Exit.jump]
        go_ret2
        refine ⟨.slice none 0 0, ?_, ?_, hbt⟩
        · rw [HR.out.1]; rfl
        · rw [HR.out.2]; exact ⟨rfl, .inl ⟨rfl, rfl⟩⟩
  · intro hpass
    go_wp2
    go_step3
    simp only [Exit.then]
    rename_i hK
    exact hK _ _ (hpass _ _ ⟨f0, n0, [], _, _, _, _, _, _, _, _, _, _, _, _, _, _, _, _, _, _, _, _, _, _, _, _, _, _, _, _, _, _, _, _, _, _, _, _, _, _, _, _, _, _, _, _, _, _, _, rfl, HJ0.out⟩)
end

section
open Go.RowKit
end

section
open Go.RowKit

theorem size_no {l : List Cl} (h : isShape l = false) : wideC l = 0 ∧ highC l = 0 := by
  have e : cornS l = [] := if_neg (by rw [h]; simp)
  unfold wideC highC
  rw [e]
  exact ⟨rfl, rfl⟩
theorem size_yes {l : List Cl} (h : isShape l = true) : wideC l = grtX l - lstX l + 1 ∧ highC l = grtY l - lstY l + 1 := by
  have h1 := size_of h
  have h2 := ((isShape_iff l).1 h).1
  unfold grtX grtY lstX lstY
  rw [lst_min _ _ (by omega), lst_min _ _ (by omega)]
  exact h1
theorem bounds_in {l : List Cl} (h : isShape l = true) : (0 ≤ lstX l ∧ lstX l ≤ 7) ∧ (0 ≤ lstY l ∧ lstY l ≤ 7) ∧ (0 ≤ grtX l ∧ grtX l ≤ 7) ∧ (0 ≤ grtY l ∧ grtY l ≤ 7) := by
  obtain ⟨h1, h2, _⟩ := (isShape_iff l).1 h
  have hx : ∀ c ∈ l, 0 ≤ Prod.fst c ∧ Prod.fst c ≤ 7 := fun c hc => by have := inP_out (h2 c hc); omega
  have hy : ∀ c ∈ l, 0 ≤ Prod.snd c ∧ Prod.snd c ≤ 7 := fun c hc => by have := inP_out (h2 c hc); omega
  exact ⟨lstTo_bd _ l (by omega) hx _ (Nat.le_refl _), lstTo_bd _ l (by omega) hy _ (Nat.le_refl _), grtTo_bd _ l (by omega) hx _ (Nat.le_refl _), grtTo_bd _ l (by omega) hy _ (Nat.le_refl _)⟩

set_option maxHeartbeats 1000000 in
set_option maxRecDepth 100000 in
theorem iSize (B n cap : Nat) (a : Option Addr) (l : List Cl) (w : World) (hn : n ≤ 4194304) (hc : CellsAt B w a n l) (hB : B ≤ w.heap.size) :
    Calls Tryz.prog 149 #[.slice a n cap] w fun e w' => e = .returned (.tuple #[.int .i64 (wideC l), .int .i64 (highC l)]) ∧ Below w.heap.size w w' := by
  have H := Lib.hid hc
  clear hc
  by_cases h : isShape l = true
  · have HS := Lib.hid (size_yes h)
    have HBD := Lib.hid (bounds_in h)
    have hl := ((isShape_iff l).1 h).1
    rw [H.out.1] at hl
    go_enter Tryz.func149, Tryz.ntmps149
    go_wp2_with fail
    refine (iIsShape B n cap a l w hn H.out hB).mono ?_
    rintro e w1 ⟨rfl, hb1⟩
    go_wp2_with fail
    refine (iBounds B n cap a l w1 hn (by omega) (H.out.on (hb1.mono hB)) (Nat.le_trans hB hb1.size)).mono ?_
    rintro e w2 ⟨rfl, hb2⟩
    have hb := hb1.trans (hb2.mono hb1.size)
    have hbd := HBD.out
    generalize hA1 : lstX l = a1 at hbd
    generalize hA2 : lstY l = a2 at hbd
    generalize hA3 : grtX l = a3 at hbd
    generalize hA4 : grtY l = a4 at hbd
    have HA := Lib.hid (show _ ∧ _ ∧ _ ∧ _ from ⟨hA1, hA2, hA3, hA4⟩)
    have j1 : IntKind.i64.wrap (a3 - a1) = a3 - a1 := IntWalk.i64_in _ (by omega)
    have j2 : IntKind.i64.wrap (a3 - a1 + 1) = a3 - a1 + 1 := IntWalk.i64_in _ (by omega)
    have j3 : IntKind.i64.wrap (a4 - a2) = a4 - a2 := IntWalk.i64_in _ (by omega)
    have j4 : IntKind.i64.wrap (a4 - a2 + 1) = a4 - a2 + 1 := IntWalk.i64_in _ (by omega)
    clear hA1 hA2 hA3 hA4
    go_wp2_with fail
    go_quiet (fail)
    go_wp2
    go_ret2
    rw [HS.out.1, HS.out.2, HA.out.1, HA.out.2.1, HA.out.2.2.1, HA.out.2.2.2]
    exact ⟨rfl, below_drewn ((hb.alloc hb.size _).alloc (hb.alloc hb.size _).size _) _⟩
  · have h' : isShape l = false := by simpa using h
    have HS := Lib.hid (size_no h')
    clear h
    go_enter Tryz.func149, Tryz.ntmps149
    go_wp2_with fail
    refine (iIsShape B n cap a l w hn H.out hB).mono ?_
    rintro e w1 ⟨rfl, hb1⟩
    go_wp2
    go_ret2
    rw [HS.out.1, HS.out.2]
    exact ⟨rfl, hb1⟩
end

section
open Go.RowKit

set_option maxHeartbeats 1000000 in
set_option maxRecDepth 100000 in
theorem iEqual_same (B n c1 c2 : Nat) (a1 a2 : Option Addr) (l r : List Cl) (w : World) (hn : n ≤ 4194304) (h1 : CellsAt B w a1 n l) (h2 : CellsAt B w a2 n r) (hB : B ≤ w.heap.size) :
    Calls Tryz.prog 165 #[.slice a1 n c1, .slice a2 n c2] w fun e w' => e = .returned (.bool (eqb l r)) ∧ Below w.heap.size w w' := by
  have H1 := Lib.hid h1
  have H2 := Lib.hid h2
  clear h1 h2
  have hne : (((n : Nat) : Int) != (n : Int)) = false := by simp
  go_enter Tryz.func165, Tryz.ntmps165
  go_wp2
  go_loopw [13] (fun i wr => ∃ k : Nat, k ≤ n ∧ i = .int .i64 k ∧ Hid (l.take k = r.take k) ∧ Below w.heap.size w wr) (fun i _ => n - (intOf i).toNat)
  case atStart => exact ⟨0, by omega, rfl, by simp [Hid], Below.refl _ _⟩
  case round =>
    obtain ⟨k, hk, rfl, hsame, hb⟩ := hrel
    have hsz := hb.size
    by_cases hlt : k < n
    · obtain ⟨b1, o1, rfl, hb1, hc1⟩ := H1.out.2.2 (by omega)
      obtain ⟨b2, o2, rfl, hb2, hc2⟩ := H2.out.2.2 (by omega)
      obtain ⟨x, y, hxy⟩ : ∃ x y, l.getD k (0, 0) = (x, y) := ⟨_, _, rfl⟩
      obtain ⟨u, v, huv⟩ : ∃ u v, r.getD k (0, 0) = (u, v) := ⟨_, _, rfl⟩
      have p1 := (hb.cell (p := ⟨b1, o1 + k * 2, none⟩) (Nat.lt_of_lt_of_le hb1 hB)).trans (hc1 k hlt).1
      have p2 := (hb.cell (p := ⟨b1, o1 + k * 2 + 1, none⟩) (Nat.lt_of_lt_of_le hb1 hB)).trans (hc1 k hlt).2
      have q1 := (hb.cell (p := ⟨b2, o2 + k * 2, none⟩) (Nat.lt_of_lt_of_le hb2 hB)).trans (hc2 k hlt).1
      have q2 := (hb.cell (p := ⟨b2, o2 + k * 2 + 1, none⟩) (Nat.lt_of_lt_of_le hb2 hB)).trans (hc2 k hlt).2
      rw [hxy] at p1 p2
      rw [huv] at q1 q2
      have HX := Lib.hid hxy
      have HU := Lib.hid huv
      have hk0 : (0 : Int) ≤ (k : Int) := by omega
      have hk1 : (k : Int) < (n : Int) := by omega
      have hE := neq_cell x y u v
      have hG := cell_guard
      clear hc1 hc2 hxy huv
      go_wp2_with fail
      go_quiet (fail)
      go_wp2
      all_goals
        rename_i hcase
        clear hE hG
        simp [sameC] at hcase
        first
          | (have hd : l.getD k (0, 0) ≠ r.getD k (0, 0) := by
               rw [HX.out, HU.out]
               intro e
               injection e with e1 e2
               subst e1 e2
               simp at hcase
             go_ret
             exact ⟨by rw [eqb_no hd]; rfl, below_drewn hb _⟩)
          | (have hd : l.getD k (0, 0) = r.getD k (0, 0) := by
               rw [HX.out, HU.out, hcase.1, hcase.2]
             have hst := take_same l r k (by have := H1.out.1; omega) (by have := H2.out.1; omega) hsame.out hd
             go_roundw
             case rel => exact ⟨k + 1, by omega, by go_num, hst, below_drewn hb _⟩
             case measure => simp [intOf]; omega)
    · have e : l = r := by
        have h := hsame.out
        rwa [List.take_of_length_le (by have := H1.out.1; omega), List.take_of_length_le (by have := H2.out.1; omega)] at h
      have E := Lib.hid e
      clear e
      go_wp2
      go_ret
      exact ⟨by rw [eqb, E.out]; simp, hb⟩

set_option maxHeartbeats 400000 in
theorem iEqual_any (B n m c1 c2 : Nat) (a1 a2 : Option Addr) (l r : List Cl) (w : World) (hn : n ≤ 4194304) (hm : m ≤ 4194304) (h1 : CellsAt B w a1 n l) (h2 : CellsAt B w a2 m r) (hB : B ≤ w.heap.size) :
    Calls Tryz.prog 148 #[.slice a1 n c1, .slice a2 m c2] w fun e w' => e = .returned (.bool (eqb l r)) ∧ Below w.heap.size w w' := by
  by_cases hnm : n = m
  · subst hnm
    have H1 := Lib.hid h1
    have H2 := Lib.hid h2
    clear h1 h2
    go_enter Tryz.func148, Tryz.ntmps148
    go_wp2_with fail
    refine (iEqual_same B n c1 c2 a1 a2 l r w hn H1.out H2.out hB).mono ?_
    rintro e w1 ⟨rfl, hb1⟩
    go_wp2
    go_ret
    exact ⟨rfl, hb1⟩
  · have hne : (((n : Nat) : Int) != (m : Int)) = true := by rw [bne_iff_ne]; omega
    have he : eqb l r = false := by
      unfold eqb
      simp
      intro e
      have a := h1.1
      have b := h2.1
      rw [e] at a
      omega
    rw [he]
    clear he hnm h1 h2
    go_enter Tryz.func148, Tryz.ntmps148
    go_wp2
    go_ret
    exact ⟨rfl, Below.refl _ _⟩
end

end Go.Proofs.YtkjlmgkjcmebbaaGreatDoor
