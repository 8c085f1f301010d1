/-
  The way with a number, as the program reaches it: what the call gives.
  The mask of some cells, in the program: what the call gives.
  Neighbouring shapes that are equal taken out of a slice of shapes, in the library's slices.CompactFunc: what the call gives.
-/
import Derived.Test.YtkjlmgkjcmebbaaGreatDoorWar
import Derived.Test.YtkjlmgkjcmebbaaGreatDoorWan
import Derived.WalkMore
import Derived.ScopeJumps
import Derived.Test.YtkjlmgkjcmebbaaGreatDoorWaj
import Derived.Test.YtkjlmgkjcmebbaaGreatDoorWah
import Derived.Test.YtkjlmgkjcmebbaaGreatDoorWac
import Derived.Test.YtkjlmgkjcmebbaaGreatDoorWam
import Derived.Shelf.Abstract
import Derived.BigQuiet
namespace Go.Proofs.YtkjlmgkjcmebbaaGreatDoor

section
open Go.RowKit Go.Maps Go.ChangeMaps Go.MapKept

theorem scope_jumps {P : Program} {a : Act} {w : World} {Q : Exit → Act → World → Prop} {c rest : Go.Code} (l : Nat) (J : Act → World → Prop) (μ : Act → World → Nat) (hf : findLabel c l = some (.seq .skip rest))
    (pass : ∀ a w, J a w → rest.wp P (Exit.jump l (fun a' w' => J a' w' ∧ μ a' w' < μ a w) Q) a w)
    (first : (∀ a w, J a w → rest.wp P (Exit.jump l J Q) a w) → c.wp P (Exit.jump l J Q) a w) : (Code.scope c).wp P Q a w :=
  wp_scope_jumps l J μ hf (first fun a w h => wp_mono (pass a w h) fun e a' w' hq => by
    cases e with
    | goto l' => exact ⟨hq.1, hq.2.1⟩
    | normal => exact hq
    | exit id => exact hq
    | ret => exact hq
    | panic ch => exact hq
    | outgrown => exact hq) fun a w h => wp_seq (wp_skip (pass a w h))
theorem But.grow {B b : Nat} {x w w' : World} {o : Obj} {r : Option Nat} (h : But B b x w) (hB : B ≤ w.heap.size) (hg : (w.alloc o).grownBy w' r) (hr : ∀ j, r = some j → B ≤ j) : But B b x w' :=
  (h.alloc hB o).trans ⟨hg.os, hg.tape, hg.output, hg.size, fun k hk _ => hg.block k (by simp; omega) fun e => by have := hr k e.symm; omega⟩
/-- What holds at the label. -/
def NumJ (_B _g mb L : Nat) (Q : List Nat) (f0 n0 : Nat) (w : World) (f n : Nat) (out : List Nat) (ov : Value) (w' : World) : Prop :=
  f < 68719476736 ∧ n < L ∧ out.length + f ≤ f0 ∧ (out = [] ∨ n < cntR Q f) ∧ (tilR Q f0)[n0]? = ((tilR Q f)[n]?).map (out ++ ·) ∧
    w'.ownsRow w.heap.size 3 1 ov out.length (iv (ints out)) ∧ CntM w' mb (cutC Q L) ∧ But w.heap.size mb w w'
theorem ints_app (a : List Nat) (m : Nat) : iv (ints a) ++ [.int .i64 (m : Int)] = iv (ints (a ++ [m])) := by simp [iv, ints]
theorem map_app {o : Option (List Nat)} (a : List Nat) (m : Nat) : (o.map (m :: ·)).map (a ++ ·) = o.map ((a ++ [m]) ++ ·) := by
  cases o with
  | none => rfl
  | some x => simp

set_option maxHeartbeats 8000000 in
set_option maxRecDepth 100000 in
theorem iNumber (B g mb : Nat) (rows : Nat → Value) (d : Nat → Bool) (L : Nat) (Q : List Nat) (hL : 1 ≤ L) (hL2 : L ≤ 100000) (hQ : ∀ m ∈ Q, m ≠ 0 ∧ m < 68719476736) (hQl : Q.length ≤ 100000) (hd : SumTo Q d 65)
    (f0 n0 : Nat) (hf0 : f0 < 68719476736) (hn0 : n0 < L) (w : World) (hF : FilOk B w g mb rows d L Q) (hM : CntM w mb (cutC Q L)) :
    Calls Tryz.prog 56 #[.pointer (some ⟨g, 0, none⟩), .int .i64 f0, .int .i64 n0] w fun e w' => ∃ v, e = .returned (.tuple #[v, .bool ((tilR Q f0)[n0]?).isSome]) ∧ w'.ownsRow w.heap.size 3 1 v (wayI ((tilR Q f0)[n0]?)).length (iv (wayI ((tilR Q f0)[n0]?))) ∧ But w.heap.size mb w w' := by
  obtain ⟨i0, hi, hz0, hz1, hz2⟩ := info_parts info_int
  have HQ := Lib.hid hQ
  have HF := Lib.hid hF
  have HCT := Lib.hid (iCount B g mb rows d L Q hL hL2 hQ hQl hd)
  have HJ0 := Lib.hid (show NumJ B g mb L Q f0 n0 w f0 n0 [] (.slice none 0 0) w from ⟨hf0, hn0, by simp, .inl rfl, by cases (tilR Q f0)[n0]? <;> rfl, ⟨rfl, .inl ⟨rfl, rfl⟩⟩, hM, But.refl _ _ _⟩)
  clear hQ hd hF hM
  go_enter Tryz.func56, Tryz.ntmps56
  go_wp2
  refine scope_jumps 0 (fun a' w' => ∃ (f n : Nat) (out : List Nat) (ov : Value) (u3 u4 u5 u6 u7 u9 u10 u11 u12 u13 u14 u15 u16 u17 u18 u19 u20 u21 u22 u23 u24 u25 u26 u27 u28 u29 u30 u31 u32 u33 u34 u35 u36 u37 u38 u39 u40 u41 u42 u43 u44 u45 u46 u47 u48 u49 : Value), a' = { tmps := #[.pointer (some ⟨g, 0, none⟩), .int .i64 (f : Int), .int .i64 (n : Int), u3, u4, u5, u6, u7, ov, u9, u10, u11, u12, u13, u14, u15, u16, u17, u18, u19, u20, u21, u22, u23, u24, u25, u26, u27, u28, u29, u30, u31, u32, u33, u34, u35, u36, u37, u38, u39, u40, u41, u42, u43, u44, u45, u46, u47, u48, u49], defers := [] } ∧ NumJ B g mb L Q f0 n0 w f n out ov w') (fun a' _ => (intOf (a'.tmps.getD 1 undef)).toNat) rfl ?_ ?_
  · rintro a' wl ⟨f, n, out, ov, u3, u4, u5, u6, u7, u9, u10, u11, u12, u13, u14, u15, u16, u17, u18, u19, u20, u21, u22, u23, u24, u25, u26, u27, u28, u29, u30, u31, u32, u33, u34, u35, u36, u37, u38, u39, u40, u41, u42, u43, u44, u45, u46, u47, u48, u49, rfl, hfb, hnL, hol, hon, htl, hown, hcm, hbt⟩
    have HTL := Lib.hid htl
    have HON := Lib.hid hon
    have HOW := Lib.hid hown
    have HCM := Lib.hid hcm
    clear htl hon hown hcm
    by_cases h0 : f = 0
    · subst h0
      have HR := Lib.hid (show ((tilR Q f0)[n0]?).isSome = decide (n = 0) ∧ wayI ((tilR Q f0)[n0]?) = ints out from by
        rw [HTL.out, tilR_zero]
        by_cases h1 : n = 0
        · subst h1
          exact ⟨rfl, by simp [wayI]⟩
        · obtain ⟨k, rfl⟩ : ∃ k, n = k + 1 := ⟨n - 1, by omega⟩
          have h2 : out = [] := by
            rcases HON.out with h3 | h3
            · exact h3
            · rw [cntR_zero] at h3; omega
          subst h2
          exact ⟨by simp, by simp [wayI]⟩)
      have hnn : ((n : Int) == 0) = decide (n = 0) := by
        rw [Bool.eq_iff_iff]
        simp
      go_wp2
      simp only [Exit.jump]
      go_ret2
      refine ⟨ov, ?_, ?_, hbt⟩
      · rw [HR.out.1, ← hnn]; rfl
      · rw [HR.out.2, ints_len]; exact HOW.out
    have hfz : ((f : Int) == 0) = false := by simp; omega
    have hsl := hbt.size
    have HFl := Lib.hid (FilOk.but HF.out hbt)
    have HTG := Lib.hid (tilR_grp (fun m hm => (HQ.out m hm).1) h0 (show f < 2 ^ 64 by omega))
    have HTF := Lib.hid (grp_sub (fun m hm => (HQ.out m hm).1) (f := f) (by omega))
    have HST := Lib.hid (tilR_step Q h0)
    go_wp2_with fail
    refine (iCands B g mb f rows d L Q wl h0 hfb HFl.out).mono ?_
    rintro e w4 ⟨rfl, hb4⟩
    have HB4 := Lib.hid (hbt.trans ((But.of_below (b := mb) hb4).mono hsl))
    have HCM4 := Lib.hid (HCM.out.on hb4)
    have HOW4 := Lib.hid (HOW.out.kept (grow_below hb4 none) (Classical.em _))
    have HF4 := Lib.hid (HFl.out.on hb4)
    have hlow := lowB_lt h0 (show f < 2 ^ 64 by omega)
    obtain ⟨low, hlw⟩ : ∃ low, lowB f = low := ⟨_, rfl⟩
    rw [hlw] at hlow HTG HTF ⊢
    have HLW := Lib.hid hlw
    obtain ⟨C, hC⟩ : ∃ C, grpB Q low = C := ⟨_, rfl⟩
    have HCQ := Lib.hid (show ∀ m ∈ C, m ∈ Q ∧ m ≠ 0 ∧ m < 68719476736 from by rw [← hC]; intro m hm; have h9 := (List.mem_filter.1 hm).1; exact ⟨h9, HQ.out m h9⟩)
    have hCl : C.length ≤ 100000 := by rw [← hC]; exact Nat.le_trans (grpB_len Q low) hQl
    have HRW := Lib.hid (fun W (h9 : FilOk B W g mb rows d L Q) => (show W.ownsRow B 3 1 (rows low) C.length (iv (ints C)) from by rw [← hC]; exact h9.grp.each low hlow))
    have HCE := Lib.hid hC
    rw [hC] at HTG HTF
    obtain ⟨N, hN⟩ : ∃ N, C.length = N := ⟨_, rfl⟩
    rw [hN] at hCl HTG HRW
    obtain ⟨a, cap, hv⟩ := own_sliceI (HRW.out w4 HF4.out)
    rw [hv] at HRW ⊢
    have HIN := Lib.hid (ints_bd fun m hm => (HCQ.out m hm).2.2)
    have hsz4 := HB4.out.size
    clear HCM HOW hb4 hlw hC hv hbt HFl
    go_wp2
    go_loopw [1, 2, 8, 24] (fun fv nv oo ix wr => ∃ i n' : Nat, i ≤ N ∧ fv = .int .i64 (f : Int) ∧ oo = ov ∧ ix = .int .i64 (i : Int) ∧ nv = .int .i64 (n' : Int) ∧ n' ≤ n ∧ Hid (n' + cntTo Q C (subB f) f i = n) ∧ Hid (wr.ownsRow w.heap.size 3 1 ov out.length (iv (ints out))) ∧ Hid (CntM wr mb (cutC Q L)) ∧ But w.heap.size mb w wr) (fun _ _ _ ix _ => N - (intOf ix).toNat)
    case atStart => exact ⟨0, n, by omega, rfl, rfl, rfl, rfl, by omega, rfl, HOW4.out, HCM4.out, HB4.out⟩
    case round =>
      clear HOW4 HCM4 HB4 HF4
      obtain ⟨i, n', hi9, rfl, hoo, rfl, rfl, hn', hcn, hown, hcm, hbt⟩ := hrel
      have hoo2 := hoo.symm
      subst hoo2
      have HFr := Lib.hid (FilOk.but HF.out hbt)
      have hsr := hbt.size
      by_cases hlt : i < N
      · have hi1 : (i : Int) < (N : Int) := by omega
        have hi2 : (0 : Int) ≤ (i : Int) := by omega
        obtain ⟨b9, o9, rfl, hb9, hc9⟩ := (IntsAt.of_own (HRW.out wr HFr.out) HIN.out).2.2 (by omega)
        have p1 := hc9 i hlt
        rw [ints_get] at p1
        have hm := HCQ.out (C.getD i 0) (getD_memN (by omega))
        have HCY := Lib.hid (cntTo_yes Q (C := C) (p := subB f) f (i := i) (by omega))
        have HCN := Lib.hid (cntTo_no Q (C := C) (p := subB f) f (i := i) (by omega))
        have HSG := Lib.hid (seg_get (Q := Q) (C := C) (p := subB f) (f := f) (i := i) (n := n) (by omega))
        have HGF := Lib.hid (fun h => grp_fit (fun m hm => (HQ.out m hm).1) (f := f) (m := C.getD i 0) (by omega) (by rw [HLW.out, HCE.out]; exact getD_memN (by omega)) h)
        obtain ⟨m, hmm⟩ : ∃ m, C.getD i 0 = m := ⟨_, rfl⟩
        rw [hmm] at p1 hm HCY HCN HGF HSG
        clear hc9 hmm
        cases hsb : subB f m with
        | true =>
          obtain ⟨k1, k2⟩ := andnot_sub hsb (show m < 9223372036854775808 by omega) (show f < 9223372036854775808 by omega)
          have k3 : ((0 : Int) != 0) = false := by decide
          have hfs := fit_sub (HGF.out hsb)
          have hfp := fit_pos (HGF.out hsb)
          have HCS := Lib.hid (HCY.out hsb)
          have HSS := Lib.hid (HSG.out hsb)
          have HR := Lib.hid (HCT.out (f - m) (f - m) (Nat.le_refl _) (by omega) wr HFr.out hcm.out)
          have hcl := cutC_le Q L (f - m)
          have HCD := Lib.hid (show cutC Q L (f - m) = min (cntR Q (f - m)) L from rfl)
          obtain ⟨c, hcc⟩ : ∃ c, cutC Q L (f - m) = c := ⟨_, rfl⟩
          rw [hcc] at HR hcl HCD
          obtain ⟨fm, hfm⟩ : ∃ fm, f - m = fm := ⟨_, rfl⟩
          rw [hfm] at HR HCD HCS HSS k2 hfs
          have HFM := Lib.hid hfm
          clear HCY HCN HGF HSG hsb hcc hfm
          go_wp2_with fail
          refine HR.out.mono ?_
          rintro e w5 ⟨rfl, hcm5, hb5⟩
          have HB5 := Lib.hid (hbt.trans (hb5.mono hsr))
          have HM5 := Lib.hid hcm5
          have hmn : (ov).ownBlock ≠ some mb := by
            obtain ⟨D, hD, _⟩ := hcm.out
            exact own_map hown.out hD
          have HO5 := Lib.hid (hown.out.kept hb5.grown (.inr hmn))
          have hs5 := HB5.out.size
          clear hcm5 hb5 HR hcm hbt hown p1
          by_cases hnc : n' < c
          · have hnc1 : (n' : Int) < (c : Int) := by omega
            have HNE := Lib.hid (show (tilR Q f0)[n0]? = ((tilR Q fm)[n']?).map ((out ++ [m]) ++ ·) from by
              have h1 := hcn.out
              have h2 := HCD.out
              rw [HTL.out, HST.out, ← HTF.out, HSS.out (by omega) (by omega), show n - cntTo Q C (subB f) f i = n' by omega]
              exact map_app out m)
            have HLT := Lib.hid (show n' < cntR Q fm from by have h2 := HCD.out; omega)
            clear HSS HCS HTL HTG HTF HST
            have hO6 := HO5.out
            go_wp2_with (first | (at_builtin; refine wpList_append_own _ rfl _ _ 24 rfl w.heap.size 3 i0 (.int .i64 0) 1 8 Tryz.underlying24 hi hz0 hz1 hz2 rfl (by decide) _ _ _ rfl (hO6.alloc _) ⟨w5.heap.size, 0, none⟩ 1 1 [.int .i64 (m : Int)] rfl rfl (liesV_block (t := 3) (fr := (0, 0)) (heap_alloc_new _ _)) (by simp [Value.oneCell']) ?c3 ?c4 ?c5 ?_) | go_in)
            case c3 => unfold maxLen; omega
            case c4 => omega
            case c5 => simp; omega
            intro v' w6 hown6 hgrow _
            rw [ints_app] at hown6
            have HM6 := Lib.hid ((HM5.out.kept (World.grownBy_alloc w5 (.cells #[.int .i64 (m : Int)] 3) none) (by simp)).kept hgrow (fun e => hmn e.symm))
            have HB6 := Lib.hid (HB5.out.grow (by omega) hgrow (fun j hj => (hO6.lt j hj).1))
            have HO6 := Lib.hid (show w6.ownsRow w.heap.size 3 1 v' (out ++ [m]).length (iv (ints (out ++ [m]))) from by rw [List.length_append]; exact hown6)
            have hfs6 : fm < 68719476736 := by omega
            have hol6 : (out ++ [m]).length + fm ≤ f0 := by have h1 := HFM.out; rw [List.length_append]; simp only [List.length_cons, List.length_nil]; omega
            clear hown6 hgrow hO6 HO5 HM5 HB5
            go_wp2
            go_step3
            simp only [Exit.then, Exit.inBlock]
            refine ⟨rfl, ⟨fm, n', out ++ [m], v', _, _, _, _, _, _, _, _, _, _, _, _, _, _, _, _, _, _, _, _, _, _, _, _, _, _, _, _, _, _, _, _, _, _, _, _, _, _, _, _, _, _, _, _, _, _, rfl, hfs6, by omega, hol6, .inr HLT.out, HNE.out, HO6.out, HM6.out, HB6.out⟩, ?_⟩
            simp [intOf]
            omega
          · have hnc1 : ¬ (n' : Int) < (c : Int) := by omega
            have HCN9 := Lib.hid (show n' - c + cntTo Q C (subB f) f (i + 1) = n from by
              have h1 := hcn.out
              have h2 := HCD.out
              have h3 := HCS.out
              unfold Hid at *
              omega)
            clear HSS HCS HCD hcn
            go_wp2
            go_roundw
            case rel => first
              | exact ⟨i + 1, n' - c, by omega, rfl, rfl, by go_num, by go_num, by omega, HCN9.out, HO5.out, HM5.out, HB5.out⟩
              | (repeat apply Exists.intro
                 exact ⟨⟨i + 1, n' - c, by omega, rfl, rfl, by go_num, by go_num, by omega, HCN9.out, HO5.out, HM5.out, HB5.out⟩, rfl⟩)
            case measure => simp [intOf]; omega
        | false =>
          have k1 := andnot_no hsb (show m < 9223372036854775808 by omega) (show f < 9223372036854775808 by omega)
          have k3 : (bits .andNot .i64 (m : Int) (f : Int) != 0) = true := by rw [bne_iff_ne]; exact k1
          have HCN9 := Lib.hid (show n' + cntTo Q C (subB f) f (i + 1) = n from by rw [HCN.out hsb]; exact hcn.out)
          clear HCY HCN HGF HSG hsb k1 hcn
          go_wp2
          go_roundw
          case rel => first
            | exact ⟨i + 1, n', by omega, rfl, rfl, by go_num, rfl, hn', HCN9.out, hown, hcm, hbt⟩
            | (repeat apply Exists.intro
               exact ⟨⟨i + 1, n', by omega, rfl, rfl, by go_num, rfl, hn', HCN9.out, hown, hcm, hbt⟩, rfl⟩)
          case measure => simp [intOf]; omega
      · obtain rfl : i = N := by omega
        have HR := Lib.hid (show ((tilR Q f0)[n0]?).isSome = false ∧ wayI ((tilR Q f0)[n0]?) = [] from by
          have h1 := hcn.out
          have h2 : (tilR Q f)[n]? = none := by
            rw [List.getElem?_eq_none_iff, HTG.out]
            show cntTo Q C (subB f) f i ≤ n
            omega
          rw [HTL.out, h2]
          exact ⟨rfl, rfl⟩)
        clear hcn hown hcm HTL HTG HTF HST
        go_wp2
        simp only [Exit.jump]
        go_ret2
        refine ⟨.slice none 0 0, ?_, ?_, hbt⟩
        · rw [HR.out.1]; rfl
        · rw [HR.out.2]; exact ⟨rfl, .inl ⟨rfl, rfl⟩⟩
  · intro hpass
    go_wp2
    go_step3
    simp only [Exit.then]
    rename_i hK
    exact hK _ _ (hpass _ _ ⟨f0, n0, [], _, _, _, _, _, _, _, _, _, _, _, _, _, _, _, _, _, _, _, _, _, _, _, _, _, _, _, _, _, _, _, _, _, _, _, _, _, _, _, _, _, _, _, _, _, _, _, rfl, HJ0.out⟩)
end

section
open Go.RowKit
end

section
open Go.RowKit

def dedE (es : List Ent) : List Ent := dedK kE dE es es.length
theorem ev_map_set (L : List Ent) (k : Nat) (e : Ent) : (L.map ev).set k (ev e) = (L.set k e).map ev := by rw [List.map_set]
theorem zero_shps (n : Nat) : (Builtin.zeroCells (Value.slice none 0 0).cells n).toList = List.replicate n (.slice none 0 0) := by
  unfold Builtin.zeroCells
  apply List.ext_getElem?
  intro j
  by_cases hj : j < n
  · simp [Value.cells, hj, Nat.mod_one]
  · rw [List.getElem?_eq_none (by simp [Value.cells]; omega), List.getElem?_eq_none (by simp; omega)]
theorem run_clear_shps {w : World} {B n g cap kk c : Nat} {xs : List Value} (ty : TypeId) (h : w.ownsRow B 95 1 (.slice (some ⟨g, 0, none⟩) n cap) n xs) (hk : kk < n) :
    (Builtin.clear_ #[27] ty #[.slice (some ⟨g, kk, none⟩) (n - kk) c]).run Tryz.prog w = .ok (.tuple #[]) (w.setCells g kk (List.replicate (n - kk) (.slice none 0 0))) := by
  have hl : xs.length = n := by have := h.1; omega
  have hst := run_storeCells_cells (P := Tryz.prog) g kk (List.replicate (n - kk) (.slice none 0 0)) 0 w
    (fun j hj => by
      rw [List.length_replicate] at hj
      rw [Nat.add_zero, h.cellAt (kk + j) (by omega)]
      have : kk + j < xs.length := by omega
      simp [this])
    (fun j hj => by rw [Nat.add_zero]; exact h.frozenAt _) (fun u hu => by rw [List.eq_of_mem_replicate hu]; rfl)
  simp only [Nat.add_zero] at hst
  obtain ⟨m, hm⟩ : ∃ m, n - kk = m + 1 := ⟨n - kk - 1, by omega⟩
  rw [hm] at hst ⊢
  simp [Builtin.clear_, run_underlying Tryz.underlying27, Tryz.zeroValue95, zero_shps, hst]

theorem run_store_ev {w : World} {g kk : Nat} {u : Value} (e : Ent) (q2 : w.cell? ⟨g, kk, none⟩ = some u) (q3 : w.frozen? ⟨g, kk, none⟩ = false) :
    (storeCells ⟨g, kk, none⟩ [ev e]).run Tryz.prog w = .ok () (w.setCell ⟨g, kk, none⟩ (ev e)) := by
  have hst := run_storeCells_cells (P := Tryz.prog) g kk [ev e] 0 w
    (fun j hj => by
      have h0 : j = 0 := by simpa using hj
      subst h0
      simp [q2])
    (fun j hj => by
      have h0 : j = 0 := by simpa using hj
      subst h0
      simpa using q3) (fun u hu => by rw [List.mem_singleton] at hu; subst hu; rfl)
  simp only [Nat.add_zero] at hst
  exact hst
theorem iEqE (w : World) {B : Nat} {es : List Ent} (h : EachS B w es) (hs : SmallS es) {e f : Ent} (he : e ∈ es) (hf : f ∈ es) :
    Calls Tryz.prog 148 #[ev e, ev f] w fun x w' => x = .returned (.bool (decide (kE e = kE f))) ∧ Below w.heap.size w w' :=
  iEqual_any w.heap.size e.2.2.length f.2.2.length e.2.1 f.2.1 (some ⟨e.1, 0, none⟩) (some ⟨f.1, 0, none⟩) e.2.2 f.2.2 w (hs e he).1 (hs f hf).1 (h.cells hs he) (h.cells hs hf) (Nat.le_refl _)

set_option maxHeartbeats 1500000 in
set_option maxRecDepth 100000 in
theorem iCompactS (B n g cap : Nat) (es : List Ent) (w : World) (hn : n ≤ 4194304) (hB : B ≤ w.heap.size) (hl : es.length = n) (hown : OwnS B w (.slice (some ⟨g, 0, none⟩) n cap) es) (hsm : SmallS es) :
    Calls Tryz.prog 147 #[.slice (some ⟨g, 0, none⟩) n cap, .func (.func 148) #[] #[]] w fun e w' => ∃ k, e = .returned (.slice (some ⟨g, 0, none⟩) k cap) ∧ k = (dedE es).length ∧ OwnS B w' (.slice (some ⟨g, 0, none⟩) k cap) (dedE es) ∧ Below B w w' := by
  have eg : ∀ args w, (callFunc 148 args).run Tryz.prog w = .ok (.enter 148 args) w := enters_of Tryz.func148 (by kernel_rfl) rfl
  have hgB := hown.row.lt g rfl
  have hrow : w.ownsRow B 95 1 (.slice (some ⟨g, 0, none⟩) n cap) n (es.map ev) := by have := hown.row; rwa [hl] at this
  have hcapn := row1_le hrow
  have hoff : OffS g es := fun e he h2 => hown.off e he (by rw [h2]; rfl)
  have HL := Lib.hid hl
  have HSM := Lib.hid hsm
  have HOFF := Lib.hid hoff
  have HAP := Lib.hid hown.apart
  have HO := Lib.hid hown
  have HR := Lib.hid hrow
  clear hown hl hsm hoff hrow
  by_cases h2 : n < 2
  · have hd : dedE es = es := by
      unfold dedE
      rw [dedK_upto (Nat.le_refl _) (fun j h3 h4 => by have := HL.out; omega) es.length (Nat.le_refl _), List.take_length]
    have HD := Lib.hid hd
    have h2i : (n : Int) < 2 := by omega
    clear hd
    go_enter Tryz.func147, Tryz.ntmps147
    go_wp2
    go_ret
    rw [HD.out]
    exact ⟨n, rfl, HL.out.symm, HO.out, Below.refl _ _⟩
  · have h2i : ¬ (n : Int) < 2 := by omega
    go_enter Tryz.func147, Tryz.ntmps147
    go_wp2
    go_loopw [5] (fun i wr => ∃ k : Nat, 1 ≤ k ∧ k ≤ n ∧ i = .int .i64 k ∧ Hid (∀ j, 0 < j → j < k → kE (es.getD j dE) ≠ kE (es.getD (j - 1) dE)) ∧ Below w.heap.size w wr) (fun i _ => n - (intOf i).toNat)
    case atStart => exact ⟨1, by omega, by omega, rfl, fun j h3 h4 => by omega, Below.refl _ _⟩
    case round =>
      obtain ⟨k, hk1, hk, rfl, hall, hb⟩ := hrel
      have hsz := hb.size
      have HEA := Lib.hid (HO.out.each.on hb)
      have HRW := Lib.hid (HR.out.kept (grow_below hb none) (.inr (by intro e; cases e)))
      by_cases hlt : k < n
      · have hm1 : es.getD k dE ∈ es := ent_mem (by rw [HL.out]; exact hlt)
        have hm2 : es.getD (k - 1) dE ∈ es := ent_mem (by rw [HL.out]; omega)
        have p1 := HRW.out.cellAt k (by omega)
        have p2 := HRW.out.cellAt (k - 1) (by omega)
        rw [evs_get (by rw [HL.out]; exact hlt)] at p1
        rw [evs_get (by rw [HL.out]; omega)] at p2
        generalize hX : es.getD k dE = X at hm1 p1
        generalize hY : es.getD (k - 1) dE = Y at hm2 p2
        have HX := Lib.hid hX
        have HY := Lib.hid hY
        have HEQ := Lib.hid (fun w' (h9 : Below wr.heap.size wr w') => iEqE w' (HEA.out.on h9) HSM.out hm1 hm2)
        have hb9 := Below.refl wr.heap.size wr
        have hk0 : (0 : Int) ≤ (k : Int) := by omega
        have hk1i : (k : Int) < (n : Int) := by omega
        have hj0 : (1 : Int) ≤ (k : Int) := by omega
        have hj2 : (k : Int) - 1 < (n : Int) := by omega
        have hj3 : (0 : Int) ≤ (k : Int) - 1 := by omega
        have hj4 : ((k : Int) - 1).toNat = k - 1 := by omega
        have hjw : IntKind.i64.wrap ((k : Int) - 1) = (k : Int) - 1 := IntWalk.i64_in _ (by omega)
        have hkc : (k : Int) ≤ (cap : Int) := by omega
        have hck : ¬ cap = k := by omega
        clear hX hY hm1 hm2
        have hgW : g < wr.heap.size := by omega
        cases hcs : decide (kE X = kE Y) with
        | true =>
          have HCS := Lib.hid hcs
          rw [hcs] at HEQ
          clear hcs
          go_wp2_with fail
          go_region_held3 (fun w' => w'.cell? ⟨g, k, none⟩ = some (ev X) ∧ w'.cell? ⟨g, k - 1, none⟩ = some (ev Y))
            (first | go_keep | exact ⟨(hbw.cell (p := ⟨g, k, none⟩) hgW).trans p1, (hbw.cell (p := ⟨g, k - 1, none⟩) hgW).trans p2⟩)
            (first | (go_at_fn 148; refine (HEQ.out _ (by first | exact hb9 | exact hb9.drew)).mono ?_; rintro e w1 ⟨rfl, hbe⟩; have hbw : Below wr.heap.size wr w1 := by first | exact hb9.trans hbe | exact hb9.drew.trans hbe))
          all_goals
            have hdup : kE (es.getD k dE) = kE (es.getD (k - 1) dE) := by rw [HX.out, HY.out]; exact of_decide_eq_true HCS.out
            have hstart : CptK kE dE es es (k + 1) k := by
              have e1 : dedK kE dE es (k + 1) = es.take k := by
                rw [dedK_skip ⟨by omega, hdup⟩]
                exact dedK_upto (by rw [HL.out]; omega) hall.out k (Nat.le_refl _)
              exact ⟨rfl, e1.symm, by rw [e1, List.length_take, HL.out]; omega, by omega, fun j _ => rfl⟩
            have HST := Lib.hid hstart
            have HB1 := Lib.hid (hb.trans (hbw.mono hsz))
            have HR1 := Lib.hid (HRW.out.kept (grow_below hbw none) (.inr (by intro e; cases e)))
            have HE1 := Lib.hid (HEA.out.on hbw)
            clear hdup hstart p1 p2 hall hj0 hj2 hj3 hj4 hjw HX HY HEQ HCS hb9 hbw hbe hgW HRW HEA hb hsz
            (try simp only [Exit.then])
            go_wp2
            go_loopw [5, 7] (fun s3 s5 wr => ∃ (kk k2 : Nat) (L : List Ent), s3 = .int .i64 kk ∧ s5 = .int .i64 k2 ∧ 1 ≤ k2 ∧ k + k2 ≤ n ∧ Hid (CptK kE dE es L (k + k2) kk) ∧ Hid (wr.ownsRow B 95 1 (.slice (some ⟨g, 0, none⟩) n cap) n (L.map ev)) ∧ Hid (EachS B wr es) ∧ B ≤ wr.heap.size ∧ Below B w wr) (fun _ s5 _ => n - (k + (intOf s5).toNat))
            case atStart => exact ⟨k, 1, es, rfl, rfl, by omega, by omega, HST.out, HR1.out, HE1.out, Nat.le_trans hB HB1.out.size, HB1.out.mono hB⟩
            case round =>
              obtain ⟨kk, k2, L, rfl, rfl, h1, hle, hcp, hrow, hea, hBz, hb⟩ := hrel
              have hkk := hcp.out.lt
              have hLl : L.length = n := by rw [hcp.out.len]; exact HL.out
              have hgW : g < wr.heap.size := (hrow.out.lt g rfl).2
              by_cases hlt2 : k + k2 < n
              · have r1 := hcp.out.rest (k + k2) (by omega)
                have r2 := hcp.out.rest (k + (k2 - 1)) (by omega)
                have hm1 : es.getD (k + k2) dE ∈ es := ent_mem (by rw [HL.out]; exact hlt2)
                have hm2 : es.getD (k + (k2 - 1)) dE ∈ es := ent_mem (by rw [HL.out]; omega)
                have p1 := hrow.out.cellAt (k + k2) (by omega)
                have p2 := hrow.out.cellAt (k + (k2 - 1)) (by omega)
                have o1 := hrow.out.cellAt kk (by omega)
                rw [evs_get (by omega), r1] at p1
                rw [evs_get (by omega), r2] at p2
                rw [evs_get (by omega)] at o1
                have hpe : k + (k2 - 1) = k + k2 - 1 := by omega
                have HPE := Lib.hid hpe
                generalize hX : es.getD (k + k2) dE = X at hm1 p1
                generalize hY : es.getD (k + (k2 - 1)) dE = Y at hm2 p2
                generalize hZ : L.getD kk dE = Z at o1
                obtain ⟨bx, cx, lx⟩ := X
                change _ = some (Value.slice (some ⟨bx, 0, none⟩) lx.length cx) at p1
                have HX := Lib.hid hX
                have HY := Lib.hid hY
                have HEQ := Lib.hid (fun w' (h9 : Below wr.heap.size wr w') => show Calls Tryz.prog 148 #[.slice (some ⟨bx, 0, none⟩) lx.length cx, ev Y] w' (fun x w2 => x = .returned (.bool (decide (kE (bx, cx, lx) = kE Y))) ∧ Below w'.heap.size w' w2) from iEqE w' (hea.out.on h9) HSM.out hm1 hm2)
                have hb9 := Below.refl wr.heap.size wr
                have hj0 : (1 : Int) ≤ (k2 : Int) := by omega
                have hj1 : (k2 : Int) < ((n - k : Nat) : Int) := by omega
                have hj2 : (k2 : Int) - 1 < ((n - k : Nat) : Int) := by omega
                have hj3 : (0 : Int) ≤ (k2 : Int) - 1 := by omega
                have hj4 : ((k2 : Int) - 1).toNat = k2 - 1 := by omega
                have hj5 : (0 : Int) ≤ (k2 : Int) := by omega
                have hjw : IntKind.i64.wrap ((k2 : Int) - 1) = (k2 : Int) - 1 := IntWalk.i64_in _ (by omega)
                have hk20 : (0 : Int) ≤ (kk : Int) := by omega
                have hk2n : (kk : Int) < (n : Int) := by omega
                have f1 := hrow.out.frozenAt kk
                clear hX hY hZ hm1 hm2 r1 r2 hpe
                cases hcs2 : decide (kE (bx, cx, lx) = kE Y) with
                | true =>
                  have HCS := Lib.hid hcs2
                  rw [hcs2] at HEQ
                  clear hcs2
                  go_wp2_with fail
                  go_region_held3 (fun w' => w'.cell? ⟨g, k + k2, none⟩ = some (.slice (some ⟨bx, 0, none⟩) lx.length cx) ∧ w'.cell? ⟨g, k + (k2 - 1), none⟩ = some (ev Y))
                    (first | go_keep | exact ⟨(hbw.cell (p := ⟨g, k + k2, none⟩) hgW).trans p1, (hbw.cell (p := ⟨g, k + (k2 - 1), none⟩) hgW).trans p2⟩)
                    (first | (go_at_fn 148; refine (HEQ.out _ (by first | exact hb9 | exact hb9.drew)).mono ?_; rintro e w1 ⟨rfl, hbe⟩; have hbw : Below wr.heap.size wr w1 := by first | exact hb9.trans hbe | exact hb9.drew.trans hbe))
                  all_goals
                    have he : 0 < k + k2 ∧ kE (es.getD (k + k2) dE) = kE (es.getD (k + k2 - 1) dE) := ⟨by omega, by rw [← HPE.out, HX.out, HY.out]; exact of_decide_eq_true HCS.out⟩
                    have HK := Lib.hid (hcp.out.skip he)
                    have HBN := Lib.hid (hb.trans (hbw.mono hBz))
                    have HRN := Lib.hid (hrow.out.kept (grow_below hbw none) (.inr (by intro e; cases e)))
                    have HEN := Lib.hid (hea.out.on hbw)
                    have hBz2 : B ≤ w1.heap.size := Nat.le_trans hBz hbw.size
                    clear he p1 p2 o1 f1 HEQ hb9 hbw hbe hj0 hj1 hj2 hj3 hj4 hj5 hjw hk20 hk2n hrow hea hcp hb HX HY HCS HPE
                    (try simp only [Exit.then])
                    go_wp2
                    go_roundw
                    case rel => first | exact ⟨kk, k2 + 1, L, rfl, by go_num, by omega, by omega, HK.out, HRN.out, HEN.out, hBz2, HBN.out⟩ | ((repeat apply Exists.intro); exact ⟨⟨kk, k2 + 1, L, rfl, by go_num, by omega, by omega, HK.out, HRN.out, HEN.out, hBz2, HBN.out⟩, rfl⟩)
                    case measure => simp [intOf]; omega
                | false =>
                  have HCS := Lib.hid hcs2
                  rw [hcs2] at HEQ
                  clear hcs2
                  go_wp2_with fail
                  go_region_held3 (fun w' => w'.cell? ⟨g, k + k2, none⟩ = some (.slice (some ⟨bx, 0, none⟩) lx.length cx) ∧ w'.cell? ⟨g, k + (k2 - 1), none⟩ = some (ev Y))
                    (first | go_keep | exact ⟨(hbw.cell (p := ⟨g, k + k2, none⟩) hgW).trans p1, (hbw.cell (p := ⟨g, k + (k2 - 1), none⟩) hgW).trans p2⟩)
                    (first | (go_at_fn 148; refine (HEQ.out _ (by first | exact hb9 | exact hb9.drew)).mono ?_; rintro e w1 ⟨rfl, hbe⟩; have hbw : Below wr.heap.size wr w1 := by first | exact hb9.trans hbe | exact hb9.drew.trans hbe))
                  all_goals
                    have hne : ¬ (0 < k + k2 ∧ kE (es.getD (k + k2) dE) = kE (es.getD (k + k2 - 1) dE)) := by
                      rintro ⟨_, h9⟩
                      rw [← HPE.out, HX.out, HY.out] at h9
                      exact of_decide_eq_false HCS.out h9
                    have hkeep := hcp.out.keep (by rw [HL.out]; exact hlt2) hne
                    rw [HX.out] at hkeep
                    have HK := Lib.hid hkeep
                    have hrn := hrow.out.kept (grow_below hbw none) (.inr (by intro e; cases e))
                    have hs1 := hrn.stored kk (ev (bx, cx, lx))
                    have hO := hs1.1
                    rw [ev_map_set] at hO
                    have HOO := Lib.hid hO
                    have HEN := Lib.hid ((hea.out.on hbw).by hs1.2 HOFF.out)
                    have HBN := Lib.hid ((hb.trans (hbw.mono hBz)).setCell (p := ⟨g, kk, none⟩) hgB.1 (ev (bx, cx, lx)))
                    have hBz2 : B ≤ (w1.setCell ⟨g, kk, none⟩ (ev (bx, cx, lx))).heap.size := Nat.le_trans (Nat.le_trans hBz hbw.size) (by simp [World.setCell])
                    have q1 := (hbw.cell (p := ⟨g, k + k2, none⟩) hgW).trans p1
                    have q2 := (hbw.cell (p := ⟨g, kk, none⟩) hgW).trans o1
                    have q3 := hrn.frozenAt kk
                    clear hne hkeep hrn hs1 hO p1 p2 o1 f1 HEQ hb9 hbw hbe hrow hea hcp hb HX HY HCS HPE
                    (try simp only [Exit.then])
                    go_wp2
                    go_roundw
                    case rel => first | exact ⟨kk + 1, k2 + 1, _, by go_num, by go_num, by omega, by omega, HK.out, HOO.out, HEN.out, hBz2, HBN.out⟩ | ((repeat apply Exists.intro); exact ⟨⟨kk + 1, k2 + 1, _, by go_num, by go_num, by omega, by omega, HK.out, HOO.out, HEN.out, hBz2, HBN.out⟩, rfl⟩)
                    case measure => simp [intOf]; omega
              · have hend : k + k2 = n := by omega
                have hcl : ∀ ty, (Builtin.clear_ #[27] ty #[.slice (some ⟨g, kk, none⟩) (n - kk) (cap - kk)]).run Tryz.prog wr = .ok (.tuple #[]) (wr.setCells g kk (List.replicate (n - kk) (.slice none 0 0))) := fun ty => run_clear_shps ty hrow.out (by omega)
                have hck : ¬ cap = kk := by omega
                have hkn : (kk : Int) ≤ (n : Int) := by omega
                have hkc2 : (kk : Int) ≤ (cap : Int) := by omega
                have hkk0 : (0 : Int) ≤ (kk : Int) := by omega
                have hd : dedE es = L.take kk := by
                  rw [hcp.out.kept, hend, ← HL.out]
                  rfl
                have hks : kk = (dedE es).length := by
                  rw [hd, List.length_take]
                  omega
                have hsub : (dedE es).Sublist es := by
                  have := dedK_sub (key := kE) (d := dE) es es.length (Nat.le_refl _)
                  rwa [List.take_length] at this
                have hO := row1_fars (List.replicate (n - kk) (Value.slice none 0 0)) kk wr (row1_take hrow.out (k := kk) (by omega)) (Nat.le_refl _)
                rw [← List.map_take, ← hd] at hO
                have hfin : OwnS B (wr.setCells g kk (List.replicate (n - kk) (.slice none 0 0))) (.slice (some ⟨g, 0, none⟩) kk cap) (dedE es) :=
                  ⟨by rw [← hks]; exact hO, (hea.out.by (grown_sets1 _ _ _) HOFF.out).sub (fun e he => hsub.subset he), HAP.out.sublist hsub, fun e he h9 => by injection h9 with h9; exact HOFF.out e (hsub.subset he) h9.symm⟩
                have HOO := Lib.hid hfin
                have HKS := Lib.hid hks
                have HBB := Lib.hid (below_sets1 hgB.1 (List.replicate (n - kk) (Value.slice none 0 0)) kk wr hb)
                clear hO hks hd hend hsub hfin hrow hea hcp
                go_wp2
                go_ret
                exact ⟨kk, rfl, HKS.out, HOO.out, HBB.out⟩
        | false =>
          have HCS := Lib.hid hcs
          rw [hcs] at HEQ
          clear hcs
          go_wp2_with fail
          go_region_held3 (fun w' => w'.cell? ⟨g, k, none⟩ = some (ev X) ∧ w'.cell? ⟨g, k - 1, none⟩ = some (ev Y))
            (first | go_keep | exact ⟨(hbw.cell (p := ⟨g, k, none⟩) hgW).trans p1, (hbw.cell (p := ⟨g, k - 1, none⟩) hgW).trans p2⟩)
            (first | (go_at_fn 148; refine (HEQ.out _ (by first | exact hb9 | exact hb9.drew)).mono ?_; rintro e w1 ⟨rfl, hbe⟩; have hbw : Below wr.heap.size wr w1 := by first | exact hb9.trans hbe | exact hb9.drew.trans hbe))
          all_goals
            have hnd : kE (es.getD k dE) ≠ kE (es.getD (k - 1) dE) := by rw [HX.out, HY.out]; exact of_decide_eq_false HCS.out
            have HND := Lib.hid (show ∀ j, 0 < j → j < k + 1 → kE (es.getD j dE) ≠ kE (es.getD (j - 1) dE) from fun j h3 h4 => by
              by_cases e : j = k
              · rw [e]; exact hnd
              · exact hall.out j h3 (by omega))
            have HB1 := Lib.hid (hb.trans (hbw.mono hsz))
            clear hnd p1 p2 hall hj0 hj2 hj3 hj4 hjw HX HY HEQ HCS hb9 hbw hbe hgW HRW HEA hb hsz
            (try simp only [Exit.then])
            go_wp2
            go_roundw
            case rel => first | exact ⟨k + 1, by omega, by omega, by go_num, HND.out, HB1.out⟩ | ((repeat apply Exists.intro); exact ⟨⟨k + 1, by omega, by omega, by go_num, HND.out, HB1.out⟩, rfl⟩)
            case measure => simp [intOf]; omega
      · obtain rfl : k = n := by omega
        have hd : dedE es = es := by
          unfold dedE
          rw [dedK_upto (Nat.le_refl _) (fun j h3 h4 => hall.out j h3 (by rw [← HL.out]; exact h4)) es.length (Nat.le_refl _), List.take_length]
        have HD := Lib.hid hd
        have HOW := Lib.hid (HO.out.on hb)
        clear hd
        go_wp2
        go_ret
        rw [HD.out]
        exact ⟨k, rfl, HL.out.symm, HOW.out, hb.mono hB⟩
end

end Go.Proofs.YtkjlmgkjcmebbaaGreatDoor
