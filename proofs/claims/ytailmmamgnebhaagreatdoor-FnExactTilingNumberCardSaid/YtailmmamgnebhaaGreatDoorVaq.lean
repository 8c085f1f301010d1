/-
  How many ways there are, counted by the program: what the call gives.
  The way with a number, as the program reaches it: what the call gives.
-/
import Derived.Test.YtailmmamgnebhaaGreatDoorVap
import Derived.Test.YtailmmamgnebhaaGreatDoorVah
import Derived.WalkMore
import Derived.ScopeJumps
namespace Go.Proofs.YtailmmamgnebhaaGreatDoor

section
open Go.RowKit Go.Maps Go.ChangeMaps Go.MapKept

/-- What the program counts: no further than its limit. -/
def cutC (Q : List Nat) (L f : Nat) : Nat := min (cntR Q f) L
theorem cutC_zero (Q : List Nat) {L : Nat} (h : 1 ≤ L) : cutC Q L 0 = 1 := by unfold cutC; rw [cntR_zero]; omega
theorem cutC_le (Q : List Nat) (L f : Nat) : cutC Q L f ≤ L := Nat.min_le_right _ _
theorem own_sliceI {w : World} {base n : Nat} {v : Value} {xs : List Value} (h : w.ownsRow base 3 1 v n xs) : ∃ a cap, v = .slice a n cap := by
  rcases h.2 with ⟨rfl, h0⟩ | ⟨g, cap, cur, rfl, _⟩
  · subst h0; exact ⟨none, 0, rfl⟩
  · exact ⟨_, cap, rfl⟩
theorem ints_bd {Q : List Nat} (h : ∀ m ∈ Q, m < 68719476736) : ∀ z ∈ ints Q, In64 z := by
  intro z hz
  unfold ints at hz
  obtain ⟨m, hm, rfl⟩ := List.mem_map.1 hz
  have := h m hm
  unfold In64
  omega


set_option maxHeartbeats 8000000 in
set_option maxRecDepth 100000 in
theorem iCount (B g mb : Nat) (rows : Nat → Value) (d : Nat → Bool) (L : Nat) (Q : List Nat) (hL : 1 ≤ L) (hL2 : L ≤ 100000) (hQ : ∀ m ∈ Q, m ≠ 0 ∧ m < 68719476736) (hQl : Q.length ≤ 100000) (hd : SumTo Q d 65) :
    ∀ (F f : Nat), f ≤ F → f < 68719476736 → ∀ w, FilOk B w g mb rows d L Q → CntM w mb (cutC Q L) →
    Calls Tryz.prog 95 #[.pointer (some ⟨g, 0, none⟩), .int .i64 f] w fun e w' => e = .returned (.int .i64 (cutC Q L f : Nat)) ∧ CntM w' mb (cutC Q L) ∧ But w.heap.size mb w w' := by
  intro F
  induction F with
  | zero =>
    intro f hf0 hf w hF hM
    obtain rfl : f = 0 := by omega
    have HC := Lib.hid (cutC_zero Q hL)
    rw [HC.out]
    go_enter Tryz.func95, Tryz.ntmps95
    go_wp2
    go_ret
    exact ⟨rfl, hM, But.refl _ _ _⟩
  | succ F ih =>
    intro f hfF hf w hF hM
    by_cases h0 : f = 0
    · subst h0
      have HC := Lib.hid (cutC_zero Q hL)
      rw [HC.out]
      go_enter Tryz.func95, Tryz.ntmps95
      go_wp2
      go_ret
      exact ⟨rfl, hM, But.refl _ _ _⟩
    have hfz : ((f : Int) == 0) = false := by simp; omega
    have HIH := Lib.hid ih
    have HQ := Lib.hid hQ
    have HF := Lib.hid hF
    have HM := Lib.hid hM
    have HTG := Lib.hid (tilR_grp (fun m hm => (hQ m hm).1) h0 (show f < 2 ^ 64 by omega))
    clear ih
    have hp64 := pop_le f
    have HP := Lib.hid (fun W => iOnes f (by omega) W)
    have HSN := Lib.hid (fun h => sum_no hd (f := f) h)
    have c0 := hF.fil.sum (k := pop f) (by omega)
    obtain ⟨s, hs⟩ : ∃ s, pop f = s := ⟨_, rfl⟩
    rw [hs] at hp64 HP HSN c0
    have hs0 : (0 : Int) ≤ (s : Int) := by omega
    have hs1 : (s : Int) < 65 := by omega
    have hwf : IntKind.u64.wrap (f : Int) = (f : Int) := by rw [IntKind.wrap_u64]; omega
    have r0 := cell_regrown c0
    have kI : ∀ d os, Calls Tryz.prog 139 #[.int .u64 f] (Go.Sort.grow (redrawn w d) os) fun e w9 => e = .returned (.int .i64 s) ∧ Below (Go.Sort.grow (redrawn w d) os).heap.size (Go.Sort.grow (redrawn w d) os) w9 := fun d os =>
      (HP.out _).mono fun e w9 ⟨he, hw⟩ => ⟨he, by rw [hw]; exact Below.refl _ _⟩
    clear hs
    cases hds : d s with
    | false =>
      rw [hds] at r0
      have HZ := Lib.hid (show cutC Q L f = 0 from by unfold cutC; rw [HSN.out hds]; omega)
      rw [HZ.out]
      clear HSN hds
      go_enter Tryz.func95, Tryz.ntmps95
      go_wp2_with fail
      refine wp_region_quiet_below (by kernel_rfl) (by kernel_rfl) ?_
      repeat (first | (go_big_quiet_step (first | (go_at_call 139; with_reducible refine Calls.regrown_of (kI _ _)))) | (quiet_step (first | (go_at_call 139; with_reducible refine Calls.regrown_of (kI _ _)))))
      refine wpQuiet_nil ?_
      intro _ hw9
      obtain ⟨⟨nq, osq⟩, hw8⟩ := hw9
      subst hw8
      have hbz := below_regrown w nq osq
      generalize (Go.Sort.grow (redrawn w nq) osq) = w3 at *
      clear r0 kI c0
      go_wp2
      go_ret
      exact ⟨rfl, HM.out.on hbz, But.of_below hbz⟩
    | true =>
      rw [hds] at r0
      clear HSN hds
      go_enter Tryz.func95, Tryz.ntmps95
      go_wp2_with fail
      refine wp_region_quiet_below (by kernel_rfl) (by kernel_rfl) ?_
      repeat (first | (go_big_quiet_step (first | (go_at_call 139; with_reducible refine Calls.regrown_of (kI _ _)))) | (quiet_step (first | (go_at_call 139; with_reducible refine Calls.regrown_of (kI _ _)))))
      refine wpQuiet_nil ?_
      intro _ hw9
      obtain ⟨⟨nq, osq⟩, hw8⟩ := hw9
      subst hw8
      have hbz := below_regrown w nq osq
      generalize (Go.Sort.grow (redrawn w nq) osq) = w3 at *
      clear r0 kI c0
      have HB3 := Lib.hid (But.of_below (b := mb) hbz)
      have HF3 := Lib.hid (HF.out.on hbz)
      have HM3 := Lib.hid (HM.out.on hbz)
      have c3 := HF3.out.fil.map
      have hsz3 := hbz.size
      clear HM hbz
      rcases HM3.out.look hf with hlk | ⟨c, hlk⟩
      · go_wp2
        go_ret
        exact ⟨rfl, HM3.out, HB3.out⟩
      · go_wp2_with fail
        refine (iCands B g mb f rows d L Q w3 h0 hf HF3.out).mono ?_
        rintro e w4 ⟨rfl, hb4⟩
        have HB4 := Lib.hid (HB3.out.trans ((But.of_below (b := mb) hb4).mono hsz3))
        have HF4 := Lib.hid (HF3.out.on hb4)
        have HM4 := Lib.hid (HM3.out.on hb4)
        have hlow := lowB_lt h0 (show f < 2 ^ 64 by omega)
        obtain ⟨low, hlw⟩ : ∃ low, lowB f = low := ⟨_, rfl⟩
        rw [hlw] at hlow HTG ⊢
        have HLW := Lib.hid hlw
        obtain ⟨C, hC⟩ : ∃ C, grpB Q low = C := ⟨_, rfl⟩
        have HCQ := Lib.hid (show ∀ m ∈ C, m ∈ Q ∧ m ≠ 0 ∧ m < 68719476736 from by rw [← hC]; intro m hm; have h9 := (List.mem_filter.1 hm).1; exact ⟨h9, HQ.out m h9⟩)
        have hCl : C.length ≤ 100000 := by rw [← hC]; exact Nat.le_trans (grpB_len Q low) hQl
        have HOW := Lib.hid (fun W (h9 : FilOk B W g mb rows d L Q) => (show W.ownsRow B 3 1 (rows low) C.length (iv (ints C)) from by rw [← hC]; exact h9.grp.each low hlow))
        rw [hC] at HTG
        obtain ⟨n, hn⟩ : ∃ n, C.length = n := ⟨_, rfl⟩
        rw [hn] at hCl HTG HOW
        obtain ⟨a, cap, hv⟩ := own_sliceI (HOW.out w4 HF4.out)
        rw [hv] at HOW ⊢
        have HIN := Lib.hid (ints_bd fun m hm => (HCQ.out m hm).2.2)
        have hsz4 := HB4.out.size
        have HCE := Lib.hid hC
        have HFw := HF
        clear HB3 HF3 HM3 hb4 c3 hlk hlw hC hv
        go_wp2
        go_loopw [7, 36] (fun sv ix wr => ∃ i t : Nat, i ≤ n ∧ ix = .int .i64 (i : Int) ∧ sv = .int .i64 (t : Int) ∧ t ≤ 2 * L ∧ Hid (min t L = min (cntTo Q C (subB f) f i) L) ∧ Hid (CntM wr mb (cutC Q L)) ∧ But w.heap.size mb w wr) (fun _ ix _ => n - (intOf ix).toNat)
        case atStart => exact ⟨0, 0, by omega, rfl, rfl, by omega, rfl, HM4.out, HB4.out⟩
        case round =>
          clear HM4 HB4 HF4
          obtain ⟨i, t, hi, rfl, rfl, ht2, hrl, hcm, hbt⟩ := hrel
          have HFr := Lib.hid (FilOk.but HFw.out hbt)
          have c2 := HFr.out.fil.limit
          have c3 := HFr.out.fil.map
          by_cases hlt : i < n
          · have hi1 : (i : Int) < (n : Int) := by omega
            have hi0 : (0 : Int) ≤ (i : Int) := by omega
            obtain ⟨b9, o9, rfl, hb9, hc9⟩ := (IntsAt.of_own (HOW.out wr HFr.out) HIN.out).2.2 (by omega)
            have p1 := hc9 i hlt
            rw [ints_get] at p1
            have hm := HCQ.out (C.getD i 0) (getD_memN (by omega))
            have HCY := Lib.hid (cntTo_yes Q (C := C) (p := subB f) f (i := i) (by omega))
            have HCN := Lib.hid (cntTo_no Q (C := C) (p := subB f) f (i := i) (by omega))
            have HGF := Lib.hid (fun h => grp_fit (fun m hm => (HQ.out m hm).1) (f := f) (m := C.getD i 0) (by omega) (by rw [HLW.out, HCE.out]; exact getD_memN (by omega)) h)
            obtain ⟨m, hmm⟩ : ∃ m, C.getD i 0 = m := ⟨_, rfl⟩
            rw [hmm] at p1 hm HCY HCN HGF
            clear hc9 hmm
            by_cases htl : t < L
            · have htl1 : (t : Int) < (L : Int) := by omega
              cases hsb : subB f m with
              | true =>
                obtain ⟨k1, k2⟩ := andnot_sub hsb (show m < 9223372036854775808 by omega) (show f < 9223372036854775808 by omega)
                have hfs := fit_sub (HGF.out hsb)
                have HCS := Lib.hid (HCY.out hsb)
                have HR := Lib.hid (HIH.out (f - m) (by omega) (by omega) wr HFr.out hcm.out)
                have hcl := cutC_le Q L (f - m)
                have HCD := Lib.hid (show cutC Q L (f - m) = min (cntR Q (f - m)) L from rfl)
                obtain ⟨c, hcc⟩ : ∃ c, cutC Q L (f - m) = c := ⟨_, rfl⟩
                rw [hcc] at HR hcl HCD
                obtain ⟨fm, hfm⟩ : ∃ fm, f - m = fm := ⟨_, rfl⟩
                rw [hfm] at HR HCD HCS k2
                clear HCY HCN HGF hsb hcc hfm
                go_wp2_with fail
                refine HR.out.mono ?_
                rintro e w5 ⟨rfl, hcm5, hb5⟩
                have HB5 := Lib.hid (hbt.trans (hb5.mono hbt.size))
                have HM5 := Lib.hid hcm5
                have HL5 := Lib.hid (show min (t + c) L = min (cntTo Q C (subB f) f (i + 1)) L from by
                  have h1 := hrl.out
                  have h2 := HCS.out
                  have h3 := HCD.out
                  unfold Hid at *
                  rw [h2]
                  omega)
                clear hcm5 hb5 hrl HCS HCD HR hcm hbt c2 c3
                go_wp2
                go_roundw
                case rel => first
                  | exact ⟨i + 1, t + c, by omega, by go_num, by go_num, by omega, HL5.out, HM5.out, HB5.out⟩
                  | (repeat apply Exists.intro
                     exact ⟨⟨i + 1, t + c, by omega, by go_num, by go_num, by omega, HL5.out, HM5.out, HB5.out⟩, rfl⟩)
                case measure => simp [intOf]; omega
              | false =>
                have k1 := andnot_no hsb (show m < 9223372036854775808 by omega) (show f < 9223372036854775808 by omega)
                have k3 : (bits .andNot .i64 (m : Int) (f : Int) == 0) = false := by simpa using k1
                have HL5 := Lib.hid (show min t L = min (cntTo Q C (subB f) f (i + 1)) L from by rw [HCN.out hsb]; exact hrl.out)
                clear HCY HCN HGF hsb k1 hrl
                go_wp2
                go_roundw
                case rel => first
                  | exact ⟨i + 1, t, by omega, by go_num, rfl, ht2, HL5.out, hcm, hbt⟩
                  | (repeat apply Exists.intro
                     exact ⟨⟨i + 1, t, by omega, by go_num, rfl, ht2, HL5.out, hcm, hbt⟩, rfl⟩)
                case measure => simp [intOf]; omega
            · have htl1 : ¬ (t : Int) < (L : Int) := by omega
              have HL5 := Lib.hid (show min t L = min (cntTo Q C (subB f) f (i + 1)) L from by
                have h1 := hrl.out
                cases hsb : subB f m with
                | true => rw [HCY.out hsb]; omega
                | false => rw [HCN.out hsb]; exact h1)
              clear HCY HCN HGF hrl
              go_wp2
              go_roundw
              case rel => first
                | exact ⟨i + 1, t, by omega, by go_num, rfl, ht2, HL5.out, hcm, hbt⟩
                | (repeat apply Exists.intro
                   exact ⟨⟨i + 1, t, by omega, by go_num, rfl, ht2, HL5.out, hcm, hbt⟩, rfl⟩)
              case measure => simp [intOf]; omega
          · obtain rfl : i = n := by omega
            have HVF := Lib.hid (show min t L = cutC Q L f from by
              have h1 := hrl.out
              rw [h1]
              unfold cutC cntR cntTo
              rw [HTG.out])
            have hv63 : cutC Q L f < 9223372036854775808 := by have := cutC_le Q L f; omega
            obtain ⟨w7, hrun, hM7, hg7, hlk7⟩ := CntM.store (w := wr.drew) hcm.out hf hv63
            have HB7 := Lib.hid (hbt.drew.trans ((But.of_grown hg7 (Nat.le_refl _)).mono (by show _ ≤ wr.drew.heap.size; exact hbt.size)))
            have HF7 := Lib.hid (FilOk.but HFw.out HB7.out)
            have HM7 := Lib.hid hM7
            have c7 := HF7.out.fil.map
            obtain ⟨c, hcc⟩ : ∃ c, cutC Q L f = c := ⟨_, rfl⟩
            have HCF := Lib.hid hcc
            rw [hcc] at HVF hrun hlk7
            have hmn := HVF.out
            have hif : (if L < t then (L : Int) else (t : Int)) = (c : Int) := by split <;> omega
            clear hrl hv63 hM7 hcc HTG HIH hg7
            go_wp2_with fail
            go_region
            go_wp2
            go_ret
            exact ⟨by rw [HCF.out]; rfl, HM7.out, HB7.out⟩
end

section
open Go.RowKit Go.Maps Go.ChangeMaps Go.MapKept

theorem scope_jumps {P : Program} {a : Act} {w : World} {Q : Exit → Act → World → Prop} {c rest : Code} (l : Nat) (J : Act → World → Prop) (μ : Act → World → Nat) (hf : findLabel c l = some (.seq .skip rest))
    (pass : ∀ a w, J a w → rest.wp P (Exit.jump l (fun a' w' => J a' w' ∧ μ a' w' < μ a w) Q) a w)
    (first : (∀ a w, J a w → rest.wp P (Exit.jump l J Q) a w) → c.wp P (Exit.jump l J Q) a w) : (Code.scope c).wp P Q a w :=
  wp_scope_jumps l J μ hf (first fun a w h => wp_mono (pass a w h) fun e a' w' hq => by
    cases e with
    | goto l' => exact ⟨hq.1, hq.2.1⟩
    | normal => exact hq
    | exit id => exact hq
    | ret => exact hq
    | panic ch => exact hq
    | outgrown => exact hq) fun a w h => wp_seq (wp_skip (pass a w h))
theorem But.grow {B b : Nat} {x w w' : World} {o : Obj} {r : Option Nat} (h : But B b x w) (hB : B ≤ w.heap.size) (hg : (w.alloc o).grownBy w' r) (hr : ∀ j, r = some j → B ≤ j) : But B b x w' :=
  (h.alloc hB o).trans ⟨hg.os, hg.tape, hg.output, hg.size, fun k hk _ => hg.block k (by simp; omega) fun e => by have := hr k e.symm; omega⟩
/-- What holds at the label. -/
def NumJ (B g mb L : Nat) (Q : List Nat) (f0 n0 : Nat) (w : World) (f n : Nat) (out : List Nat) (ov : Value) (w' : World) : Prop :=
  f < 68719476736 ∧ n < L ∧ out.length + f ≤ f0 ∧ (out = [] ∨ n < cntR Q f) ∧ (tilR Q f0)[n0]? = ((tilR Q f)[n]?).map (out ++ ·) ∧
    w'.ownsRow w.heap.size 3 1 ov out.length (iv (ints out)) ∧ CntM w' mb (cutC Q L) ∧ But w.heap.size mb w w'
theorem ints_app (a : List Nat) (m : Nat) : iv (ints a) ++ [.int .i64 (m : Int)] = iv (ints (a ++ [m])) := by simp [iv, ints]
theorem map_app {o : Option (List Nat)} (a : List Nat) (m : Nat) : (o.map (m :: ·)).map (a ++ ·) = o.map ((a ++ [m]) ++ ·) := by
  cases o with
  | none => rfl
  | some x => simp

set_option maxHeartbeats 8000000 in
set_option maxRecDepth 100000 in
theorem iNumber (B g mb : Nat) (rows : Nat → Value) (d : Nat → Bool) (L : Nat) (Q : List Nat) (hL : 1 ≤ L) (hL2 : L ≤ 100000) (hQ : ∀ m ∈ Q, m ≠ 0 ∧ m < 68719476736) (hQl : Q.length ≤ 100000) (hd : SumTo Q d 65)
    (f0 n0 : Nat) (hf0 : f0 < 68719476736) (hn0 : n0 < L) (w : World) (hF : FilOk B w g mb rows d L Q) (hM : CntM w mb (cutC Q L)) :
    Calls Tryz.prog 93 #[.pointer (some ⟨g, 0, none⟩), .int .i64 f0, .int .i64 n0] w fun e w' => ∃ v, e = .returned (.tuple #[v, .bool ((tilR Q f0)[n0]?).isSome]) ∧ w'.ownsRow w.heap.size 3 1 v (wayI ((tilR Q f0)[n0]?)).length (iv (wayI ((tilR Q f0)[n0]?))) ∧ But w.heap.size mb w w' := by
  obtain ⟨i0, hi, hz0, hz1, hz2⟩ := info_parts info_int
  have HQ := Lib.hid hQ
  have HF := Lib.hid hF
  have HCT := Lib.hid (iCount B g mb rows d L Q hL hL2 hQ hQl hd)
  have HJ0 := Lib.hid (show NumJ B g mb L Q f0 n0 w f0 n0 [] (.slice none 0 0) w from ⟨hf0, hn0, by simp, .inl rfl, by cases (tilR Q f0)[n0]? <;> rfl, ⟨rfl, .inl ⟨rfl, rfl⟩⟩, hM, But.refl _ _ _⟩)
  clear hQ hd hF hM
  go_enter Tryz.func93, Tryz.ntmps93
  go_wp2
  refine scope_jumps 0 (fun a' w' => ∃ (f n : Nat) (out : List Nat) (ov : Value) (u3 u4 u5 u6 u7 u9 u10 u11 u12 u13 u14 u15 u16 u17 u18 u19 u20 u21 u22 u23 u24 u25 u26 u27 u28 u29 u30 u31 u32 u33 u34 u35 u36 u37 u38 u39 u40 u41 u42 u43 u44 u45 u46 u47 : Value), a' = { tmps := #[.pointer (some ⟨g, 0, none⟩), .int .i64 (f : Int), .int .i64 (n : Int), u3, u4, u5, u6, u7, ov, u9, u10, u11, u12, u13, u14, u15, u16, u17, u18, u19, u20, u21, u22, u23, u24, u25, u26, u27, u28, u29, u30, u31, u32, u33, u34, u35, u36, u37, u38, u39, u40, u41, u42, u43, u44, u45, u46, u47], defers := [] } ∧ NumJ B g mb L Q f0 n0 w f n out ov w') (fun a' _ => (intOf (a'.tmps.getD 1 undef)).toNat) rfl ?_ ?_
  · rintro a' wl ⟨f, n, out, ov, u3, u4, u5, u6, u7, u9, u10, u11, u12, u13, u14, u15, u16, u17, u18, u19, u20, u21, u22, u23, u24, u25, u26, u27, u28, u29, u30, u31, u32, u33, u34, u35, u36, u37, u38, u39, u40, u41, u42, u43, u44, u45, u46, u47, rfl, hfb, hnL, hol, hon, htl, hown, hcm, hbt⟩
    have HTL := Lib.hid htl
    have HON := Lib.hid hon
    have HOW := Lib.hid hown
    have HCM := Lib.hid hcm
    clear htl hon hown hcm
    by_cases h0 : f = 0
    · subst h0
      have HR := Lib.hid (show ((tilR Q f0)[n0]?).isSome = decide (n = 0) ∧ wayI ((tilR Q f0)[n0]?) = ints out from by
        rw [HTL.out, tilR_zero]
        by_cases h1 : n = 0
        · subst h1
          exact ⟨rfl, by simp [wayI]⟩
        · obtain ⟨k, rfl⟩ : ∃ k, n = k + 1 := ⟨n - 1, by omega⟩
          have h2 : out = [] := by
            rcases HON.out with h3 | h3
            · exact h3
            · rw [cntR_zero] at h3; omega
          subst h2
          exact ⟨by simp, by simp [wayI]⟩)
      have hnn : ((n : Int) == 0) = decide (n = 0) := by
        rw [Bool.eq_iff_iff]
        simp
      go_wp2
      simp only [Exit.jump]
      go_ret2
      refine ⟨ov, ?_, ?_, hbt⟩
      · rw [HR.out.1, ← hnn]; rfl
      · rw [HR.out.2, ints_len]; exact HOW.out
    have hfz : ((f : Int) == 0) = false := by simp; omega
    have hsl := hbt.size
    have HFl := Lib.hid (FilOk.but HF.out hbt)
    have HTG := Lib.hid (tilR_grp (fun m hm => (HQ.out m hm).1) h0 (show f < 2 ^ 64 by omega))
    have HTF := Lib.hid (grp_sub (fun m hm => (HQ.out m hm).1) (f := f) (by omega))
    have HST := Lib.hid (tilR_step Q h0)
    go_wp2_with fail
    refine (iCands B g mb f rows d L Q wl h0 hfb HFl.out).mono ?_
    rintro e w4 ⟨rfl, hb4⟩
    have HB4 := Lib.hid (hbt.trans ((But.of_below (b := mb) hb4).mono hsl))
    have HCM4 := Lib.hid (HCM.out.on hb4)
    have HOW4 := Lib.hid (HOW.out.kept (grow_below hb4 none) (Classical.em _))
    have HF4 := Lib.hid (HFl.out.on hb4)
    have hlow := lowB_lt h0 (show f < 2 ^ 64 by omega)
    obtain ⟨low, hlw⟩ : ∃ low, lowB f = low := ⟨_, rfl⟩
    rw [hlw] at hlow HTG HTF ⊢
    have HLW := Lib.hid hlw
    obtain ⟨C, hC⟩ : ∃ C, grpB Q low = C := ⟨_, rfl⟩
    have HCQ := Lib.hid (show ∀ m ∈ C, m ∈ Q ∧ m ≠ 0 ∧ m < 68719476736 from by rw [← hC]; intro m hm; have h9 := (List.mem_filter.1 hm).1; exact ⟨h9, HQ.out m h9⟩)
    have hCl : C.length ≤ 100000 := by rw [← hC]; exact Nat.le_trans (grpB_len Q low) hQl
    have HRW := Lib.hid (fun W (h9 : FilOk B W g mb rows d L Q) => (show W.ownsRow B 3 1 (rows low) C.length (iv (ints C)) from by rw [← hC]; exact h9.grp.each low hlow))
    have HCE := Lib.hid hC
    rw [hC] at HTG HTF
    obtain ⟨N, hN⟩ : ∃ N, C.length = N := ⟨_, rfl⟩
    rw [hN] at hCl HTG HRW
    obtain ⟨a, cap, hv⟩ := own_sliceI (HRW.out w4 HF4.out)
    rw [hv] at HRW ⊢
    have HIN := Lib.hid (ints_bd fun m hm => (HCQ.out m hm).2.2)
    have hsz4 := HB4.out.size
    clear HCM HOW hb4 hlw hC hv hbt HFl
    go_wp2
    go_loopw [1, 2, 8, 22] (fun fv nv oo ix wr => ∃ i n' : Nat, i ≤ N ∧ fv = .int .i64 (f : Int) ∧ oo = ov ∧ ix = .int .i64 (i : Int) ∧ nv = .int .i64 (n' : Int) ∧ n' ≤ n ∧ Hid (n' + cntTo Q C (subB f) f i = n) ∧ Hid (wr.ownsRow w.heap.size 3 1 ov out.length (iv (ints out))) ∧ Hid (CntM wr mb (cutC Q L)) ∧ But w.heap.size mb w wr) (fun _ _ _ ix _ => N - (intOf ix).toNat)
    case atStart => exact ⟨0, n, by omega, rfl, rfl, rfl, rfl, by omega, rfl, HOW4.out, HCM4.out, HB4.out⟩
    case round =>
      clear HOW4 HCM4 HB4 HF4
      obtain ⟨i, n', hi9, rfl, hoo, rfl, rfl, hn', hcn, hown, hcm, hbt⟩ := hrel
      have hoo2 := hoo.symm
      subst hoo2
      have HFr := Lib.hid (FilOk.but HF.out hbt)
      have hsr := hbt.size
      by_cases hlt : i < N
      · have hi1 : (i : Int) < (N : Int) := by omega
        have hi2 : (0 : Int) ≤ (i : Int) := by omega
        obtain ⟨b9, o9, rfl, hb9, hc9⟩ := (IntsAt.of_own (HRW.out wr HFr.out) HIN.out).2.2 (by omega)
        have p1 := hc9 i hlt
        rw [ints_get] at p1
        have hm := HCQ.out (C.getD i 0) (getD_memN (by omega))
        have HCY := Lib.hid (cntTo_yes Q (C := C) (p := subB f) f (i := i) (by omega))
        have HCN := Lib.hid (cntTo_no Q (C := C) (p := subB f) f (i := i) (by omega))
        have HSG := Lib.hid (seg_get (Q := Q) (C := C) (p := subB f) (f := f) (i := i) (n := n) (by omega))
        have HGF := Lib.hid (fun h => grp_fit (fun m hm => (HQ.out m hm).1) (f := f) (m := C.getD i 0) (by omega) (by rw [HLW.out, HCE.out]; exact getD_memN (by omega)) h)
        obtain ⟨m, hmm⟩ : ∃ m, C.getD i 0 = m := ⟨_, rfl⟩
        rw [hmm] at p1 hm HCY HCN HGF HSG
        clear hc9 hmm
        cases hsb : subB f m with
        | true =>
          obtain ⟨k1, k2⟩ := andnot_sub hsb (show m < 9223372036854775808 by omega) (show f < 9223372036854775808 by omega)
          have k3 : ((0 : Int) != 0) = false := by decide
          have hfs := fit_sub (HGF.out hsb)
          have hfp := fit_pos (HGF.out hsb)
          have HCS := Lib.hid (HCY.out hsb)
          have HSS := Lib.hid (HSG.out hsb)
          have HR := Lib.hid (HCT.out (f - m) (f - m) (Nat.le_refl _) (by omega) wr HFr.out hcm.out)
          have hcl := cutC_le Q L (f - m)
          have HCD := Lib.hid (show cutC Q L (f - m) = min (cntR Q (f - m)) L from rfl)
          obtain ⟨c, hcc⟩ : ∃ c, cutC Q L (f - m) = c := ⟨_, rfl⟩
          rw [hcc] at HR hcl HCD
          obtain ⟨fm, hfm⟩ : ∃ fm, f - m = fm := ⟨_, rfl⟩
          rw [hfm] at HR HCD HCS HSS k2 hfs
          have HFM := Lib.hid hfm
          clear HCY HCN HGF HSG hsb hcc hfm
          go_wp2_with fail
          refine HR.out.mono ?_
          rintro e w5 ⟨rfl, hcm5, hb5⟩
          have HB5 := Lib.hid (hbt.trans (hb5.mono hsr))
          have HM5 := Lib.hid hcm5
          have hmn : (ov).ownBlock ≠ some mb := by
            obtain ⟨D, hD, _⟩ := hcm.out
            exact own_map hown.out hD
          have HO5 := Lib.hid (hown.out.kept hb5.grown (.inr hmn))
          have hs5 := HB5.out.size
          clear hcm5 hb5 HR hcm hbt hown p1
          by_cases hnc : n' < c
          · have hnc1 : (n' : Int) < (c : Int) := by omega
            have HNE := Lib.hid (show (tilR Q f0)[n0]? = ((tilR Q fm)[n']?).map ((out ++ [m]) ++ ·) from by
              have h1 := hcn.out
              have h2 := HCD.out
              rw [HTL.out, HST.out, ← HTF.out, HSS.out (by omega) (by omega), show n - cntTo Q C (subB f) f i = n' by omega]
              exact map_app out m)
            have HLT := Lib.hid (show n' < cntR Q fm from by have h2 := HCD.out; omega)
            clear HSS HCS HTL HTG HTF HST
            have hO6 := HO5.out
            go_wp2_with (first | (at_builtin; refine wpList_append_own _ rfl _ _ 24 rfl w.heap.size 3 i0 (.int .i64 0) 1 8 Tryz.underlying24 hi hz0 hz1 hz2 rfl (by decide) _ _ _ rfl (hO6.alloc _) ⟨w5.heap.size, 0, none⟩ 1 1 [.int .i64 (m : Int)] rfl rfl (liesV_block (t := 3) (fr := (0, 0)) (heap_alloc_new _ _)) (by simp [Value.oneCell']) ?c3 ?c4 ?c5 ?_) | go_in)
            case c3 => unfold maxLen; omega
            case c4 => omega
            case c5 => simp; omega
            intro v' w6 hown6 hgrow _
            rw [ints_app] at hown6
            have HM6 := Lib.hid ((HM5.out.kept (World.grownBy_alloc w5 (.cells #[.int .i64 (m : Int)] 3) none) (by simp)).kept hgrow (fun e => hmn e.symm))
            have HB6 := Lib.hid (HB5.out.grow (by omega) hgrow (fun j hj => (hO6.lt j hj).1))
            have HO6 := Lib.hid (show w6.ownsRow w.heap.size 3 1 v' (out ++ [m]).length (iv (ints (out ++ [m]))) from by rw [List.length_append]; exact hown6)
            have hfs6 : fm < 68719476736 := by omega
            have hol6 : (out ++ [m]).length + fm ≤ f0 := by have h1 := HFM.out; rw [List.length_append]; simp only [List.length_cons, List.length_nil]; omega
            clear hown6 hgrow hO6 HO5 HM5 HB5
            go_wp2
            go_step3
            simp only [Exit.then, Exit.inBlock, Exit.jump]
            refine ⟨rfl, ⟨fm, n', out ++ [m], v', _, _, _, _, _, _, _, _, _, _, _, _, _, _, _, _, _, _, _, _, _, _, _, _, _, _, _, _, _, _, _, _, _, _, _, _, _, _, _, _, _, _, _, _, rfl, hfs6, by omega, hol6, .inr HLT.out, HNE.out, HO6.out, HM6.out, HB6.out⟩, ?_⟩
            simp [intOf]
            omega
          · have hnc1 : ¬ (n' : Int) < (c : Int) := by omega
            have HCN9 := Lib.hid (show n' - c + cntTo Q C (subB f) f (i + 1) = n from by
              have h1 := hcn.out
              have h2 := HCD.out
              have h3 := HCS.out
              unfold Hid at *
              omega)
            clear HSS HCS HCD hcn
            go_wp2
            go_roundw
            case rel => first
              | exact ⟨i + 1, n' - c, by omega, rfl, rfl, by go_num, by go_num, by omega, HCN9.out, HO5.out, HM5.out, HB5.out⟩
              | (repeat apply Exists.intro
                 exact ⟨⟨i + 1, n' - c, by omega, rfl, rfl, by go_num, by go_num, by omega, HCN9.out, HO5.out, HM5.out, HB5.out⟩, rfl⟩)
            case measure => simp [intOf]; omega
        | false =>
          have k1 := andnot_no hsb (show m < 9223372036854775808 by omega) (show f < 9223372036854775808 by omega)
          have k3 : (bits .andNot .i64 (m : Int) (f : Int) != 0) = true := by rw [bne_iff_ne]; exact k1
          have HCN9 := Lib.hid (show n' + cntTo Q C (subB f) f (i + 1) = n from by rw [HCN.out hsb]; exact hcn.out)
          clear HCY HCN HGF HSG hsb k1 hcn
          go_wp2
          go_roundw
          case rel => first
            | exact ⟨i + 1, n', by omega, rfl, rfl, by go_num, rfl, hn', HCN9.out, hown, hcm, hbt⟩
            | (repeat apply Exists.intro
               exact ⟨⟨i + 1, n', by omega, rfl, rfl, by go_num, rfl, hn', HCN9.out, hown, hcm, hbt⟩, rfl⟩)
          case measure => simp [intOf]; omega
      · obtain rfl : i = N := by omega
        have HR := Lib.hid (show ((tilR Q f0)[n0]?).isSome = false ∧ wayI ((tilR Q f0)[n0]?) = [] from by
          have h1 := hcn.out
          have h2 : (tilR Q f)[n]? = none := by
            rw [List.getElem?_eq_none_iff, HTG.out]
            show cntTo Q C (subB f) f i ≤ n
            omega
          rw [HTL.out, h2]
          exact ⟨rfl, rfl⟩)
        clear hcn hown hcm HTL HTG HTF HST
        go_wp2
        simp only [Exit.jump]
        go_ret2
        refine ⟨.slice none 0 0, ?_, ?_, hbt⟩
        · rw [HR.out.1]; rfl
        · rw [HR.out.2]; exact ⟨rfl, .inl ⟨rfl, rfl⟩⟩
  · intro hpass
    go_wp2
    go_step3
    simp only [Exit.then]
    rename_i hK
    exact hK _ _ (hpass _ _ ⟨f0, n0, [], _, _, _, _, _, _, _, _, _, _, _, _, _, _, _, _, _, _, _, _, _, _, _, _, _, _, _, _, _, _, _, _, _, _, _, _, _, _, _, _, _, _, _, _, _, rfl, HJ0.out⟩)
end

end Go.Proofs.YtailmmamgnebhaaGreatDoor
