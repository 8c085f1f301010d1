/-
  The law on all integer encodings: its walk, out of the contracts of the functions that it calls.
-/
import Derived.Test.YtljlkhlnjjchgaaDoorRnd
import Derived.Test.YtljlkhlnjjchgaaDoorLaid
import Derived.OpenShut
namespace Go.Proofs.YtljlkhlnjjchgaaDoor
open Go.RowKit

theorem code_of_row {w : World} {a : Option Addr} {len cap : Nat} {zs : List Int} (h : IsRow .u8 w a len cap zs) : Code w.heap.size w a len cap := by
  rcases h with ⟨rfl, rfl, rfl, rfl⟩ | ⟨x, rfl, h1, h2, h3, h4, h5⟩
  · exact ⟨Nat.le_refl _, fun h => absurd h (by omega)⟩
  · refine ⟨h1, fun hp => ?_⟩
    obtain ⟨b, off, spot⟩ := x
    have hc := h4 0 (by omega)
    have hspot : spot = none := by simpa [Addr.add] using World.cell?_spot hc
    subst hspot
    have hb : b < w.heap.size := World.block_lt_of_cell? w _ (by simpa [Addr.add] using hc)
    refine ⟨b, off, rfl, hb, fun k hk => ?_⟩
    have hk' : k < zs.length := by omega
    have hz := bounds_u8 (h5 (zs.getD k 0) (by rw [List.getD_eq_getElem?_getD, List.getElem?_eq_getElem hk']; exact List.getElem_mem _))
    refine ⟨UInt8.ofNat (zs.getD k 0).toNat, ?_⟩
    rw [← Addr.add_lit, h4 k hk']
    generalize zs.getD k 0 = q at *
    congr 2
    simp
    omega

theorem encF_len (n w : Int) : (encF n w).length ≤ 7 := by
  unfold encF
  split
  · rename_i h
    rw [be_length]
    omega
  · simp
theorem encF_some {n w : Int} (h : encF n w ≠ []) : ∃ N W : Nat, n = (N : Int) ∧ w = (W : Int) ∧ 1 ≤ W ∧ W ≤ 7 ∧ ¬ 0 < N / 256 ^ W := by
  unfold encF at h
  split at h
  · rename_i hc
    obtain ⟨h1, h2, h3, h4⟩ := hc
    obtain ⟨N, rfl⟩ := Int.eq_ofNat_of_zero_le h3
    obtain ⟨W, rfl⟩ := Int.eq_ofNat_of_zero_le (by omega : 0 ≤ w)
    refine ⟨N, W, rfl, rfl, by omega, by omega, ?_⟩
    have e : ((N : Int) / 256 ^ (W : Int).toNat) = ((N / 256 ^ W : Nat) : Int) := by simp
    rw [e] at h4
    omega
  · exact absurd rfl h

theorem ret_B {a b : Bool} (h : a = b) : Ending.returned (.bool a) = .returned (.bool b) := by rw [h]
theorem iParse_of (v : Int) (B0 : Nat) (w : World) (hB : B0 ≤ w.heap.size) (hT : Tab B0 w) :
    Calls Tryd.prog 18 #[S (Lib.itoa v)] w fun e w' => ((-1000000000 < v ∧ v < 1000000000 ∧ e = .returned (.tuple #[.int .i64 v, .bool true])) ∨ (v ≤ -1000000000 ∧ e = .returned (.tuple #[.int .i64 0, .bool false])) ∨ (1000000000 ≤ v ∧ e = .returned (.tuple #[.int .i64 0, .bool false]))) ∧ Below B0 w w' := by
  by_cases h : Small v
  · exact (iParse_yes ⟨(Lib.itoa v).toArray⟩ _ v w h (bs_mk _) rfl B0 hB hT).mono fun e w' ⟨he, hb⟩ => ⟨.inl ⟨h.1, h.2, he⟩, hb⟩
  · refine (iParse_no ⟨(Lib.itoa v).toArray⟩ _ w (fun m hm e => h (by rw [bs_mk] at e; rw [← itoa_inj e]; exact hm)) rfl B0 hB hT).mono fun e w' ⟨he, hb⟩ => ⟨.inr ?_, hb⟩
    unfold Small at h
    by_cases h1 : v ≤ -1000000000
    · exact .inl ⟨h1, he⟩
    · exact .inr ⟨by omega, he⟩

set_option maxHeartbeats 4000000 in
set_option maxRecDepth 100000 in
theorem law_IntegerEncodings (a0 : Option Addr) (len0 cap0 : Nat) (z0 : List Int) (w : World) (w0 : IsRow .u8 w a0 len0 cap0 z0) (hT : Tab w.heap.size w) :
    Calls Tryd.prog 3 #[.slice a0 len0 cap0] w fun e w' => e = .returned (.bool true) ∧ Below w.heap.size w w' := by
  have HC := Lib.hid (code_of_row w0)
  have HT := Lib.hid hT
  clear w0 hT
  by_cases hs : (1048576 : Int) < len0
  · go_enter Tryd.func3, Tryd.ntmps3
    go_wp2
    go_ret
    exact ⟨rfl, Below.refl _ _⟩
  · go_enter Tryd.func3, Tryd.ntmps3
    go_wp2_with (first | (go_at_call 6; go_in))
    have hl : len0 ≤ 1048576 := by omega
    refine (drawV w.heap.size a0 len0 cap0 _ HC.out hl (Nat.le_refl _)).mono ?_
    rintro e w1 ⟨n, hn0, hn1, rfl, hb1⟩
    have HB1 := Lib.hid hb1
    clear hb1
    go_wp2_with fail
    refine (drawH w.heap.size a0 len0 cap0 _ (HC.out.on HB1.out) hl HB1.out.size).mono ?_
    rintro e w2 ⟨tl, htl, rfl, hb2⟩
    have HB2 := Lib.hid (HB1.out.trans hb2)
    clear hb2
    go_wp2_with fail
    refine (iEncV_any n _).mono ?_
    rintro e w3 ⟨rfl, hb3⟩
    have HB3 := Lib.hid (HB2.out.trans (hb3.mono HB2.out.size))
    clear hb3
    have HN : Hid (∀ N : Nat, n = N → N ≤ 562949953421311 → encV n = vi 7 N) := fun N e h => by rw [e]; exact encV_yes h
    have HL : (encV n).length ≤ 7 := by unfold encV; split; exact vi_len 7 _; simp
    go_wp2_with fail
    refine (iDecV_any _ _ (by rw [S_append]; show (encV n ++ tl).toArray.size ≤ _; simp; omega)).mono ?_
    rintro e w4 ⟨rfl, hb4⟩
    have HB4 := Lib.hid (HB3.out.trans (hb4.mono HB3.out.size))
    clear hb4
    rw [bs_app]
    by_cases hr : 0 ≤ n ∧ n ≤ 562949953421311
    focus
      obtain ⟨N, rfl⟩ := Int.eq_ofNat_of_zero_le hr.1
      have hN : N ≤ 562949953421311 := by omega
      have hpos := (grp_vi 7 N [] (by omega) (by omega)).2
      have hne1 : (vi 7 N).isEmpty = false := by rw [List.isEmpty_eq_false_iff]; exact List.length_pos_iff.1 hpos
      have hne2 : ¬ vi 7 N = [] := List.length_pos_iff.1 hpos
      rw [HN.out N rfl hN, decV_enc N hN tl]
      clear HN hpos HL
      go_wp2_with fail
    rotate_left
    focus
      have e1 := encV_no (n := n) (by omega)
      rw [e1]
      clear e1 HN HL
      by_cases h0 : 0 ≤ n
      focus
        have h1 : decide (n ≤ 562949953421311) = false := by simp; omega
        clear hr
        go_wp2_with fail
      rotate_left
      focus
        clear hr
        go_wp2_with fail
    all_goals
      refine (drawF w.heap.size a0 len0 cap0 _ (HC.out.on HB4.out) hl HB4.out.size).mono ?_
      rintro e w5 ⟨v, y, ⟨hv0, hv1⟩, ⟨hy0, hy1⟩, rfl, hb5⟩
      have HB5 := Lib.hid (HB4.out.trans hb5)
      clear hb5
      go_wp2_with fail
      refine (iEncF_any v y _ hv1).mono ?_
      rintro e w6 ⟨rfl, hb6⟩
      have HB6 := Lib.hid (HB5.out.trans (hb6.mono HB5.out.size))
      clear hb6
      have HL2 : (encF v y).length ≤ 7 := encF_len v y
      go_wp2_with fail
      refine (iDecF_any _ y _).mono ?_
      rintro e w7 ⟨rfl, rfl⟩
      by_cases hfit : encF v y = []
      focus
        have HF := Lib.hid hfit
        rw [hfit]
        clear hfit
        go_wp2_with fail
      rotate_left
      focus
        obtain ⟨N2, W2, rfl, rfl, hW1, hW2, hf0⟩ := encF_some hfit
        have hfe := encF_yes hW1 hW2 hf0
        have HF := Lib.hid hfe
        have hbl := be_length W2 N2
        have hne3 : ¬ be W2 N2 = [] := by intro e; rw [e] at hbl; simp at hbl; omega
        have hne4 : (be W2 N2).isEmpty = false := by rw [List.isEmpty_eq_false_iff]; exact hne3
        have hbl2 : (((be W2 N2).length : Nat) : Int) = (W2 : Int) := by rw [hbl]
        rw [hfe, decF_enc N2 W2 tl hW1 hW2 hf0]
        clear hfe hf0 hfit hbl
        go_wp2_with fail
      all_goals
        refine (sEncF_any _ _ _ hv1).mono ?_
        rintro e w8 ⟨rfl, hb8⟩
        have HB8 := Lib.hid (HB6.out.trans (hb8.mono HB6.out.size))
        clear hb8
        rw [HF.out]
        go_wp2_with fail
        refine (iEncH_any _ _ (by show tl.toArray.size ≤ _; simp; omega)).mono ?_
        rintro e w9 ⟨rfl, hb9⟩
        have HB9 := Lib.hid (HB8.out.trans (hb9.mono HB8.out.size))
        clear hb9
        rw [bs_mk]
        go_wp2_with fail
        refine (iDecH_any _ _ (by show (encH tl).toArray.size ≤ _; have := encH_length tl; simp; omega)).mono ?_
        rintro e w10 ⟨rfl, hb10⟩
        have HB10 := Lib.hid (HB9.out.trans (hb10.mono HB9.out.size))
        clear hb10
        rw [bs_mk, dhR_enc, hexOk_enc]
        go_wp2_with fail
        refine (iFormatInt _ hv0 hv1 w.heap.size _ (HT.out.on HB10.out) HB10.out.size).mono ?_
        rintro e w11 ⟨rfl, hb11⟩
        have HB11 := Lib.hid (HB10.out.trans hb11)
        clear hb11
        go_wp2_with fail
      all_goals
        have hlen : ((((encH tl).length : Nat) : Int) == 2 * (tl.length : Int)) = true := by rw [encH_length]; simp
        refine (iParse_of _ w.heap.size _ HB11.out.size (HT.out.on HB11.out)).mono ?_
        rintro e w12 ⟨hcase, hb12⟩
        have HB12 := Lib.hid (HB11.out.trans hb12)
        clear hb12
        rcases hcase with ⟨hs0, hs1, rfl⟩ | ⟨hs0, rfl⟩ | ⟨hs1, rfl⟩
      all_goals
        go_wp2_with fail
      all_goals
        refine (sFormatInt _ hv0 hv1 _).mono ?_
        rintro e w13 ⟨rfl, hb13⟩
        have HB13 := Lib.hid (HB12.out.trans (hb13.mono HB12.out.size))
        clear hb13
        go_wp2
        all_goals
          go_ret
          refine ⟨?_, HB13.out⟩
          refine ret_B ?_
          first | with_reducible rfl | (simp; omega)

end Go.Proofs.YtljlkhlnjjchgaaDoor
