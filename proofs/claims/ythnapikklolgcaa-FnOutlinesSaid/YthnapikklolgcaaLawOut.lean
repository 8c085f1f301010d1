/-
  The law on outlines (FnOutlines): its walk, out of the contracts of the functions that it calls.
-/
import Derived.Test.YthnapikklolgcaaSo8
import Derived.Test.YthnapikklolgcaaSow
import Derived.Test.YthnapikklolgcaaPow
import Derived.Test.YthnapikklolgcaaJon
import Derived.Test.YthnapikklolgcaaSon
import Derived.OpenShut
namespace Go.Proofs.Ythnapikklolgcaa
open Go.RowKit

theorem atGo {w w' : World} {a : Option Addr} {n : Nat} {l : List Cl} (h : CellsAt w.heap.size w a n l) (hb : Below w.heap.size w w') : CellsAt w'.heap.size w' a n l := (h.on hb).more hb.size
theorem tree_q {l : List Cl} (h : TreeP l) : sqP l = 0 := by
  obtain ⟨hc, he⟩ := h
  have hlen := ((isShape_iff l).1 hc.1).1
  rw [innP_yes hc.1] at he
  rw [sqP_yes hc.1, tree_sq hc (by omega)]
  rfl
theorem conv_h {l : List Cl} (h : ConvP l) : holP l = 0 := by
  rw [holP_yes h.1.1, conv_holes h.2.1]
  rfl

set_option maxHeartbeats 16000000 in
set_option maxRecDepth 100000 in
theorem law_Outlines (a0 : Option Addr) (len0 cap0 : Nat) (z0 : List Int) (w : World) (w0 : IsRow .u8 w a0 len0 cap0 z0) :
    Calls Try.prog 3 #[.slice a0 len0 cap0] w fun e w' => e = .returned (.bool true) ∧ Below w.heap.size w w' := by
  have HC := Lib.hid (code_of_row w0)
  clear w0
  by_cases hs : (1048576 : Int) < len0
  · go_enter Try.func3, Try.ntmps3
    go_wp2_with (first | (go_at_call 17; go_in))
    go_ret
    exact ⟨rfl, Below.refl _ _⟩
  · go_enter Try.func3, Try.ntmps3
    go_wp2_with (first | (go_at_call 17; go_in))
    have hl0 : len0 ≤ 1048576 := by omega
    clear hs
    go_wp2_with fail
    refine (dHolesOf a0 len0 cap0 w HC.out hl0).mono ?_
    rintro e w1 ⟨a2, n2, cap2, l, rfl, hcl, hn2, hle, hb1⟩
    have HA1 := Lib.hid hcl
    have HB1 := Lib.hid hb1
    have HLN := Lib.hid hcl.1
    clear HC hcl hb1
    have hn4 : n2 ≤ 4194304 := by omega
    have hn1 : n2 ≤ 1048576 := by omega
    have hEb := innP_bd l
    obtain ⟨P, hP⟩ : ∃ P, perP l = P := ⟨_, rfl⟩
    obtain ⟨H, hH⟩ : ∃ H, holP l = H := ⟨_, rfl⟩
    obtain ⟨E, hE⟩ : ∃ E, innP l = E := ⟨_, rfl⟩
    obtain ⟨Q, hQ⟩ : ∃ Q, sqP l = Q := ⟨_, rfl⟩
    obtain ⟨K, hK⟩ : ∃ K, neiP l = K := ⟨_, rfl⟩
    obtain ⟨R, hR⟩ : ∃ R, rowC l = R := ⟨_, rfl⟩
    rw [hE] at hEb
    have HP := Lib.hid hP
    have HH := Lib.hid hH
    have HE := Lib.hid hE
    have HQ := Lib.hid hQ
    have HK := Lib.hid hK
    have HR := Lib.hid hR
    clear hP hH hE hQ hK hR
    have nP : (P != P) = false := by simp
    have nH : (H != H) = false := by simp
    have nE : (E != E) = false := by simp
    have nQ : (Q != Q) = false := by simp
    have nK : (K != K) = false := by simp
    have nR : (R != R) = false := by simp
    go_wp2_with fail
    refine (iPerim w1.heap.size n2 cap2 a2 l w1 hn4 HA1.out (Nat.le_refl _)).mono ?_
    rintro e w2 ⟨rfl, hb2⟩
    rw [HP.out]
    have HA2 := Lib.hid (atGo HA1.out hb2)
    have HB2 := Lib.hid (HB1.out.trans (hb2.mono HB1.out.size))
    clear hb2 HA1 HB1
    go_wp2_with fail
    refine (iHoles w2.heap.size n2 cap2 a2 l w2 hn4 HA2.out (Nat.le_refl _)).mono ?_
    rintro e w3 ⟨rfl, hb3⟩
    rw [HH.out]
    have HA3 := Lib.hid (atGo HA2.out hb3)
    have HB3 := Lib.hid (HB2.out.trans (hb3.mono HB2.out.size))
    clear hb3 HA2 HB2
    go_wp2_with fail
    refine (iInner w3.heap.size n2 cap2 a2 l w3 hn4 HA3.out (Nat.le_refl _)).mono ?_
    rintro e w4 ⟨rfl, hb4⟩
    rw [HE.out]
    have HA4 := Lib.hid (atGo HA3.out hb4)
    have HB4 := Lib.hid (HB3.out.trans (hb4.mono HB3.out.size))
    clear hb4 HA3 HB3
    go_wp2_with fail
    refine (iSq w4.heap.size n2 cap2 a2 l w4 hn4 HA4.out (Nat.le_refl _)).mono ?_
    rintro e w5 ⟨rfl, hb5⟩
    rw [HQ.out]
    have HA5 := Lib.hid (atGo HA4.out hb5)
    have HB5 := Lib.hid (HB4.out.trans (hb5.mono HB4.out.size))
    clear hb5 HA4 HB4
    go_wp2_with fail
    refine (sPerim w5.heap.size n2 cap2 a2 l w5 hn4 HA5.out (Nat.le_refl _)).mono ?_
    rintro e w6 ⟨rfl, hb6⟩
    rw [HP.out]
    have HA6 := Lib.hid (atGo HA5.out hb6)
    have HB6 := Lib.hid (HB5.out.trans (hb6.mono HB5.out.size))
    clear hb6 HA5 HB5
    go_wp2_with fail
    refine (sHoles w6.heap.size n2 cap2 a2 l w6 hn4 HA6.out (Nat.le_refl _)).mono ?_
    rintro e w7 ⟨rfl, hb7⟩
    rw [HH.out]
    have HA7 := Lib.hid (atGo HA6.out hb7)
    have HB7 := Lib.hid (HB6.out.trans (hb7.mono HB6.out.size))
    clear hb7 HA6 HB6
    go_wp2_with fail
    refine (sInner w7.heap.size n2 cap2 a2 l w7 hn4 HA7.out (Nat.le_refl _)).mono ?_
    rintro e w8 ⟨rfl, hb8⟩
    rw [HE.out]
    have HA8 := Lib.hid (atGo HA7.out hb8)
    have HB8 := Lib.hid (HB7.out.trans (hb8.mono HB7.out.size))
    clear hb8 HA7 HB7
    go_wp2_with fail
    refine (sSq w8.heap.size n2 cap2 a2 l w8 hn4 HA8.out (Nat.le_refl _)).mono ?_
    rintro e w9 ⟨rfl, hb9⟩
    rw [HQ.out]
    have HA9 := Lib.hid (atGo HA8.out hb9)
    have HB9 := Lib.hid (HB8.out.trans (hb9.mono HB8.out.size))
    clear hb9 HA8 HB8
    go_wp2_with fail
    refine (iNei w9.heap.size n2 cap2 a2 l w9 hn4 HA9.out (Nat.le_refl _)).mono ?_
    rintro e w10 ⟨rfl, hb10⟩
    rw [HK.out]
    have HA10 := Lib.hid (atGo HA9.out hb10)
    have HB10 := Lib.hid (HB9.out.trans (hb10.mono HB9.out.size))
    clear hb10 HA9 HB9
    go_wp2_with fail
    refine (sNei w10.heap.size n2 cap2 a2 l w10 hn4 HA10.out (Nat.le_refl _)).mono ?_
    rintro e w11 ⟨rfl, hb11⟩
    rw [HK.out]
    have HA11 := Lib.hid (atGo HA10.out hb11)
    have HB11 := Lib.hid (HB10.out.trans (hb11.mono HB10.out.size))
    clear hb11 HA10 HB10
    go_wp2_with fail
    refine (iRow w11.heap.size n2 cap2 a2 l w11 hn4 hle HA11.out (Nat.le_refl _)).mono ?_
    rintro e w12 ⟨rfl, hb12⟩
    rw [HR.out]
    have HA12 := Lib.hid (atGo HA11.out hb12)
    have HB12 := Lib.hid (HB11.out.trans (hb12.mono HB11.out.size))
    clear hb12 HA11 HB11
    go_wp2_with fail
    refine (sRow w12.heap.size n2 cap2 a2 l w12 hn4 HA12.out (Nat.le_refl _)).mono ?_
    rintro e w13 ⟨rfl, hb13⟩
    rw [HR.out]
    have HA13 := Lib.hid (atGo HA12.out hb13)
    have HB13 := Lib.hid (HB12.out.trans (hb13.mono HB12.out.size))
    clear hb13 HA12 HB12
    go_wp2_with fail
    refine (iConvex w13.heap.size n2 cap2 a2 l w13 hn4 hle HA13.out (Nat.le_refl _)).mono ?_
    rintro e w14 ⟨t1, rfl, hit1, hb14⟩
    have HA14 := Lib.hid (atGo HA13.out hb14)
    have HB14 := Lib.hid (HB13.out.trans (hb14.mono HB13.out.size))
    clear hb14 HA13 HB13
    have It1 := Lib.hid hit1
    clear hit1
    go_wp2_with fail
    refine (sConvex w14.heap.size n2 cap2 a2 l w14 hn1 HA14.out (Nat.le_refl _)).mono ?_
    rintro e w15 ⟨t2, rfl, hit2, hb15⟩
    have HA15 := Lib.hid (atGo HA14.out hb15)
    have HB15 := Lib.hid (HB14.out.trans (hb15.mono HB14.out.size))
    clear hb15 HA14 HB14
    have It2 := Lib.hid hit2
    clear hit2
    obtain rfl : t2 = t1 := by rw [Bool.eq_iff_iff, It2.out, It1.out]
    clear It1
    have nC : (t2 != t2) = false := by simp
    go_wp2_with fail
    refine (iTree w15.heap.size n2 cap2 a2 l w15 hn4 hle HA15.out (Nat.le_refl _)).mono ?_
    rintro e w16 ⟨t3, rfl, hit3, hb16⟩
    have HA16 := Lib.hid (atGo HA15.out hb16)
    have HB16 := Lib.hid (HB15.out.trans (hb16.mono HB15.out.size))
    clear hb16 HA15 HB15
    have It3 := Lib.hid hit3
    clear hit3
    go_wp2_with fail
    refine (sTree w16.heap.size n2 cap2 a2 l w16 hn4 HA16.out (Nat.le_refl _)).mono ?_
    rintro e w17 ⟨t4, rfl, hit4, hb17⟩
    have HA17 := Lib.hid (atGo HA16.out hb17)
    have HB17 := Lib.hid (HB16.out.trans (hb17.mono HB16.out.size))
    clear hb17 HA16 HB16
    have It4 := Lib.hid hit4
    clear hit4
    obtain rfl : t4 = t3 := by rw [Bool.eq_iff_iff, It4.out, It3.out]
    clear It3
    have nT : (t4 != t4) = false := by simp
    go_wp2_with fail
    refine (sIsShape w17.heap.size n2 cap2 a2 l w17 hn4 HA17.out (Nat.le_refl _)).mono ?_
    rintro e w18 ⟨rfl, hb18⟩
    have HA18 := Lib.hid (atGo HA17.out hb18)
    have HB18 := Lib.hid (HB17.out.trans (hb18.mono HB17.out.size))
    clear hb18 HA17 HB17
    cases hsh : isShape l with
    | false =>
      have HSH := Lib.hid hsh
      clear hsh
      go_wp2_with fail
      refine (iTree w18.heap.size n2 cap2 a2 l w18 hn4 hle HA18.out (Nat.le_refl _)).mono ?_
      rintro e w19 ⟨t5, rfl, hit5, hb19⟩
      have HA19 := Lib.hid (atGo HA18.out hb19)
      have HB19 := Lib.hid (HB18.out.trans (hb19.mono HB18.out.size))
      clear hb19 HA18 HB18
      have It5 := Lib.hid hit5
      clear hit5
      cases t5 with
      | true =>
        exfalso
        have h9 := (It5.out.1 (by simp)).1.1
        rw [HSH.out] at h9
        cases h9
      | false =>
        clear It5
        go_wp2_with fail
        refine (iConvex w19.heap.size n2 cap2 a2 l w19 hn4 hle HA19.out (Nat.le_refl _)).mono ?_
        rintro e w20 ⟨t6, rfl, hit6, hb20⟩
        have HA20 := Lib.hid (atGo HA19.out hb20)
        have HB20 := Lib.hid (HB19.out.trans (hb20.mono HB19.out.size))
        clear hb20 HA19 HB19
        have It6 := Lib.hid hit6
        clear hit6
        cases t6 with
        | true =>
          exfalso
          have h9 := (It6.out.1 (by simp)).1.1
          rw [HSH.out] at h9
          cases h9
        | false =>
          clear It6
          go_wp2_with fail
          refine (sBound w20.heap.size n2 cap2 a2 l w20 hn4 HA20.out (Nat.le_refl _)).mono ?_
          rintro e w21 ⟨s, b, rfl, hsb, hbb⟩
          have HBF := Lib.hid (HB20.out.trans (hbb.mono HB20.out.size))
          have HSB := Lib.hid hsb
          clear hbb hsb
          cases b with
          | false =>
            go_wp2
            go_ret
            exact ⟨rfl, HBF.out⟩
          | true =>
            exfalso
            have h9 := (HSB.out rfl).1
            rw [HSH.out] at h9
            cases h9
    | true =>
      have HSH := Lib.hid hsh
      have m1 : IntKind.i64.wrap (4 * (n2 : Int)) = 4 * (n2 : Int) := IntWalk.i64_in _ (by omega)
      have m2 : IntKind.i64.wrap (2 * E) = 2 * E := IntWalk.i64_in _ (by omega)
      have m3 : IntKind.i64.wrap (4 * (n2 : Int) - 2 * E) = P := by
        have h7 := perP_inn hsh
        rw [HP.out, HE.out, HLN.out] at h7
        rw [h7]
        exact IntWalk.i64_in _ (by omega)
      clear hsh
      go_wp2_with fail
      refine (iTree w18.heap.size n2 cap2 a2 l w18 hn4 hle HA18.out (Nat.le_refl _)).mono ?_
      rintro e w19 ⟨t5, rfl, hit5, hb19⟩
      have HA19 := Lib.hid (atGo HA18.out hb19)
      have HB19 := Lib.hid (HB18.out.trans (hb19.mono HB18.out.size))
      clear hb19 HA18 HB18
      have It5 := Lib.hid hit5
      clear hit5
      cases t5 with
      | true =>
        obtain rfl : Q = 0 := by rw [← HQ.out]; exact tree_q (It5.out.1 (by simp))
        clear It5
        go_wp2_with fail
        refine (iConvex w19.heap.size n2 cap2 a2 l w19 hn4 hle HA19.out (Nat.le_refl _)).mono ?_
        rintro e w20 ⟨t6, rfl, hit6, hb20⟩
        have HA20 := Lib.hid (atGo HA19.out hb20)
        have HB20 := Lib.hid (HB19.out.trans (hb20.mono HB19.out.size))
        clear hb20 HA19 HB19
        have It6 := Lib.hid hit6
        clear hit6
        cases t6 with
        | true =>
          obtain rfl : H = 0 := by rw [← HH.out]; exact conv_h (It6.out.1 (by simp))
          clear It6
          go_wp2_with fail
          refine (sBound w20.heap.size n2 cap2 a2 l w20 hn4 HA20.out (Nat.le_refl _)).mono ?_
          rintro e w21 ⟨s, b, rfl, hsb, hbb⟩
          have HBF := Lib.hid (HB20.out.trans (hbb.mono HB20.out.size))
          have HSB := Lib.hid hsb
          clear hbb hsb
          cases b with
          | false =>
            go_wp2
            go_ret
            exact ⟨rfl, HBF.out⟩
          | true =>
            have hsz : ((s.size : Int) == P) = true := by
              have h9 := (HSB.out rfl).2
              have h8 := perim ((isShape_iff l).1 HSH.out).2.2
              have h7 := HP.out
              rw [perP_yes HSH.out] at h7
              rw [beq_iff_eq]
              omega
            go_wp2
            go_ret
            exact ⟨by simp, HBF.out⟩
        | false =>
          clear It6
          go_wp2_with fail
          refine (sBound w20.heap.size n2 cap2 a2 l w20 hn4 HA20.out (Nat.le_refl _)).mono ?_
          rintro e w21 ⟨s, b, rfl, hsb, hbb⟩
          have HBF := Lib.hid (HB20.out.trans (hbb.mono HB20.out.size))
          have HSB := Lib.hid hsb
          clear hbb hsb
          cases b with
          | false =>
            go_wp2
            go_ret
            exact ⟨rfl, HBF.out⟩
          | true =>
            have hsz : ((s.size : Int) == P) = true := by
              have h9 := (HSB.out rfl).2
              have h8 := perim ((isShape_iff l).1 HSH.out).2.2
              have h7 := HP.out
              rw [perP_yes HSH.out] at h7
              rw [beq_iff_eq]
              omega
            go_wp2
            go_ret
            exact ⟨by simp, HBF.out⟩
      | false =>
        clear It5
        go_wp2_with fail
        refine (iConvex w19.heap.size n2 cap2 a2 l w19 hn4 hle HA19.out (Nat.le_refl _)).mono ?_
        rintro e w20 ⟨t6, rfl, hit6, hb20⟩
        have HA20 := Lib.hid (atGo HA19.out hb20)
        have HB20 := Lib.hid (HB19.out.trans (hb20.mono HB19.out.size))
        clear hb20 HA19 HB19
        have It6 := Lib.hid hit6
        clear hit6
        cases t6 with
        | true =>
          obtain rfl : H = 0 := by rw [← HH.out]; exact conv_h (It6.out.1 (by simp))
          clear It6
          go_wp2_with fail
          refine (sBound w20.heap.size n2 cap2 a2 l w20 hn4 HA20.out (Nat.le_refl _)).mono ?_
          rintro e w21 ⟨s, b, rfl, hsb, hbb⟩
          have HBF := Lib.hid (HB20.out.trans (hbb.mono HB20.out.size))
          have HSB := Lib.hid hsb
          clear hbb hsb
          cases b with
          | false =>
            go_wp2
            go_ret
            exact ⟨rfl, HBF.out⟩
          | true =>
            have hsz : ((s.size : Int) == P) = true := by
              have h9 := (HSB.out rfl).2
              have h8 := perim ((isShape_iff l).1 HSH.out).2.2
              have h7 := HP.out
              rw [perP_yes HSH.out] at h7
              rw [beq_iff_eq]
              omega
            go_wp2
            go_ret
            exact ⟨by simp, HBF.out⟩
        | false =>
          clear It6
          go_wp2_with fail
          refine (sBound w20.heap.size n2 cap2 a2 l w20 hn4 HA20.out (Nat.le_refl _)).mono ?_
          rintro e w21 ⟨s, b, rfl, hsb, hbb⟩
          have HBF := Lib.hid (HB20.out.trans (hbb.mono HB20.out.size))
          have HSB := Lib.hid hsb
          clear hbb hsb
          cases b with
          | false =>
            go_wp2
            go_ret
            exact ⟨rfl, HBF.out⟩
          | true =>
            have hsz : ((s.size : Int) == P) = true := by
              have h9 := (HSB.out rfl).2
              have h8 := perim ((isShape_iff l).1 HSH.out).2.2
              have h7 := HP.out
              rw [perP_yes HSH.out] at h7
              rw [beq_iff_eq]
              omega
            go_wp2
            go_ret
            exact ⟨by simp, HBF.out⟩

end Go.Proofs.Ythnapikklolgcaa
