/-
  The law on all shapes (FnShapes): its walk, out of the contracts of the functions that it calls.
-/
import Derived.Test.YtihjcifpihkpoaaGreatDoorSpp
import Derived.Test.YtihjcifpihkpoaaGreatDoorIpr
import Derived.Test.YtihjcifpihkpoaaGreatDoorIso
import Derived.Test.YtihjcifpihkpoaaGreatDoorIsz
import Derived.Test.YtihjcifpihkpoaaGreatDoorIsh
import Derived.Test.YtihjcifpihkpoaaGreatDoorIcr
import Derived.Test.YtihjcifpihkpoaaGreatDoorAeq
import Derived.Test.YtihjcifpihkpoaaGreatDoorIcn
import Derived.Test.YtihjcifpihkpoaaGreatDoorCon
import Derived.Test.YtihjcifpihkpoaaGreatDoorSiz
import Derived.Test.YtihjcifpihkpoaaGreatDoorMov
import Derived.Test.YtihjcifpihkpoaaGreatDoorIhs
import Derived.OpenShut
namespace Go.Proofs.YtihjcifpihkpoaaGreatDoor
open Go.RowKit

theorem eqb_same (l : List Cl) : eqb l l = true := by simp [eqb]
theorem Code.more {B B' : Nat} {w : World} {a : Option Addr} {len cap : Nat} (h : Code B w a len cap) (hB : B ≤ B') : Code B' w a len cap :=
  ⟨h.1, fun hp => by
    obtain ⟨b, off, e, hlt, hc⟩ := h.2 hp
    exact ⟨b, off, e, Nat.lt_of_lt_of_le hlt hB, hc⟩⟩
/-- What every step of the walk keeps: the memory of before, the bytes that came in, the library's number. -/
def St (W w : World) (a : Option Addr) (n c : Nat) : Prop := Below W.heap.size W w ∧ Code w.heap.size w a n c ∧ Mx w
theorem St.go {W w w' : World} {a : Option Addr} {n c : Nat} (h : St W w a n c) (hb : Below w.heap.size w w') : St W w' a n c :=
  ⟨h.1.trans (hb.mono h.1.size), (h.2.1.on hb).more hb.size, h.2.2.on hb h.2.2.lt⟩
theorem at_go {w w' : World} {a : Option Addr} {n : Nat} {l : List Cl} (h : CellsAt w.heap.size w a n l) (hb : Below w.heap.size w w') : CellsAt w'.heap.size w' a n l := (h.on hb).more hb.size
theorem cornS_ins (l : List Cl) : ∀ c ∈ cornS l, InC c := fun c hc => inP_in (cornS_in l c hc)
theorem moveS_le' (p q : Int) (l : List Cl) : (moveS p q l).length ≤ l.length := by
  unfold moveS moveC
  split
  · simp
  · simp
theorem moveS_in' (p q : Int) (l : List Cl) : ∀ c ∈ moveS p q l, InC c := by
  unfold moveS
  split
  · rename_i h
    intro c hc
    unfold canMove at h
    simp only [Bool.and_eq_true] at h
    exact inP_in (((isShape_iff _).1 h.2).2.1 c hc)
  · intro c hc
    cases hc
theorem parS_le' (s : ByteArray) : (parS (tx s)).length ≤ 8 := by
  unfold parS
  split
  · rename_i h
    exact ((isShape_iff _).1 (okP_out h).1).1.2
  · simp
theorem parS_in' (s : ByteArray) : ∀ c ∈ parS (tx s), InC c := by
  unfold parS
  split
  · rename_i h
    exact fun c hc => inP_in (((isShape_iff _).1 (okP_out h).1).2.1 c hc)
  · intro c hc
    cases hc
theorem isIn_of_shape {l : List Cl} (h : isShape l = true) : ∀ c ∈ l, InC c := fun c hc => inP_in (((isShape_iff l).1 h).2.1 c hc)
theorem back_move {p q : Int} {l : List Cl} (h : canMove p q l = true) : canMove (-p) (-q) (moveS p q l) = true ∧ moveS (-p) (-q) (moveS p q l) = l ∧ cornS (moveS p q l) = cornS l := by
  have h' := h
  unfold canMove at h
  simp only [Bool.and_eq_true] at h
  obtain ⟨⟨⟨h1, h2⟩, h3⟩, h4⟩ := h
  have e1 : moveS p q l = moveC p q l := if_pos h'
  have e2 : canMove (-p) (-q) (moveC p q l) = true := by
    unfold canMove
    rw [moveC_back]
    have := inb_out h2
    have := inb_out h3
    simp [h1, h4, inb]
    omega
  have hl : 0 < l.length := ((isShape_iff l).1 h1).1.1
  refine ⟨by rw [e1]; exact e2, ?_, ?_⟩
  · rw [e1]
    show (if canMove (-p) (-q) (moveC p q l) = true then moveC (-p) (-q) (moveC p q l) else []) = l
    rw [if_pos e2, moveC_back]
  · rw [e1]
    unfold cornS
    rw [if_pos h1, if_pos h4]
    exact cornerC_of_move p q l hl
theorem iSort_c (b off n cap : Nat) (l : List Cl) (w : World) (hn : n ≤ 1048576) (h1 : 1 ≤ n) (C : CellsAt w.heap.size w (some ⟨b, off, none⟩) n l) :
    Calls Tryz.prog 25 #[.slice (some ⟨b, off, none⟩) n cap] w fun e w' => ∃ v, e = .returned v ∧ Own w (sortU l) v w' := by
  obtain ⟨b', off', e, hlt, hcell⟩ := C.2.2 (by omega)
  injection e with e1
  injection e1 with e2 e3 _
  subst e2 e3
  exact iSort n n cap b off l w hn hlt C.1 fun k hk => hcell k hk

set_option maxHeartbeats 16000000 in
set_option maxRecDepth 100000 in
theorem law_Shapes (a0 : Option Addr) (len0 cap0 : Nat) (z0 : List Int) (w : World) (w0 : IsRow .u8 w a0 len0 cap0 z0) (hM : Mx w) :
    Calls Tryz.prog 3 #[.slice a0 len0 cap0] w fun e w' => e = .returned (.bool true) ∧ Below w.heap.size w w' := by
  have HC := Lib.hid (code_of_row w0)
  have HMX := Lib.hid hM
  clear w0 hM
  by_cases hs : (1048576 : Int) < len0
  · go_enter Tryz.func3, Tryz.ntmps3
    go_wp2_with (first | (go_at_call 4; go_in))
    go_ret
    exact ⟨rfl, Below.refl _ _⟩
  · go_enter Tryz.func3, Tryz.ntmps3
    go_wp2_with (first | (go_at_call 4; go_in))
    have hl0 : len0 ≤ 1048576 := by omega
    clear hs
    have ST0 := Lib.hid (show St w w a0 len0 cap0 from ⟨Below.refl _ _, HC.out, HMX.out⟩)
    clear HC HMX
    go_wp2_with fail
    refine (dFmt a0 len0 cap0 w ST0.out.2.1 hl0).mono ?_
    rintro e w1 ⟨sa, sn, sc, L, rfl, ha1, hsc, hsn, hb1⟩
    have ST1 := Lib.hid (ST0.out.go hb1)
    have HS := Lib.hid (ha1)
    clear hb1 ST0
    clear ha1
    go_wp2_with fail
    refine (iFmt w1.heap.size sn sc (some sa) L w1 (by omega) HS.out (Nat.le_refl _)).mono ?_
    rintro e w2 ⟨rfl, hb2⟩
    have ST2 := Lib.hid (ST1.out.go hb2)
    replace HS := Lib.hid (at_go HS.out hb2)
    clear hb2 ST1
    obtain ⟨T, hT⟩ : ∃ T : ByteArray, ByteArray.mk (fmtC L).toArray = T := ⟨_, rfl⟩
    obtain ⟨b, hb⟩ : ∃ b, isShape L = b := ⟨_, rfl⟩
    have hTs : T.size ≤ 200 := by
      rw [← hT]
      show (fmtC L).toArray.size ≤ 200
      cases hsh : isShape L with
      | true => have := (fmtC_yes hsh).2.2.1; simp; omega
      | false => rw [fmtC_no hsh]; simp
    have HT := Lib.hid (show S (fmtC L) = .string T from congrArg Value.string hT)
    have HIS := Lib.hid hb
    have HP : Hid (okP (tx T) = b) := by rw [← hT]; exact Lib.hid (by rw [← hb]; exact (okP_fmt L).1)
    have HQ : Hid (b = true → parS (tx T) = cornS L) := by rw [← hT, ← hb]; exact Lib.hid (okP_fmt L).2
    rw [HT.out]
    clear hT hb
    go_wp2_with fail
    refine (iParse T w2 (by omega) ST2.out.2.2).mono ?_
    rintro e w3 ⟨v, rfl, ho3, hb3⟩
    obtain ⟨xa, xc, rfl⟩ := own_sl ho3
    rw [HP.out]
    have ST3 := Lib.hid (ST2.out.go hb3)
    replace HS := Lib.hid (at_go HS.out hb3)
    have HX := Lib.hid (CellsAt.of_own ho3 (parS_in' T))
    clear hb3 ST2
    clear ho3
    have hxl := parS_le' T
    go_wp2_with fail
    refine (iCorner w3.heap.size sn sc (some sa) L w3 (by omega) HS.out (Nat.le_refl _)).mono ?_
    rintro e w4 ⟨v, rfl, ho4, hb4⟩
    obtain ⟨ca, cc, rfl⟩ := own_sl ho4
    have ST4 := Lib.hid (ST3.out.go hb4)
    replace HS := Lib.hid (at_go HS.out hb4)
    replace HX := Lib.hid (at_go HX.out hb4)
    have HCO := Lib.hid (CellsAt.of_own ho4 (cornS_ins L))
    clear hb4 ST3
    clear ho4
    have hcl := cornS_len L
    have hLn : L.length ≤ sn := Nat.le_of_eq HS.out.1
    go_wp2_with fail
    refine (dParse a0 len0 cap0 w4 ST4.out.2.1 hl0).mono ?_
    rintro e w5 ⟨U, hU, rfl, hb5⟩
    have ST5 := Lib.hid (ST4.out.go hb5)
    replace HS := Lib.hid (at_go HS.out hb5)
    replace HX := Lib.hid (at_go HX.out hb5)
    replace HCO := Lib.hid (at_go HCO.out hb5)
    clear hb5 ST4
    go_wp2_with fail
    refine (iParse U w5 (by omega) ST5.out.2.2).mono ?_
    rintro e w6 ⟨v, rfl, ho6, hb6⟩
    obtain ⟨ya, yc, rfl⟩ := own_sl ho6
    have ST6 := Lib.hid (ST5.out.go hb6)
    replace HS := Lib.hid (at_go HS.out hb6)
    replace HX := Lib.hid (at_go HX.out hb6)
    replace HCO := Lib.hid (at_go HCO.out hb6)
    have HY := Lib.hid (CellsAt.of_own ho6 (parS_in' U))
    clear hb6 ST5
    clear ho6
    have hyl := parS_le' U
    go_wp2_with fail
    refine (sParse U w6 (by omega)).mono ?_
    rintro e w7 ⟨zg, zc, rfl, ho7, hb7⟩
    have ST7 := Lib.hid (ST6.out.go hb7)
    replace HS := Lib.hid (at_go HS.out hb7)
    replace HX := Lib.hid (at_go HX.out hb7)
    replace HCO := Lib.hid (at_go HCO.out hb7)
    replace HY := Lib.hid (at_go HY.out hb7)
    have HZ := Lib.hid (CellsAt.of_own ho7 (parS_in' U))
    clear hb7 ST6
    clear ho7
    go_wp2_with fail
    refine (sFmt w7.heap.size sn sc (some sa) L w7 (by omega) HS.out (Nat.le_refl _)).mono ?_
    rintro e w8 ⟨rfl, hb8⟩
    rw [HT.out]
    have ST8 := Lib.hid (ST7.out.go hb8)
    replace HS := Lib.hid (at_go HS.out hb8)
    replace HX := Lib.hid (at_go HX.out hb8)
    replace HCO := Lib.hid (at_go HCO.out hb8)
    replace HY := Lib.hid (at_go HY.out hb8)
    replace HZ := Lib.hid (at_go HZ.out hb8)
    clear hb8 ST7
    go_wp2_with fail
    refine (sIsShape w8.heap.size sn sc (some sa) L w8 (by omega) HS.out (Nat.le_refl _)).mono ?_
    rintro e w9 ⟨rfl, hb9⟩
    rw [HIS.out]
    have hbb : (b != b) = false := by simp
    have ST9 := Lib.hid (ST8.out.go hb9)
    replace HS := Lib.hid (at_go HS.out hb9)
    replace HX := Lib.hid (at_go HX.out hb9)
    replace HCO := Lib.hid (at_go HCO.out hb9)
    replace HY := Lib.hid (at_go HY.out hb9)
    replace HZ := Lib.hid (at_go HZ.out hb9)
    clear hb9 ST8
    go_wp2_with fail
    refine (iIsShape w9.heap.size sn sc (some sa) L w9 (by omega) HS.out (Nat.le_refl _)).mono ?_
    rintro e w10 ⟨rfl, hb10⟩
    rw [HIS.out]
    have ST10 := Lib.hid (ST9.out.go hb10)
    replace HS := Lib.hid (at_go HS.out hb10)
    replace HX := Lib.hid (at_go HX.out hb10)
    replace HCO := Lib.hid (at_go HCO.out hb10)
    replace HY := Lib.hid (at_go HY.out hb10)
    replace HZ := Lib.hid (at_go HZ.out hb10)
    clear hb10 ST9
    go_wp2_with fail
    refine (sCornerShape w10.heap.size sn sc (some sa) L w10 (by omega) HS.out (Nat.le_refl _)).mono ?_
    rintro e w11 ⟨eg, ec, rfl, ho11, hb11⟩
    have ST11 := Lib.hid (ST10.out.go hb11)
    replace HS := Lib.hid (at_go HS.out hb11)
    replace HX := Lib.hid (at_go HX.out hb11)
    replace HCO := Lib.hid (at_go HCO.out hb11)
    replace HY := Lib.hid (at_go HY.out hb11)
    replace HZ := Lib.hid (at_go HZ.out hb11)
    have HE := Lib.hid (CellsAt.of_own ho11 (cornS_ins L))
    clear hb11 ST10
    clear ho11
    go_wp2_with fail
    refine (sEqual_any w11.heap.size (cornS L).length (cornS L).length cc ec ca _ (cornS L) (cornS L) w11 (by omega) (by omega) HCO.out HE.out (Nat.le_refl _)).mono ?_
    rintro e w12 ⟨rfl, hb12⟩
    rw [eqb_same]
    have ST12 := Lib.hid (ST11.out.go hb12)
    replace HS := Lib.hid (at_go HS.out hb12)
    replace HX := Lib.hid (at_go HX.out hb12)
    replace HCO := Lib.hid (at_go HCO.out hb12)
    replace HY := Lib.hid (at_go HY.out hb12)
    replace HZ := Lib.hid (at_go HZ.out hb12)
    replace HE := Lib.hid (at_go HE.out hb12)
    clear hb12 ST11
    clear HE
    clear hbb
    obtain ⟨q, hq⟩ : ∃ q, okP (tx U) = q := ⟨_, rfl⟩
    rw [hq]
    clear hq
    cases b
    focus
      obtain ⟨w13, rfl⟩ : ∃ x, x = w12 := ⟨_, rfl⟩
      have ST13 := ST12
      clear ST12
    rotate_left
    focus
      go_wp2_with fail
      refine (sEqual_any w12.heap.size (parS (tx T)).length (cornS L).length xc cc xa ca (parS (tx T)) (cornS L) w12 (by omega) (by omega) HX.out HCO.out (Nat.le_refl _)).mono ?_
      rintro e w13 ⟨rfl, hb13⟩
      rw [HQ.out (by simp), eqb_same]
      have ST13 := Lib.hid (ST12.out.go hb13)
      replace HS := Lib.hid (at_go HS.out hb13)
      replace HX := Lib.hid (at_go HX.out hb13)
      replace HCO := Lib.hid (at_go HCO.out hb13)
      replace HY := Lib.hid (at_go HY.out hb13)
      replace HZ := Lib.hid (at_go HZ.out hb13)
      clear hb13 ST12
    all_goals
      have hqq : (q != q) = false := by simp
      have HTEST := hqq
      clear HX HCO
      go_wp2_with fail
      refine (sEqual_any w13.heap.size (parS (tx U)).length (parS (tx U)).length yc zc ya _ (parS (tx U)) (parS (tx U)) w13 (by omega) (by omega) HY.out HZ.out (Nat.le_refl _)).mono ?_
      rintro e w14 ⟨rfl, hb14⟩
      rw [eqb_same]
      have ST14 := Lib.hid (ST13.out.go hb14)
      replace HS := Lib.hid (at_go HS.out hb14)
      replace HY := Lib.hid (at_go HY.out hb14)
      replace HZ := Lib.hid (at_go HZ.out hb14)
      clear hb14 ST13
      clear HY HZ
      clear hqq HTEST HQ HP HT HIS hxl hyl
      go_wp2_with fail
      refine (dMove a0 len0 cap0 w14 ST14.out.2.1 hl0).mono ?_
      rintro e w15 ⟨ma, mn, mc, M, dx, dy, rfl, hdx1, hdx2, hdy1, hdy2, ha15, hmc, hmn, hb15⟩
      have ST15 := Lib.hid (ST14.out.go hb15)
      replace HS := Lib.hid (at_go HS.out hb15)
      have HM := Lib.hid (ha15)
      clear hb15 ST14
      clear ha15
      have hMn : M.length ≤ mn := Nat.le_of_eq HM.out.1
      have hvl := moveS_le' dx dy M
      go_wp2_with fail
      refine (iMoveShape w15.heap.size mn mc (some ma) M dx dy w15 (by omega) HM.out (Nat.le_refl _)).mono ?_
      rintro e w16 ⟨v, rfl, ho16, hb16⟩
      obtain ⟨da, dc, rfl⟩ := own_sl ho16
      have ST16 := Lib.hid (ST15.out.go hb16)
      replace HS := Lib.hid (at_go HS.out hb16)
      replace HM := Lib.hid (at_go HM.out hb16)
      have HD := Lib.hid (CellsAt.of_own ho16 (moveS_in' dx dy M))
      clear hb16 ST15
      clear ho16
      go_wp2_with fail
      refine (sMove w16.heap.size mn mc (some ma) M dx dy w16 (by omega) HM.out (Nat.le_refl _)).mono ?_
      rintro e w17 ⟨eg2, ec2, rfl, ho17, hb17⟩
      have ST17 := Lib.hid (ST16.out.go hb17)
      replace HS := Lib.hid (at_go HS.out hb17)
      replace HM := Lib.hid (at_go HM.out hb17)
      replace HD := Lib.hid (at_go HD.out hb17)
      have HE := Lib.hid (CellsAt.of_own ho17 (moveS_in' dx dy M))
      clear hb17 ST16
      clear ho17
      have HBM := Lib.hid (fun h => @back_move dx dy M h)
      obtain ⟨N, hN⟩ : ∃ N, moveS dx dy M = N := ⟨_, rfl⟩
      obtain ⟨m, hm⟩ : ∃ m, canMove dx dy M = m := ⟨_, rfl⟩
      rw [hN, hm] at HBM
      rw [hN] at HD HE hvl ⊢
      rw [hm]
      have HIN := Lib.hid (show ∀ c ∈ N, InC c from hN ▸ moveS_in' dx dy M)
      clear hN hm
      have hmm : (m != m) = false := by simp
      go_wp2_with fail
      refine (sEqual_any w17.heap.size N.length N.length dc ec2 da _ N N w17 (by omega) (by omega) HD.out HE.out (Nat.le_refl _)).mono ?_
      rintro e w18 ⟨rfl, hb18⟩
      rw [eqb_same]
      have ST18 := Lib.hid (ST17.out.go hb18)
      replace HS := Lib.hid (at_go HS.out hb18)
      replace HM := Lib.hid (at_go HM.out hb18)
      replace HD := Lib.hid (at_go HD.out hb18)
      replace HE := Lib.hid (at_go HE.out hb18)
      clear hb18 ST17
      clear HD
      clear hmm
      cases m
      focus
        obtain ⟨w23, rfl⟩ : ∃ x, x = w18 := ⟨_, rfl⟩
        have ST23 := ST18
        clear ST18
      rotate_left
      focus
        obtain ⟨hcm, hmb, hcn⟩ := HBM.out (by simp)
        have HCM := Lib.hid hcm
        have HMB := Lib.hid hmb
        have HCN := Lib.hid hcn
        clear hcm hmb hcn
        go_wp2_with fail
        refine (iMoveShape w18.heap.size N.length ec2 _ N (-dx) (-dy) w18 (by omega) HE.out (Nat.le_refl _)).mono ?_
        rintro e w19 ⟨v, rfl, ho19, hb19⟩
        obtain ⟨ka, kc, rfl⟩ := own_sl ho19
        rw [HCM.out]
        have ST19 := Lib.hid (ST18.out.go hb19)
        replace HS := Lib.hid (at_go HS.out hb19)
        replace HM := Lib.hid (at_go HM.out hb19)
        replace HE := Lib.hid (at_go HE.out hb19)
        have HK := Lib.hid (CellsAt.of_own ho19 (by rw [HMB.out]; exact HM.out.2.1))
        clear hb19 ST18
        clear ho19
        rw [HMB.out] at HK ⊢
        go_wp2_with fail
        refine (sEqual_any w19.heap.size M.length mn kc mc ka _ M M w19 (by omega) (by omega) HK.out HM.out (Nat.le_refl _)).mono ?_
        rintro e w20 ⟨rfl, hb20⟩
        rw [eqb_same]
        have ST20 := Lib.hid (ST19.out.go hb20)
        replace HS := Lib.hid (at_go HS.out hb20)
        replace HM := Lib.hid (at_go HM.out hb20)
        replace HE := Lib.hid (at_go HE.out hb20)
        replace HK := Lib.hid (at_go HK.out hb20)
        clear hb20 ST19
        clear HK
        go_wp2_with fail
        refine (iCorner w20.heap.size N.length ec2 _ N w20 (by omega) HE.out (Nat.le_refl _)).mono ?_
        rintro e w21 ⟨v, rfl, ho21, hb21⟩
        obtain ⟨ka, kc2, rfl⟩ := own_sl ho21
        have ST21 := Lib.hid (ST20.out.go hb21)
        replace HS := Lib.hid (at_go HS.out hb21)
        replace HM := Lib.hid (at_go HM.out hb21)
        replace HE := Lib.hid (at_go HE.out hb21)
        have HK := Lib.hid (CellsAt.of_own ho21 (cornS_ins N))
        clear hb21 ST20
        clear ho21
        rw [HCN.out] at HK ⊢
        have hcl2 := cornS_len M
        go_wp2_with fail
        refine (sCornerShape w21.heap.size mn mc _ M w21 (by omega) HM.out (Nat.le_refl _)).mono ?_
        rintro e w22 ⟨jg, jc, rfl, ho22, hb22⟩
        have ST22 := Lib.hid (ST21.out.go hb22)
        replace HS := Lib.hid (at_go HS.out hb22)
        replace HM := Lib.hid (at_go HM.out hb22)
        replace HE := Lib.hid (at_go HE.out hb22)
        replace HK := Lib.hid (at_go HK.out hb22)
        have HJ := Lib.hid (CellsAt.of_own ho22 (cornS_ins M))
        clear hb22 ST21
        clear ho22
        go_wp2_with fail
        refine (sEqual_any w22.heap.size (cornS M).length (cornS M).length kc2 jc ka _ (cornS M) (cornS M) w22 (by omega) (by omega) HK.out HJ.out (Nat.le_refl _)).mono ?_
        rintro e w23 ⟨rfl, hb23⟩
        rw [eqb_same]
        have ST23 := Lib.hid (ST22.out.go hb23)
        replace HS := Lib.hid (at_go HS.out hb23)
        replace HM := Lib.hid (at_go HM.out hb23)
        replace HE := Lib.hid (at_go HE.out hb23)
        replace HK := Lib.hid (at_go HK.out hb23)
        replace HJ := Lib.hid (at_go HJ.out hb23)
        clear hb23 ST22
        clear HK HJ
        clear HCM HMB HCN hcl2
      all_goals
        clear HE HM
        clear HBM HIN hvl hdx1 hdx2 hdy1 hdy2
        go_wp2_with fail
        refine (iSize w23.heap.size sn sc (some sa) L w23 (by omega) HS.out (Nat.le_refl _)).mono ?_
        rintro e w24 ⟨rfl, hb24⟩
        have ST24 := Lib.hid (ST23.out.go hb24)
        replace HS := Lib.hid (at_go HS.out hb24)
        clear hb24 ST23
        go_wp2_with fail
        refine (sSize w24.heap.size sn sc (some sa) L w24 (by omega) HS.out (Nat.le_refl _)).mono ?_
        rintro e w25 ⟨rfl, hb25⟩
        have ST25 := Lib.hid (ST24.out.go hb25)
        replace HS := Lib.hid (at_go HS.out hb25)
        clear hb25 ST24
        clear HS
        go_wp2_with fail
        refine (dSort a0 len0 cap0 w25 ST25.out.2.1 hl0).mono ?_
        rintro e w26 ⟨fb, fo, fn, fc, F, rfl, ha26, hfn1, hfc, hfn, hb26⟩
        have ST26 := Lib.hid (ST25.out.go hb26)
        have HF := Lib.hid (ha26)
        clear hb26 ST25
        clear ha26
        have hFn : F.length ≤ fn := Nat.le_of_eq HF.out.1
        have hFl := sortU_len F
        go_wp2_with fail
        refine (dCon a0 len0 cap0 w26 ST26.out.2.1 hl0).mono ?_
        rintro e w27 ⟨ga, gn, gc, G, rfl, ha27, hgc, hgn, hb27⟩
        have ST27 := Lib.hid (ST26.out.go hb27)
        replace HF := Lib.hid (at_go HF.out hb27)
        have HG := Lib.hid (ha27)
        clear hb27 ST26
        clear ha27
        go_wp2_with fail
        refine (dHas a0 len0 cap0 w27 ST27.out.2.1 hl0).mono ?_
        rintro e w28 ⟨ia, inn, ic, I, px, py, rfl, hpx1, hpx2, hpy1, hpy2, ha28, hic, hin, hb28⟩
        have ST28 := Lib.hid (ST27.out.go hb28)
        replace HF := Lib.hid (at_go HF.out hb28)
        replace HG := Lib.hid (at_go HG.out hb28)
        have HI := Lib.hid (ha28)
        clear hb28 ST27
        clear ha28
        go_wp2_with fail
        refine (dEq a0 len0 cap0 w28 ST28.out.2.1 hl0).mono ?_
        rintro e w29 ⟨ua, un, uc, A1, va, vn, vc, A2, rfl, ha29, hun, HV, hvn, hb29⟩
        have ST29 := Lib.hid (ST28.out.go hb29)
        replace HF := Lib.hid (at_go HF.out hb29)
        replace HG := Lib.hid (at_go HG.out hb29)
        replace HI := Lib.hid (at_go HI.out hb29)
        have HU := Lib.hid (ha29)
        have HV2 := Lib.hid (HV)
        clear hb29 ST28
        clear ha29 HV
        go_wp2_with fail
        refine (iSort_c fb fo fn fc F w29 (by omega) hfn1 HF.out).mono ?_
        rintro e w30 ⟨v, rfl, ho30, hb30⟩
        obtain ⟨fa1, fc1, rfl⟩ := own_sl ho30
        have ST30 := Lib.hid (ST29.out.go hb30)
        replace HF := Lib.hid (at_go HF.out hb30)
        replace HG := Lib.hid (at_go HG.out hb30)
        replace HI := Lib.hid (at_go HI.out hb30)
        replace HU := Lib.hid (at_go HU.out hb30)
        replace HV2 := Lib.hid (at_go HV2.out hb30)
        have HFI := Lib.hid (CellsAt.of_own ho30 (sortU_in HF.out.2.1))
        clear hb30 ST29
        clear ho30
        go_wp2_with fail
        refine (sSort w30.heap.size fn fc _ F w30 (by omega) HF.out (Nat.le_refl _)).mono ?_
        rintro e w31 ⟨fg2, fc2, rfl, ho31, hb31⟩
        have ST31 := Lib.hid (ST30.out.go hb31)
        replace HF := Lib.hid (at_go HF.out hb31)
        replace HG := Lib.hid (at_go HG.out hb31)
        replace HI := Lib.hid (at_go HI.out hb31)
        replace HU := Lib.hid (at_go HU.out hb31)
        replace HV2 := Lib.hid (at_go HV2.out hb31)
        replace HFI := Lib.hid (at_go HFI.out hb31)
        have HFS := Lib.hid (CellsAt.of_own ho31 (sortU_in HF.out.2.1))
        clear hb31 ST30
        clear ho31
        go_wp2_with fail
        refine (sEqual_any w31.heap.size (sortU F).length (sortU F).length fc1 fc2 fa1 _ (sortU F) (sortU F) w31 (by omega) (by omega) HFI.out HFS.out (Nat.le_refl _)).mono ?_
        rintro e w32 ⟨rfl, hb32⟩
        rw [eqb_same]
        have ST32 := Lib.hid (ST31.out.go hb32)
        replace HF := Lib.hid (at_go HF.out hb32)
        replace HG := Lib.hid (at_go HG.out hb32)
        replace HI := Lib.hid (at_go HI.out hb32)
        replace HU := Lib.hid (at_go HU.out hb32)
        replace HV2 := Lib.hid (at_go HV2.out hb32)
        replace HFI := Lib.hid (at_go HFI.out hb32)
        replace HFS := Lib.hid (at_go HFS.out hb32)
        clear hb32 ST31
        clear HFI HFS HF
        go_wp2_with fail
        refine (iConn w32.heap.size gn gc (some ga) G w32 (by omega) hgc HG.out (Nat.le_refl _)).mono ?_
        rintro e w33 ⟨t1, rfl, hi1, hb33⟩
        have ST33 := Lib.hid (ST32.out.go hb33)
        replace HG := Lib.hid (at_go HG.out hb33)
        replace HI := Lib.hid (at_go HI.out hb33)
        replace HU := Lib.hid (at_go HU.out hb33)
        replace HV2 := Lib.hid (at_go HV2.out hb33)
        clear hb33 ST32
        go_wp2_with fail
        refine (sConn w33.heap.size gn gc (some ga) G w33 (by omega) HG.out (Nat.le_refl _)).mono ?_
        rintro e w34 ⟨t2, rfl, hi2, hb34⟩
        obtain rfl : t2 = t1 := by rw [Bool.eq_iff_iff, hi2, hi1]
        clear hi1 hi2
        have htt : (t2 == t2) = true := by simp
        have ST34 := Lib.hid (ST33.out.go hb34)
        replace HG := Lib.hid (at_go HG.out hb34)
        replace HI := Lib.hid (at_go HI.out hb34)
        replace HU := Lib.hid (at_go HU.out hb34)
        replace HV2 := Lib.hid (at_go HV2.out hb34)
        clear hb34 ST33
        clear HG
        go_wp2_with fail
        refine (iHasCell w34.heap.size inn ic (some ia) I px py w34 (by omega) HI.out (Nat.le_refl _)).mono ?_
        rintro e w35 ⟨rfl, hb35⟩
        have ST35 := Lib.hid (ST34.out.go hb35)
        replace HI := Lib.hid (at_go HI.out hb35)
        replace HU := Lib.hid (at_go HU.out hb35)
        replace HV2 := Lib.hid (at_go HV2.out hb35)
        clear hb35 ST34
        go_wp2_with fail
        refine (sHasCell w35.heap.size inn ic (some ia) I px py w35 (by omega) HI.out).mono ?_
        rintro e w9 ⟨rfl, rfl⟩
        obtain ⟨hh, hhe⟩ : ∃ h, hasC I px py = h := ⟨_, rfl⟩
        rw [hhe]
        clear hhe htt
        have hht : (hh == hh) = true := by simp
        go_wp2_with fail
        refine (iEqual_any w35.heap.size un vn uc vc (some ua) (some va) A1 A2 w35 (by omega) (by omega) HU.out HV2.out (Nat.le_refl _)).mono ?_
        rintro e w36 ⟨rfl, hb36⟩
        have ST36 := Lib.hid (ST35.out.go hb36)
        replace HI := Lib.hid (at_go HI.out hb36)
        replace HU := Lib.hid (at_go HU.out hb36)
        replace HV2 := Lib.hid (at_go HV2.out hb36)
        clear hb36 ST35
        go_wp2_with fail
        refine (sEqual_any w36.heap.size un vn uc vc (some ua) (some va) A1 A2 w36 (by omega) (by omega) HU.out HV2.out (Nat.le_refl _)).mono ?_
        rintro e w37 ⟨rfl, hb37⟩
        have ST37 := Lib.hid (ST36.out.go hb37)
        replace HI := Lib.hid (at_go HI.out hb37)
        replace HU := Lib.hid (at_go HU.out hb37)
        replace HV2 := Lib.hid (at_go HV2.out hb37)
        clear hb37 ST36
        obtain ⟨ee, hee⟩ : ∃ h, eqb A1 A2 = h := ⟨_, rfl⟩
        rw [hee]
        clear hee hht
        have het : (ee == ee) = true := by simp
        go_wp2
        go_ret
        exact ⟨rfl, ST37.out.1⟩

/-- The library's variable holds a number, by the shape of the world in which the call begins. -/
theorem mx_of_shape {W : World} (h : W.ShapedOpen Tryz.prog) : Mx W := Tryz.laysM146.s1_3 W h

end Go.Proofs.YtihjcifpihkpoaaGreatDoor
