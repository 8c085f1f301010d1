/-
  Products and bits within bounds: small facts that both sides share.
  Are these weights; a number for each placement that has a place; stripes: in the program: what each call gives.
-/
import Derived.Test.YtkcclhnligajeaaDoorVak
import Derived.Test.YtkcclhnligajeaaDoorVaj
namespace Go.Proofs.YtkcclhnligajeaaDoor

section
theorem mul_36 {N n : Nat} (h1 : N ≤ 6) (h2 : n ≤ 6) : (N : Int) * (n : Int) = ((N * n : Nat) : Int) ∧ 0 ≤ (N : Int) * (n : Int) ∧ (N : Int) * (n : Int) ≤ 36 := by
  have h3 := Nat.mul_le_mul h1 h2
  have h4 : (N : Int) * (n : Int) = ((N * n : Nat) : Int) := by push_cast; rfl
  rw [h4]
  omega
theorem shr_bitW (m j : Nat) (hm : m < 68719476736) : ∃ t : Nat, (m : Int) / (2 : Int) ^ j = (t : Int) ∧ t ≤ m ∧ bits .and .i64 (t : Int) 1 = (if m.testBit j = true then 1 else 0) := by
  refine ⟨m / 2 ^ j, by simp, Nat.div_le_self _ _, ?_⟩
  have h := bit_val (m := m) j (by omega)
  rw [h]
  cases m.testBit j <;> rfl
theorem own_form {w : World} {B size n : Nat} {t : TypeId} {v : Value} {xs : List Value} (h : w.ownsRow B t size v n xs) : ∃ a c, v = .slice a n c := by
  rcases h.2 with ⟨rfl, rfl⟩ | ⟨g, cap, cur, rfl, _⟩
  · exact ⟨_, _, rfl⟩
  · exact ⟨_, _, rfl⟩
theorem mul_56 {x : Int} {k : Nat} (hx : 0 ≤ x ∧ x < 5) (hk : k ≤ 36) : 0 ≤ x * (k : Int) ∧ x * (k : Int) ≤ 180 := by
  have h1 := Int.mul_nonneg hx.1 (show 0 ≤ (k : Int) by omega)
  have h2 : x * (k : Int) ≤ 5 * (k : Int) := Int.mul_le_mul_of_nonneg_right (by omega) (by omega)
  omega
end

section
open Go.RowKit

set_option maxHeartbeats 1000000 in
theorem iPlc (N n cap : Nat) (a : Option Addr) (l : List Int) (w : World) (hr : Rg N n l) :
    Calls Tryd.prog 22 #[.agg #[.int .i64 N, .slice a n cap]] w fun e w' => e = .returned (.int .i64 (plcN N l : Nat)) ∧ Below w.heap.size w w' := by
  have hm := mul_36 hr.w6 hr.h6
  have HM := Lib.hid (show (N : Int) * (n : Int) = ((plcN N l : Nat) : Int) from by rw [hm.1, plcN_rg hr])
  have hm2 := hm.2
  have hb0 := (Below.refl w.heap.size w).alloc (Nat.le_refl _) (.cells #[.int .i64 N, .slice a n cap] 27)
  clear hm
  go_enter Tryd.func22, Tryd.ntmps22
  go_wp2
  go_ret
  refine ⟨?_, hb0⟩
  rw [← HM.out]
  rfl
set_option maxHeartbeats 4000000 in
set_option maxRecDepth 100000 in
theorem iAreW (B n cap m3 cap3 : Nat) (a a3 : Option Addr) (W : Int) (l ws : List Int) (p : Int) (w : World) (hn : n ≤ 4194304) (hm : m3 ≤ 4194304) (hc : IntsAt B w a n l) (hw : IntsAt B w a3 m3 ws) (hB : B ≤ w.heap.size) :
    Calls Tryd.prog 14 #[.agg #[.int .i64 W, .slice a n cap], .slice a3 m3 cap3, .int .i64 p] w fun e w' => e = .returned (.bool (areW W l ws p)) ∧ Below w.heap.size w w' := by
  have H := Lib.hid hc
  have HW := Lib.hid hw
  have hln := hc.1
  have hlw := hw.1
  clear hc hw
  have hb0 := (Below.refl w.heap.size w).alloc (Nat.le_refl _) (.cells #[.int .i64 W, .slice a n cap] 27)
  have hbox0 := RgAt.new (w := w) W (.slice a n cap) rfl
  have c0 := hbox0.c0
  have c1 := hbox0.c1
  have HA := Lib.hid hb0
  cases h1 : isReg W l with
  | false =>
    have HO := Lib.hid (show areW W l ws p = false from by unfold areW; rw [h1]; rfl)
    have HI := Lib.hid h1
    rw [HO.out]
    clear h1
    go_enter Tryd.func14, Tryd.ntmps14
    go_wp2_with fail
    refine (iIsReg B n cap a W l _ hn (H.out.on (hb0.mono hB)) (Nat.le_trans hB hb0.size)).mono ?_
    rintro e w1 ⟨rfl, hb⟩
    rw [HI.out]
    go_wp2
    go_ret
    exact ⟨rfl, hb0.trans (hb.mono hb0.size)⟩
  | true =>
    have HI := Lib.hid h1
    obtain ⟨N, rfl, hr⟩ := isReg_out h1
    rw [hln] at hr
    have HR := Lib.hid hr
    cases h2 : prmB p with
    | false =>
      have HO := Lib.hid (show areW N l ws p = false from by unfold areW; rw [h1, h2]; rfl)
      have HP := Lib.hid h2
      rw [HO.out]
      clear h1 h2 hr
      go_enter Tryd.func14, Tryd.ntmps14
      go_wp2_with fail
      refine (iIsReg B n cap a N l _ hn (H.out.on (hb0.mono hB)) (Nat.le_trans hB hb0.size)).mono ?_
      rintro e w1 ⟨rfl, hb⟩
      rw [HI.out]
      have HB1 := Lib.hid (hb0.trans (hb.mono hb0.size))
      clear hb hb0 c0 c1 hbox0
      go_wp2_with fail
      refine (iPrm p w1).mono ?_
      rintro e w2 ⟨rfl, rfl⟩
      rw [HP.out]
      go_wp2
      go_ret
      exact ⟨rfl, HB1.out⟩
    | true =>
      have HP := Lib.hid h2
      have HE := Lib.hid (show areW N l ws p = (decide (m3 = plcN N l) && inPW p ws) from by unfold areW; rw [h1, h2, hlw]; rfl)
      have hpb := plcN_bd hr
      obtain ⟨t, ht⟩ : ∃ t, plcN N l = t := ⟨_, rfl⟩
      have HT := Lib.hid ht
      rw [ht] at HE hpb
      clear h1 h2 hr ht
      rw [HE.out]
      go_enter Tryd.func14, Tryd.ntmps14
      go_wp2_with fail
      refine (iIsReg B n cap a N l _ hn (H.out.on (hb0.mono hB)) (Nat.le_trans hB hb0.size)).mono ?_
      rintro e w1 ⟨rfl, hb⟩
      rw [HI.out]
      have HB1 := Lib.hid (hb0.trans (hb.mono hb0.size))
      have hbx := hbox0.on hb hbox0.lt
      clear hb hb0 c0 c1 hbox0
      have c0 := hbx.c0
      have c1 := hbx.c1
      go_wp2_with fail
      refine (iPrm p w1).mono ?_
      rintro e w2 ⟨rfl, rfl⟩
      rw [HP.out]
      go_wp2_with fail
      refine (iPlc N n cap a l w2 HR.out).mono ?_
      rintro e w3 ⟨rfl, hb⟩
      rw [HT.out]
      have HB3 := Lib.hid (HB1.out.trans (hb.mono HB1.out.size))
      clear hb c0 c1 hbx
      by_cases hl : m3 = t
      · have hb : ((m3 : Int) == (t : Int)) = true := by simp [hl]
        have HD := Lib.hid (show decide (m3 = t) = true from decide_eq_true hl)
        clear hl
        go_wp2_with fail
        refine (iHasAll w3.heap.size m3 cap3 a3 ws p w3 hm ((HW.out.on (HB3.out.mono hB)).more (Nat.le_trans hB HB3.out.size)) (Nat.le_refl _)).mono ?_
        rintro e w4 ⟨rfl, hb4⟩
        have HB4 := Lib.hid (HB3.out.trans (hb4.mono HB3.out.size))
        clear hb4
        go_wp2
        go_ret
        exact ⟨by rw [HD.out, Bool.true_and]; rfl, HB4.out⟩
      · have hb : ((m3 : Int) == (t : Int)) = false := by simp; omega
        have HD := Lib.hid (show decide (m3 = t) = false from decide_eq_false hl)
        clear hl
        go_wp2
        go_ret
        exact ⟨by rw [HD.out]; rfl, HB3.out⟩
end

end Go.Proofs.YtkcclhnligajeaaDoor
