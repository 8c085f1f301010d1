/-
  Motions back again, in the model.
-/
import Derived.Test.YtecfabhpjihcbaaGreatMo6
namespace Go.Proofs.YtecfabhpjihcbaaGreat
open Go.RowKit

set_option maxHeartbeats 1000000 in
set_option maxRecDepth 100000 in
theorem sInv (m : Int) (w : World) :
    Calls Tryz.prog 9 #[.int .i64 m] w fun e w' => e = .returned (.int .i64 (invI m)) ∧ Below w.heap.size w w' := by
  have HI : Hid (invI m = match (List.range 8).find? (fun k : Nat => decide (compI m (k : Int) = 0)) with | some k => (k : Int) | none => -1) := rfl
  go_enter Tryz.func9, Tryz.ntmps9
  go_wp2
  go_loopw [3] (fun i wr => ∃ k : Nat, k ≤ 8 ∧ i = .int .i64 k ∧ Hid (∀ j, j < k → (fun k : Nat => decide (compI m (k : Int) = 0)) j = false) ∧ Below w.heap.size w wr) (fun i _ => 8 - (intOf i).toNat)
  case atStart => exact ⟨0, by omega, rfl, fun j hj => by omega, Below.refl _ _⟩
  case round =>
    obtain ⟨k, hk, rfl, hal, hb⟩ := hrel
    by_cases hlt : k < 8
    · have hk1 : (k : Int) < 8 := by omega
      have HA := Lib.hid hal.out
      have hc := sComp m (k : Int)
      obtain ⟨c, hcc⟩ : ∃ c, compI m (k : Int) = c := ⟨_, rfl⟩
      rw [hcc] at hc
      have HC := Lib.hid hcc
      clear hal hcc
      by_cases h0 : c = 0
      · subst h0
        go_wp2_with fail
        refine (hc _).mono ?_
        rintro e w2 ⟨rfl, hb2⟩
        have HR : Hid ((k : Int) = invI m) := by
          rw [HI.out, fnd_yes hlt (by show decide (compI m (k : Int) = 0) = true; rw [HC.out]; rfl) HA.out]
          exact rfl
        have HB := Lib.hid (hb.trans (hb2.mono hb.size))
        clear HI HA HC hc hb hb2
        go_wp2
        go_ret
        exact ⟨ret_I HR.out, HB.out⟩
      · have h0b : (c == 0) = false := by rw [beq_eq_false_iff_ne]; exact h0
        go_wp2_with fail
        refine (hc _).mono ?_
        rintro e w2 ⟨rfl, hb2⟩
        have hnx : ∀ j, j < k + 1 → (fun k : Nat => decide (compI m (k : Int) = 0)) j = false := by
          intro j hj
          by_cases e : j = k
          · subst e
            show decide (compI m (j : Int) = 0) = false
            rw [HC.out]
            exact decide_eq_false h0
          · exact HA.out j (by omega)
        have HNX := Lib.hid hnx
        have HB := Lib.hid (hb.trans (hb2.mono hb.size))
        clear HI HA HC hc hb hb2 hnx
        go_wp2
        go_roundw
        case rel => exact ⟨k + 1, by omega, by go_num, HNX.out, HB.out⟩
        case measure => simp [intOf]; omega
    · obtain rfl : k = 8 := by omega
      have HR : Hid ((-1 : Int) = invI m) := by
        rw [HI.out, fnd_no hal.out]
        exact rfl
      clear HI hal
      go_wp2
      go_ret
      exact ⟨ret_I HR.out, hb⟩

end Go.Proofs.YtecfabhpjihcbaaGreat
