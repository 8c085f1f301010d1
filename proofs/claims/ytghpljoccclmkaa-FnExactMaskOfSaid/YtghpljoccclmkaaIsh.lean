/-
  What a shape is, in the program: what the call gives.
-/
import Derived.Test.YtghpljoccclmkaaIsm
import Derived.BigQuiet
namespace Go.Proofs.Ytghpljoccclmkaa
open Go.RowKit

theorem isShape_few {l : List Cl} (h : l.length = 0 ∨ 8 < l.length) : isShape l = false := by
  unfold isShape inb
  rw [Bool.and_eq_false_iff]
  right
  rw [Bool.and_eq_false_iff, decide_eq_false_iff_not, decide_eq_false_iff_not]
  omega

set_option maxHeartbeats 2000000 in
set_option maxRecDepth 100000 in
theorem iIsShape (B n cap : Nat) (a : Option Addr) (l : List Cl) (w : World) (hn : n ≤ 4194304) (hc : CellsAt B w a n l) (hB : B ≤ w.heap.size) :
    Calls Try.prog 34 #[.slice a n cap] w fun e w' => e = .returned (.bool (isShape l)) ∧ Below w.heap.size w w' := by
  have H := Lib.hid hc
  clear hc
  by_cases h0 : n = 0 ∨ 8 < n
  · have hno : isShape l = false := isShape_few (by rw [H.out.1]; exact h0)
    rw [hno]
    rcases h0 with h0 | h0
    · subst h0
      go_enter Try.func34, Try.ntmps34
      go_wp2
      go_ret
      exact ⟨rfl, Below.refl _ _⟩
    · have h1 : ((n : Int) == 0) = false := by simp; omega
      go_enter Try.func34, Try.ntmps34
      go_wp2
      go_ret
      exact ⟨rfl, Below.refl _ _⟩
  have h1 : ((n : Int) == 0) = false := by simp; omega
  have h8 : n ≤ 8 := by omega
  have h00 : 0 < n := by omega
  clear h0
  go_enter Try.func34, Try.ntmps34
  go_wp2
  go_loopw [15] (fun i wr => ∃ k : Nat, k ≤ n ∧ i = .int .i64 k ∧ Hid (okTo l k = true) ∧ Below w.heap.size w wr) (fun i _ => n - (intOf i).toNat)
  case atStart => exact ⟨0, by omega, rfl, by simp [Hid, okTo], Below.refl _ _⟩
  case round =>
    obtain ⟨k, hk, rfl, hok, hb⟩ := hrel
    have hsz := hb.size
    clear h1
    by_cases hlt : k < n
    · obtain ⟨b1, o1, rfl, hb1, hc1⟩ := H.out.2.2 (by omega)
      obtain ⟨x, y, hxy⟩ : ∃ x y, l.getD k (0, 0) = (x, y) := ⟨_, _, rfl⟩
      have p1 := (hb.cell (p := ⟨b1, o1 + k * 2, none⟩) (Nat.lt_of_lt_of_le hb1 hB)).trans (hc1 k hlt).1
      have p2 := (hb.cell (p := ⟨b1, o1 + k * 2 + 1, none⟩) (Nat.lt_of_lt_of_le hb1 hB)).trans (hc1 k hlt).2
      rw [hxy] at p1 p2
      have HX := Lib.hid hxy
      have hkz : (0 : Int) ≤ (k : Int) := by omega
      have hk1 : (k : Int) < (n : Int) := by omega
      have hbl : b1 < wr.heap.size := by omega
      clear hxy
      by_cases hA : inb x 0 7 = true
      · by_cases hA2 : inb y 0 7 = true
        · by_cases hk0 : 0 < k
          · obtain ⟨u, v, huv⟩ : ∃ u v, l.getD (k - 1) (0, 0) = (u, v) := ⟨_, _, rfl⟩
            have q1 := (hb.cell (p := ⟨b1, o1 + (k - 1) * 2, none⟩) (Nat.lt_of_lt_of_le hb1 hB)).trans (hc1 (k - 1) (by omega)).1
            have q2 := (hb.cell (p := ⟨b1, o1 + (k - 1) * 2 + 1, none⟩) (Nat.lt_of_lt_of_le hb1 hB)).trans (hc1 (k - 1) (by omega)).2
            rw [huv] at q1 q2
            have HU := Lib.hid huv
            have hj0 : (1 : Int) ≤ (k : Int) := by omega
            have hj2 : (k : Int) - 1 < (n : Int) := by omega
            have hj3 : (0 : Int) ≤ (k : Int) - 1 := by omega
            have hj4 : ((k : Int) - 1).toNat = k - 1 := by omega
            have hj : IntKind.i64.wrap ((k : Int) - 1) = (k : Int) - 1 := IntWalk.i64_in _ (by omega)
            have hcmp : ∀ w', Calls Try.prog 41 #[.agg #[.int .i64 u, .int .i64 v], .agg #[.int .i64 x, .int .i64 y]] w' _ := fun w' => iCompare u v x y w'
            obtain ⟨r, hr⟩ : ∃ r, cmpC (u, v) (x, y) = r := ⟨_, rfl⟩
            rw [hr] at hcmp
            have HR := Lib.hid hr
            clear huv hc1 hr
            go_wp2_with fail
            go_region_held3 (fun w' => w'.cell? ⟨wr.heap.size, 0, none⟩ = some (.int .i64 x) ∧ w'.cell? ⟨wr.heap.size, 1, none⟩ = some (.int .i64 y) ∧ w'.cell? ⟨b1, o1 + (k - 1) * 2, none⟩ = some (.int .i64 u) ∧ w'.cell? ⟨b1, o1 + (k - 1) * 2 + 1, none⟩ = some (.int .i64 v))
              (first | go_keep | exact ⟨(hbe.cell (p := ⟨wr.heap.size, 0, none⟩) (by simp)).trans (by go_keep), (hbe.cell (p := ⟨wr.heap.size, 1, none⟩) (by simp)).trans (by go_keep), (hbe.cell (p := ⟨b1, o1 + (k - 1) * 2, none⟩) (by simp; omega)).trans (by go_keep), (hbe.cell (p := ⟨b1, o1 + (k - 1) * 2 + 1, none⟩) (by simp; omega)).trans (by go_keep)⟩)
              (first | (go_at_call 40; refine (iPlace _ _).mono ?_; rintro e w' ⟨rfl, rfl⟩) | (go_at_call 41; refine (hcmp _).mono ?_; rintro e w' ⟨rfl, _, hbe⟩))
            all_goals go_wp2
            all_goals
              rename_i hcase
              have hbb := (hb.alloc hsz (.cells #[.int .i64 x, .int .i64 y] 52)).drew.trans (hbe.mono (by simp; omega))
              have HBB := Lib.hid hbb
              have hbf := cmpC_neg (u, v) (x, y)
              rw [HR.out] at hbf
              clear hbb hcmp
              first
                | (have e : okAt l k = false := by
                     unfold okAt
                     rw [HX.out, HU.out, ← hbf]
                     simp
                     omega
                   have hno : isShape l = false := by
                     unfold isShape
                     rw [okTo_no (by rw [H.out.1]; exact hlt) e]
                     rfl
                   go_ret
                   exact ⟨by rw [hno]; rfl, HBB.out⟩)
                | (have e : okTo l (k + 1) = true := by
                     have e : okAt l k = true := by
                       unfold okAt inP
                       rw [HX.out, HU.out, ← hbf]
                       simp [hA, hA2]
                       omega
                     rw [okTo_succ, e, hok.out]
                     rfl
                   have HE := Lib.hid e
                   clear e hbf
                   go_roundw
                   case rel => exact ⟨k + 1, by omega, by go_num, HE.out, HBB.out⟩
                   case measure => simp [intOf]; omega)
          · have hyes : okTo l (k + 1) = true := by
              have e : okAt l k = true := by unfold okAt inP; rw [HX.out]; simp [hA, hA2]; omega
              rw [okTo_succ, e, hok.out]; rfl
            have hd : decide ((0 : Int) < (k : Int)) = false := by simp; omega
            go_wp2_with fail
            go_quiet (first | (go_at_call 40; refine quiet_same (iPlace _ _)))
            go_wp2
            clear hd
            go_roundw
            case rel => exact ⟨k + 1, by omega, by go_num, hyes, below_drewn (hb.alloc hsz _) _⟩
            case measure => simp [intOf]; omega
        · have hA' : inb y 0 7 = false := by simpa using hA2
          clear hA2
          have hno : isShape l = false := by
            have e : okAt l k = false := by unfold okAt inP; rw [HX.out]; simp [hA']
            unfold isShape
            rw [okTo_no (by rw [H.out.1]; exact hlt) e]
            rfl
          go_wp2_with fail
          go_quiet (first | (go_at_call 40; refine quiet_same (iPlace _ _)))
          go_wp2
          go_ret
          exact ⟨by rw [hno]; rfl, below_drewn (hb.alloc hsz _) _⟩
      · have hA' : inb x 0 7 = false := by simpa using hA
        clear hA
        have hno : isShape l = false := by
          have e : okAt l k = false := by unfold okAt inP; rw [HX.out]; simp [hA']
          unfold isShape
          rw [okTo_no (by rw [H.out.1]; exact hlt) e]
          rfl
        go_wp2_with fail
        go_quiet (first | (go_at_call 40; refine quiet_same (iPlace _ _)))
        go_wp2
        go_ret
        exact ⟨by rw [hno]; rfl, below_drewn (hb.alloc hsz _) _⟩
    · obtain rfl : k = n := by omega
      have he : isShape l = true := by
        have := hok.out
        unfold isShape
        rw [H.out.1, this]
        simp [inb]
        omega
      go_wp2
      go_ret
      exact ⟨by rw [he]; rfl, hb⟩

end Go.Proofs.Ytghpljoccclmkaa
