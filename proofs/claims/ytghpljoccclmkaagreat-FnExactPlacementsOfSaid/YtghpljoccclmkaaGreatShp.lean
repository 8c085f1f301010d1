/-
  Order of cells and what a shape is, in the model: what each call gives.
-/
import Derived.Test.YtghpljoccclmkaaGreatCmk
import Derived.Deep.RegionHeld3
import Derived.IntWalk
import Derived.Laws.StructEq
namespace Go.Proofs.YtghpljoccclmkaaGreat
open Go.RowKit

theorem quiet_same {P : Program} {f : FuncId} {args : Array Value} {w : World} {n : Nat} {v : Value} (h : Calls P f args (w.drewN n) fun e w' => e = .returned v ∧ w.drewN n = w') : Calls P f args (w.drewN n) fun e w'' => e = .returned v ∧ ∃ m, w'' = w.drewN m :=
  h.mono fun _ _ ⟨he, hm⟩ => ⟨he, n, hm.symm⟩
theorem below_drewn {B : Nat} {w w' : World} (h : Below B w w') (n : Nat) : Below B w (w'.drewN n) := ⟨h.os, h.tape, h.output, h.size, h.block⟩

theorem sIn (x lo hi : Int) (w : World) : Calls Tryz.prog 48 #[.int .i64 x, .int .i64 lo, .int .i64 hi] w fun e w' => e = .returned (.bool (inb x lo hi)) ∧ w = w' := by
  unfold inb
  by_cases h1 : lo ≤ x
  · go_enter Tryz.func48, Tryz.ntmps48
    go_wp2
    go_ret
    exact ⟨by simp [h1], rfl⟩
  · go_enter Tryz.func48, Tryz.ntmps48
    go_wp2
    go_ret
    exact ⟨by simp; omega, rfl⟩

theorem sBefore (x y u v : Int) (w : World) : Calls Tryz.prog 67 #[.agg #[.int .i64 x, .int .i64 y], .agg #[.int .i64 u, .int .i64 v]] w fun e w' => e = .returned (.bool (bef (x, y) (u, v))) ∧ Below w.heap.size w w' := by
  unfold bef
  dsimp only
  by_cases h1 : y < v
  · go_enter Tryz.func67, Tryz.ntmps67
    go_wp2
    go_ret
    exact ⟨by simp [h1], ((Below.refl _ _).alloc (Nat.le_refl _) _).alloc (by simp) _⟩
  · by_cases h2 : y = v
    · subst h2
      by_cases h3 : x < u
      · go_enter Tryz.func67, Tryz.ntmps67
        go_wp2
        go_ret
        exact ⟨by simp, ((Below.refl _ _).alloc (Nat.le_refl _) _).alloc (by simp) _⟩
      · go_enter Tryz.func67, Tryz.ntmps67
        go_wp2
        go_ret
        exact ⟨by simp [h3], ((Below.refl _ _).alloc (Nat.le_refl _) _).alloc (by simp) _⟩
    · have e2 : (y == v) = false := by simp [h2]
      go_enter Tryz.func67, Tryz.ntmps67
      go_wp2
      go_ret
      exact ⟨by simp [h1], ((Below.refl _ _).alloc (Nat.le_refl _) _).alloc (by simp) _⟩

theorem okTo_succ (l : List Cl) (k : Nat) : okTo l (k + 1) = (okTo l k && okAt l k) := by
  unfold okTo
  rw [List.range_succ, List.all_append]
  simp
theorem okTo_no {l : List Cl} {k n : Nat} (h : k < n) (hk : okAt l k = false) : okTo l n = false := by
  unfold okTo
  rw [List.all_eq_false]
  exact ⟨k, List.mem_range.2 h, by simp [hk]⟩

set_option maxHeartbeats 2000000 in
set_option maxRecDepth 100000 in
theorem sIsShape (B n cap : Nat) (a : Option Addr) (l : List Cl) (w : World) (hn : n ≤ 4194304) (hc : CellsAt B w a n l) (hB : B ≤ w.heap.size) :
    Calls Tryz.prog 45 #[.slice a n cap] w fun e w' => e = .returned (.bool (isShape l)) ∧ Below w.heap.size w w' := by
  have H := Lib.hid hc
  clear hc
  go_enter Tryz.func45, Tryz.ntmps45
  go_wp2
  go_loopw [3] (fun i wr => ∃ k : Nat, k ≤ n ∧ i = .int .i64 k ∧ Hid (okTo l k = true) ∧ Below w.heap.size w wr) (fun i _ => n - (intOf i).toNat)
  case atStart => exact ⟨0, by omega, rfl, by simp [Hid, okTo], Below.refl _ _⟩
  case round =>
    obtain ⟨k, hk, rfl, hok, hb⟩ := hrel
    have hsz := hb.size
    by_cases hlt : k < n
    · obtain ⟨b1, o1, rfl, hb1, hc1⟩ := H.out.2.2 (by omega)
      obtain ⟨x, y, hxy⟩ : ∃ x y, l.getD k (0, 0) = (x, y) := ⟨_, _, rfl⟩
      have p1 := (hb.cell (p := ⟨b1, o1 + k * 2, none⟩) (Nat.lt_of_lt_of_le hb1 hB)).trans (hc1 k hlt).1
      have p2 := (hb.cell (p := ⟨b1, o1 + k * 2 + 1, none⟩) (Nat.lt_of_lt_of_le hb1 hB)).trans (hc1 k hlt).2
      rw [hxy] at p1 p2
      have HX := Lib.hid hxy
      have hkz : (0 : Int) ≤ (k : Int) := by omega
      have hk1 : (k : Int) < (n : Int) := by omega
      clear hxy
      by_cases hA : inb x 0 7 = true
      · by_cases hA2 : inb y 0 7 = true
        · by_cases hk0 : 0 < k
          · obtain ⟨u, v, huv⟩ : ∃ u v, l.getD (k - 1) (0, 0) = (u, v) := ⟨_, _, rfl⟩
            have q1 := (hb.cell (p := ⟨b1, o1 + (k - 1) * 2, none⟩) (Nat.lt_of_lt_of_le hb1 hB)).trans (hc1 (k - 1) (by omega)).1
            have q2 := (hb.cell (p := ⟨b1, o1 + (k - 1) * 2 + 1, none⟩) (Nat.lt_of_lt_of_le hb1 hB)).trans (hc1 (k - 1) (by omega)).2
            rw [huv] at q1 q2
            have HU := Lib.hid huv
            have hbl : b1 < wr.heap.size := by omega
            have hj0 : (1 : Int) ≤ (k : Int) := by omega
            have hj2 : (k : Int) - 1 < (n : Int) := by omega
            have hj3 : (0 : Int) ≤ (k : Int) - 1 := by omega
            have hj4 : ((k : Int) - 1).toNat = k - 1 := by omega
            have hj : IntKind.i64.wrap ((k : Int) - 1) = (k : Int) - 1 := IntWalk.i64_in _ (by omega)
            clear huv hc1
            go_wp2_with fail
            go_region_held3 (fun w' => w'.cell? ⟨b1, o1 + k * 2, none⟩ = some (.int .i64 x) ∧ w'.cell? ⟨b1, o1 + k * 2 + 1, none⟩ = some (.int .i64 y) ∧ w'.cell? ⟨b1, o1 + (k - 1) * 2, none⟩ = some (.int .i64 u) ∧ w'.cell? ⟨b1, o1 + (k - 1) * 2 + 1, none⟩ = some (.int .i64 v))
              (first | exact ⟨p1, p2, q1, q2⟩ | exact ⟨(hbe.cell (p := ⟨b1, o1 + k * 2, none⟩) hbl).trans p1, (hbe.cell (p := ⟨b1, o1 + k * 2 + 1, none⟩) hbl).trans p2, (hbe.cell (p := ⟨b1, o1 + (k - 1) * 2, none⟩) hbl).trans q1, (hbe.cell (p := ⟨b1, o1 + (k - 1) * 2 + 1, none⟩) hbl).trans q2⟩)
              (first | (go_at_call 48; refine (sIn _ _ _ _).mono ?_; rintro e w' ⟨rfl, rfl⟩) | (go_at_call 67; refine (sBefore _ _ _ _ _).mono ?_; rintro e w' ⟨rfl, hbe⟩))
            all_goals go_wp2
            all_goals
              rename_i hcase
              first
                | (have e : okAt l k = false := by
                     unfold okAt inP
                     rw [HX.out, HU.out]
                     have h1 : bef (u, v) (x, y) = false := by simpa using hcase
                     simp [h1]
                     omega
                   have hno : isShape l = false := by
                     unfold isShape
                     rw [okTo_no (by rw [H.out.1]; exact hlt) e]
                     rfl
                   go_ret
                   exact ⟨by rw [hno]; rfl, hb.drew.trans (hbe.mono hsz)⟩)
                | (have e : okTo l (k + 1) = true := by
                     have e : okAt l k = true := by
                       unfold okAt inP
                       rw [HX.out, HU.out]
                       have h1 : bef (u, v) (x, y) = true := by simpa using hcase
                       simp [h1, hA, hA2]
                     rw [okTo_succ, e, hok.out]
                     rfl
                   go_roundw
                   case rel => exact ⟨k + 1, by omega, by go_num, e, hb.drew.trans (hbe.mono hsz)⟩
                   case measure => simp [intOf]; omega)
          · have hyes : okTo l (k + 1) = true := by
              have e : okAt l k = true := by unfold okAt inP; rw [HX.out]; simp [hA, hA2]; omega
              rw [okTo_succ, e, hok.out]; rfl
            have hd : decide ((0 : Int) < (k : Int)) = false := by simp; omega
            go_wp2_with fail
            go_quiet (first | (go_at_call 48; refine quiet_same (sIn _ _ _ _)))
            go_wp2
            clear hd
            go_roundw
            case rel => exact ⟨k + 1, by omega, by go_num, hyes, below_drewn hb _⟩
            case measure => simp [intOf]; omega
        · have hA' : inb y 0 7 = false := by simpa using hA2
          clear hA2
          have hno : isShape l = false := by
            have e : okAt l k = false := by unfold okAt inP; rw [HX.out]; simp [hA']
            unfold isShape
            rw [okTo_no (by rw [H.out.1]; exact hlt) e]
            rfl
          go_wp2_with fail
          go_quiet (first | (go_at_call 48; refine quiet_same (sIn _ _ _ _)))
          go_wp2
          go_ret
          exact ⟨by rw [hno]; rfl, below_drewn hb _⟩
      · have hA' : inb x 0 7 = false := by simpa using hA
        clear hA
        have hno : isShape l = false := by
          have e : okAt l k = false := by unfold okAt inP; rw [HX.out]; simp [hA']
          unfold isShape
          rw [okTo_no (by rw [H.out.1]; exact hlt) e]
          rfl
        go_wp2_with fail
        go_quiet (first | (go_at_call 48; refine quiet_same (sIn _ _ _ _)))
        go_wp2
        go_ret
        exact ⟨by rw [hno]; rfl, below_drewn hb _⟩
    · obtain rfl : k = n := by omega
      have he : isShape l = inb l.length 1 8 := by
        have := hok.out
        unfold isShape
        rw [H.out.1, this]
        simp
      go_wp2_with fail
      refine (sIn _ _ _ _).mono ?_
      rintro e w' ⟨rfl, rfl⟩
      go_wp2
      go_ret
      exact ⟨by rw [he, H.out.1]; rfl, hb⟩

end Go.Proofs.YtghpljoccclmkaaGreat
