/-
  The laws' helpers that compare, mark and look at slices of cells.
-/
import Derived.Test.YtghpljoccclmkaaDoorCel
import Derived.Deep.RegionHeld3
import Derived.Deep.RegionWith
namespace Go.Proofs.YtghpljoccclmkaaDoor
open Go.RowKit

def eqb (l r : List Cl) : Bool := decide (l = r)

theorem eqb_no {l r : List Cl} {k : Nat} (h : l.getD k (0, 0) ≠ r.getD k (0, 0)) : eqb l r = false := by
  unfold eqb
  simp
  intro e
  rw [e] at h
  exact h rfl
theorem take_same (l r : List Cl) (k : Nat) (h1 : k < l.length) (h2 : k < r.length) (h : l.take k = r.take k) (hd : l.getD k (0, 0) = r.getD k (0, 0)) : l.take (k + 1) = r.take (k + 1) := by
  rw [List.take_succ_eq_append_getElem h1, List.take_succ_eq_append_getElem h2, h]
  have e1 : l.getD k (0, 0) = l[k] := by simp [List.getD, h1]
  have e2 : r.getD k (0, 0) = r[k] := by simp [List.getD, h2]
  rw [← e1, ← e2, hd]

set_option maxHeartbeats 1000000 in
set_option maxRecDepth 100000 in
theorem lEqCellS_same (B n c1 c2 : Nat) (a1 a2 : Option Addr) (l r : List Cl) (w : World) (hn : n ≤ 4194304) (h1 : CellsAt B w a1 n l) (h2 : CellsAt B w a2 n r) (hB : B ≤ w.heap.size) :
    Calls Tryd.prog 9 #[.slice a1 n c1, .slice a2 n c2] w fun e w' => e = .returned (.bool (eqb l r)) ∧ Below B w w' := by
  have H1 := Lib.hid h1
  have H2 := Lib.hid h2
  clear h1 h2
  have hne : (((n : Nat) : Int) != (n : Int)) = false := by simp
  go_enter Tryd.func9, Tryd.ntmps9
  go_wp2
  go_loopw [5] (fun i wr => ∃ k : Nat, k ≤ n ∧ i = .int .i64 k ∧ Hid (l.take k = r.take k) ∧ Below B w wr) (fun i _ => n - (intOf i).toNat)
  case atStart => exact ⟨0, by omega, rfl, by simp [Hid], Below.refl _ _⟩
  case round =>
    obtain ⟨k, hk, rfl, hsame, hb⟩ := hrel
    have hsz := hb.size
    by_cases hlt : k < n
    · obtain ⟨b1, o1, rfl, hb1, hc1⟩ := H1.out.2.2 (by omega)
      obtain ⟨b2, o2, rfl, hb2, hc2⟩ := H2.out.2.2 (by omega)
      obtain ⟨x, y, hxy⟩ : ∃ x y, l.getD k (0, 0) = (x, y) := ⟨_, _, rfl⟩
      obtain ⟨u, v, huv⟩ : ∃ u v, r.getD k (0, 0) = (u, v) := ⟨_, _, rfl⟩
      have p1 := (hb.cell (p := ⟨b1, o1 + k * 2, none⟩) hb1).trans (hc1 k hlt).1
      have p2 := (hb.cell (p := ⟨b1, o1 + k * 2 + 1, none⟩) hb1).trans (hc1 k hlt).2
      have q1 := (hb.cell (p := ⟨b2, o2 + k * 2, none⟩) hb2).trans (hc2 k hlt).1
      have q2 := (hb.cell (p := ⟨b2, o2 + k * 2 + 1, none⟩) hb2).trans (hc2 k hlt).2
      rw [hxy] at p1 p2
      rw [huv] at q1 q2
      have HX := Lib.hid hxy
      have HU := Lib.hid huv
      have hk0 : (0 : Int) ≤ (k : Int) := by omega
      have hk1 : (k : Int) < (n : Int) := by omega
      clear hc1 hc2 hxy huv
      go_wp2_with fail
      go_region_with (go_at_call 22; refine (lEqCell x y u v _).mono ?_; rintro e w' ⟨rfl, hbe⟩)
      all_goals go_wp2
      all_goals
        rename_i hcase
        first
          | (have hd : l.getD k (0, 0) ≠ r.getD k (0, 0) := by
               rw [HX.out, HU.out]
               intro e
               injection e with e1 e2
               subst e1 e2
               simp at hcase
             go_ret
             exact ⟨by rw [eqb_no hd]; rfl, hb.drew.trans (hbe.mono (Nat.le_trans hB hb.size))⟩)
          | (have hd : l.getD k (0, 0) = r.getD k (0, 0) := by
               rw [HX.out, HU.out]
               simp at hcase
               rw [hcase.1, hcase.2]
             have hst := take_same l r k (by have := H1.out.1; omega) (by have := H2.out.1; omega) hsame.out hd
             go_roundw
             case rel => exact ⟨k + 1, by omega, by go_num, hst, hb.drew.trans (hbe.mono (Nat.le_trans hB hb.size))⟩
             case measure => simp [intOf]; omega)
    · go_wp2
      go_ret
      have e : l = r := by
        have h := hsame.out
        rwa [List.take_of_length_le (by have := H1.out.1; omega), List.take_of_length_le (by have := H2.out.1; omega)] at h
      exact ⟨by rw [eqb, e]; simp, hb⟩

theorem lEqCellS_any (B n m c1 c2 : Nat) (a1 a2 : Option Addr) (l r : List Cl) (w : World) (hn : n ≤ 4194304) (h1 : CellsAt B w a1 n l) (h2 : CellsAt B w a2 m r) (hB : B ≤ w.heap.size) :
    Calls Tryd.prog 9 #[.slice a1 n c1, .slice a2 m c2] w fun e w' => e = .returned (.bool (eqb l r)) ∧ Below B w w' := by
  by_cases hnm : n = m
  · subst hnm
    exact lEqCellS_same B n c1 c2 a1 a2 l r w hn h1 h2 hB
  · have hne : (((n : Nat) : Int) != (m : Int)) = true := by rw [bne_iff_ne]; omega
    have he : eqb l r = false := by
      unfold eqb
      simp
      intro e
      have a := h1.1
      have b := h2.1
      rw [e] at a
      omega
    rw [he]
    clear he hnm h1 h2
    go_enter Tryd.func9, Tryd.ntmps9
    go_wp2
    go_ret
    exact ⟨rfl, Below.refl _ _⟩

end Go.Proofs.YtghpljoccclmkaaDoor
