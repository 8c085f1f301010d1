/-
  The laws' helpers that write marks into a slice of cells and look whether they still stand there.
-/
import Derived.Test.YtghpljoccclmkaaDoorCeq
namespace Go.Proofs.YtghpljoccclmkaaDoor
open Go.RowKit

/-- The marks that are written into n cells, counted from k. -/
def marks (k : Int) (n : Nat) : List Cl := (List.range n).map fun (j : Nat) => (k + 2 * (j : Int), k + 2 * (j : Int) + 1)
theorem marks_length (k : Int) (n : Nat) : (marks k n).length = n := by simp [marks]
theorem marks_succ (k : Int) (n : Nat) : marks k (n + 1) = marks k n ++ [(k + 2 * n, k + 2 * n + 1)] := by simp [marks, List.range_succ]
theorem marks_get (k : Int) (n j : Nat) (h : j < n) : (marks k n).getD j (0, 0) = (k + 2 * j, k + 2 * j + 1) := by simp [marks, h]
theorem mark_step (k : Int) (j : Nat) (l : List Cl) (h : j < l.length) : (marks k j ++ l.drop j).set j (k + 2 * j, k + 2 * j + 1) = marks k (j + 1) ++ l.drop (j + 1) := by
  rw [List.set_append_right _ _ (by simp [marks_length]), marks_length, Nat.sub_self, List.drop_eq_getElem_cons h, List.set_cons_zero, marks_succ, List.append_assoc]
  rfl
theorem marks_in (k : Int) (n : Nat) (h0 : 0 ≤ k) (h : k + 2 * n ≤ 9223372036854775807) : ∀ c ∈ marks k n, InC c := by
  intro c hc
  obtain ⟨j, hj, rfl⟩ := List.mem_map.1 hc
  have := List.mem_range.1 hj
  unfold InC
  dsimp only
  omega

set_option maxHeartbeats 1000000 in
set_option maxRecDepth 100000 in
theorem lMark_at (base g n cap : Nat) (k0 : Int) (l : List Cl) (w : World) (hn : n ≤ 4194304) (h0 : 0 ≤ k0) (h1 : k0 ≤ 4194304) (hl : l.length = n)
    (ho : w.ownsRow base 41 2 (.slice (some ⟨g, 0, none⟩) n cap) n (cvs l)) :
    Calls Tryd.prog 12 #[.slice (some ⟨g, 0, none⟩) n cap, .int .i64 k0] w fun e w' => e = .returned (.int .i64 (k0 + 2 * n)) ∧ w'.ownsRow base 41 2 (.slice (some ⟨g, 0, none⟩) n cap) n (cvs (marks k0 n)) ∧ w.grownBy w' (some g) := by
  have HL := Lib.hid hl
  clear hl
  go_enter Tryd.func12, Tryd.ntmps12
  go_wp2
  go_loopw [5, 1] (fun i q wr => ∃ k : Nat, k ≤ n ∧ i = .int .i64 k ∧ q = .int .i64 (k0 + 2 * k) ∧ wr.ownsRow base 41 2 (.slice (some ⟨g, 0, none⟩) n cap) n (cvs (marks k0 k ++ l.drop k)) ∧ w.grownBy wr (some g)) (fun i _ _ => n - (intOf i).toNat)
  case atStart => exact ⟨0, by omega, rfl, by simp, by simpa [marks] using ho, World.grownBy.refl _ _⟩
  case round =>
    obtain ⟨k, hk, rfl, rfl, hown, hg⟩ := hrel
    by_cases hlt : k < n
    · have hk0 : (0 : Int) ≤ (k : Int) := by omega
      have hk1 : (k : Int) < (n : Int) := by omega
      have hlen : k < (marks k0 k ++ l.drop k).length := by have := HL.out; simp [marks_length]; omega
      have hc := cvs_get _ k hlen
      have c0 := hown.cellAt (k * 2) (by omega)
      have c1 := hown.cellAt (k * 2 + 1) (by omega)
      rw [hc.1] at c0
      rw [hc.2] at c1
      have f0 := hown.frozenAt (k * 2)
      have f1 := hown.frozenAt (k * 2 + 1)
      have hs1 := hown.stored (k * 2) (.int .i64 (k0 + 2 * k))
      have hs2 := hs1.1.stored (k * 2 + 1) (.int .i64 (k0 + 2 * k + 1))
      have HO := Lib.hid hs2.1
      have HG := Lib.hid (show _ ∧ _ from ⟨hs1.2, hs2.2⟩)
      have HGG := Lib.hid hg
      clear hc hs1 hs2 hown hg
      go_wp2
      go_roundw
      case rel =>
        have hO := HO.out
        rw [cvs_set _ k (k0 + 2 * k, k0 + 2 * k + 1) hlen, mark_step _ _ _ (by have := HL.out; omega)] at hO
        exact ⟨k + 1, by omega, by go_num, by go_num, hO, (HGG.out.trans HG.out.1).trans HG.out.2⟩
      case measure => simp [intOf]; omega
    · have e : k = n := by omega
      subst e
      have e2 : marks k0 k ++ l.drop k = marks k0 k := by
        rw [List.drop_of_length_le (by have := HL.out; omega), List.append_nil]
      rw [e2] at hown
      go_wp2
      go_ret
      exact ⟨by rfl, hown, hg⟩

/-- Marks that still stand are counted whole. -/
theorem lHeld (B n cap : Nat) (a : Option Addr) (k0 : Int) (w : World) (hn : n ≤ 4194304) (h0 : 0 ≤ k0) (h1 : k0 ≤ 4194304) (hc : CellsAt B w a n (marks k0 n)) :
    Calls Tryd.prog 13 #[.slice a n cap, .int .i64 k0] w fun e w' => e = .returned (.int .i64 (k0 + 2 * n)) ∧ w = w' := by
  have HC := Lib.hid hc
  clear hc
  go_enter Tryd.func13, Tryd.ntmps13
  go_wp2
  go_loopw [5, 1] (fun i q wr => ∃ k : Nat, k ≤ n ∧ i = .int .i64 k ∧ q = .int .i64 (k0 + 2 * k) ∧ wr = w) (fun i _ _ => n - (intOf i).toNat)
  case atStart => exact ⟨0, by omega, rfl, by simp, rfl⟩
  case round =>
    obtain ⟨k, hk, rfl, rfl, rfl⟩ := hrel
    by_cases hlt : k < n
    · obtain ⟨b, off, rfl, hb, hcell⟩ := HC.out.2.2 (by omega)
      have hk0 : (0 : Int) ≤ (k : Int) := by omega
      have hk1 : (k : Int) < (n : Int) := by omega
      have c0 := (hcell k hlt).1
      have c1 := (hcell k hlt).2
      rw [marks_get k0 n k hlt] at c0 c1
      clear hcell
      dsimp only at c0 c1
      go_wp2
      go_roundw
      case rel => exact ⟨k + 1, by omega, by go_num, by go_num, trivial⟩
      case measure => simp [intOf]; omega
    · have e : k = n := by omega
      subst e
      go_wp2
      go_ret
      exact ⟨by rfl, rfl⟩

end Go.Proofs.YtghpljoccclmkaaDoor
