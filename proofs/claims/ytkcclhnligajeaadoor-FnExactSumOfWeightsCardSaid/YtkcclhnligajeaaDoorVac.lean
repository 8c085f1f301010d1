/-
  The laws' helpers that compare, mark and look at slices of numbers.
  Appending cells to a slice of cells that the call owns: the laws at an operation, the new block a letter.
  Shapes moved, in the model: what each call gives.
-/
import Derived.Test.YtkcclhnligajeaaDoorVaa
import Derived.Test.YtkcclhnligajeaaDoorVab
import Derived.BigQuiet
import Derived.Deep.QuietTactic
import Derived.Deep.RegionHeld3
import Derived.Deep.AppendLies
namespace Go.Proofs.YtkcclhnligajeaaDoor

section
open Go.RowKit

/-- A value that reads as a list of numbers. -/
def IsRd (B : Nat) (w : World) (v : Value) (zs : List Int) : Prop := ∃ a cap, v = .slice a zs.length cap ∧ (0 < zs.length → ∃ g, a = some ⟨g, 0, none⟩ ∧ g < B ∧ ∀ k, k < zs.length → w.cell? ⟨g, k, none⟩ = some (.int .i64 (zs.getD k 0)))
theorem IsRd.on {B : Nat} {w w' : World} {v : Value} {zs : List Int} (h : IsRd B w v zs) (hb : Below B w w') : IsRd B w' v zs := by
  obtain ⟨a, cap, e, h1⟩ := h
  exact ⟨a, cap, e, fun h0 => by obtain ⟨g, e1, hlt, h2⟩ := h1 h0; exact ⟨g, e1, hlt, fun k hk => (hb.cell (p := ⟨g, k, none⟩) hlt).trans (h2 k hk)⟩⟩
theorem IsRd.more {B B' : Nat} {w : World} {v : Value} {zs : List Int} (h : IsRd B w v zs) (hB : B ≤ B') : IsRd B' w v zs := by
  obtain ⟨a, cap, e, h1⟩ := h
  exact ⟨a, cap, e, fun h0 => by obtain ⟨g, e1, hlt, h2⟩ := h1 h0; exact ⟨g, e1, Nat.lt_of_lt_of_le hlt hB, h2⟩⟩
theorem IsRd.of_own {B : Nat} {w : World} {v : Value} {zs : List Int} (h : w.ownsRow B 3 1 v zs.length (zs.map (Value.int .i64))) : IsRd w.heap.size w v zs := by
  rcases h.2 with ⟨rfl, h0⟩ | ⟨g, cap, cur, rfl, hb, hg, _⟩
  · have : zs = [] := List.eq_nil_of_length_eq_zero h0
    subst this
    exact ⟨none, 0, rfl, fun h9 => absurd h9 (Nat.lt_irrefl 0)⟩
  · refine ⟨_, cap, rfl, fun _ => ⟨g, rfl, (Array.getElem?_eq_some_iff.1 hg).1, fun k hk => ?_⟩⟩
    rw [h.cellAt k (by omega)]
    simp [List.getD, hk]

set_option maxHeartbeats 1000000 in
set_option maxRecDepth 100000 in
theorem lEqI (B : Nat) (v1 v2 : Value) (zs : List Int) (w : World) (hn : zs.length ≤ 4194304) (h1 : IsRd B w v1 zs) (h2 : IsRd B w v2 zs) (hB : B ≤ w.heap.size) :
    Calls Tryd.prog 10 #[v1, v2] w fun e w' => e = .returned (.bool true) ∧ Below w.heap.size w w' := by
  obtain ⟨a1, c1, rfl, hr1⟩ := h1
  obtain ⟨a2, c2, rfl, hr2⟩ := h2
  have H1 := Lib.hid hr1
  have H2 := Lib.hid hr2
  generalize zs.length = n at *
  have hne : (((n : Nat) : Int) != (n : Int)) = false := by simp
  clear hr1 hr2
  go_enter Tryd.func10, Tryd.ntmps10
  go_wp2
  go_loopw [5] (fun i wr => ∃ k : Nat, k ≤ n ∧ i = .int .i64 k ∧ Below w.heap.size w wr) (fun i _ => n - (intOf i).toNat)
  case atStart => exact ⟨0, by omega, rfl, Below.refl _ _⟩
  case round =>
    obtain ⟨k, hk, rfl, hb⟩ := hrel
    have hsz := hb.size
    by_cases hlt : k < n
    · obtain ⟨g1, rfl, hg1, hs1⟩ := H1.out (by omega)
      obtain ⟨g2, rfl, hg2, hs2⟩ := H2.out (by omega)
      have p1 := (hb.cell (p := ⟨g1, k, none⟩) (Nat.lt_of_lt_of_le hg1 hB)).trans (hs1 k hlt)
      have p2 := (hb.cell (p := ⟨g2, k, none⟩) (Nat.lt_of_lt_of_le hg2 hB)).trans (hs2 k hlt)
      generalize zs.getD k 0 = z at p1 p2
      have hk0 : (0 : Int) ≤ (k : Int) := by omega
      have hk1 : (k : Int) < (n : Int) := by omega
      have hzz : (z != z) = false := by simp
      clear hs1 hs2
      go_wp2_with fail
      go_quiet (fail)
      go_wp2
      go_roundw
      case rel => exact ⟨k + 1, by omega, by go_num, below_drewn hb _⟩
      case measure => simp [intOf]; omega
    · obtain rfl : k = n := by omega
      go_wp2
      go_ret
      exact ⟨rfl, hb⟩

/-- Marks: the numbers from k on. -/
def marksI (k : Int) (n : Nat) : List Int := (List.range n).map fun (j : Nat) => k + (j : Int)
theorem marksI_length (k : Int) (n : Nat) : (marksI k n).length = n := by simp [marksI]
theorem marksI_succ (k : Int) (n : Nat) : marksI k (n + 1) = marksI k n ++ [k + (n : Int)] := by simp [marksI, List.range_succ]
theorem marksI_get (k : Int) (n j : Nat) (h : j < n) : (marksI k n).getD j 0 = k + (j : Int) := by simp [marksI, h]
theorem markI_step (k : Int) (j : Nat) (l : List Int) (h : j < l.length) : ((marksI k j ++ l.drop j).map (Value.int .i64)).set j (.int .i64 (k + (j : Int))) = (marksI k (j + 1) ++ l.drop (j + 1)).map (Value.int .i64) := by
  rw [← List.map_set, List.set_append_right _ _ (by simp [marksI_length]), marksI_length, Nat.sub_self, List.drop_eq_getElem_cons h, List.set_cons_zero, marksI_succ, List.append_assoc]
  rfl
end

section
open Go.RowKit

/-- Where l begins in memory at ad, cell for cell. -/
def Lies (w : World) (ad : Addr) (l : List Cl) : Prop := ∀ j u, (cvs l)[j]? = some u → w.cell? (ad.add j) = some u

theorem lies_block {w : World} {b : Nat} {l : List Cl} {t : TypeId} {fr : Nat × Nat} (h : w.heap[b]? = some (.cells (cvs l).toArray t fr)) : Lies w ⟨b, 0, none⟩ l := World.news_of_block (cs := (cvs l).toArray) h
theorem add_at (b o j : Nat) : (⟨b, o, none⟩ : Addr).add j = ⟨b, o + j, none⟩ := by unfold Addr.add; split <;> simp_all
/-- A part of a slice of cells. -/
theorem CellsAt.lies {B n b off k m : Nat} {w : World} {l : List Cl} (h : CellsAt B w (some ⟨b, off, none⟩) n l) (hk : k + m ≤ n) : Lies w ⟨b, off + k * 2, none⟩ ((l.drop k).take m) := by
  intro j u hj
  rw [add_at]
  have hjl : j < m * 2 := by
    have := (List.getElem?_eq_some_iff.1 hj).1
    rw [cvs_length, List.length_take, List.length_drop] at this
    omega
  obtain ⟨b', off', e, hlt, hc⟩ := h.2.2 (by omega)
  injection e with e
  injection e with e1 e2
  subst e1 e2
  have hcc := hc (k + j / 2) (by omega)
  have hl := h.1
  have hg := cvs_get ((l.drop k).take m) (j / 2) (by rw [List.length_take, List.length_drop]; omega)
  have e3 : ((l.drop k).take m).getD (j / 2) (0, 0) = l.getD (k + j / 2) (0, 0) := by
    simp [List.getD, List.getElem?_drop, show j / 2 < m by omega]
  rw [e3] at hg
  rcases Nat.mod_two_eq_zero_or_one j with h2 | h2
  · have e4 : j / 2 * 2 = j := by omega
    have e5 : off + (k + j / 2) * 2 = off + k * 2 + j := by omega
    rw [e4] at hg
    rw [e5] at hcc
    rw [hcc.1, ← hg.1, hj]
  · have e4 : j / 2 * 2 + 1 = j := by omega
    have e5 : off + (k + j / 2) * 2 + 1 = off + k * 2 + j := by omega
    rw [e4] at hg
    rw [e5] at hcc
    rw [hcc.2, ← hg.2, hj]
theorem Lies.on {w w' : World} {b off B : Nat} {l : List Cl} (h : Lies w ⟨b, off, none⟩ l) (hb : Below B w w') (hlt : b < B) : Lies w' ⟨b, off, none⟩ l := fun j u hj => by
  rw [add_at]
  have := h j u hj
  rw [add_at] at this
  exact (hb.cell (p := ⟨b, off + j, none⟩) hlt).trans this
end

section
open Go.RowKit

theorem isShape_in {l : List Cl} (h : isShape l = true) : ∀ c ∈ l, inP c = true := by
  intro c hc
  unfold isShape okTo at h
  rw [Bool.and_eq_true, List.all_eq_true] at h
  obtain ⟨j, hj, rfl⟩ := List.getElem_of_mem hc
  have := h.1 j (List.mem_range.2 hj)
  unfold okAt at this
  rw [Bool.and_eq_true] at this
  have e : l.getD j (0, 0) = l[j] := by simp [List.getD, hj]
  rw [← e]
  exact this.1
theorem own_below {w : World} {b b' : Nat} {e : TypeId} {size : Nat} {v : Value} {n : Nat} {xs : List Value} (h : w.ownsRow b e size v n xs) (hb : b' ≤ b) : w.ownsRow b' e size v n xs :=
  ⟨h.1, h.2.imp id fun ⟨g, cap, cur, h1, h2, h3⟩ => ⟨g, cap, cur, h1, Nat.le_trans hb h2, h3⟩⟩
theorem map_step (f : Cl → Cl) (l : List Cl) (k : Nat) (h : k < l.length) : (l.take k).map f ++ [f (l.getD k (0, 0))] = (l.take (k + 1)).map f := by
  rw [List.take_succ_eq_append_getElem h, List.map_append]
  simp [List.getD, h]

/-- Within nine places of the corner, on any side. -/
def inW (c : Cl) : Prop := -9 ≤ c.1 ∧ c.1 ≤ 9 ∧ -9 ≤ c.2 ∧ c.2 ≤ 9
theorem inW_of_inP {c : Cl} (h : inP c = true) : inW c := by
  have := inP_out h
  unfold inW
  omega
theorem minTo_bdW (f : Cl → Int) (l : List Cl) (h : ∀ j, j < l.length → -9 ≤ f (l.getD j (0, 0)) ∧ f (l.getD j (0, 0)) ≤ 9) : ∀ k, k ≤ l.length → -9 ≤ minTo f l k ∧ minTo f l k ≤ 9
  | 0, _ => by simp [minTo]
  | k + 1, hk => by
    have h1 := minTo_bdW f l h k (by omega)
    have h2 := h k (by omega)
    unfold minTo
    split
    · exact h2
    · exact h1
end

end Go.Proofs.YtkcclhnligajeaaDoor
