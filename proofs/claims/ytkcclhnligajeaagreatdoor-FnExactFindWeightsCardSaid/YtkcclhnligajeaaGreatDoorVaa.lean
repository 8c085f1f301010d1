/-
  Slices of cells in memory, and what the laws' own helpers on them give.
  The laws' helpers that compare, mark and look at slices of cells.
  The laws' helpers that write marks into a slice of cells and look whether they still stand there.
  Order of cells and what a shape is, in the model: what each call gives.
-/
import Derived.Test.YtkcclhnligajeaaGreatDoorKit
import Derived.Test.YtkcclhnligajeaaGreatDoorPur
import Derived.Deep.RegionHeld3
import Derived.Deep.RegionWith
import Derived.IntWalk
import Derived.Laws.StructEq
namespace Go.Proofs.YtkcclhnligajeaaGreatDoor

section
open Go.RowKit

/-- A cell as a value, as two cells of memory. -/
def cv (c : Cl) : List Value := [.int .i64 c.1, .int .i64 c.2]
def cvs (l : List Cl) : List Value := l.flatMap cv
def InC (c : Cl) : Prop := -9223372036854775808 ≤ c.1 ∧ c.1 ≤ 9223372036854775807 ∧ -9223372036854775808 ≤ c.2 ∧ c.2 ≤ 9223372036854775807

theorem info_cell : (Tryz.prog.info? 126).map (fun i => (i.zero, i.size, i.bytes)) = some (some (.agg #[.int .i64 0, .int .i64 0]), 2, 16) := by kernel_rfl

set_option maxHeartbeats 400000 in
theorem lToCell (x y : Int) (w : World) : Calls Tryz.prog 130 #[.agg #[.int .i64 x, .int .i64 y]] w fun e w' => e = .returned (.agg #[.int .i64 x, .int .i64 y]) ∧ Below w.heap.size w w' := by
  go_enter Tryz.func130, Tryz.ntmps130
  go_wp2
  exact bodyPost_ret (v := .agg #[.int .i64 x, .int .i64 y]) (by simp [results, Tryz.results130, go_sem]) rfl ⟨rfl, (((Below.refl _ _).alloc (Nat.le_refl _) _).alloc (by simp) _).alloc (by simp; omega) _⟩

set_option maxHeartbeats 400000 in
theorem lEqCell (x y u v : Int) (w : World) : Calls Tryz.prog 131 #[.agg #[.int .i64 x, .int .i64 y], .agg #[.int .i64 u, .int .i64 v]] w fun e w' => e = .returned (.bool (decide (x = u) && decide (y = v))) ∧ Below w.heap.size w w' := by
  by_cases h1 : x = u
  · by_cases h2 : y = v
    · subst h1 h2
      go_enter Tryz.func131, Tryz.ntmps131
      go_wp2
      go_ret
      exact ⟨by simp, ((Below.refl _ _).alloc (Nat.le_refl _) _).alloc (by simp) _⟩
    · subst h1
      have e2 : (y != v) = true := by rw [bne_iff_ne]; exact h2
      have e3 : decide (y = v) = false := by simp [h2]
      go_enter Tryz.func131, Tryz.ntmps131
      go_wp2
      go_ret
      exact ⟨by simp [h2], ((Below.refl _ _).alloc (Nat.le_refl _) _).alloc (by simp) _⟩
  · have e2 : (x != u) = true := by rw [bne_iff_ne]; exact h1
    go_enter Tryz.func131, Tryz.ntmps131
    go_wp2
    go_ret
    exact ⟨by simp [h1], ((Below.refl _ _).alloc (Nat.le_refl _) _).alloc (by simp) _⟩

/-- A slice value that reads as the list of cells l, its memory below block B. -/
def CellsAt (B : Nat) (w : World) (a : Option Addr) (n : Nat) (l : List Cl) : Prop :=
  l.length = n ∧ (∀ c ∈ l, InC c) ∧ (0 < n → ∃ b off, a = some ⟨b, off, none⟩ ∧ b < B ∧ ∀ k, k < n → w.cell? ⟨b, off + k * 2, none⟩ = some (.int .i64 (l.getD k (0, 0)).1) ∧ w.cell? ⟨b, off + k * 2 + 1, none⟩ = some (.int .i64 (l.getD k (0, 0)).2))

theorem cvs_length : ∀ l : List Cl, (cvs l).length = l.length * 2
  | [] => rfl
  | c :: r => by rw [cvs, List.flatMap_cons, List.length_append]; have := cvs_length r; unfold cvs at this; simp [this, cv]; omega
theorem cvs_append (a b : List Cl) : cvs (a ++ b) = cvs a ++ cvs b := by simp [cvs]
theorem cvs_cons (c : Cl) (l : List Cl) : cvs (c :: l) = .int .i64 c.1 :: .int .i64 c.2 :: cvs l := by simp [cvs, cv]
theorem cvs_get : ∀ (l : List Cl) (k : Nat), k < l.length → (cvs l)[k * 2]? = some (.int .i64 (l.getD k (0, 0)).1) ∧ (cvs l)[k * 2 + 1]? = some (.int .i64 (l.getD k (0, 0)).2) := by
  intro l
  induction l with
  | nil => intro k h; simp at h
  | cons c r ih =>
    intro k h
    rw [cvs_cons]
    cases k with
    | zero => simp
    | succ k =>
      have := ih k (by simpa using h)
      have e : (k + 1) * 2 = k * 2 + 1 + 1 := by omega
      rw [e]
      simpa using this
theorem cvs_set : ∀ (l : List Cl) (k : Nat) (c : Cl), k < l.length → ((cvs l).set (k * 2) (.int .i64 c.1)).set (k * 2 + 1) (.int .i64 c.2) = cvs (l.set k c) := by
  intro l
  induction l with
  | nil => intro k c h; simp at h
  | cons d r ih =>
    intro k c h
    cases k with
    | zero => simp [cvs_cons]
    | succ k =>
      have e : (k + 1) * 2 = k * 2 + 1 + 1 := by omega
      rw [e, List.set_cons_succ, cvs_cons, cvs_cons]
      simp only [List.set_cons_succ]
      rw [ih k c (by simpa using h)]
theorem made_cells (n : Nat) : (madeCells #[Value.int .i64 0, .int .i64 0] (n * 2)).toList = cvs (List.replicate n (0, 0)) := by
  apply List.ext_getElem?
  intro j
  by_cases hj : j < n * 2
  · have h1 := cvs_get (List.replicate n (0, 0)) (j / 2) (by simp; omega)
    have h2 : j / 2 < n := by omega
    have e : (List.replicate n ((0 : Int), (0 : Int))).getD (j / 2) (0, 0) = (0, 0) := by simp [List.getD, h2]
    rw [e] at h1
    rcases Nat.mod_two_eq_zero_or_one j with h | h
    · have e2 : j / 2 * 2 = j := by omega
      rw [e2] at h1
      rw [h1.1]
      simp [madeCells, hj, h]
    · have e2 : j / 2 * 2 + 1 = j := by omega
      rw [e2] at h1
      rw [h1.2]
      simp [madeCells, hj, h]
  · rw [List.getElem?_eq_none (by simp [madeCells]; omega), List.getElem?_eq_none (by rw [cvs_length]; simp; omega)]
theorem fill_step (l : List Cl) (k n : Nat) (h : k < n) (hl : l.length = n) : (l.take k ++ List.replicate (n - k) ((0 : Int), (0 : Int))).set k (l.getD k (0, 0)) = l.take (k + 1) ++ List.replicate (n - (k + 1)) (0, 0) := by
  have e : n - k = (n - (k + 1)) + 1 := by omega
  rw [e, List.replicate_succ, List.set_append_right _ _ (by simp; omega)]
  have e2 : k - (l.take k).length = 0 := by simp; omega
  rw [e2, List.set_cons_zero, List.take_succ_eq_append_getElem (by omega)]
  have e3 : l.getD k (0, 0) = l[k]'(by omega) := by simp [List.getD, show k < l.length by omega]
  rw [e3, List.append_assoc]
  rfl
/-- What lies below the heap's old size is kept whole. -/
theorem grow_below {w w' : World} (h : Below w.heap.size w w') (r : Option Nat) : w.grownBy w' r := ⟨h.os, h.tape, h.output, h.size, fun k hk _ => h.block k hk⟩
theorem cvs_oneCell (l : List Cl) : ∀ u ∈ cvs l, u.oneCell' = true := by
  intro u hu
  obtain ⟨c, _, hc⟩ := List.mem_flatMap.1 hu
  simp [cv] at hc
  rcases hc with rfl | rfl <;> rfl
theorem cvs_one (c : Cl) : cvs [c] = [.int .i64 c.1, .int .i64 c.2] := by simp [cvs, cv]

set_option maxHeartbeats 400000 in
set_option maxRecDepth 100000 in
theorem lToCellS (n cap b off : Nat) (l : List Cl) (w : World) (hn : n ≤ 1048576) (hl : l.length = n) (hb : b < w.heap.size)
    (hc : ∀ k, k < n → w.cell? ⟨b, off + k * 2, none⟩ = some (.int .i64 (l.getD k (0, 0)).1) ∧ w.cell? ⟨b, off + k * 2 + 1, none⟩ = some (.int .i64 (l.getD k (0, 0)).2)) :
    Calls Tryz.prog 94 #[.slice (some ⟨b, off, none⟩) n cap] w fun e w' => e = .returned (.slice (some ⟨w.heap.size, 0, none⟩) n n) ∧ w'.ownsRow w.heap.size 126 2 (.slice (some ⟨w.heap.size, 0, none⟩) n n) n (cvs l) ∧ Below w.heap.size w w' := by
  obtain ⟨i0, hi, hz0, hz1, hz2⟩ := info_parts info_cell
  have HC := Lib.hid hc
  have HL := Lib.hid hl
  clear hc hl
  go_enter Tryz.func94, Tryz.ntmps94
  go_wp2_with (first | (at_make; refine wpList_make_full _ rfl _ _ 76 rfl w.heap.size 126 i0 (.agg #[.int .i64 0, .int .i64 0]) 2 Tryz.underlying76 hi hz0 hz1 _ _ _ _ n rfl rfl rfl rfl ?b2 ?b3 (Nat.le_refl _) ?_) | go_in)
  case b2 => rw [hz2]; omega
  case b3 => unfold maxLen; omega
  intro w0 hown0 hgrow0
  go_wp2
  go_loopw [4] (fun i wr => ∃ k : Nat, k ≤ n ∧ i = .int .i64 k ∧ wr.ownsRow w.heap.size 126 2 (.slice (some ⟨w.heap.size, 0, none⟩) n n) n (cvs (l.take k ++ List.replicate (n - k) (0, 0))) ∧ Below w.heap.size w wr) (fun i _ => n - (intOf i).toNat)
  case atStart => exact ⟨0, by omega, rfl, by rw [made_cells n] at hown0; simpa using hown0, (Below.refl _ _).grown hgrow0 (Nat.le_refl _) (fun k h => by cases h)⟩
  case round =>
    obtain ⟨k, hk, rfl, hown, hbl⟩ := hrel
    by_cases hlt : k < n
    · obtain ⟨h1, h2⟩ := HC.out k hlt
      have h1' := (hbl.cell (p := ⟨b, off + k * 2, none⟩) hb).trans h1
      have h2' := (hbl.cell (p := ⟨b, off + k * 2 + 1, none⟩) hb).trans h2
      have hk0 : (0 : Int) ≤ (k : Int) := by omega
      have hk1 : (k : Int) < (n : Int) := by omega
      obtain ⟨x, y, hxy⟩ : ∃ x y, l.getD k (0, 0) = (x, y) := ⟨_, _, rfl⟩
      rw [hxy] at h1' h2'
      have HXY := Lib.hid hxy
      clear h1 h2 hxy
      go_wp2_with fail
      refine (lToCell x y _).mono ?_
      rintro e w1 ⟨rfl, hb1⟩
      have hsz := hb1.size
      have hown1 := hown.kept (grow_below hb1 none) (.inr (by intro e; cases e))
      have hlen : k < (l.take k ++ List.replicate (n - k) ((0 : Int), (0 : Int))).length := by have := HL.out; simp; omega
      have hg := cvs_get _ k hlen
      have c0 := hown1.cellAt (k * 2) (by omega)
      have c1 := hown1.cellAt (k * 2 + 1) (by omega)
      rw [hg.1] at c0
      rw [hg.2] at c1
      have f0 := hown1.frozenAt (k * 2)
      have f1 := hown1.frozenAt (k * 2 + 1)
      have hs1 := hown1.stored (k * 2) (.int .i64 x)
      have hs2 := hs1.1.stored (k * 2 + 1) (.int .i64 y)
      have HO := Lib.hid hs2.1
      have HG := Lib.hid (show _ ∧ _ from ⟨hs1.2, hs2.2⟩)
      have HB := Lib.hid (hbl.trans (hb1.mono hbl.size))
      clear hg hs1 hs2 hb1 hown1 hlen
      go_wp2
      go_roundw
      case rel =>
        have hO := HO.out
        have hlen : k < (l.take k ++ List.replicate (n - k) ((0 : Int), (0 : Int))).length := by have := HL.out; simp; omega
        have hset := cvs_set (l.take k ++ List.replicate (n - k) ((0 : Int), (0 : Int))) k (x, y) hlen
        have hfill := fill_step l k n hlt HL.out
        rw [HXY.out] at hfill
        rw [hset, hfill] at hO
        exact ⟨k + 1, by omega, by go_num, hO, (HB.out.grown HG.out.1 (Nat.le_trans hbl.size hsz) (fun j hj => by cases hj; exact Nat.le_refl _)).grown HG.out.2 (Nat.le_trans (Nat.le_trans hbl.size hsz) HG.out.1.size) (fun j hj => by cases hj; exact Nat.le_refl _)⟩
      case measure => simp [intOf]; omega
    · go_wp2
      go_ret
      have e : l.take k ++ List.replicate (n - k) ((0 : Int), (0 : Int)) = l := by
        have := HL.out
        rw [List.take_of_length_le (by omega), show n - k = 0 by omega]
        simp
      rw [e] at hown
      exact ⟨rfl, hown, hbl⟩

theorem lToCellS_nil (a : Option Addr) (cap : Nat) (w : World) :
    Calls Tryz.prog 94 #[.slice a 0 cap] w fun e w' => e = .returned (.slice (some ⟨w.heap.size, 0, none⟩) 0 0) ∧ w'.ownsRow w.heap.size 126 2 (.slice (some ⟨w.heap.size, 0, none⟩) 0 0) 0 (cvs []) ∧ Below w.heap.size w w' := by
  obtain ⟨i0, hi, hz0, hz1, hz2⟩ := info_parts info_cell
  go_enter Tryz.func94, Tryz.ntmps94
  go_wp2_with (first | (at_make; refine wpList_make_full _ rfl _ _ 76 rfl w.heap.size 126 i0 (.agg #[.int .i64 0, .int .i64 0]) 2 Tryz.underlying76 hi hz0 hz1 _ _ _ _ 0 rfl rfl rfl rfl ?b2 ?b3 (Nat.le_refl _) ?_) | go_in)
  case b2 => omega
  case b3 => unfold maxLen; omega
  intro w0 hown0 hgrow0
  go_wp2
  refine wp_loop_rounds 1 ?_
  rw [rounds_succ]
  go_wp2
  go_ret
  exact ⟨rfl, by rw [made_cells 0] at hown0; exact hown0, (Below.refl _ _).grown hgrow0 (Nat.le_refl _) (fun k h => by cases h)⟩

/-- The laws' copy of a slice of cells: a new slice that reads alike. -/
theorem lToCellS_any (B n cap : Nat) (a : Option Addr) (l : List Cl) (w : World) (hn : n ≤ 1048576) (hc : CellsAt B w a n l) (hB : B ≤ w.heap.size) :
    Calls Tryz.prog 94 #[.slice a n cap] w fun e w' => e = .returned (.slice (some ⟨w.heap.size, 0, none⟩) n n) ∧ w'.ownsRow w.heap.size 126 2 (.slice (some ⟨w.heap.size, 0, none⟩) n n) n (cvs l) ∧ Below w.heap.size w w' := by
  obtain ⟨hl, _, hr⟩ := hc
  by_cases h0 : 0 < n
  · obtain ⟨b, off, rfl, hb, hcell⟩ := hr h0
    exact lToCellS n cap b off l w hn hl (by omega) hcell
  · obtain rfl : n = 0 := by omega
    obtain rfl : l = [] := List.eq_nil_of_length_eq_zero hl
    exact lToCellS_nil a cap w

theorem CellsAt.on {B n : Nat} {w w' : World} {a : Option Addr} {l : List Cl} (h : CellsAt B w a n l) (hb : Below B w w') : CellsAt B w' a n l :=
  ⟨h.1, h.2.1, fun hp => by
    obtain ⟨b, off, e, hlt, hc⟩ := h.2.2 hp
    exact ⟨b, off, e, hlt, fun k hk => ⟨(hb.cell (p := ⟨b, off + k * 2, none⟩) hlt).trans (hc k hk).1, (hb.cell (p := ⟨b, off + k * 2 + 1, none⟩) hlt).trans (hc k hk).2⟩⟩⟩
theorem CellsAt.more {B B' n : Nat} {w : World} {a : Option Addr} {l : List Cl} (h : CellsAt B w a n l) (hB : B ≤ B') : CellsAt B' w a n l :=
  ⟨h.1, h.2.1, fun hp => by
    obtain ⟨b, off, e, hlt, hc⟩ := h.2.2 hp
    exact ⟨b, off, e, by omega, hc⟩⟩
/-- A row of the call's own reads as its list. -/
theorem CellsAt.of_own {base n cap : Nat} {w : World} {a : Option Addr} {l : List Cl} (h : w.ownsRow base 126 2 (.slice a n cap) n (cvs l)) (hi : ∀ c ∈ l, InC c) : CellsAt w.heap.size w a n l := by
  have hl : l.length = n := by have := h.1; rw [cvs_length] at this; omega
  refine ⟨hl, hi, fun hp => ?_⟩
  rcases h.2 with ⟨_, h0⟩ | ⟨g, c, cur, he, hb, hg, hnc, hcm, hcs, ht⟩
  · omega
  · injection he with e1 e2 e3
    subst e1 e3
    have hlt : g < w.heap.size := (Array.getElem?_eq_some_iff.1 hg).1
    refine ⟨g, 0, rfl, hlt, fun k hk => ?_⟩
    have hcv := cvs_get l k (by omega)
    have c0 := h.cellAt (k * 2) (by omega)
    have c1 := h.cellAt (k * 2 + 1) (by omega)
    rw [hcv.1] at c0
    rw [hcv.2] at c1
    rw [Nat.zero_add]
    exact ⟨c0, c1⟩

theorem set_row {w : World} {g : Nat} {cs : Array Value} {t : TypeId} (h : w.heap[g]? = some (.cells cs t (0, 0))) (j : Nat) (v : Value) : (w.setCell ⟨g, j, none⟩ v).heap[g]? = some (.cells (cs.setIfInBounds j v) t (0, 0)) := by
  simp [World.setCell, Array.getElem?_modify, h]
end

section
open Go.RowKit

theorem lSz_fits (a : Option Addr) (n cap : Nat) (left : Int) (w : World) (h0 : left ≤ 1048576) (h : (n : Int) ≤ left) :
    Calls Tryz.prog 93 #[.slice a n cap, .int .i64 left] w fun e w' => e = .returned (.int .i64 (left - n)) ∧ w = w' := by
  go_enter Tryz.func93, Tryz.ntmps93
  go_wp2
  go_ret
  exact ⟨rfl, rfl⟩
theorem lSz_big (a : Option Addr) (n cap : Nat) (left : Int) (w : World) (h0 : 0 ≤ left) (h : left < n) (hn : n ≤ 9223372036854775807) :
    Calls Tryz.prog 93 #[.slice a n cap, .int .i64 left] w fun e w' => e = .returned (.int .i64 (-1)) ∧ w = w' := by
  go_enter Tryz.func93, Tryz.ntmps93
  go_wp2
  go_ret
  exact ⟨rfl, rfl⟩

def eqb (l r : List Cl) : Bool := decide (l = r)

theorem eqb_no {l r : List Cl} {k : Nat} (h : l.getD k (0, 0) ≠ r.getD k (0, 0)) : eqb l r = false := by
  unfold eqb
  simp
  intro e
  rw [e] at h
  exact h rfl
theorem take_same (l r : List Cl) (k : Nat) (h1 : k < l.length) (h2 : k < r.length) (h : l.take k = r.take k) (hd : l.getD k (0, 0) = r.getD k (0, 0)) : l.take (k + 1) = r.take (k + 1) := by
  rw [List.take_succ_eq_append_getElem h1, List.take_succ_eq_append_getElem h2, h]
  have e1 : l.getD k (0, 0) = l[k] := by simp [List.getD, h1]
  have e2 : r.getD k (0, 0) = r[k] := by simp [List.getD, h2]
  rw [← e1, ← e2, hd]

set_option maxHeartbeats 1000000 in
set_option maxRecDepth 100000 in
theorem lEqCellS_same (B n c1 c2 : Nat) (a1 a2 : Option Addr) (l r : List Cl) (w : World) (hn : n ≤ 4194304) (h1 : CellsAt B w a1 n l) (h2 : CellsAt B w a2 n r) (hB : B ≤ w.heap.size) :
    Calls Tryz.prog 95 #[.slice a1 n c1, .slice a2 n c2] w fun e w' => e = .returned (.bool (eqb l r)) ∧ Below B w w' := by
  have H1 := Lib.hid h1
  have H2 := Lib.hid h2
  clear h1 h2
  have hne : (((n : Nat) : Int) != (n : Int)) = false := by simp
  go_enter Tryz.func95, Tryz.ntmps95
  go_wp2
  go_loopw [5] (fun i wr => ∃ k : Nat, k ≤ n ∧ i = .int .i64 k ∧ Hid (l.take k = r.take k) ∧ Below B w wr) (fun i _ => n - (intOf i).toNat)
  case atStart => exact ⟨0, by omega, rfl, by simp [Hid], Below.refl _ _⟩
  case round =>
    obtain ⟨k, hk, rfl, hsame, hb⟩ := hrel
    have hsz := hb.size
    by_cases hlt : k < n
    · obtain ⟨b1, o1, rfl, hb1, hc1⟩ := H1.out.2.2 (by omega)
      obtain ⟨b2, o2, rfl, hb2, hc2⟩ := H2.out.2.2 (by omega)
      obtain ⟨x, y, hxy⟩ : ∃ x y, l.getD k (0, 0) = (x, y) := ⟨_, _, rfl⟩
      obtain ⟨u, v, huv⟩ : ∃ u v, r.getD k (0, 0) = (u, v) := ⟨_, _, rfl⟩
      have p1 := (hb.cell (p := ⟨b1, o1 + k * 2, none⟩) hb1).trans (hc1 k hlt).1
      have p2 := (hb.cell (p := ⟨b1, o1 + k * 2 + 1, none⟩) hb1).trans (hc1 k hlt).2
      have q1 := (hb.cell (p := ⟨b2, o2 + k * 2, none⟩) hb2).trans (hc2 k hlt).1
      have q2 := (hb.cell (p := ⟨b2, o2 + k * 2 + 1, none⟩) hb2).trans (hc2 k hlt).2
      rw [hxy] at p1 p2
      rw [huv] at q1 q2
      have HX := Lib.hid hxy
      have HU := Lib.hid huv
      have hk0 : (0 : Int) ≤ (k : Int) := by omega
      have hk1 : (k : Int) < (n : Int) := by omega
      clear hc1 hc2 hxy huv
      go_wp2_with fail
      go_region_with (go_at_call 131; refine (lEqCell x y u v _).mono ?_; rintro e w' ⟨rfl, hbe⟩)
      all_goals go_wp2
      all_goals
        rename_i hcase
        first
          | (have hd : l.getD k (0, 0) ≠ r.getD k (0, 0) := by
               rw [HX.out, HU.out]
               intro e
               injection e with e1 e2
               subst e1 e2
               simp at hcase
             go_ret
             exact ⟨by rw [eqb_no hd]; rfl, hb.drew.trans (hbe.mono (Nat.le_trans hB hb.size))⟩)
          | (have hd : l.getD k (0, 0) = r.getD k (0, 0) := by
               rw [HX.out, HU.out]
               simp at hcase
               rw [hcase.1, hcase.2]
             have hst := take_same l r k (by have := H1.out.1; omega) (by have := H2.out.1; omega) hsame.out hd
             go_roundw
             case rel => exact ⟨k + 1, by omega, by go_num, hst, hb.drew.trans (hbe.mono (Nat.le_trans hB hb.size))⟩
             case measure => simp [intOf]; omega)
    · go_wp2
      go_ret
      have e : l = r := by
        have h := hsame.out
        rwa [List.take_of_length_le (by have := H1.out.1; omega), List.take_of_length_le (by have := H2.out.1; omega)] at h
      exact ⟨by rw [eqb, e]; simp, hb⟩

theorem lEqCellS_any (B n m c1 c2 : Nat) (a1 a2 : Option Addr) (l r : List Cl) (w : World) (hn : n ≤ 4194304) (h1 : CellsAt B w a1 n l) (h2 : CellsAt B w a2 m r) (hB : B ≤ w.heap.size) :
    Calls Tryz.prog 95 #[.slice a1 n c1, .slice a2 m c2] w fun e w' => e = .returned (.bool (eqb l r)) ∧ Below B w w' := by
  by_cases hnm : n = m
  · subst hnm
    exact lEqCellS_same B n c1 c2 a1 a2 l r w hn h1 h2 hB
  · have hne : (((n : Nat) : Int) != (m : Int)) = true := by rw [bne_iff_ne]; omega
    have he : eqb l r = false := by
      unfold eqb
      simp
      intro e
      have a := h1.1
      have b := h2.1
      rw [e] at a
      omega
    rw [he]
    clear he hnm h1 h2
    go_enter Tryz.func95, Tryz.ntmps95
    go_wp2
    go_ret
    exact ⟨rfl, Below.refl _ _⟩
end

section
open Go.RowKit

/-- The marks that are written into n cells, counted from k. -/
def marks (k : Int) (n : Nat) : List Cl := (List.range n).map fun (j : Nat) => (k + 2 * (j : Int), k + 2 * (j : Int) + 1)
theorem marks_length (k : Int) (n : Nat) : (marks k n).length = n := by simp [marks]
theorem marks_succ (k : Int) (n : Nat) : marks k (n + 1) = marks k n ++ [(k + 2 * n, k + 2 * n + 1)] := by simp [marks, List.range_succ]
theorem marks_get (k : Int) (n j : Nat) (h : j < n) : (marks k n).getD j (0, 0) = (k + 2 * j, k + 2 * j + 1) := by simp [marks, h]
theorem mark_step (k : Int) (j : Nat) (l : List Cl) (h : j < l.length) : (marks k j ++ l.drop j).set j (k + 2 * j, k + 2 * j + 1) = marks k (j + 1) ++ l.drop (j + 1) := by
  rw [List.set_append_right _ _ (by simp [marks_length]), marks_length, Nat.sub_self, List.drop_eq_getElem_cons h, List.set_cons_zero, marks_succ, List.append_assoc]
  rfl
theorem marks_in (k : Int) (n : Nat) (h0 : 0 ≤ k) (h : k + 2 * n ≤ 9223372036854775807) : ∀ c ∈ marks k n, InC c := by
  intro c hc
  obtain ⟨j, hj, rfl⟩ := List.mem_map.1 hc
  have := List.mem_range.1 hj
  unfold InC
  dsimp only
  omega

set_option maxHeartbeats 1000000 in
set_option maxRecDepth 100000 in
theorem lMark_at (base g n cap : Nat) (k0 : Int) (l : List Cl) (w : World) (hn : n ≤ 4194304) (h0 : 0 ≤ k0) (h1 : k0 ≤ 4194304) (hl : l.length = n)
    (ho : w.ownsRow base 126 2 (.slice (some ⟨g, 0, none⟩) n cap) n (cvs l)) :
    Calls Tryz.prog 96 #[.slice (some ⟨g, 0, none⟩) n cap, .int .i64 k0] w fun e w' => e = .returned (.int .i64 (k0 + 2 * n)) ∧ w'.ownsRow base 126 2 (.slice (some ⟨g, 0, none⟩) n cap) n (cvs (marks k0 n)) ∧ w.grownBy w' (some g) := by
  have HL := Lib.hid hl
  clear hl
  go_enter Tryz.func96, Tryz.ntmps96
  go_wp2
  go_loopw [5, 1] (fun i q wr => ∃ k : Nat, k ≤ n ∧ i = .int .i64 k ∧ q = .int .i64 (k0 + 2 * k) ∧ wr.ownsRow base 126 2 (.slice (some ⟨g, 0, none⟩) n cap) n (cvs (marks k0 k ++ l.drop k)) ∧ w.grownBy wr (some g)) (fun i _ _ => n - (intOf i).toNat)
  case atStart => exact ⟨0, by omega, rfl, by simp, by simpa [marks] using ho, World.grownBy.refl _ _⟩
  case round =>
    obtain ⟨k, hk, rfl, rfl, hown, hg⟩ := hrel
    by_cases hlt : k < n
    · have hk0 : (0 : Int) ≤ (k : Int) := by omega
      have hk1 : (k : Int) < (n : Int) := by omega
      have hlen : k < (marks k0 k ++ l.drop k).length := by have := HL.out; simp [marks_length]; omega
      have hc := cvs_get _ k hlen
      have c0 := hown.cellAt (k * 2) (by omega)
      have c1 := hown.cellAt (k * 2 + 1) (by omega)
      rw [hc.1] at c0
      rw [hc.2] at c1
      have f0 := hown.frozenAt (k * 2)
      have f1 := hown.frozenAt (k * 2 + 1)
      have hs1 := hown.stored (k * 2) (.int .i64 (k0 + 2 * k))
      have hs2 := hs1.1.stored (k * 2 + 1) (.int .i64 (k0 + 2 * k + 1))
      have HO := Lib.hid hs2.1
      have HG := Lib.hid (show _ ∧ _ from ⟨hs1.2, hs2.2⟩)
      have HGG := Lib.hid hg
      clear hc hs1 hs2 hown hg
      go_wp2
      go_roundw
      case rel =>
        have hO := HO.out
        rw [cvs_set _ k (k0 + 2 * k, k0 + 2 * k + 1) hlen, mark_step _ _ _ (by have := HL.out; omega)] at hO
        exact ⟨k + 1, by omega, by go_num, by go_num, hO, (HGG.out.trans HG.out.1).trans HG.out.2⟩
      case measure => simp [intOf]; omega
    · have e : k = n := by omega
      subst e
      have e2 : marks k0 k ++ l.drop k = marks k0 k := by
        rw [List.drop_of_length_le (by have := HL.out; omega), List.append_nil]
      rw [e2] at hown
      go_wp2
      go_ret
      exact ⟨by rfl, hown, hg⟩
end

section
open Go.RowKit

theorem quiet_same {P : Program} {f : FuncId} {args : Array Value} {w : World} {n : Nat} {v : Value} (h : Calls P f args (w.drewN n) fun e w' => e = .returned v ∧ w.drewN n = w') : Calls P f args (w.drewN n) fun e w'' => e = .returned v ∧ ∃ m, w'' = w.drewN m :=
  h.mono fun _ _ ⟨he, hm⟩ => ⟨he, n, hm.symm⟩
theorem below_drewn {B : Nat} {w w' : World} (h : Below B w w') (n : Nat) : Below B w (w'.drewN n) := ⟨h.os, h.tape, h.output, h.size, h.block⟩

theorem sIn (x lo hi : Int) (w : World) : Calls Tryz.prog 65 #[.int .i64 x, .int .i64 lo, .int .i64 hi] w fun e w' => e = .returned (.bool (inb x lo hi)) ∧ w = w' := by
  unfold inb
  by_cases h1 : lo ≤ x
  · go_enter Tryz.func65, Tryz.ntmps65
    go_wp2
    go_ret
    exact ⟨by simp [h1], rfl⟩
  · go_enter Tryz.func65, Tryz.ntmps65
    go_wp2
    go_ret
    exact ⟨by simp; omega, rfl⟩

theorem sBefore (x y u v : Int) (w : World) : Calls Tryz.prog 115 #[.agg #[.int .i64 x, .int .i64 y], .agg #[.int .i64 u, .int .i64 v]] w fun e w' => e = .returned (.bool (bef (x, y) (u, v))) ∧ Below w.heap.size w w' := by
  unfold bef
  dsimp only
  by_cases h1 : y < v
  · go_enter Tryz.func115, Tryz.ntmps115
    go_wp2
    go_ret
    exact ⟨by simp [h1], ((Below.refl _ _).alloc (Nat.le_refl _) _).alloc (by simp) _⟩
  · by_cases h2 : y = v
    · subst h2
      by_cases h3 : x < u
      · go_enter Tryz.func115, Tryz.ntmps115
        go_wp2
        go_ret
        exact ⟨by simp, ((Below.refl _ _).alloc (Nat.le_refl _) _).alloc (by simp) _⟩
      · go_enter Tryz.func115, Tryz.ntmps115
        go_wp2
        go_ret
        exact ⟨by simp [h3], ((Below.refl _ _).alloc (Nat.le_refl _) _).alloc (by simp) _⟩
    · have e2 : (y == v) = false := by simp [h2]
      go_enter Tryz.func115, Tryz.ntmps115
      go_wp2
      go_ret
      exact ⟨by simp [h1], ((Below.refl _ _).alloc (Nat.le_refl _) _).alloc (by simp) _⟩

theorem okTo_succ (l : List Cl) (k : Nat) : okTo l (k + 1) = (okTo l k && okAt l k) := by
  unfold okTo
  rw [List.range_succ, List.all_append]
  simp
theorem okTo_no {l : List Cl} {k n : Nat} (h : k < n) (hk : okAt l k = false) : okTo l n = false := by
  unfold okTo
  rw [List.all_eq_false]
  exact ⟨k, List.mem_range.2 h, by simp [hk]⟩

set_option maxHeartbeats 2000000 in
set_option maxRecDepth 100000 in
theorem sIsShape (B n cap : Nat) (a : Option Addr) (l : List Cl) (w : World) (hn : n ≤ 4194304) (hc : CellsAt B w a n l) (hB : B ≤ w.heap.size) :
    Calls Tryz.prog 66 #[.slice a n cap] w fun e w' => e = .returned (.bool (isShape l)) ∧ Below w.heap.size w w' := by
  have H := Lib.hid hc
  clear hc
  go_enter Tryz.func66, Tryz.ntmps66
  go_wp2
  go_loopw [3] (fun i wr => ∃ k : Nat, k ≤ n ∧ i = .int .i64 k ∧ Hid (okTo l k = true) ∧ Below w.heap.size w wr) (fun i _ => n - (intOf i).toNat)
  case atStart => exact ⟨0, by omega, rfl, by simp [Hid, okTo], Below.refl _ _⟩
  case round =>
    obtain ⟨k, hk, rfl, hok, hb⟩ := hrel
    have hsz := hb.size
    by_cases hlt : k < n
    · obtain ⟨b1, o1, rfl, hb1, hc1⟩ := H.out.2.2 (by omega)
      obtain ⟨x, y, hxy⟩ : ∃ x y, l.getD k (0, 0) = (x, y) := ⟨_, _, rfl⟩
      have p1 := (hb.cell (p := ⟨b1, o1 + k * 2, none⟩) (Nat.lt_of_lt_of_le hb1 hB)).trans (hc1 k hlt).1
      have p2 := (hb.cell (p := ⟨b1, o1 + k * 2 + 1, none⟩) (Nat.lt_of_lt_of_le hb1 hB)).trans (hc1 k hlt).2
      rw [hxy] at p1 p2
      have HX := Lib.hid hxy
      have hkz : (0 : Int) ≤ (k : Int) := by omega
      have hk1 : (k : Int) < (n : Int) := by omega
      clear hxy
      by_cases hA : inb x 0 7 = true
      · by_cases hA2 : inb y 0 7 = true
        · by_cases hk0 : 0 < k
          · obtain ⟨u, v, huv⟩ : ∃ u v, l.getD (k - 1) (0, 0) = (u, v) := ⟨_, _, rfl⟩
            have q1 := (hb.cell (p := ⟨b1, o1 + (k - 1) * 2, none⟩) (Nat.lt_of_lt_of_le hb1 hB)).trans (hc1 (k - 1) (by omega)).1
            have q2 := (hb.cell (p := ⟨b1, o1 + (k - 1) * 2 + 1, none⟩) (Nat.lt_of_lt_of_le hb1 hB)).trans (hc1 (k - 1) (by omega)).2
            rw [huv] at q1 q2
            have HU := Lib.hid huv
            have hbl : b1 < wr.heap.size := by omega
            have hj0 : (1 : Int) ≤ (k : Int) := by omega
            have hj2 : (k : Int) - 1 < (n : Int) := by omega
            have hj3 : (0 : Int) ≤ (k : Int) - 1 := by omega
            have hj4 : ((k : Int) - 1).toNat = k - 1 := by omega
            have hj : IntKind.i64.wrap ((k : Int) - 1) = (k : Int) - 1 := IntWalk.i64_in _ (by omega)
            clear huv hc1
            go_wp2_with fail
            go_region_held3 (fun w' => w'.cell? ⟨b1, o1 + k * 2, none⟩ = some (.int .i64 x) ∧ w'.cell? ⟨b1, o1 + k * 2 + 1, none⟩ = some (.int .i64 y) ∧ w'.cell? ⟨b1, o1 + (k - 1) * 2, none⟩ = some (.int .i64 u) ∧ w'.cell? ⟨b1, o1 + (k - 1) * 2 + 1, none⟩ = some (.int .i64 v))
              (first | exact ⟨p1, p2, q1, q2⟩ | exact ⟨(hbe.cell (p := ⟨b1, o1 + k * 2, none⟩) hbl).trans p1, (hbe.cell (p := ⟨b1, o1 + k * 2 + 1, none⟩) hbl).trans p2, (hbe.cell (p := ⟨b1, o1 + (k - 1) * 2, none⟩) hbl).trans q1, (hbe.cell (p := ⟨b1, o1 + (k - 1) * 2 + 1, none⟩) hbl).trans q2⟩)
              (first | (go_at_call 65; refine (sIn _ _ _ _).mono ?_; rintro e w' ⟨rfl, rfl⟩) | (go_at_call 115; refine (sBefore _ _ _ _ _).mono ?_; rintro e w' ⟨rfl, hbe⟩))
            all_goals go_wp2
            all_goals
              rename_i hcase
              first
                | (have e : okAt l k = false := by
                     unfold okAt inP
                     rw [HX.out, HU.out]
                     have h1 : bef (u, v) (x, y) = false := by simpa using hcase
                     simp [h1]
                     omega
                   have hno : isShape l = false := by
                     unfold isShape
                     rw [okTo_no (by rw [H.out.1]; exact hlt) e]
                     rfl
                   go_ret
                   exact ⟨by rw [hno]; rfl, hb.drew.trans (hbe.mono hsz)⟩)
                | (have e : okTo l (k + 1) = true := by
                     have e : okAt l k = true := by
                       unfold okAt inP
                       rw [HX.out, HU.out]
                       have h1 : bef (u, v) (x, y) = true := by simpa using hcase
                       simp [h1, hA, hA2]
                     rw [okTo_succ, e, hok.out]
                     rfl
                   go_roundw
                   case rel => exact ⟨k + 1, by omega, by go_num, e, hb.drew.trans (hbe.mono hsz)⟩
                   case measure => simp [intOf]; omega)
          · have hyes : okTo l (k + 1) = true := by
              have e : okAt l k = true := by unfold okAt inP; rw [HX.out]; simp [hA, hA2]; omega
              rw [okTo_succ, e, hok.out]; rfl
            have hd : decide ((0 : Int) < (k : Int)) = false := by simp; omega
            go_wp2_with fail
            go_quiet (first | (go_at_call 65; refine quiet_same (sIn _ _ _ _)))
            go_wp2
            clear hd
            go_roundw
            case rel => exact ⟨k + 1, by omega, by go_num, hyes, below_drewn hb _⟩
            case measure => simp [intOf]; omega
        · have hA' : inb y 0 7 = false := by simpa using hA2
          clear hA2
          have hno : isShape l = false := by
            have e : okAt l k = false := by unfold okAt inP; rw [HX.out]; simp [hA']
            unfold isShape
            rw [okTo_no (by rw [H.out.1]; exact hlt) e]
            rfl
          go_wp2_with fail
          go_quiet (first | (go_at_call 65; refine quiet_same (sIn _ _ _ _)))
          go_wp2
          go_ret
          exact ⟨by rw [hno]; rfl, below_drewn hb _⟩
      · have hA' : inb x 0 7 = false := by simpa using hA
        clear hA
        have hno : isShape l = false := by
          have e : okAt l k = false := by unfold okAt inP; rw [HX.out]; simp [hA']
          unfold isShape
          rw [okTo_no (by rw [H.out.1]; exact hlt) e]
          rfl
        go_wp2_with fail
        go_quiet (first | (go_at_call 65; refine quiet_same (sIn _ _ _ _)))
        go_wp2
        go_ret
        exact ⟨by rw [hno]; rfl, below_drewn hb _⟩
    · obtain rfl : k = n := by omega
      have he : isShape l = inb l.length 1 8 := by
        have := hok.out
        unfold isShape
        rw [H.out.1, this]
        simp
      go_wp2_with fail
      refine (sIn _ _ _ _).mono ?_
      rintro e w' ⟨rfl, rfl⟩
      go_wp2
      go_ret
      exact ⟨by rw [he, H.out.1]; rfl, hb⟩
end

end Go.Proofs.YtkcclhnligajeaaGreatDoor
