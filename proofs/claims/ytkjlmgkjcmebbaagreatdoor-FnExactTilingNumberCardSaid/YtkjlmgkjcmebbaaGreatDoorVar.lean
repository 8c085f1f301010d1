/-
  What the program keeps while it fills (masks by least places, sums of sizes, a limit, counts): made by newFilling.
  groupByLeast, newFilling, in the program: what the calls give.
-/
import Derived.Test.YtkjlmgkjcmebbaaGreatDoorVap
import Derived.Test.YtkjlmgkjcmebbaaGreatDoorVaq
import Derived.Test.YtkjlmgkjcmebbaaGreatDoorVal
namespace Go.Proofs.YtkjlmgkjcmebbaaGreatDoor

section
open Go.RowKit Go.Maps Go.ChangeMaps Go.MapKept

def filL (rows : Nat → Value) (d : Nat → Bool) (L : Int) (mb : Nat) : List Value :=
  (List.range 64).map rows ++ ((List.range 65).map (fun k => Value.bool (d k)) ++ [.int .i64 L, .map (some mb)])
def filV (rows : Nat → Value) (d : Nat → Bool) (L : Int) (mb : Nat) : Array Value := (filL rows d L mb).toArray
theorem filV_size (rows : Nat → Value) (d : Nat → Bool) (L : Int) (mb : Nat) : (filV rows d L mb).size = 131 := by simp [filV, filL]
theorem filV_get (rows : Nat → Value) (d : Nat → Bool) (L : Int) (mb : Nat) (k : Nat) : (filV rows d L mb)[k]? = if k < 64 then some (rows k) else if k < 129 then some (.bool (d (k - 64))) else if k = 129 then some (.int .i64 L) else if k = 130 then some (.map (some mb)) else none := by
  unfold filV filL
  rw [List.getElem?_toArray]
  by_cases h1 : k < 64
  · rw [if_pos h1, List.getElem?_append_left (by simp; omega)]
    simp [h1]
  · rw [if_neg h1, List.getElem?_append_right (by simp; omega)]
    by_cases h2 : k < 129
    · rw [if_pos h2, List.getElem?_append_left (by simp; omega), List.getElem?_map, List.length_map, List.length_range, List.getElem?_range (by omega)]
      rfl
    · rw [if_neg h2, List.getElem?_append_right (by simp; omega)]
      simp only [List.length_map, List.length_range]
      by_cases h3 : k = 129
      · subst h3; simp
      · rw [if_neg h3]
        by_cases h4 : k = 130
        · subst h4; simp
        · rw [if_neg h4]
          obtain ⟨j, rfl⟩ : ∃ j, k = j + 131 := ⟨k - 131, by omega⟩
          rw [show j + 131 - 64 - 65 = j + 2 by omega]
          rfl
def setV1 (rows : Nat → Value) (k : Nat) (v : Value) : Nat → Value := fun j => if j = k then v else rows j
theorem filV_upd (rows : Nat → Value) (d : Nat → Bool) (L : Int) (mb : Nat) {k : Nat} (hk : k < 64) (v : Value) : (filV rows d L mb).setIfInBounds k v = filV (setV1 rows k v) d L mb := by
  apply Array.ext_getElem?
  intro j
  rw [Array.getElem?_setIfInBounds, filV_get, filV_get, filV_size]
  unfold setV1
  by_cases e : k = j
  · subst e
    rw [if_pos rfl, if_pos (by omega), if_pos hk, if_pos rfl]
  · rw [if_neg e]
    by_cases hj : j < 64
    · rw [if_pos hj, if_pos hj, if_neg (fun h => e h.symm)]
    · rw [if_neg hj, if_neg hj]
/-- The masks by their least places, as a value: 64 rows. -/
def gpV (rows : Nat → Value) : Array Value := ((List.range 64).map rows).toArray
theorem gpV_size (rows : Nat → Value) : (gpV rows).size = 64 := by simp [gpV]
theorem gpV_get (rows : Nat → Value) {k : Nat} (hk : k < 64) : (gpV rows)[k]? = some (rows k) := by simp [gpV, hk]
theorem gpV_zero : (#[.slice none 0 0, .slice none 0 0, .slice none 0 0, .slice none 0 0, .slice none 0 0, .slice none 0 0, .slice none 0 0, .slice none 0 0, .slice none 0 0, .slice none 0 0, .slice none 0 0, .slice none 0 0, .slice none 0 0, .slice none 0 0, .slice none 0 0, .slice none 0 0, .slice none 0 0, .slice none 0 0, .slice none 0 0, .slice none 0 0, .slice none 0 0, .slice none 0 0, .slice none 0 0, .slice none 0 0, .slice none 0 0, .slice none 0 0, .slice none 0 0, .slice none 0 0, .slice none 0 0, .slice none 0 0, .slice none 0 0, .slice none 0 0, .slice none 0 0, .slice none 0 0, .slice none 0 0, .slice none 0 0, .slice none 0 0, .slice none 0 0, .slice none 0 0, .slice none 0 0, .slice none 0 0, .slice none 0 0, .slice none 0 0, .slice none 0 0, .slice none 0 0, .slice none 0 0, .slice none 0 0, .slice none 0 0, .slice none 0 0, .slice none 0 0, .slice none 0 0, .slice none 0 0, .slice none 0 0, .slice none 0 0, .slice none 0 0, .slice none 0 0, .slice none 0 0, .slice none 0 0, .slice none 0 0, .slice none 0 0, .slice none 0 0, .slice none 0 0, .slice none 0 0, .slice none 0 0] : Array Value) = gpV fun _ => .slice none 0 0 := by kernel_rfl
theorem gpV_upd (rows : Nat → Value) {k : Nat} (hk : k < 64) (v : Value) : (gpV rows).setIfInBounds k v = gpV (setV1 rows k v) := by
  apply Array.ext_getElem?
  intro j
  rw [Array.getElem?_setIfInBounds]
  by_cases hj : j < 64
  · rw [gpV_get _ hj, gpV_get _ hj, gpV_size]
    unfold setV1
    by_cases e : k = j
    · subst e; simp [hk]
    · have : ¬ j = k := fun h => e h.symm
      simp [e, this]
  · have h1 : (gpV rows)[j]? = none := by rw [Array.getElem?_eq_none_iff, gpV_size]; omega
    have h2 : (gpV (setV1 rows k v))[j]? = none := by rw [Array.getElem?_eq_none_iff, gpV_size]; omega
    rw [h1, h2]
    by_cases e : k = j
    · subst e; omega
    · simp [e]
theorem gpV_one {rows : Nat → Value} (h : ∀ k, k < 64 → (rows k).oneCell' = true) : (gpV rows).all (·.oneCell') = true := by
  rw [Array.all_eq_true_iff_forall_mem]
  intro v hv
  simp [gpV] at hv
  obtain ⟨k, hk, rfl⟩ := hv
  exact h k hk
/-- A block that holds them. -/
def GpAt (w : World) (b : Nat) (rows : Nat → Value) : Prop := w.heap[b]? = some (.cells (gpV rows) 105 (0, 0))
section
variable {w w' : World} {B b c k : Nat} {rows : Nat → Value} {v : Value}
theorem GpAt.row (h : GpAt w b rows) (hk : k < 64) : w.cell? ⟨b, k, none⟩ = some (rows k) := (cell_of_row w b k _ _ _ h).trans (gpV_get rows hk)
theorem GpAt.frozen (h : GpAt w b rows) (k : Nat) : w.frozen? ⟨b, k, none⟩ = false := frozen_of_row w b k _ _ h
theorem GpAt.lt (h : GpAt w b rows) : b < w.heap.size := (Array.getElem?_eq_some_iff.1 h).1
theorem GpAt.same (h : GpAt w b rows) (e : w'.heap[b]? = w.heap[b]?) : GpAt w' b rows := e.trans h
theorem GpAt.by {r : Option Nat} (h : GpAt w b rows) (hg : w.grownBy w' r) (hne : some b ≠ r) : GpAt w' b rows := h.same (hg.block b h.lt hne)
theorem GpAt.on (h : GpAt w b rows) (hb : Below B w w') (hlt : b < B) : GpAt w' b rows := h.same (hb.block b hlt)
theorem GpAt.set (h : GpAt w b rows) (hk : k < 64) (v : Value) : GpAt (w.setCell ⟨b, k, none⟩ v) b (setV1 rows k v) := by
  unfold GpAt
  rw [heap_setCell_same w b k _ _ _ h, gpV_upd _ hk]
theorem GpAt.other (h : GpAt w b rows) (hne : b ≠ c) : GpAt (w.setCell ⟨c, k, none⟩ v) b rows := (heap_setCell_other w _ _ _ (by show b ≠ c; exact hne)).trans h
theorem GpAt.new (w : World) (rows : Nat → Value) : GpAt (w.alloc (.cells (gpV rows) 105)) w.heap.size rows := heap_alloc_last w _
end
theorem gp_size : (Tryz.prog.info? 105).map (·.size) = some 64 := by kernel_rfl
theorem grown_setRow (w : World) (g : Nat) (cs : Array Value) : w.grownBy (w.setRow g cs) (some g) := ⟨rfl, rfl, rfl, by simp [World.setRow], fun k _ hne => setRow_other w g k cs (fun e => hne (by rw [e]))⟩
theorem fil_built (rows : Nat → Value) (d : Nat → Bool) (L : Int) (mb : Nat) : Tryz.prog.built 111 [(0, .agg (gpV rows)), (1, .agg (smV d)), (2, .int .i64 L), (3, .map (some mb))] = some (filV rows d L mb) := by kernel_rfl
/-- The filling's block. -/
def FilAt (w : World) (g : Nat) (rows : Nat → Value) (d : Nat → Bool) (L : Int) (mb : Nat) : Prop := w.heap[g]? = some (.cells (filV rows d L mb) 111 (0, 0))
section
variable {w w' : World} {B g k mb : Nat} {rows : Nat → Value} {d : Nat → Bool} {L : Int}
theorem FilAt.row (h : FilAt w g rows d L mb) (hk : k < 64) : w.cell? ⟨g, k, none⟩ = some (rows k) := by
  rw [cell_of_row w g k _ _ _ h, filV_get, if_pos hk]
theorem FilAt.sum (h : FilAt w g rows d L mb) (hk : k < 65) : w.cell? ⟨g, 64 + k, none⟩ = some (.bool (d k)) := by
  rw [cell_of_row w g _ _ _ _ h, filV_get, if_neg (by omega), if_pos (by omega), show 64 + k - 64 = k by omega]
theorem FilAt.limit (h : FilAt w g rows d L mb) : w.cell? ⟨g, 129, none⟩ = some (.int .i64 L) := by
  rw [cell_of_row w g _ _ _ _ h, filV_get]
  rfl
theorem FilAt.map (h : FilAt w g rows d L mb) : w.cell? ⟨g, 130, none⟩ = some (.map (some mb)) := by
  rw [cell_of_row w g _ _ _ _ h, filV_get]
  rfl
theorem FilAt.frozen (h : FilAt w g rows d L mb) (k : Nat) : w.frozen? ⟨g, k, none⟩ = false := frozen_of_row w g k _ _ h
theorem FilAt.lt (h : FilAt w g rows d L mb) : g < w.heap.size := (Array.getElem?_eq_some_iff.1 h).1
theorem FilAt.same (h : FilAt w g rows d L mb) (e : w'.heap[g]? = w.heap[g]?) : FilAt w' g rows d L mb := e.trans h
theorem FilAt.by {r : Option Nat} (h : FilAt w g rows d L mb) (hg : w.grownBy w' r) (hne : some g ≠ r) : FilAt w' g rows d L mb := h.same (hg.block g h.lt hne)
theorem FilAt.on (h : FilAt w g rows d L mb) (hb : Below B w w') (hlt : g < B) : FilAt w' g rows d L mb := h.same (hb.block g hlt)
theorem FilAt.set (h : FilAt w g rows d L mb) (hk : k < 64) (v : Value) : FilAt (w.setCell ⟨g, k, none⟩ v) g (setV1 rows k v) d L mb := by
  unfold FilAt
  rw [heap_setCell_same w g k _ _ _ h, filV_upd _ _ _ _ hk]
end
/-- The masks, by their least places: each place has a row of the call's own. -/
structure GrpAt (B : Nat) (w : World) (g : Nat) (rows : Nat → Value) (Q : List Nat) : Prop where
  each : ∀ k, k < 64 → w.ownsRow B 3 1 (rows k) (grpB Q k).length (iv (ints (grpB Q k)))
  off : ∀ k, k < 64 → (rows k).ownBlock ≠ some g
  apart : ∀ k j, k < 64 → j < 64 → k ≠ j → ∀ b, (rows k).ownBlock = some b → (rows j).ownBlock ≠ some b
theorem GrpAt.by {B : Nat} {w w' : World} {g : Nat} {rows : Nat → Value} {Q : List Nat} {r : Option Nat} (h : GrpAt B w g rows Q) (hg : w.grownBy w' r) (hne : ∀ k, k < 64 → ∀ b, (rows k).ownBlock = some b → r ≠ some b) : GrpAt B w' g rows Q :=
  ⟨fun k hk => (h.each k hk).kept hg (by
    cases e : (rows k).ownBlock with
    | none => exact .inl rfl
    | some b => exact .inr fun e2 => hne k hk b e e2.symm), h.off, h.apart⟩
theorem grpB_snoc (Q : List Nat) (i k : Nat) (h : i < Q.length) : grpB (Q.take (i + 1)) k = grpB (Q.take i) k ++ (if lowB (Q.getD i 0) = k then [Q.getD i 0] else []) := by
  unfold grpB
  rw [take_one h 0, List.filter_append, List.filter_cons]
  by_cases e : lowB (Q.getD i 0) = k
  · rw [if_pos e, if_pos (by simpa using e)]
    rfl
  · rw [if_neg e, if_neg (by simpa using e)]
    rfl
theorem grpB_len (Q : List Nat) (k : Nat) : (grpB Q k).length ≤ Q.length := List.length_filter_le _ _
theorem ints_snoc (Q : List Nat) (m : Nat) : iv (ints (Q ++ [m])) = iv (ints Q) ++ iv [(m : Int)] := by simp [iv, ints]
/-- One mask more in its row. -/
theorem GrpAt.put {B : Nat} {w w' : World} {g gg c : Nat} {rows : Nat → Value} {Q Q' : List Nat} {k m : Nat} (h : GrpAt B w g rows Q) (hk : k < 64) (hQ : ∀ j, grpB Q' j = grpB Q j ++ (if k = j then [m] else []))
    (hnew : w'.ownsRow B 3 1 (.slice (some ⟨gg, 0, none⟩) ((grpB Q k).length + 1) c) ((grpB Q k).length + 1) (iv (ints (grpB Q k)) ++ iv [(m : Int)]))
    (hg : w.grownBy w' (rows k).ownBlock) (hat : (rows k).ownBlock = some gg ∨ w.heap.size ≤ gg) (hgl : g < w.heap.size) :
    GrpAt B w' g (setV1 rows k (.slice (some ⟨gg, 0, none⟩) ((grpB Q k).length + 1) c)) Q' := by
  have hlt : ∀ j, j < 64 → ∀ b, (rows j).ownBlock = some b → b < w.heap.size := fun j hj b hb => ((h.each j hj).lt b hb).2
  refine ⟨fun j hj => ?_, fun j hj => ?_, fun i j hi hj hij b hb => ?_⟩
  · unfold setV1
    rw [hQ j]
    by_cases e : j = k
    · subst e
      rw [if_pos rfl, if_pos rfl, List.length_append, ints_snoc]
      exact hnew
    · rw [if_neg e, if_neg (fun h => e h.symm), List.append_nil]
      refine (h.each j hj).kept hg ?_
      cases e2 : (rows j).ownBlock with
      | none => exact .inl rfl
      | some b => exact .inr fun e3 => h.apart j k hj hk e b e2 e3.symm
  · unfold setV1
    split
    · intro e
      have e2 : gg = g := by injection e
      subst e2
      rcases hat with h1 | h1
      · exact h.off k hk h1
      · omega
    · exact h.off j hj
  · unfold setV1 at hb ⊢
    by_cases e1 : i = k
    · subst e1
      rw [if_pos rfl] at hb
      have e3 : gg = b := by injection hb
      subst e3
      rw [if_neg (fun h => hij h.symm)]
      intro e4
      rcases hat with h1 | h1
      · exact h.apart i j hi hj hij gg h1 e4
      · have := hlt j hj gg e4
        omega
    · rw [if_neg e1] at hb
      by_cases e2 : j = k
      · subst e2
        rw [if_pos rfl]
        intro e4
        have e3 : gg = b := by injection e4
        subst e3
        rcases hat with h1 | h1
        · exact h.apart i j hi hj hij gg hb h1
        · have := hlt i hi gg hb
          omega
      · rw [if_neg e2]
        exact h.apart i j hi hj hij b hb
theorem GrpAt.to {B : Nat} {w : World} {g g2 : Nat} {rows : Nat → Value} {Q : List Nat} (h : GrpAt B w g rows Q) (h2 : ∀ k, k < 64 → (rows k).ownBlock ≠ some g2) : GrpAt B w g2 rows Q := ⟨h.each, h2, h.apart⟩
theorem GrpAt.to_new {B : Nat} {w : World} {g g2 : Nat} {rows : Nat → Value} {Q : List Nat} (h : GrpAt B w g rows Q) (h2 : w.heap.size ≤ g2) : GrpAt B w g2 rows Q :=
  h.to fun k hk e => by have := ((h.each k hk).lt g2 e).2; omega
theorem GrpAt.one {B : Nat} {w : World} {g : Nat} {rows : Nat → Value} {Q : List Nat} (h : GrpAt B w g rows Q) : ∀ k, k < 64 → (rows k).oneCell' = true := by
  intro k hk
  rcases (h.each k hk).2 with ⟨e, _⟩ | ⟨g9, c9, cur, e, _⟩ <;> (rw [e]; rfl)
theorem GrpAt.nil (B : Nat) (w : World) (g : Nat) : GrpAt B w g (fun _ => .slice none 0 0) [] :=
  ⟨fun k _ => ⟨rfl, .inl ⟨rfl, rfl⟩⟩, fun k _ e => (by cases e), fun k j _ _ _ b e => (by cases e)⟩
end

section
open Go.RowKit Go.Maps Go.ChangeMaps Go.MapKept

/-- How the counts' elements read. -/
noncomputable abbrev RI : Value → Option (DataW Nat × List MemPlace) := plainElem Tryz.prog 3

theorem own_map {w : World} {B size n b q : Nat} {t : TypeId} {v : Value} {xs : List Value} {k : TypeId} {R : Value → Option (DataW Nat × List MemPlace)} {D : DataW Nat} (h : w.ownsRow B t size v n xs) (hm : w.ownsMap Tryz.prog k R b q D) : v.ownBlock ≠ some b := by
  obtain ⟨es, clock, hb, _⟩ := hm
  rcases h.2 with ⟨rfl, _⟩ | ⟨g, cap, cur, rfl, _, hg, _⟩
  · exact fun e => (by cases e)
  · intro e
    have e2 : g = b := by injection e
    rw [e2, hb] at hg
    cases hg
theorem gp_after {w w' : World} {g : Nat} {rows : Nat → Value} {o : Obj} {r : Option Nat} (h : GpAt w g rows) (hg : ((w.alloc o).drew).grownBy w' r) (hne : some g ≠ r) : GpAt w' g rows := by
  have h1 : GpAt (w.alloc o) g rows := h.by (World.grownBy_alloc w o none) (by simp)
  have h2 : GpAt (w.alloc o).drew g rows := h1
  exact h2.by hg hne
theorem gp_after2 {w w' : World} {g : Nat} {rows : Nat → Value} {o : Obj} {r : Option Nat} (h : GpAt w g rows) (hg : (w.alloc o).grownBy w' r) (hne : some g ≠ r) : GpAt w' g rows := (h.by (World.grownBy_alloc w o none) (by simp)).by hg hne
theorem own_gp {w : World} {B size n b : Nat} {v : Value} {xs : List Value} {rows : Nat → Value} (h : w.ownsRow B 3 size v n xs) (hm : GpAt w b rows) : v.ownBlock ≠ some b := by
  rcases h.2 with ⟨rfl, _⟩ | ⟨g, cap, cur, rfl, _, hg, _⟩
  · exact fun e => (by cases e)
  · intro e
    have e2 : g = b := by injection e
    unfold GpAt at hm
    rw [e2, hm] at hg
    injection hg with hg
    injection hg with _ h2
    exact absurd h2 (by decide)

set_option maxHeartbeats 4000000 in
set_option maxRecDepth 100000 in
theorem iGrpB (B n cap : Nat) (a : Option Addr) (Q : List Nat) (w : World) (hn : n ≤ 100000) (hc : IntsAt B w a n (ints Q)) (hQ : ∀ m ∈ Q, m ≠ 0 ∧ m < 68719476736) (hB : B ≤ w.heap.size) (hT : Tz w) :
    Calls Tryz.prog 91 #[.slice a n cap] w fun e w' => (∃ rows, e = .returned (.agg (gpV rows)) ∧ ∀ g, w'.heap.size ≤ g → GrpAt w.heap.size w' g rows Q) ∧ Below w.heap.size w w' := by
  obtain ⟨i0, hi, hz0, hz1, hz2⟩ := info_parts info_int
  have H := Lib.hid hc
  have hln := hc.1
  rw [ints_len] at hln
  have HQ := Lib.hid hQ
  have HT := Lib.hid hT
  clear hc hQ hT
  have hs1 : (w.alloc (.cells (gpV fun _ => .slice none 0 0) 105)).heap.size = w.heap.size + 1 := by simp
  have HF0 := Lib.hid (GpAt.new (w.alloc (.cells (gpV fun _ => .slice none 0 0) 105)) fun _ => .slice none 0 0)
  rw [hs1] at HF0
  have HR0 := Lib.hid ((GpAt.new w fun _ => .slice none 0 0).on (B := w.heap.size + 1) ((Below.refl _ (w.alloc (.cells (gpV fun _ => .slice none 0 0) 105))).alloc (by simp) (.cells (gpV fun _ => .slice none 0 0) 105)) (by omega))
  have HW0 := Lib.hid (show Below w.heap.size w ((w.alloc (.cells (gpV fun _ => .slice none 0 0) 105)).alloc (.cells (gpV fun _ => .slice none 0 0) 105)) from ((Below.refl _ _).alloc (Nat.le_refl _) _).alloc (by simp) _)
  have hsz2 : ((w.alloc (.cells (gpV fun _ => .slice none 0 0) 105)).alloc (.cells (gpV fun _ => .slice none 0 0) 105)).heap.size = w.heap.size + 2 := by simp
  clear hs1
  go_enter Tryz.func91, Tryz.ntmps91
  go_wp2
  rw [gpV_zero]
  generalize ((w.alloc (.cells (gpV fun _ => .slice none 0 0) 105)).alloc (.cells (gpV fun _ => .slice none 0 0) 105)) = W2 at *
  obtain ⟨rb, hrb⟩ : ∃ rb, w.heap.size = rb := ⟨_, rfl⟩
  have HRB := Lib.hid hrb
  rw [hrb] at HF0 HR0 HW0 hsz2 hB ⊢
  go_loopw [9] (fun i wr => ∃ (k : Nat) (rows : Nat → Value), k ≤ n ∧ i = .int .i64 (k : Int) ∧ Hid (GpAt wr (rb + 1) rows) ∧ Hid (GpAt wr rb (fun _ => .slice none 0 0)) ∧ Hid (GrpAt rb wr (rb + 1) rows (Q.take k)) ∧ Below rb w wr ∧ rb + 2 ≤ wr.heap.size) (fun i _ => n - (intOf i).toNat)
  case atStart => exact ⟨0, _, by omega, rfl, HF0.out, HR0.out, GrpAt.nil _ _ _, HW0.out, by omega⟩
  case round =>
    clear HF0 HR0 HW0 hsz2
    obtain ⟨k, rows, hk, rfl, hf, hr0, hgr, hb, hsz⟩ := hrel
    by_cases hkt : k < n
    · have hk1 : (k : Int) < (n : Int) := by omega
      have hk0 : (0 : Int) ≤ (k : Int) := by omega
      obtain ⟨b9, o9, rfl, hb9, hc9⟩ := (H.out.on (hb.mono hB)).2.2 (by omega)
      have p1 := hc9 k hkt
      rw [ints_get] at p1
      have hm := HQ.out (Q.getD k 0) (getD_memN (by omega))
      have HSN := Lib.hid (fun j => grpB_snoc Q k j (by omega))
      obtain ⟨m, hmm⟩ : ∃ m, Q.getD k 0 = m := ⟨_, rfl⟩
      rw [hmm] at p1 hm HSN
      have hlw := lowB_lt hm.1 (by omega)
      have HL := Lib.hid (iLow m (by omega) wr (HT.out.on hb (by have := HT.out.2; have := HRB.out; omega)))
      obtain ⟨low, hlow⟩ : ∃ low, lowB m = low := ⟨_, rfl⟩
      rw [hlow] at hlw HL HSN
      clear hc9 hmm hlow hm
      have hl0 : (0 : Int) ≤ (low : Int) := by omega
      have hl1 : (low : Int) < 64 := by omega
      have c0 := hf.out.row (k := low) hlw
      have f0 := hf.out.frozen low
      have hown := hgr.out.each low hlw
      have hlen := grpB_len (Q.take k) low
      rw [List.length_take] at hlen
      have hoff := hgr.out.off low hlw
      obtain ⟨v, hv⟩ : ∃ v, rows low = v := ⟨_, rfl⟩
      rw [hv] at c0 hown hoff
      have HV := Lib.hid hv
      have hoff2 := own_gp hown hr0.out
      obtain ⟨q, hq⟩ : ∃ q, (grpB (Q.take k) low).length = q := ⟨_, rfl⟩
      rw [hq] at hown hlen
      have hlen' : q ≤ 100000 := Nat.le_trans hlen (Nat.le_trans (Nat.min_le_left _ _) (by omega))
      clear hlen
      have HQL := Lib.hid hq
      have HOW := Lib.hid hown
      have hglt := hf.out.lt
      have m0 : (wr.alloc (.cells #[.int .i64 (m : Int)] 3)).cell? ⟨rb + 1, low, none⟩ = some v := (hf.out.by (World.grownBy_alloc wr _ none) (by simp)).row hlw |>.trans (by rw [HV.out])
      clear hv hq hown
      go_wp2_with fail
      refine HL.out.mono ?_
      rintro e w2 ⟨rfl, hw2⟩
      have hw2' := hw2.symm
      subst hw2'
      have hOWa := HOW.out.alloc (.cells #[.int .i64 (m : Int)] 3)
      go_wp2_with (first | (at_builtin; refine wpList_append_lies _ rfl _ _ _ rfl rb 3 i0 (.int .i64 0) 1 8 Tryz.underlying24 hi hz0 hz1 hz2 rfl (by omega) _ q (iv (ints (grpB (Q.take k) low))) rfl hOWa ⟨wr.heap.size, 0, none⟩ 1 1 (iv [(m : Int)]) rfl rfl ?a2 (iv_one _) (by omega) ?a3 ?a4 ?a5 (wr.heap.size + 1) ?a6 ?_) | go_in)
      case a2 => exact World.news_of_block (cs := #[.int .i64 (m : Int)]) (t := 3) (fr := (0, 0)) (heap_alloc_new _ _)
      case a3 => unfold maxLen; omega
      case a4 => omega
      case a5 => have := hb.size; simp; omega
      case a6 => simp
      intro gg cap' w' hownN hgrN hatN hltN
      have hfN := gp_after2 hf.out hgrN (fun e => hoff e.symm)
      have m1 : w'.cell? ⟨rb + 1, low, none⟩ = some v := (hfN.row hlw).trans (by rw [HV.out])
      have m2 := hfN.frozen low
      have hgr2 : (wr.alloc (.cells #[.int .i64 (m : Int)] 3)).grownBy w' v.ownBlock := hgrN
      have hat2 : v.ownBlock = some gg ∨ gg = wr.heap.size + 1 := hatN
      have hszA : (wr.alloc (.cells #[.int .i64 (m : Int)] 3)).heap.size = wr.heap.size + 1 := by simp
      have hszB : wr.heap.size + 1 ≤ w'.heap.size := by rw [← hszA]; exact hgr2.size
      have hG1 := hgr.out.by (World.grownBy_alloc wr (.cells #[.int .i64 (m : Int)] 3) none) (fun _ _ _ _ h => by cases h)
      have hG2 := hG1.put (Q' := Q.take (k + 1)) (k := low) (m := m) (gg := gg) (c := cap') (w' := w') hlw HSN.out (by rw [HQL.out]; exact hownN) (by rw [HV.out]; exact hgr2)
        (by rw [HV.out]; rcases hat2 with h1 | h1; exact .inl h1; exact .inr (by rw [hszA]; omega)) (by rw [hszA]; omega)
      rw [HQL.out] at hG2
      have HR2 := Lib.hid ((gp_after2 hr0.out hgrN (fun e => hoff2 e.symm)).other (c := rb + 1) (k := low) (v := .slice (some ⟨gg, 0, none⟩) (q + 1) cap') (by omega))
      have hb2 := (hb.alloc (by omega) (.cells #[.int .i64 (m : Int)] 3)).grown hgr2 (by show _ ≤ (wr.alloc (.cells #[.int .i64 (m : Int)] 3)).heap.size; simp; omega) (fun j hj => (HOW.out.lt _ hj).1)
      have HB2 := Lib.hid (hb2.setCell (p := ⟨rb + 1, low, none⟩) (by show rb ≤ rb + 1; omega) (.slice (some ⟨gg, 0, none⟩) (q + 1) cap'))
      have HF2 := Lib.hid (hfN.set hlw (.slice (some ⟨gg, 0, none⟩) (q + 1) cap'))
      have HG3 := Lib.hid (hG2.by (grown_set1 w' (rb + 1) low (.slice (some ⟨gg, 0, none⟩) (q + 1) cap')) (fun j hj b hb9 e => hG2.off j hj (by rw [hb9]; exact e.symm)))
      have HS2 := Lib.hid (show rb + 2 ≤ (w'.setCell ⟨rb + 1, low, none⟩ (.slice (some ⟨gg, 0, none⟩) (q + 1) cap')).heap.size from by have h7 := (grown_set1 w' (rb + 1) low (.slice (some ⟨gg, 0, none⟩) (q + 1) cap')).size; omega)
      clear hownN hgrN hatN hfN m0 c0 f0 hgr2 hat2 hG1 hG2 hb2 hf hgr hr0 hb HOW hszB hszA hOWa p1
      go_wp2
      go_roundw
      case rel => first
        | exact ⟨k + 1, _, by omega, by go_num, HF2.out, HR2.out, HG3.out, HB2.out, HS2.out⟩
        | (repeat apply Exists.intro
           exact ⟨⟨k + 1, _, by omega, by go_num, HF2.out, HR2.out, HG3.out, HB2.out, HS2.out⟩, rfl⟩)
      case measure => simp [intOf]; omega
    · obtain rfl : k = n := by omega
      have hgr9 := hgr.out
      rw [List.take_of_length_le (by omega)] at hgr9
      have hi1 : (Tryz.prog.info? 105).map (·.size) = some (gpV rows).size := by rw [gpV_size]; exact gp_size
      have HI := Lib.hid hi1
      have HONE := Lib.hid (gpV_one hgr9.one)
      have HWF := Lib.hid (below_setRow hb (Nat.le_refl _) (gpV rows))
      have HRF := Lib.hid (setRow_heap wr rb _ (gpV rows) _ _ hr0.out)
      have HSZ := Lib.hid (show (wr.setRow rb (gpV rows)).heap.size = wr.heap.size from by simp [World.setRow])
      have HG9 := Lib.hid (hgr9.by (grown_setRow wr rb (gpV rows)) (fun j hj b hb9 e => own_gp (hgr9.each j hj) hr0.out (by rw [hb9]; exact e.symm)))
      have HF9 := hf.out
      unfold GpAt at HF9
      have hr9 := hr0.out
      unfold GpAt at hr9
      clear hi1 hgr9 hgr hf hr0
      go_wp2_with (first
        | (refine wpList_load_row rfl 105 _ rfl (rb + 1) rfl 105 (gpV rows) (0, 0) _ HF9 Tryz.underlying105 rfl HI.out ?_)
        | (refine wpList_store_row rfl 105 _ _ rfl rb (gpV rows) rfl rfl 105 (gpV fun _ => .slice none 0 0) hr9 HI.out (by rw [gpV_size, gpV_size]) HONE.out ?_)
        | go_in)
      exact bodyPost_ret (v := .agg (gpV rows)) (results_cell_row Tryz.results91 _ _ rb 105 (gpV rows) (0, 0) _ rfl HRF.out Tryz.underlying105 rfl HI.out) rfl ⟨⟨rows, rfl, fun g hg => by rw [HRB.out]; exact HG9.out.to_new hg⟩, by rw [HRB.out]; exact HWF.out⟩

set_option maxHeartbeats 4000000 in
set_option maxRecDepth 100000 in
theorem iNewF (B n cap : Nat) (a : Option Addr) (Q : List Nat) (L : Int) (w : World) (hn : n ≤ 100000) (hc : IntsAt B w a n (ints Q)) (hQ : ∀ m ∈ Q, m ≠ 0 ∧ m < 68719476736) (hB : B ≤ w.heap.size) (hT : Tz w) :
    Calls Tryz.prog 54 #[.slice a n cap, .int .i64 L] w fun e w' => (∃ g mb rows d, e = .returned (.pointer (some ⟨g, 0, none⟩)) ∧ FilAt w' g rows d L mb ∧ GrpAt w.heap.size w' g rows Q ∧ SumTo Q d 65 ∧ w'.ownsMap Tryz.prog 3 RI mb 0 (.map []) ∧ w.heap.size ≤ g ∧ w.heap.size ≤ mb) ∧ Below w.heap.size w w' := by
  have H := Lib.hid hc
  have HQ := Lib.hid hQ
  have HT := Lib.hid hT
  have hmm := @run_makeMap Tryz.prog
  clear hc hQ hT
  go_enter Tryz.func54, Tryz.ntmps54
  go_wp2_with fail
  refine (iGrpB B n cap a Q w hn H.out HQ.out hB HT.out).mono ?_
  rintro e w0 ⟨⟨rows, rfl, hgr⟩, hb0⟩
  have HG := Lib.hid hgr
  have HB0 := Lib.hid hb0
  clear hgr hb0
  go_wp2_with fail
  refine (iSums B n cap a Q w0 (by omega) (H.out.on (HB0.out.mono hB)) (fun m hm => (HQ.out m hm).2) (Nat.le_trans hB HB0.out.size)).mono ?_
  rintro e w1 ⟨⟨d, rfl, hd⟩, hb1⟩
  have HD := Lib.hid hd
  have HB1 := Lib.hid (HB0.out.trans (hb1.mono HB0.out.size))
  have HG1 := Lib.hid (fun g (hg : w1.heap.size ≤ g) => (HG.out g (Nat.le_trans hb1.size hg)).by (grow_below hb1 none) (fun _ _ _ _ h => by cases h))
  clear hd hb1
  have hbt := fil_built rows d L w1.heap.size
  go_wp2_with (first | (refine wpList_build rfl 111 _ rfl ?iss ?_) | go_in)
  obtain ⟨mb, hmb⟩ : ∃ mb, w1.heap.size = mb := ⟨_, rfl⟩
  have hs1 := HB1.out.size
  have hs2 : (w1.alloc (.map #[] 0)).heap.size = mb + 1 := by simp [hmb]
  have HF0 := Lib.hid (show FilAt ((w1.alloc (.map #[] 0)).alloc (.cells (filV rows d L mb) 111)) (mb + 1) rows d L mb from by rw [← hs2]; exact heap_alloc_last _ _)
  have HM0 := Lib.hid (show ((w1.alloc (.map #[] 0)).alloc (.cells (filV rows d L mb) 111)).ownsMap Tryz.prog 3 RI mb 0 (.map []) from by rw [← hmb]; exact (World.ownsMap_made w1 _ _ _).alloc _)
  have HW0 := Lib.hid (show Below w.heap.size w ((w1.alloc (.map #[] 0)).alloc (.cells (filV rows d L mb) 111)) from (HB1.out.alloc hs1 _).alloc (by rw [hs2]; omega) _)
  have HG2 := Lib.hid (show GrpAt w.heap.size ((w1.alloc (.map #[] 0)).alloc (.cells (filV rows d L mb) 111)) (mb + 1) rows Q from
    ((HG1.out (mb + 1) (by omega)).by (World.grownBy_alloc w1 (.map #[] 0) none) (fun _ _ _ _ h => by cases h)).by (World.grownBy_alloc _ _ none) (fun _ _ _ _ h => by cases h))
  rw [hmb] at hs1 ⊢
  clear hbt hmm hs2
  generalize ((w1.alloc (.map #[] 0)).alloc (.cells (filV rows d L mb) 111)) = W2 at *
  go_wp2
  go_ret
  exact ⟨⟨mb + 1, mb, rows, d, rfl, HF0.out, HG2.out, HD.out, HM0.out, by omega, by omega⟩, HW0.out⟩
end

end Go.Proofs.YtkjlmgkjcmebbaaGreatDoor
