/-
  Slices of numbers in memory, regions as values, and what the laws' own helpers on them give.
-/
import Derived.Test.YtcfioncnpfoccaaGreatDoorLsi
import Derived.Test.YtcfioncnpfoccaaGreatDoorCor
namespace Go.Proofs.YtcfioncnpfoccaaGreatDoor
open Go.RowKit

def iv (l : List Int) : List Value := l.map (Value.int .i64)
def In64 (z : Int) : Prop := -9223372036854775808 ≤ z ∧ z ≤ 9223372036854775807
/-- A slice that reads as the list of numbers l, its memory below block B. -/
def IntsAt (B : Nat) (w : World) (a : Option Addr) (n : Nat) (l : List Int) : Prop :=
  l.length = n ∧ (∀ z ∈ l, In64 z) ∧ (0 < n → ∃ b off, a = some ⟨b, off, none⟩ ∧ b < B ∧ ∀ k, k < n → w.cell? ⟨b, off + k, none⟩ = some (.int .i64 (l.getD k 0)))
theorem IntsAt.on {B n : Nat} {w w' : World} {a : Option Addr} {l : List Int} (h : IntsAt B w a n l) (hb : Below B w w') : IntsAt B w' a n l :=
  ⟨h.1, h.2.1, fun hp => by
    obtain ⟨b, off, e, hlt, hc⟩ := h.2.2 hp
    exact ⟨b, off, e, hlt, fun k hk => (hb.cell (p := ⟨b, off + k, none⟩) hlt).trans (hc k hk)⟩⟩
theorem IntsAt.more {B B' n : Nat} {w : World} {a : Option Addr} {l : List Int} (h : IntsAt B w a n l) (hB : B ≤ B') : IntsAt B' w a n l :=
  ⟨h.1, h.2.1, fun hp => by
    obtain ⟨b, off, e, hlt, hc⟩ := h.2.2 hp
    exact ⟨b, off, e, by omega, hc⟩⟩
theorem iv_length (l : List Int) : (iv l).length = l.length := by simp [iv]
theorem iv_get (l : List Int) (k : Nat) (h : k < l.length) : (iv l)[k]? = some (.int .i64 (l.getD k 0)) := by simp [iv, List.getD, h]
theorem iv_one (l : List Int) : ∀ u ∈ iv l, u.oneCell' = true := by
  intro u hu
  obtain ⟨z, _, rfl⟩ := List.mem_map.1 hu
  rfl
theorem iv_set (l : List Int) (k : Nat) (z : Int) : (iv l).set k (.int .i64 z) = iv (l.set k z) := by simp [iv]
theorem IntsAt.of_own {base n cap : Nat} {w : World} {a : Option Addr} {l : List Int} (h : w.ownsRow base 3 1 (.slice a n cap) n (iv l)) (hi : ∀ z ∈ l, In64 z) : IntsAt w.heap.size w a n l := by
  have hl : l.length = n := by have := h.1; rw [iv_length] at this; omega
  refine ⟨hl, hi, fun hp => ?_⟩
  rcases h.2 with ⟨_, h0⟩ | ⟨g, c, cur, he, hb, hg, hnc, hcm, hcs, ht⟩
  · omega
  · injection he with e1 e2 e3
    subst e1 e3
    have hlt : g < w.heap.size := (Array.getElem?_eq_some_iff.1 hg).1
    refine ⟨g, 0, rfl, hlt, fun k hk => ?_⟩
    have c0 := h.cellAt k (by omega)
    rw [iv_get l k (by omega)] at c0
    rw [Nat.zero_add]
    exact c0
theorem IsRd.of_own2 {B n cap : Nat} {w : World} {a : Option Addr} {zs : List Int} (h : w.ownsRow B 3 1 (.slice a n cap) n (iv zs)) : IsRd w.heap.size w (.slice a n cap) zs := by
  have hl : zs.length = n := by have := h.1; rw [iv_length] at this; omega
  subst hl
  exact IsRd.of_own h
theorem info_int : (Tryz.prog.info? 3).map (fun i => (i.zero, i.size, i.bytes)) = some (some (.int .i64 0), 1, 8) := by kernel_rfl
theorem made_ints (n : Nat) : (madeCells #[Value.int .i64 0] n).toList = iv (List.replicate n 0) := by
  apply List.ext_getElem?
  intro j
  by_cases hj : j < n
  · rw [iv_get _ _ (by simpa using hj)]
    simp [madeCells, hj, List.getD, Nat.mod_one]
  · rw [List.getElem?_eq_none (by simp [madeCells]; omega), List.getElem?_eq_none (by rw [iv_length]; simp; omega)]
theorem fillI_step (l : List Int) (k n : Nat) (h : k < n) (hl : l.length = n) : (l.take k ++ List.replicate (n - k) (0 : Int)).set k (l.getD k 0) = l.take (k + 1) ++ List.replicate (n - (k + 1)) 0 := by
  have e : n - k = (n - (k + 1)) + 1 := by omega
  rw [e, List.replicate_succ, List.set_append_right _ _ (by simp; omega)]
  have e2 : k - (l.take k).length = 0 := by simp; omega
  rw [e2, List.set_cons_zero, List.take_succ_eq_append_getElem (by omega)]
  have e3 : l.getD k 0 = l[k]'(by omega) := by simp [List.getD, show k < l.length by omega]
  rw [e3, List.append_assoc]
  rfl

/-- A region as a value. -/
def rv (W : Int) (a : Option Addr) (n cap : Nat) : Value := .agg #[.int .i64 W, .slice a n cap]

/-- A region in memory, as two cells. -/
def RgAt (w : World) (g : Nat) (W : Int) (v : Value) : Prop := w.heap[g]? = some (.cells #[.int .i64 W, v] 26 (0, 0))
theorem RgAt.lt {w : World} {g : Nat} {W : Int} {v : Value} (h : RgAt w g W v) : g < w.heap.size := (Array.getElem?_eq_some_iff.1 h).1
theorem RgAt.c0 {w : World} {g : Nat} {W : Int} {v : Value} (h : RgAt w g W v) : w.cell? ⟨g, 0, none⟩ = some (.int .i64 W) := cell_of_row w g 0 _ _ _ h
theorem RgAt.c1 {w : World} {g : Nat} {W : Int} {v : Value} (h : RgAt w g W v) : w.cell? ⟨g, 1, none⟩ = some v := cell_of_row w g 1 _ _ _ h
theorem RgAt.f {w : World} {g : Nat} {W : Int} {v : Value} (h : RgAt w g W v) (j : Nat) : w.frozen? ⟨g, j, none⟩ = false := by unfold RgAt at h; simp [World.frozen?, h]
theorem RgAt.new {w : World} {N : Nat} (W : Int) (v : Value) (h : w.heap.size = N) : RgAt (w.alloc (.cells #[.int .i64 W, v] 26)) N W v := by subst h; exact heap_alloc_new _ _
theorem RgAt.alloc {w : World} {g : Nat} {W : Int} {v : Value} (h : RgAt w g W v) (o : Obj) : RgAt (w.alloc o) g W v := (Below.heap_alloc w o g h.lt).trans h
theorem RgAt.on {w w' : World} {g B : Nat} {W : Int} {v : Value} (h : RgAt w g W v) (hb : Below B w w') (hlt : g < B) : RgAt w' g W v := (hb.block g hlt).trans h
theorem RgAt.set1 {w : World} {g : Nat} {W : Int} {v : Value} (h : RgAt w g W v) (u : Value) : RgAt (w.setCell ⟨g, 1, none⟩ u) g W u := by
  have := set_row h 1 u
  unfold RgAt
  simpa using this
theorem RgAt.set2 {w : World} {g : Nat} {W : Int} {v : Value} (h : RgAt w g W v) (x : Int) (u : Value) : RgAt ((w.setCell ⟨g, 0, none⟩ (.int .i64 x)).setCell ⟨g, 1, none⟩ u) g x u := by
  have := set_row (set_row h 0 (.int .i64 x)) 1 u
  unfold RgAt
  simpa using this
theorem RgAt.far {w : World} {g g' j : Nat} {W : Int} {v u : Value} (h : RgAt w g W v) (hne : g' ≠ g) : RgAt (w.setCell ⟨g', j, none⟩ u) g W v := (Below.heap_setCell w ⟨g', j, none⟩ u g (fun e => hne e.symm)).trans h
theorem RgAt.by {w w' : World} {g : Nat} {W : Int} {v : Value} {r : Option Nat} (h : RgAt w g W v) (hg : w.grownBy w' r) (hne : r ≠ some g) : RgAt w' g W v := (hg.block g h.lt (fun e => hne e.symm)).trans h
theorem ne_rowT {v u : Value} {a b c d : Nat} (h : ∀ k, v.ownBlock = some k → a ≤ k ∧ k < b) (h2 : ∀ k, u.ownBlock = some k → c ≤ k ∧ k < d) (hd : b ≤ c ∨ d ≤ a) : v.ownBlock = none ∨ v.ownBlock ≠ u.ownBlock := by
  cases e : v.ownBlock with
  | none => exact .inl rfl
  | some k => exact .inr fun e2 => by have := h k e; have := h2 k e2.symm; omega
theorem ne_blkT {u : Value} {c d g : Nat} (h2 : ∀ k, u.ownBlock = some k → c ≤ k ∧ k < d) (hd : g < c ∨ d ≤ g) : u.ownBlock ≠ some g := fun e => by have := h2 g e; omega
theorem grown_set1 (w : World) (g o : Nat) (v : Value) : w.grownBy (w.setCell ⟨g, o, none⟩ v) (some g) := ⟨rfl, rfl, rfl, by simp [World.setCell], fun k _ hne => by
  have : g ≠ k := fun e => hne (by rw [e])
  simp [World.setCell, Array.getElem?_modify, this]⟩

theorem own_far {w : World} {base size n cap g b o : Nat} {t : TypeId} {xs : List Value} {u : Value} (h : w.ownsRow base t size (.slice (some ⟨g, 0, none⟩) n cap) n xs) (hne : b ≠ g) : (w.setCell ⟨b, o, none⟩ u).ownsRow base t size (.slice (some ⟨g, 0, none⟩) n cap) n xs :=
  h.kept (grown_set1 w b o u) (.inr fun e => hne (Option.some.inj (show some g = some b from e)).symm)

end Go.Proofs.YtcfioncnpfoccaaGreatDoor
