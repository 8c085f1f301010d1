/-
  Slices of numbers in memory, regions as values, and what the laws' own helpers on them give.
-/
import Derived.Test.YtkcclhnligajeaaDoorVac
namespace Go.Proofs.YtkcclhnligajeaaDoor
open Go.RowKit

def iv (l : List Int) : List Value := l.map (Value.int .i64)
def In64 (z : Int) : Prop := -9223372036854775808 ≤ z ∧ z ≤ 9223372036854775807
/-- A slice that reads as the list of numbers l, its memory below block B. -/
def IntsAt (B : Nat) (w : World) (a : Option Addr) (n : Nat) (l : List Int) : Prop :=
  l.length = n ∧ (∀ z ∈ l, In64 z) ∧ (0 < n → ∃ b off, a = some ⟨b, off, none⟩ ∧ b < B ∧ ∀ k, k < n → w.cell? ⟨b, off + k, none⟩ = some (.int .i64 (l.getD k 0)))
theorem IntsAt.on {B n : Nat} {w w' : World} {a : Option Addr} {l : List Int} (h : IntsAt B w a n l) (hb : Below B w w') : IntsAt B w' a n l :=
  ⟨h.1, h.2.1, fun hp => by
    obtain ⟨b, off, e, hlt, hc⟩ := h.2.2 hp
    exact ⟨b, off, e, hlt, fun k hk => (hb.cell (p := ⟨b, off + k, none⟩) hlt).trans (hc k hk)⟩⟩
theorem IntsAt.more {B B' n : Nat} {w : World} {a : Option Addr} {l : List Int} (h : IntsAt B w a n l) (hB : B ≤ B') : IntsAt B' w a n l :=
  ⟨h.1, h.2.1, fun hp => by
    obtain ⟨b, off, e, hlt, hc⟩ := h.2.2 hp
    exact ⟨b, off, e, by omega, hc⟩⟩
theorem iv_length (l : List Int) : (iv l).length = l.length := by simp [iv]
theorem iv_get (l : List Int) (k : Nat) (h : k < l.length) : (iv l)[k]? = some (.int .i64 (l.getD k 0)) := by simp [iv, List.getD, h]
theorem iv_one (l : List Int) : ∀ u ∈ iv l, u.oneCell' = true := by
  intro u hu
  obtain ⟨z, _, rfl⟩ := List.mem_map.1 hu
  rfl
theorem iv_set (l : List Int) (k : Nat) (z : Int) : (iv l).set k (.int .i64 z) = iv (l.set k z) := by simp [iv]
theorem IntsAt.of_own {base n cap : Nat} {w : World} {a : Option Addr} {l : List Int} (h : w.ownsRow base 3 1 (.slice a n cap) n (iv l)) (hi : ∀ z ∈ l, In64 z) : IntsAt w.heap.size w a n l := by
  have hl : l.length = n := by have := h.1; rw [iv_length] at this; omega
  refine ⟨hl, hi, fun hp => ?_⟩
  rcases h.2 with ⟨_, h0⟩ | ⟨g, c, cur, he, hb, hg, hnc, hcm, hcs, ht⟩
  · omega
  · injection he with e1 e2 e3
    subst e1 e3
    have hlt : g < w.heap.size := (Array.getElem?_eq_some_iff.1 hg).1
    refine ⟨g, 0, rfl, hlt, fun k hk => ?_⟩
    have c0 := h.cellAt k (by omega)
    rw [iv_get l k (by omega)] at c0
    rw [Nat.zero_add]
    exact c0
theorem IsRd.of_own2 {B n cap : Nat} {w : World} {a : Option Addr} {zs : List Int} (h : w.ownsRow B 3 1 (.slice a n cap) n (iv zs)) : IsRd w.heap.size w (.slice a n cap) zs := by
  have hl : zs.length = n := by have := h.1; rw [iv_length] at this; omega
  subst hl
  exact IsRd.of_own h
theorem info_int : (Tryd.prog.info? 3).map (fun i => (i.zero, i.size, i.bytes)) = some (some (.int .i64 0), 1, 8) := by kernel_rfl
theorem made_ints (n : Nat) : (madeCells #[Value.int .i64 0] n).toList = iv (List.replicate n 0) := by
  apply List.ext_getElem?
  intro j
  by_cases hj : j < n
  · rw [iv_get _ _ (by simpa using hj)]
    simp [madeCells, hj, List.getD, Nat.mod_one]
  · rw [List.getElem?_eq_none (by simp [madeCells]; omega), List.getElem?_eq_none (by rw [iv_length]; simp; omega)]
theorem fillI_step (l : List Int) (k n : Nat) (h : k < n) (hl : l.length = n) : (l.take k ++ List.replicate (n - k) (0 : Int)).set k (l.getD k 0) = l.take (k + 1) ++ List.replicate (n - (k + 1)) 0 := by
  have e : n - k = (n - (k + 1)) + 1 := by omega
  rw [e, List.replicate_succ, List.set_append_right _ _ (by simp; omega)]
  have e2 : k - (l.take k).length = 0 := by simp; omega
  rw [e2, List.set_cons_zero, List.take_succ_eq_append_getElem (by omega)]
  have e3 : l.getD k 0 = l[k]'(by omega) := by simp [List.getD, show k < l.length by omega]
  rw [e3, List.append_assoc]
  rfl

set_option maxHeartbeats 400000 in
set_option maxRecDepth 100000 in
/-- The laws' copy of a slice of numbers: a new slice that reads alike. -/
theorem lToIntS (B n cap : Nat) (a : Option Addr) (l : List Int) (w : World) (hn : n ≤ 1048576) (hc : IntsAt B w a n l) (hB : B ≤ w.heap.size) :
    Calls Tryd.prog 7 #[.slice a n cap] w fun e w' => e = .returned (.slice (some ⟨w.heap.size, 0, none⟩) n n) ∧ w'.ownsRow w.heap.size 3 1 (.slice (some ⟨w.heap.size, 0, none⟩) n n) n (iv l) ∧ Below w.heap.size w w' := by
  obtain ⟨i0, hi, hz0, hz1, hz2⟩ := info_parts info_int
  have HC := Lib.hid hc
  clear hc
  go_enter Tryd.func7, Tryd.ntmps7
  go_wp2_with (first | (at_make; refine wpList_make_full _ rfl _ _ 22 rfl w.heap.size 3 i0 (.int .i64 0) 1 Tryd.underlying22 hi hz0 hz1 _ _ _ _ n rfl rfl rfl rfl ?b2 ?b3 (Nat.le_refl _) ?_) | go_in)
  case b2 => rw [hz2]; omega
  case b3 => unfold maxLen; omega
  intro w0 hown0 hgrow0
  go_wp2
  go_loopw [4] (fun i wr => ∃ k : Nat, k ≤ n ∧ i = .int .i64 k ∧ Hid (wr.ownsRow w.heap.size 3 1 (.slice (some ⟨w.heap.size, 0, none⟩) n n) n (iv (l.take k ++ List.replicate (n - k) 0))) ∧ Below w.heap.size w wr) (fun i _ => n - (intOf i).toNat)
  case atStart => exact ⟨0, by omega, rfl, by rw [made_ints n] at hown0; simpa [Hid] using hown0, (Below.refl _ _).grown hgrow0 (Nat.le_refl _) (fun k h => by cases h)⟩
  case round =>
    obtain ⟨k, hk, rfl, hown, hbl⟩ := hrel
    by_cases hlt : k < n
    · obtain ⟨b, off, rfl, hb, hcell⟩ := HC.out.2.2 (by omega)
      have p1 := (hbl.cell (p := ⟨b, off + k, none⟩) (Nat.lt_of_lt_of_le hb hB)).trans (hcell k hlt)
      have HL := Lib.hid HC.out.1
      have hk0 : (0 : Int) ≤ (k : Int) := by omega
      have hk1 : (k : Int) < (n : Int) := by omega
      obtain ⟨z, hz⟩ : ∃ z, l.getD k 0 = z := ⟨_, rfl⟩
      rw [hz] at p1
      have HZ := Lib.hid hz
      have hlen : k < (l.take k ++ List.replicate (n - k) (0 : Int)).length := by have := HL.out; simp; omega
      have c0 := hown.out.cellAt k (by omega)
      rw [iv_get _ k hlen] at c0
      have f0 := hown.out.frozenAt k
      have hs1 := hown.out.stored k (.int .i64 z)
      rw [iv_set, ← hz, fillI_step l k n hlt HL.out, hz] at hs1
      have HO := Lib.hid hs1.1
      have HG := Lib.hid (hbl.grown hs1.2 hbl.size (fun j hj => by cases hj; exact Nat.le_refl _))
      generalize (l.take k ++ List.replicate (n - k) (0 : Int)).getD k 0 = u at c0
      clear hs1 hlen hz hcell hown hbl
      go_wp2
      go_roundw
      case rel => exact ⟨k + 1, by omega, by go_num, HO.out, HG.out⟩
      case measure => simp [intOf]; omega
    · have e : l.take k ++ List.replicate (n - k) (0 : Int) = l := by
        have := HC.out.1
        rw [List.take_of_length_le (by omega), show n - k = 0 by omega]
        simp
      rw [e] at hown
      go_wp2
      go_ret
      exact ⟨rfl, hown.out, hbl⟩

/-- A region as a value. -/
def rv (W : Int) (a : Option Addr) (n cap : Nat) : Value := .agg #[.int .i64 W, .slice a n cap]

/-- A region in memory, as two cells. -/
def RgAt (w : World) (g : Nat) (W : Int) (v : Value) : Prop := w.heap[g]? = some (.cells #[.int .i64 W, v] 27 (0, 0))
theorem RgAt.lt {w : World} {g : Nat} {W : Int} {v : Value} (h : RgAt w g W v) : g < w.heap.size := (Array.getElem?_eq_some_iff.1 h).1
theorem RgAt.c0 {w : World} {g : Nat} {W : Int} {v : Value} (h : RgAt w g W v) : w.cell? ⟨g, 0, none⟩ = some (.int .i64 W) := cell_of_row w g 0 _ _ _ h
theorem RgAt.c1 {w : World} {g : Nat} {W : Int} {v : Value} (h : RgAt w g W v) : w.cell? ⟨g, 1, none⟩ = some v := cell_of_row w g 1 _ _ _ h
theorem RgAt.f {w : World} {g : Nat} {W : Int} {v : Value} (h : RgAt w g W v) (j : Nat) : w.frozen? ⟨g, j, none⟩ = false := by unfold RgAt at h; simp [World.frozen?, h]
theorem RgAt.new {w : World} {N : Nat} (W : Int) (v : Value) (h : w.heap.size = N) : RgAt (w.alloc (.cells #[.int .i64 W, v] 27)) N W v := by subst h; exact heap_alloc_new _ _
theorem RgAt.alloc {w : World} {g : Nat} {W : Int} {v : Value} (h : RgAt w g W v) (o : Obj) : RgAt (w.alloc o) g W v := (Below.heap_alloc w o g h.lt).trans h
theorem RgAt.on {w w' : World} {g B : Nat} {W : Int} {v : Value} (h : RgAt w g W v) (hb : Below B w w') (hlt : g < B) : RgAt w' g W v := (hb.block g hlt).trans h
theorem RgAt.set1 {w : World} {g : Nat} {W : Int} {v : Value} (h : RgAt w g W v) (u : Value) : RgAt (w.setCell ⟨g, 1, none⟩ u) g W u := by
  have := set_row h 1 u
  unfold RgAt
  simpa using this
theorem RgAt.set2 {w : World} {g : Nat} {W : Int} {v : Value} (h : RgAt w g W v) (x : Int) (u : Value) : RgAt ((w.setCell ⟨g, 0, none⟩ (.int .i64 x)).setCell ⟨g, 1, none⟩ u) g x u := by
  have := set_row (set_row h 0 (.int .i64 x)) 1 u
  unfold RgAt
  simpa using this
theorem RgAt.far {w : World} {g g' j : Nat} {W : Int} {v u : Value} (h : RgAt w g W v) (hne : g' ≠ g) : RgAt (w.setCell ⟨g', j, none⟩ u) g W v := (Below.heap_setCell w ⟨g', j, none⟩ u g (fun e => hne e.symm)).trans h
theorem RgAt.by {w w' : World} {g : Nat} {W : Int} {v : Value} {r : Option Nat} (h : RgAt w g W v) (hg : w.grownBy w' r) (hne : r ≠ some g) : RgAt w' g W v := (hg.block g h.lt (fun e => hne e.symm)).trans h
/-- A region of the laws' own type in memory. -/
def LgAt (w : World) (g : Nat) (W : Int) (v : Value) : Prop := w.heap[g]? = some (.cells #[.int .i64 W, v] 24 (0, 0))
theorem LgAt.lt {w : World} {g : Nat} {W : Int} {v : Value} (h : LgAt w g W v) : g < w.heap.size := (Array.getElem?_eq_some_iff.1 h).1
theorem LgAt.c0 {w : World} {g : Nat} {W : Int} {v : Value} (h : LgAt w g W v) : w.cell? ⟨g, 0, none⟩ = some (.int .i64 W) := cell_of_row w g 0 _ _ _ h
theorem LgAt.c1 {w : World} {g : Nat} {W : Int} {v : Value} (h : LgAt w g W v) : w.cell? ⟨g, 1, none⟩ = some v := cell_of_row w g 1 _ _ _ h
theorem LgAt.new {w : World} {N : Nat} (W : Int) (v : Value) (h : w.heap.size = N) : LgAt (w.alloc (.cells #[.int .i64 W, v] 24)) N W v := by subst h; exact heap_alloc_new _ _
theorem LgAt.alloc {w : World} {g : Nat} {W : Int} {v : Value} (h : LgAt w g W v) (o : Obj) : LgAt (w.alloc o) g W v := (Below.heap_alloc w o g h.lt).trans h
theorem LgAt.on {w w' : World} {g B : Nat} {W : Int} {v : Value} (h : LgAt w g W v) (hb : Below B w w') (hlt : g < B) : LgAt w' g W v := (hb.block g hlt).trans h
theorem LgAt.by {w w' : World} {g : Nat} {W : Int} {v : Value} {r : Option Nat} (h : LgAt w g W v) (hg : w.grownBy w' r) (hne : r ≠ some g) : LgAt w' g W v := (hg.block g h.lt (fun e => hne e.symm)).trans h
theorem ne_rowT {v u : Value} {a b c d : Nat} (h : ∀ k, v.ownBlock = some k → a ≤ k ∧ k < b) (h2 : ∀ k, u.ownBlock = some k → c ≤ k ∧ k < d) (hd : b ≤ c ∨ d ≤ a) : v.ownBlock = none ∨ v.ownBlock ≠ u.ownBlock := by
  cases e : v.ownBlock with
  | none => exact .inl rfl
  | some k => exact .inr fun e2 => by have := h k e; have := h2 k e2.symm; omega
theorem ne_blkT {u : Value} {c d g : Nat} (h2 : ∀ k, u.ownBlock = some k → c ≤ k ∧ k < d) (hd : g < c ∨ d ≤ g) : u.ownBlock ≠ some g := fun e => by have := h2 g e; omega
theorem grown_set1 (w : World) (g o : Nat) (v : Value) : w.grownBy (w.setCell ⟨g, o, none⟩ v) (some g) := ⟨rfl, rfl, rfl, by simp [World.setCell], fun k _ hne => by
  have : g ≠ k := fun e => hne (by rw [e])
  simp [World.setCell, Array.getElem?_modify, this]⟩

theorem own_far {w : World} {base size n cap g b o : Nat} {t : TypeId} {xs : List Value} {u : Value} (h : w.ownsRow base t size (.slice (some ⟨g, 0, none⟩) n cap) n xs) (hne : b ≠ g) : (w.setCell ⟨b, o, none⟩ u).ownsRow base t size (.slice (some ⟨g, 0, none⟩) n cap) n xs :=
  h.kept (grown_set1 w b o u) (.inr fun e => hne (Option.some.inj (show some g = some b from e)).symm)

set_option maxHeartbeats 400000 in
set_option maxRecDepth 100000 in
theorem lToRegion (B n cap : Nat) (a : Option Addr) (W : Int) (l : List Int) (w : World) (hn : n ≤ 1048576) (hc : IntsAt B w a n l) (hB : B ≤ w.heap.size) :
    Calls Tryd.prog 6 #[.agg #[.int .i64 W, .slice a n cap]] w fun e w' => ∃ g, e = .returned (.agg #[.int .i64 W, .slice (some ⟨g, 0, none⟩) n n]) ∧ w'.ownsRow w.heap.size 3 1 (.slice (some ⟨g, 0, none⟩) n n) n (iv l) ∧ Below w.heap.size w w' := by
  have H := Lib.hid hc
  clear hc
  go_enter Tryd.func6, Tryd.ntmps6
  go_wp2_with fail
  obtain ⟨W1, hW1⟩ : ∃ x, w.alloc (.cells #[.int .i64 W, .slice a n cap] 24) = x := ⟨_, rfl⟩
  have hs1 : W1.heap.size = w.heap.size + 1 := by rw [← hW1]; simp
  have hb1 : Below w.heap.size w W1 := by rw [← hW1]; exact (Below.refl _ _).alloc (Nat.le_refl _) _
  rw [hW1]
  have R2 := (RgAt.new (w := W1) 0 (.slice none 0 0) hs1).alloc (.cells #[.int .i64 W, .slice none 0 0] 27)
  have R3 := RgAt.new (w := W1.alloc (.cells #[.int .i64 0, .slice none 0 0] 27)) (N := w.heap.size + 1 + 1) W (.slice none 0 0) (by simp [hs1])
  have hb3 := (hb1.alloc hb1.size (.cells #[.int .i64 0, .slice none 0 0] 27)).alloc (by simp [hs1]; omega) (.cells #[.int .i64 W, .slice none 0 0] 27)
  have hs3 : ((W1.alloc (.cells #[.int .i64 0, .slice none 0 0] 27)).alloc (.cells #[.int .i64 W, .slice none 0 0] 27)).heap.size = w.heap.size + 1 + 1 + 1 := by simp [hs1]
  generalize (W1.alloc (.cells #[.int .i64 0, .slice none 0 0] 27)).alloc (.cells #[.int .i64 W, .slice none 0 0] 27) = W3 at *
  refine (lToIntS B n cap a l W3 hn (H.out.on (hb3.mono hB)) (Nat.le_trans hB hb3.size)).mono ?_
  rintro e w4 ⟨rfl, hown, hb4⟩
  have R2' := R2.on hb4 R2.lt
  have R3' := R3.on hb4 R3.lt
  have hB4 := hb3.trans (hb4.mono hb3.size)
  rw [hs3] at hown ⊢
  have c0 := R3'.c0
  have c1 := R3'.c1
  have f1 := R3'.f 1
  have d0 := R2'.c0
  have d1 := R2'.c1
  have g0 := R2'.f 0
  have g1 := R2'.f 1
  have HO := Lib.hid hown
  have HR2 := Lib.hid R2'
  have HR3 := Lib.hid R3'
  have HB := Lib.hid hB4
  clear hb1 hb3 hb4 hW1 R2 R3 hown R2' R3' hB4
  go_wp2
  have R9 := (HR2.out.far (g' := w.heap.size + 1 + 1) (j := 1) (u := .slice (some ⟨w.heap.size + 1 + 1 + 1, 0, none⟩) n n) (by omega)).set2 W (.slice (some ⟨w.heap.size + 1 + 1 + 1, 0, none⟩) n n)
  have e0 := R9.c0
  have e1 := R9.c1
  have HO9 := Lib.hid (own_below (own_far (b := w.heap.size + 1) (o := 1) (u := .slice (some ⟨w.heap.size + 1 + 1 + 1, 0, none⟩) n n) (own_far (b := w.heap.size + 1) (o := 0) (u := .int .i64 W) (own_far (b := w.heap.size + 1 + 1) (o := 1) (u := .slice (some ⟨w.heap.size + 1 + 1 + 1, 0, none⟩) n n) HO.out (by omega)) (by omega)) (by omega)) (show w.heap.size ≤ w.heap.size + 1 + 1 + 1 by omega))
  have HB9 := Lib.hid (((HB.out.setCell (p := ⟨w.heap.size + 1 + 1, 1, none⟩) (by show w.heap.size ≤ w.heap.size + 1 + 1; omega) (.slice (some ⟨w.heap.size + 1 + 1 + 1, 0, none⟩) n n)).setCell (p := ⟨w.heap.size + 1, 0, none⟩) (by show w.heap.size ≤ w.heap.size + 1; omega) (.int .i64 W)).setCell (p := ⟨w.heap.size + 1, 1, none⟩) (by show w.heap.size ≤ w.heap.size + 1; omega) (.slice (some ⟨w.heap.size + 1 + 1 + 1, 0, none⟩) n n))
  generalize (((w4.setCell ⟨w.heap.size + 1 + 1, 1, none⟩ (.slice (some ⟨w.heap.size + 1 + 1 + 1, 0, none⟩) n n)).setCell ⟨w.heap.size + 1, 0, none⟩ (.int .i64 W)).setCell ⟨w.heap.size + 1, 1, none⟩ (.slice (some ⟨w.heap.size + 1 + 1 + 1, 0, none⟩) n n)) = w9 at *
  exact bodyPost_ret (v := .agg #[.int .i64 W, .slice (some ⟨w.heap.size + 1 + 1 + 1, 0, none⟩) n n]) (by simp [results, Tryd.results6, go_sem, e0, e1]) rfl ⟨_, rfl, HO9.out, HB9.out⟩

theorem lSzI_fits (a : Option Addr) (n cap : Nat) (left : Int) (w : World) (h0 : left ≤ 1048576) (h : (n : Int) ≤ left) :
    Calls Tryd.prog 11 #[.slice a n cap, .int .i64 left] w fun e w' => e = .returned (.int .i64 (left - n)) ∧ w = w' := by
  go_enter Tryd.func11, Tryd.ntmps11
  go_wp2
  go_ret
  exact ⟨rfl, rfl⟩
theorem lSzI_big (a : Option Addr) (n cap : Nat) (left : Int) (w : World) (h0 : 0 ≤ left) (h : left < n) (hn : n ≤ 9223372036854775807) :
    Calls Tryd.prog 11 #[.slice a n cap, .int .i64 left] w fun e w' => e = .returned (.int .i64 (-1)) ∧ w = w' := by
  go_enter Tryd.func11, Tryd.ntmps11
  go_wp2
  go_ret
  exact ⟨rfl, rfl⟩
theorem lSzR_fits (W : Int) (a : Option Addr) (n cap : Nat) (left : Int) (w : World) (h0 : left ≤ 1048576) (h : (n : Int) ≤ left) :
    Calls Tryd.prog 4 #[.agg #[.int .i64 W, .slice a n cap], .int .i64 left] w fun e w' => e = .returned (.int .i64 (left - n)) ∧ Below w.heap.size w w' := by
  go_enter Tryd.func4, Tryd.ntmps4
  go_wp2_with fail
  refine (lSzI_fits a n cap left _ h0 h).mono ?_
  rintro e w' ⟨rfl, rfl⟩
  go_wp2
  go_ret
  exact ⟨rfl, (Below.refl _ _).alloc (Nat.le_refl _) _⟩
theorem lSzR_big (W : Int) (a : Option Addr) (n cap : Nat) (left : Int) (w : World) (h0 : 0 ≤ left) (h : left < n) (hn : n ≤ 9223372036854775807) :
    Calls Tryd.prog 4 #[.agg #[.int .i64 W, .slice a n cap], .int .i64 left] w fun e w' => e = .returned (.int .i64 (-1)) ∧ Below w.heap.size w w' := by
  go_enter Tryd.func4, Tryd.ntmps4
  go_wp2_with fail
  refine (lSzI_big a n cap left _ h0 h hn).mono ?_
  rintro e w' ⟨rfl, rfl⟩
  go_wp2
  go_ret
  exact ⟨rfl, (Below.refl _ _).alloc (Nat.le_refl _) _⟩

set_option maxHeartbeats 400000 in
theorem lEqR (B : Nat) (W : Int) (v1 v2 : Value) (zs : List Int) (w : World) (hn : zs.length ≤ 4194304) (h1 : IsRd B w v1 zs) (h2 : IsRd B w v2 zs) (hB : B ≤ w.heap.size) :
    Calls Tryd.prog 9 #[.agg #[.int .i64 W, v1], .agg #[.int .i64 W, v2]] w fun e w' => e = .returned (.bool true) ∧ Below w.heap.size w w' := by
  have H1 := Lib.hid h1
  have H2 := Lib.hid h2
  have hne : (W != W) = false := by simp
  clear h1 h2
  go_enter Tryd.func9, Tryd.ntmps9
  go_wp2_with fail
  have hb := ((Below.refl w.heap.size w).alloc (Nat.le_refl _) (.cells #[.int .i64 W, v1] 27)).alloc (by simp) (.cells #[.int .i64 W, v2] 27)
  refine (lEqI B v1 v2 zs _ hn (H1.out.on (hb.mono hB)) (H2.out.on (hb.mono hB)) (Nat.le_trans hB hb.size)).mono ?_
  rintro e w' ⟨rfl, hb2⟩
  go_wp2
  go_ret
  exact ⟨rfl, hb.trans (hb2.mono hb.size)⟩
end Go.Proofs.YtkcclhnligajeaaDoor
