/-
  The cells beside one, in the program: what the call gives.
  A part moved from one region to another, in the program: what the call gives.
-/
import Derived.Test.YtailmmamgnebhaaGreatDoorXai
import Derived.Test.YtailmmamgnebhaaGreatDoorXal
import Derived.Test.YtailmmamgnebhaaGreatDoorXam
namespace Go.Proofs.YtailmmamgnebhaaGreatDoor

section
open Go.RowKit

/-- The four cells beside one, as the program's array. -/
def nbv (c : Cl) : Value := .agg #[.int .i64 (nbC c 0).1, .int .i64 (nbC c 0).2, .int .i64 (nbC c 1).1, .int .i64 (nbC c 1).2, .int .i64 (nbC c 2).1, .int .i64 (nbC c 2).2, .int .i64 (nbC c 3).1, .int .i64 (nbC c 3).2]
theorem row_new (w : World) (t : TypeId) (c : Array Value) (j : Nat) : (w.alloc (.cells c t)).cell? ⟨w.heap.size, j, none⟩ = c[j]? := cell_of_row _ w.heap.size j c t (0, 0) (heap_alloc_new _ _)
end

section
open Go.RowKit

theorem Rg.in64 {W H : Nat} {l : List Int} (h : Rg W H l) : ∀ z ∈ l, In64 z := by
  intro z hz
  obtain ⟨j, hj, rfl⟩ := List.mem_iff_getElem.1 hz
  have h1 := h.nat (y := j) (by rw [← h.len]; exact hj)
  have e : l.getD j 0 = l[j] := by simp [List.getD, hj]
  rw [e] at h1
  unfold In64
  omega
theorem cells_less {W H : Nat} {F G : List Int} (hF : Rg W H F) (hG : Rg W H G) (hs : ∀ q, bt G q = true → bt F q = true) {c : Cl} (hc : bt F c = true) (hn : ¬ bt G c = true) : (cellsB W H G).length < (cellsB W H F).length := by
  have := nodup_sub_len (c :: cellsB W H G) (cellsB W H F) (List.nodup_cons.2 ⟨fun h => hn ((mem_cellsB hG c).1 h), srt_nodup (cellsB_srt _ _ _)⟩) (fun x hx => by
    rcases List.mem_cons.1 hx with rfl | hx
    · exact (mem_cellsB hF _).2 hc
    · exact (mem_cellsB hF x).2 (hs x ((mem_cellsB hG x).1 hx)))
  rw [List.length_cons] at this
  omega
theorem nb_rng {u v : Nat} (hu : u < 6) (hv : v < 6) {d : Nat} (hd : d < 4) : (-1 ≤ (nbC ((u : Int), (v : Int)) d).1 ∧ (nbC ((u : Int), (v : Int)) d).1 ≤ 10) ∧ -1 ≤ (nbC ((u : Int), (v : Int)) d).2 ∧ (nbC ((u : Int), (v : Int)) d).2 ≤ 10 := by
  have : d = 0 ∨ d = 1 ∨ d = 2 ∨ d = 3 := by omega
  rcases this with rfl | rfl | rfl | rfl <;> simp [nbC] <;> omega

/-- Of what was below B nothing has turned but two blocks. -/
structure Bu2 (B f t : Nat) (w w' : World) : Prop where
  os : w'.os = w.os
  tape : w'.tape = w.tape
  output : w'.output = w.output
  size : w.heap.size ≤ w'.heap.size
  block : ∀ k, k < B → k ≠ f → k ≠ t → w'.heap[k]? = w.heap[k]?
theorem Bu2.refl (B f t : Nat) (w : World) : Bu2 B f t w w := ⟨rfl, rfl, rfl, Nat.le_refl _, fun _ _ _ _ => rfl⟩
theorem Bu2.trans {B f t : Nat} {x y z : World} (h : Bu2 B f t x y) (k : Bu2 B f t y z) : Bu2 B f t x z :=
  ⟨k.os.trans h.os, k.tape.trans h.tape, k.output.trans h.output, Nat.le_trans h.size k.size, fun i hi h1 h2 => (k.block i hi h1 h2).trans (h.block i hi h1 h2)⟩
theorem Bu2.mono {B B' f t : Nat} {w w' : World} (h : Bu2 B f t w w') (hB : B' ≤ B) : Bu2 B' f t w w' := ⟨h.os, h.tape, h.output, h.size, fun k hk => h.block k (Nat.lt_of_lt_of_le hk hB)⟩
theorem Bu2.of_below {B f t : Nat} {w w' : World} (h : Below B w w') : Bu2 B f t w w' := ⟨h.os, h.tape, h.output, h.size, fun k hk _ _ => h.block k hk⟩
theorem Bu2.below {B f t : Nat} {w w' : World} (h : Bu2 B f t w w') {B' : Nat} (h1 : B' ≤ B) (h2 : B' ≤ f) (h3 : B' ≤ t) : Below B' w w' := ⟨h.os, h.tape, h.output, h.size, fun k hk => h.block k (by omega) (by omega) (by omega)⟩
theorem Bu2.setF {B f t : Nat} {x w : World} (h : Bu2 B f t x w) (k : Nat) (v : Value) (n : Nat) : Bu2 B f t x ((w.setCell ⟨f, k, none⟩ v).drewN n) :=
  ⟨h.os, h.tape, h.output, by have := h.size; simpa [World.setCell] using this, fun j hj h1 h2 => (heap_setCell_other w ⟨f, k, none⟩ j v h1).trans (h.block j hj h1 h2)⟩
theorem Bu2.setT {B f t : Nat} {x w : World} (h : Bu2 B f t x w) (k : Nat) (v : Value) (n : Nat) : Bu2 B f t x ((w.setCell ⟨t, k, none⟩ v).drewN n) :=
  ⟨h.os, h.tape, h.output, by have := h.size; simpa [World.setCell] using this, fun j hj h1 h2 => (heap_setCell_other w ⟨t, k, none⟩ j v h2).trans (h.block j hj h1 h2)⟩
theorem RgAt.bu {w w' : World} {B f t g : Nat} {W : Int} {v : Value} (h : RgAt w g W v) (hb : Bu2 B f t w w') (hlt : g < B) (h1 : g ≠ f) (h2 : g ≠ t) : RgAt w' g W v := (hb.block g hlt h1 h2).trans h

/-- What a call on two regions of one grid has moved so far. -/
structure MvS (N M b1 b2 f t : Nat) (F T : List Int) (w : World) (G T2 : List Int) (w' : World) : Prop where
  rg : Rg N M G
  rt : Rg N M T2
  all : ∀ q, bt T2 q = true ↔ bt T q = true ∨ (bt F q = true ∧ ¬ bt G q = true)
  of : w'.ownsRow b1 3 1 (.slice (some ⟨f, 0, none⟩) M M) M (iv G)
  ot : w'.ownsRow b2 3 1 (.slice (some ⟨t, 0, none⟩) M M) M (iv T2)
  bu : Bu2 w.heap.size f t w w'
theorem MvS.start {N M b1 b2 f t : Nat} {F T : List Int} {w : World} (h1 : Rg N M F) (h2 : Rg N M T) (h3 : w.ownsRow b1 3 1 (.slice (some ⟨f, 0, none⟩) M M) M (iv F)) (h4 : w.ownsRow b2 3 1 (.slice (some ⟨t, 0, none⟩) M M) M (iv T)) : MvS N M b1 b2 f t F T w F T w :=
  ⟨h1, h2, fun _ => ⟨.inl, fun h => h.elim id fun h => absurd h.1 h.2⟩, h3, h4, Bu2.refl _ _ _ _⟩
theorem MvS.again {N M b1 b2 f t : Nat} {F T G T2 : List Int} {w w' : World} (h : MvS N M b1 b2 f t F T w G T2 w') : MvS N M b1 b2 f t G T2 w' G T2 w' := .start h.rg h.rt h.of h.ot
theorem MvS.on {N M b1 b2 f t : Nat} {F T G T2 : List Int} {w w' w2 : World} (h : MvS N M b1 b2 f t F T w G T2 w') (hb : Below w'.heap.size w' w2) : MvS N M b1 b2 f t F T w G T2 w2 :=
  ⟨h.rg, h.rt, h.all, h.of.kept (grow_below hb none) (.inr (by intro e; cases e)), h.ot.kept (grow_below hb none) (.inr (by intro e; cases e)), h.bu.trans (Bu2.of_below (hb.mono h.bu.size))⟩
theorem MvS.trans {N M b1 b2 f t : Nat} {F T G T2 G' T3 : List Int} {w w1 w2 : World} (h : MvS N M b1 b2 f t F T w G T2 w1) (k : MvS N M b1 b2 f t G T2 w1 G' T3 w2) (h1 : ∀ q, bt G q = true → bt F q = true) (h2 : ∀ q, bt G' q = true → bt G q = true) : MvS N M b1 b2 f t F T w G' T3 w2 :=
  ⟨k.rg, k.rt, fun q => by
    rw [k.all q, h.all q]
    constructor
    · rintro ((a | a) | a)
      · exact .inl a
      · exact .inr ⟨a.1, fun b => a.2 (h2 q b)⟩
      · exact .inr ⟨h1 q a.1, a.2⟩
    · rintro (a | a)
      · exact .inl (.inl a)
      · by_cases b : bt G q = true
        · exact .inr ⟨b, a.2⟩
        · exact .inl (.inr ⟨a.1, b⟩), k.of, k.ot, h.bu.trans (k.bu.mono h.bu.size)⟩
end

end Go.Proofs.YtailmmamgnebhaaGreatDoor
