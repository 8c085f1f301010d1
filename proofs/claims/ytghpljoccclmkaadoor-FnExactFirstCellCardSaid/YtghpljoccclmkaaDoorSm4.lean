/-
  Are these pieces, in the model and in the program: what each call gives; slices of shapes in memory.
-/
import Derived.Test.YtghpljoccclmkaaDoorSm1
import Derived.Test.YtghpljoccclmkaaDoorIan
import Derived.Test.YtghpljoccclmkaaDoorOwn
import Derived.Test.YtghpljoccclmkaaDoorPma
namespace Go.Proofs.YtghpljoccclmkaaDoor
open Go.RowKit

/-- A slice of slices of cells that reads as a list of shapes of at most M cells, its memory below block B. -/
def PsB (M B : Nat) (w : World) (a : Option Addr) (n : Nat) (L : List (List Cl)) : Prop :=
  L.length = n ∧ (0 < n → ∃ b off, a = some ⟨b, off, none⟩ ∧ b < B ∧ ∀ k, k < n → ∃ ak ck, w.cell? ⟨b, off + k, none⟩ = some (.slice ak (L.getD k []).length ck) ∧ CellsAt B w ak (L.getD k []).length (L.getD k []) ∧ (L.getD k []).length ≤ M)
theorem PsB.on {M B n : Nat} {w w' : World} {a : Option Addr} {L : List (List Cl)} (h : PsB M B w a n L) (hb : Below B w w') : PsB M B w' a n L :=
  ⟨h.1, fun hp => by
    obtain ⟨b, off, e, hlt, hc⟩ := h.2 hp
    refine ⟨b, off, e, hlt, fun k hk => ?_⟩
    obtain ⟨ak, ck, h1, h2, h3⟩ := hc k hk
    exact ⟨ak, ck, (hb.cell (p := ⟨b, off + k, none⟩) hlt).trans h1, h2.on hb, h3⟩⟩
theorem PsB.more {M B B' n : Nat} {w : World} {a : Option Addr} {L : List (List Cl)} (h : PsB M B w a n L) (hB : B ≤ B') : PsB M B' w a n L :=
  ⟨h.1, fun hp => by
    obtain ⟨b, off, e, hlt, hc⟩ := h.2 hp
    refine ⟨b, off, e, by omega, fun k hk => ?_⟩
    obtain ⟨ak, ck, h1, h2, h3⟩ := hc k hk
    exact ⟨ak, ck, h1, h2.more hB, h3⟩⟩
theorem PsB.small {M M' B n : Nat} {w : World} {a : Option Addr} {L : List (List Cl)} (h : PsB M B w a n L) (hm : ∀ k, k < n → (L.getD k []).length ≤ M') : PsB M' B w a n L :=
  ⟨h.1, fun hp => by
    obtain ⟨b, off, e, hlt, hc⟩ := h.2 hp
    refine ⟨b, off, e, hlt, fun k hk => ?_⟩
    obtain ⟨ak, ck, h1, h2, _⟩ := hc k hk
    exact ⟨ak, ck, h1, h2, hm k hk⟩⟩
abbrev PsAt (B : Nat) (w : World) (a : Option Addr) (n : Nat) (L : List (List Cl)) : Prop := PsB 1048576 B w a n L
/-- Shapes of the call's own read so. -/
theorem PsB.of_own {M B : Nat} {w : World} {v : Value} {es : List Ent} (h : OwnS B w v es) (hs : SmallS es) (hm : ∀ e ∈ es, e.2.2.length ≤ M) : ∃ a cap, v = .slice a es.length cap ∧ PsB M w.heap.size w a es.length (es.map kE) := by
  rcases h.row.2 with ⟨rfl, h0⟩ | ⟨g, cap, cur, rfl, hb, hg, _⟩
  · refine ⟨none, 0, by rw [h0], by simp, fun hp => absurd hp (by omega)⟩
  · refine ⟨_, cap, rfl, by simp, fun _ => ⟨g, 0, rfl, (Array.getElem?_eq_some_iff.1 hg).1, fun k hk => ?_⟩⟩
    have he := ent_mem hk
    have c0 := h.row.cellAt k (by omega)
    rw [evs_get hk] at c0
    have e2 : (es.map kE).getD k [] = (es.getD k dE).2.2 := by simp [List.getD, hk, kE]
    rw [e2, Nat.zero_add]
    exact ⟨_, _, c0, h.each.cells hs he, hm _ he⟩
theorem arePc_shape {ps : List (List Cl)} {k : Nat} (h : isShape (ps.getD k []) = false) (hk : k < ps.length) : arePc ps = false := by
  unfold arePc; rw [allPc_false h hk]; rfl
theorem arePc_all {ps : List (List Cl)} (h : allPc ps ps.length = true) : arePc ps = inb ps.length 1 5 := by unfold arePc; rw [h]; rfl



end Go.Proofs.YtghpljoccclmkaaDoor
