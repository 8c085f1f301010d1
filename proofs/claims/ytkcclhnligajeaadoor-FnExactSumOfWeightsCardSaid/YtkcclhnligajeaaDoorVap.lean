/-
  Marks written into slices of shapes: what lies elsewhere is as it was.
  What a walk is told of a slice of integers that came in, and what its helpers of one byte are.
  A slice of numbers that came in: its numbers in memory.
  The library's table for the count of trailing zeros, out of the row's condition on the listed variables. Nothing of the program is claimed here.
-/
import Derived.Test.YtkcclhnligajeaaDoorVao
import Derived.Test.YtkcclhnligajeaaDoorKit
import Derived.OpenShut
import Derived.Test.YtkcclhnligajeaaDoorRga
import Derived.Test.YtkcclhnligajeaaDoorVan
import Derived.Test.YtkcclhnligajeaaDoorVaf
import Derived.LaidMore
import Derived.MakeChecks
import Derived.Stop.LaidErr
import Derived.Lib.LaidTab
import Derived.Test.YtkcclhnligajeaaDoorRows
namespace Go.Proofs.YtkcclhnligajeaaDoor

section
open Go.RowKit

/-- All is as it was, but for the blocks of some shapes. -/
structure KeptBut (es : List Ent) (w w' : World) : Prop where
  os : w'.os = w.os
  tape : w'.tape = w.tape
  output : w'.output = w.output
  size : w.heap.size ≤ w'.heap.size
  block : ∀ k, k < w.heap.size → OffS k es → w'.heap[k]? = w.heap[k]?
theorem KeptBut.refl (es : List Ent) (w : World) : KeptBut es w w := ⟨rfl, rfl, rfl, Nat.le_refl _, fun _ _ _ => rfl⟩
theorem KeptBut.step {es : List Ent} {w w1 w2 : World} {b c : Nat} {x : List Cl} (h : KeptBut es w w1) (hg : w1.grownBy w2 (some b)) (hm : (b, c, x) ∈ es) : KeptBut es w w2 :=
  ⟨hg.os.trans h.os, hg.tape.trans h.tape, hg.output.trans h.output, Nat.le_trans h.size hg.size, fun k hk ho => (hg.block k (Nat.lt_of_lt_of_le hk h.size) (fun e => ho _ hm (Option.some.inj e).symm)).trans (h.block k hk ho)⟩
theorem RgAt.kp {w w' : World} {g : Nat} {W : Int} {v : Value} {es : List Ent} (h : RgAt w g W v) (hk : KeptBut es w w') (ho : OffS g es) : RgAt w' g W v := (hk.block g h.lt ho).trans h
theorem LgAt.kp {w w' : World} {g : Nat} {W : Int} {v : Value} {es : List Ent} (h : LgAt w g W v) (hk : KeptBut es w w') (ho : OffS g es) : LgAt w' g W v := (hk.block g h.lt ho).trans h
theorem own_kp {es : List Ent} {w w' : World} {B n size : Nat} {t : TypeId} {v : Value} {xs : List Value} (hk : KeptBut es w w') (h : w.ownsRow B t size v n xs) (ho : ∀ k, v.ownBlock = some k → OffS k es) : w'.ownsRow B t size v n xs := by
  refine ⟨h.1, ?_⟩
  rcases h.2 with ⟨e, h0⟩ | ⟨g, cap, cur, rfl, hb, hg, h1, h2, h3, h4⟩
  · exact .inl ⟨e, h0⟩
  · exact .inr ⟨g, cap, cur, rfl, hb, (hk.block g (Array.getElem?_eq_some_iff.1 hg).1 (ho g rfl)).trans hg, h1, h2, h3, h4⟩
theorem off_up {B U g k : Nat} {es : List Ent} (h : (B ≤ g ∧ g < U) ∧ ∀ e ∈ es, B ≤ e.1 ∧ e.1 < U) (hk : k < B ∨ U ≤ k) : OffS k es := fun e he h9 => by
  have := h.2 e he
  omega
end

section
open Go.RowKit

/-- What the walk is told of a slice of integers that came in. -/
def IsRow (k : IntKind) (w : World) (a : Option Addr) (len cap : Nat) (zs : List Int) : Prop :=
  (a = none ∧ len = 0 ∧ cap = 0 ∧ zs = []) ∨
  ∃ x, a = some x ∧ len ≤ cap ∧ cap ≤ maxLen ∧ zs.length = cap ∧ (∀ i, i < zs.length → w.cell? (x.add i) = some (.int k (zs.getD i 0))) ∧ ∀ n ∈ zs, (Lit.int k n).wf = true
end

section
open Go.RowKit

theorem ints_of_row {w : World} {a : Option Addr} {len cap : Nat} {zs : List Int} (h : IsRow .i64 w a len cap zs) : IntsAt w.heap.size w a len (zs.take len) ∧ len ≤ maxLen := by
  rcases h with ⟨rfl, rfl, rfl, rfl⟩ | ⟨x, rfl, h1, h2, h3, h4, h5⟩
  · exact ⟨⟨rfl, fun z hz => (by cases hz), fun h => absurd h (by omega)⟩, Nat.zero_le _⟩
  · refine ⟨⟨by rw [List.length_take]; omega, fun z hz => ?_, fun hp => ?_⟩, by omega⟩
    · exact wf_i64 (h5 z (List.mem_of_mem_take hz))
    · obtain ⟨b, off, spot⟩ := x
      have hc := h4 0 (by omega)
      have hspot : spot = none := by simpa [Addr.add] using World.cell?_spot hc
      subst hspot
      have hb : b < w.heap.size := World.block_lt_of_cell? w _ (by simpa [Addr.add] using hc)
      refine ⟨b, off, rfl, hb, fun k hk => ?_⟩
      rw [← Addr.add_lit, h4 k (by omega)]
      congr 2
      simp [List.getD, hk, show k < zs.length by omega]
end

section
open Go.RowKit

theorem datumDB : (Rows.laid_math_bits_deBruijn64tab : DataW Unit) = Lib.tabData .u8 (Lib.deBruijn64tab.map fun (x : Nat) => (x : Int)) := by kernel_rfl
theorem nDB : Tryd.prog.globalNamed "math/bits.deBruijn64tab" = some gDB := by kernel_rfl
theorem tDB : (Tryd.prog.globals[gDB]?).map (·.type) = some 55 := by kernel_rfl
theorem tab_of_laid {W : World} (h : laidMetH Tryd.prog [("math/bits.deBruijn32tab", Rows.laid_math_bits_deBruijn32tab), ("math/bits.deBruijn64tab", Rows.laid_math_bits_deBruijn64tab)] W) : Tz W := by
  rw [MakeChecks.laidMetH_plain _ _ _ (by kernel_rfl)] at h
  have h2 := h.tail
  rw [datumDB] at h2
  have h3 := Lib.tabIs_of_head nDB tDB Tryd.underlying55 Tryd.underlying5 (by kernel_rfl) (by kernel_rfl) h2
  have hc : ∀ j, j < Lib.deBruijn64tab.length → W.cell? ⟨gDB, j, none⟩ = some (.int .u8 (Lib.deBruijn64tab.getD j 0)) := fun j hj => by
    have := Lib.TabIs.cell h3 nDB j (by rw [List.length_map]; exact hj)
    rw [this]
    simp [List.getD, hj]
  exact ⟨hc, World.block_lt_of_cell? W ⟨gDB, 0, none⟩ (hc 0 (by decide))⟩
end

end Go.Proofs.YtkcclhnligajeaaDoor
