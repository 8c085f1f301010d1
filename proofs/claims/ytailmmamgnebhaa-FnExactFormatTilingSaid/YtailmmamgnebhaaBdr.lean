/-
  A builder of strings in the program's memory: written byte by byte, read as a string.
-/
import Derived.Test.YtailmmamgnebhaaWby
import Derived.Test.YtailmmamgnebhaaShelf
import Derived.Test.YtailmmamgnebhaaRga
namespace Go.Proofs.Ytailmmamgnebhaa
open Go.RowKit

abbrev Bl (B b : Nat) (t : List UInt8) (w : World) : Prop := Lib.IsBuilderF 38 5 B b (Lib.byteCells t) w
theorem Bl.of {B b : Nat} {t u : List UInt8} {w : World} (h : Lib.BuilderAtF 38 5 B b (.pointer (some ⟨b, 0, none⟩)) (Lib.byteCells t ++ Lib.byteCells u) w) : Bl B b (t ++ u) w := by
  unfold Bl
  rw [Lib.byteCells_append]
  exact .inr h
theorem bWrite (B b : Nat) (t : List UInt8) (c : UInt8) (z : Int) (hz : z = (c.toNat : Int)) (w : World) (h : Bl B b t w) (hl : t.length ≤ 100000) (hB : B ≤ w.heap.size) :
    Calls Try.prog 14 #[.pointer (some ⟨b, 0, none⟩), .int .u8 z] w fun e w' => (∃ r, e = .returned r) ∧ Bl B b (t ++ [c]) w' ∧ Below B w w' ∧ Lib.OthersKept 5 (some b) w w' := by
  subst hz
  exact (iWriteByte B b (Lib.byteCells t) (c.toNat : Int) w h (by rw [Lib.byteCells_length]; omega) hB).mono fun _ _ ⟨he, h1, h2, h3⟩ => ⟨⟨_, he⟩, Bl.of (u := [c]) h1, h2, h3⟩
theorem bStr (B b : Nat) (t : List UInt8) (w : World) (h : Bl B b t w) (hB : B ≤ w.heap.size) :
    Calls Try.prog 17 #[.pointer (some ⟨b, 0, none⟩)] w fun e w' => e = .returned (S t) ∧ Below B w w' :=
  (Try.Builder_String_any_k B b t w h hB).mono fun _ _ ⟨he, _, h2, _⟩ => ⟨he, h2⟩
theorem bl_new (w : World) : Bl w.heap.size w.heap.size [] (w.alloc (.cells #[.pointer none, .slice none 0 0] 38)) :=
  .inl ⟨Nat.le_refl _, _, heap_alloc_new _ _, ⟨rfl, .inl ⟨rfl, rfl⟩⟩, by intro e; cases e⟩
theorem Bl.on {B b B' : Nat} {t : List UInt8} {w w' : World} (h : Bl B b t w) (hb : Below B' w w') (hlt : B' = w.heap.size) : Bl B b t w' := by
  subst hlt
  have key : ∀ p, Lib.BuilderAtF 38 5 B b p (Lib.byteCells t) w → Lib.BuilderAtF 38 5 B b p (Lib.byteCells t) w' := by
    intro p h1
    have hl := h1.lt
    obtain ⟨k1, v, k2, k3, k4⟩ := h1
    refine ⟨k1, v, (hb.block b hl).trans k2, ⟨k3.1, ?_⟩, k4⟩
    rcases k3.2 with e | ⟨g, cap, cur, fz, e1, e2, e3, e4⟩
    · exact .inl e
    · exact .inr ⟨g, cap, cur, fz, e1, e2, (hb.block g (Array.getElem?_eq_some_iff.1 e3).1).trans e3, e4⟩
  exact h.imp (key _) (key _)

end Go.Proofs.Ytailmmamgnebhaa
