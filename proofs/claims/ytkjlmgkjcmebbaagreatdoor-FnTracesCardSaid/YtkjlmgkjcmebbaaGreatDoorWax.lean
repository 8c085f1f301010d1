/-
  The library's contract on a Builder's WriteByte, laid at this dump by hand: the types that its check names are told apart by their names here.
  A builder of strings in the program's memory: written byte by byte, read as a string.
  The library's table for the count of trailing zeros, out of the row's condition on the listed variables. Nothing of the program is claimed here.
-/
import Derived.Test.YtkjlmgkjcmebbaaGreatDoorProg
import Derived.Shelf.Strings.BuilderK
import Derived.Shelf.Strings.BuilderF
import Derived.Test.YtkjlmgkjcmebbaaGreatDoorShelf
import Derived.Test.YtkjlmgkjcmebbaaGreatDoorWad
import Derived.Test.YtkjlmgkjcmebbaaGreatDoorWap
import Derived.LaidMore
import Derived.MakeChecks
import Derived.Stop.LaidErr
import Derived.Lib.LaidTab
import Derived.Test.YtkjlmgkjcmebbaaGreatDoorRows
namespace Go.Proofs.YtkjlmgkjcmebbaaGreatDoor

section
open Go.Shelf

def ren167 : Go.Shelf.Ren := ⟨fun | 167 => 71 | 240 => 104 | 276 => 130 | n => n,
  fun | 0 => 0 | 3 => 3 | 4 => 4 | 5 => 5 | 9 => 9 | 20 => 20 | 37 => 22 | 70 => 77 | 72 => 79 | 75 => 81 | 80 => 87 | 164 => 142 | n => n, fun | n => n⟩
set_option maxRecDepth 100000 in
theorem lays167 : Go.Proofs.Lays.n167 Tryz.prog ren167 := {
  mixed := by kernel_rfl
  f167 := Tryz.func71.trans (congrArg some (by kernel_rfl))
  f240 := Tryz.func104.trans (congrArg some (by kernel_rfl))
  f276 := Tryz.func130.trans (congrArg some (by kernel_rfl))
  t0 := Tryz.underlying0
  a0 := Tryz.isAgg0
  z0 := Tryz.sizeOf0
  v0 := Tryz.zeroValue0
  t4 := Tryz.underlying4
  a4 := Tryz.isAgg4
  z4 := Tryz.sizeOf4
  v4 := Tryz.zeroValue4
  t5 := Tryz.underlying5
  a5 := Tryz.isAgg5
  z5 := Tryz.sizeOf5
  v5 := Tryz.zeroValue5
  t9 := Tryz.underlying9
  a9 := Tryz.isAgg9
  z9 := Tryz.sizeOf9
  v9 := Tryz.zeroValue9
  t20 := Tryz.underlying20
  a20 := Tryz.isAgg20
  z20 := Tryz.sizeOf20
  v20 := Tryz.zeroValue20
  t37 := Tryz.underlying22
  a37 := Tryz.isAgg22
  z37 := Tryz.sizeOf22
  v37 := Tryz.zeroValue22
  t70 := Tryz.underlying77
  a70 := Tryz.isAgg77
  z70 := Tryz.sizeOf77
  v70 := Tryz.zeroValue77
  t72 := Tryz.underlying79
  a72 := Tryz.isAgg79
  z72 := Tryz.sizeOf79
  v72 := Tryz.zeroValue79
  t75 := Tryz.underlying81
  a75 := Tryz.isAgg81
  z75 := Tryz.sizeOf81
  v75 := Tryz.zeroValue81
  t164 := Tryz.underlying142
  a164 := Tryz.isAgg142
  z164 := Tryz.sizeOf142
  v164 := Tryz.zeroValue142 }
theorem extra167 : Builder.Extra Tryz.prog ren167 := {
  sizeBuilder := by kernel_rfl
  liesBuilder := by kernel_rfl
  t5 := Tryz.underlying5
  a5 := Tryz.isAgg5
  z5 := Tryz.sizeOf5
  v5 := Tryz.zeroValue5
  infoByte := by kernel_rfl
  cellsByte := by kernel_rfl
  sizeByte := by kernel_rfl
  neB5 := by decide }
open Go.RowKit in
theorem iWriteByte (B b : Nat) (bs : List Value) (c : Int) (w : World) (h : Lib.IsBuilderF 79 5 B b bs w) (hlen : bs.length + 1 ≤ 140737488355328) (hBw : B ≤ w.heap.size) :
    Calls Tryz.prog 71 #[.pointer (some ⟨b, 0, none⟩), .int .u8 c] w fun e w' => e = .returned .nilIface ∧ (Lib.BuilderAtF 79 5 B b (.pointer (some ⟨b, 0, none⟩)) (bs ++ [.int .u8 c]) w' ∧ Below B w w' ∧ Lib.OthersKept 5 (some b) w w') := Any.Builder_WriteByte_k lays167 extra167 B b bs c w h hlen hBw
end

section
open Go.RowKit

abbrev Bl (B b : Nat) (t : List UInt8) (w : World) : Prop := Lib.IsBuilderF 79 5 B b (Lib.byteCells t) w
theorem Bl.of {B b : Nat} {t u : List UInt8} {w : World} (h : Lib.BuilderAtF 79 5 B b (.pointer (some ⟨b, 0, none⟩)) (Lib.byteCells t ++ Lib.byteCells u) w) : Bl B b (t ++ u) w := by
  unfold Bl
  rw [Lib.byteCells_append]
  exact .inr h
theorem bWrite (B b : Nat) (t : List UInt8) (c : UInt8) (z : Int) (hz : z = (c.toNat : Int)) (w : World) (h : Bl B b t w) (hl : t.length ≤ 100000) (hB : B ≤ w.heap.size) :
    Calls Tryz.prog 71 #[.pointer (some ⟨b, 0, none⟩), .int .u8 z] w fun e w' => (∃ r, e = .returned r) ∧ Bl B b (t ++ [c]) w' ∧ Below B w w' ∧ Lib.OthersKept 5 (some b) w w' := by
  subst hz
  exact (iWriteByte B b (Lib.byteCells t) (c.toNat : Int) w h (by rw [Lib.byteCells_length]; omega) hB).mono fun _ _ ⟨he, h1, h2, h3⟩ => ⟨⟨_, he⟩, Bl.of (u := [c]) h1, h2, h3⟩
theorem bStr (B b : Nat) (t : List UInt8) (w : World) (h : Bl B b t w) (hB : B ≤ w.heap.size) :
    Calls Tryz.prog 74 #[.pointer (some ⟨b, 0, none⟩)] w fun e w' => e = .returned (S t) ∧ Below B w w' :=
  (Tryz.Builder_String_any_k B b t w h hB).mono fun _ _ ⟨he, _, h2, _⟩ => ⟨he, h2⟩
theorem bl_new (w : World) : Bl w.heap.size w.heap.size [] (w.alloc (.cells #[.pointer none, .slice none 0 0] 79)) :=
  .inl ⟨Nat.le_refl _, _, heap_alloc_new _ _, ⟨rfl, .inl ⟨rfl, rfl⟩⟩, by intro e; cases e⟩
theorem Bl.on {B b B' : Nat} {t : List UInt8} {w w' : World} (h : Bl B b t w) (hb : Below B' w w') (hlt : B' = w.heap.size) : Bl B b t w' := by
  subst hlt
  have key : ∀ p, Lib.BuilderAtF 79 5 B b p (Lib.byteCells t) w → Lib.BuilderAtF 79 5 B b p (Lib.byteCells t) w' := by
    intro p h1
    have hl := h1.lt
    obtain ⟨k1, v, k2, k3, k4⟩ := h1
    refine ⟨k1, v, (hb.block b hl).trans k2, ⟨k3.1, ?_⟩, k4⟩
    rcases k3.2 with e | ⟨g, cap, cur, fz, e1, e2, e3, e4⟩
    · exact .inl e
    · exact .inr ⟨g, cap, cur, fz, e1, e2, (hb.block g (Array.getElem?_eq_some_iff.1 e3).1).trans e3, e4⟩
  exact h.imp (key _) (key _)
end

section
open Go.RowKit

theorem datumDB : (Rows.laid_math_bits_deBruijn64tab : DataW Unit) = Lib.tabData .u8 (Lib.deBruijn64tab.map fun (x : Nat) => (x : Int)) := by kernel_rfl
theorem nDB : Tryz.prog.globalNamed "math/bits.deBruijn64tab" = some gDB := by kernel_rfl
theorem tDB : (Tryz.prog.globals[gDB]?).map (·.type) = some 167 := by kernel_rfl
theorem tab_of_laid {W : World} (h : laidMetH Tryz.prog [("math/bits.deBruijn32tab", Rows.laid_math_bits_deBruijn32tab), ("math/bits.deBruijn64tab", Rows.laid_math_bits_deBruijn64tab)] W) : Tz W := by
  rw [MakeChecks.laidMetH_plain _ _ _ (by kernel_rfl)] at h
  have h2 := h.tail
  rw [datumDB] at h2
  have h3 := Lib.tabIs_of_head nDB tDB Tryz.underlying167 Tryz.underlying5 (by kernel_rfl) (by kernel_rfl) h2
  have hc : ∀ j, j < Lib.deBruijn64tab.length → W.cell? ⟨gDB, j, none⟩ = some (.int .u8 (Lib.deBruijn64tab.getD j 0)) := fun j hj => by
    have := Lib.TabIs.cell h3 nDB j (by rw [List.length_map]; exact hj)
    rw [this]
    simp [List.getD, hj]
  exact ⟨hc, World.block_lt_of_cell? W ⟨gDB, 0, none⟩ (hc 0 (by decide))⟩
end

end Go.Proofs.YtkjlmgkjcmebbaaGreatDoor
