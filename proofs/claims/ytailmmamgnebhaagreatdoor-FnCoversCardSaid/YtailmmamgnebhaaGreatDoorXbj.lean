/-
  Tilings as a text, the plain facts: the letter of a place, the rows.
  The library's contract on a Builder's WriteByte, laid at this dump by hand: the types that its check names are told apart by their names here.
  A builder of strings in the program's memory: written byte by byte, read as a string.
-/
import Derived.Test.YtailmmamgnebhaaGreatDoorXap
import Derived.Test.YtailmmamgnebhaaGreatDoorProg
import Derived.Shelf.Strings.BuilderK
import Derived.Shelf.Strings.BuilderF
import Derived.Test.YtailmmamgnebhaaGreatDoorShelf
import Derived.Test.YtailmmamgnebhaaGreatDoorXag
namespace Go.Proofs.YtailmmamgnebhaaGreatDoor

section
/-- Whether a mask has a place. -/
def hasM (b : Nat) (m : Int) : Bool := decide (0 ≤ m) && m.toNat.testBit b
/-- The first mask from k on that has the place: its number, or -1. -/
def fstI (l : List Int) (b k : Nat) : Int :=
  match (l.drop k).findIdx? (hasM b) with
  | some j => ((k + j : Nat) : Int)
  | none => -1
theorem fstI_end (l : List Int) (b : Nat) : fstI l b l.length = -1 := by
  unfold fstI
  rw [List.drop_length]
  rfl
theorem fstI_yes {l : List Int} {b k : Nat} (h : k < l.length) (hm : hasM b (l.getD k 0) = true) : fstI l b k = (k : Int) := by
  unfold fstI
  rw [List.drop_eq_getElem_cons h, List.findIdx?_cons]
  have : l[k] = l.getD k 0 := by simp [List.getD, h]
  rw [this, hm]
  simp
theorem fstI_no {l : List Int} {b k : Nat} (h : k < l.length) (hm : hasM b (l.getD k 0) = false) : fstI l b k = fstI l b (k + 1) := by
  unfold fstI
  rw [List.drop_eq_getElem_cons h, List.findIdx?_cons]
  have : l[k] = l.getD k 0 := by simp [List.getD, h]
  rw [this, hm]
  cases (l.drop (k + 1)).findIdx? (hasM b) with
  | none => rfl
  | some j => simp; omega
theorem fstI_bd (l : List Int) (b : Nat) : ∀ d k, k + d = l.length → -1 ≤ fstI l b k ∧ fstI l b k < (l.length : Int)
  | 0, k, h => by
    have : k = l.length := by omega
    subst this
    rw [fstI_end]
    omega
  | d + 1, k, h => by
    have ih := fstI_bd l b d (k + 1) (by omega)
    cases hm : hasM b (l.getD k 0) with
    | true => rw [fstI_yes (by omega) hm]; omega
    | false => rw [fstI_no (by omega) hm]; exact ih
/-- The letter of a place. -/
def letR (l : List Int) (b : Nat) : UInt8 := if fstI l b 0 < 0 then 46 else UInt8.ofNat (97 + (fstI l b 0).toNat)
theorem letR_no {l : List Int} {b : Nat} (h : fstI l b 0 < 0) : letR l b = 46 := if_pos h
theorem letR_yes {l : List Int} {b k : Nat} (h : fstI l b 0 = (k : Int)) : letR l b = UInt8.ofNat (97 + k) := by
  unfold letR
  rw [if_neg (by omega), h]
  rfl

def ltRow (g : Nat → Nat → UInt8) (y x : Nat) : List UInt8 := (List.range x).map (g y)
theorem ltRow_step (g : Nat → Nat → UInt8) (y x : Nat) : ltRow g y (x + 1) = ltRow g y x ++ [g y x] := by
  unfold ltRow
  rw [List.range_succ, List.map_append]
  rfl
theorem ltRow_ln (g : Nat → Nat → UInt8) (y x : Nat) : (ltRow g y x).length = x := by simp [ltRow]
def ltT (W : Nat) (g : Nat → Nat → UInt8) : Nat → List UInt8
  | 0 => []
  | y + 1 => ltT W g y ++ ((if y = 0 then [] else [47]) ++ ltRow g y W)
theorem ltT_le (W : Nat) (g : Nat → Nat → UInt8) : ∀ y, (ltT W g y).length ≤ (W + 1) * y
  | 0 => by simp [ltT]
  | y + 1 => by
    have := ltT_le W g y
    unfold ltT
    rw [List.length_append, List.length_append, ltRow_ln, Nat.mul_add, Nat.mul_one]
    split <;> simp <;> omega
def ltA (N : Nat) (g : Nat → Nat → UInt8) (y x : Nat) : List UInt8 := ltT N g y ++ ((if y = 0 then [] else [47]) ++ ltRow g y x)
theorem ltA_row (N : Nat) (g : Nat → Nat → UInt8) (y : Nat) : ltA N g y N = ltT N g (y + 1) := rfl
theorem ltA_first (N : Nat) (g : Nat → Nat → UInt8) : ltA N g 0 0 = ltT N g 0 := by simp [ltA, ltT, ltRow]
theorem ltA_next (N : Nat) (g : Nat → Nat → UInt8) (y : Nat) (h : 0 < y) : ltA N g y 0 = ltT N g y ++ [47] := by
  have : ¬ y = 0 := by omega
  simp [ltA, ltRow, this]
theorem ltA_step (N : Nat) (g : Nat → Nat → UInt8) (y x : Nat) : ltA N g y (x + 1) = ltA N g y x ++ [g y x] := by
  unfold ltA
  rw [ltRow_step]
  simp
theorem ltA_len (N : Nat) (g : Nat → Nat → UInt8) (y x : Nat) (hN : N ≤ 6) (hy : y ≤ 6) (hx : x ≤ 6) : (ltA N g y x).length ≤ 50 ∧ (ltT N g y).length ≤ 42 := by
  have h1 := ltT_le N g y
  have h2 := Nat.mul_le_mul (show N + 1 ≤ 7 by omega) hy
  unfold ltA
  rw [List.length_append, List.length_append, ltRow_ln]
  refine ⟨?_, by omega⟩
  split
  · simp; omega
  · simp; omega
def letG (N : Nat) (l : List Int) (y x : Nat) : UInt8 := letR l (y * N + x)
def tilOk (W : Int) (rows l : List Int) : Bool := isReg W rows && decide (l.length ≤ 26)
/-- A tiling as a text. -/
def fmtM (W : Int) (rows l : List Int) : List UInt8 := if tilOk W rows l = true then ltT W.toNat (letG W.toNat l) rows.length else []
theorem fmtM_no {W : Int} {rows l : List Int} (h : tilOk W rows l = false) : fmtM W rows l = [] := if_neg (by rw [h]; simp)
theorem fmtM_yes {W H : Nat} {rows l : List Int} (h : Rg W H rows) (hl : l.length ≤ 26) : fmtM W rows l = ltT W (letG W l) H := by
  unfold fmtM tilOk
  rw [isReg_of h, decide_eq_true hl, h.len]
  rfl
/-- A letter, cut out of the alphabet. -/
def abc : List UInt8 := [97, 98, 99, 100, 101, 102, 103, 104, 105, 106, 107, 108, 109, 110, 111, 112, 113, 114, 115, 116, 117, 118, 119, 120, 121, 122]
theorem abc_at : ∀ k, k < 26 → (abc.take (k + 1)).drop k = [UInt8.ofNat (97 + k)] := by decide
end

section
open Go.Shelf

def ren167 : Go.Shelf.Ren := ⟨fun | 167 => 101 | 240 => 141 | 276 => 167 | n => n,
  fun | 0 => 0 | 3 => 3 | 4 => 4 | 5 => 5 | 9 => 9 | 20 => 20 | 37 => 22 | 70 => 108 | 72 => 110 | 75 => 112 | 80 => 115 | 164 => 173 | n => n, fun | n => n⟩
set_option maxRecDepth 100000 in
theorem lays167 : Go.Proofs.Lays.n167 Tryz.prog ren167 := {
  mixed := by kernel_rfl
  f167 := Tryz.func101.trans (congrArg some (by kernel_rfl))
  f240 := Tryz.func141.trans (congrArg some (by kernel_rfl))
  f276 := Tryz.func167.trans (congrArg some (by kernel_rfl))
  t0 := Tryz.underlying0
  a0 := Tryz.isAgg0
  z0 := Tryz.sizeOf0
  v0 := Tryz.zeroValue0
  t4 := Tryz.underlying4
  a4 := Tryz.isAgg4
  z4 := Tryz.sizeOf4
  v4 := Tryz.zeroValue4
  t5 := Tryz.underlying5
  a5 := Tryz.isAgg5
  z5 := Tryz.sizeOf5
  v5 := Tryz.zeroValue5
  t9 := Tryz.underlying9
  a9 := Tryz.isAgg9
  z9 := Tryz.sizeOf9
  v9 := Tryz.zeroValue9
  t20 := Tryz.underlying20
  a20 := Tryz.isAgg20
  z20 := Tryz.sizeOf20
  v20 := Tryz.zeroValue20
  t37 := Tryz.underlying22
  a37 := Tryz.isAgg22
  z37 := Tryz.sizeOf22
  v37 := Tryz.zeroValue22
  t70 := Tryz.underlying108
  a70 := Tryz.isAgg108
  z70 := Tryz.sizeOf108
  v70 := Tryz.zeroValue108
  t72 := Tryz.underlying110
  a72 := Tryz.isAgg110
  z72 := Tryz.sizeOf110
  v72 := Tryz.zeroValue110
  t75 := Tryz.underlying112
  a75 := Tryz.isAgg112
  z75 := Tryz.sizeOf112
  v75 := Tryz.zeroValue112
  t164 := Tryz.underlying173
  a164 := Tryz.isAgg173
  z164 := Tryz.sizeOf173
  v164 := Tryz.zeroValue173 }
theorem extra167 : Builder.Extra Tryz.prog ren167 := {
  sizeBuilder := by kernel_rfl
  liesBuilder := by kernel_rfl
  t5 := Tryz.underlying5
  a5 := Tryz.isAgg5
  z5 := Tryz.sizeOf5
  v5 := Tryz.zeroValue5
  infoByte := by kernel_rfl
  cellsByte := by kernel_rfl
  sizeByte := by kernel_rfl
  neB5 := by decide }
open Go.RowKit in
theorem iWriteByte (B b : Nat) (bs : List Value) (c : Int) (w : World) (h : Lib.IsBuilderF 110 5 B b bs w) (hlen : bs.length + 1 ≤ 140737488355328) (hBw : B ≤ w.heap.size) :
    Calls Tryz.prog 101 #[.pointer (some ⟨b, 0, none⟩), .int .u8 c] w fun e w' => e = .returned .nilIface ∧ (Lib.BuilderAtF 110 5 B b (.pointer (some ⟨b, 0, none⟩)) (bs ++ [.int .u8 c]) w' ∧ Below B w w' ∧ Lib.OthersKept 5 (some b) w w') := Any.Builder_WriteByte_k lays167 extra167 B b bs c w h hlen hBw
end

section
open Go.RowKit

abbrev Bl (B b : Nat) (t : List UInt8) (w : World) : Prop := Lib.IsBuilderF 110 5 B b (Lib.byteCells t) w
theorem Bl.of {B b : Nat} {t u : List UInt8} {w : World} (h : Lib.BuilderAtF 110 5 B b (.pointer (some ⟨b, 0, none⟩)) (Lib.byteCells t ++ Lib.byteCells u) w) : Bl B b (t ++ u) w := by
  unfold Bl
  rw [Lib.byteCells_append]
  exact .inr h
theorem bWrite (B b : Nat) (t : List UInt8) (c : UInt8) (z : Int) (hz : z = (c.toNat : Int)) (w : World) (h : Bl B b t w) (hl : t.length ≤ 100000) (hB : B ≤ w.heap.size) :
    Calls Tryz.prog 101 #[.pointer (some ⟨b, 0, none⟩), .int .u8 z] w fun e w' => (∃ r, e = .returned r) ∧ Bl B b (t ++ [c]) w' ∧ Below B w w' ∧ Lib.OthersKept 5 (some b) w w' := by
  subst hz
  exact (iWriteByte B b (Lib.byteCells t) (c.toNat : Int) w h (by rw [Lib.byteCells_length]; omega) hB).mono fun _ _ ⟨he, h1, h2, h3⟩ => ⟨⟨_, he⟩, Bl.of (u := [c]) h1, h2, h3⟩
theorem bStr (B b : Nat) (t : List UInt8) (w : World) (h : Bl B b t w) (hB : B ≤ w.heap.size) :
    Calls Tryz.prog 103 #[.pointer (some ⟨b, 0, none⟩)] w fun e w' => e = .returned (S t) ∧ Below B w w' :=
  (Tryz.Builder_String_any_k B b t w h hB).mono fun _ _ ⟨he, _, h2, _⟩ => ⟨he, h2⟩
theorem bl_new (w : World) : Bl w.heap.size w.heap.size [] (w.alloc (.cells #[.pointer none, .slice none 0 0] 110)) :=
  .inl ⟨Nat.le_refl _, _, heap_alloc_new _ _, ⟨rfl, .inl ⟨rfl, rfl⟩⟩, by intro e; cases e⟩
theorem Bl.on {B b B' : Nat} {t : List UInt8} {w w' : World} (h : Bl B b t w) (hb : Below B' w w') (hlt : B' = w.heap.size) : Bl B b t w' := by
  subst hlt
  have key : ∀ p, Lib.BuilderAtF 110 5 B b p (Lib.byteCells t) w → Lib.BuilderAtF 110 5 B b p (Lib.byteCells t) w' := by
    intro p h1
    have hl := h1.lt
    obtain ⟨k1, v, k2, k3, k4⟩ := h1
    refine ⟨k1, v, (hb.block b hl).trans k2, ⟨k3.1, ?_⟩, k4⟩
    rcases k3.2 with e | ⟨g, cap, cur, fz, e1, e2, e3, e4⟩
    · exact .inl e
    · exact .inr ⟨g, cap, cur, fz, e1, e2, (hb.block g (Array.getElem?_eq_some_iff.1 e3).1).trans e3, e4⟩
  exact h.imp (key _) (key _)
end

end Go.Proofs.YtailmmamgnebhaaGreatDoor
