/-
  Are these pieces, in the model and in the program: what each call gives; slices of shapes in memory.
  A slice of cells that came in as an argument, out of its reading.
  Cells put into order, in the model: what the call gives.
  Motions in the model.
  Shapes moved to another place, in the model: what the call gives.
  Shapes turned and compared, in the model.
  Lists of shapes in the model: what is put in order.
  The size of a shape, in the program: what the call gives.
-/
import Derived.Test.YtkcclhnligajeaaDoorSm1
import Derived.Test.YtkcclhnligajeaaDoorVam
import Derived.Test.YtkcclhnligajeaaDoorVag
import Derived.Test.YtkcclhnligajeaaDoorPm2
import Derived.Test.YtkcclhnligajeaaDoorVaa
import Derived.Deep.SlicePairs
import Derived.Test.YtkcclhnligajeaaDoorVad
import Derived.Test.YtkcclhnligajeaaDoorVac
import Derived.Deep.Onto
import Derived.Deep.RegionWith
import Derived.Deep.QuietTactic
import Derived.BigQuiet
import Derived.Shelf.SlSortCmp.QuietGrown
import Derived.Test.YtkcclhnligajeaaDoorPu3
import Derived.Test.YtkcclhnligajeaaDoorVak
namespace Go.Proofs.YtkcclhnligajeaaDoor

section
open Go.RowKit

/-- A slice of slices of cells that reads as a list of shapes of at most M cells, its memory below block B. -/
def PsB (M B : Nat) (w : World) (a : Option Addr) (n : Nat) (L : List (List Cl)) : Prop :=
  L.length = n ∧ (0 < n → ∃ b off, a = some ⟨b, off, none⟩ ∧ b < B ∧ ∀ k, k < n → ∃ ak ck, w.cell? ⟨b, off + k, none⟩ = some (.slice ak (L.getD k []).length ck) ∧ CellsAt B w ak (L.getD k []).length (L.getD k []) ∧ (L.getD k []).length ≤ M)
theorem PsB.on {M B n : Nat} {w w' : World} {a : Option Addr} {L : List (List Cl)} (h : PsB M B w a n L) (hb : Below B w w') : PsB M B w' a n L :=
  ⟨h.1, fun hp => by
    obtain ⟨b, off, e, hlt, hc⟩ := h.2 hp
    refine ⟨b, off, e, hlt, fun k hk => ?_⟩
    obtain ⟨ak, ck, h1, h2, h3⟩ := hc k hk
    exact ⟨ak, ck, (hb.cell (p := ⟨b, off + k, none⟩) hlt).trans h1, h2.on hb, h3⟩⟩
theorem PsB.more {M B B' n : Nat} {w : World} {a : Option Addr} {L : List (List Cl)} (h : PsB M B w a n L) (hB : B ≤ B') : PsB M B' w a n L :=
  ⟨h.1, fun hp => by
    obtain ⟨b, off, e, hlt, hc⟩ := h.2 hp
    refine ⟨b, off, e, by omega, fun k hk => ?_⟩
    obtain ⟨ak, ck, h1, h2, h3⟩ := hc k hk
    exact ⟨ak, ck, h1, h2.more hB, h3⟩⟩
theorem PsB.small {M M' B n : Nat} {w : World} {a : Option Addr} {L : List (List Cl)} (h : PsB M B w a n L) (hm : ∀ k, k < n → (L.getD k []).length ≤ M') : PsB M' B w a n L :=
  ⟨h.1, fun hp => by
    obtain ⟨b, off, e, hlt, hc⟩ := h.2 hp
    refine ⟨b, off, e, hlt, fun k hk => ?_⟩
    obtain ⟨ak, ck, h1, h2, _⟩ := hc k hk
    exact ⟨ak, ck, h1, h2, hm k hk⟩⟩
abbrev PsAt (B : Nat) (w : World) (a : Option Addr) (n : Nat) (L : List (List Cl)) : Prop := PsB 1048576 B w a n L
theorem arePc_shape {ps : List (List Cl)} {k : Nat} (h : isShape (ps.getD k []) = false) (hk : k < ps.length) : arePc ps = false := by
  unfold arePc; rw [allPc_false h hk]; rfl
theorem arePc_all {ps : List (List Cl)} (h : allPc ps ps.length = true) : arePc ps = inb ps.length 1 5 := by unfold arePc; rw [h]; rfl
end

section
open Go.RowKit Go.ChangeShapes Go.WideShapes

def valI : Value → Int
  | .int _ n => n
  | _ => 0

theorem wf_i64 {n : Int} (h : (Lit.int .i64 n).wf = true) : -9223372036854775808 ≤ n ∧ n ≤ 9223372036854775807 := by
  simp [Lit.wf] at h
  have e : IntKind.i64.min = -9223372036854775808 := by decide
  omega
end

section
open Go.RowKit

theorem posOf_step (x : Cl) (o : List Cl) (k : Nat) (h : bef x (o.getD k (0, 0)) = true) : posOf x o (k + 1) = posOf x o k := if_pos h
theorem posOf_stop (x : Cl) (o : List Cl) (k : Nat) (h : bef x (o.getD k (0, 0)) = false) : posOf x o (k + 1) = k + 1 := if_neg (by rw [h]; simp)
theorem insU_yes {o : List Cl} {x : Cl} {k : Nat} (hk : posOf x o o.length = k) (h : 0 < k ∧ o.getD (k - 1) (0, 0) = x) : insU o x = o := by unfold insU; rw [hk, if_pos h]
theorem insU_no {o : List Cl} {x : Cl} {k : Nat} (hk : posOf x o o.length = k) (h : ¬ (0 < k ∧ o.getD (k - 1) (0, 0) = x)) : insU o x = o.take k ++ [x] ++ o.drop k := by unfold insU; rw [hk, if_neg h]
theorem sortU_in {l : List Cl} (h : ∀ c ∈ l, InC c) : ∀ c ∈ sortU l, InC c := fun c hc => h c ((sortU_mem l c).1 hc)

theorem new_at {w : World} {N : Nat} (o : Obj) (h : w.heap.size = N) : (w.alloc o).heap[N]? = some o := by subst h; exact heap_alloc_new _ _
/-- What a region that makes blocks of its own keeps: all that lay there. -/
def Held (WW : World) (w' : World) : Prop := Below WW.heap.size WW w'
theorem keepS {WW w' : World} {b off : Nat} {x y : Int} (hlt : b < WW.heap.size) (e1 : WW.cell? ⟨b, off, none⟩ = some (.int .i64 x)) (e2 : WW.cell? ⟨b, off + 1, none⟩ = some (.int .i64 y)) (hb : Below WW.heap.size WW w') :
    w'.cell? ⟨b, off, none⟩ = some (.int .i64 x) ∧ w'.cell? ⟨b, off + 1, none⟩ = some (.int .i64 y) ∧ Held WW w' := ⟨(hb.cell hlt).trans e1, (hb.cell hlt).trans e2, hb⟩
end

section
open Go.RowKit

theorem inW_of_inR {c : Cl} (h : inR 7 c) : inW c := by
  unfold inR at h
  unfold inW
  omega

/-- The cells turned, before they are put in order. -/
theorem inC_ofs {p q : Int} (h1 : -9223372036854775808 ≤ p ∧ p ≤ 9223372036854775807) (h2 : -9223372036854775808 ≤ q ∧ q ≤ 9223372036854775807) : InC (p, q) := by
  unfold InC
  exact ⟨by omega, by omega⟩
theorem map_apM_in (m : Nat) (l : List Cl) (h : ∀ c ∈ l, inP c = true) : ∀ c ∈ l.map (apM m), inR 7 c := by
  intro c hc
  obtain ⟨d, hd, rfl⟩ := List.mem_map.1 hc
  exact apM_in m (inR_of_inP (h d hd))
end

section
open Go.RowKit

theorem moveC_in {x y : Int} {l : List Cl} (hp : ∀ c ∈ l, inP c = true) (hx : inb x (-7) 7 = true) (hy : inb y (-7) 7 = true) : ∀ c ∈ moveC x y l, InC c := by
  intro c hc
  obtain ⟨d, hd, rfl⟩ := List.mem_map.1 hc
  have := inP_out (hp d hd)
  simp [inb] at hx hy
  unfold InC
  dsimp only
  omega
end

section
open Go.RowKit

theorem inb_out2 {x lo hi : Int} (h : inb x lo hi = true) : lo ≤ x ∧ x ≤ hi := by
  unfold inb at h
  simpa using h
theorem turnS_yes {m : Nat} {l : List Cl} (h : isShape l = true) (hm : m ≤ 7) : turnS (m : Int) l = turnC m l ∧ (isShape l && inb (m : Int) 0 7) = true := by
  have e : (isShape l && inb (m : Int) 0 7) = true := by simp [h, inb]; omega
  exact ⟨by unfold turnS; rw [if_pos e]; rfl, e⟩
theorem turnS_no {m : Int} {l : List Cl} (h : (isShape l && inb m 0 7) = false) : turnS m l = [] := if_neg (by rw [h]; simp)

theorem ret_I {a b : Int} (h : a = b) : Ending.returned (.int .i64 a) = .returned (.int .i64 b) := by rw [h]
theorem cmpS_lens {l r : List Cl} (h : l.length = r.length) : cmpS l r = cmpL (l.drop 0) (r.drop 0) := by
  unfold cmpS
  rw [if_neg (by omega), if_neg (by omega)]
  rfl
end

section
open Go.RowKit

/-- A slice value that reads as a list of cells. -/
def SlAt (B : Nat) (w : World) (v : Value) (l : List Cl) : Prop := ∃ a cap, v = .slice a l.length cap ∧ CellsAt B w a l.length l ∧ l.length ≤ 4194304
theorem SlAt.on {B : Nat} {w w' : World} {v : Value} {l : List Cl} (h : SlAt B w v l) (hb : Below B w w') : SlAt B w' v l := by
  obtain ⟨a, cap, e, hc, hn⟩ := h
  exact ⟨a, cap, e, hc.on hb, hn⟩
theorem SlAt.more {B B' : Nat} {w : World} {v : Value} {l : List Cl} (h : SlAt B w v l) (hB : B ≤ B') : SlAt B' w v l := by
  obtain ⟨a, cap, e, hc, hn⟩ := h
  exact ⟨a, cap, e, hc.more hB, hn⟩
/-- The cells of a block that read as a list of shapes. -/
def SsAt (B : Nat) (w : World) (g : Nat) (vs : List Value) (L : List (List Cl)) : Prop := g < B ∧ vs.length = L.length ∧ (∀ k, k < L.length → w.cell? ⟨g, k, none⟩ = vs[k]?) ∧ ∀ (k : Nat) (v : Value) (l : List Cl), vs[k]? = some v → L[k]? = some l → SlAt B w v l
theorem SsAt.on {B g : Nat} {w w' : World} {vs : List Value} {L : List (List Cl)} (h : SsAt B w g vs L) (hb : Below B w w') : SsAt B w' g vs L :=
  ⟨h.1, h.2.1, fun k hk => (hb.cell (p := ⟨g, k, none⟩) h.1).trans (h.2.2.1 k hk), fun k v l hv hl => (h.2.2.2 k v l hv hl).on hb⟩
theorem SsAt.more {B B' g : Nat} {w : World} {vs : List Value} {L : List (List Cl)} (h : SsAt B w g vs L) (hB : B ≤ B') : SsAt B' w g vs L :=
  ⟨Nat.lt_of_lt_of_le h.1 hB, h.2.1, h.2.2.1, fun k v l hv hl => (h.2.2.2 k v l hv hl).more hB⟩
theorem SsAt.get {B g : Nat} {w : World} {vs : List Value} {L : List (List Cl)} (h : SsAt B w g vs L) {k : Nat} (hk : k < L.length) : ∃ a cap, w.cell? ⟨g, k, none⟩ = some (.slice a (L.getD k []).length cap) ∧ CellsAt B w a (L.getD k []).length (L.getD k []) ∧ (L.getD k []).length ≤ 4194304 := by
  have h1 := h.2.2.1 k hk
  have h2 : vs[k]? = some (vs[k]'(by rw [h.2.1]; exact hk)) := List.getElem?_eq_getElem _
  have h3 : L[k]? = some (L.getD k []) := by simp [List.getD, hk]
  obtain ⟨a, cap, e, hc, hn⟩ := h.2.2.2 k _ _ h2 h3
  exact ⟨a, cap, by rw [h1, h2, e], hc, hn⟩
theorem SsAt.one {B g : Nat} {w : World} {vs : List Value} {L : List (List Cl)} (h : SsAt B w g vs L) : ∀ u ∈ vs, u.oneCell' = true := by
  intro u hu
  obtain ⟨k, hk, rfl⟩ := List.getElem_of_mem hu
  have hk2 : k < L.length := by rw [← h.2.1]; exact hk
  obtain ⟨a, cap, e, _⟩ := h.2.2.2 k _ _ (List.getElem?_eq_getElem hk) (List.getElem?_eq_getElem hk2)
  rw [e]
  rfl
theorem get_ins {α : Type} (l : List α) (x : α) (j k : Nat) (hj : j ≤ l.length) : (l.take j ++ [x] ++ l.drop j)[k]? = if k < j then l[k]? else if k = j then some x else l[k - 1]? := by
  have hl : (l.take j).length = j := by rw [List.length_take]; omega
  by_cases h1 : k < j
  · rw [if_pos h1, List.append_assoc, List.getElem?_append_left (by omega), List.getElem?_take, if_pos h1]
  · rw [if_neg h1]
    by_cases h2 : k = j
    · subst h2
      rw [if_pos rfl, List.append_assoc, List.getElem?_append_right (by omega), hl]
      simp
    · rw [if_neg h2, List.getElem?_append_right (by simp; omega), List.getElem?_drop]
      congr 1
      simp
      omega
theorem LiesV.on {w w' : World} {b off B : Nat} {l : List Value} (h : LiesV w ⟨b, off, none⟩ l) (hb : Below B w w') (hlt : b < B) : LiesV w' ⟨b, off, none⟩ l := fun j u hj => by
  rw [add_at]
  have := h j u hj
  rw [add_at] at this
  exact (hb.cell (p := ⟨b, off + j, none⟩) hlt).trans this
theorem SsAt.lies {B g : Nat} {w : World} {vs : List Value} {L : List (List Cl)} (h : SsAt B w g vs L) (k m : Nat) : LiesV w ⟨g, k, none⟩ ((vs.drop k).take m) := by
  intro j u hj
  rw [add_at]
  rw [List.getElem?_take] at hj
  split at hj
  · rw [List.getElem?_drop] at hj
    have hlt := (List.getElem?_eq_some_iff.1 hj).1
    rw [h.2.2.1 (k + j) (by rw [← h.2.1]; exact hlt), hj]
  · cases hj
/-- A shape put between. -/
theorem ss_ins {B g g3 c3 j N : Nat} {w w3 : World} {vs : List Value} {sv : Value} {L : List (List Cl)} {s : List Cl} {t : TypeId} {b3 : Nat} (h : SsAt B w g vs L) (hs : SlAt B w sv s) (hj : j ≤ L.length) (hB : B ≤ w.heap.size) (hb : Below w.heap.size w w3)
    (hown : w3.ownsRow b3 t 1 (.slice (some ⟨g3, 0, none⟩) N c3) N (vs.take j ++ [sv] ++ vs.drop j)) : SsAt w3.heap.size w3 g3 (vs.take j ++ [sv] ++ vs.drop j) (L.take j ++ [s] ++ L.drop j) := by
  have hl : (vs.take j ++ [sv] ++ vs.drop j).length = (L.take j ++ [s] ++ L.drop j).length := by simp [h.2.1]
  refine ⟨(hown.lt g3 rfl).2, hl, fun k hk => ?_, fun k v l hv hl2 => ?_⟩
  · exact hown.cellAt k (by have h9 := hown.1; rw [hl] at h9; omega)
  · rw [get_ins _ _ _ _ (by rw [h.2.1]; exact hj)] at hv
    rw [get_ins _ _ _ _ hj] at hl2
    have hsz := hb.size
    split at hv
    · rename_i h1
      rw [if_pos h1] at hl2
      exact ((h.2.2.2 k v l hv hl2).on (hb.mono hB)).more (Nat.le_trans hB hsz)
    · rename_i h1
      rw [if_neg h1] at hl2
      split at hv
      · rename_i h2
        rw [if_pos h2] at hl2
        injection hv with hv
        injection hl2 with hl2
        subst hv hl2
        exact (hs.on (hb.mono hB)).more (Nat.le_trans hB hsz)
      · rename_i h2
        rw [if_neg h2] at hl2
        exact ((h.2.2.2 (k - 1) v l hv hl2).on (hb.mono hB)).more (Nat.le_trans hB hsz)
/-- A list of shapes comes back. -/
def GivesSs (w : World) (L : List (List Cl)) (e : Ending) (w' : World) : Prop := ∃ g cap vs, e = .returned (.slice (some ⟨g, 0, none⟩) L.length cap) ∧ L.length ≤ cap ∧ SsAt w'.heap.size w' g vs L ∧ Below w.heap.size w w'

theorem posG_step {x : List Cl} {o : List (List Cl)} {k : Nat} (h : ltS x (o.getD k []) = true) : posG ltS [] x o (k + 1) = posG ltS [] x o k := if_pos h
theorem posG_stop {x : List Cl} {o : List (List Cl)} {k : Nat} (h : ltS x (o.getD k []) = false) : posG ltS [] x o (k + 1) = k + 1 := if_neg (by rw [h]; simp)
theorem insG_yes {x : List Cl} {o : List (List Cl)} {k : Nat} (hp : posG ltS [] x o o.length = k) (h : 0 < k ∧ o.getD (k - 1) [] = x) : insG ltS [] o x = o := by
  unfold insG
  rw [hp, if_pos h]
theorem insG_no {x : List Cl} {o : List (List Cl)} {k : Nat} (hp : posG ltS [] x o o.length = k) (h : ¬ (0 < k ∧ o.getD (k - 1) [] = x)) : insG ltS [] o x = o.take k ++ [x] ++ o.drop k := by
  unfold insG
  rw [hp, if_neg h]

theorem own_cap_s {w : World} {B n g cap : Nat} {t : TypeId} {xs : List Value} (h : w.ownsRow B t 1 (.slice (some ⟨g, 0, none⟩) n cap) n xs) : n ≤ cap := by
  rcases h.2 with ⟨e, _⟩ | ⟨g', cap', cur, e, _, _, h1, _⟩
  · cases e
  · injection e with _ _ e3
    omega
end

section
open Go.RowKit

theorem size_no {l : List Cl} (h : isShape l = false) : wideC l = 0 ∧ highC l = 0 := by
  have e : cornS l = [] := if_neg (by rw [h]; simp)
  unfold wideC highC
  rw [e]
  exact ⟨rfl, rfl⟩
theorem size_yes {l : List Cl} (h : isShape l = true) : wideC l = grtX l - lstX l + 1 ∧ highC l = grtY l - lstY l + 1 := by
  have h1 := size_of h
  have h2 := ((isShape_iff l).1 h).1
  unfold grtX grtY lstX lstY
  rw [lst_min _ _ (by omega), lst_min _ _ (by omega)]
  exact h1
theorem bounds_in {l : List Cl} (h : isShape l = true) : (0 ≤ lstX l ∧ lstX l ≤ 7) ∧ (0 ≤ lstY l ∧ lstY l ≤ 7) ∧ (0 ≤ grtX l ∧ grtX l ≤ 7) ∧ (0 ≤ grtY l ∧ grtY l ≤ 7) := by
  obtain ⟨h1, h2, _⟩ := (isShape_iff l).1 h
  have hx : ∀ c ∈ l, 0 ≤ Prod.fst c ∧ Prod.fst c ≤ 7 := fun c hc => by have := inP_out (h2 c hc); omega
  have hy : ∀ c ∈ l, 0 ≤ Prod.snd c ∧ Prod.snd c ≤ 7 := fun c hc => by have := inP_out (h2 c hc); omega
  exact ⟨lstTo_bd _ l (by omega) hx _ (Nat.le_refl _), lstTo_bd _ l (by omega) hy _ (Nat.le_refl _), grtTo_bd _ l (by omega) hx _ (Nat.le_refl _), grtTo_bd _ l (by omega) hy _ (Nat.le_refl _)⟩
end

end Go.Proofs.YtkcclhnligajeaaDoor
