/-
  What a shape is, in the program: what the call gives.
  The bounds of a list of cells, in the program: what the call gives.
  The mask of some cells, in the program: what the call gives.
  Are these pieces, in the model and in the program: what each call gives; slices of shapes in memory.
  A slice of cells that came in as an argument, out of its reading.
  Cells put into order, in the model: what the call gives.
  Motions in the model.
  Shapes moved to another place, in the model: what the call gives.
  Shapes turned and compared, in the model.
-/
import Derived.Test.YtkcclhnligajeaaVai
import Derived.BigQuiet
import Derived.Test.YtkcclhnligajeaaVad
import Derived.Test.YtkcclhnligajeaaVaf
import Derived.Test.YtkcclhnligajeaaVag
import Derived.Test.YtkcclhnligajeaaPm2
import Derived.Test.YtkcclhnligajeaaVaa
import Derived.Deep.SlicePairs
import Derived.Test.YtkcclhnligajeaaCor
import Derived.Deep.Onto
import Derived.Deep.RegionWith
import Derived.Deep.QuietTactic
import Derived.Shelf.SlSortCmp.QuietGrown
import Derived.Test.YtkcclhnligajeaaPu3
namespace Go.Proofs.Ytkcclhnligajeaa

section
open Go.RowKit

theorem isShape_few {l : List Cl} (h : l.length = 0 ∨ 8 < l.length) : isShape l = false := by
  unfold isShape inb
  rw [Bool.and_eq_false_iff]
  right
  rw [Bool.and_eq_false_iff, decide_eq_false_iff_not, decide_eq_false_iff_not]
  omega
end

section
open Go.RowKit

def lstX (l : List Cl) : Int := lstTo Prod.fst l l.length
def lstY (l : List Cl) : Int := lstTo Prod.snd l l.length
def grtX (l : List Cl) : Int := grtTo Prod.fst l l.length
def grtY (l : List Cl) : Int := grtTo Prod.snd l l.length
end

section
open Go.RowKit
end

section
open Go.RowKit

/-- A slice of slices of cells that reads as a list of shapes of at most M cells, its memory below block B. -/
def PsB (M B : Nat) (w : World) (a : Option Addr) (n : Nat) (L : List (List Cl)) : Prop :=
  L.length = n ∧ (0 < n → ∃ b off, a = some ⟨b, off, none⟩ ∧ b < B ∧ ∀ k, k < n → ∃ ak ck, w.cell? ⟨b, off + k, none⟩ = some (.slice ak (L.getD k []).length ck) ∧ CellsAt B w ak (L.getD k []).length (L.getD k []) ∧ (L.getD k []).length ≤ M)
theorem PsB.on {M B n : Nat} {w w' : World} {a : Option Addr} {L : List (List Cl)} (h : PsB M B w a n L) (hb : Below B w w') : PsB M B w' a n L :=
  ⟨h.1, fun hp => by
    obtain ⟨b, off, e, hlt, hc⟩ := h.2 hp
    refine ⟨b, off, e, hlt, fun k hk => ?_⟩
    obtain ⟨ak, ck, h1, h2, h3⟩ := hc k hk
    exact ⟨ak, ck, (hb.cell (p := ⟨b, off + k, none⟩) hlt).trans h1, h2.on hb, h3⟩⟩
theorem PsB.more {M B B' n : Nat} {w : World} {a : Option Addr} {L : List (List Cl)} (h : PsB M B w a n L) (hB : B ≤ B') : PsB M B' w a n L :=
  ⟨h.1, fun hp => by
    obtain ⟨b, off, e, hlt, hc⟩ := h.2 hp
    refine ⟨b, off, e, by omega, fun k hk => ?_⟩
    obtain ⟨ak, ck, h1, h2, h3⟩ := hc k hk
    exact ⟨ak, ck, h1, h2.more hB, h3⟩⟩
theorem PsB.small {M M' B n : Nat} {w : World} {a : Option Addr} {L : List (List Cl)} (h : PsB M B w a n L) (hm : ∀ k, k < n → (L.getD k []).length ≤ M') : PsB M' B w a n L :=
  ⟨h.1, fun hp => by
    obtain ⟨b, off, e, hlt, hc⟩ := h.2 hp
    refine ⟨b, off, e, hlt, fun k hk => ?_⟩
    obtain ⟨ak, ck, h1, h2, _⟩ := hc k hk
    exact ⟨ak, ck, h1, h2, hm k hk⟩⟩
abbrev PsAt (B : Nat) (w : World) (a : Option Addr) (n : Nat) (L : List (List Cl)) : Prop := PsB 1048576 B w a n L
theorem arePc_shape {ps : List (List Cl)} {k : Nat} (h : isShape (ps.getD k []) = false) (hk : k < ps.length) : arePc ps = false := by
  unfold arePc; rw [allPc_false h hk]; rfl
theorem arePc_all {ps : List (List Cl)} (h : allPc ps ps.length = true) : arePc ps = inb ps.length 1 5 := by unfold arePc; rw [h]; rfl
end

section
open Go.RowKit Go.ChangeShapes Go.WideShapes

def valI : Value → Int
  | .int _ n => n
  | _ => 0

theorem wf_i64 {n : Int} (h : (Lit.int .i64 n).wf = true) : -9223372036854775808 ≤ n ∧ n ≤ 9223372036854775807 := by
  simp [Lit.wf] at h
  have e : IntKind.i64.min = -9223372036854775808 := by decide
  omega
end

section
open Go.RowKit

theorem posOf_step (x : Cl) (o : List Cl) (k : Nat) (h : bef x (o.getD k (0, 0)) = true) : posOf x o (k + 1) = posOf x o k := if_pos h
theorem posOf_stop (x : Cl) (o : List Cl) (k : Nat) (h : bef x (o.getD k (0, 0)) = false) : posOf x o (k + 1) = k + 1 := if_neg (by rw [h]; simp)
theorem insU_yes {o : List Cl} {x : Cl} {k : Nat} (hk : posOf x o o.length = k) (h : 0 < k ∧ o.getD (k - 1) (0, 0) = x) : insU o x = o := by unfold insU; rw [hk, if_pos h]
theorem insU_no {o : List Cl} {x : Cl} {k : Nat} (hk : posOf x o o.length = k) (h : ¬ (0 < k ∧ o.getD (k - 1) (0, 0) = x)) : insU o x = o.take k ++ [x] ++ o.drop k := by unfold insU; rw [hk, if_neg h]
theorem sortU_in {l : List Cl} (h : ∀ c ∈ l, InC c) : ∀ c ∈ sortU l, InC c := fun c hc => h c ((sortU_mem l c).1 hc)

theorem new_at {w : World} {N : Nat} (o : Obj) (h : w.heap.size = N) : (w.alloc o).heap[N]? = some o := by subst h; exact heap_alloc_new _ _
/-- What a region that makes blocks of its own keeps: all that lay there. -/
def Held (WW : World) (w' : World) : Prop := Below WW.heap.size WW w'
theorem keepS {WW w' : World} {b off : Nat} {x y : Int} (hlt : b < WW.heap.size) (e1 : WW.cell? ⟨b, off, none⟩ = some (.int .i64 x)) (e2 : WW.cell? ⟨b, off + 1, none⟩ = some (.int .i64 y)) (hb : Below WW.heap.size WW w') :
    w'.cell? ⟨b, off, none⟩ = some (.int .i64 x) ∧ w'.cell? ⟨b, off + 1, none⟩ = some (.int .i64 y) ∧ Held WW w' := ⟨(hb.cell hlt).trans e1, (hb.cell hlt).trans e2, hb⟩
end

section
open Go.RowKit

theorem inW_of_inR {c : Cl} (h : inR 7 c) : inW c := by
  unfold inR at h
  unfold inW
  omega

/-- The cells turned, before they are put in order. -/
theorem inC_ofs {p q : Int} (h1 : -9223372036854775808 ≤ p ∧ p ≤ 9223372036854775807) (h2 : -9223372036854775808 ≤ q ∧ q ≤ 9223372036854775807) : InC (p, q) := by
  unfold InC
  exact ⟨by omega, by omega⟩
theorem map_apM_in (m : Nat) (l : List Cl) (h : ∀ c ∈ l, inP c = true) : ∀ c ∈ l.map (apM m), inR 7 c := by
  intro c hc
  obtain ⟨d, hd, rfl⟩ := List.mem_map.1 hc
  exact apM_in m (inR_of_inP (h d hd))
end

section
open Go.RowKit

theorem moveC_in {x y : Int} {l : List Cl} (hp : ∀ c ∈ l, inP c = true) (hx : inb x (-7) 7 = true) (hy : inb y (-7) 7 = true) : ∀ c ∈ moveC x y l, InC c := by
  intro c hc
  obtain ⟨d, hd, rfl⟩ := List.mem_map.1 hc
  have := inP_out (hp d hd)
  simp [inb] at hx hy
  unfold InC
  dsimp only
  omega
end

section
open Go.RowKit

theorem inb_out2 {x lo hi : Int} (h : inb x lo hi = true) : lo ≤ x ∧ x ≤ hi := by
  unfold inb at h
  simpa using h
theorem turnS_yes {m : Nat} {l : List Cl} (h : isShape l = true) (hm : m ≤ 7) : turnS (m : Int) l = turnC m l ∧ (isShape l && inb (m : Int) 0 7) = true := by
  have e : (isShape l && inb (m : Int) 0 7) = true := by simp [h, inb]; omega
  exact ⟨by unfold turnS; rw [if_pos e]; rfl, e⟩
theorem turnS_no {m : Int} {l : List Cl} (h : (isShape l && inb m 0 7) = false) : turnS m l = [] := if_neg (by rw [h]; simp)

theorem ret_I {a b : Int} (h : a = b) : Ending.returned (.int .i64 a) = .returned (.int .i64 b) := by rw [h]
theorem cmpS_lens {l r : List Cl} (h : l.length = r.length) : cmpS l r = cmpL (l.drop 0) (r.drop 0) := by
  unfold cmpS
  rw [if_neg (by omega), if_neg (by omega)]
  rfl
end

end Go.Proofs.Ytkcclhnligajeaa
