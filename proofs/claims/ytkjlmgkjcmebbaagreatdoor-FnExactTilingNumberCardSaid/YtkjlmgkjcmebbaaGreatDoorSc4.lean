/-
  Lists of lists of numbers, each in memory of the call's own.
-/
import Derived.Test.YtkjlmgkjcmebbaaGreatDoorVan
import Derived.Deep.AppendLies
import Derived.Maps.AppendAt
namespace Go.Proofs.YtkjlmgkjcmebbaaGreatDoor
open Go.RowKit

/-- A list of masks in memory: its block, its capacity, its masks. -/
abbrev IE := Nat × Nat × List Nat
def ieV (e : IE) : Value := .slice (some ⟨e.1, 0, none⟩) e.2.2.length e.2.1
def dIE : IE := (0, 0, [])
def kI (e : IE) : List Nat := e.2.2
structure OwnI (B : Nat) (w : World) (v : Value) (es : List IE) : Prop where
  row : w.ownsRow B 24 1 v es.length (es.map ieV)
  each : ∀ e ∈ es, w.ownsRow B 3 1 (ieV e) e.2.2.length (iv (ints e.2.2))
  off : ∀ e ∈ es, v.ownBlock ≠ some e.1
theorem info_rows : (Tryz.prog.info? 24).map (fun i => (i.zero, i.size, i.bytes)) = some (some (.slice none 0 0), 1, 24) := by kernel_rfl
section
variable {B : Nat} {w w' : World} {v : Value} {es : List IE}
theorem OwnI.lt (h : OwnI B w v es) {e : IE} (he : e ∈ es) : B ≤ e.1 ∧ e.1 < w.heap.size := (h.each e he).lt e.1 rfl
theorem OwnI.by {r : Option Nat} (h : OwnI B w v es) (hg : w.grownBy w' r) (h1 : ∀ b, v.ownBlock = some b → r ≠ some b) (h2 : ∀ e ∈ es, r ≠ some e.1) : OwnI B w' v es :=
  ⟨h.row.kept hg (by
    cases e : v.ownBlock with
    | none => exact .inl rfl
    | some b => exact .inr fun e2 => h1 b e e2.symm), fun e he => (h.each e he).kept hg (.inr fun e2 => h2 e he e2.symm), h.off⟩
theorem OwnI.on (h : OwnI B w v es) (hb : Below w.heap.size w w') : OwnI B w' v es := h.by (grow_below hb none) (fun _ _ e => by cases e) (fun _ _ e => by cases e)
theorem OwnI.less {B' : Nat} (h : OwnI B w v es) (hB : B' ≤ B) : OwnI B' w v es := ⟨own_below h.row hB, fun e he => own_below (h.each e he) hB, h.off⟩
theorem own_sliceR {n : Nat} {xs : List Value} (h : w.ownsRow B 24 1 v n xs) : ∃ a cap, v = .slice a n cap := by
  rcases h.2 with ⟨rfl, h0⟩ | ⟨g, cap, cur, rfl, _⟩
  · subst h0; exact ⟨none, 0, rfl⟩
  · exact ⟨_, cap, rfl⟩
/-- One more. -/
theorem OwnI.snoc {v' : Value} {e : IE} (h : OwnI B w v es) (hrow : w'.ownsRow B 24 1 v' (es.length + 1) (es.map ieV ++ [ieV e])) (hg : w.grownBy w' v.ownBlock) (hat : v'.ownBlock = v.ownBlock ∨ ∃ g, v'.ownBlock = some g ∧ w.heap.size ≤ g)
    (he : w.ownsRow B 3 1 (ieV e) e.2.2.length (iv (ints e.2.2))) (hoff : v.ownBlock ≠ some e.1) : OwnI B w' v' (es ++ [e]) := by
  have hlt := he.lt e.1 rfl
  refine ⟨by rw [List.length_append, List.map_append]; exact hrow, fun x hx => ?_, fun x hx => ?_⟩
  · rw [List.mem_append, List.mem_singleton] at hx
    rcases hx with hx | rfl
    · exact (h.each x hx).kept hg (.inr fun e2 => h.off x hx e2.symm)
    · exact he.kept hg (.inr fun e2 => hoff e2.symm)
  · rw [List.mem_append, List.mem_singleton] at hx
    rcases hat with h1 | ⟨g, h1, h2⟩
    · rw [h1]
      rcases hx with hx | rfl
      · exact h.off x hx
      · exact hoff
    · rw [h1]
      intro e3
      have e4 : g = x.1 := Option.some.inj e3
      rcases hx with hx | rfl
      · have := (h.lt hx).2; omega
      · omega
end
theorem ieV_one (es : List IE) : ∀ u ∈ es.map ieV, u.oneCell' = true := by
  intro u hu
  obtain ⟨e, _, rfl⟩ := List.mem_map.1 hu
  rfl

/-- An append, nil or not what is appended, to a slice that holds something afterwards. -/
theorem step_append_some {P : Program} (w : World) {ops : Array Oper} {o : Oper} {a : Act} {K : Act → World → Prop} {Q : Exit → Act → World → Prop} {E : Prop} (hgd : o.guard = none) (s x : Operand) (t : TypeId)
    (ho : o.op = .call { callee := .builtin .append, args := #[s, x], argTypes := #[t, t] })
    (base : Nat) (e : TypeId) (i : TypeInfo) (z : Value) (size bytes : Nat) (ht : P.underlying t = some (.slice e)) (hi : P.info? e = some i) (hz : i.zero = some z)
    (hsize : i.size = size) (hby : i.bytes = bytes) (hzs : z.cells.size = size) (hsz : 0 < size)
    (v : Value) (n : Nat) (xs : List Value) (hs : a.eval s = v) (hown : w.ownsRow base e size v n xs)
    (ad : Addr) (m c : Nat) (news : List Value) (hx : a.eval x = .slice (some ad) m c) (hl : news.length = m * size) (hnews : ∀ j u, news[j]? = some u → w.cell? (ad.add j) = some u) (h1 : ∀ u ∈ news, u.oneCell' = true)
    (hm : 0 < n + m) (h63 : n + m ≤ maxLen) (hbytes : (n + m) * bytes ≤ 140737488355328) (hbase : base ≤ w.heap.size) (H : Nat) (hH : w.heap.size = H)
    (h : ∀ g cap w', w'.ownsRow base e size (.slice (some ⟨g, 0, none⟩) (n + m) cap) (n + m) (xs ++ news) → w.grownBy w' v.ownBlock → (v.ownBlock = some g ∨ g = H) → g < w'.heap.size → K (a.put o.dst (.slice (some ⟨g, 0, none⟩) (n + m) cap)) w') :
    if Region.wanted o (yielded ops a.tmps) = true then Oper.wp P o a w K Q else E := by
  have hw : Region.wanted o (yielded ops a.tmps) = true := by simp [Region.wanted, hgd]
  rw [if_pos hw]
  obtain ⟨v', w', hr, h2, h3, _, h5⟩ := run_append_own_at (P := P) w base t o.type e i z size bytes ht hi hz hsize hby hzs hsz v n xs hown ad m c news hl hnews h1 h63 hbytes hbase
  unfold Oper.wp execOp
  simp only [ho, resolve, invoke, builtin, Sem.run_bind, Sem.run_pure, Result.andThen_ok, List.map_toArray, List.map_cons, List.map_nil, hs, hx, hr]
  rcases h2.2 with ⟨rfl, h0⟩ | ⟨g, cap, cur, rfl, _⟩
  · omega
  · refine h g cap w' h2 h3 ?_ (h2.lt g rfl).2
    rcases h5 with h6 | h6
    · exact .inl h6.symm
    · right
      rw [← hH]
      exact Option.some.inj h6

/-! ### What is reached, at most so many -/
theorem take_seg {α : Type} (A C : List α) {M : Nat} (h : (A.take M).length < M) : (A ++ C).take M = A.take M ++ C.take (M - (A.take M).length) := by
  have h1 : A.length < M := by rw [List.length_take] at h; omega
  rw [List.take_append, List.take_of_length_le (by omega : A.length ≤ M)]
theorem take_full {α : Type} (A C : List α) {M : Nat} (h : (A.take M).length = M) : (A ++ C).take M = A.take M := by
  rw [List.length_take] at h
  rw [List.take_append, show M - A.length = 0 by omega, List.take_zero, List.append_nil]
end Go.Proofs.YtkjlmgkjcmebbaaGreatDoor
