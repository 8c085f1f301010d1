/-
  An empty region, a cell set and taken away, a region copied: in the program and in the model: what each call gives.
  Slices of shapes that the call owns, each shape's memory the call's own and apart from the others'.
-/
import Derived.Test.YtkcclhnligajeaaSr1
import Derived.Test.YtkcclhnligajeaaPr2
import Derived.Test.YtkcclhnligajeaaVab
import Derived.Laws.CopyOwn
import Derived.Laws.AppendOwnNone
import Derived.Test.YtkcclhnligajeaaVaa
import Derived.Test.YtkcclhnligajeaaGen
import Derived.Test.YtkcclhnligajeaaCor
namespace Go.Proofs.Ytkcclhnligajeaa

section
open Go.RowKit

/-! ### Appending numbers -/
set_option maxRecDepth 100000 in
theorem append_intsR (base g n cap B : Nat) (xs : List Int) (a : Option Addr) (m c : Nat) (ys : List Int) (w : World)
    (hown : w.ownsRow base 3 1 (.slice (some ⟨g, 0, none⟩) n cap) n (iv xs)) (hs : IntsAt B w a m ys) (h63 : n + m ≤ 8388608) (hbase : base ≤ w.heap.size) (ty : TypeId) :
    ∃ g' cap' w', (Builtin.append_ #[23, 23] ty #[.slice (some ⟨g, 0, none⟩) n cap, .slice a m c]).run Try.prog w = .ok (.slice (some ⟨g', 0, none⟩) (n + m) cap') w' ∧
      w'.ownsRow base 3 1 (.slice (some ⟨g', 0, none⟩) (n + m) cap') (n + m) (iv (xs ++ ys)) ∧ w.grownBy w' (some g) ∧ base ≤ g' := by
  obtain ⟨i, hi, hz0, hz1, hz2⟩ := info_parts info_int
  have hcase : (a = none ∧ m = 0) ∨ ∃ ad, a = some ad ∧ ∀ j u, (iv ys)[j]? = some u → w.cell? (ad.add j) = some u := by
    cases a with
    | none => exact .inl ⟨rfl, by
        by_cases h0 : 0 < m
        · obtain ⟨_, _, e, _⟩ := hs.2.2 h0
          cases e
        · omega⟩
    | some ad =>
      refine .inr ⟨ad, rfl, fun j u hj => ?_⟩
      have hjl : j < m := by
        have := (List.getElem?_eq_some_iff.1 hj).1
        rw [iv_length, hs.1] at this
        exact this
      obtain ⟨b, off, e, _, hc⟩ := hs.2.2 (by omega)
      injection e with e
      subst e
      rw [add_at, hc j hjl, ← hj, iv_get _ _ (by rw [hs.1]; exact hjl)]
  rcases hcase with ⟨rfl, rfl⟩ | ⟨ad, rfl, hsrc⟩
  · have hy : ys = [] := List.eq_nil_of_length_eq_zero hs.1
    subst hy
    obtain ⟨g1, cap1, cur, e, hb, _, hnc, _⟩ := hown.2.resolve_left (by rintro ⟨e, _⟩; cases e)
    injection e with e1 e2 e3
    injection e1 with e1
    injection e1 with e1
    subst e1 e3
    refine ⟨g, cap, w, ?_, by simpa using hown, World.grownBy.refl _ _, hb⟩
    simp [Builtin.append_, run_underlying Try.underlying23, sizeOf, typeInfo, hi, Builtin.lenOf, Builtin.firstCells, hnc, storeCells]
  · obtain ⟨v', w', hr, h2, h3, h4, _⟩ := run_append_own_at (P := Try.prog) w base 23 ty 3 i _ 1 8 Try.underlying23 hi hz0 hz1 hz2 rfl (by omega) _ n (iv xs) hown ad m c (iv ys) (by rw [iv_length, hs.1]; omega) hsrc (iv_one _) (by unfold maxLen; omega) (by omega) hbase
    rw [show iv xs ++ iv ys = iv (xs ++ ys) from by simp [iv]] at h2
    rcases h2.2 with ⟨rfl, _⟩ | ⟨g', cap', cur, rfl, hb, hg, _⟩
    · exact absurd (h4.1 rfl).1 (by intro e; cases e)
    · exact ⟨g', cap', w', hr, h2, h3, hb⟩
theorem wp_intsR {o : Oper} {a : Act} {w : World} {K : Act → World → Prop} {Q : Exit → Act → World → Prop} (s x : Operand)
    (ho : o.op = .call { callee := .builtin .append, args := #[s, x], argTypes := #[23, 23] })
    (base g n cap B : Nat) (xs : List Int) (ad : Option Addr) (m c : Nat) (ys : List Int) (hs : a.eval s = .slice (some ⟨g, 0, none⟩) n cap) (hx : a.eval x = .slice ad m c)
    (hown : w.ownsRow base 3 1 (.slice (some ⟨g, 0, none⟩) n cap) n (iv xs)) (hsrc : IntsAt B w ad m ys) (h63 : n + m ≤ 8388608) (hbase : base ≤ w.heap.size)
    (h : ∀ g' cap' w', w'.ownsRow base 3 1 (.slice (some ⟨g', 0, none⟩) (n + m) cap') (n + m) (iv (xs ++ ys)) → w.grownBy w' (some g) → base ≤ g' → K (a.put o.dst (.slice (some ⟨g', 0, none⟩) (n + m) cap')) w') : o.wp Try.prog a w K Q := by
  obtain ⟨g', cap', w', hr, h2, h3, h4⟩ := append_intsR base g n cap B xs ad m c ys w hown hsrc h63 hbase o.type
  unfold Oper.wp execOp
  simp only [ho, resolve, invoke, builtin, Sem.run_bind, Sem.run_pure, Result.andThen_ok, List.map_toArray, List.map_cons, List.map_nil, hs, hx, hr]
  exact h g' cap' w' h2 h3 h4
theorem step_intsR {ops : Array Oper} {o : Oper} {a : Act} {w : World} {K : Act → World → Prop} {Q : Exit → Act → World → Prop} {E : Prop} (hgd : o.guard = none) (s x : Operand)
    (ho : o.op = .call { callee := .builtin .append, args := #[s, x], argTypes := #[23, 23] })
    (base g n cap B : Nat) (xs : List Int) (ad : Option Addr) (m c : Nat) (ys : List Int) (hs : a.eval s = .slice (some ⟨g, 0, none⟩) n cap) (hx : a.eval x = .slice ad m c)
    (hown : w.ownsRow base 3 1 (.slice (some ⟨g, 0, none⟩) n cap) n (iv xs)) (hsrc : IntsAt B w ad m ys) (h63 : n + m ≤ 8388608) (hbase : base ≤ w.heap.size)
    (h : ∀ g' cap' w', w'.ownsRow base 3 1 (.slice (some ⟨g', 0, none⟩) (n + m) cap') (n + m) (iv (xs ++ ys)) → w.grownBy w' (some g) → base ≤ g' → K (a.put o.dst (.slice (some ⟨g', 0, none⟩) (n + m) cap')) w') :
    if Region.wanted o (yielded ops a.tmps) = true then Oper.wp Try.prog o a w K Q else E := by
  have hw : Region.wanted o (yielded ops a.tmps) = true := by simp [Region.wanted, hgd]
  rw [if_pos hw]
  exact wp_intsR s x ho base g n cap B xs ad m c ys hs hx hown hsrc h63 hbase h

/-! ### One cell set, one taken away -/
def shV (x : Nat) : Int := wrap64 ((2 : Int) ^ min x 64)
theorem shV_in {x : Nat} (h : x ≤ 41) : shV x = ((2 ^ x : Nat) : Int) := by
  unfold shV
  rw [show min x 64 = x by omega, pw64 x h]
  simp
theorem or_val {n x : Nat} (hn : n < 64) (hx : x < 6) : bits .or .i64 (n : Int) (shV x) = ((n ||| 2 ^ x : Nat) : Int) := by
  rw [shV_in (by omega)]
  have : 2 ^ x ≤ 2 ^ 6 := Nat.pow_le_pow_right (by omega) (by omega)
  exact i64_or_nat _ _ (by omega) (by omega)
theorem andNot_all : ∀ n, n < 64 → ∀ x, x < 6 → bits .andNot .i64 ((n : Nat) : Int) ((2 ^ x : Nat) : Int) = ((clrN n x : Nat) : Int) := by decide +kernel
theorem andNot_val {n x : Nat} (hn : n < 64) (hx : x < 6) : bits .andNot .i64 (n : Int) (shV x) = ((clrN n x : Nat) : Int) := by
  rw [shV_in (by omega)]
  exact andNot_all n hn x hx

theorem own_lit_i (w : World) (B g : Nat) (h : B ≤ w.heap.size) (hg : w.heap.size = g) : (w.alloc (.cells #[] 3)).ownsRow B 3 1 (.slice (some ⟨g, 0, none⟩) 0 0) 0 (iv []) := by
  subst hg
  simpa [iv] using World.ownsRow_lit (base := B) (e := 3) (size := 1) w #[] 0 h (by simp [maxLen]) rfl


theorem run_make_i (w : World) (base n : Nat) (hn : n ≤ 1048577) (hb : base ≤ w.heap.size) :
    ∃ w', (Instr.makeSlice 23 (.int .i64 n) (.int .i64 n)).run Try.prog w = .ok (.slice (some ⟨w.heap.size, 0, none⟩) n n) w' ∧ w'.ownsRow base 3 1 (.slice (some ⟨w.heap.size, 0, none⟩) n n) n (iv (zerosR n)) ∧ w.grownBy w' none := by
  obtain ⟨i0, hi, hz0, hz1, hz2⟩ := info_parts info_int
  obtain ⟨w', hrun, r1, r2⟩ := run_make_full (P := Try.prog) w base 23 3 i0 (.int .i64 0) 1 Try.underlying23 hi hz0 hz1 .i64 .i64 n (by rw [hz2]; omega) (by unfold maxLen; omega) hb
  have e : (madeCells (Value.int IntKind.i64 0).cells (n * 1)).toList = iv (zerosR n) := by rw [Nat.mul_one]; exact made_ints n
  rw [e] at r1
  exact ⟨w', hrun, r1, r2⟩


theorem RgAt.row {w : World} {g k : Nat} {W : Int} {v : Value} {cs : Array Value} (h : RgAt w k W v) (hne : k ≠ g) : RgAt (w.setRow g cs) k W v := (setRow_other w g k cs hne).trans h
theorem own_row {w : World} {g base n : Nat} {l : List Int} {cur : Array Value} (hl : l.length = n) (hg : w.heap[g]? = some (.cells cur 3 (0, 0))) (hb : base ≤ g) (hn : n ≤ maxLen) :
    (w.setRow g (iv l).toArray).ownsRow base 3 1 (.slice (some ⟨g, 0, none⟩) n n) n (iv l) :=
  ⟨by rw [iv_length, hl, Nat.mul_one], .inr ⟨g, n, (iv l).toArray, rfl, hb, setRow_heap w g cur _ 3 _ hg, Nat.le_refl _, hn, by simp [iv_length, hl], by rw [Nat.mul_one]; exact List.take_of_length_le (by simp [iv_length, hl])⟩⟩
end

section
open Go.RowKit

/-- A shape in memory: its block, its capacity, its cells. -/
abbrev Ent := Nat × Nat × List Cl
def ev (e : Ent) : Value := .slice (some ⟨e.1, 0, none⟩) e.2.2.length e.2.1
def dE : Ent := (0, 0, [])
def kE (e : Ent) : List Cl := e.2.2
def SmallS (es : List Ent) : Prop := ∀ e ∈ es, e.2.2.length ≤ 4194304 ∧ ∀ c ∈ e.2.2, InC c
def ApartS (es : List Ent) : Prop := es.Pairwise fun e f => e.1 ≠ f.1
def OffS (g : Nat) (es : List Ent) : Prop := ∀ e ∈ es, e.1 ≠ g
theorem ev_block (e : Ent) : (ev e).ownBlock = some e.1 := rfl
theorem ev_one (e : Ent) : (ev e).oneCell' = true := rfl
theorem evs_one (es : List Ent) : ∀ u ∈ es.map ev, u.oneCell' = true := by
  intro u hu
  obtain ⟨e, _, rfl⟩ := List.mem_map.1 hu
  exact ev_one e
theorem evs_get {es : List Ent} {k : Nat} (h : k < es.length) : (es.map ev)[k]? = some (ev (es.getD k dE)) := by simp [List.getD, h]
theorem ent_mem {es : List Ent} {k : Nat} (h : k < es.length) : es.getD k dE ∈ es := by simp [List.getD, h]

/-! ### Rows of values of one cell -/
theorem row1_le {w : World} {B n g cap : Nat} {t : TypeId} {xs : List Value} (h : w.ownsRow B t 1 (.slice (some ⟨g, 0, none⟩) n cap) n xs) : n ≤ cap := by
  rcases h.2 with ⟨e, _⟩ | ⟨g', cap', cur, e, _, _, h1, _⟩
  · cases e
  · injection e with _ _ e3
    omega
theorem row1_take {w : World} {B n g cap k : Nat} {t : TypeId} {xs : List Value} (h : w.ownsRow B t 1 (.slice (some ⟨g, 0, none⟩) n cap) n xs) (hk : k ≤ n) : w.ownsRow B t 1 (.slice (some ⟨g, 0, none⟩) k cap) k (xs.take k) := by
  have hl : xs.length = n := by have := h.1; omega
  rcases h.2 with ⟨e, _⟩ | ⟨g', cap', cur, e, hb, hg, h1, h2, h3, h4⟩
  · cases e
  · injection e with e1 e2 e3
    injection e1 with e1
    injection e1 with e1 _
    subst e1 e3
    refine ⟨by rw [List.length_take]; omega, .inr ⟨g, cap, cur, rfl, hb, hg, by omega, h2, h3, ?_⟩⟩
    rw [← h4, List.take_take]
    congr 1
    omega
theorem row1_far {w : World} {B n g cap o : Nat} {t : TypeId} {xs : List Value} {v : Value} (h : w.ownsRow B t 1 (.slice (some ⟨g, 0, none⟩) n cap) n xs) (ho : n ≤ o) : (w.setCell ⟨g, o, none⟩ v).ownsRow B t 1 (.slice (some ⟨g, 0, none⟩) n cap) n xs := by
  rcases h.2 with ⟨e, _⟩ | ⟨g', cap', cur, e, hb, hg, h1, h2, h3, h4⟩
  · cases e
  · injection e with e1 e2 e3
    injection e1 with e1
    injection e1 with e1 _
    subst e1 e3
    refine ⟨h.1, .inr ⟨g, cap, cur.setIfInBounds o v, rfl, hb, set_row hg o v, h1, h2, by simpa using h3, ?_⟩⟩
    rw [← h4]
    apply List.ext_getElem?
    intro j
    by_cases hj : j < n * 1
    · rw [List.getElem?_take_of_lt hj, List.getElem?_take_of_lt hj, Array.getElem?_toList, Array.getElem?_toList, Array.getElem?_setIfInBounds]
      rw [if_neg (by omega)]
    · rw [List.getElem?_take_eq_none (by omega), List.getElem?_take_eq_none (by omega)]
theorem row1_fars {B n g cap : Nat} {t : TypeId} {xs : List Value} : ∀ (vs : List Value) (o : Nat) (w : World), w.ownsRow B t 1 (.slice (some ⟨g, 0, none⟩) n cap) n xs → n ≤ o → (w.setCells g o vs).ownsRow B t 1 (.slice (some ⟨g, 0, none⟩) n cap) n xs
  | [], _, _, h, _ => h
  | v :: r, o, w, h, ho => row1_fars r (o + 1) _ (row1_far (v := v) h ho) (by omega)
theorem below_sets1 {B g : Nat} {a : World} (hg : B ≤ g) : ∀ (vs : List Value) (o : Nat) (w : World), Below B a w → Below B a (w.setCells g o vs)
  | [], _, _, h => h
  | v :: r, o, _, h => below_sets1 hg r (o + 1) _ (h.setCell (p := ⟨g, o, none⟩) hg v)
theorem grown_sets1 {g : Nat} : ∀ (vs : List Value) (o : Nat) (w : World), w.grownBy (w.setCells g o vs) (some g)
  | [], _, w => World.grownBy.refl _ _
  | v :: r, o, w => by
    have h1 : w.grownBy (w.setCell ⟨g, o, none⟩ v) (some g) := ⟨rfl, rfl, rfl, by simp [World.setCell], fun k hk hne => by
      have : g ≠ k := fun e => hne (by rw [e])
      simp [World.setCell, Array.getElem?_modify, this]⟩
    exact h1.trans (grown_sets1 r (o + 1) _)
end

end Go.Proofs.Ytkcclhnligajeaa
