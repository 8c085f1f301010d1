/-
  An empty region, a cell set and taken away, a region copied: in the program and in the model: what each call gives.
-/
import Derived.Test.YtbfopdflkkcfaaaDoorSr1
import Derived.Test.YtbfopdflkkcfaaaDoorPr2
import Derived.Test.YtbfopdflkkcfaaaDoorCap
import Derived.Laws.CopyOwn
import Derived.Laws.AppendOwnNone
namespace Go.Proofs.YtbfopdflkkcfaaaDoor
open Go.RowKit

/-! ### Appending numbers -/
theorem append_ints (base g n cap B : Nat) (xs : List Int) (a : Option Addr) (m c : Nat) (ys : List Int) (w : World)
    (hown : w.ownsRow base 3 1 (.slice (some ⟨g, 0, none⟩) n cap) n (iv xs)) (hs : IntsAt B w a m ys) (h63 : n + m ≤ 8388608) (hbase : base ≤ w.heap.size) (ty : TypeId) :
    ∃ g' cap' w', (Builtin.append_ #[22, 22] ty #[.slice (some ⟨g, 0, none⟩) n cap, .slice a m c]).run Tryd.prog w = .ok (.slice (some ⟨g', 0, none⟩) (n + m) cap') w' ∧
      w'.ownsRow base 3 1 (.slice (some ⟨g', 0, none⟩) (n + m) cap') (n + m) (iv (xs ++ ys)) ∧ w.grownBy w' (some g) ∧ base ≤ g' := by
  obtain ⟨i, hi, hz0, hz1, hz2⟩ := info_parts info_int
  have hcase : (a = none ∧ m = 0) ∨ ∃ ad, a = some ad ∧ ∀ j u, (iv ys)[j]? = some u → w.cell? (ad.add j) = some u := by
    cases a with
    | none => exact .inl ⟨rfl, by
        by_cases h0 : 0 < m
        · obtain ⟨_, _, e, _⟩ := hs.2.2 h0
          cases e
        · omega⟩
    | some ad =>
      refine .inr ⟨ad, rfl, fun j u hj => ?_⟩
      have hjl : j < m := by
        have := (List.getElem?_eq_some_iff.1 hj).1
        rw [iv_length, hs.1] at this
        exact this
      obtain ⟨b, off, e, _, hc⟩ := hs.2.2 (by omega)
      injection e with e
      subst e
      rw [add_at, hc j hjl, ← hj, iv_get _ _ (by rw [hs.1]; exact hjl)]
  rcases hcase with ⟨rfl, rfl⟩ | ⟨ad, rfl, hsrc⟩
  · have hy : ys = [] := List.eq_nil_of_length_eq_zero hs.1
    subst hy
    obtain ⟨g1, cap1, cur, e, hb, _, hnc, _⟩ := hown.2.resolve_left (by rintro ⟨e, _⟩; cases e)
    injection e with e1 e2 e3
    injection e1 with e1
    injection e1 with e1
    subst e1 e3
    refine ⟨g, cap, w, ?_, by simpa using hown, World.grownBy.refl _ _, hb⟩
    simp [Builtin.append_, run_underlying Tryd.underlying22, sizeOf, typeInfo, hi, Builtin.lenOf, Builtin.firstCells, hnc, storeCells]
  · obtain ⟨v', w', hr, h2, h3, h4, _⟩ := run_append_own_at (P := Tryd.prog) w base 22 ty 3 i _ 1 8 Tryd.underlying22 hi hz0 hz1 hz2 rfl (by omega) _ n (iv xs) hown ad m c (iv ys) (by rw [iv_length, hs.1]; omega) hsrc (iv_one _) (by unfold maxLen; omega) (by omega) hbase
    rw [show iv xs ++ iv ys = iv (xs ++ ys) from by simp [iv]] at h2
    rcases h2.2 with ⟨rfl, _⟩ | ⟨g', cap', cur, rfl, hb, hg, _⟩
    · exact absurd (h4.1 rfl).1 (by intro e; cases e)
    · exact ⟨g', cap', w', hr, h2, h3, hb⟩
theorem wp_ints {o : Oper} {a : Act} {w : World} {K : Act → World → Prop} {Q : Exit → Act → World → Prop} (s x : Operand)
    (ho : o.op = .call { callee := .builtin .append, args := #[s, x], argTypes := #[22, 22] })
    (base g n cap B : Nat) (xs : List Int) (ad : Option Addr) (m c : Nat) (ys : List Int) (hs : a.eval s = .slice (some ⟨g, 0, none⟩) n cap) (hx : a.eval x = .slice ad m c)
    (hown : w.ownsRow base 3 1 (.slice (some ⟨g, 0, none⟩) n cap) n (iv xs)) (hsrc : IntsAt B w ad m ys) (h63 : n + m ≤ 8388608) (hbase : base ≤ w.heap.size)
    (h : ∀ g' cap' w', w'.ownsRow base 3 1 (.slice (some ⟨g', 0, none⟩) (n + m) cap') (n + m) (iv (xs ++ ys)) → w.grownBy w' (some g) → base ≤ g' → K (a.put o.dst (.slice (some ⟨g', 0, none⟩) (n + m) cap')) w') : o.wp Tryd.prog a w K Q := by
  obtain ⟨g', cap', w', hr, h2, h3, h4⟩ := append_ints base g n cap B xs ad m c ys w hown hsrc h63 hbase o.type
  unfold Oper.wp execOp
  simp only [ho, resolve, invoke, builtin, Sem.run_bind, Sem.run_pure, Result.andThen_ok, List.map_toArray, List.map_cons, List.map_nil, hs, hx, hr]
  exact h g' cap' w' h2 h3 h4
theorem step_ints {ops : Array Oper} {o : Oper} {a : Act} {w : World} {K : Act → World → Prop} {Q : Exit → Act → World → Prop} {E : Prop} (hgd : o.guard = none) (s x : Operand)
    (ho : o.op = .call { callee := .builtin .append, args := #[s, x], argTypes := #[22, 22] })
    (base g n cap B : Nat) (xs : List Int) (ad : Option Addr) (m c : Nat) (ys : List Int) (hs : a.eval s = .slice (some ⟨g, 0, none⟩) n cap) (hx : a.eval x = .slice ad m c)
    (hown : w.ownsRow base 3 1 (.slice (some ⟨g, 0, none⟩) n cap) n (iv xs)) (hsrc : IntsAt B w ad m ys) (h63 : n + m ≤ 8388608) (hbase : base ≤ w.heap.size)
    (h : ∀ g' cap' w', w'.ownsRow base 3 1 (.slice (some ⟨g', 0, none⟩) (n + m) cap') (n + m) (iv (xs ++ ys)) → w.grownBy w' (some g) → base ≤ g' → K (a.put o.dst (.slice (some ⟨g', 0, none⟩) (n + m) cap')) w') :
    if Region.wanted o (yielded ops a.tmps) = true then Oper.wp Tryd.prog o a w K Q else E := by
  have hw : Region.wanted o (yielded ops a.tmps) = true := by simp [Region.wanted, hgd]
  rw [if_pos hw]
  exact wp_ints s x ho base g n cap B xs ad m c ys hs hx hown hsrc h63 hbase h

/-! ### One cell set, one taken away -/
def shV (x : Nat) : Int := wrap64 ((2 : Int) ^ min x 64)
theorem shV_in {x : Nat} (h : x ≤ 41) : shV x = ((2 ^ x : Nat) : Int) := by
  unfold shV
  rw [show min x 64 = x by omega, pw64 x h]
  simp
set_option maxHeartbeats 1000000 in
set_option maxRecDepth 100000 in
theorem iSetC (g j x : Nat) (z : Int) (w : World) (hc : w.cell? ⟨g, j, none⟩ = some (.int .i64 z)) (hf : w.frozen? ⟨g, j, none⟩ = false) :
    Calls Tryd.prog 12 #[.pointer (some ⟨g, j, none⟩), .int .i64 x] w fun e w' => e = .returned (.tuple #[]) ∧ ∃ q, w' = (w.setCell ⟨g, j, none⟩ (.int .i64 (bits .or .i64 z (shV x)))).drewN q := by
  unfold shV
  go_enter Tryd.func12, Tryd.ntmps12
  go_wp2_with fail
  go_region
  go_end0
  exact ⟨rfl, 1, rfl⟩
theorem or_val {n x : Nat} (hn : n < 64) (hx : x < 6) : bits .or .i64 (n : Int) (shV x) = ((n ||| 2 ^ x : Nat) : Int) := by
  rw [shV_in (by omega)]
  have : 2 ^ x ≤ 2 ^ 6 := Nat.pow_le_pow_right (by omega) (by omega)
  exact i64_or_nat _ _ (by omega) (by omega)
theorem andNot_all : ∀ n, n < 64 → ∀ x, x < 6 → bits .andNot .i64 ((n : Nat) : Int) ((2 ^ x : Nat) : Int) = ((clrN n x : Nat) : Int) := by decide +kernel
theorem andNot_val {n x : Nat} (hn : n < 64) (hx : x < 6) : bits .andNot .i64 (n : Int) (shV x) = ((clrN n x : Nat) : Int) := by
  rw [shV_in (by omega)]
  exact andNot_all n hn x hx

set_option maxHeartbeats 1000000 in
set_option maxRecDepth 100000 in
theorem iEmpty (W : Int) (h : Nat) (w : World) (hh : h ≤ 1048577) :
    Calls Tryd.prog 11 #[.int .i64 W, .int .i64 h] w fun e w' => ∃ g, e = .returned (.agg #[.int .i64 W, .slice (some ⟨g, 0, none⟩) h h]) ∧ w'.ownsRow w.heap.size 3 1 (.slice (some ⟨g, 0, none⟩) h h) h (iv (zerosR h)) ∧ Below w.heap.size w w' := by
  obtain ⟨i0, hi, hz0, hz1, hz2⟩ := info_parts info_int
  go_enter Tryd.func11, Tryd.ntmps11
  go_wp2_with (first | (at_make; refine wpList_make_full _ rfl _ _ 22 rfl (w.heap.size + 1) 3 i0 (.int .i64 0) 1 Tryd.underlying22 hi hz0 hz1 _ _ _ _ h rfl rfl rfl rfl ?b2 ?b3 ?b4 ?_) | go_in)
  case b2 => rw [hz2]; omega
  case b3 => unfold maxLen; omega
  case b4 => simp
  intro w0 hown0 hgrow0
  rw [made_ints h] at hown0
  have hr0 := (RgAt.new (w := w) 0 (.slice none 0 0) rfl).by hgrow0 (by intro e; cases e)
  have hb0 := ((Below.refl w.heap.size w).alloc (Nat.le_refl _) (.cells #[.int .i64 0, .slice none 0 0] 24)).grown hgrow0 (by simp) (fun k h => by cases h)
  have c0 := hr0.c0
  have c1 := hr0.c1
  have f0 := hr0.f 0
  have f1 := hr0.f 1
  have HO := Lib.hid hown0
  have HR := Lib.hid hr0
  have HB := Lib.hid hb0
  clear hown0 hgrow0 hr0 hb0
  go_wp2
  have R9 := HR.out.set2 W (.slice (some ⟨w.heap.size + 1, 0, none⟩) h h)
  have e0 := R9.c0
  have e1 := R9.c1
  have HO9 := Lib.hid (own_below (own_far (b := w.heap.size) (o := 1) (u := .slice (some ⟨w.heap.size + 1, 0, none⟩) h h) (own_far (b := w.heap.size) (o := 0) (u := .int .i64 W) HO.out (by omega)) (by omega)) (show w.heap.size ≤ w.heap.size + 1 by omega))
  have HB9 := Lib.hid ((HB.out.setCell (p := ⟨w.heap.size, 0, none⟩) (Nat.le_refl _) (.int .i64 W)).setCell (p := ⟨w.heap.size, 1, none⟩) (Nat.le_refl _) (.slice (some ⟨w.heap.size + 1, 0, none⟩) h h))
  generalize ((w0.setCell ⟨w.heap.size, 0, none⟩ (.int .i64 W)).setCell ⟨w.heap.size, 1, none⟩ (.slice (some ⟨w.heap.size + 1, 0, none⟩) h h)) = w9 at *
  exact bodyPost_ret (v := .agg #[.int .i64 W, .slice (some ⟨w.heap.size + 1, 0, none⟩) h h]) (by simp [results, Tryd.results11, go_sem, e0, e1]) rfl ⟨_, rfl, HO9.out, HB9.out⟩

theorem own_lit_i (w : World) (B g : Nat) (h : B ≤ w.heap.size) (hg : w.heap.size = g) : (w.alloc (.cells #[] 3)).ownsRow B 3 1 (.slice (some ⟨g, 0, none⟩) 0 0) 0 (iv []) := by
  subst hg
  simpa [iv] using World.ownsRow_lit (base := B) (e := 3) (size := 1) w #[] 0 h (by simp [maxLen]) rfl


theorem run_make_i (w : World) (base n : Nat) (hn : n ≤ 1048577) (hb : base ≤ w.heap.size) :
    ∃ w', (Instr.makeSlice 22 (.int .i64 n) (.int .i64 n)).run Tryd.prog w = .ok (.slice (some ⟨w.heap.size, 0, none⟩) n n) w' ∧ w'.ownsRow base 3 1 (.slice (some ⟨w.heap.size, 0, none⟩) n n) n (iv (zerosR n)) ∧ w.grownBy w' none := by
  obtain ⟨i0, hi, hz0, hz1, hz2⟩ := info_parts info_int
  obtain ⟨w', hrun, r1, r2⟩ := run_make_full (P := Tryd.prog) w base 22 3 i0 (.int .i64 0) 1 Tryd.underlying22 hi hz0 hz1 .i64 .i64 n (by rw [hz2]; omega) (by unfold maxLen; omega) hb
  have e : (madeCells (Value.int IntKind.i64 0).cells (n * 1)).toList = iv (zerosR n) := by rw [Nat.mul_one]; exact made_ints n
  rw [e] at r1
  exact ⟨w', hrun, r1, r2⟩


theorem RgAt.row {w : World} {g k : Nat} {W : Int} {v : Value} {cs : Array Value} (h : RgAt w k W v) (hne : k ≠ g) : RgAt (w.setRow g cs) k W v := (setRow_other w g k cs hne).trans h
theorem own_row {w : World} {g base n : Nat} {l : List Int} {cur : Array Value} (hl : l.length = n) (hg : w.heap[g]? = some (.cells cur 3 (0, 0))) (hb : base ≤ g) (hn : n ≤ maxLen) :
    (w.setRow g (iv l).toArray).ownsRow base 3 1 (.slice (some ⟨g, 0, none⟩) n n) n (iv l) :=
  ⟨by rw [iv_length, hl, Nat.mul_one], .inr ⟨g, n, (iv l).toArray, rfl, hb, setRow_heap w g cur _ 3 _ hg, Nat.le_refl _, hn, by simp [iv_length, hl], by rw [Nat.mul_one]; exact List.take_of_length_le (by simp [iv_length, hl])⟩⟩


end Go.Proofs.YtbfopdflkkcfaaaDoor
