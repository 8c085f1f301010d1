/-
  An empty region, a cell set and taken away, a region copied: in the program and in the model: what each call gives.
  Appending to slices of shapes and of numbers that the call owns: the laws at an operation, the new block a letter.
-/
import Derived.Test.YtkcclhnligajeaaGreatDoorVag
import Derived.Test.YtkcclhnligajeaaGreatDoorVao
import Derived.Test.YtkcclhnligajeaaGreatDoorVab
import Derived.Laws.CopyOwn
import Derived.Laws.AppendOwnNone
namespace Go.Proofs.YtkcclhnligajeaaGreatDoor

section
open Go.RowKit

/-! ### Appending numbers -/
set_option maxRecDepth 100000 in
theorem append_intsR (base g n cap B : Nat) (xs : List Int) (a : Option Addr) (m c : Nat) (ys : List Int) (w : World)
    (hown : w.ownsRow base 3 1 (.slice (some ⟨g, 0, none⟩) n cap) n (iv xs)) (hs : IntsAt B w a m ys) (h63 : n + m ≤ 8388608) (hbase : base ≤ w.heap.size) (ty : TypeId) :
    ∃ g' cap' w', (Builtin.append_ #[24, 24] ty #[.slice (some ⟨g, 0, none⟩) n cap, .slice a m c]).run Tryz.prog w = .ok (.slice (some ⟨g', 0, none⟩) (n + m) cap') w' ∧
      w'.ownsRow base 3 1 (.slice (some ⟨g', 0, none⟩) (n + m) cap') (n + m) (iv (xs ++ ys)) ∧ w.grownBy w' (some g) ∧ base ≤ g' := by
  obtain ⟨i, hi, hz0, hz1, hz2⟩ := info_parts info_int
  have hcase : (a = none ∧ m = 0) ∨ ∃ ad, a = some ad ∧ ∀ j u, (iv ys)[j]? = some u → w.cell? (ad.add j) = some u := by
    cases a with
    | none => exact .inl ⟨rfl, by
        by_cases h0 : 0 < m
        · obtain ⟨_, _, e, _⟩ := hs.2.2 h0
          cases e
        · omega⟩
    | some ad =>
      refine .inr ⟨ad, rfl, fun j u hj => ?_⟩
      have hjl : j < m := by
        have := (List.getElem?_eq_some_iff.1 hj).1
        rw [iv_length, hs.1] at this
        exact this
      obtain ⟨b, off, e, _, hc⟩ := hs.2.2 (by omega)
      injection e with e
      subst e
      rw [add_at, hc j hjl, ← hj, iv_get _ _ (by rw [hs.1]; exact hjl)]
  rcases hcase with ⟨rfl, rfl⟩ | ⟨ad, rfl, hsrc⟩
  · have hy : ys = [] := List.eq_nil_of_length_eq_zero hs.1
    subst hy
    obtain ⟨g1, cap1, cur, e, hb, _, hnc, _⟩ := hown.2.resolve_left (by rintro ⟨e, _⟩; cases e)
    injection e with e1 e2 e3
    injection e1 with e1
    injection e1 with e1
    subst e1 e3
    refine ⟨g, cap, w, ?_, by simpa using hown, World.grownBy.refl _ _, hb⟩
    simp [Builtin.append_, run_underlying Tryz.underlying24, sizeOf, typeInfo, hi, Builtin.lenOf, Builtin.firstCells, hnc, storeCells]
  · obtain ⟨v', w', hr, h2, h3, h4, _⟩ := run_append_own_at (P := Tryz.prog) w base 24 ty 3 i _ 1 8 Tryz.underlying24 hi hz0 hz1 hz2 rfl (by omega) _ n (iv xs) hown ad m c (iv ys) (by rw [iv_length, hs.1]; omega) hsrc (iv_one _) (by unfold maxLen; omega) (by omega) hbase
    rw [show iv xs ++ iv ys = iv (xs ++ ys) from by simp [iv]] at h2
    rcases h2.2 with ⟨rfl, _⟩ | ⟨g', cap', cur, rfl, hb, hg, _⟩
    · exact absurd (h4.1 rfl).1 (by intro e; cases e)
    · exact ⟨g', cap', w', hr, h2, h3, hb⟩
theorem wp_intsR {o : Oper} {a : Act} {w : World} {K : Act → World → Prop} {Q : Exit → Act → World → Prop} (s x : Operand)
    (ho : o.op = .call { callee := .builtin .append, args := #[s, x], argTypes := #[24, 24] })
    (base g n cap B : Nat) (xs : List Int) (ad : Option Addr) (m c : Nat) (ys : List Int) (hs : a.eval s = .slice (some ⟨g, 0, none⟩) n cap) (hx : a.eval x = .slice ad m c)
    (hown : w.ownsRow base 3 1 (.slice (some ⟨g, 0, none⟩) n cap) n (iv xs)) (hsrc : IntsAt B w ad m ys) (h63 : n + m ≤ 8388608) (hbase : base ≤ w.heap.size)
    (h : ∀ g' cap' w', w'.ownsRow base 3 1 (.slice (some ⟨g', 0, none⟩) (n + m) cap') (n + m) (iv (xs ++ ys)) → w.grownBy w' (some g) → base ≤ g' → K (a.put o.dst (.slice (some ⟨g', 0, none⟩) (n + m) cap')) w') : o.wp Tryz.prog a w K Q := by
  obtain ⟨g', cap', w', hr, h2, h3, h4⟩ := append_intsR base g n cap B xs ad m c ys w hown hsrc h63 hbase o.type
  unfold Oper.wp execOp
  simp only [ho, resolve, invoke, builtin, Sem.run_bind, Sem.run_pure, Result.andThen_ok, List.map_toArray, List.map_cons, List.map_nil, hs, hx, hr]
  exact h g' cap' w' h2 h3 h4
theorem step_intsR {ops : Array Oper} {o : Oper} {a : Act} {w : World} {K : Act → World → Prop} {Q : Exit → Act → World → Prop} {E : Prop} (hgd : o.guard = none) (s x : Operand)
    (ho : o.op = .call { callee := .builtin .append, args := #[s, x], argTypes := #[24, 24] })
    (base g n cap B : Nat) (xs : List Int) (ad : Option Addr) (m c : Nat) (ys : List Int) (hs : a.eval s = .slice (some ⟨g, 0, none⟩) n cap) (hx : a.eval x = .slice ad m c)
    (hown : w.ownsRow base 3 1 (.slice (some ⟨g, 0, none⟩) n cap) n (iv xs)) (hsrc : IntsAt B w ad m ys) (h63 : n + m ≤ 8388608) (hbase : base ≤ w.heap.size)
    (h : ∀ g' cap' w', w'.ownsRow base 3 1 (.slice (some ⟨g', 0, none⟩) (n + m) cap') (n + m) (iv (xs ++ ys)) → w.grownBy w' (some g) → base ≤ g' → K (a.put o.dst (.slice (some ⟨g', 0, none⟩) (n + m) cap')) w') :
    if Region.wanted o (yielded ops a.tmps) = true then Oper.wp Tryz.prog o a w K Q else E := by
  have hw : Region.wanted o (yielded ops a.tmps) = true := by simp [Region.wanted, hgd]
  rw [if_pos hw]
  exact wp_intsR s x ho base g n cap B xs ad m c ys hs hx hown hsrc h63 hbase h

/-! ### One cell set, one taken away -/
def shV (x : Nat) : Int := wrap64 ((2 : Int) ^ min x 64)
theorem shV_in {x : Nat} (h : x ≤ 41) : shV x = ((2 ^ x : Nat) : Int) := by
  unfold shV
  rw [show min x 64 = x by omega, pw64 x h]
  simp
theorem or_val {n x : Nat} (hn : n < 64) (hx : x < 6) : bits .or .i64 (n : Int) (shV x) = ((n ||| 2 ^ x : Nat) : Int) := by
  rw [shV_in (by omega)]
  have : 2 ^ x ≤ 2 ^ 6 := Nat.pow_le_pow_right (by omega) (by omega)
  exact i64_or_nat _ _ (by omega) (by omega)
theorem andNot_all : ∀ n, n < 64 → ∀ x, x < 6 → bits .andNot .i64 ((n : Nat) : Int) ((2 ^ x : Nat) : Int) = ((clrN n x : Nat) : Int) := by decide +kernel
theorem andNot_val {n x : Nat} (hn : n < 64) (hx : x < 6) : bits .andNot .i64 (n : Int) (shV x) = ((clrN n x : Nat) : Int) := by
  rw [shV_in (by omega)]
  exact andNot_all n hn x hx

theorem own_lit_i (w : World) (B g : Nat) (h : B ≤ w.heap.size) (hg : w.heap.size = g) : (w.alloc (.cells #[] 3)).ownsRow B 3 1 (.slice (some ⟨g, 0, none⟩) 0 0) 0 (iv []) := by
  subst hg
  simpa [iv] using World.ownsRow_lit (base := B) (e := 3) (size := 1) w #[] 0 h (by simp [maxLen]) rfl

set_option maxHeartbeats 1000000 in
set_option maxRecDepth 100000 in
theorem sCopy (B n cap : Nat) (a : Option Addr) (W : Int) (l : List Int) (w : World) (hn : n ≤ 1048576) (hc : IntsAt B w a n l) (hB : B ≤ w.heap.size) :
    Calls Tryz.prog 174 #[.agg #[.int .i64 W, .slice a n cap]] w fun e w' => ∃ g cap', e = .returned (.agg #[.int .i64 W, .slice (some ⟨g, 0, none⟩) n cap']) ∧ w'.ownsRow w.heap.size 3 1 (.slice (some ⟨g, 0, none⟩) n cap') n (iv l) ∧ Below w.heap.size w w' := by
  have H := Lib.hid hc
  clear hc
  go_enter Tryz.func174, Tryz.ntmps174
  go_wp2_with fail
  have hbox := (RgAt.new (w := w) W (.slice a n cap) rfl).alloc (.cells #[.int .i64 0, .slice none 0 0] 26)
  have hres := RgAt.new (w := w.alloc (.cells #[.int .i64 W, .slice a n cap] 26)) (N := w.heap.size + 1) 0 (.slice none 0 0) (by simp)
  have hb := ((Below.refl w.heap.size w).alloc (Nat.le_refl _) (.cells #[.int .i64 W, .slice a n cap] 26)).alloc (by simp) (.cells #[.int .i64 0, .slice none 0 0] 26)
  have hsz : ((w.alloc (.cells #[.int .i64 W, .slice a n cap] 26)).alloc (.cells #[.int .i64 0, .slice none 0 0] 26)).heap.size = w.heap.size + 1 + 1 := by simp
  generalize ((w.alloc (.cells #[.int .i64 W, .slice a n cap] 26)).alloc (.cells #[.int .i64 0, .slice none 0 0] 26)) = W1 at *
  have HAT := Lib.hid (H.out.on (hb.mono hB))
  have HB1 := Lib.hid hb
  have c0 := hbox.c0
  have c1 := hbox.c1
  clear hb
  go_region_held3 (fun w' => w'.cell? ⟨w.heap.size, 0, none⟩ = some (.int .i64 W) ∧ w'.cell? ⟨w.heap.size, 1, none⟩ = some (.slice a n cap))
    (first
      | exact ⟨c0, c1⟩
      | exact ⟨hboxN.c0, hboxN.c1⟩
      | exact ⟨(RgAt.far (g' := w.heap.size + 1) (RgAt.far (g' := w.heap.size + 1) hboxN (by omega)) (by omega)).c0, (RgAt.far (g' := w.heap.size + 1) (RgAt.far (g' := w.heap.size + 1) hboxN (by omega)) (by omega)).c1⟩
      | exact ⟨(RgAt.alloc (w := W1.drew) hbox _).c0, (RgAt.alloc (w := W1.drew) hbox _).c1⟩)
    (first
      | (refine step_intsR rfl _ _ rfl (w.heap.size + 1 + 1) (w.heap.size + 1 + 1) 0 0 B [] a n cap l rfl rfl ?a1 ?a2 ?a3 ?a4 ?_
         (case a1 => exact own_lit_i W1 _ _ (by omega) hsz)
         (case a2 => exact HAT.out.on (((Below.refl B W1).alloc (by omega) _).drew))
         (case a3 => omega)
         (case a4 => simp; omega)
         intro g' cap' w' hownN hgrN hgbN
         have hboxN := RgAt.by (w := (W1.alloc (.cells #[] 3)).drew) (r := some (w.heap.size + 1 + 1)) (RgAt.alloc hbox (.cells #[] 3)) hgrN (by intro e; injection e with e; omega)
         have hresN := RgAt.by (w := (W1.alloc (.cells #[] 3)).drew) (r := some (w.heap.size + 1 + 1)) (RgAt.alloc hres (.cells #[] 3)) hgrN (by intro e; injection e with e; omega)
         have r0 := hresN.c0
         have r1 := hresN.c1
         have r2 := hresN.f 0
         have r3 := hresN.f 1))
  all_goals
    have R9 := hresN.set2 W (.slice (some ⟨g', 0, none⟩) n cap')
    have e0 := R9.c0
    have e1 := R9.c1
    rw [Nat.zero_add, List.nil_append] at hownN
    have hbN := (((HB1.out.alloc (by omega) (.cells #[] 3)).drew).grown hgrN (by show _ ≤ (W1.alloc (.cells #[] 3)).heap.size; simp; omega) (fun k hk => by injection hk with hk; omega))
    have HO9 := Lib.hid (own_below (own_far (b := w.heap.size + 1) (o := 1) (u := .slice (some ⟨g', 0, none⟩) n cap') (own_far (b := w.heap.size + 1) (o := 0) (u := .int .i64 W) hownN (by omega)) (by omega)) (show w.heap.size ≤ w.heap.size + 1 + 1 by omega))
    have HB9 := Lib.hid ((hbN.setCell (p := ⟨w.heap.size + 1, 0, none⟩) (by show w.heap.size ≤ w.heap.size + 1; omega) (.int .i64 W)).setCell (p := ⟨w.heap.size + 1, 1, none⟩) (by show w.heap.size ≤ w.heap.size + 1; omega) (.slice (some ⟨g', 0, none⟩) n cap'))
    generalize ((w'.setCell ⟨w.heap.size + 1, 0, none⟩ (.int .i64 W)).setCell ⟨w.heap.size + 1, 1, none⟩ (.slice (some ⟨g', 0, none⟩) n cap')) = w9 at *
    simp only [Exit.then]
    go_wp2
    exact bodyPost_ret (v := .agg #[.int .i64 W, .slice (some ⟨g', 0, none⟩) n cap']) (by simp [results, Tryz.results174, go_sem, e0, e1]) rfl ⟨_, _, rfl, HO9.out, HB9.out⟩

theorem run_make_i (w : World) (base n : Nat) (hn : n ≤ 1048577) (hb : base ≤ w.heap.size) :
    ∃ w', (Instr.makeSlice 24 (.int .i64 n) (.int .i64 n)).run Tryz.prog w = .ok (.slice (some ⟨w.heap.size, 0, none⟩) n n) w' ∧ w'.ownsRow base 3 1 (.slice (some ⟨w.heap.size, 0, none⟩) n n) n (iv (zerosR n)) ∧ w.grownBy w' none := by
  obtain ⟨i0, hi, hz0, hz1, hz2⟩ := info_parts info_int
  obtain ⟨w', hrun, r1, r2⟩ := run_make_full (P := Tryz.prog) w base 24 3 i0 (.int .i64 0) 1 Tryz.underlying24 hi hz0 hz1 .i64 .i64 n (by rw [hz2]; omega) (by unfold maxLen; omega) hb
  have e : (madeCells (Value.int IntKind.i64 0).cells (n * 1)).toList = iv (zerosR n) := by rw [Nat.mul_one]; exact made_ints n
  rw [e] at r1
  exact ⟨w', hrun, r1, r2⟩


theorem RgAt.row {w : World} {g k : Nat} {W : Int} {v : Value} {cs : Array Value} (h : RgAt w k W v) (hne : k ≠ g) : RgAt (w.setRow g cs) k W v := (setRow_other w g k cs hne).trans h
theorem own_row {w : World} {g base n : Nat} {l : List Int} {cur : Array Value} (hl : l.length = n) (hg : w.heap[g]? = some (.cells cur 3 (0, 0))) (hb : base ≤ g) (hn : n ≤ maxLen) :
    (w.setRow g (iv l).toArray).ownsRow base 3 1 (.slice (some ⟨g, 0, none⟩) n n) n (iv l) :=
  ⟨by rw [iv_length, hl, Nat.mul_one], .inr ⟨g, n, (iv l).toArray, rfl, hb, setRow_heap w g cur _ 3 _ hg, Nat.le_refl _, hn, by simp [iv_length, hl], by rw [Nat.mul_one]; exact List.take_of_length_le (by simp [iv_length, hl])⟩⟩
end

section
open Go.RowKit

/-- Where values begin in memory at ad, cell for cell. -/
def LiesV (w : World) (ad : Addr) (l : List Value) : Prop := ∀ j u, l[j]? = some u → w.cell? (ad.add j) = some u
theorem liesV_block {w : World} {b : Nat} {l : List Value} {t : TypeId} {fr : Nat × Nat} (h : w.heap[b]? = some (.cells l.toArray t fr)) : LiesV w ⟨b, 0, none⟩ l := World.news_of_block (cs := l.toArray) h

theorem shps_info : (Tryz.prog.info? 76).map (fun i => (i.zero, i.size, i.bytes)) = some (some (.slice none 0 0), 1, 24) := by kernel_rfl
theorem shps_size : ∃ i, Tryz.prog.info? 76 = some i ∧ i.zero = some (.slice none 0 0) ∧ i.size = 1 ∧ i.bytes = 24 := by
  obtain ⟨i0, hi, hz0, hz1, hz2⟩ := info_parts shps_info
  exact ⟨i0, hi, hz0, hz1, hz2⟩
theorem append_shps (base g n cap : Nat) (xs : List Value) (ad : Addr) (m c : Nat) (ys : List Value) (w : World)
    (hown : w.ownsRow base 76 1 (.slice (some ⟨g, 0, none⟩) n cap) n xs) (hl : ys.length = m) (hnews : LiesV w ad ys) (hone : ∀ u ∈ ys, u.oneCell' = true) (h63 : n + m ≤ 8388608) (hbase : base ≤ w.heap.size) (ty : TypeId) (H : Nat) (hH : w.heap.size = H) :
    ∃ g' cap' w', (Builtin.append_ #[27, 27] ty #[.slice (some ⟨g, 0, none⟩) n cap, .slice (some ad) m c]).run Tryz.prog w = .ok (.slice (some ⟨g', 0, none⟩) (n + m) cap') w' ∧
      w'.ownsRow base 76 1 (.slice (some ⟨g', 0, none⟩) (n + m) cap') (n + m) (xs ++ ys) ∧ w.grownBy w' (some g) ∧ (g' = g ∨ g' = H) ∧ base ≤ g' ∧ g' < w'.heap.size := by
  obtain ⟨i, hi, hz, hs, hby⟩ := shps_size
  obtain ⟨v', w', hr, h2, h3, h4, h5⟩ := run_append_own_at (P := Tryz.prog) w base 27 ty 76 i _ 1 24 Tryz.underlying27 hi hz hs hby rfl (by omega) _ n xs hown ad m c ys (by omega) hnews hone (by unfold maxLen; omega) (by omega) hbase
  rcases h2.2 with ⟨rfl, _⟩ | ⟨g', cap', cur, rfl, hb, hg, _⟩
  · exact absurd (h4.1 rfl).1 (by intro e; cases e)
  · refine ⟨g', cap', w', hr, h2, h3, ?_, hb, (Array.getElem?_eq_some_iff.1 hg).1⟩
    rcases h5 with h5 | h5
    · exact .inl (by simpa [Value.ownBlock] using h5)
    · exact .inr (by rw [← hH]; simpa [Value.ownBlock] using h5)
theorem wp_shps {o : Oper} {a : Act} {w : World} {K : Act → World → Prop} {Q : Exit → Act → World → Prop} (s x : Operand)
    (ho : o.op = .call { callee := .builtin .append, args := #[s, x], argTypes := #[27, 27] })
    (base g n cap : Nat) (xs : List Value) (ad : Addr) (m c : Nat) (ys : List Value) (hs : a.eval s = .slice (some ⟨g, 0, none⟩) n cap) (hx : a.eval x = .slice (some ad) m c)
    (hown : w.ownsRow base 76 1 (.slice (some ⟨g, 0, none⟩) n cap) n xs) (hl : ys.length = m) (hnews : LiesV w ad ys) (hone : ∀ u ∈ ys, u.oneCell' = true) (h63 : n + m ≤ 8388608) (hbase : base ≤ w.heap.size) (H : Nat) (hH : w.heap.size = H)
    (h : ∀ g' cap' w', w'.ownsRow base 76 1 (.slice (some ⟨g', 0, none⟩) (n + m) cap') (n + m) (xs ++ ys) → w.grownBy w' (some g) → (g' = g ∨ g' = H) → base ≤ g' → g' < w'.heap.size → K (a.put o.dst (.slice (some ⟨g', 0, none⟩) (n + m) cap')) w') : o.wp Tryz.prog a w K Q := by
  obtain ⟨g', cap', w', hr, h2, h3, h4, h5, h6⟩ := append_shps base g n cap xs ad m c ys w hown hl hnews hone h63 hbase o.type H hH
  unfold Oper.wp execOp
  simp only [ho, resolve, invoke, builtin, Sem.run_bind, Sem.run_pure, Result.andThen_ok, List.map_toArray, List.map_cons, List.map_nil, hs, hx, hr]
  exact h g' cap' w' h2 h3 h4 h5 h6
theorem wpList_shps {ops : Array Oper} {rest : List Oper} {o : Oper} {a : Act} {w : World} {Q : Exit → Act → World → Prop} (hgd : o.guard = none) (s x : Operand)
    (ho : o.op = .call { callee := .builtin .append, args := #[s, x], argTypes := #[27, 27] })
    (base g n cap : Nat) (xs : List Value) (ad : Addr) (m c : Nat) (ys : List Value) (hs : a.eval s = .slice (some ⟨g, 0, none⟩) n cap) (hx : a.eval x = .slice (some ad) m c)
    (hown : w.ownsRow base 76 1 (.slice (some ⟨g, 0, none⟩) n cap) n xs) (hl : ys.length = m) (hnews : LiesV w ad ys) (hone : ∀ u ∈ ys, u.oneCell' = true) (h63 : n + m ≤ 8388608) (hbase : base ≤ w.heap.size) (H : Nat) (hH : w.heap.size = H)
    (h : ∀ g' cap' w', w'.ownsRow base 76 1 (.slice (some ⟨g', 0, none⟩) (n + m) cap') (n + m) (xs ++ ys) → w.grownBy w' (some g) → (g' = g ∨ g' = H) → base ≤ g' → g' < w'.heap.size → wpList Tryz.prog ops Q rest (a.put o.dst (.slice (some ⟨g', 0, none⟩) (n + m) cap')) w') : wpList Tryz.prog ops Q (o :: rest) a w :=
  wpList_plain hgd fun _ hK => wp_shps s x ho base g n cap xs ad m c ys hs hx hown hl hnews hone h63 hbase H hH fun g' cap' w' h2 h3 h4 h5 h6 => hK _ _ (h g' cap' w' h2 h3 h4 h5 h6)
theorem step_shps {ops : Array Oper} {o : Oper} {a : Act} {w : World} {K : Act → World → Prop} {Q : Exit → Act → World → Prop} {E : Prop} (hgd : o.guard = none) (s x : Operand)
    (ho : o.op = .call { callee := .builtin .append, args := #[s, x], argTypes := #[27, 27] })
    (base g n cap : Nat) (xs : List Value) (ad : Addr) (m c : Nat) (ys : List Value) (hs : a.eval s = .slice (some ⟨g, 0, none⟩) n cap) (hx : a.eval x = .slice (some ad) m c)
    (hown : w.ownsRow base 76 1 (.slice (some ⟨g, 0, none⟩) n cap) n xs) (hl : ys.length = m) (hnews : LiesV w ad ys) (hone : ∀ u ∈ ys, u.oneCell' = true) (h63 : n + m ≤ 8388608) (hbase : base ≤ w.heap.size) (H : Nat) (hH : w.heap.size = H)
    (h : ∀ g' cap' w', w'.ownsRow base 76 1 (.slice (some ⟨g', 0, none⟩) (n + m) cap') (n + m) (xs ++ ys) → w.grownBy w' (some g) → (g' = g ∨ g' = H) → base ≤ g' → g' < w'.heap.size → K (a.put o.dst (.slice (some ⟨g', 0, none⟩) (n + m) cap')) w') :
    if Region.wanted o (yielded ops a.tmps) = true then Oper.wp Tryz.prog o a w K Q else E := by
  have hw : Region.wanted o (yielded ops a.tmps) = true := by simp [Region.wanted, hgd]
  rw [if_pos hw]
  exact wp_shps s x ho base g n cap xs ad m c ys hs hx hown hl hnews hone h63 hbase H hH h

theorem ints_info : (Tryz.prog.info? 3).map (fun i => (i.zero, i.size, i.bytes)) = some (some (.int .i64 0), 1, 8) := by kernel_rfl
theorem ints_size : ∃ i, Tryz.prog.info? 3 = some i ∧ i.zero = some (.int .i64 0) ∧ i.size = 1 ∧ i.bytes = 8 := by
  obtain ⟨i0, hi, hz0, hz1, hz2⟩ := info_parts ints_info
  exact ⟨i0, hi, hz0, hz1, hz2⟩
theorem append_ints (base g n cap : Nat) (xs : List Value) (ad : Addr) (m c : Nat) (ys : List Value) (w : World)
    (hown : w.ownsRow base 3 1 (.slice (some ⟨g, 0, none⟩) n cap) n xs) (hl : ys.length = m) (hnews : LiesV w ad ys) (hone : ∀ u ∈ ys, u.oneCell' = true) (h63 : n + m ≤ 8388608) (hbase : base ≤ w.heap.size) (ty : TypeId) (H : Nat) (hH : w.heap.size = H) :
    ∃ g' cap' w', (Builtin.append_ #[24, 24] ty #[.slice (some ⟨g, 0, none⟩) n cap, .slice (some ad) m c]).run Tryz.prog w = .ok (.slice (some ⟨g', 0, none⟩) (n + m) cap') w' ∧
      w'.ownsRow base 3 1 (.slice (some ⟨g', 0, none⟩) (n + m) cap') (n + m) (xs ++ ys) ∧ w.grownBy w' (some g) ∧ (g' = g ∨ g' = H) ∧ base ≤ g' ∧ g' < w'.heap.size := by
  obtain ⟨i, hi, hz, hs, hby⟩ := ints_size
  obtain ⟨v', w', hr, h2, h3, h4, h5⟩ := run_append_own_at (P := Tryz.prog) w base 24 ty 3 i _ 1 8 Tryz.underlying24 hi hz hs hby rfl (by omega) _ n xs hown ad m c ys (by omega) hnews hone (by unfold maxLen; omega) (by omega) hbase
  rcases h2.2 with ⟨rfl, _⟩ | ⟨g', cap', cur, rfl, hb, hg, _⟩
  · exact absurd (h4.1 rfl).1 (by intro e; cases e)
  · refine ⟨g', cap', w', hr, h2, h3, ?_, hb, (Array.getElem?_eq_some_iff.1 hg).1⟩
    rcases h5 with h5 | h5
    · exact .inl (by simpa [Value.ownBlock] using h5)
    · exact .inr (by rw [← hH]; simpa [Value.ownBlock] using h5)
theorem wp_ints {o : Oper} {a : Act} {w : World} {K : Act → World → Prop} {Q : Exit → Act → World → Prop} (s x : Operand)
    (ho : o.op = .call { callee := .builtin .append, args := #[s, x], argTypes := #[24, 24] })
    (base g n cap : Nat) (xs : List Value) (ad : Addr) (m c : Nat) (ys : List Value) (hs : a.eval s = .slice (some ⟨g, 0, none⟩) n cap) (hx : a.eval x = .slice (some ad) m c)
    (hown : w.ownsRow base 3 1 (.slice (some ⟨g, 0, none⟩) n cap) n xs) (hl : ys.length = m) (hnews : LiesV w ad ys) (hone : ∀ u ∈ ys, u.oneCell' = true) (h63 : n + m ≤ 8388608) (hbase : base ≤ w.heap.size) (H : Nat) (hH : w.heap.size = H)
    (h : ∀ g' cap' w', w'.ownsRow base 3 1 (.slice (some ⟨g', 0, none⟩) (n + m) cap') (n + m) (xs ++ ys) → w.grownBy w' (some g) → (g' = g ∨ g' = H) → base ≤ g' → g' < w'.heap.size → K (a.put o.dst (.slice (some ⟨g', 0, none⟩) (n + m) cap')) w') : o.wp Tryz.prog a w K Q := by
  obtain ⟨g', cap', w', hr, h2, h3, h4, h5, h6⟩ := append_ints base g n cap xs ad m c ys w hown hl hnews hone h63 hbase o.type H hH
  unfold Oper.wp execOp
  simp only [ho, resolve, invoke, builtin, Sem.run_bind, Sem.run_pure, Result.andThen_ok, List.map_toArray, List.map_cons, List.map_nil, hs, hx, hr]
  exact h g' cap' w' h2 h3 h4 h5 h6
theorem wpList_ints {ops : Array Oper} {rest : List Oper} {o : Oper} {a : Act} {w : World} {Q : Exit → Act → World → Prop} (hgd : o.guard = none) (s x : Operand)
    (ho : o.op = .call { callee := .builtin .append, args := #[s, x], argTypes := #[24, 24] })
    (base g n cap : Nat) (xs : List Value) (ad : Addr) (m c : Nat) (ys : List Value) (hs : a.eval s = .slice (some ⟨g, 0, none⟩) n cap) (hx : a.eval x = .slice (some ad) m c)
    (hown : w.ownsRow base 3 1 (.slice (some ⟨g, 0, none⟩) n cap) n xs) (hl : ys.length = m) (hnews : LiesV w ad ys) (hone : ∀ u ∈ ys, u.oneCell' = true) (h63 : n + m ≤ 8388608) (hbase : base ≤ w.heap.size) (H : Nat) (hH : w.heap.size = H)
    (h : ∀ g' cap' w', w'.ownsRow base 3 1 (.slice (some ⟨g', 0, none⟩) (n + m) cap') (n + m) (xs ++ ys) → w.grownBy w' (some g) → (g' = g ∨ g' = H) → base ≤ g' → g' < w'.heap.size → wpList Tryz.prog ops Q rest (a.put o.dst (.slice (some ⟨g', 0, none⟩) (n + m) cap')) w') : wpList Tryz.prog ops Q (o :: rest) a w :=
  wpList_plain hgd fun _ hK => wp_ints s x ho base g n cap xs ad m c ys hs hx hown hl hnews hone h63 hbase H hH fun g' cap' w' h2 h3 h4 h5 h6 => hK _ _ (h g' cap' w' h2 h3 h4 h5 h6)
theorem step_ints {ops : Array Oper} {o : Oper} {a : Act} {w : World} {K : Act → World → Prop} {Q : Exit → Act → World → Prop} {E : Prop} (hgd : o.guard = none) (s x : Operand)
    (ho : o.op = .call { callee := .builtin .append, args := #[s, x], argTypes := #[24, 24] })
    (base g n cap : Nat) (xs : List Value) (ad : Addr) (m c : Nat) (ys : List Value) (hs : a.eval s = .slice (some ⟨g, 0, none⟩) n cap) (hx : a.eval x = .slice (some ad) m c)
    (hown : w.ownsRow base 3 1 (.slice (some ⟨g, 0, none⟩) n cap) n xs) (hl : ys.length = m) (hnews : LiesV w ad ys) (hone : ∀ u ∈ ys, u.oneCell' = true) (h63 : n + m ≤ 8388608) (hbase : base ≤ w.heap.size) (H : Nat) (hH : w.heap.size = H)
    (h : ∀ g' cap' w', w'.ownsRow base 3 1 (.slice (some ⟨g', 0, none⟩) (n + m) cap') (n + m) (xs ++ ys) → w.grownBy w' (some g) → (g' = g ∨ g' = H) → base ≤ g' → g' < w'.heap.size → K (a.put o.dst (.slice (some ⟨g', 0, none⟩) (n + m) cap')) w') :
    if Region.wanted o (yielded ops a.tmps) = true then Oper.wp Tryz.prog o a w K Q else E := by
  have hw : Region.wanted o (yielded ops a.tmps) = true := by simp [Region.wanted, hgd]
  rw [if_pos hw]
  exact wp_ints s x ho base g n cap xs ad m c ys hs hx hown hl hnews hone h63 hbase H hH h
end

end Go.Proofs.YtkcclhnligajeaaGreatDoor
