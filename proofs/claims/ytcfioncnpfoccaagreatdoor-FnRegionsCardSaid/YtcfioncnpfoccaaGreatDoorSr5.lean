/-
  An empty region, a cell set and taken away, a region copied: in the program and in the model: what each call gives.
-/
import Derived.Test.YtcfioncnpfoccaaGreatDoorSr1
import Derived.Test.YtcfioncnpfoccaaGreatDoorPr2
import Derived.Test.YtcfioncnpfoccaaGreatDoorCap
import Derived.Laws.CopyOwn
import Derived.Laws.AppendOwnNone
namespace Go.Proofs.YtcfioncnpfoccaaGreatDoor
open Go.RowKit

/-! ### Appending numbers -/
set_option maxRecDepth 100000 in
theorem append_ints (base g n cap B : Nat) (xs : List Int) (a : Option Addr) (m c : Nat) (ys : List Int) (w : World)
    (hown : w.ownsRow base 3 1 (.slice (some ⟨g, 0, none⟩) n cap) n (iv xs)) (hs : IntsAt B w a m ys) (h63 : n + m ≤ 8388608) (hbase : base ≤ w.heap.size) (ty : TypeId) :
    ∃ g' cap' w', (Builtin.append_ #[24, 24] ty #[.slice (some ⟨g, 0, none⟩) n cap, .slice a m c]).run Tryz.prog w = .ok (.slice (some ⟨g', 0, none⟩) (n + m) cap') w' ∧
      w'.ownsRow base 3 1 (.slice (some ⟨g', 0, none⟩) (n + m) cap') (n + m) (iv (xs ++ ys)) ∧ w.grownBy w' (some g) ∧ base ≤ g' := by
  obtain ⟨i, hi, hz0, hz1, hz2⟩ := info_parts info_int
  have hcase : (a = none ∧ m = 0) ∨ ∃ ad, a = some ad ∧ ∀ j u, (iv ys)[j]? = some u → w.cell? (ad.add j) = some u := by
    cases a with
    | none => exact .inl ⟨rfl, by
        by_cases h0 : 0 < m
        · obtain ⟨_, _, e, _⟩ := hs.2.2 h0
          cases e
        · omega⟩
    | some ad =>
      refine .inr ⟨ad, rfl, fun j u hj => ?_⟩
      have hjl : j < m := by
        have := (List.getElem?_eq_some_iff.1 hj).1
        rw [iv_length, hs.1] at this
        exact this
      obtain ⟨b, off, e, _, hc⟩ := hs.2.2 (by omega)
      injection e with e
      subst e
      rw [add_at, hc j hjl, ← hj, iv_get _ _ (by rw [hs.1]; exact hjl)]
  rcases hcase with ⟨rfl, rfl⟩ | ⟨ad, rfl, hsrc⟩
  · have hy : ys = [] := List.eq_nil_of_length_eq_zero hs.1
    subst hy
    obtain ⟨g1, cap1, cur, e, hb, _, hnc, _⟩ := hown.2.resolve_left (by rintro ⟨e, _⟩; cases e)
    injection e with e1 e2 e3
    injection e1 with e1
    injection e1 with e1
    subst e1 e3
    refine ⟨g, cap, w, ?_, by simpa using hown, World.grownBy.refl _ _, hb⟩
    simp [Builtin.append_, run_underlying Tryz.underlying24, sizeOf, typeInfo, hi, Builtin.lenOf, Builtin.firstCells, hnc, storeCells]
  · obtain ⟨v', w', hr, h2, h3, h4, _⟩ := run_append_own_at (P := Tryz.prog) w base 24 ty 3 i _ 1 8 Tryz.underlying24 hi hz0 hz1 hz2 rfl (by omega) _ n (iv xs) hown ad m c (iv ys) (by rw [iv_length, hs.1]; omega) hsrc (iv_one _) (by unfold maxLen; omega) (by omega) hbase
    rw [show iv xs ++ iv ys = iv (xs ++ ys) from by simp [iv]] at h2
    rcases h2.2 with ⟨rfl, _⟩ | ⟨g', cap', cur, rfl, hb, hg, _⟩
    · exact absurd (h4.1 rfl).1 (by intro e; cases e)
    · exact ⟨g', cap', w', hr, h2, h3, hb⟩
theorem wp_ints {o : Oper} {a : Act} {w : World} {K : Act → World → Prop} {Q : Exit → Act → World → Prop} (s x : Operand)
    (ho : o.op = .call { callee := .builtin .append, args := #[s, x], argTypes := #[24, 24] })
    (base g n cap B : Nat) (xs : List Int) (ad : Option Addr) (m c : Nat) (ys : List Int) (hs : a.eval s = .slice (some ⟨g, 0, none⟩) n cap) (hx : a.eval x = .slice ad m c)
    (hown : w.ownsRow base 3 1 (.slice (some ⟨g, 0, none⟩) n cap) n (iv xs)) (hsrc : IntsAt B w ad m ys) (h63 : n + m ≤ 8388608) (hbase : base ≤ w.heap.size)
    (h : ∀ g' cap' w', w'.ownsRow base 3 1 (.slice (some ⟨g', 0, none⟩) (n + m) cap') (n + m) (iv (xs ++ ys)) → w.grownBy w' (some g) → base ≤ g' → K (a.put o.dst (.slice (some ⟨g', 0, none⟩) (n + m) cap')) w') : o.wp Tryz.prog a w K Q := by
  obtain ⟨g', cap', w', hr, h2, h3, h4⟩ := append_ints base g n cap B xs ad m c ys w hown hsrc h63 hbase o.type
  unfold Oper.wp execOp
  simp only [ho, resolve, invoke, builtin, Sem.run_bind, Sem.run_pure, Result.andThen_ok, List.map_toArray, List.map_cons, List.map_nil, hs, hx, hr]
  exact h g' cap' w' h2 h3 h4
theorem step_ints {ops : Array Oper} {o : Oper} {a : Act} {w : World} {K : Act → World → Prop} {Q : Exit → Act → World → Prop} {E : Prop} (hgd : o.guard = none) (s x : Operand)
    (ho : o.op = .call { callee := .builtin .append, args := #[s, x], argTypes := #[24, 24] })
    (base g n cap B : Nat) (xs : List Int) (ad : Option Addr) (m c : Nat) (ys : List Int) (hs : a.eval s = .slice (some ⟨g, 0, none⟩) n cap) (hx : a.eval x = .slice ad m c)
    (hown : w.ownsRow base 3 1 (.slice (some ⟨g, 0, none⟩) n cap) n (iv xs)) (hsrc : IntsAt B w ad m ys) (h63 : n + m ≤ 8388608) (hbase : base ≤ w.heap.size)
    (h : ∀ g' cap' w', w'.ownsRow base 3 1 (.slice (some ⟨g', 0, none⟩) (n + m) cap') (n + m) (iv (xs ++ ys)) → w.grownBy w' (some g) → base ≤ g' → K (a.put o.dst (.slice (some ⟨g', 0, none⟩) (n + m) cap')) w') :
    if Region.wanted o (yielded ops a.tmps) = true then Oper.wp Tryz.prog o a w K Q else E := by
  have hw : Region.wanted o (yielded ops a.tmps) = true := by simp [Region.wanted, hgd]
  rw [if_pos hw]
  exact wp_ints s x ho base g n cap B xs ad m c ys hs hx hown hsrc h63 hbase h

/-! ### One cell set, one taken away -/
def shV (x : Nat) : Int := wrap64 ((2 : Int) ^ min x 64)
theorem shV_in {x : Nat} (h : x ≤ 41) : shV x = ((2 ^ x : Nat) : Int) := by
  unfold shV
  rw [show min x 64 = x by omega, pw64 x h]
  simp
set_option maxHeartbeats 1000000 in
set_option maxRecDepth 100000 in
theorem iSetC (g j x : Nat) (z : Int) (w : World) (hc : w.cell? ⟨g, j, none⟩ = some (.int .i64 z)) (hf : w.frozen? ⟨g, j, none⟩ = false) :
    Calls Tryz.prog 44 #[.pointer (some ⟨g, j, none⟩), .int .i64 x] w fun e w' => e = .returned (.tuple #[]) ∧ ∃ q, w' = (w.setCell ⟨g, j, none⟩ (.int .i64 (bits .or .i64 z (shV x)))).drewN q := by
  unfold shV
  go_enter Tryz.func44, Tryz.ntmps44
  go_wp2_with fail
  go_region
  go_end0
  exact ⟨rfl, 1, rfl⟩
set_option maxHeartbeats 1000000 in
set_option maxRecDepth 100000 in
theorem iUnsC (g j x : Nat) (z : Int) (w : World) (hc : w.cell? ⟨g, j, none⟩ = some (.int .i64 z)) (hf : w.frozen? ⟨g, j, none⟩ = false) :
    Calls Tryz.prog 60 #[.pointer (some ⟨g, j, none⟩), .int .i64 x] w fun e w' => e = .returned (.tuple #[]) ∧ ∃ q, w' = (w.setCell ⟨g, j, none⟩ (.int .i64 (bits .andNot .i64 z (shV x)))).drewN q := by
  unfold shV
  go_enter Tryz.func60, Tryz.ntmps60
  go_wp2_with fail
  go_region
  go_end0
  exact ⟨rfl, 1, rfl⟩
theorem or_val {n x : Nat} (hn : n < 64) (hx : x < 6) : bits .or .i64 (n : Int) (shV x) = ((n ||| 2 ^ x : Nat) : Int) := by
  rw [shV_in (by omega)]
  have : 2 ^ x ≤ 2 ^ 6 := Nat.pow_le_pow_right (by omega) (by omega)
  exact i64_or_nat _ _ (by omega) (by omega)
theorem andNot_all : ∀ n, n < 64 → ∀ x, x < 6 → bits .andNot .i64 ((n : Nat) : Int) ((2 ^ x : Nat) : Int) = ((clrN n x : Nat) : Int) := by decide +kernel
theorem andNot_val {n x : Nat} (hn : n < 64) (hx : x < 6) : bits .andNot .i64 (n : Int) (shV x) = ((clrN n x : Nat) : Int) := by
  rw [shV_in (by omega)]
  exact andNot_all n hn x hx

set_option maxHeartbeats 1000000 in
set_option maxRecDepth 100000 in
theorem iEmpty (W : Int) (h : Nat) (w : World) (hh : h ≤ 1048577) :
    Calls Tryz.prog 43 #[.int .i64 W, .int .i64 h] w fun e w' => ∃ g, e = .returned (.agg #[.int .i64 W, .slice (some ⟨g, 0, none⟩) h h]) ∧ w'.ownsRow w.heap.size 3 1 (.slice (some ⟨g, 0, none⟩) h h) h (iv (zerosR h)) ∧ Below w.heap.size w w' := by
  obtain ⟨i0, hi, hz0, hz1, hz2⟩ := info_parts info_int
  go_enter Tryz.func43, Tryz.ntmps43
  go_wp2_with (first | (at_make; refine wpList_make_full _ rfl _ _ 24 rfl (w.heap.size + 1) 3 i0 (.int .i64 0) 1 Tryz.underlying24 hi hz0 hz1 _ _ _ _ h rfl rfl rfl rfl ?b2 ?b3 ?b4 ?_) | go_in)
  case b2 => rw [hz2]; omega
  case b3 => unfold maxLen; omega
  case b4 => simp
  intro w0 hown0 hgrow0
  rw [made_ints h] at hown0
  have hr0 := (RgAt.new (w := w) 0 (.slice none 0 0) rfl).by hgrow0 (by intro e; cases e)
  have hb0 := ((Below.refl w.heap.size w).alloc (Nat.le_refl _) (.cells #[.int .i64 0, .slice none 0 0] 26)).grown hgrow0 (by simp) (fun k h => by cases h)
  have c0 := hr0.c0
  have c1 := hr0.c1
  have f0 := hr0.f 0
  have f1 := hr0.f 1
  have HO := Lib.hid hown0
  have HR := Lib.hid hr0
  have HB := Lib.hid hb0
  clear hown0 hgrow0 hr0 hb0
  go_wp2
  have R9 := HR.out.set2 W (.slice (some ⟨w.heap.size + 1, 0, none⟩) h h)
  have e0 := R9.c0
  have e1 := R9.c1
  have HO9 := Lib.hid (own_below (own_far (b := w.heap.size) (o := 1) (u := .slice (some ⟨w.heap.size + 1, 0, none⟩) h h) (own_far (b := w.heap.size) (o := 0) (u := .int .i64 W) HO.out (by omega)) (by omega)) (show w.heap.size ≤ w.heap.size + 1 by omega))
  have HB9 := Lib.hid ((HB.out.setCell (p := ⟨w.heap.size, 0, none⟩) (Nat.le_refl _) (.int .i64 W)).setCell (p := ⟨w.heap.size, 1, none⟩) (Nat.le_refl _) (.slice (some ⟨w.heap.size + 1, 0, none⟩) h h))
  generalize ((w0.setCell ⟨w.heap.size, 0, none⟩ (.int .i64 W)).setCell ⟨w.heap.size, 1, none⟩ (.slice (some ⟨w.heap.size + 1, 0, none⟩) h h)) = w9 at *
  exact bodyPost_ret (v := .agg #[.int .i64 W, .slice (some ⟨w.heap.size + 1, 0, none⟩) h h]) (by simp [results, Tryz.results43, go_sem, e0, e1]) rfl ⟨_, rfl, HO9.out, HB9.out⟩

theorem own_lit_i (w : World) (B g : Nat) (h : B ≤ w.heap.size) (hg : w.heap.size = g) : (w.alloc (.cells #[] 3)).ownsRow B 3 1 (.slice (some ⟨g, 0, none⟩) 0 0) 0 (iv []) := by
  subst hg
  simpa [iv] using World.ownsRow_lit (base := B) (e := 3) (size := 1) w #[] 0 h (by simp [maxLen]) rfl

set_option maxHeartbeats 1000000 in
set_option maxRecDepth 100000 in
theorem sCopy (B n cap : Nat) (a : Option Addr) (W : Int) (l : List Int) (w : World) (hn : n ≤ 1048576) (hc : IntsAt B w a n l) (hB : B ≤ w.heap.size) :
    Calls Tryz.prog 61 #[.agg #[.int .i64 W, .slice a n cap]] w fun e w' => ∃ g cap', e = .returned (.agg #[.int .i64 W, .slice (some ⟨g, 0, none⟩) n cap']) ∧ w'.ownsRow w.heap.size 3 1 (.slice (some ⟨g, 0, none⟩) n cap') n (iv l) ∧ Below w.heap.size w w' := by
  have H := Lib.hid hc
  clear hc
  go_enter Tryz.func61, Tryz.ntmps61
  go_wp2_with fail
  have hbox := (RgAt.new (w := w) W (.slice a n cap) rfl).alloc (.cells #[.int .i64 0, .slice none 0 0] 26)
  have hres := RgAt.new (w := w.alloc (.cells #[.int .i64 W, .slice a n cap] 26)) (N := w.heap.size + 1) 0 (.slice none 0 0) (by simp)
  have hb := ((Below.refl w.heap.size w).alloc (Nat.le_refl _) (.cells #[.int .i64 W, .slice a n cap] 26)).alloc (by simp) (.cells #[.int .i64 0, .slice none 0 0] 26)
  have hsz : ((w.alloc (.cells #[.int .i64 W, .slice a n cap] 26)).alloc (.cells #[.int .i64 0, .slice none 0 0] 26)).heap.size = w.heap.size + 1 + 1 := by simp
  generalize ((w.alloc (.cells #[.int .i64 W, .slice a n cap] 26)).alloc (.cells #[.int .i64 0, .slice none 0 0] 26)) = W1 at *
  have HAT := Lib.hid (H.out.on (hb.mono hB))
  have HB1 := Lib.hid hb
  have c0 := hbox.c0
  have c1 := hbox.c1
  clear hb
  go_region_held3 (fun w' => w'.cell? ⟨w.heap.size, 0, none⟩ = some (.int .i64 W) ∧ w'.cell? ⟨w.heap.size, 1, none⟩ = some (.slice a n cap))
    (first
      | exact ⟨c0, c1⟩
      | exact ⟨hboxN.c0, hboxN.c1⟩
      | exact ⟨(RgAt.far (g' := w.heap.size + 1) (RgAt.far (g' := w.heap.size + 1) hboxN (by omega)) (by omega)).c0, (RgAt.far (g' := w.heap.size + 1) (RgAt.far (g' := w.heap.size + 1) hboxN (by omega)) (by omega)).c1⟩
      | exact ⟨(RgAt.alloc (w := W1.drew) hbox _).c0, (RgAt.alloc (w := W1.drew) hbox _).c1⟩)
    (first
      | (refine step_ints rfl _ _ rfl (w.heap.size + 1 + 1) (w.heap.size + 1 + 1) 0 0 B [] a n cap l rfl rfl ?a1 ?a2 ?a3 ?a4 ?_
         (case a1 => exact own_lit_i W1 _ _ (by omega) hsz)
         (case a2 => exact HAT.out.on (((Below.refl B W1).alloc (by omega) _).drew))
         (case a3 => omega)
         (case a4 => simp; omega)
         intro g' cap' w' hownN hgrN hgbN
         have hboxN := RgAt.by (w := (W1.alloc (.cells #[] 3)).drew) (r := some (w.heap.size + 1 + 1)) (RgAt.alloc hbox (.cells #[] 3)) hgrN (by intro e; injection e with e; omega)
         have hresN := RgAt.by (w := (W1.alloc (.cells #[] 3)).drew) (r := some (w.heap.size + 1 + 1)) (RgAt.alloc hres (.cells #[] 3)) hgrN (by intro e; injection e with e; omega)
         have r0 := hresN.c0
         have r1 := hresN.c1
         have r2 := hresN.f 0
         have r3 := hresN.f 1))
  all_goals
    have R9 := hresN.set2 W (.slice (some ⟨g', 0, none⟩) n cap')
    have e0 := R9.c0
    have e1 := R9.c1
    rw [Nat.zero_add, List.nil_append] at hownN
    have hbN := (((HB1.out.alloc (by omega) (.cells #[] 3)).drew).grown hgrN (by show _ ≤ (W1.alloc (.cells #[] 3)).heap.size; simp; omega) (fun k hk => by injection hk with hk; omega))
    have HO9 := Lib.hid (own_below (own_far (b := w.heap.size + 1) (o := 1) (u := .slice (some ⟨g', 0, none⟩) n cap') (own_far (b := w.heap.size + 1) (o := 0) (u := .int .i64 W) hownN (by omega)) (by omega)) (show w.heap.size ≤ w.heap.size + 1 + 1 by omega))
    have HB9 := Lib.hid ((hbN.setCell (p := ⟨w.heap.size + 1, 0, none⟩) (by show w.heap.size ≤ w.heap.size + 1; omega) (.int .i64 W)).setCell (p := ⟨w.heap.size + 1, 1, none⟩) (by show w.heap.size ≤ w.heap.size + 1; omega) (.slice (some ⟨g', 0, none⟩) n cap'))
    generalize ((w'.setCell ⟨w.heap.size + 1, 0, none⟩ (.int .i64 W)).setCell ⟨w.heap.size + 1, 1, none⟩ (.slice (some ⟨g', 0, none⟩) n cap')) = w9 at *
    simp only [Exit.then]
    go_wp2
    exact bodyPost_ret (v := .agg #[.int .i64 W, .slice (some ⟨g', 0, none⟩) n cap']) (by simp [results, Tryz.results61, go_sem, e0, e1]) rfl ⟨_, _, rfl, HO9.out, HB9.out⟩

theorem run_make_i (w : World) (base n : Nat) (hn : n ≤ 1048577) (hb : base ≤ w.heap.size) :
    ∃ w', (Instr.makeSlice 24 (.int .i64 n) (.int .i64 n)).run Tryz.prog w = .ok (.slice (some ⟨w.heap.size, 0, none⟩) n n) w' ∧ w'.ownsRow base 3 1 (.slice (some ⟨w.heap.size, 0, none⟩) n n) n (iv (zerosR n)) ∧ w.grownBy w' none := by
  obtain ⟨i0, hi, hz0, hz1, hz2⟩ := info_parts info_int
  obtain ⟨w', hrun, r1, r2⟩ := run_make_full (P := Tryz.prog) w base 24 3 i0 (.int .i64 0) 1 Tryz.underlying24 hi hz0 hz1 .i64 .i64 n (by rw [hz2]; omega) (by unfold maxLen; omega) hb
  have e : (madeCells (Value.int IntKind.i64 0).cells (n * 1)).toList = iv (zerosR n) := by rw [Nat.mul_one]; exact made_ints n
  rw [e] at r1
  exact ⟨w', hrun, r1, r2⟩

set_option maxHeartbeats 1000000 in
set_option maxRecDepth 100000 in
theorem sEmpty (n cap : Nat) (a : Option Addr) (W : Int) (w : World) (hn : n ≤ 1048576) :
    Calls Tryz.prog 57 #[.agg #[.int .i64 W, .slice a n cap]] w fun e w' => ∃ g, e = .returned (.agg #[.int .i64 W, .slice (some ⟨g, 0, none⟩) n n]) ∧ w'.ownsRow w.heap.size 3 1 (.slice (some ⟨g, 0, none⟩) n n) n (iv (zerosR n)) ∧ Below w.heap.size w w' := by
  obtain ⟨i0, hi, hz0, hz1, hz2⟩ := info_parts info_int
  go_enter Tryz.func57, Tryz.ntmps57
  go_wp2_with fail
  have hbox := (RgAt.new (w := w) W (.slice a n cap) rfl).alloc (.cells #[.int .i64 0, .slice none 0 0] 26)
  have hres := RgAt.new (w := w.alloc (.cells #[.int .i64 W, .slice a n cap] 26)) (N := w.heap.size + 1) 0 (.slice none 0 0) (by simp)
  have hb := ((Below.refl w.heap.size w).alloc (Nat.le_refl _) (.cells #[.int .i64 W, .slice a n cap] 26)).alloc (by simp) (.cells #[.int .i64 0, .slice none 0 0] 26)
  have hsz : ((w.alloc (.cells #[.int .i64 W, .slice a n cap] 26)).alloc (.cells #[.int .i64 0, .slice none 0 0] 26)).heap.size = w.heap.size + 1 + 1 := by simp
  generalize ((w.alloc (.cells #[.int .i64 W, .slice a n cap] 26)).alloc (.cells #[.int .i64 0, .slice none 0 0] 26)) = W1 at *
  have c0 := hbox.c0
  have c1 := hbox.c1
  have HB1 := Lib.hid hb
  clear hb
  obtain ⟨w', hmk, hownN, hgrN⟩ := run_make_i W1.drew (w.heap.size + 1 + 1) n (by omega) (Nat.le_of_eq hsz.symm)
  rw [show W1.drew.heap.size = w.heap.size + 1 + 1 from hsz] at hmk hownN
  have hboxN := RgAt.by (w := W1.drew) (r := none) hbox hgrN (by intro e; cases e)
  have hresN := RgAt.by (w := W1.drew) (r := none) hres hgrN (by intro e; cases e)
  have r0 := hresN.c0
  have r1 := hresN.c1
  have r2 := hresN.f 0
  have r3 := hresN.f 1
  have r4 := hboxN.c0
  have r5 := hboxN.c1
  have c0' : W1.drew.cell? ⟨w.heap.size, 0, none⟩ = some (.int .i64 W) := c0
  have c1' : W1.drew.cell? ⟨w.heap.size, 1, none⟩ = some (.slice a n cap) := c1
  go_region
  have R9 := hresN.set2 W (.slice (some ⟨w.heap.size + 1 + 1, 0, none⟩) n n)
  have e0 := R9.c0
  have e1 := R9.c1
  have hbN := (HB1.out.drew).grown hgrN (by show _ ≤ W1.heap.size; omega) (fun k hk => by cases hk)
  have HO9 := Lib.hid (own_below (own_far (b := w.heap.size + 1) (o := 1) (u := .slice (some ⟨w.heap.size + 1 + 1, 0, none⟩) n n) (own_far (b := w.heap.size + 1) (o := 0) (u := .int .i64 W) hownN (by omega)) (by omega)) (show w.heap.size ≤ w.heap.size + 1 + 1 by omega))
  have HB9 := Lib.hid ((hbN.setCell (p := ⟨w.heap.size + 1, 0, none⟩) (by show w.heap.size ≤ w.heap.size + 1; omega) (.int .i64 W)).setCell (p := ⟨w.heap.size + 1, 1, none⟩) (by show w.heap.size ≤ w.heap.size + 1; omega) (.slice (some ⟨w.heap.size + 1 + 1, 0, none⟩) n n))
  generalize ((w'.setCell ⟨w.heap.size + 1, 0, none⟩ (.int .i64 W)).setCell ⟨w.heap.size + 1, 1, none⟩ (.slice (some ⟨w.heap.size + 1 + 1, 0, none⟩) n n)) = w9 at *
  simp only [Exit.then]
  go_wp2
  exact bodyPost_ret (v := .agg #[.int .i64 W, .slice (some ⟨w.heap.size + 1 + 1, 0, none⟩) n n]) (by simp [results, Tryz.results57, go_sem, e0, e1]) rfl ⟨_, rfl, HO9.out, HB9.out⟩

theorem RgAt.row {w : World} {g k : Nat} {W : Int} {v : Value} {cs : Array Value} (h : RgAt w k W v) (hne : k ≠ g) : RgAt (w.setRow g cs) k W v := (setRow_other w g k cs hne).trans h
theorem own_row {w : World} {g base n : Nat} {l : List Int} {cur : Array Value} (hl : l.length = n) (hg : w.heap[g]? = some (.cells cur 3 (0, 0))) (hb : base ≤ g) (hn : n ≤ maxLen) :
    (w.setRow g (iv l).toArray).ownsRow base 3 1 (.slice (some ⟨g, 0, none⟩) n n) n (iv l) :=
  ⟨by rw [iv_length, hl, Nat.mul_one], .inr ⟨g, n, (iv l).toArray, rfl, hb, setRow_heap w g cur _ 3 _ hg, Nat.le_refl _, hn, by simp [iv_length, hl], by rw [Nat.mul_one]; exact List.take_of_length_le (by simp [iv_length, hl])⟩⟩

set_option maxHeartbeats 1000000 in
set_option maxRecDepth 100000 in
theorem iCopy (B n cap : Nat) (a : Option Addr) (W : Int) (l : List Int) (w : World) (hn : n ≤ 1048576) (hc : IntsAt B w a n l) (hB : B ≤ w.heap.size) :
    Calls Tryz.prog 53 #[.agg #[.int .i64 W, .slice a n cap]] w fun e w' => ∃ g, e = .returned (.agg #[.int .i64 W, .slice (some ⟨g, 0, none⟩) n n]) ∧ w'.ownsRow w.heap.size 3 1 (.slice (some ⟨g, 0, none⟩) n n) n (iv l) ∧ Below w.heap.size w w' := by
  have H := Lib.hid hc
  clear hc
  go_enter Tryz.func53, Tryz.ntmps53
  go_wp2_with fail
  have hbox := (RgAt.new (w := w) W (.slice a n cap) rfl).alloc (.cells #[.int .i64 0, .slice none 0 0] 26)
  have hres := RgAt.new (w := w.alloc (.cells #[.int .i64 W, .slice a n cap] 26)) (N := w.heap.size + 1) 0 (.slice none 0 0) (by simp)
  have hb := ((Below.refl w.heap.size w).alloc (Nat.le_refl _) (.cells #[.int .i64 W, .slice a n cap] 26)).alloc (by simp) (.cells #[.int .i64 0, .slice none 0 0] 26)
  have hsz : ((w.alloc (.cells #[.int .i64 W, .slice a n cap] 26)).alloc (.cells #[.int .i64 0, .slice none 0 0] 26)).heap.size = w.heap.size + 1 + 1 := by simp
  generalize ((w.alloc (.cells #[.int .i64 W, .slice a n cap] 26)).alloc (.cells #[.int .i64 0, .slice none 0 0] 26)) = W1 at *
  refine (iEmpty W n W1 (by omega)).mono ?_
  rintro e w2 ⟨g, rfl, hown, hb2⟩
  have hbx2 := hbox.on hb2 hbox.lt
  have hrs2 := hres.on hb2 hres.lt
  have HB2 := Lib.hid (hb.trans (hb2.mono hb.size))
  have hgb := (hown.lt g rfl)
  rw [hsz] at hown hgb
  obtain ⟨cur, hcur⟩ : ∃ cur, w2.heap[g]? = some (.cells cur 3 (0, 0)) ∧ cur = (iv (zerosR n)).toArray := by
    rcases hown.2 with ⟨e, _⟩ | ⟨g1, c1, cur, e, hb, hg, _, _, hs, ht⟩
    · cases e
    · injection e with e1 _ e3
      injection e1 with e1
      injection e1 with e1
      subst e1 e3
      refine ⟨cur, hg, ?_⟩
      rw [List.take_of_length_le (by rw [Array.length_toList, hs]; exact Nat.le_refl _)] at ht
      rw [← ht]
  obtain ⟨hcur, rfl⟩ := hcur
  have c1 := hbx2.c1
  have HR2 := Lib.hid hrs2
  have HAT := Lib.hid (H.out.on (HB2.out.mono hB))
  have hg2 := hgb.2
  have hg1 := hgb.1
  clear hb hb2 hown hbox hres hrs2 hsz hgb
  have hsz2 := HB2.out.size
  have hcurA := (Below.heap_alloc w2 (.cells #[.int .i64 W, .slice (some ⟨g, 0, none⟩) n n] 26) g hg2).trans hcur
  have hb3 := HB2.out.alloc hsz2 (.cells #[.int .i64 W, .slice (some ⟨g, 0, none⟩) n n] 26)
  have hv := RgAt.new (w := w2) W (.slice (some ⟨g, 0, none⟩) n n) rfl
  have c1' := (hbx2.alloc (.cells #[.int .i64 W, .slice (some ⟨g, 0, none⟩) n n] 26)).c1
  have hi1 : (Tryz.prog.info? 3).map (·.size) = some 1 := by kernel_rfl
  by_cases h0 : 0 < n
  · obtain ⟨b, off, rfl, hbB, hcell⟩ := HAT.out.2.2 h0
    have hln := HAT.out.1
    have hbA := (Below.refl w2.heap.size w2).alloc (Nat.le_refl _) (.cells #[.int .i64 W, .slice (some ⟨g, 0, none⟩) n n] 26)
    have hbl : b < w2.heap.size := by omega
    have hsrc : ∀ j v, (iv l)[j]? = some v → (w2.alloc (.cells #[.int .i64 W, .slice (some ⟨g, 0, none⟩) n n] 26)).cell? ((⟨b, off, none⟩ : Addr).add j) = some v := fun j v hj => by
      have hjl : j < n := by
        have := (List.getElem?_eq_some_iff.1 hj).1
        rw [iv_length, hln] at this
        exact this
      rw [add_at, (hbA.cell (p := ⟨b, off + j, none⟩) hbl).trans (hcell j hjl), ← hj, iv_get _ _ (by rw [hln]; exact hjl)]
    have hcsl : (iv l).length = Nat.min n n := by rw [iv_length, hln]; simp
    have hfit : 0 + (iv l).length ≤ (iv (zerosR n)).toArray.size := by simp [iv_length, hln, zerosR]
    have HO := Lib.hid (own_row (base := w.heap.size) hln hcurA (by omega) (by unfold maxLen; omega))
    have HE := Lib.hid (show ((iv (zerosR n)).toArray.toList.take 0 ++ iv l ++ (iv (zerosR n)).toArray.toList.drop (0 + (iv l).length)).toArray = (iv l).toArray from by
      rw [List.take_zero, List.nil_append, List.drop_of_length_le (by simp [iv_length, hln, zerosR]), List.append_nil])
    have HV := Lib.hid (RgAt.row (cs := (iv l).toArray) hv (show w2.heap.size ≠ g by omega))
    have HRR := Lib.hid (RgAt.row (cs := (iv l).toArray) (HR2.out.alloc (.cells #[.int .i64 W, .slice (some ⟨g, 0, none⟩) n n] 26)) (show w.heap.size + 1 ≠ g by omega))
    have HBB := Lib.hid (below_setRow hb3 (show w.heap.size ≤ g by omega) (iv l).toArray)
    have hrun := run_copy_row (P := Tryz.prog) (w2.alloc (.cells #[.int .i64 W, .slice (some ⟨g, 0, none⟩) n n] 26)) 24 24 3 3 g 0 n n ⟨b, off, none⟩ n cap (iv (zerosR n)).toArray 3 (iv l) Tryz.underlying24 hi1 hcurA hcsl hsrc hfit (iv_one _)
    rw [HE.out] at hrun
    have v0 := HV.out.c0
    have v1 := HV.out.c1
    have r0 := HRR.out.c0
    have r1 := HRR.out.c1
    have r2 := HRR.out.f 0
    have r3 := HRR.out.f 1
    clear hcell hv hbA hsrc hcsl hfit HE hcurA hcur hb3
    go_wp2
    have R9 := HRR.out.set2 W (.slice (some ⟨g, 0, none⟩) n n)
    have e0 := R9.c0
    have e1 := R9.c1
    have HO9 := Lib.hid (own_far (b := w.heap.size + 1) (o := 1) (u := .slice (some ⟨g, 0, none⟩) n n) (own_far (b := w.heap.size + 1) (o := 0) (u := .int .i64 W) HO.out (by omega)) (by omega))
    have HB9 := Lib.hid ((HBB.out.setCell (p := ⟨w.heap.size + 1, 0, none⟩) (by show w.heap.size ≤ w.heap.size + 1; omega) (.int .i64 W)).setCell (p := ⟨w.heap.size + 1, 1, none⟩) (by show w.heap.size ≤ w.heap.size + 1; omega) (.slice (some ⟨g, 0, none⟩) n n))
    generalize ((((w2.alloc (.cells #[.int .i64 W, .slice (some ⟨g, 0, none⟩) n n] 26)).setRow g (iv l).toArray).setCell ⟨w.heap.size + 1, 0, none⟩ (.int .i64 W)).setCell ⟨w.heap.size + 1, 1, none⟩ (.slice (some ⟨g, 0, none⟩) n n)) = w9 at *
    exact bodyPost_ret (v := .agg #[.int .i64 W, .slice (some ⟨g, 0, none⟩) n n]) (by simp [results, Tryz.results53, go_sem, e0, e1]) rfl ⟨_, rfl, HO9.out, HB9.out⟩
  · obtain rfl : n = 0 := by omega
    have hnil : l = [] := List.eq_nil_of_length_eq_zero HAT.out.1
    subst hnil
    have hrun := run_copy_none (P := Tryz.prog) (w2.alloc (.cells #[.int .i64 W, .slice (some ⟨g, 0, none⟩) 0 0] 26)) 24 24 3 3 (some ⟨g, 0, none⟩) a 0 0 0 cap Tryz.underlying24 hi1 rfl
    have HO := Lib.hid (show (w2.alloc (.cells #[.int .i64 W, .slice (some ⟨g, 0, none⟩) 0 0] 26)).ownsRow w.heap.size 3 1 (.slice (some ⟨g, 0, none⟩) 0 0) 0 (iv []) from ⟨rfl, .inr ⟨g, 0, _, rfl, by omega, hcurA, Nat.le_refl _, Nat.zero_le _, by simp [iv, zerosR], by simp [iv]⟩⟩)
    have HRR := Lib.hid (HR2.out.alloc (.cells #[.int .i64 W, .slice (some ⟨g, 0, none⟩) 0 0] 26))
    have HBB := Lib.hid hb3
    have v0 := hv.c0
    have v1 := hv.c1
    have r0 := HRR.out.c0
    have r1 := HRR.out.c1
    have r2 := HRR.out.f 0
    have r3 := HRR.out.f 1
    clear hcurA hcur hb3 hv
    go_wp2
    have R9 := HRR.out.set2 W (.slice (some ⟨g, 0, none⟩) 0 0)
    have e0 := R9.c0
    have e1 := R9.c1
    have HO9 := Lib.hid (own_far (b := w.heap.size + 1) (o := 1) (u := .slice (some ⟨g, 0, none⟩) 0 0) (own_far (b := w.heap.size + 1) (o := 0) (u := .int .i64 W) HO.out (by omega)) (by omega))
    have HB9 := Lib.hid ((HBB.out.setCell (p := ⟨w.heap.size + 1, 0, none⟩) (by show w.heap.size ≤ w.heap.size + 1; omega) (.int .i64 W)).setCell (p := ⟨w.heap.size + 1, 1, none⟩) (by show w.heap.size ≤ w.heap.size + 1; omega) (.slice (some ⟨g, 0, none⟩) 0 0))
    generalize (((w2.alloc (.cells #[.int .i64 W, .slice (some ⟨g, 0, none⟩) 0 0] 26)).setCell ⟨w.heap.size + 1, 0, none⟩ (.int .i64 W)).setCell ⟨w.heap.size + 1, 1, none⟩ (.slice (some ⟨g, 0, none⟩) 0 0)) = w9 at *
    exact bodyPost_ret (v := .agg #[.int .i64 W, .slice (some ⟨g, 0, none⟩) 0 0]) (by simp [results, Tryz.results53, go_sem, e0, e1]) rfl ⟨_, rfl, HO9.out, HB9.out⟩

end Go.Proofs.YtcfioncnpfoccaaGreatDoor
