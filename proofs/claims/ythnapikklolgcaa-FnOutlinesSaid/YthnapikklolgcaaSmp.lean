/-
  A set of shapes that a map keeps, keyed by their places: what it holds, and the laws at the operations.
-/
import Derived.Test.YthnapikklolgcaaPen
import Derived.Test.YthnapikklolgcaaIpl
import Derived.Test.YthnapikklolgcaaOwn
import Derived.Maps.OwnSet
import Derived.Maps.RangeWalk
import Derived.DeepKeys4
import Derived.WideKeyPair
namespace Go.Proofs.Ythnapikklolgcaa
open Go.RowKit Go.Maps Go.ChangeMaps Go.MapKept
open Go.WideElems (Fit rd rg pl rd_val)

theorem ps_row : (93 : TypeId) < Try.prog.types.size := of_decide_eq_true (by kernel_rfl)
theorem ps_laid : laidOutB Try.prog = true := by kernel_rfl
theorem ps_deep : Try.prog.keyTypeAt 2 93 = true := by kernel_rfl
theorem ps_wide : (match Try.prog.underlying 93 with | some (.array _ _) | some (.struct _) => true | _ => false) = true := by rw [Try.underlying93]
set_option maxRecDepth 100000 in
theorem ps_law : Keyed Try.prog 93 := Keyed.of_law (deep_law_laid (P := Try.prog) (k := 93) ps_laid (m := 2) (by omega) ps_row ps_deep ps_wide)
theorem ps_arr : WideMaps.ArrKey Try.prog 93 3 8 := ⟨Try.underlying93, by kernel_rfl, by kernel_rfl, by kernel_rfl⟩
theorem ps_types : ∃ m, Try.prog.types.size = m + 1 := by
  have h := ps_row
  generalize Try.prog.types.size = q at h ⊢
  cases q with
  | zero => exact absurd h (Nat.not_lt_zero _)
  | succ m => exact ⟨m, rfl⟩
theorem keyOf_eight {P : Program} {k e : TypeId} {q : IntKind} (A : WideMaps.ArrKey P k e 8) (he : P.underlying e = some (.int q)) (hsz : ∃ m, P.types.size = m + 1) {a b c d a' b' c' d' : Int}
    (h1 : (Lit.int q a).wf = true) (h2 : (Lit.int q b).wf = true) (h3 : (Lit.int q c).wf = true) (h4 : (Lit.int q d).wf = true) (h5 : (Lit.int q a').wf = true) (h6 : (Lit.int q b').wf = true) (h7 : (Lit.int q c').wf = true) (h8 : (Lit.int q d').wf = true) :
    keyOf P k (.agg #[.int q a, .int q b, .int q c, .int q d, .int q a', .int q b', .int q c', .int q d']) = some (.string (keyBytes [.int q a, .int q b, .int q c, .int q d, .int q a', .int q b', .int q c', .int q d'])) := by
  have hkt := A.keyType hsz
  obtain ⟨m, hm⟩ := hsz
  unfold keyOf
  simp only [A.hu]
  rw [if_pos (by simp [hkt, Value.formed, A.hu, A.size]), hm]
  unfold Program.keyLits
  simp only [A.hu, Value.cells]
  rw [if_pos (by rw [A.size]; rfl), show List.range 8 = [0, 1, 2, 3, 4, 5, 6, 7] from rfl]
  simp only [List.mapM_cons, List.mapM_nil]
  simp [A.one, Program.keyLits, he, h1, h2, h3, h4, h5, h6, h7, h8]
theorem wf_row {r : Nat} (h : r < 256) : (Lit.int .i64 (r : Int)).wf = true := by
  simp only [Lit.wf, Bool.and_eq_true, decide_eq_true_eq]
  constructor
  · have : (IntKind.i64.min : Int) ≤ 0 := by decide
    omega
  · have : (256 : Int) ≤ IntKind.i64.max := by decide
    omega
/-- What the places of a shape read as, as a key. -/
noncomputable def klS (l : List Cl) : Lit := (keyOf Try.prog 93 (setV (allR l))).getD (.bool false)
theorem keyOf_set {l : List Cl} (h : ∀ c ∈ l, inP c = true) : keyOf Try.prog 93 (setV (allR l)) = some (klS l) := by
  have hw : ∀ y, (Lit.int .i64 ((allR l y : Nat) : Int)).wf = true := fun y => wf_row (allR_lt h y)
  have hk := keyOf_eight ps_arr Try.underlying3 ps_types (hw 0) (hw 1) (hw 2) (hw 3) (hw 4) (hw 5) (hw 6) (hw 7)
  have hk2 : keyOf Try.prog 93 (setV (allR l)) = some _ := hk
  unfold klS
  rw [hk2]
  rfl
attribute [irreducible] klS
theorem shape_in {l : List Cl} (h : isShape l = true) : ∀ c ∈ l, inP c = true := ((isShape_iff l).1 h).2.1
theorem setV_inj {R T : Nat → Nat} (h : setV R = setV T) : ∀ y, y < 8 → R y = T y := by
  unfold setV at h
  simp at h
  obtain ⟨h0, h1, h2, h3, h4, h5, h6, h7⟩ := h
  intro y hy
  have : y = 0 ∨ y = 1 ∨ y = 2 ∨ y = 3 ∨ y = 4 ∨ y = 5 ∨ y = 6 ∨ y = 7 := by omega
  rcases this with rfl | rfl | rfl | rfl | rfl | rfl | rfl | rfl <;> omega
theorem klS_inj {l r : List Cl} (h : isShape l = true) (k : isShape r = true) (e : klS l = klS r) : l = r := by
  have h1 := keyOf_set (shape_in h)
  have h2 := keyOf_set (shape_in k)
  rw [e] at h1
  exact marks_inj h k (setV_inj (ps_law.inj h1 h2))
theorem klS_key {l : List Cl} (h : isShape l = true) : WideAt.IsKeyLit (klS l) := ps_law.key (keyOf_set (shape_in h))
/-- How the map's elements read. -/
noncomputable abbrev RB : Value → Option (DataW Nat × List MemPlace) := plainElem Try.prog 4

/-- What is in a map as read: the shapes of S, and nothing else. -/
def HasS (D : DataW Nat) (S : List (List Cl)) : Prop := (∀ z, has D z = true ↔ ∃ s, s ∈ S ∧ z = klS s) ∧ ∀ s ∈ S, isShape s = true
/-- Block b is a map of at most n entries that holds the shapes of S. -/
def SetM (w : World) (b n : Nat) (S : List (List Cl)) : Prop := ∃ D : DataW Nat, w.ownsMap Try.prog 93 RB b n D ∧ HasS D S
theorem hasS_nil : HasS (.map []) [] := ⟨fun z => by simp [Maps.has], fun s hs => by cases hs⟩
theorem hasS_put {D : DataW Nat} {S : List (List Cl)} {l : List Cl} (h : HasS D S) (hD : IsMap D) (hl : isShape l = true) (d : DataW Nat) : HasS (D.put (klS l) d) (S ++ [l]) := by
  refine ⟨fun z => ?_, fun s hs => ?_⟩
  · by_cases e : z = klS l
    · subst e
      rw [has_put_same hD (klS_key hl)]
      exact ⟨fun _ => ⟨l, by simp, rfl⟩, fun _ => rfl⟩
    · rw [has_put_other e, h.1 z]
      constructor
      · rintro ⟨s, hs, rfl⟩; exact ⟨s, by simp [hs], rfl⟩
      · rintro ⟨s, hs, rfl⟩
        rw [List.mem_append, List.mem_singleton] at hs
        rcases hs with hs | rfl
        · exact ⟨s, hs, rfl⟩
        · exact absurd rfl e
  · rw [List.mem_append, List.mem_singleton] at hs
    rcases hs with hs | rfl
    · exact h.2 s hs
    · exact hl
theorem SetM.mono {w : World} {b n m : Nat} {S : List (List Cl)} (h : SetM w b n S) (hn : n ≤ m) : SetM w b m S := by
  obtain ⟨D, h1, h2⟩ := h
  exact ⟨D, h1.mono hn, h2⟩
theorem SetM.lt {w : World} {b n : Nat} {S : List (List Cl)} (h : SetM w b n S) : b < w.heap.size := by
  obtain ⟨D, h1, h2⟩ := h
  exact h1.lt
theorem SetM.kept {w w' : World} {b n : Nat} {S : List (List Cl)} {row : Option Nat} (h : SetM w b n S) (hg : w.grownBy w' row) (hne : some b ≠ row) : SetM w' b n S := by
  obtain ⟨D, h1, h2⟩ := h
  exact ⟨D, h1.kept hg hne, h2⟩
theorem SetM.on {w w' : World} {b n : Nat} {S : List (List Cl)} (h : SetM w b n S) (hb : Below w.heap.size w w') : SetM w' b n S := h.kept (grow_below hb none) (by simp)
theorem SetM.made (w : World) : SetM (w.alloc (.map #[] 0)) w.heap.size 0 [] := ⟨.map [], World.ownsMap_made _ _ _ _, hasS_nil⟩
theorem SetM.same {w : World} {b n : Nat} {S T : List (List Cl)} (h : SetM w b n S) (e : S = T) : SetM w b n T := e ▸ h

/-! ### The world, but for one block -/
/-- Of what was below B nothing has turned but block b. -/
structure But (B b : Nat) (w w' : World) : Prop where
  os : w'.os = w.os
  tape : w'.tape = w.tape
  output : w'.output = w.output
  size : w.heap.size ≤ w'.heap.size
  block : ∀ k, k < B → k ≠ b → w'.heap[k]? = w.heap[k]?
theorem But.refl (B b : Nat) (w : World) : But B b w w := ⟨rfl, rfl, rfl, Nat.le_refl _, fun _ _ _ => rfl⟩
theorem But.trans {B b : Nat} {x y z : World} (h : But B b x y) (k : But B b y z) : But B b x z :=
  ⟨k.os.trans h.os, k.tape.trans h.tape, k.output.trans h.output, Nat.le_trans h.size k.size, fun i hi hne => (k.block i hi hne).trans (h.block i hi hne)⟩
theorem But.mono {B B' b : Nat} {w w' : World} (h : But B b w w') (hB : B' ≤ B) : But B' b w w' := ⟨h.os, h.tape, h.output, h.size, fun k hk => h.block k (Nat.lt_of_lt_of_le hk hB)⟩
theorem But.of_below {B b : Nat} {w w' : World} (h : Below B w w') : But B b w w' := ⟨h.os, h.tape, h.output, h.size, fun k hk _ => h.block k hk⟩
theorem But.below {B b : Nat} {w w' : World} (h : But B b w w') {B' : Nat} (h1 : B' ≤ B) (h2 : B' ≤ b) : Below B' w w' := ⟨h.os, h.tape, h.output, h.size, fun k hk => h.block k (by omega) (by omega)⟩
theorem But.grown {b : Nat} {w w' : World} (h : But w.heap.size b w w') : w.grownBy w' (some b) := ⟨h.os, h.tape, h.output, h.size, fun k hk hne => h.block k hk fun e => hne (by rw [e])⟩
theorem But.of_grown {B b : Nat} {w w' : World} (h : w.grownBy w' (some b)) (hB : B ≤ w.heap.size) : But B b w w' := ⟨h.os, h.tape, h.output, h.size, fun k hk hne => h.block k (by omega) fun e => hne (by injection e)⟩
theorem But.alloc {B b : Nat} {x w : World} (h : But B b x w) (hB : B ≤ w.heap.size) (o : Obj) : But B b x (w.alloc o) := h.trans (.of_below ((Below.refl B w).alloc hB o))
theorem But.setCell {B b : Nat} {x w : World} (h : But B b x w) {p : Addr} (hp : B ≤ p.block) (v : Value) : But B b x (w.setCell p v) := h.trans (.of_below ((Below.refl B w).setCell hp v))
theorem But.drew {B b : Nat} {x w : World} (h : But B b x w) : But B b x w.drew := ⟨h.os, h.tape, h.output, h.size, h.block⟩
theorem CellsAt.but {B b n : Nat} {w w' : World} {a : Option Addr} {l : List Cl} (h : CellsAt B w a n l) (hk : But B b w w') (hoff : ∀ q, a = some q → q.block ≠ b) : CellsAt B w' a n l := by
  obtain ⟨h1, h2, h3⟩ := h
  refine ⟨h1, h2, fun hn => ?_⟩
  obtain ⟨g, off, e, hlt, hc⟩ := h3 hn
  refine ⟨g, off, e, hlt, fun k hk2 => ?_⟩
  have hb : w'.heap[g]? = w.heap[g]? := hk.block g hlt (hoff _ e)
  rw [World.cell?_of_block (a := ⟨g, off + k * 2, none⟩) hb, World.cell?_of_block (a := ⟨g, off + k * 2 + 1, none⟩) hb]
  exact hc k hk2
theorem OwnS.but {B b : Nat} {w w' : World} {v : Value} {es : List Ent} (h : OwnS B w v es) (hk : But w.heap.size b w w') (h1 : v.ownBlock ≠ some b) (h2 : OffS b es) : OwnS B w' v es :=
  ⟨h.row.kept hk.grown (.inr h1), h.each.by hk.grown h2, h.apart, h.off⟩

/-! ### At the operations -/
/-- A store. -/
theorem wp_set {ops : Array Oper} {rest : List Oper} {o : Oper} {a : Act} {w : World} {Q : Exit → Act → World → Prop} (hg : o.guard = none) (m x v : Operand) (hop : o.op = Op.mapUpdate 75 m x v)
    (b n : Nat) (S : List (List Cl)) (l : List Cl) (hm : a.eval m = .map (some b)) (hx : a.eval x = setV (allR l)) (hv : a.eval v = .bool true) (hown : SetM w b n S) (hn : n < 8388608) (hl : isShape l = true)
    (hK : ∀ w', SetM w' b (n + 1) (S ++ [l]) → w.grownBy w' (some b) → wpList Try.prog ops Q rest (a.put o.dst undef) w') : wpList Try.prog ops Q (o :: rest) a w := by
  obtain ⟨D, h1, h2⟩ := hown
  refine wpList_mapUpdate_own w hg m x v 75 hop 93 4 ps_law Try.underlying75 RB b n D hm h1 (by unfold maxLen; omega) _ _ (klS l) hx hv (keyOf_set (shape_in hl)) (.lit (.bool true)) [] (plainElem_bool Try.underlying4 true) fun w' h3 h4 => ?_
  exact hK w' ⟨_, h3, hasS_put h2 h1.isMap hl _⟩ h4

theorem run_clear_set {w : World} {b n : Nat} {S : List (List Cl)} (h : SetM w b n S) (ty : TypeId) : ∃ w', (Builtin.clear_ #[75] ty #[.map (some b)]).run Try.prog w = .ok (.tuple #[]) w' ∧ SetM w' b 0 [] ∧ w.grownBy w' (some b) := by
  obtain ⟨D, ⟨es, clock, hb, F, _, _⟩, _⟩ := h
  refine ⟨setBlock w b (.map #[] clock), ?_, ⟨.map [], ⟨#[], clock, heap_setBlock_same hb _, ⟨by simp, stamped_empty clock, by simp⟩, Nat.le_refl _, rfl⟩, hasS_nil⟩, ⟨rfl, rfl, rfl, by simp [setBlock], fun i _ hi => heap_setBlock_other hb _ (fun e => hi (by rw [e]))⟩⟩
  simp [Builtin.clear_, run_underlying Try.underlying75, MapKept.run_getObj_map hb, MapKept.run_setObj_map _ hb, Result.andThen, setBlock]
/-- clear(seen). -/
theorem wp_clear {ops : Array Oper} {rest : List Oper} {o : Oper} {a : Act} {w : World} {Q : Exit → Act → World → Prop} (hg : o.guard = none) (m : Operand) (hop : o.op = Op.call { callee := Callee.builtin Builtin.clear, args := #[m], argTypes := #[75] })
    (b n : Nat) (S : List (List Cl)) (hm : a.eval m = .map (some b)) (hown : SetM w b n S)
    (hK : ∀ w', SetM w' b 0 [] → w.grownBy w' (some b) → wpList Try.prog ops Q rest (a.put o.dst (.tuple #[])) w') : wpList Try.prog ops Q (o :: rest) a w := by
  refine wpList_plain hg fun K' hK' => ?_
  obtain ⟨w', hrun, r1, r2⟩ := run_clear_set hown o.type
  unfold Oper.wp
  simp [execOp, hop, resolve, invoke, builtin, hm, hrun, Result.andThen]
  exact hK' _ _ (hK w' r1 r2)

/-- len(seen). -/
theorem wp_len {ops : Array Oper} {rest : List Oper} {o : Oper} {a : Act} {w : World} {Q : Exit → Act → World → Prop} (hg : o.guard = none) (m : Operand) (hop : o.op = Op.call { callee := Callee.builtin Builtin.len, args := #[m], argTypes := #[75] })
    (b n : Nat) (S : List (List Cl)) (hm : a.eval m = .map (some b)) (hown : SetM w b n S)
    (hK : ∀ z : Nat, z ≤ n → wpList Try.prog ops Q rest (a.put o.dst (.int .i64 z)) w) : wpList Try.prog ops Q (o :: rest) a w := by
  obtain ⟨D, h1, h2⟩ := hown
  exact wpList_len_own w hg m 75 hop 93 4 Try.underlying75 RB b n D hm h1 (hK _ h1.size_le)

/-! ### The loop over the set -/
/-- The loop is under way: the shapes of dn have come, those of S that are not among them are still to come. -/
def RngM (w : World) (b r n : Nat) (S dn : List (List Cl)) (cnt : Nat) : Prop :=
  ∃ (D : DataW Nat) (left : Lit → Bool), w.ranges Try.prog 93 RB b r n D left cnt ∧ HasS D S ∧ dn.Nodup ∧ (∀ s ∈ dn, s ∈ S) ∧ ∀ s ∈ S, left (klS s) = true ↔ s ∉ dn
theorem RngM.left {w : World} {b r n : Nat} {S dn : List (List Cl)} {cnt : Nat} (h : RngM w b r n S dn cnt) : w.rangeLeft b r = cnt := by
  obtain ⟨D, left, h1, _⟩ := h
  exact h1.left_eq
theorem RngM.owns {w : World} {b r n : Nat} {S dn : List (List Cl)} {cnt : Nat} (h : RngM w b r n S dn cnt) : SetM w b n S := by
  obtain ⟨D, left, h1, h2, _⟩ := h
  exact ⟨D, h1.owns, h2⟩
theorem RngM.lt {w : World} {b r n : Nat} {S dn : List (List Cl)} {cnt : Nat} (h : RngM w b r n S dn cnt) : r < w.heap.size := by
  obtain ⟨D, left, h1, _⟩ := h
  exact h1.lt
theorem RngM.kept {w w' : World} {b r n : Nat} {S dn : List (List Cl)} {cnt : Nat} {row : Option Nat} (h : RngM w b r n S dn cnt) (hg : w.grownBy w' row) (h1 : some b ≠ row) (h2 : some r ≠ row) : RngM w' b r n S dn cnt := by
  obtain ⟨D, left, h3, h4⟩ := h
  exact ⟨D, left, h3.kept hg h1 h2, h4⟩
theorem RngM.on {w w' : World} {b r n : Nat} {S dn : List (List Cl)} {cnt : Nat} (h : RngM w b r n S dn cnt) (hb : Below w.heap.size w w') : RngM w' b r n S dn cnt := h.kept (grow_below hb none) (by simp) (by simp)

theorem RngM.nodup {w : World} {b r n : Nat} {S dn : List (List Cl)} {cnt : Nat} (h : RngM w b r n S dn cnt) : dn.Nodup ∧ ∀ s ∈ dn, s ∈ S := by
  obtain ⟨D, left, h1, h2, h3, h4, h5⟩ := h
  exact ⟨h3, h4⟩
theorem RngM.apart {w : World} {b r n : Nat} {S dn : List (List Cl)} {cnt : Nat} (h : RngM w b r n S dn cnt) {B size k : Nat} {t : TypeId} {v : Value} {xs : List Value} (ho : w.ownsRow B t size v k xs) : v.ownBlock ≠ some r ∧ v.ownBlock ≠ some b := by
  obtain ⟨D, left, ⟨es, clock, since, seen, c0, hb, _, _, _, hr, _⟩, _⟩ := h
  rcases ho.2 with ⟨rfl, _⟩ | ⟨g, cap, cur, rfl, _, hg, _⟩
  · exact ⟨fun e => (by cases e), fun e => (by cases e)⟩
  · refine ⟨fun e => ?_, fun e => ?_⟩
    · have e2 : g = r := by injection e
      rw [e2, hr] at hg
      cases hg
    · have e2 : g = b := by injection e
      rw [e2, hb] at hg
      cases hg
theorem OwnS.by2 {B q : Nat} {w w' : World} {v : Value} {es : List Ent} (h : OwnS B w v es) (hg : w.grownBy w' (some q)) (h1 : v.ownBlock ≠ some q) (h2 : OffS q es) : OwnS B w' v es :=
  ⟨h.row.kept hg (.inr h1), h.each.by hg h2, h.apart, h.off⟩

theorem wp_range {ops : Array Oper} {rest : List Oper} {o : Oper} {a : Act} {w : World} {Q : Exit → Act → World → Prop} (hg : o.guard = none) (m : Operand) (hop : o.op = Op.range 75 m)
    (b n : Nat) (S : List (List Cl)) (hm : a.eval m = .map (some b)) (hown : SetM w b n S)
    (hK : ∀ w' cnt, RngM w' b w.heap.size n S [] cnt → w.grownBy w' none → w'.heap.size = w.heap.size + 1 → wpList Try.prog ops Q rest (a.put o.dst (.pointer (some ⟨w.heap.size, 0, none⟩))) w') :
    wpList Try.prog ops Q (o :: rest) a w := by
  obtain ⟨D, h1, h2⟩ := hown
  refine wpList_range_own w hg m 75 hop 93 4 ps_law Try.underlying75 RB b n D hm h1 fun w' h3 h4 h5 => ?_
  refine hK w' _ ⟨D, _, h3, h2, List.nodup_nil, fun s hs => (by cases hs), fun s hs => ?_⟩ h4 h5
  have : has D (klS s) = true := (h2.1 _).2 ⟨s, hs, rfl⟩
  simp [this]

theorem bool_inv {P : Program} {e : TypeId} (he : P.underlying e = some .bool) {v : Value} {z : DataW Nat × List MemPlace} (h : plainElem P e v = some z) : ∃ c, v = .bool c := by
  unfold plainElem at h
  rw [he] at h
  cases v <;> simp at h
  exact ⟨_, rfl⟩

theorem wp_next {ops : Array Oper} {rest : List Oper} {o : Oper} {a : Act} {w : World} {Q : Exit → Act → World → Prop} (hg : o.guard = none) (it : Operand) (hop : o.op = Op.next it false)
    (b r n : Nat) (S dn : List (List Cl)) (cnt : Nat) (hit : a.eval it = .pointer (some ⟨r, 0, none⟩)) (h : RngM w b r n S dn cnt)
    (hDone : (∀ s, s ∈ dn ↔ s ∈ S) → wpList Try.prog ops Q rest (a.put o.dst (.tuple #[.bool false])) w)
    (hMore : ∀ (l : List Cl) (x : Value) (w' : World) (cnt' : Nat), isShape l = true → l ∈ S → l ∉ dn → RngM w' b r n S (dn ++ [l]) cnt' → cnt' < cnt → w.grownBy w' (some r) → w'.heap.size = w.heap.size →
      (Instr.entry (.pointer (some ⟨r, 0, none⟩))).run Try.prog w' = .ok (.tuple #[setV (allR l), x]) w' → wpList Try.prog ops Q rest (a.put o.dst (.tuple #[.bool true, setV (allR l), x])) w') :
    wpList Try.prog ops Q (o :: rest) a w := by
  obtain ⟨D, left, h1, h2, h3, h4, h5⟩ := h
  refine wpList_next_ranges w hg it hop 93 ps_law RB (α := Value) (β := Value) id id (fun key _ _ => ⟨key, rfl⟩) (fun v _ _ => ⟨v, rfl⟩) b r n D left cnt hit h1 (fun h0 hl => ?_) (fun x c kl y w' cnt' hkey hlk hv hat hrg hlt hgr hsz hen => ?_)
  · refine hDone fun s => ⟨h4 s, fun hs => ?_⟩
    rcases Classical.em (s ∈ dn) with h9 | h9
    · exact h9
    · have := (h5 s hs).2 h9
      rw [hl] at this
      cases this
  · obtain ⟨l, hl, rfl⟩ := (h2.1 kl).1 (has_true_of_atKey hat)
    have hsh := h2.2 l hl
    have hx : x = setV (allR l) := ps_law.inj hkey (keyOf_set (shape_in hsh))
    subst hx
    have hnew : l ∉ dn := (h5 l hl).1 hlk
    refine hMore l c w' cnt' hsh hl hnew ⟨D, _, hrg, h2, List.nodup_append.2 ⟨h3, by simp, fun p hp q hq => ?_⟩, fun s hs => ?_, fun s hs => ?_⟩ hlt hgr hsz hen
    · rw [List.mem_singleton] at hq
      subst hq
      exact fun e => hnew (e ▸ hp)
    · rw [List.mem_append, List.mem_singleton] at hs
      rcases hs with hs | rfl
      · exact h4 s hs
      · exact hl
    · rw [Bool.and_eq_true, h5 s hs, List.mem_append, List.mem_singleton]
      by_cases e : s = l
      · subst e
        rw [WideAt.sameKey_self (klS_key hsh)]
        simp
      · have : (klS s).sameKey (klS l) = false := sameKey_ne fun e2 => e (klS_inj (h2.2 s hs) hsh e2)
        rw [this]
        simp [e]

end Go.Proofs.Ythnapikklolgcaa
