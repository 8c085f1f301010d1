/-
  Drawn numbers and texts: what the drawing functions give, said as bounds.
  Cells compared as structs: what the comparison gives.
  Looking for a cell, cells side by side, equal lists, in the model: what each call gives.
-/
import Derived.Test.YtailmmamgnebhaaGreatDoorXac
import Derived.Test.YtailmmamgnebhaaGreatDoorXaa
import Derived.Laws.StructEq
namespace Go.Proofs.YtailmmamgnebhaaGreatDoor

section
open Go.RowKit

/-- The bytes that came in, as the walks ask for them. -/
def Code (B : Nat) (w : World) (a : Option Addr) (len cap : Nat) : Prop :=
  len ≤ cap ∧ (0 < len → ∃ b off, a = some ⟨b, off, none⟩ ∧ b < B ∧ ∀ k, k < len → ∃ v : UInt8, w.cell? ⟨b, off + k, none⟩ = some (.int .u8 (v.toNat : Int)))
theorem Code.on {B : Nat} {w w' : World} {a : Option Addr} {len cap : Nat} (h : Code B w a len cap) (hb : Below B w w') : Code B w' a len cap :=
  ⟨h.1, fun hp => by
    obtain ⟨b, off, e, hlt, hc⟩ := h.2 hp
    exact ⟨b, off, e, hlt, fun k hk => by
      obtain ⟨v, hv⟩ := hc k hk
      exact ⟨v, (hb.cell (p := ⟨b, off + k, none⟩) hlt).trans hv⟩⟩⟩

theorem Cur.alloc {B g : Nat} {w : World} (h : Cur B w g) (o : Obj) : Cur B (w.alloc o) g := by
  obtain ⟨a, len, cap, i, hh, h1, h2, h3, h4, h5, h6⟩ := h
  have hg : g < w.heap.size := (Array.getElem?_eq_some_iff.1 h1).1
  refine ⟨a, len, cap, i, hh, (Below.heap_alloc w o g hg).trans h1, h2, h3, h4, h5, fun hp => ?_⟩
  obtain ⟨b, off, e, hlt, hc⟩ := h6 hp
  exact ⟨b, off, e, hlt, fun k hk => by
    obtain ⟨v, hv⟩ := hc k hk
    exact ⟨v, by rw [World.cell?_alloc_lt w o ⟨b, off + k, none⟩ (by exact Nat.lt_trans (Nat.lt_of_lt_of_le hlt h5) hg)]; exact hv⟩⟩
theorem Cur.lt {B g : Nat} {w : World} (h : Cur B w g) : B ≤ g ∧ g < w.heap.size := by
  obtain ⟨a, len, cap, i, hh, h1, _, _, _, h5, _⟩ := h
  exact ⟨h5, (Array.getElem?_eq_some_iff.1 h1).1⟩
/-- A reader stays one while other blocks are written. -/
theorem Cur.grown {B g : Nat} {w w' : World} {r : Option Nat} (h : Cur B w g) (hg : w.grownBy w' r) (hr : ∀ k, r = some k → B ≤ k ∧ k ≠ g) : Cur B w' g := by
  obtain ⟨a, len, cap, i, hh, h1, h2, h3, h4, h5, h6⟩ := h
  have hlt : g < w.heap.size := (Array.getElem?_eq_some_iff.1 h1).1
  refine ⟨a, len, cap, i, hh, (hg.block g hlt (fun e => (hr g e.symm).2 rfl)).trans h1, h2, h3, h4, h5, fun hp => ?_⟩
  obtain ⟨b, off, e, hb, hc⟩ := h6 hp
  exact ⟨b, off, e, hb, fun k hk => by
    obtain ⟨v, hv⟩ := hc k hk
    exact ⟨v, hg.cell hv (fun e => by have := hr b e.symm; omega)⟩⟩

set_option maxHeartbeats 1000000 in
set_option maxRecDepth 100000 in
theorem dNew (B : Nat) (a : Option Addr) (len cap : Nat) (w : World) (hc : Code B w a len cap) (hl : len ≤ 1048576) (hB : B ≤ w.heap.size) :
    Calls Tryz.prog 77 #[.slice a len cap] w fun e w' => e = .returned (.pointer (some ⟨w.heap.size, 0, none⟩)) ∧ Cur B w' w.heap.size ∧ w.grownBy w' none := by
  have HC := Lib.hid hc
  clear hc
  go_enter Tryz.func77, Tryz.ntmps77
  go_wp2
  go_loop [3, 4] (fun h i => ∃ (k : Nat) (x : Int), k ≤ len ∧ k ≤ 4000 ∧ i = .int .i64 k ∧ h = .int .i64 x ∧ 0 ≤ x ∧ x ≤ 1073741823) (fun _ i => 4000 - (intOf i).toNat)
  case atStart => exact ⟨0, _, by omega, by omega, rfl, rfl, by omega, by omega⟩
  case round =>
    obtain ⟨k, x, hk, hk4, rfl, rfl, hx0, hx1⟩ := hrel
    by_cases hlt : k < len ∧ k < 4000
    · obtain ⟨h1, h2⟩ := hlt
      obtain ⟨b, off, rfl, hb, hcell⟩ := HC.out.2 (by omega)
      obtain ⟨v, hv⟩ := hcell k h1
      have hvt := v.toNat_lt
      have hk0 : (0 : Int) ≤ (k : Int) := by omega
      have hk1 : (k : Int) < (len : Int) := by omega
      clear hcell
      have hand := i64_and30
      go_wp2
      go_round
      case rel => exact ⟨k + 1, _, by omega, by omega, by go_num, rfl, by omega, by omega⟩
      case measure => simp [intOf]; omega
    · go_wp2
      all_goals
        go_ret
        refine ⟨rfl, ?_, World.grownBy_alloc _ _ _⟩
        refine ⟨a, len, cap, 0, x, heap_alloc_new _ _, by omega, hl, HC.out.1, hB, fun hp => ?_⟩
        obtain ⟨b, off, e, hb, hcell⟩ := HC.out.2 hp
        exact ⟨b, off, e, hb, fun k hk => by
          obtain ⟨v, hv⟩ := hcell k hk
          exact ⟨v, by rw [World.cell?_alloc_lt _ _ ⟨b, off + k, none⟩ (by exact Nat.lt_of_lt_of_le hb hB)]; exact hv⟩⟩

set_option maxHeartbeats 400000 in
/-- One number of a list of constants that the call itself has laid. -/
theorem dPick (B g L n : Nat) (xs : List Int) (w : World) (hc : Cur B w g) (hn : 0 < n) (hn2 : n ≤ 1000) (hlen : xs.length = n) (hL : w.heap[L]? = some (.cells (xs.map (Value.int .i64)).toArray 3 (0, 0))) (hne : L ≠ g)
    (hx : ∀ x ∈ xs, -9223372036854775808 ≤ x ∧ x ≤ 9223372036854775807) :
    Calls Tryz.prog 127 #[.pointer (some ⟨g, 0, none⟩), .slice (some ⟨L, 0, none⟩) n n] w fun e w' => ∃ x : Int, -9223372036854775808 ≤ x ∧ x ≤ 9223372036854775807 ∧ e = .returned (.int .i64 x) ∧ Cur B w' g ∧ w.grownBy w' (some g) := by
  have HC := Lib.hid hc
  have HL := Lib.hid hL
  have HX := Lib.hid hx
  have HLEN := Lib.hid hlen
  clear hc hL hx hlen
  go_enter Tryz.func127, Tryz.ntmps127
  go_wp2_with fail
  refine (dBelow B g n _ HC.out (by omega) (by omega)).mono ?_
  rintro e w1 ⟨x, hx0, hx1, rfl, hc1, hg1⟩
  have HC1 := Lib.hid hc1
  have HG1 := Lib.hid hg1
  clear hc1 hg1
  obtain ⟨j, rfl⟩ := Int.eq_ofNat_of_zero_le hx0
  have hj : j < xs.length := by rw [HLEN.out]; omega
  have hcell : ∃ X : Int, (-9223372036854775808 ≤ X ∧ X ≤ 9223372036854775807) ∧ w1.cell? ⟨L, j, none⟩ = some (.int .i64 X) := by
    refine ⟨xs[j], HX.out _ (List.getElem_mem hj), ?_⟩
    have hlt := (Array.getElem?_eq_some_iff.1 HL.out).1
    have h1 := (HG1.out.block L hlt (fun e => hne (Option.some.inj e))).trans HL.out
    rw [cell_of_row w1 L j _ _ _ h1]
    simp [hj]
  obtain ⟨X, hb, hX⟩ := hcell
  have HB := Lib.hid hb
  clear hb hj
  go_wp2
  go_ret
  exact ⟨_, HB.out.1, HB.out.2, rfl, HC1.out, HG1.out⟩

theorem mul_bd (y z : Int) (h1 : 0 ≤ y) (h2 : y < 1000000000) (h3 : 0 ≤ z) (h4 : z < 1000000000) : 0 ≤ y * z ∧ y * z ≤ 1000000000000000000 := by
  refine ⟨Int.mul_nonneg h1 h3, ?_⟩
  have := Int.mul_le_mul (Int.le_of_lt h2) (Int.le_of_lt h4) h3 (by omega)
  omega

/-- What is written into a row of the call's own counts as new. -/
theorem grow_new {w w1 w2 : World} {r r' : Option Nat} (h : w.grownBy w1 r) (k : w1.grownBy w2 r') (hr : ∀ j, r' = some j → w.heap.size ≤ j) : w.grownBy w2 r :=
  ⟨k.os.trans h.os, k.tape.trans h.tape, k.output.trans h.output, Nat.le_trans h.size k.size, fun i hi hne => (k.block i (Nat.lt_of_lt_of_le hi h.size) (fun e => by have := hr i e.symm; omega)).trans (h.block i hi hne)⟩
theorem row_of_u8 (x : Int) (h0 : 0 ≤ x) (h1 : x ≤ 255) : Value.int .u8 x = B (UInt8.ofNat x.toNat) := by
  unfold B
  congr 1
  simp
  omega

theorem code_of_row {w : World} {a : Option Addr} {len cap : Nat} {zs : List Int} (h : IsRow .u8 w a len cap zs) : Code w.heap.size w a len cap := by
  rcases h with ⟨rfl, rfl, rfl, rfl⟩ | ⟨x, rfl, h1, h2, h3, h4, h5⟩
  · exact ⟨Nat.le_refl _, fun h => absurd h (by omega)⟩
  · refine ⟨h1, fun hp => ?_⟩
    obtain ⟨b, off, spot⟩ := x
    have hc := h4 0 (by omega)
    have hspot : spot = none := by simpa [Addr.add] using World.cell?_spot hc
    subst hspot
    have hb : b < w.heap.size := World.block_lt_of_cell? w _ (by simpa [Addr.add] using hc)
    refine ⟨b, off, rfl, hb, fun k hk => ?_⟩
    have hk' : k < zs.length := by omega
    have hz := bounds_u8 (h5 (zs.getD k 0) (by rw [List.getD_eq_getElem?_getD, List.getElem?_eq_getElem hk']; exact List.getElem_mem _))
    refine ⟨UInt8.ofNat (zs.getD k 0).toNat, ?_⟩
    rw [← Addr.add_lit, h4 k hk']
    generalize zs.getD k 0 = q at *
    congr 2
    simp
    omega
end

section
open Go.RowKit

theorem cell_guard : Tryz.prog.eqGuardType Tryz.prog.depth 40 = false := by kernel_rfl
theorem cell_held : Tryz.prog.stoodInHeld 40 = false := by kernel_rfl
theorem cell_struct : Tryz.prog.underlying 40 = some (.struct (Tryz.prog.fieldsOf 40)) := by kernel_rfl
theorem cell_fields : (Tryz.prog.fieldsOf 40).toList.map (fun f => (f.name, f.type, f.offset)) = [("X", 3, 0), ("Y", 3, 1)] := by kernel_rfl
theorem int_plain : (Tryz.prog.underlying 3) = some (.int .i64) := Tryz.underlying3
def sameC (a b : Cl) : Bool := decide (a = b)
theorem sameC_eq (x y u v : Int) : sameC (x, y) (u, v) = ((x == u) && (y == v)) := by
  unfold sameC
  rw [Bool.eq_iff_iff]
  simp
theorem part_int (cs : Array Value) (off : Nat) (v : Value) (h : cs[off]? = some v) (w : World) : (part 3 cs off).run Tryz.prog w = .ok v w := by
  unfold part
  simp [go_sem, h]

theorem part_0 (a b : Value) (w : World) : (part 3 #[a, b] 0).run Tryz.prog w = .ok a w := part_int _ _ _ rfl w
theorem part_1 (a b : Value) (w : World) : (part 3 #[a, b] 1).run Tryz.prog w = .ok b w := part_int _ _ _ rfl w
theorem cell_eq (x y u v : Int) (w : World) : (Op.equalIn 10000 40 (.agg #[.int .i64 x, .int .i64 y]) (.agg #[.int .i64 u, .int .i64 v])).run Tryz.prog w = .ok (sameC (x, y) (u, v)) w := by
  rw [run_equalIn_struct w 9999 40 _ _ cell_struct cell_held, sameC_eq]
  have h := cell_fields
  generalize (Tryz.prog.fieldsOf 40).toList = fs at h
  match fs, h with
  | [], h => simp at h
  | [_], h => simp at h
  | _ :: _ :: _ :: _, h => simp at h
  | [f, g], h =>
    simp only [List.map_cons, List.map_nil, List.cons.injEq, Prod.mk.injEq, and_true] at h
    obtain ⟨⟨h1, h2, h3⟩, h4, h5, h6⟩ := h
    simp only [Op.eqFields, h1, h2, h3, h4, h5, h6]
    have n1 : ("X" ≠ "_") = True := eq_true (by decide)
    have n2 : ("Y" ≠ "_") = True := eq_true (by decide)
    simp only [n1, n2, if_true, Sem.run_bind, part_0, Result.andThen_ok]
    by_cases hx : x = u <;> by_cases hy : y = v <;> simp [hx, hy, Sem.run_bind, part_1, run_equalIn_int w 9998 3 .i64 .i64 _ _ int_plain]

theorem eql_cell (x y u v : Int) (w : World) : (binOp .eql 40 (.agg #[.int .i64 x, .int .i64 y]) (.agg #[.int .i64 u, .int .i64 v])).run Tryz.prog w = .ok (.bool (sameC (x, y) (u, v))) w := by
  rw [run_eql_struct, cell_eq]; rfl
theorem neq_cell (x y u v : Int) (w : World) : (binOp .neq 40 (.agg #[.int .i64 x, .int .i64 y]) (.agg #[.int .i64 u, .int .i64 v])).run Tryz.prog w = .ok (.bool (!sameC (x, y) (u, v))) w := by
  rw [run_neq_struct, cell_eq]; rfl
end

section
open Go.RowKit

theorem take_any (l : List Cl) (p : Cl → Bool) (k : Nat) (h : k < l.length) : (l.take (k + 1)).any p = ((l.take k).any p || p (l.getD k (0, 0))) := by
  rw [List.take_succ_eq_append_getElem h, List.any_append]
  simp [List.getD, h]
theorem any_yes {l : List Cl} {p : Cl → Bool} {k : Nat} (h : k < l.length) (hp : p (l.getD k (0, 0)) = true) : l.any p = true := by
  rw [List.any_eq_true]
  refine ⟨l[k], List.getElem_mem h, ?_⟩
  simpa [List.getD, h] using hp

set_option maxHeartbeats 1000000 in
set_option maxRecDepth 100000 in
theorem sHasCell (B n cap : Nat) (a : Option Addr) (l : List Cl) (p q : Int) (w : World) (hn : n ≤ 4194304) (hc : CellsAt B w a n l) :
    Calls Tryz.prog 194 #[.slice a n cap, .int .i64 p, .int .i64 q] w fun e w' => e = .returned (.bool (hasC l p q)) ∧ w = w' := by
  have H := Lib.hid hc
  clear hc
  go_enter Tryz.func194, Tryz.ntmps194
  go_wp2
  go_loopw [7] (fun i wr => ∃ k : Nat, k ≤ n ∧ i = .int .i64 k ∧ Hid ((l.take k).any (cellIs p q) = false) ∧ wr = w) (fun i _ => n - (intOf i).toNat)
  case atStart => exact ⟨0, by omega, rfl, by simp [Hid], rfl⟩
  case round =>
    obtain ⟨k, hk, rfl, hno, rfl⟩ := hrel
    by_cases hlt : k < n
    · obtain ⟨b1, o1, rfl, hb1, hc1⟩ := H.out.2.2 (by omega)
      obtain ⟨x, y, hxy⟩ : ∃ x y, l.getD k (0, 0) = (x, y) := ⟨_, _, rfl⟩
      have p1 := (hc1 k hlt).1
      have p2 := (hc1 k hlt).2
      rw [hxy] at p1 p2
      have HX := Lib.hid hxy
      have hk0 : (0 : Int) ≤ (k : Int) := by omega
      have hk1 : (k : Int) < (n : Int) := by omega
      clear hxy hc1
      by_cases hA : x = p ∧ y = q
      · obtain ⟨rfl, rfl⟩ := hA
        have hyes : hasC l x y = true := any_yes (by rw [H.out.1]; exact hlt) (by rw [HX.out]; simp [cellIs])
        go_wp2
        go_ret
        exact ⟨by first | rfl | (rw [hyes]; rfl), rfl⟩
      · have hno2 : (l.take (k + 1)).any (cellIs p q) = false := by
          rw [take_any l _ k (by rw [H.out.1]; exact hlt), hno.out, HX.out]
          simp only [cellIs, Bool.false_or]
          simpa using hA
        by_cases h1 : x = p
        · have h2 : (y == q) = false := by simp; intro e; exact hA ⟨h1, e⟩
          subst h1
          clear hA
          go_wp2
          go_roundw
          case rel => exact ⟨k + 1, by omega, by go_num, hno2, trivial⟩
          case measure => simp [intOf]; omega
        · have h2 : (x == p) = false := by simp; exact h1
          clear hA h1
          go_wp2
          go_roundw
          case rel => exact ⟨k + 1, by omega, by go_num, hno2, trivial⟩
          case measure => simp [intOf]; omega
    · obtain rfl : k = n := by omega
      have he : hasC l p q = false := by
        have := hno.out
        rwa [List.take_of_length_le (by rw [H.out.1]; exact Nat.le_refl _)] at this
      go_wp2
      go_ret
      exact ⟨by first | rfl | (rw [he]; rfl), rfl⟩

theorem sq_bd (x : Int) (h1 : -7 ≤ x) (h2 : x ≤ 7) : 0 ≤ x * x ∧ x * x ≤ 49 := by
  rcases Int.le_total 0 x with h | h
  · exact ⟨Int.mul_nonneg h h, Int.le_trans (Int.mul_le_mul h2 h2 h (by omega)) (by omega)⟩
  · have h3 : 0 ≤ (-x) * (-x) := Int.mul_nonneg (by omega) (by omega)
    have h4 : (-x) * (-x) ≤ 7 * 7 := Int.mul_le_mul (by omega) (by omega) (by omega) (by omega)
    rw [Int.neg_mul_neg] at h3 h4
    omega

set_option maxHeartbeats 1000000 in
set_option maxRecDepth 100000 in
theorem sEqual_same (B n c1 c2 : Nat) (a1 a2 : Option Addr) (l r : List Cl) (w : World) (hn : n ≤ 4194304) (h1 : CellsAt B w a1 n l) (h2 : CellsAt B w a2 n r) (hB : B ≤ w.heap.size) :
    Calls Tryz.prog 30 #[.slice a1 n c1, .slice a2 n c2] w fun e w' => e = .returned (.bool (eqb l r)) ∧ Below w.heap.size w w' := by
  have H1 := Lib.hid h1
  have H2 := Lib.hid h2
  clear h1 h2
  have hne : (((n : Nat) : Int) != (n : Int)) = false := by simp
  go_enter Tryz.func30, Tryz.ntmps30
  go_wp2
  go_loopw [5] (fun i wr => ∃ k : Nat, k ≤ n ∧ i = .int .i64 k ∧ Hid (l.take k = r.take k) ∧ Below w.heap.size w wr) (fun i _ => n - (intOf i).toNat)
  case atStart => exact ⟨0, by omega, rfl, by simp [Hid], Below.refl _ _⟩
  case round =>
    obtain ⟨k, hk, rfl, hsame, hb⟩ := hrel
    have hsz := hb.size
    by_cases hlt : k < n
    · obtain ⟨b1, o1, rfl, hb1, hc1⟩ := H1.out.2.2 (by omega)
      obtain ⟨b2, o2, rfl, hb2, hc2⟩ := H2.out.2.2 (by omega)
      obtain ⟨x, y, hxy⟩ : ∃ x y, l.getD k (0, 0) = (x, y) := ⟨_, _, rfl⟩
      obtain ⟨u, v, huv⟩ : ∃ u v, r.getD k (0, 0) = (u, v) := ⟨_, _, rfl⟩
      have p1 := (hb.cell (p := ⟨b1, o1 + k * 2, none⟩) (Nat.lt_of_lt_of_le hb1 hB)).trans (hc1 k hlt).1
      have p2 := (hb.cell (p := ⟨b1, o1 + k * 2 + 1, none⟩) (Nat.lt_of_lt_of_le hb1 hB)).trans (hc1 k hlt).2
      have q1 := (hb.cell (p := ⟨b2, o2 + k * 2, none⟩) (Nat.lt_of_lt_of_le hb2 hB)).trans (hc2 k hlt).1
      have q2 := (hb.cell (p := ⟨b2, o2 + k * 2 + 1, none⟩) (Nat.lt_of_lt_of_le hb2 hB)).trans (hc2 k hlt).2
      rw [hxy] at p1 p2
      rw [huv] at q1 q2
      have HX := Lib.hid hxy
      have HU := Lib.hid huv
      have hk0 : (0 : Int) ≤ (k : Int) := by omega
      have hk1 : (k : Int) < (n : Int) := by omega
      have hE := neq_cell x y u v
      have hG := cell_guard
      clear hc1 hc2 hxy huv
      go_wp2_with fail
      go_quiet (fail)
      go_wp2
      all_goals
        rename_i hcase
        clear hE hG
        simp [sameC] at hcase
        first
          | (have hd : l.getD k (0, 0) ≠ r.getD k (0, 0) := by
               rw [HX.out, HU.out]
               intro e
               injection e with e1 e2
               subst e1 e2
               simp at hcase
             go_ret
             exact ⟨by rw [eqb_no hd]; rfl, below_drewn hb _⟩)
          | (have hd : l.getD k (0, 0) = r.getD k (0, 0) := by
               rw [HX.out, HU.out, hcase.1, hcase.2]
             have hst := take_same l r k (by have := H1.out.1; omega) (by have := H2.out.1; omega) hsame.out hd
             go_roundw
             case rel => exact ⟨k + 1, by omega, by go_num, hst, below_drewn hb _⟩
             case measure => simp [intOf]; omega)
    · go_wp2
      go_ret
      have e : l = r := by
        have h := hsame.out
        rwa [List.take_of_length_le (by have := H1.out.1; omega), List.take_of_length_le (by have := H2.out.1; omega)] at h
      exact ⟨by rw [eqb, e]; simp, hb⟩

theorem sEqual_any (B n m c1 c2 : Nat) (a1 a2 : Option Addr) (l r : List Cl) (w : World) (hn : n ≤ 4194304) (hm : m ≤ 4194304) (h1 : CellsAt B w a1 n l) (h2 : CellsAt B w a2 m r) (hB : B ≤ w.heap.size) :
    Calls Tryz.prog 30 #[.slice a1 n c1, .slice a2 m c2] w fun e w' => e = .returned (.bool (eqb l r)) ∧ Below w.heap.size w w' := by
  by_cases hnm : n = m
  · subst hnm
    exact sEqual_same B n c1 c2 a1 a2 l r w hn h1 h2 hB
  · have hne : (((n : Nat) : Int) != (m : Int)) = true := by rw [bne_iff_ne]; omega
    have he : eqb l r = false := by
      unfold eqb
      simp
      intro e
      have a := h1.1
      have b := h2.1
      rw [e] at a
      omega
    rw [he]
    clear he hnm h1 h2
    go_enter Tryz.func30, Tryz.ntmps30
    go_wp2
    go_ret
    exact ⟨rfl, Below.refl _ _⟩
end

end Go.Proofs.YtailmmamgnebhaaGreatDoor
