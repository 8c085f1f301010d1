/-
  The reader of drawn inputs: a block of three cells over the bytes that came in. What a byte and a number below a bound give.
  Drawn numbers and texts: what the drawing functions give, said as bounds.
  Drawn shapes: a shape grown cell by cell.
-/
import Derived.Test.YtkjlmgkjcmebbaaGreatDoorWab
import Derived.OpenShut
import Derived.Deep.Draws
import Derived.Test.YtkjlmgkjcmebbaaGreatDoorWac
namespace Go.Proofs.YtkjlmgkjcmebbaaGreatDoor

section
open Go.RowKit

theorem one_new (wr : World) (T : TypeId) (u : Value) : ∀ j v, [u][j]? = some v → (wr.alloc (.cells #[u] T)).cell? ((⟨wr.heap.size, 0, none⟩ : Addr).add j) = some v := by
  intro j v hj
  match j, hj with
  | 0, hj => simp at hj; subst hj; exact World.cell?_alloc_at _ _ _ _ rfl
theorem one_one (u : Value) (h : u.oneCell' = true) : ∀ v ∈ [u], v.oneCell' = true := by
  intro v hv; simp at hv; subst hv; exact h

theorem map_snoc (l : List UInt8) (b : UInt8) : l.map B ++ [B b] = (l ++ [b]).map B := by simp


/-- Block g is a reader over bytes that lie below block B. -/
def Cur (B : Nat) (w : World) (g : Nat) : Prop :=
  ∃ (a : Option Addr) (len cap i : Nat) (h : Int), w.heap[g]? = some (.cells #[.slice a len cap, .int .i64 i, .int .i64 h] 130 (0, 0)) ∧ i ≤ len ∧ len ≤ 1048576 ∧ len ≤ cap ∧ B ≤ g ∧
    (0 < len → ∃ b off, a = some ⟨b, off, none⟩ ∧ b < B ∧ ∀ k, k < len → ∃ v : UInt8, w.cell? ⟨b, off + k, none⟩ = some (.int .u8 (v.toNat : Int)))

theorem i64_and255 (n : Int) : bits .and .i64 n 255 = n % 256 := by
  have h255 : (BitVec.ofInt 64 255).toNat = 2 ^ 8 - 1 := by decide
  have key : (BitVec.ofInt 64 n &&& BitVec.ofInt 64 255).toNat = (n % ((2 ^ 64 : Nat) : Int)).toNat % 2 ^ 8 := by
    rw [BitVec.toNat_and, BitVec.toNat_ofInt, h255, Nat.and_two_pow_sub_one_eq_mod]
  show IntKind.i64.wrap ((BitVec.ofInt 64 n &&& BitVec.ofInt 64 255).toNat : Nat) = n % 256
  rw [key, IntKind.wrap_i64]
  omega

theorem i64_and30 (n : Int) : bits .and .i64 n 1073741823 = n % 1073741824 := by
  have h255 : (BitVec.ofInt 64 1073741823).toNat = 2 ^ 30 - 1 := by decide
  have key : (BitVec.ofInt 64 n &&& BitVec.ofInt 64 1073741823).toNat = (n % ((2 ^ 64 : Nat) : Int)).toNat % 2 ^ 30 := by
    rw [BitVec.toNat_and, BitVec.toNat_ofInt, h255, Nat.and_two_pow_sub_one_eq_mod]
  show IntKind.i64.wrap ((BitVec.ofInt 64 n &&& BitVec.ofInt 64 1073741823).toNat : Nat) = n % 1073741824
  rw [key, IntKind.wrap_i64]
  omega

theorem grow_set {w w' : World} {g j : Nat} {v : Value} (h : w.grownBy w' (some g)) : w.grownBy (w'.setCell ⟨g, j, none⟩ v) (some g) :=
  ⟨h.os, h.tape, h.output, by simpa [World.setCell] using h.size, fun k hk hne => (Below.heap_setCell w' ⟨g, j, none⟩ v k (fun e => hne (by rw [e]))).trans (h.block k hk hne)⟩
theorem grow_drewN {w w' : World} {r : Option Nat} (h : w.grownBy w' r) (n : Nat) : w.grownBy (w'.drewN n) r := ⟨h.os, h.tape, h.output, h.size, h.block⟩
theorem grow_trans {a b c : World} {r : Option Nat} (h : a.grownBy b r) (k : b.grownBy c r) : a.grownBy c r :=
  ⟨k.os.trans h.os, k.tape.trans h.tape, k.output.trans h.output, Nat.le_trans h.size k.size, fun i hi hne => (k.block i (Nat.lt_of_lt_of_le hi h.size) hne).trans (h.block i hi hne)⟩
theorem below_grow {B g : Nat} {w w' : World} (h : w.grownBy w' (some g)) (hB : B ≤ g) (hs : B ≤ w.heap.size) : Below B w w' :=
  (Below.refl B w).grown h hs (fun k e => by cases e; exact hB)

def SameMem (w w' : World) : Prop := w'.heap = w.heap ∧ w'.os = w.os ∧ w'.tape = w.tape ∧ w'.output = w.output
theorem SameMem.grow {w w1 w' : World} {r : Option Nat} (h : SameMem w1 w') (k : w.grownBy w1 r) : w.grownBy w' r :=
  ⟨h.2.1.trans k.os, h.2.2.1.trans k.tape, h.2.2.2.trans k.output, by rw [h.1]; exact k.size, fun i hi hne => by rw [h.1]; exact k.block i hi hne⟩
set_option maxHeartbeats 1000000 in
set_option maxRecDepth 100000 in
theorem dByte_end (g cap n : Nat) (a : Option Addr) (i : Nat) (h : Int) (w : World) (hi : n ≤ i) (h0 : w.cell? ⟨g, 0, none⟩ = some (.slice a n cap)) (h1 : w.cell? ⟨g, 1, none⟩ = some (.int .i64 i)) (h2 : w.cell? ⟨g, 2, none⟩ = some (.int .i64 h)) (hf : w.frozen? ⟨g, 2, none⟩ = false) :
    Calls Tryz.prog 133 #[.pointer (some ⟨g, 0, none⟩)] w fun e w' => ∃ (x h' : Int), 0 ≤ x ∧ x ≤ 255 ∧ e = .returned (.int .i64 x) ∧ SameMem (w.setCell ⟨g, 2, none⟩ (.int .i64 h')) w' := by
  go_enter Tryz.func133, Tryz.ntmps133
  have hb255 := i64_and255
  go_wp2
  go_quiet (fail)
  go_wp2
  go_quiet (fail)
  go_wp2
  go_ret
  exact ⟨_, _, by omega, by omega, rfl, rfl, rfl, rfl, rfl⟩

set_option maxHeartbeats 1000000 in
set_option maxRecDepth 100000 in
theorem dByte_more (g cap n b off : Nat) (i : Nat) (h : Int) (v : UInt8) (w : World) (hi : i < n) (hn : n ≤ 1048576) (h0 : w.cell? ⟨g, 0, none⟩ = some (.slice (some ⟨b, off, none⟩) n cap)) (h1 : w.cell? ⟨g, 1, none⟩ = some (.int .i64 i)) (h2 : w.cell? ⟨g, 2, none⟩ = some (.int .i64 h)) (hf : w.frozen? ⟨g, 2, none⟩ = false) (hf1 : w.frozen? ⟨g, 1, none⟩ = false)
    (hc : w.cell? ⟨b, off + i, none⟩ = some (.int .u8 (v.toNat : Int))) (hne : b ≠ g) :
    Calls Tryz.prog 133 #[.pointer (some ⟨g, 0, none⟩)] w fun e w' => ∃ (x h' : Int), 0 ≤ x ∧ x ≤ 255 ∧ e = .returned (.int .i64 x) ∧ SameMem ((w.setCell ⟨g, 2, none⟩ (.int .i64 h')).setCell ⟨g, 1, none⟩ (.int .i64 ((i : Int) + 1))) w' := by
  have hv := v.toNat_lt
  have hi0 : (0 : Int) ≤ (i : Int) := by omega
  have hi1 : (i : Int) < (n : Int) := by omega
  go_enter Tryz.func133, Tryz.ntmps133
  have hb255 := i64_and255
  go_wp2
  go_quiet (fail)
  go_wp2
  go_quiet (fail)
  go_wp2
  go_quiet (fail)
  go_wp2
  go_ret
  exact ⟨_, _, by omega, by omega, rfl, rfl, rfl, rfl, rfl⟩

/-- A byte of a reader: a number from 0 to 255; only the reader's own block changes. -/
theorem dByte (B g : Nat) (w : World) (hc : Cur B w g) :
    Calls Tryz.prog 133 #[.pointer (some ⟨g, 0, none⟩)] w fun e w' => ∃ x : Int, 0 ≤ x ∧ x ≤ 255 ∧ e = .returned (.int .i64 x) ∧ Cur B w' g ∧ w.grownBy w' (some g) := by
  obtain ⟨a, len, cap, i, h, hh, hi, hl, hlc, hBg, hrd⟩ := hc
  have h0 : w.cell? ⟨g, 0, none⟩ = some (.slice a len cap) := cell_of_row w g 0 _ _ _ hh
  have h1 : w.cell? ⟨g, 1, none⟩ = some (.int .i64 i) := cell_of_row w g 1 _ _ _ hh
  have h2 : w.cell? ⟨g, 2, none⟩ = some (.int .i64 h) := cell_of_row w g 2 _ _ _ hh
  have hf1 : w.frozen? ⟨g, 1, none⟩ = false := by simp [World.frozen?, hh]
  have hf2 : w.frozen? ⟨g, 2, none⟩ = false := by simp [World.frozen?, hh]
  have far : ∀ (w1 : World), w.grownBy w1 (some g) → (0 < len → ∃ b off, a = some ⟨b, off, none⟩ ∧ b < B ∧ ∀ k, k < len → ∃ v : UInt8, w1.cell? ⟨b, off + k, none⟩ = some (.int .u8 (v.toNat : Int))) := fun w1 hg hp => by
    obtain ⟨b, off, e, hb, hcell⟩ := hrd hp
    exact ⟨b, off, e, hb, fun k hk => by
      obtain ⟨v, hv⟩ := hcell k hk
      exact ⟨v, hg.cell hv (fun e => by have h9 : b = g := Option.some.inj e; omega)⟩⟩
  by_cases hlt : i < len
  · obtain ⟨b, off, rfl, hb, hcell⟩ := hrd (by omega)
    obtain ⟨v, hv⟩ := hcell i hlt
    refine (dByte_more g cap len b off i h v w hlt hl h0 h1 h2 hf2 hf1 hv (by omega)).mono ?_
    rintro e w' ⟨x, h', hx0, hx1, rfl, hs⟩
    have hg : w.grownBy w' (some g) := hs.grow (grow_set (grow_set (World.grownBy.refl w (some g))))
    refine ⟨x, hx0, hx1, rfl, ⟨_, len, cap, i + 1, h', ?_, by omega, hl, hlc, hBg, far w' hg⟩, hg⟩
    rw [hs.1, set_row (set_row hh 2 _) 1 _]
    rfl
  · refine (dByte_end g cap len a i h w (by omega) h0 h1 h2 hf2).mono ?_
    rintro e w' ⟨x, h', hx0, hx1, rfl, hs⟩
    have hg : w.grownBy w' (some g) := hs.grow (grow_set (World.grownBy.refl w (some g)))
    refine ⟨x, hx0, hx1, rfl, ⟨a, len, cap, i, h', ?_, hi, hl, hlc, hBg, far w' hg⟩, hg⟩
    rw [hs.1, set_row hh 2 _]
    rfl

theorem tmod_bd (x n : Int) (hn : 0 < n) : 0 ≤ x % n ∧ x % n < n := ⟨Int.emod_nonneg _ (by omega), Int.emod_lt_of_pos _ hn⟩

set_option maxHeartbeats 1000000 in
/-- A number below n. -/
theorem dBelow (B g : Nat) (n : Int) (w : World) (hc : Cur B w g) (hn : 0 < n) (hn2 : n ≤ 4294967296) :
    Calls Tryz.prog 131 #[.pointer (some ⟨g, 0, none⟩), .int .i64 n] w fun e w' => ∃ x : Int, 0 ≤ x ∧ x < n ∧ e = .returned (.int .i64 x) ∧ Cur B w' g ∧ w.grownBy w' (some g) := by
  have HC := Lib.hid hc
  clear hc
  by_cases h256 : n ≤ 256
  · go_enter Tryz.func131, Tryz.ntmps131
    go_wp2_with fail
    refine (dByte B g _ HC.out).mono ?_
    rintro e w1 ⟨x, hx0, hx1, rfl, hc1, hg1⟩
    have HC1 := Lib.hid hc1
    have HG1 := Lib.hid hg1
    have hm := tmod_bd x n hn
    have HM := Lib.hid hm
    clear hc1 hg1 hm
    go_wp2
    go_ret
    exact ⟨_, HM.out.1, HM.out.2, rfl, HC1.out, HG1.out⟩
  · go_enter Tryz.func131, Tryz.ntmps131
    go_wp2_with fail
    refine (dByte B g _ HC.out).mono ?_
    rintro e w1 ⟨x1, hx0, hx1, rfl, hc1, hg1⟩
    have HC1 := Lib.hid hc1
    have HG1 := Lib.hid hg1
    clear hc1 hg1
    go_wp2_with fail
    refine (dByte B g _ HC1.out).mono ?_
    rintro e w2 ⟨x2, hy0, hy1, rfl, hc2, hg2⟩
    have HC2 := Lib.hid hc2
    have HG2 := Lib.hid hg2
    clear hc2 hg2
    go_wp2_with fail
    refine (dByte B g _ HC2.out).mono ?_
    rintro e w3 ⟨x3, hz0, hz1, rfl, hc3, hg3⟩
    have HC3 := Lib.hid hc3
    have HG3 := Lib.hid hg3
    clear hc3 hg3
    go_wp2_with fail
    refine (dByte B g _ HC3.out).mono ?_
    rintro e w4 ⟨x4, hu0, hu1, rfl, hc4, hg4⟩
    have HC4 := Lib.hid hc4
    have HG4 := Lib.hid hg4
    have HM := Lib.hid (tmod_bd (x1 * 16777216 + x2 * 65536 + x3 * 256 + x4) n hn)
    clear hc4 hg4
    go_wp2
    go_ret
    exact ⟨_, HM.out.1, HM.out.2, rfl, HC4.out, grow_trans (grow_trans (grow_trans HG1.out HG2.out) HG3.out) HG4.out⟩
end

section
open Go.RowKit

/-- The bytes that came in, as the walks ask for them. -/
def Code (B : Nat) (w : World) (a : Option Addr) (len cap : Nat) : Prop :=
  len ≤ cap ∧ (0 < len → ∃ b off, a = some ⟨b, off, none⟩ ∧ b < B ∧ ∀ k, k < len → ∃ v : UInt8, w.cell? ⟨b, off + k, none⟩ = some (.int .u8 (v.toNat : Int)))
theorem Code.on {B : Nat} {w w' : World} {a : Option Addr} {len cap : Nat} (h : Code B w a len cap) (hb : Below B w w') : Code B w' a len cap :=
  ⟨h.1, fun hp => by
    obtain ⟨b, off, e, hlt, hc⟩ := h.2 hp
    exact ⟨b, off, e, hlt, fun k hk => by
      obtain ⟨v, hv⟩ := hc k hk
      exact ⟨v, (hb.cell (p := ⟨b, off + k, none⟩) hlt).trans hv⟩⟩⟩

theorem Cur.alloc {B g : Nat} {w : World} (h : Cur B w g) (o : Obj) : Cur B (w.alloc o) g := by
  obtain ⟨a, len, cap, i, hh, h1, h2, h3, h4, h5, h6⟩ := h
  have hg : g < w.heap.size := (Array.getElem?_eq_some_iff.1 h1).1
  refine ⟨a, len, cap, i, hh, (Below.heap_alloc w o g hg).trans h1, h2, h3, h4, h5, fun hp => ?_⟩
  obtain ⟨b, off, e, hlt, hc⟩ := h6 hp
  exact ⟨b, off, e, hlt, fun k hk => by
    obtain ⟨v, hv⟩ := hc k hk
    exact ⟨v, by rw [World.cell?_alloc_lt w o ⟨b, off + k, none⟩ (by exact Nat.lt_trans (Nat.lt_of_lt_of_le hlt h5) hg)]; exact hv⟩⟩
theorem Cur.lt {B g : Nat} {w : World} (h : Cur B w g) : B ≤ g ∧ g < w.heap.size := by
  obtain ⟨a, len, cap, i, hh, h1, _, _, _, h5, _⟩ := h
  exact ⟨h5, (Array.getElem?_eq_some_iff.1 h1).1⟩
/-- A reader stays one while other blocks are written. -/
theorem Cur.grown {B g : Nat} {w w' : World} {r : Option Nat} (h : Cur B w g) (hg : w.grownBy w' r) (hr : ∀ k, r = some k → B ≤ k ∧ k ≠ g) : Cur B w' g := by
  obtain ⟨a, len, cap, i, hh, h1, h2, h3, h4, h5, h6⟩ := h
  have hlt : g < w.heap.size := (Array.getElem?_eq_some_iff.1 h1).1
  refine ⟨a, len, cap, i, hh, (hg.block g hlt (fun e => (hr g e.symm).2 rfl)).trans h1, h2, h3, h4, h5, fun hp => ?_⟩
  obtain ⟨b, off, e, hb, hc⟩ := h6 hp
  exact ⟨b, off, e, hb, fun k hk => by
    obtain ⟨v, hv⟩ := hc k hk
    exact ⟨v, hg.cell hv (fun e => by have := hr b e.symm; omega)⟩⟩

set_option maxHeartbeats 1000000 in
set_option maxRecDepth 100000 in
theorem dNew (B : Nat) (a : Option Addr) (len cap : Nat) (w : World) (hc : Code B w a len cap) (hl : len ≤ 1048576) (hB : B ≤ w.heap.size) :
    Calls Tryz.prog 87 #[.slice a len cap] w fun e w' => e = .returned (.pointer (some ⟨w.heap.size, 0, none⟩)) ∧ Cur B w' w.heap.size ∧ w.grownBy w' none := by
  have HC := Lib.hid hc
  clear hc
  go_enter Tryz.func87, Tryz.ntmps87
  go_wp2
  go_loop [3, 4] (fun h i => ∃ (k : Nat) (x : Int), k ≤ len ∧ k ≤ 4000 ∧ i = .int .i64 k ∧ h = .int .i64 x ∧ 0 ≤ x ∧ x ≤ 1073741823) (fun _ i => 4000 - (intOf i).toNat)
  case atStart => exact ⟨0, _, by omega, by omega, rfl, rfl, by omega, by omega⟩
  case round =>
    obtain ⟨k, x, hk, hk4, rfl, rfl, hx0, hx1⟩ := hrel
    by_cases hlt : k < len ∧ k < 4000
    · obtain ⟨h1, h2⟩ := hlt
      obtain ⟨b, off, rfl, hb, hcell⟩ := HC.out.2 (by omega)
      obtain ⟨v, hv⟩ := hcell k h1
      have hvt := v.toNat_lt
      have hk0 : (0 : Int) ≤ (k : Int) := by omega
      have hk1 : (k : Int) < (len : Int) := by omega
      clear hcell
      have hand := i64_and30
      go_wp2
      go_round
      case rel => exact ⟨k + 1, _, by omega, by omega, by go_num, rfl, by omega, by omega⟩
      case measure => simp [intOf]; omega
    · go_wp2
      all_goals
        go_ret
        refine ⟨rfl, ?_, World.grownBy_alloc _ _ _⟩
        refine ⟨a, len, cap, 0, x, heap_alloc_new _ _, by omega, hl, HC.out.1, hB, fun hp => ?_⟩
        obtain ⟨b, off, e, hb, hcell⟩ := HC.out.2 hp
        exact ⟨b, off, e, hb, fun k hk => by
          obtain ⟨v, hv⟩ := hcell k hk
          exact ⟨v, by rw [World.cell?_alloc_lt _ _ ⟨b, off + k, none⟩ (by exact Nat.lt_of_lt_of_le hb hB)]; exact hv⟩⟩

set_option maxHeartbeats 400000 in
/-- One number of a list of constants that the call itself has laid. -/
theorem dPick (B g L n : Nat) (xs : List Int) (w : World) (hc : Cur B w g) (hn : 0 < n) (hn2 : n ≤ 1000) (hlen : xs.length = n) (hL : w.heap[L]? = some (.cells (xs.map (Value.int .i64)).toArray 3 (0, 0))) (hne : L ≠ g)
    (hx : ∀ x ∈ xs, -9223372036854775808 ≤ x ∧ x ≤ 9223372036854775807) :
    Calls Tryz.prog 134 #[.pointer (some ⟨g, 0, none⟩), .slice (some ⟨L, 0, none⟩) n n] w fun e w' => ∃ x : Int, -9223372036854775808 ≤ x ∧ x ≤ 9223372036854775807 ∧ e = .returned (.int .i64 x) ∧ Cur B w' g ∧ w.grownBy w' (some g) := by
  have HC := Lib.hid hc
  have HL := Lib.hid hL
  have HX := Lib.hid hx
  have HLEN := Lib.hid hlen
  clear hc hL hx hlen
  go_enter Tryz.func134, Tryz.ntmps134
  go_wp2_with fail
  refine (dBelow B g n _ HC.out (by omega) (by omega)).mono ?_
  rintro e w1 ⟨x, hx0, hx1, rfl, hc1, hg1⟩
  have HC1 := Lib.hid hc1
  have HG1 := Lib.hid hg1
  clear hc1 hg1
  obtain ⟨j, rfl⟩ := Int.eq_ofNat_of_zero_le hx0
  have hj : j < xs.length := by rw [HLEN.out]; omega
  have hcell : ∃ X : Int, (-9223372036854775808 ≤ X ∧ X ≤ 9223372036854775807) ∧ w1.cell? ⟨L, j, none⟩ = some (.int .i64 X) := by
    refine ⟨xs[j], HX.out _ (List.getElem_mem hj), ?_⟩
    have hlt := (Array.getElem?_eq_some_iff.1 HL.out).1
    have h1 := (HG1.out.block L hlt (fun e => hne (Option.some.inj e))).trans HL.out
    rw [cell_of_row w1 L j _ _ _ h1]
    simp [hj]
  obtain ⟨X, hb, hX⟩ := hcell
  have HB := Lib.hid hb
  clear hb hj
  go_wp2
  go_ret
  exact ⟨_, HB.out.1, HB.out.2, rfl, HC1.out, HG1.out⟩

theorem mul_bd (y z : Int) (h1 : 0 ≤ y) (h2 : y < 1000000000) (h3 : 0 ≤ z) (h4 : z < 1000000000) : 0 ≤ y * z ∧ y * z ≤ 1000000000000000000 := by
  refine ⟨Int.mul_nonneg h1 h3, ?_⟩
  have := Int.mul_le_mul (Int.le_of_lt h2) (Int.le_of_lt h4) h3 (by omega)
  omega

/-- What is written into a row of the call's own counts as new. -/
theorem grow_new {w w1 w2 : World} {r r' : Option Nat} (h : w.grownBy w1 r) (k : w1.grownBy w2 r') (hr : ∀ j, r' = some j → w.heap.size ≤ j) : w.grownBy w2 r :=
  ⟨k.os.trans h.os, k.tape.trans h.tape, k.output.trans h.output, Nat.le_trans h.size k.size, fun i hi hne => (k.block i (Nat.lt_of_lt_of_le hi h.size) (fun e => by have := hr i e.symm; omega)).trans (h.block i hi hne)⟩
theorem row_of_u8 (x : Int) (h0 : 0 ≤ x) (h1 : x ≤ 255) : Value.int .u8 x = B (UInt8.ofNat x.toNat) := by
  unfold B
  congr 1
  simp
  omega

set_option maxHeartbeats 1000000 in
set_option maxRecDepth 100000 in
/-- A text of at most m bytes. -/
theorem dText (B0 g : Nat) (m : Int) (w : World) (hc : Cur B0 w g) (hm : 0 ≤ m) (hm2 : m ≤ 1000) :
    Calls Tryz.prog 132 #[.pointer (some ⟨g, 0, none⟩), .int .i64 m] w fun e w' => ∃ l : List UInt8, (l.length : Int) ≤ m ∧ e = .returned (S l) ∧ Cur B0 w' g ∧ w.grownBy w' (some g) := by
  obtain ⟨i0, hi, hz0, hz1, hz2⟩ := info_parts info_u8
  have hlt := hc.lt
  obtain ⟨hl1, hl2⟩ := hlt
  have HC := Lib.hid (hc.alloc (.cells #[] 5))
  clear hc
  go_enter Tryz.func132, Tryz.ntmps132
  go_wp2_with fail
  refine (dBelow B0 g 4 _ HC.out (by omega) (by omega)).mono ?_
  rintro e w1 ⟨st, hs0, hs1, rfl, hc1, hg1⟩
  have HC1 := Lib.hid hc1
  have HG1 := Lib.hid hg1
  clear hc1 hg1
  go_wp2_with fail
  refine (dBelow B0 g (m + 1) _ HC1.out (by omega) (by omega)).mono ?_
  rintro e w2 ⟨n, hn0, hn1, rfl, hc2, hg2⟩
  have HC2 := Lib.hid hc2
  have HG2 := Lib.hid hg2
  clear hc2 hg2
  go_wp2
  go_loopw [5, 7, 8] (fun v i _ wr => ∃ (k : Int) (l : List UInt8), 0 ≤ k ∧ (l.length : Int) + k ≤ m ∧ i = .int .i64 k ∧ wr.ownsRow w.heap.size 5 1 v l.length (l.map B) ∧ Hid (Cur B0 wr g) ∧ Hid (w.grownBy wr (some g)) ∧ w.heap.size < wr.heap.size) (fun _ i _ _ => (intOf i).toNat)
  case atStart =>
    have h0 := World.ownsRow_lit (base := w.heap.size) (e := 5) (size := 1) w #[] 0 (Nat.le_refl _) (by simp [maxLen]) rfl
    have h1 := h0.kept HG1.out (.inr (by intro e; have h9 : w.heap.size = g := Option.some.inj e; omega))
    have h2 := h1.kept HG2.out (.inr (by intro e; have h9 : w.heap.size = g := Option.some.inj e; omega))
    exact ⟨n, [], hn0, by simp; omega, rfl, by simpa using h2, HC2.out, grow_trans (World.grownBy_alloc _ _ _) (grow_trans HG1.out HG2.out), by have e1 := HG1.out.size; have e2 := HG2.out.size; simp at e1; omega⟩
  case round =>
    obtain ⟨k, l, hk, hlk, rfl, hown, hcr, hgr, hsz⟩ := hrel
    by_cases hpos : 0 < k
    · go_wp2_with fail
      refine (dByte B0 g _ hcr.out).mono ?_
      rintro e w3 ⟨x, hx0, hx1, rfl, hc3, hg3⟩
      have hown3 := hown.kept hg3 (.inr (by
        intro e
        have := (hown.lt g e).1
        omega))
      have hs3 := hg3.size
      have HC3 := Lib.hid hc3
      have HG3 := Lib.hid hg3
      clear hc3 hg3
      by_cases h1 : st = 1
      · subst h1
        go_wp2_with (first | (at_builtin; refine wpList_append_own _ rfl _ _ 22 rfl w.heap.size 5 i0 (.int .u8 0) 1 1 Tryz.underlying22 hi hz0 hz1 hz2 rfl (by decide) _ _ _ rfl (hown3.alloc _) ⟨w3.heap.size, 0, none⟩ 1 1 [.int .u8 (x % 2)] rfl rfl (one_new _ _ _) (one_one _ rfl) ?c3 ?c4 ?c5 ?_) | go_in)
        case c3 => unfold maxLen; omega
        case c4 => omega
        case c5 => simp; omega
        intro v' w4 hown4 hgrow4 _
        rw [row_of_u8 (x % 2) (by omega) (by omega), map_snoc] at hown4
        have hga := World.grownBy_alloc w3 (.cells #[.int .u8 (x % 2)] 5) (some g)
        have hc4 := (HC3.out.alloc (.cells #[.int .u8 (x % 2)] 5)).grown hgrow4 (fun j hj => by have := (hown3.lt j hj).1; omega)
        have hs4 := hgrow4.size
        have HC4 := Lib.hid hc4
        have HG4 := Lib.hid (grow_trans hgr.out (grow_trans HG3.out hga))
        have HG5 := Lib.hid hgrow4
        clear hc4 hgrow4 hga
        go_wp2
        go_roundw
        case rel =>
          have hln : (l ++ [UInt8.ofNat (x % 2).toNat]).length = l.length + 1 := by simp
          have hrel : ∃ (k1 : Int) (l1 : List UInt8), 0 ≤ k1 ∧ (l1.length : Int) + k1 ≤ m ∧ Value.int IntKind.i64 (k - 1) = .int .i64 k1 ∧ w4.ownsRow w.heap.size 5 1 v' l1.length (l1.map B) ∧ Hid (Cur B0 w4 g) ∧ Hid (w.grownBy w4 (some g)) ∧ w.heap.size < w4.heap.size :=
            ⟨k - 1, l ++ [UInt8.ofNat (x % 2).toNat], by omega, by rw [hln]; omega, rfl, by rw [hln]; exact hown4, HC4.out, grow_new HG4.out HG5.out (fun j hj => (hown3.lt j hj).1), by simp at hs4; omega⟩
          first
            | exact hrel
            | (repeat apply Exists.intro
               exact ⟨hrel, rfl⟩)
        case measure => simp [intOf]; omega
      · by_cases h2 : st = 2
        · subst h2
          go_wp2_with (first | (at_builtin; refine wpList_append_own _ rfl _ _ 22 rfl w.heap.size 5 i0 (.int .u8 0) 1 1 Tryz.underlying22 hi hz0 hz1 hz2 rfl (by decide) _ _ _ rfl (hown3.alloc _) ⟨w3.heap.size, 0, none⟩ 1 1 [.int .u8 (97 + x % 4)] rfl rfl (one_new _ _ _) (one_one _ rfl) ?c3 ?c4 ?c5 ?_) | go_in)
          case c3 => unfold maxLen; omega
          case c4 => omega
          case c5 => simp; omega
          intro v' w4 hown4 hgrow4 _
          rw [row_of_u8 (97 + x % 4) (by omega) (by omega), map_snoc] at hown4
          have hga := World.grownBy_alloc w3 (.cells #[.int .u8 (97 + x % 4)] 5) (some g)
          have hc4 := (HC3.out.alloc (.cells #[.int .u8 (97 + x % 4)] 5)).grown hgrow4 (fun j hj => by have := (hown3.lt j hj).1; omega)
          have hs4 := hgrow4.size
          have HC4 := Lib.hid hc4
          have HG4 := Lib.hid (grow_trans hgr.out (grow_trans HG3.out hga))
          have HG5 := Lib.hid hgrow4
          clear hc4 hgrow4 hga
          go_wp2
          go_roundw
          case rel =>
            have hln : (l ++ [UInt8.ofNat (97 + x % 4).toNat]).length = l.length + 1 := by simp
            have hrel : ∃ (k1 : Int) (l1 : List UInt8), 0 ≤ k1 ∧ (l1.length : Int) + k1 ≤ m ∧ Value.int IntKind.i64 (k - 1) = .int .i64 k1 ∧ w4.ownsRow w.heap.size 5 1 v' l1.length (l1.map B) ∧ Hid (Cur B0 w4 g) ∧ Hid (w.grownBy w4 (some g)) ∧ w.heap.size < w4.heap.size :=
              ⟨k - 1, l ++ [UInt8.ofNat (97 + x % 4).toNat], by omega, by rw [hln]; omega, rfl, by rw [hln]; exact hown4, HC4.out, grow_new HG4.out HG5.out (fun j hj => (hown3.lt j hj).1), by simp at hs4; omega⟩
            first
              | exact hrel
              | (repeat apply Exists.intro
                 exact ⟨hrel, rfl⟩)
          case measure => simp [intOf]; omega
        · have e1 : (st == 1) = false := by simp; exact h1
          have e2 : (st == 2) = false := by simp; exact h2
          clear h1 h2
          go_wp2_with (first | (at_builtin; refine wpList_append_own _ rfl _ _ 22 rfl w.heap.size 5 i0 (.int .u8 0) 1 1 Tryz.underlying22 hi hz0 hz1 hz2 rfl (by decide) _ _ _ rfl (hown3.alloc _) ⟨w3.heap.size, 0, none⟩ 1 1 [.int .u8 (x)] rfl rfl (one_new _ _ _) (one_one _ rfl) ?c3 ?c4 ?c5 ?_) | go_in)
          case c3 => unfold maxLen; omega
          case c4 => omega
          case c5 => simp; omega
          intro v' w4 hown4 hgrow4 _
          rw [row_of_u8 (x) (by omega) (by omega), map_snoc] at hown4
          have hga := World.grownBy_alloc w3 (.cells #[.int .u8 (x)] 5) (some g)
          have hc4 := (HC3.out.alloc (.cells #[.int .u8 (x)] 5)).grown hgrow4 (fun j hj => by have := (hown3.lt j hj).1; omega)
          have hs4 := hgrow4.size
          have HC4 := Lib.hid hc4
          have HG4 := Lib.hid (grow_trans hgr.out (grow_trans HG3.out hga))
          have HG5 := Lib.hid hgrow4
          clear hc4 hgrow4 hga
          go_wp2
          go_roundw
          case rel =>
            have hln : (l ++ [UInt8.ofNat (x).toNat]).length = l.length + 1 := by simp
            have hrel : ∃ (k1 : Int) (l1 : List UInt8), 0 ≤ k1 ∧ (l1.length : Int) + k1 ≤ m ∧ Value.int IntKind.i64 (k - 1) = .int .i64 k1 ∧ w4.ownsRow w.heap.size 5 1 v' l1.length (l1.map B) ∧ Hid (Cur B0 w4 g) ∧ Hid (w.grownBy w4 (some g)) ∧ w.heap.size < w4.heap.size :=
              ⟨k - 1, l ++ [UInt8.ofNat (x).toNat], by omega, by rw [hln]; omega, rfl, by rw [hln]; exact hown4, HC4.out, grow_new HG4.out HG5.out (fun j hj => (hown3.lt j hj).1), by simp at hs4; omega⟩
            first
              | exact hrel
              | (repeat apply Exists.intro
                 exact ⟨hrel, rfl⟩)
          case measure => simp [intOf]; omega
    · have hcv := conv_own hown
      go_wp2
      go_ret
      exact ⟨l, by omega, rfl, hcr.out, hgr.out⟩

theorem code_of_row {w : World} {a : Option Addr} {len cap : Nat} {zs : List Int} (h : IsRow .u8 w a len cap zs) : Code w.heap.size w a len cap := by
  rcases h with ⟨rfl, rfl, rfl, rfl⟩ | ⟨x, rfl, h1, h2, h3, h4, h5⟩
  · exact ⟨Nat.le_refl _, fun h => absurd h (by omega)⟩
  · refine ⟨h1, fun hp => ?_⟩
    obtain ⟨b, off, spot⟩ := x
    have hc := h4 0 (by omega)
    have hspot : spot = none := by simpa [Addr.add] using World.cell?_spot hc
    subst hspot
    have hb : b < w.heap.size := World.block_lt_of_cell? w _ (by simpa [Addr.add] using hc)
    refine ⟨b, off, rfl, hb, fun k hk => ?_⟩
    have hk' : k < zs.length := by omega
    have hz := bounds_u8 (h5 (zs.getD k 0) (by rw [List.getD_eq_getElem?_getD, List.getElem?_eq_getElem hk']; exact List.getElem_mem _))
    refine ⟨UInt8.ofNat (zs.getD k 0).toNat, ?_⟩
    rw [← Addr.add_lit, h4 k hk']
    generalize zs.getD k 0 = q at *
    congr 2
    simp
    omega
end

section
open Go.RowKit

theorem rem2 (x : Int) (h : -3 ≤ x) (h2 : x ≤ 2) : -1 ≤ x.tmod 2 ∧ x.tmod 2 ≤ 1 := by
  have : x = -3 ∨ x = -2 ∨ x = -1 ∨ x = 0 ∨ x = 1 ∨ x = 2 := by omega
  rcases this with rfl | rfl | rfl | rfl | rfl | rfl <;> decide
theorem inb_out {x lo hi : Int} (h : inb x lo hi = true) : lo ≤ x ∧ x ≤ hi := by
  unfold inb at h
  simpa using h
theorem sortU_inP {l : List Cl} (h : ∀ c ∈ l, inP c = true) : ∀ c ∈ sortU l, inP c = true := fun c hc => h c ((sortU_mem l c).1 hc)

theorem inP_of {p q : Int} (h1 : 0 ≤ p ∧ p ≤ 7) (h2 : 0 ≤ q ∧ q ≤ 7) : inP (p, q) = true := by
  unfold inP inb
  simp
  omega
theorem cornerC_len (l : List Cl) : (cornerC l).length = l.length := by simp [cornerC]
/-- A drawn row of cells: the call's own; the reader stays one. -/
def GivesD (B g : Nat) (w : World) (e : Ending) (w' : World) : Prop := ∃ (gg cap : Nat) (l : List Cl), e = .returned (.slice (some ⟨gg, 0, none⟩) l.length cap) ∧ w'.ownsRow w.heap.size 86 2 (.slice (some ⟨gg, 0, none⟩) l.length cap) l.length (cvs l) ∧ (∀ c ∈ l, InC c) ∧ 1 ≤ l.length ∧ l.length ≤ 8 ∧ Cur B w' g ∧ w.grownBy w' (some g)

set_option maxHeartbeats 2000000 in
set_option maxRecDepth 100000 in
theorem dGrow (B g n : Nat) (w : World) (hc : Cur B w g) (hn : n ≤ 7) :
    Calls Tryz.prog 157 #[.pointer (some ⟨g, 0, none⟩), .int .i64 n] w (GivesD B g w) := by
  have hlt := hc.lt
  obtain ⟨hl1, hl2⟩ := hlt
  have HC := Lib.hid hc
  clear hc
  go_enter Tryz.func157, Tryz.ntmps157
  go_wp2
  go_loopw [5, 6] (fun v i wr => ∃ (k gg cap m : Nat) (l : List Cl), 1 ≤ k ∧ (k ≤ n ∨ k = 1) ∧ i = .int .i64 k ∧ m ≤ k ∧ 1 ≤ m ∧ v = .slice (some ⟨gg, 0, none⟩) m cap ∧ Hid (l.length = m) ∧ Hid (∀ c ∈ l, inP c = true) ∧ Hid (wr.ownsRow w.heap.size 86 2 (.slice (some ⟨gg, 0, none⟩) m cap) m (cvs l)) ∧ Hid (Cur B wr g) ∧ Hid (w.grownBy wr (some g)) ∧ w.heap.size ≤ wr.heap.size) (fun _ i _ => n - (intOf i).toNat)
  case atStart =>
    refine ⟨1, w.heap.size, 1, 1, [(3, 3)], by omega, .inr rfl, rfl, by omega, by omega, rfl, rfl, ?_, ?_, HC.out.alloc _, World.grownBy_alloc _ _ _, by simp⟩
    · intro c hc
      obtain rfl := List.mem_singleton.1 hc
      decide
    · exact World.ownsRow_lit (base := w.heap.size) (e := 86) (size := 2) w #[.int .i64 3, .int .i64 3] 1 (Nat.le_refl _) (by simp [maxLen]) rfl
  case round =>
    obtain ⟨k, gg, cap, m, l, hk1, hkn, rfl, hmk, hm1, rfl, hlm, hin, hown, hcur, hgr, hsz⟩ := hrel
    by_cases hlt : k < n
    · have hkk : (k : Int) < (n : Int) := by omega
      have hgg := hown.out.lt gg rfl
      go_wp2_with fail
      refine (dBelow B g m _ hcur.out (by omega) (by omega)).mono ?_
      rintro e w1 ⟨x, hx0, hx1, rfl, hc1, hg1⟩
      obtain ⟨j, rfl⟩ := Int.eq_ofNat_of_zero_le hx0
      have hown1 := hown.out.kept hg1 (.inr (by intro e; have h9 : gg = g := Option.some.inj e; omega))
      have hca := CellsAt.of_own hown1 (fun c hc => inP_in (hin.out c hc))
      obtain ⟨b1, o1, he, hb1, hc1'⟩ := hca.2.2 (by omega)
      injection he with he
      injection he with he1 he2
      subst he1 he2
      have hjm : j < m := by omega
      obtain ⟨x, y, hxy⟩ : ∃ x y, l.getD j (0, 0) = (x, y) := ⟨_, _, rfl⟩
      have p1 := (hc1' j hjm).1
      have p2 := (hc1' j hjm).2
      rw [hxy] at p1 p2
      simp only [Nat.zero_add] at p1 p2
      try dsimp only at p1 p2
      have hpx := inP_out (hin.out _ (getD_mem (l := l) (j := j) (by rw [hlm.out]; exact hjm)))
      rw [hxy] at hpx
      dsimp only at hpx
      have hs1 := hg1.size
      have HG1 := Lib.hid (grow_trans hgr.out hg1)
      have HC1 := Lib.hid hc1
      have HO1 := Lib.hid hown1
      clear hxy hc1' hca hown1 hg1 hc1 hown hcur hgr
      go_wp2_with fail
      refine (dBelow B g 4 _ (HC1.out.alloc _) (by omega) (by omega)).mono ?_
      rintro e w3 ⟨d, hd0, hd1, rfl, hc3, hg3⟩
      have hblk := (hg3.block w1.heap.size (by simp) (by intro e; have h9 : w1.heap.size = g := Option.some.inj e; omega)).trans (heap_alloc_new w1 (.cells #[.int .i64 x, .int .i64 y] 86))
      have q1 : w3.cell? ⟨w1.heap.size, 0, none⟩ = some (.int .i64 x) := cell_of_row w3 w1.heap.size 0 _ _ _ hblk
      have q2 : w3.cell? ⟨w1.heap.size, 1, none⟩ = some (.int .i64 y) := cell_of_row w3 w1.heap.size 1 _ _ _ hblk
      have hs3 := hg3.size
      simp only [World.size_alloc] at hs3
      have HO3 := Lib.hid ((HO1.out.alloc (.cells #[.int .i64 x, .int .i64 y] 86)).kept hg3 (.inr (by intro e; have h9 : gg = g := Option.some.inj e; omega)))
      have HC3 := Lib.hid hc3
      have HG3 := Lib.hid (grow_trans HG1.out (grow_trans (World.grownBy_alloc w1 (.cells #[.int .i64 x, .int .i64 y] 86) (some g)) hg3))
      have r1 := rem2 (1 - d) (by omega) (by omega)
      have r2 := rem2 (2 - d) (by omega) (by omega)
      clear hc3 hg3 hblk p1 p2
      go_wp2_with fail
      generalize hp : x + (1 - d).tmod 2 = p at *
      generalize hq : y + (2 - d).tmod 2 = q at *
      have s1 : (w3.alloc (.cells #[.int .i64 p, .int .i64 q] 86)).cell? ⟨w3.heap.size, 0, none⟩ = some (.int .i64 p) := cell_of_row _ w3.heap.size 0 _ _ _ (heap_alloc_new _ _)
      have s2 : (w3.alloc (.cells #[.int .i64 p, .int .i64 q] 86)).cell? ⟨w3.heap.size, 1, none⟩ = some (.int .i64 q) := cell_of_row _ w3.heap.size 1 _ _ _ (heap_alloc_new _ _)
      have hs4 : w3.heap.size < (w3.alloc (.cells #[.int .i64 p, .int .i64 q] 86)).heap.size := by simp
      have HO4 := Lib.hid (HO3.out.alloc (.cells #[.int .i64 p, .int .i64 q] 86))
      have HC4 := Lib.hid (HC3.out.alloc (.cells #[.int .i64 p, .int .i64 q] 86))
      have HG4 := Lib.hid (grow_trans HG3.out (World.grownBy_alloc w3 (.cells #[.int .i64 p, .int .i64 q] 86) (some g)))
      generalize (w3.alloc (.cells #[.int .i64 p, .int .i64 q] 86)) = w4 at *
      clear q1 q2 HO1 HC1 HG1 HO3 HC3 HG3 r1 r2 hp hq
      have hgg4 := HO4.out.lt gg rfl
      have HA := Lib.hid (CellsAt.of_own HO4.out (fun c hc => inP_in (hin.out c hc)))
      refine (sIn _ _ _ _).mono ?_
      rintro e w' ⟨rfl, rfl⟩
      cases hi1 : inb p 0 7 with
      | false =>
        go_wp2
        go_roundw
        case rel => exact ⟨k + 1, gg, cap, m, l, by omega, .inl (by omega), by go_num, by omega, hm1, rfl, hlm, hin, HO4.out, HC4.out, HG4.out, by have := HG4.out.size; omega⟩
        case measure => simp [intOf]; omega
      | true =>
        go_wp2_with fail
        refine (sIn _ _ _ _).mono ?_
        rintro e w' ⟨rfl, rfl⟩
        cases hi2 : inb q 0 7 with
        | false =>
          go_wp2
          go_roundw
          case rel => exact ⟨k + 1, gg, cap, m, l, by omega, .inl (by omega), by go_num, by omega, hm1, rfl, hlm, hin, HO4.out, HC4.out, HG4.out, by have := HG4.out.size; omega⟩
          case measure => simp [intOf]; omega
        | true =>
          have b1 := inb_out hi1
          have b2 := inb_out hi2
          go_wp2_with fail
          refine (sHasCell w4.heap.size m cap _ l p q w4 (by omega) HA.out).mono ?_
          rintro e w' ⟨rfl, rfl⟩
          cases hh : hasC l p q with
          | true =>
            go_wp2
            go_roundw
            case rel => exact ⟨k + 1, gg, cap, m, l, by omega, .inl (by omega), by go_num, by omega, hm1, rfl, hlm, hin, HO4.out, HC4.out, HG4.out, by have := HG4.out.size; omega⟩
            case measure => simp [intOf]; omega
          | false =>
            have HIN := Lib.hid (show ∀ c ∈ l ++ [(p, q)], inP c = true from fun c hc => by
              rcases List.mem_append.1 hc with h | h
              · exact hin.out c h
              · obtain rfl := List.mem_singleton.1 h
                exact inP_of b1 b2)
            have hsw : w.heap.size ≤ w4.heap.size := HG4.out.size
            go_wp2_with (first | (at_builtin; refine wpList_cells rfl _ _ rfl w.heap.size gg m cap l ⟨w4.heap.size, 0, none⟩ 1 1 [(p, q)] rfl rfl (HO4.out.alloc _) rfl (lies_block (t := 86) (fr := (0, 0)) (heap_alloc_new _ _)) (by omega) ?c5 (w4.heap.size + 1) ?c6 ?_) | go_in)
            case c5 => simp; omega
            case c6 => simp
            intro g' cc' w5 hown5 hgrow5 hat5 hgb5 hlt5
            have hc5 := (HC4.out.alloc (.cells #[.int .i64 p, .int .i64 q] 86)).grown hgrow5 (fun x hx => by cases hx; omega)
            have hg5 := grow_new (grow_trans HG4.out (World.grownBy_alloc w4 (.cells #[.int .i64 p, .int .i64 q] 86) (some g))) hgrow5 (fun x hx => by cases hx; omega)
            have HO5 := Lib.hid hown5
            have HC5 := Lib.hid hc5
            have HG5 := Lib.hid hg5
            clear hown5 hgrow5 hc5 hg5
            go_wp2
            go_roundw
            case rel => exact ⟨k + 1, g', cc', m + 1, l ++ [(p, q)], by omega, .inl (by omega), by go_num, by omega, by omega, rfl, by rw [List.length_append, hlm.out]; rfl, HIN.out, HO5.out, HC5.out, HG5.out, HG5.out.size⟩
            case measure => simp [intOf]; omega
    · have HA := Lib.hid (CellsAt.of_own hown.out (fun c hc => inP_in (hin.out c hc)))
      go_wp2_with fail
      refine (sSort wr.heap.size m cap _ l wr (by omega) HA.out (Nat.le_refl _)).mono ?_
      rintro e w1 ⟨g1, c1, rfl, hown1, hb1⟩
      have hsl := sortU_len l
      have hin1 := sortU_inP hin.out
      have hpos : 1 ≤ (sortU l).length := by
        have hm0 : l.getD 0 (0, 0) ∈ sortU l := (sortU_mem l _).2 (getD_mem (by rw [hlm.out]; omega))
        exact List.length_pos_of_mem hm0
      rw [hlm.out] at hsl
      have HA1 := Lib.hid (CellsAt.of_own hown1 (fun c hc => inP_in (hin1 c hc)))
      have HG1 := Lib.hid (grow_trans hgr.out (grow_below hb1 (some g)))
      have HC1 := Lib.hid (hcur.out.grown (grow_below hb1 none) (fun k hk => by cases hk))
      have hs1 := hb1.size
      clear hown1 hb1
      go_wp2_with fail
      refine (sCorner w1.heap.size (sortU l).length c1 _ (sortU l) w1 (by omega) HA1.out hin1 (Nat.le_refl _)).mono ?_
      rintro e w2 ⟨g2, c2, rfl, hown2, hb2⟩
      have hs2 := hb2.size
      have HR := Lib.hid (show GivesD B g w (.returned (.slice (some ⟨g2, 0, none⟩) (cornerC (sortU l)).length c2)) w2 from
        ⟨g2, c2, cornerC (sortU l), rfl, own_below hown2 (by omega), (fun c hc => inP_in (cornerC_in hin1 c hc)), by rw [cornerC_len]; exact hpos, by rw [cornerC_len]; omega,
          HC1.out.grown (grow_below hb2 none) (fun k hk => by cases hk), grow_trans HG1.out (grow_below hb2 (some g))⟩)
      clear hown2 hb2
      go_wp2
      go_ret
      exact HR.out
end

end Go.Proofs.YtkjlmgkjcmebbaaGreatDoor
