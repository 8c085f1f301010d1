/-
  The reader of drawn inputs: a block of three cells over the bytes that came in. What a byte and a number below a bound give.
-/
import Derived.Test.YtihjcifpihkpoaaGreatDoorCor
import Derived.Test.YtihjcifpihkpoaaGreatDoorRow
import Derived.OpenShut
import Derived.Deep.Draws
namespace Go.Proofs.YtihjcifpihkpoaaGreatDoor
open Go.RowKit

theorem one_new (wr : World) (T : TypeId) (u : Value) : ∀ j v, [u][j]? = some v → (wr.alloc (.cells #[u] T)).cell? ((⟨wr.heap.size, 0, none⟩ : Addr).add j) = some v := by
  intro j v hj
  match j, hj with
  | 0, hj => simp at hj; subst hj; exact World.cell?_alloc_at _ _ _ _ rfl
theorem one_one (u : Value) (h : u.oneCell' = true) : ∀ v ∈ [u], v.oneCell' = true := by
  intro v hv; simp at hv; subst hv; exact h

theorem map_snoc (l : List UInt8) (b : UInt8) : l.map B ++ [B b] = (l ++ [b]).map B := by simp


/-- Block g is a reader over bytes that lie below block B. -/
def Cur (B : Nat) (w : World) (g : Nat) : Prop :=
  ∃ (a : Option Addr) (len cap i : Nat) (h : Int), w.heap[g]? = some (.cells #[.slice a len cap, .int .i64 i, .int .i64 h] 77 (0, 0)) ∧ i ≤ len ∧ len ≤ 1048576 ∧ len ≤ cap ∧ B ≤ g ∧
    (0 < len → ∃ b off, a = some ⟨b, off, none⟩ ∧ b < B ∧ ∀ k, k < len → ∃ v : UInt8, w.cell? ⟨b, off + k, none⟩ = some (.int .u8 (v.toNat : Int)))

theorem i64_and255 (n : Int) : bits .and .i64 n 255 = n % 256 := by
  have h255 : (BitVec.ofInt 64 255).toNat = 2 ^ 8 - 1 := by decide
  have key : (BitVec.ofInt 64 n &&& BitVec.ofInt 64 255).toNat = (n % ((2 ^ 64 : Nat) : Int)).toNat % 2 ^ 8 := by
    rw [BitVec.toNat_and, BitVec.toNat_ofInt, h255, Nat.and_two_pow_sub_one_eq_mod]
  show IntKind.i64.wrap ((BitVec.ofInt 64 n &&& BitVec.ofInt 64 255).toNat : Nat) = n % 256
  rw [key, IntKind.wrap_i64]
  omega

theorem i64_and30 (n : Int) : bits .and .i64 n 1073741823 = n % 1073741824 := by
  have h255 : (BitVec.ofInt 64 1073741823).toNat = 2 ^ 30 - 1 := by decide
  have key : (BitVec.ofInt 64 n &&& BitVec.ofInt 64 1073741823).toNat = (n % ((2 ^ 64 : Nat) : Int)).toNat % 2 ^ 30 := by
    rw [BitVec.toNat_and, BitVec.toNat_ofInt, h255, Nat.and_two_pow_sub_one_eq_mod]
  show IntKind.i64.wrap ((BitVec.ofInt 64 n &&& BitVec.ofInt 64 1073741823).toNat : Nat) = n % 1073741824
  rw [key, IntKind.wrap_i64]
  omega

theorem grow_set {w w' : World} {g j : Nat} {v : Value} (h : w.grownBy w' (some g)) : w.grownBy (w'.setCell ⟨g, j, none⟩ v) (some g) :=
  ⟨h.os, h.tape, h.output, by simpa [World.setCell] using h.size, fun k hk hne => (Below.heap_setCell w' ⟨g, j, none⟩ v k (fun e => hne (by rw [e]))).trans (h.block k hk hne)⟩
theorem grow_drewN {w w' : World} {r : Option Nat} (h : w.grownBy w' r) (n : Nat) : w.grownBy (w'.drewN n) r := ⟨h.os, h.tape, h.output, h.size, h.block⟩
theorem grow_trans {a b c : World} {r : Option Nat} (h : a.grownBy b r) (k : b.grownBy c r) : a.grownBy c r :=
  ⟨k.os.trans h.os, k.tape.trans h.tape, k.output.trans h.output, Nat.le_trans h.size k.size, fun i hi hne => (k.block i (Nat.lt_of_lt_of_le hi h.size) hne).trans (h.block i hi hne)⟩
theorem below_grow {B g : Nat} {w w' : World} (h : w.grownBy w' (some g)) (hB : B ≤ g) (hs : B ≤ w.heap.size) : Below B w w' :=
  (Below.refl B w).grown h hs (fun k e => by cases e; exact hB)

def SameMem (w w' : World) : Prop := w'.heap = w.heap ∧ w'.os = w.os ∧ w'.tape = w.tape ∧ w'.output = w.output
theorem SameMem.grow {w w1 w' : World} {r : Option Nat} (h : SameMem w1 w') (k : w.grownBy w1 r) : w.grownBy w' r :=
  ⟨h.2.1.trans k.os, h.2.2.1.trans k.tape, h.2.2.2.trans k.output, by rw [h.1]; exact k.size, fun i hi hne => by rw [h.1]; exact k.block i hi hne⟩
set_option maxHeartbeats 1000000 in
set_option maxRecDepth 100000 in
theorem dByte_end (g cap n : Nat) (a : Option Addr) (i : Nat) (h : Int) (w : World) (hi : n ≤ i) (h0 : w.cell? ⟨g, 0, none⟩ = some (.slice a n cap)) (h1 : w.cell? ⟨g, 1, none⟩ = some (.int .i64 i)) (h2 : w.cell? ⟨g, 2, none⟩ = some (.int .i64 h)) (hf : w.frozen? ⟨g, 2, none⟩ = false) :
    Calls Tryz.prog 66 #[.pointer (some ⟨g, 0, none⟩)] w fun e w' => ∃ (x h' : Int), 0 ≤ x ∧ x ≤ 255 ∧ e = .returned (.int .i64 x) ∧ SameMem (w.setCell ⟨g, 2, none⟩ (.int .i64 h')) w' := by
  go_enter Tryz.func66, Tryz.ntmps66
  have hb255 := i64_and255
  go_wp2
  go_quiet (fail)
  go_wp2
  go_quiet (fail)
  go_wp2
  go_ret
  exact ⟨_, _, by omega, by omega, rfl, rfl, rfl, rfl, rfl⟩

set_option maxHeartbeats 1000000 in
set_option maxRecDepth 100000 in
theorem dByte_more (g cap n b off : Nat) (i : Nat) (h : Int) (v : UInt8) (w : World) (hi : i < n) (hn : n ≤ 1048576) (h0 : w.cell? ⟨g, 0, none⟩ = some (.slice (some ⟨b, off, none⟩) n cap)) (h1 : w.cell? ⟨g, 1, none⟩ = some (.int .i64 i)) (h2 : w.cell? ⟨g, 2, none⟩ = some (.int .i64 h)) (hf : w.frozen? ⟨g, 2, none⟩ = false) (hf1 : w.frozen? ⟨g, 1, none⟩ = false)
    (hc : w.cell? ⟨b, off + i, none⟩ = some (.int .u8 (v.toNat : Int))) (hne : b ≠ g) :
    Calls Tryz.prog 66 #[.pointer (some ⟨g, 0, none⟩)] w fun e w' => ∃ (x h' : Int), 0 ≤ x ∧ x ≤ 255 ∧ e = .returned (.int .i64 x) ∧ SameMem ((w.setCell ⟨g, 2, none⟩ (.int .i64 h')).setCell ⟨g, 1, none⟩ (.int .i64 ((i : Int) + 1))) w' := by
  have hv := v.toNat_lt
  have hi0 : (0 : Int) ≤ (i : Int) := by omega
  have hi1 : (i : Int) < (n : Int) := by omega
  go_enter Tryz.func66, Tryz.ntmps66
  have hb255 := i64_and255
  go_wp2
  go_quiet (fail)
  go_wp2
  go_quiet (fail)
  go_wp2
  go_quiet (fail)
  go_wp2
  go_ret
  exact ⟨_, _, by omega, by omega, rfl, rfl, rfl, rfl, rfl⟩

/-- A byte of a reader: a number from 0 to 255; only the reader's own block changes. -/
theorem dByte (B g : Nat) (w : World) (hc : Cur B w g) :
    Calls Tryz.prog 66 #[.pointer (some ⟨g, 0, none⟩)] w fun e w' => ∃ x : Int, 0 ≤ x ∧ x ≤ 255 ∧ e = .returned (.int .i64 x) ∧ Cur B w' g ∧ w.grownBy w' (some g) := by
  obtain ⟨a, len, cap, i, h, hh, hi, hl, hlc, hBg, hrd⟩ := hc
  have h0 : w.cell? ⟨g, 0, none⟩ = some (.slice a len cap) := cell_of_row w g 0 _ _ _ hh
  have h1 : w.cell? ⟨g, 1, none⟩ = some (.int .i64 i) := cell_of_row w g 1 _ _ _ hh
  have h2 : w.cell? ⟨g, 2, none⟩ = some (.int .i64 h) := cell_of_row w g 2 _ _ _ hh
  have hf1 : w.frozen? ⟨g, 1, none⟩ = false := by simp [World.frozen?, hh]
  have hf2 : w.frozen? ⟨g, 2, none⟩ = false := by simp [World.frozen?, hh]
  have far : ∀ (w1 : World), w.grownBy w1 (some g) → (0 < len → ∃ b off, a = some ⟨b, off, none⟩ ∧ b < B ∧ ∀ k, k < len → ∃ v : UInt8, w1.cell? ⟨b, off + k, none⟩ = some (.int .u8 (v.toNat : Int))) := fun w1 hg hp => by
    obtain ⟨b, off, e, hb, hcell⟩ := hrd hp
    exact ⟨b, off, e, hb, fun k hk => by
      obtain ⟨v, hv⟩ := hcell k hk
      exact ⟨v, hg.cell hv (fun e => by have h9 : b = g := Option.some.inj e; omega)⟩⟩
  by_cases hlt : i < len
  · obtain ⟨b, off, rfl, hb, hcell⟩ := hrd (by omega)
    obtain ⟨v, hv⟩ := hcell i hlt
    refine (dByte_more g cap len b off i h v w hlt hl h0 h1 h2 hf2 hf1 hv (by omega)).mono ?_
    rintro e w' ⟨x, h', hx0, hx1, rfl, hs⟩
    have hg : w.grownBy w' (some g) := hs.grow (grow_set (grow_set (World.grownBy.refl w (some g))))
    refine ⟨x, hx0, hx1, rfl, ⟨_, len, cap, i + 1, h', ?_, by omega, hl, hlc, hBg, far w' hg⟩, hg⟩
    rw [hs.1, set_row (set_row hh 2 _) 1 _]
    rfl
  · refine (dByte_end g cap len a i h w (by omega) h0 h1 h2 hf2).mono ?_
    rintro e w' ⟨x, h', hx0, hx1, rfl, hs⟩
    have hg : w.grownBy w' (some g) := hs.grow (grow_set (World.grownBy.refl w (some g)))
    refine ⟨x, hx0, hx1, rfl, ⟨a, len, cap, i, h', ?_, hi, hl, hlc, hBg, far w' hg⟩, hg⟩
    rw [hs.1, set_row hh 2 _]
    rfl

theorem tmod_bd (x n : Int) (hn : 0 < n) : 0 ≤ x % n ∧ x % n < n := ⟨Int.emod_nonneg _ (by omega), Int.emod_lt_of_pos _ hn⟩

set_option maxHeartbeats 1000000 in
/-- A number below n. -/
theorem dBelow (B g : Nat) (n : Int) (w : World) (hc : Cur B w g) (hn : 0 < n) (hn2 : n ≤ 4294967296) :
    Calls Tryz.prog 40 #[.pointer (some ⟨g, 0, none⟩), .int .i64 n] w fun e w' => ∃ x : Int, 0 ≤ x ∧ x < n ∧ e = .returned (.int .i64 x) ∧ Cur B w' g ∧ w.grownBy w' (some g) := by
  have HC := Lib.hid hc
  clear hc
  by_cases h256 : n ≤ 256
  · go_enter Tryz.func40, Tryz.ntmps40
    go_wp2_with fail
    refine (dByte B g _ HC.out).mono ?_
    rintro e w1 ⟨x, hx0, hx1, rfl, hc1, hg1⟩
    have HC1 := Lib.hid hc1
    have HG1 := Lib.hid hg1
    have hm := tmod_bd x n hn
    have HM := Lib.hid hm
    clear hc1 hg1 hm
    go_wp2
    go_ret
    exact ⟨_, HM.out.1, HM.out.2, rfl, HC1.out, HG1.out⟩
  · go_enter Tryz.func40, Tryz.ntmps40
    go_wp2_with fail
    refine (dByte B g _ HC.out).mono ?_
    rintro e w1 ⟨x1, hx0, hx1, rfl, hc1, hg1⟩
    have HC1 := Lib.hid hc1
    have HG1 := Lib.hid hg1
    clear hc1 hg1
    go_wp2_with fail
    refine (dByte B g _ HC1.out).mono ?_
    rintro e w2 ⟨x2, hy0, hy1, rfl, hc2, hg2⟩
    have HC2 := Lib.hid hc2
    have HG2 := Lib.hid hg2
    clear hc2 hg2
    go_wp2_with fail
    refine (dByte B g _ HC2.out).mono ?_
    rintro e w3 ⟨x3, hz0, hz1, rfl, hc3, hg3⟩
    have HC3 := Lib.hid hc3
    have HG3 := Lib.hid hg3
    clear hc3 hg3
    go_wp2_with fail
    refine (dByte B g _ HC3.out).mono ?_
    rintro e w4 ⟨x4, hu0, hu1, rfl, hc4, hg4⟩
    have HC4 := Lib.hid hc4
    have HG4 := Lib.hid hg4
    have HM := Lib.hid (tmod_bd (x1 * 16777216 + x2 * 65536 + x3 * 256 + x4) n hn)
    clear hc4 hg4
    go_wp2
    go_ret
    exact ⟨_, HM.out.1, HM.out.2, rfl, HC4.out, grow_trans (grow_trans (grow_trans HG1.out HG2.out) HG3.out) HG4.out⟩

end Go.Proofs.YtihjcifpihkpoaaGreatDoor
