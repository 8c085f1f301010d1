/-
  Drawn texts of shapes.
-/
import Derived.Deep.RegionWith
import Derived.Deep.QuietTactic
import Derived.BigQuiet
import Derived.Test.YtcfioncnpfoccaaGreatDoorDra
import Derived.Test.YtcfioncnpfoccaaGreatDoorFmt
namespace Go.Proofs.YtcfioncnpfoccaaGreatDoor
open Go.RowKit

set_option maxHeartbeats 400000 in
set_option maxRecDepth 100000 in
/-- One text of a list of constants that the call itself has laid. -/
theorem dPickS (B g L n : Nat) (xs : List ByteArray) (w : World) (hc : Cur B w g) (hn : 0 < n) (hn2 : n ≤ 1000) (hlen : xs.length = n) (hL : w.heap[L]? = some (.cells (xs.map Value.string).toArray 9 (0, 0))) (hne : L ≠ g)
    (hx : ∀ x ∈ xs, x.size ≤ 100) :
    Calls Tryz.prog 47 #[.pointer (some ⟨g, 0, none⟩), .slice (some ⟨L, 0, none⟩) n n] w fun e w' => ∃ x : ByteArray, x.size ≤ 100 ∧ e = .returned (.string x) ∧ Cur B w' g ∧ w.grownBy w' (some g) := by
  have HC := Lib.hid hc
  have HL := Lib.hid hL
  have HX := Lib.hid hx
  have HLEN := Lib.hid hlen
  clear hc hL hx hlen
  go_enter Tryz.func47, Tryz.ntmps47
  go_wp2_with fail
  refine (dBelow B g n _ HC.out (by omega) (by omega)).mono ?_
  rintro e w1 ⟨x, hx0, hx1, rfl, hc1, hg1⟩
  have HC1 := Lib.hid hc1
  have HG1 := Lib.hid hg1
  clear hc1 hg1
  obtain ⟨j, rfl⟩ := Int.eq_ofNat_of_zero_le hx0
  have hj : j < xs.length := by rw [HLEN.out]; omega
  have hcell : ∃ X : ByteArray, X.size ≤ 100 ∧ w1.cell? ⟨L, j, none⟩ = some (.string X) := by
    refine ⟨xs[j], HX.out _ (List.getElem_mem hj), ?_⟩
    have hlt := (Array.getElem?_eq_some_iff.1 HL.out).1
    have h1 := (HG1.out.block L hlt (fun e => hne (Option.some.inj e))).trans HL.out
    rw [cell_of_row w1 L j _ _ _ h1]
    simp [hj]
  obtain ⟨X, hb, hX⟩ := hcell
  have HB := Lib.hid hb
  clear hb hj
  go_wp2
  go_ret
  exact ⟨_, HB.out, rfl, HC1.out, HG1.out⟩

theorem size_one (b : UInt8) : (ByteArray.mk #[b]).size = 1 := rfl

/-- A drawn text. -/
def GivesT (B g : Nat) (w : World) (e : Ending) (w' : World) : Prop := ∃ t : ByteArray, t.size ≤ 500 ∧ e = .returned (.string t) ∧ Cur B w' g ∧ w.grownBy w' (some g)

set_option maxHeartbeats 2000000 in
set_option maxRecDepth 100000 in
theorem dSpoil (B g : Nat) (s : ByteArray) (w : World) (hc : Cur B w g) (hs : s.size ≤ 200) :
    Calls Tryz.prog 46 #[.pointer (some ⟨g, 0, none⟩), .string s] w (GivesT B g w) := by
  have HC := Lib.hid hc
  clear hc
  go_enter Tryz.func46, Tryz.ntmps46
  by_cases h0 : s.size = 0
  · go_wp2_with fail
    refine (dText B g 3 _ HC.out (by omega) (by omega)).mono ?_
    rintro e w1 ⟨l, hl, rfl, hc1, hg1⟩
    have HR := Lib.hid (show GivesT B g w (.returned (S l)) w1 from ⟨⟨l.toArray⟩, by show l.toArray.size ≤ 500; simp; omega, rfl, hc1, hg1⟩)
    clear hc1 hg1
    go_wp2
    go_ret
    exact HR.out
  · have hb0 : ((s.size : Int) == 0) = false := beq_eq_false_iff_ne.2 (by omega)
    go_wp2_with fail
    refine (dBelow B g s.size _ HC.out (by omega) (by omega)).mono ?_
    rintro e w1 ⟨x, hx0, hx1, rfl, hc1, hg1⟩
    obtain ⟨k, rfl⟩ := Int.eq_ofNat_of_zero_le hx0
    have hk : k < s.size := by omega
    have HC1 := Lib.hid hc1
    have HG1 := Lib.hid hg1
    clear hc1 hg1 HC
    go_wp2_with fail
    refine (dBelow B g 4 _ HC1.out (by omega) (by omega)).mono ?_
    rintro e w2 ⟨d, hd0, hd1, rfl, hc2, hg2⟩
    have HC2 := Lib.hid hc2
    have HG2 := Lib.hid (grow_trans HG1.out hg2)
    have HCD := Lib.hid (show Cur B w2.drew g from HC2.out)
    have HGD := Lib.hid (show w.grownBy w2.drew (some g) from grow_drewN HG2.out 1)
    clear hc2 hg2 HC1 HG1
    have hd : d = 0 ∨ d = 1 ∨ d = 2 ∨ d = 3 := by omega
    rcases hd with rfl | rfl | rfl | rfl
    · go_wp2_with fail
      go_quiet (fail)
      go_wp2
      go_ret
      refine ⟨_, ?_, rfl, HCD.out, grow_drewN HG2.out _⟩
      rw [ByteArray.size_append, ByteArray.size_extract, ByteArray.size_extract]; omega
    · go_wp2_with fail
      go_region_with (go_at_call 73; refine (dByte B g _ HCD.out).mono ?_; rintro e w' ⟨y, hy0, hy1, rfl, hc3, hg3⟩; have hcv := fun v : Int => conv_one v w')
      all_goals
        go_wp2
        go_ret
        refine ⟨_, ?_, rfl, hc3.alloc _, grow_trans HGD.out (grow_trans hg3 (World.grownBy_alloc w' _ (some g)))⟩
        rw [ByteArray.size_append, ByteArray.size_append, ByteArray.size_extract, ByteArray.size_extract, size_one]; omega
    · go_wp2
      go_ret
      refine ⟨_, ?_, rfl, HC2.out, HG2.out⟩
      rw [ByteArray.size_extract]; omega
    · have hk1 : IntKind.i64.wrap ((k : Int) + 1) = (k : Int) + 1 := IntWalk.i64_in _ (by omega)
      have hk2 : (k : Int) + 1 ≤ s.size := by omega
      have hk3 : ¬ ((s.size : Int) < (k : Int) + 1) := by omega
      have hk4 : ¬ ((k : Int) + 1 < 0) := by omega
      go_wp2_with fail
      go_region_with (go_at_call 45; refine (dBelow B g 255 _ HCD.out (by omega) (by omega)).mono ?_; rintro e w' ⟨y, hy0, hy1, rfl, hc3, hg3⟩; have hcv := fun v : Int => conv_one v w')
      all_goals
        go_wp2
        go_ret
        refine ⟨_, ?_, rfl, hc3.alloc _, grow_trans HGD.out (grow_trans hg3 (World.grownBy_alloc w' _ (some g)))⟩
        rw [ByteArray.size_append, ByteArray.size_append, ByteArray.size_extract, ByteArray.size_extract, size_one]; omega


end Go.Proofs.YtcfioncnpfoccaaGreatDoor
