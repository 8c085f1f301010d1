/-
  The drawn text of a region.
-/
import Derived.Test.YtcfioncnpfoccaaGreatDoorRdn
import Derived.Test.YtcfioncnpfoccaaGreatDoorSr9
import Derived.Test.YtcfioncnpfoccaaGreatDoorPr3
import Derived.Test.YtcfioncnpfoccaaGreatDoorSpo
namespace Go.Proofs.YtcfioncnpfoccaaGreatDoor
open Go.RowKit

theorem fmtR_size (W : Int) (l : List Int) : (ByteArray.mk (fmtR W l).toArray).size ≤ 41 := by
  show (fmtR W l).toArray.size ≤ 41
  rw [List.size_toArray]
  cases h : isReg W l with
  | false => rw [fmtR_no h]; simp
  | true =>
    obtain ⟨N, rfl, hr⟩ := isReg_out h
    exact (fmtR_len hr).2

set_option maxHeartbeats 2000000 in
set_option maxRecDepth 100000 in
/-- The drawn text of a region. -/
theorem dParR (a : Option Addr) (len cap : Nat) (w : World) (hc : Code w.heap.size w a len cap) (hl : len ≤ 1048576) :
    Calls Tryz.prog 8 #[.slice a len cap] w fun e w' => ∃ t : ByteArray, t.size ≤ 500 ∧ e = .returned (.string t) ∧ Below w.heap.size w w' := by
  have HC := Lib.hid hc
  clear hc
  go_enter Tryz.func8, Tryz.ntmps8
  go_wp2_with fail
  refine (dNew w.heap.size a len cap _ HC.out hl (Nat.le_refl _)).mono ?_
  rintro e w1 ⟨rfl, hc1, hg1⟩
  have hlt := hc1.lt
  go_wp2_with fail
  refine (dAny6 w.heap.size w.heap.size w1 hc1).mono ?_
  rintro e w2 ⟨W, M, gg, cp, l, rfl, hM, hin, hown, hc2, hg2⟩
  have HG2 := Lib.hid (grow_new hg1 hg2 (fun k hk => by cases hk; omega))
  have HC2 := Lib.hid hc2
  have HA := Lib.hid (IntsAt.of_own hown hin)
  clear hin hc2 hg2 hg1 hc1 hown
  go_wp2_with fail
  refine (sFmtR w2.heap.size M cp _ W l w2 (by omega) HA.out (Nat.le_refl _)).mono ?_
  rintro e w3 ⟨rfl, hb3⟩
  have HC3 := Lib.hid (HC2.out.grown (grow_below hb3 none) (fun k hk => by cases hk))
  have HG3 := Lib.hid (grow_new HG2.out (grow_below hb3 none) (fun k hk => by cases hk))
  have hs3 := HG3.out.size
  have hfs := fmtR_size W l
  clear hb3 HG2 HC2 HA
  obtain ⟨T, hT⟩ : ∃ T : ByteArray, ByteArray.mk (fmtR W l).toArray = T := ⟨_, rfl⟩
  rw [show S (fmtR W l) = .string T from congrArg Value.string hT]
  rw [hT] at hfs
  clear hT
  go_wp2_with fail
  refine (dBelow w.heap.size w.heap.size 4 _ HC3.out (by omega) (by omega)).mono ?_
  rintro e w4 ⟨d, hd0, hd1, rfl, hc4, hg4⟩
  have HC4 := Lib.hid hc4
  have HG4 := Lib.hid (grow_new HG3.out hg4 (fun k hk => by cases hk; omega))
  have hs4 := HG4.out.size
  clear hc4 hg4 HC3 HG3
  by_cases h0 : d = 0
  · subst h0
    go_wp2_with fail
    refine (dSpoil w.heap.size w.heap.size T _ HC4.out (by omega)).mono ?_
    rintro e w5 ⟨t, ht, rfl, hc5, hg5⟩
    have HB := Lib.hid (blw (grow_new HG4.out hg5 (fun k hk => by cases hk; omega)))
    clear hc5 hg5
    go_wp2
    go_ret
    exact ⟨t, ht, rfl, HB.out⟩
  · by_cases h1 : d = 1
    · subst h1
      clear h0
      go_wp2_with fail
      have hlt4 := HC4.out.lt
      refine (dPickS w.heap.size w.heap.size w4.heap.size 9 [⟨#[]⟩, ⟨#[35]⟩, ⟨#[46]⟩, ⟨#[35, 35, 47, 35]⟩, ⟨#[35, 35, 47, 35, 46]⟩, ⟨#[47]⟩, ⟨#[35, 47]⟩, ⟨#[35, 35, 35, 120]⟩, ⟨#[35, 35, 35, 35, 35, 35, 35]⟩] _ (HC4.out.alloc _) (by omega) (by omega) rfl (heap_alloc_new _ _) (by omega) (by decide)).mono ?_
      rintro e w5 ⟨t, ht, rfl, hc5, hg5⟩
      have HB := Lib.hid (blw (grow_new (grow_new HG4.out (World.grownBy_alloc _ _ none) (fun k hk => by cases hk)) hg5 (fun k hk => by cases hk; omega)))
      clear hc5 hg5
      go_wp2
      go_ret
      exact ⟨t, by omega, rfl, HB.out⟩
    · have hb0 : (d == 0) = false := beq_eq_false_iff_ne.2 h0
      have hb1 : (d == 1) = false := beq_eq_false_iff_ne.2 h1
      go_wp2
      go_ret
      exact ⟨T, by omega, rfl, blw HG4.out⟩

end Go.Proofs.YtcfioncnpfoccaaGreatDoor
