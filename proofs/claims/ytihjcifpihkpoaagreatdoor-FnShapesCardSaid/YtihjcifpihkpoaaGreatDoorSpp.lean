/-
  The drawn text of a shape.
-/
import Derived.Test.YtihjcifpihkpoaaGreatDoorSpo
namespace Go.Proofs.YtihjcifpihkpoaaGreatDoor
open Go.RowKit

set_option maxHeartbeats 1000000 in
set_option maxRecDepth 100000 in
/-- The drawn text of a shape. -/
theorem dParse (a : Option Addr) (len cap : Nat) (w : World) (hc : Code w.heap.size w a len cap) (hl : len ≤ 1048576) :
    Calls Tryz.prog 9 #[.slice a len cap] w fun e w' => ∃ t : ByteArray, t.size ≤ 500 ∧ e = .returned (.string t) ∧ Below w.heap.size w w' := by
  have HC := Lib.hid hc
  clear hc
  go_enter Tryz.func9, Tryz.ntmps9
  go_wp2_with fail
  refine (dNew w.heap.size a len cap _ HC.out hl (Nat.le_refl _)).mono ?_
  rintro e w1 ⟨rfl, hc1, hg1⟩
  have hlt := hc1.lt
  go_wp2_with fail
  refine (dAny w.heap.size w.heap.size w1 hc1).mono ?_
  rintro e w2 ⟨ad, gg, off, n, cp, l, rfl, hcam, hgg, hcm, hin, hln, hn9, hc2, hg2⟩
  have HG2 := Lib.hid (grow_new hg1 hg2 (fun k hk => by cases hk; omega))
  have HC2 := Lib.hid hc2
  have HA := Lib.hid (CellsAt.of_came hcam hin)
  clear hcam hin hc2 hg2 hg1 hc1 hgg
  go_wp2_with fail
  refine (sFmt w2.heap.size n cp (some ad) l w2 (by omega) HA.out (Nat.le_refl _)).mono ?_
  rintro e w3 ⟨rfl, hb3⟩
  have HC3 := Lib.hid (HC2.out.grown (grow_below hb3 none) (fun k hk => by cases hk))
  have HG3 := Lib.hid (grow_new HG2.out (grow_below hb3 none) (fun k hk => by cases hk))
  have hs3 := HG3.out.size
  have hfs : (ByteArray.mk (fmtC l).toArray).size ≤ 200 := by
    show (fmtC l).toArray.size ≤ 200
    cases hsh : isShape l with
    | true => have := (fmtC_yes hsh).2.2.1; simp; omega
    | false => rw [fmtC_no hsh]; simp
  clear hb3 HG2 HC2 HA
  obtain ⟨T, hT⟩ : ∃ T : ByteArray, ByteArray.mk (fmtC l).toArray = T := ⟨_, rfl⟩
  rw [show S (fmtC l) = .string T from congrArg Value.string hT]
  rw [hT] at hfs
  clear hT hln hn9 hcm
  go_wp2_with fail
  refine (dBelow w.heap.size w.heap.size 4 _ HC3.out (by omega) (by omega)).mono ?_
  rintro e w4 ⟨d, hd0, hd1, rfl, hc4, hg4⟩
  have HC4 := Lib.hid hc4
  have HG4 := Lib.hid (grow_new HG3.out hg4 (fun k hk => by cases hk; omega))
  have hs4 := HG4.out.size
  clear hc4 hg4 HC3 HG3
  by_cases h0 : d = 0
  · subst h0
    go_wp2_with fail
    refine (dSpoil w.heap.size w.heap.size T _ HC4.out hfs).mono ?_
    rintro e w5 ⟨t, ht, rfl, hc5, hg5⟩
    have HB := Lib.hid (blw (grow_new HG4.out hg5 (fun k hk => by cases hk; omega)))
    clear hc5 hg5
    go_wp2
    go_ret
    exact ⟨t, ht, rfl, HB.out⟩
  · by_cases h1 : d = 1
    · subst h1
      clear h0
      go_wp2_with fail
      have hlt4 := HC4.out.lt
      refine (dPickS w.heap.size w.heap.size w4.heap.size 12 [⟨#[]⟩, ⟨#[35]⟩, ⟨#[46, 35]⟩, ⟨#[35, 46]⟩, ⟨#[35, 47]⟩, ⟨#[47, 35]⟩, ⟨#[35, 47, 47, 35]⟩, ⟨#[46]⟩, ⟨#[35, 120]⟩, ⟨#[35, 35, 35, 35, 35, 35, 35, 35, 35]⟩, ⟨#[46, 35, 47, 35]⟩, ⟨#[35, 47, 46, 35]⟩] _ (HC4.out.alloc _) (by omega) (by omega) rfl (heap_alloc_new _ _) (by omega) (by decide)).mono ?_
      rintro e w5 ⟨t, ht, rfl, hc5, hg5⟩
      have HB := Lib.hid (blw (grow_new (grow_new HG4.out (World.grownBy_alloc _ _ none) (fun k hk => by cases hk)) hg5 (fun k hk => by cases hk; omega)))
      clear hc5 hg5
      go_wp2
      go_ret
      exact ⟨t, by omega, rfl, HB.out⟩
    · have hb0 : (d == 0) = false := beq_eq_false_iff_ne.2 h0
      have hb1 : (d == 1) = false := beq_eq_false_iff_ne.2 h1
      go_wp2
      go_ret
      exact ⟨T, by omega, rfl, blw HG4.out⟩

end Go.Proofs.YtihjcifpihkpoaaGreatDoor
