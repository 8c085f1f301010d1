/-
  The draws of the law of motions.
-/
import Derived.Test.YtecfabhpjihcbaaGreatDra
import Derived.Test.YtecfabhpjihcbaaGreatMo2
import Derived.Test.YtecfabhpjihcbaaGreatPall
namespace Go.Proofs.YtecfabhpjihcbaaGreat
open Go.RowKit

set_option maxRecDepth 100000 in
theorem dComp (a : Option Addr) (len cap : Nat) (w : World) (hc : Code w.heap.size w a len cap) (hl : len ≤ 1048576) :
    Calls Tryz.prog 5 #[.slice a len cap] w fun e w' => ∃ x y : Int, e = .returned (.tuple #[.int .i64 x, .int .i64 y]) ∧ -1 ≤ x ∧ x ≤ 8 ∧ 0 ≤ y ∧ y ≤ 8 ∧ Below w.heap.size w w' := by
  have HC := Lib.hid hc
  clear hc
  go_enter Tryz.func5, Tryz.ntmps5
  go_wp2_with fail
  refine (dNew w.heap.size a len cap _ HC.out hl (Nat.le_refl _)).mono ?_
  rintro e w1 ⟨rfl, hc1, hg1⟩
  have hlt := hc1.lt
  have HG1 := Lib.hid hg1
  have HC1 := Lib.hid hc1
  clear hc1 hg1
  go_wp2_with fail
  refine (dBelow w.heap.size w.heap.size 10 _ HC1.out (by omega) (by omega)).mono ?_
  rintro e w3 ⟨x, hx0, hx1, rfl, hc3, hg3⟩
  have HG3 := Lib.hid (grow_new HG1.out hg3 (fun k hk => by cases hk; omega))
  have HC3 := Lib.hid hc3
  clear hc3 hg3 HG1 HC1
  go_wp2_with fail
  refine (dBelow w.heap.size w.heap.size 9 _ HC3.out (by omega) (by omega)).mono ?_
  rintro e w4 ⟨y, hy0, hy1, rfl, hc4, hg4⟩
  have HR := Lib.hid (show ∃ x' y' : Int, Ending.returned (.tuple #[.int .i64 (x - 1), .int .i64 y]) = .returned (.tuple #[.int .i64 x', .int .i64 y']) ∧ -1 ≤ x' ∧ x' ≤ 8 ∧ 0 ≤ y' ∧ y' ≤ 8 ∧ Below w.heap.size w w4 from
    ⟨_, _, rfl, by omega, by omega, by omega, by omega, blw (grow_new HG3.out hg4 (fun k hk => by cases hk; omega))⟩)
  clear hc4 hg4 HC3 HG3
  go_wp2
  go_ret2
  exact HR.out

/-- A drawn list of cells and a small number. -/
def GivesL1 (w : World) (e : Ending) (w' : World) : Prop := ∃ (ad : Addr) (n cap : Nat) (l : List Cl) (x : Int), e = .returned (.tuple #[.slice (some ad) n cap, .int .i64 x]) ∧ -1 ≤ x ∧ x ≤ 8 ∧ CellsAt w'.heap.size w' (some ad) n l ∧ n ≤ 20 ∧ Below w.heap.size w w'

set_option maxRecDepth 100000 in
set_option maxHeartbeats 1000000 in
theorem dBoth (a : Option Addr) (len cap : Nat) (w : World) (hc : Code w.heap.size w a len cap) (hl : len ≤ 1048576) :
    Calls Tryz.prog 40 #[.slice a len cap] w (GivesL1 w) := by
  have HC := Lib.hid hc
  clear hc
  go_enter Tryz.func40, Tryz.ntmps40
  go_wp2_with fail
  refine (dNew w.heap.size a len cap _ HC.out hl (Nat.le_refl _)).mono ?_
  rintro e w1 ⟨rfl, hc1, hg1⟩
  have hlt := hc1.lt
  go_wp2_with fail
  refine (dAny w.heap.size w.heap.size w1 hc1).mono ?_
  rintro e w2 ⟨ad, gg, off, n, cp, l, rfl, hcam, hgg, hcm, hin, hln, hn9, hc2, hg2⟩
  have HG2 := Lib.hid (grow_new hg1 hg2 (fun k hk => by cases hk; omega))
  have HC2 := Lib.hid hc2
  have HCAM := Lib.hid hcam
  have HIN := Lib.hid hin
  clear hcam hin hc2 hg2 hg1 hc1
  go_wp2_with fail
  refine (dBelow w.heap.size w.heap.size 10 _ HC2.out (by omega) (by omega)).mono ?_
  rintro e w3 ⟨x, hx0, hx1, rfl, hc3, hg3⟩
  have HR := Lib.hid (show GivesL1 w (.returned (.tuple #[.slice (some ad) n cp, .int .i64 (x - 1)])) w3 from ⟨ad, n, cp, l, _, rfl, by omega, by omega,
    CellsAt.of_came (Came.kept HCAM.out hg3 (fun h e => by have h9 : w.heap.size = gg := Option.some.inj e; have := hgg h; omega)) HIN.out, by omega, blw (grow_new HG2.out hg3 (fun k hk => by cases hk; omega))⟩)
  clear hc3 hg3 hgg HCAM HC2 HG2 HIN
  go_wp2
  go_ret2
  exact HR.out

set_option maxRecDepth 100000 in
theorem dTurnShape (a : Option Addr) (len cap : Nat) (w : World) (hc : Code w.heap.size w a len cap) (hl : len ≤ 1048576) :
    Calls Tryz.prog 10 #[.slice a len cap] w (GivesL1 w) := by
  have HC := Lib.hid hc
  clear hc
  go_enter Tryz.func10, Tryz.ntmps10
  go_wp2_with fail
  refine (dBoth a len cap w HC.out hl).mono ?_
  rintro e w1 ⟨ad, n, cp, l, x, rfl, h1, h2, h3, h4, h5⟩
  have HR := Lib.hid (show GivesL1 w (.returned (.tuple #[.slice (some ad) n cp, .int .i64 x])) w1 from ⟨ad, n, cp, l, x, rfl, h1, h2, h3, h4, h5⟩)
  clear h3 h5
  go_wp2
  go_ret2
  exact HR.out

set_option maxRecDepth 100000 in
set_option maxHeartbeats 1000000 in
theorem dTwo (a : Option Addr) (len cap : Nat) (w : World) (hc : Code w.heap.size w a len cap) (hl : len ≤ 1048576) :
    Calls Tryz.prog 54 #[.slice a len cap] w (GivesLL w) := by
  have HC := Lib.hid hc
  clear hc
  go_enter Tryz.func54, Tryz.ntmps54
  go_wp2_with fail
  refine (dNew w.heap.size a len cap _ HC.out hl (Nat.le_refl _)).mono ?_
  rintro e w1 ⟨rfl, hc1, hg1⟩
  have hlt := hc1.lt
  go_wp2_with fail
  refine (dAny w.heap.size w.heap.size w1 hc1).mono ?_
  rintro e w2 ⟨ad, gg, off, n, cp, l, rfl, hcam, hgg, hcm, hin, hln, hn9, hc2, hg2⟩
  have HG2 := Lib.hid (grow_new hg1 hg2 (fun k hk => by cases hk; omega))
  have HC2 := Lib.hid hc2
  have HCAM := Lib.hid hcam
  have HIN := Lib.hid hin
  have HGG := Lib.hid hgg
  clear hcam hin hc2 hg2 hg1 hc1 hgg
  go_wp2_with fail
  refine (sIsShape w2.heap.size n cp (some ad) l w2 (by omega) (CellsAt.of_came HCAM.out HIN.out) (Nat.le_refl _)).mono ?_
  rintro e w3 ⟨rfl, hb3⟩
  have hg3 := grow_below hb3 none
  have HG3 := Lib.hid (grow_new HG2.out hg3 (fun k hk => by cases hk))
  have HC3 := Lib.hid (HC2.out.grown hg3 (fun k hk => by cases hk))
  have HCAM3 := Lib.hid (Came.kept HCAM.out hg3 (fun h e => by cases e))
  clear hb3 hg3 HG2 HC2 HCAM
  cases hsh : isShape l with
  | false =>
    go_wp2_with fail
    refine (dAny w.heap.size w.heap.size w3 HC3.out).mono ?_
    rintro e w5 ⟨ad2, gg2, off2, n2, cp2, l2, rfl, hcam5, hgg5, hcm5, hin5, hln5, hn95, hc5, hg5⟩
    have ha1 := CellsAt.of_came (Came.kept HCAM3.out hg5 (fun h e => by have h9 : w.heap.size = gg := Option.some.inj e; have := HGG.out h; omega)) HIN.out
    have HR := Lib.hid (show GivesLL w (.returned (.tuple #[.slice (some ad) n cp, .slice (some ad2) n2 cp2])) w5 from
      ⟨ad, n, cp, l, ad2, n2, cp2, l2, rfl, ha1, by omega, CellsAt.of_came hcam5 hin5, by omega, blw (grow_new HG3.out hg5 (fun k hk => by cases hk; omega))⟩)
    clear hcam5 hgg5 hin5 hc5 hg5 ha1
    go_wp2
    go_ret2
    exact HR.out
  | true =>
    have hinp := isShape_in hsh
    have HINP := Lib.hid hinp
    clear hinp
    go_wp2_with fail
    refine (dOnce w.heap.size w.heap.size 3 _ HC3.out (by omega) (by omega)).mono ?_
    rintro e w4 ⟨bb, rfl, hc4, hg4⟩
    have HG4 := Lib.hid (grow_new HG3.out hg4 (fun k hk => by cases hk; omega))
    have HC4 := Lib.hid hc4
    have HCAM4 := Lib.hid (Came.kept HCAM3.out hg4 (fun h e => by have h9 : w.heap.size = gg := Option.some.inj e; have := HGG.out h; omega))
    clear hc4 hg4 HG3 HC3 HCAM3
    cases bb with
    | true =>
      go_wp2_with fail
      refine (dAny w.heap.size w.heap.size w4 HC4.out).mono ?_
      rintro e w5 ⟨ad2, gg2, off2, n2, cp2, l2, rfl, hcam5, hgg5, hcm5, hin5, hln5, hn95, hc5, hg5⟩
      have ha1 := CellsAt.of_came (Came.kept HCAM4.out hg5 (fun h e => by have h9 : w.heap.size = gg := Option.some.inj e; have := HGG.out h; omega)) HIN.out
      have HR := Lib.hid (show GivesLL w (.returned (.tuple #[.slice (some ad) n cp, .slice (some ad2) n2 cp2])) w5 from
        ⟨ad, n, cp, l, ad2, n2, cp2, l2, rfl, ha1, by omega, CellsAt.of_came hcam5 hin5, by omega, blw (grow_new HG4.out hg5 (fun k hk => by cases hk; omega))⟩)
      clear hcam5 hgg5 hin5 hc5 hg5 ha1
      go_wp2
      go_ret2
      exact HR.out
    | false =>
      go_wp2_with fail
      refine (dBelow w.heap.size w.heap.size 8 _ HC4.out (by omega) (by omega)).mono ?_
      rintro e w5 ⟨x, hx0, hx1, rfl, hc5, hg5⟩
      obtain ⟨m, rfl⟩ := Int.eq_ofNat_of_zero_le hx0
      have HG5 := Lib.hid (grow_new HG4.out hg5 (fun k hk => by cases hk; omega))
      have HCAM5 := Lib.hid (Came.kept HCAM4.out hg5 (fun h e => by have h9 : w.heap.size = gg := Option.some.inj e; have := HGG.out h; omega))
      clear hc5 hg5 HG4 HC4 HCAM4
      go_wp2_with fail
      refine (sTurn w5.heap.size n cp m (some ad) l w5 (by omega) (by omega) (CellsAt.of_came HCAM5.out HIN.out) HINP.out (Nat.le_refl _)).mono ?_
      rintro e w6 ⟨g6, c6, rfl, hown6, hb6⟩
      have hlen : (turnC m l).length ≤ 20 := by have := turnC_len m l; omega
      have hinc : ∀ c ∈ turnC m l, InC c := fun c hc => inP_in (((isShape_iff _).1 (isShape_turn (by omega) hsh)).2.1 c hc)
      have HR := Lib.hid (show GivesLL w (.returned (.tuple #[.slice (some ad) n cp, .slice (some ⟨g6, 0, none⟩) (turnC m l).length c6])) w6 from
        ⟨ad, n, cp, l, _, _, c6, turnC m l, rfl, CellsAt.of_came (Came.kept HCAM5.out (grow_below hb6 none) (fun h e => by cases e)) HIN.out, by omega, CellsAt.of_own hown6 hinc, hlen, blw (grow_new HG5.out (grow_below hb6 none) (fun k hk => by cases hk))⟩)
      clear hown6 hb6 hinc
      go_wp2
      go_ret2
      exact HR.out

set_option maxRecDepth 100000 in
theorem dCongr (a : Option Addr) (len cap : Nat) (w : World) (hc : Code w.heap.size w a len cap) (hl : len ≤ 1048576) :
    Calls Tryz.prog 26 #[.slice a len cap] w (GivesLL w) := by
  have HC := Lib.hid hc
  clear hc
  go_enter Tryz.func26, Tryz.ntmps26
  go_wp2_with fail
  refine (dTwo a len cap w HC.out hl).mono ?_
  rintro e w1 ⟨ad, n, cp, l, ad2, n2, cp2, l2, rfl, h1, h2, h3, h4, h5⟩
  have HR := Lib.hid (show GivesLL w (.returned (.tuple #[.slice (some ad) n cp, .slice (some ad2) n2 cp2])) w1 from ⟨ad, n, cp, l, ad2, n2, cp2, l2, rfl, h1, h2, h3, h4, h5⟩)
  clear h1 h3 h5
  go_wp2
  go_ret2
  exact HR.out

set_option maxRecDepth 100000 in
theorem dCompare (a : Option Addr) (len cap : Nat) (w : World) (hc : Code w.heap.size w a len cap) (hl : len ≤ 1048576) :
    Calls Tryz.prog 27 #[.slice a len cap] w (GivesLL w) := by
  have HC := Lib.hid hc
  clear hc
  go_enter Tryz.func27, Tryz.ntmps27
  go_wp2_with fail
  refine (dTwo a len cap w HC.out hl).mono ?_
  rintro e w1 ⟨ad, n, cp, l, ad2, n2, cp2, l2, rfl, h1, h2, h3, h4, h5⟩
  have HR := Lib.hid (show GivesLL w (.returned (.tuple #[.slice (some ad) n cp, .slice (some ad2) n2 cp2])) w1 from ⟨ad, n, cp, l, ad2, n2, cp2, l2, rfl, h1, h2, h3, h4, h5⟩)
  clear h1 h3 h5
  go_wp2
  go_ret2
  exact HR.out

end Go.Proofs.YtecfabhpjihcbaaGreat
