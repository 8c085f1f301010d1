/-
  Drawn shapes with holes, in the model: what the calls give.
-/
import Derived.Test.YthnapikklolgcaaDrn
import Derived.Test.YthnapikklolgcaaSpr
import Derived.Test.YthnapikklolgcaaJon
namespace Go.Proofs.Ythnapikklolgcaa
open Go.RowKit

/-- A drawn list of cells. -/
def GivesH (w : World) (e : Ending) (w' : World) : Prop := ∃ (a : Option Addr) (n cap : Nat) (l : List Cl), e = .returned (.slice a n cap) ∧ CellsAt w'.heap.size w' a n l ∧ n ≤ 20 ∧ n ≤ cap ∧ Below w.heap.size w w'

set_option maxHeartbeats 1000000 in
set_option maxRecDepth 100000 in
theorem dHolesOf (a : Option Addr) (len cap : Nat) (w : World) (hc : Code w.heap.size w a len cap) (hl : len ≤ 1048576) :
    Calls Try.prog 18 #[.slice a len cap] w (GivesH w) := by
  have key : ∀ (B g : Nat) (w0 : World), Cur B w0 g → B ≤ w0.heap.size → Calls Try.prog 54 #[.pointer (some ⟨g, 0, none⟩)] w0 fun e w' => ∃ (a : Option Addr) (n cap : Nat) (l : List Cl), e = .returned (.slice a n cap) ∧ CellsAt w'.heap.size w' a n l ∧ n ≤ 20 ∧ n ≤ cap ∧ w0.grownBy w' (some g) := by
    intro B g w0 hc hB
    have HC := Lib.hid hc
    have hgl := hc.lt
    clear hc
    go_enter Try.func54, Try.ntmps54
    go_wp2_with fail
    refine (dOnce B g 3 _ HC.out (by omega) (by omega)).mono ?_
    rintro e w1 ⟨bb, rfl, hc1, hg1⟩
    have HC1 := Lib.hid hc1
    have HG1 := Lib.hid hg1
    have hs1 := hg1.size
    clear hc1 hg1
    cases bb with
    | true =>
      go_wp2_with fail
      have hlt1 := HC1.out.lt
      refine (dPickS B g w1.heap.size 5 [⟨#[35, 35, 35, 47, 35, 46, 35, 47, 35, 35, 35]⟩, ⟨#[35, 35, 35, 47, 35, 46, 35, 47, 35, 35]⟩, ⟨#[46, 35, 35, 47, 35, 46, 35, 47, 35, 35, 35]⟩, ⟨#[35, 35, 47, 35, 46, 35, 47, 46, 35, 35]⟩, ⟨#[35, 46, 35]⟩] _ (HC1.out.alloc _) (by omega) (by omega) rfl (heap_alloc_new _ _) (by omega) (by decide)).mono ?_
      rintro e w2 ⟨t, ht, rfl, hc2, hg2⟩
      have HG2 := Lib.hid (grow_trans (grow_trans HG1.out (World.grownBy_alloc _ _ (some g))) hg2)
      have hs2 := HG2.out.size
      clear hc2 hg2
      go_wp2_with fail
      refine (sParse t w2 (by omega)).mono ?_
      rintro e w3 ⟨g3, cc3, rfl, hown3, hb3⟩
      have hle := own_le2 hown3
      have hpl : (parS (tx t)).length ≤ 20 := by
        cases h : okP (tx t) with
        | true =>
          have h2 := (okP_out h).1
          rw [parS_yes h]
          have := ((isShape_iff _).1 h2).1
          omega
        | false => rw [parS_no h]; simp
      have hin : ∀ c ∈ parS (tx t), InC c := by
        cases h : okP (tx t) with
        | true => rw [parS_yes h]; exact pcs_in t (by omega)
        | false => rw [parS_no h]; intro c hc; cases hc
      have HR := Lib.hid (CellsAt.of_own hown3 hin)
      have HG3 := Lib.hid (grow_trans HG2.out (grow_below hb3 (some g)))
      clear hown3 hb3
      go_wp2
      go_ret
      exact ⟨_, _, _, _, rfl, HR.out, hpl, hle, HG3.out⟩
    | false =>
      go_wp2_with fail
      refine (dAny B g w1 HC1.out).mono ?_
      rintro e w2 ⟨ad, gg, off, n, cp, l, rfl, hcam, hgg, hcm, hin, hln, hn9, hc2, hg2⟩
      have hle := hcam.le
      have HA := Lib.hid (CellsAt.of_came hcam hin)
      have HG2 := Lib.hid (grow_trans HG1.out hg2)
      clear hcam hin hc2 hg2 hgg
      go_wp2
      go_ret
      exact ⟨_, _, _, _, rfl, HA.out, by omega, hle, HG2.out⟩
  have HC := Lib.hid hc
  clear hc
  go_enter Try.func18, Try.ntmps18
  go_wp2_with fail
  refine (dNew w.heap.size a len cap _ HC.out hl (Nat.le_refl _)).mono ?_
  rintro e w1 ⟨rfl, hc1, hg1⟩
  have HG1 := Lib.hid hg1
  have HC1 := Lib.hid hc1
  have hs1 := hg1.size
  clear hc1 hg1
  go_wp2_with fail
  refine (key w.heap.size w.heap.size w1 HC1.out hs1).mono ?_
  rintro e w2 ⟨a2, n2, cap2, l2, rfl, hcl, hn2, hle, hg2⟩
  have HR := Lib.hid (show GivesH w (.returned (.slice a2 n2 cap2)) w2 from ⟨a2, n2, cap2, l2, rfl, hcl, hn2, hle, blw (grow_new HG1.out hg2 (fun k hk => by cases hk; omega))⟩)
  clear hcl hg2 key
  go_wp2
  go_ret
  exact HR.out

end Go.Proofs.Ythnapikklolgcaa
