/-
  The size of a shape, in the program: what the call gives.
-/
import Derived.Test.YtbfopdflkkcfaaaIbd
namespace Go.Proofs.Ytbfopdflkkcfaaa
open Go.RowKit

theorem size_no {l : List Cl} (h : isShape l = false) : wideC l = 0 ∧ highC l = 0 := by
  have e : cornS l = [] := if_neg (by rw [h]; simp)
  unfold wideC highC
  rw [e]
  exact ⟨rfl, rfl⟩
theorem size_yes {l : List Cl} (h : isShape l = true) : wideC l = grtX l - lstX l + 1 ∧ highC l = grtY l - lstY l + 1 := by
  have h1 := size_of h
  have h2 := ((isShape_iff l).1 h).1
  unfold grtX grtY lstX lstY
  rw [lst_min _ _ (by omega), lst_min _ _ (by omega)]
  exact h1
theorem bounds_in {l : List Cl} (h : isShape l = true) : (0 ≤ lstX l ∧ lstX l ≤ 7) ∧ (0 ≤ lstY l ∧ lstY l ≤ 7) ∧ (0 ≤ grtX l ∧ grtX l ≤ 7) ∧ (0 ≤ grtY l ∧ grtY l ≤ 7) := by
  obtain ⟨h1, h2, _⟩ := (isShape_iff l).1 h
  have hx : ∀ c ∈ l, 0 ≤ Prod.fst c ∧ Prod.fst c ≤ 7 := fun c hc => by have := inP_out (h2 c hc); omega
  have hy : ∀ c ∈ l, 0 ≤ Prod.snd c ∧ Prod.snd c ≤ 7 := fun c hc => by have := inP_out (h2 c hc); omega
  exact ⟨lstTo_bd _ l (by omega) hx _ (Nat.le_refl _), lstTo_bd _ l (by omega) hy _ (Nat.le_refl _), grtTo_bd _ l (by omega) hx _ (Nat.le_refl _), grtTo_bd _ l (by omega) hy _ (Nat.le_refl _)⟩

set_option maxHeartbeats 1000000 in
set_option maxRecDepth 100000 in
theorem iSize (B n cap : Nat) (a : Option Addr) (l : List Cl) (w : World) (hn : n ≤ 4194304) (hc : CellsAt B w a n l) (hB : B ≤ w.heap.size) :
    Calls Try.prog 63 #[.slice a n cap] w fun e w' => e = .returned (.tuple #[.int .i64 (wideC l), .int .i64 (highC l)]) ∧ Below w.heap.size w w' := by
  have H := Lib.hid hc
  clear hc
  by_cases h : isShape l = true
  · have HS := Lib.hid (size_yes h)
    have HBD := Lib.hid (bounds_in h)
    have hl := ((isShape_iff l).1 h).1
    rw [H.out.1] at hl
    go_enter Try.func63, Try.ntmps63
    go_wp2_with fail
    refine (iIsShape B n cap a l w hn H.out hB).mono ?_
    rintro e w1 ⟨rfl, hb1⟩
    go_wp2_with fail
    refine (iBounds B n cap a l w1 hn (by omega) (H.out.on (hb1.mono hB)) (Nat.le_trans hB hb1.size)).mono ?_
    rintro e w2 ⟨rfl, hb2⟩
    have hb := hb1.trans (hb2.mono hb1.size)
    have hbd := HBD.out
    generalize hA1 : lstX l = a1 at hbd
    generalize hA2 : lstY l = a2 at hbd
    generalize hA3 : grtX l = a3 at hbd
    generalize hA4 : grtY l = a4 at hbd
    have HA := Lib.hid (show _ ∧ _ ∧ _ ∧ _ from ⟨hA1, hA2, hA3, hA4⟩)
    have j1 : IntKind.i64.wrap (a3 - a1) = a3 - a1 := IntWalk.i64_in _ (by omega)
    have j2 : IntKind.i64.wrap (a3 - a1 + 1) = a3 - a1 + 1 := IntWalk.i64_in _ (by omega)
    have j3 : IntKind.i64.wrap (a4 - a2) = a4 - a2 := IntWalk.i64_in _ (by omega)
    have j4 : IntKind.i64.wrap (a4 - a2 + 1) = a4 - a2 + 1 := IntWalk.i64_in _ (by omega)
    clear hA1 hA2 hA3 hA4
    go_wp2_with fail
    go_quiet (fail)
    go_wp2
    go_ret2
    rw [HS.out.1, HS.out.2, HA.out.1, HA.out.2.1, HA.out.2.2.1, HA.out.2.2.2]
    exact ⟨rfl, below_drewn ((hb.alloc hb.size _).alloc (hb.alloc hb.size _).size _) _⟩
  · have h' : isShape l = false := by simpa using h
    have HS := Lib.hid (size_no h')
    clear h
    go_enter Try.func63, Try.ntmps63
    go_wp2_with fail
    refine (iIsShape B n cap a l w hn H.out hB).mono ?_
    rintro e w1 ⟨rfl, hb1⟩
    go_wp2
    go_ret2
    rw [HS.out.1, HS.out.2]
    exact ⟨rfl, hb1⟩

end Go.Proofs.Ytbfopdflkkcfaaa
