/-
  The laws on what gives a row of cells: helpers, and the walk of the law on CornerShape.
-/
import Derived.Test.YtghpljoccclmkaaDoorCmk
import Derived.Test.YtghpljoccclmkaaDoorIan
import Derived.Test.YtghpljoccclmkaaDoorLw1
namespace Go.Proofs.YtghpljoccclmkaaDoor
open Go.RowKit

theorem own_slice {w : World} {base n : Nat} {v : Value} {xs : List Value} (h : w.ownsRow base 41 2 v n xs) : ∃ a cap, v = .slice a n cap := by
  rcases h.2 with ⟨rfl, rfl⟩ | ⟨g, cap, cur, rfl, _⟩
  · exact ⟨_, _, rfl⟩
  · exact ⟨_, _, rfl⟩
theorem none_row (v : Value) : v.ownBlock = none ∨ v.ownBlock ≠ none := by
  cases v.ownBlock with
  | none => exact .inl rfl
  | some k => exact .inr (by simp)
theorem ne_row {v u : Value} {B m : Nat} (h : ∀ k, v.ownBlock = some k → B ≤ k ∧ k < m) (h2 : ∀ k, u.ownBlock = some k → k < B) : v.ownBlock = none ∨ v.ownBlock ≠ u.ownBlock := by
  cases e : v.ownBlock with
  | none => exact .inl rfl
  | some k =>
    refine .inr fun e2 => ?_
    have := h k e
    have := h2 k e2.symm
    omega
theorem cornS_le (l : List Cl) : (cornS l).length ≤ l.length := by
  unfold cornS cornerC
  split
  · simp
  · simp

set_option maxHeartbeats 1000000 in
theorem lMark_any (base n cap : Nat) (a : Option Addr) (k0 : Int) (l : List Cl) (w : World) (hn : n ≤ 4194304) (h0 : 0 ≤ k0) (h1 : k0 ≤ 4194304) (hl : l.length = n)
    (ho : w.ownsRow base 41 2 (.slice a n cap) n (cvs l)) :
    Calls Tryd.prog 12 #[.slice a n cap, .int .i64 k0] w fun e w' => e = .returned (.int .i64 (k0 + 2 * n)) ∧ w'.ownsRow base 41 2 (.slice a n cap) n (cvs (marks k0 n)) ∧ w.grownBy w' (Value.slice a n cap).ownBlock := by
  rcases ho.2 with ⟨e, rfl⟩ | ⟨g, cp, cur, e, _⟩
  · injection e with e1 _ e3
    subst e1 e3
    have HO := Lib.hid (show w.ownsRow base 41 2 (.slice none 0 0) 0 (cvs (marks k0 0)) from World.ownsRow_nil w base 41 2)
    clear ho
    go_enter Tryd.func12, Tryd.ntmps12
    go_wp2
    go_loopw [5, 1] (fun i q wr => i = .int .i64 0 ∧ q = .int .i64 k0 ∧ wr = w) (fun i _ _ => 0 - (intOf i).toNat)
    case atStart => exact ⟨rfl, rfl, rfl⟩
    case round =>
      obtain ⟨rfl, rfl, rfl⟩ := hrel
      go_wp2
      go_ret
      exact ⟨by simp, HO.out, World.grownBy.refl _ _⟩
  · injection e with e1 _ e3
    subst e1 e3
    exact lMark_at base g n cap k0 l w hn h0 h1 hl ho


end Go.Proofs.YtghpljoccclmkaaDoor
