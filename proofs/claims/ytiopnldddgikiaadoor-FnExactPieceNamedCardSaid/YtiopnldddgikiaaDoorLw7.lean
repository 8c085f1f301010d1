/-
  The walk of the law on ParseShape.
-/
import Derived.Test.YtiopnldddgikiaaDoorIpr
import Derived.Test.YtiopnldddgikiaaDoorCmk
namespace Go.Proofs.YtiopnldddgikiaaDoor
open Go.RowKit

theorem lMark_any (base n cap : Nat) (a : Option Addr) (k0 : Int) (l : List Cl) (w : World) (hn : n ≤ 4194304) (h0 : 0 ≤ k0) (h1 : k0 ≤ 1048576) (hl : l.length = n)
    (ho : w.ownsRow base 33 2 (.slice a n cap) n (cvs l)) :
    Calls Tryd.prog 7 #[.slice a n cap, .int .i64 k0] w fun e w' => e = .returned (.int .i64 (k0 + 2 * n)) ∧ w'.ownsRow base 33 2 (.slice a n cap) n (cvs (marks k0 n)) ∧ w.grownBy w' (Value.slice a n cap).ownBlock := by
  rcases ho.2 with ⟨e, rfl⟩ | ⟨g, cp, cur, e, _⟩
  · injection e with e1 _ e3
    subst e1 e3
    have HO := Lib.hid (show w.ownsRow base 33 2 (.slice none 0 0) 0 (cvs (marks k0 0)) from World.ownsRow_nil w base 33 2)
    clear ho
    go_enter Tryd.func7, Tryd.ntmps7
    go_wp2
    go_loopw [5, 1] (fun i q wr => i = .int .i64 0 ∧ q = .int .i64 k0 ∧ wr = w) (fun i _ _ => 0 - (intOf i).toNat)
    case atStart => exact ⟨rfl, rfl, rfl⟩
    case round =>
      obtain ⟨rfl, rfl, rfl⟩ := hrel
      go_wp2
      go_ret
      exact ⟨by simp, HO.out, World.grownBy.refl _ _⟩
  · injection e with e1 _ e3
    subst e1 e3
    exact lMark_at base g n cap k0 l w hn h0 h1 hl ho
theorem parS_le (s : ByteArray) : (parS (tx s)).length ≤ s.size := by
  unfold parS
  split
  · have := (pcs_bd (tx s) 0 0 (by omega) (by omega)).1
    rw [tx_len] at this
    exact this
  · simp
theorem parS_in (s : ByteArray) (hs : s.size ≤ 4194304) : ∀ c ∈ parS (tx s), InC c := by
  unfold parS
  split
  · exact pcs_in s hs
  · intro c hc; cases hc
theorem eqb_same (l : List Cl) : eqb l l = true := by simp [eqb]

/-- The library's variable holds a number, by the shape of the world in which the call begins. -/
theorem mx_of_shape {W : World} (h : W.ShapedOpen Tryd.prog) : Mx W := Tryd.laysM146.s1_3 W h

end Go.Proofs.YtiopnldddgikiaaDoor
