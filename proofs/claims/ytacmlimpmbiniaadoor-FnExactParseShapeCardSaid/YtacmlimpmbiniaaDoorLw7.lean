/-
  The walk of the law on ParseShape.
-/
import Derived.Test.YtacmlimpmbiniaaDoorIpr
import Derived.Test.YtacmlimpmbiniaaDoorCmk
namespace Go.Proofs.YtacmlimpmbiniaaDoor
open Go.RowKit

theorem lMark_any (base n cap : Nat) (a : Option Addr) (k0 : Int) (l : List Cl) (w : World) (hn : n ≤ 4194304) (h0 : 0 ≤ k0) (h1 : k0 ≤ 1048576) (hl : l.length = n)
    (ho : w.ownsRow base 29 2 (.slice a n cap) n (cvs l)) :
    Calls Tryd.prog 7 #[.slice a n cap, .int .i64 k0] w fun e w' => e = .returned (.int .i64 (k0 + 2 * n)) ∧ w'.ownsRow base 29 2 (.slice a n cap) n (cvs (marks k0 n)) ∧ w.grownBy w' (Value.slice a n cap).ownBlock := by
  rcases ho.2 with ⟨e, rfl⟩ | ⟨g, cp, cur, e, _⟩
  · injection e with e1 _ e3
    subst e1 e3
    have HO := Lib.hid (show w.ownsRow base 29 2 (.slice none 0 0) 0 (cvs (marks k0 0)) from World.ownsRow_nil w base 29 2)
    clear ho
    go_enter Tryd.func7, Tryd.ntmps7
    go_wp2
    go_loopw [5, 1] (fun i q wr => i = .int .i64 0 ∧ q = .int .i64 k0 ∧ wr = w) (fun i _ _ => 0 - (intOf i).toNat)
    case atStart => exact ⟨rfl, rfl, rfl⟩
    case round =>
      obtain ⟨rfl, rfl, rfl⟩ := hrel
      go_wp2
      go_ret
      exact ⟨by simp, HO.out, World.grownBy.refl _ _⟩
  · injection e with e1 _ e3
    subst e1 e3
    exact lMark_at base g n cap k0 l w hn h0 h1 hl ho
theorem parS_le (s : ByteArray) : (parS (tx s)).length ≤ s.size := by
  unfold parS
  split
  · have := (pcs_bd (tx s) 0 0 (by omega) (by omega)).1
    rw [tx_len] at this
    exact this
  · simp
theorem parS_in (s : ByteArray) (hs : s.size ≤ 4194304) : ∀ c ∈ parS (tx s), InC c := by
  unfold parS
  split
  · exact pcs_in s hs
  · intro c hc; cases hc
theorem eqb_same (l : List Cl) : eqb l l = true := by simp [eqb]

set_option maxHeartbeats 2000000 in
theorem law_ParseShape (s : ByteArray) (hm : s.size ≤ maxLen) (w : World) (hM : Mx w) :
    Calls Tryd.prog 3 #[.string s] w fun e w' => e = .returned (.bool true) ∧ Below w.heap.size w w' := by
  by_cases hs : (1048576 : Int) < s.size
  · go_enter Tryd.func3, Tryd.ntmps3
    go_wp2
    go_ret
    exact ⟨rfl, Below.refl _ _⟩
  · have hn : s.size ≤ 1048576 := by omega
    have hn4 : s.size ≤ 4194304 := by omega
    have HMX := Lib.hid hM
    have hMl := hM.lt
    have hrl := parS_le s
    have HIN := Lib.hid (parS_in s hn4)
    obtain ⟨R, hR⟩ : ∃ R, parS (tx s) = R := ⟨_, rfl⟩
    obtain ⟨b, hb⟩ : ∃ b, okP (tx s) = b := ⟨_, rfl⟩
    have HR := Lib.hid hR
    have HBO := Lib.hid hb
    rw [hR] at hrl HIN
    have HF := Lib.hid (eqb_same R)
    have hr4 : R.length ≤ 4194304 := by omega
    have hk2 : ¬ ((1 : Int) + 2 * (R.length : Int) < 0) := by omega
    have hk3 : (((1 : Int) + 2 * (R.length : Int)) != (1 + 2 * (R.length : Int))) = false := by simp
    have hbb : (b != b) = false := by simp
    clear hM hR hb
    go_enter Tryd.func3, Tryd.ntmps3
    go_wp2_with fail
    refine (sParse s w hn4).mono ?_
    rintro e w2 ⟨gw, cw, rfl, hown2, hb2⟩
    rw [HR.out] at hown2 ⊢
    rw [HBO.out]
    have HW2 := Lib.hid (CellsAt.of_own hown2 HIN.out)
    clear hown2
    go_wp2_with fail
    refine (iParse s w2 hn (HMX.out.on hb2 hMl)).mono ?_
    rintro e w4 ⟨v, rfl, hown4, hb4⟩
    rw [HR.out] at hown4
    rw [HBO.out]
    obtain ⟨ag, cg, rfl⟩ := own_sl hown4
    have h14 := hb2.trans (hb4.mono hb2.size)
    have HGC4 := Lib.hid (CellsAt.of_own hown4 HIN.out)
    have HG4 := Lib.hid hown4
    have HW4 := Lib.hid (HW2.out.on hb4)
    clear hown4
    go_wp2_with fail
    refine (lEqCellS_any w4.heap.size R.length R.length cg cw ag _ R R w4 hr4 HGC4.out (HW4.out.more hb4.size) (Nat.le_refl _)).mono ?_
    rintro e w9 ⟨rfl, hb9⟩
    have b29 : Below w2.heap.size w2 w9 := hb4.trans (hb9.mono hb4.size)
    have HG9 := Lib.hid (HG4.out.kept (grow_below hb9 none) (none_row2 _))
    rw [HF.out]
    go_wp2_with fail
    refine (lMark_any w2.heap.size R.length _ _ 1 R w9 hr4 (by omega) (by omega) rfl HG9.out).mono ?_
    rintro e w10 ⟨rfl, hx10, hg10⟩
    have b210 : Below w2.heap.size w2 w10 := b29.grown hg10 b29.size (fun k hk => (HG9.out.lt k hk).1)
    have h110 : Below w.heap.size w w10 := hb2.trans (b210.mono hb2.size)
    have HM10 := Lib.hid (CellsAt.of_own hx10 (marks_in 1 R.length (by omega) (by omega)))
    clear hg10 hx10
    go_wp2_with fail
    refine (lHeld w10.heap.size R.length cg ag 1 w10 hr4 (by omega) (by omega) HM10.out).mono ?_
    rintro e w' ⟨rfl, rfl⟩
    go_wp2_with fail
    refine (iParse s w10 hn (HMX.out.on h110 hMl)).mono ?_
    rintro e w12 ⟨v2, rfl, hown12, hb12⟩
    rw [HR.out] at hown12
    rw [HBO.out]
    obtain ⟨ah, ch, rfl⟩ := own_sl hown12
    have b212 : Below w2.heap.size w2 w12 := b210.trans (hb12.mono b210.size)
    have HH12 := Lib.hid (CellsAt.of_own hown12 HIN.out)
    have HW12 := Lib.hid (HW2.out.on b212)
    clear hown12
    go_wp2_with fail
    refine (lEqCellS_any w12.heap.size R.length R.length ch cw ah _ R R w12 hr4 HH12.out (HW12.out.more b212.size) (Nat.le_refl _)).mono ?_
    rintro e w13 ⟨rfl, hb13⟩
    have b1013 : Below w10.heap.size w10 w13 := hb12.trans (hb13.mono hb12.size)
    have HM13 := Lib.hid (HM10.out.on b1013)
    rw [HF.out]
    go_wp2_with fail
    refine (lHeld w10.heap.size R.length cg ag 1 w13 hr4 (by omega) (by omega) HM13.out).mono ?_
    rintro e w' ⟨rfl, rfl⟩
    go_wp2
    go_ret
    exact ⟨rfl, h110.trans (b1013.mono h110.size)⟩

/-- The library's variable holds a number, by the shape of the world in which the call begins. -/
theorem mx_of_shape {W : World} (h : W.ShapedOpen Tryd.prog) : Mx W := Tryd.laysM146.s1_3 W h

end Go.Proofs.YtacmlimpmbiniaaDoor
