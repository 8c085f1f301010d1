/-
  The canonical shape, congruence, in the program: what the calls give.
-/
import Derived.Test.YtecfabhpjihcbaaGreatDoorJos
import Derived.Test.YtecfabhpjihcbaaGreatDoorLw3
namespace Go.Proofs.YtecfabhpjihcbaaGreatDoor
open Go.RowKit

theorem ret_Bj {a b : Bool} (h : a = b) : Ending.returned (.bool a) = .returned (.bool b) := by rw [h]

set_option maxHeartbeats 1000000 in
set_option maxRecDepth 100000 in
theorem iCanon (B n cap : Nat) (a : Option Addr) (l : List Cl) (w : World) (hn : n ≤ 4194304) (hc : CellsAt B w a n l) (hB : B ≤ w.heap.size) :
    Calls Tryz.prog 24 #[.slice a n cap] w fun e w' => ∃ v, e = .returned v ∧ Own w (canonS l) v w' := by
  have H := Lib.hid hc
  clear hc
  go_enter Tryz.func24, Tryz.ntmps24
  go_wp2_with fail
  refine (iOrient B n cap a l w hn H.out hB).mono ?_
  rintro e w1 ⟨v, es, rfl, hk, hsm, hown, hb1⟩
  cases es with
  | nil =>
    have hcn : canonS l = [] := by unfold canonS; rw [← hk]; rfl
    have hv : ∃ av cv, v = .slice av 0 cv := by
      rcases hown.row.2 with ⟨rfl, _⟩ | ⟨g, cv, cur, rfl, _⟩
      · exact ⟨_, _, rfl⟩
      · exact ⟨_, _, rfl⟩
    obtain ⟨av, cv, rfl⟩ := hv
    have HC := Lib.hid hcn
    clear hcn hk hsm hown
    go_wp2
    go_ret
    rw [HC.out]
    exact ⟨_, rfl, own_nil _ _, hb1⟩
  | cons e0 es =>
    obtain ⟨g, cv, rfl⟩ := own_some hown.row (by simp)
    have hcn : canonS l = e0.2.2 := by unfold canonS; rw [← hk]; rfl
    have hc0 := hown.row.cellAt 0 (by simp)
    rw [List.map_cons, List.getElem?_cons_zero] at hc0
    have HR := Lib.hid (show Own w (canonS l) (ev e0) w1 from ⟨by rw [hcn]; exact hown.each e0 (by simp), hb1⟩)
    generalize hlen : (e0 :: es).length = q at *
    have hq : 0 < q := by rw [← hlen]; simp
    have hb0 : ((q : Int) == 0) = false := beq_eq_false_iff_ne.2 (by omega)
    have hlt : (0 : Int) < (q : Int) := by omega
    clear hcn hk hsm hown hlen
    go_wp2
    go_ret
    exact ⟨_, rfl, HR.out⟩

theorem canonS_inC (l : List Cl) : ∀ c ∈ canonS l, InC c := by
  unfold canonS orientS
  split
  · rename_i h
    cases hL : sortG ltS [] (turnsC l 8) with
    | nil => intro c hc; cases hc
    | cons x L =>
      have hx : x ∈ sortG ltS [] (turnsC l 8) := by rw [hL]; simp
      rw [sortG_mem ordS] at hx
      obtain ⟨m, _, rfl⟩ := List.mem_map.1 hx
      exact turnC_inC (isShape_in h) m
  · intro c hc; cases hc

set_option maxHeartbeats 1000000 in
set_option maxRecDepth 100000 in
theorem iCongr (B n m c1 c2 : Nat) (a1 a2 : Option Addr) (l r : List Cl) (w : World) (hn : n ≤ 4194304) (hm : m ≤ 4194304) (h1 : CellsAt B w a1 n l) (h2 : CellsAt B w a2 m r) (hB : B ≤ w.heap.size) :
    Calls Tryz.prog 14 #[.slice a1 n c1, .slice a2 m c2] w fun e w' => e = .returned (.bool (congS l r)) ∧ Below w.heap.size w w' := by
  have H1 := Lib.hid h1
  have H2 := Lib.hid h2
  have HG := Lib.hid (congS_prog l r)
  clear h1 h2
  rw [HG.out]
  clear HG
  cases h : isShape l with
  | false =>
    have HS := Lib.hid h
    have e9 : (false && decide (canonS l = canonS r)) = false := rfl
    rw [e9]
    clear h e9
    go_enter Tryz.func14, Tryz.ntmps14
    go_wp2_with fail
    refine (iIsShape B n c1 a1 l w hn H1.out hB).mono ?_
    rintro e w1 ⟨rfl, hb1⟩
    rw [HS.out]
    go_wp2
    go_ret
    exact ⟨rfl, hb1⟩
  | true =>
    have HS := Lib.hid h
    have e9 : (true && decide (canonS l = canonS r)) = eqb (canonS l) (canonS r) := by rw [Bool.true_and]; rfl
    have l1 : (canonS l).length ≤ 4194304 := by have := canonS_len l; have := H1.out.1; omega
    have l2 : (canonS r).length ≤ 4194304 := by have := canonS_len r; have := H2.out.1; omega
    have E9 := Lib.hid e9.symm
    clear h e9
    go_enter Tryz.func14, Tryz.ntmps14
    go_wp2_with fail
    refine (iIsShape B n c1 a1 l w hn H1.out hB).mono ?_
    rintro e w1 ⟨rfl, hb1⟩
    rw [HS.out]
    go_wp2_with fail
    refine (iCanon B n c1 a1 l w1 hn (H1.out.on (hb1.mono hB)) (Nat.le_trans hB hb1.size)).mono ?_
    rintro e w2 ⟨v, rfl, hown2, hb2⟩
    obtain ⟨ag, cg, rfl⟩ := own_slice hown2
    have HB2 := Lib.hid (hb1.trans (hb2.mono hb1.size))
    have HA2 := Lib.hid (CellsAt.of_own hown2 (canonS_inC l))
    clear hown2 hb2 hb1
    go_wp2_with fail
    refine (iCanon B m c2 a2 r w2 hm (H2.out.on (HB2.out.mono hB)) (Nat.le_trans hB HB2.out.size)).mono ?_
    rintro e w3 ⟨v, rfl, hown3, hb3⟩
    obtain ⟨ah, ch, rfl⟩ := own_slice hown3
    have HB3 := Lib.hid (HB2.out.trans (hb3.mono HB2.out.size))
    have HA3 := Lib.hid (CellsAt.of_own hown3 (canonS_inC r))
    have HA23 := Lib.hid ((HA2.out.on hb3).more hb3.size)
    clear hown3 hb3
    go_wp2_with fail
    refine (iEqual_any w3.heap.size (canonS l).length (canonS r).length cg ch ag ah (canonS l) (canonS r) w3 l1 l2 HA23.out HA3.out (Nat.le_refl _)).mono ?_
    rintro e w4 ⟨rfl, hb4⟩
    go_wp2
    go_ret
    exact ⟨ret_Bj E9.out, HB3.out.trans (hb4.mono HB3.out.size)⟩

end Go.Proofs.YtecfabhpjihcbaaGreatDoor
