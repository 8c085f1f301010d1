/-
  Shapes moved, in the program: what the call gives.
-/
import Derived.Test.YtbfopdflkkcfaaaIsh
import Derived.Test.YtbfopdflkkcfaaaMov
namespace Go.Proofs.Ytbfopdflkkcfaaa
open Go.RowKit

/-- A slice of the call's own, or nil, that reads as l. -/
def Own (w : World) (l : List Cl) (v : Value) (w' : World) : Prop := w'.ownsRow w.heap.size 69 2 v l.length (cvs l) ∧ Below w.heap.size w w'
theorem own_nil (w : World) (B : Nat) : w.ownsRow B 69 2 (.slice none 0 0) 0 (cvs []) := ⟨rfl, .inl ⟨rfl, rfl⟩⟩
theorem moveS_no {p q : Int} {l : List Cl} (h : canMove p q l = false) : moveS p q l = [] := if_neg (by rw [h]; simp)

theorem move_fill (p q : Int) (l : List Cl) (k n : Nat) (h : k < n) (hl : l.length = n) : (moveC p q (l.take k) ++ List.replicate (n - k) ((0 : Int), (0 : Int))).set k ((l.getD k (0, 0)).1 + p, (l.getD k (0, 0)).2 + q) = moveC p q (l.take (k + 1)) ++ List.replicate (n - (k + 1)) (0, 0) := by
  have e : n - k = (n - (k + 1)) + 1 := by omega
  have el : (moveC p q (l.take k)).length = k := by rw [moveC_len]; simp; omega
  rw [e, List.replicate_succ, List.set_append_right _ _ (by omega), el, Nat.sub_self, List.set_cons_zero]
  have e2 : moveC p q (l.take (k + 1)) = moveC p q (l.take k) ++ [((l.getD k (0, 0)).1 + p, (l.getD k (0, 0)).2 + q)] := by
    rw [take_snoc l k (by omega)]
    simp [moveC]
  rw [e2, List.append_assoc]
  rfl

set_option maxHeartbeats 2000000 in
set_option maxRecDepth 100000 in
theorem iMoveShape (B n cap : Nat) (a : Option Addr) (l : List Cl) (p q : Int) (w : World) (hn : n ≤ 4194304) (hc : CellsAt B w a n l) (hB : B ≤ w.heap.size) :
    Calls Try.prog 83 #[.slice a n cap, .int .i64 p, .int .i64 q] w fun e w' => ∃ v, e = .returned (.tuple #[v, .bool (canMove p q l)]) ∧ Own w (moveS p q l) v w' := by
  have H := Lib.hid hc
  clear hc
  by_cases h1 : isShape l = true ∧ inb p (-7) 7 = true ∧ inb q (-7) 7 = true
  · obtain ⟨hs, hp, hq⟩ := h1
    obtain ⟨i0, hi, hz0, hz1, hz2⟩ := info_parts info_cell
    have HS := Lib.hid (isShape_in hs)
    have HI := Lib.hid (moveC_in HS.out hp hq)
    have hpp : -7 ≤ p ∧ p ≤ 7 := by simpa [inb] using hp
    have hqq : -7 ≤ q ∧ q ≤ 7 := by simpa [inb] using hq
    have hl := ((isShape_iff l).1 hs).1
    rw [H.out.1] at hl
    have HC := Lib.hid (show canMove p q l = isShape (moveC p q l) by unfold canMove; rw [hs, hp, hq]; rfl)
    go_enter Try.func83, Try.ntmps83
    go_wp2_with fail
    refine (iIsShape B n cap a l w hn H.out hB).mono ?_
    rintro e w1 ⟨rfl, hb1⟩
    go_wp2_with fail
    refine (iMove _ _).mono ?_
    rintro e w' ⟨rfl, rfl⟩
    go_wp2_with fail
    refine (iMove _ _).mono ?_
    rintro e w' ⟨rfl, rfl⟩
    go_wp2_with (first | (at_make; refine wpList_make_full _ rfl _ _ 41 rfl w1.heap.size 69 i0 (.agg #[.int .i64 0, .int .i64 0]) 2 Try.underlying41 hi hz0 hz1 _ _ _ _ n rfl rfl rfl rfl ?b2 ?b3 (Nat.le_refl _) ?_) | go_in)
    case b2 => rw [hz2]; omega
    case b3 => unfold maxLen; omega
    intro w0 hown0 hgrow0
    have hb0 := (hb1.grown hgrow0 hb1.size (fun k h => by cases h))
    go_wp2
    go_loopw [29] (fun i wr => ∃ k : Nat, k ≤ n ∧ i = .int .i64 k ∧ wr.ownsRow w1.heap.size 69 2 (.slice (some ⟨w1.heap.size, 0, none⟩) n n) n (cvs (moveC p q (l.take k) ++ List.replicate (n - k) (0, 0))) ∧ Below w.heap.size w wr) (fun i _ => n - (intOf i).toNat)
    case atStart => exact ⟨0, by omega, rfl, by rw [made_cells n] at hown0; simpa [moveC] using hown0, hb0⟩
    case round =>
      obtain ⟨k, hk, rfl, hown, hb⟩ := hrel
      have hsz := hb.size
      clear hown0 hgrow0 hb0
      by_cases hlt : k < n
      · obtain ⟨b1, o1, rfl, hb1', hc1⟩ := H.out.2.2 (by omega)
        obtain ⟨x, y, hxy⟩ : ∃ x y, l.getD k (0, 0) = (x, y) := ⟨_, _, rfl⟩
        have p1 := (hb.cell (p := ⟨b1, o1 + k * 2, none⟩) (Nat.lt_of_lt_of_le hb1' hB)).trans (hc1 k hlt).1
        have p2 := (hb.cell (p := ⟨b1, o1 + k * 2 + 1, none⟩) (Nat.lt_of_lt_of_le hb1' hB)).trans (hc1 k hlt).2
        rw [hxy] at p1 p2
        have hpx := inP_out (HS.out _ (getD_mem (l := l) (j := k) (by rw [H.out.1]; exact hlt)))
        rw [hxy] at hpx
        dsimp only at hpx
        have HX := Lib.hid hxy
        have hk0 : (0 : Int) ≤ (k : Int) := by omega
        have hk1 : (k : Int) < (n : Int) := by omega
        have hx1 : IntKind.i64.wrap (x + p) = x + p := IntWalk.i64_in _ (by omega)
        have hy1 : IntKind.i64.wrap (y + q) = y + q := IntWalk.i64_in _ (by omega)
        have hgl := (hown.lt w1.heap.size rfl).2
        have hlen : k < (moveC p q (l.take k) ++ List.replicate (n - k) ((0 : Int), (0 : Int))).length := by have := H.out.1; simp [moveC]; omega
        have hown1 := hown.alloc (.cells #[.int .i64 x, .int .i64 y] 69)
        have hg := cvs_get _ k hlen
        have c0 := hown.cellAt (k * 2) (by omega)
        have c1 := hown.cellAt (k * 2 + 1) (by omega)
        rw [hg.1] at c0
        rw [hg.2] at c1
        have f0 := hown.frozenAt (k * 2)
        have f1 := hown.frozenAt (k * 2 + 1)
        have hne : w1.heap.size ≠ wr.heap.size := by omega
        clear hxy hc1 hg
        have HOWN := Lib.hid hown
        clear hown hown1
        go_wp2
        go_roundw
        case rel =>
          have hs1 := HOWN.out.stored (k * 2) (.int .i64 (x + p))
          have hs2 := hs1.1.stored (k * 2 + 1) (.int .i64 (y + q))
          have hO := hs2.1
          have hset := cvs_set _ k (x + p, y + q) hlen
          have hfill := move_fill p q l k n hlt H.out.1
          rw [HX.out] at hfill
          dsimp only at hset hfill
          rw [hset, hfill] at hO
          have hb2 := ((hb.setCell (p := ⟨w1.heap.size, k * 2, none⟩) hb1.size (.int .i64 (x + p))).setCell (p := ⟨w1.heap.size, k * 2 + 1, none⟩) hb1.size (.int .i64 (y + q)))
          exact ⟨k + 1, by omega, by go_num, hO.alloc _, hb2.alloc hb2.size _⟩
        case measure => simp [intOf]; omega
      · obtain rfl : k = n := by omega
        have e : moveC p q (l.take k) ++ List.replicate (k - k) ((0 : Int), (0 : Int)) = moveC p q l := by
          rw [List.take_of_length_le (by rw [H.out.1]; exact Nat.le_refl _)]
          simp
        rw [e] at hown
        have hl2 : (moveC p q l).length = k := by rw [moveC_len, H.out.1]
        have HO := Lib.hid hown
        have HA := Lib.hid (CellsAt.of_own hown HI.out)
        clear hown e
        go_wp2_with fail
        refine (iIsShape wr.heap.size k k _ (moveC p q l) wr hn HA.out (Nat.le_refl _)).mono ?_
        rintro e w3 ⟨rfl, hb3⟩
        have hb4 := hb.trans (hb3.mono hsz)
        cases hm : isShape (moveC p q l) with
        | true =>
          have e : canMove p q l = true := HC.out.trans hm
          have e2 : moveS p q l = moveC p q l := if_pos e
          have HG := Lib.hid (show Own w (moveC p q l) (.slice (some ⟨w1.heap.size, 0, none⟩) k k) w3 from ⟨by rw [hl2]; exact own_below (HO.out.kept (grow_below hb3 none) (.inr (by intro e; cases e))) hb1.size, hb4⟩)
          have E := Lib.hid e
          have E2 := Lib.hid e2
          clear e e2 hl2
          go_wp2
          go_ret2
          rw [E.out, E2.out]
          exact ⟨_, rfl, HG.out⟩
        | false =>
          have e : canMove p q l = false := HC.out.trans hm
          have E := Lib.hid e
          clear e
          go_wp2
          go_ret2
          rw [E.out, moveS_no E.out]
          exact ⟨_, rfl, own_nil _ _, hb4⟩
  · have hno : canMove p q l = false := by
      unfold canMove
      cases e1 : isShape l <;> cases e2 : inb p (-7) 7 <;> cases e3 : inb q (-7) 7 <;> simp_all
    rw [hno, moveS_no hno]
    clear hno
    have H1 := Lib.hid h1
    clear h1
    go_enter Try.func83, Try.ntmps83
    go_wp2_with fail
    refine (iIsShape B n cap a l w hn H.out hB).mono ?_
    rintro e w1 ⟨rfl, hb1⟩
    cases hs : isShape l with
    | false =>
      go_wp2
      go_ret2
      exact ⟨_, rfl, own_nil _ _, hb1⟩
    | true =>
      go_wp2_with fail
      refine (iMove _ _).mono ?_
      rintro e w' ⟨rfl, rfl⟩
      cases hp : inb p (-7) 7 with
      | false =>
        go_wp2
        go_ret2
        exact ⟨_, rfl, own_nil _ _, hb1⟩
      | true =>
        go_wp2_with fail
        refine (iMove _ _).mono ?_
        rintro e w' ⟨rfl, rfl⟩
        cases hq : inb q (-7) 7 with
        | false =>
          go_wp2
          go_ret2
          exact ⟨_, rfl, own_nil _ _, hb1⟩
        | true => exact absurd ⟨hs, hp, hq⟩ H1.out

end Go.Proofs.Ytbfopdflkkcfaaa
