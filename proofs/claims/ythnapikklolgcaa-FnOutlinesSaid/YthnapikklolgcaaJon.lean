/-
  Perimeter, neighbour cells, common sides, trees, in the program: what each call gives.
  Rows, convex shapes, squares, in the program: what each call gives.
  Squares, in the program: what the call gives.
  The board of a shape, in the program: what each call gives.
  Filling a board from a place on, in the program: what the closure's call gives.
  Holes, in the program: what the call gives.
-/
import Derived.Test.YthnapikklolgcaaJpr
import Derived.Test.YthnapikklolgcaaSon
import Derived.Test.YthnapikklolgcaaJtu
import Derived.Test.YthnapikklolgcaaIcn
import Derived.Test.YthnapikklolgcaaLw3
import Derived.Test.YthnapikklolgcaaJtv
import Derived.WalkMore
import Derived.Test.YthnapikklolgcaaPen
import Derived.Deep.WholeRow
import Derived.Laws.CopyOwn
import Derived.Shelf.SlSortCmp.QuietGrown
namespace Go.Proofs.Ythnapikklolgcaa

section
open Go.RowKit Go.Maps

theorem arTo_mem0 {l : List Cl} (h : isShape l = true) : ∀ k, 0 < k → nbC (l.getD 0 (0, 0)) 3 ∈ arTo l k
  | 0, h0 => by omega
  | k + 1, _ => by
    rw [arTo, List.mem_append]
    by_cases hk : 0 < k
    · exact .inl (arTo_mem0 h k hk)
    · obtain rfl : k = 0 := by omega
      refine .inr ((mem_arRow l _ _ 4).2 ⟨3, by omega, rfl, fun hm => ?_⟩)
      obtain ⟨hlen, _, hs⟩ := (isShape_iff l).1 h
      obtain ⟨j, hj, e⟩ := mem_getD hm
      have hb := (bef_nb (l.getD 0 (0, 0))).2
      rw [← e] at hb
      by_cases hj0 : j = 0
      · subst hj0
        rw [bef_irr] at hb
        cases hb
      · have := bef_asym (srt_getD hs (i := 0) (j := j) (by omega) hj)
        rw [hb] at this
        cases this
theorem arTo_pos {l : List Cl} (h : isShape l = true) (k : Nat) (hk : 0 < k) : 0 < (arTo l k).length := List.length_pos_of_mem (arTo_mem0 h k hk)

set_option maxHeartbeats 1000000 in
theorem iPerim (B n cap : Nat) (a : Option Addr) (l : List Cl) (w : World) (hn : n ≤ 4194304) (hc : CellsAt B w a n l) (hB : B ≤ w.heap.size) :
    Calls Try.prog 19 #[.slice a n cap] w fun e w' => e = .returned (.int .i64 (perP l)) ∧ Below w.heap.size w w' := by
  have H := Lib.hid hc
  have hln := hc.1
  clear hc
  cases hs : isShape l with
  | false =>
    have HS := Lib.hid hs
    have HO := Lib.hid (perP_no hs)
    rw [HO.out]
    clear hs
    go_enter Try.func19, Try.ntmps19
    go_wp2_with fail
    refine (iIsShape B n cap a l w hn H.out hB).mono ?_
    rintro e w1 ⟨rfl, hb1⟩
    rw [HS.out]
    go_wp2
    go_ret
    exact ⟨rfl, hb1⟩
  | true =>
    have HS := Lib.hid hs
    have HO := Lib.hid (show perP l = ((arTo l n).length : Int) from by rw [perP_yes hs, hln])
    rw [HO.out]
    clear hs hln
    go_enter Try.func19, Try.ntmps19
    go_wp2_with fail
    refine (iIsShape B n cap a l w hn H.out hB).mono ?_
    rintro e w1 ⟨rfl, hb1⟩
    rw [HS.out]
    go_wp2_with fail
    refine (iAround B n cap a l w1 HS.out (H.out.on (hb1.mono hB)) (Nat.le_trans hB hb1.size)).mono ?_
    rintro e w2 ⟨v2, rfl, hown, hb2⟩
    obtain ⟨a2, c2, rfl⟩ := own_slice hown
    clear hown
    go_wp2
    go_ret
    exact ⟨rfl, hb1.trans (hb2.mono hb1.size)⟩

set_option maxHeartbeats 1000000 in
theorem iNei (B n cap : Nat) (a : Option Addr) (l : List Cl) (w : World) (hn : n ≤ 4194304) (hc : CellsAt B w a n l) (hB : B ≤ w.heap.size) :
    Calls Try.prog 27 #[.slice a n cap] w fun e w' => e = .returned (.int .i64 (neiP l)) ∧ Below w.heap.size w w' := by
  have H := Lib.hid hc
  have hln := hc.1
  clear hc
  cases hs : isShape l with
  | false =>
    have HS := Lib.hid hs
    have HO := Lib.hid (neiP_no hs)
    rw [HO.out]
    clear hs
    go_enter Try.func27, Try.ntmps27
    go_wp2_with fail
    refine (iIsShape B n cap a l w hn H.out hB).mono ?_
    rintro e w1 ⟨rfl, hb1⟩
    rw [HS.out]
    go_wp2
    go_ret
    exact ⟨rfl, hb1⟩
  | true =>
    have HS := Lib.hid hs
    have hlen := ((isShape_iff l).1 hs).1
    rw [hln] at hlen
    have HO := Lib.hid (show neiP l = ((sortU (arTo l n)).length : Int) from by rw [neiP_yes hs, hln, ne_len])
    have hpos := arTo_pos hs n (by omega)
    have hle := arTo_le l n
    have HM4 := Lib.hid (show ∀ q ∈ arTo l n, nearBd q from fun q hq => by
      obtain ⟨c, hcl, d, hd, rfl, _⟩ := mem_arTo l q n (by omega) hq
      have hx := inP_out (isShape_in hs c hcl)
      obtain ⟨x, y⟩ := c
      exact nbC_bd d hd (by dsimp only at hx; omega) rfl)
    rw [HO.out]
    clear hs hln
    go_enter Try.func27, Try.ntmps27
    go_wp2_with fail
    refine (iIsShape B n cap a l w hn H.out hB).mono ?_
    rintro e w1 ⟨rfl, hb1⟩
    rw [HS.out]
    go_wp2_with fail
    refine (iAround B n cap a l w1 HS.out (H.out.on (hb1.mono hB)) (Nat.le_trans hB hb1.size)).mono ?_
    rintro e w2 ⟨v2, rfl, hown, hb2⟩
    obtain ⟨g, cc, rfl⟩ : ∃ g cc, v2 = .slice (some ⟨g, 0, none⟩) (arTo l n).length cc := by
      rcases hown.2 with ⟨_, h0⟩ | ⟨g, cc, cur, rfl, _⟩
      · omega
      · exact ⟨g, cc, rfl⟩
    have HB2 := Lib.hid (hb1.trans (hb2.mono hb1.size))
    have hsz2 := HB2.out.size
    clear hb1 hb2
    go_wp2_with fail
    refine (iSortO w1.heap.size g _ cc (arTo l n) w2 (by omega) (fun c hc => nearBd_in (HM4.out c hc)) hown).mono ?_
    rintro e w3 ⟨v3, rfl, hown3, hb3⟩
    obtain ⟨a3, c3, rfl⟩ := own_slice hown3
    have HB3 := Lib.hid (HB2.out.trans (hb3.mono hsz2))
    clear hown hown3 hb3
    go_wp2
    go_ret
    exact ⟨rfl, HB3.out⟩

set_option maxHeartbeats 2000000 in
set_option maxRecDepth 100000 in
theorem iInner (B n cap : Nat) (a : Option Addr) (l : List Cl) (w : World) (hn : n ≤ 4194304) (hc : CellsAt B w a n l) (hB : B ≤ w.heap.size) :
    Calls Try.prog 21 #[.slice a n cap] w fun e w' => e = .returned (.int .i64 (innP l)) ∧ Below w.heap.size w w' := by
  have H := Lib.hid hc
  have hln := hc.1
  clear hc
  cases hs : isShape l with
  | false =>
    have HS := Lib.hid hs
    have HO := Lib.hid (innP_no hs)
    rw [HO.out]
    clear hs
    go_enter Try.func21, Try.ntmps21
    go_wp2_with fail
    refine (iIsShape B n cap a l w hn H.out hB).mono ?_
    rintro e w1 ⟨rfl, hb1⟩
    rw [HS.out]
    go_wp2
    go_ret
    exact ⟨rfl, hb1⟩
  | true =>
    have HS := Lib.hid hs
    have HP := Lib.hid (isShape_in hs)
    have hlen := ((isShape_iff l).1 hs).1
    rw [hln] at hlen
    have HLN := Lib.hid hln
    have HO := Lib.hid (show innP l = (innI l n : Int) from by rw [innP_yes hs, hln])
    rw [HO.out]
    clear hs hln
    go_enter Try.func21, Try.ntmps21
    go_wp2_with fail
    refine (iIsShape B n cap a l w hn H.out hB).mono ?_
    rintro e w1 ⟨rfl, hb1⟩
    rw [HS.out]
    go_wp2
    go_loopw [3, 11] (fun v i wr => ∃ k z : Nat, k ≤ n ∧ i = .int .i64 k ∧ v = .int .i64 z ∧ z ≤ 2 * k ∧ Hid (z = innI l k) ∧ Below w.heap.size w wr) (fun _ i _ => n - (intOf i).toNat)
    case atStart => exact ⟨0, 0, by omega, rfl, rfl, by omega, rfl, hb1⟩
    case round =>
      obtain ⟨k, z, hk, rfl, rfl, hz, hzz, hb⟩ := hrel
      have hsz := hb.size
      by_cases hlt : k < n
      · have hk1 : (k : Int) < (n : Int) := by omega
        have hk0 : (0 : Int) ≤ (k : Int) := by omega
        obtain ⟨x, y, hxy⟩ : ∃ x y, l.getD k (0, 0) = (x, y) := ⟨_, _, rfl⟩
        have HCW := Lib.hid (H.out.on (hb.mono hB))
        have HCA := Lib.hid ((HCW.out.more (Nat.le_trans hB hsz)).on ((Below.refl _ _).alloc (Nat.le_refl _) (.cells #[.int .i64 x, .int .i64 y] 53)))
        obtain ⟨b9, o9, rfl, hb9, hc9⟩ := HCW.out.2.2 (by omega)
        have p1 := (hc9 k hlt).1
        have p2 := (hc9 k hlt).2
        rw [hxy] at p1 p2
        dsimp only at p1 p2
        have hpx := inP_out (HP.out _ (getD_mem (l := l) (j := k) (by have := HLN.out; omega)))
        rw [hxy] at hpx
        dsimp only at hpx
        obtain ⟨x1, ex1⟩ : ∃ x1, x + 1 = x1 := ⟨_, rfl⟩
        obtain ⟨y1, ey1⟩ : ∃ y1, y + 1 = y1 := ⟨_, rfl⟩
        have hx1 : IntKind.i64.wrap (x + 1) = x1 := by rw [← ex1]; exact IntWalk.i64_in _ (by omega)
        have hy1 : IntKind.i64.wrap (y + 1) = y1 := by rw [← ey1]; exact IntWalk.i64_in _ (by omega)
        have HI := Lib.hid (show innI l (k + 1) = innI l k + ((hasC l x1 y).toNat + (hasC l x y1).toNat) from by
          rw [innI_step]
          unfold nbI
          rw [hxy, nb0, nb1]
          dsimp only
          rw [ex1, ey1])
        have q1' : (wr.alloc (.cells #[.int .i64 x, .int .i64 y] 53)).cell? ⟨wr.heap.size, 0, none⟩ = some (.int .i64 x) := row_new _ _ _ 0
        have q2' : (wr.alloc (.cells #[.int .i64 x, .int .i64 y] 53)).cell? ⟨wr.heap.size, 1, none⟩ = some (.int .i64 y) := row_new _ _ _ 1
        have hxb : wr.heap.size < (wr.alloc (.cells #[.int .i64 x, .int .i64 y] 53)).heap.size := by simp
        have HB2 := Lib.hid (hb.alloc hsz (.cells #[.int .i64 x, .int .i64 y] 53))
        clear hxy hc9 HCW hpx ex1 ey1 hb
        go_wp2_with fail
        generalize (wr.alloc (.cells #[.int .i64 x, .int .i64 y] 53)) = W at *
        generalize wr.heap.size = xb at *
        have hszW := HB2.out.size
        refine (iHasCell xb n cap _ l x1 y W (by omega) HCA.out (Nat.le_of_lt hxb)).mono ?_
        rintro e w3 ⟨rfl, hb3⟩
        have r1 := (hb3.cell (p := ⟨xb, 0, none⟩) hxb).trans q1'
        have r2 := (hb3.cell (p := ⟨xb, 1, none⟩) hxb).trans q2'
        have HB3 := Lib.hid (HB2.out.trans (hb3.mono hszW))
        have HC3 := Lib.hid (HCA.out.on (hb3.mono (Nat.le_of_lt hxb)))
        have hx3 : xb ≤ w3.heap.size := by have := hb3.size; omega
        clear hb3 q1' q2' HCA HB2
        have hsz3 := HB3.out.size
        cases h1 : hasC l x1 y with
        | false =>
          rw [h1] at HI
          go_wp2_with fail
          refine (iHasCell xb n cap _ l x y1 w3 (by omega) HC3.out hx3).mono ?_
          rintro e w4 ⟨rfl, hb4⟩
          have HB4 := Lib.hid (HB3.out.trans (hb4.mono hsz3))
          clear hb4 r1 r2
          cases h2 : hasC l x y1 with
          | false =>
            rw [h2] at HI
            have HZ := Lib.hid (show z = innI l (k + 1) from by rw [HI.out, hzz.out]; rfl)
            go_wp2
            go_roundw
            case rel => exact ⟨k + 1, z, by omega, by go_num, rfl, by omega, HZ.out, HB4.out⟩
            case measure => simp [intOf]; omega
          | true =>
            rw [h2] at HI
            have HZ := Lib.hid (show z + 1 = innI l (k + 1) from by rw [HI.out, hzz.out]; rfl)
            go_wp2
            go_roundw
            case rel => exact ⟨k + 1, z + 1, by omega, by go_num, by go_num, by omega, HZ.out, HB4.out⟩
            case measure => simp [intOf]; omega
        | true =>
          rw [h1] at HI
          go_wp2_with fail
          refine (iHasCell xb n cap _ l x y1 w3 (by omega) HC3.out hx3).mono ?_
          rintro e w4 ⟨rfl, hb4⟩
          have HB4 := Lib.hid (HB3.out.trans (hb4.mono hsz3))
          clear hb4 r1 r2
          cases h2 : hasC l x y1 with
          | false =>
            rw [h2] at HI
            have HZ := Lib.hid (show z + 1 = innI l (k + 1) from by rw [HI.out, hzz.out]; rfl)
            go_wp2
            go_roundw
            case rel => exact ⟨k + 1, z + 1, by omega, by go_num, by go_num, by omega, HZ.out, HB4.out⟩
            case measure => simp [intOf]; omega
          | true =>
            rw [h2] at HI
            have HZ := Lib.hid (show z + 2 = innI l (k + 1) from by rw [HI.out, hzz.out]; rfl)
            go_wp2
            go_roundw
            case rel => exact ⟨k + 1, z + 2, by omega, by go_num, by go_num, by omega, HZ.out, HB4.out⟩
            case measure => simp [intOf]; omega
      · obtain rfl : k = n := by omega
        have HR := Lib.hid (show (innI l k : Int) = (z : Int) from by rw [hzz.out])
        go_wp2
        go_ret
        exact ⟨by rw [HR.out]; rfl, hb⟩

set_option maxHeartbeats 1000000 in
theorem iTree (B n cap : Nat) (a : Option Addr) (l : List Cl) (w : World) (hn : n ≤ 4194304) (hcap : n ≤ cap) (hc : CellsAt B w a n l) (hB : B ≤ w.heap.size) :
    Calls Try.prog 33 #[.slice a n cap] w fun e w' => ∃ b : Bool, e = .returned (.bool b) ∧ (b = true ↔ TreeP l) ∧ Below w.heap.size w w' := by
  have H := Lib.hid hc
  have HLN := Lib.hid hc.1
  have hib := innP_bd l
  obtain ⟨z, hz⟩ : ∃ z, innP l = z := ⟨_, rfl⟩
  have HT := Lib.hid (show TreeP l ↔ Conn l ∧ z = (n : Int) - 1 from by unfold TreeP; rw [hz, hc.1])
  rw [hz] at hib
  have HZ := Lib.hid hz
  have w1 : IntKind.i64.wrap ((n : Int) - 1) = (n : Int) - 1 := IntWalk.i64_in _ (by omega)
  clear hc hz
  go_enter Try.func33, Try.ntmps33
  go_wp2_with fail
  refine (iConn B n cap a l w hn hcap H.out hB).mono ?_
  rintro e w5 ⟨bb, rfl, hbi, hb1⟩
  have HBI := Lib.hid hbi
  clear hbi
  cases bb with
  | false =>
    go_wp2
    go_ret
    refine ⟨false, rfl, ?_, hb1⟩
    rw [HT.out]
    exact ⟨fun h => (by cases h), fun h => HBI.out.2 h.1⟩
  | true =>
    go_wp2_with fail
    refine (iInner B n cap a l w5 hn (H.out.on (hb1.mono hB)) (Nat.le_trans hB hb1.size)).mono ?_
    rintro e w6 ⟨rfl, hb2⟩
    rw [HZ.out]
    go_wp2
    go_ret
    refine ⟨_, rfl, ?_, hb1.trans (hb2.mono hb1.size)⟩
    rw [HT.out]
    have := HBI.out.1 (by simp)
    simp [this]
end

section
open Go.RowKit Go.Maps

theorem own_le2 {w : World} {B n cap : Nat} {a : Option Addr} {xs : List Value} (h : w.ownsRow B 53 2 (.slice a n cap) n xs) : n ≤ cap := by
  rcases h.2 with ⟨e, h0⟩ | ⟨g', cap', cur, e, _, _, h1, _⟩
  · omega
  · injection e with _ _ e3
    omega

set_option maxHeartbeats 2000000 in
set_option maxRecDepth 100000 in
theorem iRow (B n cap : Nat) (a : Option Addr) (l : List Cl) (w : World) (hn : n ≤ 4194304) (hcap : n ≤ cap) (hc : CellsAt B w a n l) (hB : B ≤ w.heap.size) :
    Calls Try.prog 29 #[.slice a n cap] w fun e w' => e = .returned (.bool (rowC l)) ∧ Below w.heap.size w w' := by
  have H := Lib.hid hc
  have hln := hc.1
  clear hc
  cases hs : isShape l with
  | false =>
    have HS := Lib.hid hs
    have HO := Lib.hid (show rowC l = false from by unfold rowC; rw [hs]; rfl)
    rw [HO.out]
    clear hs hln
    go_enter Try.func29, Try.ntmps29
    go_wp2_with fail
    refine (iIsShape B n cap a l w hn H.out hB).mono ?_
    rintro e w1 ⟨rfl, hb1⟩
    rw [HS.out]
    go_wp2
    go_ret
    exact ⟨rfl, hb1⟩
  | true =>
    have HS := Lib.hid hs
    have hlen := ((isShape_iff l).1 hs).1
    have HP := Lib.hid (isShape_in hs)
    have HO := Lib.hid (show rowC l = rcTo l (n - 1) from by unfold rowC; rw [hs, hln]; rfl)
    have HLN := Lib.hid hln
    rw [hln] at hlen
    rw [HO.out]
    obtain ⟨b9, o9, rfl, hb9, hc9⟩ := H.out.2.2 (by omega)
    have HC9 := Lib.hid hc9
    have hn1 : (1 : Int) ≤ (n : Int) := by omega
    have hn2 : ((n : Int) - 1).toNat = n - 1 := by omega
    have hcp : (n : Int) ≤ (cap : Int) := by omega
    clear hs hln hc9
    by_cases hc1 : cap = 1
    · subst hc1
      obtain rfl : n = 1 := by omega
      go_enter Try.func29, Try.ntmps29
      go_wp2_with fail
      refine (iIsShape B 1 1 _ l w hn H.out hB).mono ?_
      rintro e w1 ⟨rfl, hb1⟩
      rw [HS.out]
      go_wp2
      refine wp_loop_rounds 1 ?_
      rw [rounds_succ]
      go_wp2
      go_ret
      exact ⟨rfl, hb1⟩
    · obtain ⟨M, hM⟩ : ∃ M, n - 1 = M := ⟨_, rfl⟩
      have hn3 : n = M + 1 := by omega
      subst hn3
      go_enter Try.func29, Try.ntmps29
      go_wp2_with fail
      refine (iIsShape B (M + 1) cap _ l w hn H.out hB).mono ?_
      rintro e w1 ⟨rfl, hb1⟩
      rw [HS.out]
      have HB1 := Lib.hid hb1
      clear hb1
      go_wp2
      clear hM
      go_loopw [12] (fun i wr => ∃ k : Nat, k ≤ M ∧ i = .int .i64 k ∧ Hid (rcTo l k = true) ∧ Below w.heap.size w wr) (fun i _ => M - (intOf i).toNat)
      case atStart => exact ⟨0, by omega, rfl, rfl, HB1.out⟩
      case round =>
        obtain ⟨k, hk, rfl, hrc, hb⟩ := hrel
        have hsz := hb.size
        by_cases hlt : k < M
        · have hk1 : (k : Int) < (M : Int) := by omega
          have hk0 : (0 : Int) ≤ (k : Int) := by omega
          have hk2 : (k : Int) < ((M + 1 : Nat) : Int) := by omega
          have hbl : b9 < w.heap.size := by omega
          obtain ⟨x, y, hxy⟩ : ∃ x y, l.getD k (0, 0) = (x, y) := ⟨_, _, rfl⟩
          obtain ⟨u, v, huv⟩ : ∃ u v, l.getD (k + 1) (0, 0) = (u, v) := ⟨_, _, rfl⟩
          have p1 := (hb.cell (p := ⟨b9, o9 + k * 2, none⟩) hbl).trans (HC9.out k (by omega)).1
          have p2 := (hb.cell (p := ⟨b9, o9 + k * 2 + 1, none⟩) hbl).trans (HC9.out k (by omega)).2
          have q1 := (hb.cell (p := ⟨b9, o9 + (k + 1) * 2, none⟩) hbl).trans (HC9.out (k + 1) (by omega)).1
          have q2 := (hb.cell (p := ⟨b9, o9 + (k + 1) * 2 + 1, none⟩) hbl).trans (HC9.out (k + 1) (by omega)).2
          rw [show o9 + (k + 1) * 2 = o9 + 2 + k * 2 by omega] at q1 q2
          rw [hxy] at p1 p2
          rw [huv] at q1 q2
          dsimp only at p1 p2 q1 q2
          have hblr : b9 < wr.heap.size := by omega
          have s1 := (World.cell?_alloc_lt wr (.cells #[.int .i64 u, .int .i64 v] 53) ⟨b9, o9 + k * 2, none⟩ hblr).trans p1
          have s2 := (World.cell?_alloc_lt wr (.cells #[.int .i64 u, .int .i64 v] 53) ⟨b9, o9 + k * 2 + 1, none⟩ hblr).trans p2
          have hpx := inP_out (HP.out _ (getD_mem (l := l) (j := k) (by have := HLN.out; omega)))
          rw [hxy] at hpx
          dsimp only at hpx
          have hx1 : IntKind.i64.wrap (x + 1) = x + 1 := IntWalk.i64_in _ (by omega)
          have hrca : rcAt l k = !(decide (v = y) && !decide (u = x + 1)) := by unfold rcAt; rw [hxy, huv]
          have HRS := Lib.hid (rcTo_step l k)
          have HRA := Lib.hid hrca
          clear hxy huv hrca
          by_cases h1 : v = y
          · have e1 : (y == v) = true := by simp [h1]
            by_cases h2 : u = x + 1
            · have e2 : (x + 1 != u) = false := by simp [h2]
              have HE := Lib.hid (show rcTo l (k + 1) = true from by rw [HRS.out, hrc.out, HRA.out]; simp [h2])
              have HB2 := Lib.hid ((hb.alloc hsz (.cells #[.int .i64 u, .int .i64 v] 53)).alloc (by simp; omega) (.cells #[.int .i64 x, .int .i64 y] 53))
              clear h1 h2
              go_wp2
              go_roundw
              case rel => exact ⟨k + 1, by omega, by go_num, HE.out, HB2.out⟩
              case measure => simp [intOf]; omega
            · have e2 : (x + 1 != u) = true := by rw [bne_iff_ne]; exact fun h => h2 h.symm
              have HE := Lib.hid (show rcTo l (M + 1 - 1) = false from rcTo_false (k := k) (by rw [HRA.out]; simp [h1, h2]) (by omega))
              have HB2 := Lib.hid ((hb.alloc hsz (.cells #[.int .i64 u, .int .i64 v] 53)).alloc (by simp; omega) (.cells #[.int .i64 x, .int .i64 y] 53))
              clear h1 h2
              go_wp2
              go_ret
              exact ⟨by rw [HE.out]; rfl, HB2.out⟩
          · have e1 : (y == v) = false := by rw [beq_eq_false_iff_ne]; exact fun h => h1 h.symm
            have HE := Lib.hid (show rcTo l (k + 1) = true from by rw [HRS.out, hrc.out, HRA.out]; simp [h1])
            have HB2 := Lib.hid ((hb.alloc hsz (.cells #[.int .i64 u, .int .i64 v] 53)).alloc (by simp; omega) (.cells #[.int .i64 x, .int .i64 y] 53))
            clear h1
            go_wp2
            go_roundw
            case rel => exact ⟨k + 1, by omega, by go_num, HE.out, HB2.out⟩
            case measure => simp [intOf]; omega
        · obtain rfl : k = M := by omega
          have HE := Lib.hid (show rcTo l (k + 1 - 1) = true from hrc.out)
          go_wp2
          go_ret
          exact ⟨by rw [HE.out]; rfl, hb⟩

set_option maxHeartbeats 2000000 in
theorem iConvex (B n cap : Nat) (a : Option Addr) (l : List Cl) (w : World) (hn : n ≤ 4194304) (hcap : n ≤ cap) (hc : CellsAt B w a n l) (hB : B ≤ w.heap.size) :
    Calls Try.prog 31 #[.slice a n cap] w fun e w' => ∃ b : Bool, e = .returned (.bool b) ∧ (b = true ↔ ConvP l) ∧ Below w.heap.size w w' := by
  have H := Lib.hid hc
  have HLN := Lib.hid hc.1
  clear hc
  go_enter Try.func31, Try.ntmps31
  go_wp2_with fail
  refine (iTurn B n cap a l 1 w hn H.out hB).mono ?_
  rintro e w1 ⟨v1, rfl, hown1, hb1⟩
  obtain ⟨a1, c1, rfl⟩ := own_slice hown1
  have HO1 := Lib.hid hown1
  have HB1 := Lib.hid hb1
  have hsz1 := hb1.size
  clear hown1 hb1
  go_wp2_with fail
  refine (iConn B n cap a l w1 hn hcap (H.out.on (HB1.out.mono hB)) (by omega)).mono ?_
  rintro e w2 ⟨bb, rfl, hbi, hb2⟩
  have HBI := Lib.hid hbi
  have HB2 := Lib.hid (HB1.out.trans (hb2.mono hsz1))
  have HO2 := Lib.hid (HO1.out.kept (grow_below hb2 none) (Classical.em _))
  clear hbi hb2 HO1
  have hsz2 := HB2.out.size
  cases bb with
  | false =>
    go_wp2
    go_ret
    exact ⟨false, rfl, ⟨fun h => (by cases h), fun h => (by have := HBI.out.2 h.1; cases this)⟩, HB2.out⟩
  | true =>
    have HCN := Lib.hid (show Conn l from HBI.out.1 (by simp))
    have hts : turnS 1 l = turnC 1 l := (turnS_yes (m := 1) HCN.out.1 (by omega)).1
    have HTS := Lib.hid hts
    clear HBI hts
    go_wp2_with fail
    refine (iRow B n cap a l w2 hn hcap (H.out.on (HB2.out.mono hB)) (by omega)).mono ?_
    rintro e w3 ⟨rfl, hb3⟩
    have HB3 := Lib.hid (HB2.out.trans (hb3.mono hsz2))
    have HO3 := Lib.hid (HO2.out.kept (grow_below hb3 none) (Classical.em _))
    clear hb3 HO2
    have hsz3 := HB3.out.size
    cases hr : rowC l with
    | false =>
      have HR := Lib.hid hr
      clear hr HO3
      go_wp2
      go_ret
      exact ⟨false, rfl, ⟨fun h => (by cases h), fun h => (by have := h.2.1; rw [HR.out] at this; cases this)⟩, HB3.out⟩
    | true =>
      have HR := Lib.hid hr
      have htl := turnC_len 1 l
      rw [HLN.out] at htl
      have hTI := turnC_inC (shape_in HCN.out.1) 1
      rw [← HTS.out] at htl hTI
      have hcc := own_le2 HO3.out
      have HA := Lib.hid (CellsAt.of_own HO3.out hTI)
      obtain ⟨T, hT⟩ : ∃ T, turnS 1 l = T := ⟨_, rfl⟩
      rw [hT] at HA htl hcc ⊢
      have HTT := Lib.hid (show turnC 1 l = T from by rw [← HTS.out]; exact hT)
      clear hr HO3 hT hTI
      go_wp2_with fail
      refine (iRow w3.heap.size T.length c1 a1 T w3 (by omega) hcc HA.out (Nat.le_refl _)).mono ?_
      rintro e w5 ⟨rfl, hb5⟩
      have HB5 := Lib.hid (HB3.out.trans (hb5.mono hsz3))
      go_wp2
      go_ret
      refine ⟨rowC T, rfl, ?_, HB5.out⟩
      unfold ConvP
      rw [HTT.out]
      exact ⟨fun h => ⟨HCN.out, HR.out, h⟩, fun h => h.2.2⟩
end

section
open Go.RowKit Go.Maps

theorem sq3_index (p0 q0 p1 q1 p2 q2 : Int) (w : World) :
    (Instr.index 58 (.agg #[.int .i64 p0, .int .i64 q0, .int .i64 p1, .int .i64 q1, .int .i64 p2, .int .i64 q2]) (.int .i64 ((0 : Nat) : Int))).run Try.prog w = .ok (.agg #[.int .i64 p0, .int .i64 q0]) w ∧
    (Instr.index 58 (.agg #[.int .i64 p0, .int .i64 q0, .int .i64 p1, .int .i64 q1, .int .i64 p2, .int .i64 q2]) (.int .i64 ((1 : Nat) : Int))).run Try.prog w = .ok (.agg #[.int .i64 p1, .int .i64 q1]) w ∧
    (Instr.index 58 (.agg #[.int .i64 p0, .int .i64 q0, .int .i64 p1, .int .i64 q1, .int .i64 p2, .int .i64 q2]) (.int .i64 ((2 : Nat) : Int))).run Try.prog w = .ok (.agg #[.int .i64 p2, .int .i64 q2]) w :=
  ⟨by kernel_rfl, by kernel_rfl, by kernel_rfl⟩
def sq3 (x y x1 y1 : Int) : Nat → Cl
  | 0 => (x1, y)
  | 1 => (x, y1)
  | _ => (x1, y1)
def sq3V (x y x1 y1 : Int) : Value := .agg #[.int .i64 x1, .int .i64 y, .int .i64 x, .int .i64 y1, .int .i64 x1, .int .i64 y1]
theorem sq3V_index (x y x1 y1 : Int) (k : Nat) (hk : k < 3) (w : World) : (Instr.index 58 (sq3V x y x1 y1) (.int .i64 (k : Int))).run Try.prog w = .ok (.agg #[.int .i64 (sq3 x y x1 y1 k).1, .int .i64 (sq3 x y x1 y1 k).2]) w := by
  have h := sq3_index x1 y x y1 x1 y1 w
  have : k = 0 ∨ k = 1 ∨ k = 2 := by omega
  rcases this with rfl | rfl | rfl
  · exact h.1
  · exact h.2.1
  · exact h.2.2

set_option maxHeartbeats 1000000 in
set_option maxRecDepth 100000 in
theorem iRest (x y : Int) (w : World) (hx : -1000 ≤ x ∧ x ≤ 1000) (hy : -1000 ≤ y ∧ y ≤ 1000) :
    Calls Try.prog 63 #[.agg #[.int .i64 x, .int .i64 y]] w fun e w' => e = .returned (sq3V x y (x + 1) (y + 1)) ∧ Below w.heap.size w w' := by
  have w1 : IntKind.i64.wrap (x + 1) = x + 1 := IntWalk.i64_in _ (by omega)
  have w3 : IntKind.i64.wrap (y + 1) = y + 1 := IntWalk.i64_in _ (by omega)
  unfold sq3V
  have HB := Lib.hid (((Below.refl w.heap.size w).alloc (Nat.le_refl _) (.cells #[.int .i64 x, .int .i64 y] 53)).alloc (by simp) (.cells #[.int .i64 (x + 1), .int .i64 y, .int .i64 x, .int .i64 (y + 1), .int .i64 (x + 1), .int .i64 (y + 1)] 58))
  have HE := Lib.hid (row_new (w.alloc (.cells #[.int .i64 x, .int .i64 y] 53)) 58 #[.int .i64 (x + 1), .int .i64 y, .int .i64 x, .int .i64 (y + 1), .int .i64 (x + 1), .int .i64 (y + 1)])
  go_enter Try.func63, Try.ntmps63
  go_wp2
  have E := HE.out
  simp only [World.size_alloc] at E
  refine bodyPost_ret (v := .agg #[.int .i64 (x + 1), .int .i64 y, .int .i64 x, .int .i64 (y + 1), .int .i64 (x + 1), .int .i64 (y + 1)]) ?_ rfl ⟨rfl, HB.out⟩
  simp [results, Try.results63, go_sem, E]

set_option maxHeartbeats 2000000 in
set_option maxRecDepth 100000 in
theorem iSq (B n cap : Nat) (a : Option Addr) (l : List Cl) (w : World) (hn : n ≤ 4194304) (hc : CellsAt B w a n l) (hB : B ≤ w.heap.size) :
    Calls Try.prog 22 #[.slice a n cap] w fun e w' => e = .returned (.int .i64 (sqP l)) ∧ Below w.heap.size w w' := by
  have H := Lib.hid hc
  have hln := hc.1
  clear hc
  cases hs : isShape l with
  | false =>
    have HS := Lib.hid hs
    have HO := Lib.hid (sqP_no hs)
    rw [HO.out]
    clear hs
    go_enter Try.func22, Try.ntmps22
    go_wp2_with fail
    go_step3
    go_wp2_with fail
    refine (iIsShape B n cap a l w hn H.out hB).mono ?_
    rintro e w1 ⟨rfl, hb1⟩
    rw [HS.out]
    go_wp2
    first | go_ret | (rw [Exit.noGoto_ret]; go_ret)
    exact ⟨rfl, hb1⟩
  | true =>
    have HS := Lib.hid hs
    have HP := Lib.hid (isShape_in hs)
    have hlen := ((isShape_iff l).1 hs).1
    rw [hln] at hlen
    have HLN := Lib.hid hln
    have HO := Lib.hid (show sqP l = (sqTo l n : Int) from by rw [sqP_yes hs, hln])
    rw [HO.out]
    clear hs hln
    go_enter Try.func22, Try.ntmps22
    go_wp2_with fail
    go_step3
    go_wp2_with fail
    refine (iIsShape B n cap a l w hn H.out hB).mono ?_
    rintro e w1 ⟨rfl, hb1⟩
    rw [HS.out]
    go_wp2
    go_step3
    go_wp2
    go_loopw [3, 13] (fun v i wr => ∃ k z : Nat, k ≤ n ∧ i = .int .i64 k ∧ v = .int .i64 z ∧ z ≤ k ∧ Hid (z = sqTo l k) ∧ Below w.heap.size w wr) (fun _ i _ => n - (intOf i).toNat)
    case atStart => exact ⟨0, 0, by omega, rfl, rfl, by omega, rfl, hb1⟩
    case round =>
      obtain ⟨k, z, hk, rfl, rfl, hz, hzz, hb⟩ := hrel
      have hsz := hb.size
      by_cases hlt : k < n
      · have hk1 : (k : Int) < (n : Int) := by omega
        have hk0 : (0 : Int) ≤ (k : Int) := by omega
        obtain ⟨x, y, hxy⟩ : ∃ x y, l.getD k (0, 0) = (x, y) := ⟨_, _, rfl⟩
        have HCW := Lib.hid (H.out.on (hb.mono hB))
        obtain ⟨b9, o9, rfl, hb9, hc9⟩ := HCW.out.2.2 (by omega)
        have p1 := (hc9 k hlt).1
        have p2 := (hc9 k hlt).2
        rw [hxy] at p1 p2
        dsimp only at p1 p2
        have hpx := inP_out (HP.out _ (getD_mem (l := l) (j := k) (by have := HLN.out; omega)))
        rw [hxy] at hpx
        dsimp only at hpx
        have HA := Lib.hid (show sqAt l k = (hasC l (x + 1) y && hasC l x (y + 1) && hasC l (x + 1) (y + 1)) from by unfold sqAt; rw [hxy])
        have HST := Lib.hid (sqTo_step l k)
        have HB1 := Lib.hid (hb.alloc hsz (.cells #[.int .i64 x, .int .i64 y] 53))
        clear hxy hc9 HCW hb
        go_wp2_with fail
        refine (iRest x y _ (by omega) (by omega)).mono ?_
        rintro e w2 ⟨rfl, hb2⟩
        have HB2 := Lib.hid (HB1.out.trans (hb2.mono HB1.out.size))
        clear hb2 HB1 p1 p2 hsz
        have hsz2 := HB2.out.size
        obtain ⟨x1, ex1⟩ : ∃ x1, x + 1 = x1 := ⟨_, rfl⟩
        obtain ⟨y1, ey1⟩ : ∃ y1, y + 1 = y1 := ⟨_, rfl⟩
        rw [ex1, ey1] at HA ⊢
        clear ex1 ey1 hpx
        have HIX := Lib.hid (fun d hd w => sq3V_index x y x1 y1 d hd w)
        obtain ⟨NB, hNB⟩ : ∃ NB, sq3V x y x1 y1 = NB := ⟨_, rfl⟩
        rw [hNB] at HIX ⊢
        clear hNB
        go_wp2
        go_loopw [19] (fun i wq => ∃ d : Nat, d ≤ 3 ∧ i = .int .i64 d ∧ Hid (∀ e, e < d → hasC l (sq3 x y x1 y1 e).1 (sq3 x y x1 y1 e).2 = true) ∧ Below w.heap.size w wq) (fun i _ => 3 - (intOf i).toNat)
        case atStart => exact ⟨0, by omega, rfl, (fun e he => by omega), HB2.out⟩
        case round =>
          obtain ⟨d, hd, rfl, hall, hb1⟩ := hrel
          have hsz1 := hb1.size
          clear HB2
          by_cases hdt : d < 3
          · have hd1 : (d : Int) < 3 := by omega
            have hd0 : (0 : Int) ≤ (d : Int) := by omega
            have hix := HIX.out d hdt
            obtain ⟨p, r, hpr⟩ : ∃ p r, sq3 x y x1 y1 d = (p, r) := ⟨_, _, rfl⟩
            rw [hpr] at hix
            dsimp only at hix
            have HPR := Lib.hid hpr
            have q1' : (wr.alloc (.cells #[.int .i64 p, .int .i64 r] 53)).cell? ⟨wr.heap.size, 0, none⟩ = some (.int .i64 p) := row_new _ _ _ 0
            have q2' : (wr.alloc (.cells #[.int .i64 p, .int .i64 r] 53)).cell? ⟨wr.heap.size, 1, none⟩ = some (.int .i64 r) := row_new _ _ _ 1
            have hxb : wr.heap.size < (wr.alloc (.cells #[.int .i64 p, .int .i64 r] 53)).heap.size := by simp
            have HB2 := Lib.hid (hb1.alloc hsz1 (.cells #[.int .i64 p, .int .i64 r] 53))
            have HC1 := Lib.hid ((H.out.on (HB2.out.mono hB)).more (show B ≤ wr.heap.size by omega))
            clear hpr hb1
            go_wp2_with fail
            generalize (wr.alloc (.cells #[.int .i64 p, .int .i64 r] 53)) = W at *
            generalize wr.heap.size = xb at *
            have hszW := HB2.out.size
            refine (iContains xb n cap _ l p r W (by omega) HC1.out (Nat.le_of_lt hxb)).mono ?_
            rintro e w3 ⟨rfl, hb3⟩
            have HB3 := Lib.hid (HB2.out.trans (hb3.mono hszW))
            clear hb3 q1' q2' HC1 HB2
            cases hh : hasC l p r with
            | true =>
              have HALL := Lib.hid (show ∀ e, e < d + 1 → hasC l (sq3 x y x1 y1 e).1 (sq3 x y x1 y1 e).2 = true from fun e he => by
                by_cases e9 : e = d
                · subst e9; rw [HPR.out]; exact hh
                · exact hall.out e (by omega))
              clear hh
              go_wp2
              go_roundw
              case rel => exact ⟨d + 1, by omega, by go_num, HALL.out, HB3.out⟩
              case measure => simp [intOf]; omega
            | false =>
              have HZ := Lib.hid (show z = sqTo l (k + 1) from by
                have hf : sqAt l k = false := by
                  rw [HA.out]
                  have : d = 0 ∨ d = 1 ∨ d = 2 := by omega
                  have hp := HPR.out
                  rcases this with rfl | rfl | rfl
                  · injection hp with e1 e2; subst e1 e2; rw [hh]; rfl
                  · injection hp with e1 e2; subst e1 e2; rw [hh, Bool.and_false]; rfl
                  · injection hp with e1 e2; subst e1 e2; rw [hh, Bool.and_false]
                rw [HST.out, hf]
                exact hzz.out)
              clear hh
              go_wp2
              go_roundw
              case rel => exact ⟨k + 1, z, by omega, by go_num, rfl, by omega, HZ.out, HB3.out⟩
              case measure => simp [intOf]; omega
          · obtain rfl : d = 3 := by omega
            have HZ := Lib.hid (show z + 1 = sqTo l (k + 1) from by
              have h0 := hall.out 0 (by omega)
              have h1 := hall.out 1 (by omega)
              have h2 := hall.out 2 (by omega)
              simp only [sq3] at h0 h1 h2
              rw [HST.out, HA.out, h0, h1, h2, hzz.out]
              rfl)
            go_wp2
            go_roundw
            case rel => exact ⟨k + 1, z + 1, by omega, by go_num, by go_num, by omega, HZ.out, hb1⟩
            case measure => simp [intOf]; omega
      · obtain rfl : k = n := by omega
        have HR := Lib.hid (show (sqTo l k : Int) = (z : Int) from by rw [hzz.out])
        go_wp2
        first | go_ret | (rw [Exit.noGoto_ret]; go_ret)
        exact ⟨by rw [HR.out]; rfl, hb⟩
end

section
open Go.RowKit Go.Maps

def bdV (f : Nat → Bool) : Array Value := ((List.range 100).map fun k => Value.bool (f k)).toArray
theorem bdV_size (f : Nat → Bool) : (bdV f).size = 100 := by simp [bdV]
theorem bdV_get (f : Nat → Bool) {k : Nat} (hk : k < 100) : (bdV f)[k]? = some (.bool (f k)) := by simp [bdV, hk]
theorem bdV_zero : Try.zeroCells49 = bdV fun _ => false := by kernel_rfl
theorem bdV_upd (f : Nat → Bool) {k : Nat} (hk : k < 100) : (bdV f).setIfInBounds k (.bool true) = bdV (updB f k) := by
  apply Array.ext_getElem?
  intro j
  rw [Array.getElem?_setIfInBounds]
  by_cases hj : j < 100
  · rw [bdV_get _ hj, bdV_get _ hj, bdV_size]
    unfold updB
    by_cases e : k = j
    · subst e; simp [hk]
    · have : ¬ j = k := fun h => e h.symm
      simp [e, this]
  · have h1 : (bdV f)[j]? = none := by rw [Array.getElem?_eq_none_iff, bdV_size]; omega
    have h2 : (bdV (updB f k))[j]? = none := by rw [Array.getElem?_eq_none_iff, bdV_size]; omega
    rw [h1, h2]
    by_cases e : k = j
    · subst e; omega
    · simp [e]
theorem bdV_one (f : Nat → Bool) : (bdV f).all (·.oneCell') = true := by
  rw [Array.all_eq_true_iff_forall_mem]
  intro v hv
  simp [bdV] at hv
  obtain ⟨k, _, rfl⟩ := hv
  rfl
/-- A board in memory. -/
def BdAt (w : World) (b : Nat) (f : Nat → Bool) : Prop := w.heap[b]? = some (.cells (bdV f) 49 (0, 0))
theorem BdAt.cell {w : World} {b : Nat} {f : Nat → Bool} (h : BdAt w b f) {k : Nat} (hk : k < 100) : w.cell? ⟨b, k, none⟩ = some (.bool (f k)) := (cell_of_row w b k _ _ _ h).trans (bdV_get f hk)
theorem BdAt.frozen {w : World} {b : Nat} {f : Nat → Bool} (h : BdAt w b f) (k : Nat) : w.frozen? ⟨b, k, none⟩ = false := frozen_of_row w b k _ _ h
theorem BdAt.lt {w : World} {b : Nat} {f : Nat → Bool} (h : BdAt w b f) : b < w.heap.size := (Array.getElem?_eq_some_iff.1 h).1
theorem BdAt.store {w : World} {b : Nat} {f : Nat → Bool} (h : BdAt w b f) {k : Nat} (hk : k < 100) : BdAt (w.setCell ⟨b, k, none⟩ (.bool true)) b (updB f k) := by
  unfold BdAt
  rw [heap_setCell_same w b k _ _ _ h, bdV_upd f hk]
theorem BdAt.below {w w' : World} {B b : Nat} {f : Nat → Bool} (h : BdAt w b f) (hb : Below B w w') (hlt : b < B) : BdAt w' b f := (hb.block b hlt).trans h
theorem BdAt.new (w : World) (f : Nat → Bool) : BdAt (w.alloc (.cells (bdV f) 49)) w.heap.size f := heap_alloc_last w _
theorem board_size : (Try.prog.info? 49).map (·.size) = some 100 := by kernel_rfl

def onb (x y : Int) : Bool := decide (0 ≤ x) && decide (x < 10) && decide (0 ≤ y) && decide (y < 10)
theorem onb_iff (x y : Int) : onb x y = true ↔ onB (x, y) := by unfold onb onB; simp; omega
set_option maxHeartbeats 1000000 in
theorem iOnBoard (x y : Int) (w : World) : Calls Try.prog 60 #[.agg #[.int .i64 x, .int .i64 y]] w fun e w' => e = .returned (.bool (onb x y)) ∧ ∃ q os', w' = Go.Sort.grow (w.drewN q) os' := by
  unfold onb
  by_cases h1 : 0 ≤ x
  · by_cases h2 : x < 10
    · by_cases h3 : 0 ≤ y
      · by_cases h4 : y < 10
        · rw [decide_eq_true h1, decide_eq_true h2, decide_eq_true h3, decide_eq_true h4]
          go_enter Try.func60, Try.ntmps60
          go_wp2
          go_ret
          exact ⟨rfl, 0, _, by rw [Go.Sort.alloc_eq_grow]; rfl⟩
        · rw [decide_eq_true h1, decide_eq_true h2, decide_eq_true h3, decide_eq_false h4]
          go_enter Try.func60, Try.ntmps60
          go_wp2
          go_ret
          exact ⟨rfl, 0, _, by rw [Go.Sort.alloc_eq_grow]; rfl⟩
      · rw [decide_eq_true h1, decide_eq_true h2, decide_eq_false h3]
        go_enter Try.func60, Try.ntmps60
        go_wp2
        go_ret
        exact ⟨rfl, 0, _, by rw [Go.Sort.alloc_eq_grow]; rfl⟩
    · rw [decide_eq_true h1, decide_eq_false h2]
      go_enter Try.func60, Try.ntmps60
      go_wp2
      go_ret
      exact ⟨rfl, 0, _, by rw [Go.Sort.alloc_eq_grow]; rfl⟩
  · rw [decide_eq_false h1]
    go_enter Try.func60, Try.ntmps60
    go_wp2
    go_ret
    exact ⟨rfl, 0, _, by rw [Go.Sort.alloc_eq_grow]; rfl⟩

set_option maxHeartbeats 4000000 in
set_option maxRecDepth 100000 in
theorem iBoardOf (B n cap : Nat) (a : Option Addr) (l : List Cl) (w : World) (hl : isShape l = true) (hc : CellsAt B w a n l) (hB : B ≤ w.heap.size) :
    Calls Try.prog 58 #[.slice a n cap] w fun e w' => e = .returned (.agg (bdV (bTo l n))) ∧ Below w.heap.size w w' := by
  have H := Lib.hid hc
  have hln := hc.1
  have hlen := ((isShape_iff l).1 hl).1
  rw [hln] at hlen
  have HP := Lib.hid (isShape_in hl)
  have HLN := Lib.hid hln
  clear hc hl hln
  go_enter Try.func58, Try.ntmps58
  go_wp2
  rw [bdV_zero]
  have HB0 := Lib.hid (BdAt.new (w.alloc (.cells (bdV fun _ => false) 49)) (fun _ => false))
  simp only [World.size_alloc] at HB0
  have HR0 := Lib.hid (BdAt.below (BdAt.new w (fun _ => false)) (show Below (w.heap.size + 1) (w.alloc (.cells (bdV fun _ => false) 49)) ((w.alloc (.cells (bdV fun _ => false) 49)).alloc (.cells (bdV fun _ => false) 49)) from (Below.refl _ _).alloc (by simp) _) (by omega))
  have HW0 := Lib.hid (show Below w.heap.size w ((w.alloc (.cells (bdV fun _ => false) 49)).alloc (.cells (bdV fun _ => false) 49)) from ((Below.refl _ _).alloc (Nat.le_refl _) _).alloc (by simp) _)
  go_loopw [8] (fun i wr => ∃ k : Nat, k ≤ n ∧ i = .int .i64 k ∧ Hid (BdAt wr (w.heap.size + 1) (bTo l k)) ∧ Hid (BdAt wr w.heap.size (fun _ => false)) ∧ Below w.heap.size w wr) (fun i _ => n - (intOf i).toNat)
  case atStart => exact ⟨0, by omega, rfl, HB0.out, HR0.out, HW0.out⟩
  case round =>
    obtain ⟨k, hk, rfl, hbd, hr0, hb⟩ := hrel
    have hsz := hb.size
    clear HB0 HR0 HW0
    have hlt1 := hbd.out.lt
    by_cases hlt : k < n
    · have hk1 : (k : Int) < (n : Int) := by omega
      have hk0 : (0 : Int) ≤ (k : Int) := by omega
      obtain ⟨x, y, hxy⟩ : ∃ x y, l.getD k (0, 0) = (x, y) := ⟨_, _, rfl⟩
      have HCW := Lib.hid (H.out.on (hb.mono hB))
      obtain ⟨b9, o9, rfl, hb9, hc9⟩ := HCW.out.2.2 (by omega)
      have p1 := (hc9 k hlt).1
      have p2 := (hc9 k hlt).2
      rw [hxy] at p1 p2
      dsimp only at p1 p2
      have hpx := inP_out (HP.out _ (getD_mem (l := l) (j := k) (by have := HLN.out; omega)))
      rw [hxy] at hpx
      dsimp only at hpx
      have hstep : bTo l (k + 1) = updB (bTo l k) (10 * (y + 1).toNat + (x + 1).toNat) := by rw [bTo, hxy]; rfl
      obtain ⟨u, hu⟩ : ∃ u : Nat, x = u := ⟨x.toNat, by omega⟩
      obtain ⟨v, hv⟩ : ∃ v : Nat, y = v := ⟨y.toNat, by omega⟩
      subst hu hv
      have HST := Lib.hid (show bTo l (k + 1) = updB (bTo l k) (10 * (v + 1) + (u + 1)) from by rw [hstep]; congr 2)
      have hx1 : IntKind.i64.wrap ((u : Int) + 1) = ((u + 1 : Nat) : Int) := by rw [show (u : Int) + 1 = ((u + 1 : Nat) : Int) by omega]; exact IntWalk.i64_in _ (by omega)
      have hy1 : IntKind.i64.wrap ((v : Int) + 1) = ((v + 1 : Nat) : Int) := by rw [show (v : Int) + 1 = ((v + 1 : Nat) : Int) by omega]; exact IntWalk.i64_in _ (by omega)
      have hbA : Below wr.heap.size wr (wr.alloc (.cells #[.int .i64 (u : Int), .int .i64 (v : Int)] 53)) := (Below.refl _ _).alloc (Nat.le_refl _) _
      have HBA := Lib.hid (hbd.out.below hbA hlt1)
      have HRA := Lib.hid (hr0.out.below hbA hr0.out.lt)
      have HWA := Lib.hid (hb.alloc hsz (.cells #[.int .i64 (u : Int), .int .i64 (v : Int)] 53))
      have q1' : (wr.alloc (.cells #[.int .i64 (u : Int), .int .i64 (v : Int)] 53)).cell? ⟨wr.heap.size, 0, none⟩ = some (.int .i64 (u : Int)) := row_new _ _ _ 0
      have q2' : (wr.alloc (.cells #[.int .i64 (u : Int), .int .i64 (v : Int)] 53)).cell? ⟨wr.heap.size, 1, none⟩ = some (.int .i64 (v : Int)) := row_new _ _ _ 1
      clear hxy hc9 HCW hstep hbd hr0 hb hbA
      go_wp2_with fail
      have c1 := HBA.out.cell (k := (v + 1) * 10 + (u + 1)) (by omega)
      have c2 := HBA.out.frozen ((v + 1) * 10 + (u + 1))
      have hu1 : ((u + 1 : Nat) : Int) < 10 := by omega
      have hv1 : ((v + 1 : Nat) : Int) < 10 := by omega
      have hxb : wr.heap.size < (wr.alloc (.cells #[.int .i64 (u : Int), .int .i64 (v : Int)] 53)).heap.size := by simp
      generalize (wr.alloc (.cells #[.int .i64 (u : Int), .int .i64 (v : Int)] 53)) = W at *
      generalize wr.heap.size = xb at *
      obtain ⟨bd, hbdd⟩ : ∃ bd, w.heap.size + 1 = bd := ⟨_, rfl⟩
      rw [hbdd] at HBA c1 c2 ⊢
      have HBD := Lib.hid hbdd
      clear hbdd
      generalize bTo l k ((v + 1) * 10 + (u + 1)) = ob at *
      clear p1 p2
      go_region
      have HB9 := Lib.hid (show BdAt (W.setCell ⟨w.heap.size + 1, (v + 1) * 10 + (u + 1), none⟩ (.bool true)).drew (w.heap.size + 1) (bTo l (k + 1)) from by
        rw [HST.out, show 10 * (v + 1) + (u + 1) = (v + 1) * 10 + (u + 1) by omega]
        exact BdAt.store (by rw [HBD.out]; exact HBA.out) (by omega))
      have HR9 := Lib.hid (show BdAt (W.setCell ⟨w.heap.size + 1, (v + 1) * 10 + (u + 1), none⟩ (.bool true)).drew w.heap.size (fun _ => false) from (heap_setCell_other W _ _ _ (by show w.heap.size ≠ w.heap.size + 1; omega)).trans HRA.out)
      have HW9 := Lib.hid (show Below w.heap.size w (W.setCell ⟨w.heap.size + 1, (v + 1) * 10 + (u + 1), none⟩ (.bool true)).drew from (HWA.out.setCell (by show w.heap.size ≤ w.heap.size + 1; omega) _).drew)
      rw [← HBD.out]
      clear c1 c2 q1' q2' HBA HRA HWA
      go_wp2
      go_roundw
      case rel => first
        | exact ⟨k + 1, by omega, by go_num, HB9.out, HR9.out, HW9.out⟩
        | (repeat apply Exists.intro
           exact ⟨⟨k + 1, by omega, by go_num, HB9.out, HR9.out, HW9.out⟩, rfl⟩)
      case measure => simp [intOf]; omega
    · obtain rfl : k = n := by omega
      have hi1 : (Try.prog.info? 49).map (·.size) = some (bdV (bTo l k)).size := by rw [bdV_size]; exact board_size
      have HI := Lib.hid hi1
      have HWF := Lib.hid (below_setRow hb (Nat.le_refl _) (bdV (bTo l k)))
      have HRF := Lib.hid (setRow_heap wr w.heap.size _ (bdV (bTo l k)) _ _ hr0.out)
      clear hi1
      go_wp2_with (first
        | (refine wpList_load_row rfl 49 _ rfl (w.heap.size + 1) rfl 49 (bdV (bTo l k)) (0, 0) _ hbd.out Try.underlying49 rfl HI.out ?_)
        | (refine wpList_store_row rfl 49 _ _ rfl w.heap.size (bdV (bTo l k)) rfl rfl 49 (bdV fun _ => false) hr0.out HI.out (by rw [bdV_size, bdV_size]) (bdV_one _) ?_)
        | go_in)
      exact bodyPost_ret (v := .agg (bdV (bTo l k))) (results_cell_row Try.results58 _ _ w.heap.size 49 (bdV (bTo l k)) (0, 0) _ rfl HRF.out Try.underlying49 rfl HI.out) rfl ⟨rfl, HWF.out⟩
end

section
open Go.RowKit Go.Maps

/-- The closure, in the variable that it captures itself. -/
def FnAt (w : World) (b bf : Nat) : Prop := w.heap[bf]? = some (.cells #[.func (.func 59) #[] #[.pointer (some ⟨b, 0, none⟩), .pointer (some ⟨bf, 0, none⟩)]] 51 (0, 0))
theorem FnAt.cell {w : World} {b bf : Nat} (h : FnAt w b bf) : w.cell? ⟨bf, 0, none⟩ = some (.func (.func 59) #[] #[.pointer (some ⟨b, 0, none⟩), .pointer (some ⟨bf, 0, none⟩)]) := cell_of_row w bf 0 _ _ _ h
theorem FnAt.lt {w : World} {b bf : Nat} (h : FnAt w b bf) : bf < w.heap.size := (Array.getElem?_eq_some_iff.1 h).1
theorem FnAt.ne {w : World} {b bf b2 : Nat} {f : Nat → Bool} (h : FnAt w b bf) (k : BdAt w b2 f) : bf ≠ b2 := by
  intro e
  subst e
  unfold FnAt at h
  unfold BdAt at k
  rw [h] at k
  injection k with k
  injection k with k1 k2
  have := congrArg Array.size k1
  rw [bdV_size] at this
  simp at this
theorem FnAt.but {w w' : World} {B b bf : Nat} {f : Nat → Bool} (h : FnAt w b bf) (k : BdAt w b f) (hb : But B b w w') (hlt : bf < B) : FnAt w' b bf := (hb.block bf hlt (h.ne k)).trans h

theorem But.inB {B b : Nat} {x w : World} (h : But B b x w) (k : Nat) (v : Value) : But B b x (w.setCell ⟨b, k, none⟩ v) :=
  ⟨h.os, h.tape, h.output, by have := h.size; simpa [World.setCell] using this, fun j hj hne => (heap_setCell_other w ⟨b, k, none⟩ j v hne).trans (h.block j hj hne)⟩

set_option maxHeartbeats 8000000 in
set_option maxRecDepth 100000 in
theorem iFill (L : List Cl) (b bf : Nat) : ∀ (m : Nat) (f : Nat → Bool) (x y : Int) (w : World), unf f < m → (∀ q ∈ L, onB q ∧ fil f q = true) → (-1 ≤ x ∧ x ≤ 10) → (-1 ≤ y ∧ y ≤ 10) → BdAt w b f → FnAt w b bf →
    Calls Try.prog 59 #[.agg #[.int .i64 x, .int .i64 y], .pointer (some ⟨b, 0, none⟩), .pointer (some ⟨bf, 0, none⟩)] w fun e w' => e = .returned (.tuple #[]) ∧ (∃ f', Fl L f f' (x, y) ∧ BdAt w' b f') ∧ But w.heap.size b w w' := by
  intro m
  induction m with
  | zero => intro f x y w h; omega
  | succ m ih =>
    intro f x y w hm hL hx hy hbd hfn
    have HL := Lib.hid hL
    have HIH := Lib.hid ih
    have eg : ∀ args w, (callFunc 59 args).run Try.prog w = .ok (.enter 59 args) w := enters_of Try.func59 (by kernel_rfl) rfl
    have hblt := hbd.lt
    have hflt := hfn.lt
    have hne := hfn.ne hbd
    have hbA : Below w.heap.size w (w.alloc (.cells #[.int .i64 x, .int .i64 y] 53)) := (Below.refl _ _).alloc (Nat.le_refl _) _
    have HBA := Lib.hid (hbd.below hbA hblt)
    have HFA := Lib.hid (show FnAt (w.alloc (.cells #[.int .i64 x, .int .i64 y] 53)) b bf from (hbA.block bf hflt).trans hfn)
    have HWA := Lib.hid (But.of_below (b := b) hbA)
    have q1' : (w.alloc (.cells #[.int .i64 x, .int .i64 y] 53)).cell? ⟨w.heap.size, 0, none⟩ = some (.int .i64 x) := row_new _ _ _ 0
    have q2' : (w.alloc (.cells #[.int .i64 x, .int .i64 y] 53)).cell? ⟨w.heap.size, 1, none⟩ = some (.int .i64 y) := row_new _ _ _ 1
    have hxb : w.heap.size < (w.alloc (.cells #[.int .i64 x, .int .i64 y] 53)).heap.size := by simp
    have hmix : Try.prog.follows .mixedOrders = true := by kernel_rfl
    clear hL ih hbd hfn hbA
    cases hon : onb x y with
    | false =>
      have HF := Lib.hid (show Fl L f f (x, y) from Fl.off (by rw [← onb_iff, hon]; simp))
      go_enter Try.func59, Try.ntmps59
      go_wp2_with fail
      generalize (w.alloc (.cells #[.int .i64 x, .int .i64 y] 53)) = W at *
      have hNG : ∀ n os, Calls Try.prog 60 #[.agg #[.int .i64 x, .int .i64 y]] (Go.Sort.grow (W.drewN n) os) fun e w'' => e = .returned (.bool false) ∧ ∃ q os', w'' = Go.Sort.grow ((Go.Sort.grow (W.drewN n) os).drewN q) os' := fun n os => by have h9 := iOnBoard x y (Go.Sort.grow (W.drewN n) os); rw [hon] at h9; exact h9
      have g1 := cell_grown hxb q1'
      have g2 := cell_grown hxb q2'
      generalize hxbb : w.heap.size = xb at *
      have HXB := Lib.hid hxbb
      clear hxbb
      clear hon q1' q2'
      refine wp_region_quiet_grown hmix (by kernel_rfl) ?_
      repeat (first | (go_big_quiet_step (first | (go_at_call 60; refine Calls.grown_of (hNG _ _)))) | (quiet_step (first | (go_at_call 60; refine Calls.grown_of (hNG _ _)))))
      refine wpQuiet_nil ?_
      intro _ hw'
      obtain ⟨⟨nq, osq⟩, hw''⟩ := hw'
      subst hw''
      have hbw : Below W.heap.size W (Go.Sort.grow (W.drewN nq) osq) := ⟨rfl, rfl, rfl, by simp, fun k hk => Go.Sort.heap_grow_old _ _ hk⟩
      have HB9 := Lib.hid (HBA.out.below hbw HBA.out.lt)
      have HW9 := Lib.hid (HWA.out.trans (But.of_below (hbw.mono (by omega))))
      clear hbw g1 g2 hNG
      go_wp2
      exact bodyPost_ret (v := .tuple #[]) (by simp [results, Try.results59, go_sem]) rfl ⟨rfl, ⟨f, HF.out, HB9.out⟩, by rw [HXB.out]; exact HW9.out⟩
    | true =>
      have hob := (onb_iff x y).1 hon
      have hob' := hob
      unfold onB at hob'
      dsimp only at hob'
      obtain ⟨u, hu⟩ : ∃ u : Nat, x = u := ⟨x.toNat, by omega⟩
      obtain ⟨v, hv⟩ : ∃ v : Nat, y = v := ⟨y.toNat, by omega⟩
      subst hu hv
      have hu9 : (u : Int) < 10 := by omega
      have hv9 : (v : Int) < 10 := by omega
      have hu0 : (0 : Int) ≤ (u : Int) := by omega
      have hv0 : (0 : Int) ≤ (v : Int) := by omega
      have hix : bIx ((u : Int), (v : Int)) = v * 10 + u := by unfold bIx; dsimp only; omega
      have hkk : v * 10 + u < 100 := by omega
      have HON := Lib.hid hob
      have HIX := Lib.hid hix
      have c1 := HBA.out.cell hkk
      have hblA : b < (w.alloc (.cells #[.int .i64 (u : Int), .int .i64 (v : Int)] 53)).heap.size := HBA.out.lt
      cases hff : f (v * 10 + u) with
      | true =>
        have HF := Lib.hid (show Fl L f f ((u : Int), (v : Int)) from Fl.was (by unfold fil; rw [hix]; exact hff))
        rw [hff] at c1
        go_enter Try.func59, Try.ntmps59
        go_wp2_with fail
        generalize (w.alloc (.cells #[.int .i64 (u : Int), .int .i64 (v : Int)] 53)) = W at *
        have hNG : ∀ n os, Calls Try.prog 60 #[.agg #[.int .i64 (u : Int), .int .i64 (v : Int)]] (Go.Sort.grow (W.drewN n) os) fun e w'' => e = .returned (.bool true) ∧ ∃ q os', w'' = Go.Sort.grow ((Go.Sort.grow (W.drewN n) os).drewN q) os' := fun n os => by have h9 := iOnBoard u v (Go.Sort.grow (W.drewN n) os); rw [hon] at h9; exact h9
        have g1 := cell_grown hxb q1'
        have g2 := cell_grown hxb q2'
        have g3 := cell_grown hblA c1
        generalize hxbb : w.heap.size = xb at *
        have HXB := Lib.hid hxbb
        clear hxbb
        clear hon q1' q2' c1 hob hob' hff hix
        refine wp_region_quiet_grown hmix (by kernel_rfl) ?_
        repeat (first | (go_big_quiet_step (first | (go_at_call 60; refine Calls.grown_of (hNG _ _)))) | (quiet_step (first | (go_at_call 60; refine Calls.grown_of (hNG _ _)))))
        refine wpQuiet_nil ?_
        intro _ hw'
        obtain ⟨⟨nq, osq⟩, hw''⟩ := hw'
        subst hw''
        have hbw : Below W.heap.size W (Go.Sort.grow (W.drewN nq) osq) := ⟨rfl, rfl, rfl, by simp, fun k hk => Go.Sort.heap_grow_old _ _ hk⟩
        have HB9 := Lib.hid (HBA.out.below hbw HBA.out.lt)
        have HW9 := Lib.hid (HWA.out.trans (But.of_below (hbw.mono (by omega))))
        clear hbw g1 g2 g3 hNG
        go_wp2
        exact bodyPost_ret (v := .tuple #[]) (by simp [results, Try.results59, go_sem]) rfl ⟨rfl, ⟨f, HF.out, HB9.out⟩, by rw [HXB.out]; exact HW9.out⟩
      | false =>
        have hfc : fil f ((u : Int), (v : Int)) = false := by unfold fil; rw [hix]; exact hff
        have hcL : ((u : Int), (v : Int)) ∉ L := fun hc => by have := (HL.out _ hc).2; rw [hfc] at this; cases this
        have HCL := Lib.hid hcL
        have HP0 := Lib.hid (show Fp L f (updB f (v * 10 + u)) ((u : Int), (v : Int)) 0 from by have := Fp.start (f := f) hob hcL; rw [hix] at this; exact this)
        have HFC := Lib.hid hfc
        rw [hff] at c1
        go_enter Try.func59, Try.ntmps59
        go_wp2_with fail
        generalize (w.alloc (.cells #[.int .i64 (u : Int), .int .i64 (v : Int)] 53)) = W at *
        have hNG : ∀ n os, Calls Try.prog 60 #[.agg #[.int .i64 (u : Int), .int .i64 (v : Int)]] (Go.Sort.grow (W.drewN n) os) fun e w'' => e = .returned (.bool true) ∧ ∃ q os', w'' = Go.Sort.grow ((Go.Sort.grow (W.drewN n) os).drewN q) os' := fun n os => by have h9 := iOnBoard u v (Go.Sort.grow (W.drewN n) os); rw [hon] at h9; exact h9
        have g1 := cell_grown hxb q1'
        have g2 := cell_grown hxb q2'
        have g3 := cell_grown hblA c1
        generalize hxbb : w.heap.size = xb at *
        have HXB := Lib.hid hxbb
        clear hxbb
        clear hon q1' q2' c1 hob hob' hff hix hfc hcL
        refine wp_region_quiet_grown hmix (by kernel_rfl) ?_
        repeat (first | (go_big_quiet_step (first | (go_at_call 60; refine Calls.grown_of (hNG _ _)))) | (quiet_step (first | (go_at_call 60; refine Calls.grown_of (hNG _ _)))))
        refine wpQuiet_nil ?_
        intro _ hw'
        obtain ⟨⟨nq, osq⟩, hw''⟩ := hw'
        subst hw''
        have hbw : Below W.heap.size W (Go.Sort.grow (W.drewN nq) osq) := ⟨rfl, rfl, rfl, by simp, fun k hk => Go.Sort.heap_grow_old _ _ hk⟩
        have r1 := g1 nq osq
        have r2 := g2 nq osq
        have HB2 := Lib.hid (HBA.out.below hbw HBA.out.lt)
        have HF2 := Lib.hid (show FnAt (Go.Sort.grow (W.drewN nq) osq) b bf from (hbw.block bf HFA.out.lt).trans HFA.out)
        have HW2 := Lib.hid (HWA.out.trans (But.of_below (hbw.mono (by omega))))
        have hx2 : xb < (Go.Sort.grow (W.drewN nq) osq).heap.size := by have := hbw.size; omega
        clear hbw g1 g2 g3 hNG HBA HFA HWA
        try dsimp only
        generalize Go.Sort.grow (W.drewN nq) osq = W2 at *
        clear hxb hblA
        have c2 := HB2.out.cell hkk
        have c3 := HB2.out.frozen (v * 10 + u)
        generalize f (v * 10 + u) = ob at c2
        go_wp2_with fail
        go_region
        have hxne : xb ≠ b := by have := HXB.out; omega
        have HB3 := Lib.hid (show BdAt (W2.setCell ⟨b, v * 10 + u, none⟩ (.bool true)).drew b (updB f (v * 10 + u)) from HB2.out.store hkk)
        have HF3 := Lib.hid (show FnAt (W2.setCell ⟨b, v * 10 + u, none⟩ (.bool true)).drew b bf from (heap_setCell_other W2 ⟨b, v * 10 + u, none⟩ bf _ hne).trans HF2.out)
        have HW3 := Lib.hid (show But xb b w (W2.setCell ⟨b, v * 10 + u, none⟩ (.bool true)).drew from (HW2.out.inB _ _).drew)
        have s1 : (W2.setCell ⟨b, v * 10 + u, none⟩ (.bool true)).drew.cell? ⟨xb, 0, none⟩ = some (.int .i64 (u : Int)) := (World.cell?_of_block (a := ⟨xb, 0, none⟩) (heap_setCell_other W2 ⟨b, v * 10 + u, none⟩ xb _ hxne)).trans r1
        have s2 : (W2.setCell ⟨b, v * 10 + u, none⟩ (.bool true)).drew.cell? ⟨xb, 1, none⟩ = some (.int .i64 (v : Int)) := (World.cell?_of_block (a := ⟨xb, 1, none⟩) (heap_setCell_other W2 ⟨b, v * 10 + u, none⟩ xb _ hxne)).trans r2
        have hx3 : xb < (W2.setCell ⟨b, v * 10 + u, none⟩ (.bool true)).drew.heap.size := by show xb < (W2.setCell ⟨b, v * 10 + u, none⟩ (.bool true)).heap.size; simpa [World.setCell] using hx2
        generalize (W2.setCell ⟨b, v * 10 + u, none⟩ (.bool true)).drew = W3 at *
        clear r1 r2 c2 c3 HB2 HF2 HW2 hx2
        go_wp2_with fail
        refine (iBeside (u : Int) (v : Int) W3 (by omega) (by omega)).mono ?_
        rintro e w4 ⟨rfl, hb4⟩
        have HB4 := Lib.hid (HB3.out.below hb4 HB3.out.lt)
        have HF4 := Lib.hid (show FnAt w4 b bf from (hb4.block bf HF3.out.lt).trans HF3.out)
        have HW4 := Lib.hid (HW3.out.trans (But.of_below (hb4.mono (by omega))))
        clear hb4 HB3 HF3 HW3 s1 s2 hx3
        have HNX := Lib.hid (fun d hd w => nbv_index ((u : Int), (v : Int)) d hd w)
        obtain ⟨NB, hNB⟩ : ∃ NB, nbv ((u : Int), (v : Int)) = NB := ⟨_, rfl⟩
        rw [hNB] at HNX ⊢
        clear hNB
        go_wp2
        go_loopw [26] (fun i wr => ∃ (d : Nat) (g : Nat → Bool), d ≤ 4 ∧ i = .int .i64 d ∧ Hid (Fp L f g ((u : Int), (v : Int)) d) ∧ Hid (BdAt wr b g) ∧ Hid (FnAt wr b bf) ∧ Hid (But xb b w wr)) (fun i _ => 4 - (intOf i).toNat)
        case atStart => exact ⟨0, _, by omega, rfl, HP0.out, HB4.out, HF4.out, HW4.out⟩
        case round =>
          obtain ⟨d, g, hd, rfl, hp, hbd, hfn, hw⟩ := hrel
          clear HB4 HF4 HW4
          by_cases hdt : d < 4
          · have hd1 : (d : Int) < 4 := by omega
            have hd0 : (0 : Int) ≤ (d : Int) := by omega
            have hix := HNX.out d hdt
            obtain ⟨p, r, hpr⟩ : ∃ p r, nbC ((u : Int), (v : Int)) d = (p, r) := ⟨_, _, rfl⟩
            have hpb : (-1 ≤ p ∧ p ≤ 10) ∧ -1 ≤ r ∧ r ≤ 10 := by
              have hb := nb_bd d hdt
              unfold nbC at hpr
              injection hpr with h1 h2
              dsimp only at h1 h2
              omega
            rw [hpr] at hix
            dsimp only at hix
            have HPR := Lib.hid hpr
            have hul : unf g < m := by
              have := unf_lt hp.out.mono HON.out HFC.out hp.out.self
              omega
            have HGL := Lib.hid (show ∀ q ∈ L, onB q ∧ fil g q = true from fun q hq => ⟨(HL.out q hq).1, hp.out.mono q (HL.out q hq).1 (HL.out q hq).2⟩)
            have hbA : Below wr.heap.size wr (wr.alloc (.cells #[.int .i64 p, .int .i64 r] 53)) := (Below.refl _ _).alloc (Nat.le_refl _) _
            have HB5 := Lib.hid (hbd.out.below hbA hbd.out.lt)
            have HF5 := Lib.hid (show FnAt (wr.alloc (.cells #[.int .i64 p, .int .i64 r] 53)) b bf from (hbA.block bf hfn.out.lt).trans hfn.out)
            have hszr := hw.out.size
            have hxw : w.heap.size = xb := HXB.out
            have HW5 := Lib.hid (hw.out.trans (But.of_below (hbA.mono (by omega))))
            have q1' : (wr.alloc (.cells #[.int .i64 p, .int .i64 r] 53)).cell? ⟨wr.heap.size, 0, none⟩ = some (.int .i64 p) := row_new _ _ _ 0
            have q2' : (wr.alloc (.cells #[.int .i64 p, .int .i64 r] 53)).cell? ⟨wr.heap.size, 1, none⟩ = some (.int .i64 r) := row_new _ _ _ 1
            have hfc := HF5.out.cell
            have hszA := hbA.size
            clear hpr hbA hbd hfn hw
            go_wp2_with fail
            generalize (wr.alloc (.cells #[.int .i64 p, .int .i64 r] 53)) = W5 at *
            refine (HIH.out g p r W5 hul HGL.out hpb.1 hpb.2 HB5.out HF5.out).mono ?_
            rintro e w6 ⟨rfl, ⟨g', hfl, hbd6⟩, hbut⟩
            have HP6 := Lib.hid (hp.out.step HON.out HCL.out hdt (by rw [HPR.out]; exact hfl))
            have HB6 := Lib.hid hbd6
            have HF6 := Lib.hid (HF5.out.but HB5.out hbut HF5.out.lt)
            have HW6 := Lib.hid (HW5.out.trans (hbut.mono (by omega)))
            clear hfl hbd6 hbut q1' q2' hfc HB5 HF5 HW5 hp
            go_wp2
            go_roundw
            case rel => first
              | exact ⟨d + 1, g', by omega, by go_num, HP6.out, HB6.out, HF6.out, HW6.out⟩
              | (repeat apply Exists.intro
                 exact ⟨⟨d + 1, g', by omega, by go_num, HP6.out, HB6.out, HF6.out, HW6.out⟩, rfl⟩)
            case measure => simp [intOf]; omega
          · obtain rfl : d = 4 := by omega
            have HR := Lib.hid hp.out.done
            clear hp
            go_wp2
            go_end0
            exact ⟨rfl, ⟨g, HR.out, hbd.out⟩, by rw [HXB.out]; exact hw.out⟩
end

section
open Go.RowKit Go.Maps

set_option maxHeartbeats 8000000 in
set_option maxRecDepth 100000 in
theorem iHoles (B n cap : Nat) (a : Option Addr) (l : List Cl) (w : World) (hn : n ≤ 4194304) (hc : CellsAt B w a n l) (hB : B ≤ w.heap.size) :
    Calls Try.prog 20 #[.slice a n cap] w fun e w' => e = .returned (.int .i64 (holP l)) ∧ Below w.heap.size w w' := by
  have H := Lib.hid hc
  have hln := hc.1
  clear hc
  cases hs : isShape l with
  | false =>
    have HS := Lib.hid hs
    have HO := Lib.hid (holP_no hs)
    rw [HO.out]
    clear hs
    go_enter Try.func20, Try.ntmps20
    go_wp2_with fail
    refine (iIsShape B n cap a l w hn H.out hB).mono ?_
    rintro e w1 ⟨rfl, hb1⟩
    rw [HS.out]
    go_wp2
    go_ret
    exact ⟨rfl, hb1⟩
  | true =>
    have HS := Lib.hid hs
    have hlen := ((isShape_iff l).1 hs).1
    rw [hln] at hlen
    have HO := Lib.hid (show holP l = (cntL (moveC 1 1 l) (gTo 10 10) : Int) from by rw [holP_yes hs]; rfl)
    have HI := Lib.hid (board_ins hs)
    have HF0 := Lib.hid (show ∀ q, onB q → (fil (bTo l n) q = true ↔ q ∈ moveC 1 1 l) from fun q hq => by rw [← hln]; exact bTo_board hs q hq)
    rw [HO.out]
    have eg : ∀ args w, (callFunc 59 args).run Try.prog w = .ok (.enter 59 args) w := enters_of Try.func59 (by kernel_rfl) rfl
    have hmf : ∀ (fn : Fn) (first cap : Array Value) (w : World), (Instr.makeFunc fn first cap).run Try.prog w = .ok (.func fn first cap) w := fun _ _ _ _ => rfl
    have HSZ := Lib.hid (show (Try.prog.info? 49).map (·.size) = some (bdV (bTo l n)).size from by rw [bdV_size]; exact board_size)
    have HZ0 := Lib.hid (show Try.zeroCells49.size = (bdV (bTo l n)).size from by rw [bdV_zero, bdV_size, bdV_size])
    clear hs hln
    go_enter Try.func20, Try.ntmps20
    go_wp2_with fail
    refine (iIsShape B n cap a l w hn H.out hB).mono ?_
    rintro e w1 ⟨rfl, hb1⟩
    rw [HS.out]
    go_wp2_with fail
    refine (iBoardOf B n cap a l w1 HS.out (H.out.on (hb1.mono hB)) (Nat.le_trans hB hb1.size)).mono ?_
    rintro e w2 ⟨rfl, hb2⟩
    have HB2 := Lib.hid (hb1.trans (hb2.mono hb1.size))
    have hsz2 := HB2.out.size
    clear hb1 hb2
    obtain ⟨f0, hf0⟩ : ∃ f0, bTo l n = f0 := ⟨_, rfl⟩
    rw [hf0] at HF0 HSZ HZ0 ⊢
    clear hf0
    have hbA : Below w2.heap.size w2 (w2.alloc (.cells (bdV f0) 49)) := (Below.refl _ _).alloc (Nat.le_refl _) _
    have k1 : ((w2.alloc (.cells (bdV f0) 49)).alloc (.cells #[.nilFunc] 51)).cell? ⟨w2.heap.size + 1, 0, none⟩ = some .nilFunc := by simp
    have hh : ((w2.alloc (.cells (bdV f0) 49)).alloc (.cells #[.nilFunc] 51)).heap[w2.heap.size + 1]? = some (.cells #[.nilFunc] 51 (0, 0)) := by
      have := heap_alloc_last (w2.alloc (.cells (bdV f0) 49)) (.cells #[.nilFunc] 51)
      simpa using this
    have k2 := frozen_of_row _ _ 0 _ _ hh
    have hst : (store ⟨w2.heap.size + 1, 0, none⟩ (.func (.func 59) #[] #[.pointer (some ⟨w2.heap.size, 0, none⟩), .pointer (some ⟨w2.heap.size + 1, 0, none⟩)])).run Try.prog ((w2.alloc (.cells (bdV f0) 49)).alloc (.cells #[.nilFunc] 51)) = .ok () (((w2.alloc (.cells (bdV f0) 49)).alloc (.cells #[.nilFunc] 51)).setCell ⟨w2.heap.size + 1, 0, none⟩ (.func (.func 59) #[] #[.pointer (some ⟨w2.heap.size, 0, none⟩), .pointer (some ⟨w2.heap.size + 1, 0, none⟩)])) := by
      rw [run_store _ _ _ _ _ rfl, k1]
      simp only [k2]
      rfl
    have HB3 := Lib.hid (show BdAt ((w2.alloc (.cells (bdV f0) 49)).alloc (.cells #[(.func (.func 59) #[] #[.pointer (some ⟨w2.heap.size, 0, none⟩), .pointer (some ⟨w2.heap.size + 1, 0, none⟩)])] 51)) w2.heap.size f0 from BdAt.below (BdAt.new w2 f0) ((Below.refl (w2.heap.size + 1) _).alloc (by simp) _) (by omega))
    have HF3 := Lib.hid (show FnAt ((w2.alloc (.cells (bdV f0) 49)).alloc (.cells #[(.func (.func 59) #[] #[.pointer (some ⟨w2.heap.size, 0, none⟩), .pointer (some ⟨w2.heap.size + 1, 0, none⟩)])] 51)) w2.heap.size (w2.heap.size + 1) from by
      have := heap_alloc_last (w2.alloc (.cells (bdV f0) 49)) (.cells #[(.func (.func 59) #[] #[.pointer (some ⟨w2.heap.size, 0, none⟩), .pointer (some ⟨w2.heap.size + 1, 0, none⟩)])] 51)
      unfold FnAt
      simpa using this)
    have HW3 := Lib.hid (show Below w2.heap.size w2 ((w2.alloc (.cells (bdV f0) 49)).alloc (.cells #[(.func (.func 59) #[] #[.pointer (some ⟨w2.heap.size, 0, none⟩), .pointer (some ⟨w2.heap.size + 1, 0, none⟩)])] 51)) from hbA.alloc hbA.size _)
    have k3 := HF3.out.cell
    clear hh hbA
    go_wp2_with (first
        | (refine wpList_store_row rfl 49 _ _ rfl w2.heap.size (bdV f0) rfl rfl 49 Try.zeroCells49 (heap_alloc_last w2 _) HSZ.out HZ0.out (bdV_one _) ?_; rw [World.setRow_alloc_new])
        | fail)
    obtain ⟨L, hL⟩ : ∃ L, moveC 1 1 l = L := ⟨_, rfl⟩
    rw [hL] at HI HF0
    have HLL := Lib.hid hL
    clear hL k1 k2 k3 hst
    generalize ((w2.alloc (.cells (bdV f0) 49)).alloc (.cells #[(.func (.func 59) #[] #[.pointer (some ⟨w2.heap.size, 0, none⟩), .pointer (some ⟨w2.heap.size + 1, 0, none⟩)])] 51)) = W3 at *
    have HLB := Lib.hid (show ∀ q ∈ L, onB q ∧ fil f0 q = true from fun q hq => by
      have h9 := HI.out q hq
      have hob : onB q := by unfold onB; omega
      exact ⟨hob, (HF0.out q hob).2 hq⟩)
    obtain ⟨b, hbb⟩ : ∃ b, w2.heap.size = b := ⟨_, rfl⟩
    obtain ⟨bf, hbf⟩ : ∃ bf, w2.heap.size + 1 = bf := ⟨_, rfl⟩
    rw [hbf, hbb] at HF3 ⊢
    rw [hbb] at HW3 HB3
    have HBB := Lib.hid hbb
    clear hbf hbb
    refine (iFill L b bf (unf f0 + 1) f0 0 0 W3 (by omega) HLB.out (by omega) (by omega) HB3.out HF3.out).mono ?_
    rintro e w4 ⟨rfl, ⟨f1, hfl1, hbd1⟩, hbut1⟩
    have hbs : b < W3.heap.size := HB3.out.lt
    have HB4 := Lib.hid hbd1
    have HF4 := Lib.hid (HF3.out.but HB3.out hbut1 HF3.out.lt)
    have HW4 := Lib.hid (HW3.out.trans (hbut1.below (by omega) (Nat.le_refl _)))
    have HS4 := Lib.hid (show ∀ q, onB q → (fil f1 q = true ↔ q ∈ L ∨ Seen L (((0 : Nat) : Int), ((0 : Nat) : Int)) q) from fun q hq => by
      rw [seen_start HI.out (by omega) (by omega)]
      exact hfl1.outside HI.out HF0.out q hq)
    clear hfl1 hbd1 hbut1 HB3 HF3 HW3 HF0 HLB hbs
    go_wp2
    go_loopw [5, 17] (fun v i wr => ∃ (y z : Nat) (f : Nat → Bool), y ≤ 10 ∧ i = .int .i64 y ∧ v = .int .i64 z ∧ z ≤ 10 * y ∧ Hid (z = cntL L (gTo 10 y)) ∧ Hid (BdAt wr b f) ∧ Hid (FnAt wr b bf) ∧ Hid (∀ q, onB q → (fil f q = true ↔ q ∈ L ∨ Seen L (((0 : Nat) : Int), (y : Int)) q)) ∧ Hid (Below b w2 wr)) (fun _ i _ => 10 - (intOf i).toNat)
    case atStart => exact ⟨0, 0, f1, by omega, rfl, rfl, by omega, rfl, HB4.out, HF4.out, HS4.out, HW4.out⟩
    case round =>
      obtain ⟨y, z, f, hy, rfl, rfl, hz, hzz, hbd, hfn, hsn, hw⟩ := hrel
      clear HB4 HF4 HS4 HW4
      by_cases hyt : y < 10
      · have hy1 : (y : Int) < 10 := by omega
        have hy0 : (0 : Int) ≤ (y : Int) := by omega
        go_wp2
        go_loopw [5, 20] (fun v i wr => ∃ (x z : Nat) (f : Nat → Bool), x ≤ 10 ∧ i = .int .i64 x ∧ v = .int .i64 z ∧ z ≤ 10 * y + x ∧ Hid (z = cntL L (gTo 10 y ++ gRow y x)) ∧ Hid (BdAt wr b f) ∧ Hid (FnAt wr b bf) ∧ Hid (∀ q, onB q → (fil f q = true ↔ q ∈ L ∨ Seen L ((x : Int), (y : Int)) q)) ∧ Hid (Below b w2 wr)) (fun _ i _ => 10 - (intOf i).toNat)
        case atStart => exact ⟨0, z, f, by omega, rfl, rfl, by omega, by rw [show gRow y 0 = [] from rfl, List.append_nil]; exact hzz, hbd, hfn, hsn, hw⟩
        case round =>
          clear hzz hbd hfn hsn hw hz
          obtain ⟨x, z, f, hx, rfl, rfl, hz, hzz, hbd, hfn, hsn, hw⟩ := hrel
          by_cases hxt : x < 10
          · have hx1 : (x : Int) < 10 := by omega
            have hx0 : (0 : Int) ≤ (x : Int) := by omega
            have hob : onB ((x : Int), (y : Int)) := by unfold onB; dsimp only; omega
            have hix : bIx ((x : Int), (y : Int)) = y * 10 + x := by unfold bIx; dsimp only; omega
            have hkk : y * 10 + x < 100 := by omega
            have c1 := hbd.out.cell hkk
            have hfc := hfn.out.cell
            have HCT := Lib.hid (show gTo 10 y ++ gRow y (x + 1) = (gTo 10 y ++ gRow y x) ++ [((x : Int), (y : Int))] from by rw [gRow, List.append_assoc])
            have hfl : fil f ((x : Int), (y : Int)) = f (y * 10 + x) := by unfold fil; rw [hix]
            have HFL := Lib.hid hfl
            have HOB := Lib.hid hob
            clear hob hix hfl
            cases hff : f (y * 10 + x) with
            | true =>
              rw [hff] at c1
              have hno : ¬ Lead L ((x : Int), (y : Int)) := fun h => by
                have h1 := (hsn.out _ HOB.out).1 (by rw [HFL.out]; exact hff)
                rcases h1 with h1 | h1
                · exact h.1 h1
                · exact ((lead_iff _ _).1 h).2 h1
              have HM := Lib.hid (show ∀ q, onB q → (fil f q = true ↔ q ∈ L ∨ Seen L (((x + 1 : Nat) : Int), (y : Int)) q) from fun q hq => by
                rw [hsn.out q hq, show ((x + 1 : Nat) : Int) = (x : Int) + 1 from by omega, seen_next_no hno])
              have HZ := Lib.hid (show z = cntL L (gTo 10 y ++ gRow y (x + 1)) from by rw [HCT.out, cntL_no _ hno]; exact hzz.out)
              clear hff hno
              go_wp2
              go_roundw
              case rel => first
                | exact ⟨x + 1, z, f, by omega, by go_num, rfl, by omega, HZ.out, hbd, hfn, HM.out, hw⟩
                | (repeat apply Exists.intro
                   exact ⟨⟨x + 1, z, f, by omega, by go_num, rfl, by omega, HZ.out, hbd, hfn, HM.out, hw⟩, rfl⟩)
              case measure => simp [intOf]; omega
            | false =>
              rw [hff] at c1
              have hlead : Lead L ((x : Int), (y : Int)) := by
                have h9 : ¬ (((x : Int), (y : Int)) ∈ L ∨ Seen L ((x : Int), (y : Int)) ((x : Int), (y : Int))) := fun h => by
                  have := (hsn.out _ HOB.out).2 h
                  rw [HFL.out, hff] at this
                  cases this
                exact (lead_iff _ _).2 ⟨fun h => h9 (.inl h), fun h => h9 (.inr h)⟩
              have HLD := Lib.hid hlead
              have HZ := Lib.hid (show z + 1 = cntL L (gTo 10 y ++ gRow y (x + 1)) from by rw [HCT.out, cntL_yes _ hlead, hzz.out])
              have HLB := Lib.hid (show ∀ q ∈ L, onB q ∧ fil f q = true from fun q hq => by
                have h9 := HI.out q hq
                have hob : onB q := by unfold onB; omega
                exact ⟨hob, (hsn.out q hob).2 (.inl hq)⟩)
              clear hff hlead
              go_wp2_with fail
              refine (iFill L b bf (unf f + 1) f (x : Int) (y : Int) wr (by omega) HLB.out (by omega) (by omega) hbd.out hfn.out).mono ?_
              rintro e w6 ⟨rfl, ⟨f', hfl', hbd'⟩, hbut⟩
              have hbs : b < wr.heap.size := hbd.out.lt
              have HB6 := Lib.hid hbd'
              have HF6 := Lib.hid (hfn.out.but hbd.out hbut hfn.out.lt)
              have HW6 := Lib.hid (hw.out.trans (hbut.below (by omega) (Nat.le_refl _)))
              have HM := Lib.hid (show ∀ q, onB q → (fil f' q = true ↔ q ∈ L ∨ Seen L (((x + 1 : Nat) : Int), (y : Int)) q) from fun q hq => by
                rw [show ((x + 1 : Nat) : Int) = (x : Int) + 1 from by omega]
                exact hfl'.hole HI.out hsn.out HLD.out q hq)
              clear hfl' hbd' hbut hbd hfn hw hsn c1 hfc
              go_wp2
              go_roundw
              case rel => first
                | exact ⟨x + 1, z + 1, f', by omega, by go_num, by go_num, by omega, HZ.out, HB6.out, HF6.out, HM.out, HW6.out⟩
                | (repeat apply Exists.intro
                   exact ⟨⟨x + 1, z + 1, f', by omega, by go_num, by go_num, by omega, HZ.out, HB6.out, HF6.out, HM.out, HW6.out⟩, rfl⟩)
              case measure => simp [intOf]; omega
          · obtain rfl : x = 10 := by omega
            have HM := Lib.hid (show ∀ q, onB q → (fil f q = true ↔ q ∈ L ∨ Seen L (((0 : Nat) : Int), ((y + 1 : Nat) : Int)) q) from fun q hq => by
              rw [hsn.out q hq, show ((y + 1 : Nat) : Int) = (y : Int) + 1 from by omega, seen_row HI.out (w := ((10 : Nat) : Int)) (o := ((0 : Nat) : Int)) (by omega) (by omega) (y : Int) q])
            have HZ := Lib.hid (show z = cntL L (gTo 10 (y + 1)) from hzz.out)
            clear hsn
            go_wp2
            go_roundw
            case rel => exact ⟨y + 1, z, f, by omega, by go_num, rfl, by omega, HZ.out, hbd, hfn, HM.out, hw⟩
            case measure => simp [intOf]; omega
      · obtain rfl : y = 10 := by omega
        have HR := Lib.hid (show (cntL L (gTo 10 10) : Int) = (z : Int) from by rw [hzz.out])
        have HBF := Lib.hid (HB2.out.trans (hw.out.mono (by have := HBB.out; omega)))
        clear hsn
        go_wp2
        go_ret
        exact ⟨by rw [HLL.out, HR.out]; rfl, HBF.out⟩
end

end Go.Proofs.Ythnapikklolgcaa
