/-
  The cells of a region, in the model and in the program: what each call gives.
-/
import Derived.Test.YtcfioncnpfoccaaGreatDoorSr1
import Derived.Test.YtcfioncnpfoccaaGreatDoorCap
import Derived.Test.YtcfioncnpfoccaaGreatDoorIan
namespace Go.Proofs.YtcfioncnpfoccaaGreatDoor
open Go.RowKit

def cN (N : Nat) (l : List Int) (y x : Nat) : List Cl := (gTo N y ++ gRow (y : Int) x).filter (bt l)
theorem cN_zero (N : Nat) (l : List Int) : cN N l 0 0 = [] := rfl
theorem cN_yes {N : Nat} {l : List Int} {y x : Nat} (h : bt l ((x : Int), (y : Int)) = true) : cN N l y (x + 1) = cN N l y x ++ [((x : Int), (y : Int))] := by
  unfold cN
  rw [gRow, ← List.append_assoc, List.filter_append]
  simp [h]
theorem cN_no {N : Nat} {l : List Int} {y x : Nat} (h : bt l ((x : Int), (y : Int)) = false) : cN N l y (x + 1) = cN N l y x := by
  unfold cN
  rw [gRow, ← List.append_assoc, List.filter_append]
  simp [h]
theorem cN_row (N : Nat) (l : List Int) (y : Nat) : cN N l y N = cN N l (y + 1) 0 := by
  unfold cN
  rw [gTo]
  simp [gRow]
theorem cN_all (N n : Nat) (l : List Int) : cN N l n 0 = cellsB N n l := by
  unfold cN cellsB
  simp [gRow]
theorem cN_len (N : Nat) (l : List Int) (y x : Nat) (hN : N ≤ 6) (hy : y ≤ 6) (hx : x ≤ 6) : (cN N l y x).length ≤ 42 := by
  have h1 := List.length_filter_le (bt l) (gTo N y ++ gRow (y : Int) x)
  rw [List.length_append, gTo_len, gRow_len] at h1
  have := Nat.mul_le_mul hN hy
  unfold cN
  omega
theorem own_lit0 (w : World) (B : Nat) (h : B ≤ w.heap.size) : (w.alloc (.cells #[] 79)).ownsRow B 79 2 (.slice (some ⟨w.heap.size, 0, none⟩) 0 0) 0 (cvs []) := by
  simpa [cvs] using World.ownsRow_lit (base := B) (e := 79) (size := 2) w #[] 0 h (by simp [maxLen]) rfl

set_option maxHeartbeats 4000000 in
set_option maxRecDepth 100000 in
theorem sCells (B n cap : Nat) (a : Option Addr) (W : Int) (l : List Int) (w : World) (hn : n ≤ 4194304) (hc : IntsAt B w a n l) (hB : B ≤ w.heap.size) :
    Calls Tryz.prog 36 #[.agg #[.int .i64 W, .slice a n cap]] w fun e w' => ∃ v, e = .returned v ∧ Own w (cellsR W l) v w' := by
  obtain ⟨i0, hi, hz0, hz1, hz2⟩ := info_parts info_cell
  have H := Lib.hid hc
  have HLN := Lib.hid hc.1
  clear hc
  have hb0 := (Below.refl w.heap.size w).alloc (Nat.le_refl _) (.cells #[.int .i64 W, .slice a n cap] 26)
  have hbox0 := RgAt.new (w := w) W (.slice a n cap) rfl
  have hsz0 : (w.alloc (.cells #[.int .i64 W, .slice a n cap] 26)).heap.size = w.heap.size + 1 := by simp
  cases h : isReg W l with
  | false =>
    have HI := Lib.hid h
    have HO := Lib.hid (cellsR_no h)
    rw [HO.out]
    clear h
    by_cases h0 : 0 < (n : Int)
    · go_enter Tryz.func36, Tryz.ntmps36
      go_wp2
      refine wp_loop_rounds 1 ?_
      rw [rounds_succ]
      have hb1 := hb0.alloc hb0.size (.cells #[] 79)
      have hown := own_lit0 (w.alloc (.cells #[.int .i64 W, .slice a n cap] 26)) w.heap.size (by simp)
      have hbox := hbox0.alloc (.cells #[] 79)
      rw [hsz0] at hown
      generalize (w.alloc (.cells #[.int .i64 W, .slice a n cap] 26)).alloc (.cells #[] 79) = W1 at *
      have c0 := hbox.c0
      have c1 := hbox.c1
      have HB := Lib.hid hb1
      have HOW := Lib.hid hown
      clear hb0 hbox0 hsz0 hb1 hown
      go_wp2_with fail
      refine (sIsReg B n cap a W l _ hn (H.out.on (HB.out.mono hB)) (Nat.le_trans hB HB.out.size)).mono ?_
      rintro e w' ⟨rfl, hb⟩
      rw [HI.out]
      have HO2 := Lib.hid (HOW.out.kept (grow_below hb none) (Classical.em _))
      have HB2 := Lib.hid (HB.out.trans (hb.mono HB.out.size))
      clear hb
      go_wp2
      go_ret
      exact ⟨_, rfl, HO2.out, HB2.out⟩
    · go_enter Tryz.func36, Tryz.ntmps36
      go_wp2
      refine wp_loop_rounds 1 ?_
      rw [rounds_succ]
      have hb1 := hb0.alloc hb0.size (.cells #[] 79)
      have hown := own_lit0 (w.alloc (.cells #[.int .i64 W, .slice a n cap] 26)) w.heap.size (by simp)
      have hbox := hbox0.alloc (.cells #[] 79)
      rw [hsz0] at hown
      generalize (w.alloc (.cells #[.int .i64 W, .slice a n cap] 26)).alloc (.cells #[] 79) = W1 at *
      have c0 := hbox.c0
      have c1 := hbox.c1
      have HB := Lib.hid hb1
      have HOW := Lib.hid hown
      clear hb0 hbox0 hsz0 hb1 hown
      go_wp2
      go_ret
      exact ⟨_, rfl, HOW.out, HB.out⟩
  | true =>
    obtain ⟨N, rfl, hr⟩ := isReg_out h
    have hln := HLN.out
    rw [hln] at hr
    have HR := Lib.hid hr
    have HI := Lib.hid h
    have HO := Lib.hid (cellsR_yes hr)
    rw [HO.out]
    have hN6 := hr.w6
    have hn6 := hr.h6
    clear h hr hln
    go_enter Tryz.func36, Tryz.ntmps36
    go_wp2
    have hb1 := hb0.alloc hb0.size (.cells #[] 79)
    have hown := own_lit0 (w.alloc (.cells #[.int .i64 N, .slice a n cap] 26)) (w.heap.size + 1) (by simp)
    have hbox := hbox0.alloc (.cells #[] 79)
    rw [hsz0] at hown
    have hsz1 : ((w.alloc (.cells #[.int .i64 N, .slice a n cap] 26)).alloc (.cells #[] 79)).heap.size = w.heap.size + 1 + 1 := by simp
    generalize (w.alloc (.cells #[.int .i64 N, .slice a n cap] 26)).alloc (.cells #[] 79) = W1 at *
    have HB := Lib.hid hb1
    have HOW := Lib.hid hown
    clear hb0 hbox0 hsz0 hb1 hown
    go_loopw [3, 4] (fun v i wr => ∃ y m : Nat, y ≤ n ∧ i = .int .i64 y ∧ Hid (m = (cN N l y 0).length) ∧ Hid (wr.ownsRow (w.heap.size + 1) 79 2 v m (cvs (cN N l y 0))) ∧ Below (w.heap.size + 1) W1 wr) (fun _ i _ => n - (intOf i).toNat)
    case atStart => exact ⟨0, 0, by omega, rfl, rfl, HOW.out, Below.refl _ _⟩
    case round =>
      obtain ⟨y, m, hy, rfl, hmm, hown, hb⟩ := hrel
      have hsz := hb.size
      have hbx := hbox.on hb (by omega)
      have c0 := hbx.c0
      have c1 := hbx.c1
      by_cases hlt : y < n
      · have hy1 : (y : Int) < (n : Int) := by omega
        have hbw := HB.out.trans (hb.mono (by omega))
        go_wp2_with fail
        refine (sIsReg B n cap a N l wr hn (H.out.on (hbw.mono hB)) (Nat.le_trans hB hbw.size)).mono ?_
        rintro e w2 ⟨rfl, hb2⟩
        rw [HI.out]
        have hown2 := Lib.hid (hown.out.kept (grow_below hb2 none) (Classical.em _))
        have hb2' := hb.trans (hb2.mono (by omega))
        have hsz2 := hb2'.size
        clear hown hb hb2 hbx c0 c1 hbw hsz
        go_wp2
        go_loopw [3, 5] (fun v i wr => ∃ x m : Nat, x ≤ N ∧ i = .int .i64 x ∧ Hid (m = (cN N l y x).length) ∧ Hid (wr.ownsRow (w.heap.size + 1) 79 2 v m (cvs (cN N l y x))) ∧ Below (w.heap.size + 1) W1 wr) (fun _ i _ => N - (intOf i).toNat)
        case atStart => exact ⟨0, m, by omega, rfl, hmm, hown2, hb2'⟩
        case round =>
          clear hown2 hb2' hsz2 hmm
          obtain ⟨x, m, hx, rfl, hmm, hown, hb⟩ := hrel
          have hsz := hb.size
          have hbx := hbox.on hb (by omega)
          have c0 := hbx.c0
          have c1 := hbx.c1
          by_cases hxt : x < N
          · have hx1 : (x : Int) < (N : Int) := by omega
            have hbw := HB.out.trans (hb.mono (by omega))
            have hlen := cN_len N l y x hN6 (by omega) (by omega)
            rw [← hmm.out] at hlen
            go_wp2_with fail
            refine (sL6In B n cap N a l x y wr HR.out (H.out.on (hbw.mono hB)) (Nat.le_trans hB hbw.size)).mono ?_
            rintro e w3 ⟨rfl, hb3⟩
            have hown3 := hown.out.kept (grow_below hb3 none) (Classical.em _)
            have hbb3 := hb.trans (hb3.mono (by omega))
            clear hown hb hb3 hbx c0 c1 hbw
            have hszw := hbb3.size
            cases hbt : bt l ((x : Int), (y : Int)) with
            | true =>
              have hnx := cN_yes (N := N) hbt
              have HM := Lib.hid (show m + 1 = (cN N l y (x + 1)).length from by rw [hnx, List.length_append, ← hmm.out]; rfl)
              have HN := Lib.hid hnx
              clear hnx hbt
              go_wp2_with (first | (at_builtin; refine wpList_append_own _ rfl _ _ 41 rfl (w.heap.size + 1) 79 i0 (.agg #[.int .i64 0, .int .i64 0]) 2 16 Tryz.underlying41 hi hz0 hz1 hz2 rfl (by decide) _ _ _ rfl (hown3.alloc _) ⟨w3.heap.size, 0, none⟩ 1 1 (cvs [((x : Int), (y : Int))]) rfl rfl (lies_block (t := 79) (fr := (0, 0)) (heap_alloc_new _ _)) (cvs_oneCell _) ?c3 ?c4 ?c5 ?_) | go_in)
              case c3 => unfold maxLen; omega
              case c4 => omega
              case c5 => simp; omega
              intro v' w4 hown4 hgrow _
              rw [← cvs_append, ← HN.out] at hown4
              have HB4 := Lib.hid ((hbb3.alloc (show w.heap.size + 1 ≤ w3.heap.size by omega) (.cells #[.int .i64 x, .int .i64 y] 79)).grown hgrow (by simp; omega) (fun k hk => (hown3.lt k hk).1))
              have HO4 := Lib.hid hown4
              clear hown4 hgrow hown3 hbb3
              go_wp2
              go_roundw
              case rel => first
                | exact ⟨x + 1, m + 1, by omega, by go_num, HM.out, HO4.out, HB4.out⟩
                | (repeat apply Exists.intro
                   exact ⟨⟨x + 1, m + 1, by omega, by go_num, HM.out, HO4.out, HB4.out⟩, rfl⟩)
              case measure => simp [intOf]; omega
            | false =>
              have hnx := cN_no (N := N) hbt
              have HM := Lib.hid (show m = (cN N l y (x + 1)).length from by rw [hnx]; exact hmm.out)
              have HO4 := Lib.hid (show w3.ownsRow (w.heap.size + 1) 79 2 _ m (cvs (cN N l y (x + 1))) from by rw [hnx]; exact hown3)
              have HB4 := Lib.hid hbb3
              clear hnx hown3 hbb3 hbt
              go_wp2
              go_roundw
              case rel => exact ⟨x + 1, m, by omega, by go_num, HM.out, HO4.out, HB4.out⟩
              case measure => simp [intOf]; omega
          · obtain rfl : x = N := by omega
            have HM := Lib.hid (show m = (cN x l (y + 1) 0).length from by rw [← cN_row]; exact hmm.out)
            have HO4 := Lib.hid (show wr.ownsRow (w.heap.size + 1) 79 2 _ m (cvs (cN x l (y + 1) 0)) from by rw [← cN_row]; exact hown.out)
            go_wp2
            go_roundw
            case rel => exact ⟨y + 1, m, by omega, by go_num, HM.out, HO4.out, hb⟩
            case measure => simp [intOf]; omega
      · obtain rfl : y = n := by omega
        have hall := cN_all N y l
        have HM := Lib.hid (show m = (cellsB N y l).length from by rw [← hall]; exact hmm.out)
        have HO4 := Lib.hid (show wr.ownsRow w.heap.size 79 2 _ (cellsB N y l).length (cvs (cellsB N y l)) from by rw [← HM.out, ← hall]; exact own_below hown.out (by omega))
        have HBF := Lib.hid (HB.out.trans (hb.mono (by omega)))
        clear hall
        go_wp2
        go_ret
        exact ⟨_, rfl, HO4.out, HBF.out⟩

set_option maxHeartbeats 4000000 in
set_option maxRecDepth 100000 in
theorem iCells (B n cap : Nat) (a : Option Addr) (W : Int) (l : List Int) (w : World) (hn : n ≤ 4194304) (hc : IntsAt B w a n l) (hB : B ≤ w.heap.size) :
    Calls Tryz.prog 35 #[.agg #[.int .i64 W, .slice a n cap]] w fun e w' => ∃ v, e = .returned v ∧ Own w (cellsR W l) v w' := by
  obtain ⟨i0, hi, hz0, hz1, hz2⟩ := info_parts info_cell
  have H := Lib.hid hc
  have HLN := Lib.hid hc.1
  clear hc
  have hb0 := (Below.refl w.heap.size w).alloc (Nat.le_refl _) (.cells #[.int .i64 W, .slice a n cap] 26)
  have hbox0 := RgAt.new (w := w) W (.slice a n cap) rfl
  have hsz0 : (w.alloc (.cells #[.int .i64 W, .slice a n cap] 26)).heap.size = w.heap.size + 1 := by simp
  cases h : isReg W l with
  | false =>
    have HI := Lib.hid h
    have HO := Lib.hid (cellsR_no h)
    rw [HO.out]
    clear h
    go_enter Tryz.func35, Tryz.ntmps35
    go_wp2_with fail
    refine (iIsReg B n cap a W l _ hn (H.out.on (hb0.mono hB)) (Nat.le_trans hB hb0.size)).mono ?_
    rintro e w' ⟨rfl, hb⟩
    rw [HI.out]
    go_wp2
    go_ret
    exact ⟨_, rfl, own_nil _ _, hb0.trans (hb.mono hb0.size)⟩
  | true =>
    obtain ⟨N, rfl, hr⟩ := isReg_out h
    have hln := HLN.out
    rw [hln] at hr
    have HR := Lib.hid hr
    have HI := Lib.hid h
    have HY := Lib.hid (fun x y => cellB_yes h x y)
    have HO := Lib.hid (cellsR_yes hr)
    rw [HO.out]
    have hN6 := hr.w6
    have hn6 := hr.h6
    clear h hr hln
    go_enter Tryz.func35, Tryz.ntmps35
    go_wp2_with fail
    refine (iIsReg B n cap a N l _ hn (H.out.on (hb0.mono hB)) (Nat.le_trans hB hb0.size)).mono ?_
    rintro e W1 ⟨rfl, hb⟩
    rw [HI.out]
    have HB := Lib.hid (hb0.trans (hb.mono hb0.size))
    have hbox := hbox0.on hb hbox0.lt
    have hsz1 := hb.size
    rw [hsz0] at hsz1
    have c1 := hbox.c1
    clear hb hb0 hbox0 hsz0
    go_wp2
    clear c1
    go_loopw [3, 12] (fun v i wr => ∃ y m : Nat, y ≤ n ∧ i = .int .i64 y ∧ Hid (m = (cN N l y 0).length) ∧ Hid (wr.ownsRow (w.heap.size + 1) 79 2 v m (cvs (cN N l y 0))) ∧ Below (w.heap.size + 1) W1 wr) (fun _ i _ => n - (intOf i).toNat)
    case atStart => exact ⟨0, 0, by omega, rfl, rfl, own_nil _ _, Below.refl _ _⟩
    case round =>
      obtain ⟨y, m, hy, rfl, hmm, hown, hb⟩ := hrel
      have hsz := hb.size
      have hbx := hbox.on hb (by omega)
      have c0 := hbx.c0
      by_cases hlt : y < n
      · have hy1 : (y : Int) < (n : Int) := by omega
        go_wp2
        go_loopw [3, 17] (fun v i wr => ∃ x m : Nat, x ≤ N ∧ i = .int .i64 x ∧ Hid (m = (cN N l y x).length) ∧ Hid (wr.ownsRow (w.heap.size + 1) 79 2 v m (cvs (cN N l y x))) ∧ Below (w.heap.size + 1) W1 wr) (fun _ i _ => N - (intOf i).toNat)
        case atStart => exact ⟨0, m, by omega, rfl, hmm, hown, hb⟩
        case round =>
          clear hown hb hsz hmm hbx c0
          obtain ⟨x, m, hx, rfl, hmm, hown, hb⟩ := hrel
          have hsz := hb.size
          have hbx := hbox.on hb (by omega)
          have c0 := hbx.c0
          have c1 := hbx.c1
          by_cases hxt : x < N
          · have hx1 : (x : Int) < (N : Int) := by omega
            have hbw := HB.out.trans (hb.mono (by omega))
            have hlen := cN_len N l y x hN6 (by omega) (by omega)
            rw [← hmm.out] at hlen
            go_wp2_with fail
            refine (iInReg B n cap a N l x y wr hn (H.out.on (hbw.mono hB)) (Nat.le_trans hB hbw.size)).mono ?_
            rintro e w3 ⟨rfl, hb3⟩
            rw [HY.out]
            have hown3 := hown.out.kept (grow_below hb3 none) (Classical.em _)
            have hbb3 := hb.trans (hb3.mono (by omega))
            clear hown hb hb3 hbx c0 c1 hbw
            have hszw := hbb3.size
            cases hbt : bt l ((x : Int), (y : Int)) with
            | true =>
              have hnx := cN_yes (N := N) hbt
              have HM := Lib.hid (show m + 1 = (cN N l y (x + 1)).length from by rw [hnx, List.length_append, ← hmm.out]; rfl)
              have HN := Lib.hid hnx
              clear hnx hbt
              go_wp2_with (first | (at_builtin; refine wpList_append_own _ rfl _ _ 41 rfl (w.heap.size + 1) 79 i0 (.agg #[.int .i64 0, .int .i64 0]) 2 16 Tryz.underlying41 hi hz0 hz1 hz2 rfl (by decide) _ _ _ rfl (hown3.alloc _) ⟨w3.heap.size, 0, none⟩ 1 1 (cvs [((x : Int), (y : Int))]) rfl rfl (lies_block (t := 79) (fr := (0, 0)) (heap_alloc_new _ _)) (cvs_oneCell _) ?c3 ?c4 ?c5 ?_) | go_in)
              case c3 => unfold maxLen; omega
              case c4 => omega
              case c5 => simp; omega
              intro v' w4 hown4 hgrow _
              rw [← cvs_append, ← HN.out] at hown4
              have HB4 := Lib.hid ((hbb3.alloc (show w.heap.size + 1 ≤ w3.heap.size by omega) (.cells #[.int .i64 x, .int .i64 y] 79)).grown hgrow (by simp; omega) (fun k hk => (hown3.lt k hk).1))
              have HO4 := Lib.hid hown4
              clear hown4 hgrow hown3 hbb3
              go_wp2
              go_roundw
              case rel => first
                | exact ⟨x + 1, m + 1, by omega, by go_num, HM.out, HO4.out, HB4.out⟩
                | (repeat apply Exists.intro
                   exact ⟨⟨x + 1, m + 1, by omega, by go_num, HM.out, HO4.out, HB4.out⟩, rfl⟩)
              case measure => simp [intOf]; omega
            | false =>
              have hnx := cN_no (N := N) hbt
              have HM := Lib.hid (show m = (cN N l y (x + 1)).length from by rw [hnx]; exact hmm.out)
              have HO4 := Lib.hid (show w3.ownsRow (w.heap.size + 1) 79 2 _ m (cvs (cN N l y (x + 1))) from by rw [hnx]; exact hown3)
              have HB4 := Lib.hid hbb3
              clear hnx hown3 hbb3 hbt
              go_wp2
              go_roundw
              case rel => exact ⟨x + 1, m, by omega, by go_num, HM.out, HO4.out, HB4.out⟩
              case measure => simp [intOf]; omega
          · obtain rfl : x = N := by omega
            have HM := Lib.hid (show m = (cN x l (y + 1) 0).length from by rw [← cN_row]; exact hmm.out)
            have HO4 := Lib.hid (show wr.ownsRow (w.heap.size + 1) 79 2 _ m (cvs (cN x l (y + 1) 0)) from by rw [← cN_row]; exact hown.out)
            go_wp2
            go_roundw
            case rel => exact ⟨y + 1, m, by omega, by go_num, HM.out, HO4.out, hb⟩
            case measure => simp [intOf]; omega
      · obtain rfl : y = n := by omega
        have hall := cN_all N y l
        have HM := Lib.hid (show m = (cellsB N y l).length from by rw [← hall]; exact hmm.out)
        have HO4 := Lib.hid (show wr.ownsRow w.heap.size 79 2 _ (cellsB N y l).length (cvs (cellsB N y l)) from by rw [← HM.out, ← hall]; exact own_below hown.out (by omega))
        have HBF := Lib.hid (HB.out.trans (hb.mono (by omega)))
        clear hall
        go_wp2
        go_ret
        exact ⟨_, rfl, HO4.out, HBF.out⟩

end Go.Proofs.YtcfioncnpfoccaaGreatDoor
