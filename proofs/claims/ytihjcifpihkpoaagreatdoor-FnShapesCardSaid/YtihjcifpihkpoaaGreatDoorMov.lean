/-
  Shapes moved to another place, in the model: what the call gives.
-/
import Derived.Test.YtihjcifpihkpoaaGreatDoorCor
namespace Go.Proofs.YtihjcifpihkpoaaGreatDoor
open Go.RowKit

theorem moveC_in {x y : Int} {l : List Cl} (hp : ∀ c ∈ l, inP c = true) (hx : inb x (-7) 7 = true) (hy : inb y (-7) 7 = true) : ∀ c ∈ moveC x y l, InC c := by
  intro c hc
  obtain ⟨d, hd, rfl⟩ := List.mem_map.1 hc
  have := inP_out (hp d hd)
  simp [inb] at hx hy
  unfold InC
  dsimp only
  omega

set_option maxHeartbeats 2000000 in
set_option maxRecDepth 100000 in
theorem sMove (B n cap : Nat) (a : Option Addr) (l : List Cl) (p q : Int) (w : World) (hn : n ≤ 4194304) (hc : CellsAt B w a n l) (hB : B ≤ w.heap.size) :
    Calls Tryz.prog 18 #[.slice a n cap, .int .i64 p, .int .i64 q] w (GivesCB w (moveS p q l) (canMove p q l)) := by
  have H := Lib.hid hc
  clear hc
  by_cases h1 : isShape l = true ∧ inb p (-7) 7 = true ∧ inb q (-7) 7 = true
  · obtain ⟨hs, hp, hq⟩ := h1
    have HS := Lib.hid (isShape_in hs)
    have HI := Lib.hid (moveC_in HS.out hp hq)
    have hpp : -7 ≤ p ∧ p ≤ 7 := by simpa [inb] using hp
    have hqq : -7 ≤ q ∧ q ≤ 7 := by simpa [inb] using hq
    have HC := Lib.hid (show canMove p q l = isShape (moveC p q l) by unfold canMove; rw [hs, hp, hq]; rfl)
    go_enter Tryz.func18, Tryz.ntmps18
    go_wp2_with fail
    refine (sIsShape B n cap a l _ hn (H.out.on ((Below.refl _ _).alloc hB _)) (by simp; omega)).mono ?_
    rintro e w1 ⟨rfl, hb1⟩
    have hbw := ((Below.refl w.heap.size w).alloc (Nat.le_refl _) (.cells #[] 48)).trans (hb1.mono (by simp))
    have hown0 := (World.ownsRow_lit (base := w.heap.size) (e := 48) (size := 2) w #[] 0 (Nat.le_refl _) (by simp [maxLen]) rfl).kept (grow_below hb1 none) (.inr (by intro e; cases e))
    go_wp2_with fail
    refine (sIn _ _ _ _).mono ?_
    rintro e w' ⟨rfl, rfl⟩
    go_wp2_with fail
    refine (sIn _ _ _ _).mono ?_
    rintro e w' ⟨rfl, rfl⟩
    go_wp2
    go_loopw [8, 9] (fun v i wr => ∃ (j g cc : Nat), j ≤ n ∧ i = .int .i64 j ∧ v = .slice (some ⟨g, 0, none⟩) j cc ∧ wr.ownsRow w.heap.size 48 2 (.slice (some ⟨g, 0, none⟩) j cc) j (cvs (moveC p q (l.take j))) ∧ Below w.heap.size w wr) (fun _ i _ => n - (intOf i).toNat)
    case atStart => exact ⟨0, w.heap.size, 0, by omega, rfl, rfl, by simpa [cvs, moveC] using hown0, hbw⟩
    case round =>
      obtain ⟨j, g, cc, hj, rfl, rfl, hown, hb⟩ := hrel
      have hsz := hb.size
      clear hown0
      by_cases hlt : j < n
      · obtain ⟨b1, o1, rfl, hb1', hc1⟩ := H.out.2.2 (by omega)
        obtain ⟨x, y, hxy⟩ : ∃ x y, l.getD j (0, 0) = (x, y) := ⟨_, _, rfl⟩
        have p1 := (hb.cell (p := ⟨b1, o1 + j * 2, none⟩) (Nat.lt_of_lt_of_le hb1' hB)).trans (hc1 j hlt).1
        have p2 := (hb.cell (p := ⟨b1, o1 + j * 2 + 1, none⟩) (Nat.lt_of_lt_of_le hb1' hB)).trans (hc1 j hlt).2
        rw [hxy] at p1 p2
        have hpx := inP_out (HS.out _ (getD_mem (l := l) (j := j) (by rw [H.out.1]; exact hlt)))
        rw [hxy] at hpx
        dsimp only at hpx
        have HX := Lib.hid hxy
        have hk0 : (0 : Int) ≤ (j : Int) := by omega
        have hk1 : (j : Int) < (n : Int) := by omega
        have hbl : b1 < wr.heap.size := by omega
        have hgl := hown.lt g rfl
        have hx1 : IntKind.i64.wrap (x + p) = x + p := IntWalk.i64_in _ (by omega)
        have hy1 : IntKind.i64.wrap (y + q) = y + q := IntWalk.i64_in _ (by omega)
        have hne : g ≠ b1 := by omega
        clear hxy hc1
        go_wp2_with fail
        go_region_held3 (fun w' => w'.cell? ⟨b1, o1 + j * 2, none⟩ = some (.int .i64 x) ∧ w'.cell? ⟨b1, o1 + j * 2 + 1, none⟩ = some (.int .i64 y))
          (first | exact ⟨p1, p2⟩ | go_keep | exact ⟨(hgrow.cell_far ⟨b1, o1 + j * 2, none⟩ (by simp; omega) (by simp; omega)).trans ((World.cell?_alloc_lt _ _ _ hbl).trans p1), (hgrow.cell_far ⟨b1, o1 + j * 2 + 1, none⟩ (by simp; omega) (by simp; omega)).trans ((World.cell?_alloc_lt _ _ _ hbl).trans p2)⟩)
          (first | (refine step_cells rfl _ _ rfl w.heap.size g j cc (moveC p q (l.take j)) ⟨wr.heap.size, 0, none⟩ 1 1 [(x + p, y + q)] rfl rfl ((hown.drew).alloc _) rfl (lies_block (t := 48) (fr := (0, 0)) (heap_alloc_new _ _)) (by omega) (by simp; omega) (wr.heap.size + 1) (by simp) ?_; intro g' cc' w2 hown1 hgrow hat hgb hlt1))
        go_wp2
        clear hx1 hy1
        go_roundw
        case rel => exact ⟨j + 1, g', cc', by omega, by go_num, rfl, by
          have h := hown1
          have e := map_step (fun c => (c.1 + p, c.2 + q)) l j (by rw [H.out.1]; exact hlt)
          rw [HX.out] at e
          unfold moveC at h ⊢
          dsimp only at e
          rw [e] at h
          exact h, (hb.drew.alloc hsz _).grown hgrow (by simp; omega) (fun i hi => by cases hi; exact hgl.1)⟩
        case measure => simp [intOf]; omega
      · obtain rfl : j = n := by omega
        have e : l.take j = l := List.take_of_length_le (by rw [H.out.1]; exact Nat.le_refl _)
        rw [e] at hown
        have hl2 : (moveC p q l).length = j := by unfold moveC; rw [List.length_map, H.out.1]
        have HO := Lib.hid hown
        have HA := Lib.hid (CellsAt.of_own hown HI.out)
        clear hown e
        go_wp2_with fail
        refine (sIsShape wr.heap.size j cc _ (moveC p q l) wr hn HA.out (Nat.le_refl _)).mono ?_
        rintro e w3 ⟨rfl, hb3⟩
        cases hm : isShape (moveC p q l) with
        | true =>
          have HG := Lib.hid (show GivesCB w (moveS p q l) (canMove p q l) (.returned (.tuple #[.slice (some ⟨g, 0, none⟩) j cc, .bool true])) w3 from by
            have e : canMove p q l = true := HC.out.trans hm
            have e2 : moveS p q l = moveC p q l := if_pos e
            rw [e, e2]
            exact ⟨g, cc, by rw [hl2], by rw [hl2]; exact HO.out.kept (grow_below hb3 none) (.inr (by intro e; cases e)), hb.trans (hb3.mono hsz)⟩)
          go_wp2
          go_ret2
          exact HG.out
        | false =>
          have hsz3 := hb3.size
          have HG := Lib.hid (show GivesCB w (moveS p q l) (canMove p q l) (.returned (.tuple #[.slice (some ⟨w3.heap.size, 0, none⟩) 0 0, .bool false])) (w3.alloc (.cells #[] 48)) from by
            have e : canMove p q l = false := HC.out.trans hm
            have e2 : moveS p q l = [] := if_neg (by rw [e]; simp)
            rw [e, e2]
            exact ⟨_, _, rfl, World.ownsRow_lit (base := w.heap.size) (e := 48) (size := 2) w3 #[] 0 (by omega) (by simp [maxLen]) rfl, (hb.trans (hb3.mono hsz)).alloc (by omega) _⟩)
          go_wp2
          go_ret2
          exact HG.out
  · have hno : canMove p q l = false := by
      unfold canMove
      cases e1 : isShape l <;> cases e2 : inb p (-7) 7 <;> cases e3 : inb q (-7) 7 <;> simp_all
    have hn2 : moveS p q l = [] := if_neg (by rw [hno]; simp)
    rw [hno, hn2]
    clear hno hn2
    have H1 := Lib.hid h1
    clear h1
    go_enter Tryz.func18, Tryz.ntmps18
    go_wp2_with fail
    refine (sIsShape B n cap a l _ hn (H.out.on ((Below.refl _ _).alloc hB _)) (by simp; omega)).mono ?_
    rintro e w1 ⟨rfl, hb1⟩
    have hbw := ((Below.refl w.heap.size w).alloc (Nat.le_refl _) (.cells #[] 48)).trans (hb1.mono (by simp))
    have HO := Lib.hid (show GivesCB w [] false (.returned (.tuple #[.slice (some ⟨w.heap.size, 0, none⟩) 0 0, .bool false])) w1 from
      ⟨_, _, rfl, (World.ownsRow_lit (base := w.heap.size) (e := 48) (size := 2) w #[] 0 (Nat.le_refl _) (by simp [maxLen]) rfl).kept (grow_below hb1 none) (.inr (by intro e; cases e)), hbw⟩)
    cases hs : isShape l with
    | false =>
      go_wp2
      go_ret2
      exact HO.out
    | true =>
      go_wp2_with fail
      refine (sIn _ _ _ _).mono ?_
      rintro e w' ⟨rfl, rfl⟩
      cases hp : inb p (-7) 7 with
      | false =>
        go_wp2
        go_ret2
        exact HO.out
      | true =>
        go_wp2_with fail
        refine (sIn _ _ _ _).mono ?_
        rintro e w' ⟨rfl, rfl⟩
        cases hq : inb q (-7) 7 with
        | false =>
          go_wp2
          go_ret2
          exact HO.out
        | true => exact absurd ⟨hs, hp, hq⟩ H1.out

end Go.Proofs.YtihjcifpihkpoaaGreatDoor
