/-
  Cells put into order, in the model: what the call gives.
-/
import Derived.Test.YtkcclhnligajeaaGreatDoorVad
import Derived.Test.YtkcclhnligajeaaGreatDoorVac
namespace Go.Proofs.YtkcclhnligajeaaGreatDoor
open Go.RowKit

theorem posOf_step (x : Cl) (o : List Cl) (k : Nat) (h : bef x (o.getD k (0, 0)) = true) : posOf x o (k + 1) = posOf x o k := if_pos h
theorem posOf_stop (x : Cl) (o : List Cl) (k : Nat) (h : bef x (o.getD k (0, 0)) = false) : posOf x o (k + 1) = k + 1 := if_neg (by rw [h]; simp)
theorem insU_yes {o : List Cl} {x : Cl} {k : Nat} (hk : posOf x o o.length = k) (h : 0 < k ∧ o.getD (k - 1) (0, 0) = x) : insU o x = o := by unfold insU; rw [hk, if_pos h]
theorem insU_no {o : List Cl} {x : Cl} {k : Nat} (hk : posOf x o o.length = k) (h : ¬ (0 < k ∧ o.getD (k - 1) (0, 0) = x)) : insU o x = o.take k ++ [x] ++ o.drop k := by unfold insU; rw [hk, if_neg h]
theorem sortU_in {l : List Cl} (h : ∀ c ∈ l, InC c) : ∀ c ∈ sortU l, InC c := fun c hc => h c ((sortU_mem l c).1 hc)

theorem own_cap {w : World} {B n g cap : Nat} {xs : List Value} (h : w.ownsRow B 126 2 (.slice (some ⟨g, 0, none⟩) n cap) n xs) : n ≤ cap := by
  rcases h.2 with ⟨e, _⟩ | ⟨g', cap', cur, e, _, _, h1, _⟩
  · cases e
  · injection e with _ _ e3
    omega
theorem new_at {w : World} {N : Nat} (o : Obj) (h : w.heap.size = N) : (w.alloc o).heap[N]? = some o := by subst h; exact heap_alloc_new _ _
theorem own_lit {w : World} {B N : Nat} (h : w.heap.size = N) (hB : B ≤ N) : (w.alloc (.cells #[] 126)).ownsRow B 126 2 (.slice (some ⟨N, 0, none⟩) 0 0) 0 (cvs []) := by subst h; exact World.ownsRow_lit (base := B) (e := 126) (size := 2) w #[] 0 hB (by simp [maxLen]) rfl
/-- What a region that makes blocks of its own keeps: all that lay there. -/
def Held (WW : World) (w' : World) : Prop := Below WW.heap.size WW w'
theorem keepS {WW w' : World} {b off : Nat} {x y : Int} (hlt : b < WW.heap.size) (e1 : WW.cell? ⟨b, off, none⟩ = some (.int .i64 x)) (e2 : WW.cell? ⟨b, off + 1, none⟩ = some (.int .i64 y)) (hb : Below WW.heap.size WW w') :
    w'.cell? ⟨b, off, none⟩ = some (.int .i64 x) ∧ w'.cell? ⟨b, off + 1, none⟩ = some (.int .i64 y) ∧ Held WW w' := ⟨(hb.cell hlt).trans e1, (hb.cell hlt).trans e2, hb⟩

set_option maxHeartbeats 4000000 in
set_option maxRecDepth 100000 in
theorem sSort (B n cap : Nat) (a : Option Addr) (l : List Cl) (w : World) (hn : n ≤ 1048576) (hc : CellsAt B w a n l) (hB : B ≤ w.heap.size) :
    Calls Tryz.prog 156 #[.slice a n cap] w (GivesC w (sortU l)) := by
  have H := Lib.hid hc
  have HIN := Lib.hid (sortU_in hc.2.1)
  clear hc
  go_enter Tryz.func156, Tryz.ntmps156
  go_wp2
  go_loopw [3, 4] (fun v i wr => ∃ (k g cc m : Nat), k ≤ n ∧ i = .int .i64 k ∧ v = .slice (some ⟨g, 0, none⟩) m cc ∧ m ≤ k ∧ Hid (wr.ownsRow w.heap.size 126 2 (.slice (some ⟨g, 0, none⟩) m cc) m (cvs (sortU (l.take k)))) ∧ Below w.heap.size w wr) (fun _ i _ => n - (intOf i).toNat)
  case atStart => exact ⟨0, w.heap.size, 0, 0, by omega, rfl, rfl, Nat.le_refl _, by simpa [Hid, cvs, sortU] using World.ownsRow_lit (base := w.heap.size) (e := 126) (size := 2) w #[] 0 (Nat.le_refl _) (by simp [maxLen]) rfl, (Below.refl _ _).alloc (Nat.le_refl _) _⟩
  case round =>
    obtain ⟨k, g, cc, m, hk, rfl, rfl, hmk, hown, hb⟩ := hrel
    obtain ⟨wo, rfl⟩ : ∃ wo, wo = wr := ⟨wr, rfl⟩
    have hsz := hb.size
    by_cases hlt : k < n
    · obtain ⟨b1, o1, rfl, hb1, hc1⟩ := H.out.2.2 (by omega)
      obtain ⟨x, y, hxy⟩ : ∃ x y, l.getD k (0, 0) = (x, y) := ⟨_, _, rfl⟩
      have hck := hc1 k hlt
      rw [hxy] at hck
      have hnext := sortU_take l k (by rw [H.out.1]; exact hlt)
      rw [hxy] at hnext
      have HIO := Lib.hid (show ∀ c ∈ sortU (l.take k), InC c from sortU_in (fun c hc => H.out.2.1 c (List.mem_of_mem_take hc)))
      generalize ho : sortU (l.take k) = o at hown hnext HIO
      have hlo : o.length = m := by have := hown.out.1; rw [cvs_length] at this; omega
      have HN := Lib.hid hnext
      have HCK := Lib.hid hck
      have HLO := Lib.hid hlo
      have hk0 : (0 : Int) ≤ (k : Int) := by omega
      have hk1 : (k : Int) < (n : Int) := by omega
      have hbl : b1 < w.heap.size := by omega
      have HB := Lib.hid hb
      have hgl := hown.out.lt g rfl
      clear hxy hc1 hck hnext ho hlo hb
      go_wp2
      go_loopw [5] (fun q wi => ∃ j : Nat, j ≤ m ∧ q = .int .i64 j ∧ Hid (posOf (x, y) o m = posOf (x, y) o j) ∧ Below wo.heap.size wo wi) (fun q _ => (intOf q).toNat)
      case atStart => exact ⟨m, Nat.le_refl _, rfl, rfl, Below.refl _ _⟩
      case round =>
        obtain ⟨j, hj, rfl, hpos, hbi⟩ := hrel
        have hszi := hbi.size
        have p1 := (hbi.cell (p := ⟨b1, o1 + k * 2, none⟩) (Nat.lt_of_lt_of_le hbl hsz)).trans ((HB.out.cell (p := ⟨b1, o1 + k * 2, none⟩) hbl).trans HCK.out.1)
        have p2 := (hbi.cell (p := ⟨b1, o1 + k * 2 + 1, none⟩) (Nat.lt_of_lt_of_le hbl hsz)).trans ((HB.out.cell (p := ⟨b1, o1 + k * 2 + 1, none⟩) hbl).trans HCK.out.2)
        have hblw : b1 < wr.heap.size := by omega
        have hglw : g < wr.heap.size := by omega
        by_cases hj0 : 0 < j
        · obtain ⟨u, v, huv⟩ : ∃ u v, o.getD (j - 1) (0, 0) = (u, v) := ⟨_, _, rfl⟩
          have hcv := cvs_get o (j - 1) (by rw [HLO.out]; omega)
          rw [huv] at hcv
          have g1 := hown.out.cellAt ((j - 1) * 2) (by omega)
          have g2 := hown.out.cellAt ((j - 1) * 2 + 1) (by omega)
          rw [hcv.1] at g1
          rw [hcv.2] at g2
          have q1 : wr.cell? ⟨g, (j - 1) * 2, none⟩ = some (.int .i64 u) := (hbi.cell (p := ⟨g, (j - 1) * 2, none⟩) hgl.2).trans g1
          have q2 : wr.cell? ⟨g, (j - 1) * 2 + 1, none⟩ = some (.int .i64 v) := (hbi.cell (p := ⟨g, (j - 1) * 2 + 1, none⟩) hgl.2).trans g2
          have HU := Lib.hid huv
          have hj1 : (1 : Int) ≤ (j : Int) := by omega
          have hj2 : (j : Int) - 1 < (m : Int) := by omega
          have hj3 : (0 : Int) ≤ (j : Int) - 1 := by omega
          have hj4 : ((j : Int) - 1).toNat = j - 1 := by omega
          have hjw : IntKind.i64.wrap ((j : Int) - 1) = (j : Int) - 1 := IntWalk.i64_in _ (by omega)
          clear huv hcv g1 g2
          go_wp2_with fail
          go_region_held3 (fun w' => w'.cell? ⟨b1, o1 + k * 2, none⟩ = some (.int .i64 x) ∧ w'.cell? ⟨b1, o1 + k * 2 + 1, none⟩ = some (.int .i64 y) ∧ w'.cell? ⟨g, (j - 1) * 2, none⟩ = some (.int .i64 u) ∧ w'.cell? ⟨g, (j - 1) * 2 + 1, none⟩ = some (.int .i64 v))
            (first | exact ⟨p1, p2, q1, q2⟩ | exact ⟨(hbe.cell (p := ⟨b1, o1 + k * 2, none⟩) hblw).trans p1, (hbe.cell (p := ⟨b1, o1 + k * 2 + 1, none⟩) hblw).trans p2, (hbe.cell (p := ⟨g, (j - 1) * 2, none⟩) hglw).trans q1, (hbe.cell (p := ⟨g, (j - 1) * 2 + 1, none⟩) hglw).trans q2⟩)
            (first | (go_at_call 115; refine (sBefore _ _ _ _ _).mono ?_; rintro e w' ⟨rfl, hbe⟩))
          all_goals go_wp2
          all_goals
            have hbw := hbi.drew.trans (hbe.mono hszi)
            have HBW := Lib.hid hbw
          · have hcase : bef (x, y) (u, v) = true := by assumption
            have hpos2 : posOf (x, y) o m = posOf (x, y) o (j - 1) := by
              have e := posOf_step (x, y) o (j - 1) (by rw [HU.out]; exact hcase)
              rw [show j - 1 + 1 = j by omega] at e
              rw [hpos.out, e]
            have HP2 := Lib.hid hpos2
            clear hpos2 hbw
            go_roundw
            case rel => exact ⟨j - 1, by omega, by congr 1; omega, HP2.out, HBW.out⟩
            case measure => simp [intOf]; omega
          · have hcase : bef (x, y) (u, v) = false := by assumption
            have hpos2 : posOf (x, y) o o.length = j := by
              have e := posOf_stop (x, y) o (j - 1) (by rw [HU.out]; exact hcase)
              rw [show j - 1 + 1 = j by omega] at e
              rw [HLO.out, hpos.out, e]
            have HP2 := Lib.hid hpos2
            have r1 := (hbe.cell (p := ⟨b1, o1 + k * 2, none⟩) hblw).trans p1
            have r2 := (hbe.cell (p := ⟨b1, o1 + k * 2 + 1, none⟩) hblw).trans p2
            have r3 := (hbe.cell (p := ⟨g, (j - 1) * 2, none⟩) hglw).trans q1
            have r4 := (hbe.cell (p := ⟨g, (j - 1) * 2 + 1, none⟩) hglw).trans q2
            have hE := eql_cell u v x y
            have hG := cell_guard
            clear hpos2 hbw hbe p1 p2 q1 q2 hcase
            have hownB := hown.out.kept (grow_below (HBW.out) none) (.inr (by intro e; cases e))
            go_wp2_with fail
            go_quiet (fail)
            go_wp2
            · go_roundw
              case rel =>
                have hcs : sameC (u, v) (x, y) = true := by assumption
                have he : insU o (x, y) = o := insU_yes HP2.out ⟨hj0, by rw [HU.out]; simpa [sameC] using hcs⟩
                exact ⟨k + 1, g, cc, m, by omega, by go_num, rfl, by omega, by rw [HN.out, he]; exact hownB, below_drewn (HB.out.trans (HBW.out.mono hsz)) nq⟩
              case measure => simp [intOf]; omega
            · have hcs : sameC (u, v) (x, y) = false := by assumption
              have he : insU o (x, y) = o.take j ++ [(x, y)] ++ o.drop j := insU_no HP2.out (by rw [HU.out]; rintro ⟨_, h9⟩; unfold sameC at hcs; rw [decide_eq_false_iff_not] at hcs; exact hcs h9)
              have HE := Lib.hid he
              have hbW : Below w.heap.size w (w'.drewN nq) := below_drewn (HB.out.trans (HBW.out.mono hsz)) nq
              have hownW : (w'.drewN nq).ownsRow w.heap.size 126 2 (.slice (some ⟨g, 0, none⟩) m cc) m (cvs o) := hownB
              have s1 : (w'.drewN nq).cell? ⟨b1, o1 + k * 2, none⟩ = some (.int .i64 x) := r1
              have s2 : (w'.drewN nq).cell? ⟨b1, o1 + k * 2 + 1, none⟩ = some (.int .i64 y) := r2
              clear hE hG hcs he hownB r1 r2 r3 r4 hpos hbi
              generalize w'.drewN nq = WW at *
              have hbW1 : b1 < WW.heap.size := by have := hbW.size; omega
              have hgW := (hownW.lt g rfl)
              have HS := Lib.hid (show _ ∧ _ from ⟨s1, s2⟩)
              have HBWW := Lib.hid hbW
              have HOWN := Lib.hid hownW
              have hjm : (j : Int) ≤ (m : Int) := by omega
              have hj00 : (0 : Int) ≤ (j : Int) := by omega
              have hcapm := own_cap HOWN.out
              have hjc : (j : Int) ≤ (cc : Int) := by omega
              have hmc : (m : Int) ≤ (cc : Int) := by omega
              have hca := CellsAt.of_own HOWN.out HIO.out
              have HL1 := Lib.hid (show Lies WW ⟨g, 0, none⟩ (o.take j) from by have h9 := CellsAt.lies (k := 0) (m := j) hca (by omega); simpa using h9)
              have hl2 : Lies WW ⟨g, j * 2, none⟩ (o.drop j) := by have h9 := CellsAt.lies (k := j) (m := m - j) hca (by omega); rw [List.take_of_length_le (by rw [List.length_drop, HLO.out]; exact Nat.le_refl _)] at h9; simpa using h9
              obtain ⟨bo, haj, hl3⟩ : ∃ bo : Nat, (if cc = j then some (⟨g, 0, none⟩ : Addr) else some ⟨g, j * 2, none⟩) = some ⟨g, bo, none⟩ ∧ Lies WW ⟨g, bo, none⟩ (o.drop j) := by
                by_cases hcj : cc = j
                · refine ⟨0, if_pos hcj, ?_⟩
                  rw [List.drop_of_length_le (by rw [HLO.out]; omega)]
                  intro q u9 hq
                  simp [cvs] at hq
                · exact ⟨j * 2, if_neg hcj, hl2⟩
              have HAJ := Lib.hid haj
              have HL2 := Lib.hid hl3
              clear haj hl2 hl3
              clear s1 s2 hbW hownW hca
              go_region_held3 (fun w' => w'.cell? ⟨b1, o1 + k * 2, none⟩ = some (.int .i64 x) ∧ w'.cell? ⟨b1, o1 + k * 2 + 1, none⟩ = some (.int .i64 y) ∧ Held WW w')
                (first | (refine keepS hbW1 HS.out.1 HS.out.2 ?_; repeat' (first | exact Below.refl _ _ | exact hbS3 | exact hbS2 | exact hbS1 | refine Below.drew ?_ | refine Below.alloc ?_ ?_ _ | exact Nat.le_refl _ | exact hbS3.size | exact hbS2.size | exact hbS1.size | (simp; omega) | (simp; done))))
                (first | (refine step_cells rfl _ _ rfl WW.heap.size _ 0 0 [] ⟨g, 0, none⟩ j cc (o.take j) rfl rfl ?a1 (by rw [List.length_take, HLO.out]; omega) ?a3 (by omega) ?a5 _ rfl ?_; (case a1 => (first | exact own_lit (w := WW) rfl (Nat.le_refl _) | exact (own_lit (w := WW) rfl (Nat.le_refl _)).alloc _ | exact own_lit (w := WW.alloc _) (by simp) (by simp))); (case a3 => (refine Lies.on HL1.out ?_ hgW.2; (repeat' (first | exact Below.refl _ _ | exact hbS2 | exact hbS1 | refine Below.drew ?_ | refine Below.alloc ?_ ?_ _ | exact Nat.le_refl _ | exact hbS2.size | exact hbS1.size | (have h9 := hbS1.size; simp; omega) | (simp; omega) | (simp; done))))); (case a5 => (first | (simp; done) | (simp; omega))); intro g1 c1 w1 hown1 hgrow1 hat1 hgb1 hlt1; (simp only [Nat.zero_add, List.nil_append] at hown1); have hbS1 : Below WW.heap.size WW w1 := by (refine Below.grown (w := _) ?_ hgrow1 ?_ (fun k hk => by cases hk; first | exact Nat.le_refl _ | (simp; done) | (simp; omega)) <;> (repeat' (first | exact Below.refl _ _ | exact hbS2 | exact hbS1 | refine Below.drew ?_ | refine Below.alloc ?_ ?_ _ | exact Nat.le_refl _ | exact hbS2.size | exact hbS1.size | (have h9 := hbS1.size; simp; omega) | (simp; omega) | (simp; done))))) | (refine step_cells rfl _ _ rfl WW.heap.size g1 _ c1 (o.take j) _ 1 1 [(x, y)] rfl rfl ?a1 rfl ?a3 ?a4 ?a5 _ rfl ?_; (case a1 => ((try simp only [Nat.zero_add]); first | exact hown1 | exact hown1.alloc _)); (case a4 => omega); (case a3 => (refine lies_block (t := 126) (fr := (0, 0)) ?_; first | exact heap_alloc_new _ _ | (refine (hgrow1.block _ ?_ ?_).trans ?_ <;> first | (simp; done) | (simp; omega) | exact new_at (w := WW.alloc _) _ (by simp) | exact (Below.heap_alloc (WW.alloc _) _ _ (by simp)).trans (new_at _ rfl)))); (case a5 => (first | exact hbS1.size | (simp; omega) | (simp; have := hbS1.size; omega))); intro g2 c2 w2 hown2 hgrow2 hat2 hgb2 hlt2; (try simp only [Nat.zero_add] at hown2); have hbS2 : Below WW.heap.size WW w2 := by (refine Below.grown (w := _) ?_ hgrow2 ?_ (fun k hk => by cases hk; exact hgb1) <;> (repeat' (first | exact Below.refl _ _ | exact hbS2 | exact hbS1 | refine Below.drew ?_ | refine Below.alloc ?_ ?_ _ | exact Nat.le_refl _ | exact hbS2.size | exact hbS1.size | (have h9 := hbS1.size; simp; omega) | (simp; omega) | (simp; done))))) | (refine step_cells rfl _ _ rfl WW.heap.size g2 _ c2 (o.take j ++ [(x, y)]) ⟨g, bo, none⟩ (m - j) (cc - j) (o.drop j) rfl (congrArg (fun z => Value.slice z (m - j) (cc - j)) HAJ.out) ?a1 ?a2 ?a3 ?a4 ?a5 _ rfl ?_; (case a2 => (rw [List.length_drop, HLO.out])); (case a1 => ((try simp only [Nat.zero_add]); exact hown2)); (case a4 => omega); (case a3 => (exact Lies.on HL2.out hbS2 hgW.2)); (case a5 => (exact hbS2.size)); intro g3 c3 w3 hown3 hgrow3 hat3 hgb3 hlt3; have hbS3 : Below WW.heap.size WW w3 := Below.grown hbS2 hgrow3 hbS2.size (fun k hk => by cases hk; exact hgb2)))
              all_goals
                have hlen3 : j + 1 + (m - j) ≤ k + 1 := by omega
                try simp only [Nat.zero_add] at hown3
                have HO3 := Lib.hid (own_below hown3 HBWW.out.size)
                have HB3 := Lib.hid (HBWW.out.trans (hbS3.mono HBWW.out.size))
                clear hown1 hown2 hown3 hbS1 hbS2 hbS3 hgrow1 hgrow2 hgrow3
                simp only [Exit.inBlock, Exit.then]
                go_wp2
                go_roundw
                case rel => exact ⟨k + 1, g3, c3, j + 1 + (m - j), by omega, by go_num, rfl, hlen3, by rw [HN.out, HE.out]; exact HO3.out, HB3.out⟩
                case measure => simp [intOf]; omega
        · have hpos2 : posOf (x, y) o o.length = j := by
            rw [HLO.out, hpos.out, show j = 0 by omega]
            rfl
          have HP2 := Lib.hid hpos2
          have he : insU o (x, y) = o.take j ++ [(x, y)] ++ o.drop j := insU_no HP2.out (by rintro ⟨h9, _⟩; exact hj0 h9)
          have HE := Lib.hid he
          have hd : decide ((0 : Int) < (j : Int)) = false := by simp; omega
          have hownC := hown.out.kept (grow_below hbi none) (.inr (by intro e; cases e))
          clear hpos2 he
          go_wp2_with fail
          go_quiet (first | (go_at_call 115; fail))
          go_wp2_with fail
          go_quiet (fail)
          go_wp2
          generalize hWX : World.drewN (World.drewN wr _) nq = WW
          have hbW : Below w.heap.size w WW := by rw [← hWX]; exact below_drewn (below_drewn (HB.out.trans (hbi.mono hsz)) _) _
          have hownW : WW.ownsRow w.heap.size 126 2 (.slice (some ⟨g, 0, none⟩) m cc) m (cvs o) := by rw [← hWX]; exact hownC
          have s1 : WW.cell? ⟨b1, o1 + k * 2, none⟩ = some (.int .i64 x) := by rw [← hWX]; exact p1
          have s2 : WW.cell? ⟨b1, o1 + k * 2 + 1, none⟩ = some (.int .i64 y) := by rw [← hWX]; exact p2
          clear hWX hownC p1 p2 hpos hbi
          have hbW1 : b1 < WW.heap.size := by have := hbW.size; omega
          have hgW := (hownW.lt g rfl)
          have HS := Lib.hid (show _ ∧ _ from ⟨s1, s2⟩)
          have HBWW := Lib.hid hbW
          have HOWN := Lib.hid hownW
          have hjm : (j : Int) ≤ (m : Int) := by omega
          have hj00 : (0 : Int) ≤ (j : Int) := by omega
          have hcapm := own_cap HOWN.out
          have hjc : (j : Int) ≤ (cc : Int) := by omega
          have hmc : (m : Int) ≤ (cc : Int) := by omega
          have hca := CellsAt.of_own HOWN.out HIO.out
          have HL1 := Lib.hid (show Lies WW ⟨g, 0, none⟩ (o.take j) from by have h9 := CellsAt.lies (k := 0) (m := j) hca (by omega); simpa using h9)
          have hl2 : Lies WW ⟨g, j * 2, none⟩ (o.drop j) := by have h9 := CellsAt.lies (k := j) (m := m - j) hca (by omega); rw [List.take_of_length_le (by rw [List.length_drop, HLO.out]; exact Nat.le_refl _)] at h9; simpa using h9
          obtain ⟨bo, haj, hl3⟩ : ∃ bo : Nat, (if cc = j then some (⟨g, 0, none⟩ : Addr) else some ⟨g, j * 2, none⟩) = some ⟨g, bo, none⟩ ∧ Lies WW ⟨g, bo, none⟩ (o.drop j) := by
            by_cases hcj : cc = j
            · refine ⟨0, if_pos hcj, ?_⟩
              rw [List.drop_of_length_le (by rw [HLO.out]; omega)]
              intro q u9 hq
              simp [cvs] at hq
            · exact ⟨j * 2, if_neg hcj, hl2⟩
          have HAJ := Lib.hid haj
          have HL2 := Lib.hid hl3
          clear haj hl2 hl3
          clear s1 s2 hbW hownW hca
          go_region_held3 (fun w' => w'.cell? ⟨b1, o1 + k * 2, none⟩ = some (.int .i64 x) ∧ w'.cell? ⟨b1, o1 + k * 2 + 1, none⟩ = some (.int .i64 y) ∧ Held WW w')
            (first | (refine keepS hbW1 HS.out.1 HS.out.2 ?_; repeat' (first | exact Below.refl _ _ | exact hbS3 | exact hbS2 | exact hbS1 | refine Below.drew ?_ | refine Below.alloc ?_ ?_ _ | exact Nat.le_refl _ | exact hbS3.size | exact hbS2.size | exact hbS1.size | (simp; omega) | (simp; done))))
            (first | (refine step_cells rfl _ _ rfl WW.heap.size _ 0 0 [] ⟨g, 0, none⟩ j cc (o.take j) rfl rfl ?a1 (by rw [List.length_take, HLO.out]; omega) ?a3 (by omega) ?a5 _ rfl ?_; (case a1 => (first | exact own_lit (w := WW) rfl (Nat.le_refl _) | exact (own_lit (w := WW) rfl (Nat.le_refl _)).alloc _ | exact own_lit (w := WW.alloc _) (by simp) (by simp))); (case a3 => (refine Lies.on HL1.out ?_ hgW.2; (repeat' (first | exact Below.refl _ _ | exact hbS2 | exact hbS1 | refine Below.drew ?_ | refine Below.alloc ?_ ?_ _ | exact Nat.le_refl _ | exact hbS2.size | exact hbS1.size | (have h9 := hbS1.size; simp; omega) | (simp; omega) | (simp; done))))); (case a5 => (first | (simp; done) | (simp; omega))); intro g1 c1 w1 hown1 hgrow1 hat1 hgb1 hlt1; (simp only [Nat.zero_add, List.nil_append] at hown1); have hbS1 : Below WW.heap.size WW w1 := by (refine Below.grown (w := _) ?_ hgrow1 ?_ (fun k hk => by cases hk; first | exact Nat.le_refl _ | (simp; done) | (simp; omega)) <;> (repeat' (first | exact Below.refl _ _ | exact hbS2 | exact hbS1 | refine Below.drew ?_ | refine Below.alloc ?_ ?_ _ | exact Nat.le_refl _ | exact hbS2.size | exact hbS1.size | (have h9 := hbS1.size; simp; omega) | (simp; omega) | (simp; done))))) | (refine step_cells rfl _ _ rfl WW.heap.size g1 _ c1 (o.take j) _ 1 1 [(x, y)] rfl rfl ?a1 rfl ?a3 ?a4 ?a5 _ rfl ?_; (case a1 => ((try simp only [Nat.zero_add]); first | exact hown1 | exact hown1.alloc _)); (case a4 => omega); (case a3 => (refine lies_block (t := 126) (fr := (0, 0)) ?_; first | exact heap_alloc_new _ _ | (refine (hgrow1.block _ ?_ ?_).trans ?_ <;> first | (simp; done) | (simp; omega) | exact new_at (w := WW.alloc _) _ (by simp) | exact (Below.heap_alloc (WW.alloc _) _ _ (by simp)).trans (new_at _ rfl)))); (case a5 => (first | exact hbS1.size | (simp; omega) | (simp; have := hbS1.size; omega))); intro g2 c2 w2 hown2 hgrow2 hat2 hgb2 hlt2; (try simp only [Nat.zero_add] at hown2); have hbS2 : Below WW.heap.size WW w2 := by (refine Below.grown (w := _) ?_ hgrow2 ?_ (fun k hk => by cases hk; exact hgb1) <;> (repeat' (first | exact Below.refl _ _ | exact hbS2 | exact hbS1 | refine Below.drew ?_ | refine Below.alloc ?_ ?_ _ | exact Nat.le_refl _ | exact hbS2.size | exact hbS1.size | (have h9 := hbS1.size; simp; omega) | (simp; omega) | (simp; done))))) | (refine step_cells rfl _ _ rfl WW.heap.size g2 _ c2 (o.take j ++ [(x, y)]) ⟨g, bo, none⟩ (m - j) (cc - j) (o.drop j) rfl (congrArg (fun z => Value.slice z (m - j) (cc - j)) HAJ.out) ?a1 ?a2 ?a3 ?a4 ?a5 _ rfl ?_; (case a2 => (rw [List.length_drop, HLO.out])); (case a1 => ((try simp only [Nat.zero_add]); exact hown2)); (case a4 => omega); (case a3 => (exact Lies.on HL2.out hbS2 hgW.2)); (case a5 => (exact hbS2.size)); intro g3 c3 w3 hown3 hgrow3 hat3 hgb3 hlt3; have hbS3 : Below WW.heap.size WW w3 := Below.grown hbS2 hgrow3 hbS2.size (fun k hk => by cases hk; exact hgb2)))
          all_goals
            have hlen3 : j + 1 + (m - j) ≤ k + 1 := by omega
            try simp only [Nat.zero_add] at hown3
            have HO3 := Lib.hid (own_below hown3 HBWW.out.size)
            have HB3 := Lib.hid (HBWW.out.trans (hbS3.mono HBWW.out.size))
            clear hown1 hown2 hown3 hbS1 hbS2 hbS3 hgrow1 hgrow2 hgrow3
            simp only [Exit.inBlock, Exit.then]
            go_wp2
            go_roundw
            case rel => exact ⟨k + 1, g3, c3, j + 1 + (m - j), by omega, by go_num, rfl, hlen3, by rw [HN.out, HE.out]; exact HO3.out, HB3.out⟩
            case measure => simp [intOf]; omega
    · obtain rfl : k = n := by omega
      have e : l.take k = l := List.take_of_length_le (by rw [H.out.1]; exact Nat.le_refl _)
      rw [e] at hown
      have hl2 : (sortU l).length = m := by have := hown.out.1; rw [cvs_length] at this; omega
      have HO := Lib.hid (show GivesC w (sortU l) (.returned (.slice (some ⟨g, 0, none⟩) m cc)) wo from ⟨g, cc, by rw [hl2], by rw [hl2]; exact hown.out, hb⟩)
      clear hl2 e hown
      go_wp2
      go_ret
      exact HO.out

end Go.Proofs.YtkcclhnligajeaaGreatDoor
