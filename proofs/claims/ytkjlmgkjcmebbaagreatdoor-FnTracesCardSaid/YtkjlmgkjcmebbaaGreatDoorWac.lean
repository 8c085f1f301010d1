/-
  Cells put into order, in the model: what the call gives.
  Lists in an order, each element once: plain facts for any order, nothing of the program.
  Neighbours with one key taken out of a list: plain facts for any list and key, nothing of the program.
-/
import Derived.Test.YtkjlmgkjcmebbaaGreatDoorWab
namespace Go.Proofs.YtkjlmgkjcmebbaaGreatDoor

section
open Go.RowKit

theorem posOf_step (x : Cl) (o : List Cl) (k : Nat) (h : bef x (o.getD k (0, 0)) = true) : posOf x o (k + 1) = posOf x o k := if_pos h
theorem posOf_stop (x : Cl) (o : List Cl) (k : Nat) (h : bef x (o.getD k (0, 0)) = false) : posOf x o (k + 1) = k + 1 := if_neg (by rw [h]; simp)
theorem insU_yes {o : List Cl} {x : Cl} {k : Nat} (hk : posOf x o o.length = k) (h : 0 < k ∧ o.getD (k - 1) (0, 0) = x) : insU o x = o := by unfold insU; rw [hk, if_pos h]
theorem insU_no {o : List Cl} {x : Cl} {k : Nat} (hk : posOf x o o.length = k) (h : ¬ (0 < k ∧ o.getD (k - 1) (0, 0) = x)) : insU o x = o.take k ++ [x] ++ o.drop k := by unfold insU; rw [hk, if_neg h]
theorem sortU_in {l : List Cl} (h : ∀ c ∈ l, InC c) : ∀ c ∈ sortU l, InC c := fun c hc => h c ((sortU_mem l c).1 hc)

theorem own_cap {w : World} {B n g cap : Nat} {xs : List Value} (h : w.ownsRow B 86 2 (.slice (some ⟨g, 0, none⟩) n cap) n xs) : n ≤ cap := by
  rcases h.2 with ⟨e, _⟩ | ⟨g', cap', cur, e, _, _, h1, _⟩
  · cases e
  · injection e with _ _ e3
    omega
theorem new_at {w : World} {N : Nat} (o : Obj) (h : w.heap.size = N) : (w.alloc o).heap[N]? = some o := by subst h; exact heap_alloc_new _ _
theorem own_lit {w : World} {B N : Nat} (h : w.heap.size = N) (hB : B ≤ N) : (w.alloc (.cells #[] 86)).ownsRow B 86 2 (.slice (some ⟨N, 0, none⟩) 0 0) 0 (cvs []) := by subst h; exact World.ownsRow_lit (base := B) (e := 86) (size := 2) w #[] 0 hB (by simp [maxLen]) rfl
/-- What a region that makes blocks of its own keeps: all that lay there. -/
def Held (WW : World) (w' : World) : Prop := Below WW.heap.size WW w'
theorem keepS {WW w' : World} {b off : Nat} {x y : Int} (hlt : b < WW.heap.size) (e1 : WW.cell? ⟨b, off, none⟩ = some (.int .i64 x)) (e2 : WW.cell? ⟨b, off + 1, none⟩ = some (.int .i64 y)) (hb : Below WW.heap.size WW w') :
    w'.cell? ⟨b, off, none⟩ = some (.int .i64 x) ∧ w'.cell? ⟨b, off + 1, none⟩ = some (.int .i64 y) ∧ Held WW w' := ⟨(hb.cell hlt).trans e1, (hb.cell hlt).trans e2, hb⟩

set_option maxHeartbeats 4000000 in
set_option maxRecDepth 100000 in
theorem sSort (B n cap : Nat) (a : Option Addr) (l : List Cl) (w : World) (hn : n ≤ 1048576) (hc : CellsAt B w a n l) (hB : B ≤ w.heap.size) :
    Calls Tryz.prog 140 #[.slice a n cap] w (GivesC w (sortU l)) := by
  have H := Lib.hid hc
  have HIN := Lib.hid (sortU_in hc.2.1)
  clear hc
  go_enter Tryz.func140, Tryz.ntmps140
  go_wp2
  go_loopw [3, 4] (fun v i wr => ∃ (k g cc m : Nat), k ≤ n ∧ i = .int .i64 k ∧ v = .slice (some ⟨g, 0, none⟩) m cc ∧ m ≤ k ∧ Hid (wr.ownsRow w.heap.size 86 2 (.slice (some ⟨g, 0, none⟩) m cc) m (cvs (sortU (l.take k)))) ∧ Below w.heap.size w wr) (fun _ i _ => n - (intOf i).toNat)
  case atStart => exact ⟨0, w.heap.size, 0, 0, by omega, rfl, rfl, Nat.le_refl _, by simpa [Hid, cvs, sortU] using World.ownsRow_lit (base := w.heap.size) (e := 86) (size := 2) w #[] 0 (Nat.le_refl _) (by simp [maxLen]) rfl, (Below.refl _ _).alloc (Nat.le_refl _) _⟩
  case round =>
    obtain ⟨k, g, cc, m, hk, rfl, rfl, hmk, hown, hb⟩ := hrel
    obtain ⟨wo, rfl⟩ : ∃ wo, wo = wr := ⟨wr, rfl⟩
    have hsz := hb.size
    by_cases hlt : k < n
    · obtain ⟨b1, o1, rfl, hb1, hc1⟩ := H.out.2.2 (by omega)
      obtain ⟨x, y, hxy⟩ : ∃ x y, l.getD k (0, 0) = (x, y) := ⟨_, _, rfl⟩
      have hck := hc1 k hlt
      rw [hxy] at hck
      have hnext := sortU_take l k (by rw [H.out.1]; exact hlt)
      rw [hxy] at hnext
      have HIO := Lib.hid (show ∀ c ∈ sortU (l.take k), InC c from sortU_in (fun c hc => H.out.2.1 c (List.mem_of_mem_take hc)))
      generalize ho : sortU (l.take k) = o at hown hnext HIO
      have hlo : o.length = m := by have := hown.out.1; rw [cvs_length] at this; omega
      have HN := Lib.hid hnext
      have HCK := Lib.hid hck
      have HLO := Lib.hid hlo
      have hk0 : (0 : Int) ≤ (k : Int) := by omega
      have hk1 : (k : Int) < (n : Int) := by omega
      have hbl : b1 < w.heap.size := by omega
      have HB := Lib.hid hb
      have hgl := hown.out.lt g rfl
      clear hxy hc1 hck hnext ho hlo hb
      go_wp2
      go_loopw [5] (fun q wi => ∃ j : Nat, j ≤ m ∧ q = .int .i64 j ∧ Hid (posOf (x, y) o m = posOf (x, y) o j) ∧ Below wo.heap.size wo wi) (fun q _ => (intOf q).toNat)
      case atStart => exact ⟨m, Nat.le_refl _, rfl, rfl, Below.refl _ _⟩
      case round =>
        obtain ⟨j, hj, rfl, hpos, hbi⟩ := hrel
        have hszi := hbi.size
        have p1 := (hbi.cell (p := ⟨b1, o1 + k * 2, none⟩) (Nat.lt_of_lt_of_le hbl hsz)).trans ((HB.out.cell (p := ⟨b1, o1 + k * 2, none⟩) hbl).trans HCK.out.1)
        have p2 := (hbi.cell (p := ⟨b1, o1 + k * 2 + 1, none⟩) (Nat.lt_of_lt_of_le hbl hsz)).trans ((HB.out.cell (p := ⟨b1, o1 + k * 2 + 1, none⟩) hbl).trans HCK.out.2)
        have hblw : b1 < wr.heap.size := by omega
        have hglw : g < wr.heap.size := by omega
        by_cases hj0 : 0 < j
        · obtain ⟨u, v, huv⟩ : ∃ u v, o.getD (j - 1) (0, 0) = (u, v) := ⟨_, _, rfl⟩
          have hcv := cvs_get o (j - 1) (by rw [HLO.out]; omega)
          rw [huv] at hcv
          have g1 := hown.out.cellAt ((j - 1) * 2) (by omega)
          have g2 := hown.out.cellAt ((j - 1) * 2 + 1) (by omega)
          rw [hcv.1] at g1
          rw [hcv.2] at g2
          have q1 : wr.cell? ⟨g, (j - 1) * 2, none⟩ = some (.int .i64 u) := (hbi.cell (p := ⟨g, (j - 1) * 2, none⟩) hgl.2).trans g1
          have q2 : wr.cell? ⟨g, (j - 1) * 2 + 1, none⟩ = some (.int .i64 v) := (hbi.cell (p := ⟨g, (j - 1) * 2 + 1, none⟩) hgl.2).trans g2
          have HU := Lib.hid huv
          have hj1 : (1 : Int) ≤ (j : Int) := by omega
          have hj2 : (j : Int) - 1 < (m : Int) := by omega
          have hj3 : (0 : Int) ≤ (j : Int) - 1 := by omega
          have hj4 : ((j : Int) - 1).toNat = j - 1 := by omega
          have hjw : IntKind.i64.wrap ((j : Int) - 1) = (j : Int) - 1 := IntWalk.i64_in _ (by omega)
          clear huv hcv g1 g2
          go_wp2_with fail
          go_region_held3 (fun w' => w'.cell? ⟨b1, o1 + k * 2, none⟩ = some (.int .i64 x) ∧ w'.cell? ⟨b1, o1 + k * 2 + 1, none⟩ = some (.int .i64 y) ∧ w'.cell? ⟨g, (j - 1) * 2, none⟩ = some (.int .i64 u) ∧ w'.cell? ⟨g, (j - 1) * 2 + 1, none⟩ = some (.int .i64 v))
            (first | exact ⟨p1, p2, q1, q2⟩ | exact ⟨(hbe.cell (p := ⟨b1, o1 + k * 2, none⟩) hblw).trans p1, (hbe.cell (p := ⟨b1, o1 + k * 2 + 1, none⟩) hblw).trans p2, (hbe.cell (p := ⟨g, (j - 1) * 2, none⟩) hglw).trans q1, (hbe.cell (p := ⟨g, (j - 1) * 2 + 1, none⟩) hglw).trans q2⟩)
            (first | (go_at_call 123; refine (sBefore _ _ _ _ _).mono ?_; rintro e w' ⟨rfl, hbe⟩))
          all_goals go_wp2
          all_goals
            have hbw := hbi.drew.trans (hbe.mono hszi)
            have HBW := Lib.hid hbw
          · have hcase : bef (x, y) (u, v) = true := by assumption
            have hpos2 : posOf (x, y) o m = posOf (x, y) o (j - 1) := by
              have e := posOf_step (x, y) o (j - 1) (by rw [HU.out]; exact hcase)
              rw [show j - 1 + 1 = j by omega] at e
              rw [hpos.out, e]
            have HP2 := Lib.hid hpos2
            clear hpos2 hbw
            go_roundw
            case rel => exact ⟨j - 1, by omega, by congr 1; omega, HP2.out, HBW.out⟩
            case measure => simp [intOf]; omega
          · have hcase : bef (x, y) (u, v) = false := by assumption
            have hpos2 : posOf (x, y) o o.length = j := by
              have e := posOf_stop (x, y) o (j - 1) (by rw [HU.out]; exact hcase)
              rw [show j - 1 + 1 = j by omega] at e
              rw [HLO.out, hpos.out, e]
            have HP2 := Lib.hid hpos2
            have r1 := (hbe.cell (p := ⟨b1, o1 + k * 2, none⟩) hblw).trans p1
            have r2 := (hbe.cell (p := ⟨b1, o1 + k * 2 + 1, none⟩) hblw).trans p2
            have r3 := (hbe.cell (p := ⟨g, (j - 1) * 2, none⟩) hglw).trans q1
            have r4 := (hbe.cell (p := ⟨g, (j - 1) * 2 + 1, none⟩) hglw).trans q2
            have hE := eql_cell u v x y
            have hG := cell_guard
            clear hpos2 hbw hbe p1 p2 q1 q2 hcase
            have hownB := hown.out.kept (grow_below (HBW.out) none) (.inr (by intro e; cases e))
            go_wp2_with fail
            go_quiet (fail)
            go_wp2
            · go_roundw
              case rel =>
                have hcs : sameC (u, v) (x, y) = true := by assumption
                have he : insU o (x, y) = o := insU_yes HP2.out ⟨hj0, by rw [HU.out]; simpa [sameC] using hcs⟩
                exact ⟨k + 1, g, cc, m, by omega, by go_num, rfl, by omega, by rw [HN.out, he]; exact hownB, below_drewn (HB.out.trans (HBW.out.mono hsz)) nq⟩
              case measure => simp [intOf]; omega
            · have hcs : sameC (u, v) (x, y) = false := by assumption
              have he : insU o (x, y) = o.take j ++ [(x, y)] ++ o.drop j := insU_no HP2.out (by rw [HU.out]; rintro ⟨_, h9⟩; unfold sameC at hcs; rw [decide_eq_false_iff_not] at hcs; exact hcs h9)
              have HE := Lib.hid he
              have hbW : Below w.heap.size w (w'.drewN nq) := below_drewn (HB.out.trans (HBW.out.mono hsz)) nq
              have hownW : (w'.drewN nq).ownsRow w.heap.size 86 2 (.slice (some ⟨g, 0, none⟩) m cc) m (cvs o) := hownB
              have s1 : (w'.drewN nq).cell? ⟨b1, o1 + k * 2, none⟩ = some (.int .i64 x) := r1
              have s2 : (w'.drewN nq).cell? ⟨b1, o1 + k * 2 + 1, none⟩ = some (.int .i64 y) := r2
              clear hE hG hcs he hownB r1 r2 r3 r4 hpos hbi
              generalize w'.drewN nq = WW at *
              have hbW1 : b1 < WW.heap.size := by have := hbW.size; omega
              have hgW := (hownW.lt g rfl)
              have HS := Lib.hid (show _ ∧ _ from ⟨s1, s2⟩)
              have HBWW := Lib.hid hbW
              have HOWN := Lib.hid hownW
              have hjm : (j : Int) ≤ (m : Int) := by omega
              have hj00 : (0 : Int) ≤ (j : Int) := by omega
              have hcapm := own_cap HOWN.out
              have hjc : (j : Int) ≤ (cc : Int) := by omega
              have hmc : (m : Int) ≤ (cc : Int) := by omega
              have hca := CellsAt.of_own HOWN.out HIO.out
              have HL1 := Lib.hid (show Lies WW ⟨g, 0, none⟩ (o.take j) from by have h9 := CellsAt.lies (k := 0) (m := j) hca (by omega); simpa using h9)
              have hl2 : Lies WW ⟨g, j * 2, none⟩ (o.drop j) := by have h9 := CellsAt.lies (k := j) (m := m - j) hca (by omega); rw [List.take_of_length_le (by rw [List.length_drop, HLO.out]; exact Nat.le_refl _)] at h9; simpa using h9
              obtain ⟨bo, haj, hl3⟩ : ∃ bo : Nat, (if cc = j then some (⟨g, 0, none⟩ : Addr) else some ⟨g, j * 2, none⟩) = some ⟨g, bo, none⟩ ∧ Lies WW ⟨g, bo, none⟩ (o.drop j) := by
                by_cases hcj : cc = j
                · refine ⟨0, if_pos hcj, ?_⟩
                  rw [List.drop_of_length_le (by rw [HLO.out]; omega)]
                  intro q u9 hq
                  simp [cvs] at hq
                · exact ⟨j * 2, if_neg hcj, hl2⟩
              have HAJ := Lib.hid haj
              have HL2 := Lib.hid hl3
              clear haj hl2 hl3
              clear s1 s2 hbW hownW hca
              go_region_held3 (fun w' => w'.cell? ⟨b1, o1 + k * 2, none⟩ = some (.int .i64 x) ∧ w'.cell? ⟨b1, o1 + k * 2 + 1, none⟩ = some (.int .i64 y) ∧ Held WW w')
                (first | (refine keepS hbW1 HS.out.1 HS.out.2 ?_; repeat' (first | exact Below.refl _ _ | exact hbS3 | exact hbS2 | exact hbS1 | refine Below.drew ?_ | refine Below.alloc ?_ ?_ _ | exact Nat.le_refl _ | exact hbS3.size | exact hbS2.size | exact hbS1.size | (simp; omega) | (simp; done))))
                (first | (refine step_cells rfl _ _ rfl WW.heap.size _ 0 0 [] ⟨g, 0, none⟩ j cc (o.take j) rfl rfl ?a1 (by rw [List.length_take, HLO.out]; omega) ?a3 (by omega) ?a5 _ rfl ?_; (case a1 => (first | exact own_lit (w := WW) rfl (Nat.le_refl _) | exact (own_lit (w := WW) rfl (Nat.le_refl _)).alloc _ | exact own_lit (w := WW.alloc _) (by simp) (by simp))); (case a3 => (refine Lies.on HL1.out ?_ hgW.2; (repeat' (first | exact Below.refl _ _ | exact hbS2 | exact hbS1 | refine Below.drew ?_ | refine Below.alloc ?_ ?_ _ | exact Nat.le_refl _ | exact hbS2.size | exact hbS1.size | (have h9 := hbS1.size; simp; omega) | (simp; omega) | (simp; done))))); (case a5 => (first | (simp; done) | (simp; omega))); intro g1 c1 w1 hown1 hgrow1 hat1 hgb1 hlt1; (simp only [Nat.zero_add, List.nil_append] at hown1); have hbS1 : Below WW.heap.size WW w1 := by (refine Below.grown (w := _) ?_ hgrow1 ?_ (fun k hk => by cases hk; first | exact Nat.le_refl _ | (simp; done) | (simp; omega)) <;> (repeat' (first | exact Below.refl _ _ | exact hbS2 | exact hbS1 | refine Below.drew ?_ | refine Below.alloc ?_ ?_ _ | exact Nat.le_refl _ | exact hbS2.size | exact hbS1.size | (have h9 := hbS1.size; simp; omega) | (simp; omega) | (simp; done))))) | (refine step_cells rfl _ _ rfl WW.heap.size g1 _ c1 (o.take j) _ 1 1 [(x, y)] rfl rfl ?a1 rfl ?a3 ?a4 ?a5 _ rfl ?_; (case a1 => ((try simp only [Nat.zero_add]); first | exact hown1 | exact hown1.alloc _)); (case a4 => omega); (case a3 => (refine lies_block (t := 86) (fr := (0, 0)) ?_; first | exact heap_alloc_new _ _ | (refine (hgrow1.block _ ?_ ?_).trans ?_ <;> first | (simp; done) | (simp; omega) | exact new_at (w := WW.alloc _) _ (by simp) | exact (Below.heap_alloc (WW.alloc _) _ _ (by simp)).trans (new_at _ rfl)))); (case a5 => (first | exact hbS1.size | (simp; omega) | (simp; have := hbS1.size; omega))); intro g2 c2 w2 hown2 hgrow2 hat2 hgb2 hlt2; (try simp only [Nat.zero_add] at hown2); have hbS2 : Below WW.heap.size WW w2 := by (refine Below.grown (w := _) ?_ hgrow2 ?_ (fun k hk => by cases hk; exact hgb1) <;> (repeat' (first | exact Below.refl _ _ | exact hbS2 | exact hbS1 | refine Below.drew ?_ | refine Below.alloc ?_ ?_ _ | exact Nat.le_refl _ | exact hbS2.size | exact hbS1.size | (have h9 := hbS1.size; simp; omega) | (simp; omega) | (simp; done))))) | (refine step_cells rfl _ _ rfl WW.heap.size g2 _ c2 (o.take j ++ [(x, y)]) ⟨g, bo, none⟩ (m - j) (cc - j) (o.drop j) rfl (congrArg (fun z => Value.slice z (m - j) (cc - j)) HAJ.out) ?a1 ?a2 ?a3 ?a4 ?a5 _ rfl ?_; (case a2 => (rw [List.length_drop, HLO.out])); (case a1 => ((try simp only [Nat.zero_add]); exact hown2)); (case a4 => omega); (case a3 => (exact Lies.on HL2.out hbS2 hgW.2)); (case a5 => (exact hbS2.size)); intro g3 c3 w3 hown3 hgrow3 hat3 hgb3 hlt3; have hbS3 : Below WW.heap.size WW w3 := Below.grown hbS2 hgrow3 hbS2.size (fun k hk => by cases hk; exact hgb2)))
              all_goals
                have hlen3 : j + 1 + (m - j) ≤ k + 1 := by omega
                try simp only [Nat.zero_add] at hown3
                have HO3 := Lib.hid (own_below hown3 HBWW.out.size)
                have HB3 := Lib.hid (HBWW.out.trans (hbS3.mono HBWW.out.size))
                clear hown1 hown2 hown3 hbS1 hbS2 hbS3 hgrow1 hgrow2 hgrow3
                simp only [Exit.inBlock, Exit.then]
                go_wp2
                go_roundw
                case rel => exact ⟨k + 1, g3, c3, j + 1 + (m - j), by omega, by go_num, rfl, hlen3, by rw [HN.out, HE.out]; exact HO3.out, HB3.out⟩
                case measure => simp [intOf]; omega
        · have hpos2 : posOf (x, y) o o.length = j := by
            rw [HLO.out, hpos.out, show j = 0 by omega]
            rfl
          have HP2 := Lib.hid hpos2
          have he : insU o (x, y) = o.take j ++ [(x, y)] ++ o.drop j := insU_no HP2.out (by rintro ⟨h9, _⟩; exact hj0 h9)
          have HE := Lib.hid he
          have hd : decide ((0 : Int) < (j : Int)) = false := by simp; omega
          have hownC := hown.out.kept (grow_below hbi none) (.inr (by intro e; cases e))
          clear hpos2 he
          go_wp2_with fail
          go_quiet (first | (go_at_call 123; fail))
          go_wp2_with fail
          go_quiet (fail)
          go_wp2
          generalize hWX : World.drewN (World.drewN wr _) nq = WW
          have hbW : Below w.heap.size w WW := by rw [← hWX]; exact below_drewn (below_drewn (HB.out.trans (hbi.mono hsz)) _) _
          have hownW : WW.ownsRow w.heap.size 86 2 (.slice (some ⟨g, 0, none⟩) m cc) m (cvs o) := by rw [← hWX]; exact hownC
          have s1 : WW.cell? ⟨b1, o1 + k * 2, none⟩ = some (.int .i64 x) := by rw [← hWX]; exact p1
          have s2 : WW.cell? ⟨b1, o1 + k * 2 + 1, none⟩ = some (.int .i64 y) := by rw [← hWX]; exact p2
          clear hWX hownC p1 p2 hpos hbi
          have hbW1 : b1 < WW.heap.size := by have := hbW.size; omega
          have hgW := (hownW.lt g rfl)
          have HS := Lib.hid (show _ ∧ _ from ⟨s1, s2⟩)
          have HBWW := Lib.hid hbW
          have HOWN := Lib.hid hownW
          have hjm : (j : Int) ≤ (m : Int) := by omega
          have hj00 : (0 : Int) ≤ (j : Int) := by omega
          have hcapm := own_cap HOWN.out
          have hjc : (j : Int) ≤ (cc : Int) := by omega
          have hmc : (m : Int) ≤ (cc : Int) := by omega
          have hca := CellsAt.of_own HOWN.out HIO.out
          have HL1 := Lib.hid (show Lies WW ⟨g, 0, none⟩ (o.take j) from by have h9 := CellsAt.lies (k := 0) (m := j) hca (by omega); simpa using h9)
          have hl2 : Lies WW ⟨g, j * 2, none⟩ (o.drop j) := by have h9 := CellsAt.lies (k := j) (m := m - j) hca (by omega); rw [List.take_of_length_le (by rw [List.length_drop, HLO.out]; exact Nat.le_refl _)] at h9; simpa using h9
          obtain ⟨bo, haj, hl3⟩ : ∃ bo : Nat, (if cc = j then some (⟨g, 0, none⟩ : Addr) else some ⟨g, j * 2, none⟩) = some ⟨g, bo, none⟩ ∧ Lies WW ⟨g, bo, none⟩ (o.drop j) := by
            by_cases hcj : cc = j
            · refine ⟨0, if_pos hcj, ?_⟩
              rw [List.drop_of_length_le (by rw [HLO.out]; omega)]
              intro q u9 hq
              simp [cvs] at hq
            · exact ⟨j * 2, if_neg hcj, hl2⟩
          have HAJ := Lib.hid haj
          have HL2 := Lib.hid hl3
          clear haj hl2 hl3
          clear s1 s2 hbW hownW hca
          go_region_held3 (fun w' => w'.cell? ⟨b1, o1 + k * 2, none⟩ = some (.int .i64 x) ∧ w'.cell? ⟨b1, o1 + k * 2 + 1, none⟩ = some (.int .i64 y) ∧ Held WW w')
            (first | (refine keepS hbW1 HS.out.1 HS.out.2 ?_; repeat' (first | exact Below.refl _ _ | exact hbS3 | exact hbS2 | exact hbS1 | refine Below.drew ?_ | refine Below.alloc ?_ ?_ _ | exact Nat.le_refl _ | exact hbS3.size | exact hbS2.size | exact hbS1.size | (simp; omega) | (simp; done))))
            (first | (refine step_cells rfl _ _ rfl WW.heap.size _ 0 0 [] ⟨g, 0, none⟩ j cc (o.take j) rfl rfl ?a1 (by rw [List.length_take, HLO.out]; omega) ?a3 (by omega) ?a5 _ rfl ?_; (case a1 => (first | exact own_lit (w := WW) rfl (Nat.le_refl _) | exact (own_lit (w := WW) rfl (Nat.le_refl _)).alloc _ | exact own_lit (w := WW.alloc _) (by simp) (by simp))); (case a3 => (refine Lies.on HL1.out ?_ hgW.2; (repeat' (first | exact Below.refl _ _ | exact hbS2 | exact hbS1 | refine Below.drew ?_ | refine Below.alloc ?_ ?_ _ | exact Nat.le_refl _ | exact hbS2.size | exact hbS1.size | (have h9 := hbS1.size; simp; omega) | (simp; omega) | (simp; done))))); (case a5 => (first | (simp; done) | (simp; omega))); intro g1 c1 w1 hown1 hgrow1 hat1 hgb1 hlt1; (simp only [Nat.zero_add, List.nil_append] at hown1); have hbS1 : Below WW.heap.size WW w1 := by (refine Below.grown (w := _) ?_ hgrow1 ?_ (fun k hk => by cases hk; first | exact Nat.le_refl _ | (simp; done) | (simp; omega)) <;> (repeat' (first | exact Below.refl _ _ | exact hbS2 | exact hbS1 | refine Below.drew ?_ | refine Below.alloc ?_ ?_ _ | exact Nat.le_refl _ | exact hbS2.size | exact hbS1.size | (have h9 := hbS1.size; simp; omega) | (simp; omega) | (simp; done))))) | (refine step_cells rfl _ _ rfl WW.heap.size g1 _ c1 (o.take j) _ 1 1 [(x, y)] rfl rfl ?a1 rfl ?a3 ?a4 ?a5 _ rfl ?_; (case a1 => ((try simp only [Nat.zero_add]); first | exact hown1 | exact hown1.alloc _)); (case a4 => omega); (case a3 => (refine lies_block (t := 86) (fr := (0, 0)) ?_; first | exact heap_alloc_new _ _ | (refine (hgrow1.block _ ?_ ?_).trans ?_ <;> first | (simp; done) | (simp; omega) | exact new_at (w := WW.alloc _) _ (by simp) | exact (Below.heap_alloc (WW.alloc _) _ _ (by simp)).trans (new_at _ rfl)))); (case a5 => (first | exact hbS1.size | (simp; omega) | (simp; have := hbS1.size; omega))); intro g2 c2 w2 hown2 hgrow2 hat2 hgb2 hlt2; (try simp only [Nat.zero_add] at hown2); have hbS2 : Below WW.heap.size WW w2 := by (refine Below.grown (w := _) ?_ hgrow2 ?_ (fun k hk => by cases hk; exact hgb1) <;> (repeat' (first | exact Below.refl _ _ | exact hbS2 | exact hbS1 | refine Below.drew ?_ | refine Below.alloc ?_ ?_ _ | exact Nat.le_refl _ | exact hbS2.size | exact hbS1.size | (have h9 := hbS1.size; simp; omega) | (simp; omega) | (simp; done))))) | (refine step_cells rfl _ _ rfl WW.heap.size g2 _ c2 (o.take j ++ [(x, y)]) ⟨g, bo, none⟩ (m - j) (cc - j) (o.drop j) rfl (congrArg (fun z => Value.slice z (m - j) (cc - j)) HAJ.out) ?a1 ?a2 ?a3 ?a4 ?a5 _ rfl ?_; (case a2 => (rw [List.length_drop, HLO.out])); (case a1 => ((try simp only [Nat.zero_add]); exact hown2)); (case a4 => omega); (case a3 => (exact Lies.on HL2.out hbS2 hgW.2)); (case a5 => (exact hbS2.size)); intro g3 c3 w3 hown3 hgrow3 hat3 hgb3 hlt3; have hbS3 : Below WW.heap.size WW w3 := Below.grown hbS2 hgrow3 hbS2.size (fun k hk => by cases hk; exact hgb2)))
          all_goals
            have hlen3 : j + 1 + (m - j) ≤ k + 1 := by omega
            try simp only [Nat.zero_add] at hown3
            have HO3 := Lib.hid (own_below hown3 HBWW.out.size)
            have HB3 := Lib.hid (HBWW.out.trans (hbS3.mono HBWW.out.size))
            clear hown1 hown2 hown3 hbS1 hbS2 hbS3 hgrow1 hgrow2 hgrow3
            simp only [Exit.inBlock, Exit.then]
            go_wp2
            go_roundw
            case rel => exact ⟨k + 1, g3, c3, j + 1 + (m - j), by omega, by go_num, rfl, hlen3, by rw [HN.out, HE.out]; exact HO3.out, HB3.out⟩
            case measure => simp [intOf]; omega
    · obtain rfl : k = n := by omega
      have e : l.take k = l := List.take_of_length_le (by rw [H.out.1]; exact Nat.le_refl _)
      rw [e] at hown
      have hl2 : (sortU l).length = m := by have := hown.out.1; rw [cvs_length] at this; omega
      have HO := Lib.hid (show GivesC w (sortU l) (.returned (.slice (some ⟨g, 0, none⟩) m cc)) wo from ⟨g, cc, by rw [hl2], by rw [hl2]; exact hown.out, hb⟩)
      clear hl2 e hown
      go_wp2
      go_ret
      exact HO.out
end

section
/-- An order in which two different elements never stand alike. -/
structure OrdG {α : Type} (lt : α → α → Bool) : Prop where
  irr : ∀ a, lt a a = false
  trans : ∀ {a b c}, lt a b = true → lt b c = true → lt a c = true
  asym : ∀ {a b}, lt a b = true → lt b a = false
  total : ∀ {a b}, lt a b = false → lt b a = false → a = b

section
variable {α : Type} {lt : α → α → Bool} {d : α}

/-- In order, each once. -/
def SrtG (lt : α → α → Bool) (l : List α) : Prop := l.Pairwise fun a b => lt a b = true
theorem srtG_unique (O : OrdG lt) : ∀ {a b : List α}, SrtG lt a → SrtG lt b → (∀ x, x ∈ a ↔ x ∈ b) → a = b := by
  intro a
  induction a with
  | nil => intro b _ _ h; cases b with
    | nil => rfl
    | cons y b => have := (h y).2 (by simp); cases this
  | cons x a ih =>
    intro b ha hb h
    cases b with
    | nil => have := (h x).1 (by simp); cases this
    | cons y b =>
      unfold SrtG at ha hb
      rw [List.pairwise_cons] at ha hb
      have hxy : x = y := by
        have h1 := (h x).1 (by simp)
        have h2 := (h y).2 (by simp)
        rw [List.mem_cons] at h1 h2
        rcases h1 with h1 | h1
        · exact h1
        · rcases h2 with h2 | h2
          · exact h2.symm
          · have k1 := hb.1 x h1
            have k2 := ha.1 y h2
            rw [O.asym k1] at k2
            cases k2
      subst hxy
      congr 1
      apply ih ha.2 hb.2
      intro z
      constructor
      · intro hz
        have h1 := (h z).1 (by simp [hz])
        rw [List.mem_cons] at h1
        rcases h1 with h1 | h1
        · subst h1; have := ha.1 z hz; rw [O.irr] at this; cases this
        · exact h1
      · intro hz
        have h1 := (h z).2 (by simp [hz])
        rw [List.mem_cons] at h1
        rcases h1 with h1 | h1
        · subst h1; have := hb.1 z hz; rw [O.irr] at this; cases this
        · exact h1

/-- Where x goes among the first k of o. -/
def posG (lt : α → α → Bool) (d : α) (x : α) (o : List α) : Nat → Nat
  | 0 => 0
  | k + 1 => if lt x (o.getD k d) = true then posG lt d x o k else k + 1
def insG [DecidableEq α] (lt : α → α → Bool) (d : α) (o : List α) (x : α) : List α := if 0 < posG lt d x o o.length ∧ o.getD (posG lt d x o o.length - 1) d = x then o else o.take (posG lt d x o o.length) ++ [x] ++ o.drop (posG lt d x o o.length)
/-- All in order, each once. -/
def sortG [DecidableEq α] (lt : α → α → Bool) (d : α) (l : List α) : List α := l.foldl (insG lt d) []
theorem posG_le (x : α) (o : List α) : ∀ k, posG lt d x o k ≤ k
  | 0 => Nat.le_refl _
  | k + 1 => by unfold posG; split; exact Nat.le_succ_of_le (posG_le x o k); exact Nat.le_refl _
theorem posG_after (x : α) (o : List α) : ∀ k j, posG lt d x o k ≤ j → j < k → lt x (o.getD j d) = true
  | 0, j, _, h => by omega
  | k + 1, j, h1, h2 => by
    unfold posG at h1
    split at h1
    · rename_i hb
      by_cases hj : j = k
      · rw [hj]; exact hb
      · exact posG_after x o k j h1 (by omega)
    · omega
theorem posG_at (x : α) (o : List α) : ∀ k, 0 < posG lt d x o k → lt x (o.getD (posG lt d x o k - 1) d) = false
  | 0, h => by simp [posG] at h
  | k + 1, h => by
    unfold posG at h ⊢
    split
    · rename_i hb; rw [if_pos hb] at h; exact posG_at x o k h
    · rename_i hb; simpa using hb
theorem srtG_getD (d : α) {o : List α} (h : SrtG lt o) {i j : Nat} (hij : i < j) (hj : j < o.length) : lt (o.getD i d) (o.getD j d) = true := by
  have h2 := List.pairwise_iff_getElem.1 h i j (by omega) hj hij
  simpa [List.getD, hj, show i < o.length by omega] using h2
theorem memG_getD (d : α) {o : List α} {x : α} (h : x ∈ o) : ∃ j, j < o.length ∧ o.getD j d = x := by
  obtain ⟨j, hj, rfl⟩ := List.getElem_of_mem h
  exact ⟨j, hj, by simp [List.getD, hj]⟩
theorem memG_take (d : α) {o : List α} {x : α} {k : Nat} (h : x ∈ o.take k) : ∃ j, j < k ∧ j < o.length ∧ o.getD j d = x := by
  obtain ⟨j, hj, rfl⟩ := List.getElem_of_mem h
  rw [List.length_take] at hj
  exact ⟨j, by omega, by omega, by simp [List.getD, show j < o.length by omega]⟩
theorem memG_drop (d : α) {o : List α} {x : α} {k : Nat} (h : x ∈ o.drop k) : ∃ j, k ≤ j ∧ j < o.length ∧ o.getD j d = x := by
  obtain ⟨j, hj, rfl⟩ := List.getElem_of_mem h
  rw [List.length_drop] at hj
  exact ⟨k + j, by omega, by omega, by simp [List.getD, show k + j < o.length by omega]⟩
theorem insG_srt [DecidableEq α] (O : OrdG lt) (d : α) {o : List α} (h : SrtG lt o) (x : α) : SrtG lt (insG lt d o x) := by
  unfold insG
  split
  · exact h
  · rename_i hne
    have hle := posG_le (lt := lt) (d := d) x o o.length
    obtain ⟨k, hk⟩ : ∃ k, posG lt d x o o.length = k := ⟨_, rfl⟩
    have haft := posG_after (lt := lt) (d := d) x o o.length
    have hat := posG_at (lt := lt) (d := d) x o o.length
    rw [hk] at hne hle haft hat ⊢
    have hbefore : ∀ a, a ∈ o.take k → lt a x = true := by
      intro a ha
      obtain ⟨j, hj1, hj2, rfl⟩ := memG_take d ha
      have h1 := hat (by omega)
      have h2 : lt (o.getD (k - 1) d) x = true := by
        cases h3 : lt (o.getD (k - 1) d) x with
        | true => rfl
        | false => exact absurd ⟨by omega, O.total h3 h1⟩ hne
      by_cases hj : j = k - 1
      · rw [hj]; exact h2
      · exact O.trans (srtG_getD d h (show j < k - 1 by omega) (by omega)) h2
    unfold SrtG
    rw [List.append_assoc, List.pairwise_append]
    refine ⟨h.sublist (List.take_sublist _ _), ?_, ?_⟩
    · rw [List.singleton_append, List.pairwise_cons]
      refine ⟨fun b hb => ?_, h.sublist (List.drop_sublist _ _)⟩
      obtain ⟨j, hj1, hj2, rfl⟩ := memG_drop d hb
      exact haft j hj1 hj2
    · intro a ha b hb
      rw [List.singleton_append, List.mem_cons] at hb
      rcases hb with rfl | hb
      · exact hbefore a ha
      · obtain ⟨j, hj1, hj2, rfl⟩ := memG_drop d hb
        exact O.trans (hbefore a ha) (haft j hj1 hj2)
theorem insG_mem [DecidableEq α] {o : List α} (x y : α) : y ∈ insG lt d o x ↔ y ∈ o ∨ y = x := by
  unfold insG
  split
  · rename_i h
    constructor
    · exact .inl
    · rintro (h1 | rfl)
      · exact h1
      · have hle := posG_le (lt := lt) (d := d) y o o.length
        obtain ⟨k, hk⟩ : ∃ k, posG lt d y o o.length = k := ⟨_, rfl⟩
        rw [hk] at h hle
        rw [← h.2]
        simp [List.getD, show k - 1 < o.length by omega]
  · have e : y ∈ o ↔ y ∈ o.take (posG lt d x o o.length) ∨ y ∈ o.drop (posG lt d x o o.length) := by
      rw [← List.mem_append, List.take_append_drop]
    rw [e, List.append_assoc]
    simp only [List.mem_append, List.mem_singleton]
    constructor
    · rintro (h | h | h)
      · exact .inl (.inl h)
      · exact .inr h
      · exact .inl (.inr h)
    · rintro ((h | h) | h)
      · exact .inl h
      · exact .inr (.inr h)
      · exact .inr (.inl h)
theorem foldG [DecidableEq α] (O : OrdG lt) (d : α) (l : List α) : ∀ o, SrtG lt o → SrtG lt (l.foldl (insG lt d) o) ∧ ∀ x, x ∈ l.foldl (insG lt d) o ↔ x ∈ o ∨ x ∈ l := by
  induction l with
  | nil => intro o h; exact ⟨h, by simp⟩
  | cons c l ih =>
    intro o h
    rw [List.foldl_cons]
    have := ih _ (insG_srt O d h c)
    refine ⟨this.1, fun x => ?_⟩
    rw [this.2 x, insG_mem, List.mem_cons, or_assoc]
theorem sortG_srt [DecidableEq α] (O : OrdG lt) (d : α) (l : List α) : SrtG lt (sortG lt d l) := (foldG O d l [] List.Pairwise.nil).1
theorem sortG_mem [DecidableEq α] (O : OrdG lt) (d : α) (l : List α) (x : α) : x ∈ sortG lt d l ↔ x ∈ l := by have := (foldG O d l [] List.Pairwise.nil).2 x; simpa [sortG] using this
theorem sortG_unique [DecidableEq α] (O : OrdG lt) (d : α) {l r : List α} (h : SrtG lt r) (hm : ∀ x, x ∈ r ↔ x ∈ l) : r = sortG lt d l := srtG_unique O h (sortG_srt O d l) fun x => (hm x).trans (sortG_mem O d l x).symm
theorem sortG_take [DecidableEq α] (l : List α) (k : Nat) (h : k < l.length) : sortG lt d (l.take (k + 1)) = insG lt d (sortG lt d (l.take k)) (l.getD k d) := by
  rw [List.take_succ_eq_append_getElem h, sortG, List.foldl_append]
  simp [sortG, List.getD, h]

/-- What is left of the first k of m when neighbours that are equal are taken out. -/
def dedG [DecidableEq α] (d : α) (m : List α) : Nat → List α
  | 0 => []
  | k + 1 => if 0 < k ∧ m.getD k d = m.getD (k - 1) d then dedG d m k else dedG d m k ++ [m.getD k d]

end
end

section
section
variable {α β : Type} [DecidableEq β] {key : α → β} {d : α}

/-- What is left of the first k of m when an element goes whose key is its neighbour's. -/
def dedK (key : α → β) (d : α) (m : List α) : Nat → List α
  | 0 => []
  | k + 1 => if 0 < k ∧ key (m.getD k d) = key (m.getD (k - 1) d) then dedK key d m k else dedK key d m k ++ [m.getD k d]
theorem dedK_skip {m : List α} {k : Nat} (h : 0 < k ∧ key (m.getD k d) = key (m.getD (k - 1) d)) : dedK key d m (k + 1) = dedK key d m k := if_pos h
theorem dedK_keep {m : List α} {k : Nat} (h : ¬ (0 < k ∧ key (m.getD k d) = key (m.getD (k - 1) d))) : dedK key d m (k + 1) = dedK key d m k ++ [m.getD k d] := if_neg h
theorem takeG_snoc (d : α) (l : List α) (k : Nat) (h : k < l.length) : l.take (k + 1) = l.take k ++ [l.getD k d] := by
  rw [List.take_succ_eq_append_getElem h]
  simp [List.getD, h]
theorem dedK_upto {m : List α} {n : Nat} (hn : n ≤ m.length) (h : ∀ j, 0 < j → j < n → key (m.getD j d) ≠ key (m.getD (j - 1) d)) : ∀ k, k ≤ n → dedK key d m k = m.take k
  | 0, _ => by simp [dedK]
  | k + 1, hk => by
    rw [dedK_keep (fun hh => h k hh.1 (by omega) hh.2), dedK_upto hn h k (by omega), takeG_snoc d m k (by omega)]
theorem dedK_le (m : List α) : ∀ k, (dedK key d m k).length ≤ k
  | 0 => by simp [dedK]
  | k + 1 => by
    have := dedK_le m k
    unfold dedK
    split
    · omega
    · simp; omega
theorem dedK_sub (m : List α) : ∀ k, k ≤ m.length → (dedK key d m k).Sublist (m.take k)
  | 0, _ => by simp [dedK]
  | k + 1, hk => by
    have h := dedK_sub m k (by omega)
    rw [takeG_snoc d m k (by omega)]
    unfold dedK
    split
    · exact h.trans (List.sublist_append_left _ _)
    · exact h.append (List.Sublist.refl _)
/-- The row while neighbours are taken out: p looked at, the first kk left. -/
structure CptK (key : α → β) (d : α) (m L : List α) (p kk : Nat) : Prop where
  len : L.length = m.length
  kept : L.take kk = dedK key d m p
  size : kk = (dedK key d m p).length
  lt : kk < p
  rest : ∀ j, p - 1 ≤ j → L.getD j d = m.getD j d
theorem CptK.skip {m L : List α} {p kk : Nat} (h : CptK key d m L p kk) (he : 0 < p ∧ key (m.getD p d) = key (m.getD (p - 1) d)) : CptK key d m L (p + 1) kk :=
  ⟨h.len, by rw [dedK_skip he]; exact h.kept, by rw [dedK_skip he]; exact h.size, by have := h.lt; omega, fun j hj => h.rest j (by omega)⟩
theorem CptK.keep {m L : List α} {p kk : Nat} (h : CptK key d m L p kk) (hp : p < m.length) (he : ¬ (0 < p ∧ key (m.getD p d) = key (m.getD (p - 1) d))) : CptK key d m (L.set kk (m.getD p d)) (p + 1) (kk + 1) := by
  have hl := h.lt
  have hkl : kk < L.length := by have := h.len; omega
  refine ⟨by rw [List.length_set]; exact h.len, ?_, by rw [dedK_keep he, List.length_append, ← h.size]; rfl, by omega, fun j hj => ?_⟩
  · have e : (L.set kk (m.getD p d)).getD kk d = m.getD p d := by
      rw [List.getD_eq_getElem?_getD, List.getElem?_set_self hkl]
      rfl
    rw [takeG_snoc d _ _ (by rw [List.length_set]; exact hkl), dedK_keep he, List.take_set_of_le (Nat.le_refl _), h.kept, e]
  · have hne : kk ≠ j := by omega
    have := h.rest j (by omega)
    rw [List.getD_eq_getElem?_getD] at this ⊢
    rw [List.getElem?_set_ne hne]
    exact this
/-- Behind a sort, every key is left, once. -/
theorem dedK_spec {lt : β → β → Bool} (O : OrdG lt) (m : List α) (h : m.Pairwise fun a b => lt (key b) (key a) = false) : ∀ k, k ≤ m.length → SrtG lt ((dedK key d m k).map key) ∧ ∀ x, x ∈ (dedK key d m k).map key ↔ ∃ j, j < k ∧ key (m.getD j d) = x
  | 0, _ => ⟨List.Pairwise.nil, fun x => by simp [dedK]⟩
  | k + 1, hk => by
    obtain ⟨h1, h2⟩ := dedK_spec O m h k (by omega)
    unfold dedK
    split
    · rename_i he
      refine ⟨h1, fun x => ?_⟩
      rw [h2]
      constructor
      · rintro ⟨j, hj, e⟩; exact ⟨j, by omega, e⟩
      · rintro ⟨j, hj, e⟩
        by_cases hjk : j = k
        · exact ⟨k - 1, by omega, by rw [← he.2, ← hjk]; exact e⟩
        · exact ⟨j, by omega, e⟩
    · rename_i hne
      refine ⟨?_, fun x => ?_⟩
      · unfold SrtG
        rw [List.map_append, List.pairwise_append]
        refine ⟨h1, by simp, ?_⟩
        intro a ha b hb
        rw [List.map_cons, List.map_nil, List.mem_singleton] at hb
        subst hb
        obtain ⟨j, hj, rfl⟩ := (h2 a).1 ha
        have hle : ∀ i, i < k → lt (key (m.getD k d)) (key (m.getD i d)) = false := fun i hi => by
          have := List.pairwise_iff_getElem.1 h i k (by omega) (by omega) hi
          simpa [List.getD, show i < m.length by omega, show k < m.length by omega] using this
        have hlt : lt (key (m.getD (k - 1) d)) (key (m.getD k d)) = true := by
          cases h5 : lt (key (m.getD (k - 1) d)) (key (m.getD k d)) with
          | true => rfl
          | false => exact absurd ⟨by omega, O.total (hle (k - 1) (by omega)) h5⟩ hne
        by_cases hj2 : j = k - 1
        · rw [hj2]; exact hlt
        · have h6 := List.pairwise_iff_getElem.1 h j (k - 1) (by omega) (by omega) (by omega)
          have h7 : lt (key (m.getD (k - 1) d)) (key (m.getD j d)) = false := by simpa [List.getD, show j < m.length by omega, show k - 1 < m.length by omega] using h6
          cases h8 : lt (key (m.getD j d)) (key (m.getD k d)) with
          | true => rfl
          | false =>
            have e1 := O.total h8 (hle j (by omega))
            rw [e1] at h7
            rw [h7] at hlt
            cases hlt
      · rw [List.map_append, List.mem_append, h2, List.map_cons, List.map_nil, List.mem_singleton]
        constructor
        · rintro (⟨j, hj, e⟩ | e)
          · exact ⟨j, by omega, e⟩
          · exact ⟨k, by omega, e.symm⟩
        · rintro ⟨j, hj, e⟩
          by_cases hjk : j = k
          · exact .inr (by rw [← e, hjk])
          · exact .inl ⟨j, by omega, e⟩
/-- .. so what is left has the keys in order, each once. -/
theorem dedK_sortG {lt : β → β → Bool} (O : OrdG lt) (db : β) {m : List α} (h : m.Pairwise fun a b => lt (key b) (key a) = false) {l : List β} (hm : ∀ x, x ∈ m.map key ↔ x ∈ l) : (dedK key d m m.length).map key = sortG lt db l := by
  obtain ⟨h1, h2⟩ := dedK_spec (d := d) O m h m.length (Nat.le_refl _)
  refine sortG_unique O db h1 fun x => ?_
  rw [h2, ← hm]
  constructor
  · rintro ⟨j, hj, rfl⟩; exact List.mem_map.2 ⟨m[j], List.getElem_mem _, by simp [List.getD, hj]⟩
  · intro hx
    obtain ⟨a, ha, rfl⟩ := List.mem_map.1 hx
    obtain ⟨j, hj, rfl⟩ := List.getElem_of_mem ha
    exact ⟨j, hj, by simp [List.getD, hj]⟩
end
end

end Go.Proofs.YtkjlmgkjcmebbaaGreatDoor
