/-
  A number put into an ascending list, in the model: what the call gives.
  Motions in the model.
  Shapes moved to another place, in the model: what the call gives.
-/
import Derived.Test.YtkcclhnligajeaaGreatDoorVap
import Derived.Test.YtkcclhnligajeaaGreatDoorSrt
import Derived.Test.YtkcclhnligajeaaGreatDoorVac
import Derived.Test.YtkcclhnligajeaaGreatDoorPm2
import Derived.Deep.Onto
import Derived.Deep.RegionWith
import Derived.Deep.QuietTactic
import Derived.BigQuiet
import Derived.Shelf.SlSortCmp.QuietGrown
import Derived.Test.YtkcclhnligajeaaGreatDoorVad
namespace Go.Proofs.YtkcclhnligajeaaGreatDoor

section
open Go.RowKit

theorem iv_append (a b : List Int) : iv (a ++ b) = iv a ++ iv b := by simp [iv]
theorem own_lit_m {w : World} {B N : Nat} (h : w.heap.size = N) (hB : B ≤ N) : (w.alloc (.cells #[] 3)).ownsRow B 3 1 (.slice (some ⟨N, 0, none⟩) 0 0) 0 [] := by subst h; exact World.ownsRow_lit (base := B) (e := 3) (size := 1) w #[] 0 hB (by simp [maxLen]) rfl
theorem own_cap_m {w : World} {B n g cap : Nat} {t : TypeId} {xs : List Value} (h : w.ownsRow B t 1 (.slice (some ⟨g, 0, none⟩) n cap) n xs) : n ≤ cap := by
  rcases h.2 with ⟨e, _⟩ | ⟨g', cap', cur, e, _, _, h1, _⟩
  · cases e
  · injection e with _ _ e3
    omega
theorem liesV_on {w w' : World} {b off B : Nat} {l : List Value} (h : LiesV w ⟨b, off, none⟩ l) (hb : Below B w w') (hlt : b < B) : LiesV w' ⟨b, off, none⟩ l := fun j u hj => by
  rw [add_at]
  have := h j u hj
  rw [add_at] at this
  exact (hb.cell (p := ⟨b, off + j, none⟩) hlt).trans this
theorem own_lies {w : World} {B n g cap : Nat} {l : List Int} (h : w.ownsRow B 3 1 (.slice (some ⟨g, 0, none⟩) n cap) n (iv l)) (k : Nat) : LiesV w ⟨g, k, none⟩ (iv (l.drop k)) := by
  intro j u hj
  rw [add_at]
  have hl : l.length = n := by have := h.1; rw [iv_length] at this; omega
  have hlt := (List.getElem?_eq_some_iff.1 hj).1
  rw [iv_length, List.length_drop] at hlt
  have c0 := h.cellAt (k + j) (by omega)
  rw [c0, ← hj]
  unfold iv
  rw [List.getElem?_map, List.getElem?_map, List.getElem?_drop]
theorem posI_step {x : Int} {o : List Int} {k : Nat} (h : x < o.getD k 0) : posG ltI 0 x o (k + 1) = posG ltI 0 x o k := if_pos (by unfold ltI; simpa using h)
theorem posI_stop {x : Int} {o : List Int} {k : Nat} (h : ¬ x < o.getD k 0) : posG ltI 0 x o (k + 1) = k + 1 := if_neg (by unfold ltI; simpa using h)
theorem insI_yes {x : Int} {o : List Int} {k : Nat} (hp : posG ltI 0 x o o.length = k) (h : 0 < k ∧ o.getD (k - 1) 0 = x) : putM o x = o := by
  unfold putM insG
  rw [hp, if_pos h]
theorem insI_no {x : Int} {o : List Int} {k : Nat} (hp : posG ltI 0 x o o.length = k) (h : ¬ (0 < k ∧ o.getD (k - 1) 0 = x)) : putM o x = o.take k ++ [x] ++ o.drop k := by
  unfold putM insG
  rw [hp, if_neg h]
/-- Numbers of the call's own, in memory from base on. -/
def GivesI (base : Nat) (w : World) (L : List Int) (e : Ending) (w' : World) : Prop := ∃ g cap, e = .returned (.slice (some ⟨g, 0, none⟩) L.length cap) ∧ w'.ownsRow base 3 1 (.slice (some ⟨g, 0, none⟩) L.length cap) L.length (iv L) ∧ Below w.heap.size w w'

set_option maxHeartbeats 4000000 in
set_option maxRecDepth 100000 in
theorem sPutI (base g n cap : Nat) (l : List Int) (x : Int) (w : World) (hn2 : n ≤ 1000000) (hown : w.ownsRow base 3 1 (.slice (some ⟨g, 0, none⟩) n cap) n (iv l)) (hB : base ≤ w.heap.size) :
    Calls Tryz.prog 103 #[.slice (some ⟨g, 0, none⟩) n cap, .int .i64 x] w (GivesI base w (putM l x)) := by
  have hn : l.length = n := by have := hown.1; rw [iv_length] at this; omega
  have HO := Lib.hid hown
  have hgl := hown.lt g rfl
  have hcap := own_cap_m hown
  clear hown
  go_enter Tryz.func103, Tryz.ntmps103
  go_wp2
  go_loopw [5] (fun q wi => ∃ j : Nat, j ≤ n ∧ q = .int .i64 j ∧ Hid (posG ltI 0 x l n = posG ltI 0 x l j) ∧ Below w.heap.size w wi) (fun q _ => (intOf q).toNat)
  case atStart => exact ⟨n, Nat.le_refl _, rfl, rfl, Below.refl _ _⟩
  case round =>
    obtain ⟨j, hj, rfl, hpos, hbi⟩ := hrel
    have hszi := hbi.size
    obtain ⟨J, hJ⟩ : ∃ J : List Int, J = l.take j ++ [x] ++ l.drop j := ⟨_, rfl⟩
    by_cases hj0 : 0 < j
    · have hcell := HO.out.cellAt (j - 1) (by omega)
      rw [iv_get l (j - 1) (by omega)] at hcell
      have hcell := (hbi.cell (p := ⟨g, j - 1, none⟩) hgl.2).trans hcell
      obtain ⟨t, ht⟩ : ∃ t, l.getD (j - 1) 0 = t := ⟨_, rfl⟩
      rw [ht] at hcell
      have HT := Lib.hid ht
      have hj1 : (1 : Int) ≤ (j : Int) := by omega
      have hj2 : (j : Int) - 1 < (n : Int) := by omega
      have hj3 : (0 : Int) ≤ (j : Int) - 1 := by omega
      have hj4 : ((j : Int) - 1).toNat = j - 1 := by omega
      have hjw : IntKind.i64.wrap ((j : Int) - 1) = (j : Int) - 1 := IntWalk.i64_in _ (by omega)
      clear ht
      by_cases hcmp : x < t
      · have hp2 : posG ltI 0 x l n = posG ltI 0 x l (j - 1) := by
          have e := posI_step (x := x) (o := l) (k := j - 1) (by rw [HT.out]; exact hcmp)
          rw [show j - 1 + 1 = j by omega] at e
          rw [hpos.out, e]
        have HP2 := Lib.hid hp2
        clear hp2
        go_wp2
        go_roundw
        case rel => exact ⟨j - 1, by omega, by congr 1; omega, HP2.out, hbi⟩
        case measure => simp [intOf]; omega
      · have hp2 : posG ltI 0 x l l.length = j := by
          have e := posI_stop (x := x) (o := l) (k := j - 1) (by rw [HT.out]; exact hcmp)
          rw [show j - 1 + 1 = j by omega] at e
          rw [hn, hpos.out, e]
        have HP2 := Lib.hid hp2
        clear hp2
        by_cases hts : t = x
        · have he : putM l x = l := insI_yes HP2.out ⟨hj0, by rw [HT.out]; exact hts⟩
          have hq : (t == x) = true := by simpa using hts
          have HR := Lib.hid (show GivesI base w (putM l x) (.returned (.slice (some ⟨g, 0, none⟩) n cap)) wr from by
            rw [he]
            exact ⟨g, cap, by rw [hn], by rw [hn]; exact HO.out.kept (grow_below hbi none) (.inr (by intro e; cases e)), hbi⟩)
          clear he hts HT HP2 hpos
          go_wp2
          go_ret
          exact HR.out
        · have HE := Lib.hid (insI_no HP2.out (fun h => hts (by rw [← HT.out]; exact h.2)))
          have hq : (t == x) = false := by simpa using hts
          clear hJ
          go_wp2_with fail
          clear hj1 hj2 hj3 hj4 hjw hcmp hts hq HT HP2 hpos hcell
          have HB2 := Lib.hid hbi
          clear hbi
          obtain ⟨WW, rfl⟩ : ∃ y, y = wr := ⟨_, rfl⟩
          have hO := HO.out.kept (grow_below HB2.out none) (.inr (by intro e; cases e))
          have hgW : g < WW.heap.size := by omega
          have hvl : (iv l).length = n := by rw [iv_length, hn]
          have HONE := Lib.hid (iv_one l)
          have HL1 := Lib.hid (show LiesV WW ⟨g, 0, none⟩ ((iv l).take j) from fun q u hq => by
            have hq2 : (iv (l.drop 0))[q]? = some u := by
              rw [List.drop_zero]
              rw [List.getElem?_take] at hq
              split at hq
              · exact hq
              · cases hq
            exact own_lies hO 0 q u hq2)
          have hl2 : LiesV WW ⟨g, j, none⟩ ((iv l).drop j) := by have h9 := own_lies hO j; rwa [show iv (l.drop j) = (iv l).drop j from by unfold iv; rw [List.map_drop]] at h9
          obtain ⟨bo, haj, hl3⟩ : ∃ bo : Nat, (if cap = j then (some (⟨g, 0, none⟩ : Addr)) else some ⟨g, j, none⟩) = some ⟨g, bo, none⟩ ∧ LiesV WW ⟨g, bo, none⟩ ((iv l).drop j) := by
            by_cases hcj : cap = j
            · refine ⟨0, if_pos hcj, ?_⟩
              rw [List.drop_of_length_le (by rw [hvl]; omega)]
              intro q u9 hq
              simp at hq
            · exact ⟨j, if_neg hcj, hl2⟩
          have HAJ := Lib.hid haj
          have HL2 := Lib.hid hl3
          have HVL := Lib.hid hvl
          have HEV := Lib.hid (show iv (putM l x) = (iv l).take j ++ [.int .i64 x] ++ (iv l).drop j from by rw [HE.out]; simp [iv])
          have HBW := Lib.hid (show base ≤ WW.heap.size by have := HB2.out.size; omega)
          have hjm : (j : Int) ≤ (n : Int) := by omega
          have hj00 : (0 : Int) ≤ (j : Int) := by omega
          have hjc : (j : Int) ≤ (cap : Int) := by omega
          have hmc : (n : Int) ≤ (cap : Int) := by omega
          clear haj hl2 hl3 hO hvl
          go_region_held3 (fun w' => Held WW w')
            (first | (unfold Held; repeat' (first | exact Below.refl _ _ | exact hbS3 | exact hbS2 | exact hbS1 | refine Below.drew ?_ | refine Below.alloc ?_ ?_ _ | exact Nat.le_refl _ | exact hbS3.size | exact hbS2.size | exact hbS1.size | (simp; omega) | (simp; done))))
            (first
              | (refine step_ints rfl _ _ rfl WW.heap.size _ 0 0 [] ⟨g, 0, none⟩ j cap ((iv l).take j) rfl rfl ?a1 (by rw [List.length_take, HVL.out]; omega) ?a3 (fun u hu => HONE.out u (List.mem_of_mem_take hu)) (by omega) ?a5 _ rfl ?_; (case a1 => (first | exact own_lit_m (w := WW) rfl (Nat.le_refl _) | exact (own_lit_m (w := WW) rfl (Nat.le_refl _)).alloc _ | exact own_lit_m (w := WW.alloc _) (by simp) (by simp))); (case a3 => (refine liesV_on HL1.out ?_ hgW; (repeat' (first | exact Below.refl _ _ | exact hbS2 | exact hbS1 | refine Below.drew ?_ | refine Below.alloc ?_ ?_ _ | exact Nat.le_refl _ | exact hbS2.size | exact hbS1.size | (have h9 := hbS1.size; simp; omega) | (simp; omega) | (simp; done))))); (case a5 => (first | (simp; done) | (simp; omega))); intro g1 c1 w1 hown1 hgrow1 hat1 hgb1 hlt1; (simp only [Nat.zero_add, List.nil_append] at hown1); have hbS1 : Below WW.heap.size WW w1 := by (refine Below.grown (w := _) ?_ hgrow1 ?_ (fun k hk => by cases hk; first | exact Nat.le_refl _ | (simp; done) | (simp; omega)) <;> (repeat' (first | exact Below.refl _ _ | exact hbS2 | exact hbS1 | refine Below.drew ?_ | refine Below.alloc ?_ ?_ _ | exact Nat.le_refl _ | exact hbS2.size | exact hbS1.size | (have h9 := hbS1.size; simp; omega) | (simp; omega) | (simp; done)))))
              | (refine step_ints rfl _ _ rfl WW.heap.size g1 _ c1 ((iv l).take j) _ 1 1 [.int .i64 x] rfl rfl ?a1 rfl ?a3 (by simp [Value.oneCell']) ?a4 ?a5 _ rfl ?_; (case a1 => ((try simp only [Nat.zero_add]); first | exact hown1 | exact hown1.alloc _)); (case a4 => omega); (case a3 => (refine liesV_block (t := 3) (fr := (0, 0)) ?_; first | exact heap_alloc_new _ _ | (refine (hgrow1.block _ ?_ ?_).trans ?_ <;> first | (simp; done) | (simp; omega) | exact new_at (w := WW.alloc _) _ (by simp) | exact (Below.heap_alloc (WW.alloc _) _ _ (by simp)).trans (new_at _ rfl)))); (case a5 => (first | exact hbS1.size | (simp; omega) | (simp; have := hbS1.size; omega))); intro g2 c2' w2' hown2 hgrow2 hat2 hgb2 hlt2; (try simp only [Nat.zero_add] at hown2); have hbS2 : Below WW.heap.size WW w2' := by (refine Below.grown (w := _) ?_ hgrow2 ?_ (fun k hk => by cases hk; exact hgb1) <;> (repeat' (first | exact Below.refl _ _ | exact hbS2 | exact hbS1 | refine Below.drew ?_ | refine Below.alloc ?_ ?_ _ | exact Nat.le_refl _ | exact hbS2.size | exact hbS1.size | (have h9 := hbS1.size; simp; omega) | (simp; omega) | (simp; done)))))
              | (refine step_ints rfl _ _ rfl WW.heap.size g2 _ c2' ((iv l).take j ++ [.int .i64 x]) ⟨g, bo, none⟩ (n - j) (cap - j) ((iv l).drop j) rfl (congrArg (fun z => Value.slice z (n - j) (cap - j)) HAJ.out) ?a1 ?a2 ?a3 (fun u hu => HONE.out u (List.mem_of_mem_drop hu)) ?a4 ?a5 _ rfl ?_; (case a2 => (rw [List.length_drop, HVL.out])); (case a1 => ((try simp only [Nat.zero_add]); exact hown2)); (case a4 => omega); (case a3 => (exact liesV_on HL2.out hbS2 hgW)); (case a5 => (exact hbS2.size)); intro g3 c3' w3 hown3 hgrow3 hat3 hgb3 hlt3; have hbS3 : Below WW.heap.size WW w3 := Below.grown hbS2 hgrow3 hbS2.size (fun k hk => by cases hk; exact hgb2)))
          all_goals
            (try simp only [Nat.zero_add] at hown3)
            have HB3 := Lib.hid (HB2.out.trans (hbS3.mono HB2.out.size))
            have hlen : (putM l x).length = j + 1 + (n - j) := by rw [HE.out]; simp [hn]; omega
            have HR := Lib.hid (show GivesI base w (putM l x) (.returned (.slice (some ⟨g3, 0, none⟩) (j + 1 + (n - j)) c3')) w3 from ⟨g3, c3', by rw [hlen], by rw [hlen, HEV.out]; exact own_below hown3 HBW.out, HB3.out⟩)
            clear hown1 hown2 hown3 hbS1 hbS2 hbS3 hgrow1 hgrow2 hgrow3 hlen
            simp only [Exit.then]
            go_wp2
            all_goals
              go_ret
              exact HR.out
    · have hp2 : posG ltI 0 x l l.length = 0 := by
        rw [hn, hpos.out, show j = 0 by omega]
        rfl
      have he : putM l x = l.take j ++ [x] ++ l.drop j := by
        have h9 := insI_no hp2 (fun h => by omega)
        rw [show j = 0 by omega]
        exact h9
      have HE := Lib.hid he
      have hd : decide ((0 : Int) < (j : Int)) = false := by simp; omega
      clear hp2 he hJ
      go_wp2_with fail
      have HB2 := Lib.hid hbi
      clear hbi hszi hd hpos
      obtain ⟨WW, rfl⟩ : ∃ y, y = wr := ⟨_, rfl⟩
      have hszW := HB2.out.size
      have hO := HO.out.kept (grow_below HB2.out none) (.inr (by intro e; cases e))
      have hgW : g < WW.heap.size := by omega
      have hvl : (iv l).length = n := by rw [iv_length, hn]
      have HONE := Lib.hid (iv_one l)
      have HL1 := Lib.hid (show LiesV WW ⟨g, 0, none⟩ ((iv l).take j) from fun q u hq => by
        have hq2 : (iv (l.drop 0))[q]? = some u := by
          rw [List.drop_zero]
          rw [List.getElem?_take] at hq
          split at hq
          · exact hq
          · cases hq
        exact own_lies hO 0 q u hq2)
      have hl2 : LiesV WW ⟨g, j, none⟩ ((iv l).drop j) := by have h9 := own_lies hO j; rwa [show iv (l.drop j) = (iv l).drop j from by unfold iv; rw [List.map_drop]] at h9
      obtain ⟨bo, haj, hl3⟩ : ∃ bo : Nat, (if cap = j then (some (⟨g, 0, none⟩ : Addr)) else some ⟨g, j, none⟩) = some ⟨g, bo, none⟩ ∧ LiesV WW ⟨g, bo, none⟩ ((iv l).drop j) := by
        by_cases hcj : cap = j
        · refine ⟨0, if_pos hcj, ?_⟩
          rw [List.drop_of_length_le (by rw [hvl]; omega)]
          intro q u9 hq
          simp at hq
        · exact ⟨j, if_neg hcj, hl2⟩
      have HAJ := Lib.hid haj
      have HL2 := Lib.hid hl3
      have HVL := Lib.hid hvl
      have HEV := Lib.hid (show iv (putM l x) = (iv l).take j ++ [.int .i64 x] ++ (iv l).drop j from by rw [HE.out]; simp [iv])
      have HBW := Lib.hid (show base ≤ WW.heap.size by omega)
      have hjm : (j : Int) ≤ (n : Int) := by omega
      have hj00 : (0 : Int) ≤ (j : Int) := by omega
      have hjc : (j : Int) ≤ (cap : Int) := by omega
      have hmc : (n : Int) ≤ (cap : Int) := by omega
      clear haj hl2 hl3 hO hvl hszW
      go_region_held3 (fun w' => Held WW w')
        (first | (unfold Held; repeat' (first | exact Below.refl _ _ | exact hbS3 | exact hbS2 | exact hbS1 | refine Below.drew ?_ | refine Below.alloc ?_ ?_ _ | exact Nat.le_refl _ | exact hbS3.size | exact hbS2.size | exact hbS1.size | (simp; omega) | (simp; done))))
        (first
          | (refine step_ints rfl _ _ rfl WW.heap.size _ 0 0 [] ⟨g, 0, none⟩ j cap ((iv l).take j) rfl rfl ?a1 (by rw [List.length_take, HVL.out]; omega) ?a3 (fun u hu => HONE.out u (List.mem_of_mem_take hu)) (by omega) ?a5 _ rfl ?_; (case a1 => (first | exact own_lit_m (w := WW) rfl (Nat.le_refl _) | exact (own_lit_m (w := WW) rfl (Nat.le_refl _)).alloc _ | exact own_lit_m (w := WW.alloc _) (by simp) (by simp))); (case a3 => (refine liesV_on HL1.out ?_ hgW; (repeat' (first | exact Below.refl _ _ | exact hbS2 | exact hbS1 | refine Below.drew ?_ | refine Below.alloc ?_ ?_ _ | exact Nat.le_refl _ | exact hbS2.size | exact hbS1.size | (have h9 := hbS1.size; simp; omega) | (simp; omega) | (simp; done))))); (case a5 => (first | (simp; done) | (simp; omega))); intro g1 c1 w1 hown1 hgrow1 hat1 hgb1 hlt1; (simp only [Nat.zero_add, List.nil_append] at hown1); have hbS1 : Below WW.heap.size WW w1 := by (refine Below.grown (w := _) ?_ hgrow1 ?_ (fun k hk => by cases hk; first | exact Nat.le_refl _ | (simp; done) | (simp; omega)) <;> (repeat' (first | exact Below.refl _ _ | exact hbS2 | exact hbS1 | refine Below.drew ?_ | refine Below.alloc ?_ ?_ _ | exact Nat.le_refl _ | exact hbS2.size | exact hbS1.size | (have h9 := hbS1.size; simp; omega) | (simp; omega) | (simp; done)))))
          | (refine step_ints rfl _ _ rfl WW.heap.size g1 _ c1 ((iv l).take j) _ 1 1 [.int .i64 x] rfl rfl ?a1 rfl ?a3 (by simp [Value.oneCell']) ?a4 ?a5 _ rfl ?_; (case a1 => ((try simp only [Nat.zero_add]); first | exact hown1 | exact hown1.alloc _)); (case a4 => omega); (case a3 => (refine liesV_block (t := 3) (fr := (0, 0)) ?_; first | exact heap_alloc_new _ _ | (refine (hgrow1.block _ ?_ ?_).trans ?_ <;> first | (simp; done) | (simp; omega) | exact new_at (w := WW.alloc _) _ (by simp) | exact (Below.heap_alloc (WW.alloc _) _ _ (by simp)).trans (new_at _ rfl)))); (case a5 => (first | exact hbS1.size | (simp; omega) | (simp; have := hbS1.size; omega))); intro g2 c2' w2' hown2 hgrow2 hat2 hgb2 hlt2; (try simp only [Nat.zero_add] at hown2); have hbS2 : Below WW.heap.size WW w2' := by (refine Below.grown (w := _) ?_ hgrow2 ?_ (fun k hk => by cases hk; exact hgb1) <;> (repeat' (first | exact Below.refl _ _ | exact hbS2 | exact hbS1 | refine Below.drew ?_ | refine Below.alloc ?_ ?_ _ | exact Nat.le_refl _ | exact hbS2.size | exact hbS1.size | (have h9 := hbS1.size; simp; omega) | (simp; omega) | (simp; done)))))
          | (refine step_ints rfl _ _ rfl WW.heap.size g2 _ c2' ((iv l).take j ++ [.int .i64 x]) ⟨g, bo, none⟩ (n - j) (cap - j) ((iv l).drop j) rfl (congrArg (fun z => Value.slice z (n - j) (cap - j)) HAJ.out) ?a1 ?a2 ?a3 (fun u hu => HONE.out u (List.mem_of_mem_drop hu)) ?a4 ?a5 _ rfl ?_; (case a2 => (rw [List.length_drop, HVL.out])); (case a1 => ((try simp only [Nat.zero_add]); exact hown2)); (case a4 => omega); (case a3 => (exact liesV_on HL2.out hbS2 hgW)); (case a5 => (exact hbS2.size)); intro g3 c3' w3 hown3 hgrow3 hat3 hgb3 hlt3; have hbS3 : Below WW.heap.size WW w3 := Below.grown hbS2 hgrow3 hbS2.size (fun k hk => by cases hk; exact hgb2)))
      all_goals
        (try simp only [Nat.zero_add] at hown3)
        have HB3 := Lib.hid (HB2.out.trans (hbS3.mono HB2.out.size))
        have hlen : (putM l x).length = j + 1 + (n - j) := by rw [HE.out]; simp [hn]; omega
        have HR := Lib.hid (show GivesI base w (putM l x) (.returned (.slice (some ⟨g3, 0, none⟩) (j + 1 + (n - j)) c3')) w3 from ⟨g3, c3', by rw [hlen], by rw [hlen, HEV.out]; exact own_below hown3 HBW.out, HB3.out⟩)
        clear hown1 hown2 hown3 hbS1 hbS2 hbS3 hgrow1 hgrow2 hgrow3 hlen
        simp only [Exit.then]
        go_wp2
        all_goals
          go_ret
          exact HR.out
end

section
open Go.RowKit

def twoBlk (w : World) (x y : Int) : World := (w.alloc (.cells #[.int .i64 x, .int .i64 y] 126)).alloc (.cells #[.int .i64 0, .int .i64 0] 126)

theorem inW_of_inR {c : Cl} (h : inR 7 c) : inW c := by
  unfold inR at h
  unfold inW
  omega

set_option maxHeartbeats 1000000 in
set_option maxRecDepth 100000 in
theorem sApply (x y : Int) (m : Nat) (w : World) (hm : m ≤ 7) (hx : inR 1000 (x, y)) :
    Calls Tryz.prog 181 #[.agg #[.int .i64 x, .int .i64 y], .int .i64 m] w fun e w' => e = .returned (.agg #[.int .i64 (apM m (x, y)).1, .int .i64 (apM m (x, y)).2]) ∧ (∃ q os', w' = Go.Sort.grow (w.drewN q) os') ∧ Below w.heap.size w w' := by
  have HF := Lib.hid (flipC_in m hx)
  have hx' := hx
  unfold inR at hx'
  dsimp only at hx'
  have hmod : (m : Int).tmod 4 = ((m % 4 : Nat) : Int) := by rw [Int.tmod_eq_emod_of_nonneg (by omega)]; omega
  obtain ⟨X0, Y0, hfl⟩ : ∃ X0 Y0, flipC m (x, y) = (X0, Y0) := ⟨_, _, rfl⟩
  have HM : Hid (apM m (x, y) = rotN (m % 4) (X0, Y0)) := by unfold apM; rw [hfl]; exact rfl
  rw [hfl] at HF
  rw [HM.out]
  have hfl2 := hfl
  unfold flipC at hfl2
  clear hfl
  by_cases h4 : 4 ≤ m
  focus
    rw [if_pos h4] at hfl2
    injection hfl2 with e1 e2
    subst e1 e2
    go_enter Tryz.func181, Tryz.ntmps181
    go_wp2
    go_loopw [5] (fun i wr => ∃ (k : Nat) (X Y : Int), k ≤ m % 4 ∧ i = .int .i64 k ∧ (X, Y) = rotN k (-x, y) ∧ wr = twoBlk w X Y) (fun i _ => 4 - (intOf i).toNat)
  rotate_left 2
  focus
    rw [if_neg h4] at hfl2
    injection hfl2 with e1 e2
    subst e1 e2
    go_enter Tryz.func181, Tryz.ntmps181
    go_wp2
    go_loopw [5] (fun i wr => ∃ (k : Nat) (X Y : Int), k ≤ m % 4 ∧ i = .int .i64 k ∧ (X, Y) = rotN k (x, y) ∧ wr = twoBlk w X Y) (fun i _ => 4 - (intOf i).toNat)
  case atStart => exact ⟨0, x, y, by omega, rfl, rfl, rfl⟩
  case atStart => exact ⟨0, -x, y, by omega, rfl, rfl, rfl⟩
  all_goals
    obtain ⟨k, X, Y, hk, rfl, hXY, rfl⟩ := hrel
    unfold twoBlk
    have hb := rotN_in k HF.out
    rw [← hXY] at hb
    unfold inR at hb
    dsimp only at hb
    by_cases hlt : k < m % 4
  all_goals first | (
    have hi : (k : Int) < ((m % 4 : Nat) : Int) := by omega
    have hnext := congrArg rotC hXY
    simp only [rotC] at hnext
    go_wp2
    go_roundw
    case rel => exact ⟨k + 1, -Y, X, by omega, by go_num, hnext, rfl⟩
    case measure => simp [intOf]; omega) | (
    obtain rfl : k = m % 4 := by omega
    go_wp2
    (try simp only [Exit.inBlock, Exit.then])
    refine bodyPost_ret (v := .agg #[.int .i64 X, .int .i64 Y]) (by simp [results, Tryz.results181, go_sem]) rfl ?_
    exact ⟨by rw [← hXY], ⟨0, _, by rw [Go.Sort.alloc_eq_grow, Go.Sort.alloc_eq_grow, Go.Sort.grow_grow]; rfl⟩, ((Below.refl _ _).alloc (Nat.le_refl _) _).alloc (by simp) _⟩)

/-- The cells turned, before they are put in order. -/
theorem inC_ofs {p q : Int} (h1 : -9223372036854775808 ≤ p ∧ p ≤ 9223372036854775807) (h2 : -9223372036854775808 ≤ q ∧ q ≤ 9223372036854775807) : InC (p, q) := by
  unfold InC
  exact ⟨by omega, by omega⟩
theorem map_apM_in (m : Nat) (l : List Cl) (h : ∀ c ∈ l, inP c = true) : ∀ c ∈ l.map (apM m), inR 7 c := by
  intro c hc
  obtain ⟨d, hd, rfl⟩ := List.mem_map.1 hc
  exact apM_in m (inR_of_inP (h d hd))

set_option maxHeartbeats 2000000 in
set_option maxRecDepth 100000 in
theorem sTurn (B n cap m : Nat) (a : Option Addr) (l : List Cl) (w : World) (hm : m ≤ 7) (hn : n ≤ 1048576) (hc : CellsAt B w a n l) (hp : ∀ c ∈ l, inP c = true) (hB : B ≤ w.heap.size) :
    Calls Tryz.prog 159 #[.slice a n cap, .int .i64 m] w (GivesC w (turnC m l)) := by
  have H := Lib.hid hc
  have HP := Lib.hid hp
  clear hc hp
  go_enter Tryz.func159, Tryz.ntmps159
  go_wp2
  go_loopw [5, 6] (fun v i wr => ∃ (j g cc : Nat), j ≤ n ∧ i = .int .i64 j ∧ v = .slice (some ⟨g, 0, none⟩) j cc ∧ wr.ownsRow w.heap.size 126 2 (.slice (some ⟨g, 0, none⟩) j cc) j (cvs ((l.take j).map (apM m))) ∧ Below w.heap.size w wr) (fun _ i _ => n - (intOf i).toNat)
  case atStart => exact ⟨0, w.heap.size, 0, by omega, rfl, rfl, by simpa [cvs] using World.ownsRow_lit (base := w.heap.size) (e := 126) (size := 2) w #[] 0 (Nat.le_refl _) (by simp [maxLen]) rfl, (Below.refl _ _).alloc (Nat.le_refl _) _⟩
  case round =>
    obtain ⟨j, g, cc, hj, rfl, rfl, hown, hb⟩ := hrel
    have hsz := hb.size
    by_cases hlt : j < n
    · obtain ⟨b1, o1, rfl, hb1, hc1⟩ := H.out.2.2 (by omega)
      obtain ⟨x, y, hxy⟩ : ∃ x y, l.getD j (0, 0) = (x, y) := ⟨_, _, rfl⟩
      have p1 := (hb.cell (p := ⟨b1, o1 + j * 2, none⟩) (Nat.lt_of_lt_of_le hb1 hB)).trans (hc1 j hlt).1
      have p2 := (hb.cell (p := ⟨b1, o1 + j * 2 + 1, none⟩) (Nat.lt_of_lt_of_le hb1 hB)).trans (hc1 j hlt).2
      rw [hxy] at p1 p2
      have hpx := HP.out _ (getD_mem (l := l) (j := j) (by rw [H.out.1]; exact hlt))
      rw [hxy] at hpx
      have HX := Lib.hid hxy
      have hk0 : (0 : Int) ≤ (j : Int) := by omega
      have hk1 : (j : Int) < (n : Int) := by omega
      have hbl : b1 < wr.heap.size := by omega
      have hgl := hown.lt g rfl
      have hne : g ≠ b1 := by omega
      clear hxy hc1
      go_wp2_with fail
      refine (sApply x y m _ hm (by have := inR_of_inP hpx; unfold inR at *; omega)).mono ?_
      rintro e w1 ⟨rfl, -, hb1'⟩
      obtain ⟨X, Y, hXY⟩ : ∃ X Y, apM m (x, y) = (X, Y) := ⟨_, _, rfl⟩
      have hstep := map_step (apM m) l j (by rw [H.out.1]; exact hlt)
      rw [HX.out, hXY] at hstep
      have HST := Lib.hid hstep
      have hin := apM_in m (inR_of_inP hpx)
      rw [hXY] at hin
      unfold inR at hin
      dsimp only at hin
      have hownA := hown.kept (grow_below hb1' none) (.inr (by intro e; cases e))
      have hsz1 := hb1'.size
      have HBW := Lib.hid (hb.trans (hb1'.mono hsz))
      have HOWN := Lib.hid hownA
      rw [hXY]
      dsimp only
      clear hstep hXY p1 p2 hpx hown hownA hb1' hb
      go_wp2_with (first | (at_builtin; refine wpList_cells rfl _ _ rfl w.heap.size g j cc ((l.take j).map (apM m)) ⟨w1.heap.size, 0, none⟩ 1 1 [(X, Y)] rfl rfl (HOWN.out.alloc _) rfl (lies_block (t := 126) (fr := (0, 0)) (heap_alloc_new _ _)) ?c4 ?c5 (w1.heap.size + 1) ?c6 ?_) | go_in)
      case c4 => omega
      case c5 => simp; omega
      case c6 => simp
      intro g' cc' w2 hown2 hgrow2 hat2 hgb2 hlt2
      have hstep2 := HST.out
      rw [List.map_take] at hstep2
      rw [hstep2] at hown2
      have HO2 := Lib.hid hown2
      have HB2 := Lib.hid ((HBW.out.alloc (Nat.le_trans hsz hsz1) (.cells #[.int .i64 X, .int .i64 Y] 126)).grown hgrow2 (by simp; omega) (fun i hi => by cases hi; exact hgl.1))
      clear hown2 hgrow2 hat2 hstep2
      go_wp2
      go_roundw
      case rel => exact ⟨j + 1, g', cc', by omega, by go_num, rfl, HO2.out, HB2.out⟩
      case measure => simp [intOf]; omega
    · obtain rfl : j = n := by omega
      have e : l.take j = l := List.take_of_length_le (by rw [H.out.1]; exact Nat.le_refl _)
      rw [e] at hown
      have hmi := map_apM_in m l HP.out
      have hll : (l.map (apM m)).length = j := by rw [List.length_map, H.out.1]
      have HA := Lib.hid (CellsAt.of_own hown (fun c hc => by have := hmi c hc; unfold inR at this; exact inC_ofs (by omega) (by omega)))
      have HMI := Lib.hid hmi
      have HB1 := Lib.hid hb
      clear hown hmi e hb
      go_wp2_with fail
      refine (sSort wr.heap.size j cc (some ⟨g, 0, none⟩) (l.map (apM m)) wr hn HA.out (Nat.le_refl _)).mono ?_
      rintro e w3 ⟨g3, c3, rfl, hown3, hb3⟩
      have hsl := sortU_len (l.map (apM m))
      have hsi : ∀ c ∈ sortU (l.map (apM m)), inR 7 c := fun c hc => HMI.out c ((sortU_mem _ c).1 hc)
      have HA3 := Lib.hid (CellsAt.of_own hown3 (fun c hc => by have := hsi c hc; unfold inR at this; exact inC_ofs (by omega) (by omega)))
      have HSI := Lib.hid hsi
      have HB3 := Lib.hid (HB1.out.trans (hb3.mono hsz))
      have hsz3 := HB3.out.size
      clear hown3 hsi hb3
      go_wp2_with fail
      refine (sCornerW w3.heap.size (sortU (l.map (apM m))).length c3 _ (sortU (l.map (apM m))) w3 (by omega) HA3.out (fun c hc => inW_of_inR (HSI.out c hc)) (Nat.le_refl _)).mono ?_
      rintro e w4 ⟨g4, c4, rfl, hown4, hb4⟩
      have HR := Lib.hid (show GivesC w (turnC m l) (.returned (.slice (some ⟨g4, 0, none⟩) (cornerC (sortU (l.map (apM m)))).length c4)) w4 from ⟨g4, c4, rfl, own_below hown4 hsz3, HB3.out.trans (hb4.mono hsz3)⟩)
      clear hown4 hb4
      go_wp2
      go_ret
      exact HR.out
end

section
open Go.RowKit

theorem moveC_in {x y : Int} {l : List Cl} (hp : ∀ c ∈ l, inP c = true) (hx : inb x (-7) 7 = true) (hy : inb y (-7) 7 = true) : ∀ c ∈ moveC x y l, InC c := by
  intro c hc
  obtain ⟨d, hd, rfl⟩ := List.mem_map.1 hc
  have := inP_out (hp d hd)
  simp [inb] at hx hy
  unfold InC
  dsimp only
  omega
end

end Go.Proofs.YtkcclhnligajeaaGreatDoor
