/-
  A number put into an ascending list, in the model: what the call gives.
  Where a shape can lie, in the model: what the call gives.
  Placements of several shapes, those that have a cell: in the model: what the calls give.
-/
import Derived.Test.YtghpljoccclmkaaGreatApv
import Derived.Test.YtghpljoccclmkaaGreatSrt
import Derived.Test.YtghpljoccclmkaaGreatRga
import Derived.Test.YtghpljoccclmkaaGreatPma
import Derived.Test.YtghpljoccclmkaaGreatSm2
import Derived.Test.YtghpljoccclmkaaGreatMon
import Derived.Test.YtghpljoccclmkaaGreatCap
import Derived.Test.YtghpljoccclmkaaGreatSm4
import Derived.Lib.QuietBelow
namespace Go.Proofs.YtghpljoccclmkaaGreat

section
open Go.RowKit

theorem iv_append (a b : List Int) : iv (a ++ b) = iv a ++ iv b := by simp [iv]
theorem own_lit_m {w : World} {B N : Nat} (h : w.heap.size = N) (hB : B ≤ N) : (w.alloc (.cells #[] 3)).ownsRow B 3 1 (.slice (some ⟨N, 0, none⟩) 0 0) 0 [] := by subst h; exact World.ownsRow_lit (base := B) (e := 3) (size := 1) w #[] 0 hB (by simp [maxLen]) rfl
theorem own_cap_m {w : World} {B n g cap : Nat} {t : TypeId} {xs : List Value} (h : w.ownsRow B t 1 (.slice (some ⟨g, 0, none⟩) n cap) n xs) : n ≤ cap := by
  rcases h.2 with ⟨e, _⟩ | ⟨g', cap', cur, e, _, _, h1, _⟩
  · cases e
  · injection e with _ _ e3
    omega
theorem liesV_on {w w' : World} {b off B : Nat} {l : List Value} (h : LiesV w ⟨b, off, none⟩ l) (hb : Below B w w') (hlt : b < B) : LiesV w' ⟨b, off, none⟩ l := fun j u hj => by
  rw [add_at]
  have := h j u hj
  rw [add_at] at this
  exact (hb.cell (p := ⟨b, off + j, none⟩) hlt).trans this
theorem own_lies {w : World} {B n g cap : Nat} {l : List Int} (h : w.ownsRow B 3 1 (.slice (some ⟨g, 0, none⟩) n cap) n (iv l)) (k : Nat) : LiesV w ⟨g, k, none⟩ (iv (l.drop k)) := by
  intro j u hj
  rw [add_at]
  have hl : l.length = n := by have := h.1; rw [iv_length] at this; omega
  have hlt := (List.getElem?_eq_some_iff.1 hj).1
  rw [iv_length, List.length_drop] at hlt
  have c0 := h.cellAt (k + j) (by omega)
  rw [c0, ← hj]
  unfold iv
  rw [List.getElem?_map, List.getElem?_map, List.getElem?_drop]
theorem posI_step {x : Int} {o : List Int} {k : Nat} (h : x < o.getD k 0) : posG ltI 0 x o (k + 1) = posG ltI 0 x o k := if_pos (by unfold ltI; simpa using h)
theorem posI_stop {x : Int} {o : List Int} {k : Nat} (h : ¬ x < o.getD k 0) : posG ltI 0 x o (k + 1) = k + 1 := if_neg (by unfold ltI; simpa using h)
theorem insI_yes {x : Int} {o : List Int} {k : Nat} (hp : posG ltI 0 x o o.length = k) (h : 0 < k ∧ o.getD (k - 1) 0 = x) : putM o x = o := by
  unfold putM insG
  rw [hp, if_pos h]
theorem insI_no {x : Int} {o : List Int} {k : Nat} (hp : posG ltI 0 x o o.length = k) (h : ¬ (0 < k ∧ o.getD (k - 1) 0 = x)) : putM o x = o.take k ++ [x] ++ o.drop k := by
  unfold putM insG
  rw [hp, if_neg h]
/-- Numbers of the call's own, in memory from base on. -/
def GivesI (base : Nat) (w : World) (L : List Int) (e : Ending) (w' : World) : Prop := ∃ g cap, e = .returned (.slice (some ⟨g, 0, none⟩) L.length cap) ∧ w'.ownsRow base 3 1 (.slice (some ⟨g, 0, none⟩) L.length cap) L.length (iv L) ∧ Below w.heap.size w w'

set_option maxHeartbeats 4000000 in
set_option maxRecDepth 100000 in
theorem sPutI (base g n cap : Nat) (l : List Int) (x : Int) (w : World) (hn2 : n ≤ 1000000) (hown : w.ownsRow base 3 1 (.slice (some ⟨g, 0, none⟩) n cap) n (iv l)) (hB : base ≤ w.heap.size) :
    Calls Tryz.prog 31 #[.slice (some ⟨g, 0, none⟩) n cap, .int .i64 x] w (GivesI base w (putM l x)) := by
  have hn : l.length = n := by have := hown.1; rw [iv_length] at this; omega
  have HO := Lib.hid hown
  have hgl := hown.lt g rfl
  have hcap := own_cap_m hown
  clear hown
  go_enter Tryz.func31, Tryz.ntmps31
  go_wp2
  go_loopw [5] (fun q wi => ∃ j : Nat, j ≤ n ∧ q = .int .i64 j ∧ Hid (posG ltI 0 x l n = posG ltI 0 x l j) ∧ Below w.heap.size w wi) (fun q _ => (intOf q).toNat)
  case atStart => exact ⟨n, Nat.le_refl _, rfl, rfl, Below.refl _ _⟩
  case round =>
    obtain ⟨j, hj, rfl, hpos, hbi⟩ := hrel
    have hszi := hbi.size
    obtain ⟨J, hJ⟩ : ∃ J : List Int, J = l.take j ++ [x] ++ l.drop j := ⟨_, rfl⟩
    by_cases hj0 : 0 < j
    · have hcell := HO.out.cellAt (j - 1) (by omega)
      rw [iv_get l (j - 1) (by omega)] at hcell
      have hcell := (hbi.cell (p := ⟨g, j - 1, none⟩) hgl.2).trans hcell
      obtain ⟨t, ht⟩ : ∃ t, l.getD (j - 1) 0 = t := ⟨_, rfl⟩
      rw [ht] at hcell
      have HT := Lib.hid ht
      have hj1 : (1 : Int) ≤ (j : Int) := by omega
      have hj2 : (j : Int) - 1 < (n : Int) := by omega
      have hj3 : (0 : Int) ≤ (j : Int) - 1 := by omega
      have hj4 : ((j : Int) - 1).toNat = j - 1 := by omega
      have hjw : IntKind.i64.wrap ((j : Int) - 1) = (j : Int) - 1 := IntWalk.i64_in _ (by omega)
      clear ht
      by_cases hcmp : x < t
      · have hp2 : posG ltI 0 x l n = posG ltI 0 x l (j - 1) := by
          have e := posI_step (x := x) (o := l) (k := j - 1) (by rw [HT.out]; exact hcmp)
          rw [show j - 1 + 1 = j by omega] at e
          rw [hpos.out, e]
        have HP2 := Lib.hid hp2
        clear hp2
        go_wp2
        go_roundw
        case rel => exact ⟨j - 1, by omega, by congr 1; omega, HP2.out, hbi⟩
        case measure => simp [intOf]; omega
      · have hp2 : posG ltI 0 x l l.length = j := by
          have e := posI_stop (x := x) (o := l) (k := j - 1) (by rw [HT.out]; exact hcmp)
          rw [show j - 1 + 1 = j by omega] at e
          rw [hn, hpos.out, e]
        have HP2 := Lib.hid hp2
        clear hp2
        by_cases hts : t = x
        · have he : putM l x = l := insI_yes HP2.out ⟨hj0, by rw [HT.out]; exact hts⟩
          have hq : (t == x) = true := by simpa using hts
          have HR := Lib.hid (show GivesI base w (putM l x) (.returned (.slice (some ⟨g, 0, none⟩) n cap)) wr from by
            rw [he]
            exact ⟨g, cap, by rw [hn], by rw [hn]; exact HO.out.kept (grow_below hbi none) (.inr (by intro e; cases e)), hbi⟩)
          clear he hts HT HP2 hpos
          go_wp2
          go_ret
          exact HR.out
        · have HE := Lib.hid (insI_no HP2.out (fun h => hts (by rw [← HT.out]; exact h.2)))
          have hq : (t == x) = false := by simpa using hts
          clear hJ
          go_wp2_with fail
          clear hj1 hj2 hj3 hj4 hjw hcmp hts hq HT HP2 hpos hcell
          have HB2 := Lib.hid hbi
          clear hbi
          obtain ⟨WW, rfl⟩ : ∃ y, y = wr := ⟨_, rfl⟩
          have hO := HO.out.kept (grow_below HB2.out none) (.inr (by intro e; cases e))
          have hgW : g < WW.heap.size := by omega
          have hvl : (iv l).length = n := by rw [iv_length, hn]
          have HONE := Lib.hid (iv_one l)
          have HL1 := Lib.hid (show LiesV WW ⟨g, 0, none⟩ ((iv l).take j) from fun q u hq => by
            have hq2 : (iv (l.drop 0))[q]? = some u := by
              rw [List.drop_zero]
              rw [List.getElem?_take] at hq
              split at hq
              · exact hq
              · cases hq
            exact own_lies hO 0 q u hq2)
          have hl2 : LiesV WW ⟨g, j, none⟩ ((iv l).drop j) := by have h9 := own_lies hO j; rwa [show iv (l.drop j) = (iv l).drop j from by unfold iv; rw [List.map_drop]] at h9
          obtain ⟨bo, haj, hl3⟩ : ∃ bo : Nat, (if cap = j then (some (⟨g, 0, none⟩ : Addr)) else some ⟨g, j, none⟩) = some ⟨g, bo, none⟩ ∧ LiesV WW ⟨g, bo, none⟩ ((iv l).drop j) := by
            by_cases hcj : cap = j
            · refine ⟨0, if_pos hcj, ?_⟩
              rw [List.drop_of_length_le (by rw [hvl]; omega)]
              intro q u9 hq
              simp at hq
            · exact ⟨j, if_neg hcj, hl2⟩
          have HAJ := Lib.hid haj
          have HL2 := Lib.hid hl3
          have HVL := Lib.hid hvl
          have HEV := Lib.hid (show iv (putM l x) = (iv l).take j ++ [.int .i64 x] ++ (iv l).drop j from by rw [HE.out]; simp [iv])
          have HBW := Lib.hid (show base ≤ WW.heap.size by have := HB2.out.size; omega)
          have hjm : (j : Int) ≤ (n : Int) := by omega
          have hj00 : (0 : Int) ≤ (j : Int) := by omega
          have hjc : (j : Int) ≤ (cap : Int) := by omega
          have hmc : (n : Int) ≤ (cap : Int) := by omega
          clear haj hl2 hl3 hO hvl
          go_region_held3 (fun w' => Held WW w')
            (first | (unfold Held; repeat' (first | exact Below.refl _ _ | exact hbS3 | exact hbS2 | exact hbS1 | refine Below.drew ?_ | refine Below.alloc ?_ ?_ _ | exact Nat.le_refl _ | exact hbS3.size | exact hbS2.size | exact hbS1.size | (simp; omega) | (simp; done))))
            (first
              | (refine step_ints rfl _ _ rfl WW.heap.size _ 0 0 [] ⟨g, 0, none⟩ j cap ((iv l).take j) rfl rfl ?a1 (by rw [List.length_take, HVL.out]; omega) ?a3 (fun u hu => HONE.out u (List.mem_of_mem_take hu)) (by omega) ?a5 _ rfl ?_; (case a1 => (first | exact own_lit_m (w := WW) rfl (Nat.le_refl _) | exact (own_lit_m (w := WW) rfl (Nat.le_refl _)).alloc _ | exact own_lit_m (w := WW.alloc _) (by simp) (by simp))); (case a3 => (refine liesV_on HL1.out ?_ hgW; (repeat' (first | exact Below.refl _ _ | exact hbS2 | exact hbS1 | refine Below.drew ?_ | refine Below.alloc ?_ ?_ _ | exact Nat.le_refl _ | exact hbS2.size | exact hbS1.size | (have h9 := hbS1.size; simp; omega) | (simp; omega) | (simp; done))))); (case a5 => (first | (simp; done) | (simp; omega))); intro g1 c1 w1 hown1 hgrow1 hat1 hgb1 hlt1; (simp only [Nat.zero_add, List.nil_append] at hown1); have hbS1 : Below WW.heap.size WW w1 := by (refine Below.grown (w := _) ?_ hgrow1 ?_ (fun k hk => by cases hk; first | exact Nat.le_refl _ | (simp; done) | (simp; omega)) <;> (repeat' (first | exact Below.refl _ _ | exact hbS2 | exact hbS1 | refine Below.drew ?_ | refine Below.alloc ?_ ?_ _ | exact Nat.le_refl _ | exact hbS2.size | exact hbS1.size | (have h9 := hbS1.size; simp; omega) | (simp; omega) | (simp; done)))))
              | (refine step_ints rfl _ _ rfl WW.heap.size g1 _ c1 ((iv l).take j) _ 1 1 [.int .i64 x] rfl rfl ?a1 rfl ?a3 (by simp [Value.oneCell']) ?a4 ?a5 _ rfl ?_; (case a1 => ((try simp only [Nat.zero_add]); first | exact hown1 | exact hown1.alloc _)); (case a4 => omega); (case a3 => (refine liesV_block (t := 3) (fr := (0, 0)) ?_; first | exact heap_alloc_new _ _ | (refine (hgrow1.block _ ?_ ?_).trans ?_ <;> first | (simp; done) | (simp; omega) | exact new_at (w := WW.alloc _) _ (by simp) | exact (Below.heap_alloc (WW.alloc _) _ _ (by simp)).trans (new_at _ rfl)))); (case a5 => (first | exact hbS1.size | (simp; omega) | (simp; have := hbS1.size; omega))); intro g2 c2' w2' hown2 hgrow2 hat2 hgb2 hlt2; (try simp only [Nat.zero_add] at hown2); have hbS2 : Below WW.heap.size WW w2' := by (refine Below.grown (w := _) ?_ hgrow2 ?_ (fun k hk => by cases hk; exact hgb1) <;> (repeat' (first | exact Below.refl _ _ | exact hbS2 | exact hbS1 | refine Below.drew ?_ | refine Below.alloc ?_ ?_ _ | exact Nat.le_refl _ | exact hbS2.size | exact hbS1.size | (have h9 := hbS1.size; simp; omega) | (simp; omega) | (simp; done)))))
              | (refine step_ints rfl _ _ rfl WW.heap.size g2 _ c2' ((iv l).take j ++ [.int .i64 x]) ⟨g, bo, none⟩ (n - j) (cap - j) ((iv l).drop j) rfl (congrArg (fun z => Value.slice z (n - j) (cap - j)) HAJ.out) ?a1 ?a2 ?a3 (fun u hu => HONE.out u (List.mem_of_mem_drop hu)) ?a4 ?a5 _ rfl ?_; (case a2 => (rw [List.length_drop, HVL.out])); (case a1 => ((try simp only [Nat.zero_add]); exact hown2)); (case a4 => omega); (case a3 => (exact liesV_on HL2.out hbS2 hgW)); (case a5 => (exact hbS2.size)); intro g3 c3' w3 hown3 hgrow3 hat3 hgb3 hlt3; have hbS3 : Below WW.heap.size WW w3 := Below.grown hbS2 hgrow3 hbS2.size (fun k hk => by cases hk; exact hgb2)))
          all_goals
            (try simp only [Nat.zero_add] at hown3)
            have HB3 := Lib.hid (HB2.out.trans (hbS3.mono HB2.out.size))
            have hlen : (putM l x).length = j + 1 + (n - j) := by rw [HE.out]; simp [hn]; omega
            have HR := Lib.hid (show GivesI base w (putM l x) (.returned (.slice (some ⟨g3, 0, none⟩) (j + 1 + (n - j)) c3')) w3 from ⟨g3, c3', by rw [hlen], by rw [hlen, HEV.out]; exact own_below hown3 HBW.out, HB3.out⟩)
            clear hown1 hown2 hown3 hbS1 hbS2 hbS3 hgrow1 hgrow2 hgrow3 hlen
            simp only [Exit.then]
            go_wp2
            all_goals
              go_ret
              exact HR.out
    · have hp2 : posG ltI 0 x l l.length = 0 := by
        rw [hn, hpos.out, show j = 0 by omega]
        rfl
      have he : putM l x = l.take j ++ [x] ++ l.drop j := by
        have h9 := insI_no hp2 (fun h => by omega)
        rw [show j = 0 by omega]
        exact h9
      have HE := Lib.hid he
      have hd : decide ((0 : Int) < (j : Int)) = false := by simp; omega
      clear hp2 he hJ
      go_wp2_with fail
      have HB2 := Lib.hid hbi
      clear hbi hszi hd hpos
      obtain ⟨WW, rfl⟩ : ∃ y, y = wr := ⟨_, rfl⟩
      have hszW := HB2.out.size
      have hO := HO.out.kept (grow_below HB2.out none) (.inr (by intro e; cases e))
      have hgW : g < WW.heap.size := by omega
      have hvl : (iv l).length = n := by rw [iv_length, hn]
      have HONE := Lib.hid (iv_one l)
      have HL1 := Lib.hid (show LiesV WW ⟨g, 0, none⟩ ((iv l).take j) from fun q u hq => by
        have hq2 : (iv (l.drop 0))[q]? = some u := by
          rw [List.drop_zero]
          rw [List.getElem?_take] at hq
          split at hq
          · exact hq
          · cases hq
        exact own_lies hO 0 q u hq2)
      have hl2 : LiesV WW ⟨g, j, none⟩ ((iv l).drop j) := by have h9 := own_lies hO j; rwa [show iv (l.drop j) = (iv l).drop j from by unfold iv; rw [List.map_drop]] at h9
      obtain ⟨bo, haj, hl3⟩ : ∃ bo : Nat, (if cap = j then (some (⟨g, 0, none⟩ : Addr)) else some ⟨g, j, none⟩) = some ⟨g, bo, none⟩ ∧ LiesV WW ⟨g, bo, none⟩ ((iv l).drop j) := by
        by_cases hcj : cap = j
        · refine ⟨0, if_pos hcj, ?_⟩
          rw [List.drop_of_length_le (by rw [hvl]; omega)]
          intro q u9 hq
          simp at hq
        · exact ⟨j, if_neg hcj, hl2⟩
      have HAJ := Lib.hid haj
      have HL2 := Lib.hid hl3
      have HVL := Lib.hid hvl
      have HEV := Lib.hid (show iv (putM l x) = (iv l).take j ++ [.int .i64 x] ++ (iv l).drop j from by rw [HE.out]; simp [iv])
      have HBW := Lib.hid (show base ≤ WW.heap.size by omega)
      have hjm : (j : Int) ≤ (n : Int) := by omega
      have hj00 : (0 : Int) ≤ (j : Int) := by omega
      have hjc : (j : Int) ≤ (cap : Int) := by omega
      have hmc : (n : Int) ≤ (cap : Int) := by omega
      clear haj hl2 hl3 hO hvl hszW
      go_region_held3 (fun w' => Held WW w')
        (first | (unfold Held; repeat' (first | exact Below.refl _ _ | exact hbS3 | exact hbS2 | exact hbS1 | refine Below.drew ?_ | refine Below.alloc ?_ ?_ _ | exact Nat.le_refl _ | exact hbS3.size | exact hbS2.size | exact hbS1.size | (simp; omega) | (simp; done))))
        (first
          | (refine step_ints rfl _ _ rfl WW.heap.size _ 0 0 [] ⟨g, 0, none⟩ j cap ((iv l).take j) rfl rfl ?a1 (by rw [List.length_take, HVL.out]; omega) ?a3 (fun u hu => HONE.out u (List.mem_of_mem_take hu)) (by omega) ?a5 _ rfl ?_; (case a1 => (first | exact own_lit_m (w := WW) rfl (Nat.le_refl _) | exact (own_lit_m (w := WW) rfl (Nat.le_refl _)).alloc _ | exact own_lit_m (w := WW.alloc _) (by simp) (by simp))); (case a3 => (refine liesV_on HL1.out ?_ hgW; (repeat' (first | exact Below.refl _ _ | exact hbS2 | exact hbS1 | refine Below.drew ?_ | refine Below.alloc ?_ ?_ _ | exact Nat.le_refl _ | exact hbS2.size | exact hbS1.size | (have h9 := hbS1.size; simp; omega) | (simp; omega) | (simp; done))))); (case a5 => (first | (simp; done) | (simp; omega))); intro g1 c1 w1 hown1 hgrow1 hat1 hgb1 hlt1; (simp only [Nat.zero_add, List.nil_append] at hown1); have hbS1 : Below WW.heap.size WW w1 := by (refine Below.grown (w := _) ?_ hgrow1 ?_ (fun k hk => by cases hk; first | exact Nat.le_refl _ | (simp; done) | (simp; omega)) <;> (repeat' (first | exact Below.refl _ _ | exact hbS2 | exact hbS1 | refine Below.drew ?_ | refine Below.alloc ?_ ?_ _ | exact Nat.le_refl _ | exact hbS2.size | exact hbS1.size | (have h9 := hbS1.size; simp; omega) | (simp; omega) | (simp; done)))))
          | (refine step_ints rfl _ _ rfl WW.heap.size g1 _ c1 ((iv l).take j) _ 1 1 [.int .i64 x] rfl rfl ?a1 rfl ?a3 (by simp [Value.oneCell']) ?a4 ?a5 _ rfl ?_; (case a1 => ((try simp only [Nat.zero_add]); first | exact hown1 | exact hown1.alloc _)); (case a4 => omega); (case a3 => (refine liesV_block (t := 3) (fr := (0, 0)) ?_; first | exact heap_alloc_new _ _ | (refine (hgrow1.block _ ?_ ?_).trans ?_ <;> first | (simp; done) | (simp; omega) | exact new_at (w := WW.alloc _) _ (by simp) | exact (Below.heap_alloc (WW.alloc _) _ _ (by simp)).trans (new_at _ rfl)))); (case a5 => (first | exact hbS1.size | (simp; omega) | (simp; have := hbS1.size; omega))); intro g2 c2' w2' hown2 hgrow2 hat2 hgb2 hlt2; (try simp only [Nat.zero_add] at hown2); have hbS2 : Below WW.heap.size WW w2' := by (refine Below.grown (w := _) ?_ hgrow2 ?_ (fun k hk => by cases hk; exact hgb1) <;> (repeat' (first | exact Below.refl _ _ | exact hbS2 | exact hbS1 | refine Below.drew ?_ | refine Below.alloc ?_ ?_ _ | exact Nat.le_refl _ | exact hbS2.size | exact hbS1.size | (have h9 := hbS1.size; simp; omega) | (simp; omega) | (simp; done)))))
          | (refine step_ints rfl _ _ rfl WW.heap.size g2 _ c2' ((iv l).take j ++ [.int .i64 x]) ⟨g, bo, none⟩ (n - j) (cap - j) ((iv l).drop j) rfl (congrArg (fun z => Value.slice z (n - j) (cap - j)) HAJ.out) ?a1 ?a2 ?a3 (fun u hu => HONE.out u (List.mem_of_mem_drop hu)) ?a4 ?a5 _ rfl ?_; (case a2 => (rw [List.length_drop, HVL.out])); (case a1 => ((try simp only [Nat.zero_add]); exact hown2)); (case a4 => omega); (case a3 => (exact liesV_on HL2.out hbS2 hgW)); (case a5 => (exact hbS2.size)); intro g3 c3' w3 hown3 hgrow3 hat3 hgb3 hlt3; have hbS3 : Below WW.heap.size WW w3 := Below.grown hbS2 hgrow3 hbS2.size (fun k hk => by cases hk; exact hgb2)))
      all_goals
        (try simp only [Nat.zero_add] at hown3)
        have HB3 := Lib.hid (HB2.out.trans (hbS3.mono HB2.out.size))
        have hlen : (putM l x).length = j + 1 + (n - j) := by rw [HE.out]; simp [hn]; omega
        have HR := Lib.hid (show GivesI base w (putM l x) (.returned (.slice (some ⟨g3, 0, none⟩) (j + 1 + (n - j)) c3')) w3 from ⟨g3, c3', by rw [hlen], by rw [hlen, HEV.out]; exact own_below hown3 HBW.out, HB3.out⟩)
        clear hown1 hown2 hown3 hbS1 hbS2 hbS3 hgrow1 hgrow2 hgrow3 hlen
        simp only [Exit.then]
        go_wp2
        all_goals
          go_ret
          exact HR.out
end

section
open Go.RowKit

theorem own_lit0m (w : World) (B : Nat) (h : B ≤ w.heap.size) : (w.alloc (.cells #[] 53)).ownsRow B 53 2 (.slice (some ⟨w.heap.size, 0, none⟩) 0 0) 0 (cvs []) := by
  simpa [cvs] using World.ownsRow_lit (base := B) (e := 53) (size := 2) w #[] 0 h (by simp [maxLen]) rfl
/-- Numbers of the call's own. -/
def GivesV (w : World) (L : List Int) (e : Ending) (w' : World) : Prop := ∃ v, e = .returned v ∧ w'.ownsRow w.heap.size 3 1 v L.length (iv L) ∧ Below w.heap.size w w'
theorem st_bd {N H K : Nat} (hN : N ≤ 6) (hH : H ≤ 6) (l : List Int) (os : List (List Cl)) (o : List Cl) {k y x : Nat} (hk : k ≤ K) (hK : K ≤ 8) (hy : y ≤ H) (hx : x ≤ N) : (stX N l o y (stY N l o (stO N H l os k) y) x).length ≤ 1000 ∧ (stY N l o (stO N H l os k) y).length ≤ 1000 ∧ (stO N H l os k).length ≤ 1000 := by
  have h1 := stX_len N l o y (stY N l o (stO N H l os k) y) x
  have h2 := stY_len N l o (stO N H l os k) y
  have h3 := stO_len N H l os k
  have h4 : N * y ≤ 6 * 6 := Nat.mul_le_mul hN (by omega)
  have h5 : N * H ≤ 6 * 6 := Nat.mul_le_mul hN hH
  have h6 : N * H * k ≤ 36 * 8 := Nat.mul_le_mul h5 (by omega)
  omega
theorem moveC_snoc (p q : Int) (l : List Cl) (j : Nat) (h : j < l.length) : moveC p q (l.take (j + 1)) = moveC p q (l.take j) ++ [((l.getD j (0, 0)).1 + p, (l.getD j (0, 0)).2 + q)] := by
  unfold moveC
  rw [List.take_succ_eq_append_getElem h, List.map_append]
  simp [List.getD, h]

set_option maxHeartbeats 8000000 in
set_option maxRecDepth 100000 in
theorem sPl (B n cap m2 cap2 : Nat) (a a2 : Option Addr) (W : Int) (l : List Int) (cs : List Cl) (w : World) (hn : n ≤ 4194304) (hm : m2 ≤ 1048576) (hc : IntsAt B w a n l) (hd : CellsAt B w a2 m2 cs) (hB : B ≤ w.heap.size) :
    Calls Tryz.prog 8 #[.agg #[.int .i64 W, .slice a n cap], .slice a2 m2 cap2] w (GivesV w (plR W l cs)) := by
  have H := Lib.hid hc
  have HD := Lib.hid hd
  have HLN := Lib.hid hc.1
  clear hc hd
  have hb0 := (Below.refl w.heap.size w).alloc (Nat.le_refl _) (.cells #[.int .i64 W, .slice a n cap] 29)
  have hbox0 := RgAt.new (w := w) W (.slice a n cap) rfl
  have hsz0 : (w.alloc (.cells #[.int .i64 W, .slice a n cap] 29)).heap.size = w.heap.size + 1 := by simp
  have hb1 := hb0.alloc hb0.size (.cells #[] 3)
  have hbox1 := hbox0.alloc (.cells #[] 3)
  have hown1 := own_lit_m (w := w.alloc (.cells #[.int .i64 W, .slice a n cap] 29)) (B := w.heap.size) hsz0 (by omega)
  have hsz1 : ((w.alloc (.cells #[.int .i64 W, .slice a n cap] 29)).alloc (.cells #[] 3)).heap.size = w.heap.size + 2 := by simp
  go_enter Tryz.func8, Tryz.ntmps8
  go_wp2_with fail
  (try rw [hsz0])
  generalize ((w.alloc (.cells #[.int .i64 W, .slice a n cap] 29)).alloc (.cells #[] 3)) = W1 at *
  clear hsz0 hb0 hbox0
  refine (sOrient B m2 cap2 a2 cs W1 hm (HD.out.on (hb1.mono hB)) (Nat.le_trans hB hb1.size)).mono ?_
  rintro e W2 ⟨gO, cO, vs, rfl, hcO, hss, hb2⟩
  have hsz2 := hb2.size
  have HB2 := Lib.hid (hb1.trans (hb2.mono hb1.size))
  have hbox := hbox1.on hb2 hbox1.lt
  have HOW := Lib.hid (hown1.kept (grow_below hb2 none) (.inr (by intro e; cases e)))
  obtain ⟨os, hos⟩ : ∃ os, orientS cs = os := ⟨_, rfl⟩
  have HOS := Lib.hid hos
  have hK8 : os.length ≤ 8 := by rw [← hos]; exact orient_le cs
  obtain ⟨K, hK⟩ : ∃ K, os.length = K := ⟨_, rfl⟩
  rw [hos] at hss hcO ⊢
  rw [hK] at hcO hK8 ⊢
  have HK := Lib.hid hK
  have HSS := Lib.hid hss
  have hgO := hss.1
  clear hb1 hb2 hbox1 hown1 hos hK hss
  cases h : isReg W l with
  | false =>
    have HI := Lib.hid h
    have HO := Lib.hid (plR_no h cs)
    clear h
    by_cases h0 : 0 < (K : Int)
    · go_wp2
      refine wp_loop_rounds 1 ?_
      rw [rounds_succ]
      have c0 := hbox.c0
      have c1 := hbox.c1
      go_wp2_with fail
      refine (sIsReg B n cap a W l _ hn (H.out.on (HB2.out.mono hB)) (Nat.le_trans hB HB2.out.size)).mono ?_
      rintro e w' ⟨rfl, hb⟩
      rw [HI.out]
      have HB3 := Lib.hid (HB2.out.trans (hb.mono HB2.out.size))
      have HOW3 := Lib.hid (HOW.out.kept (grow_below hb none) (.inr (by intro e; cases e)))
      clear hb
      go_wp2
      go_ret
      exact ⟨_, rfl, by rw [HO.out]; exact HOW3.out, HB3.out⟩
    · go_wp2
      refine wp_loop_rounds 1 ?_
      rw [rounds_succ]
      have c0 := hbox.c0
      have c1 := hbox.c1
      go_wp2
      go_ret
      exact ⟨_, rfl, by rw [HO.out]; exact HOW.out, HB2.out⟩
  | true =>
    obtain ⟨N, rfl, hr⟩ := isReg_out h
    have hln := HLN.out
    rw [hln] at hr
    have HR := Lib.hid hr
    have HI := Lib.hid h
    have HO := Lib.hid (show plR N l cs = stO N n l os K from by rw [plR_yes hr, HOS.out, HK.out])
    have HMC := Lib.hid (fun cs => mcOk_yes hr cs)
    have HMV := Lib.hid (fun cs (h : mcOk (N : Int) l cs = true) => mcV_yes (l := l) (cs := cs) h)
    have hN6 := hr.w6
    have hn6 := hr.h6
    clear h hr hln
    go_wp2
    go_loopw [5, 7] (fun v i wr => ∃ k m g c : Nat, k ≤ K ∧ i = .int .i64 k ∧ v = .slice (some ⟨g, 0, none⟩) m c ∧ Hid (m = (stO N n l os k).length) ∧ Hid (wr.ownsRow w.heap.size 3 1 (.slice (some ⟨g, 0, none⟩) m c) m (iv (stO N n l os k))) ∧ Below W2.heap.size W2 wr) (fun _ i _ => K - (intOf i).toNat)
    case atStart => exact ⟨0, 0, _, 0, by omega, rfl, rfl, rfl, HOW.out, Below.refl _ _⟩
    case round =>
      obtain ⟨k, m, g, c, hk, rfl, rfl, hmm, hown, hb⟩ := hrel
      clear HOW
      have hsz := hb.size
      have hbx := hbox.on hb hbox.lt
      have c0 := hbx.c0
      have c1 := hbx.c1
      have hbw := HB2.out.trans (hb.mono HB2.out.size)
      by_cases hlt : k < K
      · have hk1 : (k : Int) < (K : Int) := by omega
        have hk0 : (0 : Int) ≤ (k : Int) := by omega
        go_wp2_with fail
        refine (sIsReg B n cap a N l wr hn (H.out.on (hbw.mono hB)) (Nat.le_trans hB hbw.size)).mono ?_
        rintro e w3 ⟨rfl, hb3⟩
        rw [HI.out]
        have hb' := hb.trans (hb3.mono hsz)
        have hown3 := Lib.hid (hown.out.kept (grow_below hb3 none) (.inr (by intro e; cases e)))
        have hsz3 := hb'.size
        have HORN := Lib.hid (orient_mem (l := cs) (o := os.getD k []) (by rw [HOS.out]; simp [List.getD, show k < os.length by have := HK.out; omega])).2.1
        obtain ⟨aO, cc, hcellO, hcellsO, _⟩ := HSS.out.get (k := k) (by rw [HK.out]; exact hlt)
        have HSO := Lib.hid (show stO N n l os (k + 1) = stY N l (os.getD k []) (stO N n l os k) n from rfl)
        have HBD := Lib.hid (fun x y (hy : y ≤ n) (hx : x ≤ N) => st_bd hN6 hn6 l os (os.getD k []) hk hK8 hy hx)
        obtain ⟨o, ho⟩ : ∃ o, os.getD k [] = o := ⟨_, rfl⟩
        rw [ho] at HORN hcellO hcellsO HSO HBD
        have ho8 := ((isShape_iff o).1 HORN.out.shape).1.2
        have HIN := Lib.hid (isShape_in HORN.out.shape)
        have HNE := Lib.hid HORN.out.ne
        obtain ⟨out0, hout0⟩ : ∃ r, stO N n l os k = r := ⟨_, rfl⟩
        rw [hout0] at hmm hown3 HSO HBD
        have HC := Lib.hid hcellsO
        have HCO := Lib.hid hcellO
        clear hb hb3 hbx c0 c1 hbw hsz hown ho hcellO hcellsO hout0
        generalize wr = w0 at *
        clear w0
        go_wp2
        go_loopw [5, 8] (fun v i wr => ∃ y m g c : Nat, y ≤ n ∧ i = .int .i64 y ∧ v = .slice (some ⟨g, 0, none⟩) m c ∧ Hid (m = (stY N l o out0 y).length) ∧ Hid (wr.ownsRow w.heap.size 3 1 (.slice (some ⟨g, 0, none⟩) m c) m (iv (stY N l o out0 y))) ∧ Below W2.heap.size W2 wr) (fun _ i _ => n - (intOf i).toNat)
        case atStart => exact ⟨0, m, g, c, by omega, rfl, rfl, hmm, hown3.out, hb'⟩
        case round =>
          clear hown3 hb' hsz3 hmm
          obtain ⟨y, m, g, c, hy, rfl, rfl, hmm, hown, hb⟩ := hrel
          have hsz := hb.size
          have hbx := hbox.on hb hbox.lt
          have c0 := hbx.c0
          have c1 := hbx.c1
          by_cases hyt : y < n
          · have hy1 : (y : Int) < (n : Int) := by omega
            have HSY := Lib.hid (show stY N l o out0 (y + 1) = stX N l o y (stY N l o out0 y) N from rfl)
            have HBY := Lib.hid (fun x (hx : x ≤ N) => HBD.out x y hy hx)
            obtain ⟨out1, hout1⟩ : ∃ r, stY N l o out0 y = r := ⟨_, rfl⟩
            rw [hout1] at hmm hown HSY HBY
            clear hout1 hbx
            go_wp2
            clear c0 c1
            go_loopw [5, 9] (fun v i wr => ∃ x m g c : Nat, x ≤ N ∧ i = .int .i64 x ∧ v = .slice (some ⟨g, 0, none⟩) m c ∧ Hid (m = (stX N l o y out1 x).length) ∧ Hid (wr.ownsRow w.heap.size 3 1 (.slice (some ⟨g, 0, none⟩) m c) m (iv (stX N l o y out1 x))) ∧ Below W2.heap.size W2 wr) (fun _ i _ => N - (intOf i).toNat)
            case atStart => exact ⟨0, m, g, c, by omega, rfl, rfl, hmm, hown.out, hb⟩
            case round =>
              clear hown hb hsz hmm
              obtain ⟨x, m, g, c, hx, rfl, rfl, hmm, hown, hb⟩ := hrel
              have hsz := hb.size
              have hbx := hbox.on hb hbox.lt
              have c0 := hbx.c0
              by_cases hxt : x < N
              · have hx1 : (x : Int) < (N : Int) := by omega
                have hm1 : m ≤ 1000 := by rw [hmm.out]; exact (HBY.out x hx).1
                have HYES := Lib.hid (fun h => stX_yes (W := N) (l := l) (o := o) (y := y) (out := out1) (x := x) h)
                have HNO := Lib.hid (fun h => stX_no (W := N) (l := l) (o := o) (y := y) (out := out1) (x := x) h)
                have HMM := Lib.hid hmm.out
                obtain ⟨out2, hout2⟩ : ∃ r, stX N l o y out1 x = r := ⟨_, rfl⟩
                rw [hout2] at HMM hown HYES HNO
                clear hbx hout2 hmm
                go_wp2
                clear c0
                generalize wr = w5 at *
                obtain ⟨mb, hmb⟩ : ∃ b, w5.heap.size = b := ⟨_, rfl⟩
                have hlit := own_lit0m w5 mb (by omega)
                have hbl := (Below.refl w5.heap.size w5).alloc (Nat.le_refl _) (.cells #[] 53)
                have hsl : (w5.alloc (.cells #[] 53)).heap.size = mb + 1 := by simp [hmb]
                rw [hmb] at hlit hsz
                (try rw [hmb])
                generalize (w5.alloc (.cells #[] 53)) = w6 at *
                have HLT := Lib.hid hlit
                have HBL := Lib.hid hbl
                clear hlit hbl
                go_loopw [10, 11] (fun v i wr => ∃ j g c : Nat, j ≤ o.length ∧ i = .int .i64 j ∧ v = .slice (some ⟨g, 0, none⟩) j c ∧ Hid (wr.ownsRow mb 53 2 (.slice (some ⟨g, 0, none⟩) j c) j (cvs (moveC x y (o.take j)))) ∧ Below mb w5 wr ∧ mb < wr.heap.size) (fun _ i _ => o.length - (intOf i).toNat)
                case atStart => exact ⟨0, mb, 0, by omega, rfl, rfl, HLT.out, by rw [← hmb]; exact HBL.out, by omega⟩
                case round =>
                  obtain ⟨j, gm, cm, hj, rfl, rfl, hmov, hb6, hmbl⟩ := hrel
                  clear HLT HBL hsl
                  have hsz6 := hb6.size
                  have hb7 := hb.trans (hb6.mono (by omega))
                  have hq0 := (hb7.cell (p := ⟨gO, k, none⟩) hgO).trans HCO.out
                  by_cases hjt : j < o.length
                  · obtain ⟨b1, o1, rfl, hb1', hc1⟩ := HC.out.2.2 (by omega)
                    obtain ⟨p, q, hpq⟩ : ∃ p q, o.getD j (0, 0) = (p, q) := ⟨_, _, rfl⟩
                    have p1 := (hb7.cell (p := ⟨b1, o1 + j * 2, none⟩) hb1').trans (hc1 j hjt).1
                    have p2 := (hb7.cell (p := ⟨b1, o1 + j * 2 + 1, none⟩) hb1').trans (hc1 j hjt).2
                    rw [hpq] at p1 p2
                    have hpx := inP_out (HIN.out _ (getD_mem (l := o) (j := j) hjt))
                    rw [hpq] at hpx
                    dsimp only at hpx
                    have HST := Lib.hid (moveC_snoc x y o j hjt)
                    rw [hpq] at HST
                    have hj1 : (j : Int) < (o.length : Int) := by omega
                    have hj0 : (0 : Int) ≤ (j : Int) := by omega
                    have hgl := hmov.out.lt gm rfl
                    have hbl1 : b1 < wr.heap.size := by omega
                    have hgO1 : gO < wr.heap.size := by omega
                    have hx1' : IntKind.i64.wrap (p + x) = p + x := IntWalk.i64_in _ (by omega)
                    have hy1' : IntKind.i64.wrap (q + y) = q + y := IntWalk.i64_in _ (by omega)
                    have hne : gm ≠ b1 := by omega
                    have hne2 : gm ≠ gO := by omega
                    have HMV9 := Lib.hid hmov.out
                    clear hpq hc1 hmov
                    go_wp2_with fail
                    go_region_held3 (fun w' => w'.cell? ⟨b1, o1 + j * 2, none⟩ = some (.int .i64 p) ∧ w'.cell? ⟨b1, o1 + j * 2 + 1, none⟩ = some (.int .i64 q) ∧ w'.cell? ⟨gO, k, none⟩ = some (.slice (some ⟨b1, o1, none⟩) o.length cc))
                      (first | exact ⟨p1, p2, hq0⟩ | go_keep | exact ⟨(hgrow.cell_far ⟨b1, o1 + j * 2, none⟩ (by simp; omega) (by simp; omega)).trans ((World.cell?_alloc_lt _ _ _ hbl1).trans p1), (hgrow.cell_far ⟨b1, o1 + j * 2 + 1, none⟩ (by simp; omega) (by simp; omega)).trans ((World.cell?_alloc_lt _ _ _ hbl1).trans p2), (hgrow.cell_far ⟨gO, k, none⟩ (by simp; omega) (by simp; omega)).trans ((World.cell?_alloc_lt _ _ _ hgO1).trans hq0)⟩)
                      (first | (refine step_cells rfl _ _ rfl mb gm j cm (moveC x y (o.take j)) ⟨wr.heap.size, 0, none⟩ 1 1 [(p + x, q + y)] rfl rfl ((HMV9.out.drew).alloc _) rfl (lies_block (t := 53) (fr := (0, 0)) (heap_alloc_new _ _)) (by omega) (by simp; omega) (wr.heap.size + 1) (by simp) ?_; intro g' cc' w7 hown1 hgrow hat hgb hlt1))
                    go_wp2
                    clear hx1' hy1'
                    go_roundw
                    case rel => exact ⟨j + 1, g', cc', by omega, by go_num, rfl, by rw [HST.out]; exact hown1, (hb6.drew.alloc (by show mb ≤ wr.heap.size; omega) _).grown hgrow (by simp; omega) (fun i hi => by cases hi; exact hgl.1), by have := hgrow.size; simp at this; omega⟩
                    case measure => simp [intOf]; omega
                  · obtain rfl : j = o.length := by omega
                    have e9 : o.take o.length = o := List.take_length
                    rw [e9] at hmov
                    have HMINC := Lib.hid (show ∀ c ∈ moveC (x : Int) (y : Int) o, InC c from by
                      intro c hc
                      unfold moveC at hc
                      obtain ⟨d, hd, rfl⟩ := List.mem_map.1 hc
                      have := inP_out (HIN.out d hd)
                      unfold InC
                      dsimp only
                      omega)
                    have hlm : (moveC (x : Int) (y : Int) o).length = o.length := by unfold moveC; rw [List.length_map]
                    have HCM := Lib.hid (CellsAt.of_own hmov.out HMINC.out)
                    have HMO := Lib.hid (HMC.out (moveC x y o))
                    have HMW := Lib.hid (HMV.out (moveC x y o))
                    have hbx7 := hbox.on hb7 hbox.lt
                    have c0 := hbx7.c0
                    have c1 := hbx7.c1
                    have hsz7 := hb7.size
                    have hbw7 := HB2.out.trans (hb7.mono HB2.out.size)
                    have HB6 := Lib.hid hb6
                    have HB7 := Lib.hid hb7
                    clear hmov e9 hb6 hb7
                    go_wp2_with fail
                    refine (sMaskC wr.heap.size n cap o.length cm a _ N l (moveC x y o) wr hn (by omega) ((H.out.on (hbw7.mono hB)).more (Nat.le_trans hB hbw7.size)) HCM.out (Nat.le_refl _)).mono ?_
                    rintro e w8 ⟨rfl, hb8⟩
                    have hown8 := hown.out.kept (grow_below (show Below w5.heap.size w5 wr from by rw [hmb]; exact HB6.out) none) (.inr (by intro e; cases e))
                    have hown9 := hown8.kept (grow_below hb8 none) (.inr (by intro e; cases e))
                    have HB9 := Lib.hid (HB7.out.trans (hb8.mono hsz7))
                    have hw8 := HB2.out.trans (HB9.out.mono HB2.out.size)
                    have hws8 := hw8.size
                    clear hb8 hown8 hbw7 hbx7 c0 c1 hq0
                    cases hok : mcOk N l (moveC x y o) with
                    | true =>
                      have hoc := HMO.out.symm.trans hok
                      have HX := Lib.hid (HYES.out hoc)
                      have hv := HMW.out hok
                      rw [hv]
                      generalize orB N (moveC x y o) = om at *
                      clear hok hoc hv
                      go_wp2_with fail
                      refine (sPutI w.heap.size g m c out2 om w8 (by omega) hown9 (by omega)).mono ?_
                      rintro e w10 ⟨g2, c2, rfl, hown10, hb10⟩
                      have HO10 := Lib.hid hown10
                      have HB10 := Lib.hid (HB9.out.trans (hb10.mono HB9.out.size))
                      rw [← HX.out] at HO10
                      have hlx : (putM out2 (om : Int)).length = (stX N l o y out1 (x + 1)).length := by rw [HX.out]
                      rw [hlx]
                      clear hown10 hb10 hown9 hlx
                      go_wp2
                      go_roundw
                      case rel => exact ⟨x + 1, _, g2, c2, by omega, by go_num, rfl, rfl, HO10.out, HB10.out⟩
                      case measure => simp [intOf]; omega
                    | false =>
                      have hoc := HMO.out.symm.trans hok
                      have HX := Lib.hid (HNO.out hoc)
                      have HM9 := Lib.hid (show m = (stX N l o y out1 (x + 1)).length from by rw [HX.out, ← HMM.out])
                      have HO9 := Lib.hid (show w8.ownsRow w.heap.size 3 1 (.slice (some ⟨g, 0, none⟩) m c) m (iv (stX N l o y out1 (x + 1))) from by rw [HX.out]; exact hown9)
                      clear hok hoc hown9
                      go_wp2
                      go_roundw
                      case rel => exact ⟨x + 1, m, g, c, by omega, by go_num, rfl, HM9.out, HO9.out, HB9.out⟩
                      case measure => simp [intOf]; omega
              · obtain rfl : x = N := by omega
                have HM9 := Lib.hid (show m = (stY x l o out0 (y + 1)).length from by rw [HSY.out]; exact hmm.out)
                have HO9 := Lib.hid (show wr.ownsRow w.heap.size 3 1 (.slice (some ⟨g, 0, none⟩) m c) m (iv (stY x l o out0 (y + 1))) from by rw [HSY.out]; exact hown.out)
                clear hmm hown hbx
                go_wp2
                go_roundw
                case rel => exact ⟨y + 1, m, g, c, by omega, by go_num, rfl, HM9.out, HO9.out, hb⟩
                case measure => simp [intOf]; omega
          · obtain rfl : y = n := by omega
            have HM9 := Lib.hid (show m = (stO N y l os (k + 1)).length from by rw [HSO.out]; exact hmm.out)
            have HO9 := Lib.hid (show wr.ownsRow w.heap.size 3 1 (.slice (some ⟨g, 0, none⟩) m c) m (iv (stO N y l os (k + 1))) from by rw [HSO.out]; exact hown.out)
            clear hmm hown hbx
            go_wp2
            go_roundw
            case rel => exact ⟨k + 1, m, g, c, by omega, by go_num, rfl, HM9.out, HO9.out, hb⟩
            case measure => simp [intOf]; omega
      · obtain rfl : k = K := by omega
        have HO9 := Lib.hid (show wr.ownsRow w.heap.size 3 1 (.slice (some ⟨g, 0, none⟩) m c) (plR N l cs).length (iv (plR N l cs)) from by rw [HO.out, ← hmm.out]; exact hown.out)
        have HBW := Lib.hid hbw
        clear hbw hb hbx hown hmm
        go_wp2
        go_ret
        exact ⟨_, rfl, HO9.out, HBW.out⟩
end

section
open Go.RowKit

theorem own_sl_n {w : World} {B n size : Nat} {t : TypeId} {v : Value} {xs : List Value} (h : w.ownsRow B t size v n xs) : ∃ a c, v = .slice a n c := by
  rcases h.2 with ⟨rfl, h0⟩ | ⟨g, c, cur, rfl, _⟩
  · exact ⟨none, 0, by rw [h0]⟩
  · exact ⟨_, c, rfl⟩
theorem plR_in64 (W : Int) (l : List Int) (cs : List Cl) : ∀ z ∈ plR W l cs, In64 z := fun z hz => by
  have := plR_bd W l cs z hz
  unfold In64
  omega
theorem grow_step {W2 wr w4 : World} {lit g : Nat} (h : W2.grownBy wr (some lit)) (h2 : wr.grownBy w4 (some g)) (hg : g = lit ∨ W2.heap.size ≤ g) : W2.grownBy w4 (some lit) := by
  refine ⟨h2.os.trans h.os, h2.tape.trans h.tape, h2.output.trans h.output, Nat.le_trans h.size h2.size, fun k hk hne => ?_⟩
  refine (h2.block k (Nat.lt_of_lt_of_le hk h.size) ?_).trans (h.block k hk hne)
  rcases hg with rfl | hg
  · exact hne
  · intro e
    have : k = g := Option.some.inj e
    omega
theorem grow_drawn {W2 w3 : World} {r : Option Nat} (h : W2.grownBy w3 r) (q : Nat) : W2.grownBy (w3.drewN q) r := ⟨h.os, h.tape, h.output, h.size, h.block⟩
theorem take_snocI (l : List Int) (k : Nat) (h : k < l.length) : l.take (k + 1) = l.take k ++ [l.getD k 0] := by
  rw [List.take_succ_eq_append_getElem h]
  simp [List.getD, h]

set_option maxHeartbeats 8000000 in
set_option maxRecDepth 100000 in
theorem sAp (B n cap m2 cap2 : Nat) (a a2 : Option Addr) (W : Int) (l : List Int) (ps : List (List Cl)) (w : World) (hn : n ≤ 4194304) (hm : m2 ≤ 1048576) (hc : IntsAt B w a n l) (hd : PsAt B w a2 m2 ps) (hB : B ≤ w.heap.size) :
    Calls Tryz.prog 20 #[.agg #[.int .i64 W, .slice a n cap], .slice a2 m2 cap2] w (GivesV w (apR W l ps)) := by
  have H := Lib.hid hc
  have HD := Lib.hid hd
  have hlp := hd.1
  clear hc hd
  have hb0 := (Below.refl w.heap.size w).alloc (Nat.le_refl _) (.cells #[.int .i64 W, .slice a n cap] 29)
  have hbox0 := RgAt.new (w := w) W (.slice a n cap) rfl
  have hsz0 : (w.alloc (.cells #[.int .i64 W, .slice a n cap] 29)).heap.size = w.heap.size + 1 := by simp
  have hb1 := hb0.alloc hb0.size (.cells #[] 3)
  have hbox1 := hbox0.alloc (.cells #[] 3)
  have hown1 := own_lit_m (w := w.alloc (.cells #[.int .i64 W, .slice a n cap] 29)) (B := w.heap.size) hsz0 (by omega)
  have hsz1 : ((w.alloc (.cells #[.int .i64 W, .slice a n cap] 29)).alloc (.cells #[] 3)).heap.size = w.heap.size + 2 := by simp
  go_enter Tryz.func20, Tryz.ntmps20
  go_wp2
  (try rw [hsz0])
  generalize ((w.alloc (.cells #[.int .i64 W, .slice a n cap] 29)).alloc (.cells #[] 3)) = W1 at *
  clear hsz0 hb0 hbox0
  have HB1 := Lib.hid hb1
  have HOW := Lib.hid hown1
  clear hb1 hown1
  cases h : arePc ps with
  | false =>
    have HF := Lib.hid h
    have HO := Lib.hid (apR_no h W l)
    clear h
    refine wp_loop_rounds 1 ?_
    rw [rounds_succ]
    by_cases h0 : 0 < (m2 : Int)
    · go_wp2_with fail
      refine (sArePc B m2 cap2 a2 ps _ (by omega) (HD.out.on (HB1.out.mono hB)) (Nat.le_trans hB HB1.out.size)).mono ?_
      rintro e w' ⟨rfl, hb⟩
      rw [HF.out]
      have HB3 := Lib.hid (HB1.out.trans (hb.mono HB1.out.size))
      have HOW3 := Lib.hid (HOW.out.kept (grow_below hb none) (.inr (by intro e; cases e)))
      clear hb
      go_wp2
      go_ret
      exact ⟨_, rfl, by rw [HO.out]; exact HOW3.out, HB3.out⟩
    · go_wp2
      go_ret
      exact ⟨_, rfl, by rw [HO.out]; exact HOW.out, HB1.out⟩
  | true =>
    have HF := Lib.hid h
    have hl5 := (arePc_len h).2
    rw [hlp] at hl5
    have HO := Lib.hid (show apR W l ps = ascI (apTo W l ps m2) from by rw [apR_yes h, hlp])
    clear h
    go_loopw [5, 6] (fun v i wr => ∃ k m g c : Nat, k ≤ m2 ∧ i = .int .i64 k ∧ v = .slice (some ⟨g, 0, none⟩) m c ∧ Hid (m = (ascI (apTo W l ps k)).length) ∧ Hid (wr.ownsRow w.heap.size 3 1 (.slice (some ⟨g, 0, none⟩) m c) m (iv (ascI (apTo W l ps k)))) ∧ Below W1.heap.size W1 wr) (fun _ i _ => m2 - (intOf i).toNat)
    case atStart => exact ⟨0, 0, _, 0, by omega, rfl, rfl, rfl, HOW.out, Below.refl _ _⟩
    case round =>
      obtain ⟨k, m, g, c, hk, rfl, rfl, hmm, hown, hb⟩ := hrel
      clear HOW
      have hsz := hb.size
      have hbw := HB1.out.trans (hb.mono HB1.out.size)
      by_cases hlt : k < m2
      · have hk1 : (k : Int) < (m2 : Int) := by omega
        have hk0 : (0 : Int) ≤ (k : Int) := by omega
        go_wp2_with fail
        refine (sArePc B m2 cap2 a2 ps wr (by omega) (HD.out.on (hbw.mono hB)) (Nat.le_trans hB hbw.size)).mono ?_
        rintro e w3 ⟨rfl, hb3⟩
        rw [HF.out]
        have hb3' := hb.trans (hb3.mono hsz)
        have hown3 := Lib.hid (hown.out.kept (grow_below hb3 none) (.inr (by intro e; cases e)))
        have hbw3 := HB1.out.trans (hb3'.mono HB1.out.size)
        have hs3 := hb3'.size
        obtain ⟨b, off, rfl, hbB, hcell⟩ := HD.out.2 (by omega)
        obtain ⟨ak, ck, h1, h2, h3⟩ := hcell k hlt
        have p1 := (hbw3.cell (p := ⟨b, off + k, none⟩) (Nat.lt_of_lt_of_le hbB hB)).trans h1
        have HC := Lib.hid ((h2.on (hbw3.mono hB)).more (Nat.le_trans hB hbw3.size))
        have HST := Lib.hid (apTo_succ (W := W) (l := l) (ps := ps) (i := k) (by omega))
        have hal := apTo_len W l ps k (by omega)
        obtain ⟨o, ho⟩ : ∃ o, ps.getD k [] = o := ⟨_, rfl⟩
        rw [ho] at p1 HC HST h3
        have hbx := hbox1.on hb3' hbox1.lt
        have c0 := hbx.c0
        have c1 := hbx.c1
        have hbl : b < w3.heap.size := by omega
        obtain ⟨A0, hA0⟩ : ∃ r, apTo W l ps k = r := ⟨_, rfl⟩
        rw [hA0] at hmm hown3 HST hal
        have HAT := Lib.hid ((H.out.on (hbw3.mono hB)).more (Nat.le_trans hB hbw3.size))
        have HB3 := Lib.hid hb3'
        clear hcell h1 h2 ho hown hA0 hb hb3 hbw hb3' hbw3
        generalize wr = w0 at *
        go_wp2_with fail
        go_region_held3 (fun w' => w'.cell? ⟨w.heap.size, 0, none⟩ = some (.int .i64 W) ∧ w'.cell? ⟨w.heap.size, 1, none⟩ = some (.slice a n cap) ∧ w'.cell? ⟨b, off + k, none⟩ = some (.slice ak o.length ck))
          (first | exact ⟨c0, c1, p1⟩ | exact ⟨hbx4.c0, hbx4.c1, p4⟩)
          (first | (go_at_call 8
                    refine (sPl w3.heap.size n cap o.length ck a ak W l o w3.drew hn h3 HAT.out HC.out (Nat.le_refl _)).mono ?_
                    rintro e w4 ⟨u, rfl, hou, hb4⟩
                    have hbx4 : RgAt w4 w.heap.size W (.slice a n cap) := RgAt.on (w := w3.drew) hbx hb4 hbx.lt
                    have p4 : w4.cell? ⟨b, off + k, none⟩ = some (.slice ak o.length ck) := (hb4.cell (p := ⟨b, off + k, none⟩) hbl).trans p1))
        all_goals
          have hb34 : Below w3.heap.size w3 w4 := ((Below.refl w3.heap.size w3).drew).trans hb4
          have HB4 := Lib.hid (HB3.out.trans (hb34.mono hs3))
          have HO4 := Lib.hid (hown3.out.kept (grow_below hb34 none) (.inr (by intro e; cases e)))
          have hou2 : w4.ownsRow w3.heap.size 3 1 u (plR W l o).length (iv (plR W l o)) := hou
          obtain ⟨au, cu, rfl⟩ := own_sl_n hou2
          have HU := Lib.hid (IntsAt.of_own hou2 (plR_in64 W l o))
          have hs4 := hb34.size
          have hul := plR_len W l o
          obtain ⟨L, hL⟩ : ∃ L, plR W l o = L := ⟨_, rfl⟩
          rw [hL] at HU HST hul ⊢
          obtain ⟨q, hq⟩ : ∃ q, L.length = q := ⟨_, rfl⟩
          rw [hq] at HU hul ⊢
          have HQ := Lib.hid hq
          clear hb4 hb34 hou hou2 hbx4 p4 c0 c1 p1 hown3 hL hq HB3
          (try simp only [Exit.then])
          go_wp2
          go_loopw [5, 8] (fun v i wr => ∃ j m g c : Nat, j ≤ q ∧ i = .int .i64 j ∧ v = .slice (some ⟨g, 0, none⟩) m c ∧ Hid (m = (ascI (A0 ++ L.take j)).length) ∧ Hid (wr.ownsRow w.heap.size 3 1 (.slice (some ⟨g, 0, none⟩) m c) m (iv (ascI (A0 ++ L.take j)))) ∧ Below w4.heap.size w4 wr) (fun _ i _ => q - (intOf i).toNat)
          case atStart => exact ⟨0, m, g, c, by omega, rfl, rfl, by rw [List.take_zero, List.append_nil]; exact hmm, by rw [List.take_zero, List.append_nil]; exact HO4.out, Below.refl _ _⟩
          case round =>
            clear HO4 hmm
            obtain ⟨j, m, g, c, hj, rfl, rfl, hmm, hown, hb⟩ := hrel
            have hsz := hb.size
            by_cases hjt : j < q
            · have hj1 : (j : Int) < (q : Int) := by omega
              have hj0 : (0 : Int) ≤ (j : Int) := by omega
              obtain ⟨bu, ou, rfl, hbu, hcu⟩ := HU.out.2.2 (by omega)
              have p1 := (hb.cell (p := ⟨bu, ou + j, none⟩) hbu).trans (hcu j hjt)
              have HTK := Lib.hid (show ascI (A0 ++ L.take (j + 1)) = putM (ascI (A0 ++ L.take j)) (L.getD j 0) from by rw [take_snocI L j (by rw [HQ.out]; exact hjt), ← List.append_assoc, ascI_put])
              have hml := ascI_len (A0 ++ L.take j)
              rw [← hmm.out, List.length_append, List.length_take] at hml
              obtain ⟨z, hz⟩ : ∃ z, L.getD j 0 = z := ⟨_, rfl⟩
              rw [hz] at p1 HTK
              obtain ⟨A1, hA1⟩ : ∃ r, ascI (A0 ++ L.take j) = r := ⟨_, rfl⟩
              rw [hA1] at hmm hown HTK
              have hown9 := hown.out
              clear hcu hz hA1 hown
              go_wp2_with fail
              refine (sPutI w.heap.size g m c A1 z wr (by omega) hown9 (by omega)).mono ?_
              rintro e w10 ⟨g2, c2, rfl, hown10, hb10⟩
              have HO10 := Lib.hid hown10
              have HB10 := Lib.hid (hb.trans (hb10.mono hsz))
              rw [← HTK.out] at HO10
              have hlx : (putM A1 z).length = (ascI (A0 ++ L.take (j + 1))).length := by rw [HTK.out]
              rw [hlx]
              clear hown10 hb10 hown9 hlx
              go_wp2
              go_roundw
              case rel => exact ⟨j + 1, _, g2, c2, by omega, by go_num, rfl, rfl, HO10.out, HB10.out⟩
              case measure => simp [intOf]; omega
            · obtain rfl : j = q := by omega
              have e9 : L.take j = L := List.take_of_length_le (by rw [HQ.out]; exact Nat.le_refl _)
              rw [e9, ← HST.out] at hmm hown
              have HBZ := Lib.hid (HB4.out.trans (hb.mono (by omega)))
              clear e9 hb
              go_wp2
              go_roundw
              case rel => exact ⟨k + 1, m, g, c, by omega, by go_num, rfl, hmm, hown.out, HBZ.out⟩
              case measure => simp [intOf]; omega
      · obtain rfl : k = m2 := by omega
        have HO9 := Lib.hid (show wr.ownsRow w.heap.size 3 1 (.slice (some ⟨g, 0, none⟩) m c) (apR W l ps).length (iv (apR W l ps)) from by rw [HO.out, ← hmm.out]; exact hown.out)
        have HBW := Lib.hid hbw
        clear hbw hb hown hmm
        go_wp2
        go_ret
        exact ⟨_, rfl, HO9.out, HBW.out⟩

set_option maxHeartbeats 8000000 in
set_option maxRecDepth 100000 in
theorem sAt (B n cap m2 cap2 : Nat) (a a2 : Option Addr) (W : Int) (l : List Int) (cs : List Cl) (x y : Int) (w : World) (hn : n ≤ 4194304) (hm : m2 ≤ 1048576) (hc : IntsAt B w a n l) (hd : CellsAt B w a2 m2 cs) (hB : B ≤ w.heap.size) :
    Calls Tryz.prog 25 #[.agg #[.int .i64 W, .slice a n cap], .slice a2 m2 cap2, .int .i64 x, .int .i64 y] w (GivesV w (atR W l cs x y)) := by
  have H := Lib.hid hc
  have HD := Lib.hid hd
  have hln := hc.1
  clear hc hd
  have hb0 := (Below.refl w.heap.size w).alloc (Nat.le_refl _) (.cells #[.int .i64 W, .slice a n cap] 29)
  have hbox0 := RgAt.new (w := w) W (.slice a n cap) rfl
  have hsz0 : (w.alloc (.cells #[.int .i64 W, .slice a n cap] 29)).heap.size = w.heap.size + 1 := by simp
  have hb1 := hb0.alloc hb0.size (.cells #[] 3)
  have hbox1 := hbox0.alloc (.cells #[] 3)
  have hown1 := own_lit_m (w := w.alloc (.cells #[.int .i64 W, .slice a n cap] 29)) (B := w.heap.size) hsz0 (by omega)
  have hsz1 : ((w.alloc (.cells #[.int .i64 W, .slice a n cap] 29)).alloc (.cells #[] 3)).heap.size = w.heap.size + 2 := by simp
  go_enter Tryz.func25, Tryz.ntmps25
  have d0 := hbox1.c0
  have d1 := hbox1.c1
  go_wp2_with fail
  (try rw [hsz0])
  generalize ((w.alloc (.cells #[.int .i64 W, .slice a n cap] 29)).alloc (.cells #[] 3)) = W1 at *
  clear hsz0 hb0 hbox0 d0 d1
  refine (sPl B n cap m2 cap2 a a2 W l cs W1 hn hm (H.out.on (hb1.mono hB)) (HD.out.on (hb1.mono hB)) (Nat.le_trans hB hb1.size)).mono ?_
  rintro e W2 ⟨u, rfl, hou, hb2⟩
  have hs2 := hb2.size
  have HB2 := Lib.hid (hb1.trans (hb2.mono hb1.size))
  have hbox := hbox1.on hb2 hbox1.lt
  have HOW := Lib.hid (hown1.kept (grow_below hb2 none) (.inr (by intro e; cases e)))
  have HUR := Lib.hid hou
  have HUT := Lib.hid hou.lt
  obtain ⟨au, cu, rfl⟩ := own_sl_n hou
  have HU9 := Lib.hid (plR_in64 W l cs)
  have HBD := Lib.hid (plR_bd W l cs)
  have hul := plR_len W l cs
  have HAT := Lib.hid (show atR W l cs x y = if (isReg W l && bt l (x, y)) = true then (plR W l cs).filter (hasB W x y) else [] from rfl)
  have HCB := Lib.hid (show cellB W l x y = (isReg W l && bt l (x, y)) from rfl)
  obtain ⟨L, hL⟩ : ∃ L, plR W l cs = L := ⟨_, rfl⟩
  rw [hL] at HUR HUT HU9 HBD hul HAT ⊢
  obtain ⟨q, hq⟩ : ∃ q, L.length = q := ⟨_, rfl⟩
  rw [hq] at HUR HUT hul ⊢
  have HQ := Lib.hid hq
  clear hb1 hb2 hbox1 hown1 hou hL hq
  cases h : cellB W l x y with
  | false =>
    have HF := Lib.hid h
    have HO := Lib.hid (show atR W l cs x y = [] from by rw [HAT.out, ← HCB.out, h]; rfl)
    clear h
    go_wp2
    refine wp_loop_rounds 1 ?_
    rw [rounds_succ]
    have c0 := hbox.c0
    have c1 := hbox.c1
    by_cases h0 : 0 < (q : Int)
    · go_wp2_with fail
      refine (sInReg B n cap a W l x y _ hn (H.out.on (HB2.out.mono hB)) (Nat.le_trans hB HB2.out.size)).mono ?_
      rintro e w' ⟨rfl, hb⟩
      rw [HF.out]
      have HB3 := Lib.hid (HB2.out.trans (hb.mono HB2.out.size))
      have HOW3 := Lib.hid (HOW.out.kept (grow_below hb none) (.inr (by intro e; cases e)))
      clear hb
      go_wp2
      go_ret
      exact ⟨_, rfl, by rw [HO.out]; exact HOW3.out, HB3.out⟩
    · go_wp2
      go_ret
      exact ⟨_, rfl, by rw [HO.out]; exact HOW.out, HB2.out⟩
  | true =>
    have HF := Lib.hid h
    rw [HCB.out, Bool.and_eq_true] at h
    obtain ⟨N, rfl, hr⟩ := isReg_out h.1
    obtain ⟨u, v, rfl, rfl, hu, hv, hu6, hv6, hbn, h36⟩ := hr.place h.2
    have hN6 := hr.w6
    have HO := Lib.hid (show atR N l cs u v = L.filter (hasB N u v) from by rw [HAT.out, ← HCB.out, HF.out]; rfl)
    obtain ⟨s, hs⟩ : ∃ s : Nat, v * N = s := ⟨_, rfl⟩
    obtain ⟨b, hbq⟩ : ∃ b : Nat, v * N + u = b := ⟨_, rfl⟩
    have hmul : (v : Int) * (N : Int) = (s : Int) := by rw [← hs]; simp
    have hadd : (s : Int) + (u : Int) = (b : Int) := by omega
    rw [hbq] at hbn h36
    have HBN := Lib.hid hbn
    clear h hr hs hbq hbn HAT
    obtain ⟨lit, hlit⟩ : ∃ k, w.heap.size + 1 = k := ⟨_, rfl⟩
    rw [hlit] at HOW ⊢
    go_wp2
    go_loopw [9, 11] (fun ov i wr => ∃ k m g c : Nat, k ≤ q ∧ i = .int .i64 k ∧ ov = .slice (some ⟨g, 0, none⟩) m c ∧ (g = lit ∨ W2.heap.size ≤ g) ∧ Hid (m = ((L.take k).filter (hasB N u v)).length) ∧ Hid (wr.ownsRow w.heap.size 3 1 (.slice (some ⟨g, 0, none⟩) m c) m (iv ((L.take k).filter (hasB N u v)))) ∧ Hid (W2.grownBy wr (some lit))) (fun _ i _ => q - (intOf i).toNat)
    case atStart => exact ⟨0, 0, lit, 0, by omega, rfl, rfl, .inl rfl, rfl, HOW.out, World.grownBy.refl _ _⟩
    case round =>
      obtain ⟨k, m, g, c, hk, rfl, rfl, hgl, hmm, hown, hg⟩ := hrel
      clear HOW
      have hsz := hg.out.size
      have hbx := hbox.by hg.out (by intro e; injection e with e; omega)
      have hbw := HB2.out.grown hg.out (by omega) (fun j hj => by cases hj; omega)
      by_cases hlt : k < q
      · have hk1 : (k : Int) < (q : Int) := by omega
        have hk0 : (0 : Int) ≤ (k : Int) := by omega
        have c0 := hbx.c0
        have c1 := hbx.c1
        have hur := HUR.out.kept hg.out (ne_rowT HUT.out (v := .slice au q cu) (u := .slice (some ⟨lit, 0, none⟩) 0 0) (c := lit) (d := lit + 1) (fun k h => by cases h; exact ⟨Nat.le_refl _, Nat.lt_succ_self _⟩) (by omega))
        go_wp2_with fail
        refine (sInReg B n cap a N l u v wr hn (H.out.on (hbw.mono hB)) (Nat.le_trans hB hbw.size)).mono ?_
        rintro e w3 ⟨rfl, hb3⟩
        rw [HF.out]
        have hur3 := hur.kept (grow_below hb3 none) (Classical.em _)
        have HG3 := Lib.hid (grow_step hg.out (grow_below hb3 (some lit)) (.inl rfl))
        have hown3 := hown.out.kept (grow_below hb3 none) (.inr (by intro e; cases e))
        have hs3 := hb3.size
        have hbx3 := hbx.on hb3 hbx.lt
        obtain ⟨bu, ou, rfl, hbu, hcu⟩ := (IntsAt.of_own hur3 HU9.out).2.2 (by omega)
        have p1 := hcu k hlt
        have hzb := HBD.out (L.getD k 0) (by have := HQ.out; simp [List.getD, show k < L.length by omega])
        have HTK := Lib.hid (take_snocI L k (by rw [HQ.out]; exact hlt))
        obtain ⟨z, hz⟩ : ∃ z : Nat, L.getD k 0 = z := ⟨(L.getD k 0).toNat, by omega⟩
        rw [hz] at p1 hzb HTK
        obtain ⟨t, ht⟩ : ∃ t : Nat, z / 2 ^ b = t := ⟨_, rfl⟩
        have hdiv : (z : Int) / (2 : Int) ^ b = (t : Int) := by rw [← ht]; simp
        have htm : t ≤ z := by rw [← ht]; exact Nat.div_le_self _ _
        have hand := bit_val (m := z) b (by omega)
        rw [ht] at hand
        have HHB := Lib.hid (show hasB N u v (z : Int) = z.testBit b from by unfold hasB; simp only [Int.toNat_natCast]; rw [HBN.out])
        have hml : m ≤ q := by
          have h1 := List.length_filter_le (hasB N u v) (L.take k)
          rw [← hmm.out, List.length_take] at h1
          omega
        have HMM := Lib.hid hmm.out
        obtain ⟨F0, hF0⟩ : ∃ r, (L.take k).filter (hasB N u v) = r := ⟨_, rfl⟩
        have HF0 := Lib.hid hF0
        rw [hF0] at HMM hown3
        clear hcu hz ht hown hmm hur hur3 hb3 c0 c1 hbx hg hF0
        have c0 := hbx3.c0
        have HBX3 := Lib.hid hbx3
        cases htb : z.testBit b with
        | true =>
          rw [htb] at hand
          have hand1 : bits .and .i64 (t : Int) 1 = 1 := hand
          have HFX := Lib.hid (show (L.take (k + 1)).filter (hasB N u v) = F0 ++ [(z : Int)] from by rw [HTK.out, List.filter_append, HF0.out]; simp [HHB.out, htb])
          have HM1 := Lib.hid (show m + 1 = ((L.take (k + 1)).filter (hasB N u v)).length from by rw [HFX.out, List.length_append, ← HMM.out]; rfl)
          clear hand htb hbx3
          go_wp2_with fail
          go_quiet (fail)
          go_wp2_with (first | (at_builtin; refine wpList_ints rfl _ _ rfl w.heap.size g m c (iv F0) ⟨w3.heap.size, 0, none⟩ 1 1 [.int .i64 z] rfl rfl (hown3.alloc _) rfl (liesV_block (t := 3) (fr := (0, 0)) (heap_alloc_new _ _)) (by simp [Value.oneCell']) (by omega) (by simp; omega) (w3.heap.size + 1) (by simp) ?_) | go_in)
          intro g' c' w4 hown4 hgrow hat hgb hlt4
          have HO4 := Lib.hid (show w4.ownsRow w.heap.size 3 1 (.slice (some ⟨g', 0, none⟩) (m + 1) c') (m + 1) (iv ((L.take (k + 1)).filter (hasB N u v))) from by rw [HFX.out, iv_append]; exact hown4)
          have HG4 := Lib.hid (grow_step (grow_step (grow_drawn HG3.out _) (World.grownBy_alloc _ _ (some lit)) (.inl rfl)) hgrow hgl)
          have hgl4 : g' = lit ∨ W2.heap.size ≤ g' := by
            rcases hat with rfl | rfl
            · exact hgl
            · exact .inr (by omega)
          clear hown4 hgrow hown3 hand1 hdiv
          go_wp2
          go_roundw
          case rel => first
            | exact ⟨k + 1, m + 1, g', c', by omega, by go_num, rfl, hgl4, HM1.out, HO4.out, HG4.out⟩
            | (repeat apply Exists.intro
               exact ⟨⟨k + 1, m + 1, g', c', by omega, by go_num, rfl, hgl4, HM1.out, HO4.out, HG4.out⟩, rfl⟩)
          case measure => simp [intOf]; omega
        | false =>
          rw [htb] at hand
          have hand1 : bits .and .i64 (t : Int) 1 = 0 := hand
          have HFX := Lib.hid (show (L.take (k + 1)).filter (hasB N u v) = F0 from by rw [HTK.out, List.filter_append, HF0.out]; simp [HHB.out, htb])
          have HM1 := Lib.hid (show m = ((L.take (k + 1)).filter (hasB N u v)).length from by rw [HFX.out]; exact HMM.out)
          have HO4 := Lib.hid (show w3.ownsRow w.heap.size 3 1 (.slice (some ⟨g, 0, none⟩) m c) m (iv ((L.take (k + 1)).filter (hasB N u v))) from by rw [HFX.out]; exact hown3)
          clear hand htb hbx3 hown3
          go_wp2_with fail
          go_quiet (fail)
          go_wp2
          go_roundw
          case rel => exact ⟨k + 1, m, g, c, by omega, by go_num, rfl, hgl, HM1.out, HO4.out, grow_drawn HG3.out _⟩
          case measure => simp [intOf]; omega
      · obtain rfl : k = q := by omega
        have e9 : L.take k = L := List.take_of_length_le (by rw [HQ.out]; exact Nat.le_refl _)
        have hown9 := hown.out
        have hmm9 := hmm.out
        rw [e9] at hown9 hmm9
        rw [hmm9] at hown9
        have HO9 := Lib.hid hown9
        have hmr : m = (atR N l cs u v).length := by rw [HO.out]; exact hmm9
        have HBW := Lib.hid hbw
        clear hbw hbx hown hmm hown9 hmm9 e9
        rw [← HO.out, ← hmr] at HO9
        go_wp2
        go_ret
        exact ⟨_, rfl, by rw [← hmr]; exact HO9.out, HBW.out⟩
end

end Go.Proofs.YtghpljoccclmkaaGreat
