/-
  A text as a shape, in the program: what the call gives.
-/
import Derived.Test.YtecfabhpjihcbaaGreatDoorSpl
import Derived.Test.YtecfabhpjihcbaaGreatDoorIfm
namespace Go.Proofs.YtecfabhpjihcbaaGreatDoor
open Go.RowKit

theorem cut47_len : ∀ (l p : List UInt8), p ∈ cut47 l → p.length ≤ l.length
  | [], p, h => by simp [cut47] at h; subst h; exact Nat.le_refl _
  | b :: r, p, h => by
    unfold cut47 at h
    have ih := cut47_len r
    split at h
    · rcases List.mem_cons.1 h with rfl | h
      · simp
      · have := ih p h; simp only [List.length_cons]; omega
    · split at h
      · rename_i q qs hq
        rcases List.mem_cons.1 h with rfl | h
        · have := ih q (by rw [hq]; simp); simp only [List.length_cons]; omega
        · have := ih p (by rw [hq]; simp [h]); simp only [List.length_cons]; omega
      · simp at h; subst h; simp
theorem piece_size (s : ByteArray) (k : Nat) (h : k < (pieces s).length) : (pieces s)[k].size ≤ s.size := by
  have := cut47_len (tx s) (tx (pieces s)[k]) (by
    rw [← pieces_data]
    exact List.mem_map.2 ⟨_, List.getElem_mem h, rfl⟩)
  rw [tx_len, tx_len] at this
  exact this
theorem pieces_le (s : ByteArray) : (pieces s).length ≤ s.size + 1 := by
  rw [pieces_len]
  have := Lib.countB_le ⟨#[47]⟩ (by decide) s.size s (Nat.le_refl _)
  omega
theorem own_sl {w : World} {base n : Nat} {v : Value} {xs : List Value} (h : w.ownsRow base 34 2 v n xs) : ∃ a cap, v = .slice a n cap := by
  rcases h.2 with ⟨rfl, rfl⟩ | ⟨g, cap, cur, rfl, _⟩
  · exact ⟨_, _, rfl⟩
  · exact ⟨_, _, rfl⟩
theorem none_row2 (v : Value) : v.ownBlock = none ∨ v.ownBlock ≠ none := by
  cases v.ownBlock with
  | none => exact .inl rfl
  | some k => exact .inr (by simp)
/-- The library's variable that its search reads holds a number. -/
def Mx (w : World) : Prop := ∃ m, w.cell? ⟨1, 0, none⟩ = some (.int .i64 m)
theorem Mx.on {B : Nat} {w w' : World} (h : Mx w) (hb : Below B w w') (hB : 1 < B) : Mx w' := by
  obtain ⟨m, hm⟩ := h
  exact ⟨m, (hb.cell (p := ⟨1, 0, none⟩) hB).trans hm⟩
theorem Mx.lt {w : World} (h : Mx w) : 1 < w.heap.size := by
  obtain ⟨m, hm⟩ := h
  exact World.block_lt_of_cell? w _ hm
theorem piece_cell (s : ByteArray) (w : World) (k : Nat) (h : k < (pieces s).length) : (w.alloc (.cells ((pieces s).map Value.string).toArray 9)).cell? ⟨w.heap.size, k, none⟩ = some (.string (pieces s)[k]) := by
  rw [cell_of_row _ w.heap.size k _ _ _ (heap_alloc_new w _)]
  simp [h]

set_option maxHeartbeats 2000000 in
set_option maxRecDepth 100000 in
theorem iParse (s : ByteArray) (w : World) (hs : s.size ≤ 1048576) (hM : Mx w) :
    Calls Tryz.prog 13 #[.string s] w fun e w' => ∃ v, e = .returned (.tuple #[v, .bool (okP (tx s))]) ∧ Own w (parS (tx s)) v w' := by
  obtain ⟨mx, hmx⟩ := hM
  obtain ⟨i0, hi, hz0, hz1, hz2⟩ := info_parts info_cell
  go_enter Tryz.func13, Tryz.ntmps13
  go_wp2_with fail
  refine (Tryz.strings_Split s ⟨#[47]⟩ mx w (by omega) hmx (by decide)).mono ?_
  rintro e w1 ⟨rfl, hw1⟩
  have hpl := pieces_le s
  have hN : Lib.countB s ⟨#[47]⟩ + 1 = (pieces s).length := (pieces_len s).symm
  rw [hN]
  have HPC := Lib.hid (show ∀ k (h : k < (pieces s).length), w1.cell? ⟨w.heap.size, k, none⟩ = some (.string (pieces s)[k]) from fun k h => by rw [hw1]; exact piece_cell s w k h)
  have hb1 : Below w.heap.size w w1 := by rw [hw1]; exact (Below.refl _ _).alloc (Nat.le_refl _) _
  have hs1 : w.heap.size + 1 ≤ w1.heap.size := by rw [hw1]; simp
  have HPS := Lib.hid (piece_size s)
  clear hw1 hmx hN
  obtain ⟨N, hN⟩ : ∃ N, (pieces s).length = N := ⟨_, rfl⟩
  have HN := Lib.hid hN
  rw [hN] at hpl ⊢
  clear hN
  go_wp2
  go_loopw [4, 11] (fun v i wr => ∃ k m : Nat, k ≤ N ∧ i = .int .i64 k ∧ m ≤ s.size ∧ Hid (m = (seen s k 0).length) ∧ wr.ownsRow w1.heap.size 34 2 v m (cvs (seen s k 0)) ∧ Below w1.heap.size w1 wr) (fun _ i _ => N - (intOf i).toNat)
  case atStart => exact ⟨0, 0, by omega, rfl, by omega, by rw [seen_zero]; rfl, by rw [seen_zero]; exact own_nil _ _, Below.refl _ _⟩
  case round =>
    obtain ⟨k, m, hk, rfl, hm, hmm, hown, hb⟩ := hrel
    have hsz := hb.size
    by_cases hlt : k < N
    · have hkp : k < (pieces s).length := by rw [HN.out]; exact hlt
      have hpc := (hb.cell (p := ⟨w.heap.size, k, none⟩) (by show w.heap.size < _; omega)).trans (HPC.out k hkp)
      have hps := HPS.out k hkp
      have HNX := Lib.hid (fun j hj => seen_next s k j hkp hj)
      have HRW := Lib.hid (seen_row s k hkp)
      have HLE := Lib.hid (fun j => seen_le s k j hkp)
      generalize (pieces s)[k] = p at hpc hps HNX HRW
      obtain ⟨wo, rfl⟩ : ∃ wo, wo = wr := ⟨wr, rfl⟩
      go_wp2
      go_loopw [4, 18] (fun v i wr => ∃ j m : Nat, j ≤ p.size ∧ i = .int .i64 j ∧ m ≤ s.size ∧ Hid (m = (seen s k j).length) ∧ wr.ownsRow w1.heap.size 34 2 v m (cvs (seen s k j)) ∧ Below w1.heap.size w1 wr) (fun _ i _ => p.size - (intOf i).toNat)
      case atStart => exact ⟨0, m, by omega, rfl, hm, hmm, hown, hb⟩
      case round =>
        obtain ⟨j, q, hj, rfl, hq, hqq, hown2, hb2⟩ := hrel
        have hsz2 := hb2.size
        clear hown hb hmm hm
        by_cases hjl : j < p.size
        · have e35 := byte_int p[j] 35
          have hnx := HNX.out j hjl
          have hle := HLE.out (j + 1)
          by_cases b35 : p[j] = 35
          · rw [if_pos b35] at hnx
            have t35 : (((p[j].toNat : Nat) : Int) == 35) = true := e35.trans (by rw [b35]; rfl)
            have hq1 : q + 1 = (seen s k (j + 1)).length := by rw [hnx, List.length_append, ← hqq.out]; rfl
            have hq2 : q + 1 ≤ s.size := by rw [hq1]; exact hle
            have HQ := Lib.hid hq1
            have HS := Lib.hid hnx
            clear e35 hnx hle b35 hq1
            go_wp2_with (first | (at_builtin; refine wpList_append_own _ rfl _ _ 25 rfl w1.heap.size 34 i0 (.agg #[.int .i64 0, .int .i64 0]) 2 16 Tryz.underlying25 hi hz0 hz1 hz2 rfl (by decide) _ _ _ rfl (hown2.alloc _) ⟨wr.heap.size, 0, none⟩ 1 1 (cvs [((j : Int), (k : Int))]) rfl rfl (lies_block (t := 34) (fr := (0, 0)) (heap_alloc_new _ _)) (cvs_oneCell _) ?c3 ?c4 ?c5 ?_) | go_in)
            case c3 => unfold maxLen; omega
            case c4 => omega
            case c5 => simp; omega
            intro v' w3 hown3 hgrow _
            rw [← cvs_append, ← HS.out] at hown3
            have hb3 := Lib.hid ((hb2.alloc hb2.size (.cells #[.int .i64 j, .int .i64 k] 34)).grown hgrow (hb2.alloc hb2.size (.cells #[.int .i64 j, .int .i64 k] 34)).size (fun x hx => (hown2.lt x hx).1))
            have HO3 := Lib.hid hown3
            clear hown3 hgrow
            go_wp2
            go_roundw
            case rel => first
              | exact ⟨j + 1, q + 1, by omega, by go_num, hq2, HQ.out, HO3.out, hb3.out⟩
              | (repeat apply Exists.intro
                 exact ⟨⟨j + 1, q + 1, by omega, by go_num, hq2, HQ.out, HO3.out, hb3.out⟩, rfl⟩)
            case measure => simp [intOf]; omega
          · rw [if_neg b35, List.append_nil] at hnx
            have t35 : (((p[j].toNat : Nat) : Int) == 35) = false := e35.trans (by rw [decide_eq_false_iff_not]; exact b35)
            have HO3 := Lib.hid (show wr.ownsRow w1.heap.size 34 2 _ q (cvs (seen s k (j + 1))) from by rw [hnx]; exact hown2)
            have HQ := Lib.hid (show q = (seen s k (j + 1)).length from by rw [hnx]; exact hqq.out)
            clear e35 hnx hle b35
            go_wp2
            go_roundw
            case rel => exact ⟨j + 1, q, by omega, by go_num, hq, HQ.out, HO3.out, hb2⟩
            case measure => simp [intOf]; omega
        · obtain rfl : j = p.size := by omega
          have HO3 := Lib.hid (show wr.ownsRow w1.heap.size 34 2 _ q (cvs (seen s (k + 1) 0)) from by rw [← HRW.out]; exact hown2)
          have HQ := Lib.hid (show q = (seen s (k + 1) 0).length from by rw [← HRW.out]; exact hqq.out)
          go_wp2
          go_roundw
          case rel => exact ⟨k + 1, q, by omega, by go_num, hq, HQ.out, HO3.out, hb2⟩
          case measure => simp [intOf]; omega
    · obtain rfl : k = N := by omega
      have hall : seen s k 0 = pcs (tx s) 0 0 := by rw [← HN.out]; exact seen_all s
      rw [hall] at hown hmm
      obtain ⟨a, cap, rfl⟩ := own_sl hown
      have hin := pcs_in s (by omega)
      have HA := Lib.hid (CellsAt.of_own hown hin)
      have HOK := Lib.hid (okP_eq (tx s))
      have HB := Lib.hid (hb1.trans (hb.mono hb1.size))
      have HO := Lib.hid hown
      clear hall hown hin
      cases hsh : isShape (pcs (tx s) 0 0) with
      | false =>
        have hno : okP (tx s) = false := by rw [HOK.out, hsh]; rfl
        have HNO := Lib.hid hno
        clear hno
        go_wp2_with fail
        refine (iIsShape wr.heap.size m cap a _ wr (by omega) HA.out (Nat.le_refl _)).mono ?_
        rintro e w4 ⟨rfl, hb4⟩
        rw [hsh]
        have HB4 := Lib.hid (HB.out.trans (hb4.mono HB.out.size))
        clear hb4
        go_wp2
        go_ret2
        rw [parS_no HNO.out, HNO.out]
        exact ⟨_, rfl, own_nil _ _, HB4.out⟩
      | true =>
        cases hr : (fmtC (pcs (tx s) 0 0) == s.toList) with
        | true =>
          have hyes : okP (tx s) = true := by
            rw [HOK.out, hsh, Bool.true_and, decide_eq_true_eq]
            rw [ByteArray.toList_eq, beq_iff_eq] at hr
            exact hr
          have HY := Lib.hid hyes
          clear hyes
          go_wp2_with fail
          refine (iIsShape wr.heap.size m cap a _ wr (by omega) HA.out (Nat.le_refl _)).mono ?_
          rintro e w4 ⟨rfl, hb4⟩
          rw [hsh]
          have HB4 := Lib.hid (HB.out.trans (hb4.mono HB.out.size))
          have HA4 := Lib.hid ((HA.out.on hb4).more hb4.size)
          have HO4 := Lib.hid (HO.out.kept (grow_below hb4 none) (none_row2 _))
          clear hb4
          go_wp2_with fail
          refine (iFmt w4.heap.size m cap a _ w4 (by omega) HA4.out (Nat.le_refl _)).mono ?_
          rintro e w5 ⟨rfl, hb5⟩
          have HB5 := Lib.hid (HB4.out.trans (hb5.mono HB4.out.size))
          have HO5 := Lib.hid (HO4.out.kept (grow_below hb5 none) (none_row2 _))
          clear hb5
          go_wp2
          go_ret2
          rw [parS_yes HY.out, HY.out]
          have hO := own_below HO5.out (show w.heap.size ≤ w1.heap.size by omega)
          have hMM := hmm.out
          subst hMM
          exact ⟨_, rfl, hO, HB5.out⟩
        | false =>
          have hno : okP (tx s) = false := by
            rw [HOK.out, hsh, Bool.true_and, decide_eq_false_iff_not]
            rw [ByteArray.toList_eq, beq_eq_false_iff_ne] at hr
            exact hr
          have HNO := Lib.hid hno
          clear hno
          go_wp2_with fail
          refine (iIsShape wr.heap.size m cap a _ wr (by omega) HA.out (Nat.le_refl _)).mono ?_
          rintro e w4 ⟨rfl, hb4⟩
          rw [hsh]
          have HB4 := Lib.hid (HB.out.trans (hb4.mono HB.out.size))
          have HA4 := Lib.hid ((HA.out.on hb4).more hb4.size)
          clear hb4
          go_wp2_with fail
          refine (iFmt w4.heap.size m cap a _ w4 (by omega) HA4.out (Nat.le_refl _)).mono ?_
          rintro e w5 ⟨rfl, hb5⟩
          have HB5 := Lib.hid (HB4.out.trans (hb5.mono HB4.out.size))
          clear hb5
          go_wp2
          go_ret2
          rw [parS_no HNO.out, HNO.out]
          exact ⟨_, rfl, own_nil _ _, HB5.out⟩

end Go.Proofs.YtecfabhpjihcbaaGreatDoor
