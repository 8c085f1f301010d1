/-
  Neighbours that are equal taken out of a slice of cells, in the library's slices.Compact: what the call gives.
-/
import Derived.Test.YtghpljoccclmkaaGreatSkt
import Derived.Test.YtghpljoccclmkaaGreatShq
namespace Go.Proofs.YtghpljoccclmkaaGreat
open Go.RowKit

theorem dedTo_skip {m : List Cl} {k : Nat} (h : 0 < k ∧ m.getD k (0, 0) = m.getD (k - 1) (0, 0)) : dedTo m (k + 1) = dedTo m k := if_pos h
theorem dedTo_keep {m : List Cl} {k : Nat} (h : ¬ (0 < k ∧ m.getD k (0, 0) = m.getD (k - 1) (0, 0))) : dedTo m (k + 1) = dedTo m k ++ [m.getD k (0, 0)] := if_neg h
theorem dedTo_all {m : List Cl} (h : ∀ j, 0 < j → j < m.length → m.getD j (0, 0) ≠ m.getD (j - 1) (0, 0)) : ∀ k, k ≤ m.length → dedTo m k = m.take k
  | 0, _ => by simp [dedTo]
  | k + 1, hk => by
    rw [dedTo_keep (fun hh => h k hh.1 (by omega) hh.2), dedTo_all h k (by omega), take_snoc m k (by omega)]
theorem dedTo_upto {m : List Cl} {n : Nat} (hn : n ≤ m.length) (h : ∀ j, 0 < j → j < n → m.getD j (0, 0) ≠ m.getD (j - 1) (0, 0)) : ∀ k, k ≤ n → dedTo m k = m.take k
  | 0, _ => by simp [dedTo]
  | k + 1, hk => by
    rw [dedTo_keep (fun hh => h k hh.1 (by omega) hh.2), dedTo_upto hn h k (by omega), take_snoc m k (by omega)]
theorem dedTo_le (m : List Cl) : ∀ k, (dedTo m k).length ≤ k
  | 0 => by simp [dedTo]
  | k + 1 => by
    have := dedTo_le m k
    unfold dedTo
    split
    · omega
    · simp; omega
/-- The row while equal neighbours are taken out: p cells looked at, the first kk of them left. -/
structure Cpt (m L : List Cl) (p kk : Nat) : Prop where
  len : L.length = m.length
  kept : L.take kk = dedTo m p
  size : kk = (dedTo m p).length
  lt : kk < p
  rest : ∀ j, p - 1 ≤ j → L.getD j (0, 0) = m.getD j (0, 0)
theorem Cpt.skip {m L : List Cl} {p kk : Nat} (h : Cpt m L p kk) (he : 0 < p ∧ m.getD p (0, 0) = m.getD (p - 1) (0, 0)) : Cpt m L (p + 1) kk :=
  ⟨h.len, by rw [dedTo_skip he]; exact h.kept, by rw [dedTo_skip he]; exact h.size, by have := h.lt; omega, fun j hj => h.rest j (by omega)⟩
theorem Cpt.keep {m L : List Cl} {p kk : Nat} (h : Cpt m L p kk) (hp : p < m.length) (he : ¬ (0 < p ∧ m.getD p (0, 0) = m.getD (p - 1) (0, 0))) : Cpt m (L.set kk (m.getD p (0, 0))) (p + 1) (kk + 1) := by
  have hl := h.lt
  have hkl : kk < L.length := by have := h.len; omega
  refine ⟨by rw [List.length_set]; exact h.len, ?_, by rw [dedTo_keep he, List.length_append, ← h.size]; rfl, by omega, fun j hj => ?_⟩
  · have e : (L.set kk (m.getD p (0, 0))).getD kk (0, 0) = m.getD p (0, 0) := by
      rw [List.getD_eq_getElem?_getD, List.getElem?_set_self hkl]
      rfl
    rw [take_snoc _ _ (by rw [List.length_set]; exact hkl), dedTo_keep he, List.take_set_of_le (Nat.le_refl _), h.kept, e]
  · have hne : kk ≠ j := by omega
    have := h.rest j (by omega)
    rw [List.getD_eq_getElem?_getD] at this ⊢
    rw [List.getElem?_set_ne hne]
    exact this

set_option maxHeartbeats 1500000 in
set_option maxRecDepth 100000 in
theorem iCompact (B n g cap : Nat) (l : List Cl) (w : World) (hn : n ≤ 4194304) (hB : B ≤ w.heap.size) (hown : w.ownsRow B 53 2 (.slice (some ⟨g, 0, none⟩) n cap) n (cvs l)) :
    Calls Tryz.prog 121 #[.slice (some ⟨g, 0, none⟩) n cap] w fun e w' => ∃ k, e = .returned (.slice (some ⟨g, 0, none⟩) k cap) ∧ k = (dedU l).length ∧ w'.ownsRow B 53 2 (.slice (some ⟨g, 0, none⟩) k cap) k (cvs (dedU l)) ∧ Below B w w' := by
  have hl : l.length = n := by have := hown.1; rw [cvs_length] at this; omega
  have hgB := hown.lt g rfl
  have HL := Lib.hid hl
  by_cases h2 : n < 2
  · have hd : dedU l = l := by
      unfold dedU
      rw [dedTo_all (fun j h3 h4 => by omega) l.length (Nat.le_refl _), List.take_length]
    have HO := Lib.hid hown
    have HD := Lib.hid hd
    have h2i : (n : Int) < 2 := by omega
    clear hown hl hd
    go_enter Tryz.func121, Tryz.ntmps121
    go_wp2
    go_ret
    rw [HD.out]
    exact ⟨n, rfl, HL.out.symm, HO.out, Below.refl _ _⟩
  · have h2i : ¬ (n : Int) < 2 := by omega
    have HO := Lib.hid hown
    have hcapn := own_le hown
    clear hown hl
    go_enter Tryz.func121, Tryz.ntmps121
    go_wp2
    go_loopw [3] (fun i wr => ∃ k q : Nat, 1 ≤ k ∧ k ≤ n ∧ i = .int .i64 k ∧ Hid (∀ j, 0 < j → j < k → l.getD j (0, 0) ≠ l.getD (j - 1) (0, 0)) ∧ wr = w.drewN q) (fun i _ => n - (intOf i).toNat)
    case atStart => exact ⟨1, 0, by omega, by omega, rfl, fun j h3 h4 => by omega, rfl⟩
    case round =>
      obtain ⟨k, q, hk1, hk, rfl, hall, rfl⟩ := hrel
      by_cases hlt : k < n
      · obtain ⟨x, y, hxy⟩ : ∃ x y, l.getD k (0, 0) = (x, y) := ⟨_, _, rfl⟩
        obtain ⟨u, v, huv⟩ : ∃ u v, l.getD (k - 1) (0, 0) = (u, v) := ⟨_, _, rfl⟩
        have hcx := cvs_get l k (by rw [HL.out]; exact hlt)
        have hcu := cvs_get l (k - 1) (by rw [HL.out]; omega)
        rw [hxy] at hcx
        rw [huv] at hcu
        have p1 := HO.out.cellAt (k * 2) (by omega)
        have p2 := HO.out.cellAt (k * 2 + 1) (by omega)
        have q1 := HO.out.cellAt ((k - 1) * 2) (by omega)
        have q2 := HO.out.cellAt ((k - 1) * 2 + 1) (by omega)
        rw [hcx.1] at p1
        rw [hcx.2] at p2
        rw [hcu.1] at q1
        rw [hcu.2] at q2
        have HX := Lib.hid hxy
        have HU := Lib.hid huv
        have hk0 : (0 : Int) ≤ (k : Int) := by omega
        have hk1i : (k : Int) < (n : Int) := by omega
        have hj0 : (1 : Int) ≤ (k : Int) := by omega
        have hj2 : (k : Int) - 1 < (n : Int) := by omega
        have hj3 : (0 : Int) ≤ (k : Int) - 1 := by omega
        have hj4 : ((k : Int) - 1).toNat = k - 1 := by omega
        have hjw : IntKind.i64.wrap ((k : Int) - 1) = (k : Int) - 1 := IntWalk.i64_in _ (by omega)
        have hkc : (k : Int) ≤ (cap : Int) := by omega
        have hck : ¬ cap = k := by omega
        have hE := eql_cell x y u v
        have hG := cell_guard
        clear hxy huv hcx hcu
        cases hcs : sameC (x, y) (u, v) with
        | true =>
          rw [hcs] at hE
          go_wp2_with fail
          go_quiet (fail)
          go_wp2
          have hdup : l.getD k (0, 0) = l.getD (k - 1) (0, 0) := by rw [HX.out, HU.out]; simpa [sameC] using hcs
          have hstart : Cpt l l (k + 1) k := by
            have e1 : dedTo l (k + 1) = l.take k := by
              rw [dedTo_skip ⟨by omega, hdup⟩]
              exact dedTo_upto (by rw [HL.out]; omega) hall.out k (Nat.le_refl _)
            exact ⟨rfl, e1.symm, by rw [e1, List.length_take, HL.out]; omega, by omega, fun j _ => rfl⟩
          have HST := Lib.hid hstart
          clear hE hG hcs hdup hstart p1 p2 q1 q2 hall hj0 hj2 hj3 hj4 hjw
          go_loopw [3, 5] (fun s3 s5 wr => ∃ (kk k2 : Nat) (L : List Cl), s3 = .int .i64 kk ∧ s5 = .int .i64 k2 ∧ 1 ≤ k2 ∧ k + k2 ≤ n ∧ Hid (Cpt l L (k + k2) kk) ∧ Hid (wr.ownsRow B 53 2 (.slice (some ⟨g, 0, none⟩) n cap) n (cvs L)) ∧ Below B w wr) (fun _ s5 _ => n - (k + (intOf s5).toNat))
          case atStart => exact ⟨k, 1, l, rfl, rfl, by omega, by omega, HST.out, HO.out, below_drewn (Below.refl _ _) _⟩
          case round =>
            obtain ⟨kk, k2, L, rfl, rfl, h1, hle, hcp, hown, hb⟩ := hrel
            have hkk := hcp.out.lt
            have hLl : L.length = n := by rw [hcp.out.len]; exact HL.out
            by_cases hlt2 : k + k2 < n
            · obtain ⟨x2, y2, hxy⟩ : ∃ x y, L.getD (k + k2) (0, 0) = (x, y) := ⟨_, _, rfl⟩
              obtain ⟨u2, v2, huv⟩ : ∃ u v, L.getD (k + (k2 - 1)) (0, 0) = (u, v) := ⟨_, _, rfl⟩
              have hcx := cvs_get L (k + k2) (by omega)
              have hcu := cvs_get L (k + (k2 - 1)) (by omega)
              rw [hxy] at hcx
              rw [huv] at hcu
              have p1 := hown.out.cellAt ((k + k2) * 2) (by omega)
              have p2 := hown.out.cellAt ((k + k2) * 2 + 1) (by omega)
              have q1 := hown.out.cellAt ((k + (k2 - 1)) * 2) (by omega)
              have q2 := hown.out.cellAt ((k + (k2 - 1)) * 2 + 1) (by omega)
              rw [hcx.1, Nat.add_mul] at p1
              rw [hcx.2, Nat.add_mul] at p2
              rw [hcu.1, Nat.add_mul] at q1
              rw [hcu.2, Nat.add_mul] at q2
              have r1 : l.getD (k + k2) (0, 0) = (x2, y2) := by rw [← hcp.out.rest (k + k2) (by omega)]; exact hxy
              have r2 : l.getD (k + k2 - 1) (0, 0) = (u2, v2) := by rw [← hcp.out.rest (k + k2 - 1) (by omega), show k + k2 - 1 = k + (k2 - 1) by omega]; exact huv
              have HR := Lib.hid (show _ ∧ _ from ⟨r1, r2⟩)
              have hj0 : (1 : Int) ≤ (k2 : Int) := by omega
              have hj1 : (k2 : Int) < ((n - k : Nat) : Int) := by omega
              have hj2 : (k2 : Int) - 1 < ((n - k : Nat) : Int) := by omega
              have hj3 : (0 : Int) ≤ (k2 : Int) - 1 := by omega
              have hj4 : ((k2 : Int) - 1).toNat = k2 - 1 := by omega
              have hj5 : (0 : Int) ≤ (k2 : Int) := by omega
              have hjw : IntKind.i64.wrap ((k2 : Int) - 1) = (k2 : Int) - 1 := IntWalk.i64_in _ (by omega)
              have hk20 : (0 : Int) ≤ (kk : Int) := by omega
              have hk2n : (kk : Int) < (n : Int) := by omega
              have hck := cvs_get L kk (by omega)
              have o1 := hown.out.cellAt (kk * 2) (by omega)
              have o2 := hown.out.cellAt (kk * 2 + 1) (by omega)
              rw [hck.1] at o1
              rw [hck.2] at o2
              have f1 := hown.out.frozenAt (kk * 2)
              have f2 := hown.out.frozenAt (kk * 2 + 1)
              have hN := neq_cell x2 y2 u2 v2
              have hG := cell_guard
              generalize (L.getD kk (0, 0)).1 = w1 at o1
              generalize (L.getD kk (0, 0)).2 = w2 at o2
              clear hxy huv hcx hcu hck r1 r2
              cases hcs2 : sameC (x2, y2) (u2, v2) with
              | false =>
                rw [hcs2] at hN
                go_wp2_with fail
                go_quiet (fail)
                go_wp2
                have hne : ¬ (0 < k + k2 ∧ l.getD (k + k2) (0, 0) = l.getD (k + k2 - 1) (0, 0)) := by
                  rw [HR.out.1, HR.out.2]
                  rintro ⟨_, h9⟩
                  rw [h9] at hcs2
                  simp [sameC] at hcs2
                have hkeep := hcp.out.keep (by rw [HL.out]; exact hlt2) hne
                rw [HR.out.1] at hkeep
                have hown9 : (wr.drewN nq).ownsRow B 53 2 (.slice (some ⟨g, 0, none⟩) n cap) n (cvs L) := hown.out
                have hs1 := hown9.stored (kk * 2) (.int .i64 x2)
                have hs2 := hs1.1.stored (kk * 2 + 1) (.int .i64 y2)
                have hO := hs2.1
                rw [cvs_set L kk (x2, y2) (by omega)] at hO
                have HK := Lib.hid hkeep
                have HOO := Lib.hid hO
                have HBB := Lib.hid (((below_drewn hb nq).setCell (p := ⟨g, kk * 2, none⟩) hgB.1 (.int .i64 x2)).setCell (p := ⟨g, kk * 2 + 1, none⟩) hgB.1 (.int .i64 y2))
                clear hN hG hcs2 hne hkeep hs1 hs2 hO p1 p2 q1 q2 o1 o2 f1 f2
                go_roundw
                case rel => first | exact ⟨kk + 1, k2 + 1, _, by go_num, by go_num, by omega, by omega, HK.out, HOO.out, HBB.out⟩ | ((repeat apply Exists.intro); exact ⟨⟨kk + 1, k2 + 1, _, by go_num, by go_num, by omega, by omega, HK.out, HOO.out, HBB.out⟩, rfl⟩)
                case measure => simp [intOf]; omega
              | true =>
                rw [hcs2] at hN
                go_wp2_with fail
                go_quiet (fail)
                go_wp2
                have he : 0 < k + k2 ∧ l.getD (k + k2) (0, 0) = l.getD (k + k2 - 1) (0, 0) := by
                  rw [HR.out.1, HR.out.2]
                  refine ⟨by omega, ?_⟩
                  simpa [sameC] using hcs2
                have HK := Lib.hid (hcp.out.skip he)
                clear hN hG hcs2 he p1 p2 q1 q2 o1 o2 f1 f2
                go_roundw
                case rel => first | exact ⟨kk, k2 + 1, L, rfl, by go_num, by omega, by omega, HK.out, hown.out, below_drewn hb _⟩ | exact ⟨_, _, _, _, _, _, _, _, _, _, _, _, _, _, _, _, _, _, _, _, _, _, _, _, _, ⟨kk, k2 + 1, L, rfl, by go_num, by omega, by omega, HK.out, hown.out, below_drewn hb _⟩, rfl⟩ | ((repeat apply Exists.intro); exact ⟨⟨kk, k2 + 1, L, rfl, by go_num, by omega, by omega, HK.out, hown.out, below_drewn hb _⟩, rfl⟩)
                case measure => simp [intOf]; omega
            · have hend : k + k2 = n := by omega
              have hcl : ∀ ty, (Builtin.clear_ #[31] ty #[.slice (some ⟨g, kk * 2, none⟩) (n - kk) (cap - kk)]).run Tryz.prog wr = .ok (.tuple #[]) (wr.setCells g (kk * 2) (cvs (List.replicate (n - kk) (0, 0)))) := fun ty => run_clear_cells ty hown.out (by omega)
              have hck : ¬ cap = kk := by omega
              have hkn : (kk : Int) ≤ (n : Int) := by omega
              have hkc2 : (kk : Int) ≤ (cap : Int) := by omega
              have hkk0 : (0 : Int) ≤ (kk : Int) := by omega
              have hd : dedU l = L.take kk := by
                rw [hcp.out.kept, hend, ← HL.out]
                rfl
              have hks : kk = (dedU l).length := by
                rw [hd, List.length_take]
                omega
              have hO := own_setCells_far (cvs (List.replicate (n - kk) (0, 0))) (kk * 2) wr (own_take hown.out (k := kk) (by omega)) (Nat.le_refl _)
              rw [← hd] at hO
              have HOO := Lib.hid hO
              have HKS := Lib.hid hks
              have HBB := Lib.hid (below_sets hgB.1 (cvs (List.replicate (n - kk) (0, 0))) (kk * 2) wr hb)
              clear hO hks hd hend
              go_wp2
              go_ret
              exact ⟨kk, rfl, HKS.out, HOO.out, HBB.out⟩
        | false =>
          rw [hcs] at hE
          go_wp2_with fail
          go_quiet (fail)
          go_wp2
          have hnd : l.getD k (0, 0) ≠ l.getD (k - 1) (0, 0) := by
            rw [HX.out, HU.out]
            unfold sameC at hcs
            rw [decide_eq_false_iff_not] at hcs
            exact hcs
          go_roundw
          case rel =>
            refine ⟨k + 1, q + nq, by omega, by omega, by go_num, fun j h3 h4 => ?_, rfl⟩
            by_cases e : j = k
            · rw [e]; exact hnd
            · exact hall.out j h3 (by omega)
          case measure => simp [intOf]; omega
      · obtain rfl : k = n := by omega
        have hd : dedU l = l := by
          unfold dedU
          rw [dedTo_all (fun j h3 h4 => hall.out j h3 (by rw [← HL.out]; exact h4)) l.length (Nat.le_refl _), List.take_length]
        have HD := Lib.hid hd
        clear hd
        go_wp2
        go_ret
        rw [HD.out]
        exact ⟨k, rfl, HL.out.symm, HO.out, below_drewn (Below.refl _ _) _⟩

end Go.Proofs.YtghpljoccclmkaaGreat
