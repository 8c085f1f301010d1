/-
  What is no mirror image of itself; motions one after the other; in the model.
-/
import Derived.Test.YtecfabhpjihcbaaGreatMo5
namespace Go.Proofs.YtecfabhpjihcbaaGreat
open Go.RowKit

set_option maxHeartbeats 1000000 in
set_option maxRecDepth 100000 in
theorem sChiral (B n cap : Nat) (a : Option Addr) (l : List Cl) (w : World) (hn : n ≤ 1048576) (hc : CellsAt B w a n l) (hB : B ≤ w.heap.size) :
    Calls Tryz.prog 22 #[.slice a n cap] w fun e w' => e = .returned (.bool (chirS l)) ∧ Below w.heap.size w w' := by
  have H := Lib.hid hc
  clear hc
  have HG : Hid (chirS l = (decide (symS l ≠ []) && (symS l).all fun m => decide (m < 4))) := rfl
  rw [HG.out]
  clear HG
  have hle : (symS l).length ≤ 8 := by unfold symS; split; exact symTo_len l 8; simp
  have hbd : ∀ z ∈ symS l, 0 ≤ z ∧ z ≤ 7 := by
    intro z hz
    unfold symS symTo at hz
    split at hz
    · obtain ⟨m, hm, rfl⟩ := List.mem_map.1 hz
      have := List.mem_range.1 (List.mem_filter.1 hm).1
      simp only [Int.ofNat_eq_natCast]
      omega
    · cases hz
  obtain ⟨O, hO⟩ : ∃ O, symS l = O := ⟨_, rfl⟩
  have HO := Lib.hid hO
  rw [hO] at hle hbd ⊢
  have HBD := Lib.hid hbd
  clear hO hbd
  go_enter Tryz.func22, Tryz.ntmps22
  go_wp2_with fail
  refine (sSymm B n cap a l w hn H.out hB).mono ?_
  rintro e w1 ⟨g, cc, rfl, hown, hb1⟩
  rw [HO.out] at hown ⊢
  have hgl := hown.lt g rfl
  have HW := Lib.hid hown
  clear hown
  go_wp2
  go_loopw [4] (fun i wr => ∃ k : Nat, k ≤ O.length ∧ i = .int .i64 k ∧ Hid (∀ z ∈ O.take k, z < 4) ∧ wr = w1) (fun i _ => O.length - (intOf i).toNat)
  case atStart => exact ⟨0, by omega, rfl, by simp [Hid], rfl⟩
  case round =>
    obtain ⟨k, hk, rfl, hal, rfl⟩ := hrel
    by_cases hlt : k < O.length
    · obtain ⟨z, hz⟩ : ∃ z, O.getD k 0 = z := ⟨_, rfl⟩
      have hzk : O[k]? = some z := by rw [← hz]; simp [List.getD, hlt]
      have hcell := HW.out.cellAt k (by have := HW.out.1; simp at this; simp; omega)
      rw [List.getElem?_map, hzk] at hcell
      have hcell' : wr.cell? ⟨g, k, none⟩ = some (.int .i64 z) := hcell
      have hzb := HBD.out z (List.mem_of_getElem? hzk)
      have htk : O.take (k + 1) = O.take k ++ [z] := by rw [List.take_add_one, hzk]; rfl
      have HTK := Lib.hid htk
      have HZ := Lib.hid hzk
      have hk0 : (0 : Int) ≤ (k : Int) := by omega
      have hk1 : (k : Int) < (O.length : Int) := by omega
      clear hz hzk hcell htk
      by_cases h4 : 4 ≤ z
      · have e9 : (decide (O ≠ []) && O.all fun m => decide (m < 4)) = false := by
          rw [Bool.and_eq_false_iff]
          right
          rw [List.all_eq_false]
          exact ⟨z, List.mem_of_getElem? HZ.out, by simp; omega⟩
        have E9 := Lib.hid e9.symm
        clear e9
        go_wp2
        go_ret
        exact ⟨ret_Bo E9.out, hb1⟩
      · have hnx : ∀ y ∈ O.take (k + 1), y < 4 := by
          rw [HTK.out]
          intro y hy
          rw [List.mem_append] at hy
          rcases hy with hy | hy
          · exact hal.out y hy
          · simp at hy; omega
        have HNX := Lib.hid hnx
        clear hnx hal
        go_wp2
        go_roundw
        case rel => exact ⟨k + 1, by omega, by go_num, HNX.out, trivial⟩
        case measure => simp [intOf]; omega
    · obtain rfl : k = O.length := by omega
      have hall : O.all (fun m => decide (m < 4)) = true := by
        rw [List.all_eq_true]
        intro y hy
        have := hal.out y (by rw [List.take_length]; exact hy)
        simpa using this
      have e9 : decide (0 < O.length) = (decide (O ≠ []) && O.all fun m => decide (m < 4)) := by
        rw [hall, Bool.and_true]
        cases O with
        | nil => rfl
        | cons x t => simp
      have E9 := Lib.hid e9
      clear e9 hall hal
      go_wp2
      go_ret
      exact ⟨ret_Bo E9.out, hb1⟩

theorem fnd_yes {p : Nat → Bool} {k : Nat} (hk : k < 8) (h : p k = true) (hb : ∀ j, j < k → p j = false) : (List.range 8).find? p = some k := by
  rw [List.find?_range_eq_some]
  exact ⟨h, by simpa using hk, fun j hj => by rw [hb j hj]; rfl⟩
theorem fnd_no {p : Nat → Bool} (hb : ∀ j, j < 8 → p j = false) : (List.range 8).find? p = none := by
  rw [List.find?_eq_none]
  intro x hx
  rw [hb x (List.mem_range.1 hx)]
  simp

set_option maxHeartbeats 2000000 in
set_option maxRecDepth 100000 in
theorem sComp (p q : Int) (w : World) :
    Calls Tryz.prog 7 #[.int .i64 p, .int .i64 q] w fun e w' => e = .returned (.int .i64 (compI p q)) ∧ Below w.heap.size w w' := by
  cases hp : inb p 0 7 with
  | false =>
    have HC : Hid (compI p q = -1) := by unfold compI; rw [hp]; exact rfl
    have HP := Lib.hid hp
    clear hp
    go_enter Tryz.func7, Tryz.ntmps7
    go_wp2_with fail
    refine (sIn p 0 7 w).mono ?_
    rintro e w2 ⟨rfl, rfl⟩
    rw [HP.out]
    go_wp2
    go_ret
    exact ⟨ret_I HC.out.symm, Below.refl _ _⟩
  | true =>
    cases hq : inb q 0 7 with
    | false =>
      have HC : Hid (compI p q = -1) := by unfold compI; rw [hp, hq]; exact rfl
      have HP := Lib.hid hp
      have HQ := Lib.hid hq
      clear hp hq
      go_enter Tryz.func7, Tryz.ntmps7
      go_wp2_with fail
      refine (sIn p 0 7 w).mono ?_
      rintro e w2 ⟨rfl, rfl⟩
      rw [HP.out]
      go_wp2_with fail
      refine (sIn q 0 7 w).mono ?_
      rintro e w2 ⟨rfl, rfl⟩
      rw [HQ.out]
      go_wp2
      go_ret
      exact ⟨ret_I HC.out.symm, Below.refl _ _⟩
    | true =>
      obtain ⟨a, rfl⟩ := Int.eq_ofNat_of_zero_le (inb_out2 hp).1
      obtain ⟨b, rfl⟩ := Int.eq_ofNat_of_zero_le (inb_out2 hq).1
      have ha : a ≤ 7 := by have := (inb_out2 hp).2; omega
      have hb : b ≤ 7 := by have := (inb_out2 hq).2; omega
      have HC : Hid (compI (a : Int) (b : Int) = match (List.range 8).find? (sameM a b) with | some m => (m : Int) | none => -1) := by unfold compI; rw [hp, hq]; exact rfl
      have HP := Lib.hid hp
      have HQ := Lib.hid hq
      clear hp hq
      obtain ⟨o1, o2, ho⟩ : ∃ o1 o2, apM a (1, 0) = (o1, o2) := ⟨_, _, rfl⟩
      obtain ⟨t1, t2, ht⟩ : ∃ t1 t2, apM a (0, 1) = (t1, t2) := ⟨_, _, rfl⟩
      have bo := apM_in (b := 1) a (c := (1, 0)) (by unfold inR; simp)
      have bt := apM_in (b := 1) a (c := (0, 1)) (by unfold inR; simp)
      rw [ho] at bo
      rw [ht] at bt
      obtain ⟨p1, p2, hpp⟩ : ∃ p1 p2, apM b (o1, o2) = (p1, p2) := ⟨_, _, rfl⟩
      obtain ⟨r1, r2, hrr⟩ : ∃ r1 r2, apM b (t1, t2) = (r1, r2) := ⟨_, _, rfl⟩
      have HSM : ∀ m, Hid (sameM a b m = (decide (apM m (1, 0) = (p1, p2)) && decide (apM m (0, 1) = (r1, r2)))) := fun m => by unfold sameM; rw [ho, ht, hpp, hrr]; exact rfl
      have HO := Lib.hid ho
      have HT := Lib.hid ht
      have HPP := Lib.hid hpp
      have HRR := Lib.hid hrr
      have b10 : inR 1000 ((1, 0) : Cl) := by unfold inR; simp
      have b01 : inR 1000 ((0, 1) : Cl) := by unfold inR; simp
      have bo2 : inR 1000 ((o1, o2) : Cl) := by unfold inR at *; dsimp only at *; omega
      have bt2 : inR 1000 ((t1, t2) : Cl) := by unfold inR at *; dsimp only at *; omega
      clear ho ht hpp hrr bo bt
      go_enter Tryz.func7, Tryz.ntmps7
      go_wp2_with fail
      refine (sIn (a : Int) 0 7 w).mono ?_
      rintro e w2 ⟨rfl, rfl⟩
      rw [HP.out]
      go_wp2_with fail
      refine (sIn (b : Int) 0 7 w).mono ?_
      rintro e w2 ⟨rfl, rfl⟩
      rw [HQ.out]
      go_wp2_with fail
      refine (sApply 1 0 a _ ha b10).mono ?_
      rintro e w1 ⟨rfl, -, hb1⟩
      rw [HO.out]
      go_wp2_with fail
      refine (sApply o1 o2 b _ hb bo2).mono ?_
      rintro e w2 ⟨rfl, -, hb2⟩
      rw [HPP.out]
      have hB2 := hb1.trans (hb2.mono hb1.size)
      clear hb1 hb2
      dsimp only
      go_wp2_with fail
      refine (sApply 0 1 a _ ha b01).mono ?_
      rintro e w3 ⟨rfl, -, hb3⟩
      rw [HT.out]
      go_wp2_with fail
      refine (sApply t1 t2 b _ hb bt2).mono ?_
      rintro e w4 ⟨rfl, -, hb4⟩
      rw [HRR.out]
      dsimp only
      go_wp2
      have hz2 := hB2.size
      have hB3 : Below w.heap.size w w3 := (hB2.alloc hz2 (.cells #[.int .i64 p1, .int .i64 p2] 55)).trans (hb3.mono (by simp; omega))
      have hz3 := hb3.size
      simp at hz3
      have hB4 : Below w.heap.size w w4 := hB3.trans (hb4.mono hB3.size)
      have hz4 := hb4.size
      have hc1 : w4.cell? ⟨w2.heap.size, 0, none⟩ = some (.int .i64 p1) := (hb4.cell (by show w2.heap.size < _; omega)).trans ((hb3.cell (by simp)).trans (World.cell?_alloc_at _ _ _ _ rfl))
      have hc2 : w4.cell? ⟨w2.heap.size, 1, none⟩ = some (.int .i64 p2) := (hb4.cell (by show w2.heap.size < _; omega)).trans ((hb3.cell (by simp)).trans (World.cell?_alloc_at _ _ _ _ rfl))
      obtain ⟨wX, hX⟩ : ∃ wX, w4.alloc (.cells #[.int .i64 r1, .int .i64 r2] 55) = wX := ⟨_, rfl⟩
      have hd1 : wX.cell? ⟨w4.heap.size, 0, none⟩ = some (.int .i64 r1) := by rw [← hX]; exact World.cell?_alloc_at _ _ _ _ rfl
      have hd2 : wX.cell? ⟨w4.heap.size, 1, none⟩ = some (.int .i64 r2) := by rw [← hX]; exact World.cell?_alloc_at _ _ _ _ rfl
      have hc1' : wX.cell? ⟨w2.heap.size, 0, none⟩ = some (.int .i64 p1) := by rw [← hX]; exact (World.cell?_alloc_lt _ _ _ (by show w2.heap.size < _; omega)).trans hc1
      have hc2' : wX.cell? ⟨w2.heap.size, 1, none⟩ = some (.int .i64 p2) := by rw [← hX]; exact (World.cell?_alloc_lt _ _ _ (by show w2.heap.size < _; omega)).trans hc2
      have hBX : Below w.heap.size w wX := by rw [← hX]; exact hB4.alloc hB4.size _
      have hzX : w2.heap.size < wX.heap.size ∧ w4.heap.size < wX.heap.size := by rw [← hX]; simp; omega
      obtain ⟨s2, hs2⟩ : ∃ s2, w2.heap.size = s2 := ⟨_, rfl⟩
      obtain ⟨s4, hs4⟩ : ∃ s4, w4.heap.size = s4 := ⟨_, rfl⟩
      rw [hX, hs2, hs4]
      rw [hs2, hs4] at hzX
      rw [hs2] at hc1' hc2'
      rw [hs4] at hd1 hd2
      clear hX hB2 hB3 hB4 hb3 hb4 hz2 hz3 hz4 hc1 hc2 hs2 hs4 b10 b01 bo2 bt2 HO HT HPP HRR HP HQ
      have HD := Lib.hid (show _ ∧ _ ∧ _ ∧ _ from ⟨hc1', hc2', hd1, hd2⟩)
      have HBX := Lib.hid hBX
      clear hc1' hc2' hd1 hd2 hBX
      go_loopw [7] (fun i wr => ∃ k : Nat, k ≤ 8 ∧ i = .int .i64 k ∧ Hid (∀ j, j < k → sameM a b j = false) ∧ Below wX.heap.size wX wr) (fun i _ => 8 - (intOf i).toNat)
      case atStart => exact ⟨0, by omega, rfl, fun j hj => by omega, Below.refl _ _⟩
      case round =>
        obtain ⟨k, hk, rfl, hal, hbr⟩ := hrel
        have hszr := hbr.size
        by_cases hlt : k < 8
        · have hk1 : (k : Int) < 8 := by omega
          obtain ⟨x, y, hxy⟩ : ∃ x y, apM k (1, 0) = (x, y) := ⟨_, _, rfl⟩
          obtain ⟨u, v, huv⟩ : ∃ u v, apM k (0, 1) = (u, v) := ⟨_, _, rfl⟩
          have hsm := (HSM k).out
          rw [hxy, huv] at hsm
          have HS := Lib.hid hsm
          have hN1 : ∀ n os, Calls Tryz.prog 39 #[.agg #[.int .i64 1, .int .i64 0], .int .i64 k] (Go.Sort.grow (wr.drewN n) os) fun e w'' => e = .returned (.agg #[.int .i64 x, .int .i64 y]) ∧ ∃ q os', w'' = Go.Sort.grow ((Go.Sort.grow (wr.drewN n) os).drewN q) os' := fun n os => (sApply 1 0 k _ (by omega) (by unfold inR; simp)).mono fun e w'' h9 => by rw [hxy] at h9; exact ⟨h9.1, h9.2.1⟩
          have hN2 : ∀ n os, Calls Tryz.prog 39 #[.agg #[.int .i64 0, .int .i64 1], .int .i64 k] (Go.Sort.grow (wr.drewN n) os) fun e w'' => e = .returned (.agg #[.int .i64 u, .int .i64 v]) ∧ ∃ q os', w'' = Go.Sort.grow ((Go.Sort.grow (wr.drewN n) os).drewN q) os' := fun n os => (sApply 0 1 k _ (by omega) (by unfold inR; simp)).mono fun e w'' h9 => by rw [huv] at h9; exact ⟨h9.1, h9.2.1⟩
          have l2 : s2 < wr.heap.size := by omega
          have l4 : s4 < wr.heap.size := by omega
          have g1 := cell_grown l2 ((hbr.cell (p := ⟨s2, 0, none⟩) hzX.1).trans HD.out.1)
          have g2 := cell_grown l2 ((hbr.cell (p := ⟨s2, 1, none⟩) hzX.1).trans HD.out.2.1)
          have g3 := cell_grown l4 ((hbr.cell (p := ⟨s4, 0, none⟩) hzX.2).trans HD.out.2.2.1)
          have g4 := cell_grown l4 ((hbr.cell (p := ⟨s4, 1, none⟩) hzX.2).trans HD.out.2.2.2)
          have hE1 := eql_cell x y p1 p2
          have hE2 := eql_cell u v r1 r2
          have hG := cell_guard
          have hmix : Tryz.prog.follows .mixedOrders = true := by kernel_rfl
          clear hxy huv hsm l2 l4
          cases hc1 : sameC (x, y) (p1, p2) with
          | false =>
            rw [hc1] at hE1
            go_wp2_with fail
            refine wp_region_quiet_grown hmix (by kernel_rfl) ?_
            repeat (first | (go_big_quiet_step (first | (go_at_call 39; first | with_reducible refine Calls.grown_of (hN1 _ _) | with_reducible refine Calls.grown_of (hN2 _ _)))) | (quiet_step (first | (go_at_call 39; first | with_reducible refine Calls.grown_of (hN1 _ _) | with_reducible refine Calls.grown_of (hN2 _ _)))))
            refine wpQuiet_nil ?_
            intro _ hw'
            obtain ⟨⟨nq, osq⟩, hw''⟩ := hw'
            subst hw''
            have hbw : Below wr.heap.size wr (Go.Sort.grow (wr.drewN nq) osq) := ⟨rfl, rfl, rfl, by simp, fun k hk => Go.Sort.heap_grow_old _ _ hk⟩
            have HBR := Lib.hid (hbr.trans (hbw.mono hszr))
            clear hbw g1 g2 g3 g4 hN1 hN2 hE1 hE2 hG hmix hbr hszr
            have HF : Hid (sameM a b k = false) := by rw [HS.out]; exact Lib.hid (by have e : decide ((x, y) = (p1, p2)) = false := hc1; rw [e]; rfl)
            have hnx : ∀ j, j < k + 1 → sameM a b j = false := by
              intro j hj
              by_cases e : j = k
              · subst e; exact HF.out
              · exact hal.out j (by omega)
            have HNX := Lib.hid hnx
            clear hnx hal HF HS HSM HC
            go_wp2
            go_roundw
            case rel => exact ⟨k + 1, by omega, by go_num, HNX.out, HBR.out⟩
            case measure => simp [intOf]; omega
          | true =>
            rw [hc1] at hE1
            cases hc2 : sameC (u, v) (r1, r2) with
            | false =>
              rw [hc2] at hE2
              go_wp2_with fail
              refine wp_region_quiet_grown hmix (by kernel_rfl) ?_
              repeat (first | (go_big_quiet_step (first | (go_at_call 39; first | with_reducible refine Calls.grown_of (hN1 _ _) | with_reducible refine Calls.grown_of (hN2 _ _)))) | (quiet_step (first | (go_at_call 39; first | with_reducible refine Calls.grown_of (hN1 _ _) | with_reducible refine Calls.grown_of (hN2 _ _)))))
              refine wpQuiet_nil ?_
              intro _ hw'
              obtain ⟨⟨nq, osq⟩, hw''⟩ := hw'
              subst hw''
              have hbw : Below wr.heap.size wr (Go.Sort.grow (wr.drewN nq) osq) := ⟨rfl, rfl, rfl, by simp, fun k hk => Go.Sort.heap_grow_old _ _ hk⟩
              have HBR := Lib.hid (hbr.trans (hbw.mono hszr))
              clear hbw g1 g2 g3 g4 hN1 hN2 hE1 hE2 hG hmix hbr hszr
              have HF : Hid (sameM a b k = false) := by rw [HS.out]; exact Lib.hid (by have e : decide ((u, v) = (r1, r2)) = false := hc2; rw [e, Bool.and_false])
              have hnx : ∀ j, j < k + 1 → sameM a b j = false := by
                intro j hj
                by_cases e : j = k
                · subst e; exact HF.out
                · exact hal.out j (by omega)
              have HNX := Lib.hid hnx
              clear hnx hal HF HS HSM HC
              go_wp2
              go_roundw
              case rel => exact ⟨k + 1, by omega, by go_num, HNX.out, HBR.out⟩
              case measure => simp [intOf]; omega
            | true =>
              rw [hc2] at hE2
              go_wp2_with fail
              refine wp_region_quiet_grown hmix (by kernel_rfl) ?_
              repeat (first | (go_big_quiet_step (first | (go_at_call 39; first | with_reducible refine Calls.grown_of (hN1 _ _) | with_reducible refine Calls.grown_of (hN2 _ _)))) | (quiet_step (first | (go_at_call 39; first | with_reducible refine Calls.grown_of (hN1 _ _) | with_reducible refine Calls.grown_of (hN2 _ _)))))
              refine wpQuiet_nil ?_
              intro _ hw'
              obtain ⟨⟨nq, osq⟩, hw''⟩ := hw'
              subst hw''
              have hbw : Below wr.heap.size wr (Go.Sort.grow (wr.drewN nq) osq) := ⟨rfl, rfl, rfl, by simp, fun k hk => Go.Sort.heap_grow_old _ _ hk⟩
              have HBR := Lib.hid (hbr.trans (hbw.mono hszr))
              clear hbw g1 g2 g3 g4 hN1 hN2 hE1 hE2 hG hmix hbr hszr
              have HF : Hid (sameM a b k = true) := by rw [HS.out]; exact Lib.hid (by have e : decide ((x, y) = (p1, p2)) = true := hc1; have e2 : decide ((u, v) = (r1, r2)) = true := hc2; rw [e, e2]; rfl)
              have HR : Hid ((k : Int) = compI (a : Int) (b : Int)) := by rw [HC.out, fnd_yes (by omega) HF.out hal.out]; exact rfl
              have HBW := Lib.hid (HBX.out.trans (HBR.out.mono HBX.out.size))
              clear HF HS HSM HC hal
              go_wp2
              go_ret
              exact ⟨ret_I HR.out, HBW.out⟩
        · obtain rfl : k = 8 := by omega
          have HR : Hid ((-1 : Int) = compI (a : Int) (b : Int)) := by rw [HC.out, fnd_no hal.out]; exact rfl
          have HBW := Lib.hid (HBX.out.trans (hbr.mono HBX.out.size))
          clear HSM HC hal
          go_wp2
          go_ret
          exact ⟨ret_I HR.out, HBW.out⟩

end Go.Proofs.YtecfabhpjihcbaaGreat
