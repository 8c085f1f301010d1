/-
  A text as a region, in the program: what the call gives.
-/
import Derived.Test.YtbfopdflkkcfaaaDoorPr4
import Derived.Test.YtbfopdflkkcfaaaDoorSr9
namespace Go.Proofs.YtbfopdflkkcfaaaDoor
open Go.RowKit

def oRow (P : List (List UInt8)) (k : Nat) : List Int := (P.take k).map (fun p => vTo p p.length) ++ List.replicate (P.length - k) 0
def oTo (P : List (List UInt8)) (k x : Nat) : List Int := (P.take k).map (fun p => vTo p p.length) ++ vTo (P.getD k []) x :: List.replicate (P.length - (k + 1)) 0
theorem oTo_zero {P : List (List UInt8)} {k : Nat} (h : k < P.length) : oTo P k 0 = oRow P k := by
  unfold oTo oRow
  rw [show P.length - k = P.length - (k + 1) + 1 by omega, List.replicate_succ]
  rfl
theorem oTo_done {P : List (List UInt8)} {k : Nat} (h : k < P.length) : oTo P k (P.getD k []).length = oRow P (k + 1) := by
  unfold oTo oRow
  rw [List.take_succ_eq_append_getElem h, List.map_append, List.append_assoc]
  simp [List.getD, h]
theorem oRow_zero (P : List (List UInt8)) : oRow P 0 = zerosR P.length := by simp [oRow, zerosR]
theorem oRow_all (P : List (List UInt8)) : oRow P P.length = P.map (fun p => vTo p p.length) := by simp [oRow]
theorem oTo_len {P : List (List UInt8)} {k : Nat} (h : k < P.length) (x : Nat) : (oTo P k x).length = P.length := by
  unfold oTo
  simp
  omega
theorem oTo_get {P : List (List UInt8)} {k : Nat} (h : k < P.length) (x : Nat) : (oTo P k x).getD k 0 = vTo (P.getD k []) x := by
  unfold oTo
  have hl : ((P.take k).map (fun p => vTo p p.length)).length = k := by simp; omega
  rw [List.getD_eq_getElem?_getD, List.getElem?_append_right (by omega), hl, Nat.sub_self]
  rfl
theorem oTo_set {P : List (List UInt8)} {k : Nat} (h : k < P.length) (x y : Nat) : (oTo P k x).set k (vTo (P.getD k []) y) = oTo P k y := by
  unfold oTo
  have hl : ((P.take k).map (fun p => vTo p p.length)).length = k := by simp; omega
  rw [List.set_append_right _ _ (by omega), hl, Nat.sub_self]
  rfl
theorem outL_in (s : List UInt8) : ∀ z ∈ outL s, In64 z := by
  intro z hz
  obtain ⟨p, _, rfl⟩ := List.mem_map.1 hz
  exact vTo_in _ _
theorem nil_rowI (w : World) (B : Nat) : w.ownsRow B 3 1 (.slice none 0 0) 0 (iv []) := ⟨rfl, .inl ⟨rfl, rfl⟩⟩

set_option maxHeartbeats 4000000 in
set_option maxRecDepth 100000 in
theorem iParR (s : ByteArray) (w : World) (hs : s.size ≤ 1048576) (hM : Mx w) :
    Calls Tryd.prog 5 #[.string s] w fun e w' => ∃ v, e = .returned (.tuple #[.agg #[.int .i64 (resW (tx s)), v], .bool (dP (okQ (tx s)))]) ∧ w'.ownsRow w.heap.size 3 1 v (resL (tx s)).length (iv (resL (tx s))) ∧ Below w.heap.size w w' := by
  have hres := RgAt.new (w := w) 0 (.slice none 0 0) rfl
  have hb0 := (Below.refl w.heap.size w).alloc (Nat.le_refl _) (.cells #[.int .i64 0, .slice none 0 0] 24)
  have hsz0 : (w.alloc (.cells #[.int .i64 0, .slice none 0 0] 24)).heap.size = w.heap.size + 1 := by simp
  obtain ⟨mx, hmx⟩ := hM.on hb0 hM.lt
  clear hM
  obtain ⟨RW, hRW⟩ : ∃ z, resW (tx s) = z := ⟨_, rfl⟩
  obtain ⟨RL, hRL⟩ : ∃ z, resL (tx s) = z := ⟨_, rfl⟩
  obtain ⟨RB, hRB⟩ : ∃ z, dP (okQ (tx s)) = z := ⟨_, rfl⟩
  rw [hRW, hRL, hRB]
  have HRS := Lib.hid (And.intro hRW (And.intro hRL hRB))
  clear hRW hRL hRB
  go_enter Tryd.func5, Tryd.ntmps5
  go_wp2_with fail
  generalize (w.alloc (.cells #[.int .i64 0, .slice none 0 0] 24)) = w0 at *
  refine (Tryd.strings_Split s ⟨#[47]⟩ mx w0 (by omega) hmx (by decide)).mono ?_
  rintro e w1 ⟨rfl, hw1⟩
  have hpl := pieces_le s
  have hN : Lib.countB s ⟨#[47]⟩ + 1 = (pieces s).length := (pieces_len s).symm
  rw [hN]
  have HPC := Lib.hid (show ∀ k (h : k < (pieces s).length), w1.cell? ⟨w0.heap.size, k, none⟩ = some (.string (pieces s)[k]) from fun k h => by rw [hw1]; exact piece_cell s w0 k h)
  have hb1 : Below w0.heap.size w0 w1 := by rw [hw1]; exact (Below.refl _ _).alloc (Nat.le_refl _) _
  have hs1 : w0.heap.size + 1 ≤ w1.heap.size := by rw [hw1]; simp
  have HPS := Lib.hid (piece_size s)
  have hr1 := hres.on hb1 hres.lt
  have hB1 := hb0.trans (hb1.mono hb0.size)
  have HPD := Lib.hid (pieces_data s)
  have h0p : 0 < (pieces s).length := by rw [← hN]; omega
  have HPG := Lib.hid (pieces_get s)
  have p0 := HPC.out 0 h0p
  have hq0 := HPS.out 0 h0p
  have HW0 := Lib.hid (show outW (tx s) = ((pieces s)[0].size : Int) from by
    unfold outW
    have h9 := HPG.out 0 h0p
    rw [HPD.out] at h9
    rw [h9, tx_len])
  have HPL := Lib.hid (show (cut47 (tx s)).length = (pieces s).length from by rw [← HPD.out, List.length_map])
  generalize hp0 : (pieces s)[0] = f0 at *
  clear hw1 hmx hN hb0 hb1 hres hp0
  obtain ⟨N, hN⟩ : ∃ N, (pieces s).length = N := ⟨_, rfl⟩
  have HN := Lib.hid hN
  rw [hN] at hpl h0p HPL ⊢
  clear hN
  have h0i : (0 : Int) < (N : Int) := by omega
  rw [hsz0] at p0 HPC hs1
  go_wp2_with fail
  refine (iEmpty f0.size N w1 (by omega)).mono ?_
  rintro e w2 ⟨g, rfl, hown, hb2⟩
  have hgl := hown.lt g rfl
  obtain ⟨ob, hob⟩ : ∃ b, w2.heap.size = b := ⟨_, rfl⟩
  rw [hob] at hgl
  have hv3 := RgAt.new (w := w2) f0.size (.slice (some ⟨g, 0, none⟩) N N) hob
  have hr3 := (hr1.on hb2 hr1.lt).alloc (.cells #[.int .i64 (f0.size : Int), .slice (some ⟨g, 0, none⟩) N N] 24)
  have ho3 := hown.alloc (.cells #[.int .i64 (f0.size : Int), .slice (some ⟨g, 0, none⟩) N N] 24)
  have hB3 := hb2.alloc hb2.size (.cells #[.int .i64 (f0.size : Int), .slice (some ⟨g, 0, none⟩) N N] 24)
  clear hr1 hown hb2 p0
  go_wp2_with fail
  generalize (w2.alloc (.cells #[.int .i64 (f0.size : Int), .slice (some ⟨g, 0, none⟩) N N] 24)) = w3 at *
  have HV3 := Lib.hid hv3
  have HR3 := Lib.hid hr3
  have HO3 := Lib.hid (show w3.ownsRow w1.heap.size 3 1 (.slice (some ⟨g, 0, none⟩) N N) N (iv (oRow (cut47 (tx s)) 0)) from by rw [oRow_zero, HPL.out]; exact ho3)
  have HB3 := Lib.hid hB3
  clear hv3 hr3 ho3 hB3
  go_wp2
  go_loopw [20] (fun i wr => ∃ k : Nat, k ≤ N ∧ i = .int .i64 k ∧ Hid (RgAt wr ob f0.size (.slice (some ⟨g, 0, none⟩) N N)) ∧ Hid (RgAt wr w.heap.size 0 (.slice none 0 0)) ∧ Hid (wr.ownsRow w1.heap.size 3 1 (.slice (some ⟨g, 0, none⟩) N N) N (iv (oRow (cut47 (tx s)) k))) ∧ Below w1.heap.size w1 wr) (fun i _ => N - (intOf i).toNat)
  case atStart => exact ⟨0, by omega, rfl, HV3.out, HR3.out, HO3.out, HB3.out⟩
  case round =>
    obtain ⟨k, hk, rfl, hv, hr, ho, hb⟩ := hrel
    clear HV3 HR3 HO3 HB3
    have hsz := hb.size
    by_cases hlt : k < N
    · have hkp : k < (pieces s).length := by rw [HN.out]; exact hlt
      have hkP : k < (cut47 (tx s)).length := by rw [HPL.out]; exact hlt
      have hpc := (hb.cell (p := ⟨w.heap.size + 1, k, none⟩) (by show w.heap.size + 1 < _; omega)).trans (HPC.out k hkp)
      have hps := HPS.out k hkp
      have hpg := HPG.out k hkp
      rw [HPD.out] at hpg
      have HTZ := Lib.hid (oTo_zero hkP)
      have HTD := Lib.hid (oTo_done hkP)
      have HTG := Lib.hid (oTo_get hkP)
      have HTS := Lib.hid (oTo_set hkP)
      have HTL := Lib.hid (oTo_len hkP)
      generalize (pieces s)[k] = p at hpc hps hpg
      rw [hpg] at HTD HTG HTS
      rw [tx_len] at HTD
      have hk0 : (0 : Int) ≤ (k : Int) := by omega
      have hk1 : (k : Int) < (N : Int) := by omega
      have HO := Lib.hid (show wr.ownsRow w1.heap.size 3 1 (.slice (some ⟨g, 0, none⟩) N N) N (iv (oTo (cut47 (tx s)) k 0)) from by rw [HTZ.out]; exact ho.out)
      clear hpg ho
      generalize wr = wq at *
      go_wp2
      go_loopw [27] (fun i WR9 => ∃ x : Nat, x ≤ p.size ∧ i = .int .i64 x ∧ Hid (RgAt WR9 ob f0.size (.slice (some ⟨g, 0, none⟩) N N)) ∧ Hid (RgAt WR9 w.heap.size 0 (.slice none 0 0)) ∧ Hid (WR9.ownsRow w1.heap.size 3 1 (.slice (some ⟨g, 0, none⟩) N N) N (iv (oTo (cut47 (tx s)) k x))) ∧ Below w1.heap.size w1 WR9) (fun i _ => p.size - (intOf i).toNat)
      case atStart => exact ⟨0, by omega, rfl, hv, hr, HO.out, hb⟩
      case round =>
        clear hv hr hb hsz HO
        obtain ⟨x, hx, rfl, hv, hr, ho, hb⟩ := hrel
        have hsz := hb.size
        by_cases hxl : x < p.size
        · have e35 := byte_int p[x] 35
          have hgp : (tx p).getD x 0 = p[x] := by
            rw [List.getD_eq_getElem?_getD, List.getElem?_eq_getElem (by rw [tx_len]; exact hxl)]
            rfl
          have hst : vTo (tx p) (x + 1) = if p[x] = 35 then bits .or .i64 (vTo (tx p) x) (shV x) else vTo (tx p) x := by rw [vTo, hgp]
          by_cases b35 : p[x] = 35
          · rw [if_pos b35] at hst
            have t35 : (((p[x].toNat : Nat) : Int) == 35) = true := e35.trans (by rw [b35]; rfl)
            have t1 := ho.out.cellAt k (by omega)
            rw [iv_get _ _ (by rw [HTL.out, HPL.out]; exact hlt), HTG.out] at t1
            have t2 := ho.out.frozenAt k
            have hs := ho.out.stored k (.int .i64 (vTo (tx p) (x + 1)))
            rw [iv_set, HTS.out] at hs
            rw [hst] at hs
            have HS := Lib.hid hs
            obtain ⟨z, hz⟩ : ∃ z, vTo (tx p) x = z := ⟨_, rfl⟩
            rw [hz] at t1 HS
            have y1 := hv.out.c1
            clear e35 hst b35 hs hz hgp
            go_wp2_with fail
            refine (iSetC g k x z wr t1 t2).mono ?_
            rintro e w5 ⟨rfl, q, rfl⟩
            have HVN := Lib.hid (show RgAt ((wr.setCell ⟨g, k, none⟩ (.int .i64 (bits .or .i64 z (shV x)))).drewN q) ob f0.size (.slice (some ⟨g, 0, none⟩) N N) from RgAt.far (w := wr) hv.out (by omega))
            have HRN := Lib.hid (show RgAt ((wr.setCell ⟨g, k, none⟩ (.int .i64 (bits .or .i64 z (shV x)))).drewN q) w.heap.size 0 (.slice none 0 0) from RgAt.far (w := wr) hr.out (by omega))
            have HON := Lib.hid (show ((wr.setCell ⟨g, k, none⟩ (.int .i64 (bits .or .i64 z (shV x)))).drewN q).ownsRow w1.heap.size 3 1 (.slice (some ⟨g, 0, none⟩) N N) N (iv (oTo (cut47 (tx s)) k (x + 1))) from HS.out.1)
            have HBN := Lib.hid (below_drewn (hb.setCell (p := ⟨g, k, none⟩) hgl.1 (.int .i64 (bits .or .i64 z (shV x)))) q)
            clear hv hr ho hb HS t1 t2 y1
            generalize ((wr.setCell ⟨g, k, none⟩ (.int .i64 (bits .or .i64 z (shV x)))).drewN q) = w6 at *
            go_wp2
            go_roundw
            case rel => first
              | exact ⟨x + 1, by omega, by go_num, HVN.out, HRN.out, HON.out, HBN.out⟩
              | (repeat apply Exists.intro
                 exact ⟨⟨x + 1, by omega, by go_num, HVN.out, HRN.out, HON.out, HBN.out⟩, rfl⟩)
            case measure => simp [intOf]; omega
          · rw [if_neg b35] at hst
            have t35 : (((p[x].toNat : Nat) : Int) == 35) = false := e35.trans (by rw [decide_eq_false_iff_not]; exact b35)
            have HON := Lib.hid (show wr.ownsRow w1.heap.size 3 1 (.slice (some ⟨g, 0, none⟩) N N) N (iv (oTo (cut47 (tx s)) k (x + 1))) from by
              have h9 := HTS.out x (x + 1)
              rw [hst, ← HTG.out x] at h9
              have h8 := HTS.out x x
              rw [← HTG.out x] at h8
              rw [← h9, h8]
              exact ho.out)
            clear e35 hst b35 hgp ho
            go_wp2
            go_roundw
            case rel => exact ⟨x + 1, by omega, by go_num, hv, hr, HON.out, hb⟩
            case measure => simp [intOf]; omega
        · obtain rfl : x = p.size := by omega
          have HON := Lib.hid (show wr.ownsRow w1.heap.size 3 1 (.slice (some ⟨g, 0, none⟩) N N) N (iv (oRow (cut47 (tx s)) (k + 1))) from by rw [← HTD.out]; exact ho.out)
          clear ho
          go_wp2
          go_roundw
          case rel => exact ⟨k + 1, by omega, by go_num, hv, hr, HON.out, hb⟩
          case measure => simp [intOf]; omega
    · obtain rfl : k = N := by omega
      have HO := Lib.hid (show wr.ownsRow w1.heap.size 3 1 (.slice (some ⟨g, 0, none⟩) k k) k (iv (outL (tx s))) from by
        have h9 := ho.out
        rw [← HPL.out, oRow_all, HPL.out] at h9
        exact h9)
      have HA := Lib.hid (IntsAt.of_own HO.out (outL_in (tx s)))
      have hBW := hB1.trans (hb.mono (by omega))
      have c0 := hv.out.c0
      have c1 := hv.out.c1
      have hll : (outL (tx s)).length = k := by unfold outL; rw [List.length_map, HPL.out]
      have HLL := Lib.hid hll
      have HFW := Lib.hid HW0.out
      clear ho hll
      go_wp2_with fail
      refine (iIsReg wr.heap.size k k (some ⟨g, 0, none⟩) f0.size (outL (tx s)) wr (by omega) HA.out (Nat.le_refl _)).mono ?_
      rintro e w4 ⟨rfl, hb4⟩
      have hv4 := hv.out.on hb4 hv.out.lt
      have hr4 := hr.out.on hb4 hr.out.lt
      have HO4 := Lib.hid (HO.out.kept (grow_below hb4 none) (.inr (by intro e; cases e)))
      have HA4 := Lib.hid ((HA.out.more (Nat.le_refl _)).on hb4)
      have HB4 := Lib.hid (hBW.trans (hb4.mono hBW.size))
      have hsz4 := hb4.size
      clear hb4 hv hr HO HA hBW c0 c1
      cases hreg : isReg (f0.size : Int) (outL (tx s)) with
      | false =>
        have hno : ¬ okQ (tx s) := fun h => by
          have h9 := (out_yes h).1
          rw [HFW.out, hreg] at h9
          cases h9
        have hdn : dP (okQ (tx s)) = false := by
          cases h9 : dP (okQ (tx s)) with
          | false => rfl
          | true => exact absurd ((dP_iff _).1 h9) hno
        have HN0 := Lib.hid (res_no hno)
        obtain rfl : RW = 0 := HRS.out.1.symm.trans HN0.out.1
        obtain rfl : RL = [] := HRS.out.2.1.symm.trans HN0.out.2
        obtain rfl : RB = false := HRS.out.2.2.symm.trans hdn
        clear hreg hno hdn
        have q0 := hr4.c0
        have q1 := hr4.c1
        have q2 := hr4.f 0
        have q3 := hr4.f 1
        have R9 := hr4.set2 0 (.slice none 0 0)
        have e0 := R9.c0
        have e1 := R9.c1
        have HB9 := Lib.hid ((HB4.out.setCell (p := ⟨w.heap.size, 0, none⟩) (Nat.le_refl _) (.int .i64 0)).setCell (p := ⟨w.heap.size, 1, none⟩) (Nat.le_refl _) (.slice none 0 0))
        go_wp2
        generalize ((w4.setCell ⟨w.heap.size, 0, none⟩ (.int .i64 0)).setCell ⟨w.heap.size, 1, none⟩ (.slice none 0 0)) = w9 at *
        exact bodyPost_ret (v := .tuple #[.agg #[.int .i64 0, .slice none 0 0], .bool false]) (by simp [results, Tryd.results5, go_sem, e0, e1]) rfl ⟨_, rfl, nil_rowI _ _, HB9.out⟩
      | true =>
        have v0 := hv4.c0
        have v1 := hv4.c1
        cases hr9 : (fmtR (f0.size : Int) (outL (tx s)) == s.toList) with
        | true =>
          have hyes : okQ (tx s) := ⟨_, _, hreg, by rw [ByteArray.toList_eq, beq_iff_eq] at hr9; exact hr9⟩
          have ho := out_yes hyes
          obtain rfl : RW = (f0.size : Int) := HRS.out.1.symm.trans (ho.2.2.1.symm.trans HFW.out)
          obtain rfl : RL = outL (tx s) := HRS.out.2.1.symm.trans ho.2.2.2.symm
          obtain rfl : RB = true := HRS.out.2.2.symm.trans ((dP_iff _).2 hyes)
          clear ho hyes hreg
          go_wp2_with fail
          refine (iFmtR wr.heap.size k k (some ⟨g, 0, none⟩) f0.size (outL (tx s)) w4 (by omega) HA4.out hsz4).mono ?_
          rintro e w5 ⟨rfl, hb5⟩
          have hv5 := hv4.on hb5 hv4.lt
          have hr5 := hr4.on hb5 hr4.lt
          have HO5 := Lib.hid (HO4.out.kept (grow_below hb5 none) (.inr (by intro e; cases e)))
          have HB5 := Lib.hid (HB4.out.trans (hb5.mono HB4.out.size))
          clear v0 v1 hb5 hv4 hr4 HO4 HB4 HA4
          have v0 := hv5.c0
          have v1 := hv5.c1
          have q0 := hr5.c0
          have q1 := hr5.c1
          have q2 := hr5.f 0
          have q3 := hr5.f 1
          go_wp2
          have R9 := hr5.set2 (f0.size : Int) (.slice (some ⟨g, 0, none⟩) k k)
          have e0 := R9.c0
          have e1 := R9.c1
          have HO9 := Lib.hid (own_below (own_far (b := w.heap.size) (o := 1) (u := .slice (some ⟨g, 0, none⟩) k k) (own_far (b := w.heap.size) (o := 0) (u := .int .i64 (f0.size : Int)) HO5.out (by omega)) (by omega)) (show w.heap.size ≤ w1.heap.size by omega))
          have HB9 := Lib.hid ((HB5.out.setCell (p := ⟨w.heap.size, 0, none⟩) (Nat.le_refl _) (.int .i64 (f0.size : Int))).setCell (p := ⟨w.heap.size, 1, none⟩) (Nat.le_refl _) (.slice (some ⟨g, 0, none⟩) k k))
          generalize ((w5.setCell ⟨w.heap.size, 0, none⟩ (.int .i64 (f0.size : Int))).setCell ⟨w.heap.size, 1, none⟩ (.slice (some ⟨g, 0, none⟩) k k)) = w9 at *
          exact bodyPost_ret (v := .tuple #[.agg #[.int .i64 (f0.size : Int), .slice (some ⟨g, 0, none⟩) k k], .bool true]) (by simp [results, Tryd.results5, go_sem, e0, e1]) rfl ⟨_, rfl, by rw [HLL.out]; exact HO9.out, HB9.out⟩
        | false =>
          have hno : ¬ okQ (tx s) := fun h => by
            have h9 := out_yes h
            rw [HFW.out] at h9
            rw [h9.2.1, ByteArray.toList_eq, beq_self_eq_true] at hr9
            cases hr9
          have hdn : dP (okQ (tx s)) = false := by
            cases h9 : dP (okQ (tx s)) with
            | false => rfl
            | true => exact absurd ((dP_iff _).1 h9) hno
          have HN0 := Lib.hid (res_no hno)
          obtain rfl : RW = 0 := HRS.out.1.symm.trans HN0.out.1
          obtain rfl : RL = [] := HRS.out.2.1.symm.trans HN0.out.2
          obtain rfl : RB = false := HRS.out.2.2.symm.trans hdn
          clear hreg hno hdn
          go_wp2_with fail
          refine (iFmtR wr.heap.size k k (some ⟨g, 0, none⟩) f0.size (outL (tx s)) w4 (by omega) HA4.out hsz4).mono ?_
          rintro e w5 ⟨rfl, hb5⟩
          have hr5 := hr4.on hb5 hr4.lt
          have HB5 := Lib.hid (HB4.out.trans (hb5.mono HB4.out.size))
          clear v0 v1 hb5 hv4 hr4 HO4 HB4 HA4
          have q0 := hr5.c0
          have q1 := hr5.c1
          have q2 := hr5.f 0
          have q3 := hr5.f 1
          have R9 := hr5.set2 0 (.slice none 0 0)
          have e0 := R9.c0
          have e1 := R9.c1
          have HB9 := Lib.hid ((HB5.out.setCell (p := ⟨w.heap.size, 0, none⟩) (Nat.le_refl _) (.int .i64 0)).setCell (p := ⟨w.heap.size, 1, none⟩) (Nat.le_refl _) (.slice none 0 0))
          go_wp2
          generalize ((w5.setCell ⟨w.heap.size, 0, none⟩ (.int .i64 0)).setCell ⟨w.heap.size, 1, none⟩ (.slice none 0 0)) = w9 at *
          exact bodyPost_ret (v := .tuple #[.agg #[.int .i64 0, .slice none 0 0], .bool false]) (by simp [results, Tryd.results5, go_sem, e0, e1]) rfl ⟨_, rfl, nil_rowI _ _, HB9.out⟩

end Go.Proofs.YtbfopdflkkcfaaaDoor
