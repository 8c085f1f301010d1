/-
  The mask of some cells, in the program: what the call gives.
  The size of a shape, in the program: what the call gives.
  Looking for a cell, and equal lists of cells, in the program: what each call gives.
-/
import Derived.Test.YtailmmamgnebhaaGreatDoorVai
import Derived.Test.YtailmmamgnebhaaGreatDoorVao
import Derived.Test.YtailmmamgnebhaaGreatDoorVaj
import Derived.Test.YtailmmamgnebhaaGreatDoorVac
namespace Go.Proofs.YtailmmamgnebhaaGreatDoor

section
open Go.RowKit

set_option maxHeartbeats 8000000 in
set_option maxRecDepth 100000 in
theorem iMaskC (B n cap m2 cap2 : Nat) (a a2 : Option Addr) (W : Int) (l : List Int) (cs : List Cl) (w : World) (hn : n ≤ 4194304) (hm : m2 ≤ 4194304) (hc : IntsAt B w a n l) (hd : CellsAt B w a2 m2 cs) (hB : B ≤ w.heap.size) :
    Calls Tryz.prog 18 #[.agg #[.int .i64 W, .slice a n cap], .slice a2 m2 cap2] w fun e w' => e = .returned (.tuple #[.int .i64 (mcV W l cs : Nat), .bool (mcOk W l cs)]) ∧ Below w.heap.size w w' := by
  have H := Lib.hid hc
  have HD := Lib.hid hd
  have HLN := Lib.hid hc.1
  have hlc := hd.1
  clear hc hd
  have hb0 := (Below.refl w.heap.size w).alloc (Nat.le_refl _) (.cells #[.int .i64 W, .slice a n cap] 26)
  have hbox0 := RgAt.new (w := w) W (.slice a n cap) rfl
  have hsz0 : (w.alloc (.cells #[.int .i64 W, .slice a n cap] 26)).heap.size = w.heap.size + 1 := by simp
  cases h : isReg W l with
  | false =>
    have HI := Lib.hid h
    have HO := Lib.hid (mcOk_no h cs)
    clear h
    go_enter Tryz.func18, Tryz.ntmps18
    go_wp2_with fail
    refine (iIsReg B n cap a W l _ hn (H.out.on (hb0.mono hB)) (Nat.le_trans hB hb0.size)).mono ?_
    rintro e w' ⟨rfl, hb⟩
    rw [HI.out]
    have HB2 := Lib.hid (hb0.trans (hb.mono hb0.size))
    clear hb hb0
    go_wp2
    go_ret2
    exact ⟨by rw [HO.out, mcV_no HO.out]; rfl, HB2.out⟩
  | true =>
    obtain ⟨N, rfl, hr⟩ := isReg_out h
    have hln := HLN.out
    rw [hln] at hr
    have HR := Lib.hid hr
    have HI := Lib.hid h
    have HCB := Lib.hid (fun x y => cellB_yes h x y)
    have HO := Lib.hid (mcOk_yes hr cs)
    have hN6 := hr.w6
    have hn6 := hr.h6
    clear h hr hln
    go_enter Tryz.func18, Tryz.ntmps18
    go_wp2_with fail
    refine (iIsReg B n cap a N l _ hn (H.out.on (hb0.mono hB)) (Nat.le_trans hB hb0.size)).mono ?_
    rintro e W1 ⟨rfl, hb⟩
    rw [HI.out]
    have HB := Lib.hid (hb0.trans (hb.mono hb0.size))
    have hbox := hbox0.on hb hbox0.lt
    have hsz1 := hb.size
    rw [hsz0] at hsz1
    clear hb hb0 hbox0 hsz0
    go_wp2
    go_loopw [6, 15] (fun v i wr => ∃ k m : Nat, k ≤ m2 ∧ i = .int .i64 k ∧ v = .int .i64 m ∧ Hid (m = orB N (cs.take k)) ∧ Hid (okC N l cs k = true) ∧ Below (w.heap.size + 1) W1 wr) (fun _ i _ => m2 - (intOf i).toNat)
    case atStart => exact ⟨0, 0, by omega, rfl, rfl, rfl, by simp [Hid, okC], Below.refl _ _⟩
    case round =>
      obtain ⟨k, m, hk, rfl, rfl, hmm, hok, hb⟩ := hrel
      have hsz := hb.size
      have hbx := hbox.on hb (by omega)
      have hbw := HB.out.trans (hb.mono (by omega))
      by_cases hlt : k < m2
      · have hk1 : (k : Int) < (m2 : Int) := by omega
        have hk0 : (0 : Int) ≤ (k : Int) := by omega
        obtain ⟨b2, off2, rfl, hbB2, hcell2⟩ := HD.out.2.2 (by omega)
        obtain ⟨x, y, hxy⟩ : ∃ x y, cs.getD k (0, 0) = (x, y) := ⟨_, _, rfl⟩
        have p0 := hcell2 k hlt
        rw [hxy] at p0
        have p1 := (hbw.cell (p := ⟨b2, off2 + k * 2, none⟩) (Nat.lt_of_lt_of_le hbB2 hB)).trans p0.1
        have p2 := (hbw.cell (p := ⟨b2, off2 + k * 2 + 1, none⟩) (Nat.lt_of_lt_of_le hbB2 hB)).trans p0.2
        have hmb : m < 68719476736 := by
          have h1 := okC_lt HR.out (k := k) (by omega) hok.out
          rw [← hmm.out] at h1
          have h2 := pow36 HR.out.w6 HR.out.h6 (Nat.le_refl n)
          rw [Nat.mul_comm n N] at h2
          omega
        have HST := Lib.hid (okC_step N l cs k)
        have HXY := Lib.hid hxy
        have hszw := hbw.size
        obtain ⟨rb, hrb⟩ : ∃ rb, wr.heap.size = rb := ⟨_, rfl⟩
        have HC := Lib.hid (Two.new (w := wr) x y hrb)
        have HB1 := Lib.hid (hb.alloc (show w.heap.size + 1 ≤ wr.heap.size by omega) (.cells #[.int .i64 x, .int .i64 y] 40))
        have HBX := Lib.hid (hbx.alloc (.cells #[.int .i64 x, .int .i64 y] 40))
        have hsa : (wr.alloc (.cells #[.int .i64 x, .int .i64 y] 40)).heap.size = rb + 1 := by simp [hrb]
        have c0 := HBX.out.c0
        have c1 := HBX.out.c1
        have d0 := HC.out.c0
        have d1 := HC.out.c1
        clear p0 hxy hcell2 hbx hbw hb
        go_wp2_with fail
        generalize (wr.alloc (.cells #[.int .i64 x, .int .i64 y] 40)) = w2 at *
        have hbw2 := HB.out.trans (HB1.out.mono (by omega))
        refine (iInReg B n cap a N l x y w2 hn (H.out.on (hbw2.mono hB)) (Nat.le_trans hB hbw2.size)).mono ?_
        rintro e w3 ⟨rfl, hb3⟩
        rw [HCB.out]
        have HB3 := Lib.hid (HB1.out.trans (hb3.mono (by have := HB1.out.size; omega)))
        have HBW3 := Lib.hid (HB.out.trans (HB3.out.mono (by omega)))
        have hc3 := HC.out.on hb3 HC.out.lt
        have hbx3 := HBX.out.on hb3 HBX.out.lt
        clear c0 c1 d0 d1 HC HBX hbw2 p1 p2
        cases hbt : bt l (x, y) with
        | false =>
          have HF := Lib.hid (show okC N l cs m2 = false from okC_false (k := k) (by rw [HST.out, HXY.out, hbt]; simp) hlt)
          have HO2 := Lib.hid (show mcOk N l cs = false from by rw [HO.out, hlc]; exact HF.out)
          clear hbt hb3 hc3 hbx3
          go_wp2
          go_ret2
          exact ⟨by rw [HO2.out, mcV_no HO2.out]; rfl, HBW3.out⟩
        | true =>
          obtain ⟨u, v, rfl, rfl, hu, hv, hu6, hv6, hbn, h36⟩ := HR.out.place hbt
          obtain ⟨q, hq⟩ : ∃ q : Nat, v * N + u = q := ⟨_, rfl⟩
          rw [hq] at hbn h36
          have hand := and_bit (m := m) (b := q) (by omega) (by omega)
          have HBT := Lib.hid hbt
          have HBN := Lib.hid hbn
          have hp2 : (2 : Nat) ^ q ≤ 2 ^ 36 := Nat.pow_le_pow_right (by omega) (by omega)
          have hp1 : 0 < (2 : Nat) ^ q := Nat.pos_of_ne_zero (by simp)
          have c0 := hbx3.c0
          have d0 := hc3.c0
          have d1 := hc3.c1
          clear hbt hbn hb3 hc3 hbx3
          go_wp2_with fail
          refine (iBitOf u v N q w3 hq (by omega) (by omega) (by omega) hN6).mono ?_
          rintro e w4 ⟨rfl, hb4⟩
          have HB4 := Lib.hid (HB3.out.trans (hb4.mono (by have := HB3.out.size; omega)))
          have HBW4 := Lib.hid (HB.out.trans (HB4.out.mono (by omega)))
          clear c0 d0 d1 hb4
          cases htb : m.testBit q with
          | true =>
            rw [htb, if_pos rfl] at hand
            have HF := Lib.hid (show okC N l cs m2 = false from okC_false (k := k) (by rw [HST.out, HXY.out, HBN.out, ← hmm.out, htb]; simp) hlt)
            have HO2 := Lib.hid (show mcOk N l cs = false from by rw [HO.out, hlc]; exact HF.out)
            clear htb hq
            generalize 2 ^ q = g at *
            have hne : ((g : Int) != 0) = true := by rw [bne_iff_ne]; omega
            go_wp2
            go_ret2
            exact ⟨by rw [HO2.out, mcV_no HO2.out]; rfl, HBW4.out⟩
          | false =>
            rw [htb, if_neg (by simp)] at hand
            have hand1 : bits .and .i64 (m : Int) ((2 ^ q : Nat) : Int) = 0 := hand
            have HF := Lib.hid (show okC N l cs (k + 1) = true from by rw [HST.out, hok.out, HXY.out, HBT.out, HBN.out, ← hmm.out, htb]; rfl)
            have HM := Lib.hid (show m ||| 2 ^ q = orB N (cs.take (k + 1)) from by rw [orB_take cs (by omega), HXY.out, HBN.out, ← hmm.out])
            have hor := i64_or_nat m (2 ^ q) (by omega) (by omega)
            clear htb hand hq
            generalize m ||| 2 ^ q = t at *
            generalize 2 ^ q = g at *
            go_wp2
            go_roundw
            case rel => exact ⟨k + 1, t, by omega, by go_num, rfl, HM.out, HF.out, HB4.out⟩
            case measure => simp [intOf]; omega
      · obtain rfl : k = m2 := by omega
        have HOK := Lib.hid (show mcOk N l cs = true from by rw [HO.out, hlc]; exact hok.out)
        have HMV := Lib.hid (show (m : Int) = (mcV N l cs : Nat) from by rw [mcV_yes HOK.out, hmm.out, List.take_of_length_le (by omega)])
        have HBW := Lib.hid hbw
        clear hb hbx hbw
        go_wp2
        go_ret2
        exact ⟨by rw [HOK.out, ← HMV.out]; rfl, HBW.out⟩
end

section
open Go.RowKit

theorem size_no {l : List Cl} (h : isShape l = false) : wideC l = 0 ∧ highC l = 0 := by
  have e : cornS l = [] := if_neg (by rw [h]; simp)
  unfold wideC highC
  rw [e]
  exact ⟨rfl, rfl⟩
theorem size_yes {l : List Cl} (h : isShape l = true) : wideC l = grtX l - lstX l + 1 ∧ highC l = grtY l - lstY l + 1 := by
  have h1 := size_of h
  have h2 := ((isShape_iff l).1 h).1
  unfold grtX grtY lstX lstY
  rw [lst_min _ _ (by omega), lst_min _ _ (by omega)]
  exact h1
theorem bounds_in {l : List Cl} (h : isShape l = true) : (0 ≤ lstX l ∧ lstX l ≤ 7) ∧ (0 ≤ lstY l ∧ lstY l ≤ 7) ∧ (0 ≤ grtX l ∧ grtX l ≤ 7) ∧ (0 ≤ grtY l ∧ grtY l ≤ 7) := by
  obtain ⟨h1, h2, _⟩ := (isShape_iff l).1 h
  have hx : ∀ c ∈ l, 0 ≤ Prod.fst c ∧ Prod.fst c ≤ 7 := fun c hc => by have := inP_out (h2 c hc); omega
  have hy : ∀ c ∈ l, 0 ≤ Prod.snd c ∧ Prod.snd c ≤ 7 := fun c hc => by have := inP_out (h2 c hc); omega
  exact ⟨lstTo_bd _ l (by omega) hx _ (Nat.le_refl _), lstTo_bd _ l (by omega) hy _ (Nat.le_refl _), grtTo_bd _ l (by omega) hx _ (Nat.le_refl _), grtTo_bd _ l (by omega) hy _ (Nat.le_refl _)⟩

set_option maxHeartbeats 1000000 in
set_option maxRecDepth 100000 in
theorem iSize (B n cap : Nat) (a : Option Addr) (l : List Cl) (w : World) (hn : n ≤ 4194304) (hc : CellsAt B w a n l) (hB : B ≤ w.heap.size) :
    Calls Tryz.prog 118 #[.slice a n cap] w fun e w' => e = .returned (.tuple #[.int .i64 (wideC l), .int .i64 (highC l)]) ∧ Below w.heap.size w w' := by
  have H := Lib.hid hc
  clear hc
  by_cases h : isShape l = true
  · have HS := Lib.hid (size_yes h)
    have HBD := Lib.hid (bounds_in h)
    have hl := ((isShape_iff l).1 h).1
    rw [H.out.1] at hl
    go_enter Tryz.func118, Tryz.ntmps118
    go_wp2_with fail
    refine (iIsShape B n cap a l w hn H.out hB).mono ?_
    rintro e w1 ⟨rfl, hb1⟩
    go_wp2_with fail
    refine (iBounds B n cap a l w1 hn (by omega) (H.out.on (hb1.mono hB)) (Nat.le_trans hB hb1.size)).mono ?_
    rintro e w2 ⟨rfl, hb2⟩
    have hb := hb1.trans (hb2.mono hb1.size)
    have hbd := HBD.out
    generalize hA1 : lstX l = a1 at hbd
    generalize hA2 : lstY l = a2 at hbd
    generalize hA3 : grtX l = a3 at hbd
    generalize hA4 : grtY l = a4 at hbd
    have HA := Lib.hid (show _ ∧ _ ∧ _ ∧ _ from ⟨hA1, hA2, hA3, hA4⟩)
    have j1 : IntKind.i64.wrap (a3 - a1) = a3 - a1 := IntWalk.i64_in _ (by omega)
    have j2 : IntKind.i64.wrap (a3 - a1 + 1) = a3 - a1 + 1 := IntWalk.i64_in _ (by omega)
    have j3 : IntKind.i64.wrap (a4 - a2) = a4 - a2 := IntWalk.i64_in _ (by omega)
    have j4 : IntKind.i64.wrap (a4 - a2 + 1) = a4 - a2 + 1 := IntWalk.i64_in _ (by omega)
    clear hA1 hA2 hA3 hA4
    go_wp2_with fail
    go_quiet (fail)
    go_wp2
    go_ret2
    rw [HS.out.1, HS.out.2, HA.out.1, HA.out.2.1, HA.out.2.2.1, HA.out.2.2.2]
    exact ⟨rfl, below_drewn ((hb.alloc hb.size _).alloc (hb.alloc hb.size _).size _) _⟩
  · have h' : isShape l = false := by simpa using h
    have HS := Lib.hid (size_no h')
    clear h
    go_enter Tryz.func118, Tryz.ntmps118
    go_wp2_with fail
    refine (iIsShape B n cap a l w hn H.out hB).mono ?_
    rintro e w1 ⟨rfl, hb1⟩
    go_wp2
    go_ret2
    rw [HS.out.1, HS.out.2]
    exact ⟨rfl, hb1⟩
end

section
open Go.RowKit

set_option maxHeartbeats 1000000 in
set_option maxRecDepth 100000 in
theorem iEqual_same (B n c1 c2 : Nat) (a1 a2 : Option Addr) (l r : List Cl) (w : World) (hn : n ≤ 4194304) (h1 : CellsAt B w a1 n l) (h2 : CellsAt B w a2 n r) (hB : B ≤ w.heap.size) :
    Calls Tryz.prog 154 #[.slice a1 n c1, .slice a2 n c2] w fun e w' => e = .returned (.bool (eqb l r)) ∧ Below w.heap.size w w' := by
  have H1 := Lib.hid h1
  have H2 := Lib.hid h2
  clear h1 h2
  have hne : (((n : Nat) : Int) != (n : Int)) = false := by simp
  go_enter Tryz.func154, Tryz.ntmps154
  go_wp2
  go_loopw [13] (fun i wr => ∃ k : Nat, k ≤ n ∧ i = .int .i64 k ∧ Hid (l.take k = r.take k) ∧ Below w.heap.size w wr) (fun i _ => n - (intOf i).toNat)
  case atStart => exact ⟨0, by omega, rfl, by simp [Hid], Below.refl _ _⟩
  case round =>
    obtain ⟨k, hk, rfl, hsame, hb⟩ := hrel
    have hsz := hb.size
    by_cases hlt : k < n
    · obtain ⟨b1, o1, rfl, hb1, hc1⟩ := H1.out.2.2 (by omega)
      obtain ⟨b2, o2, rfl, hb2, hc2⟩ := H2.out.2.2 (by omega)
      obtain ⟨x, y, hxy⟩ : ∃ x y, l.getD k (0, 0) = (x, y) := ⟨_, _, rfl⟩
      obtain ⟨u, v, huv⟩ : ∃ u v, r.getD k (0, 0) = (u, v) := ⟨_, _, rfl⟩
      have p1 := (hb.cell (p := ⟨b1, o1 + k * 2, none⟩) (Nat.lt_of_lt_of_le hb1 hB)).trans (hc1 k hlt).1
      have p2 := (hb.cell (p := ⟨b1, o1 + k * 2 + 1, none⟩) (Nat.lt_of_lt_of_le hb1 hB)).trans (hc1 k hlt).2
      have q1 := (hb.cell (p := ⟨b2, o2 + k * 2, none⟩) (Nat.lt_of_lt_of_le hb2 hB)).trans (hc2 k hlt).1
      have q2 := (hb.cell (p := ⟨b2, o2 + k * 2 + 1, none⟩) (Nat.lt_of_lt_of_le hb2 hB)).trans (hc2 k hlt).2
      rw [hxy] at p1 p2
      rw [huv] at q1 q2
      have HX := Lib.hid hxy
      have HU := Lib.hid huv
      have hk0 : (0 : Int) ≤ (k : Int) := by omega
      have hk1 : (k : Int) < (n : Int) := by omega
      have hE := neq_cell x y u v
      have hG := cell_guard
      clear hc1 hc2 hxy huv
      go_wp2_with fail
      go_quiet (fail)
      go_wp2
      all_goals
        rename_i hcase
        clear hE hG
        simp [sameC] at hcase
        first
          | (have hd : l.getD k (0, 0) ≠ r.getD k (0, 0) := by
               rw [HX.out, HU.out]
               intro e
               injection e with e1 e2
               subst e1 e2
               simp at hcase
             go_ret
             exact ⟨by rw [eqb_no hd]; rfl, below_drewn hb _⟩)
          | (have hd : l.getD k (0, 0) = r.getD k (0, 0) := by
               rw [HX.out, HU.out, hcase.1, hcase.2]
             have hst := take_same l r k (by have := H1.out.1; omega) (by have := H2.out.1; omega) hsame.out hd
             go_roundw
             case rel => exact ⟨k + 1, by omega, by go_num, hst, below_drewn hb _⟩
             case measure => simp [intOf]; omega)
    · have e : l = r := by
        have h := hsame.out
        rwa [List.take_of_length_le (by have := H1.out.1; omega), List.take_of_length_le (by have := H2.out.1; omega)] at h
      have E := Lib.hid e
      clear e
      go_wp2
      go_ret
      exact ⟨by rw [eqb, E.out]; simp, hb⟩

set_option maxHeartbeats 400000 in
theorem iEqual_any (B n m c1 c2 : Nat) (a1 a2 : Option Addr) (l r : List Cl) (w : World) (hn : n ≤ 4194304) (hm : m ≤ 4194304) (h1 : CellsAt B w a1 n l) (h2 : CellsAt B w a2 m r) (hB : B ≤ w.heap.size) :
    Calls Tryz.prog 117 #[.slice a1 n c1, .slice a2 m c2] w fun e w' => e = .returned (.bool (eqb l r)) ∧ Below w.heap.size w w' := by
  by_cases hnm : n = m
  · subst hnm
    have H1 := Lib.hid h1
    have H2 := Lib.hid h2
    clear h1 h2
    go_enter Tryz.func117, Tryz.ntmps117
    go_wp2_with fail
    refine (iEqual_same B n c1 c2 a1 a2 l r w hn H1.out H2.out hB).mono ?_
    rintro e w1 ⟨rfl, hb1⟩
    go_wp2
    go_ret
    exact ⟨rfl, hb1⟩
  · have hne : (((n : Nat) : Int) != (m : Int)) = true := by rw [bne_iff_ne]; omega
    have he : eqb l r = false := by
      unfold eqb
      simp
      intro e
      have a := h1.1
      have b := h2.1
      rw [e] at a
      omega
    rw [he]
    clear he hnm h1 h2
    go_enter Tryz.func117, Tryz.ntmps117
    go_wp2
    go_ret
    exact ⟨rfl, Below.refl _ _⟩
end

end Go.Proofs.YtailmmamgnebhaaGreatDoor
