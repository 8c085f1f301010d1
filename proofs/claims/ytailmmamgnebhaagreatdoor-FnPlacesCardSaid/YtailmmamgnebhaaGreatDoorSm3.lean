/-
  The mask of some cells, in the program: what the call gives.
-/
import Derived.Test.YtailmmamgnebhaaGreatDoorQn
import Derived.Test.YtailmmamgnebhaaGreatDoorQk
namespace Go.Proofs.YtailmmamgnebhaaGreatDoor
open Go.RowKit

set_option maxHeartbeats 8000000 in
set_option maxRecDepth 100000 in
theorem iMaskC (B n cap m2 cap2 : Nat) (a a2 : Option Addr) (W : Int) (l : List Int) (cs : List Cl) (w : World) (hn : n ≤ 4194304) (hm : m2 ≤ 4194304) (hc : IntsAt B w a n l) (hd : CellsAt B w a2 m2 cs) (hB : B ≤ w.heap.size) :
    Calls Tryz.prog 18 #[.agg #[.int .i64 W, .slice a n cap], .slice a2 m2 cap2] w fun e w' => e = .returned (.tuple #[.int .i64 (mcV W l cs : Nat), .bool (mcOk W l cs)]) ∧ Below w.heap.size w w' := by
  have H := Lib.hid hc
  have HD := Lib.hid hd
  have HLN := Lib.hid hc.1
  have hlc := hd.1
  clear hc hd
  have hb0 := (Below.refl w.heap.size w).alloc (Nat.le_refl _) (.cells #[.int .i64 W, .slice a n cap] 26)
  have hbox0 := RgAt.new (w := w) W (.slice a n cap) rfl
  have hsz0 : (w.alloc (.cells #[.int .i64 W, .slice a n cap] 26)).heap.size = w.heap.size + 1 := by simp
  cases h : isReg W l with
  | false =>
    have HI := Lib.hid h
    have HO := Lib.hid (mcOk_no h cs)
    clear h
    go_enter Tryz.func18, Tryz.ntmps18
    go_wp2_with fail
    refine (iIsReg B n cap a W l _ hn (H.out.on (hb0.mono hB)) (Nat.le_trans hB hb0.size)).mono ?_
    rintro e w' ⟨rfl, hb⟩
    rw [HI.out]
    have HB2 := Lib.hid (hb0.trans (hb.mono hb0.size))
    clear hb hb0
    go_wp2
    go_ret2
    exact ⟨by rw [HO.out, mcV_no HO.out]; rfl, HB2.out⟩
  | true =>
    obtain ⟨N, rfl, hr⟩ := isReg_out h
    have hln := HLN.out
    rw [hln] at hr
    have HR := Lib.hid hr
    have HI := Lib.hid h
    have HCB := Lib.hid (fun x y => cellB_yes h x y)
    have HO := Lib.hid (mcOk_yes hr cs)
    have hN6 := hr.w6
    have hn6 := hr.h6
    clear h hr hln
    go_enter Tryz.func18, Tryz.ntmps18
    go_wp2_with fail
    refine (iIsReg B n cap a N l _ hn (H.out.on (hb0.mono hB)) (Nat.le_trans hB hb0.size)).mono ?_
    rintro e W1 ⟨rfl, hb⟩
    rw [HI.out]
    have HB := Lib.hid (hb0.trans (hb.mono hb0.size))
    have hbox := hbox0.on hb hbox0.lt
    have hsz1 := hb.size
    rw [hsz0] at hsz1
    clear hb hb0 hbox0 hsz0
    go_wp2
    go_loopw [6, 15] (fun v i wr => ∃ k m : Nat, k ≤ m2 ∧ i = .int .i64 k ∧ v = .int .i64 m ∧ Hid (m = orB N (cs.take k)) ∧ Hid (okC N l cs k = true) ∧ Below (w.heap.size + 1) W1 wr) (fun _ i _ => m2 - (intOf i).toNat)
    case atStart => exact ⟨0, 0, by omega, rfl, rfl, rfl, by simp [Hid, okC], Below.refl _ _⟩
    case round =>
      obtain ⟨k, m, hk, rfl, rfl, hmm, hok, hb⟩ := hrel
      have hsz := hb.size
      have hbx := hbox.on hb (by omega)
      have hbw := HB.out.trans (hb.mono (by omega))
      by_cases hlt : k < m2
      · have hk1 : (k : Int) < (m2 : Int) := by omega
        have hk0 : (0 : Int) ≤ (k : Int) := by omega
        obtain ⟨b2, off2, rfl, hbB2, hcell2⟩ := HD.out.2.2 (by omega)
        obtain ⟨x, y, hxy⟩ : ∃ x y, cs.getD k (0, 0) = (x, y) := ⟨_, _, rfl⟩
        have p0 := hcell2 k hlt
        rw [hxy] at p0
        have p1 := (hbw.cell (p := ⟨b2, off2 + k * 2, none⟩) (Nat.lt_of_lt_of_le hbB2 hB)).trans p0.1
        have p2 := (hbw.cell (p := ⟨b2, off2 + k * 2 + 1, none⟩) (Nat.lt_of_lt_of_le hbB2 hB)).trans p0.2
        have hmb : m < 68719476736 := by
          have h1 := okC_lt HR.out (k := k) (by omega) hok.out
          rw [← hmm.out] at h1
          have h2 := pow36 HR.out.w6 HR.out.h6 (Nat.le_refl n)
          rw [Nat.mul_comm n N] at h2
          omega
        have HST := Lib.hid (okC_step N l cs k)
        have HXY := Lib.hid hxy
        have hszw := hbw.size
        obtain ⟨rb, hrb⟩ : ∃ rb, wr.heap.size = rb := ⟨_, rfl⟩
        have HC := Lib.hid (Two.new (w := wr) x y hrb)
        have HB1 := Lib.hid (hb.alloc (show w.heap.size + 1 ≤ wr.heap.size by omega) (.cells #[.int .i64 x, .int .i64 y] 40))
        have HBX := Lib.hid (hbx.alloc (.cells #[.int .i64 x, .int .i64 y] 40))
        have hsa : (wr.alloc (.cells #[.int .i64 x, .int .i64 y] 40)).heap.size = rb + 1 := by simp [hrb]
        have c0 := HBX.out.c0
        have c1 := HBX.out.c1
        have d0 := HC.out.c0
        have d1 := HC.out.c1
        clear p0 hxy hcell2 hbx hbw hb
        go_wp2_with fail
        generalize (wr.alloc (.cells #[.int .i64 x, .int .i64 y] 40)) = w2 at *
        have hbw2 := HB.out.trans (HB1.out.mono (by omega))
        refine (iInReg B n cap a N l x y w2 hn (H.out.on (hbw2.mono hB)) (Nat.le_trans hB hbw2.size)).mono ?_
        rintro e w3 ⟨rfl, hb3⟩
        rw [HCB.out]
        have HB3 := Lib.hid (HB1.out.trans (hb3.mono (by have := HB1.out.size; omega)))
        have HBW3 := Lib.hid (HB.out.trans (HB3.out.mono (by omega)))
        have hc3 := HC.out.on hb3 HC.out.lt
        have hbx3 := HBX.out.on hb3 HBX.out.lt
        clear c0 c1 d0 d1 HC HBX hbw2 p1 p2
        cases hbt : bt l (x, y) with
        | false =>
          have HF := Lib.hid (show okC N l cs m2 = false from okC_false (k := k) (by rw [HST.out, HXY.out, hbt]; simp) hlt)
          have HO2 := Lib.hid (show mcOk N l cs = false from by rw [HO.out, hlc]; exact HF.out)
          clear hbt hb3 hc3 hbx3
          go_wp2
          go_ret2
          exact ⟨by rw [HO2.out, mcV_no HO2.out]; rfl, HBW3.out⟩
        | true =>
          obtain ⟨u, v, rfl, rfl, hu, hv, hu6, hv6, hbn, h36⟩ := HR.out.place hbt
          obtain ⟨q, hq⟩ : ∃ q : Nat, v * N + u = q := ⟨_, rfl⟩
          rw [hq] at hbn h36
          have hand := and_bit (m := m) (b := q) (by omega) (by omega)
          have HBT := Lib.hid hbt
          have HBN := Lib.hid hbn
          have hp2 : (2 : Nat) ^ q ≤ 2 ^ 36 := Nat.pow_le_pow_right (by omega) (by omega)
          have hp1 : 0 < (2 : Nat) ^ q := Nat.pos_of_ne_zero (by simp)
          have c0 := hbx3.c0
          have d0 := hc3.c0
          have d1 := hc3.c1
          clear hbt hbn hb3 hc3 hbx3
          go_wp2_with fail
          refine (iBitOf u v N q w3 hq (by omega) (by omega) (by omega) hN6).mono ?_
          rintro e w4 ⟨rfl, hb4⟩
          have HB4 := Lib.hid (HB3.out.trans (hb4.mono (by have := HB3.out.size; omega)))
          have HBW4 := Lib.hid (HB.out.trans (HB4.out.mono (by omega)))
          clear c0 d0 d1 hb4
          cases htb : m.testBit q with
          | true =>
            rw [htb, if_pos rfl] at hand
            have HF := Lib.hid (show okC N l cs m2 = false from okC_false (k := k) (by rw [HST.out, HXY.out, HBN.out, ← hmm.out, htb]; simp) hlt)
            have HO2 := Lib.hid (show mcOk N l cs = false from by rw [HO.out, hlc]; exact HF.out)
            clear htb hq
            generalize 2 ^ q = g at *
            have hne : ((g : Int) != 0) = true := by rw [bne_iff_ne]; omega
            go_wp2
            go_ret2
            exact ⟨by rw [HO2.out, mcV_no HO2.out]; rfl, HBW4.out⟩
          | false =>
            rw [htb, if_neg (by simp)] at hand
            have hand1 : bits .and .i64 (m : Int) ((2 ^ q : Nat) : Int) = 0 := hand
            have HF := Lib.hid (show okC N l cs (k + 1) = true from by rw [HST.out, hok.out, HXY.out, HBT.out, HBN.out, ← hmm.out, htb]; rfl)
            have HM := Lib.hid (show m ||| 2 ^ q = orB N (cs.take (k + 1)) from by rw [orB_take cs (by omega), HXY.out, HBN.out, ← hmm.out])
            have hor := i64_or_nat m (2 ^ q) (by omega) (by omega)
            clear htb hand hq
            generalize m ||| 2 ^ q = t at *
            generalize 2 ^ q = g at *
            go_wp2
            go_roundw
            case rel => exact ⟨k + 1, t, by omega, by go_num, rfl, HM.out, HF.out, HB4.out⟩
            case measure => simp [intOf]; omega
      · obtain rfl : k = m2 := by omega
        have HOK := Lib.hid (show mcOk N l cs = true from by rw [HO.out, hlc]; exact hok.out)
        have HMV := Lib.hid (show (m : Int) = (mcV N l cs : Nat) from by rw [mcV_yes HOK.out, hmm.out, List.take_of_length_le (by omega)])
        have HBW := Lib.hid hbw
        clear hb hbx hbw
        go_wp2
        go_ret2
        exact ⟨by rw [HOK.out, ← HMV.out]; rfl, HBW.out⟩

end Go.Proofs.YtailmmamgnebhaaGreatDoor
