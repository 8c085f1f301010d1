/-
  The mask of some cells: in the model and in the program: what each call gives.
  The least place, is a mask among some, counts without lists: in the model: what each call gives.
  Products and bits within bounds: small facts that both sides share.
  Are these weights; a number for each placement that has a place; stripes: in the program: what each call gives.
-/
import Derived.Test.YtkcclhnligajeaaGreatDoorVah
import Derived.Lib.QuietBelow
import Derived.Test.YtkcclhnligajeaaGreatDoorVal
import Derived.Test.YtkcclhnligajeaaGreatDoorVac
import Derived.Test.YtkcclhnligajeaaGreatDoorVan
import Derived.Test.YtkcclhnligajeaaGreatDoorVap
namespace Go.Proofs.YtkcclhnligajeaaGreatDoor

section
open Go.RowKit

theorem bit_val {m : Nat} (b : Nat) (hm : m < 9223372036854775808) : bits .and .i64 ((m / 2 ^ b : Nat) : Int) 1 = ((m.testBit b).toNat : Int) := by
  have h1 : m / 2 ^ b ≤ m := Nat.div_le_self _ _
  rw [show (1 : Int) = ((1 : Nat) : Int) from rfl, i64_and_nat _ _ (by omega) (by omega), Nat.and_one_is_mod, Nat.testBit_eq_decide_div_mod_eq]
  have := Nat.mod_two_eq_zero_or_one (m / 2 ^ b)
  rcases this with h | h <;> simp [h]
theorem and_bit {m b : Nat} (hm : m < 9223372036854775808) (hb : b ≤ 50) : bits .and .i64 (m : Int) ((2 ^ b : Nat) : Int) = ((if m.testBit b = true then 2 ^ b else 0 : Nat) : Int) := by
  have h1 : (2 : Nat) ^ b ≤ 2 ^ 50 := Nat.pow_le_pow_right (by omega) hb
  rw [i64_and_nat _ _ hm (by omega)]
  congr 1
  apply Nat.eq_of_testBit_eq
  intro i
  rw [Nat.testBit_and, Nat.testBit_two_pow]
  by_cases h : b = i
  · subst h
    cases hb : m.testBit b <;> simp
  · split <;> simp [h]
/-- A cell of a region: its place in the mask. -/
theorem Rg.place {W H : Nat} {l : List Int} (h : Rg W H l) {x y : Int} (hb : bt l (x, y) = true) : ∃ u v : Nat, x = u ∧ y = v ∧ u < W ∧ v < H ∧ u < 6 ∧ v < 6 ∧ bN W (x, y) = v * W + u ∧ v * W + u < 36 := by
  have hg := h.bt_in hb
  have hl := bN_lt hg
  obtain ⟨⟨h1, h2⟩, h3, h4⟩ := hg
  have hw := h.w6
  have hh := h.h6
  have hm := Nat.mul_le_mul hw hh
  dsimp only at *
  refine ⟨x.toNat, y.toNat, by omega, by omega, by omega, by omega, by omega, by omega, rfl, ?_⟩
  have : bN W (x, y) = y.toNat * W + x.toNat := rfl
  omega

set_option maxHeartbeats 8000000 in
set_option maxRecDepth 100000 in
theorem sMaskC (B n cap m2 cap2 : Nat) (a a2 : Option Addr) (W : Int) (l : List Int) (cs : List Cl) (w : World) (hn : n ≤ 4194304) (hm : m2 ≤ 4194304) (hc : IntsAt B w a n l) (hd : CellsAt B w a2 m2 cs) (hB : B ≤ w.heap.size) :
    Calls Tryz.prog 137 #[.agg #[.int .i64 W, .slice a n cap], .slice a2 m2 cap2] w fun e w' => e = .returned (.tuple #[.int .i64 (mcV W l cs : Nat), .bool (mcOk W l cs)]) ∧ Below w.heap.size w w' := by
  have H := Lib.hid hc
  have HD := Lib.hid hd
  have HLN := Lib.hid hc.1
  have hlc := hd.1
  clear hc hd
  have hmix : Tryz.prog.follows .mixedOrders = true := by kernel_rfl
  have hb0 := (Below.refl w.heap.size w).alloc (Nat.le_refl _) (.cells #[.int .i64 W, .slice a n cap] 26)
  have hbox0 := RgAt.new (w := w) W (.slice a n cap) rfl
  have hsz0 : (w.alloc (.cells #[.int .i64 W, .slice a n cap] 26)).heap.size = w.heap.size + 1 := by simp
  cases h : isReg W l with
  | false =>
    have HI := Lib.hid h
    have HO := Lib.hid (mcOk_no h cs)
    have HCB := Lib.hid (fun x y => cellB_no h x y)
    clear h
    by_cases h0 : 0 < (m2 : Int)
    · obtain ⟨b2, off2, rfl, hbB2, hcell2⟩ := HD.out.2.2 (by omega)
      obtain ⟨x, y, hxy⟩ : ∃ x y, cs.getD 0 (0, 0) = (x, y) := ⟨_, _, rfl⟩
      have p0 := hcell2 0 (by omega)
      rw [hxy] at p0
      simp only [Nat.zero_mul, Nat.add_zero] at p0
      go_enter Tryz.func137, Tryz.ntmps137
      go_wp2
      refine wp_loop_rounds 1 ?_
      rw [rounds_succ]
      generalize (w.alloc (.cells #[.int .i64 W, .slice a n cap] 26)) = W1 at *
      have p1 := (hb0.cell (p := ⟨b2, off2, none⟩) (Nat.lt_of_lt_of_le hbB2 hB)).trans p0.1
      have p2 := (hb0.cell (p := ⟨b2, off2 + 1, none⟩) (Nat.lt_of_lt_of_le hbB2 hB)).trans p0.2
      have r0 := cell_regrown hbox0.c0
      have r1 := cell_regrown hbox0.c1
      have r2 := cell_regrown p1
      have r3 := cell_regrown p2
      have kI : ∀ d os, Calls Tryz.prog 160 #[.agg #[.int .i64 W, .slice a n cap], .int .i64 x, .int .i64 y] (Go.Sort.grow (redrawn W1 d) os) fun e w9 => e = .returned (.bool false) ∧ Below (Go.Sort.grow (redrawn W1 d) os).heap.size (Go.Sort.grow (redrawn W1 d) os) w9 := fun d os => by
        have h9 := sInReg B n cap a W l x y (Go.Sort.grow (redrawn W1 d) os) hn (H.out.on ((hb0.mono hB).trans ((below_regrown W1 d os).mono (Nat.le_trans hB hb0.size)))) (Nat.le_trans (Nat.le_trans hB hb0.size) (below_regrown W1 d os).size)
        rw [HCB.out] at h9
        exact h9
      have HB := Lib.hid hb0
      clear hb0 hbox0 hsz0 hcell2 p0 p1 p2 hxy
      go_wp2_with fail
      refine wp_region_quiet_below hmix (by kernel_rfl) ?_
      repeat (first | (go_big_quiet_step (first | (go_at_call 160; with_reducible refine Calls.regrown_of (kI _ _)))) | (quiet_step (first | (go_at_call 160; with_reducible refine Calls.regrown_of (kI _ _)))))
      refine wpQuiet_nil ?_
      intro _ hw9
      obtain ⟨⟨nq, osq⟩, hw8⟩ := hw9
      subst hw8
      have HBZ := Lib.hid (HB.out.trans ((below_regrown W1 nq osq).mono HB.out.size))
      go_wp2
      go_ret2
      exact ⟨by rw [HO.out, mcV_no HO.out]; rfl, HBZ.out⟩
    · go_enter Tryz.func137, Tryz.ntmps137
      go_wp2
      refine wp_loop_rounds 1 ?_
      rw [rounds_succ]
      generalize (w.alloc (.cells #[.int .i64 W, .slice a n cap] 26)) = W1 at *
      have c0 := hbox0.c0
      have c1 := hbox0.c1
      have HB := Lib.hid hb0
      clear hb0 hbox0 hsz0
      go_wp2_with fail
      refine (sIsReg B n cap a W l _ hn (H.out.on (HB.out.mono hB)) (Nat.le_trans hB HB.out.size)).mono ?_
      rintro e w' ⟨rfl, hb⟩
      rw [HI.out]
      have HB2 := Lib.hid (HB.out.trans (hb.mono HB.out.size))
      clear hb
      go_wp2
      go_ret2
      exact ⟨by rw [HO.out, mcV_no HO.out]; rfl, HB2.out⟩
  | true =>
    obtain ⟨N, rfl, hr⟩ := isReg_out h
    have hln := HLN.out
    rw [hln] at hr
    have HR := Lib.hid hr
    have HI := Lib.hid h
    have HCB := Lib.hid (fun x y => cellB_yes h x y)
    have HO := Lib.hid (mcOk_yes hr cs)
    have hN6 := hr.w6
    have hn6 := hr.h6
    clear h hr hln
    go_enter Tryz.func137, Tryz.ntmps137
    go_wp2
    generalize (w.alloc (.cells #[.int .i64 N, .slice a n cap] 26)) = W1 at *
    have HB := Lib.hid hb0
    clear hb0
    go_loopw [6, 7] (fun v i wr => ∃ k m : Nat, k ≤ m2 ∧ i = .int .i64 k ∧ v = .int .i64 m ∧ Hid (m = orB N (cs.take k)) ∧ Hid (okC N l cs k = true) ∧ Below (w.heap.size + 1) W1 wr) (fun _ i _ => m2 - (intOf i).toNat)
    case atStart => exact ⟨0, 0, by omega, rfl, rfl, rfl, by simp [Hid, okC], Below.refl _ _⟩
    case round =>
      obtain ⟨k, m, hk, rfl, rfl, hmm, hok, hb⟩ := hrel
      have hsz := hb.size
      have hbx := hbox0.on hb (by omega)
      have hbw := HB.out.trans (hb.mono (by omega))
      by_cases hlt : k < m2
      · have hk1 : (k : Int) < (m2 : Int) := by omega
        have hk0 : (0 : Int) ≤ (k : Int) := by omega
        obtain ⟨b2, off2, rfl, hbB2, hcell2⟩ := HD.out.2.2 (by omega)
        obtain ⟨x, y, hxy⟩ : ∃ x y, cs.getD k (0, 0) = (x, y) := ⟨_, _, rfl⟩
        have p0 := hcell2 k hlt
        rw [hxy] at p0
        have p1 := (hbw.cell (p := ⟨b2, off2 + k * 2, none⟩) (Nat.lt_of_lt_of_le hbB2 hB)).trans p0.1
        have p2 := (hbw.cell (p := ⟨b2, off2 + k * 2 + 1, none⟩) (Nat.lt_of_lt_of_le hbB2 hB)).trans p0.2
        have hmb : m < 68719476736 := by
          have h1 := okC_lt HR.out (k := k) (by omega) hok.out
          rw [← hmm.out] at h1
          have h2 := pow36 HR.out.w6 HR.out.h6 (Nat.le_refl n)
          rw [Nat.mul_comm n N] at h2
          omega
        have HST := Lib.hid (okC_step N l cs k)
        have HXY := Lib.hid hxy
        have r0 := cell_regrown hbx.c0
        have r1 := cell_regrown hbx.c1
        have r2 := cell_regrown p1
        have r3 := cell_regrown p2
        have kI : ∀ d os, Calls Tryz.prog 160 #[.agg #[.int .i64 N, .slice a n cap], .int .i64 x, .int .i64 y] (Go.Sort.grow (redrawn wr d) os) fun e w9 => e = .returned (.bool (bt l (x, y))) ∧ Below (Go.Sort.grow (redrawn wr d) os).heap.size (Go.Sort.grow (redrawn wr d) os) w9 := fun d os => by
          have h9 := sInReg B n cap a N l x y (Go.Sort.grow (redrawn wr d) os) hn (H.out.on ((hbw.mono hB).trans ((below_regrown wr d os).mono (Nat.le_trans hB hbw.size)))) (Nat.le_trans (Nat.le_trans hB hbw.size) (below_regrown wr d os).size)
          rw [HCB.out] at h9
          exact h9
        have HP := Lib.hid (show _ ∧ _ from ⟨p1, p2⟩)
        have HBX := Lib.hid hbx
        have HBW := Lib.hid hbw
        have HB1 := Lib.hid hb
        clear p0 p1 p2 hxy hcell2 hbx hbw hb hsz
        cases hbt : bt l (x, y) with
        | false =>
          have HF := Lib.hid (show okC N l cs m2 = false from okC_false (k := k) (by rw [HST.out, HXY.out, hbt]; simp) hlt)
          rw [hbt] at kI
          clear hbt
          go_wp2_with fail
          refine wp_region_quiet_below hmix (by kernel_rfl) ?_
          repeat (first | (go_big_quiet_step (first | (go_at_call 160; with_reducible refine Calls.regrown_of (kI _ _)))) | (quiet_step (first | (go_at_call 160; with_reducible refine Calls.regrown_of (kI _ _)))))
          refine wpQuiet_nil ?_
          intro _ hw9
          obtain ⟨⟨nq, osq⟩, hw8⟩ := hw9
          subst hw8
          have HBZ := Lib.hid (HBW.out.trans ((below_regrown wr nq osq).mono HBW.out.size))
          have HO2 := Lib.hid (show mcOk N l cs = false from by rw [HO.out, hlc]; exact HF.out)
          go_wp2
          go_ret2
          exact ⟨by rw [HO2.out, mcV_no HO2.out]; rfl, HBZ.out⟩
        | true =>
          obtain ⟨u, v, rfl, rfl, hu, hv, hu6, hv6, hbn, h36⟩ := HR.out.place hbt
          obtain ⟨s, hs⟩ : ∃ s : Nat, v * N = s := ⟨_, rfl⟩
          obtain ⟨q, hq⟩ : ∃ q : Nat, v * N + u = q := ⟨_, rfl⟩
          have hmul : (v : Int) * (N : Int) = (s : Int) := by rw [← hs]; simp
          have hadd : (s : Int) + (u : Int) = (q : Int) := by omega
          rw [hq] at hbn h36
          obtain ⟨t, ht⟩ : ∃ t : Nat, m / 2 ^ q = t := ⟨_, rfl⟩
          have hdiv : (m : Int) / (2 : Int) ^ q = (t : Int) := by rw [← ht]; simp
          have htm : t ≤ m := by rw [← ht]; exact Nat.div_le_self _ _
          have hand := bit_val (m := m) q (by omega)
          rw [ht] at hand
          rw [hbt] at kI
          have HBT := Lib.hid hbt
          have HBN := Lib.hid hbn
          clear hbt hs hq ht hbn
          cases htb : m.testBit q with
          | true =>
            rw [htb] at hand
            have hand1 : bits .and .i64 (t : Int) 1 = 1 := hand
            have HF := Lib.hid (show okC N l cs m2 = false from okC_false (k := k) (by rw [HST.out, HXY.out, HBN.out, ← hmm.out, htb]; simp) hlt)
            clear hand htb
            go_wp2_with fail
            refine wp_region_quiet_below hmix (by kernel_rfl) ?_
            repeat (first | (go_big_quiet_step (first | (go_at_call 160; with_reducible refine Calls.regrown_of (kI _ _)))) | (quiet_step (first | (go_at_call 160; with_reducible refine Calls.regrown_of (kI _ _)))))
            refine wpQuiet_nil ?_
            intro _ hw9
            obtain ⟨⟨nq, osq⟩, hw8⟩ := hw9
            subst hw8
            have HBZ := Lib.hid (HBW.out.trans ((below_regrown wr nq osq).mono HBW.out.size))
            have HO2 := Lib.hid (show mcOk N l cs = false from by rw [HO.out, hlc]; exact HF.out)
            go_wp2
            go_ret2
            exact ⟨by rw [HO2.out, mcV_no HO2.out]; rfl, HBZ.out⟩
          | false =>
            rw [htb] at hand
            have hand1 : bits .and .i64 (t : Int) 1 = 0 := hand
            have HF := Lib.hid (show okC N l cs (k + 1) = true from by rw [HST.out, hok.out, HXY.out, HBT.out, HBN.out, ← hmm.out, htb]; rfl)
            have hp2 : (2 : Nat) ^ q ≤ 2 ^ 36 := Nat.pow_le_pow_right (by omega) (by omega)
            obtain ⟨g, hg, eg⟩ := pw_nat q
            rw [hg] at hp2
            have HM := Lib.hid (show m + g = orB N (cs.take (k + 1)) from by rw [orB_take cs (by omega), HXY.out, HBN.out, ← hmm.out, ← nat_or_add htb, hg])
            have HEG := Lib.hid eg
            clear hand htb hg eg
            go_wp2_with fail
            refine wp_region_quiet_below hmix (by kernel_rfl) ?_
            repeat (first | (go_big_quiet_step (first | (go_at_call 160; with_reducible refine Calls.regrown_of (kI _ _)))) | (quiet_step (first | (go_at_call 160; with_reducible refine Calls.regrown_of (kI _ _)))))
            refine wpQuiet_nil ?_
            intro _ hw9
            obtain ⟨⟨nq, osq⟩, hw8⟩ := hw9
            subst hw8
            have hbz := below_regrown wr nq osq
            generalize (Go.Sort.grow (redrawn wr nq) osq) = w3 at *
            have hsz3 := hbz.size
            have HBW3 := Lib.hid (HB1.out.trans (hbz.mono (by have := HB1.out.size; omega)))
            have p1 := (hbz.cell (p := ⟨b2, off2 + k * 2, none⟩) (by have := HBW.out.size; show b2 < wr.heap.size; omega)).trans HP.out.1
            have p2 := (hbz.cell (p := ⟨b2, off2 + k * 2 + 1, none⟩) (by have := HBW.out.size; show b2 < wr.heap.size; omega)).trans HP.out.2
            have c0 := (HBX.out.on hbz HBX.out.lt).c0
            have eg := HEG.out
            clear r0 r1 r2 r3 kI hand1 hdiv hbz
            go_wp2_with fail
            go_quiet (fail)
            go_wp2
            go_roundw
            case rel => exact ⟨k + 1, m + g, by omega, by go_num, by go_num, HM.out, HF.out, below_drewn HBW3.out _⟩
            case measure => simp [intOf]; omega
      · obtain rfl : k = m2 := by omega
        have HOK := Lib.hid (show mcOk N l cs = true from by rw [HO.out, hlc]; exact hok.out)
        have HMV := Lib.hid (show (m : Int) = (mcV N l cs : Nat) from by rw [mcV_yes HOK.out, hmm.out, List.take_of_length_le (by omega)])
        have c0 := hbx.c0
        have c1 := hbx.c1
        have HBW := Lib.hid hbw
        clear hb hbx hbw
        go_wp2_with fail
        refine (sIsReg B n cap a N l wr hn (H.out.on (HBW.out.mono hB)) (Nat.le_trans hB HBW.out.size)).mono ?_
        rintro e w2 ⟨rfl, hb2⟩
        rw [HI.out]
        have HB2 := Lib.hid (HBW.out.trans (hb2.mono HBW.out.size))
        clear hb2
        go_wp2
        go_ret2
        exact ⟨by rw [HOK.out, ← HMV.out]; rfl, HB2.out⟩
end

section
open Go.RowKit

set_option maxHeartbeats 2000000 in
set_option maxRecDepth 100000 in
theorem sLow (x : Nat) (h0 : x ≠ 0) (hx : x < 9223372036854775808) (w : World) :
    Calls Tryz.prog 101 #[.int .i64 x] w fun e w' => e = .returned (.int .i64 (lowB x : Nat)) ∧ Below w.heap.size w w' := by
  have hlt := lowB_lt h0 (show x < 2 ^ 64 by omega)
  have HB := Lib.hid (lowB_bit h0 (show x < 2 ^ 64 by omega))
  have HL := Lib.hid (fun j (h : x.testBit j = true) => lowB_le (show x < 2 ^ 64 by omega) h)
  obtain ⟨low, hlow⟩ : ∃ low, lowB x = low := ⟨_, rfl⟩
  rw [hlow] at hlt HB HL ⊢
  clear hlow
  have hxp : (0 : Int) < (x : Int) := by omega
  go_enter Tryz.func101, Tryz.ntmps101
  go_wp2
  go_loopw [3] (fun v wr => ∃ i : Nat, i ≤ low ∧ v = .int .i64 (i : Int) ∧ Below w.heap.size w wr) (fun v _ => low - (intOf v).toNat)
  case atStart => exact ⟨0, by omega, rfl, Below.refl _ _⟩
  case round =>
    obtain ⟨i, hi, rfl, hb⟩ := hrel
    have hi0 : (0 : Int) ≤ (i : Int) := by omega
    obtain ⟨t, ht⟩ : ∃ t : Nat, x / 2 ^ i = t := ⟨_, rfl⟩
    have hdiv : (x : Int) / (2 : Int) ^ i = (t : Int) := by rw [← ht]; simp
    have htm : t ≤ x := by rw [← ht]; exact Nat.div_le_self _ _
    have hand := bit_val (m := x) i (by omega)
    rw [ht] at hand
    clear ht
    by_cases hlt2 : i < low
    · have hbt : x.testBit i = false := by
        cases e : x.testBit i with
        | false => rfl
        | true => have := HL.out i e; omega
      rw [hbt] at hand
      have hand1 : bits .and .i64 (t : Int) 1 = 0 := hand
      clear hand hbt
      go_wp2
      go_roundw
      case rel => first
        | exact ⟨i + 1, by omega, by go_num, hb⟩
        | (repeat apply Exists.intro
           exact ⟨⟨i + 1, by omega, by go_num, hb⟩, rfl⟩)
      case measure => first | (simp [intOf]; done) | (simp [intOf]; omega)
    · obtain rfl : i = low := by omega
      rw [HB.out] at hand
      have hand1 : bits .and .i64 (t : Int) 1 = 1 := hand
      clear hand
      go_wp2
      go_ret
      exact ⟨rfl, hb⟩

set_option maxHeartbeats 2000000 in
set_option maxRecDepth 100000 in
theorem sHasI (B n cap : Nat) (a : Option Addr) (l : List Int) (z : Int) (w : World) (hn : n ≤ 4194304) (hc : IntsAt B w a n l) (hB : B ≤ w.heap.size) :
    Calls Tryz.prog 75 #[.slice a n cap, .int .i64 z] w fun e w' => e = .returned (.bool (l.contains z)) ∧ Below w.heap.size w w' := by
  have H := Lib.hid hc
  have hln := hc.1
  clear hc
  go_enter Tryz.func75, Tryz.ntmps75
  go_wp2
  go_loopw [5] (fun v wr => ∃ i : Nat, i ≤ n ∧ v = .int .i64 (i : Int) ∧ Hid ((l.take i).contains z = false) ∧ Below w.heap.size w wr) (fun v _ => n - (intOf v).toNat)
  case atStart => exact ⟨0, by omega, rfl, by simp [Hid], Below.refl _ _⟩
  case round =>
    obtain ⟨i, hi, rfl, hno, hb⟩ := hrel
    by_cases hlt : i < n
    · have hi1 : (i : Int) < (n : Int) := by omega
      have hi0 : (0 : Int) ≤ (i : Int) := by omega
      obtain ⟨b9, o9, rfl, hb9, hc9⟩ := (H.out.on (hb.mono hB)).2.2 (by omega)
      have p1 := hc9 i hlt
      have HTK := Lib.hid (take_one (show i < l.length by omega) (0 : Int))
      have HMM := Lib.hid (show l.getD i 0 ∈ l from by simp [List.getD, show i < l.length by omega])
      obtain ⟨y, hy⟩ : ∃ y, l.getD i 0 = y := ⟨_, rfl⟩
      rw [hy] at p1 HTK HMM
      clear hc9 hy
      by_cases hyz : y = z
      · subst hyz
        have e3 : (y == y) = true := by simp
        have HR := Lib.hid (show l.contains y = true from by rw [List.contains_iff_mem]; exact HMM.out)
        clear HTK HMM hno
        go_wp2
        go_ret
        exact ⟨by rw [HR.out]; rfl, hb⟩
      · have e3 : (y == z) = false := by simpa using hyz
        have HR := Lib.hid (show (l.take (i + 1)).contains z = false from by
          have h1 := hno.out
          rw [HTK.out]
          cases e : (l.take i ++ [y]).contains z with
          | false => rfl
          | true =>
            rw [List.contains_iff_mem, List.mem_append, List.mem_singleton] at e
            rcases e with e | e
            · have : (l.take i).contains z = true := by rw [List.contains_iff_mem]; exact e
              unfold Hid at h1
              rw [this] at h1
              cases h1
            · exact absurd e.symm hyz)
        clear HTK HMM hno hyz
        go_wp2
        go_roundw
        case rel => first
          | exact ⟨i + 1, by omega, by go_num, HR.out, hb⟩
          | (repeat apply Exists.intro
             exact ⟨⟨i + 1, by omega, by go_num, HR.out, hb⟩, rfl⟩)
        case measure => first | (simp [intOf]; done) | (simp [intOf]; omega)
    · obtain rfl : i = n := by omega
      have HR := Lib.hid (show l.contains z = false from by have h1 := hno.out; unfold Hid at h1; rw [List.take_of_length_le (by omega)] at h1; exact h1)
      clear hno
      go_wp2
      go_ret
      exact ⟨by rw [HR.out]; rfl, hb⟩
end

section
theorem mul_36 {N n : Nat} (h1 : N ≤ 6) (h2 : n ≤ 6) : (N : Int) * (n : Int) = ((N * n : Nat) : Int) ∧ 0 ≤ (N : Int) * (n : Int) ∧ (N : Int) * (n : Int) ≤ 36 := by
  have h3 := Nat.mul_le_mul h1 h2
  have h4 : (N : Int) * (n : Int) = ((N * n : Nat) : Int) := by push_cast; rfl
  rw [h4]
  omega
theorem shr_bitW (m j : Nat) (hm : m < 68719476736) : ∃ t : Nat, (m : Int) / (2 : Int) ^ j = (t : Int) ∧ t ≤ m ∧ bits .and .i64 (t : Int) 1 = (if m.testBit j = true then 1 else 0) := by
  refine ⟨m / 2 ^ j, by simp, Nat.div_le_self _ _, ?_⟩
  have h := bit_val (m := m) j (by omega)
  rw [h]
  cases m.testBit j <;> rfl
theorem own_form {w : World} {B size n : Nat} {t : TypeId} {v : Value} {xs : List Value} (h : w.ownsRow B t size v n xs) : ∃ a c, v = .slice a n c := by
  rcases h.2 with ⟨rfl, rfl⟩ | ⟨g, cap, cur, rfl, _⟩
  · exact ⟨_, _, rfl⟩
  · exact ⟨_, _, rfl⟩
theorem mul_56 {x : Int} {k : Nat} (hx : 0 ≤ x ∧ x < 5) (hk : k ≤ 36) : 0 ≤ x * (k : Int) ∧ x * (k : Int) ≤ 180 := by
  have h1 := Int.mul_nonneg hx.1 (show 0 ≤ (k : Int) by omega)
  have h2 : x * (k : Int) ≤ 5 * (k : Int) := Int.mul_le_mul_of_nonneg_right (by omega) (by omega)
  omega
end

section
open Go.RowKit

set_option maxHeartbeats 1000000 in
theorem iPlc (N n cap : Nat) (a : Option Addr) (l : List Int) (w : World) (hr : Rg N n l) :
    Calls Tryz.prog 68 #[.agg #[.int .i64 N, .slice a n cap]] w fun e w' => e = .returned (.int .i64 (plcN N l : Nat)) ∧ Below w.heap.size w w' := by
  have hm := mul_36 hr.w6 hr.h6
  have HM := Lib.hid (show (N : Int) * (n : Int) = ((plcN N l : Nat) : Int) from by rw [hm.1, plcN_rg hr])
  have hm2 := hm.2
  have hb0 := (Below.refl w.heap.size w).alloc (Nat.le_refl _) (.cells #[.int .i64 N, .slice a n cap] 26)
  clear hm
  go_enter Tryz.func68, Tryz.ntmps68
  go_wp2
  go_ret
  refine ⟨?_, hb0⟩
  rw [← HM.out]
  rfl
set_option maxHeartbeats 4000000 in
set_option maxRecDepth 100000 in
theorem iAreW (B n cap m3 cap3 : Nat) (a a3 : Option Addr) (W : Int) (l ws : List Int) (p : Int) (w : World) (hn : n ≤ 4194304) (hm : m3 ≤ 4194304) (hc : IntsAt B w a n l) (hw : IntsAt B w a3 m3 ws) (hB : B ≤ w.heap.size) :
    Calls Tryz.prog 90 #[.agg #[.int .i64 W, .slice a n cap], .slice a3 m3 cap3, .int .i64 p] w fun e w' => e = .returned (.bool (areW W l ws p)) ∧ Below w.heap.size w w' := by
  have H := Lib.hid hc
  have HW := Lib.hid hw
  have hln := hc.1
  have hlw := hw.1
  clear hc hw
  have hb0 := (Below.refl w.heap.size w).alloc (Nat.le_refl _) (.cells #[.int .i64 W, .slice a n cap] 26)
  have hbox0 := RgAt.new (w := w) W (.slice a n cap) rfl
  have c0 := hbox0.c0
  have c1 := hbox0.c1
  have HA := Lib.hid hb0
  cases h1 : isReg W l with
  | false =>
    have HO := Lib.hid (show areW W l ws p = false from by unfold areW; rw [h1]; rfl)
    have HI := Lib.hid h1
    rw [HO.out]
    clear h1
    go_enter Tryz.func90, Tryz.ntmps90
    go_wp2_with fail
    refine (iIsReg B n cap a W l _ hn (H.out.on (hb0.mono hB)) (Nat.le_trans hB hb0.size)).mono ?_
    rintro e w1 ⟨rfl, hb⟩
    rw [HI.out]
    go_wp2
    go_ret
    exact ⟨rfl, hb0.trans (hb.mono hb0.size)⟩
  | true =>
    have HI := Lib.hid h1
    obtain ⟨N, rfl, hr⟩ := isReg_out h1
    rw [hln] at hr
    have HR := Lib.hid hr
    cases h2 : prmB p with
    | false =>
      have HO := Lib.hid (show areW N l ws p = false from by unfold areW; rw [h1, h2]; rfl)
      have HP := Lib.hid h2
      rw [HO.out]
      clear h1 h2 hr
      go_enter Tryz.func90, Tryz.ntmps90
      go_wp2_with fail
      refine (iIsReg B n cap a N l _ hn (H.out.on (hb0.mono hB)) (Nat.le_trans hB hb0.size)).mono ?_
      rintro e w1 ⟨rfl, hb⟩
      rw [HI.out]
      have HB1 := Lib.hid (hb0.trans (hb.mono hb0.size))
      clear hb hb0 c0 c1 hbox0
      go_wp2_with fail
      refine (iPrm p w1).mono ?_
      rintro e w2 ⟨rfl, rfl⟩
      rw [HP.out]
      go_wp2
      go_ret
      exact ⟨rfl, HB1.out⟩
    | true =>
      have HP := Lib.hid h2
      have HE := Lib.hid (show areW N l ws p = (decide (m3 = plcN N l) && inPW p ws) from by unfold areW; rw [h1, h2, hlw]; rfl)
      have hpb := plcN_bd hr
      obtain ⟨t, ht⟩ : ∃ t, plcN N l = t := ⟨_, rfl⟩
      have HT := Lib.hid ht
      rw [ht] at HE hpb
      clear h1 h2 hr ht
      rw [HE.out]
      go_enter Tryz.func90, Tryz.ntmps90
      go_wp2_with fail
      refine (iIsReg B n cap a N l _ hn (H.out.on (hb0.mono hB)) (Nat.le_trans hB hb0.size)).mono ?_
      rintro e w1 ⟨rfl, hb⟩
      rw [HI.out]
      have HB1 := Lib.hid (hb0.trans (hb.mono hb0.size))
      have hbx := hbox0.on hb hbox0.lt
      clear hb hb0 c0 c1 hbox0
      have c0 := hbx.c0
      have c1 := hbx.c1
      go_wp2_with fail
      refine (iPrm p w1).mono ?_
      rintro e w2 ⟨rfl, rfl⟩
      rw [HP.out]
      go_wp2_with fail
      refine (iPlc N n cap a l w2 HR.out).mono ?_
      rintro e w3 ⟨rfl, hb⟩
      rw [HT.out]
      have HB3 := Lib.hid (HB1.out.trans (hb.mono HB1.out.size))
      clear hb c0 c1 hbx
      by_cases hl : m3 = t
      · have hb : ((m3 : Int) == (t : Int)) = true := by simp [hl]
        have HD := Lib.hid (show decide (m3 = t) = true from decide_eq_true hl)
        clear hl
        go_wp2_with fail
        refine (iHasAll w3.heap.size m3 cap3 a3 ws p w3 hm ((HW.out.on (HB3.out.mono hB)).more (Nat.le_trans hB HB3.out.size)) (Nat.le_refl _)).mono ?_
        rintro e w4 ⟨rfl, hb4⟩
        have HB4 := Lib.hid (HB3.out.trans (hb4.mono HB3.out.size))
        clear hb4
        go_wp2
        go_ret
        exact ⟨by rw [HD.out, Bool.true_and]; rfl, HB4.out⟩
      · have hb : ((m3 : Int) == (t : Int)) = false := by simp; omega
        have HD := Lib.hid (show decide (m3 = t) = false from decide_eq_false hl)
        clear hl
        go_wp2
        go_ret
        exact ⟨by rw [HD.out]; rfl, HB3.out⟩

set_option maxHeartbeats 2000000 in
set_option maxRecDepth 100000 in
theorem iDigAt (B n cap j : Nat) (a : Option Addr) (Q : List Nat) (w : World) (hn : n ≤ 1048576) (hc : IntsAt B w a n (ints Q)) (hQ : ∀ m ∈ Q, m < 68719476736) (hB : B ≤ w.heap.size) (hj : j < 64) :
    Calls Tryz.prog 77 #[.slice a n cap, .int .i64 j] w fun e w' => ∃ g, e = .returned (.slice (some ⟨g, 0, none⟩) n n) ∧ w'.ownsRow w.heap.size 3 1 (.slice (some ⟨g, 0, none⟩) n n) n (iv (lstI n fun i => if (Q.getD i 0).testBit j = true then 1 else 0)) ∧ Below w.heap.size w w' := by
  obtain ⟨i0, hi, hz0, hz1, hz2⟩ := info_parts info_int
  have H := Lib.hid hc
  have hln := hc.1
  rw [ints_len] at hln
  have HQ := Lib.hid (fun k (hk : k < n) => hQ _ (getD_memN (Q := Q) (k := k) (by omega)))
  clear hc hQ
  have hj0 : (0 : Int) ≤ (j : Int) := by omega
  have hj6 : (j : Int) < 64 := by omega
  go_enter Tryz.func77, Tryz.ntmps77
  go_wp2_with (first | (at_make; refine wpList_make_full _ rfl _ _ 24 rfl w.heap.size 3 i0 (.int .i64 0) 1 Tryz.underlying24 hi hz0 hz1 _ _ _ _ n rfl rfl rfl rfl ?b2 ?b3 ?b4 ?_) | go_in)
  case b2 => rw [hz2]; omega
  case b3 => unfold maxLen; omega
  case b4 => exact Nat.le_refl _
  intro w0 hown0 hgrow0
  rw [made_ints n] at hown0
  have HB0 := Lib.hid (show Below w.heap.size w w0 from (Below.refl _ w).grown hgrow0 (Nat.le_refl _) (fun k h => by cases h))
  have HR0 := Lib.hid (show w0.ownsRow w.heap.size 3 1 (.slice (some ⟨w.heap.size, 0, none⟩) n n) n (iv (lstI n fun _ => 0)) from by
    have e : lstI n (fun _ => (0 : Int)) = List.replicate n 0 := by
      apply List.ext_getElem
      · simp [lstI]
      · intro i h1 h2; simp [lstI]
    rw [e]
    exact hown0)
  clear hown0 hgrow0
  go_wp2
  go_loopw [13] (fun i wr => ∃ k : Nat, k ≤ n ∧ i = .int .i64 k ∧ Hid (wr.ownsRow w.heap.size 3 1 (.slice (some ⟨w.heap.size, 0, none⟩) n n) n (iv (lstI n fun i => if i < k then (if (Q.getD i 0).testBit j = true then 1 else 0) else 0))) ∧ Below w.heap.size w wr) (fun i _ => n - (intOf i).toNat)
  case atStart => exact ⟨0, by omega, rfl, by simpa [Hid] using HR0.out, HB0.out⟩
  case round =>
    obtain ⟨k, hk, rfl, hrow, hb⟩ := hrel
    by_cases hlt : k < n
    · have hk1 : (k : Int) < (n : Int) := by omega
      have hk0 : (0 : Int) ≤ (k : Int) := by omega
      obtain ⟨b9, o9, rfl, hb9, hc9⟩ := (H.out.on (hb.mono hB)).2.2 (by omega)
      have p1 := hc9 k hlt
      rw [ints_get] at p1
      have hmlt := HQ.out k hlt
      have HE := Lib.hid (fun (z : Int) (hz : z = (if (Q.getD k 0).testBit j = true then 1 else 0)) => (show lstI n (fun i => if i = k then z else if i < k then (if (Q.getD i 0).testBit j = true then 1 else 0) else 0) = lstI n (fun i => if i < k + 1 then (if (Q.getD i 0).testBit j = true then 1 else 0) else 0) from lstI_congr fun i _ => by
        by_cases e : i = k
        · subst e; rw [if_pos rfl, if_pos (by omega)]; exact hz
        · rw [if_neg e]
          by_cases e2 : i < k
          · have e3 : i < k + 1 := by omega
            simp only [e2, e3, if_true]
          · have e3 : ¬ i < k + 1 := by omega
            simp only [e2, e3, if_false]))
      obtain ⟨m, hm⟩ : ∃ m, Q.getD k 0 = m := ⟨_, rfl⟩
      rw [hm] at p1 hmlt HE
      obtain ⟨t, t1, t2, t3⟩ := shr_bitW m j hmlt
      obtain ⟨z, hz⟩ : ∃ z : Int, (if m.testBit j = true then 1 else 0) = z := ⟨_, rfl⟩
      rw [hz] at t3
      have HE2 := Lib.hid (HE.out z hz.symm)
      have p2 := row_num hrow.out hlt
      have p3 := hrow.out.frozenAt k
      have HS := Lib.hid (row_set (j := k) hrow.out z)
      clear HE hm hz hc9 hrow
      go_wp2
      have HN := Lib.hid HS.out.1
      have HBN := Lib.hid (hb.setCell (p := ⟨w.heap.size, k, none⟩) (Nat.le_refl _) (.int .i64 z))
      go_roundw
      case rel => first
        | exact ⟨k + 1, by omega, by go_num, by rw [← HE2.out]; exact HN.out, HBN.out⟩
        | (repeat apply Exists.intro
           exact ⟨⟨k + 1, by omega, by go_num, by rw [← HE2.out]; exact HN.out, HBN.out⟩, rfl⟩)
      case measure => first | (simp [intOf]; done) | (simp [intOf]; omega)
    · obtain rfl : k = n := by omega
      have HE := Lib.hid (show lstI k (fun i => if i < k then (if (Q.getD i 0).testBit j = true then 1 else 0) else 0) = lstI k (fun i => if (Q.getD i 0).testBit j = true then (1 : Int) else 0) from lstI_congr fun i hi => if_pos hi)
      rw [HE.out] at hrow
      go_wp2
      go_ret
      exact ⟨_, rfl, hrow.out, hb⟩
end

end Go.Proofs.YtkcclhnligajeaaGreatDoor
