/-
  The mask of some cells: in the model and in the program: what each call gives.
  The least place, is a mask among some, counts without lists: in the model: what each call gives.
  The small functions under the program's shapes: bounds of a place and of a move, the order of two cells.
-/
import Derived.Test.YtkjlmgkjcmebbaaGreatDoorVai
import Derived.Lib.QuietBelow
import Derived.Test.YtkjlmgkjcmebbaaGreatDoorVah
import Derived.Test.YtkjlmgkjcmebbaaGreatDoorRga
import Derived.Test.YtkjlmgkjcmebbaaGreatDoorVac
import Derived.Sort.Grow
namespace Go.Proofs.YtkjlmgkjcmebbaaGreatDoor

section
open Go.RowKit

theorem bit_val {m : Nat} (b : Nat) (hm : m < 9223372036854775808) : bits .and .i64 ((m / 2 ^ b : Nat) : Int) 1 = ((m.testBit b).toNat : Int) := by
  have h1 : m / 2 ^ b ≤ m := Nat.div_le_self _ _
  rw [show (1 : Int) = ((1 : Nat) : Int) from rfl, i64_and_nat _ _ (by omega) (by omega), Nat.and_one_is_mod, Nat.testBit_eq_decide_div_mod_eq]
  have := Nat.mod_two_eq_zero_or_one (m / 2 ^ b)
  rcases this with h | h <;> simp [h]
theorem and_bit {m b : Nat} (hm : m < 9223372036854775808) (hb : b ≤ 50) : bits .and .i64 (m : Int) ((2 ^ b : Nat) : Int) = ((if m.testBit b = true then 2 ^ b else 0 : Nat) : Int) := by
  have h1 : (2 : Nat) ^ b ≤ 2 ^ 50 := Nat.pow_le_pow_right (by omega) hb
  rw [i64_and_nat _ _ hm (by omega)]
  congr 1
  apply Nat.eq_of_testBit_eq
  intro i
  rw [Nat.testBit_and, Nat.testBit_two_pow]
  by_cases h : b = i
  · subst h
    cases hb : m.testBit b <;> simp
  · split <;> simp [h, Nat.testBit_two_pow]
/-- A cell of a region: its place in the mask. -/
theorem Rg.place {W H : Nat} {l : List Int} (h : Rg W H l) {x y : Int} (hb : bt l (x, y) = true) : ∃ u v : Nat, x = u ∧ y = v ∧ u < W ∧ v < H ∧ u < 6 ∧ v < 6 ∧ bN W (x, y) = v * W + u ∧ v * W + u < 36 := by
  have hg := h.bt_in hb
  have hl := bN_lt hg
  obtain ⟨⟨h1, h2⟩, h3, h4⟩ := hg
  have hw := h.w6
  have hh := h.h6
  have hm := Nat.mul_le_mul hw hh
  dsimp only at *
  refine ⟨x.toNat, y.toNat, by omega, by omega, by omega, by omega, by omega, by omega, rfl, ?_⟩
  have : bN W (x, y) = y.toNat * W + x.toNat := rfl
  omega

set_option maxHeartbeats 8000000 in
set_option maxRecDepth 100000 in
theorem sMaskC (B n cap m2 cap2 : Nat) (a a2 : Option Addr) (W : Int) (l : List Int) (cs : List Cl) (w : World) (hn : n ≤ 4194304) (hm : m2 ≤ 4194304) (hc : IntsAt B w a n l) (hd : CellsAt B w a2 m2 cs) (hB : B ≤ w.heap.size) :
    Calls Tryz.prog 125 #[.agg #[.int .i64 W, .slice a n cap], .slice a2 m2 cap2] w fun e w' => e = .returned (.tuple #[.int .i64 (mcV W l cs : Nat), .bool (mcOk W l cs)]) ∧ Below w.heap.size w w' := by
  have H := Lib.hid hc
  have HD := Lib.hid hd
  have HLN := Lib.hid hc.1
  have hlc := hd.1
  clear hc hd
  have hmix : Tryz.prog.follows .mixedOrders = true := by kernel_rfl
  have hb0 := (Below.refl w.heap.size w).alloc (Nat.le_refl _) (.cells #[.int .i64 W, .slice a n cap] 26)
  have hbox0 := RgAt.new (w := w) W (.slice a n cap) rfl
  have hsz0 : (w.alloc (.cells #[.int .i64 W, .slice a n cap] 26)).heap.size = w.heap.size + 1 := by simp
  cases h : isReg W l with
  | false =>
    have HI := Lib.hid h
    have HO := Lib.hid (mcOk_no h cs)
    have HCB := Lib.hid (fun x y => cellB_no h x y)
    clear h
    by_cases h0 : 0 < (m2 : Int)
    · obtain ⟨b2, off2, rfl, hbB2, hcell2⟩ := HD.out.2.2 (by omega)
      obtain ⟨x, y, hxy⟩ : ∃ x y, cs.getD 0 (0, 0) = (x, y) := ⟨_, _, rfl⟩
      have p0 := hcell2 0 (by omega)
      rw [hxy] at p0
      simp only [Nat.zero_mul, Nat.add_zero] at p0
      go_enter Tryz.func125, Tryz.ntmps125
      go_wp2
      refine wp_loop_rounds 1 ?_
      rw [rounds_succ]
      generalize (w.alloc (.cells #[.int .i64 W, .slice a n cap] 26)) = W1 at *
      have p1 := (hb0.cell (p := ⟨b2, off2, none⟩) (Nat.lt_of_lt_of_le hbB2 hB)).trans p0.1
      have p2 := (hb0.cell (p := ⟨b2, off2 + 1, none⟩) (Nat.lt_of_lt_of_le hbB2 hB)).trans p0.2
      have r0 := cell_regrown hbox0.c0
      have r1 := cell_regrown hbox0.c1
      have r2 := cell_regrown p1
      have r3 := cell_regrown p2
      have kI : ∀ d os, Calls Tryz.prog 154 #[.agg #[.int .i64 W, .slice a n cap], .int .i64 x, .int .i64 y] (Go.Sort.grow (redrawn W1 d) os) fun e w9 => e = .returned (.bool false) ∧ Below (Go.Sort.grow (redrawn W1 d) os).heap.size (Go.Sort.grow (redrawn W1 d) os) w9 := fun d os => by
        have h9 := sInReg B n cap a W l x y (Go.Sort.grow (redrawn W1 d) os) hn (H.out.on ((hb0.mono hB).trans ((below_regrown W1 d os).mono (Nat.le_trans hB hb0.size)))) (Nat.le_trans (Nat.le_trans hB hb0.size) (below_regrown W1 d os).size)
        rw [HCB.out] at h9
        exact h9
      have HB := Lib.hid hb0
      clear hb0 hbox0 hsz0 hcell2 p0 p1 p2 hxy
      go_wp2_with fail
      refine wp_region_quiet_below hmix (by kernel_rfl) ?_
      repeat (first | (go_big_quiet_step (first | (go_at_call 154; with_reducible refine Calls.regrown_of (kI _ _)))) | (quiet_step (first | (go_at_call 154; with_reducible refine Calls.regrown_of (kI _ _)))))
      refine wpQuiet_nil ?_
      intro _ hw9
      obtain ⟨⟨nq, osq⟩, hw8⟩ := hw9
      subst hw8
      have HBZ := Lib.hid (HB.out.trans ((below_regrown W1 nq osq).mono HB.out.size))
      go_wp2
      go_ret2
      exact ⟨by rw [HO.out, mcV_no HO.out]; rfl, HBZ.out⟩
    · go_enter Tryz.func125, Tryz.ntmps125
      go_wp2
      refine wp_loop_rounds 1 ?_
      rw [rounds_succ]
      generalize (w.alloc (.cells #[.int .i64 W, .slice a n cap] 26)) = W1 at *
      have c0 := hbox0.c0
      have c1 := hbox0.c1
      have HB := Lib.hid hb0
      clear hb0 hbox0 hsz0
      go_wp2_with fail
      refine (sIsReg B n cap a W l _ hn (H.out.on (HB.out.mono hB)) (Nat.le_trans hB HB.out.size)).mono ?_
      rintro e w' ⟨rfl, hb⟩
      rw [HI.out]
      have HB2 := Lib.hid (HB.out.trans (hb.mono HB.out.size))
      clear hb
      go_wp2
      go_ret2
      exact ⟨by rw [HO.out, mcV_no HO.out]; rfl, HB2.out⟩
  | true =>
    obtain ⟨N, rfl, hr⟩ := isReg_out h
    have hln := HLN.out
    rw [hln] at hr
    have HR := Lib.hid hr
    have HI := Lib.hid h
    have HCB := Lib.hid (fun x y => cellB_yes h x y)
    have HO := Lib.hid (mcOk_yes hr cs)
    have hN6 := hr.w6
    have hn6 := hr.h6
    clear h hr hln
    go_enter Tryz.func125, Tryz.ntmps125
    go_wp2
    generalize (w.alloc (.cells #[.int .i64 N, .slice a n cap] 26)) = W1 at *
    have HB := Lib.hid hb0
    clear hb0
    go_loopw [6, 7] (fun v i wr => ∃ k m : Nat, k ≤ m2 ∧ i = .int .i64 k ∧ v = .int .i64 m ∧ Hid (m = orB N (cs.take k)) ∧ Hid (okC N l cs k = true) ∧ Below (w.heap.size + 1) W1 wr) (fun _ i _ => m2 - (intOf i).toNat)
    case atStart => exact ⟨0, 0, by omega, rfl, rfl, rfl, by simp [Hid, okC], Below.refl _ _⟩
    case round =>
      obtain ⟨k, m, hk, rfl, rfl, hmm, hok, hb⟩ := hrel
      have hsz := hb.size
      have hbx := hbox0.on hb (by omega)
      have hbw := HB.out.trans (hb.mono (by omega))
      by_cases hlt : k < m2
      · have hk1 : (k : Int) < (m2 : Int) := by omega
        have hk0 : (0 : Int) ≤ (k : Int) := by omega
        obtain ⟨b2, off2, rfl, hbB2, hcell2⟩ := HD.out.2.2 (by omega)
        obtain ⟨x, y, hxy⟩ : ∃ x y, cs.getD k (0, 0) = (x, y) := ⟨_, _, rfl⟩
        have p0 := hcell2 k hlt
        rw [hxy] at p0
        have p1 := (hbw.cell (p := ⟨b2, off2 + k * 2, none⟩) (Nat.lt_of_lt_of_le hbB2 hB)).trans p0.1
        have p2 := (hbw.cell (p := ⟨b2, off2 + k * 2 + 1, none⟩) (Nat.lt_of_lt_of_le hbB2 hB)).trans p0.2
        have hmb : m < 68719476736 := by
          have h1 := okC_lt HR.out (k := k) (by omega) hok.out
          rw [← hmm.out] at h1
          have h2 := pow36 HR.out.w6 HR.out.h6 (Nat.le_refl n)
          rw [Nat.mul_comm n N] at h2
          omega
        have HST := Lib.hid (okC_step N l cs k)
        have HXY := Lib.hid hxy
        have r0 := cell_regrown hbx.c0
        have r1 := cell_regrown hbx.c1
        have r2 := cell_regrown p1
        have r3 := cell_regrown p2
        have kI : ∀ d os, Calls Tryz.prog 154 #[.agg #[.int .i64 N, .slice a n cap], .int .i64 x, .int .i64 y] (Go.Sort.grow (redrawn wr d) os) fun e w9 => e = .returned (.bool (bt l (x, y))) ∧ Below (Go.Sort.grow (redrawn wr d) os).heap.size (Go.Sort.grow (redrawn wr d) os) w9 := fun d os => by
          have h9 := sInReg B n cap a N l x y (Go.Sort.grow (redrawn wr d) os) hn (H.out.on ((hbw.mono hB).trans ((below_regrown wr d os).mono (Nat.le_trans hB hbw.size)))) (Nat.le_trans (Nat.le_trans hB hbw.size) (below_regrown wr d os).size)
          rw [HCB.out] at h9
          exact h9
        have HP := Lib.hid (show _ ∧ _ from ⟨p1, p2⟩)
        have HBX := Lib.hid hbx
        have HBW := Lib.hid hbw
        have HB1 := Lib.hid hb
        clear p0 p1 p2 hxy hcell2 hbx hbw hb hsz
        cases hbt : bt l (x, y) with
        | false =>
          have HF := Lib.hid (show okC N l cs m2 = false from okC_false (k := k) (by rw [HST.out, HXY.out, hbt]; simp) hlt)
          rw [hbt] at kI
          clear hbt
          go_wp2_with fail
          refine wp_region_quiet_below hmix (by kernel_rfl) ?_
          repeat (first | (go_big_quiet_step (first | (go_at_call 154; with_reducible refine Calls.regrown_of (kI _ _)))) | (quiet_step (first | (go_at_call 154; with_reducible refine Calls.regrown_of (kI _ _)))))
          refine wpQuiet_nil ?_
          intro _ hw9
          obtain ⟨⟨nq, osq⟩, hw8⟩ := hw9
          subst hw8
          have HBZ := Lib.hid (HBW.out.trans ((below_regrown wr nq osq).mono HBW.out.size))
          have HO2 := Lib.hid (show mcOk N l cs = false from by rw [HO.out, hlc]; exact HF.out)
          go_wp2
          go_ret2
          exact ⟨by rw [HO2.out, mcV_no HO2.out]; rfl, HBZ.out⟩
        | true =>
          obtain ⟨u, v, rfl, rfl, hu, hv, hu6, hv6, hbn, h36⟩ := HR.out.place hbt
          obtain ⟨s, hs⟩ : ∃ s : Nat, v * N = s := ⟨_, rfl⟩
          obtain ⟨q, hq⟩ : ∃ q : Nat, v * N + u = q := ⟨_, rfl⟩
          have hmul : (v : Int) * (N : Int) = (s : Int) := by rw [← hs]; simp
          have hadd : (s : Int) + (u : Int) = (q : Int) := by omega
          rw [hq] at hbn h36
          obtain ⟨t, ht⟩ : ∃ t : Nat, m / 2 ^ q = t := ⟨_, rfl⟩
          have hdiv : (m : Int) / (2 : Int) ^ q = (t : Int) := by rw [← ht]; simp
          have htm : t ≤ m := by rw [← ht]; exact Nat.div_le_self _ _
          have hand := bit_val (m := m) q (by omega)
          rw [ht] at hand
          rw [hbt] at kI
          have HBT := Lib.hid hbt
          have HBN := Lib.hid hbn
          clear hbt hs hq ht hbn
          cases htb : m.testBit q with
          | true =>
            rw [htb] at hand
            have hand1 : bits .and .i64 (t : Int) 1 = 1 := hand
            have HF := Lib.hid (show okC N l cs m2 = false from okC_false (k := k) (by rw [HST.out, HXY.out, HBN.out, ← hmm.out, htb]; simp) hlt)
            clear hand htb
            go_wp2_with fail
            refine wp_region_quiet_below hmix (by kernel_rfl) ?_
            repeat (first | (go_big_quiet_step (first | (go_at_call 154; with_reducible refine Calls.regrown_of (kI _ _)))) | (quiet_step (first | (go_at_call 154; with_reducible refine Calls.regrown_of (kI _ _)))))
            refine wpQuiet_nil ?_
            intro _ hw9
            obtain ⟨⟨nq, osq⟩, hw8⟩ := hw9
            subst hw8
            have HBZ := Lib.hid (HBW.out.trans ((below_regrown wr nq osq).mono HBW.out.size))
            have HO2 := Lib.hid (show mcOk N l cs = false from by rw [HO.out, hlc]; exact HF.out)
            go_wp2
            go_ret2
            exact ⟨by rw [HO2.out, mcV_no HO2.out]; rfl, HBZ.out⟩
          | false =>
            rw [htb] at hand
            have hand1 : bits .and .i64 (t : Int) 1 = 0 := hand
            have HF := Lib.hid (show okC N l cs (k + 1) = true from by rw [HST.out, hok.out, HXY.out, HBT.out, HBN.out, ← hmm.out, htb]; rfl)
            have hp2 : (2 : Nat) ^ q ≤ 2 ^ 36 := Nat.pow_le_pow_right (by omega) (by omega)
            obtain ⟨g, hg, eg⟩ := pw_nat q
            rw [hg] at hp2
            have HM := Lib.hid (show m + g = orB N (cs.take (k + 1)) from by rw [orB_take cs (by omega), HXY.out, HBN.out, ← hmm.out, ← nat_or_add htb, hg])
            have HEG := Lib.hid eg
            clear hand htb hg eg
            go_wp2_with fail
            refine wp_region_quiet_below hmix (by kernel_rfl) ?_
            repeat (first | (go_big_quiet_step (first | (go_at_call 154; with_reducible refine Calls.regrown_of (kI _ _)))) | (quiet_step (first | (go_at_call 154; with_reducible refine Calls.regrown_of (kI _ _)))))
            refine wpQuiet_nil ?_
            intro _ hw9
            obtain ⟨⟨nq, osq⟩, hw8⟩ := hw9
            subst hw8
            have hbz := below_regrown wr nq osq
            generalize (Go.Sort.grow (redrawn wr nq) osq) = w3 at *
            have hsz3 := hbz.size
            have HBW3 := Lib.hid (HB1.out.trans (hbz.mono (by have := HB1.out.size; omega)))
            have p1 := (hbz.cell (p := ⟨b2, off2 + k * 2, none⟩) (by have := HBW.out.size; show b2 < wr.heap.size; omega)).trans HP.out.1
            have p2 := (hbz.cell (p := ⟨b2, off2 + k * 2 + 1, none⟩) (by have := HBW.out.size; show b2 < wr.heap.size; omega)).trans HP.out.2
            have c0 := (HBX.out.on hbz HBX.out.lt).c0
            have eg := HEG.out
            clear r0 r1 r2 r3 kI hand1 hdiv hbz
            go_wp2_with fail
            go_quiet (fail)
            go_wp2
            go_roundw
            case rel => exact ⟨k + 1, m + g, by omega, by go_num, by go_num, HM.out, HF.out, below_drewn HBW3.out _⟩
            case measure => simp [intOf]; omega
      · obtain rfl : k = m2 := by omega
        have HOK := Lib.hid (show mcOk N l cs = true from by rw [HO.out, hlc]; exact hok.out)
        have HMV := Lib.hid (show (m : Int) = (mcV N l cs : Nat) from by rw [mcV_yes HOK.out, hmm.out, List.take_of_length_le (by omega)])
        have c0 := hbx.c0
        have c1 := hbx.c1
        have HBW := Lib.hid hbw
        clear hb hbx hbw
        go_wp2_with fail
        refine (sIsReg B n cap a N l wr hn (H.out.on (HBW.out.mono hB)) (Nat.le_trans hB HBW.out.size)).mono ?_
        rintro e w2 ⟨rfl, hb2⟩
        rw [HI.out]
        have HB2 := Lib.hid (HBW.out.trans (hb2.mono HBW.out.size))
        clear hb2
        go_wp2
        go_ret2
        exact ⟨by rw [HOK.out, ← HMV.out]; rfl, HB2.out⟩
end

section
open Go.RowKit

set_option maxHeartbeats 2000000 in
set_option maxRecDepth 100000 in
theorem sLow (x : Nat) (h0 : x ≠ 0) (hx : x < 9223372036854775808) (w : World) :
    Calls Tryz.prog 69 #[.int .i64 x] w fun e w' => e = .returned (.int .i64 (lowB x : Nat)) ∧ Below w.heap.size w w' := by
  have hlt := lowB_lt h0 (show x < 2 ^ 64 by omega)
  have HB := Lib.hid (lowB_bit h0 (show x < 2 ^ 64 by omega))
  have HL := Lib.hid (fun j (h : x.testBit j = true) => lowB_le (show x < 2 ^ 64 by omega) h)
  obtain ⟨low, hlow⟩ : ∃ low, lowB x = low := ⟨_, rfl⟩
  rw [hlow] at hlt HB HL ⊢
  clear hlow
  have hxp : (0 : Int) < (x : Int) := by omega
  go_enter Tryz.func69, Tryz.ntmps69
  go_wp2
  go_loopw [3] (fun v wr => ∃ i : Nat, i ≤ low ∧ v = .int .i64 (i : Int) ∧ Below w.heap.size w wr) (fun v _ => low - (intOf v).toNat)
  case atStart => exact ⟨0, by omega, rfl, Below.refl _ _⟩
  case round =>
    obtain ⟨i, hi, rfl, hb⟩ := hrel
    have hi0 : (0 : Int) ≤ (i : Int) := by omega
    obtain ⟨t, ht⟩ : ∃ t : Nat, x / 2 ^ i = t := ⟨_, rfl⟩
    have hdiv : (x : Int) / (2 : Int) ^ i = (t : Int) := by rw [← ht]; simp
    have htm : t ≤ x := by rw [← ht]; exact Nat.div_le_self _ _
    have hand := bit_val (m := x) i (by omega)
    rw [ht] at hand
    clear ht
    by_cases hlt2 : i < low
    · have hbt : x.testBit i = false := by
        cases e : x.testBit i with
        | false => rfl
        | true => have := HL.out i e; omega
      rw [hbt] at hand
      have hand1 : bits .and .i64 (t : Int) 1 = 0 := hand
      clear hand hbt
      go_wp2
      go_roundw
      case rel => first
        | exact ⟨i + 1, by omega, by go_num, hb⟩
        | (repeat apply Exists.intro
           exact ⟨⟨i + 1, by omega, by go_num, hb⟩, rfl⟩)
      case measure => first | (simp [intOf]; done) | (simp [intOf]; omega)
    · obtain rfl : i = low := by omega
      rw [HB.out] at hand
      have hand1 : bits .and .i64 (t : Int) 1 = 1 := hand
      clear hand
      go_wp2
      go_ret
      exact ⟨rfl, hb⟩

set_option maxHeartbeats 2000000 in
set_option maxRecDepth 100000 in
theorem sHasI (B n cap : Nat) (a : Option Addr) (l : List Int) (z : Int) (w : World) (hn : n ≤ 4194304) (hc : IntsAt B w a n l) (hB : B ≤ w.heap.size) :
    Calls Tryz.prog 68 #[.slice a n cap, .int .i64 z] w fun e w' => e = .returned (.bool (l.contains z)) ∧ Below w.heap.size w w' := by
  have H := Lib.hid hc
  have hln := hc.1
  clear hc
  go_enter Tryz.func68, Tryz.ntmps68
  go_wp2
  go_loopw [5] (fun v wr => ∃ i : Nat, i ≤ n ∧ v = .int .i64 (i : Int) ∧ Hid ((l.take i).contains z = false) ∧ Below w.heap.size w wr) (fun v _ => n - (intOf v).toNat)
  case atStart => exact ⟨0, by omega, rfl, by simp [Hid], Below.refl _ _⟩
  case round =>
    obtain ⟨i, hi, rfl, hno, hb⟩ := hrel
    by_cases hlt : i < n
    · have hi1 : (i : Int) < (n : Int) := by omega
      have hi0 : (0 : Int) ≤ (i : Int) := by omega
      obtain ⟨b9, o9, rfl, hb9, hc9⟩ := (H.out.on (hb.mono hB)).2.2 (by omega)
      have p1 := hc9 i hlt
      have HTK := Lib.hid (take_one (show i < l.length by omega) (0 : Int))
      have HMM := Lib.hid (show l.getD i 0 ∈ l from by simp [List.getD, show i < l.length by omega])
      obtain ⟨y, hy⟩ : ∃ y, l.getD i 0 = y := ⟨_, rfl⟩
      rw [hy] at p1 HTK HMM
      clear hc9 hy
      by_cases hyz : y = z
      · subst hyz
        have e3 : (y == y) = true := by simp
        have HR := Lib.hid (show l.contains y = true from by rw [List.contains_iff_mem]; exact HMM.out)
        clear HTK HMM hno
        go_wp2
        go_ret
        exact ⟨by rw [HR.out]; rfl, hb⟩
      · have e3 : (y == z) = false := by simpa using hyz
        have HR := Lib.hid (show (l.take (i + 1)).contains z = false from by
          have h1 := hno.out
          rw [HTK.out]
          cases e : (l.take i ++ [y]).contains z with
          | false => rfl
          | true =>
            rw [List.contains_iff_mem, List.mem_append, List.mem_singleton] at e
            rcases e with e | e
            · have : (l.take i).contains z = true := by rw [List.contains_iff_mem]; exact e
              unfold Hid at h1
              rw [this] at h1
              cases h1
            · exact absurd e.symm hyz)
        clear HTK HMM hno hyz
        go_wp2
        go_roundw
        case rel => first
          | exact ⟨i + 1, by omega, by go_num, HR.out, hb⟩
          | (repeat apply Exists.intro
             exact ⟨⟨i + 1, by omega, by go_num, HR.out, hb⟩, rfl⟩)
        case measure => first | (simp [intOf]; done) | (simp [intOf]; omega)
    · obtain rfl : i = n := by omega
      have HR := Lib.hid (show l.contains z = false from by have h1 := hno.out; unfold Hid at h1; rw [List.take_of_length_le (by omega)] at h1; exact h1)
      clear hno
      go_wp2
      go_ret
      exact ⟨by rw [HR.out]; rfl, hb⟩
end

section
open Go.RowKit

theorem iPlace (x : Int) (w : World) : Calls Tryz.prog 141 #[.int .i64 x] w fun e w' => e = .returned (.bool (inb x 0 7)) ∧ w = w' := by
  unfold inb
  by_cases h1 : 0 ≤ x
  · go_enter Tryz.func141, Tryz.ntmps141
    go_wp2
    go_ret
    exact ⟨by simp [h1], rfl⟩
  · go_enter Tryz.func141, Tryz.ntmps141
    go_wp2
    go_ret
    exact ⟨by simp; omega, rfl⟩
/-- Two numbers compared: -1, 0 or 1. -/
def cmpI (x y : Int) : Int := if x < y then -1 else if y < x then 1 else 0
theorem iNaN (x : Int) (w : World) : Calls Tryz.prog 185 #[.int .i64 x] w fun e w' => e = .returned (.bool false) ∧ w = w' := by
  go_enter Tryz.func185, Tryz.ntmps185
  go_wp2
  go_ret
  exact ⟨by simp, rfl⟩
theorem iCmpI (x y : Int) (w : World) : Calls Tryz.prog 159 #[.int .i64 x, .int .i64 y] w fun e w' => e = .returned (.int .i64 (cmpI x y)) ∧ w = w' := by
  unfold cmpI
  by_cases h1 : x < y
  · go_enter Tryz.func159, Tryz.ntmps159
    go_wp2_with (go_at_call 185; refine (iNaN _ _).mono ?_; rintro e w' ⟨rfl, rfl⟩)
    go_ret
    exact ⟨by simp, rfl⟩
  · by_cases h2 : y < x
    · go_enter Tryz.func159, Tryz.ntmps159
      go_wp2_with (go_at_call 185; refine (iNaN _ _).mono ?_; rintro e w' ⟨rfl, rfl⟩)
      go_ret
      exact ⟨by simp, rfl⟩
    · go_enter Tryz.func159, Tryz.ntmps159
      go_wp2_with (go_at_call 185; refine (iNaN _ _).mono ?_; rintro e w' ⟨rfl, rfl⟩)
      go_ret
      exact ⟨by simp, rfl⟩

/-- The first of two numbers that is not 0. -/
def orI (x y : Int) : Int := if x = 0 then y else x
theorem iOr (b : Nat) (x y : Int) (w : World) (h0 : w.cell? ⟨b, 0, none⟩ = some (.int .i64 x)) (h1 : w.cell? ⟨b, 1, none⟩ = some (.int .i64 y)) : Calls Tryz.prog 158 #[.slice (some ⟨b, 0, none⟩) 2 2] w fun e w' => e = .returned (.int .i64 (orI x y)) ∧ w = w' := by
  unfold orI
  by_cases hx : x = 0
  · subst hx
    by_cases hy : y = 0
    · subst hy
      go_enter Tryz.func158, Tryz.ntmps158
      go_wp2
      refine wp_loop_rounds 3 ?_
      rw [rounds_succ]
      go_wp2
      rw [rounds_succ]
      go_wp2
      rw [rounds_succ]
      go_wp2
      go_ret
      exact ⟨by simp, rfl⟩
    · have e : (y != 0) = true := by rw [bne_iff_ne]; exact hy
      go_enter Tryz.func158, Tryz.ntmps158
      go_wp2
      refine wp_loop_rounds 2 ?_
      rw [rounds_succ]
      go_wp2
      rw [rounds_succ]
      go_wp2
      go_ret
      exact ⟨by simp, rfl⟩
  · have e : (x != 0) = true := by rw [bne_iff_ne]; exact hx
    go_enter Tryz.func158, Tryz.ntmps158
    go_wp2
    refine wp_loop_rounds 1 ?_
    rw [rounds_succ]
    go_wp2
    go_ret
    exact ⟨by simp, rfl⟩

/-- Two cells compared: by rows, then from left to right. -/
def cmpC (a b : Cl) : Int := orI (cmpI a.2 b.2) (cmpI a.1 b.1)
theorem cmpC_neg (a b : Cl) : decide (cmpC a b < 0) = bef a b := by
  unfold cmpC orI cmpI bef
  rw [Bool.eq_iff_iff]
  simp only [decide_eq_true_eq, Bool.or_eq_true, Bool.and_eq_true]
  constructor
  · intro h
    repeat' split at h
    all_goals omega
  · intro h
    repeat' split
    all_goals omega
theorem cmpC_geq (a b : Cl) : decide (cmpC a b ≥ 0) = !bef a b := by
  rw [← cmpC_neg, Bool.eq_iff_iff]
  simp only [Bool.not_eq_true', decide_eq_true_eq, decide_eq_false_iff_not]
  omega

theorem two_new {w : World} {t : TypeId} {p q : Value} {N : Nat} (hN : w.heap.size = N) : (w.alloc (.cells #[p, q] t)).drew.cell? ⟨N, 0, none⟩ = some p ∧ (w.alloc (.cells #[p, q] t)).drew.cell? ⟨N, 1, none⟩ = some q := by
  subst hN
  exact ⟨cell_of_row (w.alloc (.cells #[p, q] t)) _ 0 _ _ _ (heap_alloc_new _ _), cell_of_row (w.alloc (.cells #[p, q] t)) _ 1 _ _ _ (heap_alloc_new _ _)⟩

set_option maxHeartbeats 1000000 in
theorem iCompare (x y u v : Int) (W : World) : Calls Tryz.prog 142 #[.agg #[.int .i64 x, .int .i64 y], .agg #[.int .i64 u, .int .i64 v]] W fun e w' => e = .returned (.int .i64 (cmpC (x, y) (u, v))) ∧ (∃ q os', w' = Go.Sort.grow (W.drewN q) os') ∧ Below W.heap.size W w' := by
  have hres : cmpC (x, y) (u, v) = orI (cmpI y v) (cmpI x u) := rfl
  rw [hres]
  clear hres
  have hc1 : ∀ w', Calls Tryz.prog 159 #[.int .i64 y, .int .i64 v] w' _ := fun w' => iCmpI y v w'
  have hc2 : ∀ w', Calls Tryz.prog 159 #[.int .i64 x, .int .i64 u] w' _ := fun w' => iCmpI x u w'
  generalize cmpI y v = p at hc1 ⊢
  generalize cmpI x u = q at hc2 ⊢
  go_enter Tryz.func142, Tryz.ntmps142
  go_wp2_with fail
  have k0 : ((W.alloc (.cells #[.int .i64 x, .int .i64 y] 86)).alloc (.cells #[.int .i64 u, .int .i64 v] 86)).heap.size = W.heap.size + 2 := by simp
  go_region_held3 (fun w' => w'.cell? ⟨W.heap.size, 0, none⟩ = some (.int .i64 x) ∧ w'.cell? ⟨W.heap.size, 1, none⟩ = some (.int .i64 y) ∧ w'.cell? ⟨W.heap.size + 1, 0, none⟩ = some (.int .i64 u) ∧ w'.cell? ⟨W.heap.size + 1, 1, none⟩ = some (.int .i64 v))
    (first | go_keep)
    (first | (go_at_call_of 159 y; refine (hc1 _).mono ?_; rintro e w' ⟨rfl, rfl⟩) | (go_at_call_of 159 x; refine (hc2 _).mono ?_; rintro e w' ⟨rfl, rfl⟩) | (go_at_call 158; refine (iOr _ p q _ (two_new k0).1 (two_new k0).2).mono ?_; rintro e w' ⟨rfl, rfl⟩))
  go_wp2
  go_ret
  exact ⟨rfl, ⟨1, _, by rw [Go.Sort.alloc_eq_grow, Go.Sort.alloc_eq_grow, Go.Sort.alloc_eq_grow, Go.Sort.grow_grow, Go.Sort.grow_grow]; rfl⟩, ((((Below.refl _ _).alloc (Nat.le_refl _) _).alloc (by simp) _).alloc (by simp; omega) _).drew⟩
end

end Go.Proofs.YtkjlmgkjcmebbaaGreatDoor
