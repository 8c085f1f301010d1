/-
  The mask of some cells: in the model and in the program: what each call gives.
  Appending to slices of shapes and of numbers that the call owns: the laws at an operation, the new block a letter.
-/
import Derived.Test.YtkjlmgkjcmebbaaGreatDoorWai
import Derived.Lib.QuietBelow
import Derived.Test.YtkjlmgkjcmebbaaGreatDoorWaa
namespace Go.Proofs.YtkjlmgkjcmebbaaGreatDoor

section
open Go.RowKit

theorem bit_val {m : Nat} (b : Nat) (hm : m < 9223372036854775808) : bits .and .i64 ((m / 2 ^ b : Nat) : Int) 1 = ((m.testBit b).toNat : Int) := by
  have h1 : m / 2 ^ b ≤ m := Nat.div_le_self _ _
  rw [show (1 : Int) = ((1 : Nat) : Int) from rfl, i64_and_nat _ _ (by omega) (by omega), Nat.and_one_is_mod, Nat.testBit_eq_decide_div_mod_eq]
  have := Nat.mod_two_eq_zero_or_one (m / 2 ^ b)
  rcases this with h | h <;> simp [h]
theorem and_bit {m b : Nat} (hm : m < 9223372036854775808) (hb : b ≤ 50) : bits .and .i64 (m : Int) ((2 ^ b : Nat) : Int) = ((if m.testBit b = true then 2 ^ b else 0 : Nat) : Int) := by
  have h1 : (2 : Nat) ^ b ≤ 2 ^ 50 := Nat.pow_le_pow_right (by omega) hb
  rw [i64_and_nat _ _ hm (by omega)]
  congr 1
  apply Nat.eq_of_testBit_eq
  intro i
  rw [Nat.testBit_and, Nat.testBit_two_pow]
  by_cases h : b = i
  · subst h
    cases hb : m.testBit b <;> simp
  · split <;> simp [h]
/-- A cell of a region: its place in the mask. -/
theorem Rg.place {W H : Nat} {l : List Int} (h : Rg W H l) {x y : Int} (hb : bt l (x, y) = true) : ∃ u v : Nat, x = u ∧ y = v ∧ u < W ∧ v < H ∧ u < 6 ∧ v < 6 ∧ bN W (x, y) = v * W + u ∧ v * W + u < 36 := by
  have hg := h.bt_in hb
  have hl := bN_lt hg
  obtain ⟨⟨h1, h2⟩, h3, h4⟩ := hg
  have hw := h.w6
  have hh := h.h6
  have hm := Nat.mul_le_mul hw hh
  dsimp only at *
  refine ⟨x.toNat, y.toNat, by omega, by omega, by omega, by omega, by omega, by omega, rfl, ?_⟩
  have : bN W (x, y) = y.toNat * W + x.toNat := rfl
  omega

set_option maxHeartbeats 8000000 in
set_option maxRecDepth 100000 in
theorem sMaskC (B n cap m2 cap2 : Nat) (a a2 : Option Addr) (W : Int) (l : List Int) (cs : List Cl) (w : World) (hn : n ≤ 4194304) (hm : m2 ≤ 4194304) (hc : IntsAt B w a n l) (hd : CellsAt B w a2 m2 cs) (hB : B ≤ w.heap.size) :
    Calls Tryz.prog 125 #[.agg #[.int .i64 W, .slice a n cap], .slice a2 m2 cap2] w fun e w' => e = .returned (.tuple #[.int .i64 (mcV W l cs : Nat), .bool (mcOk W l cs)]) ∧ Below w.heap.size w w' := by
  have H := Lib.hid hc
  have HD := Lib.hid hd
  have HLN := Lib.hid hc.1
  have hlc := hd.1
  clear hc hd
  have hmix : Tryz.prog.follows .mixedOrders = true := by kernel_rfl
  have hb0 := (Below.refl w.heap.size w).alloc (Nat.le_refl _) (.cells #[.int .i64 W, .slice a n cap] 26)
  have hbox0 := RgAt.new (w := w) W (.slice a n cap) rfl
  have hsz0 : (w.alloc (.cells #[.int .i64 W, .slice a n cap] 26)).heap.size = w.heap.size + 1 := by simp
  cases h : isReg W l with
  | false =>
    have HI := Lib.hid h
    have HO := Lib.hid (mcOk_no h cs)
    have HCB := Lib.hid (fun x y => cellB_no h x y)
    clear h
    by_cases h0 : 0 < (m2 : Int)
    · obtain ⟨b2, off2, rfl, hbB2, hcell2⟩ := HD.out.2.2 (by omega)
      obtain ⟨x, y, hxy⟩ : ∃ x y, cs.getD 0 (0, 0) = (x, y) := ⟨_, _, rfl⟩
      have p0 := hcell2 0 (by omega)
      rw [hxy] at p0
      simp only [Nat.zero_mul, Nat.add_zero] at p0
      go_enter Tryz.func125, Tryz.ntmps125
      go_wp2
      refine wp_loop_rounds 1 ?_
      rw [rounds_succ]
      generalize (w.alloc (.cells #[.int .i64 W, .slice a n cap] 26)) = W1 at *
      have p1 := (hb0.cell (p := ⟨b2, off2, none⟩) (Nat.lt_of_lt_of_le hbB2 hB)).trans p0.1
      have p2 := (hb0.cell (p := ⟨b2, off2 + 1, none⟩) (Nat.lt_of_lt_of_le hbB2 hB)).trans p0.2
      have r0 := cell_regrown hbox0.c0
      have r1 := cell_regrown hbox0.c1
      have r2 := cell_regrown p1
      have r3 := cell_regrown p2
      have kI : ∀ d os, Calls Tryz.prog 154 #[.agg #[.int .i64 W, .slice a n cap], .int .i64 x, .int .i64 y] (Go.Sort.grow (redrawn W1 d) os) fun e w9 => e = .returned (.bool false) ∧ Below (Go.Sort.grow (redrawn W1 d) os).heap.size (Go.Sort.grow (redrawn W1 d) os) w9 := fun d os => by
        have h9 := sInReg B n cap a W l x y (Go.Sort.grow (redrawn W1 d) os) hn (H.out.on ((hb0.mono hB).trans ((below_regrown W1 d os).mono (Nat.le_trans hB hb0.size)))) (Nat.le_trans (Nat.le_trans hB hb0.size) (below_regrown W1 d os).size)
        rw [HCB.out] at h9
        exact h9
      have HB := Lib.hid hb0
      clear hb0 hbox0 hsz0 hcell2 p0 p1 p2 hxy
      go_wp2_with fail
      refine wp_region_quiet_below hmix (by kernel_rfl) ?_
      repeat (first | (go_big_quiet_step (first | (go_at_call 154; with_reducible refine Calls.regrown_of (kI _ _)))) | (quiet_step (first | (go_at_call 154; with_reducible refine Calls.regrown_of (kI _ _)))))
      refine wpQuiet_nil ?_
      intro _ hw9
      obtain ⟨⟨nq, osq⟩, hw8⟩ := hw9
      subst hw8
      have HBZ := Lib.hid (HB.out.trans ((below_regrown W1 nq osq).mono HB.out.size))
      go_wp2
      go_ret2
      exact ⟨by rw [HO.out, mcV_no HO.out]; rfl, HBZ.out⟩
    · go_enter Tryz.func125, Tryz.ntmps125
      go_wp2
      refine wp_loop_rounds 1 ?_
      rw [rounds_succ]
      generalize (w.alloc (.cells #[.int .i64 W, .slice a n cap] 26)) = W1 at *
      have c0 := hbox0.c0
      have c1 := hbox0.c1
      have HB := Lib.hid hb0
      clear hb0 hbox0 hsz0
      go_wp2_with fail
      refine (sIsReg B n cap a W l _ hn (H.out.on (HB.out.mono hB)) (Nat.le_trans hB HB.out.size)).mono ?_
      rintro e w' ⟨rfl, hb⟩
      rw [HI.out]
      have HB2 := Lib.hid (HB.out.trans (hb.mono HB.out.size))
      clear hb
      go_wp2
      go_ret2
      exact ⟨by rw [HO.out, mcV_no HO.out]; rfl, HB2.out⟩
  | true =>
    obtain ⟨N, rfl, hr⟩ := isReg_out h
    have hln := HLN.out
    rw [hln] at hr
    have HR := Lib.hid hr
    have HI := Lib.hid h
    have HCB := Lib.hid (fun x y => cellB_yes h x y)
    have HO := Lib.hid (mcOk_yes hr cs)
    have hN6 := hr.w6
    have hn6 := hr.h6
    clear h hr hln
    go_enter Tryz.func125, Tryz.ntmps125
    go_wp2
    generalize (w.alloc (.cells #[.int .i64 N, .slice a n cap] 26)) = W1 at *
    have HB := Lib.hid hb0
    clear hb0
    go_loopw [6, 7] (fun v i wr => ∃ k m : Nat, k ≤ m2 ∧ i = .int .i64 k ∧ v = .int .i64 m ∧ Hid (m = orB N (cs.take k)) ∧ Hid (okC N l cs k = true) ∧ Below (w.heap.size + 1) W1 wr) (fun _ i _ => m2 - (intOf i).toNat)
    case atStart => exact ⟨0, 0, by omega, rfl, rfl, rfl, by simp [Hid, okC], Below.refl _ _⟩
    case round =>
      obtain ⟨k, m, hk, rfl, rfl, hmm, hok, hb⟩ := hrel
      have hsz := hb.size
      have hbx := hbox0.on hb (by omega)
      have hbw := HB.out.trans (hb.mono (by omega))
      by_cases hlt : k < m2
      · have hk1 : (k : Int) < (m2 : Int) := by omega
        have hk0 : (0 : Int) ≤ (k : Int) := by omega
        obtain ⟨b2, off2, rfl, hbB2, hcell2⟩ := HD.out.2.2 (by omega)
        obtain ⟨x, y, hxy⟩ : ∃ x y, cs.getD k (0, 0) = (x, y) := ⟨_, _, rfl⟩
        have p0 := hcell2 k hlt
        rw [hxy] at p0
        have p1 := (hbw.cell (p := ⟨b2, off2 + k * 2, none⟩) (Nat.lt_of_lt_of_le hbB2 hB)).trans p0.1
        have p2 := (hbw.cell (p := ⟨b2, off2 + k * 2 + 1, none⟩) (Nat.lt_of_lt_of_le hbB2 hB)).trans p0.2
        have hmb : m < 68719476736 := by
          have h1 := okC_lt HR.out (k := k) (by omega) hok.out
          rw [← hmm.out] at h1
          have h2 := pow36 HR.out.w6 HR.out.h6 (Nat.le_refl n)
          rw [Nat.mul_comm n N] at h2
          omega
        have HST := Lib.hid (okC_step N l cs k)
        have HXY := Lib.hid hxy
        have r0 := cell_regrown hbx.c0
        have r1 := cell_regrown hbx.c1
        have r2 := cell_regrown p1
        have r3 := cell_regrown p2
        have kI : ∀ d os, Calls Tryz.prog 154 #[.agg #[.int .i64 N, .slice a n cap], .int .i64 x, .int .i64 y] (Go.Sort.grow (redrawn wr d) os) fun e w9 => e = .returned (.bool (bt l (x, y))) ∧ Below (Go.Sort.grow (redrawn wr d) os).heap.size (Go.Sort.grow (redrawn wr d) os) w9 := fun d os => by
          have h9 := sInReg B n cap a N l x y (Go.Sort.grow (redrawn wr d) os) hn (H.out.on ((hbw.mono hB).trans ((below_regrown wr d os).mono (Nat.le_trans hB hbw.size)))) (Nat.le_trans (Nat.le_trans hB hbw.size) (below_regrown wr d os).size)
          rw [HCB.out] at h9
          exact h9
        have HP := Lib.hid (show _ ∧ _ from ⟨p1, p2⟩)
        have HBX := Lib.hid hbx
        have HBW := Lib.hid hbw
        have HB1 := Lib.hid hb
        clear p0 p1 p2 hxy hcell2 hbx hbw hb hsz
        cases hbt : bt l (x, y) with
        | false =>
          have HF := Lib.hid (show okC N l cs m2 = false from okC_false (k := k) (by rw [HST.out, HXY.out, hbt]; simp) hlt)
          rw [hbt] at kI
          clear hbt
          go_wp2_with fail
          refine wp_region_quiet_below hmix (by kernel_rfl) ?_
          repeat (first | (go_big_quiet_step (first | (go_at_call 154; with_reducible refine Calls.regrown_of (kI _ _)))) | (quiet_step (first | (go_at_call 154; with_reducible refine Calls.regrown_of (kI _ _)))))
          refine wpQuiet_nil ?_
          intro _ hw9
          obtain ⟨⟨nq, osq⟩, hw8⟩ := hw9
          subst hw8
          have HBZ := Lib.hid (HBW.out.trans ((below_regrown wr nq osq).mono HBW.out.size))
          have HO2 := Lib.hid (show mcOk N l cs = false from by rw [HO.out, hlc]; exact HF.out)
          go_wp2
          go_ret2
          exact ⟨by rw [HO2.out, mcV_no HO2.out]; rfl, HBZ.out⟩
        | true =>
          obtain ⟨u, v, rfl, rfl, hu, hv, hu6, hv6, hbn, h36⟩ := HR.out.place hbt
          obtain ⟨s, hs⟩ : ∃ s : Nat, v * N = s := ⟨_, rfl⟩
          obtain ⟨q, hq⟩ : ∃ q : Nat, v * N + u = q := ⟨_, rfl⟩
          have hmul : (v : Int) * (N : Int) = (s : Int) := by rw [← hs]; simp
          have hadd : (s : Int) + (u : Int) = (q : Int) := by omega
          rw [hq] at hbn h36
          obtain ⟨t, ht⟩ : ∃ t : Nat, m / 2 ^ q = t := ⟨_, rfl⟩
          have hdiv : (m : Int) / (2 : Int) ^ q = (t : Int) := by rw [← ht]; simp
          have htm : t ≤ m := by rw [← ht]; exact Nat.div_le_self _ _
          have hand := bit_val (m := m) q (by omega)
          rw [ht] at hand
          rw [hbt] at kI
          have HBT := Lib.hid hbt
          have HBN := Lib.hid hbn
          clear hbt hs hq ht hbn
          cases htb : m.testBit q with
          | true =>
            rw [htb] at hand
            have hand1 : bits .and .i64 (t : Int) 1 = 1 := hand
            have HF := Lib.hid (show okC N l cs m2 = false from okC_false (k := k) (by rw [HST.out, HXY.out, HBN.out, ← hmm.out, htb]; simp) hlt)
            clear hand htb
            go_wp2_with fail
            refine wp_region_quiet_below hmix (by kernel_rfl) ?_
            repeat (first | (go_big_quiet_step (first | (go_at_call 154; with_reducible refine Calls.regrown_of (kI _ _)))) | (quiet_step (first | (go_at_call 154; with_reducible refine Calls.regrown_of (kI _ _)))))
            refine wpQuiet_nil ?_
            intro _ hw9
            obtain ⟨⟨nq, osq⟩, hw8⟩ := hw9
            subst hw8
            have HBZ := Lib.hid (HBW.out.trans ((below_regrown wr nq osq).mono HBW.out.size))
            have HO2 := Lib.hid (show mcOk N l cs = false from by rw [HO.out, hlc]; exact HF.out)
            go_wp2
            go_ret2
            exact ⟨by rw [HO2.out, mcV_no HO2.out]; rfl, HBZ.out⟩
          | false =>
            rw [htb] at hand
            have hand1 : bits .and .i64 (t : Int) 1 = 0 := hand
            have HF := Lib.hid (show okC N l cs (k + 1) = true from by rw [HST.out, hok.out, HXY.out, HBT.out, HBN.out, ← hmm.out, htb]; rfl)
            have hp2 : (2 : Nat) ^ q ≤ 2 ^ 36 := Nat.pow_le_pow_right (by omega) (by omega)
            obtain ⟨g, hg, eg⟩ := pw_nat q
            rw [hg] at hp2
            have HM := Lib.hid (show m + g = orB N (cs.take (k + 1)) from by rw [orB_take cs (by omega), HXY.out, HBN.out, ← hmm.out, ← nat_or_add htb, hg])
            have HEG := Lib.hid eg
            clear hand htb hg eg
            go_wp2_with fail
            refine wp_region_quiet_below hmix (by kernel_rfl) ?_
            repeat (first | (go_big_quiet_step (first | (go_at_call 154; with_reducible refine Calls.regrown_of (kI _ _)))) | (quiet_step (first | (go_at_call 154; with_reducible refine Calls.regrown_of (kI _ _)))))
            refine wpQuiet_nil ?_
            intro _ hw9
            obtain ⟨⟨nq, osq⟩, hw8⟩ := hw9
            subst hw8
            have hbz := below_regrown wr nq osq
            generalize (Go.Sort.grow (redrawn wr nq) osq) = w3 at *
            have hsz3 := hbz.size
            have HBW3 := Lib.hid (HB1.out.trans (hbz.mono (by have := HB1.out.size; omega)))
            have p1 := (hbz.cell (p := ⟨b2, off2 + k * 2, none⟩) (by have := HBW.out.size; show b2 < wr.heap.size; omega)).trans HP.out.1
            have p2 := (hbz.cell (p := ⟨b2, off2 + k * 2 + 1, none⟩) (by have := HBW.out.size; show b2 < wr.heap.size; omega)).trans HP.out.2
            have c0 := (HBX.out.on hbz HBX.out.lt).c0
            have eg := HEG.out
            clear r0 r1 r2 r3 kI hand1 hdiv hbz
            go_wp2_with fail
            go_quiet (fail)
            go_wp2
            go_roundw
            case rel => exact ⟨k + 1, m + g, by omega, by go_num, by go_num, HM.out, HF.out, below_drewn HBW3.out _⟩
            case measure => simp [intOf]; omega
      · obtain rfl : k = m2 := by omega
        have HOK := Lib.hid (show mcOk N l cs = true from by rw [HO.out, hlc]; exact hok.out)
        have HMV := Lib.hid (show (m : Int) = (mcV N l cs : Nat) from by rw [mcV_yes HOK.out, hmm.out, List.take_of_length_le (by omega)])
        have c0 := hbx.c0
        have c1 := hbx.c1
        have HBW := Lib.hid hbw
        clear hb hbx hbw
        go_wp2_with fail
        refine (sIsReg B n cap a N l wr hn (H.out.on (HBW.out.mono hB)) (Nat.le_trans hB HBW.out.size)).mono ?_
        rintro e w2 ⟨rfl, hb2⟩
        rw [HI.out]
        have HB2 := Lib.hid (HBW.out.trans (hb2.mono HBW.out.size))
        clear hb2
        go_wp2
        go_ret2
        exact ⟨by rw [HOK.out, ← HMV.out]; rfl, HB2.out⟩
end

section
open Go.RowKit

/-- Where values begin in memory at ad, cell for cell. -/
def LiesV (w : World) (ad : Addr) (l : List Value) : Prop := ∀ j u, l[j]? = some u → w.cell? (ad.add j) = some u
theorem liesV_block {w : World} {b : Nat} {l : List Value} {t : TypeId} {fr : Nat × Nat} (h : w.heap[b]? = some (.cells l.toArray t fr)) : LiesV w ⟨b, 0, none⟩ l := World.news_of_block (cs := l.toArray) h

theorem shps_info : (Tryz.prog.info? 95).map (fun i => (i.zero, i.size, i.bytes)) = some (some (.slice none 0 0), 1, 24) := by kernel_rfl
theorem shps_size : ∃ i, Tryz.prog.info? 95 = some i ∧ i.zero = some (.slice none 0 0) ∧ i.size = 1 ∧ i.bytes = 24 := by
  obtain ⟨i0, hi, hz0, hz1, hz2⟩ := info_parts shps_info
  exact ⟨i0, hi, hz0, hz1, hz2⟩
theorem append_shps (base g n cap : Nat) (xs : List Value) (ad : Addr) (m c : Nat) (ys : List Value) (w : World)
    (hown : w.ownsRow base 95 1 (.slice (some ⟨g, 0, none⟩) n cap) n xs) (hl : ys.length = m) (hnews : LiesV w ad ys) (hone : ∀ u ∈ ys, u.oneCell' = true) (h63 : n + m ≤ 8388608) (hbase : base ≤ w.heap.size) (ty : TypeId) (H : Nat) (hH : w.heap.size = H) :
    ∃ g' cap' w', (Builtin.append_ #[27, 27] ty #[.slice (some ⟨g, 0, none⟩) n cap, .slice (some ad) m c]).run Tryz.prog w = .ok (.slice (some ⟨g', 0, none⟩) (n + m) cap') w' ∧
      w'.ownsRow base 95 1 (.slice (some ⟨g', 0, none⟩) (n + m) cap') (n + m) (xs ++ ys) ∧ w.grownBy w' (some g) ∧ (g' = g ∨ g' = H) ∧ base ≤ g' ∧ g' < w'.heap.size := by
  obtain ⟨i, hi, hz, hs, hby⟩ := shps_size
  obtain ⟨v', w', hr, h2, h3, h4, h5⟩ := run_append_own_at (P := Tryz.prog) w base 27 ty 95 i _ 1 24 Tryz.underlying27 hi hz hs hby rfl (by omega) _ n xs hown ad m c ys (by omega) hnews hone (by unfold maxLen; omega) (by omega) hbase
  rcases h2.2 with ⟨rfl, _⟩ | ⟨g', cap', cur, rfl, hb, hg, _⟩
  · exact absurd (h4.1 rfl).1 (by intro e; cases e)
  · refine ⟨g', cap', w', hr, h2, h3, ?_, hb, (Array.getElem?_eq_some_iff.1 hg).1⟩
    rcases h5 with h5 | h5
    · exact .inl (by simpa [Value.ownBlock] using h5)
    · exact .inr (by rw [← hH]; simpa [Value.ownBlock] using h5)
theorem wp_shps {o : Oper} {a : Act} {w : World} {K : Act → World → Prop} {Q : Exit → Act → World → Prop} (s x : Operand)
    (ho : o.op = .call { callee := .builtin .append, args := #[s, x], argTypes := #[27, 27] })
    (base g n cap : Nat) (xs : List Value) (ad : Addr) (m c : Nat) (ys : List Value) (hs : a.eval s = .slice (some ⟨g, 0, none⟩) n cap) (hx : a.eval x = .slice (some ad) m c)
    (hown : w.ownsRow base 95 1 (.slice (some ⟨g, 0, none⟩) n cap) n xs) (hl : ys.length = m) (hnews : LiesV w ad ys) (hone : ∀ u ∈ ys, u.oneCell' = true) (h63 : n + m ≤ 8388608) (hbase : base ≤ w.heap.size) (H : Nat) (hH : w.heap.size = H)
    (h : ∀ g' cap' w', w'.ownsRow base 95 1 (.slice (some ⟨g', 0, none⟩) (n + m) cap') (n + m) (xs ++ ys) → w.grownBy w' (some g) → (g' = g ∨ g' = H) → base ≤ g' → g' < w'.heap.size → K (a.put o.dst (.slice (some ⟨g', 0, none⟩) (n + m) cap')) w') : o.wp Tryz.prog a w K Q := by
  obtain ⟨g', cap', w', hr, h2, h3, h4, h5, h6⟩ := append_shps base g n cap xs ad m c ys w hown hl hnews hone h63 hbase o.type H hH
  unfold Oper.wp execOp
  simp only [ho, resolve, invoke, builtin, Sem.run_bind, Sem.run_pure, Result.andThen_ok, List.map_toArray, List.map_cons, List.map_nil, hs, hx, hr]
  exact h g' cap' w' h2 h3 h4 h5 h6
theorem wpList_shps {ops : Array Oper} {rest : List Oper} {o : Oper} {a : Act} {w : World} {Q : Exit → Act → World → Prop} (hgd : o.guard = none) (s x : Operand)
    (ho : o.op = .call { callee := .builtin .append, args := #[s, x], argTypes := #[27, 27] })
    (base g n cap : Nat) (xs : List Value) (ad : Addr) (m c : Nat) (ys : List Value) (hs : a.eval s = .slice (some ⟨g, 0, none⟩) n cap) (hx : a.eval x = .slice (some ad) m c)
    (hown : w.ownsRow base 95 1 (.slice (some ⟨g, 0, none⟩) n cap) n xs) (hl : ys.length = m) (hnews : LiesV w ad ys) (hone : ∀ u ∈ ys, u.oneCell' = true) (h63 : n + m ≤ 8388608) (hbase : base ≤ w.heap.size) (H : Nat) (hH : w.heap.size = H)
    (h : ∀ g' cap' w', w'.ownsRow base 95 1 (.slice (some ⟨g', 0, none⟩) (n + m) cap') (n + m) (xs ++ ys) → w.grownBy w' (some g) → (g' = g ∨ g' = H) → base ≤ g' → g' < w'.heap.size → wpList Tryz.prog ops Q rest (a.put o.dst (.slice (some ⟨g', 0, none⟩) (n + m) cap')) w') : wpList Tryz.prog ops Q (o :: rest) a w :=
  wpList_plain hgd fun _ hK => wp_shps s x ho base g n cap xs ad m c ys hs hx hown hl hnews hone h63 hbase H hH fun g' cap' w' h2 h3 h4 h5 h6 => hK _ _ (h g' cap' w' h2 h3 h4 h5 h6)
theorem step_shps {ops : Array Oper} {o : Oper} {a : Act} {w : World} {K : Act → World → Prop} {Q : Exit → Act → World → Prop} {E : Prop} (hgd : o.guard = none) (s x : Operand)
    (ho : o.op = .call { callee := .builtin .append, args := #[s, x], argTypes := #[27, 27] })
    (base g n cap : Nat) (xs : List Value) (ad : Addr) (m c : Nat) (ys : List Value) (hs : a.eval s = .slice (some ⟨g, 0, none⟩) n cap) (hx : a.eval x = .slice (some ad) m c)
    (hown : w.ownsRow base 95 1 (.slice (some ⟨g, 0, none⟩) n cap) n xs) (hl : ys.length = m) (hnews : LiesV w ad ys) (hone : ∀ u ∈ ys, u.oneCell' = true) (h63 : n + m ≤ 8388608) (hbase : base ≤ w.heap.size) (H : Nat) (hH : w.heap.size = H)
    (h : ∀ g' cap' w', w'.ownsRow base 95 1 (.slice (some ⟨g', 0, none⟩) (n + m) cap') (n + m) (xs ++ ys) → w.grownBy w' (some g) → (g' = g ∨ g' = H) → base ≤ g' → g' < w'.heap.size → K (a.put o.dst (.slice (some ⟨g', 0, none⟩) (n + m) cap')) w') :
    if Region.wanted o (yielded ops a.tmps) = true then Oper.wp Tryz.prog o a w K Q else E := by
  have hw : Region.wanted o (yielded ops a.tmps) = true := by simp [Region.wanted, hgd]
  rw [if_pos hw]
  exact wp_shps s x ho base g n cap xs ad m c ys hs hx hown hl hnews hone h63 hbase H hH h

theorem ints_info : (Tryz.prog.info? 3).map (fun i => (i.zero, i.size, i.bytes)) = some (some (.int .i64 0), 1, 8) := by kernel_rfl
theorem ints_size : ∃ i, Tryz.prog.info? 3 = some i ∧ i.zero = some (.int .i64 0) ∧ i.size = 1 ∧ i.bytes = 8 := by
  obtain ⟨i0, hi, hz0, hz1, hz2⟩ := info_parts ints_info
  exact ⟨i0, hi, hz0, hz1, hz2⟩
theorem append_ints (base g n cap : Nat) (xs : List Value) (ad : Addr) (m c : Nat) (ys : List Value) (w : World)
    (hown : w.ownsRow base 3 1 (.slice (some ⟨g, 0, none⟩) n cap) n xs) (hl : ys.length = m) (hnews : LiesV w ad ys) (hone : ∀ u ∈ ys, u.oneCell' = true) (h63 : n + m ≤ 8388608) (hbase : base ≤ w.heap.size) (ty : TypeId) (H : Nat) (hH : w.heap.size = H) :
    ∃ g' cap' w', (Builtin.append_ #[24, 24] ty #[.slice (some ⟨g, 0, none⟩) n cap, .slice (some ad) m c]).run Tryz.prog w = .ok (.slice (some ⟨g', 0, none⟩) (n + m) cap') w' ∧
      w'.ownsRow base 3 1 (.slice (some ⟨g', 0, none⟩) (n + m) cap') (n + m) (xs ++ ys) ∧ w.grownBy w' (some g) ∧ (g' = g ∨ g' = H) ∧ base ≤ g' ∧ g' < w'.heap.size := by
  obtain ⟨i, hi, hz, hs, hby⟩ := ints_size
  obtain ⟨v', w', hr, h2, h3, h4, h5⟩ := run_append_own_at (P := Tryz.prog) w base 24 ty 3 i _ 1 8 Tryz.underlying24 hi hz hs hby rfl (by omega) _ n xs hown ad m c ys (by omega) hnews hone (by unfold maxLen; omega) (by omega) hbase
  rcases h2.2 with ⟨rfl, _⟩ | ⟨g', cap', cur, rfl, hb, hg, _⟩
  · exact absurd (h4.1 rfl).1 (by intro e; cases e)
  · refine ⟨g', cap', w', hr, h2, h3, ?_, hb, (Array.getElem?_eq_some_iff.1 hg).1⟩
    rcases h5 with h5 | h5
    · exact .inl (by simpa [Value.ownBlock] using h5)
    · exact .inr (by rw [← hH]; simpa [Value.ownBlock] using h5)
theorem wp_ints {o : Oper} {a : Act} {w : World} {K : Act → World → Prop} {Q : Exit → Act → World → Prop} (s x : Operand)
    (ho : o.op = .call { callee := .builtin .append, args := #[s, x], argTypes := #[24, 24] })
    (base g n cap : Nat) (xs : List Value) (ad : Addr) (m c : Nat) (ys : List Value) (hs : a.eval s = .slice (some ⟨g, 0, none⟩) n cap) (hx : a.eval x = .slice (some ad) m c)
    (hown : w.ownsRow base 3 1 (.slice (some ⟨g, 0, none⟩) n cap) n xs) (hl : ys.length = m) (hnews : LiesV w ad ys) (hone : ∀ u ∈ ys, u.oneCell' = true) (h63 : n + m ≤ 8388608) (hbase : base ≤ w.heap.size) (H : Nat) (hH : w.heap.size = H)
    (h : ∀ g' cap' w', w'.ownsRow base 3 1 (.slice (some ⟨g', 0, none⟩) (n + m) cap') (n + m) (xs ++ ys) → w.grownBy w' (some g) → (g' = g ∨ g' = H) → base ≤ g' → g' < w'.heap.size → K (a.put o.dst (.slice (some ⟨g', 0, none⟩) (n + m) cap')) w') : o.wp Tryz.prog a w K Q := by
  obtain ⟨g', cap', w', hr, h2, h3, h4, h5, h6⟩ := append_ints base g n cap xs ad m c ys w hown hl hnews hone h63 hbase o.type H hH
  unfold Oper.wp execOp
  simp only [ho, resolve, invoke, builtin, Sem.run_bind, Sem.run_pure, Result.andThen_ok, List.map_toArray, List.map_cons, List.map_nil, hs, hx, hr]
  exact h g' cap' w' h2 h3 h4 h5 h6
theorem wpList_ints {ops : Array Oper} {rest : List Oper} {o : Oper} {a : Act} {w : World} {Q : Exit → Act → World → Prop} (hgd : o.guard = none) (s x : Operand)
    (ho : o.op = .call { callee := .builtin .append, args := #[s, x], argTypes := #[24, 24] })
    (base g n cap : Nat) (xs : List Value) (ad : Addr) (m c : Nat) (ys : List Value) (hs : a.eval s = .slice (some ⟨g, 0, none⟩) n cap) (hx : a.eval x = .slice (some ad) m c)
    (hown : w.ownsRow base 3 1 (.slice (some ⟨g, 0, none⟩) n cap) n xs) (hl : ys.length = m) (hnews : LiesV w ad ys) (hone : ∀ u ∈ ys, u.oneCell' = true) (h63 : n + m ≤ 8388608) (hbase : base ≤ w.heap.size) (H : Nat) (hH : w.heap.size = H)
    (h : ∀ g' cap' w', w'.ownsRow base 3 1 (.slice (some ⟨g', 0, none⟩) (n + m) cap') (n + m) (xs ++ ys) → w.grownBy w' (some g) → (g' = g ∨ g' = H) → base ≤ g' → g' < w'.heap.size → wpList Tryz.prog ops Q rest (a.put o.dst (.slice (some ⟨g', 0, none⟩) (n + m) cap')) w') : wpList Tryz.prog ops Q (o :: rest) a w :=
  wpList_plain hgd fun _ hK => wp_ints s x ho base g n cap xs ad m c ys hs hx hown hl hnews hone h63 hbase H hH fun g' cap' w' h2 h3 h4 h5 h6 => hK _ _ (h g' cap' w' h2 h3 h4 h5 h6)
theorem step_ints {ops : Array Oper} {o : Oper} {a : Act} {w : World} {K : Act → World → Prop} {Q : Exit → Act → World → Prop} {E : Prop} (hgd : o.guard = none) (s x : Operand)
    (ho : o.op = .call { callee := .builtin .append, args := #[s, x], argTypes := #[24, 24] })
    (base g n cap : Nat) (xs : List Value) (ad : Addr) (m c : Nat) (ys : List Value) (hs : a.eval s = .slice (some ⟨g, 0, none⟩) n cap) (hx : a.eval x = .slice (some ad) m c)
    (hown : w.ownsRow base 3 1 (.slice (some ⟨g, 0, none⟩) n cap) n xs) (hl : ys.length = m) (hnews : LiesV w ad ys) (hone : ∀ u ∈ ys, u.oneCell' = true) (h63 : n + m ≤ 8388608) (hbase : base ≤ w.heap.size) (H : Nat) (hH : w.heap.size = H)
    (h : ∀ g' cap' w', w'.ownsRow base 3 1 (.slice (some ⟨g', 0, none⟩) (n + m) cap') (n + m) (xs ++ ys) → w.grownBy w' (some g) → (g' = g ∨ g' = H) → base ≤ g' → g' < w'.heap.size → K (a.put o.dst (.slice (some ⟨g', 0, none⟩) (n + m) cap')) w') :
    if Region.wanted o (yielded ops a.tmps) = true then Oper.wp Tryz.prog o a w K Q else E := by
  have hw : Region.wanted o (yielded ops a.tmps) = true := by simp [Region.wanted, hgd]
  rw [if_pos hw]
  exact wp_ints s x ho base g n cap xs ad m c ys hs hx hown hl hnews hone h63 hbase H hH h
end

end Go.Proofs.YtkjlmgkjcmebbaaGreatDoor
