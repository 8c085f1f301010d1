/-
  The mask of a region: in the model and in the program: what each call gives.
-/
import Derived.Test.YtkcclhnligajeaaDoorSr1
import Derived.Test.YtkcclhnligajeaaDoorPm1
namespace Go.Proofs.YtkcclhnligajeaaDoor
open Go.RowKit

theorem i64_or_top (k a b : Nat) (ha : a < 2 ^ k) (ha2 : a < 9223372036854775808) (hb : b * 2 ^ k < 9223372036854775808) : bits .or .i64 (a : Int) ((b * 2 ^ k : Nat) : Int) = ((a + b * 2 ^ k : Nat) : Int) := by
  rw [i64_or_nat _ _ ha2 hb]
  congr 1
  rw [Nat.or_comm, Nat.add_comm, Nat.mul_comm]
  exact (Nat.two_pow_add_eq_or_of_lt ha b).symm
/-- A row of a region at its place of the mask. -/
theorem Rg.row_lt {W H : Nat} {l : List Int} (h : Rg W H l) {y : Nat} (hy : y < H) : rN l y * 2 ^ (y * W) < 68719476736 ∧ y * W ≤ 36 := by
  have h1 := h.mk_lt (y + 1) (by omega)
  have h2 := pow36 h.w6 h.h6 (show y + 1 ≤ H by omega)
  rw [mkTo] at h1
  have h3 : y * W ≤ 6 * 6 := Nat.mul_le_mul (by have := h.h6; omega) h.w6
  omega

set_option maxHeartbeats 4000000 in
set_option maxRecDepth 100000 in
theorem sMask (B n cap : Nat) (a : Option Addr) (W : Int) (l : List Int) (w : World) (hn : n ≤ 4194304) (hc : IntsAt B w a n l) (hB : B ≤ w.heap.size) :
    Calls Tryd.prog 13 #[.agg #[.int .i64 W, .slice a n cap]] w fun e w' => e = .returned (.int .i64 (maskR W l : Nat)) ∧ Below w.heap.size w w' := by
  have H := Lib.hid hc
  have HLN := Lib.hid hc.1
  clear hc
  have hb0 := (Below.refl w.heap.size w).alloc (Nat.le_refl _) (.cells #[.int .i64 W, .slice a n cap] 27)
  have hbox0 := RgAt.new (w := w) W (.slice a n cap) rfl
  have hsz0 : (w.alloc (.cells #[.int .i64 W, .slice a n cap] 27)).heap.size = w.heap.size + 1 := by simp
  cases h : isReg W l with
  | false =>
    have HI := Lib.hid h
    have HO := Lib.hid (maskR_no h)
    clear h
    by_cases h0 : 0 < (n : Int)
    · go_enter Tryd.func13, Tryd.ntmps13
      go_wp2
      refine wp_loop_rounds 1 ?_
      rw [rounds_succ]
      generalize (w.alloc (.cells #[.int .i64 W, .slice a n cap] 27)) = W1 at *
      have c0 := hbox0.c0
      have c1 := hbox0.c1
      have HB := Lib.hid hb0
      clear hb0 hbox0 hsz0
      go_wp2_with fail
      refine (sIsReg B n cap a W l _ hn (H.out.on (HB.out.mono hB)) (Nat.le_trans hB HB.out.size)).mono ?_
      rintro e w' ⟨rfl, hb⟩
      rw [HI.out]
      have HB2 := Lib.hid (HB.out.trans (hb.mono HB.out.size))
      clear hb
      go_wp2
      go_ret
      exact ⟨by rw [HO.out]; rfl, HB2.out⟩
    · go_enter Tryd.func13, Tryd.ntmps13
      go_wp2
      refine wp_loop_rounds 1 ?_
      rw [rounds_succ]
      generalize (w.alloc (.cells #[.int .i64 W, .slice a n cap] 27)) = W1 at *
      have c0 := hbox0.c0
      have c1 := hbox0.c1
      have HB := Lib.hid hb0
      clear hb0 hbox0 hsz0
      go_wp2
      go_ret
      exact ⟨by rw [HO.out]; rfl, HB.out⟩
  | true =>
    obtain ⟨N, rfl, hr⟩ := isReg_out h
    have hln := HLN.out
    rw [hln] at hr
    have HR := Lib.hid hr
    have HI := Lib.hid h
    have HO := Lib.hid (maskR_yes hr)
    have hN6 := hr.w6
    have hn6 := hr.h6
    clear h hr hln
    go_enter Tryd.func13, Tryd.ntmps13
    go_wp2
    generalize (w.alloc (.cells #[.int .i64 N, .slice a n cap] 27)) = W1 at *
    have HB := Lib.hid hb0
    clear hb0
    go_loopw [3, 4] (fun v i wr => ∃ y m : Nat, y ≤ n ∧ i = .int .i64 y ∧ v = .int .i64 m ∧ Hid (m = mkTo N l y) ∧ Below (w.heap.size + 1) W1 wr) (fun _ i _ => n - (intOf i).toNat)
    case atStart => exact ⟨0, 0, by omega, rfl, rfl, rfl, Below.refl _ _⟩
    case round =>
      obtain ⟨y, m, hy, rfl, rfl, hmm, hb⟩ := hrel
      have hsz := hb.size
      have hbx := hbox0.on hb (by omega)
      have c0 := hbx.c0
      have c1 := hbx.c1
      have hbw := HB.out.trans (hb.mono (by omega))
      by_cases hlt : y < n
      · have hy1 : (y : Int) < (n : Int) := by omega
        have hy0 : (0 : Int) ≤ (y : Int) := by omega
        go_wp2_with fail
        refine (sIsReg B n cap a N l wr hn (H.out.on (hbw.mono hB)) (Nat.le_trans hB hbw.size)).mono ?_
        rintro e w2 ⟨rfl, hb2⟩
        rw [HI.out]
        have hb2' := hb.trans (hb2.mono (by omega))
        have hsz2 := hb2'.size
        have hbw2 := HB.out.trans (hb2'.mono (by omega))
        obtain ⟨b, off, rfl, hbB, hcell⟩ := H.out.2.2 (by omega)
        have p1 := (hbw2.cell (p := ⟨b, off + y, none⟩) (Nat.lt_of_lt_of_le hbB hB)).trans (hcell y hlt)
        rw [(HR.out.nat hlt).1] at p1
        clear hb hb2 hbx c0 c1 hbw hsz hcell
        have hbx := hbox0.on hb2' (by omega)
        have c0 := hbx.c0
        have c1 := hbx.c1
        have hm1 := HR.out.mk_lt y (by omega)
        have hm2 := pow36 HR.out.w6 HR.out.h6 (show y ≤ n by omega)
        rw [← hmm.out] at hm1
        have hrow := HR.out.row_lt hlt
        have HST := Lib.hid (show mkTo N l (y + 1) = mkTo N l y + rN l y * 2 ^ (y * N) from rfl)
        obtain ⟨s, hs⟩ : ∃ s : Nat, y * N = s := ⟨_, rfl⟩
        obtain ⟨t, ht⟩ : ∃ t : Nat, rN l y * 2 ^ s = t := ⟨_, rfl⟩
        obtain ⟨z, hz⟩ : ∃ z : Nat, rN l y = z := ⟨_, rfl⟩
        rw [hs, ht] at hrow
        rw [hs, ht] at HST
        rw [hz] at p1 ht
        rw [hs] at hm1 hm2
        have hmul : (y : Int) * (N : Int) = (s : Int) := by rw [← hs]; simp
        have hshl : (z : Int) * (2 : Int) ^ s = (t : Int) := by rw [← ht]; simp
        have hmb : m < 68719476736 := by omega
        have HN := Lib.hid (show m + t = mkTo N l (y + 1) by rw [HST.out, ← hmm.out])
        clear hm1 hm2 hs ht hz HST
        go_wp2_with fail
        go_quiet (fail)
        go_wp2
        go_roundw
        case rel => exact ⟨y + 1, m + t, by omega, by go_num, by go_num, HN.out, below_drewn hb2' _⟩
        case measure => simp [intOf]; omega
      · obtain rfl : y = n := by omega
        go_wp2
        go_ret
        exact ⟨by rw [HO.out, ← hmm.out]; rfl, hbw⟩

set_option maxHeartbeats 4000000 in
set_option maxRecDepth 100000 in
theorem iMask (B n cap : Nat) (a : Option Addr) (W : Int) (l : List Int) (w : World) (hn : n ≤ 4194304) (hc : IntsAt B w a n l) (hB : B ≤ w.heap.size) :
    Calls Tryd.prog 24 #[.agg #[.int .i64 W, .slice a n cap]] w fun e w' => e = .returned (.int .i64 (maskR W l : Nat)) ∧ Below w.heap.size w w' := by
  have H := Lib.hid hc
  have HLN := Lib.hid hc.1
  clear hc
  have hb0 := (Below.refl w.heap.size w).alloc (Nat.le_refl _) (.cells #[.int .i64 W, .slice a n cap] 27)
  have hbox0 := RgAt.new (w := w) W (.slice a n cap) rfl
  have hsz0 : (w.alloc (.cells #[.int .i64 W, .slice a n cap] 27)).heap.size = w.heap.size + 1 := by simp
  cases h : isReg W l with
  | false =>
    have HI := Lib.hid h
    have HO := Lib.hid (maskR_no h)
    clear h
    go_enter Tryd.func24, Tryd.ntmps24
    go_wp2_with fail
    refine (iIsReg B n cap a W l _ hn (H.out.on (hb0.mono hB)) (Nat.le_trans hB hb0.size)).mono ?_
    rintro e w' ⟨rfl, hb⟩
    rw [HI.out]
    go_wp2
    go_ret
    exact ⟨by rw [HO.out]; rfl, hb0.trans (hb.mono hb0.size)⟩
  | true =>
    obtain ⟨N, rfl, hr⟩ := isReg_out h
    have hln := HLN.out
    rw [hln] at hr
    have HR := Lib.hid hr
    have HI := Lib.hid h
    have HO := Lib.hid (maskR_yes hr)
    have hN6 := hr.w6
    have hn6 := hr.h6
    clear h hr hln
    go_enter Tryd.func24, Tryd.ntmps24
    go_wp2_with fail
    refine (iIsReg B n cap a N l _ hn (H.out.on (hb0.mono hB)) (Nat.le_trans hB hb0.size)).mono ?_
    rintro e W1 ⟨rfl, hb⟩
    rw [HI.out]
    have HB := Lib.hid (hb0.trans (hb.mono hb0.size))
    have hbox := hbox0.on hb hbox0.lt
    have hsz1 := hb.size
    rw [hsz0] at hsz1
    have c1 := hbox.c1
    clear hb hb0 hbox0 hsz0
    go_wp2
    clear c1
    go_loopw [3, 12] (fun v i wr => ∃ y m : Nat, y ≤ n ∧ i = .int .i64 y ∧ v = .int .i64 m ∧ Hid (m = mkTo N l y) ∧ Below (w.heap.size + 1) W1 wr) (fun _ i _ => n - (intOf i).toNat)
    case atStart => exact ⟨0, 0, by omega, rfl, rfl, rfl, Below.refl _ _⟩
    case round =>
      obtain ⟨y, m, hy, rfl, rfl, hmm, hb⟩ := hrel
      have hsz := hb.size
      have hbx := hbox.on hb (by omega)
      have c0 := hbx.c0
      have c1 := hbx.c1
      have hbw := HB.out.trans (hb.mono (by omega))
      by_cases hlt : y < n
      · have hy1 : (y : Int) < (n : Int) := by omega
        have hy0 : (0 : Int) ≤ (y : Int) := by omega
        obtain ⟨b, off, rfl, hbB, hcell⟩ := H.out.2.2 (by omega)
        have p1 := (hbw.cell (p := ⟨b, off + y, none⟩) (Nat.lt_of_lt_of_le hbB hB)).trans (hcell y hlt)
        rw [(HR.out.nat hlt).1] at p1
        have hm1 := HR.out.mk_lt y (by omega)
        have hm2 := pow36 HR.out.w6 HR.out.h6 (show y ≤ n by omega)
        rw [← hmm.out] at hm1
        have hrow := HR.out.row_lt hlt
        have HST := Lib.hid (show mkTo N l (y + 1) = mkTo N l y + rN l y * 2 ^ (y * N) from rfl)
        obtain ⟨s, hs⟩ : ∃ s : Nat, y * N = s := ⟨_, rfl⟩
        obtain ⟨t, ht⟩ : ∃ t : Nat, rN l y * 2 ^ s = t := ⟨_, rfl⟩
        obtain ⟨z, hz⟩ : ∃ z : Nat, rN l y = z := ⟨_, rfl⟩
        rw [hs, ht] at hrow
        rw [hs, ht] at HST
        rw [hz] at p1 ht
        rw [hs] at hm1 hm2
        have hmul : (y : Int) * (N : Int) = (s : Int) := by rw [← hs]; simp
        have hshl : (z : Int) * (2 : Int) ^ s = (t : Int) := by rw [← ht]; simp
        have hor : bits .or .i64 (m : Int) (t : Int) = ((m + t : Nat) : Int) := by
          have := i64_or_top s m z hm1 (by omega) (by rw [ht]; omega)
          rw [ht] at this
          exact this
        have HN := Lib.hid (show m + t = mkTo N l (y + 1) by rw [HST.out, ← hmm.out])
        have hmb : m < 68719476736 := by omega
        have hmt : m + t < 137438953472 := by omega
        clear hm1 hm2 hs ht hz HST hcell
        generalize m + t = u at *
        go_wp2
        go_roundw
        case rel => exact ⟨y + 1, u, by omega, by go_num, rfl, HN.out, hb⟩
        case measure => simp [intOf]; omega
      · obtain rfl : y = n := by omega
        go_wp2
        go_ret
        exact ⟨by rw [HO.out, ← hmm.out]; rfl, hbw⟩


end Go.Proofs.YtkcclhnligajeaaDoor
