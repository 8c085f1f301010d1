/-
  Is it a region, is a place a cell of it: in the model and in the program: what each call gives.
-/
import Derived.Test.YtkcclhnligajeaaDoorRga
import Derived.Test.YtkcclhnligajeaaDoorPr1
import Derived.Test.YtkcclhnligajeaaDoorVaa
namespace Go.Proofs.YtkcclhnligajeaaDoor
open Go.RowKit

theorem isReg_w {W : Int} {l : List Int} (h : inb W 1 6 = false) : isReg W l = false := by unfold isReg; rw [h]; rfl
theorem isReg_h {W : Int} {l : List Int} (h : inb l.length 1 6 = false) : isReg W l = false := by unfold isReg; rw [h]; simp
theorem isReg_r {W : Int} {l : List Int} (h1 : inb W 1 6 = true) (h2 : inb l.length 1 6 = true) : isReg W l = rowsTo W l l.length := by unfold isReg; rw [h1, h2]; simp
theorem pw_nat (N : Nat) : ∃ m : Nat, 2 ^ N = m ∧ (2 : Int) ^ N = (m : Int) := ⟨2 ^ N, rfl, by simp⟩
theorem pw64 (N : Nat) (h : N ≤ 41) : wrap64 ((2 : Int) ^ N) = (2 : Int) ^ N := by
  have h1 : (2 : Nat) ^ N ≤ 2 ^ 41 := Nat.pow_le_pow_right (by omega) h
  obtain ⟨m, hm, e⟩ := pw_nat N
  rw [hm] at h1
  rw [e]
  exact IntWalk.wrap64_in _ (by omega)
theorem inb_outS {x a b : Int} (h : inb x a b = true) : a ≤ x ∧ x ≤ b := by simpa [inb] using h

set_option maxHeartbeats 1000000 in
set_option maxRecDepth 100000 in
theorem sIsReg (B n cap : Nat) (a : Option Addr) (W : Int) (l : List Int) (w : World) (hn : n ≤ 4194304) (hc : IntsAt B w a n l) (hB : B ≤ w.heap.size) :
    Calls Tryd.prog 17 #[.agg #[.int .i64 W, .slice a n cap]] w fun e w' => e = .returned (.bool (isReg W l)) ∧ Below w.heap.size w w' := by
  have H := Lib.hid hc
  have hln := hc.1
  clear hc
  cases h1 : inb W 1 6 with
  | false =>
    have HO := Lib.hid (isReg_w (l := l) h1)
    rw [HO.out]
    go_enter Tryd.func17, Tryd.ntmps17
    go_wp2_with fail
    refine (sIn W 1 6 _).mono ?_
    rintro e w' ⟨rfl, rfl⟩
    rw [h1]
    go_wp2
    go_ret
    exact ⟨rfl, (Below.refl _ _).alloc (Nat.le_refl _) _⟩
  | true =>
    cases h2 : inb (n : Int) 1 6 with
    | false =>
      have HO := Lib.hid (isReg_h (W := W) (l := l) (by rw [hln]; exact h2))
      rw [HO.out]
      go_enter Tryd.func17, Tryd.ntmps17
      go_wp2_with fail
      refine (sIn W 1 6 _).mono ?_
      rintro e w' ⟨rfl, rfl⟩
      rw [h1]
      go_wp2_with fail
      refine (sIn (n : Int) 1 6 _).mono ?_
      rintro e w' ⟨rfl, rfl⟩
      rw [h2]
      go_wp2
      go_ret
      exact ⟨rfl, (Below.refl _ _).alloc (Nat.le_refl _) _⟩
    | true =>
      have hW := inb_outS h1
      have hH := inb_outS h2
      have HO := Lib.hid (show isReg W l = rowsTo W l n from by rw [isReg_r h1 (by rw [hln]; exact h2), hln])
      rw [HO.out]
      obtain ⟨N, rfl⟩ : ∃ N : Nat, W = N := ⟨W.toNat, by omega⟩
      go_enter Tryd.func17, Tryd.ntmps17
      go_wp2_with fail
      refine (sIn N 1 6 _).mono ?_
      rintro e w' ⟨rfl, rfl⟩
      rw [h1]
      go_wp2_with fail
      refine (sIn (n : Int) 1 6 _).mono ?_
      rintro e w' ⟨rfl, rfl⟩
      rw [h2]
      have hbox := RgAt.new (w := w) N (.slice a n cap) rfl
      have hb0 := (Below.refl w.heap.size w).alloc (Nat.le_refl _) (.cells #[.int .i64 N, .slice a n cap] 27)
      have hsz0 : (w.alloc (.cells #[.int .i64 N, .slice a n cap] 27)).heap.size = w.heap.size + 1 := by simp
      generalize w.alloc (.cells #[.int .i64 N, .slice a n cap] 27) = W1 at *
      have HB0 := Lib.hid hb0
      clear hb0
      go_wp2
      go_loopw [3] (fun i wr => ∃ k : Nat, k ≤ n ∧ i = .int .i64 k ∧ Hid (rowsTo N l k = true) ∧ Below (w.heap.size + 1) W1 wr) (fun i _ => n - (intOf i).toNat)
      case atStart => exact ⟨0, by omega, rfl, by simp [Hid, rowsTo], Below.refl _ _⟩
      case round =>
        obtain ⟨k, hk, rfl, hr, hb⟩ := hrel
        have hsz := hb.size
        have hbw := HB0.out.trans (hb.mono (by omega))
        have hbx := hbox.on hb (by omega)
        have c0 := hbx.c0
        have c1 := hbx.c1
        by_cases hlt : k < n
        · obtain ⟨b, off, rfl, hbB, hcell⟩ := H.out.2.2 (by omega)
          have p1 := (hbw.cell (p := ⟨b, off + k, none⟩) (Nat.lt_of_lt_of_le hbB hB)).trans (hcell k hlt)
          have hk0 : (0 : Int) ≤ (k : Int) := by omega
          have hk1 : (k : Int) < (n : Int) := by omega
          obtain ⟨z, hz⟩ : ∃ z, l.getD k 0 = z := ⟨_, rfl⟩
          rw [hz] at p1
          have HS := Lib.hid (rowsTo_step N l k)
          have HZ := Lib.hid hz
          clear hz hcell
          by_cases hz0 : z < 0
          · have hd : decide (z < 0) = true := by simp [hz0]
            have HR := Lib.hid (show rowsTo N l n = false from rowsTo_false (k := k) (by rw [HZ.out]; unfold okRow; simp; omega) hlt)
            go_wp2_with fail
            go_quiet (fail)
            go_wp2
            go_ret
            exact ⟨by rw [HR.out]; rfl, below_drewn hbw _⟩
          · have hd : decide (z < 0) = false := by simp [hz0]
            have hp := pw64 N (by omega)
            by_cases hz1 : (2 : Int) ^ N ≤ z
            · have hd2 : decide (wrap64 ((2 : Int) ^ N) ≤ z) = true := by rw [hp]; simp [hz1]
              have HR := Lib.hid (show rowsTo N l n = false from rowsTo_false (k := k) (by rw [HZ.out]; unfold okRow; simp; omega) hlt)
              clear hp
              go_wp2_with fail
              go_quiet (fail)
              go_wp2
              go_ret
              exact ⟨by rw [HR.out]; rfl, below_drewn hbw _⟩
            · have hd2 : decide (wrap64 ((2 : Int) ^ N) ≤ z) = false := by rw [hp]; simp; omega
              have HR := Lib.hid (show rowsTo N l (k + 1) = true from by rw [HS.out, hr.out, HZ.out]; unfold okRow; simp; omega)
              clear hp
              go_wp2_with fail
              go_quiet (fail)
              go_wp2
              go_roundw
              case rel => exact ⟨k + 1, by omega, by go_num, HR.out, below_drewn hb _⟩
              case measure => simp [intOf]; omega
        · obtain rfl : k = n := by omega
          go_wp2
          go_ret
          exact ⟨by rw [hr.out]; rfl, hbw⟩

set_option maxHeartbeats 1000000 in
theorem iSide (x : Int) (w : World) : Calls Tryd.prog 27 #[.int .i64 x] w fun e w' => e = .returned (.bool (inb x 1 6)) ∧ w = w' := by
  unfold inb
  by_cases h1 : 1 ≤ x
  · by_cases h2 : x ≤ 6
    · rw [decide_eq_true h1, decide_eq_true h2]
      go_enter Tryd.func27, Tryd.ntmps27
      go_wp2
      go_ret
      exact ⟨rfl, rfl⟩
    · rw [decide_eq_true h1, decide_eq_false h2]
      go_enter Tryd.func27, Tryd.ntmps27
      go_wp2
      go_ret
      exact ⟨rfl, rfl⟩
  · rw [decide_eq_false h1]
    go_enter Tryd.func27, Tryd.ntmps27
    go_wp2
    go_ret
    exact ⟨rfl, rfl⟩
theorem iFull (N : Nat) (h : N ≤ 6) (w : World) : Calls Tryd.prog 28 #[.int .i64 N] w fun e w' => e = .returned (.int .i64 ((2 : Int) ^ N - 1)) ∧ w = w' := by
  have hp := pw64 N (by omega)
  have h1 : (2 : Nat) ^ N ≤ 2 ^ 6 := Nat.pow_le_pow_right (by omega) h
  obtain ⟨m, hm, e⟩ := pw_nat N
  rw [hm] at h1
  have h3 : wrap64 ((2 : Int) ^ N - 1) = (2 : Int) ^ N - 1 := by rw [e]; exact IntWalk.wrap64_in _ (by omega)
  go_enter Tryd.func28, Tryd.ntmps28
  go_wp2
  go_ret
  exact ⟨by rw [e]; simp, rfl⟩

set_option maxHeartbeats 1000000 in
set_option maxRecDepth 100000 in
theorem iIsReg (B n cap : Nat) (a : Option Addr) (W : Int) (l : List Int) (w : World) (hn : n ≤ 4194304) (hc : IntsAt B w a n l) (hB : B ≤ w.heap.size) :
    Calls Tryd.prog 20 #[.agg #[.int .i64 W, .slice a n cap]] w fun e w' => e = .returned (.bool (isReg W l)) ∧ Below w.heap.size w w' := by
  have H := Lib.hid hc
  have hln := hc.1
  clear hc
  cases h1 : inb W 1 6 with
  | false =>
    have HO := Lib.hid (isReg_w (l := l) h1)
    rw [HO.out]
    go_enter Tryd.func20, Tryd.ntmps20
    go_wp2_with fail
    refine (iSide W _).mono ?_
    rintro e w' ⟨rfl, rfl⟩
    rw [h1]
    go_wp2
    go_ret
    exact ⟨rfl, (Below.refl _ _).alloc (Nat.le_refl _) _⟩
  | true =>
    cases h2 : inb (n : Int) 1 6 with
    | false =>
      have HO := Lib.hid (isReg_h (W := W) (l := l) (by rw [hln]; exact h2))
      rw [HO.out]
      go_enter Tryd.func20, Tryd.ntmps20
      go_wp2_with fail
      refine (iSide W _).mono ?_
      rintro e w' ⟨rfl, rfl⟩
      rw [h1]
      go_wp2_with fail
      refine (iSide (n : Int) _).mono ?_
      rintro e w' ⟨rfl, rfl⟩
      rw [h2]
      go_wp2
      go_ret
      exact ⟨rfl, (Below.refl _ _).alloc (Nat.le_refl _) _⟩
    | true =>
      have hW := inb_outS h1
      have hH := inb_outS h2
      have HO := Lib.hid (show isReg W l = rowsTo W l n from by rw [isReg_r h1 (by rw [hln]; exact h2), hln])
      rw [HO.out]
      obtain ⟨N, rfl⟩ : ∃ N : Nat, W = N := ⟨W.toNat, by omega⟩
      go_enter Tryd.func20, Tryd.ntmps20
      go_wp2_with fail
      refine (iSide N _).mono ?_
      rintro e w' ⟨rfl, rfl⟩
      rw [h1]
      go_wp2_with fail
      refine (iSide (n : Int) _).mono ?_
      rintro e w' ⟨rfl, rfl⟩
      rw [h2]
      have hbox := RgAt.new (w := w) N (.slice a n cap) rfl
      have hb0 := (Below.refl w.heap.size w).alloc (Nat.le_refl _) (.cells #[.int .i64 N, .slice a n cap] 27)
      have hsz0 : (w.alloc (.cells #[.int .i64 N, .slice a n cap] 27)).heap.size = w.heap.size + 1 := by simp
      generalize w.alloc (.cells #[.int .i64 N, .slice a n cap] 27) = W1 at *
      have HB0 := Lib.hid hb0
      have c1 := hbox.c1
      clear hb0
      go_wp2
      clear c1
      go_loopw [19] (fun i wr => ∃ k : Nat, k ≤ n ∧ i = .int .i64 k ∧ Hid (rowsTo N l k = true) ∧ Below (w.heap.size + 1) W1 wr) (fun i _ => n - (intOf i).toNat)
      case atStart => exact ⟨0, by omega, rfl, by simp [Hid, rowsTo], Below.refl _ _⟩
      case round =>
        obtain ⟨k, hk, rfl, hr, hb⟩ := hrel
        have hsz := hb.size
        have hbw := HB0.out.trans (hb.mono (by omega))
        have hbx := hbox.on hb (by omega)
        have c0 := hbx.c0
        have c1 := hbx.c1
        by_cases hlt : k < n
        · obtain ⟨b, off, rfl, hbB, hcell⟩ := H.out.2.2 (by omega)
          have p1 := (hbw.cell (p := ⟨b, off + k, none⟩) (Nat.lt_of_lt_of_le hbB hB)).trans (hcell k hlt)
          have hk0 : (0 : Int) ≤ (k : Int) := by omega
          have hk1 : (k : Int) < (n : Int) := by omega
          obtain ⟨z, hz⟩ : ∃ z, l.getD k 0 = z := ⟨_, rfl⟩
          rw [hz] at p1
          have HS := Lib.hid (rowsTo_step N l k)
          have HZ := Lib.hid hz
          clear hz hcell
          by_cases hz0 : z < 0
          · have HR := Lib.hid (show rowsTo N l n = false from rowsTo_false (k := k) (by rw [HZ.out]; unfold okRow; simp; omega) hlt)
            go_wp2
            go_ret
            exact ⟨by rw [HR.out]; rfl, hbw⟩
          · go_wp2_with fail
            refine (iFull N (by omega) wr).mono ?_
            rintro e w' ⟨rfl, rfl⟩
            by_cases hz1 : (2 : Int) ^ N - 1 < z
            · have HR := Lib.hid (show rowsTo N l n = false from rowsTo_false (k := k) (by rw [HZ.out]; unfold okRow; simp; omega) hlt)
              go_wp2
              go_ret
              exact ⟨by rw [HR.out]; rfl, hbw⟩
            · have HR := Lib.hid (show rowsTo N l (k + 1) = true from by rw [HS.out, hr.out, HZ.out]; unfold okRow; simp; omega)
              go_wp2
              go_roundw
              case rel => exact ⟨k + 1, by omega, by go_num, HR.out, hb⟩
              case measure => simp [intOf]; omega
        · obtain rfl : k = n := by omega
          go_wp2
          go_ret
          exact ⟨by rw [hr.out]; rfl, hbw⟩

/-! ### Is a place a cell -/
theorem bt_no {W H : Nat} {l : List Int} (h : Rg W H l) {x y : Int} (hn : ¬ ((0 ≤ x ∧ x < W) ∧ 0 ≤ y ∧ y < H)) : bt l (x, y) = false := by
  cases hb : bt l (x, y) with
  | false => rfl
  | true => exact absurd (h.bt_in hb) hn
theorem shr_val {n x : Nat} (hn : n < 64) (hx : x < 6) : bits .and .i64 ((n : Int) / (2 : Int) ^ x) 1 = ((n.testBit x).toNat : Int) := by
  obtain ⟨m, hm, e⟩ := pw_nat x
  have h0 := shr_bit n hn x hx
  rw [hm] at h0
  rw [e, show ((n : Int) / (m : Int)) = ((n / m : Nat) : Int) by simp]
  have h1 : n / m ≤ n := Nat.div_le_self _ _
  rw [show (1 : Int) = ((1 : Nat) : Int) from rfl, i64_and_nat _ _ (by omega) (by omega), h0]
theorem shr_is {n x : Nat} (hn : n < 64) (hx : x < 6) : (bits .and .i64 ((n : Int) / (2 : Int) ^ x) 1 == 1) = n.testBit x := by
  rw [shr_val hn hx]
  cases n.testBit x <;> rfl

def cellB (W : Int) (l : List Int) (x y : Int) : Bool := isReg W l && bt l (x, y)
theorem cellB_no {W : Int} {l : List Int} (h : isReg W l = false) (x y : Int) : cellB W l x y = false := by unfold cellB; rw [h]; rfl
theorem cellB_yes {W : Int} {l : List Int} (h : isReg W l = true) (x y : Int) : cellB W l x y = bt l (x, y) := by unfold cellB; rw [h]; rfl

end Go.Proofs.YtkcclhnligajeaaDoor
