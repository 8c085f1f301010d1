/-
  Is it a region, is a place a cell of it: in the model and in the program: what each call gives.
  The mask of a region: in the model and in the program: what each call gives.
-/
import Derived.Test.YtkjlmgkjcmebbaaGreatDoorRga
import Derived.Test.YtkjlmgkjcmebbaaGreatDoorPr1
import Derived.Test.YtkjlmgkjcmebbaaGreatDoorVac
import Derived.Test.YtkjlmgkjcmebbaaGreatDoorVaf
namespace Go.Proofs.YtkjlmgkjcmebbaaGreatDoor

section
open Go.RowKit

theorem isReg_w {W : Int} {l : List Int} (h : inb W 1 6 = false) : isReg W l = false := by unfold isReg; rw [h]; rfl
theorem isReg_h {W : Int} {l : List Int} (h : inb l.length 1 6 = false) : isReg W l = false := by unfold isReg; rw [h]; simp
theorem isReg_r {W : Int} {l : List Int} (h1 : inb W 1 6 = true) (h2 : inb l.length 1 6 = true) : isReg W l = rowsTo W l l.length := by unfold isReg; rw [h1, h2]; simp
theorem pw_nat (N : Nat) : ∃ m : Nat, 2 ^ N = m ∧ (2 : Int) ^ N = (m : Int) := ⟨2 ^ N, rfl, by simp⟩
theorem pw64 (N : Nat) (h : N ≤ 41) : wrap64 ((2 : Int) ^ N) = (2 : Int) ^ N := by
  have h1 : (2 : Nat) ^ N ≤ 2 ^ 41 := Nat.pow_le_pow_right (by omega) h
  obtain ⟨m, hm, e⟩ := pw_nat N
  rw [hm] at h1
  rw [e]
  exact IntWalk.wrap64_in _ (by omega)
theorem inb_outS {x a b : Int} (h : inb x a b = true) : a ≤ x ∧ x ≤ b := by simpa [inb] using h

set_option maxHeartbeats 1000000 in
set_option maxRecDepth 100000 in
theorem sIsReg (B n cap : Nat) (a : Option Addr) (W : Int) (l : List Int) (w : World) (hn : n ≤ 4194304) (hc : IntsAt B w a n l) (hB : B ≤ w.heap.size) :
    Calls Tryz.prog 58 #[.agg #[.int .i64 W, .slice a n cap]] w fun e w' => e = .returned (.bool (isReg W l)) ∧ Below w.heap.size w w' := by
  have H := Lib.hid hc
  have hln := hc.1
  clear hc
  cases h1 : inb W 1 6 with
  | false =>
    have HO := Lib.hid (isReg_w (l := l) h1)
    rw [HO.out]
    go_enter Tryz.func58, Tryz.ntmps58
    go_wp2_with fail
    refine (sIn W 1 6 _).mono ?_
    rintro e w' ⟨rfl, rfl⟩
    rw [h1]
    go_wp2
    go_ret
    exact ⟨rfl, (Below.refl _ _).alloc (Nat.le_refl _) _⟩
  | true =>
    cases h2 : inb (n : Int) 1 6 with
    | false =>
      have HO := Lib.hid (isReg_h (W := W) (l := l) (by rw [hln]; exact h2))
      rw [HO.out]
      go_enter Tryz.func58, Tryz.ntmps58
      go_wp2_with fail
      refine (sIn W 1 6 _).mono ?_
      rintro e w' ⟨rfl, rfl⟩
      rw [h1]
      go_wp2_with fail
      refine (sIn (n : Int) 1 6 _).mono ?_
      rintro e w' ⟨rfl, rfl⟩
      rw [h2]
      go_wp2
      go_ret
      exact ⟨rfl, (Below.refl _ _).alloc (Nat.le_refl _) _⟩
    | true =>
      have hW := inb_outS h1
      have hH := inb_outS h2
      have HO := Lib.hid (show isReg W l = rowsTo W l n from by rw [isReg_r h1 (by rw [hln]; exact h2), hln])
      rw [HO.out]
      obtain ⟨N, rfl⟩ : ∃ N : Nat, W = N := ⟨W.toNat, by omega⟩
      go_enter Tryz.func58, Tryz.ntmps58
      go_wp2_with fail
      refine (sIn N 1 6 _).mono ?_
      rintro e w' ⟨rfl, rfl⟩
      rw [h1]
      go_wp2_with fail
      refine (sIn (n : Int) 1 6 _).mono ?_
      rintro e w' ⟨rfl, rfl⟩
      rw [h2]
      have hbox := RgAt.new (w := w) N (.slice a n cap) rfl
      have hb0 := (Below.refl w.heap.size w).alloc (Nat.le_refl _) (.cells #[.int .i64 N, .slice a n cap] 26)
      have hsz0 : (w.alloc (.cells #[.int .i64 N, .slice a n cap] 26)).heap.size = w.heap.size + 1 := by simp
      generalize w.alloc (.cells #[.int .i64 N, .slice a n cap] 26) = W1 at *
      have HB0 := Lib.hid hb0
      clear hb0
      go_wp2
      go_loopw [3] (fun i wr => ∃ k : Nat, k ≤ n ∧ i = .int .i64 k ∧ Hid (rowsTo N l k = true) ∧ Below (w.heap.size + 1) W1 wr) (fun i _ => n - (intOf i).toNat)
      case atStart => exact ⟨0, by omega, rfl, by simp [Hid, rowsTo], Below.refl _ _⟩
      case round =>
        obtain ⟨k, hk, rfl, hr, hb⟩ := hrel
        have hsz := hb.size
        have hbw := HB0.out.trans (hb.mono (by omega))
        have hbx := hbox.on hb (by omega)
        have c0 := hbx.c0
        have c1 := hbx.c1
        by_cases hlt : k < n
        · obtain ⟨b, off, rfl, hbB, hcell⟩ := H.out.2.2 (by omega)
          have p1 := (hbw.cell (p := ⟨b, off + k, none⟩) (Nat.lt_of_lt_of_le hbB hB)).trans (hcell k hlt)
          have hk0 : (0 : Int) ≤ (k : Int) := by omega
          have hk1 : (k : Int) < (n : Int) := by omega
          obtain ⟨z, hz⟩ : ∃ z, l.getD k 0 = z := ⟨_, rfl⟩
          rw [hz] at p1
          have HS := Lib.hid (rowsTo_step N l k)
          have HZ := Lib.hid hz
          clear hz hcell
          by_cases hz0 : z < 0
          · have hd : decide (z < 0) = true := by simp [hz0]
            have HR := Lib.hid (show rowsTo N l n = false from rowsTo_false (k := k) (by rw [HZ.out]; unfold okRow; simp; omega) hlt)
            go_wp2_with fail
            go_quiet (fail)
            go_wp2
            go_ret
            exact ⟨by rw [HR.out]; rfl, below_drewn hbw _⟩
          · have hd : decide (z < 0) = false := by simp [hz0]
            have hp := pw64 N (by omega)
            by_cases hz1 : (2 : Int) ^ N ≤ z
            · have hd2 : decide (wrap64 ((2 : Int) ^ N) ≤ z) = true := by rw [hp]; simp [hz1]
              have HR := Lib.hid (show rowsTo N l n = false from rowsTo_false (k := k) (by rw [HZ.out]; unfold okRow; simp; omega) hlt)
              clear hp
              go_wp2_with fail
              go_quiet (fail)
              go_wp2
              go_ret
              exact ⟨by rw [HR.out]; rfl, below_drewn hbw _⟩
            · have hd2 : decide (wrap64 ((2 : Int) ^ N) ≤ z) = false := by rw [hp]; simp; omega
              have HR := Lib.hid (show rowsTo N l (k + 1) = true from by rw [HS.out, hr.out, HZ.out]; unfold okRow; simp; omega)
              clear hp
              go_wp2_with fail
              go_quiet (fail)
              go_wp2
              go_roundw
              case rel => exact ⟨k + 1, by omega, by go_num, HR.out, below_drewn hb _⟩
              case measure => simp [intOf]; omega
        · obtain rfl : k = n := by omega
          go_wp2
          go_ret
          exact ⟨by rw [hr.out]; rfl, hbw⟩

set_option maxHeartbeats 1000000 in
theorem iSide (x : Int) (w : World) : Calls Tryz.prog 102 #[.int .i64 x] w fun e w' => e = .returned (.bool (inb x 1 6)) ∧ w = w' := by
  unfold inb
  by_cases h1 : 1 ≤ x
  · by_cases h2 : x ≤ 6
    · rw [decide_eq_true h1, decide_eq_true h2]
      go_enter Tryz.func102, Tryz.ntmps102
      go_wp2
      go_ret
      exact ⟨rfl, rfl⟩
    · rw [decide_eq_true h1, decide_eq_false h2]
      go_enter Tryz.func102, Tryz.ntmps102
      go_wp2
      go_ret
      exact ⟨rfl, rfl⟩
  · rw [decide_eq_false h1]
    go_enter Tryz.func102, Tryz.ntmps102
    go_wp2
    go_ret
    exact ⟨rfl, rfl⟩
theorem iFull (N : Nat) (h : N ≤ 6) (w : World) : Calls Tryz.prog 103 #[.int .i64 N] w fun e w' => e = .returned (.int .i64 ((2 : Int) ^ N - 1)) ∧ w = w' := by
  have hp := pw64 N (by omega)
  have h1 : (2 : Nat) ^ N ≤ 2 ^ 6 := Nat.pow_le_pow_right (by omega) h
  obtain ⟨m, hm, e⟩ := pw_nat N
  rw [hm] at h1
  have h3 : wrap64 ((2 : Int) ^ N - 1) = (2 : Int) ^ N - 1 := by rw [e]; exact IntWalk.wrap64_in _ (by omega)
  go_enter Tryz.func103, Tryz.ntmps103
  go_wp2
  go_ret
  exact ⟨by rw [e]; simp, rfl⟩

set_option maxHeartbeats 1000000 in
set_option maxRecDepth 100000 in
theorem iIsReg (B n cap : Nat) (a : Option Addr) (W : Int) (l : List Int) (w : World) (hn : n ≤ 4194304) (hc : IntsAt B w a n l) (hB : B ≤ w.heap.size) :
    Calls Tryz.prog 70 #[.agg #[.int .i64 W, .slice a n cap]] w fun e w' => e = .returned (.bool (isReg W l)) ∧ Below w.heap.size w w' := by
  have H := Lib.hid hc
  have hln := hc.1
  clear hc
  cases h1 : inb W 1 6 with
  | false =>
    have HO := Lib.hid (isReg_w (l := l) h1)
    rw [HO.out]
    go_enter Tryz.func70, Tryz.ntmps70
    go_wp2_with fail
    refine (iSide W _).mono ?_
    rintro e w' ⟨rfl, rfl⟩
    rw [h1]
    go_wp2
    go_ret
    exact ⟨rfl, (Below.refl _ _).alloc (Nat.le_refl _) _⟩
  | true =>
    cases h2 : inb (n : Int) 1 6 with
    | false =>
      have HO := Lib.hid (isReg_h (W := W) (l := l) (by rw [hln]; exact h2))
      rw [HO.out]
      go_enter Tryz.func70, Tryz.ntmps70
      go_wp2_with fail
      refine (iSide W _).mono ?_
      rintro e w' ⟨rfl, rfl⟩
      rw [h1]
      go_wp2_with fail
      refine (iSide (n : Int) _).mono ?_
      rintro e w' ⟨rfl, rfl⟩
      rw [h2]
      go_wp2
      go_ret
      exact ⟨rfl, (Below.refl _ _).alloc (Nat.le_refl _) _⟩
    | true =>
      have hW := inb_outS h1
      have hH := inb_outS h2
      have HO := Lib.hid (show isReg W l = rowsTo W l n from by rw [isReg_r h1 (by rw [hln]; exact h2), hln])
      rw [HO.out]
      obtain ⟨N, rfl⟩ : ∃ N : Nat, W = N := ⟨W.toNat, by omega⟩
      go_enter Tryz.func70, Tryz.ntmps70
      go_wp2_with fail
      refine (iSide N _).mono ?_
      rintro e w' ⟨rfl, rfl⟩
      rw [h1]
      go_wp2_with fail
      refine (iSide (n : Int) _).mono ?_
      rintro e w' ⟨rfl, rfl⟩
      rw [h2]
      have hbox := RgAt.new (w := w) N (.slice a n cap) rfl
      have hb0 := (Below.refl w.heap.size w).alloc (Nat.le_refl _) (.cells #[.int .i64 N, .slice a n cap] 26)
      have hsz0 : (w.alloc (.cells #[.int .i64 N, .slice a n cap] 26)).heap.size = w.heap.size + 1 := by simp
      generalize w.alloc (.cells #[.int .i64 N, .slice a n cap] 26) = W1 at *
      have HB0 := Lib.hid hb0
      have c1 := hbox.c1
      clear hb0
      go_wp2
      clear c1
      go_loopw [19] (fun i wr => ∃ k : Nat, k ≤ n ∧ i = .int .i64 k ∧ Hid (rowsTo N l k = true) ∧ Below (w.heap.size + 1) W1 wr) (fun i _ => n - (intOf i).toNat)
      case atStart => exact ⟨0, by omega, rfl, by simp [Hid, rowsTo], Below.refl _ _⟩
      case round =>
        obtain ⟨k, hk, rfl, hr, hb⟩ := hrel
        have hsz := hb.size
        have hbw := HB0.out.trans (hb.mono (by omega))
        have hbx := hbox.on hb (by omega)
        have c0 := hbx.c0
        have c1 := hbx.c1
        by_cases hlt : k < n
        · obtain ⟨b, off, rfl, hbB, hcell⟩ := H.out.2.2 (by omega)
          have p1 := (hbw.cell (p := ⟨b, off + k, none⟩) (Nat.lt_of_lt_of_le hbB hB)).trans (hcell k hlt)
          have hk0 : (0 : Int) ≤ (k : Int) := by omega
          have hk1 : (k : Int) < (n : Int) := by omega
          obtain ⟨z, hz⟩ : ∃ z, l.getD k 0 = z := ⟨_, rfl⟩
          rw [hz] at p1
          have HS := Lib.hid (rowsTo_step N l k)
          have HZ := Lib.hid hz
          clear hz hcell
          by_cases hz0 : z < 0
          · have HR := Lib.hid (show rowsTo N l n = false from rowsTo_false (k := k) (by rw [HZ.out]; unfold okRow; simp; omega) hlt)
            go_wp2
            go_ret
            exact ⟨by rw [HR.out]; rfl, hbw⟩
          · go_wp2_with fail
            refine (iFull N (by omega) wr).mono ?_
            rintro e w' ⟨rfl, rfl⟩
            by_cases hz1 : (2 : Int) ^ N - 1 < z
            · have HR := Lib.hid (show rowsTo N l n = false from rowsTo_false (k := k) (by rw [HZ.out]; unfold okRow; simp; omega) hlt)
              go_wp2
              go_ret
              exact ⟨by rw [HR.out]; rfl, hbw⟩
            · have HR := Lib.hid (show rowsTo N l (k + 1) = true from by rw [HS.out, hr.out, HZ.out]; unfold okRow; simp; omega)
              go_wp2
              go_roundw
              case rel => exact ⟨k + 1, by omega, by go_num, HR.out, hb⟩
              case measure => simp [intOf]; omega
        · obtain rfl : k = n := by omega
          go_wp2
          go_ret
          exact ⟨by rw [hr.out]; rfl, hbw⟩

/-! ### Is a place a cell -/
theorem bt_no {W H : Nat} {l : List Int} (h : Rg W H l) {x y : Int} (hn : ¬ ((0 ≤ x ∧ x < W) ∧ 0 ≤ y ∧ y < H)) : bt l (x, y) = false := by
  cases hb : bt l (x, y) with
  | false => rfl
  | true => exact absurd (h.bt_in hb) hn
theorem shr_val {n x : Nat} (hn : n < 64) (hx : x < 6) : bits .and .i64 ((n : Int) / (2 : Int) ^ x) 1 = ((n.testBit x).toNat : Int) := by
  obtain ⟨m, hm, e⟩ := pw_nat x
  have h0 := shr_bit n hn x hx
  rw [hm] at h0
  rw [e, show ((n : Int) / (m : Int)) = ((n / m : Nat) : Int) by simp]
  have h1 : n / m ≤ n := Nat.div_le_self _ _
  rw [show (1 : Int) = ((1 : Nat) : Int) from rfl, i64_and_nat _ _ (by omega) (by omega), h0]
theorem shr_is {n x : Nat} (hn : n < 64) (hx : x < 6) : (bits .and .i64 ((n : Int) / (2 : Int) ^ x) 1 == 1) = n.testBit x := by
  rw [shr_val hn hx]
  cases n.testBit x <;> rfl

set_option maxHeartbeats 2000000 in
set_option maxRecDepth 100000 in
theorem sL6In (B n cap N : Nat) (a : Option Addr) (l : List Int) (x y : Int) (w : World) (hr : Rg N n l) (hc : IntsAt B w a n l) (hB : B ≤ w.heap.size) :
    Calls Tryz.prog 182 #[.agg #[.int .i64 N, .slice a n cap], .int .i64 x, .int .i64 y] w fun e w' => e = .returned (.bool (bt l (x, y))) ∧ Below w.heap.size w w' := by
  have H := Lib.hid hc
  clear hc
  by_cases h1 : 0 ≤ x
  · by_cases h2 : 0 ≤ y
    · by_cases h3 : x < N
      · by_cases h4 : y < n
        · obtain ⟨b, off, rfl, hbB, hcell⟩ := H.out.2.2 (by omega)
          obtain ⟨u, rfl⟩ : ∃ u : Nat, x = u := ⟨x.toNat, by omega⟩
          obtain ⟨v, rfl⟩ : ∃ v : Nat, y = v := ⟨y.toNat, by omega⟩
          have p1 := hcell v (by omega)
          have hv := hr.nat (show v < n by omega)
          have hw6 := hr.w6
          rw [hv.1] at p1
          have HS := Lib.hid (shr_is (x := u) hv.2.2 (by omega))
          have HO := Lib.hid (bt_nat l u v)
          rw [HO.out]
          obtain ⟨z, hz⟩ : ∃ z, rN l v = z := ⟨_, rfl⟩
          rw [hz] at p1 HS ⊢
          clear hcell hv hr
          have p1' := ((((Below.refl w.heap.size w).alloc (Nat.le_refl _) (.cells #[.int .i64 N, .slice (some ⟨b, off, none⟩) n cap] 26))).cell (p := ⟨b, off + v, none⟩) (by show b < w.heap.size; omega)).trans p1
          go_enter Tryz.func182, Tryz.ntmps182
          go_wp2
          go_ret
          exact ⟨by rw [← HS.out]; rfl, (Below.refl _ _).alloc (Nat.le_refl _) _⟩
        · have HN := Lib.hid (bt_no hr (x := x) (y := y) (by omega))
          rw [HN.out]
          go_enter Tryz.func182, Tryz.ntmps182
          go_wp2
          go_ret
          exact ⟨rfl, (Below.refl _ _).alloc (Nat.le_refl _) _⟩
      · have HN := Lib.hid (bt_no hr (x := x) (y := y) (by omega))
        rw [HN.out]
        go_enter Tryz.func182, Tryz.ntmps182
        go_wp2
        go_ret
        exact ⟨rfl, (Below.refl _ _).alloc (Nat.le_refl _) _⟩
    · have HN := Lib.hid (bt_no hr (x := x) (y := y) (by omega))
      rw [HN.out]
      go_enter Tryz.func182, Tryz.ntmps182
      go_wp2
      go_ret
      exact ⟨rfl, (Below.refl _ _).alloc (Nat.le_refl _) _⟩
  · have HN := Lib.hid (bt_no hr (x := x) (y := y) (by omega))
    rw [HN.out]
    go_enter Tryz.func182, Tryz.ntmps182
    go_wp2
    go_ret
    exact ⟨rfl, (Below.refl _ _).alloc (Nat.le_refl _) _⟩

def cellB (W : Int) (l : List Int) (x y : Int) : Bool := isReg W l && bt l (x, y)
theorem cellB_no {W : Int} {l : List Int} (h : isReg W l = false) (x y : Int) : cellB W l x y = false := by unfold cellB; rw [h]; rfl
theorem cellB_yes {W : Int} {l : List Int} (h : isReg W l = true) (x y : Int) : cellB W l x y = bt l (x, y) := by unfold cellB; rw [h]; rfl

set_option maxHeartbeats 1000000 in
theorem sInReg (B n cap : Nat) (a : Option Addr) (W : Int) (l : List Int) (x y : Int) (w : World) (hn : n ≤ 4194304) (hc : IntsAt B w a n l) (hB : B ≤ w.heap.size) :
    Calls Tryz.prog 154 #[.agg #[.int .i64 W, .slice a n cap], .int .i64 x, .int .i64 y] w fun e w' => e = .returned (.bool (cellB W l x y)) ∧ Below w.heap.size w w' := by
  have H := Lib.hid hc
  have HLN := Lib.hid hc.1
  clear hc
  have hb0 := (Below.refl w.heap.size w).alloc (Nat.le_refl _) (.cells #[.int .i64 W, .slice a n cap] 26)
  have hbox := RgAt.new (w := w) W (.slice a n cap) rfl
  cases h : isReg W l with
  | false =>
    have HO := Lib.hid (cellB_no h x y)
    have HI := Lib.hid h
    clear h
    rw [HO.out]
    go_enter Tryz.func154, Tryz.ntmps154
    go_wp2_with fail
    refine (sIsReg B n cap a W l _ hn (H.out.on (hb0.mono hB)) (Nat.le_trans hB hb0.size)).mono ?_
    rintro e w' ⟨rfl, hb⟩
    rw [HI.out]
    go_wp2
    go_ret
    exact ⟨rfl, hb0.trans (hb.mono hb0.size)⟩
  | true =>
    obtain ⟨N, rfl, hr⟩ := isReg_out h
    have hln := HLN.out
    rw [hln] at hr
    have HR := Lib.hid hr
    have HI := Lib.hid h
    have HO := Lib.hid (cellB_yes h x y)
    rw [HO.out]
    clear h hr hln
    go_enter Tryz.func154, Tryz.ntmps154
    go_wp2_with fail
    refine (sIsReg B n cap a N l _ hn (H.out.on (hb0.mono hB)) (Nat.le_trans hB hb0.size)).mono ?_
    rintro e w2 ⟨rfl, hb⟩
    rw [HI.out]
    have hx := hbox.on hb hbox.lt
    have c0 := hx.c0
    have c1 := hx.c1
    have HB := Lib.hid (hb0.trans (hb.mono hb0.size))
    clear hb hb0
    go_wp2_with fail
    refine (sL6In B n cap N a l x y w2 HR.out (H.out.on (HB.out.mono hB)) (Nat.le_trans hB HB.out.size)).mono ?_
    rintro e w3 ⟨rfl, hb3⟩
    go_wp2
    go_ret
    exact ⟨rfl, HB.out.trans (hb3.mono HB.out.size)⟩
end

section
open Go.RowKit

theorem i64_or_top (k a b : Nat) (ha : a < 2 ^ k) (ha2 : a < 9223372036854775808) (hb : b * 2 ^ k < 9223372036854775808) : bits .or .i64 (a : Int) ((b * 2 ^ k : Nat) : Int) = ((a + b * 2 ^ k : Nat) : Int) := by
  rw [i64_or_nat _ _ ha2 hb]
  congr 1
  rw [Nat.or_comm, Nat.add_comm, Nat.mul_comm]
  exact (Nat.two_pow_add_eq_or_of_lt ha b).symm
/-- A row of a region at its place of the mask. -/
theorem Rg.row_lt {W H : Nat} {l : List Int} (h : Rg W H l) {y : Nat} (hy : y < H) : rN l y * 2 ^ (y * W) < 68719476736 ∧ y * W ≤ 36 := by
  have h1 := h.mk_lt (y + 1) (by omega)
  have h2 := pow36 h.w6 h.h6 (show y + 1 ≤ H by omega)
  rw [mkTo] at h1
  have h3 : y * W ≤ 6 * 6 := Nat.mul_le_mul (by have := h.h6; omega) h.w6
  omega

set_option maxHeartbeats 4000000 in
set_option maxRecDepth 100000 in
theorem sMask (B n cap : Nat) (a : Option Addr) (W : Int) (l : List Int) (w : World) (hn : n ≤ 4194304) (hc : IntsAt B w a n l) (hB : B ≤ w.heap.size) :
    Calls Tryz.prog 63 #[.agg #[.int .i64 W, .slice a n cap]] w fun e w' => e = .returned (.int .i64 (maskR W l : Nat)) ∧ Below w.heap.size w w' := by
  have H := Lib.hid hc
  have HLN := Lib.hid hc.1
  clear hc
  have hb0 := (Below.refl w.heap.size w).alloc (Nat.le_refl _) (.cells #[.int .i64 W, .slice a n cap] 26)
  have hbox0 := RgAt.new (w := w) W (.slice a n cap) rfl
  have hsz0 : (w.alloc (.cells #[.int .i64 W, .slice a n cap] 26)).heap.size = w.heap.size + 1 := by simp
  cases h : isReg W l with
  | false =>
    have HI := Lib.hid h
    have HO := Lib.hid (maskR_no h)
    clear h
    by_cases h0 : 0 < (n : Int)
    · go_enter Tryz.func63, Tryz.ntmps63
      go_wp2
      refine wp_loop_rounds 1 ?_
      rw [rounds_succ]
      generalize (w.alloc (.cells #[.int .i64 W, .slice a n cap] 26)) = W1 at *
      have c0 := hbox0.c0
      have c1 := hbox0.c1
      have HB := Lib.hid hb0
      clear hb0 hbox0 hsz0
      go_wp2_with fail
      refine (sIsReg B n cap a W l _ hn (H.out.on (HB.out.mono hB)) (Nat.le_trans hB HB.out.size)).mono ?_
      rintro e w' ⟨rfl, hb⟩
      rw [HI.out]
      have HB2 := Lib.hid (HB.out.trans (hb.mono HB.out.size))
      clear hb
      go_wp2
      go_ret
      exact ⟨by rw [HO.out]; rfl, HB2.out⟩
    · go_enter Tryz.func63, Tryz.ntmps63
      go_wp2
      refine wp_loop_rounds 1 ?_
      rw [rounds_succ]
      generalize (w.alloc (.cells #[.int .i64 W, .slice a n cap] 26)) = W1 at *
      have c0 := hbox0.c0
      have c1 := hbox0.c1
      have HB := Lib.hid hb0
      clear hb0 hbox0 hsz0
      go_wp2
      go_ret
      exact ⟨by rw [HO.out]; rfl, HB.out⟩
  | true =>
    obtain ⟨N, rfl, hr⟩ := isReg_out h
    have hln := HLN.out
    rw [hln] at hr
    have HR := Lib.hid hr
    have HI := Lib.hid h
    have HO := Lib.hid (maskR_yes hr)
    have hN6 := hr.w6
    have hn6 := hr.h6
    clear h hr hln
    go_enter Tryz.func63, Tryz.ntmps63
    go_wp2
    generalize (w.alloc (.cells #[.int .i64 N, .slice a n cap] 26)) = W1 at *
    have HB := Lib.hid hb0
    clear hb0
    go_loopw [3, 4] (fun v i wr => ∃ y m : Nat, y ≤ n ∧ i = .int .i64 y ∧ v = .int .i64 m ∧ Hid (m = mkTo N l y) ∧ Below (w.heap.size + 1) W1 wr) (fun _ i _ => n - (intOf i).toNat)
    case atStart => exact ⟨0, 0, by omega, rfl, rfl, rfl, Below.refl _ _⟩
    case round =>
      obtain ⟨y, m, hy, rfl, rfl, hmm, hb⟩ := hrel
      have hsz := hb.size
      have hbx := hbox0.on hb (by omega)
      have c0 := hbx.c0
      have c1 := hbx.c1
      have hbw := HB.out.trans (hb.mono (by omega))
      by_cases hlt : y < n
      · have hy1 : (y : Int) < (n : Int) := by omega
        have hy0 : (0 : Int) ≤ (y : Int) := by omega
        go_wp2_with fail
        refine (sIsReg B n cap a N l wr hn (H.out.on (hbw.mono hB)) (Nat.le_trans hB hbw.size)).mono ?_
        rintro e w2 ⟨rfl, hb2⟩
        rw [HI.out]
        have hb2' := hb.trans (hb2.mono (by omega))
        have hsz2 := hb2'.size
        have hbw2 := HB.out.trans (hb2'.mono (by omega))
        obtain ⟨b, off, rfl, hbB, hcell⟩ := H.out.2.2 (by omega)
        have p1 := (hbw2.cell (p := ⟨b, off + y, none⟩) (Nat.lt_of_lt_of_le hbB hB)).trans (hcell y hlt)
        rw [(HR.out.nat hlt).1] at p1
        clear hb hb2 hbx c0 c1 hbw hsz hcell
        have hbx := hbox0.on hb2' (by omega)
        have c0 := hbx.c0
        have c1 := hbx.c1
        have hm1 := HR.out.mk_lt y (by omega)
        have hm2 := pow36 HR.out.w6 HR.out.h6 (show y ≤ n by omega)
        rw [← hmm.out] at hm1
        have hrow := HR.out.row_lt hlt
        have HST := Lib.hid (show mkTo N l (y + 1) = mkTo N l y + rN l y * 2 ^ (y * N) from rfl)
        obtain ⟨s, hs⟩ : ∃ s : Nat, y * N = s := ⟨_, rfl⟩
        obtain ⟨t, ht⟩ : ∃ t : Nat, rN l y * 2 ^ s = t := ⟨_, rfl⟩
        obtain ⟨z, hz⟩ : ∃ z : Nat, rN l y = z := ⟨_, rfl⟩
        rw [hs, ht] at hrow
        rw [hs, ht] at HST
        rw [hz] at p1 ht
        rw [hs] at hm1 hm2
        have hmul : (y : Int) * (N : Int) = (s : Int) := by rw [← hs]; simp
        have hshl : (z : Int) * (2 : Int) ^ s = (t : Int) := by rw [← ht]; simp
        have hmb : m < 68719476736 := by omega
        have HN := Lib.hid (show m + t = mkTo N l (y + 1) by rw [HST.out, ← hmm.out])
        clear hm1 hm2 hs ht hz HST
        go_wp2_with fail
        go_quiet (fail)
        go_wp2
        go_roundw
        case rel => exact ⟨y + 1, m + t, by omega, by go_num, by go_num, HN.out, below_drewn hb2' _⟩
        case measure => simp [intOf]; omega
      · obtain rfl : y = n := by omega
        go_wp2
        go_ret
        exact ⟨by rw [HO.out, ← hmm.out]; rfl, hbw⟩

set_option maxHeartbeats 4000000 in
set_option maxRecDepth 100000 in
theorem iMask (B n cap : Nat) (a : Option Addr) (W : Int) (l : List Int) (w : World) (hn : n ≤ 4194304) (hc : IntsAt B w a n l) (hB : B ≤ w.heap.size) :
    Calls Tryz.prog 57 #[.agg #[.int .i64 W, .slice a n cap]] w fun e w' => e = .returned (.int .i64 (maskR W l : Nat)) ∧ Below w.heap.size w w' := by
  have H := Lib.hid hc
  have HLN := Lib.hid hc.1
  clear hc
  have hb0 := (Below.refl w.heap.size w).alloc (Nat.le_refl _) (.cells #[.int .i64 W, .slice a n cap] 26)
  have hbox0 := RgAt.new (w := w) W (.slice a n cap) rfl
  have hsz0 : (w.alloc (.cells #[.int .i64 W, .slice a n cap] 26)).heap.size = w.heap.size + 1 := by simp
  cases h : isReg W l with
  | false =>
    have HI := Lib.hid h
    have HO := Lib.hid (maskR_no h)
    clear h
    go_enter Tryz.func57, Tryz.ntmps57
    go_wp2_with fail
    refine (iIsReg B n cap a W l _ hn (H.out.on (hb0.mono hB)) (Nat.le_trans hB hb0.size)).mono ?_
    rintro e w' ⟨rfl, hb⟩
    rw [HI.out]
    go_wp2
    go_ret
    exact ⟨by rw [HO.out]; rfl, hb0.trans (hb.mono hb0.size)⟩
  | true =>
    obtain ⟨N, rfl, hr⟩ := isReg_out h
    have hln := HLN.out
    rw [hln] at hr
    have HR := Lib.hid hr
    have HI := Lib.hid h
    have HO := Lib.hid (maskR_yes hr)
    have hN6 := hr.w6
    have hn6 := hr.h6
    clear h hr hln
    go_enter Tryz.func57, Tryz.ntmps57
    go_wp2_with fail
    refine (iIsReg B n cap a N l _ hn (H.out.on (hb0.mono hB)) (Nat.le_trans hB hb0.size)).mono ?_
    rintro e W1 ⟨rfl, hb⟩
    rw [HI.out]
    have HB := Lib.hid (hb0.trans (hb.mono hb0.size))
    have hbox := hbox0.on hb hbox0.lt
    have hsz1 := hb.size
    rw [hsz0] at hsz1
    have c1 := hbox.c1
    clear hb hb0 hbox0 hsz0
    go_wp2
    clear c1
    go_loopw [3, 12] (fun v i wr => ∃ y m : Nat, y ≤ n ∧ i = .int .i64 y ∧ v = .int .i64 m ∧ Hid (m = mkTo N l y) ∧ Below (w.heap.size + 1) W1 wr) (fun _ i _ => n - (intOf i).toNat)
    case atStart => exact ⟨0, 0, by omega, rfl, rfl, rfl, Below.refl _ _⟩
    case round =>
      obtain ⟨y, m, hy, rfl, rfl, hmm, hb⟩ := hrel
      have hsz := hb.size
      have hbx := hbox.on hb (by omega)
      have c0 := hbx.c0
      have c1 := hbx.c1
      have hbw := HB.out.trans (hb.mono (by omega))
      by_cases hlt : y < n
      · have hy1 : (y : Int) < (n : Int) := by omega
        have hy0 : (0 : Int) ≤ (y : Int) := by omega
        obtain ⟨b, off, rfl, hbB, hcell⟩ := H.out.2.2 (by omega)
        have p1 := (hbw.cell (p := ⟨b, off + y, none⟩) (Nat.lt_of_lt_of_le hbB hB)).trans (hcell y hlt)
        rw [(HR.out.nat hlt).1] at p1
        have hm1 := HR.out.mk_lt y (by omega)
        have hm2 := pow36 HR.out.w6 HR.out.h6 (show y ≤ n by omega)
        rw [← hmm.out] at hm1
        have hrow := HR.out.row_lt hlt
        have HST := Lib.hid (show mkTo N l (y + 1) = mkTo N l y + rN l y * 2 ^ (y * N) from rfl)
        obtain ⟨s, hs⟩ : ∃ s : Nat, y * N = s := ⟨_, rfl⟩
        obtain ⟨t, ht⟩ : ∃ t : Nat, rN l y * 2 ^ s = t := ⟨_, rfl⟩
        obtain ⟨z, hz⟩ : ∃ z : Nat, rN l y = z := ⟨_, rfl⟩
        rw [hs, ht] at hrow
        rw [hs, ht] at HST
        rw [hz] at p1 ht
        rw [hs] at hm1 hm2
        have hmul : (y : Int) * (N : Int) = (s : Int) := by rw [← hs]; simp
        have hshl : (z : Int) * (2 : Int) ^ s = (t : Int) := by rw [← ht]; simp
        have hor : bits .or .i64 (m : Int) (t : Int) = ((m + t : Nat) : Int) := by
          have := i64_or_top s m z hm1 (by omega) (by rw [ht]; omega)
          rw [ht] at this
          exact this
        have HN := Lib.hid (show m + t = mkTo N l (y + 1) by rw [HST.out, ← hmm.out])
        have hmb : m < 68719476736 := by omega
        have hmt : m + t < 137438953472 := by omega
        clear hm1 hm2 hs ht hz HST hcell
        generalize m + t = u at *
        go_wp2
        go_roundw
        case rel => exact ⟨y + 1, u, by omega, by go_num, rfl, HN.out, hb⟩
        case measure => simp [intOf]; omega
      · obtain rfl : y = n := by omega
        go_wp2
        go_ret
        exact ⟨by rw [HO.out, ← hmm.out]; rfl, hbw⟩

set_option maxHeartbeats 1000000 in
theorem iBitOf (x y N b : Nat) (w : World) (h : y * N + x = b) (hb : b ≤ 50) (hx : x ≤ 8) (hy : y ≤ 8) (hN : N ≤ 6) :
    Calls Tryz.prog 73 #[.agg #[.int .i64 x, .int .i64 y], .int .i64 N] w fun e w' => e = .returned (.int .i64 (2 ^ b : Nat)) ∧ Below w.heap.size w w' := by
  have h1 : (2 : Nat) ^ b ≤ 2 ^ 50 := Nat.pow_le_pow_right (by omega) hb
  obtain ⟨m, hm, e⟩ := pw_nat b
  rw [hm] at h1
  obtain ⟨s, hs⟩ : ∃ s : Nat, y * N = s := ⟨_, rfl⟩
  have hmul : (y : Int) * (N : Int) = (s : Int) := by rw [← hs]; simp
  rw [hs] at h
  have hadd : (s : Int) + (x : Int) = (b : Int) := by omega
  rw [hm]
  clear hm hs
  go_enter Tryz.func73, Tryz.ntmps73
  go_wp2
  go_ret
  exact ⟨rfl, (Below.refl _ _).alloc (Nat.le_refl _) _⟩
end

end Go.Proofs.YtkjlmgkjcmebbaaGreatDoor
