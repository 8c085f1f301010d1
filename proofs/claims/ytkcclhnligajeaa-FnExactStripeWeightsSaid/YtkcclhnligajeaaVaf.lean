/-
  Is it a prime, are numbers in range, how many places: in the program and in the model: what each call gives.
  The mask of a region: in the model and in the program: what each call gives.
  The mask of some cells: in the model and in the program: what each call gives.
  The least place, is a mask among some, counts without lists: in the model: what each call gives.
  Products and bits within bounds: small facts that both sides share.
  Are these weights, the sum of weights: in the model: what each call gives.
-/
import Derived.Test.YtkcclhnligajeaaRga
import Derived.Test.YtkcclhnligajeaaSr1
import Derived.Test.YtkcclhnligajeaaPw7
import Derived.BigQuiet
import Derived.Test.YtkcclhnligajeaaPm1
import Derived.Lib.QuietBelow
import Derived.Test.YtkcclhnligajeaaVae
namespace Go.Proofs.Ytkcclhnligajeaa

section
open Go.RowKit

set_option maxHeartbeats 1000000 in
theorem iPrm (p : Int) (w : World) : Calls Try.prog 6 #[.int .i64 p] w fun e w' => e = .returned (.bool (prmB p)) ∧ w' = w := by
  by_cases h2 : p = 2
  · subst h2
    go_enter Try.func6, Try.ntmps6
    go_wp2
    go_ret
    exact ⟨rfl, rfl⟩
  · by_cases h3 : p = 3
    · subst h3
      go_enter Try.func6, Try.ntmps6
      go_wp2
      go_ret
      exact ⟨rfl, rfl⟩
    · have e2 : (p == 2) = false := by simpa using h2
      have e3 : (p == 3) = false := by simpa using h3
      have HP := Lib.hid (show prmB p = (p == 5) from by unfold prmB; rw [e2, e3]; rfl)
      rw [HP.out]
      go_enter Try.func6, Try.ntmps6
      go_wp2
      go_ret
      exact ⟨rfl, rfl⟩
set_option maxHeartbeats 1000000 in
theorem sPrm (p : Int) (w : World) : Calls Try.prog 5 #[.int .i64 p] w fun e w' => e = .returned (.bool (prmB p)) ∧ w' = w := by
  by_cases h2 : p = 2
  · subst h2
    go_enter Try.func5, Try.ntmps5
    go_wp2
    go_ret
    exact ⟨rfl, rfl⟩
  · by_cases h3 : p = 3
    · subst h3
      go_enter Try.func5, Try.ntmps5
      go_wp2
      go_ret
      exact ⟨rfl, rfl⟩
    · have e2 : (p == 2) = false := by simpa using h2
      have e3 : (p == 3) = false := by simpa using h3
      have HP := Lib.hid (show prmB p = (p == 5) from by unfold prmB; rw [e2, e3]; rfl)
      rw [HP.out]
      go_enter Try.func5, Try.ntmps5
      go_wp2
      go_ret
      exact ⟨rfl, rfl⟩

/-! ### Numbers in range -/
def inZ (p z : Int) : Bool := decide (0 ≤ z) && decide (z < p)
set_option maxHeartbeats 1000000 in
theorem iLacks (p z : Int) (w : World) : Calls Try.prog 25 #[.int .i64 p, .int .i64 z] w fun e w' => e = .returned (.bool (!inZ p z)) ∧ w' = w := by
  by_cases h : z < 0
  · have HP := Lib.hid (show inZ p z = false from by unfold inZ; rw [decide_eq_false (by omega)]; rfl)
    rw [HP.out]
    go_enter Try.func25, Try.ntmps25
    go_wp2
    go_ret
    exact ⟨rfl, rfl⟩
  · by_cases h2 : p ≤ z
    · have HP := Lib.hid (show inZ p z = false from by unfold inZ; rw [decide_eq_false (show ¬ z < p by omega), Bool.and_false])
      rw [HP.out]
      go_enter Try.func25, Try.ntmps25
      go_wp2
      go_ret
      refine ⟨?_, rfl⟩
      simp
    · have HP := Lib.hid (show inZ p z = true from by unfold inZ; rw [decide_eq_true (show 0 ≤ z by omega), decide_eq_true (show z < p by omega)]; rfl)
      rw [HP.out]
      go_enter Try.func25, Try.ntmps25
      go_wp2
      go_ret
      refine ⟨?_, rfl⟩
      simp

set_option maxHeartbeats 1000000 in
set_option maxRecDepth 100000 in
theorem iIdxLk (B n cap : Nat) (a : Option Addr) (ws : List Int) (p : Int) (w : World) (hn : n ≤ 4194304) (hc : IntsAt B w a n ws) (hB : B ≤ w.heap.size) :
    Calls Try.prog 26 #[.slice a n cap, .func (.func 25) #[.int .i64 p] #[]] w fun e w' => ∃ r : Int, e = .returned (.int .i64 r) ∧ decide (0 ≤ r) = (!inTo p ws n) ∧ Below w.heap.size w w' := by
  have H := Lib.hid hc
  clear hc
  go_enter Try.func26, Try.ntmps26
  go_wp2
  go_loopw [8] (fun i wr => ∃ k : Nat, k ≤ n ∧ i = .int .i64 k ∧ Hid (inTo p ws k = true) ∧ Below w.heap.size w wr) (fun i _ => n - (intOf i).toNat)
  case atStart => exact ⟨0, by omega, rfl, by simp [Hid, inTo, allN], Below.refl _ _⟩
  case round =>
    obtain ⟨k, hk, rfl, ho, hb⟩ := hrel
    by_cases hlt : k < n
    · have hk1 : (k : Int) < (n : Int) := by omega
      have hk0 : (0 : Int) ≤ (k : Int) := by omega
      obtain ⟨b, off, rfl, hbB, hcell⟩ := H.out.2.2 (by omega)
      have p1 := (hb.cell (p := ⟨b, off + k, none⟩) (Nat.lt_of_lt_of_le hbB hB)).trans (hcell k hlt)
      have HS := Lib.hid (inTo_step p ws k)
      have HF := Lib.hid (fun h => inTo_bad (p := p) (ws := ws) (k := k) (n := n) h (by omega))
      obtain ⟨q, hq⟩ : ∃ q, ws.getD k 0 = q := ⟨_, rfl⟩
      rw [hq] at p1 HS HF
      clear hcell hq
      go_wp2_with fail
      refine (iLacks p q wr).mono ?_
      rintro e w2 ⟨rfl, rfl⟩
      cases hs : inZ p q with
      | false =>
        have HN := Lib.hid (HF.out (fun h9 => by unfold inZ at hs; rw [decide_eq_true h9.1, decide_eq_true h9.2] at hs; cases hs))
        clear hs
        go_wp2
        go_ret
        exact ⟨_, rfl, by rw [HN.out]; simp, hb⟩
      | true =>
        have HN := Lib.hid (show inTo p ws (k + 1) = true from by rw [HS.out, ho.out]; exact hs)
        clear hs
        go_wp2
        go_roundw
        case rel => exact ⟨k + 1, by omega, by go_num, HN.out, hb⟩
        case measure => simp [intOf]; omega
    · obtain rfl : k = n := by omega
      go_wp2
      go_ret
      exact ⟨_, rfl, by rw [ho.out]; rfl, hb⟩

set_option maxHeartbeats 1000000 in
theorem iHasAll (B n cap : Nat) (a : Option Addr) (ws : List Int) (p : Int) (w : World) (hn : n ≤ 4194304) (hc : IntsAt B w a n ws) (hB : B ≤ w.heap.size) :
    Calls Try.prog 21 #[.int .i64 p, .slice a n cap] w fun e w' => e = .returned (.bool (inPW p ws)) ∧ Below w.heap.size w w' := by
  have H := Lib.hid hc
  have HL := Lib.hid (show inPW p ws = inTo p ws n from by unfold inPW; rw [hc.1])
  clear hc
  rw [HL.out]
  go_enter Try.func21, Try.ntmps21
  go_wp2_with (first | (go_at_call 24; go_in))
  refine (iIdxLk B n cap a ws p w hn H.out hB).mono ?_
  rintro e w1 ⟨r, rfl, hr, hb1⟩
  have HR := Lib.hid hr
  clear hr
  go_wp2
  go_ret
  refine ⟨?_, hb1⟩
  have h9 := HR.out
  cases hi : inTo p ws n <;> rw [hi] at h9 <;> simp at h9 <;> simp [h9]
end

section
open Go.RowKit

theorem i64_or_top (k a b : Nat) (ha : a < 2 ^ k) (ha2 : a < 9223372036854775808) (hb : b * 2 ^ k < 9223372036854775808) : bits .or .i64 (a : Int) ((b * 2 ^ k : Nat) : Int) = ((a + b * 2 ^ k : Nat) : Int) := by
  rw [i64_or_nat _ _ ha2 hb]
  congr 1
  rw [Nat.or_comm, Nat.add_comm, Nat.mul_comm]
  exact (Nat.two_pow_add_eq_or_of_lt ha b).symm
/-- A row of a region at its place of the mask. -/
theorem Rg.row_lt {W H : Nat} {l : List Int} (h : Rg W H l) {y : Nat} (hy : y < H) : rN l y * 2 ^ (y * W) < 68719476736 ∧ y * W ≤ 36 := by
  have h1 := h.mk_lt (y + 1) (by omega)
  have h2 := pow36 h.w6 h.h6 (show y + 1 ≤ H by omega)
  rw [mkTo] at h1
  have h3 : y * W ≤ 6 * 6 := Nat.mul_le_mul (by have := h.h6; omega) h.w6
  omega
end

section
open Go.RowKit

theorem bit_val {m : Nat} (b : Nat) (hm : m < 9223372036854775808) : bits .and .i64 ((m / 2 ^ b : Nat) : Int) 1 = ((m.testBit b).toNat : Int) := by
  have h1 : m / 2 ^ b ≤ m := Nat.div_le_self _ _
  rw [show (1 : Int) = ((1 : Nat) : Int) from rfl, i64_and_nat _ _ (by omega) (by omega), Nat.and_one_is_mod, Nat.testBit_eq_decide_div_mod_eq]
  have := Nat.mod_two_eq_zero_or_one (m / 2 ^ b)
  rcases this with h | h <;> simp [h]
theorem and_bit {m b : Nat} (hm : m < 9223372036854775808) (hb : b ≤ 50) : bits .and .i64 (m : Int) ((2 ^ b : Nat) : Int) = ((if m.testBit b = true then 2 ^ b else 0 : Nat) : Int) := by
  have h1 : (2 : Nat) ^ b ≤ 2 ^ 50 := Nat.pow_le_pow_right (by omega) hb
  rw [i64_and_nat _ _ hm (by omega)]
  congr 1
  apply Nat.eq_of_testBit_eq
  intro i
  rw [Nat.testBit_and, Nat.testBit_two_pow]
  by_cases h : b = i
  · subst h
    cases hb : m.testBit b <;> simp
  · split <;> simp [h]
/-- A cell of a region: its place in the mask. -/
theorem Rg.place {W H : Nat} {l : List Int} (h : Rg W H l) {x y : Int} (hb : bt l (x, y) = true) : ∃ u v : Nat, x = u ∧ y = v ∧ u < W ∧ v < H ∧ u < 6 ∧ v < 6 ∧ bN W (x, y) = v * W + u ∧ v * W + u < 36 := by
  have hg := h.bt_in hb
  have hl := bN_lt hg
  obtain ⟨⟨h1, h2⟩, h3, h4⟩ := hg
  have hw := h.w6
  have hh := h.h6
  have hm := Nat.mul_le_mul hw hh
  dsimp only at *
  refine ⟨x.toNat, y.toNat, by omega, by omega, by omega, by omega, by omega, by omega, rfl, ?_⟩
  have : bN W (x, y) = y.toNat * W + x.toNat := rfl
  omega
end

section
open Go.RowKit
end

section
theorem mul_36 {N n : Nat} (h1 : N ≤ 6) (h2 : n ≤ 6) : (N : Int) * (n : Int) = ((N * n : Nat) : Int) ∧ 0 ≤ (N : Int) * (n : Int) ∧ (N : Int) * (n : Int) ≤ 36 := by
  have h3 := Nat.mul_le_mul h1 h2
  have h4 : (N : Int) * (n : Int) = ((N * n : Nat) : Int) := by push_cast; rfl
  rw [h4]
  omega
theorem shr_bitW (m j : Nat) (hm : m < 68719476736) : ∃ t : Nat, (m : Int) / (2 : Int) ^ j = (t : Int) ∧ t ≤ m ∧ bits .and .i64 (t : Int) 1 = (if m.testBit j = true then 1 else 0) := by
  refine ⟨m / 2 ^ j, by simp, Nat.div_le_self _ _, ?_⟩
  have h := bit_val (m := m) j (by omega)
  rw [h]
  cases m.testBit j <;> rfl
theorem own_form {w : World} {B size n : Nat} {t : TypeId} {v : Value} {xs : List Value} (h : w.ownsRow B t size v n xs) : ∃ a c, v = .slice a n c := by
  rcases h.2 with ⟨rfl, rfl⟩ | ⟨g, cap, cur, rfl, _⟩
  · exact ⟨_, _, rfl⟩
  · exact ⟨_, _, rfl⟩
theorem mul_56 {x : Int} {k : Nat} (hx : 0 ≤ x ∧ x < 5) (hk : k ≤ 36) : 0 ≤ x * (k : Int) ∧ x * (k : Int) ≤ 180 := by
  have h1 := Int.mul_nonneg hx.1 (show 0 ≤ (k : Int) by omega)
  have h2 : x * (k : Int) ≤ 5 * (k : Int) := Int.mul_le_mul_of_nonneg_right (by omega) (by omega)
  omega
end

section
open Go.RowKit

theorem inb_inZ (p z : Int) : inb z 0 (p - 1) = inZ p z := by
  unfold inb inZ
  congr 1
  rw [decide_eq_decide]
  omega
theorem inZ_iff (p z : Int) : inZ p z = true ↔ 0 ≤ z ∧ z < p := by unfold inZ; simp

theorem areW_len {W : Int} {l ws : List Int} {p : Int} (h : areW W l ws p = true) : ws.length ≤ 36 := by
  obtain ⟨h1, _, h3, _⟩ := areW_parts h
  obtain ⟨N, rfl, hr⟩ := isReg_out h1
  have := plcN_bd hr
  omega
theorem smN_yes {m : Nat} {ws : List Int} {k : Nat} (h : m.testBit k = true) : smN m ws (k + 1) = smN m ws k + ws.getD k 0 := by
  show smN m ws k + (if m.testBit k = true then ws.getD k 0 else 0) = _
  rw [if_pos h]
theorem smN_no {m : Nat} {ws : List Int} {k : Nat} (h : m.testBit k = false) : smN m ws (k + 1) = smN m ws k := by
  show smN m ws k + (if m.testBit k = true then ws.getD k 0 else 0) = _
  rw [h]
  simp
end

end Go.Proofs.Ytkcclhnligajeaa
