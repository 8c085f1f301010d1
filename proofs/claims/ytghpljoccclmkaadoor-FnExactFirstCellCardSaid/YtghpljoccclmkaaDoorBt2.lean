/-
  Whether a number is a mask of cells of a region, in the program; the cells of a mask: what is known of them.
-/
import Derived.Test.YtghpljoccclmkaaDoorSm1
import Derived.Test.YtghpljoccclmkaaDoorBt1
namespace Go.Proofs.YtghpljoccclmkaaDoor
open Go.RowKit

theorem andN_zeroB {m k : Nat} (hm : m < 9223372036854775808) (hk : k < 9223372036854775808) : (bits .andNot .i64 (m : Int) (k : Int) == 0) = decide (m &&& k = m) := by
  have h1 : (BitVec.ofInt 64 (m : Int)).toNat = m := ofInt_i64 m hm
  have h2 : (BitVec.ofInt 64 (k : Int)).toNat = k := ofInt_i64 k hk
  have hx : (BitVec.ofInt 64 (m : Int) &&& ~~~(BitVec.ofInt 64 (k : Int))).toNat ≤ m := by
    rw [BitVec.toNat_and, h1]
    exact Nat.and_le_left
  have key : (BitVec.ofInt 64 (m : Int) &&& ~~~(BitVec.ofInt 64 (k : Int))).toNat = 0 ↔ m &&& k = m := by
    constructor
    · intro h
      apply Nat.eq_of_testBit_eq
      intro i
      rw [Nat.testBit_and]
      cases hb : m.testBit i with
      | false => rfl
      | true =>
        have hi : i < 64 := by
          apply Nat.lt_of_not_le
          intro hle
          have : m < 2 ^ i := Nat.lt_of_lt_of_le hm (Nat.le_trans (by decide : 9223372036854775808 ≤ 2 ^ 64) (Nat.pow_le_pow_right (by omega) hle))
          rw [Nat.testBit_lt_two_pow this] at hb
          cases hb
        have h3 : (BitVec.ofInt 64 (m : Int) &&& ~~~(BitVec.ofInt 64 (k : Int))).toNat.testBit i = false := by rw [h]; exact Nat.zero_testBit i
        rw [← BitVec.getLsbD, BitVec.getLsbD_and, BitVec.getLsbD_not] at h3
        have h4 : (BitVec.ofInt 64 (m : Int)).getLsbD i = true := by rw [BitVec.getLsbD, h1]; exact hb
        have h5 : (BitVec.ofInt 64 (k : Int)).getLsbD i = k.testBit i := by rw [BitVec.getLsbD, h2]
        rw [h4, h5] at h3
        simpa [hi] using h3
    · intro h
      apply Nat.eq_of_testBit_eq
      intro i
      rw [Nat.zero_testBit, ← BitVec.getLsbD, BitVec.getLsbD_and, BitVec.getLsbD_not]
      have h4 : (BitVec.ofInt 64 (m : Int)).getLsbD i = m.testBit i := by rw [BitVec.getLsbD, h1]
      have h5 : (BitVec.ofInt 64 (k : Int)).getLsbD i = k.testBit i := by rw [BitVec.getLsbD, h2]
      rw [h4, h5, ← h, Nat.testBit_and]
      cases m.testBit i <;> cases k.testBit i <;> simp
  have e : bits .andNot .i64 (m : Int) (k : Int) = (((BitVec.ofInt 64 (m : Int) &&& ~~~(BitVec.ofInt 64 (k : Int))).toNat : Nat) : Int) := by
    show IntKind.i64.wrap ((BitVec.ofInt 64 (m : Int) &&& ~~~(BitVec.ofInt 64 (k : Int))).toNat : Int) = _
    rw [IntKind.wrap_i64]
    omega
  rw [e]
  by_cases h : m &&& k = m
  · rw [key.2 h]
    simp [h]
  · have : ¬ (BitVec.ofInt 64 (m : Int) &&& ~~~(BitVec.ofInt 64 (k : Int))).toNat = 0 := fun h9 => h (key.1 h9)
    generalize (BitVec.ofInt 64 (m : Int) &&& ~~~(BitVec.ofInt 64 (k : Int))).toNat = z at this
    have h9 : ((z : Int) == 0) = false := by simpa using this
    rw [h9]
    simp [h]
theorem andN_neg {m : Int} {k : Nat} (h1 : -9223372036854775808 ≤ m) (h2 : m < 0) (hk : k < 9223372036854775808) : (bits .andNot .i64 m (k : Int) == 0) = false := by
  have h4 : (BitVec.ofInt 64 m).getLsbD 63 = true := by
    rw [BitVec.getLsbD, BitVec.toNat_ofInt, Nat.testBit_eq_decide_div_mod_eq, decide_eq_true_eq]
    omega
  have h5 : (BitVec.ofInt 64 (k : Int)).getLsbD 63 = false := by
    rw [BitVec.getLsbD, ofInt_i64 k hk]
    exact Nat.testBit_lt_two_pow (by omega)
  have h6 : (BitVec.ofInt 64 m &&& ~~~(BitVec.ofInt 64 (k : Int))).toNat.testBit 63 = true := by
    rw [← BitVec.getLsbD, BitVec.getLsbD_and, BitVec.getLsbD_not, h4, h5]
    rfl
  have h7 := Nat.ge_two_pow_of_testBit h6
  have h8 := (BitVec.ofInt 64 m &&& ~~~(BitVec.ofInt 64 (k : Int))).isLt
  have e : bits .andNot .i64 m (k : Int) = IntKind.i64.wrap ((BitVec.ofInt 64 m &&& ~~~(BitVec.ofInt 64 (k : Int))).toNat : Int) := rfl
  rw [e, IntKind.wrap_i64]
  generalize (BitVec.ofInt 64 m &&& ~~~(BitVec.ofInt 64 (k : Int))).toNat = z at h7 h8
  have h9 : ¬ ((((z : Int) + 9223372036854775808) % 18446744073709551616 - 9223372036854775808) = 0) := by omega
  simpa using h9
theorem okM_and {W : Int} {l : List Int} {m : Int} (hr : isReg W l = true) (h1 : -9223372036854775808 ≤ m) (h2 : m ≤ 9223372036854775807) : (bits .andNot .i64 m ((maskR W l : Nat) : Int) == 0) = okM W l m := by
  have hk := maskR_lt W l
  by_cases h0 : 0 ≤ m
  · obtain ⟨n, rfl⟩ := Int.eq_ofNat_of_zero_le h0
    rw [okM_nat hr]
    exact andN_zeroB (by omega) (by omega)
  · rw [andN_neg h1 (by omega) (by omega), okM_neg h0]
theorem okM_reg {W : Int} {l : List Int} {m : Int} (h : okM W l m = true) : ∃ (N H k : Nat), W = N ∧ m = k ∧ Rg N H l := by
  unfold okM at h
  simp only [Bool.and_eq_true, decide_eq_true_eq] at h
  obtain ⟨N, rfl, hr⟩ := isReg_out h.1
  exact ⟨N, _, m.toNat, rfl, by omega, hr⟩
theorem cellsM_out {W : Int} {l : List Int} {m : Int} {c : Cl} (hc : c ∈ cellsM W l m) : ∃ N : Nat, W = N ∧ inG N l.length c ∧ N ≤ 6 ∧ l.length ≤ 6 := by
  cases h : okM W l m with
  | false => rw [cellsM_no h] at hc; cases hc
  | true =>
    obtain ⟨N, H, k, rfl, rfl, hr⟩ := okM_reg h
    rw [cellsM_yes hr h] at hc
    unfold mcells at hc
    obtain ⟨i, hi, rfl⟩ := List.mem_map.1 hc
    have hlt := List.mem_range.1 (List.mem_filter.1 hi).1
    have e := hr.len
    exact ⟨N, rfl, by rw [e]; exact cAt_in hr.w0 hlt, hr.w6, by rw [e]; exact hr.h6⟩
theorem cellsM_inC (W : Int) (l : List Int) (m : Int) : ∀ c ∈ cellsM W l m, InC c := by
  intro c hc
  obtain ⟨N, _, ⟨⟨h1, h2⟩, h3, h4⟩, h5, h6⟩ := cellsM_out hc
  unfold InC
  have h7 : (N : Int) ≤ 6 := by omega
  have h8 : (l.length : Int) ≤ 6 := by omega
  omega
theorem cellsM_len (W : Int) (l : List Int) (m : Int) : (cellsM W l m).length ≤ 36 := by
  cases h : okM W l m with
  | false => rw [cellsM_no h]; simp
  | true =>
    obtain ⟨N, H, k, rfl, rfl, hr⟩ := okM_reg h
    rw [cellsM_yes hr h]
    exact Nat.le_trans (mcells_len _ _ _) (Nat.mul_le_mul hr.w6 hr.h6)

theorem own_base {w : World} {B B' : Nat} {e : TypeId} {size : Nat} {v : Value} {n : Nat} {xs : List Value} (h : w.ownsRow B' e size v n xs) (hB : B ≤ B') : w.ownsRow B e size v n xs := by
  rcases h.2 with h2 | ⟨g, cap, cur, rfl, hb, hr⟩
  · exact ⟨h.1, .inl h2⟩
  · exact ⟨h.1, .inr ⟨g, cap, cur, rfl, Nat.le_trans hB hb, hr⟩⟩
/-- Cells of the call's own. -/
def GivesVC (w : World) (L : List Cl) (e : Ending) (w' : World) : Prop := ∃ v, e = .returned v ∧ w'.ownsRow w.heap.size 41 2 v L.length (cvs L) ∧ Below w.heap.size w w'

set_option maxHeartbeats 4000000 in
set_option maxRecDepth 100000 in
theorem iIsMask (B n cap : Nat) (a : Option Addr) (W : Int) (l : List Int) (m : Int) (w : World) (h1 : -9223372036854775808 ≤ m) (h2 : m ≤ 9223372036854775807) (hn : n ≤ 4194304) (hc : IntsAt B w a n l) (hB : B ≤ w.heap.size) :
    Calls Tryd.prog 20 #[.agg #[.int .i64 W, .slice a n cap], .int .i64 m] w fun e w' => e = .returned (.bool (okM W l m)) ∧ Below w.heap.size w w' := by
  have H := Lib.hid hc
  clear hc
  have hb0 := (Below.refl w.heap.size w).alloc (Nat.le_refl _) (.cells #[.int .i64 W, .slice a n cap] 28)
  have hbox0 := RgAt.new (w := w) W (.slice a n cap) rfl
  cases h : isReg W l with
  | false =>
    have HO := Lib.hid (okM_no h m)
    have HI := Lib.hid h
    clear h
    go_enter Tryd.func20, Tryd.ntmps20
    go_wp2_with fail
    refine (iIsReg B n cap a W l _ hn (H.out.on (hb0.mono hB)) (Nat.le_trans hB hb0.size)).mono ?_
    rintro e w' ⟨rfl, hb⟩
    rw [HI.out]
    go_wp2
    go_ret
    exact ⟨by rw [HO.out]; rfl, hb0.trans (hb.mono hb0.size)⟩
  | true =>
    have HO := Lib.hid (okM_and h h1 h2)
    have HI := Lib.hid h
    clear h
    go_enter Tryd.func20, Tryd.ntmps20
    go_wp2_with fail
    refine (iIsReg B n cap a W l _ hn (H.out.on (hb0.mono hB)) (Nat.le_trans hB hb0.size)).mono ?_
    rintro e w2 ⟨rfl, hb⟩
    rw [HI.out]
    have hbx := hbox0.on hb hbox0.lt
    have hb2 := hb0.trans (hb.mono hb0.size)
    have c0 := hbx.c0
    have c1 := hbx.c1
    clear hb hb0 hbox0
    go_wp2_with fail
    refine (iMask B n cap a W l w2 hn (H.out.on (hb2.mono hB)) (Nat.le_trans hB hb2.size)).mono ?_
    rintro e w3 ⟨rfl, hb3⟩
    have ho := HO.out
    clear HO
    go_wp2
    go_ret
    exact ⟨by first | rfl | (rw [ho]; rfl) | simp, hb2.trans (hb3.mono hb2.size)⟩

end Go.Proofs.YtghpljoccclmkaaDoor
