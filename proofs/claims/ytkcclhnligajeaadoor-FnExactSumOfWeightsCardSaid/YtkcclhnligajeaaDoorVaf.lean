/-
  The bits of a mask one by one: the library's count of trailing zeros, the iterator: what the calls give.
  Whether a number is a mask of cells of a region, in the program; the cells of a mask: what is known of them.
-/
import Derived.Test.YtkcclhnligajeaaDoorSr1
import Derived.Test.YtkcclhnligajeaaDoorPm1
import Derived.RangeFuncNested
import Derived.RangeFuncBound
import Derived.RangeFuncBox
import Derived.RangeFuncCalls
import Derived.RangeFuncLeaves
import Derived.Shelf.Abstract
import Derived.Shelf.RegionOpen
import Derived.WalkKit
import Derived.OwnWalkIn
import Derived.TacticsInMore
import Derived.LoopNIn
import Derived.LoopIn
import Derived.Maps.AppendAt
import Derived.Shelf.Spec.TrailingZeros
import Derived.Test.YtkcclhnligajeaaDoorSm1
namespace Go.Proofs.YtkcclhnligajeaaDoor

section
open Go.RowKit Go.Shelf

attribute [local go_sem] Oper.semAt_some

abbrev gDB : Nat := 1
/-- The library's table, where it lies. -/
def Tz (w : World) : Prop := TabAt gDB Lib.deBruijn64tab w ∧ gDB < w.heap.size
theorem Tz.on {B : Nat} {w w' : World} (h : Tz w) (hb : Below B w w') (hB : gDB < B) : Tz w' :=
  ⟨fun j hj => (hb.cell (p := ⟨gDB, j, none⟩) hB).trans (h.1 j hj), Nat.lt_of_lt_of_le h.2 hb.size⟩

set_option maxHeartbeats 1000000 in
set_option maxRecDepth 100000 in
theorem tz_core (x k idx : Nat) (w : World) (hx0 : ((x : Int) == 0) = false)
    (key : IntKind.u64.wrap (bits BinOp.and IntKind.u64 (x : Int) (IntKind.u64.wrap (-(x : Int))) * 285870213051353865) / 288230376151711744 = (idx : Int))
    (hi : idx < 64) (hk : k < 64) (hcell : w.cell? ⟨gDB, idx, none⟩ = some (.int .u8 k)) :
    Calls Tryd.prog 32 #[.int .u64 x] w fun e w' => e = .returned (.int .i64 k) ∧ w' = w := by
  go_enter Tryd.func32, Tryd.ntmps32
  go_wp2_with (simp only [key])
  go_ret
  exact ⟨rfl, rfl⟩
theorem iTz64 (x : Nat) (hx0 : x ≠ 0) (hx : x < 9223372036854775808) (w : World) (hT : Tz w) :
    Calls Tryd.prog 32 #[.int .u64 x] w fun e w' => e = .returned (.int .i64 (Lib.ctz 64 x : Nat)) ∧ w' = w := by
  obtain ⟨hlow, hk⟩ := Lib.lowest_bit 64 x hx0 (by omega)
  obtain ⟨hi, htab⟩ := Lib.deBruijn64_at _ hk
  have hcell := hT.1 _ hi
  rw [htab] at hcell
  exact tz_core x _ _ w (by simp; omega) (tz64_key x _ (by omega) hx0 hlow) hi hk hcell
theorem iTz (x : Nat) (hx0 : x ≠ 0) (hx : x < 9223372036854775808) (w : World) (hT : Tz w) :
    Calls Tryd.prog 26 #[.int .u64 x] w fun e w' => e = .returned (.int .i64 (Lib.ctz 64 x : Nat)) ∧ w' = w := by
  have hw : IntKind.u64.wrap (x : Int) = (x : Int) := by rw [IntKind.wrap_u64]; omega
  go_enter Tryd.func26, Tryd.ntmps26
  go_wp2_with fail
  refine (iTz64 x hx0 hx w hT).mono ?_
  rintro e w' ⟨rfl, rfl⟩
  go_wp2
  go_ret
  exact ⟨rfl, rfl⟩

/-- A number below 64: what a round is handed. -/
abbrev B64 := { x : Nat // x < 64 }
def of64 (x : Nat) : B64 := ⟨x % 64, Nat.mod_lt _ (by decide)⟩
def bitF (m : Nat) : List B64 := (bitL m).map of64
theorem of64_val {x : Nat} (h : x < 64) : (of64 x).1 = x := Nat.mod_eq_of_lt h
theorem bitL_lt {m x : Nat} (h : x ∈ bitL m) : x < 64 := by
  unfold bitL at h
  have := (List.mem_filter.1 h).1
  simpa using this
theorem bitF_val (m : Nat) : (bitF m).map (·.1) = bitL m := by
  unfold bitF
  rw [List.map_map]
  conv => rhs; rw [← List.map_id (bitL m)]
  apply List.map_congr_left
  intro x hx
  exact of64_val (bitL_lt hx)
theorem bitF_zero : bitF 0 = [] := by unfold bitF; rw [bitL_zero]; rfl
theorem bitF_cons {k : Nat} (h0 : k ≠ 0) (h : k < 9223372036854775808) : bitF k = of64 (Lib.ctz 64 k) :: bitF (k &&& (k - 1)) := by
  unfold bitF
  rw [bitL_cons h0 (by omega)]
  rfl
theorem bitF_len (m : Nat) : (bitF m).length ≤ 64 := by
  unfold bitF
  rw [List.length_map]
  unfold bitL
  have := List.length_filter_le m.testBit (List.range 64)
  simpa using this

theorem iBitsOf (m : Int) (w : World) :
    Calls Tryd.prog 16 #[.int .i64 m] w fun e w' => e = .returned (.func (.func 25) #[] #[.pointer (some ⟨w.heap.size, 0, none⟩)]) ∧ w' = w.alloc (.cells #[.int .i64 m] 3) := by
  go_enter Tryd.func16, Tryd.ntmps16
  go_wp2
  go_ret
  exact ⟨rfl, rfl⟩

set_option maxRecDepth 100000 in
set_option maxHeartbeats 1000000 in
theorem iBits1 (n : Nat) (hn : 1 ≤ n) (l Bn n₀ m : Nat) (hm : m < 9223372036854775808) (J Jx : List B64 → World → Prop)
    (hY : ∀ pre x W, J pre W → pre.length < (bitF m).length → YieldAt Fence.wide (n - 1) Tryd.prog l #[.int .i64 (x.1 : Int)] W fun e W' =>
      (e = .returned (.bool true) ∧ J (pre ++ [x]) W' ∧ Below n₀ W W') ∨ (e = .returned (.bool false) ∧ Jx (pre ++ [x]) W'))
    (W : World) (hBn : W.cell? ⟨Bn, 0, none⟩ = some (.int .i64 m)) (hT : Tz W) (hTn : gDB < n₀) (h0 : J [] W) :
    CallsIn Fence.wide n Tryd.prog 25 #[.func (.yield l) #[] #[], .pointer (some ⟨Bn, 0, none⟩)] W fun e W' => (∃ v, e = .returned v) ∧
      ((∃ ys, ys = bitF m ∧ J ys W') ∨ (∃ pre, pre <+: bitF m ∧ Jx pre W')) := by
  refine callsIn_of_wp Tryd.func25 rfl trivial ?_ rfl
  simp only [Tryd.ntmps25, List.size_toArray, List.length_cons, List.length_nil, Nat.reduceAdd, Nat.reduceSub, Array.replicate_succ, Array.replicate_zero, List.push_toArray, List.append_toArray, List.nil_append, List.cons_append]
  gi_wp2
  gi_loopw [3] (fun p wr => ∃ (pre : List B64) (k : Nat), p = .int .i64 (k : Int) ∧ k ≤ m ∧ bitF m = pre ++ bitF k ∧ J pre wr ∧ Tz wr) (fun p _ => (bitF (intOf p).toNat).length)
  case atStart => exact ⟨[], m, rfl, Nat.le_refl _, rfl, h0, hT⟩
  case round =>
    obtain ⟨pre, k, rfl, hk, hx, hJs, hTr⟩ := hrel
    by_cases hk0 : k = 0
    · subst hk0
      rw [bitF_zero, List.append_nil] at hx
      gi_wp2
      go_end0
      exact ⟨⟨_, rfl⟩, .inl ⟨pre, hx.symm, hJs⟩⟩
    · have hne : ((k : Int) != 0) = true := by rw [bne_iff_ne]; omega
      have hcons := bitF_cons hk0 (by omega)
      rw [hcons] at hx
      have ht64 : Lib.ctz 64 k < 64 := (low_bit hk0 (by omega)).2.1
      obtain ⟨fn, tmps, assign, body, hy, hR⟩ := hY pre (of64 (Lib.ctz 64 k)) wr hJs (by rw [hx]; simp)
      rw [of64_val ht64] at hy
      have hw : IntKind.u64.wrap (k : Int) = (k : Int) := by rw [IntKind.wrap_u64]; omega
      have hand : bits .and .i64 (k : Int) ((k : Int) - 1) = ((k &&& (k - 1) : Nat) : Int) := by
        rw [show (k : Int) - 1 = ((k - 1 : Nat) : Int) by omega]
        exact i64_and_nat _ _ (by omega) (by omega)
      have hle : k &&& (k - 1) ≤ k := Nat.and_le_left
      have hcall := iTz k hk0 (by omega) wr hTr
      have HX := Lib.hid hx
      have HC := Lib.hid hcons
      clear hx hcons
      generalize Lib.ctz 64 k = t at *
      generalize k &&& (k - 1) = k2 at *
      gi_wp2
      refine ⟨trivial, (callsIn_wide.2 hcall).mono ?_⟩
      rintro e w' ⟨rfl, rfl⟩
      gi_wp2
      refine hR.mono ?_
      rintro e W3 (⟨rfl, hJ3, hk3⟩ | ⟨rfl, hJx3⟩)
      · have hT3 := hTr.on hk3 hTn
        gi_wp2
        go_roundw
        case rel => exact ⟨pre ++ [of64 t], k2, rfl, by omega, by rw [HX.out]; simp, hJ3, hT3⟩
        case measure => simp only [intOf]; rw [Int.toNat_natCast, Int.toNat_natCast, HC.out]; simp
      · gi_wp2
        refine bodyPost_ret (results_none rfl _ _ _) rfl ?_
        exact ⟨⟨_, rfl⟩, .inr ⟨pre ++ [of64 t], ⟨bitF k2, by rw [HX.out]; simp⟩, hJx3⟩⟩

theorem iBits_stops (n : Nat) (hn : 1 ≤ n) (Bn n₀ m : Nat) (hm : m < 9223372036854775808) (w : World) (hBn : Bn < w.heap.size) (hn₀ : n₀ ≤ w.heap.size)
    (hc : w.cell? ⟨Bn, 0, none⟩ = some (.int .i64 m)) (hT : Tz w) (hTn : gDB < n₀) :
    SeqStopsK Fence.wide n Tryd.prog 25 #[.pointer (some ⟨Bn, 0, none⟩)] (fun x : B64 => #[Value.int .i64 (x.1 : Int)]) (Below n₀) (fun ys => ys = bitF m) (fun pre => pre <+: bitF m) (bitF m).length w := fun l J Jx W hW _ _ hY h0 =>
  iBits1 n hn l Bn n₀ m hm J Jx hY W ((hW.cell (p := ⟨Bn, 0, none⟩) hBn).trans hc) (hT.on hW (by omega)) hTn h0
end

section
open Go.RowKit

theorem andN_zeroB {m k : Nat} (hm : m < 9223372036854775808) (hk : k < 9223372036854775808) : (bits .andNot .i64 (m : Int) (k : Int) == 0) = decide (m &&& k = m) := by
  have h1 : (BitVec.ofInt 64 (m : Int)).toNat = m := ofInt_i64 m hm
  have h2 : (BitVec.ofInt 64 (k : Int)).toNat = k := ofInt_i64 k hk
  have hx : (BitVec.ofInt 64 (m : Int) &&& ~~~(BitVec.ofInt 64 (k : Int))).toNat ≤ m := by
    rw [BitVec.toNat_and, h1]
    exact Nat.and_le_left
  have key : (BitVec.ofInt 64 (m : Int) &&& ~~~(BitVec.ofInt 64 (k : Int))).toNat = 0 ↔ m &&& k = m := by
    constructor
    · intro h
      apply Nat.eq_of_testBit_eq
      intro i
      rw [Nat.testBit_and]
      cases hb : m.testBit i with
      | false => rfl
      | true =>
        have hi : i < 64 := by
          apply Nat.lt_of_not_le
          intro hle
          have : m < 2 ^ i := Nat.lt_of_lt_of_le hm (Nat.le_trans (by decide : 9223372036854775808 ≤ 2 ^ 64) (Nat.pow_le_pow_right (by omega) hle))
          rw [Nat.testBit_lt_two_pow this] at hb
          cases hb
        have h3 : (BitVec.ofInt 64 (m : Int) &&& ~~~(BitVec.ofInt 64 (k : Int))).toNat.testBit i = false := by rw [h]; exact Nat.zero_testBit i
        rw [← BitVec.getLsbD, BitVec.getLsbD_and, BitVec.getLsbD_not] at h3
        have h4 : (BitVec.ofInt 64 (m : Int)).getLsbD i = true := by rw [BitVec.getLsbD, h1]; exact hb
        have h5 : (BitVec.ofInt 64 (k : Int)).getLsbD i = k.testBit i := by rw [BitVec.getLsbD, h2]
        rw [h4, h5] at h3
        simpa [hi] using h3
    · intro h
      apply Nat.eq_of_testBit_eq
      intro i
      rw [Nat.zero_testBit, ← BitVec.getLsbD, BitVec.getLsbD_and, BitVec.getLsbD_not]
      have h4 : (BitVec.ofInt 64 (m : Int)).getLsbD i = m.testBit i := by rw [BitVec.getLsbD, h1]
      have h5 : (BitVec.ofInt 64 (k : Int)).getLsbD i = k.testBit i := by rw [BitVec.getLsbD, h2]
      rw [h4, h5, ← h, Nat.testBit_and]
      cases m.testBit i <;> cases k.testBit i <;> simp
  have e : bits .andNot .i64 (m : Int) (k : Int) = (((BitVec.ofInt 64 (m : Int) &&& ~~~(BitVec.ofInt 64 (k : Int))).toNat : Nat) : Int) := by
    show IntKind.i64.wrap ((BitVec.ofInt 64 (m : Int) &&& ~~~(BitVec.ofInt 64 (k : Int))).toNat : Int) = _
    rw [IntKind.wrap_i64]
    omega
  rw [e]
  by_cases h : m &&& k = m
  · rw [key.2 h]
    simp [h]
  · have : ¬ (BitVec.ofInt 64 (m : Int) &&& ~~~(BitVec.ofInt 64 (k : Int))).toNat = 0 := fun h9 => h (key.1 h9)
    generalize (BitVec.ofInt 64 (m : Int) &&& ~~~(BitVec.ofInt 64 (k : Int))).toNat = z at this
    have h9 : ((z : Int) == 0) = false := by simpa using this
    rw [h9]
    simp [h]
theorem andN_neg {m : Int} {k : Nat} (h1 : -9223372036854775808 ≤ m) (h2 : m < 0) (hk : k < 9223372036854775808) : (bits .andNot .i64 m (k : Int) == 0) = false := by
  have h4 : (BitVec.ofInt 64 m).getLsbD 63 = true := by
    rw [BitVec.getLsbD, BitVec.toNat_ofInt, Nat.testBit_eq_decide_div_mod_eq, decide_eq_true_eq]
    omega
  have h5 : (BitVec.ofInt 64 (k : Int)).getLsbD 63 = false := by
    rw [BitVec.getLsbD, ofInt_i64 k hk]
    exact Nat.testBit_lt_two_pow (by omega)
  have h6 : (BitVec.ofInt 64 m &&& ~~~(BitVec.ofInt 64 (k : Int))).toNat.testBit 63 = true := by
    rw [← BitVec.getLsbD, BitVec.getLsbD_and, BitVec.getLsbD_not, h4, h5]
    rfl
  have h7 := Nat.ge_two_pow_of_testBit h6
  have h8 := (BitVec.ofInt 64 m &&& ~~~(BitVec.ofInt 64 (k : Int))).isLt
  have e : bits .andNot .i64 m (k : Int) = IntKind.i64.wrap ((BitVec.ofInt 64 m &&& ~~~(BitVec.ofInt 64 (k : Int))).toNat : Int) := rfl
  rw [e, IntKind.wrap_i64]
  generalize (BitVec.ofInt 64 m &&& ~~~(BitVec.ofInt 64 (k : Int))).toNat = z at h7 h8
  have h9 : ¬ ((((z : Int) + 9223372036854775808) % 18446744073709551616 - 9223372036854775808) = 0) := by omega
  simpa using h9
theorem okM_and {W : Int} {l : List Int} {m : Int} (hr : isReg W l = true) (h1 : -9223372036854775808 ≤ m) (h2 : m ≤ 9223372036854775807) : (bits .andNot .i64 m ((maskR W l : Nat) : Int) == 0) = okM W l m := by
  have hk := maskR_lt W l
  by_cases h0 : 0 ≤ m
  · obtain ⟨n, rfl⟩ := Int.eq_ofNat_of_zero_le h0
    rw [okM_nat hr]
    exact andN_zeroB (by omega) (by omega)
  · rw [andN_neg h1 (by omega) (by omega), okM_neg h0]
theorem okM_reg {W : Int} {l : List Int} {m : Int} (h : okM W l m = true) : ∃ (N H k : Nat), W = N ∧ m = k ∧ Rg N H l := by
  unfold okM at h
  simp only [Bool.and_eq_true, decide_eq_true_eq] at h
  obtain ⟨N, rfl, hr⟩ := isReg_out h.1
  exact ⟨N, _, m.toNat, rfl, by omega, hr⟩
theorem cellsM_out {W : Int} {l : List Int} {m : Int} {c : Cl} (hc : c ∈ cellsM W l m) : ∃ N : Nat, W = N ∧ inG N l.length c ∧ N ≤ 6 ∧ l.length ≤ 6 := by
  cases h : okM W l m with
  | false => rw [cellsM_no h] at hc; cases hc
  | true =>
    obtain ⟨N, H, k, rfl, rfl, hr⟩ := okM_reg h
    rw [cellsM_yes hr h] at hc
    unfold mcells at hc
    obtain ⟨i, hi, rfl⟩ := List.mem_map.1 hc
    have hlt := List.mem_range.1 (List.mem_filter.1 hi).1
    have e := hr.len
    exact ⟨N, rfl, by rw [e]; exact cAt_in hr.w0 hlt, hr.w6, by rw [e]; exact hr.h6⟩
theorem cellsM_inC (W : Int) (l : List Int) (m : Int) : ∀ c ∈ cellsM W l m, InC c := by
  intro c hc
  obtain ⟨N, _, ⟨⟨h1, h2⟩, h3, h4⟩, h5, h6⟩ := cellsM_out hc
  unfold InC
  have h7 : (N : Int) ≤ 6 := by omega
  have h8 : (l.length : Int) ≤ 6 := by omega
  omega
theorem cellsM_len (W : Int) (l : List Int) (m : Int) : (cellsM W l m).length ≤ 36 := by
  cases h : okM W l m with
  | false => rw [cellsM_no h]; simp
  | true =>
    obtain ⟨N, H, k, rfl, rfl, hr⟩ := okM_reg h
    rw [cellsM_yes hr h]
    exact Nat.le_trans (mcells_len _ _ _) (Nat.mul_le_mul hr.w6 hr.h6)

theorem own_base {w : World} {B B' : Nat} {e : TypeId} {size : Nat} {v : Value} {n : Nat} {xs : List Value} (h : w.ownsRow B' e size v n xs) (hB : B ≤ B') : w.ownsRow B e size v n xs := by
  rcases h.2 with h2 | ⟨g, cap, cur, rfl, hb, hr⟩
  · exact ⟨h.1, .inl h2⟩
  · exact ⟨h.1, .inr ⟨g, cap, cur, rfl, Nat.le_trans hB hb, hr⟩⟩
set_option maxHeartbeats 4000000 in
set_option maxRecDepth 100000 in
theorem iIsMask (B n cap : Nat) (a : Option Addr) (W : Int) (l : List Int) (m : Int) (w : World) (h1 : -9223372036854775808 ≤ m) (h2 : m ≤ 9223372036854775807) (hn : n ≤ 4194304) (hc : IntsAt B w a n l) (hB : B ≤ w.heap.size) :
    Calls Tryd.prog 15 #[.agg #[.int .i64 W, .slice a n cap], .int .i64 m] w fun e w' => e = .returned (.bool (okM W l m)) ∧ Below w.heap.size w w' := by
  have H := Lib.hid hc
  clear hc
  have hb0 := (Below.refl w.heap.size w).alloc (Nat.le_refl _) (.cells #[.int .i64 W, .slice a n cap] 27)
  have hbox0 := RgAt.new (w := w) W (.slice a n cap) rfl
  cases h : isReg W l with
  | false =>
    have HO := Lib.hid (okM_no h m)
    have HI := Lib.hid h
    clear h
    go_enter Tryd.func15, Tryd.ntmps15
    go_wp2_with fail
    refine (iIsReg B n cap a W l _ hn (H.out.on (hb0.mono hB)) (Nat.le_trans hB hb0.size)).mono ?_
    rintro e w' ⟨rfl, hb⟩
    rw [HI.out]
    go_wp2
    go_ret
    exact ⟨by rw [HO.out]; rfl, hb0.trans (hb.mono hb0.size)⟩
  | true =>
    have HO := Lib.hid (okM_and h h1 h2)
    have HI := Lib.hid h
    clear h
    go_enter Tryd.func15, Tryd.ntmps15
    go_wp2_with fail
    refine (iIsReg B n cap a W l _ hn (H.out.on (hb0.mono hB)) (Nat.le_trans hB hb0.size)).mono ?_
    rintro e w2 ⟨rfl, hb⟩
    rw [HI.out]
    have hbx := hbox0.on hb hbox0.lt
    have hb2 := hb0.trans (hb.mono hb0.size)
    have c0 := hbx.c0
    have c1 := hbx.c1
    clear hb hb0 hbox0
    go_wp2_with fail
    refine (iMask B n cap a W l w2 hn (H.out.on (hb2.mono hB)) (Nat.le_trans hB hb2.size)).mono ?_
    rintro e w3 ⟨rfl, hb3⟩
    have ho := HO.out
    clear HO
    go_wp2
    go_ret
    exact ⟨by first | rfl | (rw [ho]; rfl) | simp, hb2.trans (hb3.mono hb2.size)⟩
end

end Go.Proofs.YtkcclhnligajeaaDoor
