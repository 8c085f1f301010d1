/-
  The bits of a mask one by one: the library's count of trailing zeros, the iterator: what the calls give.
  Whether a number is a mask of cells of a region, in the program; the cells of a mask: what is known of them.
  A region without calls that draws its order, within a round of a loop over an iterator: what holds of it plainly holds of it there.
  The cells of a mask, in the program: a loop over an iterator that appends.
-/
import Derived.Test.YtailmmamgnebhaaGreatDoorQi
import Derived.Test.YtailmmamgnebhaaGreatDoorQn
import Derived.RangeFuncNested
import Derived.RangeFuncBound
import Derived.RangeFuncBox
import Derived.RangeFuncCalls
import Derived.RangeFuncLeaves
import Derived.Shelf.Abstract
import Derived.Shelf.RegionOpen
import Derived.WalkKit
import Derived.OwnWalkIn
import Derived.TacticsInMore
import Derived.LoopNIn
import Derived.LoopIn
import Derived.Maps.AppendAt
import Derived.Shelf.Spec.TrailingZeros
import Derived.Test.YtailmmamgnebhaaGreatDoorQa
import Derived.OrdersIn
import Derived.OrdersHeld
namespace Go.Proofs.YtailmmamgnebhaaGreatDoor

section
open Go.RowKit Go.Shelf

attribute [local go_sem] Oper.semAt_some

abbrev gDB : Nat := 1
/-- The library's table, where it lies. -/
def Tz (w : World) : Prop := TabAt gDB Lib.deBruijn64tab w ∧ gDB < w.heap.size
theorem Tz.on {B : Nat} {w w' : World} (h : Tz w) (hb : Below B w w') (hB : gDB < B) : Tz w' :=
  ⟨fun j hj => (hb.cell (p := ⟨gDB, j, none⟩) hB).trans (h.1 j hj), Nat.lt_of_lt_of_le h.2 hb.size⟩

set_option maxHeartbeats 1000000 in
set_option maxRecDepth 100000 in
theorem tz_core (x k idx : Nat) (w : World) (hx0 : ((x : Int) == 0) = false)
    (key : IntKind.u64.wrap (bits BinOp.and IntKind.u64 (x : Int) (IntKind.u64.wrap (-(x : Int))) * 285870213051353865) / 288230376151711744 = (idx : Int))
    (hi : idx < 64) (hk : k < 64) (hcell : w.cell? ⟨gDB, idx, none⟩ = some (.int .u8 k)) :
    Calls Tryz.prog 161 #[.int .u64 x] w fun e w' => e = .returned (.int .i64 k) ∧ w' = w := by
  go_enter Tryz.func161, Tryz.ntmps161
  go_wp2_with (simp only [key])
  go_ret
  exact ⟨rfl, rfl⟩
theorem iTz64 (x : Nat) (hx0 : x ≠ 0) (hx : x < 9223372036854775808) (w : World) (hT : Tz w) :
    Calls Tryz.prog 161 #[.int .u64 x] w fun e w' => e = .returned (.int .i64 (Lib.ctz 64 x : Nat)) ∧ w' = w := by
  obtain ⟨hlow, hk⟩ := Lib.lowest_bit 64 x hx0 (by omega)
  obtain ⟨hi, htab⟩ := Lib.deBruijn64_at _ hk
  have hcell := hT.1 _ hi
  rw [htab] at hcell
  exact tz_core x _ _ w (by simp; omega) (tz64_key x _ (by omega) hx0 hlow) hi hk hcell
theorem iTz (x : Nat) (hx0 : x ≠ 0) (hx : x < 9223372036854775808) (w : World) (hT : Tz w) :
    Calls Tryz.prog 124 #[.int .u64 x] w fun e w' => e = .returned (.int .i64 (Lib.ctz 64 x : Nat)) ∧ w' = w := by
  have hw : IntKind.u64.wrap (x : Int) = (x : Int) := by rw [IntKind.wrap_u64]; omega
  go_enter Tryz.func124, Tryz.ntmps124
  go_wp2_with fail
  refine (iTz64 x hx0 hx w hT).mono ?_
  rintro e w' ⟨rfl, rfl⟩
  go_wp2
  go_ret
  exact ⟨rfl, rfl⟩

/-- A number below 64: what a round is handed. -/
abbrev B64 := { x : Nat // x < 64 }
def of64 (x : Nat) : B64 := ⟨x % 64, Nat.mod_lt _ (by decide)⟩
def bitF (m : Nat) : List B64 := (bitL m).map of64
theorem of64_val {x : Nat} (h : x < 64) : (of64 x).1 = x := Nat.mod_eq_of_lt h
theorem bitL_lt {m x : Nat} (h : x ∈ bitL m) : x < 64 := by
  unfold bitL at h
  have := (List.mem_filter.1 h).1
  simpa using this
theorem bitF_val (m : Nat) : (bitF m).map (·.1) = bitL m := by
  unfold bitF
  rw [List.map_map]
  conv => rhs; rw [← List.map_id (bitL m)]
  apply List.map_congr_left
  intro x hx
  exact of64_val (bitL_lt hx)
theorem bitF_zero : bitF 0 = [] := by unfold bitF; rw [bitL_zero]; rfl
theorem bitF_cons {k : Nat} (h0 : k ≠ 0) (h : k < 9223372036854775808) : bitF k = of64 (Lib.ctz 64 k) :: bitF (k &&& (k - 1)) := by
  unfold bitF
  rw [bitL_cons h0 (by omega)]
  rfl
theorem bitF_len (m : Nat) : (bitF m).length ≤ 64 := by
  unfold bitF
  rw [List.length_map]
  unfold bitL
  have := List.length_filter_le m.testBit (List.range 64)
  simpa using this

theorem iBitsOf (m : Int) (w : World) :
    Calls Tryz.prog 72 #[.int .i64 m] w fun e w' => e = .returned (.func (.func 123) #[] #[.pointer (some ⟨w.heap.size, 0, none⟩)]) ∧ w' = w.alloc (.cells #[.int .i64 m] 3) := by
  go_enter Tryz.func72, Tryz.ntmps72
  go_wp2
  go_ret
  exact ⟨rfl, rfl⟩

set_option maxRecDepth 100000 in
set_option maxHeartbeats 1000000 in
theorem iBits1 (n : Nat) (hn : 1 ≤ n) (l Bn n₀ m : Nat) (hm : m < 9223372036854775808) (J Jx : List B64 → World → Prop)
    (hY : ∀ pre x W, J pre W → pre.length < (bitF m).length → YieldAt Fence.wide (n - 1) Tryz.prog l #[.int .i64 (x.1 : Int)] W fun e W' =>
      (e = .returned (.bool true) ∧ J (pre ++ [x]) W' ∧ Below n₀ W W') ∨ (e = .returned (.bool false) ∧ Jx (pre ++ [x]) W'))
    (W : World) (hBn : W.cell? ⟨Bn, 0, none⟩ = some (.int .i64 m)) (hT : Tz W) (hTn : gDB < n₀) (h0 : J [] W) :
    CallsIn Fence.wide n Tryz.prog 123 #[.func (.yield l) #[] #[], .pointer (some ⟨Bn, 0, none⟩)] W fun e W' => (∃ v, e = .returned v) ∧
      ((∃ ys, ys = bitF m ∧ J ys W') ∨ (∃ pre, pre <+: bitF m ∧ Jx pre W')) := by
  refine callsIn_of_wp Tryz.func123 rfl trivial ?_ rfl
  simp only [Tryz.ntmps123, List.size_toArray, List.length_cons, List.length_nil, Nat.reduceAdd, Nat.reduceSub, Array.replicate_succ, Array.replicate_zero, List.push_toArray, List.append_toArray, List.nil_append, List.cons_append]
  gi_wp2
  gi_loopw [3] (fun p wr => ∃ (pre : List B64) (k : Nat), p = .int .i64 (k : Int) ∧ k ≤ m ∧ bitF m = pre ++ bitF k ∧ J pre wr ∧ Tz wr) (fun p _ => (bitF (intOf p).toNat).length)
  case atStart => exact ⟨[], m, rfl, Nat.le_refl _, rfl, h0, hT⟩
  case round =>
    obtain ⟨pre, k, rfl, hk, hx, hJs, hTr⟩ := hrel
    by_cases hk0 : k = 0
    · subst hk0
      rw [bitF_zero, List.append_nil] at hx
      gi_wp2
      go_end0
      exact ⟨⟨_, rfl⟩, .inl ⟨pre, hx.symm, hJs⟩⟩
    · have hne : ((k : Int) != 0) = true := by rw [bne_iff_ne]; omega
      have hcons := bitF_cons hk0 (by omega)
      rw [hcons] at hx
      have ht64 : Lib.ctz 64 k < 64 := (low_bit hk0 (by omega)).2.1
      obtain ⟨fn, tmps, assign, body, hy, hR⟩ := hY pre (of64 (Lib.ctz 64 k)) wr hJs (by rw [hx]; simp)
      rw [of64_val ht64] at hy
      have hw : IntKind.u64.wrap (k : Int) = (k : Int) := by rw [IntKind.wrap_u64]; omega
      have hand : bits .and .i64 (k : Int) ((k : Int) - 1) = ((k &&& (k - 1) : Nat) : Int) := by
        rw [show (k : Int) - 1 = ((k - 1 : Nat) : Int) by omega]
        exact i64_and_nat _ _ (by omega) (by omega)
      have hle : k &&& (k - 1) ≤ k := Nat.and_le_left
      have hcall := iTz k hk0 (by omega) wr hTr
      have HX := Lib.hid hx
      have HC := Lib.hid hcons
      clear hx hcons
      generalize Lib.ctz 64 k = t at *
      generalize k &&& (k - 1) = k2 at *
      gi_wp2
      refine ⟨trivial, (callsIn_wide.2 hcall).mono ?_⟩
      rintro e w' ⟨rfl, rfl⟩
      gi_wp2
      refine hR.mono ?_
      rintro e W3 (⟨rfl, hJ3, hk3⟩ | ⟨rfl, hJx3⟩)
      · have hT3 := hTr.on hk3 hTn
        gi_wp2
        go_roundw
        case rel => exact ⟨pre ++ [of64 t], k2, rfl, by omega, by rw [HX.out]; simp, hJ3, hT3⟩
        case measure => simp only [intOf]; rw [Int.toNat_natCast, Int.toNat_natCast, HC.out]; simp
      · gi_wp2
        refine bodyPost_ret (results_none rfl _ _ _) rfl ?_
        exact ⟨⟨_, rfl⟩, .inr ⟨pre ++ [of64 t], ⟨bitF k2, by rw [HX.out]; simp⟩, hJx3⟩⟩

theorem iBits_stops (n : Nat) (hn : 1 ≤ n) (Bn n₀ m : Nat) (hm : m < 9223372036854775808) (w : World) (hBn : Bn < w.heap.size) (hn₀ : n₀ ≤ w.heap.size)
    (hc : w.cell? ⟨Bn, 0, none⟩ = some (.int .i64 m)) (hT : Tz w) (hTn : gDB < n₀) :
    SeqStopsK Fence.wide n Tryz.prog 123 #[.pointer (some ⟨Bn, 0, none⟩)] (fun x : B64 => #[Value.int .i64 (x.1 : Int)]) (Below n₀) (fun ys => ys = bitF m) (fun pre => pre <+: bitF m) (bitF m).length w := fun l J Jx W hW _ _ hY h0 =>
  iBits1 n hn l Bn n₀ m hm J Jx hY W ((hW.cell (p := ⟨Bn, 0, none⟩) hBn).trans hc) (hT.on hW (by omega)) hTn h0
end

section
open Go.RowKit

theorem andN_zeroB {m k : Nat} (hm : m < 9223372036854775808) (hk : k < 9223372036854775808) : (bits .andNot .i64 (m : Int) (k : Int) == 0) = decide (m &&& k = m) := by
  have h1 : (BitVec.ofInt 64 (m : Int)).toNat = m := ofInt_i64 m hm
  have h2 : (BitVec.ofInt 64 (k : Int)).toNat = k := ofInt_i64 k hk
  have hx : (BitVec.ofInt 64 (m : Int) &&& ~~~(BitVec.ofInt 64 (k : Int))).toNat ≤ m := by
    rw [BitVec.toNat_and, h1]
    exact Nat.and_le_left
  have key : (BitVec.ofInt 64 (m : Int) &&& ~~~(BitVec.ofInt 64 (k : Int))).toNat = 0 ↔ m &&& k = m := by
    constructor
    · intro h
      apply Nat.eq_of_testBit_eq
      intro i
      rw [Nat.testBit_and]
      cases hb : m.testBit i with
      | false => rfl
      | true =>
        have hi : i < 64 := by
          apply Nat.lt_of_not_le
          intro hle
          have : m < 2 ^ i := Nat.lt_of_lt_of_le hm (Nat.le_trans (by decide : 9223372036854775808 ≤ 2 ^ 64) (Nat.pow_le_pow_right (by omega) hle))
          rw [Nat.testBit_lt_two_pow this] at hb
          cases hb
        have h3 : (BitVec.ofInt 64 (m : Int) &&& ~~~(BitVec.ofInt 64 (k : Int))).toNat.testBit i = false := by rw [h]; exact Nat.zero_testBit i
        rw [← BitVec.getLsbD, BitVec.getLsbD_and, BitVec.getLsbD_not] at h3
        have h4 : (BitVec.ofInt 64 (m : Int)).getLsbD i = true := by rw [BitVec.getLsbD, h1]; exact hb
        have h5 : (BitVec.ofInt 64 (k : Int)).getLsbD i = k.testBit i := by rw [BitVec.getLsbD, h2]
        rw [h4, h5] at h3
        simpa [hi] using h3
    · intro h
      apply Nat.eq_of_testBit_eq
      intro i
      rw [Nat.zero_testBit, ← BitVec.getLsbD, BitVec.getLsbD_and, BitVec.getLsbD_not]
      have h4 : (BitVec.ofInt 64 (m : Int)).getLsbD i = m.testBit i := by rw [BitVec.getLsbD, h1]
      have h5 : (BitVec.ofInt 64 (k : Int)).getLsbD i = k.testBit i := by rw [BitVec.getLsbD, h2]
      rw [h4, h5, ← h, Nat.testBit_and]
      cases m.testBit i <;> cases k.testBit i <;> simp
  have e : bits .andNot .i64 (m : Int) (k : Int) = (((BitVec.ofInt 64 (m : Int) &&& ~~~(BitVec.ofInt 64 (k : Int))).toNat : Nat) : Int) := by
    show IntKind.i64.wrap ((BitVec.ofInt 64 (m : Int) &&& ~~~(BitVec.ofInt 64 (k : Int))).toNat : Int) = _
    rw [IntKind.wrap_i64]
    omega
  rw [e]
  by_cases h : m &&& k = m
  · rw [key.2 h]
    simp [h]
  · have : ¬ (BitVec.ofInt 64 (m : Int) &&& ~~~(BitVec.ofInt 64 (k : Int))).toNat = 0 := fun h9 => h (key.1 h9)
    generalize (BitVec.ofInt 64 (m : Int) &&& ~~~(BitVec.ofInt 64 (k : Int))).toNat = z at this
    have h9 : ((z : Int) == 0) = false := by simpa using this
    rw [h9]
    simp [h]
theorem andN_neg {m : Int} {k : Nat} (h1 : -9223372036854775808 ≤ m) (h2 : m < 0) (hk : k < 9223372036854775808) : (bits .andNot .i64 m (k : Int) == 0) = false := by
  have h4 : (BitVec.ofInt 64 m).getLsbD 63 = true := by
    rw [BitVec.getLsbD, BitVec.toNat_ofInt, Nat.testBit_eq_decide_div_mod_eq, decide_eq_true_eq]
    omega
  have h5 : (BitVec.ofInt 64 (k : Int)).getLsbD 63 = false := by
    rw [BitVec.getLsbD, ofInt_i64 k hk]
    exact Nat.testBit_lt_two_pow (by omega)
  have h6 : (BitVec.ofInt 64 m &&& ~~~(BitVec.ofInt 64 (k : Int))).toNat.testBit 63 = true := by
    rw [← BitVec.getLsbD, BitVec.getLsbD_and, BitVec.getLsbD_not, h4, h5]
    rfl
  have h7 := Nat.ge_two_pow_of_testBit h6
  have h8 := (BitVec.ofInt 64 m &&& ~~~(BitVec.ofInt 64 (k : Int))).isLt
  have e : bits .andNot .i64 m (k : Int) = IntKind.i64.wrap ((BitVec.ofInt 64 m &&& ~~~(BitVec.ofInt 64 (k : Int))).toNat : Int) := rfl
  rw [e, IntKind.wrap_i64]
  generalize (BitVec.ofInt 64 m &&& ~~~(BitVec.ofInt 64 (k : Int))).toNat = z at h7 h8
  have h9 : ¬ ((((z : Int) + 9223372036854775808) % 18446744073709551616 - 9223372036854775808) = 0) := by omega
  simpa using h9
theorem okM_and {W : Int} {l : List Int} {m : Int} (hr : isReg W l = true) (h1 : -9223372036854775808 ≤ m) (h2 : m ≤ 9223372036854775807) : (bits .andNot .i64 m ((maskR W l : Nat) : Int) == 0) = okM W l m := by
  have hk := maskR_lt W l
  by_cases h0 : 0 ≤ m
  · obtain ⟨n, rfl⟩ := Int.eq_ofNat_of_zero_le h0
    rw [okM_nat hr]
    exact andN_zeroB (by omega) (by omega)
  · rw [andN_neg h1 (by omega) (by omega), okM_neg h0]
theorem okM_reg {W : Int} {l : List Int} {m : Int} (h : okM W l m = true) : ∃ (N H k : Nat), W = N ∧ m = k ∧ Rg N H l := by
  unfold okM at h
  simp only [Bool.and_eq_true, decide_eq_true_eq] at h
  obtain ⟨N, rfl, hr⟩ := isReg_out h.1
  exact ⟨N, _, m.toNat, rfl, by omega, hr⟩
theorem cellsM_out {W : Int} {l : List Int} {m : Int} {c : Cl} (hc : c ∈ cellsM W l m) : ∃ N : Nat, W = N ∧ inG N l.length c ∧ N ≤ 6 ∧ l.length ≤ 6 := by
  cases h : okM W l m with
  | false => rw [cellsM_no h] at hc; cases hc
  | true =>
    obtain ⟨N, H, k, rfl, rfl, hr⟩ := okM_reg h
    rw [cellsM_yes hr h] at hc
    unfold mcells at hc
    obtain ⟨i, hi, rfl⟩ := List.mem_map.1 hc
    have hlt := List.mem_range.1 (List.mem_filter.1 hi).1
    have e := hr.len
    exact ⟨N, rfl, by rw [e]; exact cAt_in hr.w0 hlt, hr.w6, by rw [e]; exact hr.h6⟩
theorem cellsM_inC (W : Int) (l : List Int) (m : Int) : ∀ c ∈ cellsM W l m, InC c := by
  intro c hc
  obtain ⟨N, _, ⟨⟨h1, h2⟩, h3, h4⟩, h5, h6⟩ := cellsM_out hc
  unfold InC
  have h7 : (N : Int) ≤ 6 := by omega
  have h8 : (l.length : Int) ≤ 6 := by omega
  omega
theorem cellsM_len (W : Int) (l : List Int) (m : Int) : (cellsM W l m).length ≤ 36 := by
  cases h : okM W l m with
  | false => rw [cellsM_no h]; simp
  | true =>
    obtain ⟨N, H, k, rfl, rfl, hr⟩ := okM_reg h
    rw [cellsM_yes hr h]
    exact Nat.le_trans (mcells_len _ _ _) (Nat.mul_le_mul hr.w6 hr.h6)

theorem own_base {w : World} {B B' : Nat} {e : TypeId} {size : Nat} {v : Value} {n : Nat} {xs : List Value} (h : w.ownsRow B' e size v n xs) (hB : B ≤ B') : w.ownsRow B e size v n xs := by
  rcases h.2 with h2 | ⟨g, cap, cur, rfl, hb, hr⟩
  · exact ⟨h.1, .inl h2⟩
  · exact ⟨h.1, .inr ⟨g, cap, cur, rfl, Nat.le_trans hB hb, hr⟩⟩
/-- Cells of the call's own. -/
def GivesVC (w : World) (L : List Cl) (e : Ending) (w' : World) : Prop := ∃ v, e = .returned v ∧ w'.ownsRow w.heap.size 40 2 v L.length (cvs L) ∧ Below w.heap.size w w'

set_option maxHeartbeats 4000000 in
set_option maxRecDepth 100000 in
theorem iIsMask (B n cap : Nat) (a : Option Addr) (W : Int) (l : List Int) (m : Int) (w : World) (h1 : -9223372036854775808 ≤ m) (h2 : m ≤ 9223372036854775807) (hn : n ≤ 4194304) (hc : IntsAt B w a n l) (hB : B ≤ w.heap.size) :
    Calls Tryz.prog 71 #[.agg #[.int .i64 W, .slice a n cap], .int .i64 m] w fun e w' => e = .returned (.bool (okM W l m)) ∧ Below w.heap.size w w' := by
  have H := Lib.hid hc
  clear hc
  have hb0 := (Below.refl w.heap.size w).alloc (Nat.le_refl _) (.cells #[.int .i64 W, .slice a n cap] 26)
  have hbox0 := RgAt.new (w := w) W (.slice a n cap) rfl
  cases h : isReg W l with
  | false =>
    have HO := Lib.hid (okM_no h m)
    have HI := Lib.hid h
    clear h
    go_enter Tryz.func71, Tryz.ntmps71
    go_wp2_with fail
    refine (iIsReg B n cap a W l _ hn (H.out.on (hb0.mono hB)) (Nat.le_trans hB hb0.size)).mono ?_
    rintro e w' ⟨rfl, hb⟩
    rw [HI.out]
    go_wp2
    go_ret
    exact ⟨by rw [HO.out]; rfl, hb0.trans (hb.mono hb0.size)⟩
  | true =>
    have HO := Lib.hid (okM_and h h1 h2)
    have HI := Lib.hid h
    clear h
    go_enter Tryz.func71, Tryz.ntmps71
    go_wp2_with fail
    refine (iIsReg B n cap a W l _ hn (H.out.on (hb0.mono hB)) (Nat.le_trans hB hb0.size)).mono ?_
    rintro e w2 ⟨rfl, hb⟩
    rw [HI.out]
    have hbx := hbox0.on hb hbox0.lt
    have hb2 := hb0.trans (hb.mono hb0.size)
    have c0 := hbx.c0
    have c1 := hbx.c1
    clear hb hb0 hbox0
    go_wp2_with fail
    refine (iMask B n cap a W l w2 hn (H.out.on (hb2.mono hB)) (Nat.le_trans hB hb2.size)).mono ?_
    rintro e w3 ⟨rfl, hb3⟩
    have ho := HO.out
    clear HO
    go_wp2
    go_ret
    exact ⟨by first | rfl | (rw [ho]; rfl) | simp, hb2.trans (hb3.mono hb2.size)⟩
end

section
def CalmR : Result Next → Prop
  | .ok (.value _) _ => True
  | .ok .skip _ => True
  | .halt _ _ => True
  | _ => False
theorem calm_v {P : Program} (s : Sem Value) (w : World) : CalmR ((do pure (.value (← s)) : Sem Next).run P w) := by
  rw [Sem.run_bind]
  cases s.run P w <;> trivial
theorem calm_u {P : Program} (s : Sem Unit) (w : World) : CalmR ((do s; pure .skip : Sem Next).run P w) := by
  rw [Sem.run_bind]
  cases s.run P w <;> trivial
def plainOp : Op → Bool
  | .move _ | .assign _ | .load _ _ | .store _ _ _ | .binOp _ _ _ _ _ | .fieldAddr _ _ _ | .build _ _ | .buildSlice _ _ _ => true
  | .call c => match c.callee with | .builtin .append => true | _ => false
  | _ => false
theorem plainOp_calm {P : Program} {o : Oper} (h : plainOp o.op = true) : (∀ c, o.op ≠ .defer c) ∧ ∀ ρ w, CalmR ((execOp ρ o).run P w) := by
  refine ⟨fun c e => (by rw [e] at h; cases h), fun ρ w => ?_⟩
  cases ho : o.op with
  | move x => simp only [execOp, ho]; trivial
  | assign x => simp only [execOp, ho]; trivial
  | load t x => simp only [execOp, ho]; exact calm_v _ _
  | store t x y => simp only [execOp, ho]; exact calm_u _ _
  | binOp op t x y p => simp only [execOp, ho]; exact calm_v _ _
  | fieldAddr t x f => simp only [execOp, ho]; exact calm_v _ _
  | build t p => simp only [execOp, ho]; exact calm_v _ _
  | buildSlice t l p => simp only [execOp, ho]; exact calm_v _ _
  | call c =>
    rw [ho] at h
    cases hc : c.callee with
    | builtin b =>
      cases b with
      | append =>
        simp only [execOp, ho, resolve, hc, Sem.run_bind, Sem.run_pure, Result.andThen_ok, invoke, builtin]
        cases (Builtin.append_ c.argTypes o.type (c.args.map ρ)).run P w <;> trivial
      | _ => simp [plainOp, hc] at h
    | _ => simp [plainOp, hc] at h
  | _ => rw [ho] at h; cases h

section
variable {F : Fence} {n : Nat} {P : Program} {ops : Array Oper} {Q : Exit → Act → World → Prop} {md : Region.Mode}
theorem wpOpIn_of {i : Nat} {K K' : Act → World → Prop} {a : Act} {w : World} (hL : ¬ LetsOut Q) (hF : ∀ f, F.fn f) (hp : ∀ o, ops[i]? = some o → plainOp o.op = true) (hK : ∀ a w, K a w → K' a w)
    (h : wpOp P ops Q i K a w) : wpOpIn F n P ops Q i K' a w := by
  unfold wpOp at h
  unfold wpOpIn
  cases ho : ops[i]? with
  | none => simp only [ho] at h ⊢; exact hK _ _ h
  | some o =>
    simp only [ho] at h ⊢
    obtain ⟨h1, h2⟩ := plainOp_calm (P := P) (hp o ho)
    split
    · rename_i hw
      simp only [hw, if_true] at h
      refine ⟨fun f _ => hF f, ?_⟩
      rw [Oper.semAt_eq _ _ _ h1]
      have hc := h2 a.eval w
      have h := (show Oper.upon P o a K Q ((execOp a.eval o).run P w) ∨ _ from h).resolve_right (fun h9 => hL h9.2)
      generalize (execOp a.eval o).run P w = r at *
      cases r with
      | ok x w' =>
        cases x <;> first
          | exact hc.elim
          | exact hK _ _ h
      | halt x w' => cases x <;> exact h
    · rename_i hw
      simp only [hw] at h
      exact ⟨fun f _ => hF f, hK _ _ h⟩
theorem wpAnyIn_of (hL : ¬ LetsOut Q) (hF : ∀ f, F.fn f) (hp : ∀ (i : Nat) (o : Oper), ops[i]? = some o → plainOp o.op = true) : ∀ (fuel : Nat) (listed : Array Bool) (a : Act) (w : World), wpAny P md ops Q fuel listed a w → wpAnyIn F n P md ops Q fuel listed a w
  | 0, _, _, _, h => h
  | fuel + 1, _, _, _, h => ⟨h.1, fun i hi => wpOpIn_of hL hF (hp i) (fun a' w' h' => wpAnyIn_of hL hF hp fuel _ a' w' h') (h.2 i hi)⟩
/-- The beginning, within a round. -/
theorem wpIn_region_heldP {id : Nat} {l : List Oper} {a : Act} {w : World} {S : World → Prop} (hL : ¬ LetsOut Q) (hF : ∀ f, F.fn f) (hm : P.follows .mixedOrders = true) (hp : (l.all fun o => plainOp o.op) = true) (hS : S w.drew)
    (h : S w.drew → wpAnyH P .any l.toArray Q S l.toArray.size (Array.replicate l.toArray.size false) a w.drew) : (Code.region id l.toArray true).wpIn F n P Q a w :=
  wpIn_region_any hm (wpAnyIn_of hL hF (fun i o ho => by
    rw [List.getElem?_toArray] at ho
    exact List.all_eq_true.1 hp o (List.mem_of_getElem? ho)) _ _ _ _ (wpAny_of_held _ _ _ _ (h hS)))
end
end

section
open Go.RowKit Go.Shelf

attribute [local go_sem] Oper.semAt_some

def cF (N : Nat) (pre : List B64) : List Cl := pre.map fun x => cAt N x.1
theorem cF_snoc (N : Nat) (pre : List B64) (x : B64) : cF N (pre ++ [x]) = cF N pre ++ [cAt N x.1] := by simp [cF]
theorem cF_bits (N m : Nat) : cF N (bitF m) = (bitL m).map (cAt N) := by
  rw [← bitF_val, List.map_map]
  rfl

theorem step_cellsV {ops : Array Oper} {o : Oper} {a : Act} {w : World} {K : Act → World → Prop} {Q : Exit → Act → World → Prop} {E : Prop} (hgd : o.guard = none) (s x : Operand)
    (ho : o.op = .call { callee := .builtin .append, args := #[s, x], argTypes := #[27, 27] })
    (base n : Nat) (v : Value) (xs : List Cl) (ad : Addr) (m c : Nat) (ys : List Cl) (hs : a.eval s = v) (hx : a.eval x = .slice (some ad) m c)
    (hown : w.ownsRow base 40 2 v n (cvs xs)) (hl : ys.length = m) (hnews : Lies w ad ys) (h63 : n + m ≤ 8388608) (hbase : base ≤ w.heap.size)
    (h : ∀ v' w', w'.ownsRow base 40 2 v' (n + m) (cvs (xs ++ ys)) → w.grownBy w' v.ownBlock → K (a.put o.dst v') w') :
    if Region.wanted o (yielded ops a.tmps) = true then Oper.wp Tryz.prog o a w K Q else E := by
  have hw : Region.wanted o (yielded ops a.tmps) = true := by simp [Region.wanted, hgd]
  rw [if_pos hw]
  obtain ⟨i, hi, hz, hsz, hby⟩ := cell_size
  obtain ⟨v', w', hr, h2, h3, _⟩ := run_append_own_at (P := Tryz.prog) w base 27 o.type 40 i _ 2 16 Tryz.underlying27 hi hz hsz hby rfl (by omega) v n (cvs xs) hown ad m c (cvs ys) (by rw [cvs_length, hl]) hnews (cvs_oneCell _) (by unfold maxLen; omega) (by omega) hbase
  rw [← cvs_append] at h2
  unfold Oper.wp execOp
  simp only [ho, resolve, invoke, builtin, Sem.run_bind, Sem.run_pure, Result.andThen_ok, List.map_toArray, List.map_cons, List.map_nil, hs, hx, hr]
  exact h v' w' h2 h3

set_option maxHeartbeats 4000000 in
set_option maxRecDepth 100000 in
theorem iCellsM_in (k : Nat) (hk : 3 ≤ k) (B n cap : Nat) (a : Option Addr) (N q : Nat) (l : List Int) (w : World) (h : okM N l q = true) (hr : Rg N n l) (hn : n ≤ 4194304) (hc : IntsAt B w a n l) (hB : B ≤ w.heap.size) (hT : Tz w) :
    CallsIn Fence.wide k Tryz.prog 17 #[.agg #[.int .i64 N, .slice a n cap], .int .i64 q] w (GivesVC w (cellsM N l q)) := by
  have H := Lib.hid hc
  clear hc
  have hk1 : 1 ≤ k := by omega
  have hb0 := (Below.refl w.heap.size w).alloc (Nat.le_refl _) (.cells #[.int .i64 N, .slice a n cap] 26)
  have hbox0 := RgAt.new (w := w) N (.slice a n cap) rfl
  obtain ⟨i0, hi, hz0, hz1, hz2⟩ := cell_size
  have HI := Lib.hid h
  have hqlt := okM_lt h
  have hN0 := hr.w0
  have hN6 := hr.w6
  have HO := Lib.hid (show cellsM N l q = cF N (bitF q) from by rw [cellsM_yes hr h, mcells_bits hr h, cF_bits])
  clear h hr
  refine callsIn_of_wp_marks Tryz.func17 rfl trivial ?_ rfl
  simp only [Tryz.ntmps17, List.size_toArray, List.length_cons, List.length_nil, Nat.reduceAdd, Nat.reduceSub, Array.replicate_succ, Array.replicate_zero, List.push_toArray, List.append_toArray, List.nil_append, List.cons_append]
  gi_wp2
  refine ⟨trivial, (callsIn_wide.2 (iIsMask B n cap a N l q _ (by omega) (by omega) hn (H.out.on (hb0.mono hB)) (Nat.le_trans hB hb0.size))).mono ?_⟩
  rintro e W1 ⟨rfl, hb⟩
  rw [HI.out]
  have hbox1 := hbox0.on hb hbox0.lt
  have hb1 := hb0.trans (hb.mono hb0.size)
  have hsz1 := hb.size
  rw [World.size_alloc] at hsz1
  have hT1 := hT.on hb1 hT.2
  clear hb hb0 hbox0
  gi_wp2
  refine ⟨trivial, (callsIn_wide.2 (iBitsOf q _)).mono ?_⟩
  rintro e W2 ⟨rfl, rfl⟩
  gi_wp2
  have bO := Boxed.new W1 27 (.slice none 0 0)
  have bN := Boxed.new (W1.alloc (.cells #[.slice none 0 0] 27)) 3 (.int .i64 (q : Int))
  rw [World.size_alloc] at bN
  have hB1 : Below W1.heap.size W1 ((W1.alloc (.cells #[.slice none 0 0] 27)).alloc (.cells #[.int .i64 (q : Int)] 3)) := ((Below.refl _ W1).alloc (Nat.le_refl _) _).alloc (by simp) _
  have hgt : gDB < W1.heap.size := hT1.2
  (try simp only [World.size_alloc])
  refine wpIn_rangeFunc_ownG rfl hk1 (gf := 123) (lb := #[.pointer (some ⟨W1.heap.size + 1, 0, none⟩)]) rfl trivial (enters_of Tryz.func123 (by kernel_rfl) rfl)
    (iBits_stops (k - 1) (by omega) (W1.heap.size + 1) W1.heap.size q (by omega) _ (by simp) (by simp; omega) bN.cell (hT1.on hB1 hgt) hgt) belowK_t (belowK_b (by simp; omega)) (Below.refl _ _) (fun _ => rfl)
    (fun pre W => (∃ v, Boxed W W1.heap.size 27 v ∧ W.ownsRow W1.heap.size 40 2 v pre.length (cvs (cF N pre)) ∧ True) ∧ Below W1.heap.size W1 W)
    (fun _ _ _ => False)
    (OwnFrom.and (Own.from (holdsRow_own W1.heap.size W1.heap.size 27 40 2 (fun pre => pre.length) (fun pre => cvs (cF N pre)) (fun _ _ => True)) _) (ownFrom_below (Nat.le_refl _) (by simp; omega)))
    (fun _ _ _ _ _ hs _ _ => hs)
    ⟨⟨_, bO.alloc _, World.ownsRow_nil _ _ _ _, trivial⟩, hB1⟩
    (fun x => { tmps := #[.agg #[.int .i64 N, .slice a n cap], .int .i64 q, .pointer (some ⟨w.heap.size, 0, none⟩), undef, .slice none 0 0, .pointer (some ⟨W1.heap.size, 0, none⟩), .int .i64 (x.1 : Int), .agg #[.int .i64 N, .slice a n cap], .int .i64 q, .bool true, .bool false, .int .i64 q, .func (.func 123) #[] #[.pointer (some ⟨W1.heap.size + 1, 0, none⟩)], .int .i64 (x.1 : Int), undef, undef, undef, undef, undef, undef, undef, undef, undef, undef, undef, undef, undef], defers := [] }) ?assign ?body ?done ?stop
  case assign =>
    intro l x W K hK
    gi_wp2
    exact hK
  case body =>
    rintro l pre ⟨b, hb64⟩ W ⟨⟨v, hv, hrow, -⟩, hB2⟩ hlt
    have hc := hv.cell
    have hpl := bitF_len q
    have hbx := hbox1.on hB2 hbox1.lt
    have c0 := hbx.c0
    have hNne : ¬ ((N : Int) = 0) := by omega
    have hNz : ¬ (N = 0) := by omega
    have hcA : (W.alloc (.cells #[.int .i64 ((b : Int) % (N : Int)), .int .i64 ((b : Int) / (N : Int))] 40)).cell? ⟨W1.heap.size, 0, none⟩ = some v := (hv.alloc _).cell
    have HWR := Lib.hid (show IntKind.i64.wrap ((b : Int) / (N : Int)) = (b : Int) / (N : Int) from by
      rw [show (b : Int) / (N : Int) = ((b / N : Nat) : Int) from rfl, IntKind.wrap_i64]
      have h9 := Nat.div_le_self b N
      generalize b / N = z at h9 ⊢
      omega)
    have HR2 := Lib.hid (show ((b : Int)).tmod (N : Int) = ((b % N : Nat) : Int) from by rw [Int.tmod_eq_emod_of_nonneg (by omega)]; simp)
    have HQ := Lib.hid (show ((b : Int)).tdiv (N : Int) = ((b / N : Nat) : Int) from by rw [Int.tdiv_eq_ediv_of_nonneg (by omega)]; simp)
    have HSC := Lib.hid (show ∀ w9, Below W1.heap.size W w9 → w9.cell? ⟨w.heap.size, 0, none⟩ = some (.int .i64 (N : Int)) from fun w9 h9 => (h9.cell (p := ⟨w.heap.size, 0, none⟩) hbox1.lt).trans c0)
    have HBK := Lib.hid (show ∀ (o : Obj) (w9 : World), (W.drew.alloc o).grownBy w9 v.ownBlock → Below W1.heap.size W w9 from fun o w9 h9 => ((Below.refl _ W).drew.alloc hB2.size o).grown h9 (by simp; have := hB2.size; omega) (fun k hk => (hrow.lt k hk).1))
    refine wpIn_block ?_
    refine wpIn_region_heldP (S := fun w9 => w9.cell? ⟨w.heap.size, 0, none⟩ = some (.int .i64 (N : Int))) (by rintro ⟨_, _, h9⟩; exact h9) (fun _ => trivial) (by kernel_rfl) (by kernel_rfl) (HSC.out _ (Below.refl _ W).drew) (fun hH0 => ?_)
    refine wpAnyH_take (i := 1) (oi := { dst := some 15, op := Op.move (Operand.tmp 6), type := 3, pos := "l07_place.go:49", after := #[], guard := none }) (v := .int .i64 (b : Int)) rfl (by kernel_rfl) (by kernel_rfl) (by kernel_rfl) (fun _ _ _ h => h) (Or.inl ⟨by kernel_rfl, ?_⟩) (by exact hH0) ?_
    focus
      intro w9 hSw
      (try dsimp only at hSw)
      go_simp
      (try rw [HQ.out])
      (try rw [HR2.out])
      (try with_reducible rfl)
      (try (rw [if_neg hNz]; simp))
      (try rfl)
      (try exact HWR.out)
      done
    try dsimp only [Act.put, List.setIfInBounds_toArray, List.set_cons_zero, List.set_cons_succ]
    refine wpAnyH_take (i := 2) (oi := { dst := some 16, op := Op.fieldAddr 26 (Operand.tmp 2) 0, type := 0, pos := "l07_place.go:49", after := #[], guard := none }) (v := ?_) rfl (by kernel_rfl) (by kernel_rfl) (by kernel_rfl) (fun _ _ _ h => h) (Or.inl ⟨by kernel_rfl, ?_⟩) (by exact hH0) ?_
    rotate_left
    focus
      intro w9 hSw
      (try dsimp only at hSw)
      go_simp
      (try rw [HQ.out])
      (try rw [HR2.out])
      (try with_reducible rfl)
      (try (rw [if_neg hNz]; simp))
      (try rfl)
      (try exact HWR.out)
      done
    try dsimp only [Act.put, List.setIfInBounds_toArray, List.set_cons_zero, List.set_cons_succ]
    refine wpAnyH_take (i := 3) (oi := { dst := some 17, op := Op.load 3 (Operand.tmp 16), type := 3, pos := "l07_place.go:49", after := #[{ on := 2, ground := Ground.data }], guard := none }) (v := ?_) rfl (by kernel_rfl) (by kernel_rfl) (by kernel_rfl) (fun _ _ _ h => h) (Or.inl ⟨by kernel_rfl, ?_⟩) (by exact hH0) ?_
    rotate_left
    focus
      intro w9 hSw
      (try dsimp only at hSw)
      go_simp
      (try rw [HQ.out])
      (try rw [HR2.out])
      (try with_reducible rfl)
      (try (rw [if_neg hNz]; simp))
      (try rfl)
      (try exact HWR.out)
      done
    try dsimp only [Act.put, List.setIfInBounds_toArray, List.set_cons_zero, List.set_cons_succ]
    refine wpAnyH_take (i := 4) (oi := { dst := some 18, op := Op.binOp BinOp.rem 3 (Operand.tmp 15) (Operand.tmp 17) 3, type := 3, pos := "l07_place.go:49", after := #[{ on := 1, ground := Ground.data }, { on := 3, ground := Ground.data }], guard := none }) (v := .int .i64 ((b % N : Nat) : Int)) rfl (by kernel_rfl) (by kernel_rfl) (by kernel_rfl) (fun _ _ _ h => h) (Or.inl ⟨by kernel_rfl, ?_⟩) (by exact hH0) ?_
    focus
      intro w9 hSw
      (try dsimp only at hSw)
      go_simp
      (try rw [HQ.out])
      (try rw [HR2.out])
      (try with_reducible rfl)
      (try (rw [if_neg hNz]; simp))
      (try rfl)
      (try exact HWR.out)
      done
    try dsimp only [Act.put, List.setIfInBounds_toArray, List.set_cons_zero, List.set_cons_succ]
    refine wpAnyH_take (i := 5) (oi := { dst := some 19, op := Op.move (Operand.tmp 6), type := 3, pos := "l07_place.go:49", after := #[], guard := none }) (v := ?_) rfl (by kernel_rfl) (by kernel_rfl) (by kernel_rfl) (fun _ _ _ h => h) (Or.inl ⟨by kernel_rfl, ?_⟩) (by exact hH0) ?_
    rotate_left
    focus
      intro w9 hSw
      (try dsimp only at hSw)
      go_simp
      (try rw [HQ.out])
      (try rw [HR2.out])
      (try with_reducible rfl)
      (try (rw [if_neg hNz]; simp))
      (try rfl)
      (try exact HWR.out)
      done
    try dsimp only [Act.put, List.setIfInBounds_toArray, List.set_cons_zero, List.set_cons_succ]
    refine wpAnyH_take (i := 6) (oi := { dst := some 20, op := Op.fieldAddr 26 (Operand.tmp 2) 0, type := 0, pos := "l07_place.go:49", after := #[], guard := none }) (v := ?_) rfl (by kernel_rfl) (by kernel_rfl) (by kernel_rfl) (fun _ _ _ h => h) (Or.inl ⟨by kernel_rfl, ?_⟩) (by exact hH0) ?_
    rotate_left
    focus
      intro w9 hSw
      (try dsimp only at hSw)
      go_simp
      (try rw [HQ.out])
      (try rw [HR2.out])
      (try with_reducible rfl)
      (try (rw [if_neg hNz]; simp))
      (try rfl)
      (try exact HWR.out)
      done
    try dsimp only [Act.put, List.setIfInBounds_toArray, List.set_cons_zero, List.set_cons_succ]
    refine wpAnyH_take (i := 7) (oi := { dst := some 21, op := Op.load 3 (Operand.tmp 20), type := 3, pos := "l07_place.go:49", after := #[{ on := 6, ground := Ground.data }], guard := none }) (v := ?_) rfl (by kernel_rfl) (by kernel_rfl) (by kernel_rfl) (fun _ _ _ h => h) (Or.inl ⟨by kernel_rfl, ?_⟩) (by exact hH0) ?_
    rotate_left
    focus
      intro w9 hSw
      (try dsimp only at hSw)
      go_simp
      (try rw [HQ.out])
      (try rw [HR2.out])
      (try with_reducible rfl)
      (try (rw [if_neg hNz]; simp))
      (try rfl)
      (try exact HWR.out)
      done
    try dsimp only [Act.put, List.setIfInBounds_toArray, List.set_cons_zero, List.set_cons_succ]
    refine wpAnyH_take (i := 8) (oi := { dst := some 22, op := Op.binOp BinOp.quo 3 (Operand.tmp 19) (Operand.tmp 21) 3, type := 3, pos := "l07_place.go:49", after := #[{ on := 5, ground := Ground.data }, { on := 7, ground := Ground.data }], guard := none }) (v := .int .i64 ((b / N : Nat) : Int)) rfl (by kernel_rfl) (by kernel_rfl) (by kernel_rfl) (fun _ _ _ h => h) (Or.inl ⟨by kernel_rfl, ?_⟩) (by exact hH0) ?_
    focus
      intro w9 hSw
      (try dsimp only at hSw)
      go_simp
      (try rw [HQ.out])
      (try rw [HR2.out])
      (try with_reducible rfl)
      (try (rw [if_neg hNz]; simp))
      (try rfl)
      (try exact HWR.out)
      done
    try dsimp only [Act.put, List.setIfInBounds_toArray, List.set_cons_zero, List.set_cons_succ]
    refine wpAnyH_take (i := 9) (oi := { dst := some 23, op := Op.build 40 #[(0, Operand.tmp 18), (1, Operand.tmp 22)], type := 40, pos := "l07_place.go:49", after := #[{ on := 4, ground := Ground.data }, { on := 8, ground := Ground.data }], guard := none }) (v := .agg #[.int .i64 ((b % N : Nat) : Int), .int .i64 ((b / N : Nat) : Int)]) rfl (by kernel_rfl) (by kernel_rfl) (by kernel_rfl) (fun _ _ _ h => h) (Or.inl ⟨by kernel_rfl, ?_⟩) (by exact hH0) ?_
    focus
      intro w9 hSw
      (try dsimp only at hSw)
      go_simp
      (try rw [HQ.out])
      (try rw [HR2.out])
      (try with_reducible rfl)
      (try (rw [if_neg hNz]; simp))
      (try rfl)
      (try exact HWR.out)
      done
    try dsimp only [Act.put, List.setIfInBounds_toArray, List.set_cons_zero, List.set_cons_succ]
    refine wpAnyH_ready (rs := [0, 10]) (by kernel_rfl) (by simp) ?_
    refine AllReadyH.cons (o := { dst := some 14, op := Op.load 27 (Operand.tmp 5), type := 27, pos := "l07_place.go:49", after := #[], guard := none }) rfl (fun K hK => ?_) ?_
    rotate_left
    refine AllReadyH.cons (o := { dst := some 24, op := Op.buildSlice 27 1 #[(0, Operand.tmp 23)], type := 27, pos := "l07_place.go:49", after := #[{ on := 9, ground := Ground.data }], guard := none }) rfl (fun K hK => ?_) AllReadyH.nil
    go_simp
    refine hK.out _ _ (HSC.out _ ((Below.refl _ W).drew.alloc hB2.size _)) (fun hH1 => ?_)
    try dsimp only [Act.put, List.setIfInBounds_toArray, List.set_cons_zero, List.set_cons_succ]
    refine wpAnyH_ready (rs := [0]) (by kernel_rfl) (by simp) ?_
    refine AllReadyH.cons (o := { dst := some 14, op := Op.load 27 (Operand.tmp 5), type := 27, pos := "l07_place.go:49", after := #[], guard := none }) rfl (fun K hK => ?_) AllReadyH.nil
    go_simp
    refine hK.out _ _ hH1 (fun hH2 => ?_)
    try dsimp only [Act.put, List.setIfInBounds_toArray, List.set_cons_zero, List.set_cons_succ]
    refine wpAnyH_ready (rs := [11]) (by kernel_rfl) (by simp) ?_
    refine AllReadyH.cons (o := { dst := some 25, op := Op.call { callee := Callee.builtin Builtin.append, args := #[Operand.tmp 14, Operand.tmp 24], argTypes := #[27, 27] }, type := 27, pos := "l07_place.go:49", after := #[{ on := 0, ground := Ground.data }, { on := 10, ground := Ground.data }], guard := none }) rfl (fun K hK => ?_) AllReadyH.nil
    refine step_cellsV rfl (.tmp 14) (.tmp 24) rfl W1.heap.size pre.length v (cF N pre) ⟨W.heap.size, 0, none⟩ 1 1 [cAt N b] rfl rfl (hrow.drew.alloc _) rfl (lies_block (t := 40) (fr := (0, 0)) (heap_alloc_new _ _)) (by omega) (by have := hB2.size; simp; omega) ?_
    intro v2 w3 hown2 hgrow
    obtain ⟨g2, cap2, rfl⟩ := ownsRow_succ hown2
    obtain ⟨hv1, hv2, hr2, hk2, hb2⟩ := Boxed.appended (W := W.drew) hv (by decide) hrow.drew hB2.size (Nat.le_refl _) hown2 hgrow
    have hc1 := hv1.cell
    have hf1 := hv1.frozen
    have hbk := HBK.out _ _ hgrow
    refine hK.out _ _ (HSC.out _ hbk) (fun hH3 => ?_)
    try dsimp only [Act.put, List.setIfInBounds_toArray, List.set_cons_zero, List.set_cons_succ]
    refine wpAnyH_ready (rs := [12]) (by kernel_rfl) (by simp) ?_
    refine AllReadyH.cons (o := { dst := none, op := Op.store 27 (Operand.tmp 5) (Operand.tmp 25), type := 0, pos := "l07_place.go:49", after := #[{ on := 11, ground := Ground.data }, { on := 11, ground := Ground.chain }, { on := 0, ground := Ground.phase }, { on := 1, ground := Ground.phase }, { on := 2, ground := Ground.phase }, { on := 3, ground := Ground.phase }, { on := 4, ground := Ground.phase }, { on := 5, ground := Ground.phase }, { on := 6, ground := Ground.phase }, { on := 7, ground := Ground.phase }, { on := 8, ground := Ground.phase }, { on := 9, ground := Ground.phase }, { on := 10, ground := Ground.phase }, { on := 11, ground := Ground.phase }], guard := none }) rfl (fun K hK => ?_) AllReadyH.nil
    go_simp
    refine hK.out _ _ (HSC.out _ ((Below.refl _ W).drew.trans hb2)) (fun hH4 => ?_)
    try dsimp only [Act.put, List.setIfInBounds_toArray, List.set_cons_zero, List.set_cons_succ]
    refine wpAnyH_done (by kernel_rfl) ?_ _
    refine ⟨((KeepsOthers.drew W).trans hk2).from _, (Below.refl _ W).drew.trans hb2, ⟨_, hv2, ?_, trivial⟩, hB2.trans ((Below.refl _ W).drew.trans hb2)⟩
    rw [cF_snoc, List.length_append]
    exact hr2
    --PATHA
    go_simp
    refine hK.out _ _ hH0 (fun hH1 => ?_)
    try dsimp only [Act.put, List.setIfInBounds_toArray, List.set_cons_zero, List.set_cons_succ]
    refine wpAnyH_ready (rs := [10]) (by kernel_rfl) (by simp) ?_
    refine AllReadyH.cons (o := { dst := some 24, op := Op.buildSlice 27 1 #[(0, Operand.tmp 23)], type := 27, pos := "l07_place.go:49", after := #[{ on := 9, ground := Ground.data }], guard := none }) rfl (fun K hK => ?_) AllReadyH.nil
    go_simp
    refine hK.out _ _ (HSC.out _ ((Below.refl _ W).drew.alloc hB2.size _)) (fun hH2 => ?_)
    try dsimp only [Act.put, List.setIfInBounds_toArray, List.set_cons_zero, List.set_cons_succ]
    refine wpAnyH_ready (rs := [11]) (by kernel_rfl) (by simp) ?_
    refine AllReadyH.cons (o := { dst := some 25, op := Op.call { callee := Callee.builtin Builtin.append, args := #[Operand.tmp 14, Operand.tmp 24], argTypes := #[27, 27] }, type := 27, pos := "l07_place.go:49", after := #[{ on := 0, ground := Ground.data }, { on := 10, ground := Ground.data }], guard := none }) rfl (fun K hK => ?_) AllReadyH.nil
    refine step_cellsV rfl (.tmp 14) (.tmp 24) rfl W1.heap.size pre.length v (cF N pre) ⟨W.heap.size, 0, none⟩ 1 1 [cAt N b] rfl rfl (hrow.drew.alloc _) rfl (lies_block (t := 40) (fr := (0, 0)) (heap_alloc_new _ _)) (by omega) (by have := hB2.size; simp; omega) ?_
    intro v2 w3 hown2 hgrow
    obtain ⟨g2, cap2, rfl⟩ := ownsRow_succ hown2
    obtain ⟨hv1, hv2, hr2, hk2, hb2⟩ := Boxed.appended (W := W.drew) hv (by decide) hrow.drew hB2.size (Nat.le_refl _) hown2 hgrow
    have hc1 := hv1.cell
    have hf1 := hv1.frozen
    have hbk := HBK.out _ _ hgrow
    refine hK.out _ _ (HSC.out _ hbk) (fun hH3 => ?_)
    try dsimp only [Act.put, List.setIfInBounds_toArray, List.set_cons_zero, List.set_cons_succ]
    refine wpAnyH_ready (rs := [12]) (by kernel_rfl) (by simp) ?_
    refine AllReadyH.cons (o := { dst := none, op := Op.store 27 (Operand.tmp 5) (Operand.tmp 25), type := 0, pos := "l07_place.go:49", after := #[{ on := 11, ground := Ground.data }, { on := 11, ground := Ground.chain }, { on := 0, ground := Ground.phase }, { on := 1, ground := Ground.phase }, { on := 2, ground := Ground.phase }, { on := 3, ground := Ground.phase }, { on := 4, ground := Ground.phase }, { on := 5, ground := Ground.phase }, { on := 6, ground := Ground.phase }, { on := 7, ground := Ground.phase }, { on := 8, ground := Ground.phase }, { on := 9, ground := Ground.phase }, { on := 10, ground := Ground.phase }, { on := 11, ground := Ground.phase }], guard := none }) rfl (fun K hK => ?_) AllReadyH.nil
    go_simp
    refine hK.out _ _ (HSC.out _ ((Below.refl _ W).drew.trans hb2)) (fun hH4 => ?_)
    try dsimp only [Act.put, List.setIfInBounds_toArray, List.set_cons_zero, List.set_cons_succ]
    refine wpAnyH_done (by kernel_rfl) ?_ _
    refine ⟨((KeepsOthers.drew W).trans hk2).from _, (Below.refl _ W).drew.trans hb2, ⟨_, hv2, ?_, trivial⟩, hB2.trans ((Below.refl _ W).drew.trans hb2)⟩
    rw [cF_snoc, List.length_append]
    exact hr2
  case done =>
    rintro D ys W hD rfl ⟨⟨v, hv, hrow, -⟩, hB2⟩ hK
    have hc := hv.cell
    gi_wp2
    refine ⟨by simp, .inl ⟨_, _, rfl, run_takeDeferred hK, ?_⟩⟩
    rw [HO.out]
    refine ⟨_, results_tmp rfl _ _ _, v, rfl, ?_, ?_⟩
    · have := ownsRow_putObj hrow (.deferred none) hK rfl
      rw [show (cF N (bitF q)).length = (bitF q).length from by simp [cF]]
      exact own_base this hb1.size
    · exact hb1.trans ((hB2.trans (belowK_b (w := W1) (Nat.le_refl _) W D _ _ (by simp at hD; omega) hK rfl rfl)).mono hb1.size)
  case stop =>
    rintro D c pre W _ _ h _
    exact h.elim

set_option maxHeartbeats 1000000 in
theorem iCellsM (B n cap : Nat) (a : Option Addr) (W : Int) (l : List Int) (m : Int) (w : World) (h1 : -9223372036854775808 ≤ m) (h2 : m ≤ 9223372036854775807) (hn : n ≤ 4194304) (hc : IntsAt B w a n l) (hB : B ≤ w.heap.size) (hT : Tz w) :
    Calls Tryz.prog 17 #[.agg #[.int .i64 W, .slice a n cap], .int .i64 m] w (GivesVC w (cellsM W l m)) := by
  cases h : okM W l m with
  | false =>
    have HI := Lib.hid h
    have HO := Lib.hid (cellsM_no h)
    have H := Lib.hid hc
    have hb0 := (Below.refl w.heap.size w).alloc (Nat.le_refl _) (.cells #[.int .i64 W, .slice a n cap] 26)
    clear h hc
    go_enter Tryz.func17, Tryz.ntmps17
    go_wp2_with fail
    refine (iIsMask B n cap a W l m _ h1 h2 hn (H.out.on (hb0.mono hB)) (Nat.le_trans hB hb0.size)).mono ?_
    rintro e w' ⟨rfl, hb⟩
    rw [HI.out]
    go_wp2
    go_ret
    rw [HO.out]
    exact ⟨_, rfl, World.ownsRow_nil _ _ _ _, hb0.trans (hb.mono hb0.size)⟩
  | true =>
    obtain ⟨N, M, q, rfl, rfl, hr⟩ := okM_reg h
    have hM : M = n := by rw [← hr.len, hc.1]
    subst hM
    exact callsIn_wide.1 (iCellsM_in 3 (Nat.le_refl _) B M cap a N q l w h hr hn hc hB hT)
end

end Go.Proofs.YtailmmamgnebhaaGreatDoor
