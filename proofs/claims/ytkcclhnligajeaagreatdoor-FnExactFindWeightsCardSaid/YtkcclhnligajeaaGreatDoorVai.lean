/-
  The bits of a mask one by one: the library's count of trailing zeros, the iterator: what the calls give.
  Whether a number is a mask of cells of a region, in the program; the cells of a mask: what is known of them.
  Slices of shapes that the call owns, each shape's memory the call's own and apart from the others'.
  Weights, the plain facts: vectors that rows weigh 0 modulo a prime; what elimination keeps of them; why the reduced answers are one alone.
-/
import Derived.Test.YtkcclhnligajeaaGreatDoorVag
import Derived.Test.YtkcclhnligajeaaGreatDoorVah
import Derived.RangeFuncNested
import Derived.RangeFuncBound
import Derived.RangeFuncBox
import Derived.RangeFuncCalls
import Derived.RangeFuncLeaves
import Derived.Shelf.Abstract
import Derived.Shelf.RegionOpen
import Derived.WalkKit
import Derived.OwnWalkIn
import Derived.TacticsInMore
import Derived.LoopNIn
import Derived.LoopIn
import Derived.Maps.AppendAt
import Derived.Shelf.Spec.TrailingZeros
import Derived.Test.YtkcclhnligajeaaGreatDoorVaa
import Derived.Test.YtkcclhnligajeaaGreatDoorVab
import Derived.Test.YtkcclhnligajeaaGreatDoorVac
import Derived.Test.YtkcclhnligajeaaGreatDoorPur
namespace Go.Proofs.YtkcclhnligajeaaGreatDoor

section
open Go.RowKit Go.Shelf

attribute [local go_sem] Oper.semAt_some

abbrev gDB : Nat := 1
/-- The library's table, where it lies. -/
def Tz (w : World) : Prop := TabAt gDB Lib.deBruijn64tab w ∧ gDB < w.heap.size
theorem Tz.on {B : Nat} {w w' : World} (h : Tz w) (hb : Below B w w') (hB : gDB < B) : Tz w' :=
  ⟨fun j hj => (hb.cell (p := ⟨gDB, j, none⟩) hB).trans (h.1 j hj), Nat.lt_of_lt_of_le h.2 hb.size⟩

set_option maxHeartbeats 1000000 in
set_option maxRecDepth 100000 in
theorem tz_core (x k idx : Nat) (w : World) (hx0 : ((x : Int) == 0) = false)
    (key : IntKind.u64.wrap (bits BinOp.and IntKind.u64 (x : Int) (IntKind.u64.wrap (-(x : Int))) * 285870213051353865) / 288230376151711744 = (idx : Int))
    (hi : idx < 64) (hk : k < 64) (hcell : w.cell? ⟨gDB, idx, none⟩ = some (.int .u8 k)) :
    Calls Tryz.prog 146 #[.int .u64 x] w fun e w' => e = .returned (.int .i64 k) ∧ w' = w := by
  go_enter Tryz.func146, Tryz.ntmps146
  go_wp2_with (simp only [key])
  go_ret
  exact ⟨rfl, rfl⟩
theorem iTz64 (x : Nat) (hx0 : x ≠ 0) (hx : x < 9223372036854775808) (w : World) (hT : Tz w) :
    Calls Tryz.prog 146 #[.int .u64 x] w fun e w' => e = .returned (.int .i64 (Lib.ctz 64 x : Nat)) ∧ w' = w := by
  obtain ⟨hlow, hk⟩ := Lib.lowest_bit 64 x hx0 (by omega)
  obtain ⟨hi, htab⟩ := Lib.deBruijn64_at _ hk
  have hcell := hT.1 _ hi
  rw [htab] at hcell
  exact tz_core x _ _ w (by simp; omega) (tz64_key x _ (by omega) hx0 hlow) hi hk hcell
theorem iTz (x : Nat) (hx0 : x ≠ 0) (hx : x < 9223372036854775808) (w : World) (hT : Tz w) :
    Calls Tryz.prog 107 #[.int .u64 x] w fun e w' => e = .returned (.int .i64 (Lib.ctz 64 x : Nat)) ∧ w' = w := by
  have hw : IntKind.u64.wrap (x : Int) = (x : Int) := by rw [IntKind.wrap_u64]; omega
  go_enter Tryz.func107, Tryz.ntmps107
  go_wp2_with fail
  refine (iTz64 x hx0 hx w hT).mono ?_
  rintro e w' ⟨rfl, rfl⟩
  go_wp2
  go_ret
  exact ⟨rfl, rfl⟩

/-- A number below 64: what a round is handed. -/
abbrev B64 := { x : Nat // x < 64 }
def of64 (x : Nat) : B64 := ⟨x % 64, Nat.mod_lt _ (by decide)⟩
def bitF (m : Nat) : List B64 := (bitL m).map of64
theorem of64_val {x : Nat} (h : x < 64) : (of64 x).1 = x := Nat.mod_eq_of_lt h
theorem bitL_lt {m x : Nat} (h : x ∈ bitL m) : x < 64 := by
  unfold bitL at h
  have := (List.mem_filter.1 h).1
  simpa using this
theorem bitF_val (m : Nat) : (bitF m).map (·.1) = bitL m := by
  unfold bitF
  rw [List.map_map]
  conv => rhs; rw [← List.map_id (bitL m)]
  apply List.map_congr_left
  intro x hx
  exact of64_val (bitL_lt hx)
theorem bitF_zero : bitF 0 = [] := by unfold bitF; rw [bitL_zero]; rfl
theorem bitF_cons {k : Nat} (h0 : k ≠ 0) (h : k < 9223372036854775808) : bitF k = of64 (Lib.ctz 64 k) :: bitF (k &&& (k - 1)) := by
  unfold bitF
  rw [bitL_cons h0 (by omega)]
  rfl
theorem bitF_len (m : Nat) : (bitF m).length ≤ 64 := by
  unfold bitF
  rw [List.length_map]
  unfold bitL
  have := List.length_filter_le m.testBit (List.range 64)
  simpa using this

theorem iBitsOf (m : Int) (w : World) :
    Calls Tryz.prog 76 #[.int .i64 m] w fun e w' => e = .returned (.func (.func 120) #[] #[.pointer (some ⟨w.heap.size, 0, none⟩)]) ∧ w' = w.alloc (.cells #[.int .i64 m] 3) := by
  go_enter Tryz.func76, Tryz.ntmps76
  go_wp2
  go_ret
  exact ⟨rfl, rfl⟩

set_option maxRecDepth 100000 in
set_option maxHeartbeats 1000000 in
theorem iBits1 (n : Nat) (hn : 1 ≤ n) (l Bn n₀ m : Nat) (hm : m < 9223372036854775808) (J Jx : List B64 → World → Prop)
    (hY : ∀ pre x W, J pre W → pre.length < (bitF m).length → YieldAt Fence.wide (n - 1) Tryz.prog l #[.int .i64 (x.1 : Int)] W fun e W' =>
      (e = .returned (.bool true) ∧ J (pre ++ [x]) W' ∧ Below n₀ W W') ∨ (e = .returned (.bool false) ∧ Jx (pre ++ [x]) W'))
    (W : World) (hBn : W.cell? ⟨Bn, 0, none⟩ = some (.int .i64 m)) (hT : Tz W) (hTn : gDB < n₀) (h0 : J [] W) :
    CallsIn Fence.wide n Tryz.prog 120 #[.func (.yield l) #[] #[], .pointer (some ⟨Bn, 0, none⟩)] W fun e W' => (∃ v, e = .returned v) ∧
      ((∃ ys, ys = bitF m ∧ J ys W') ∨ (∃ pre, pre <+: bitF m ∧ Jx pre W')) := by
  refine callsIn_of_wp Tryz.func120 rfl trivial ?_ rfl
  simp only [Tryz.ntmps120, List.size_toArray, List.length_cons, List.length_nil, Nat.reduceAdd, Nat.reduceSub, Array.replicate_succ, Array.replicate_zero, List.push_toArray, List.append_toArray, List.nil_append, List.cons_append]
  gi_wp2
  gi_loopw [3] (fun p wr => ∃ (pre : List B64) (k : Nat), p = .int .i64 (k : Int) ∧ k ≤ m ∧ bitF m = pre ++ bitF k ∧ J pre wr ∧ Tz wr) (fun p _ => (bitF (intOf p).toNat).length)
  case atStart => exact ⟨[], m, rfl, Nat.le_refl _, rfl, h0, hT⟩
  case round =>
    obtain ⟨pre, k, rfl, hk, hx, hJs, hTr⟩ := hrel
    by_cases hk0 : k = 0
    · subst hk0
      rw [bitF_zero, List.append_nil] at hx
      gi_wp2
      go_end0
      exact ⟨⟨_, rfl⟩, .inl ⟨pre, hx.symm, hJs⟩⟩
    · have hne : ((k : Int) != 0) = true := by rw [bne_iff_ne]; omega
      have hcons := bitF_cons hk0 (by omega)
      rw [hcons] at hx
      have ht64 : Lib.ctz 64 k < 64 := (low_bit hk0 (by omega)).2.1
      obtain ⟨fn, tmps, assign, body, hy, hR⟩ := hY pre (of64 (Lib.ctz 64 k)) wr hJs (by rw [hx]; simp)
      rw [of64_val ht64] at hy
      have hw : IntKind.u64.wrap (k : Int) = (k : Int) := by rw [IntKind.wrap_u64]; omega
      have hand : bits .and .i64 (k : Int) ((k : Int) - 1) = ((k &&& (k - 1) : Nat) : Int) := by
        rw [show (k : Int) - 1 = ((k - 1 : Nat) : Int) by omega]
        exact i64_and_nat _ _ (by omega) (by omega)
      have hle : k &&& (k - 1) ≤ k := Nat.and_le_left
      have hcall := iTz k hk0 (by omega) wr hTr
      have HX := Lib.hid hx
      have HC := Lib.hid hcons
      clear hx hcons
      generalize Lib.ctz 64 k = t at *
      generalize k &&& (k - 1) = k2 at *
      gi_wp2
      refine ⟨trivial, (callsIn_wide.2 hcall).mono ?_⟩
      rintro e w' ⟨rfl, rfl⟩
      gi_wp2
      refine hR.mono ?_
      rintro e W3 (⟨rfl, hJ3, hk3⟩ | ⟨rfl, hJx3⟩)
      · have hT3 := hTr.on hk3 hTn
        gi_wp2
        go_roundw
        case rel => exact ⟨pre ++ [of64 t], k2, rfl, by omega, by rw [HX.out]; simp, hJ3, hT3⟩
        case measure => simp only [intOf]; rw [Int.toNat_natCast, Int.toNat_natCast, HC.out]; simp
      · gi_wp2
        refine bodyPost_ret (results_none rfl _ _ _) rfl ?_
        exact ⟨⟨_, rfl⟩, .inr ⟨pre ++ [of64 t], ⟨bitF k2, by rw [HX.out]; simp⟩, hJx3⟩⟩

theorem iBits_stops (n : Nat) (hn : 1 ≤ n) (Bn n₀ m : Nat) (hm : m < 9223372036854775808) (w : World) (hBn : Bn < w.heap.size) (hn₀ : n₀ ≤ w.heap.size)
    (hc : w.cell? ⟨Bn, 0, none⟩ = some (.int .i64 m)) (hT : Tz w) (hTn : gDB < n₀) :
    SeqStopsK Fence.wide n Tryz.prog 120 #[.pointer (some ⟨Bn, 0, none⟩)] (fun x : B64 => #[Value.int .i64 (x.1 : Int)]) (Below n₀) (fun ys => ys = bitF m) (fun pre => pre <+: bitF m) (bitF m).length w := fun l J Jx W hW _ _ hY h0 =>
  iBits1 n hn l Bn n₀ m hm J Jx hY W ((hW.cell (p := ⟨Bn, 0, none⟩) hBn).trans hc) (hT.on hW (by omega)) hTn h0
end

section
open Go.RowKit

theorem andN_zeroB {m k : Nat} (hm : m < 9223372036854775808) (hk : k < 9223372036854775808) : (bits .andNot .i64 (m : Int) (k : Int) == 0) = decide (m &&& k = m) := by
  have h1 : (BitVec.ofInt 64 (m : Int)).toNat = m := ofInt_i64 m hm
  have h2 : (BitVec.ofInt 64 (k : Int)).toNat = k := ofInt_i64 k hk
  have hx : (BitVec.ofInt 64 (m : Int) &&& ~~~(BitVec.ofInt 64 (k : Int))).toNat ≤ m := by
    rw [BitVec.toNat_and, h1]
    exact Nat.and_le_left
  have key : (BitVec.ofInt 64 (m : Int) &&& ~~~(BitVec.ofInt 64 (k : Int))).toNat = 0 ↔ m &&& k = m := by
    constructor
    · intro h
      apply Nat.eq_of_testBit_eq
      intro i
      rw [Nat.testBit_and]
      cases hb : m.testBit i with
      | false => rfl
      | true =>
        have hi : i < 64 := by
          apply Nat.lt_of_not_le
          intro hle
          have : m < 2 ^ i := Nat.lt_of_lt_of_le hm (Nat.le_trans (by decide : 9223372036854775808 ≤ 2 ^ 64) (Nat.pow_le_pow_right (by omega) hle))
          rw [Nat.testBit_lt_two_pow this] at hb
          cases hb
        have h3 : (BitVec.ofInt 64 (m : Int) &&& ~~~(BitVec.ofInt 64 (k : Int))).toNat.testBit i = false := by rw [h]; exact Nat.zero_testBit i
        rw [← BitVec.getLsbD, BitVec.getLsbD_and, BitVec.getLsbD_not] at h3
        have h4 : (BitVec.ofInt 64 (m : Int)).getLsbD i = true := by rw [BitVec.getLsbD, h1]; exact hb
        have h5 : (BitVec.ofInt 64 (k : Int)).getLsbD i = k.testBit i := by rw [BitVec.getLsbD, h2]
        rw [h4, h5] at h3
        simpa [hi] using h3
    · intro h
      apply Nat.eq_of_testBit_eq
      intro i
      rw [Nat.zero_testBit, ← BitVec.getLsbD, BitVec.getLsbD_and, BitVec.getLsbD_not]
      have h4 : (BitVec.ofInt 64 (m : Int)).getLsbD i = m.testBit i := by rw [BitVec.getLsbD, h1]
      have h5 : (BitVec.ofInt 64 (k : Int)).getLsbD i = k.testBit i := by rw [BitVec.getLsbD, h2]
      rw [h4, h5, ← h, Nat.testBit_and]
      cases m.testBit i <;> cases k.testBit i <;> simp
  have e : bits .andNot .i64 (m : Int) (k : Int) = (((BitVec.ofInt 64 (m : Int) &&& ~~~(BitVec.ofInt 64 (k : Int))).toNat : Nat) : Int) := by
    show IntKind.i64.wrap ((BitVec.ofInt 64 (m : Int) &&& ~~~(BitVec.ofInt 64 (k : Int))).toNat : Int) = _
    rw [IntKind.wrap_i64]
    omega
  rw [e]
  by_cases h : m &&& k = m
  · rw [key.2 h]
    simp [h]
  · have : ¬ (BitVec.ofInt 64 (m : Int) &&& ~~~(BitVec.ofInt 64 (k : Int))).toNat = 0 := fun h9 => h (key.1 h9)
    generalize (BitVec.ofInt 64 (m : Int) &&& ~~~(BitVec.ofInt 64 (k : Int))).toNat = z at this
    have h9 : ((z : Int) == 0) = false := by simpa using this
    rw [h9]
    simp [h]
theorem andN_neg {m : Int} {k : Nat} (h1 : -9223372036854775808 ≤ m) (h2 : m < 0) (hk : k < 9223372036854775808) : (bits .andNot .i64 m (k : Int) == 0) = false := by
  have h4 : (BitVec.ofInt 64 m).getLsbD 63 = true := by
    rw [BitVec.getLsbD, BitVec.toNat_ofInt, Nat.testBit_eq_decide_div_mod_eq, decide_eq_true_eq]
    omega
  have h5 : (BitVec.ofInt 64 (k : Int)).getLsbD 63 = false := by
    rw [BitVec.getLsbD, ofInt_i64 k hk]
    exact Nat.testBit_lt_two_pow (by omega)
  have h6 : (BitVec.ofInt 64 m &&& ~~~(BitVec.ofInt 64 (k : Int))).toNat.testBit 63 = true := by
    rw [← BitVec.getLsbD, BitVec.getLsbD_and, BitVec.getLsbD_not, h4, h5]
    rfl
  have h7 := Nat.ge_two_pow_of_testBit h6
  have h8 := (BitVec.ofInt 64 m &&& ~~~(BitVec.ofInt 64 (k : Int))).isLt
  have e : bits .andNot .i64 m (k : Int) = IntKind.i64.wrap ((BitVec.ofInt 64 m &&& ~~~(BitVec.ofInt 64 (k : Int))).toNat : Int) := rfl
  rw [e, IntKind.wrap_i64]
  generalize (BitVec.ofInt 64 m &&& ~~~(BitVec.ofInt 64 (k : Int))).toNat = z at h7 h8
  have h9 : ¬ ((((z : Int) + 9223372036854775808) % 18446744073709551616 - 9223372036854775808) = 0) := by omega
  simpa using h9
theorem okM_and {W : Int} {l : List Int} {m : Int} (hr : isReg W l = true) (h1 : -9223372036854775808 ≤ m) (h2 : m ≤ 9223372036854775807) : (bits .andNot .i64 m ((maskR W l : Nat) : Int) == 0) = okM W l m := by
  have hk := maskR_lt W l
  by_cases h0 : 0 ≤ m
  · obtain ⟨n, rfl⟩ := Int.eq_ofNat_of_zero_le h0
    rw [okM_nat hr]
    exact andN_zeroB (by omega) (by omega)
  · rw [andN_neg h1 (by omega) (by omega), okM_neg h0]
theorem okM_reg {W : Int} {l : List Int} {m : Int} (h : okM W l m = true) : ∃ (N H k : Nat), W = N ∧ m = k ∧ Rg N H l := by
  unfold okM at h
  simp only [Bool.and_eq_true, decide_eq_true_eq] at h
  obtain ⟨N, rfl, hr⟩ := isReg_out h.1
  exact ⟨N, _, m.toNat, rfl, by omega, hr⟩
theorem cellsM_out {W : Int} {l : List Int} {m : Int} {c : Cl} (hc : c ∈ cellsM W l m) : ∃ N : Nat, W = N ∧ inG N l.length c ∧ N ≤ 6 ∧ l.length ≤ 6 := by
  cases h : okM W l m with
  | false => rw [cellsM_no h] at hc; cases hc
  | true =>
    obtain ⟨N, H, k, rfl, rfl, hr⟩ := okM_reg h
    rw [cellsM_yes hr h] at hc
    unfold mcells at hc
    obtain ⟨i, hi, rfl⟩ := List.mem_map.1 hc
    have hlt := List.mem_range.1 (List.mem_filter.1 hi).1
    have e := hr.len
    exact ⟨N, rfl, by rw [e]; exact cAt_in hr.w0 hlt, hr.w6, by rw [e]; exact hr.h6⟩
theorem cellsM_inC (W : Int) (l : List Int) (m : Int) : ∀ c ∈ cellsM W l m, InC c := by
  intro c hc
  obtain ⟨N, _, ⟨⟨h1, h2⟩, h3, h4⟩, h5, h6⟩ := cellsM_out hc
  unfold InC
  have h7 : (N : Int) ≤ 6 := by omega
  have h8 : (l.length : Int) ≤ 6 := by omega
  omega
theorem cellsM_len (W : Int) (l : List Int) (m : Int) : (cellsM W l m).length ≤ 36 := by
  cases h : okM W l m with
  | false => rw [cellsM_no h]; simp
  | true =>
    obtain ⟨N, H, k, rfl, rfl, hr⟩ := okM_reg h
    rw [cellsM_yes hr h]
    exact Nat.le_trans (mcells_len _ _ _) (Nat.mul_le_mul hr.w6 hr.h6)

theorem own_base {w : World} {B B' : Nat} {e : TypeId} {size : Nat} {v : Value} {n : Nat} {xs : List Value} (h : w.ownsRow B' e size v n xs) (hB : B ≤ B') : w.ownsRow B e size v n xs := by
  rcases h.2 with h2 | ⟨g, cap, cur, rfl, hb, hr⟩
  · exact ⟨h.1, .inl h2⟩
  · exact ⟨h.1, .inr ⟨g, cap, cur, rfl, Nat.le_trans hB hb, hr⟩⟩
/-- Cells of the call's own. -/
def GivesVC (w : World) (L : List Cl) (e : Ending) (w' : World) : Prop := ∃ v, e = .returned v ∧ w'.ownsRow w.heap.size 126 2 v L.length (cvs L) ∧ Below w.heap.size w w'

set_option maxHeartbeats 4000000 in
set_option maxRecDepth 100000 in
theorem iIsMask (B n cap : Nat) (a : Option Addr) (W : Int) (l : List Int) (m : Int) (w : World) (h1 : -9223372036854775808 ≤ m) (h2 : m ≤ 9223372036854775807) (hn : n ≤ 4194304) (hc : IntsAt B w a n l) (hB : B ≤ w.heap.size) :
    Calls Tryz.prog 91 #[.agg #[.int .i64 W, .slice a n cap], .int .i64 m] w fun e w' => e = .returned (.bool (okM W l m)) ∧ Below w.heap.size w w' := by
  have H := Lib.hid hc
  clear hc
  have hb0 := (Below.refl w.heap.size w).alloc (Nat.le_refl _) (.cells #[.int .i64 W, .slice a n cap] 26)
  have hbox0 := RgAt.new (w := w) W (.slice a n cap) rfl
  cases h : isReg W l with
  | false =>
    have HO := Lib.hid (okM_no h m)
    have HI := Lib.hid h
    clear h
    go_enter Tryz.func91, Tryz.ntmps91
    go_wp2_with fail
    refine (iIsReg B n cap a W l _ hn (H.out.on (hb0.mono hB)) (Nat.le_trans hB hb0.size)).mono ?_
    rintro e w' ⟨rfl, hb⟩
    rw [HI.out]
    go_wp2
    go_ret
    exact ⟨by rw [HO.out]; rfl, hb0.trans (hb.mono hb0.size)⟩
  | true =>
    have HO := Lib.hid (okM_and h h1 h2)
    have HI := Lib.hid h
    clear h
    go_enter Tryz.func91, Tryz.ntmps91
    go_wp2_with fail
    refine (iIsReg B n cap a W l _ hn (H.out.on (hb0.mono hB)) (Nat.le_trans hB hb0.size)).mono ?_
    rintro e w2 ⟨rfl, hb⟩
    rw [HI.out]
    have hbx := hbox0.on hb hbox0.lt
    have hb2 := hb0.trans (hb.mono hb0.size)
    have c0 := hbx.c0
    have c1 := hbx.c1
    clear hb hb0 hbox0
    go_wp2_with fail
    refine (iMask B n cap a W l w2 hn (H.out.on (hb2.mono hB)) (Nat.le_trans hB hb2.size)).mono ?_
    rintro e w3 ⟨rfl, hb3⟩
    have ho := HO.out
    clear HO
    go_wp2
    go_ret
    exact ⟨by first | rfl | (rw [ho]; rfl) | simp, hb2.trans (hb3.mono hb2.size)⟩
end

section
open Go.RowKit

/-- A shape in memory: its block, its capacity, its cells. -/
abbrev Ent := Nat × Nat × List Cl
def ev (e : Ent) : Value := .slice (some ⟨e.1, 0, none⟩) e.2.2.length e.2.1
def dE : Ent := (0, 0, [])
def kE (e : Ent) : List Cl := e.2.2
def EachS (B : Nat) (w : World) (es : List Ent) : Prop := ∀ e ∈ es, w.ownsRow B 126 2 (ev e) e.2.2.length (cvs e.2.2)
def SmallS (es : List Ent) : Prop := ∀ e ∈ es, e.2.2.length ≤ 4194304 ∧ ∀ c ∈ e.2.2, InC c
def ApartS (es : List Ent) : Prop := es.Pairwise fun e f => e.1 ≠ f.1
def OffS (g : Nat) (es : List Ent) : Prop := ∀ e ∈ es, e.1 ≠ g
theorem ev_block (e : Ent) : (ev e).ownBlock = some e.1 := rfl
theorem EachS.on {B : Nat} {w w' : World} {es : List Ent} (h : EachS B w es) (hb : Below w.heap.size w w') : EachS B w' es := fun e he => (h e he).kept (grow_below hb none) (.inr (by rw [ev_block]; intro e; cases e))
theorem EachS.by {B g : Nat} {w w' : World} {es : List Ent} (h : EachS B w es) (hg : w.grownBy w' (some g)) (hne : OffS g es) : EachS B w' es := fun e he => (h e he).kept hg (.inr (by rw [ev_block]; intro e2; injection e2 with e2; exact hne e he e2))
theorem EachS.sub {B : Nat} {w : World} {es fs : List Ent} (h : EachS B w es) (hs : ∀ e ∈ fs, e ∈ es) : EachS B w fs := fun e he => h e (hs e he)
theorem EachS.less {B B' : Nat} {w : World} {es : List Ent} (h : EachS B w es) (hB : B' ≤ B) : EachS B' w es := fun e he => own_below (h e he) hB
theorem EachS.cells {B : Nat} {w : World} {es : List Ent} (h : EachS B w es) (hs : SmallS es) {e : Ent} (he : e ∈ es) : CellsAt w.heap.size w (some ⟨e.1, 0, none⟩) e.2.2.length e.2.2 := CellsAt.of_own (h e he) (hs e he).2
theorem EachS.lt {B : Nat} {w : World} {es : List Ent} (h : EachS B w es) {e : Ent} (he : e ∈ es) : B ≤ e.1 ∧ e.1 < w.heap.size := (h e he).lt e.1 rfl
theorem ev_one (e : Ent) : (ev e).oneCell' = true := rfl
theorem evs_one (es : List Ent) : ∀ u ∈ es.map ev, u.oneCell' = true := by
  intro u hu
  obtain ⟨e, _, rfl⟩ := List.mem_map.1 hu
  exact ev_one e
theorem evs_get {es : List Ent} {k : Nat} (h : k < es.length) : (es.map ev)[k]? = some (ev (es.getD k dE)) := by simp [List.getD, h]
theorem ent_mem {es : List Ent} {k : Nat} (h : k < es.length) : es.getD k dE ∈ es := by simp [List.getD, h]

/-! ### Rows of values of one cell -/
theorem row1_le {w : World} {B n g cap : Nat} {t : TypeId} {xs : List Value} (h : w.ownsRow B t 1 (.slice (some ⟨g, 0, none⟩) n cap) n xs) : n ≤ cap := by
  rcases h.2 with ⟨e, _⟩ | ⟨g', cap', cur, e, _, _, h1, _⟩
  · cases e
  · injection e with _ _ e3
    omega
theorem row1_take {w : World} {B n g cap k : Nat} {t : TypeId} {xs : List Value} (h : w.ownsRow B t 1 (.slice (some ⟨g, 0, none⟩) n cap) n xs) (hk : k ≤ n) : w.ownsRow B t 1 (.slice (some ⟨g, 0, none⟩) k cap) k (xs.take k) := by
  have hl : xs.length = n := by have := h.1; omega
  rcases h.2 with ⟨e, _⟩ | ⟨g', cap', cur, e, hb, hg, h1, h2, h3, h4⟩
  · cases e
  · injection e with e1 e2 e3
    injection e1 with e1
    injection e1 with e1 _
    subst e1 e3
    refine ⟨by rw [List.length_take]; omega, .inr ⟨g, cap, cur, rfl, hb, hg, by omega, h2, h3, ?_⟩⟩
    rw [← h4, List.take_take]
    congr 1
    omega
theorem row1_far {w : World} {B n g cap o : Nat} {t : TypeId} {xs : List Value} {v : Value} (h : w.ownsRow B t 1 (.slice (some ⟨g, 0, none⟩) n cap) n xs) (ho : n ≤ o) : (w.setCell ⟨g, o, none⟩ v).ownsRow B t 1 (.slice (some ⟨g, 0, none⟩) n cap) n xs := by
  rcases h.2 with ⟨e, _⟩ | ⟨g', cap', cur, e, hb, hg, h1, h2, h3, h4⟩
  · cases e
  · injection e with e1 e2 e3
    injection e1 with e1
    injection e1 with e1 _
    subst e1 e3
    refine ⟨h.1, .inr ⟨g, cap, cur.setIfInBounds o v, rfl, hb, set_row hg o v, h1, h2, by simpa using h3, ?_⟩⟩
    rw [← h4]
    apply List.ext_getElem?
    intro j
    by_cases hj : j < n * 1
    · rw [List.getElem?_take_of_lt hj, List.getElem?_take_of_lt hj, Array.getElem?_toList, Array.getElem?_toList, Array.getElem?_setIfInBounds]
      rw [if_neg (by omega)]
    · rw [List.getElem?_take_eq_none (by omega), List.getElem?_take_eq_none (by omega)]
theorem row1_fars {B n g cap : Nat} {t : TypeId} {xs : List Value} : ∀ (vs : List Value) (o : Nat) (w : World), w.ownsRow B t 1 (.slice (some ⟨g, 0, none⟩) n cap) n xs → n ≤ o → (w.setCells g o vs).ownsRow B t 1 (.slice (some ⟨g, 0, none⟩) n cap) n xs
  | [], _, _, h, _ => h
  | v :: r, o, w, h, ho => row1_fars r (o + 1) _ (row1_far (v := v) h ho) (by omega)
theorem below_sets1 {B g : Nat} {a : World} (hg : B ≤ g) : ∀ (vs : List Value) (o : Nat) (w : World), Below B a w → Below B a (w.setCells g o vs)
  | [], _, _, h => h
  | v :: r, o, _, h => below_sets1 hg r (o + 1) _ (h.setCell (p := ⟨g, o, none⟩) hg v)
theorem grown_sets1 {g : Nat} : ∀ (vs : List Value) (o : Nat) (w : World), w.grownBy (w.setCells g o vs) (some g)
  | [], _, w => World.grownBy.refl _ _
  | v :: r, o, w => by
    have h1 : w.grownBy (w.setCell ⟨g, o, none⟩ v) (some g) := ⟨rfl, rfl, rfl, by simp [World.setCell], fun k hk hne => by
      have : g ≠ k := fun e => hne (by rw [e])
      simp [World.setCell, Array.getElem?_modify, this]⟩
    exact h1.trans (grown_sets1 r (o + 1) _)

/-- A slice of shapes of the call's own. -/
structure OwnS (B : Nat) (w : World) (v : Value) (es : List Ent) : Prop where
  row : w.ownsRow B 76 1 v es.length (es.map ev)
  each : EachS B w es
  apart : ApartS es
  off : ∀ e ∈ es, v.ownBlock ≠ some e.1
theorem OwnS.on {B : Nat} {w w' : World} {v : Value} {es : List Ent} (h : OwnS B w v es) (hb : Below w.heap.size w w') : OwnS B w' v es :=
  ⟨h.row.kept (grow_below hb none) (by cases v.ownBlock with | none => exact .inl rfl | some k => exact .inr (by simp)), h.each.on hb, h.apart, h.off⟩
theorem OwnS.less {B B' : Nat} {w : World} {v : Value} {es : List Ent} (h : OwnS B w v es) (hB : B' ≤ B) : OwnS B' w v es := ⟨own_below h.row hB, h.each.less hB, h.apart, h.off⟩
end

section
/-! ### Sums and weights -/
def sumI : Nat → (Nat → Int) → Int
  | 0, _ => 0
  | n + 1, f => sumI n f + f n
theorem sumI_congr {f g : Nat → Int} : ∀ {n : Nat}, (∀ j, j < n → f j = g j) → sumI n f = sumI n g
  | 0, _ => rfl
  | n + 1, h => by
    show sumI n f + f n = sumI n g + g n
    rw [sumI_congr (n := n) fun j hj => h j (by omega), h n (by omega)]
theorem sumI_zero {f : Nat → Int} : ∀ {n : Nat}, (∀ j, j < n → f j = 0) → sumI n f = 0
  | 0, _ => rfl
  | n + 1, h => by
    show sumI n f + f n = 0
    rw [sumI_zero (n := n) fun j hj => h j (by omega), h n (by omega)]
    rfl
theorem sumI_add (f g : Nat → Int) : ∀ n, sumI n (fun j => f j + g j) = sumI n f + sumI n g
  | 0 => rfl
  | n + 1 => by
    show sumI n (fun j => f j + g j) + (f n + g n) = (sumI n f + f n) + (sumI n g + g n)
    rw [sumI_add f g n]
    omega
theorem sumI_mul (c : Int) (f : Nat → Int) : ∀ n, sumI n (fun j => c * f j) = c * sumI n f
  | 0 => by simp [sumI]
  | n + 1 => by
    show sumI n (fun j => c * f j) + c * f n = c * (sumI n f + f n)
    rw [sumI_mul c f n, Int.mul_add]
theorem sumI_dvd {p : Int} {f : Nat → Int} : ∀ {n : Nat}, (∀ j, j < n → p ∣ f j) → p ∣ sumI n f
  | 0, _ => ⟨0, by simp [sumI]⟩
  | n + 1, h => by
    show p ∣ sumI n f + f n
    exact Int.dvd_add (sumI_dvd fun j hj => h j (by omega)) (h n (by omega))
theorem sumI_one {f : Nat → Int} {k : Nat} : ∀ {n : Nat}, k < n → (∀ j, j < n → j ≠ k → f j = 0) → sumI n f = f k
  | 0, h, _ => by omega
  | n + 1, h, hz => by
    show sumI n f + f n = f k
    by_cases e : k = n
    · subst e
      rw [sumI_zero fun j hj => hz j (by omega) (by omega)]
      omega
    · rw [sumI_one (n := n) (by omega) fun j hj hk => hz j (by omega) hk, hz n (by omega) (fun h9 => e h9.symm)]
      omega
/-- What a row weighs. -/
def dotI (n : Nat) (r w : Nat → Int) : Int := sumI n fun j => r j * w j
theorem dotI_add (n : Nat) (r v w : Nat → Int) : dotI n r (fun j => v j + w j) = dotI n r v + dotI n r w := by
  unfold dotI
  rw [← sumI_add]
  exact sumI_congr fun j _ => Int.mul_add _ _ _
theorem dotI_mul (n : Nat) (c : Int) (r w : Nat → Int) : dotI n r (fun j => c * w j) = c * dotI n r w := by
  unfold dotI
  rw [← sumI_mul]
  exact sumI_congr fun j _ => by rw [← Int.mul_assoc, Int.mul_comm (r j) c, Int.mul_assoc]
/-- Rows that are the same modulo p weigh the same modulo p. -/
theorem dotI_mod {p : Int} {n : Nat} {r r' : Nat → Int} (w : Nat → Int) (h : ∀ j, j < n → p ∣ r j - r' j) : p ∣ dotI n r w - dotI n r' w := by
  have e : dotI n r w = dotI n r' w + sumI n (fun j => (r j - r' j) * w j) := by
    unfold dotI
    rw [← sumI_add]
    exact sumI_congr fun j _ => by rw [Int.sub_mul]; omega
  rw [e, show dotI n r' w + sumI n (fun j => (r j - r' j) * w j) - dotI n r' w = sumI n (fun j => (r j - r' j) * w j) by omega]
  exact sumI_dvd fun j hj => Int.dvd_trans (h j hj) ⟨w j, rfl⟩
theorem dotI_lin (n : Nat) (c : Int) (r s w : Nat → Int) : dotI n (fun j => r j - c * s j) w = dotI n r w - c * dotI n s w := by
  have e : dotI n r w = dotI n (fun j => r j - c * s j) w + c * dotI n s w := by
    unfold dotI
    rw [← sumI_mul, ← sumI_add]
    exact sumI_congr fun j _ => by rw [Int.sub_mul, Int.mul_assoc]; omega
  omega
/-- The vectors that all rows weigh 0. -/
def NulI (p : Int) (n : Nat) (rows : List (Nat → Int)) (w : Nat → Int) : Prop := ∀ r ∈ rows, p ∣ dotI n r w
/-- A row less a multiple of another one. -/
theorem nul_sub {p : Int} {n : Nat} {r s r' w : Nat → Int} {c : Int} (h : ∀ j, j < n → p ∣ r' j - (r j - c * s j)) (hs : p ∣ dotI n s w) : p ∣ dotI n r' w ↔ p ∣ dotI n r w := by
  have h1 := dotI_mod w h
  rw [dotI_lin] at h1
  have h2 : p ∣ c * dotI n s w := Int.dvd_trans hs ⟨c, Int.mul_comm _ _⟩
  constructor
  · intro h3
    have h4 := Int.dvd_add (Int.dvd_sub h3 h1) h2
    rwa [show dotI n r' w - (dotI n r' w - (dotI n r w - c * dotI n s w)) + c * dotI n s w = dotI n r w by omega] at h4
  · intro h3
    have h4 := Int.dvd_add h1 (Int.dvd_sub h3 h2)
    rwa [show dotI n r' w - (dotI n r w - c * dotI n s w) + (dotI n r w - c * dotI n s w) = dotI n r' w by omega] at h4
/-- A row times a number that has an inverse. -/
theorem nul_scale {p : Int} {n : Nat} {r r' w : Nat → Int} {c d : Int} (h : ∀ j, j < n → p ∣ r' j - r j * c) (hcd : p ∣ c * d - 1) : p ∣ dotI n r' w ↔ p ∣ dotI n r w := by
  have h1 := dotI_mod w h
  have e : dotI n (fun j => r j * c) w = c * dotI n r w := by
    unfold dotI
    rw [← sumI_mul]
    exact sumI_congr fun j _ => by show r j * c * w j = c * (r j * w j); rw [Int.mul_comm (r j) c, Int.mul_assoc]
  rw [e] at h1
  constructor
  · intro h3
    have h4 : p ∣ c * dotI n r w := by
      have h5 := Int.dvd_sub h3 h1
      rwa [show dotI n r' w - (dotI n r' w - c * dotI n r w) = c * dotI n r w by omega] at h5
    have h6 : p ∣ d * (c * dotI n r w) := Int.dvd_trans h4 ⟨d, Int.mul_comm _ _⟩
    have h7 : p ∣ (c * d - 1) * dotI n r w := Int.dvd_trans hcd ⟨_, rfl⟩
    have h8 := Int.dvd_sub h6 h7
    have e2 : d * (c * dotI n r w) = c * d * dotI n r w := by rw [← Int.mul_assoc, Int.mul_comm d c]
    rw [e2, Int.sub_mul, Int.one_mul] at h8
    rwa [show c * d * dotI n r w - (c * d * dotI n r w - dotI n r w) = dotI n r w by omega] at h8
  · intro h3
    have h4 := Int.dvd_add h1 (Int.dvd_trans h3 ⟨c, Int.mul_comm _ _⟩ : p ∣ c * dotI n r w)
    rwa [show dotI n r' w - c * dotI n r w + c * dotI n r w = dotI n r' w by omega] at h4

/-! ### The reduced answers are one alone -/
/-- A set of vectors that is closed as the vectors are that rows weigh 0. -/
structure LinI (p : Int) (n : Nat) (N : (Nat → Int) → Prop) : Prop where
  sub : ∀ v w, N v → N w → N fun j => v j - w j
  mul : ∀ c v, N v → N fun j => c * v j
  mod : ∀ v w, (∀ j, j < n → p ∣ v j - w j) → N v → N w
theorem nul_lin (p : Int) (n : Nat) (rows : List (Nat → Int)) : LinI p n (NulI p n rows) := by
  refine ⟨fun v w hv hw r hr => ?_, fun c v hv r hr => ?_, fun v w h hv r hr => ?_⟩
  · have e : dotI n r v = dotI n r (fun j => v j - w j) + dotI n r w := by
      rw [← dotI_add]
      unfold dotI
      exact sumI_congr fun j _ => by show r j * v j = r j * (v j - w j + w j); rw [show v j - w j + w j = v j by omega]
    have h1 := Int.dvd_sub (hv r hr) (hw r hr)
    rwa [show dotI n r v - dotI n r w = dotI n r (fun j => v j - w j) by omega] at h1
  · rw [dotI_mul]
    exact Int.dvd_trans (hv r hr) ⟨c, Int.mul_comm _ _⟩
  · have e : dotI n r v - dotI n r w = sumI n fun j => r j * (v j - w j) := by
      have e2 : dotI n r v = dotI n r w + sumI n fun j => r j * (v j - w j) := by
        unfold dotI
        rw [← sumI_add]
        exact sumI_congr fun j _ => by rw [Int.mul_sub]; omega
      omega
    have h1 : p ∣ dotI n r v - dotI n r w := by
      rw [e]
      exact sumI_dvd fun j hj => Int.dvd_trans (h j hj) ⟨r j, Int.mul_comm _ _⟩
    have h2 := Int.dvd_sub (hv r hr) h1
    rwa [show dotI n r v - (dotI n r v - dotI n r w) = dotI n r w by omega] at h2
/-- Columns without a leading one: a vector has 1 there and 0 behind. -/
def FreI (p : Int) (n : Nat) (N : (Nat → Int) → Prop) (k : Nat) : Prop := k < n ∧ ∃ w, N w ∧ p ∣ w k - 1 ∧ ∀ j, k < j → j < n → p ∣ w j
/-- A vector that is 0 at the columns without a leading one is 0. -/
theorem fre_zero {p : Int} {n : Nat} {N : (Nat → Int) → Prop} (hN : LinI p n N) (hinv : ∀ x : Int, ¬ p ∣ x → ∃ y, p ∣ x * y - 1) {w : Nat → Int} (hw : N w) (hf : ∀ k, FreI p n N k → p ∣ w k) :
    ∀ d, d ≤ n → (∀ j, j < n → n - d ≤ j → p ∣ w j)
  | 0, _, j, h1, h2 => by omega
  | d + 1, h, j, h1, h2 => by
    have ih := fre_zero hN hinv hw hf d (by omega)
    by_cases e : n - d ≤ j
    · exact ih j h1 e
    · obtain rfl : j = n - (d + 1) := by omega
      rcases Classical.em (p ∣ w (n - (d + 1))) with h3 | h3
      · exact h3
      · obtain ⟨y, hy⟩ := hinv _ h3
        refine hf _ ⟨h1, fun j => y * w j, hN.mul y w hw, by show p ∣ y * w (n - (d + 1)) - 1; rw [Int.mul_comm]; exact hy, fun j hj1 hj2 => ?_⟩
        exact Int.dvd_trans (ih j hj2 (by omega)) ⟨y, Int.mul_comm _ _⟩
/-- Two vectors that agree at the columns without a leading one agree. -/
theorem fre_one {p : Int} {n : Nat} {N : (Nat → Int) → Prop} (hN : LinI p n N) (hinv : ∀ x : Int, ¬ p ∣ x → ∃ y, p ∣ x * y - 1) {v w : Nat → Int} (hv : N v) (hw : N w) (h : ∀ k, FreI p n N k → p ∣ v k - w k) :
    ∀ j, j < n → p ∣ v j - w j := fun j hj => fre_zero hN hinv (hN.sub v w hv hw) h n (Nat.le_refl _) j hj (by omega)
theorem mod_inj {p x y : Int} (h : p ∣ x - y) (hx : 0 ≤ x ∧ x < p) (hy : 0 ≤ y ∧ y < p) : x = y := by
  obtain ⟨k, hk⟩ := h
  have h1 : k = 0 := by
    rcases Int.lt_trichotomy k 0 with h | h | h
    · have : p * k ≤ p * (-1) := Int.mul_le_mul_of_nonneg_left (by omega) (by omega)
      omega
    · exact h
    · have : p * 1 ≤ p * k := Int.mul_le_mul_of_nonneg_left (by omega) (by omega)
      omega
  subst h1
  omega
end

end Go.Proofs.YtkcclhnligajeaaGreatDoor
