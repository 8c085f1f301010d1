/-
  The bits of a mask one by one: the library's count of trailing zeros, the iterator: what the calls give.
-/
import Derived.Test.YtghpljoccclmkaaDoorSr1
import Derived.Test.YtghpljoccclmkaaDoorPma
import Derived.RangeFuncNested
import Derived.RangeFuncBound
import Derived.RangeFuncBox
import Derived.RangeFuncCalls
import Derived.RangeFuncLeaves
import Derived.Shelf.Abstract
import Derived.Shelf.RegionOpen
import Derived.WalkKit
import Derived.OwnWalkIn
import Derived.TacticsInMore
import Derived.LoopNIn
import Derived.LoopIn
import Derived.Maps.AppendAt
import Derived.Shelf.Spec.TrailingZeros
namespace Go.Proofs.YtghpljoccclmkaaDoor
open Go.RowKit Go.Shelf

attribute [local go_sem] Oper.semAt_some

abbrev gDB : Nat := 1
/-- The library's table, where it lies. -/
def Tz (w : World) : Prop := TabAt gDB Lib.deBruijn64tab w ∧ gDB < w.heap.size
theorem Tz.on {B : Nat} {w w' : World} (h : Tz w) (hb : Below B w w') (hB : gDB < B) : Tz w' :=
  ⟨fun j hj => (hb.cell (p := ⟨gDB, j, none⟩) hB).trans (h.1 j hj), Nat.lt_of_lt_of_le h.2 hb.size⟩

set_option maxHeartbeats 1000000 in
set_option maxRecDepth 100000 in
theorem tz_core (x k idx : Nat) (w : World) (hx0 : ((x : Int) == 0) = false)
    (key : IntKind.u64.wrap (bits BinOp.and IntKind.u64 (x : Int) (IntKind.u64.wrap (-(x : Int))) * 285870213051353865) / 288230376151711744 = (idx : Int))
    (hi : idx < 64) (hk : k < 64) (hcell : w.cell? ⟨gDB, idx, none⟩ = some (.int .u8 k)) :
    Calls Tryd.prog 33 #[.int .u64 x] w fun e w' => e = .returned (.int .i64 k) ∧ w' = w := by
  go_enter Tryd.func33, Tryd.ntmps33
  go_wp2_with (simp only [key])
  go_ret
  exact ⟨rfl, rfl⟩
theorem iTz64 (x : Nat) (hx0 : x ≠ 0) (hx : x < 9223372036854775808) (w : World) (hT : Tz w) :
    Calls Tryd.prog 33 #[.int .u64 x] w fun e w' => e = .returned (.int .i64 (Lib.ctz 64 x : Nat)) ∧ w' = w := by
  obtain ⟨hlow, hk⟩ := Lib.lowest_bit 64 x hx0 (by omega)
  obtain ⟨hi, htab⟩ := Lib.deBruijn64_at _ hk
  have hcell := hT.1 _ hi
  rw [htab] at hcell
  exact tz_core x _ _ w (by simp; omega) (tz64_key x _ (by omega) hx0 hlow) hi hk hcell
theorem iTz (x : Nat) (hx0 : x ≠ 0) (hx : x < 9223372036854775808) (w : World) (hT : Tz w) :
    Calls Tryd.prog 29 #[.int .u64 x] w fun e w' => e = .returned (.int .i64 (Lib.ctz 64 x : Nat)) ∧ w' = w := by
  have hw : IntKind.u64.wrap (x : Int) = (x : Int) := by rw [IntKind.wrap_u64]; omega
  go_enter Tryd.func29, Tryd.ntmps29
  go_wp2_with fail
  refine (iTz64 x hx0 hx w hT).mono ?_
  rintro e w' ⟨rfl, rfl⟩
  go_wp2
  go_ret
  exact ⟨rfl, rfl⟩

/-- A number below 64: what a round is handed. -/
abbrev B64 := { x : Nat // x < 64 }
def of64 (x : Nat) : B64 := ⟨x % 64, Nat.mod_lt _ (by decide)⟩
def bitF (m : Nat) : List B64 := (bitL m).map of64
theorem of64_val {x : Nat} (h : x < 64) : (of64 x).1 = x := Nat.mod_eq_of_lt h
theorem bitL_lt {m x : Nat} (h : x ∈ bitL m) : x < 64 := by
  unfold bitL at h
  have := (List.mem_filter.1 h).1
  simpa using this
theorem bitF_val (m : Nat) : (bitF m).map (·.1) = bitL m := by
  unfold bitF
  rw [List.map_map]
  conv => rhs; rw [← List.map_id (bitL m)]
  apply List.map_congr_left
  intro x hx
  exact of64_val (bitL_lt hx)
theorem bitF_zero : bitF 0 = [] := by unfold bitF; rw [bitL_zero]; rfl
theorem bitF_cons {k : Nat} (h0 : k ≠ 0) (h : k < 9223372036854775808) : bitF k = of64 (Lib.ctz 64 k) :: bitF (k &&& (k - 1)) := by
  unfold bitF
  rw [bitL_cons h0 (by omega)]
  rfl
theorem bitF_len (m : Nat) : (bitF m).length ≤ 64 := by
  unfold bitF
  rw [List.length_map]
  unfold bitL
  have := List.length_filter_le m.testBit (List.range 64)
  simpa using this

theorem iBitsOf (m : Int) (w : World) :
    Calls Tryd.prog 21 #[.int .i64 m] w fun e w' => e = .returned (.func (.func 28) #[] #[.pointer (some ⟨w.heap.size, 0, none⟩)]) ∧ w' = w.alloc (.cells #[.int .i64 m] 3) := by
  go_enter Tryd.func21, Tryd.ntmps21
  go_wp2
  go_ret
  exact ⟨rfl, rfl⟩

set_option maxRecDepth 100000 in
set_option maxHeartbeats 1000000 in
theorem iBits1 (n : Nat) (hn : 1 ≤ n) (l Bn n₀ m : Nat) (hm : m < 9223372036854775808) (J Jx : List B64 → World → Prop)
    (hY : ∀ pre x W, J pre W → pre.length < (bitF m).length → YieldAt Fence.wide (n - 1) Tryd.prog l #[.int .i64 (x.1 : Int)] W fun e W' =>
      (e = .returned (.bool true) ∧ J (pre ++ [x]) W' ∧ Below n₀ W W') ∨ (e = .returned (.bool false) ∧ Jx (pre ++ [x]) W'))
    (W : World) (hBn : W.cell? ⟨Bn, 0, none⟩ = some (.int .i64 m)) (hT : Tz W) (hTn : gDB < n₀) (h0 : J [] W) :
    CallsIn Fence.wide n Tryd.prog 28 #[.func (.yield l) #[] #[], .pointer (some ⟨Bn, 0, none⟩)] W fun e W' => (∃ v, e = .returned v) ∧
      ((∃ ys, ys = bitF m ∧ J ys W') ∨ (∃ pre, pre <+: bitF m ∧ Jx pre W')) := by
  refine callsIn_of_wp Tryd.func28 rfl trivial ?_ rfl
  simp only [Tryd.ntmps28, List.size_toArray, List.length_cons, List.length_nil, Nat.reduceAdd, Nat.reduceSub, Array.replicate_succ, Array.replicate_zero, List.push_toArray, List.append_toArray, List.nil_append, List.cons_append]
  gi_wp2
  gi_loopw [3] (fun p wr => ∃ (pre : List B64) (k : Nat), p = .int .i64 (k : Int) ∧ k ≤ m ∧ bitF m = pre ++ bitF k ∧ J pre wr ∧ Tz wr) (fun p _ => (bitF (intOf p).toNat).length)
  case atStart => exact ⟨[], m, rfl, Nat.le_refl _, rfl, h0, hT⟩
  case round =>
    obtain ⟨pre, k, rfl, hk, hx, hJs, hTr⟩ := hrel
    by_cases hk0 : k = 0
    · subst hk0
      rw [bitF_zero, List.append_nil] at hx
      gi_wp2
      go_end0
      exact ⟨⟨_, rfl⟩, .inl ⟨pre, hx.symm, hJs⟩⟩
    · have hne : ((k : Int) != 0) = true := by rw [bne_iff_ne]; omega
      have hcons := bitF_cons hk0 (by omega)
      rw [hcons] at hx
      have ht64 : Lib.ctz 64 k < 64 := (low_bit hk0 (by omega)).2.1
      obtain ⟨fn, tmps, assign, body, hy, hR⟩ := hY pre (of64 (Lib.ctz 64 k)) wr hJs (by rw [hx]; simp)
      rw [of64_val ht64] at hy
      have hw : IntKind.u64.wrap (k : Int) = (k : Int) := by rw [IntKind.wrap_u64]; omega
      have hand : bits .and .i64 (k : Int) ((k : Int) - 1) = ((k &&& (k - 1) : Nat) : Int) := by
        rw [show (k : Int) - 1 = ((k - 1 : Nat) : Int) by omega]
        exact i64_and_nat _ _ (by omega) (by omega)
      have hle : k &&& (k - 1) ≤ k := Nat.and_le_left
      have hcall := iTz k hk0 (by omega) wr hTr
      have HX := Lib.hid hx
      have HC := Lib.hid hcons
      clear hx hcons
      generalize Lib.ctz 64 k = t at *
      generalize k &&& (k - 1) = k2 at *
      gi_wp2
      refine ⟨trivial, (callsIn_wide.2 hcall).mono ?_⟩
      rintro e w' ⟨rfl, rfl⟩
      gi_wp2
      refine hR.mono ?_
      rintro e W3 (⟨rfl, hJ3, hk3⟩ | ⟨rfl, hJx3⟩)
      · have hT3 := hTr.on hk3 hTn
        gi_wp2
        go_roundw
        case rel => exact ⟨pre ++ [of64 t], k2, rfl, by omega, by rw [HX.out]; simp, hJ3, hT3⟩
        case measure => simp only [intOf]; rw [Int.toNat_natCast, Int.toNat_natCast, HC.out]; simp
      · gi_wp2
        refine bodyPost_ret (results_none rfl _ _ _) rfl ?_
        exact ⟨⟨_, rfl⟩, .inr ⟨pre ++ [of64 t], ⟨bitF k2, by rw [HX.out]; simp⟩, hJx3⟩⟩

theorem iBits_stops (n : Nat) (hn : 1 ≤ n) (Bn n₀ m : Nat) (hm : m < 9223372036854775808) (w : World) (hBn : Bn < w.heap.size) (hn₀ : n₀ ≤ w.heap.size)
    (hc : w.cell? ⟨Bn, 0, none⟩ = some (.int .i64 m)) (hT : Tz w) (hTn : gDB < n₀) :
    SeqStopsK Fence.wide n Tryd.prog 28 #[.pointer (some ⟨Bn, 0, none⟩)] (fun x : B64 => #[Value.int .i64 (x.1 : Int)]) (Below n₀) (fun ys => ys = bitF m) (fun pre => pre <+: bitF m) (bitF m).length w := fun l J Jx W hW _ _ hY h0 =>
  iBits1 n hn l Bn n₀ m hm J Jx hY W ((hW.cell (p := ⟨Bn, 0, none⟩) hBn).trans hc) (hT.on hW (by omega)) hTn h0

end Go.Proofs.YtghpljoccclmkaaDoor
