/-
  The places of a list of cells as a set, in the program: what the call gives.
-/
import Derived.Test.YthnapikklolgcaaAeq
import Derived.Test.YthnapikklolgcaaIan
namespace Go.Proofs.Ythnapikklolgcaa
open Go.RowKit

abbrev zeroArr : Obj := .cells #[.int .i64 0, .int .i64 0, .int .i64 0, .int .i64 0, .int .i64 0, .int .i64 0, .int .i64 0, .int .i64 0] 93
theorem two_pow_int (x : Nat) : (2 : Int) ^ x = ((2 ^ x : Nat) : Int) := by rw [Int.natCast_pow]; rfl
theorem or_bit (r x : Nat) (hr : r < 256) (hx : x ≤ 7) : bits .or .i64 (r : Int) (wrap64 (2 ^ x)) = ((r ||| 2 ^ x : Nat) : Int) := by
  have h1 : 2 ^ x ≤ 2 ^ 7 := Nat.pow_le_pow_right (by omega) hx
  rw [two_pow_int]
  generalize 2 ^ x = p at h1 ⊢
  rw [IntWalk.wrap64_in _ (by omega), i64_or_nat _ _ (by omega) (by omega)]

set_option maxHeartbeats 1000000 in
set_option maxRecDepth 100000 in
theorem iPlaces (B n cap : Nat) (a : Option Addr) (l : List Cl) (w : World) (hn : n ≤ 4194304) (hc : CellsAt B w a n l) (hin : ∀ c ∈ l, inP c = true) (hB : B ≤ w.heap.size) :
    Calls Try.prog 104 #[.slice a n cap] w fun e w' => e = .returned (setV (allR l)) ∧ Below w.heap.size w w' := by
  have H := Lib.hid hc
  have HIN := Lib.hid hin
  have HLT := Lib.hid (fun y k hk => rowTo_lt l hin y k hk)
  clear hc hin
  go_enter Try.func104, Try.ntmps104
  go_wp2
  go_loopw [8] (fun i wr => ∃ k : Nat, k ≤ n ∧ i = .int .i64 k ∧ Hid (Arr wr w.heap.size (fun _ => 0)) ∧ Hid (Arr wr (w.heap.size + 1) (fun y => rowTo l y k)) ∧ Below w.heap.size w wr) (fun i _ => n - (intOf i).toNat)
  case atStart =>
    have h1 : Arr (w.alloc zeroArr) w.heap.size (fun _ => 0) := heap_alloc_new _ _
    have h2 : Arr ((w.alloc zeroArr).alloc zeroArr) (w.heap.size + 1) (fun _ => 0) := new_arr _ (by simp)
    exact ⟨0, by omega, rfl, h1.alloc _, h2, ((Below.refl _ _).alloc (Nat.le_refl _) _).alloc (by simp) _⟩
  case round =>
    obtain ⟨k, hk, rfl, hr0, hr1, hb⟩ := hrel
    have hsz := hb.size
    by_cases hlt : k < n
    · obtain ⟨b1, o1, rfl, hb1, hc1⟩ := H.out.2.2 (by omega)
      obtain ⟨x, y, hxy⟩ : ∃ x y, l.getD k (0, 0) = (x, y) := ⟨_, _, rfl⟩
      have p1 := (hb.cell (p := ⟨b1, o1 + k * 2, none⟩) (Nat.lt_of_lt_of_le hb1 hB)).trans (hc1 k hlt).1
      have p2 := (hb.cell (p := ⟨b1, o1 + k * 2 + 1, none⟩) (Nat.lt_of_lt_of_le hb1 hB)).trans (hc1 k hlt).2
      have hp := inP_out (HIN.out _ (getD_mem (l := l) (j := k) (by rw [H.out.1]; exact hlt)))
      rw [hxy] at p1 p2 hp
      dsimp only at hp
      obtain ⟨xn, rfl⟩ : ∃ m : Nat, x = m := ⟨x.toNat, by omega⟩
      obtain ⟨yn, rfl⟩ : ∃ m : Nat, y = m := ⟨y.toNat, by omega⟩
      have HX := Lib.hid hxy
      have hk0 : (0 : Int) ≤ (k : Int) := by omega
      have hk1 : (k : Int) < (n : Int) := by omega
      have hl1 := hr1.out.lt
      have hrow := hr1.out.cell yn (by omega)
      have hfz := hr1.out.fr yn
      have hne : w.heap.size + 1 ≠ wr.heap.size := by omega
      have hx7 : xn ≤ 7 := by omega
      have hy7 : yn ≤ 7 := by omega
      have hy8 : (yn : Int) < 8 := by omega
      have hy0 : (0 : Int) ≤ (yn : Int) := by omega
      have hx0 : (0 : Int) ≤ (xn : Int) := by omega
      have hR := HLT.out yn k (by rw [H.out.1]; omega)
      generalize hRR : rowTo l yn k = r at hrow hR
      have HRR := Lib.hid hRR
      clear hxy hc1 hRR
      go_wp2_with fail
      go_region
      all_goals
        have hv := or_bit r xn hR hx7
        rw [hv]
        have hA := ((hr1.out.set yn (r ||| 2 ^ xn) (by omega)).alloc (.cells #[.int .i64 xn, .int .i64 yn] 53))
        have hA2 := hA.congr (T := fun y => rowTo l y (k + 1)) (fun y hy => by
          unfold updR
          show (if y = yn then r ||| 2 ^ xn else rowTo l y k) = if (l.getD k (0, 0)).2 = (y : Int) then rowTo l y k ||| 2 ^ (l.getD k (0, 0)).1.toNat else rowTo l y k
          rw [HX.out]
          dsimp only
          by_cases e : y = yn
          · subst e
            rw [if_pos rfl, if_pos rfl, HRR.out, Int.toNat_natCast]
          · rw [if_neg e, if_neg (by omega)])
        have HA := Lib.hid hA2
        have HA0 := Lib.hid ((hr0.out.far (j := yn) (v := .int .i64 ((r ||| 2 ^ xn : Nat) : Int)) (Nat.succ_ne_self _)).alloc (.cells #[.int .i64 xn, .int .i64 yn] 53))
        have hb2 := hb.setCell (p := ⟨w.heap.size + 1, yn, none⟩) (Nat.le_succ _) (.int .i64 ((r ||| 2 ^ xn : Nat) : Int))
        have HB2 := Lib.hid (hb2.alloc hb2.size (.cells #[.int .i64 xn, .int .i64 yn] 53)).drew
        clear hv hA hA2 hb2 hrow hfz
        simp only [Exit.inBlock, Exit.then]
        go_wp2
        go_roundw
        case rel => exact ⟨k + 1, by omega, by go_num, HA0.out, HA.out, HB2.out⟩
        case measure => simp [intOf]; omega
    · obtain rfl : k = n := by omega
      have e : ∀ y, rowTo l y k = allR l y := fun y => by unfold allR; rw [H.out.1]
      have hr2 := hr1.out.congr (T := allR l) (fun y _ => e y)
      have hl1 := hr2.lt
      have hl0 := hr0.out.lt
      have HR2 := Lib.hid hr2
      have c0 := hr2.cell 0 (by omega)
      have c1 := hr2.cell 1 (by omega)
      have c2 := hr2.cell 2 (by omega)
      have c3 := hr2.cell 3 (by omega)
      have c4 := hr2.cell 4 (by omega)
      have c5 := hr2.cell 5 (by omega)
      have c6 := hr2.cell 6 (by omega)
      have c7 := hr2.cell 7 (by omega)
      have d0 := hr0.out.cell 0 (by omega)
      have d1 := hr0.out.cell 1 (by omega)
      have d2 := hr0.out.cell 2 (by omega)
      have d3 := hr0.out.cell 3 (by omega)
      have d4 := hr0.out.cell 4 (by omega)
      have d5 := hr0.out.cell 5 (by omega)
      have d6 := hr0.out.cell 6 (by omega)
      have d7 := hr0.out.cell 7 (by omega)
      have f0 := hr0.out.fr 0
      have f1 := hr0.out.fr 1
      have f2 := hr0.out.fr 2
      have f3 := hr0.out.fr 3
      have f4 := hr0.out.fr 4
      have f5 := hr0.out.fr 5
      have f6 := hr0.out.fr 6
      have f7 := hr0.out.fr 7
      have hne : w.heap.size + 1 ≠ w.heap.size := Nat.succ_ne_self _
      clear e hr2
      go_wp2
      have h8 := hr0.out.set8 (allR l)
      have HB8 := Lib.hid (below_set8 (Nat.le_refl _) (allR l) hb)
      refine bodyPost_ret (v := setV (allR l)) ?_ rfl ⟨rfl, HB8.out⟩
      have e0 := h8.cell 0 (by omega)
      have e1 := h8.cell 1 (by omega)
      have e2 := h8.cell 2 (by omega)
      have e3 := h8.cell 3 (by omega)
      have e4 := h8.cell 4 (by omega)
      have e5 := h8.cell 5 (by omega)
      have e6 := h8.cell 6 (by omega)
      have e7 := h8.cell 7 (by omega)
      unfold sets8 at e0 e1 e2 e3 e4 e5 e6 e7
      simp [results, Try.results104, go_sem, e0, e1, e2, e3, e4, e5, e6, e7, setV]

end Go.Proofs.Ythnapikklolgcaa
