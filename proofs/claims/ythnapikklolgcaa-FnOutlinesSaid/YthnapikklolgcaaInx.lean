/-
  One step to the neighbours, in the program: what the call gives.
-/
import Derived.Test.YthnapikklolgcaaIpl
namespace Go.Proofs.Ythnapikklolgcaa
open Go.RowKit

theorem index_lit (R : Nat → Nat) (y : Nat) (w : World) (v : Value) (h : [Value.int .i64 (R 0), .int .i64 (R 1), .int .i64 (R 2), .int .i64 (R 3), .int .i64 (R 4), .int .i64 (R 5), .int .i64 (R 6), .int .i64 (R 7)][y]? = some v) (hy : y < 8) : (Instr.index 93 (setV R) (.int .i64 y)).run Try.prog w = .ok v w := by
  unfold setV
  have h0 : (0 : Int) ≤ (y : Int) := by omega
  have h8 : (y : Int) < 8 := by omega
  simp [Instr.index, run_underlying set_array, go_sem, h0, h8, int_size]
  rw [if_pos hy, h]
  rfl
theorem index_set (R : Nat → Nat) (y : Nat) (hy : y < 8) (w : World) : (Instr.index 93 (setV R) (.int .i64 y)).run Try.prog w = .ok (.int .i64 (R y)) w := by
  refine index_lit R y w _ ?_ hy
  have h : y = 0 ∨ y = 1 ∨ y = 2 ∨ y = 3 ∨ y = 4 ∨ y = 5 ∨ y = 6 ∨ y = 7 := by omega
  rcases h with rfl | rfl | rfl | rfl | rfl | rfl | rfl | rfl <;> rfl
/-- The rows behind k rounds. -/
def midR (R A : Nat → Nat) (k : Nat) : Nat → Nat := fun y => if y < k then nextR R A y else R y

theorem or_shift (r : Nat) (h : r < 256) : ∃ q s1 s : Nat, (r : Int) / 2 = q ∧ bits .or .i64 ((r : Int) * 2) (q : Int) = s1 ∧ bits .or .i64 (r : Int) (s1 : Int) = s ∧ s = r ||| (r <<< 1 ||| r >>> 1) ∧ s < 512 := by
  have h1 : r <<< 1 < 2 ^ 9 := by rw [Nat.shiftLeft_eq]; omega
  have h2 : r >>> 1 < 2 ^ 9 := by rw [Nat.shiftRight_eq_div_pow]; omega
  have h3 := Nat.or_lt_two_pow h1 h2
  have h4 := Nat.or_lt_two_pow (show r < 2 ^ 9 by omega) h3
  have e : (r : Int) * (2 : Int) = ((r <<< 1 : Nat) : Int) := by rw [Nat.shiftLeft_eq]; omega
  refine ⟨r >>> 1, _, _, ?_, by rw [e]; exact i64_or_nat _ _ (by omega) (by omega), i64_or_nat _ _ (by omega) (by omega), rfl, h4⟩
  · rw [Nat.shiftRight_eq_div_pow]
    omega
theorem or_512 (s u : Nat) (hs : s < 512) (hu : u < 256) : ∃ t : Nat, bits .or .i64 (s : Int) (u : Int) = t ∧ t = s ||| u ∧ t < 512 :=
  ⟨_, i64_or_nat _ _ (by omega) (by omega), rfl, Nat.or_lt_two_pow (n := 9) hs (by omega)⟩
theorem and_512 (s u : Nat) (hs : s < 512) (hu : u < 256) : ∃ t : Nat, bits .and .i64 (s : Int) (u : Int) = t ∧ t = s &&& u :=
  ⟨_, i64_and_nat _ _ (by omega) (by omega), rfl⟩
theorem Arr.new (w : World) (R : Nat → Nat) (N : Nat) (h : w.heap.size = N) : Arr (w.alloc (.cells #[.int .i64 (R 0), .int .i64 (R 1), .int .i64 (R 2), .int .i64 (R 3), .int .i64 (R 4), .int .i64 (R 5), .int .i64 (R 6), .int .i64 (R 7)] 93)) N R := new_arr _ h

set_option maxHeartbeats 1000000 in
set_option maxRecDepth 100000 in
theorem iNext (R A : Nat → Nat) (hR : ∀ y, y < 8 → R y < 256) (hA : ∀ y, y < 8 → A y < 256) (w : World) :
    Calls Try.prog 125 #[setV R, setV A] w fun e w' => e = .returned (setV (nextR R A)) ∧ Below w.heap.size w w' := by
  have HR := Lib.hid hR
  have HA := Lib.hid hA
  have HX := Lib.hid (index_set R)
  clear hR hA
  obtain ⟨out, hout⟩ : ∃ out, setV (nextR R A) = out := ⟨_, rfl⟩
  have HO := Lib.hid hout
  rw [hout]
  clear hout
  unfold setV
  go_enter Try.func125, Try.ntmps125
  go_wp2
  go_loopw [10] (fun i wr => ∃ k : Nat, k ≤ 8 ∧ i = .int .i64 k ∧ Hid (Arr wr w.heap.size R) ∧ Hid (Arr wr (w.heap.size + 1) A) ∧ Hid (Arr wr (w.heap.size + 1 + 1) (fun _ => 0)) ∧ Hid (Arr wr (w.heap.size + 1 + 1 + 1) (midR R A k)) ∧ Below w.heap.size w wr) (fun i _ => 8 - (intOf i).toNat)
  case atStart =>
    have hR0 : Arr (w.alloc (.cells #[.int .i64 (R 0), .int .i64 (R 1), .int .i64 (R 2), .int .i64 (R 3), .int .i64 (R 4), .int .i64 (R 5), .int .i64 (R 6), .int .i64 (R 7)] 93)) w.heap.size R := heap_alloc_new _ _
    have hA1 := Arr.new (w.alloc (.cells #[.int .i64 (R 0), .int .i64 (R 1), .int .i64 (R 2), .int .i64 (R 3), .int .i64 (R 4), .int .i64 (R 5), .int .i64 (R 6), .int .i64 (R 7)] 93)) A (w.heap.size + 1) (by simp)
    have hZ2 := Arr.new ((w.alloc (.cells #[.int .i64 (R 0), .int .i64 (R 1), .int .i64 (R 2), .int .i64 (R 3), .int .i64 (R 4), .int .i64 (R 5), .int .i64 (R 6), .int .i64 (R 7)] 93)).alloc (.cells #[.int .i64 (A 0), .int .i64 (A 1), .int .i64 (A 2), .int .i64 (A 3), .int .i64 (A 4), .int .i64 (A 5), .int .i64 (A 6), .int .i64 (A 7)] 93)) (fun _ => 0) (w.heap.size + 1 + 1) (by simp)
    have hO3 := Arr.new (((w.alloc (.cells #[.int .i64 (R 0), .int .i64 (R 1), .int .i64 (R 2), .int .i64 (R 3), .int .i64 (R 4), .int .i64 (R 5), .int .i64 (R 6), .int .i64 (R 7)] 93)).alloc (.cells #[.int .i64 (A 0), .int .i64 (A 1), .int .i64 (A 2), .int .i64 (A 3), .int .i64 (A 4), .int .i64 (A 5), .int .i64 (A 6), .int .i64 (A 7)] 93)).alloc (.cells #[.int .i64 0, .int .i64 0, .int .i64 0, .int .i64 0, .int .i64 0, .int .i64 0, .int .i64 0, .int .i64 0] 93)) R (w.heap.size + 1 + 1 + 1) (by simp)
    exact ⟨0, by omega, rfl, ((hR0.alloc _).alloc _).alloc _, (hA1.alloc _).alloc _, hZ2.alloc _, hO3.congr (fun y hy => by simp [midR]),
      ((((Below.refl _ _).alloc (Nat.le_refl _) _).alloc (by simp) _).alloc (by simp; omega) _).alloc (by simp; omega) _⟩
  case round =>
    obtain ⟨k, hk, rfl, h0, h1, h2, h3, hb⟩ := hrel
    have hsz := hb.size
    by_cases hlt : k < 8
    · have hix := HX.out k hlt
      unfold setV at hix
      generalize hv : (Value.agg #[.int .i64 (R 0), .int .i64 (R 1), .int .i64 (R 2), .int .i64 (R 3), .int .i64 (R 4), .int .i64 (R 5), .int .i64 (R 6), .int .i64 (R 7)]) = vR at hix ⊢
      generalize hv2 : (Value.agg #[.int .i64 (A 0), .int .i64 (A 1), .int .i64 (A 2), .int .i64 (A 3), .int .i64 (A 4), .int .i64 (A 5), .int .i64 (A 6), .int .i64 (A 7)]) = vA
      clear hv hv2
      have hk0 : (0 : Int) ≤ (k : Int) := by omega
      have hk1 : (k : Int) < 8 := by omega
      have c3 := h3.out.cell k hlt
      have f3 := h3.out.fr k
      have hl3 := h3.out.lt
      have hR1 := HR.out k hlt
      have hmk : midR R A k k = R k := by simp [midR]
      rw [hmk] at c3
      have hgb : Hid (w.heap.size ≠ w.heap.size + 1 + 1 + 1 ∧ w.heap.size + 1 ≠ w.heap.size + 1 + 1 + 1 ∧ w.heap.size + 1 + 1 ≠ w.heap.size + 1 + 1 + 1 ∧ w.heap.size ≤ w.heap.size + 1 + 1 + 1) := Lib.hid ⟨by omega, by omega, by omega, by omega⟩
      generalize hr : R k = r at hix c3 hR1
      obtain ⟨q1, sx, s0, hq, ho1, ho2, hs, hl0⟩ := or_shift r hR1
      have HS0 := Lib.hid hs
      clear hs
      generalize w.heap.size + 1 + 1 + 1 = g3 at *
      generalize w.heap.size + 1 + 1 = g2 at *
      generalize w.heap.size + 1 = g1 at *
      generalize hg0 : w.heap.size = g0 at h0 hb hgb ⊢
      have HRk := Lib.hid hr
      clear hr hmk
      by_cases hz : 0 < k
      · have hk2 : (0 : Int) ≤ (k : Int) - 1 := by omega
        have hk3 : (k : Int) - 1 < 8 := by omega
        have ej : ((k : Int) - 1).toNat = k - 1 := by omega
        have d0 : decide (0 < k) = true := by simp [hz]
        by_cases hz7 : k < 7
        · have d7 : decide ((k : Int) < 7) = true := by rw [decide_eq_true_eq]; omega
          have hk4 : (0 : Int) ≤ (k : Int) + 1 := by omega
          have hk5 : (k : Int) + 1 < 8 := by omega
          have ek : ((k : Int) + 1).toNat = k + 1 := by omega
          go_wp2_with fail
          have A3_0 := h3.out.set k s0 hlt
          have A0_0 := h0.out.far (g' := g3) (j := k) (v := .int .i64 s0) (fun e => hgb.out.1 e.symm)
          have A1_0 := h1.out.far (g' := g3) (j := k) (v := .int .i64 s0) (fun e => hgb.out.2.1 e.symm)
          have A2_0 := h2.out.far (g' := g3) (j := k) (v := .int .i64 s0) (fun e => hgb.out.2.2.1 e.symm)
          have B_0 := hb.setCell (p := ⟨g3, k, none⟩) hgb.out.2.2.2 (.int .i64 s0)
          generalize (wr.setCell ⟨g3, k, none⟩ (.int .i64 s0)) = w0 at A3_0 A0_0 A1_0 A2_0 B_0 ⊢
          clear c3 f3 hl3 h0 h1 h2 h3 hb ho1 ho2
          have a0 := A0_0.cell (k - 1) (by omega)
          have hu0 := HR.out (k - 1) (by omega)
          generalize hv0 : R (k - 1) = u0 at a0 hu0
          have HV0 := Lib.hid hv0
          obtain ⟨s1, ho0, hs1, hl1⟩ := or_512 s0 u0 hl0 hu0
          have HS1 := Lib.hid hs1
          clear hv0 hs1
          have c0 := A3_0.cell k hlt
          have f0 := A3_0.fr k
          have l0 := A3_0.lt
          rw [show updR _ k s0 k = s0 from if_pos rfl] at c0
          have A3h := Lib.hid A3_0
          have A0h := Lib.hid A0_0
          have A1h := Lib.hid A1_0
          have A2h := Lib.hid A2_0
          clear A3_0 A0_0 A1_0 A2_0
          go_region
          have A3_1 : Arr (w0.setCell ⟨g3, k, none⟩ (.int .i64 s1)).drew g3 _ := A3h.out.set k s1 hlt
          have A0_1 : Arr (w0.setCell ⟨g3, k, none⟩ (.int .i64 s1)).drew g0 R := A0h.out.far (g' := g3) (j := k) (v := .int .i64 s1) (fun e => hgb.out.1 e.symm)
          have A1_1 : Arr (w0.setCell ⟨g3, k, none⟩ (.int .i64 s1)).drew g1 A := A1h.out.far (g' := g3) (j := k) (v := .int .i64 s1) (fun e => hgb.out.2.1 e.symm)
          have A2_1 : Arr (w0.setCell ⟨g3, k, none⟩ (.int .i64 s1)).drew g2 (fun _ => 0) := A2h.out.far (g' := g3) (j := k) (v := .int .i64 s1) (fun e => hgb.out.2.2.1 e.symm)
          have B_1 := (B_0.setCell (p := ⟨g3, k, none⟩) hgb.out.2.2.2 (.int .i64 s1)).drew
          generalize (w0.setCell ⟨g3, k, none⟩ (.int .i64 s1)).drew = w1 at A3_1 A0_1 A1_1 A2_1 B_1 ⊢
          clear c0 f0 l0 a0 ho0 B_0 A3h A0h A1h A2h
          simp only [Exit.inBlock, Exit.then]
          go_wp2_with fail
          have a1 := A0_1.cell (k + 1) (by omega)
          have hu1 := HR.out (k + 1) (by omega)
          generalize hv1 : R (k + 1) = u1 at a1 hu1
          have HV1 := Lib.hid hv1
          obtain ⟨s2, ho1, hs2, hl2⟩ := or_512 s1 u1 hl1 hu1
          have HS2 := Lib.hid hs2
          clear hv1 hs2
          have c1 := A3_1.cell k hlt
          have f1 := A3_1.fr k
          have l1 := A3_1.lt
          rw [show updR _ k s1 k = s1 from if_pos rfl] at c1
          have A3h := Lib.hid A3_1
          have A0h := Lib.hid A0_1
          have A1h := Lib.hid A1_1
          have A2h := Lib.hid A2_1
          clear A3_1 A0_1 A1_1 A2_1
          go_region
          have A3_2 : Arr (w1.setCell ⟨g3, k, none⟩ (.int .i64 s2)).drew g3 _ := A3h.out.set k s2 hlt
          have A0_2 : Arr (w1.setCell ⟨g3, k, none⟩ (.int .i64 s2)).drew g0 R := A0h.out.far (g' := g3) (j := k) (v := .int .i64 s2) (fun e => hgb.out.1 e.symm)
          have A1_2 : Arr (w1.setCell ⟨g3, k, none⟩ (.int .i64 s2)).drew g1 A := A1h.out.far (g' := g3) (j := k) (v := .int .i64 s2) (fun e => hgb.out.2.1 e.symm)
          have A2_2 : Arr (w1.setCell ⟨g3, k, none⟩ (.int .i64 s2)).drew g2 (fun _ => 0) := A2h.out.far (g' := g3) (j := k) (v := .int .i64 s2) (fun e => hgb.out.2.2.1 e.symm)
          have B_2 := (B_1.setCell (p := ⟨g3, k, none⟩) hgb.out.2.2.2 (.int .i64 s2)).drew
          generalize (w1.setCell ⟨g3, k, none⟩ (.int .i64 s2)).drew = w2 at A3_2 A0_2 A1_2 A2_2 B_2 ⊢
          clear c1 f1 l1 a1 ho1 B_1 A3h A0h A1h A2h
          simp only [Exit.inBlock, Exit.then]
          go_wp2_with fail
          have a2 := A1_2.cell k (by omega)
          have hu2 := HA.out k (by omega)
          generalize hv2 : A k = u2 at a2 hu2
          have HV2 := Lib.hid hv2
          obtain ⟨s3, ho2, hs3⟩ := and_512 s2 u2 hl2 hu2
          have HS3 := Lib.hid hs3
          clear hv2 hs3
          have c2 := A3_2.cell k hlt
          have f2 := A3_2.fr k
          have l2 := A3_2.lt
          rw [show updR _ k s2 k = s2 from if_pos rfl] at c2
          have A3h := Lib.hid A3_2
          have A0h := Lib.hid A0_2
          have A1h := Lib.hid A1_2
          have A2h := Lib.hid A2_2
          clear A3_2 A0_2 A1_2 A2_2
          go_region
          have A3_3 : Arr (w2.setCell ⟨g3, k, none⟩ (.int .i64 s3)).drew g3 _ := A3h.out.set k s3 hlt
          have A0_3 : Arr (w2.setCell ⟨g3, k, none⟩ (.int .i64 s3)).drew g0 R := A0h.out.far (g' := g3) (j := k) (v := .int .i64 s3) (fun e => hgb.out.1 e.symm)
          have A1_3 : Arr (w2.setCell ⟨g3, k, none⟩ (.int .i64 s3)).drew g1 A := A1h.out.far (g' := g3) (j := k) (v := .int .i64 s3) (fun e => hgb.out.2.1 e.symm)
          have A2_3 : Arr (w2.setCell ⟨g3, k, none⟩ (.int .i64 s3)).drew g2 (fun _ => 0) := A2h.out.far (g' := g3) (j := k) (v := .int .i64 s3) (fun e => hgb.out.2.2.1 e.symm)
          have B_3 := (B_2.setCell (p := ⟨g3, k, none⟩) hgb.out.2.2.2 (.int .i64 s3)).drew
          generalize (w2.setCell ⟨g3, k, none⟩ (.int .i64 s3)).drew = w3 at A3_3 A0_3 A1_3 A2_3 B_3 ⊢
          clear c2 f2 l2 a2 ho2 B_2 A3h A0h A1h A2h
          simp only [Exit.inBlock, Exit.then]
          have HV : s3 = nextR R A k := by
            have e0 := HS0.out
            have e1 := HS1.out; have e2 := HS2.out; have e3 := HS3.out; have v0 := HV0.out; have v1 := HV1.out; have v2 := HV2.out; have vr := HRk.out
            subst v0 v1 v2 vr
            rw [e3, e2, e1, e0]
            unfold nextR
            rw [if_pos hz, if_pos hz7]
          have H3 := Lib.hid (A3_3.congr (T := midR R A (k + 1)) (fun y hy => by
            by_cases e : y = k
            · subst e
              simp [updR, midR, HV]
            · have e2 : (y < k + 1) ↔ y < k := by omega
              simp [updR, midR, e, e2]))
          have H0 := Lib.hid A0_3
          have H1 := Lib.hid A1_3
          have H2 := Lib.hid A2_3
          have HB := Lib.hid B_3
          clear HV A3_3 A0_3 A1_3 A2_3 B_3
          go_wp2
          go_roundw
          case rel => exact ⟨k + 1, by omega, by go_num, H0.out, H1.out, H2.out, H3.out, HB.out⟩
          case measure => simp [intOf]; omega
        · have d7 : decide ((k : Int) < 7) = false := by rw [decide_eq_false_iff_not]; omega
          go_wp2_with fail
          have A3_0 := h3.out.set k s0 hlt
          have A0_0 := h0.out.far (g' := g3) (j := k) (v := .int .i64 s0) (fun e => hgb.out.1 e.symm)
          have A1_0 := h1.out.far (g' := g3) (j := k) (v := .int .i64 s0) (fun e => hgb.out.2.1 e.symm)
          have A2_0 := h2.out.far (g' := g3) (j := k) (v := .int .i64 s0) (fun e => hgb.out.2.2.1 e.symm)
          have B_0 := hb.setCell (p := ⟨g3, k, none⟩) hgb.out.2.2.2 (.int .i64 s0)
          generalize (wr.setCell ⟨g3, k, none⟩ (.int .i64 s0)) = w0 at A3_0 A0_0 A1_0 A2_0 B_0 ⊢
          clear c3 f3 hl3 h0 h1 h2 h3 hb ho1 ho2
          have a0 := A0_0.cell (k - 1) (by omega)
          have hu0 := HR.out (k - 1) (by omega)
          generalize hv0 : R (k - 1) = u0 at a0 hu0
          have HV0 := Lib.hid hv0
          obtain ⟨s1, ho0, hs1, hl1⟩ := or_512 s0 u0 hl0 hu0
          have HS1 := Lib.hid hs1
          clear hv0 hs1
          have c0 := A3_0.cell k hlt
          have f0 := A3_0.fr k
          have l0 := A3_0.lt
          rw [show updR _ k s0 k = s0 from if_pos rfl] at c0
          have A3h := Lib.hid A3_0
          have A0h := Lib.hid A0_0
          have A1h := Lib.hid A1_0
          have A2h := Lib.hid A2_0
          clear A3_0 A0_0 A1_0 A2_0
          go_region
          have A3_1 : Arr (w0.setCell ⟨g3, k, none⟩ (.int .i64 s1)).drew g3 _ := A3h.out.set k s1 hlt
          have A0_1 : Arr (w0.setCell ⟨g3, k, none⟩ (.int .i64 s1)).drew g0 R := A0h.out.far (g' := g3) (j := k) (v := .int .i64 s1) (fun e => hgb.out.1 e.symm)
          have A1_1 : Arr (w0.setCell ⟨g3, k, none⟩ (.int .i64 s1)).drew g1 A := A1h.out.far (g' := g3) (j := k) (v := .int .i64 s1) (fun e => hgb.out.2.1 e.symm)
          have A2_1 : Arr (w0.setCell ⟨g3, k, none⟩ (.int .i64 s1)).drew g2 (fun _ => 0) := A2h.out.far (g' := g3) (j := k) (v := .int .i64 s1) (fun e => hgb.out.2.2.1 e.symm)
          have B_1 := (B_0.setCell (p := ⟨g3, k, none⟩) hgb.out.2.2.2 (.int .i64 s1)).drew
          generalize (w0.setCell ⟨g3, k, none⟩ (.int .i64 s1)).drew = w1 at A3_1 A0_1 A1_1 A2_1 B_1 ⊢
          clear c0 f0 l0 a0 ho0 B_0 A3h A0h A1h A2h
          simp only [Exit.inBlock, Exit.then]
          go_wp2_with fail
          have a1 := A1_1.cell k (by omega)
          have hu1 := HA.out k (by omega)
          generalize hv1 : A k = u1 at a1 hu1
          have HV1 := Lib.hid hv1
          obtain ⟨s2, ho1, hs2⟩ := and_512 s1 u1 hl1 hu1
          have HS2 := Lib.hid hs2
          clear hv1 hs2
          have c1 := A3_1.cell k hlt
          have f1 := A3_1.fr k
          have l1 := A3_1.lt
          rw [show updR _ k s1 k = s1 from if_pos rfl] at c1
          have A3h := Lib.hid A3_1
          have A0h := Lib.hid A0_1
          have A1h := Lib.hid A1_1
          have A2h := Lib.hid A2_1
          clear A3_1 A0_1 A1_1 A2_1
          go_region
          have A3_2 : Arr (w1.setCell ⟨g3, k, none⟩ (.int .i64 s2)).drew g3 _ := A3h.out.set k s2 hlt
          have A0_2 : Arr (w1.setCell ⟨g3, k, none⟩ (.int .i64 s2)).drew g0 R := A0h.out.far (g' := g3) (j := k) (v := .int .i64 s2) (fun e => hgb.out.1 e.symm)
          have A1_2 : Arr (w1.setCell ⟨g3, k, none⟩ (.int .i64 s2)).drew g1 A := A1h.out.far (g' := g3) (j := k) (v := .int .i64 s2) (fun e => hgb.out.2.1 e.symm)
          have A2_2 : Arr (w1.setCell ⟨g3, k, none⟩ (.int .i64 s2)).drew g2 (fun _ => 0) := A2h.out.far (g' := g3) (j := k) (v := .int .i64 s2) (fun e => hgb.out.2.2.1 e.symm)
          have B_2 := (B_1.setCell (p := ⟨g3, k, none⟩) hgb.out.2.2.2 (.int .i64 s2)).drew
          generalize (w1.setCell ⟨g3, k, none⟩ (.int .i64 s2)).drew = w2 at A3_2 A0_2 A1_2 A2_2 B_2 ⊢
          clear c1 f1 l1 a1 ho1 B_1 A3h A0h A1h A2h
          simp only [Exit.inBlock, Exit.then]
          have HV : s2 = nextR R A k := by
            have e0 := HS0.out
            have e1 := HS1.out; have e2 := HS2.out; have v0 := HV0.out; have v1 := HV1.out; have vr := HRk.out
            subst v0 v1 vr
            rw [e2, e1, e0]
            unfold nextR
            rw [if_pos hz, if_neg hz7, Nat.or_zero]
          have H3 := Lib.hid (A3_2.congr (T := midR R A (k + 1)) (fun y hy => by
            by_cases e : y = k
            · subst e
              simp [updR, midR, HV]
            · have e2 : (y < k + 1) ↔ y < k := by omega
              simp [updR, midR, e, e2]))
          have H0 := Lib.hid A0_2
          have H1 := Lib.hid A1_2
          have H2 := Lib.hid A2_2
          have HB := Lib.hid B_2
          clear HV A3_2 A0_2 A1_2 A2_2 B_2
          go_wp2
          go_roundw
          case rel => exact ⟨k + 1, by omega, by go_num, H0.out, H1.out, H2.out, H3.out, HB.out⟩
          case measure => simp [intOf]; omega
      · have d0 : decide (0 < k) = false := by simp; omega
        have hz7 : k < 7 := by omega
        have d7 : decide ((k : Int) < 7) = true := by rw [decide_eq_true_eq]; omega
        have hk4 : (0 : Int) ≤ (k : Int) + 1 := by omega
        have hk5 : (k : Int) + 1 < 8 := by omega
        have ek : ((k : Int) + 1).toNat = k + 1 := by omega
        go_wp2_with fail
        have A3_0 := h3.out.set k s0 hlt
        have A0_0 := h0.out.far (g' := g3) (j := k) (v := .int .i64 s0) (fun e => hgb.out.1 e.symm)
        have A1_0 := h1.out.far (g' := g3) (j := k) (v := .int .i64 s0) (fun e => hgb.out.2.1 e.symm)
        have A2_0 := h2.out.far (g' := g3) (j := k) (v := .int .i64 s0) (fun e => hgb.out.2.2.1 e.symm)
        have B_0 := hb.setCell (p := ⟨g3, k, none⟩) hgb.out.2.2.2 (.int .i64 s0)
        generalize (wr.setCell ⟨g3, k, none⟩ (.int .i64 s0)) = w0 at A3_0 A0_0 A1_0 A2_0 B_0 ⊢
        clear c3 f3 hl3 h0 h1 h2 h3 hb ho1 ho2
        have a0 := A0_0.cell (k + 1) (by omega)
        have hu0 := HR.out (k + 1) (by omega)
        generalize hv0 : R (k + 1) = u0 at a0 hu0
        have HV0 := Lib.hid hv0
        obtain ⟨s1, ho0, hs1, hl1⟩ := or_512 s0 u0 hl0 hu0
        have HS1 := Lib.hid hs1
        clear hv0 hs1
        have c0 := A3_0.cell k hlt
        have f0 := A3_0.fr k
        have l0 := A3_0.lt
        rw [show updR _ k s0 k = s0 from if_pos rfl] at c0
        have A3h := Lib.hid A3_0
        have A0h := Lib.hid A0_0
        have A1h := Lib.hid A1_0
        have A2h := Lib.hid A2_0
        clear A3_0 A0_0 A1_0 A2_0
        go_region
        have A3_1 : Arr (w0.setCell ⟨g3, k, none⟩ (.int .i64 s1)).drew g3 _ := A3h.out.set k s1 hlt
        have A0_1 : Arr (w0.setCell ⟨g3, k, none⟩ (.int .i64 s1)).drew g0 R := A0h.out.far (g' := g3) (j := k) (v := .int .i64 s1) (fun e => hgb.out.1 e.symm)
        have A1_1 : Arr (w0.setCell ⟨g3, k, none⟩ (.int .i64 s1)).drew g1 A := A1h.out.far (g' := g3) (j := k) (v := .int .i64 s1) (fun e => hgb.out.2.1 e.symm)
        have A2_1 : Arr (w0.setCell ⟨g3, k, none⟩ (.int .i64 s1)).drew g2 (fun _ => 0) := A2h.out.far (g' := g3) (j := k) (v := .int .i64 s1) (fun e => hgb.out.2.2.1 e.symm)
        have B_1 := (B_0.setCell (p := ⟨g3, k, none⟩) hgb.out.2.2.2 (.int .i64 s1)).drew
        generalize (w0.setCell ⟨g3, k, none⟩ (.int .i64 s1)).drew = w1 at A3_1 A0_1 A1_1 A2_1 B_1 ⊢
        clear c0 f0 l0 a0 ho0 B_0 A3h A0h A1h A2h
        simp only [Exit.inBlock, Exit.then]
        go_wp2_with fail
        have a1 := A1_1.cell k (by omega)
        have hu1 := HA.out k (by omega)
        generalize hv1 : A k = u1 at a1 hu1
        have HV1 := Lib.hid hv1
        obtain ⟨s2, ho1, hs2⟩ := and_512 s1 u1 hl1 hu1
        have HS2 := Lib.hid hs2
        clear hv1 hs2
        have c1 := A3_1.cell k hlt
        have f1 := A3_1.fr k
        have l1 := A3_1.lt
        rw [show updR _ k s1 k = s1 from if_pos rfl] at c1
        have A3h := Lib.hid A3_1
        have A0h := Lib.hid A0_1
        have A1h := Lib.hid A1_1
        have A2h := Lib.hid A2_1
        clear A3_1 A0_1 A1_1 A2_1
        go_region
        have A3_2 : Arr (w1.setCell ⟨g3, k, none⟩ (.int .i64 s2)).drew g3 _ := A3h.out.set k s2 hlt
        have A0_2 : Arr (w1.setCell ⟨g3, k, none⟩ (.int .i64 s2)).drew g0 R := A0h.out.far (g' := g3) (j := k) (v := .int .i64 s2) (fun e => hgb.out.1 e.symm)
        have A1_2 : Arr (w1.setCell ⟨g3, k, none⟩ (.int .i64 s2)).drew g1 A := A1h.out.far (g' := g3) (j := k) (v := .int .i64 s2) (fun e => hgb.out.2.1 e.symm)
        have A2_2 : Arr (w1.setCell ⟨g3, k, none⟩ (.int .i64 s2)).drew g2 (fun _ => 0) := A2h.out.far (g' := g3) (j := k) (v := .int .i64 s2) (fun e => hgb.out.2.2.1 e.symm)
        have B_2 := (B_1.setCell (p := ⟨g3, k, none⟩) hgb.out.2.2.2 (.int .i64 s2)).drew
        generalize (w1.setCell ⟨g3, k, none⟩ (.int .i64 s2)).drew = w2 at A3_2 A0_2 A1_2 A2_2 B_2 ⊢
        clear c1 f1 l1 a1 ho1 B_1 A3h A0h A1h A2h
        simp only [Exit.inBlock, Exit.then]
        have HV : s2 = nextR R A k := by
          have e0 := HS0.out
          have e1 := HS1.out; have e2 := HS2.out; have v0 := HV0.out; have v1 := HV1.out; have vr := HRk.out
          subst v0 v1 vr
          rw [e2, e1, e0]
          unfold nextR
          rw [if_neg hz, if_pos hz7, Nat.or_zero]
        have H3 := Lib.hid (A3_2.congr (T := midR R A (k + 1)) (fun y hy => by
          by_cases e : y = k
          · subst e
            simp [updR, midR, HV]
          · have e2 : (y < k + 1) ↔ y < k := by omega
            simp [updR, midR, e, e2]))
        have H0 := Lib.hid A0_2
        have H1 := Lib.hid A1_2
        have H2 := Lib.hid A2_2
        have HB := Lib.hid B_2
        clear HV A3_2 A0_2 A1_2 A2_2 B_2
        go_wp2
        go_roundw
        case rel => exact ⟨k + 1, by omega, by go_num, H0.out, H1.out, H2.out, H3.out, HB.out⟩
        case measure => simp [intOf]; omega
    · obtain rfl : k = 8 := by omega
      have hr2 := h3.out.congr (T := nextR R A) (fun y hy => by unfold midR; rw [if_pos hy])
      have HR2 := Lib.hid hr2
      have c0 := hr2.cell 0 (by omega)
      have c1 := hr2.cell 1 (by omega)
      have c2 := hr2.cell 2 (by omega)
      have c3 := hr2.cell 3 (by omega)
      have c4 := hr2.cell 4 (by omega)
      have c5 := hr2.cell 5 (by omega)
      have c6 := hr2.cell 6 (by omega)
      have c7 := hr2.cell 7 (by omega)
      have d0 := h2.out.cell 0 (by omega)
      have d1 := h2.out.cell 1 (by omega)
      have d2 := h2.out.cell 2 (by omega)
      have d3 := h2.out.cell 3 (by omega)
      have d4 := h2.out.cell 4 (by omega)
      have d5 := h2.out.cell 5 (by omega)
      have d6 := h2.out.cell 6 (by omega)
      have d7 := h2.out.cell 7 (by omega)
      have f0 := h2.out.fr 0
      have f1 := h2.out.fr 1
      have f2 := h2.out.fr 2
      have f3 := h2.out.fr 3
      have f4 := h2.out.fr 4
      have f5 := h2.out.fr 5
      have f6 := h2.out.fr 6
      have f7 := h2.out.fr 7
      have hl2 := h2.out.lt
      have hl3 := hr2.lt
      have hne : w.heap.size + 1 + 1 + 1 ≠ w.heap.size + 1 + 1 := Nat.succ_ne_self _
      clear hr2 h0 h1 h3
      go_wp2
      have h8 := h2.out.set8 (nextR R A)
      have HB8 := Lib.hid (below_set8 (g := w.heap.size + 1 + 1) (by omega) (nextR R A) hb)
      refine bodyPost_ret (v := setV (nextR R A)) ?_ rfl ⟨congrArg Ending.returned HO.out, HB8.out⟩
      have e0 := h8.cell 0 (by omega)
      have e1 := h8.cell 1 (by omega)
      have e2 := h8.cell 2 (by omega)
      have e3 := h8.cell 3 (by omega)
      have e4 := h8.cell 4 (by omega)
      have e5 := h8.cell 5 (by omega)
      have e6 := h8.cell 6 (by omega)
      have e7 := h8.cell 7 (by omega)
      unfold sets8 at e0 e1 e2 e3 e4 e5 e6 e7
      simp [results, Try.results125, go_sem, e0, e1, e2, e3, e4, e5, e6, e7, setV]

end Go.Proofs.Ythnapikklolgcaa
