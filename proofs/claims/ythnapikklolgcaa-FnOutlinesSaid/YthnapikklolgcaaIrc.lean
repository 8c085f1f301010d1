/-
  All that can be reached, in the program: what the call gives.
-/
import Derived.Test.YthnapikklolgcaaInx
import Derived.Test.YthnapikklolgcaaCon
namespace Go.Proofs.Ythnapikklolgcaa
open Go.RowKit

/-- What comes out: a set that has been got and in which a further step turns nothing. -/
def Ends (l : List Cl) (e : Ending) : Prop := ∃ R : Nat → Nat, e = .returned (setV R) ∧ Got l R ∧ ∀ y, y < 8 → nextR R (allR l) y = R y
def cellNat (w : World) (g y : Nat) : Nat := match w.cell? ⟨g, y, none⟩ with
  | some (.int _ n) => n.toNat
  | _ => 0
def sumTo (f : Nat → Nat) : Nat → Nat
  | 0 => 0
  | k + 1 => sumTo f k + f k
theorem sumTo_le (f g : Nat → Nat) : ∀ k, (∀ y, y < k → f y ≤ g y) → sumTo f k ≤ sumTo g k
  | 0, _ => Nat.le_refl _
  | k + 1, h => Nat.add_le_add (sumTo_le f g k fun y hy => h y (by omega)) (h k (by omega))
theorem sumTo_lt (f g : Nat → Nat) : ∀ k, (∀ y, y < k → f y ≤ g y) → (∃ y, y < k ∧ f y ≠ g y) → sumTo f k < sumTo g k
  | 0, _, h => by obtain ⟨y, hy, _⟩ := h; omega
  | k + 1, h, h2 => by
    have hk := h k (by omega)
    by_cases e : f k = g k
    · obtain ⟨y, hy, hne⟩ := h2
      have hyk : y ≠ k := by rintro rfl; exact hne e
      have := sumTo_lt f g k (fun y hy => h y (by omega)) ⟨y, by omega, hne⟩
      show sumTo f k + f k < sumTo g k + g k
      omega
    · have := sumTo_le f g k (fun y hy => h y (by omega))
      show sumTo f k + f k < sumTo g k + g k
      omega
theorem sumTo_256 (f : Nat → Nat) : ∀ k, (∀ y, y < k → f y < 256) → sumTo f k ≤ 256 * k
  | 0, _ => by simp [sumTo]
  | k + 1, h => by
    have := sumTo_256 f k (fun y hy => h y (by omega))
    have := h k (by omega)
    show sumTo f k + f k ≤ _
    omega
theorem cellNat_arr {w : World} {g y : Nat} {R : Nat → Nat} (h : Arr w g R) (hy : y < 8) : cellNat w g y = R y := by
  unfold cellNat
  rw [h.cell y hy]
  simp
theorem sum_arr {w : World} {g : Nat} {R : Nat → Nat} (h : Arr w g R) : sumTo (cellNat w g) 8 = sumTo R 8 := by
  have e : ∀ k, k ≤ 8 → sumTo (cellNat w g) k = sumTo R k := by
    intro k
    induction k with
    | zero => intro _; rfl
    | succ k ih => intro hk; show sumTo _ k + _ = sumTo _ k + _; rw [ih (by omega), cellNat_arr h (by omega)]
  exact e 8 (by omega)

set_option maxHeartbeats 1000000 in
set_option maxRecDepth 100000 in
theorem iReach (l : List Cl) (hin : ∀ c ∈ l, inP c = true) (hl : 0 < l.length) (R : Nat → Nat) (hg : Got l R) (w : World) :
    Calls Try.prog 105 #[setV R, setV (allR l)] w fun e w' => Ends l e ∧ Below w.heap.size w w' := by
  have HIN := Lib.hid hin
  have HL := Lib.hid hl
  have HG := Lib.hid hg
  have HA := Lib.hid (show ∀ y, y < 8 → allR l y < 256 from fun y (_ : y < 8) => rowTo_lt l hin y l.length (Nat.le_refl _))
  clear hin hl hg
  obtain ⟨A, hA⟩ : ∃ A, allR l = A := ⟨_, rfl⟩
  have HAE := Lib.hid hA
  rw [hA] at HA ⊢
  clear hA
  unfold setV
  go_enter Try.func105, Try.ntmps105
  go_wp2
  go_loopw [] (fun wr => ∃ T : Nat → Nat, Hid (Got l T) ∧ Hid (Arr wr w.heap.size T) ∧ Hid (Arr wr (w.heap.size + 1) A) ∧ Hid (Arr wr (w.heap.size + 1 + 1) (fun _ => 0)) ∧ Below w.heap.size w wr) (fun wr => 2048 - sumTo (cellNat wr w.heap.size) 8)
  case atStart =>
    have hR0 : Arr (w.alloc (.cells #[.int .i64 (R 0), .int .i64 (R 1), .int .i64 (R 2), .int .i64 (R 3), .int .i64 (R 4), .int .i64 (R 5), .int .i64 (R 6), .int .i64 (R 7)] 93)) w.heap.size R := heap_alloc_new _ _
    have hA1 := Arr.new (w.alloc (.cells #[.int .i64 (R 0), .int .i64 (R 1), .int .i64 (R 2), .int .i64 (R 3), .int .i64 (R 4), .int .i64 (R 5), .int .i64 (R 6), .int .i64 (R 7)] 93)) A (w.heap.size + 1) (by simp)
    have hZ2 := Arr.new ((w.alloc (.cells #[.int .i64 (R 0), .int .i64 (R 1), .int .i64 (R 2), .int .i64 (R 3), .int .i64 (R 4), .int .i64 (R 5), .int .i64 (R 6), .int .i64 (R 7)] 93)).alloc (.cells #[.int .i64 (A 0), .int .i64 (A 1), .int .i64 (A 2), .int .i64 (A 3), .int .i64 (A 4), .int .i64 (A 5), .int .i64 (A 6), .int .i64 (A 7)] 93)) (fun _ => 0) (w.heap.size + 1 + 1) (by simp)
    exact ⟨R, HG.out, (hR0.alloc _).alloc _, hA1.alloc _, hZ2, (((Below.refl _ _).alloc (Nat.le_refl _) _).alloc (by simp) _).alloc (by simp; omega) _⟩
  case round =>
    obtain ⟨T, hg, h0, h1, h2, hb⟩ := hrel
    have hl0 := h0.out.lt
    have hl1 := h1.out.lt
    have hl2 := h2.out.lt
    have c0 := h0.out.cell 0 (by omega)
    have c1 := h0.out.cell 1 (by omega)
    have c2 := h0.out.cell 2 (by omega)
    have c3 := h0.out.cell 3 (by omega)
    have c4 := h0.out.cell 4 (by omega)
    have c5 := h0.out.cell 5 (by omega)
    have c6 := h0.out.cell 6 (by omega)
    have c7 := h0.out.cell 7 (by omega)
    have d0 := h1.out.cell 0 (by omega)
    have d1 := h1.out.cell 1 (by omega)
    have d2 := h1.out.cell 2 (by omega)
    have d3 := h1.out.cell 3 (by omega)
    have d4 := h1.out.cell 4 (by omega)
    have d5 := h1.out.cell 5 (by omega)
    have d6 := h1.out.cell 6 (by omega)
    have d7 := h1.out.cell 7 (by omega)
    go_wp2_with fail
    refine (iNext T A hg.out.lt HA.out wr).mono ?_
    rintro e w2 ⟨rfl, hb2⟩
    clear c0 d0 c1 d1 c2 d2 c3 d3 c4 d4 c5 d5 c6 d6 c7 d7
    have k0 := h0.out.on hb2 hl0
    have k1 := h1.out.on hb2 hl1
    have k2 := h2.out.on hb2 hl2
    have hs2 := hb2.size
    have hbb := hb.trans (hb2.mono hb.size)
    obtain ⟨N, hN⟩ : ∃ N, nextR T A = N := ⟨_, rfl⟩
    have HN := Lib.hid hN
    rw [hN]
    have heq := eql_set N T
    have hgd := set_guard
    unfold setV at heq ⊢
    have HSUM := Lib.hid (sum_arr h0.out)
    clear hN hb hb2 h0 h1 h2
    have j0 := k0.alloc (.cells #[.int .i64 (N 0), .int .i64 (N 1), .int .i64 (N 2), .int .i64 (N 3), .int .i64 (N 4), .int .i64 (N 5), .int .i64 (N 6), .int .i64 (N 7)] 93)
    have j1 := k1.alloc (.cells #[.int .i64 (N 0), .int .i64 (N 1), .int .i64 (N 2), .int .i64 (N 3), .int .i64 (N 4), .int .i64 (N 5), .int .i64 (N 6), .int .i64 (N 7)] 93)
    have j2 := k2.alloc (.cells #[.int .i64 (N 0), .int .i64 (N 1), .int .i64 (N 2), .int .i64 (N 3), .int .i64 (N 4), .int .i64 (N 5), .int .i64 (N 6), .int .i64 (N 7)] 93)
    have j3 := Arr.new w2 N w2.heap.size rfl
    have hl5 := j0.lt
    have hl6 := j2.lt
    have hne5 : w.heap.size ≠ w2.heap.size := by have := k0.lt; omega
    have hne6 : w.heap.size + 1 + 1 ≠ w2.heap.size := by have := k2.lt; omega
    have hne7 : w.heap.size + 1 + 1 ≠ w.heap.size := by omega
    have c0 := j0.cell 0 (by omega)
    have c1 := j0.cell 1 (by omega)
    have c2 := j0.cell 2 (by omega)
    have c3 := j0.cell 3 (by omega)
    have c4 := j0.cell 4 (by omega)
    have c5 := j0.cell 5 (by omega)
    have c6 := j0.cell 6 (by omega)
    have c7 := j0.cell 7 (by omega)
    cases hsm : sameR N T with
    | true =>
      rw [hsm] at heq
      have HS := Lib.hid hsm
      clear hsm
      have d0 := j2.cell 0 (by omega)
      have d1 := j2.cell 1 (by omega)
      have d2 := j2.cell 2 (by omega)
      have d3 := j2.cell 3 (by omega)
      have d4 := j2.cell 4 (by omega)
      have d5 := j2.cell 5 (by omega)
      have d6 := j2.cell 6 (by omega)
      have d7 := j2.cell 7 (by omega)
      have f0 := j2.fr 0
      have f1 := j2.fr 1
      have f2 := j2.fr 2
      have f3 := j2.fr 3
      have f4 := j2.fr 4
      have f5 := j2.fr 5
      have f6 := j2.fr 6
      have f7 := j2.fr 7
      have J0 := Lib.hid j0
      have J2 := Lib.hid j2
      have HBB := Lib.hid hbb
      clear k0 k1 k2 j0 j1 j2 j3 hbb
      go_wp2
      have h8 := J2.out.set8 T
      have HB8 := Lib.hid (below_set8 (g := w.heap.size + 1 + 1) (by omega) T (HBB.out.alloc HBB.out.size ((.cells #[.int .i64 (N 0), .int .i64 (N 1), .int .i64 (N 2), .int .i64 (N 3), .int .i64 (N 4), .int .i64 (N 5), .int .i64 (N 6), .int .i64 (N 7)] 93))))
      refine bodyPost_ret (v := setV T) ?_ rfl ⟨⟨T, rfl, hg.out, fun y hy => ?_⟩, HB8.out⟩
      · have e0 := h8.cell 0 (by omega)
        have e1 := h8.cell 1 (by omega)
        have e2 := h8.cell 2 (by omega)
        have e3 := h8.cell 3 (by omega)
        have e4 := h8.cell 4 (by omega)
        have e5 := h8.cell 5 (by omega)
        have e6 := h8.cell 6 (by omega)
        have e7 := h8.cell 7 (by omega)
        unfold sets8 at e0 e1 e2 e3 e4 e5 e6 e7
        simp [results, Try.results105, go_sem, e0, e1, e2, e3, e4, e5, e6, e7, setV]
      · rw [HAE.out, HN.out]
        exact (sameR_iff N T).1 HS.out y hy
    | false =>
      rw [hsm] at heq
      have HS := Lib.hid hsm
      clear hsm
      have f0 := j0.fr 0
      have f1 := j0.fr 1
      have f2 := j0.fr 2
      have f3 := j0.fr 3
      have f4 := j0.fr 4
      have f5 := j0.fr 5
      have f6 := j0.fr 6
      have f7 := j0.fr 7
      have J0 := Lib.hid j0
      have J1 := Lib.hid j1
      have J2 := Lib.hid j2
      have HBB := Lib.hid (hbb.alloc hbb.size (.cells #[.int .i64 (N 0), .int .i64 (N 1), .int .i64 (N 2), .int .i64 (N 3), .int .i64 (N 4), .int .i64 (N 5), .int .i64 (N 6), .int .i64 (N 7)] 93))
      have HGN := Lib.hid (show Got l N from by rw [← HN.out, ← HAE.out]; exact hg.out.next HIN.out HL.out)
      have HLE := Lib.hid (show ∀ y, y < 8 → T y ≤ N y from fun y hy => by rw [← HN.out, ← HAE.out]; exact hg.out.le HIN.out y hy)
      clear k0 k1 k2 j0 j1 j2 j3 hbb
      go_wp2
      go_roundw
      case rel => exact ⟨N, HGN.out, J0.out.set8 N, J1.out.far8 (by omega), J2.out.far8 (by omega), below_set8 (Nat.le_refl _) N HBB.out⟩
      case measure =>
        have m1 := sum_arr (J0.out.set8 N)
        unfold sets8 at m1
        rw [m1, HSUM.out]
        have m2 := sumTo_256 N 8 HGN.out.lt
        have m3 := sumTo_lt T N 8 HLE.out (by
          refine Classical.byContradiction fun hn => ?_
          have : sameR N T = true := (sameR_iff N T).2 fun y hy => Classical.byContradiction fun hne => hn ⟨y, hy, fun e => hne e.symm⟩
          rw [HS.out] at this
          cases this)
        omega

end Go.Proofs.Ythnapikklolgcaa
