/-
  Shapes turned and compared, in the model.
-/
import Derived.Test.YtkjlmgkjcmebbaaGreatDoorVal
namespace Go.Proofs.YtkjlmgkjcmebbaaGreatDoor
open Go.RowKit

theorem inb_out2 {x lo hi : Int} (h : inb x lo hi = true) : lo ≤ x ∧ x ≤ hi := by
  unfold inb at h
  simpa using h
theorem turnS_yes {m : Nat} {l : List Cl} (h : isShape l = true) (hm : m ≤ 7) : turnS (m : Int) l = turnC m l ∧ (isShape l && inb (m : Int) 0 7) = true := by
  have e : (isShape l && inb (m : Int) 0 7) = true := by simp [h, inb]; omega
  exact ⟨by unfold turnS; rw [if_pos e]; rfl, e⟩
theorem turnS_no {m : Int} {l : List Cl} (h : (isShape l && inb m 0 7) = false) : turnS m l = [] := if_neg (by rw [h]; simp)

theorem ret_I {a b : Int} (h : a = b) : Ending.returned (.int .i64 a) = .returned (.int .i64 b) := by rw [h]
theorem sBeforeG (x y u v : Int) (w : World) : Calls Tryz.prog 123 #[.agg #[.int .i64 x, .int .i64 y], .agg #[.int .i64 u, .int .i64 v]] w fun e w' => e = .returned (.bool (bef (x, y) (u, v))) ∧ ∃ q os', w' = Go.Sort.grow (w.drewN q) os' := by
  unfold bef
  dsimp only
  by_cases h1 : y < v
  · go_enter Tryz.func123, Tryz.ntmps123
    go_wp2
    go_ret
    exact ⟨by simp [h1], 0, _, by rw [Go.Sort.alloc_eq_grow, Go.Sort.alloc_eq_grow, Go.Sort.grow_grow]; rfl⟩
  · by_cases h2 : y = v
    · subst h2
      by_cases h3 : x < u
      · go_enter Tryz.func123, Tryz.ntmps123
        go_wp2
        go_ret
        exact ⟨by simp, 0, _, by rw [Go.Sort.alloc_eq_grow, Go.Sort.alloc_eq_grow, Go.Sort.grow_grow]; rfl⟩
      · go_enter Tryz.func123, Tryz.ntmps123
        go_wp2
        go_ret
        exact ⟨by simp [h3], 0, _, by rw [Go.Sort.alloc_eq_grow, Go.Sort.alloc_eq_grow, Go.Sort.grow_grow]; rfl⟩
    · have e2 : (y == v) = false := by simp [h2]
      go_enter Tryz.func123, Tryz.ntmps123
      go_wp2
      go_ret
      exact ⟨by simp [h1], 0, _, by rw [Go.Sort.alloc_eq_grow, Go.Sort.alloc_eq_grow, Go.Sort.grow_grow]; rfl⟩

theorem cmpS_lens {l r : List Cl} (h : l.length = r.length) : cmpS l r = cmpL (l.drop 0) (r.drop 0) := by
  unfold cmpS
  rw [if_neg (by omega), if_neg (by omega)]
  rfl

set_option maxHeartbeats 2000000 in
set_option maxRecDepth 100000 in
theorem sCompare (B n m c1 c2 : Nat) (a1 a2 : Option Addr) (l r : List Cl) (w : World) (hn : n ≤ 4194304) (hm : m ≤ 4194304) (h1 : CellsAt B w a1 n l) (h2 : CellsAt B w a2 m r) (hB : B ≤ w.heap.size) :
    Calls Tryz.prog 178 #[.slice a1 n c1, .slice a2 m c2] w fun e w' => e = .returned (.int .i64 (cmpS l r)) ∧ Below w.heap.size w w' := by
  have H1 := Lib.hid h1
  have H2 := Lib.hid h2
  clear h1 h2
  by_cases hd : n = m
  · subst hd
    have hne : (((n : Nat) : Int) != (n : Int)) = false := by simp
    have HC := Lib.hid (cmpS_lens (l := l) (r := r) (by rw [H1.out.1, H2.out.1]))
    go_enter Tryz.func178, Tryz.ntmps178
    go_wp2
    go_loopw [5] (fun i wr => ∃ k : Nat, k ≤ n ∧ i = .int .i64 k ∧ Hid (cmpS l r = cmpL (l.drop k) (r.drop k)) ∧ Below w.heap.size w wr) (fun i _ => n - (intOf i).toNat)
    case atStart => exact ⟨0, by omega, rfl, HC, Below.refl _ _⟩
    case round =>
      obtain ⟨k, hk, rfl, hsame, hb⟩ := hrel
      have hsz := hb.size
      by_cases hlt : k < n
      · obtain ⟨b1, o1, rfl, hb1, hc1⟩ := H1.out.2.2 (by omega)
        obtain ⟨b2, o2, rfl, hb2, hc2⟩ := H2.out.2.2 (by omega)
        obtain ⟨x, y, hxy⟩ : ∃ x y, l.getD k (0, 0) = (x, y) := ⟨_, _, rfl⟩
        obtain ⟨u, v, huv⟩ : ∃ u v, r.getD k (0, 0) = (u, v) := ⟨_, _, rfl⟩
        have p1 := (hb.cell (p := ⟨b1, o1 + k * 2, none⟩) (Nat.lt_of_lt_of_le hb1 hB)).trans (hc1 k hlt).1
        have p2 := (hb.cell (p := ⟨b1, o1 + k * 2 + 1, none⟩) (Nat.lt_of_lt_of_le hb1 hB)).trans (hc1 k hlt).2
        have q1 := (hb.cell (p := ⟨b2, o2 + k * 2, none⟩) (Nat.lt_of_lt_of_le hb2 hB)).trans (hc2 k hlt).1
        have q2 := (hb.cell (p := ⟨b2, o2 + k * 2 + 1, none⟩) (Nat.lt_of_lt_of_le hb2 hB)).trans (hc2 k hlt).2
        rw [hxy] at p1 p2
        rw [huv] at q1 q2
        have hdrop := cmpL_drop (l := l) (r := r) (by rw [H1.out.1, H2.out.1]) k (by rw [H1.out.1]; exact hlt)
        rw [hxy, huv] at hdrop
        have HDR := Lib.hid (hsame.out.trans hdrop)
        have hbl1 : b1 < wr.heap.size := by omega
        have hbl2 : b2 < wr.heap.size := by omega
        have hk0 : (0 : Int) ≤ (k : Int) := by omega
        have hk1 : (k : Int) < (n : Int) := by omega
        have hE := neq_cell x y u v
        have hG := cell_guard
        clear hc1 hc2 hxy huv hdrop hsame
        by_cases heq : x = u ∧ y = v
        · obtain ⟨rfl, rfl⟩ := heq
          rw [if_pos rfl] at HDR
          have hsc : sameC (x, y) (x, y) = true := by simp [sameC]
          rw [hsc] at hE
          clear hsc
          go_wp2_with fail
          go_quiet (fail)
          go_wp2_with fail
          go_roundw
          case rel => exact ⟨k + 1, by omega, by go_num, HDR, below_drewn hb _⟩
          case measure => simp [intOf]; omega
        · rw [if_neg (fun e => heq (by injection e with e1 e2; exact ⟨e1, e2⟩))] at HDR
          have hsc : sameC (x, y) (u, v) = false := by unfold sameC; rw [Bool.eq_false_iff]; intro h; apply heq; simpa using h
          rw [hsc] at hE
          clear hsc heq
          go_wp2_with fail
          go_quiet (fail)
          go_wp2_with fail
          have hBG : ∀ n os, Calls Tryz.prog 123 #[.agg #[.int .i64 x, .int .i64 y], .agg #[.int .i64 u, .int .i64 v]] (Go.Sort.grow ((wr.drewN nq).drewN n) os) fun e w'' => e = .returned (.bool (bef (x, y) (u, v))) ∧ ∃ q os', w'' = Go.Sort.grow ((Go.Sort.grow ((wr.drewN nq).drewN n) os).drewN q) os' := fun n os => sBeforeG x y u v _
          have g1 := cell_grown (w := wr.drewN nq) hbl1 p1
          have g2 := cell_grown (w := wr.drewN nq) hbl1 p2
          have g3 := cell_grown (w := wr.drewN nq) hbl2 q1
          have g4 := cell_grown (w := wr.drewN nq) hbl2 q2
          have hmix : Tryz.prog.follows .mixedOrders = true := by kernel_rfl
          have HBD := Lib.hid (below_drewn hb nq)
          obtain ⟨wd, hwd⟩ : ∃ wd, wr.drewN nq = wd := ⟨_, rfl⟩
          rw [hwd] at hBG g1 g2 g3 g4 HBD ⊢
          have hszd : w.heap.size ≤ wd.heap.size := HBD.out.size
          clear hE hG hb hwd hbl1 hbl2 p1 p2 q1 q2
          refine wp_region_quiet_grown hmix (by kernel_rfl) ?_
          repeat (first | (go_big_quiet_step (first | (go_at_call 123; refine Calls.grown_of (hBG _ _)))) | (quiet_step (first | (go_at_call 123; refine Calls.grown_of (hBG _ _)))))
          refine wpQuiet_nil ?_
          intro _ hw'
          obtain ⟨⟨nq2, osq⟩, hw''⟩ := hw'
          subst hw''
          have hbw : Below wd.heap.size wd (Go.Sort.grow (wd.drewN nq2) osq) := ⟨rfl, rfl, rfl, by simp, fun k hk => Go.Sort.heap_grow_old _ _ hk⟩
          have HBB := Lib.hid (HBD.out.trans (hbw.mono hszd))
          clear hbw g1 g2 g3 g4 hBG
          cases hbf : bef (x, y) (u, v) with
          | true =>
            rw [hbf] at HDR
            have HR := Lib.hid (show cmpS l r = -1 from HDR.out)
            go_wp2
            go_ret
            exact ⟨ret_I HR.out.symm, HBB.out⟩
          | false =>
            rw [hbf] at HDR
            have HR := Lib.hid (show cmpS l r = 1 from HDR.out)
            go_wp2
            go_ret
            exact ⟨ret_I HR.out.symm, HBB.out⟩
      · obtain rfl : k = n := by omega
        have e0 : cmpL (l.drop k) (r.drop k) = 0 := by rw [List.drop_eq_nil_of_le (by rw [H1.out.1]; exact Nat.le_refl _)]; unfold cmpL; rfl
        have HSM := Lib.hid (hsame.out.trans e0)
        clear hsame e0
        go_wp2
        go_ret
        exact ⟨ret_I HSM.out.symm, hb⟩
  · have hne : (((n : Nat) : Int) != (m : Int)) = true := by simp; omega
    by_cases hl : n < m
    · have HC : Hid (cmpS l r = -1) := by unfold cmpS; rw [if_pos (by rw [H1.out.1, H2.out.1]; exact hl)]; exact rfl
      rw [HC.out]
      go_enter Tryz.func178, Tryz.ntmps178
      go_wp2
      go_ret
      exact ⟨rfl, Below.refl _ _⟩
    · have HC : Hid (cmpS l r = 1) := by unfold cmpS; rw [if_neg (by rw [H1.out.1, H2.out.1]; exact hl), if_pos (by rw [H1.out.1, H2.out.1]; omega)]; exact rfl
      rw [HC.out]
      go_enter Tryz.func178, Tryz.ntmps178
      go_wp2
      go_ret
      exact ⟨rfl, Below.refl _ _⟩

end Go.Proofs.YtkjlmgkjcmebbaaGreatDoor
