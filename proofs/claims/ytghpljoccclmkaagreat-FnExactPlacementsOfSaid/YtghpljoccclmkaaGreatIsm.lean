/-
  The small functions under the program's shapes: bounds of a place and of a move, the order of two cells.
-/
import Derived.Test.YtghpljoccclmkaaGreatShp
import Derived.Sort.Grow
namespace Go.Proofs.YtghpljoccclmkaaGreat
open Go.RowKit

theorem iPlace (x : Int) (w : World) : Calls Tryz.prog 73 #[.int .i64 x] w fun e w' => e = .returned (.bool (inb x 0 7)) ∧ w = w' := by
  unfold inb
  by_cases h1 : 0 ≤ x
  · go_enter Tryz.func73, Tryz.ntmps73
    go_wp2
    go_ret
    exact ⟨by simp [h1], rfl⟩
  · go_enter Tryz.func73, Tryz.ntmps73
    go_wp2
    go_ret
    exact ⟨by simp; omega, rfl⟩
/-- Two numbers compared: -1, 0 or 1. -/
def cmpI (x y : Int) : Int := if x < y then -1 else if y < x then 1 else 0
theorem iNaN (x : Int) (w : World) : Calls Tryz.prog 100 #[.int .i64 x] w fun e w' => e = .returned (.bool false) ∧ w = w' := by
  go_enter Tryz.func100, Tryz.ntmps100
  go_wp2
  go_ret
  exact ⟨by simp, rfl⟩
theorem iCmpI (x y : Int) (w : World) : Calls Tryz.prog 81 #[.int .i64 x, .int .i64 y] w fun e w' => e = .returned (.int .i64 (cmpI x y)) ∧ w = w' := by
  unfold cmpI
  by_cases h1 : x < y
  · go_enter Tryz.func81, Tryz.ntmps81
    go_wp2_with (go_at_call 100; refine (iNaN _ _).mono ?_; rintro e w' ⟨rfl, rfl⟩)
    go_ret
    exact ⟨by simp, rfl⟩
  · by_cases h2 : y < x
    · go_enter Tryz.func81, Tryz.ntmps81
      go_wp2_with (go_at_call 100; refine (iNaN _ _).mono ?_; rintro e w' ⟨rfl, rfl⟩)
      go_ret
      exact ⟨by simp, rfl⟩
    · go_enter Tryz.func81, Tryz.ntmps81
      go_wp2_with (go_at_call 100; refine (iNaN _ _).mono ?_; rintro e w' ⟨rfl, rfl⟩)
      go_ret
      exact ⟨by simp, rfl⟩

/-- The first of two numbers that is not 0. -/
def orI (x y : Int) : Int := if x = 0 then y else x
theorem iOr (b : Nat) (x y : Int) (w : World) (h0 : w.cell? ⟨b, 0, none⟩ = some (.int .i64 x)) (h1 : w.cell? ⟨b, 1, none⟩ = some (.int .i64 y)) : Calls Tryz.prog 80 #[.slice (some ⟨b, 0, none⟩) 2 2] w fun e w' => e = .returned (.int .i64 (orI x y)) ∧ w = w' := by
  unfold orI
  by_cases hx : x = 0
  · subst hx
    by_cases hy : y = 0
    · subst hy
      go_enter Tryz.func80, Tryz.ntmps80
      go_wp2
      refine wp_loop_rounds 3 ?_
      rw [rounds_succ]
      go_wp2
      rw [rounds_succ]
      go_wp2
      rw [rounds_succ]
      go_wp2
      go_ret
      exact ⟨by simp, rfl⟩
    · have e : (y != 0) = true := by rw [bne_iff_ne]; exact hy
      go_enter Tryz.func80, Tryz.ntmps80
      go_wp2
      refine wp_loop_rounds 2 ?_
      rw [rounds_succ]
      go_wp2
      rw [rounds_succ]
      go_wp2
      go_ret
      exact ⟨by simp, rfl⟩
  · have e : (x != 0) = true := by rw [bne_iff_ne]; exact hx
    go_enter Tryz.func80, Tryz.ntmps80
    go_wp2
    refine wp_loop_rounds 1 ?_
    rw [rounds_succ]
    go_wp2
    go_ret
    exact ⟨by simp, rfl⟩

/-- Two cells compared: by rows, then from left to right. -/
def cmpC (a b : Cl) : Int := orI (cmpI a.2 b.2) (cmpI a.1 b.1)
theorem cmpC_neg (a b : Cl) : decide (cmpC a b < 0) = bef a b := by
  unfold cmpC orI cmpI bef
  rw [Bool.eq_iff_iff]
  simp only [decide_eq_true_eq, Bool.or_eq_true, Bool.and_eq_true]
  constructor
  · intro h
    repeat' split at h
    all_goals omega
  · intro h
    repeat' split
    all_goals omega
theorem cmpC_geq (a b : Cl) : decide (cmpC a b ≥ 0) = !bef a b := by
  rw [← cmpC_neg, Bool.eq_iff_iff]
  simp only [Bool.not_eq_true', decide_eq_true_eq, decide_eq_false_iff_not]
  omega

theorem two_new {w : World} {t : TypeId} {p q : Value} {N : Nat} (hN : w.heap.size = N) : (w.alloc (.cells #[p, q] t)).drew.cell? ⟨N, 0, none⟩ = some p ∧ (w.alloc (.cells #[p, q] t)).drew.cell? ⟨N, 1, none⟩ = some q := by
  subst hN
  exact ⟨cell_of_row (w.alloc (.cells #[p, q] t)) _ 0 _ _ _ (heap_alloc_new _ _), cell_of_row (w.alloc (.cells #[p, q] t)) _ 1 _ _ _ (heap_alloc_new _ _)⟩

set_option maxHeartbeats 1000000 in
theorem iCompare (x y u v : Int) (W : World) : Calls Tryz.prog 74 #[.agg #[.int .i64 x, .int .i64 y], .agg #[.int .i64 u, .int .i64 v]] W fun e w' => e = .returned (.int .i64 (cmpC (x, y) (u, v))) ∧ (∃ q os', w' = Go.Sort.grow (W.drewN q) os') ∧ Below W.heap.size W w' := by
  have hres : cmpC (x, y) (u, v) = orI (cmpI y v) (cmpI x u) := rfl
  rw [hres]
  clear hres
  have hc1 : ∀ w', Calls Tryz.prog 81 #[.int .i64 y, .int .i64 v] w' _ := fun w' => iCmpI y v w'
  have hc2 : ∀ w', Calls Tryz.prog 81 #[.int .i64 x, .int .i64 u] w' _ := fun w' => iCmpI x u w'
  generalize cmpI y v = p at hc1 ⊢
  generalize cmpI x u = q at hc2 ⊢
  go_enter Tryz.func74, Tryz.ntmps74
  go_wp2_with fail
  have k0 : ((W.alloc (.cells #[.int .i64 x, .int .i64 y] 53)).alloc (.cells #[.int .i64 u, .int .i64 v] 53)).heap.size = W.heap.size + 2 := by simp
  go_region_held3 (fun w' => w'.cell? ⟨W.heap.size, 0, none⟩ = some (.int .i64 x) ∧ w'.cell? ⟨W.heap.size, 1, none⟩ = some (.int .i64 y) ∧ w'.cell? ⟨W.heap.size + 1, 0, none⟩ = some (.int .i64 u) ∧ w'.cell? ⟨W.heap.size + 1, 1, none⟩ = some (.int .i64 v))
    (first | go_keep)
    (first | (go_at_call_of 81 y; refine (hc1 _).mono ?_; rintro e w' ⟨rfl, rfl⟩) | (go_at_call_of 81 x; refine (hc2 _).mono ?_; rintro e w' ⟨rfl, rfl⟩) | (go_at_call 80; refine (iOr _ p q _ (two_new k0).1 (two_new k0).2).mono ?_; rintro e w' ⟨rfl, rfl⟩))
  go_wp2
  go_ret
  exact ⟨rfl, ⟨1, _, by rw [Go.Sort.alloc_eq_grow, Go.Sort.alloc_eq_grow, Go.Sort.alloc_eq_grow, Go.Sort.grow_grow, Go.Sort.grow_grow]; rfl⟩, ((((Below.refl _ _).alloc (Nat.le_refl _) _).alloc (by simp) _).alloc (by simp; omega) _).drew⟩

end Go.Proofs.YtghpljoccclmkaaGreat
