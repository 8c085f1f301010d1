/-
  The small functions under the program's shapes: bounds of a place and of a move, the order of two cells.
  What a shape is, in the program: what the call gives.
  The bounds of a list of cells, in the program: what the call gives.
  The size of a shape, in the program: what the call gives.
  Shapes moved, in the program: what the call gives.
  A shape moved to its corner, in the program: what the call gives.
  Looking for a cell, and equal lists of cells, in the program: what each call gives.
-/
import Derived.Test.YtcfioncnpfoccaaGreatDoorShp
import Derived.Sort.Grow
import Derived.BigQuiet
import Derived.Test.YtcfioncnpfoccaaGreatDoorSiz
import Derived.Test.YtcfioncnpfoccaaGreatDoorMov
import Derived.Test.YtcfioncnpfoccaaGreatDoorShq
namespace Go.Proofs.YtcfioncnpfoccaaGreatDoor

section
open Go.RowKit

theorem iPlace (x : Int) (w : World) : Calls Tryz.prog 91 #[.int .i64 x] w fun e w' => e = .returned (.bool (inb x 0 7)) ∧ w = w' := by
  unfold inb
  by_cases h1 : 0 ≤ x
  · go_enter Tryz.func91, Tryz.ntmps91
    go_wp2
    go_ret
    exact ⟨by simp [h1], rfl⟩
  · go_enter Tryz.func91, Tryz.ntmps91
    go_wp2
    go_ret
    exact ⟨by simp; omega, rfl⟩
theorem iMove (x : Int) (w : World) : Calls Tryz.prog 93 #[.int .i64 x] w fun e w' => e = .returned (.bool (inb x (-7) 7)) ∧ w = w' := by
  unfold inb
  by_cases h1 : -7 ≤ x
  · go_enter Tryz.func93, Tryz.ntmps93
    go_wp2
    go_ret
    exact ⟨by simp [h1], rfl⟩
  · go_enter Tryz.func93, Tryz.ntmps93
    go_wp2
    go_ret
    exact ⟨by simp; omega, rfl⟩

/-- Two numbers compared: -1, 0 or 1. -/
def cmpI (x y : Int) : Int := if x < y then -1 else if y < x then 1 else 0
theorem iNaN (x : Int) (w : World) : Calls Tryz.prog 105 #[.int .i64 x] w fun e w' => e = .returned (.bool false) ∧ w = w' := by
  go_enter Tryz.func105, Tryz.ntmps105
  go_wp2
  go_ret
  exact ⟨by simp, rfl⟩
theorem iCmpI (x y : Int) (w : World) : Calls Tryz.prog 99 #[.int .i64 x, .int .i64 y] w fun e w' => e = .returned (.int .i64 (cmpI x y)) ∧ w = w' := by
  unfold cmpI
  by_cases h1 : x < y
  · go_enter Tryz.func99, Tryz.ntmps99
    go_wp2_with (go_at_call 105; refine (iNaN _ _).mono ?_; rintro e w' ⟨rfl, rfl⟩)
    go_ret
    exact ⟨by simp, rfl⟩
  · by_cases h2 : y < x
    · go_enter Tryz.func99, Tryz.ntmps99
      go_wp2_with (go_at_call 105; refine (iNaN _ _).mono ?_; rintro e w' ⟨rfl, rfl⟩)
      go_ret
      exact ⟨by simp, rfl⟩
    · go_enter Tryz.func99, Tryz.ntmps99
      go_wp2_with (go_at_call 105; refine (iNaN _ _).mono ?_; rintro e w' ⟨rfl, rfl⟩)
      go_ret
      exact ⟨by simp, rfl⟩

/-- The first of two numbers that is not 0. -/
def orI (x y : Int) : Int := if x = 0 then y else x
theorem iOr (b : Nat) (x y : Int) (w : World) (h0 : w.cell? ⟨b, 0, none⟩ = some (.int .i64 x)) (h1 : w.cell? ⟨b, 1, none⟩ = some (.int .i64 y)) : Calls Tryz.prog 98 #[.slice (some ⟨b, 0, none⟩) 2 2] w fun e w' => e = .returned (.int .i64 (orI x y)) ∧ w = w' := by
  unfold orI
  by_cases hx : x = 0
  · subst hx
    by_cases hy : y = 0
    · subst hy
      go_enter Tryz.func98, Tryz.ntmps98
      go_wp2
      refine wp_loop_rounds 3 ?_
      rw [rounds_succ]
      go_wp2
      rw [rounds_succ]
      go_wp2
      rw [rounds_succ]
      go_wp2
      go_ret
      exact ⟨by simp, rfl⟩
    · have e : (y != 0) = true := by rw [bne_iff_ne]; exact hy
      go_enter Tryz.func98, Tryz.ntmps98
      go_wp2
      refine wp_loop_rounds 2 ?_
      rw [rounds_succ]
      go_wp2
      rw [rounds_succ]
      go_wp2
      go_ret
      exact ⟨by simp, rfl⟩
  · have e : (x != 0) = true := by rw [bne_iff_ne]; exact hx
    go_enter Tryz.func98, Tryz.ntmps98
    go_wp2
    refine wp_loop_rounds 1 ?_
    rw [rounds_succ]
    go_wp2
    go_ret
    exact ⟨by simp, rfl⟩

/-- Two cells compared: by rows, then from left to right. -/
def cmpC (a b : Cl) : Int := orI (cmpI a.2 b.2) (cmpI a.1 b.1)
theorem cmpC_neg (a b : Cl) : decide (cmpC a b < 0) = bef a b := by
  unfold cmpC orI cmpI bef
  rw [Bool.eq_iff_iff]
  simp only [decide_eq_true_eq, Bool.or_eq_true, Bool.and_eq_true]
  constructor
  · intro h
    repeat' split at h
    all_goals omega
  · intro h
    repeat' split
    all_goals omega
theorem cmpC_geq (a b : Cl) : decide (cmpC a b ≥ 0) = !bef a b := by
  rw [← cmpC_neg, Bool.eq_iff_iff]
  simp only [Bool.not_eq_true', decide_eq_true_eq, decide_eq_false_iff_not]
  omega

theorem two_new {w : World} {t : TypeId} {p q : Value} {N : Nat} (hN : w.heap.size = N) : (w.alloc (.cells #[p, q] t)).drew.cell? ⟨N, 0, none⟩ = some p ∧ (w.alloc (.cells #[p, q] t)).drew.cell? ⟨N, 1, none⟩ = some q := by
  subst hN
  exact ⟨cell_of_row (w.alloc (.cells #[p, q] t)) _ 0 _ _ _ (heap_alloc_new _ _), cell_of_row (w.alloc (.cells #[p, q] t)) _ 1 _ _ _ (heap_alloc_new _ _)⟩

set_option maxHeartbeats 1000000 in
theorem iCompare (x y u v : Int) (W : World) : Calls Tryz.prog 92 #[.agg #[.int .i64 x, .int .i64 y], .agg #[.int .i64 u, .int .i64 v]] W fun e w' => e = .returned (.int .i64 (cmpC (x, y) (u, v))) ∧ (∃ q os', w' = Go.Sort.grow (W.drewN q) os') ∧ Below W.heap.size W w' := by
  have hres : cmpC (x, y) (u, v) = orI (cmpI y v) (cmpI x u) := rfl
  rw [hres]
  clear hres
  have hc1 : ∀ w', Calls Tryz.prog 99 #[.int .i64 y, .int .i64 v] w' _ := fun w' => iCmpI y v w'
  have hc2 : ∀ w', Calls Tryz.prog 99 #[.int .i64 x, .int .i64 u] w' _ := fun w' => iCmpI x u w'
  generalize cmpI y v = p at hc1 ⊢
  generalize cmpI x u = q at hc2 ⊢
  go_enter Tryz.func92, Tryz.ntmps92
  go_wp2_with fail
  have k0 : ((W.alloc (.cells #[.int .i64 x, .int .i64 y] 79)).alloc (.cells #[.int .i64 u, .int .i64 v] 79)).heap.size = W.heap.size + 2 := by simp
  go_region_held3 (fun w' => w'.cell? ⟨W.heap.size, 0, none⟩ = some (.int .i64 x) ∧ w'.cell? ⟨W.heap.size, 1, none⟩ = some (.int .i64 y) ∧ w'.cell? ⟨W.heap.size + 1, 0, none⟩ = some (.int .i64 u) ∧ w'.cell? ⟨W.heap.size + 1, 1, none⟩ = some (.int .i64 v))
    (first | go_keep)
    (first | (go_at_call_of 99 y; refine (hc1 _).mono ?_; rintro e w' ⟨rfl, rfl⟩) | (go_at_call_of 99 x; refine (hc2 _).mono ?_; rintro e w' ⟨rfl, rfl⟩) | (go_at_call 98; refine (iOr _ p q _ (two_new k0).1 (two_new k0).2).mono ?_; rintro e w' ⟨rfl, rfl⟩))
  go_wp2
  go_ret
  exact ⟨rfl, ⟨1, _, by rw [Go.Sort.alloc_eq_grow, Go.Sort.alloc_eq_grow, Go.Sort.alloc_eq_grow, Go.Sort.grow_grow, Go.Sort.grow_grow]; rfl⟩, ((((Below.refl _ _).alloc (Nat.le_refl _) _).alloc (by simp) _).alloc (by simp; omega) _).drew⟩
end

section
open Go.RowKit

theorem isShape_few {l : List Cl} (h : l.length = 0 ∨ 8 < l.length) : isShape l = false := by
  unfold isShape inb
  rw [Bool.and_eq_false_iff]
  right
  rw [Bool.and_eq_false_iff, decide_eq_false_iff_not, decide_eq_false_iff_not]
  omega

set_option maxHeartbeats 2000000 in
set_option maxRecDepth 100000 in
theorem iIsShape (B n cap : Nat) (a : Option Addr) (l : List Cl) (w : World) (hn : n ≤ 4194304) (hc : CellsAt B w a n l) (hB : B ≤ w.heap.size) :
    Calls Tryz.prog 80 #[.slice a n cap] w fun e w' => e = .returned (.bool (isShape l)) ∧ Below w.heap.size w w' := by
  have H := Lib.hid hc
  clear hc
  by_cases h0 : n = 0 ∨ 8 < n
  · have hno : isShape l = false := isShape_few (by rw [H.out.1]; exact h0)
    rw [hno]
    rcases h0 with h0 | h0
    · subst h0
      go_enter Tryz.func80, Tryz.ntmps80
      go_wp2
      go_ret
      exact ⟨rfl, Below.refl _ _⟩
    · have h1 : ((n : Int) == 0) = false := by simp; omega
      go_enter Tryz.func80, Tryz.ntmps80
      go_wp2
      go_ret
      exact ⟨rfl, Below.refl _ _⟩
  have h1 : ((n : Int) == 0) = false := by simp; omega
  have h8 : n ≤ 8 := by omega
  have h00 : 0 < n := by omega
  clear h0
  go_enter Tryz.func80, Tryz.ntmps80
  go_wp2
  go_loopw [15] (fun i wr => ∃ k : Nat, k ≤ n ∧ i = .int .i64 k ∧ Hid (okTo l k = true) ∧ Below w.heap.size w wr) (fun i _ => n - (intOf i).toNat)
  case atStart => exact ⟨0, by omega, rfl, by simp [Hid, okTo], Below.refl _ _⟩
  case round =>
    obtain ⟨k, hk, rfl, hok, hb⟩ := hrel
    have hsz := hb.size
    clear h1
    by_cases hlt : k < n
    · obtain ⟨b1, o1, rfl, hb1, hc1⟩ := H.out.2.2 (by omega)
      obtain ⟨x, y, hxy⟩ : ∃ x y, l.getD k (0, 0) = (x, y) := ⟨_, _, rfl⟩
      have p1 := (hb.cell (p := ⟨b1, o1 + k * 2, none⟩) (Nat.lt_of_lt_of_le hb1 hB)).trans (hc1 k hlt).1
      have p2 := (hb.cell (p := ⟨b1, o1 + k * 2 + 1, none⟩) (Nat.lt_of_lt_of_le hb1 hB)).trans (hc1 k hlt).2
      rw [hxy] at p1 p2
      have HX := Lib.hid hxy
      have hkz : (0 : Int) ≤ (k : Int) := by omega
      have hk1 : (k : Int) < (n : Int) := by omega
      have hbl : b1 < wr.heap.size := by omega
      clear hxy
      by_cases hA : inb x 0 7 = true
      · by_cases hA2 : inb y 0 7 = true
        · by_cases hk0 : 0 < k
          · obtain ⟨u, v, huv⟩ : ∃ u v, l.getD (k - 1) (0, 0) = (u, v) := ⟨_, _, rfl⟩
            have q1 := (hb.cell (p := ⟨b1, o1 + (k - 1) * 2, none⟩) (Nat.lt_of_lt_of_le hb1 hB)).trans (hc1 (k - 1) (by omega)).1
            have q2 := (hb.cell (p := ⟨b1, o1 + (k - 1) * 2 + 1, none⟩) (Nat.lt_of_lt_of_le hb1 hB)).trans (hc1 (k - 1) (by omega)).2
            rw [huv] at q1 q2
            have HU := Lib.hid huv
            have hj0 : (1 : Int) ≤ (k : Int) := by omega
            have hj2 : (k : Int) - 1 < (n : Int) := by omega
            have hj3 : (0 : Int) ≤ (k : Int) - 1 := by omega
            have hj4 : ((k : Int) - 1).toNat = k - 1 := by omega
            have hj : IntKind.i64.wrap ((k : Int) - 1) = (k : Int) - 1 := IntWalk.i64_in _ (by omega)
            have hcmp : ∀ w', Calls Tryz.prog 92 #[.agg #[.int .i64 u, .int .i64 v], .agg #[.int .i64 x, .int .i64 y]] w' _ := fun w' => iCompare u v x y w'
            obtain ⟨r, hr⟩ : ∃ r, cmpC (u, v) (x, y) = r := ⟨_, rfl⟩
            rw [hr] at hcmp
            have HR := Lib.hid hr
            clear huv hc1 hr
            go_wp2_with fail
            go_region_held3 (fun w' => w'.cell? ⟨wr.heap.size, 0, none⟩ = some (.int .i64 x) ∧ w'.cell? ⟨wr.heap.size, 1, none⟩ = some (.int .i64 y) ∧ w'.cell? ⟨b1, o1 + (k - 1) * 2, none⟩ = some (.int .i64 u) ∧ w'.cell? ⟨b1, o1 + (k - 1) * 2 + 1, none⟩ = some (.int .i64 v))
              (first | go_keep | exact ⟨(hbe.cell (p := ⟨wr.heap.size, 0, none⟩) (by simp)).trans (by go_keep), (hbe.cell (p := ⟨wr.heap.size, 1, none⟩) (by simp)).trans (by go_keep), (hbe.cell (p := ⟨b1, o1 + (k - 1) * 2, none⟩) (by simp; omega)).trans (by go_keep), (hbe.cell (p := ⟨b1, o1 + (k - 1) * 2 + 1, none⟩) (by simp; omega)).trans (by go_keep)⟩)
              (first | (go_at_call 91; refine (iPlace _ _).mono ?_; rintro e w' ⟨rfl, rfl⟩) | (go_at_call 92; refine (hcmp _).mono ?_; rintro e w' ⟨rfl, _, hbe⟩))
            all_goals go_wp2
            all_goals
              rename_i hcase
              have hbb := (hb.alloc hsz (.cells #[.int .i64 x, .int .i64 y] 79)).drew.trans (hbe.mono (by simp; omega))
              have HBB := Lib.hid hbb
              have hbf := cmpC_neg (u, v) (x, y)
              rw [HR.out] at hbf
              clear hbb hcmp
              first
                | (have e : okAt l k = false := by
                     unfold okAt
                     rw [HX.out, HU.out, ← hbf]
                     simp
                     omega
                   have hno : isShape l = false := by
                     unfold isShape
                     rw [okTo_no (by rw [H.out.1]; exact hlt) e]
                     rfl
                   go_ret
                   exact ⟨by rw [hno]; rfl, HBB.out⟩)
                | (have e : okTo l (k + 1) = true := by
                     have e : okAt l k = true := by
                       unfold okAt inP
                       rw [HX.out, HU.out, ← hbf]
                       simp [hA, hA2]
                       omega
                     rw [okTo_succ, e, hok.out]
                     rfl
                   have HE := Lib.hid e
                   clear e hbf
                   go_roundw
                   case rel => exact ⟨k + 1, by omega, by go_num, HE.out, HBB.out⟩
                   case measure => simp [intOf]; omega)
          · have hyes : okTo l (k + 1) = true := by
              have e : okAt l k = true := by unfold okAt inP; rw [HX.out]; simp [hA, hA2]; omega
              rw [okTo_succ, e, hok.out]; rfl
            have hd : decide ((0 : Int) < (k : Int)) = false := by simp; omega
            go_wp2_with fail
            go_quiet (first | (go_at_call 91; refine quiet_same (iPlace _ _)))
            go_wp2
            clear hd
            go_roundw
            case rel => exact ⟨k + 1, by omega, by go_num, hyes, below_drewn (hb.alloc hsz _) _⟩
            case measure => simp [intOf]; omega
        · have hA' : inb y 0 7 = false := by simpa using hA2
          clear hA2
          have hno : isShape l = false := by
            have e : okAt l k = false := by unfold okAt inP; rw [HX.out]; simp [hA']
            unfold isShape
            rw [okTo_no (by rw [H.out.1]; exact hlt) e]
            rfl
          go_wp2_with fail
          go_quiet (first | (go_at_call 91; refine quiet_same (iPlace _ _)))
          go_wp2
          go_ret
          exact ⟨by rw [hno]; rfl, below_drewn (hb.alloc hsz _) _⟩
      · have hA' : inb x 0 7 = false := by simpa using hA
        clear hA
        have hno : isShape l = false := by
          have e : okAt l k = false := by unfold okAt inP; rw [HX.out]; simp [hA']
          unfold isShape
          rw [okTo_no (by rw [H.out.1]; exact hlt) e]
          rfl
        go_wp2_with fail
        go_quiet (first | (go_at_call 91; refine quiet_same (iPlace _ _)))
        go_wp2
        go_ret
        exact ⟨by rw [hno]; rfl, below_drewn (hb.alloc hsz _) _⟩
    · obtain rfl : k = n := by omega
      have he : isShape l = true := by
        have := hok.out
        unfold isShape
        rw [H.out.1, this]
        simp [inb]
        omega
      go_wp2
      go_ret
      exact ⟨by rw [he]; rfl, hb⟩
end

section
open Go.RowKit

def lstX (l : List Cl) : Int := lstTo Prod.fst l l.length
def lstY (l : List Cl) : Int := lstTo Prod.snd l l.length
def grtX (l : List Cl) : Int := grtTo Prod.fst l l.length
def grtY (l : List Cl) : Int := grtTo Prod.snd l l.length

/-- A block of one cell. -/
def Two (w : World) (g : Nat) (x y : Int) : Prop := w.heap[g]? = some (.cells #[.int .i64 x, .int .i64 y] 79 (0, 0))
theorem Two.lt {w : World} {g : Nat} {x y : Int} (h : Two w g x y) : g < w.heap.size := (Array.getElem?_eq_some_iff.1 h).1
theorem Two.c0 {w : World} {g : Nat} {x y : Int} (h : Two w g x y) : w.cell? ⟨g, 0, none⟩ = some (.int .i64 x) := cell_of_row w g 0 _ _ _ h
theorem Two.c1 {w : World} {g : Nat} {x y : Int} (h : Two w g x y) : w.cell? ⟨g, 1, none⟩ = some (.int .i64 y) := cell_of_row w g 1 _ _ _ h
theorem Two.f0 {w : World} {g : Nat} {x y : Int} (h : Two w g x y) (j : Nat) : w.frozen? ⟨g, j, none⟩ = false := by unfold Two at h; simp [World.frozen?, h]
theorem Two.new {w : World} {N : Nat} (x y : Int) (h : w.heap.size = N) : Two (w.alloc (.cells #[.int .i64 x, .int .i64 y] 79)) N x y := by subst h; exact heap_alloc_new _ _
theorem Two.alloc {w : World} {g : Nat} {x y : Int} (h : Two w g x y) (o : Obj) : Two (w.alloc o) g x y := (Below.heap_alloc w o g h.lt).trans h
theorem Two.on {w w' : World} {g B : Nat} {x y : Int} (h : Two w g x y) (hb : Below B w w') (hlt : g < B) : Two w' g x y := (hb.block g hlt).trans h
theorem Two.set {w : World} {g : Nat} {x y : Int} (h : Two w g x y) (u v : Int) : Two ((w.setCell ⟨g, 0, none⟩ (.int .i64 u)).setCell ⟨g, 1, none⟩ (.int .i64 v)) g u v := by
  have := set_row (set_row h 0 (.int .i64 u)) 1 (.int .i64 v)
  unfold Two
  simpa using this
theorem Two.at2 {w : World} (a b : Obj) (x y : Int) : Two (((w.alloc a).alloc b).alloc (.cells #[.int .i64 x, .int .i64 y] 79)) (w.heap.size + 1 + 1) x y := Two.new x y (by simp)
theorem Two.at3 {w : World} (a b c : Obj) (x y : Int) : Two ((((w.alloc a).alloc b).alloc c).alloc (.cells #[.int .i64 x, .int .i64 y] 79)) (w.heap.size + 1 + 1 + 1) x y := Two.new x y (by simp)
theorem Two.far {w : World} {g g' j : Nat} {x y : Int} {v : Value} (h : Two w g x y) (hne : g' ≠ g) : Two (w.setCell ⟨g', j, none⟩ v) g x y := (Below.heap_setCell w ⟨g', j, none⟩ v g (fun e => hne e.symm)).trans h

set_option maxHeartbeats 2000000 in
set_option maxRecDepth 100000 in
theorem iBounds (B n cap : Nat) (a : Option Addr) (l : List Cl) (w : World) (hn : n ≤ 4194304) (h0 : 0 < n) (hc : CellsAt B w a n l) (hB : B ≤ w.heap.size) :
    Calls Tryz.prog 81 #[.slice a n cap] w fun e w' => e = .returned (.tuple #[.agg #[.int .i64 (lstX l), .int .i64 (lstY l)], .agg #[.int .i64 (grtX l), .int .i64 (grtY l)]]) ∧ Below w.heap.size w w' := by
  obtain ⟨b1, o1, rfl, hb1, hc1⟩ := hc.2.2 h0
  have H := Lib.hid hc
  clear hc
  obtain ⟨x0, y0, hxy0⟩ : ∃ x y, l.getD 0 (0, 0) = (x, y) := ⟨_, _, rfl⟩
  have z1 := (hc1 0 h0).1
  have z2 := (hc1 0 h0).2
  rw [hxy0] at z1 z2
  simp only [Nat.zero_mul, Nat.add_zero] at z1 z2
  have hz1 : (0 : Int) < (n : Int) := by omega
  have hbl : b1 < w.heap.size := by omega
  have HX0 := Lib.hid hxy0
  clear hxy0
  go_enter Tryz.func81, Tryz.ntmps81
  go_wp2_with fail
  go_region_held3 (fun w' => w'.cell? ⟨b1, o1, none⟩ = some (.int .i64 x0) ∧ w'.cell? ⟨b1, o1 + 1, none⟩ = some (.int .i64 y0)) (first | (simp (config := { maxDischargeDepth := 12 }) [*, World.cell?_alloc_some])) (fail)
  rotate_left
  generalize hp : w.heap.size + 1 + 1 + 1 = p
  generalize hq : w.heap.size + 1 + 1 = q
  rotate_left
  generalize hq : w.heap.size + 1 + 1 + 1 = q
  generalize hp : w.heap.size + 1 + 1 = p
  all_goals
    generalize hW : World.drew _ = W1
    have hb0 : Below w.heap.size w W1 := by rw [← hW]; exact (((((Below.refl _ _).alloc (Nat.le_refl _) _).alloc (by simp) _).alloc (by simp; omega) _).alloc (by simp; omega) _).drew
    have r0 : Two W1 w.heap.size 0 0 := by rw [← hW]; exact (((Two.new (w := w) 0 0 rfl).alloc _).alloc _).alloc _
    have r1 : Two W1 (w.heap.size + 1) 0 0 := by rw [← hW]; exact ((Two.new 0 0 (by simp)).alloc _).alloc _
    have rp : Two W1 p x0 y0 := by rw [← hW, ← hp]; first | exact (Two.at2 _ _ x0 y0).alloc _ | exact Two.at3 _ _ _ x0 y0
    have rq : Two W1 q x0 y0 := by rw [← hW, ← hq]; first | exact (Two.at2 _ _ x0 y0).alloc _ | exact Two.at3 _ _ _ x0 y0
    have hpq : p ≠ q ∧ p ≠ w.heap.size ∧ p ≠ w.heap.size + 1 ∧ q ≠ w.heap.size ∧ q ≠ w.heap.size + 1 ∧ w.heap.size ≤ p ∧ w.heap.size ≤ q := by omega
    have HPQ := Lib.hid hpq
    have HR := Lib.hid (show _ ∧ _ ∧ _ ∧ _ from ⟨r0, r1, rp, rq⟩)
    have HB0 := Lib.hid hb0
    clear hW hp hq hpq r0 r1 rp rq hb0
    simp only [Exit.then]
    go_wp2
    go_loopw [16] (fun i wr => ∃ k : Nat, k ≤ n ∧ i = .int .i64 k ∧ Hid (Two wr w.heap.size 0 0 ∧ Two wr (w.heap.size + 1) 0 0) ∧ Hid (Two wr p (lstTo Prod.fst l k) (lstTo Prod.snd l k) ∧ Two wr q (grtTo Prod.fst l k) (grtTo Prod.snd l k)) ∧ Below w.heap.size w wr) (fun i _ => n - (intOf i).toNat)
    case atStart =>
      refine ⟨0, by omega, rfl, ⟨HR.out.1, HR.out.2.1⟩, ⟨?_, ?_⟩, HB0.out⟩
      · have := HR.out.2.2.1
        simp only [lstTo]
        rw [HX0.out]
        exact this
      · have := HR.out.2.2.2
        simp only [grtTo]
        rw [HX0.out]
        exact this
    case round =>
      obtain ⟨k, hk, rfl, hRR, hPQ, hb⟩ := hrel
      have hsz := hb.size
      by_cases hlt : k < n
      · obtain ⟨x, y, hxy⟩ : ∃ x y, l.getD k (0, 0) = (x, y) := ⟨_, _, rfl⟩
        have p1 := (hb.cell (p := ⟨b1, o1 + k * 2, none⟩) (Nat.lt_of_lt_of_le hb1 hB)).trans (hc1 k hlt).1
        have p2 := (hb.cell (p := ⟨b1, o1 + k * 2 + 1, none⟩) (Nat.lt_of_lt_of_le hb1 hB)).trans (hc1 k hlt).2
        rw [hxy] at p1 p2
        have HX := Lib.hid hxy
        have hkz : (0 : Int) ≤ (k : Int) := by omega
        have hk1 : (k : Int) < (n : Int) := by omega
        have s1 : lstTo Prod.fst l (k + 1) = if x < lstTo Prod.fst l k then x else lstTo Prod.fst l k := by rw [lstTo_step, hxy]
        have s2 : lstTo Prod.snd l (k + 1) = if y < lstTo Prod.snd l k then y else lstTo Prod.snd l k := by rw [lstTo_step, hxy]
        have s3 : grtTo Prod.fst l (k + 1) = if grtTo Prod.fst l k < x then x else grtTo Prod.fst l k := by rw [grtTo_step, hxy]
        have s4 : grtTo Prod.snd l (k + 1) = if grtTo Prod.snd l k < y then y else grtTo Prod.snd l k := by rw [grtTo_step, hxy]
        have HS := Lib.hid (show _ ∧ _ ∧ _ ∧ _ from ⟨s1, s2, s3, s4⟩)
        generalize lstTo Prod.fst l k = a1 at hPQ HS
        generalize lstTo Prod.snd l k = a2 at hPQ HS
        generalize grtTo Prod.fst l k = a3 at hPQ HS
        generalize grtTo Prod.snd l k = a4 at hPQ HS
        have hpl := hPQ.out.1.lt
        have hql := hPQ.out.2.lt
        have g1 := hPQ.out.1.c0
        have g2 := hPQ.out.1.c1
        have g3 := hPQ.out.2.c0
        have g4 := hPQ.out.2.c1
        have e1 := hPQ.out.1.f0 0
        have e2 := hPQ.out.1.f0 1
        have e3 := hPQ.out.2.f0 0
        have e4 := hPQ.out.2.f0 1
        have hbl2 : b1 < wr.heap.size := by omega
        have hne1 : p ≠ wr.heap.size := by omega
        have hne2 : q ≠ wr.heap.size := by omega
        have hne3 : b1 ≠ p := by have := HPQ.out; omega
        have hne4 : b1 ≠ q := by have := HPQ.out; omega
        have hne5 : p ≠ q := HPQ.out.1
        clear hxy hc1 s1 s2 s3 s4
        go_wp2
        go_roundw
        case rel =>
          have hpg := HPQ.out
          have hb4 := (((hb.setCell (p := ⟨p, 0, none⟩) hpg.2.2.2.2.2.1 (.int .i64 (if x < a1 then x else a1))).setCell (p := ⟨p, 1, none⟩) hpg.2.2.2.2.2.1 (.int .i64 (if y < a2 then y else a2))).setCell (p := ⟨q, 0, none⟩) hpg.2.2.2.2.2.2 (.int .i64 (if a3 < x then x else a3))).setCell (p := ⟨q, 1, none⟩) hpg.2.2.2.2.2.2 (.int .i64 (if a4 < y then y else a4))
          refine ⟨k + 1, by omega, by go_num, ⟨?_, ?_⟩, ⟨?_, ?_⟩, hb4.alloc hb4.size _⟩
          · exact ((((hRR.out.1.far hpg.2.1).far hpg.2.1).far hpg.2.2.2.1).far hpg.2.2.2.1).alloc _
          · exact ((((hRR.out.2.far hpg.2.2.1).far hpg.2.2.1).far hpg.2.2.2.2.1).far hpg.2.2.2.2.1).alloc _
          · rw [HS.out.1, HS.out.2.1]
            exact (((hPQ.out.1.set _ _).far hpg.1.symm).far hpg.1.symm).alloc _
          · rw [HS.out.2.2.1, HS.out.2.2.2]
            exact (((hPQ.out.2.far hpg.1).far hpg.1).set _ _).alloc _
        case measure => simp [intOf]; omega
      · obtain rfl : k = n := by omega
        have t1 : lstX l = lstTo Prod.fst l k := by unfold lstX; rw [H.out.1]
        have t2 : lstY l = lstTo Prod.snd l k := by unfold lstY; rw [H.out.1]
        have t3 : grtX l = grtTo Prod.fst l k := by unfold grtX; rw [H.out.1]
        have t4 : grtY l = grtTo Prod.snd l k := by unfold grtY; rw [H.out.1]
        rw [← t1, ← t2, ← t3, ← t4] at hPQ
        clear t1 t2 t3 t4
        have hpl := hPQ.out.1.lt
        have hql := hPQ.out.2.lt
        have g1 := hPQ.out.1.c0
        have g2 := hPQ.out.1.c1
        have g3 := hPQ.out.2.c0
        have g4 := hPQ.out.2.c1
        have r1 := hRR.out.1.c0
        have r2 := hRR.out.1.c1
        have r3 := hRR.out.2.c0
        have r4 := hRR.out.2.c1
        have e1 := hRR.out.1.f0 0
        have e2 := hRR.out.1.f0 1
        have e3 := hRR.out.2.f0 0
        have e4 := hRR.out.2.f0 1
        have hn1 : p ≠ w.heap.size := HPQ.out.2.1
        have hn2 : p ≠ w.heap.size + 1 := HPQ.out.2.2.1
        have hn3 : q ≠ w.heap.size := HPQ.out.2.2.2.1
        have hn4 : q ≠ w.heap.size + 1 := HPQ.out.2.2.2.2.1
        clear hc1
        generalize hA1 : lstX l = a1 at hPQ g1
        have A1 := Lib.hid hA1
        clear hA1
        generalize hA2 : lstY l = a2 at hPQ g2
        have A2 := Lib.hid hA2
        clear hA2
        generalize hA3 : grtX l = a3 at hPQ g3
        have A3 := Lib.hid hA3
        clear hA3
        generalize hA4 : grtY l = a4 at hPQ g4
        have A4 := Lib.hid hA4
        clear hA4
        go_wp2_with fail
        go_region_held3 (fun w' => w'.cell? ⟨p, 0, none⟩ = some (.int .i64 a1) ∧ w'.cell? ⟨p, 1, none⟩ = some (.int .i64 a2) ∧ w'.cell? ⟨q, 0, none⟩ = some (.int .i64 a3) ∧ w'.cell? ⟨q, 1, none⟩ = some (.int .i64 a4))
          (first | (simp (config := { maxDischargeDepth := 12 }) [*, Ne.symm hn1, Ne.symm hn2, Ne.symm hn3, Ne.symm hn4, World.cell?_setCell_far])) (fail)
        all_goals
          generalize hW2 : World.drew _ = W2
          have hb2 : Below w.heap.size w W2 := by rw [← hW2]; exact ((((hb.setCell (p := ⟨w.heap.size, 0, none⟩) (Nat.le_refl _) _).setCell (p := ⟨w.heap.size, 1, none⟩) (Nat.le_refl _) _).setCell (p := ⟨w.heap.size + 1, 0, none⟩) (Nat.le_succ _) _).setCell (p := ⟨w.heap.size + 1, 1, none⟩) (Nat.le_succ _) _).drew
          have T1 : Two W2 w.heap.size a1 a2 := by rw [← hW2]; exact ((hRR.out.1.set a1 a2).far (Nat.succ_ne_self _)).far (Nat.succ_ne_self _)
          have T2 : Two W2 (w.heap.size + 1) a3 a4 := by rw [← hW2]; exact ((hRR.out.2.far (Nat.succ_ne_self _).symm).far (Nat.succ_ne_self _).symm).set a3 a4
          have d1 := T1.c0
          have d2 := T1.c1
          have d3 := T2.c0
          have d4 := T2.c1
          have HB2 := Lib.hid hb2
          clear hW2 T1 T2 hb2 hb
          simp only [Exit.then]
          go_wp2
          refine bodyPost_ret (v := .tuple #[.agg #[.int .i64 a1, .int .i64 a2], .agg #[.int .i64 a3, .int .i64 a4]]) ?_ rfl ⟨by rw [A1.out, A2.out, A3.out, A4.out], HB2.out⟩
          simp [results, Tryz.results81, go_sem, d1, d2, d3, d4]
end

section
open Go.RowKit

theorem size_no {l : List Cl} (h : isShape l = false) : wideC l = 0 ∧ highC l = 0 := by
  have e : cornS l = [] := if_neg (by rw [h]; simp)
  unfold wideC highC
  rw [e]
  exact ⟨rfl, rfl⟩
theorem size_yes {l : List Cl} (h : isShape l = true) : wideC l = grtX l - lstX l + 1 ∧ highC l = grtY l - lstY l + 1 := by
  have h1 := size_of h
  have h2 := ((isShape_iff l).1 h).1
  unfold grtX grtY lstX lstY
  rw [lst_min _ _ (by omega), lst_min _ _ (by omega)]
  exact h1
theorem bounds_in {l : List Cl} (h : isShape l = true) : (0 ≤ lstX l ∧ lstX l ≤ 7) ∧ (0 ≤ lstY l ∧ lstY l ≤ 7) ∧ (0 ≤ grtX l ∧ grtX l ≤ 7) ∧ (0 ≤ grtY l ∧ grtY l ≤ 7) := by
  obtain ⟨h1, h2, _⟩ := (isShape_iff l).1 h
  have hx : ∀ c ∈ l, 0 ≤ Prod.fst c ∧ Prod.fst c ≤ 7 := fun c hc => by have := inP_out (h2 c hc); omega
  have hy : ∀ c ∈ l, 0 ≤ Prod.snd c ∧ Prod.snd c ≤ 7 := fun c hc => by have := inP_out (h2 c hc); omega
  exact ⟨lstTo_bd _ l (by omega) hx _ (Nat.le_refl _), lstTo_bd _ l (by omega) hy _ (Nat.le_refl _), grtTo_bd _ l (by omega) hx _ (Nat.le_refl _), grtTo_bd _ l (by omega) hy _ (Nat.le_refl _)⟩

set_option maxHeartbeats 1000000 in
set_option maxRecDepth 100000 in
theorem iSize (B n cap : Nat) (a : Option Addr) (l : List Cl) (w : World) (hn : n ≤ 4194304) (hc : CellsAt B w a n l) (hB : B ≤ w.heap.size) :
    Calls Tryz.prog 64 #[.slice a n cap] w fun e w' => e = .returned (.tuple #[.int .i64 (wideC l), .int .i64 (highC l)]) ∧ Below w.heap.size w w' := by
  have H := Lib.hid hc
  clear hc
  by_cases h : isShape l = true
  · have HS := Lib.hid (size_yes h)
    have HBD := Lib.hid (bounds_in h)
    have hl := ((isShape_iff l).1 h).1
    rw [H.out.1] at hl
    go_enter Tryz.func64, Tryz.ntmps64
    go_wp2_with fail
    refine (iIsShape B n cap a l w hn H.out hB).mono ?_
    rintro e w1 ⟨rfl, hb1⟩
    go_wp2_with fail
    refine (iBounds B n cap a l w1 hn (by omega) (H.out.on (hb1.mono hB)) (Nat.le_trans hB hb1.size)).mono ?_
    rintro e w2 ⟨rfl, hb2⟩
    have hb := hb1.trans (hb2.mono hb1.size)
    have hbd := HBD.out
    generalize hA1 : lstX l = a1 at hbd
    generalize hA2 : lstY l = a2 at hbd
    generalize hA3 : grtX l = a3 at hbd
    generalize hA4 : grtY l = a4 at hbd
    have HA := Lib.hid (show _ ∧ _ ∧ _ ∧ _ from ⟨hA1, hA2, hA3, hA4⟩)
    have j1 : IntKind.i64.wrap (a3 - a1) = a3 - a1 := IntWalk.i64_in _ (by omega)
    have j2 : IntKind.i64.wrap (a3 - a1 + 1) = a3 - a1 + 1 := IntWalk.i64_in _ (by omega)
    have j3 : IntKind.i64.wrap (a4 - a2) = a4 - a2 := IntWalk.i64_in _ (by omega)
    have j4 : IntKind.i64.wrap (a4 - a2 + 1) = a4 - a2 + 1 := IntWalk.i64_in _ (by omega)
    clear hA1 hA2 hA3 hA4
    go_wp2_with fail
    go_quiet (fail)
    go_wp2
    go_ret2
    rw [HS.out.1, HS.out.2, HA.out.1, HA.out.2.1, HA.out.2.2.1, HA.out.2.2.2]
    exact ⟨rfl, below_drewn ((hb.alloc hb.size _).alloc (hb.alloc hb.size _).size _) _⟩
  · have h' : isShape l = false := by simpa using h
    have HS := Lib.hid (size_no h')
    clear h
    go_enter Tryz.func64, Tryz.ntmps64
    go_wp2_with fail
    refine (iIsShape B n cap a l w hn H.out hB).mono ?_
    rintro e w1 ⟨rfl, hb1⟩
    go_wp2
    go_ret2
    rw [HS.out.1, HS.out.2]
    exact ⟨rfl, hb1⟩
end

section
open Go.RowKit

/-- A slice of the call's own, or nil, that reads as l. -/
def Own (w : World) (l : List Cl) (v : Value) (w' : World) : Prop := w'.ownsRow w.heap.size 79 2 v l.length (cvs l) ∧ Below w.heap.size w w'
theorem own_nil (w : World) (B : Nat) : w.ownsRow B 79 2 (.slice none 0 0) 0 (cvs []) := ⟨rfl, .inl ⟨rfl, rfl⟩⟩
theorem moveS_no {p q : Int} {l : List Cl} (h : canMove p q l = false) : moveS p q l = [] := if_neg (by rw [h]; simp)

theorem move_fill (p q : Int) (l : List Cl) (k n : Nat) (h : k < n) (hl : l.length = n) : (moveC p q (l.take k) ++ List.replicate (n - k) ((0 : Int), (0 : Int))).set k ((l.getD k (0, 0)).1 + p, (l.getD k (0, 0)).2 + q) = moveC p q (l.take (k + 1)) ++ List.replicate (n - (k + 1)) (0, 0) := by
  have e : n - k = (n - (k + 1)) + 1 := by omega
  have el : (moveC p q (l.take k)).length = k := by rw [moveC_len]; simp; omega
  rw [e, List.replicate_succ, List.set_append_right _ _ (by omega), el, Nat.sub_self, List.set_cons_zero]
  have e2 : moveC p q (l.take (k + 1)) = moveC p q (l.take k) ++ [((l.getD k (0, 0)).1 + p, (l.getD k (0, 0)).2 + q)] := by
    rw [take_snoc l k (by omega)]
    simp [moveC]
  rw [e2, List.append_assoc]
  rfl

set_option maxHeartbeats 2000000 in
set_option maxRecDepth 100000 in
theorem iMoveShape (B n cap : Nat) (a : Option Addr) (l : List Cl) (p q : Int) (w : World) (hn : n ≤ 4194304) (hc : CellsAt B w a n l) (hB : B ≤ w.heap.size) :
    Calls Tryz.prog 82 #[.slice a n cap, .int .i64 p, .int .i64 q] w fun e w' => ∃ v, e = .returned (.tuple #[v, .bool (canMove p q l)]) ∧ Own w (moveS p q l) v w' := by
  have H := Lib.hid hc
  clear hc
  by_cases h1 : isShape l = true ∧ inb p (-7) 7 = true ∧ inb q (-7) 7 = true
  · obtain ⟨hs, hp, hq⟩ := h1
    obtain ⟨i0, hi, hz0, hz1, hz2⟩ := info_parts info_cell
    have HS := Lib.hid (isShape_in hs)
    have HI := Lib.hid (moveC_in HS.out hp hq)
    have hpp : -7 ≤ p ∧ p ≤ 7 := by simpa [inb] using hp
    have hqq : -7 ≤ q ∧ q ≤ 7 := by simpa [inb] using hq
    have hl := ((isShape_iff l).1 hs).1
    rw [H.out.1] at hl
    have HC := Lib.hid (show canMove p q l = isShape (moveC p q l) by unfold canMove; rw [hs, hp, hq]; rfl)
    go_enter Tryz.func82, Tryz.ntmps82
    go_wp2_with fail
    refine (iIsShape B n cap a l w hn H.out hB).mono ?_
    rintro e w1 ⟨rfl, hb1⟩
    go_wp2_with fail
    refine (iMove _ _).mono ?_
    rintro e w' ⟨rfl, rfl⟩
    go_wp2_with fail
    refine (iMove _ _).mono ?_
    rintro e w' ⟨rfl, rfl⟩
    go_wp2_with (first | (at_make; refine wpList_make_full _ rfl _ _ 41 rfl w1.heap.size 79 i0 (.agg #[.int .i64 0, .int .i64 0]) 2 Tryz.underlying41 hi hz0 hz1 _ _ _ _ n rfl rfl rfl rfl ?b2 ?b3 (Nat.le_refl _) ?_) | go_in)
    case b2 => rw [hz2]; omega
    case b3 => unfold maxLen; omega
    intro w0 hown0 hgrow0
    have hb0 := (hb1.grown hgrow0 hb1.size (fun k h => by cases h))
    go_wp2
    go_loopw [29] (fun i wr => ∃ k : Nat, k ≤ n ∧ i = .int .i64 k ∧ wr.ownsRow w1.heap.size 79 2 (.slice (some ⟨w1.heap.size, 0, none⟩) n n) n (cvs (moveC p q (l.take k) ++ List.replicate (n - k) (0, 0))) ∧ Below w.heap.size w wr) (fun i _ => n - (intOf i).toNat)
    case atStart => exact ⟨0, by omega, rfl, by rw [made_cells n] at hown0; simpa [moveC] using hown0, hb0⟩
    case round =>
      obtain ⟨k, hk, rfl, hown, hb⟩ := hrel
      have hsz := hb.size
      clear hown0 hgrow0 hb0
      by_cases hlt : k < n
      · obtain ⟨b1, o1, rfl, hb1', hc1⟩ := H.out.2.2 (by omega)
        obtain ⟨x, y, hxy⟩ : ∃ x y, l.getD k (0, 0) = (x, y) := ⟨_, _, rfl⟩
        have p1 := (hb.cell (p := ⟨b1, o1 + k * 2, none⟩) (Nat.lt_of_lt_of_le hb1' hB)).trans (hc1 k hlt).1
        have p2 := (hb.cell (p := ⟨b1, o1 + k * 2 + 1, none⟩) (Nat.lt_of_lt_of_le hb1' hB)).trans (hc1 k hlt).2
        rw [hxy] at p1 p2
        have hpx := inP_out (HS.out _ (getD_mem (l := l) (j := k) (by rw [H.out.1]; exact hlt)))
        rw [hxy] at hpx
        dsimp only at hpx
        have HX := Lib.hid hxy
        have hk0 : (0 : Int) ≤ (k : Int) := by omega
        have hk1 : (k : Int) < (n : Int) := by omega
        have hx1 : IntKind.i64.wrap (x + p) = x + p := IntWalk.i64_in _ (by omega)
        have hy1 : IntKind.i64.wrap (y + q) = y + q := IntWalk.i64_in _ (by omega)
        have hgl := (hown.lt w1.heap.size rfl).2
        have hlen : k < (moveC p q (l.take k) ++ List.replicate (n - k) ((0 : Int), (0 : Int))).length := by have := H.out.1; simp [moveC]; omega
        have hown1 := hown.alloc (.cells #[.int .i64 x, .int .i64 y] 79)
        have hg := cvs_get _ k hlen
        have c0 := hown.cellAt (k * 2) (by omega)
        have c1 := hown.cellAt (k * 2 + 1) (by omega)
        rw [hg.1] at c0
        rw [hg.2] at c1
        have f0 := hown.frozenAt (k * 2)
        have f1 := hown.frozenAt (k * 2 + 1)
        have hne : w1.heap.size ≠ wr.heap.size := by omega
        clear hxy hc1 hg
        have HOWN := Lib.hid hown
        clear hown hown1
        go_wp2
        go_roundw
        case rel =>
          have hs1 := HOWN.out.stored (k * 2) (.int .i64 (x + p))
          have hs2 := hs1.1.stored (k * 2 + 1) (.int .i64 (y + q))
          have hO := hs2.1
          have hset := cvs_set _ k (x + p, y + q) hlen
          have hfill := move_fill p q l k n hlt H.out.1
          rw [HX.out] at hfill
          dsimp only at hset hfill
          rw [hset, hfill] at hO
          have hb2 := ((hb.setCell (p := ⟨w1.heap.size, k * 2, none⟩) hb1.size (.int .i64 (x + p))).setCell (p := ⟨w1.heap.size, k * 2 + 1, none⟩) hb1.size (.int .i64 (y + q)))
          exact ⟨k + 1, by omega, by go_num, hO.alloc _, hb2.alloc hb2.size _⟩
        case measure => simp [intOf]; omega
      · obtain rfl : k = n := by omega
        have e : moveC p q (l.take k) ++ List.replicate (k - k) ((0 : Int), (0 : Int)) = moveC p q l := by
          rw [List.take_of_length_le (by rw [H.out.1]; exact Nat.le_refl _)]
          simp
        rw [e] at hown
        have hl2 : (moveC p q l).length = k := by rw [moveC_len, H.out.1]
        have HO := Lib.hid hown
        have HA := Lib.hid (CellsAt.of_own hown HI.out)
        clear hown e
        go_wp2_with fail
        refine (iIsShape wr.heap.size k k _ (moveC p q l) wr hn HA.out (Nat.le_refl _)).mono ?_
        rintro e w3 ⟨rfl, hb3⟩
        have hb4 := hb.trans (hb3.mono hsz)
        cases hm : isShape (moveC p q l) with
        | true =>
          have e : canMove p q l = true := HC.out.trans hm
          have e2 : moveS p q l = moveC p q l := if_pos e
          have HG := Lib.hid (show Own w (moveC p q l) (.slice (some ⟨w1.heap.size, 0, none⟩) k k) w3 from ⟨by rw [hl2]; exact own_below (HO.out.kept (grow_below hb3 none) (.inr (by intro e; cases e))) hb1.size, hb4⟩)
          have E := Lib.hid e
          have E2 := Lib.hid e2
          clear e e2 hl2
          go_wp2
          go_ret2
          rw [E.out, E2.out]
          exact ⟨_, rfl, HG.out⟩
        | false =>
          have e : canMove p q l = false := HC.out.trans hm
          have E := Lib.hid e
          clear e
          go_wp2
          go_ret2
          rw [E.out, moveS_no E.out]
          exact ⟨_, rfl, own_nil _ _, hb4⟩
  · have hno : canMove p q l = false := by
      unfold canMove
      cases e1 : isShape l <;> cases e2 : inb p (-7) 7 <;> cases e3 : inb q (-7) 7 <;> simp_all
    rw [hno, moveS_no hno]
    clear hno
    have H1 := Lib.hid h1
    clear h1
    go_enter Tryz.func82, Tryz.ntmps82
    go_wp2_with fail
    refine (iIsShape B n cap a l w hn H.out hB).mono ?_
    rintro e w1 ⟨rfl, hb1⟩
    cases hs : isShape l with
    | false =>
      go_wp2
      go_ret2
      exact ⟨_, rfl, own_nil _ _, hb1⟩
    | true =>
      go_wp2_with fail
      refine (iMove _ _).mono ?_
      rintro e w' ⟨rfl, rfl⟩
      cases hp : inb p (-7) 7 with
      | false =>
        go_wp2
        go_ret2
        exact ⟨_, rfl, own_nil _ _, hb1⟩
      | true =>
        go_wp2_with fail
        refine (iMove _ _).mono ?_
        rintro e w' ⟨rfl, rfl⟩
        cases hq : inb q (-7) 7 with
        | false =>
          go_wp2
          go_ret2
          exact ⟨_, rfl, own_nil _ _, hb1⟩
        | true => exact absurd ⟨hs, hp, hq⟩ H1.out
end

section
open Go.RowKit

theorem cornS_no {l : List Cl} (h : isShape l = false) : cornS l = [] := if_neg (by rw [h]; simp)

set_option maxHeartbeats 1000000 in
set_option maxRecDepth 100000 in
theorem iCorner (B n cap : Nat) (a : Option Addr) (l : List Cl) (w : World) (hn : n ≤ 4194304) (hc : CellsAt B w a n l) (hB : B ≤ w.heap.size) :
    Calls Tryz.prog 65 #[.slice a n cap] w fun e w' => ∃ v, e = .returned v ∧ Own w (cornS l) v w' := by
  have H := Lib.hid hc
  clear hc
  by_cases h : isShape l = true
  · have HM := Lib.hid (cornS_moveS h).2
    have hl := ((isShape_iff l).1 h).1
    have hlx : lstX l = minX l := lst_min _ _ (by omega)
    have hly : lstY l = minY l := lst_min _ _ (by omega)
    have HLX := Lib.hid hlx
    have HLY := Lib.hid hly
    have hbd := min_in h
    rw [H.out.1] at hl
    clear hlx hly
    go_enter Tryz.func65, Tryz.ntmps65
    go_wp2_with fail
    refine (iIsShape B n cap a l w hn H.out hB).mono ?_
    rintro e w1 ⟨rfl, hb1⟩
    go_wp2_with fail
    refine (iBounds B n cap a l w1 hn (by omega) (H.out.on (hb1.mono hB)) (Nat.le_trans hB hb1.size)).mono ?_
    rintro e w2 ⟨rfl, hb2⟩
    rw [HLX.out, HLY.out]
    have hb := hb1.trans (hb2.mono hb1.size)
    generalize minX l = a1 at *
    generalize minY l = a2 at *
    generalize grtX l = a3 at *
    generalize grtY l = a4 at *
    have j1 : IntKind.i64.wrap (-a1) = -a1 := IntWalk.i64_in _ (by omega)
    have j2 : IntKind.i64.wrap (-a2) = -a2 := IntWalk.i64_in _ (by omega)
    have hb3 := (hb.alloc hb.size (.cells #[.int .i64 a1, .int .i64 a2] 79)).alloc (hb.alloc hb.size (.cells #[.int .i64 a1, .int .i64 a2] 79)).size (.cells #[.int .i64 a3, .int .i64 a4] 79)
    go_wp2_with fail
    refine (iMoveShape B n cap a l (-a1) (-a2) _ hn (H.out.on (hb3.mono hB)) (Nat.le_trans hB hb3.size)).mono ?_
    rintro e w3 ⟨v, rfl, hown, hb4⟩
    have HO := Lib.hid (show Own w (cornS l) v w3 from ⟨by rw [← HM.out]; exact own_below hown hb3.size, hb3.trans (hb4.mono hb3.size)⟩)
    clear hown
    go_wp2
    go_ret
    exact ⟨_, rfl, HO.out⟩
  · have h' : isShape l = false := by simpa using h
    have HN := Lib.hid (cornS_no h')
    clear h
    go_enter Tryz.func65, Tryz.ntmps65
    go_wp2_with fail
    refine (iIsShape B n cap a l w hn H.out hB).mono ?_
    rintro e w1 ⟨rfl, hb1⟩
    go_wp2
    go_ret
    rw [HN.out]
    exact ⟨_, rfl, own_nil _ _, hb1⟩
end

section
open Go.RowKit
end

end Go.Proofs.YtcfioncnpfoccaaGreatDoor
