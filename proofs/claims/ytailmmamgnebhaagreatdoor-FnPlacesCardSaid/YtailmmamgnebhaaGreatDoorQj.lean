/-
  The small functions under the program's shapes: bounds of a place and of a move, the order of two cells.
  What a shape is, in the program: what the call gives.
  Shapes moved to another place, in the model: what the call gives.
  Shapes moved, in the program: what the call gives.
  The cells of a region, in the model and in the program: what each call gives.
-/
import Derived.Test.YtailmmamgnebhaaGreatDoorQa
import Derived.Sort.Grow
import Derived.BigQuiet
import Derived.Test.YtailmmamgnebhaaGreatDoorQi
namespace Go.Proofs.YtailmmamgnebhaaGreatDoor

section
open Go.RowKit

theorem iPlace (x : Int) (w : World) : Calls Tryz.prog 133 #[.int .i64 x] w fun e w' => e = .returned (.bool (inb x 0 7)) ∧ w = w' := by
  unfold inb
  by_cases h1 : 0 ≤ x
  · go_enter Tryz.func133, Tryz.ntmps133
    go_wp2
    go_ret
    exact ⟨by simp [h1], rfl⟩
  · go_enter Tryz.func133, Tryz.ntmps133
    go_wp2
    go_ret
    exact ⟨by simp; omega, rfl⟩
/-- Two numbers compared: -1, 0 or 1. -/
def cmpI (x y : Int) : Int := if x < y then -1 else if y < x then 1 else 0
theorem iNaN (x : Int) (w : World) : Calls Tryz.prog 182 #[.int .i64 x] w fun e w' => e = .returned (.bool false) ∧ w = w' := by
  go_enter Tryz.func182, Tryz.ntmps182
  go_wp2
  go_ret
  exact ⟨by simp, rfl⟩
theorem iCmpI (x y : Int) (w : World) : Calls Tryz.prog 152 #[.int .i64 x, .int .i64 y] w fun e w' => e = .returned (.int .i64 (cmpI x y)) ∧ w = w' := by
  unfold cmpI
  by_cases h1 : x < y
  · go_enter Tryz.func152, Tryz.ntmps152
    go_wp2_with (go_at_call 182; refine (iNaN _ _).mono ?_; rintro e w' ⟨rfl, rfl⟩)
    go_ret
    exact ⟨by simp, rfl⟩
  · by_cases h2 : y < x
    · go_enter Tryz.func152, Tryz.ntmps152
      go_wp2_with (go_at_call 182; refine (iNaN _ _).mono ?_; rintro e w' ⟨rfl, rfl⟩)
      go_ret
      exact ⟨by simp, rfl⟩
    · go_enter Tryz.func152, Tryz.ntmps152
      go_wp2_with (go_at_call 182; refine (iNaN _ _).mono ?_; rintro e w' ⟨rfl, rfl⟩)
      go_ret
      exact ⟨by simp, rfl⟩

/-- The first of two numbers that is not 0. -/
def orI (x y : Int) : Int := if x = 0 then y else x
theorem iOr (b : Nat) (x y : Int) (w : World) (h0 : w.cell? ⟨b, 0, none⟩ = some (.int .i64 x)) (h1 : w.cell? ⟨b, 1, none⟩ = some (.int .i64 y)) : Calls Tryz.prog 151 #[.slice (some ⟨b, 0, none⟩) 2 2] w fun e w' => e = .returned (.int .i64 (orI x y)) ∧ w = w' := by
  unfold orI
  by_cases hx : x = 0
  · subst hx
    by_cases hy : y = 0
    · subst hy
      go_enter Tryz.func151, Tryz.ntmps151
      go_wp2
      refine wp_loop_rounds 3 ?_
      rw [rounds_succ]
      go_wp2
      rw [rounds_succ]
      go_wp2
      rw [rounds_succ]
      go_wp2
      go_ret
      exact ⟨by simp, rfl⟩
    · have e : (y != 0) = true := by rw [bne_iff_ne]; exact hy
      go_enter Tryz.func151, Tryz.ntmps151
      go_wp2
      refine wp_loop_rounds 2 ?_
      rw [rounds_succ]
      go_wp2
      rw [rounds_succ]
      go_wp2
      go_ret
      exact ⟨by simp, rfl⟩
  · have e : (x != 0) = true := by rw [bne_iff_ne]; exact hx
    go_enter Tryz.func151, Tryz.ntmps151
    go_wp2
    refine wp_loop_rounds 1 ?_
    rw [rounds_succ]
    go_wp2
    go_ret
    exact ⟨by simp, rfl⟩

/-- Two cells compared: by rows, then from left to right. -/
def cmpC (a b : Cl) : Int := orI (cmpI a.2 b.2) (cmpI a.1 b.1)
theorem cmpC_neg (a b : Cl) : decide (cmpC a b < 0) = bef a b := by
  unfold cmpC orI cmpI bef
  rw [Bool.eq_iff_iff]
  simp only [decide_eq_true_eq, Bool.or_eq_true, Bool.and_eq_true]
  constructor
  · intro h
    repeat' split at h
    all_goals omega
  · intro h
    repeat' split
    all_goals omega
theorem cmpC_geq (a b : Cl) : decide (cmpC a b ≥ 0) = !bef a b := by
  rw [← cmpC_neg, Bool.eq_iff_iff]
  simp only [Bool.not_eq_true', decide_eq_true_eq, decide_eq_false_iff_not]
  omega

theorem two_new {w : World} {t : TypeId} {p q : Value} {N : Nat} (hN : w.heap.size = N) : (w.alloc (.cells #[p, q] t)).drew.cell? ⟨N, 0, none⟩ = some p ∧ (w.alloc (.cells #[p, q] t)).drew.cell? ⟨N, 1, none⟩ = some q := by
  subst hN
  exact ⟨cell_of_row (w.alloc (.cells #[p, q] t)) _ 0 _ _ _ (heap_alloc_new _ _), cell_of_row (w.alloc (.cells #[p, q] t)) _ 1 _ _ _ (heap_alloc_new _ _)⟩

set_option maxHeartbeats 1000000 in
theorem iCompare (x y u v : Int) (W : World) : Calls Tryz.prog 134 #[.agg #[.int .i64 x, .int .i64 y], .agg #[.int .i64 u, .int .i64 v]] W fun e w' => e = .returned (.int .i64 (cmpC (x, y) (u, v))) ∧ (∃ q os', w' = Go.Sort.grow (W.drewN q) os') ∧ Below W.heap.size W w' := by
  have hres : cmpC (x, y) (u, v) = orI (cmpI y v) (cmpI x u) := rfl
  rw [hres]
  clear hres
  have hc1 : ∀ w', Calls Tryz.prog 152 #[.int .i64 y, .int .i64 v] w' _ := fun w' => iCmpI y v w'
  have hc2 : ∀ w', Calls Tryz.prog 152 #[.int .i64 x, .int .i64 u] w' _ := fun w' => iCmpI x u w'
  generalize cmpI y v = p at hc1 ⊢
  generalize cmpI x u = q at hc2 ⊢
  go_enter Tryz.func134, Tryz.ntmps134
  go_wp2_with fail
  have k0 : ((W.alloc (.cells #[.int .i64 x, .int .i64 y] 40)).alloc (.cells #[.int .i64 u, .int .i64 v] 40)).heap.size = W.heap.size + 2 := by simp
  go_region_held3 (fun w' => w'.cell? ⟨W.heap.size, 0, none⟩ = some (.int .i64 x) ∧ w'.cell? ⟨W.heap.size, 1, none⟩ = some (.int .i64 y) ∧ w'.cell? ⟨W.heap.size + 1, 0, none⟩ = some (.int .i64 u) ∧ w'.cell? ⟨W.heap.size + 1, 1, none⟩ = some (.int .i64 v))
    (first | go_keep)
    (first | (go_at_call_of 152 y; refine (hc1 _).mono ?_; rintro e w' ⟨rfl, rfl⟩) | (go_at_call_of 152 x; refine (hc2 _).mono ?_; rintro e w' ⟨rfl, rfl⟩) | (go_at_call 151; refine (iOr _ p q _ (two_new k0).1 (two_new k0).2).mono ?_; rintro e w' ⟨rfl, rfl⟩))
  go_wp2
  go_ret
  exact ⟨rfl, ⟨1, _, by rw [Go.Sort.alloc_eq_grow, Go.Sort.alloc_eq_grow, Go.Sort.alloc_eq_grow, Go.Sort.grow_grow, Go.Sort.grow_grow]; rfl⟩, ((((Below.refl _ _).alloc (Nat.le_refl _) _).alloc (by simp) _).alloc (by simp; omega) _).drew⟩
end

section
open Go.RowKit

theorem isShape_few {l : List Cl} (h : l.length = 0 ∨ 8 < l.length) : isShape l = false := by
  unfold isShape inb
  rw [Bool.and_eq_false_iff]
  right
  rw [Bool.and_eq_false_iff, decide_eq_false_iff_not, decide_eq_false_iff_not]
  omega

set_option maxHeartbeats 2000000 in
set_option maxRecDepth 100000 in
theorem iIsShape (B n cap : Nat) (a : Option Addr) (l : List Cl) (w : World) (hn : n ≤ 4194304) (hc : CellsAt B w a n l) (hB : B ≤ w.heap.size) :
    Calls Tryz.prog 87 #[.slice a n cap] w fun e w' => e = .returned (.bool (isShape l)) ∧ Below w.heap.size w w' := by
  have H := Lib.hid hc
  clear hc
  by_cases h0 : n = 0 ∨ 8 < n
  · have hno : isShape l = false := isShape_few (by rw [H.out.1]; exact h0)
    rw [hno]
    rcases h0 with h0 | h0
    · subst h0
      go_enter Tryz.func87, Tryz.ntmps87
      go_wp2
      go_ret
      exact ⟨rfl, Below.refl _ _⟩
    · have h1 : ((n : Int) == 0) = false := by simp; omega
      go_enter Tryz.func87, Tryz.ntmps87
      go_wp2
      go_ret
      exact ⟨rfl, Below.refl _ _⟩
  have h1 : ((n : Int) == 0) = false := by simp; omega
  have h8 : n ≤ 8 := by omega
  have h00 : 0 < n := by omega
  clear h0
  go_enter Tryz.func87, Tryz.ntmps87
  go_wp2
  go_loopw [15] (fun i wr => ∃ k : Nat, k ≤ n ∧ i = .int .i64 k ∧ Hid (okTo l k = true) ∧ Below w.heap.size w wr) (fun i _ => n - (intOf i).toNat)
  case atStart => exact ⟨0, by omega, rfl, by simp [Hid, okTo], Below.refl _ _⟩
  case round =>
    obtain ⟨k, hk, rfl, hok, hb⟩ := hrel
    have hsz := hb.size
    clear h1
    by_cases hlt : k < n
    · obtain ⟨b1, o1, rfl, hb1, hc1⟩ := H.out.2.2 (by omega)
      obtain ⟨x, y, hxy⟩ : ∃ x y, l.getD k (0, 0) = (x, y) := ⟨_, _, rfl⟩
      have p1 := (hb.cell (p := ⟨b1, o1 + k * 2, none⟩) (Nat.lt_of_lt_of_le hb1 hB)).trans (hc1 k hlt).1
      have p2 := (hb.cell (p := ⟨b1, o1 + k * 2 + 1, none⟩) (Nat.lt_of_lt_of_le hb1 hB)).trans (hc1 k hlt).2
      rw [hxy] at p1 p2
      have HX := Lib.hid hxy
      have hkz : (0 : Int) ≤ (k : Int) := by omega
      have hk1 : (k : Int) < (n : Int) := by omega
      have hbl : b1 < wr.heap.size := by omega
      clear hxy
      by_cases hA : inb x 0 7 = true
      · by_cases hA2 : inb y 0 7 = true
        · by_cases hk0 : 0 < k
          · obtain ⟨u, v, huv⟩ : ∃ u v, l.getD (k - 1) (0, 0) = (u, v) := ⟨_, _, rfl⟩
            have q1 := (hb.cell (p := ⟨b1, o1 + (k - 1) * 2, none⟩) (Nat.lt_of_lt_of_le hb1 hB)).trans (hc1 (k - 1) (by omega)).1
            have q2 := (hb.cell (p := ⟨b1, o1 + (k - 1) * 2 + 1, none⟩) (Nat.lt_of_lt_of_le hb1 hB)).trans (hc1 (k - 1) (by omega)).2
            rw [huv] at q1 q2
            have HU := Lib.hid huv
            have hj0 : (1 : Int) ≤ (k : Int) := by omega
            have hj2 : (k : Int) - 1 < (n : Int) := by omega
            have hj3 : (0 : Int) ≤ (k : Int) - 1 := by omega
            have hj4 : ((k : Int) - 1).toNat = k - 1 := by omega
            have hj : IntKind.i64.wrap ((k : Int) - 1) = (k : Int) - 1 := IntWalk.i64_in _ (by omega)
            have hcmp : ∀ w', Calls Tryz.prog 134 #[.agg #[.int .i64 u, .int .i64 v], .agg #[.int .i64 x, .int .i64 y]] w' _ := fun w' => iCompare u v x y w'
            obtain ⟨r, hr⟩ : ∃ r, cmpC (u, v) (x, y) = r := ⟨_, rfl⟩
            rw [hr] at hcmp
            have HR := Lib.hid hr
            clear huv hc1 hr
            go_wp2_with fail
            go_region_held3 (fun w' => w'.cell? ⟨wr.heap.size, 0, none⟩ = some (.int .i64 x) ∧ w'.cell? ⟨wr.heap.size, 1, none⟩ = some (.int .i64 y) ∧ w'.cell? ⟨b1, o1 + (k - 1) * 2, none⟩ = some (.int .i64 u) ∧ w'.cell? ⟨b1, o1 + (k - 1) * 2 + 1, none⟩ = some (.int .i64 v))
              (first | go_keep | exact ⟨(hbe.cell (p := ⟨wr.heap.size, 0, none⟩) (by simp)).trans (by go_keep), (hbe.cell (p := ⟨wr.heap.size, 1, none⟩) (by simp)).trans (by go_keep), (hbe.cell (p := ⟨b1, o1 + (k - 1) * 2, none⟩) (by simp; omega)).trans (by go_keep), (hbe.cell (p := ⟨b1, o1 + (k - 1) * 2 + 1, none⟩) (by simp; omega)).trans (by go_keep)⟩)
              (first | (go_at_call 133; refine (iPlace _ _).mono ?_; rintro e w' ⟨rfl, rfl⟩) | (go_at_call 134; refine (hcmp _).mono ?_; rintro e w' ⟨rfl, _, hbe⟩))
            all_goals go_wp2
            all_goals
              rename_i hcase
              have hbb := (hb.alloc hsz (.cells #[.int .i64 x, .int .i64 y] 40)).drew.trans (hbe.mono (by simp; omega))
              have HBB := Lib.hid hbb
              have hbf := cmpC_neg (u, v) (x, y)
              rw [HR.out] at hbf
              clear hbb hcmp
              first
                | (have e : okAt l k = false := by
                     unfold okAt
                     rw [HX.out, HU.out, ← hbf]
                     simp
                     omega
                   have hno : isShape l = false := by
                     unfold isShape
                     rw [okTo_no (by rw [H.out.1]; exact hlt) e]
                     rfl
                   go_ret
                   exact ⟨by rw [hno]; rfl, HBB.out⟩)
                | (have e : okTo l (k + 1) = true := by
                     have e : okAt l k = true := by
                       unfold okAt inP
                       rw [HX.out, HU.out, ← hbf]
                       simp [hA, hA2]
                       omega
                     rw [okTo_succ, e, hok.out]
                     rfl
                   have HE := Lib.hid e
                   clear e hbf
                   go_roundw
                   case rel => exact ⟨k + 1, by omega, by go_num, HE.out, HBB.out⟩
                   case measure => simp [intOf]; omega)
          · have hyes : okTo l (k + 1) = true := by
              have e : okAt l k = true := by unfold okAt inP; rw [HX.out]; simp [hA, hA2]; omega
              rw [okTo_succ, e, hok.out]; rfl
            have hd : decide ((0 : Int) < (k : Int)) = false := by simp; omega
            go_wp2_with fail
            go_quiet (first | (go_at_call 133; refine quiet_same (iPlace _ _)))
            go_wp2
            clear hd
            go_roundw
            case rel => exact ⟨k + 1, by omega, by go_num, hyes, below_drewn (hb.alloc hsz _) _⟩
            case measure => simp [intOf]; omega
        · have hA' : inb y 0 7 = false := by simpa using hA2
          clear hA2
          have hno : isShape l = false := by
            have e : okAt l k = false := by unfold okAt inP; rw [HX.out]; simp [hA']
            unfold isShape
            rw [okTo_no (by rw [H.out.1]; exact hlt) e]
            rfl
          go_wp2_with fail
          go_quiet (first | (go_at_call 133; refine quiet_same (iPlace _ _)))
          go_wp2
          go_ret
          exact ⟨by rw [hno]; rfl, below_drewn (hb.alloc hsz _) _⟩
      · have hA' : inb x 0 7 = false := by simpa using hA
        clear hA
        have hno : isShape l = false := by
          have e : okAt l k = false := by unfold okAt inP; rw [HX.out]; simp [hA']
          unfold isShape
          rw [okTo_no (by rw [H.out.1]; exact hlt) e]
          rfl
        go_wp2_with fail
        go_quiet (first | (go_at_call 133; refine quiet_same (iPlace _ _)))
        go_wp2
        go_ret
        exact ⟨by rw [hno]; rfl, below_drewn (hb.alloc hsz _) _⟩
    · obtain rfl : k = n := by omega
      have he : isShape l = true := by
        have := hok.out
        unfold isShape
        rw [H.out.1, this]
        simp [inb]
        omega
      go_wp2
      go_ret
      exact ⟨by rw [he]; rfl, hb⟩
end

section
open Go.RowKit

theorem moveC_in {x y : Int} {l : List Cl} (hp : ∀ c ∈ l, inP c = true) (hx : inb x (-7) 7 = true) (hy : inb y (-7) 7 = true) : ∀ c ∈ moveC x y l, InC c := by
  intro c hc
  obtain ⟨d, hd, rfl⟩ := List.mem_map.1 hc
  have := inP_out (hp d hd)
  simp [inb] at hx hy
  unfold InC
  dsimp only
  omega
end

section
open Go.RowKit

/-- A slice of the call's own, or nil, that reads as l. -/
def Own (w : World) (l : List Cl) (v : Value) (w' : World) : Prop := w'.ownsRow w.heap.size 40 2 v l.length (cvs l) ∧ Below w.heap.size w w'
theorem own_nil (w : World) (B : Nat) : w.ownsRow B 40 2 (.slice none 0 0) 0 (cvs []) := ⟨rfl, .inl ⟨rfl, rfl⟩⟩
theorem moveS_no {p q : Int} {l : List Cl} (h : canMove p q l = false) : moveS p q l = [] := if_neg (by rw [h]; simp)

theorem move_fill (p q : Int) (l : List Cl) (k n : Nat) (h : k < n) (hl : l.length = n) : (moveC p q (l.take k) ++ List.replicate (n - k) ((0 : Int), (0 : Int))).set k ((l.getD k (0, 0)).1 + p, (l.getD k (0, 0)).2 + q) = moveC p q (l.take (k + 1)) ++ List.replicate (n - (k + 1)) (0, 0) := by
  have e : n - k = (n - (k + 1)) + 1 := by omega
  have el : (moveC p q (l.take k)).length = k := by rw [moveC_len]; simp; omega
  rw [e, List.replicate_succ, List.set_append_right _ _ (by omega), el, Nat.sub_self, List.set_cons_zero]
  have e2 : moveC p q (l.take (k + 1)) = moveC p q (l.take k) ++ [((l.getD k (0, 0)).1 + p, (l.getD k (0, 0)).2 + q)] := by
    rw [take_snoc l k (by omega)]
    simp [moveC]
  rw [e2, List.append_assoc]
  rfl
end

section
open Go.RowKit

def cN (N : Nat) (l : List Int) (y x : Nat) : List Cl := (gTo N y ++ gRow (y : Int) x).filter (bt l)
theorem cN_zero (N : Nat) (l : List Int) : cN N l 0 0 = [] := rfl
theorem cN_yes {N : Nat} {l : List Int} {y x : Nat} (h : bt l ((x : Int), (y : Int)) = true) : cN N l y (x + 1) = cN N l y x ++ [((x : Int), (y : Int))] := by
  unfold cN
  rw [gRow, ← List.append_assoc, List.filter_append]
  simp [h]
theorem cN_no {N : Nat} {l : List Int} {y x : Nat} (h : bt l ((x : Int), (y : Int)) = false) : cN N l y (x + 1) = cN N l y x := by
  unfold cN
  rw [gRow, ← List.append_assoc, List.filter_append]
  simp [h]
theorem cN_row (N : Nat) (l : List Int) (y : Nat) : cN N l y N = cN N l (y + 1) 0 := by
  unfold cN
  rw [gTo]
  simp [gRow]
theorem cN_all (N n : Nat) (l : List Int) : cN N l n 0 = cellsB N n l := by
  unfold cN cellsB
  simp [gRow]
theorem cN_len (N : Nat) (l : List Int) (y x : Nat) (hN : N ≤ 6) (hy : y ≤ 6) (hx : x ≤ 6) : (cN N l y x).length ≤ 42 := by
  have h1 := List.length_filter_le (bt l) (gTo N y ++ gRow (y : Int) x)
  rw [List.length_append, gTo_len, gRow_len] at h1
  have := Nat.mul_le_mul hN hy
  unfold cN
  omega
theorem own_lit0 (w : World) (B : Nat) (h : B ≤ w.heap.size) : (w.alloc (.cells #[] 40)).ownsRow B 40 2 (.slice (some ⟨w.heap.size, 0, none⟩) 0 0) 0 (cvs []) := by
  simpa [cvs] using World.ownsRow_lit (base := B) (e := 40) (size := 2) w #[] 0 h (by simp [maxLen]) rfl
end

end Go.Proofs.YtailmmamgnebhaaGreatDoor
