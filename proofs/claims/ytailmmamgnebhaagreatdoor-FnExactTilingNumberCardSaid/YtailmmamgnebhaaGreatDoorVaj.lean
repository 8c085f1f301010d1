/-
  The least place, is a mask among some, counts without lists: in the model: what each call gives.
  The small functions under the program's shapes: bounds of a place and of a move, the order of two cells.
  What a shape is, in the program: what the call gives.
  Slices of shapes that the call owns, each shape's memory the call's own and apart from the others'.
-/
import Derived.Test.YtailmmamgnebhaaGreatDoorVah
import Derived.Test.YtailmmamgnebhaaGreatDoorVai
import Derived.Test.YtailmmamgnebhaaGreatDoorRga
import Derived.Test.YtailmmamgnebhaaGreatDoorVac
import Derived.Sort.Grow
import Derived.BigQuiet
import Derived.Test.YtailmmamgnebhaaGreatDoorVab
import Derived.Test.YtailmmamgnebhaaGreatDoorVaa
import Derived.Test.YtailmmamgnebhaaGreatDoorVad
namespace Go.Proofs.YtailmmamgnebhaaGreatDoor

section
open Go.RowKit

set_option maxHeartbeats 2000000 in
set_option maxRecDepth 100000 in
theorem sLow (x : Nat) (h0 : x ≠ 0) (hx : x < 9223372036854775808) (w : World) :
    Calls Tryz.prog 100 #[.int .i64 x] w fun e w' => e = .returned (.int .i64 (lowB x : Nat)) ∧ Below w.heap.size w w' := by
  have hlt := lowB_lt h0 (show x < 2 ^ 64 by omega)
  have HB := Lib.hid (lowB_bit h0 (show x < 2 ^ 64 by omega))
  have HL := Lib.hid (fun j (h : x.testBit j = true) => lowB_le (show x < 2 ^ 64 by omega) h)
  obtain ⟨low, hlow⟩ : ∃ low, lowB x = low := ⟨_, rfl⟩
  rw [hlow] at hlt HB HL ⊢
  clear hlow
  have hxp : (0 : Int) < (x : Int) := by omega
  go_enter Tryz.func100, Tryz.ntmps100
  go_wp2
  go_loopw [3] (fun v wr => ∃ i : Nat, i ≤ low ∧ v = .int .i64 (i : Int) ∧ Below w.heap.size w wr) (fun v _ => low - (intOf v).toNat)
  case atStart => exact ⟨0, by omega, rfl, Below.refl _ _⟩
  case round =>
    obtain ⟨i, hi, rfl, hb⟩ := hrel
    have hi0 : (0 : Int) ≤ (i : Int) := by omega
    obtain ⟨t, ht⟩ : ∃ t : Nat, x / 2 ^ i = t := ⟨_, rfl⟩
    have hdiv : (x : Int) / (2 : Int) ^ i = (t : Int) := by rw [← ht]; simp
    have htm : t ≤ x := by rw [← ht]; exact Nat.div_le_self _ _
    have hand := bit_val (m := x) i (by omega)
    rw [ht] at hand
    clear ht
    by_cases hlt2 : i < low
    · have hbt : x.testBit i = false := by
        cases e : x.testBit i with
        | false => rfl
        | true => have := HL.out i e; omega
      rw [hbt] at hand
      have hand1 : bits .and .i64 (t : Int) 1 = 0 := hand
      clear hand hbt
      go_wp2
      go_roundw
      case rel => first
        | exact ⟨i + 1, by omega, by go_num, hb⟩
        | (repeat apply Exists.intro
           exact ⟨⟨i + 1, by omega, by go_num, hb⟩, rfl⟩)
      case measure => first | (simp [intOf]; done) | (simp [intOf]; omega)
    · obtain rfl : i = low := by omega
      rw [HB.out] at hand
      have hand1 : bits .and .i64 (t : Int) 1 = 1 := hand
      clear hand
      go_wp2
      go_ret
      exact ⟨rfl, hb⟩

set_option maxHeartbeats 2000000 in
set_option maxRecDepth 100000 in
theorem sHasI (B n cap : Nat) (a : Option Addr) (l : List Int) (z : Int) (w : World) (hn : n ≤ 4194304) (hc : IntsAt B w a n l) (hB : B ≤ w.heap.size) :
    Calls Tryz.prog 99 #[.slice a n cap, .int .i64 z] w fun e w' => e = .returned (.bool (l.contains z)) ∧ Below w.heap.size w w' := by
  have H := Lib.hid hc
  have hln := hc.1
  clear hc
  go_enter Tryz.func99, Tryz.ntmps99
  go_wp2
  go_loopw [5] (fun v wr => ∃ i : Nat, i ≤ n ∧ v = .int .i64 (i : Int) ∧ Hid ((l.take i).contains z = false) ∧ Below w.heap.size w wr) (fun v _ => n - (intOf v).toNat)
  case atStart => exact ⟨0, by omega, rfl, by simp [Hid], Below.refl _ _⟩
  case round =>
    obtain ⟨i, hi, rfl, hno, hb⟩ := hrel
    by_cases hlt : i < n
    · have hi1 : (i : Int) < (n : Int) := by omega
      have hi0 : (0 : Int) ≤ (i : Int) := by omega
      obtain ⟨b9, o9, rfl, hb9, hc9⟩ := (H.out.on (hb.mono hB)).2.2 (by omega)
      have p1 := hc9 i hlt
      have HTK := Lib.hid (take_one (show i < l.length by omega) (0 : Int))
      have HMM := Lib.hid (show l.getD i 0 ∈ l from by simp [List.getD, show i < l.length by omega])
      obtain ⟨y, hy⟩ : ∃ y, l.getD i 0 = y := ⟨_, rfl⟩
      rw [hy] at p1 HTK HMM
      clear hc9 hy
      by_cases hyz : y = z
      · subst hyz
        have e3 : (y == y) = true := by simp
        have HR := Lib.hid (show l.contains y = true from by rw [List.contains_iff_mem]; exact HMM.out)
        clear HTK HMM hno
        go_wp2
        go_ret
        exact ⟨by rw [HR.out]; rfl, hb⟩
      · have e3 : (y == z) = false := by simpa using hyz
        have HR := Lib.hid (show (l.take (i + 1)).contains z = false from by
          have h1 := hno.out
          rw [HTK.out]
          cases e : (l.take i ++ [y]).contains z with
          | false => rfl
          | true =>
            rw [List.contains_iff_mem, List.mem_append, List.mem_singleton] at e
            rcases e with e | e
            · have : (l.take i).contains z = true := by rw [List.contains_iff_mem]; exact e
              unfold Hid at h1
              rw [this] at h1
              cases h1
            · exact absurd e.symm hyz)
        clear HTK HMM hno hyz
        go_wp2
        go_roundw
        case rel => first
          | exact ⟨i + 1, by omega, by go_num, HR.out, hb⟩
          | (repeat apply Exists.intro
             exact ⟨⟨i + 1, by omega, by go_num, HR.out, hb⟩, rfl⟩)
        case measure => first | (simp [intOf]; done) | (simp [intOf]; omega)
    · obtain rfl : i = n := by omega
      have HR := Lib.hid (show l.contains z = false from by have h1 := hno.out; unfold Hid at h1; rw [List.take_of_length_le (by omega)] at h1; exact h1)
      clear hno
      go_wp2
      go_ret
      exact ⟨by rw [HR.out]; rfl, hb⟩
end

section
open Go.RowKit

theorem iPlace (x : Int) (w : World) : Calls Tryz.prog 133 #[.int .i64 x] w fun e w' => e = .returned (.bool (inb x 0 7)) ∧ w = w' := by
  unfold inb
  by_cases h1 : 0 ≤ x
  · go_enter Tryz.func133, Tryz.ntmps133
    go_wp2
    go_ret
    exact ⟨by simp [h1], rfl⟩
  · go_enter Tryz.func133, Tryz.ntmps133
    go_wp2
    go_ret
    exact ⟨by simp; omega, rfl⟩
/-- Two numbers compared: -1, 0 or 1. -/
def cmpI (x y : Int) : Int := if x < y then -1 else if y < x then 1 else 0
theorem iNaN (x : Int) (w : World) : Calls Tryz.prog 182 #[.int .i64 x] w fun e w' => e = .returned (.bool false) ∧ w = w' := by
  go_enter Tryz.func182, Tryz.ntmps182
  go_wp2
  go_ret
  exact ⟨by simp, rfl⟩
theorem iCmpI (x y : Int) (w : World) : Calls Tryz.prog 152 #[.int .i64 x, .int .i64 y] w fun e w' => e = .returned (.int .i64 (cmpI x y)) ∧ w = w' := by
  unfold cmpI
  by_cases h1 : x < y
  · go_enter Tryz.func152, Tryz.ntmps152
    go_wp2_with (go_at_call 182; refine (iNaN _ _).mono ?_; rintro e w' ⟨rfl, rfl⟩)
    go_ret
    exact ⟨by simp, rfl⟩
  · by_cases h2 : y < x
    · go_enter Tryz.func152, Tryz.ntmps152
      go_wp2_with (go_at_call 182; refine (iNaN _ _).mono ?_; rintro e w' ⟨rfl, rfl⟩)
      go_ret
      exact ⟨by simp, rfl⟩
    · go_enter Tryz.func152, Tryz.ntmps152
      go_wp2_with (go_at_call 182; refine (iNaN _ _).mono ?_; rintro e w' ⟨rfl, rfl⟩)
      go_ret
      exact ⟨by simp, rfl⟩

/-- The first of two numbers that is not 0. -/
def orI (x y : Int) : Int := if x = 0 then y else x
theorem iOr (b : Nat) (x y : Int) (w : World) (h0 : w.cell? ⟨b, 0, none⟩ = some (.int .i64 x)) (h1 : w.cell? ⟨b, 1, none⟩ = some (.int .i64 y)) : Calls Tryz.prog 151 #[.slice (some ⟨b, 0, none⟩) 2 2] w fun e w' => e = .returned (.int .i64 (orI x y)) ∧ w = w' := by
  unfold orI
  by_cases hx : x = 0
  · subst hx
    by_cases hy : y = 0
    · subst hy
      go_enter Tryz.func151, Tryz.ntmps151
      go_wp2
      refine wp_loop_rounds 3 ?_
      rw [rounds_succ]
      go_wp2
      rw [rounds_succ]
      go_wp2
      rw [rounds_succ]
      go_wp2
      go_ret
      exact ⟨by simp, rfl⟩
    · have e : (y != 0) = true := by rw [bne_iff_ne]; exact hy
      go_enter Tryz.func151, Tryz.ntmps151
      go_wp2
      refine wp_loop_rounds 2 ?_
      rw [rounds_succ]
      go_wp2
      rw [rounds_succ]
      go_wp2
      go_ret
      exact ⟨by simp, rfl⟩
  · have e : (x != 0) = true := by rw [bne_iff_ne]; exact hx
    go_enter Tryz.func151, Tryz.ntmps151
    go_wp2
    refine wp_loop_rounds 1 ?_
    rw [rounds_succ]
    go_wp2
    go_ret
    exact ⟨by simp, rfl⟩

/-- Two cells compared: by rows, then from left to right. -/
def cmpC (a b : Cl) : Int := orI (cmpI a.2 b.2) (cmpI a.1 b.1)
theorem cmpC_neg (a b : Cl) : decide (cmpC a b < 0) = bef a b := by
  unfold cmpC orI cmpI bef
  rw [Bool.eq_iff_iff]
  simp only [decide_eq_true_eq, Bool.or_eq_true, Bool.and_eq_true]
  constructor
  · intro h
    repeat' split at h
    all_goals omega
  · intro h
    repeat' split
    all_goals omega
theorem cmpC_geq (a b : Cl) : decide (cmpC a b ≥ 0) = !bef a b := by
  rw [← cmpC_neg, Bool.eq_iff_iff]
  simp only [Bool.not_eq_true', decide_eq_true_eq, decide_eq_false_iff_not]
  omega

theorem two_new {w : World} {t : TypeId} {p q : Value} {N : Nat} (hN : w.heap.size = N) : (w.alloc (.cells #[p, q] t)).drew.cell? ⟨N, 0, none⟩ = some p ∧ (w.alloc (.cells #[p, q] t)).drew.cell? ⟨N, 1, none⟩ = some q := by
  subst hN
  exact ⟨cell_of_row (w.alloc (.cells #[p, q] t)) _ 0 _ _ _ (heap_alloc_new _ _), cell_of_row (w.alloc (.cells #[p, q] t)) _ 1 _ _ _ (heap_alloc_new _ _)⟩

set_option maxHeartbeats 1000000 in
theorem iCompare (x y u v : Int) (W : World) : Calls Tryz.prog 134 #[.agg #[.int .i64 x, .int .i64 y], .agg #[.int .i64 u, .int .i64 v]] W fun e w' => e = .returned (.int .i64 (cmpC (x, y) (u, v))) ∧ (∃ q os', w' = Go.Sort.grow (W.drewN q) os') ∧ Below W.heap.size W w' := by
  have hres : cmpC (x, y) (u, v) = orI (cmpI y v) (cmpI x u) := rfl
  rw [hres]
  clear hres
  have hc1 : ∀ w', Calls Tryz.prog 152 #[.int .i64 y, .int .i64 v] w' _ := fun w' => iCmpI y v w'
  have hc2 : ∀ w', Calls Tryz.prog 152 #[.int .i64 x, .int .i64 u] w' _ := fun w' => iCmpI x u w'
  generalize cmpI y v = p at hc1 ⊢
  generalize cmpI x u = q at hc2 ⊢
  go_enter Tryz.func134, Tryz.ntmps134
  go_wp2_with fail
  have k0 : ((W.alloc (.cells #[.int .i64 x, .int .i64 y] 40)).alloc (.cells #[.int .i64 u, .int .i64 v] 40)).heap.size = W.heap.size + 2 := by simp
  go_region_held3 (fun w' => w'.cell? ⟨W.heap.size, 0, none⟩ = some (.int .i64 x) ∧ w'.cell? ⟨W.heap.size, 1, none⟩ = some (.int .i64 y) ∧ w'.cell? ⟨W.heap.size + 1, 0, none⟩ = some (.int .i64 u) ∧ w'.cell? ⟨W.heap.size + 1, 1, none⟩ = some (.int .i64 v))
    (first | go_keep)
    (first | (go_at_call_of 152 y; refine (hc1 _).mono ?_; rintro e w' ⟨rfl, rfl⟩) | (go_at_call_of 152 x; refine (hc2 _).mono ?_; rintro e w' ⟨rfl, rfl⟩) | (go_at_call 151; refine (iOr _ p q _ (two_new k0).1 (two_new k0).2).mono ?_; rintro e w' ⟨rfl, rfl⟩))
  go_wp2
  go_ret
  exact ⟨rfl, ⟨1, _, by rw [Go.Sort.alloc_eq_grow, Go.Sort.alloc_eq_grow, Go.Sort.alloc_eq_grow, Go.Sort.grow_grow, Go.Sort.grow_grow]; rfl⟩, ((((Below.refl _ _).alloc (Nat.le_refl _) _).alloc (by simp) _).alloc (by simp; omega) _).drew⟩
end

section
open Go.RowKit

theorem isShape_few {l : List Cl} (h : l.length = 0 ∨ 8 < l.length) : isShape l = false := by
  unfold isShape inb
  rw [Bool.and_eq_false_iff]
  right
  rw [Bool.and_eq_false_iff, decide_eq_false_iff_not, decide_eq_false_iff_not]
  omega

set_option maxHeartbeats 2000000 in
set_option maxRecDepth 100000 in
theorem iIsShape (B n cap : Nat) (a : Option Addr) (l : List Cl) (w : World) (hn : n ≤ 4194304) (hc : CellsAt B w a n l) (hB : B ≤ w.heap.size) :
    Calls Tryz.prog 87 #[.slice a n cap] w fun e w' => e = .returned (.bool (isShape l)) ∧ Below w.heap.size w w' := by
  have H := Lib.hid hc
  clear hc
  by_cases h0 : n = 0 ∨ 8 < n
  · have hno : isShape l = false := isShape_few (by rw [H.out.1]; exact h0)
    rw [hno]
    rcases h0 with h0 | h0
    · subst h0
      go_enter Tryz.func87, Tryz.ntmps87
      go_wp2
      go_ret
      exact ⟨rfl, Below.refl _ _⟩
    · have h1 : ((n : Int) == 0) = false := by simp; omega
      go_enter Tryz.func87, Tryz.ntmps87
      go_wp2
      go_ret
      exact ⟨rfl, Below.refl _ _⟩
  have h1 : ((n : Int) == 0) = false := by simp; omega
  have h8 : n ≤ 8 := by omega
  have h00 : 0 < n := by omega
  clear h0
  go_enter Tryz.func87, Tryz.ntmps87
  go_wp2
  go_loopw [15] (fun i wr => ∃ k : Nat, k ≤ n ∧ i = .int .i64 k ∧ Hid (okTo l k = true) ∧ Below w.heap.size w wr) (fun i _ => n - (intOf i).toNat)
  case atStart => exact ⟨0, by omega, rfl, by simp [Hid, okTo], Below.refl _ _⟩
  case round =>
    obtain ⟨k, hk, rfl, hok, hb⟩ := hrel
    have hsz := hb.size
    clear h1
    by_cases hlt : k < n
    · obtain ⟨b1, o1, rfl, hb1, hc1⟩ := H.out.2.2 (by omega)
      obtain ⟨x, y, hxy⟩ : ∃ x y, l.getD k (0, 0) = (x, y) := ⟨_, _, rfl⟩
      have p1 := (hb.cell (p := ⟨b1, o1 + k * 2, none⟩) (Nat.lt_of_lt_of_le hb1 hB)).trans (hc1 k hlt).1
      have p2 := (hb.cell (p := ⟨b1, o1 + k * 2 + 1, none⟩) (Nat.lt_of_lt_of_le hb1 hB)).trans (hc1 k hlt).2
      rw [hxy] at p1 p2
      have HX := Lib.hid hxy
      have hkz : (0 : Int) ≤ (k : Int) := by omega
      have hk1 : (k : Int) < (n : Int) := by omega
      have hbl : b1 < wr.heap.size := by omega
      clear hxy
      by_cases hA : inb x 0 7 = true
      · by_cases hA2 : inb y 0 7 = true
        · by_cases hk0 : 0 < k
          · obtain ⟨u, v, huv⟩ : ∃ u v, l.getD (k - 1) (0, 0) = (u, v) := ⟨_, _, rfl⟩
            have q1 := (hb.cell (p := ⟨b1, o1 + (k - 1) * 2, none⟩) (Nat.lt_of_lt_of_le hb1 hB)).trans (hc1 (k - 1) (by omega)).1
            have q2 := (hb.cell (p := ⟨b1, o1 + (k - 1) * 2 + 1, none⟩) (Nat.lt_of_lt_of_le hb1 hB)).trans (hc1 (k - 1) (by omega)).2
            rw [huv] at q1 q2
            have HU := Lib.hid huv
            have hj0 : (1 : Int) ≤ (k : Int) := by omega
            have hj2 : (k : Int) - 1 < (n : Int) := by omega
            have hj3 : (0 : Int) ≤ (k : Int) - 1 := by omega
            have hj4 : ((k : Int) - 1).toNat = k - 1 := by omega
            have hj : IntKind.i64.wrap ((k : Int) - 1) = (k : Int) - 1 := IntWalk.i64_in _ (by omega)
            have hcmp : ∀ w', Calls Tryz.prog 134 #[.agg #[.int .i64 u, .int .i64 v], .agg #[.int .i64 x, .int .i64 y]] w' _ := fun w' => iCompare u v x y w'
            obtain ⟨r, hr⟩ : ∃ r, cmpC (u, v) (x, y) = r := ⟨_, rfl⟩
            rw [hr] at hcmp
            have HR := Lib.hid hr
            clear huv hc1 hr
            go_wp2_with fail
            go_region_held3 (fun w' => w'.cell? ⟨wr.heap.size, 0, none⟩ = some (.int .i64 x) ∧ w'.cell? ⟨wr.heap.size, 1, none⟩ = some (.int .i64 y) ∧ w'.cell? ⟨b1, o1 + (k - 1) * 2, none⟩ = some (.int .i64 u) ∧ w'.cell? ⟨b1, o1 + (k - 1) * 2 + 1, none⟩ = some (.int .i64 v))
              (first | go_keep | exact ⟨(hbe.cell (p := ⟨wr.heap.size, 0, none⟩) (by simp)).trans (by go_keep), (hbe.cell (p := ⟨wr.heap.size, 1, none⟩) (by simp)).trans (by go_keep), (hbe.cell (p := ⟨b1, o1 + (k - 1) * 2, none⟩) (by simp; omega)).trans (by go_keep), (hbe.cell (p := ⟨b1, o1 + (k - 1) * 2 + 1, none⟩) (by simp; omega)).trans (by go_keep)⟩)
              (first | (go_at_call 133; refine (iPlace _ _).mono ?_; rintro e w' ⟨rfl, rfl⟩) | (go_at_call 134; refine (hcmp _).mono ?_; rintro e w' ⟨rfl, _, hbe⟩))
            all_goals go_wp2
            all_goals
              rename_i hcase
              have hbb := (hb.alloc hsz (.cells #[.int .i64 x, .int .i64 y] 40)).drew.trans (hbe.mono (by simp; omega))
              have HBB := Lib.hid hbb
              have hbf := cmpC_neg (u, v) (x, y)
              rw [HR.out] at hbf
              clear hbb hcmp
              first
                | (have e : okAt l k = false := by
                     unfold okAt
                     rw [HX.out, HU.out, ← hbf]
                     simp
                     omega
                   have hno : isShape l = false := by
                     unfold isShape
                     rw [okTo_no (by rw [H.out.1]; exact hlt) e]
                     rfl
                   go_ret
                   exact ⟨by rw [hno]; rfl, HBB.out⟩)
                | (have e : okTo l (k + 1) = true := by
                     have e : okAt l k = true := by
                       unfold okAt inP
                       rw [HX.out, HU.out, ← hbf]
                       simp [hA, hA2]
                       omega
                     rw [okTo_succ, e, hok.out]
                     rfl
                   have HE := Lib.hid e
                   clear e hbf
                   go_roundw
                   case rel => exact ⟨k + 1, by omega, by go_num, HE.out, HBB.out⟩
                   case measure => simp [intOf]; omega)
          · have hyes : okTo l (k + 1) = true := by
              have e : okAt l k = true := by unfold okAt inP; rw [HX.out]; simp [hA, hA2]; omega
              rw [okTo_succ, e, hok.out]; rfl
            have hd : decide ((0 : Int) < (k : Int)) = false := by simp; omega
            go_wp2_with fail
            go_quiet (first | (go_at_call 133; refine quiet_same (iPlace _ _)))
            go_wp2
            clear hd
            go_roundw
            case rel => exact ⟨k + 1, by omega, by go_num, hyes, below_drewn (hb.alloc hsz _) _⟩
            case measure => simp [intOf]; omega
        · have hA' : inb y 0 7 = false := by simpa using hA2
          clear hA2
          have hno : isShape l = false := by
            have e : okAt l k = false := by unfold okAt inP; rw [HX.out]; simp [hA']
            unfold isShape
            rw [okTo_no (by rw [H.out.1]; exact hlt) e]
            rfl
          go_wp2_with fail
          go_quiet (first | (go_at_call 133; refine quiet_same (iPlace _ _)))
          go_wp2
          go_ret
          exact ⟨by rw [hno]; rfl, below_drewn (hb.alloc hsz _) _⟩
      · have hA' : inb x 0 7 = false := by simpa using hA
        clear hA
        have hno : isShape l = false := by
          have e : okAt l k = false := by unfold okAt inP; rw [HX.out]; simp [hA']
          unfold isShape
          rw [okTo_no (by rw [H.out.1]; exact hlt) e]
          rfl
        go_wp2_with fail
        go_quiet (first | (go_at_call 133; refine quiet_same (iPlace _ _)))
        go_wp2
        go_ret
        exact ⟨by rw [hno]; rfl, below_drewn (hb.alloc hsz _) _⟩
    · obtain rfl : k = n := by omega
      have he : isShape l = true := by
        have := hok.out
        unfold isShape
        rw [H.out.1, this]
        simp [inb]
        omega
      go_wp2
      go_ret
      exact ⟨by rw [he]; rfl, hb⟩
end

section
open Go.RowKit

/-- A shape in memory: its block, its capacity, its cells. -/
abbrev Ent := Nat × Nat × List Cl
def ev (e : Ent) : Value := .slice (some ⟨e.1, 0, none⟩) e.2.2.length e.2.1
def dE : Ent := (0, 0, [])
def kE (e : Ent) : List Cl := e.2.2
def EachS (B : Nat) (w : World) (es : List Ent) : Prop := ∀ e ∈ es, w.ownsRow B 40 2 (ev e) e.2.2.length (cvs e.2.2)
def SmallS (es : List Ent) : Prop := ∀ e ∈ es, e.2.2.length ≤ 4194304 ∧ ∀ c ∈ e.2.2, InC c
def ApartS (es : List Ent) : Prop := es.Pairwise fun e f => e.1 ≠ f.1
def OffS (g : Nat) (es : List Ent) : Prop := ∀ e ∈ es, e.1 ≠ g
theorem ev_block (e : Ent) : (ev e).ownBlock = some e.1 := rfl
theorem EachS.on {B : Nat} {w w' : World} {es : List Ent} (h : EachS B w es) (hb : Below w.heap.size w w') : EachS B w' es := fun e he => (h e he).kept (grow_below hb none) (.inr (by rw [ev_block]; intro e; cases e))
theorem EachS.by {B g : Nat} {w w' : World} {es : List Ent} (h : EachS B w es) (hg : w.grownBy w' (some g)) (hne : OffS g es) : EachS B w' es := fun e he => (h e he).kept hg (.inr (by rw [ev_block]; intro e2; injection e2 with e2; exact hne e he e2))
theorem EachS.sub {B : Nat} {w : World} {es fs : List Ent} (h : EachS B w es) (hs : ∀ e ∈ fs, e ∈ es) : EachS B w fs := fun e he => h e (hs e he)
theorem EachS.less {B B' : Nat} {w : World} {es : List Ent} (h : EachS B w es) (hB : B' ≤ B) : EachS B' w es := fun e he => own_below (h e he) hB
theorem EachS.cells {B : Nat} {w : World} {es : List Ent} (h : EachS B w es) (hs : SmallS es) {e : Ent} (he : e ∈ es) : CellsAt w.heap.size w (some ⟨e.1, 0, none⟩) e.2.2.length e.2.2 := CellsAt.of_own (h e he) (hs e he).2
theorem EachS.lt {B : Nat} {w : World} {es : List Ent} (h : EachS B w es) {e : Ent} (he : e ∈ es) : B ≤ e.1 ∧ e.1 < w.heap.size := (h e he).lt e.1 rfl
theorem ev_one (e : Ent) : (ev e).oneCell' = true := rfl
theorem evs_one (es : List Ent) : ∀ u ∈ es.map ev, u.oneCell' = true := by
  intro u hu
  obtain ⟨e, _, rfl⟩ := List.mem_map.1 hu
  exact ev_one e
theorem evs_get {es : List Ent} {k : Nat} (h : k < es.length) : (es.map ev)[k]? = some (ev (es.getD k dE)) := by simp [List.getD, h]
theorem ent_mem {es : List Ent} {k : Nat} (h : k < es.length) : es.getD k dE ∈ es := by simp [List.getD, h]

/-! ### Rows of values of one cell -/
theorem row1_le {w : World} {B n g cap : Nat} {t : TypeId} {xs : List Value} (h : w.ownsRow B t 1 (.slice (some ⟨g, 0, none⟩) n cap) n xs) : n ≤ cap := by
  rcases h.2 with ⟨e, _⟩ | ⟨g', cap', cur, e, _, _, h1, _⟩
  · cases e
  · injection e with _ _ e3
    omega
theorem row1_take {w : World} {B n g cap k : Nat} {t : TypeId} {xs : List Value} (h : w.ownsRow B t 1 (.slice (some ⟨g, 0, none⟩) n cap) n xs) (hk : k ≤ n) : w.ownsRow B t 1 (.slice (some ⟨g, 0, none⟩) k cap) k (xs.take k) := by
  have hl : xs.length = n := by have := h.1; omega
  rcases h.2 with ⟨e, _⟩ | ⟨g', cap', cur, e, hb, hg, h1, h2, h3, h4⟩
  · cases e
  · injection e with e1 e2 e3
    injection e1 with e1
    injection e1 with e1 _
    subst e1 e3
    refine ⟨by rw [List.length_take]; omega, .inr ⟨g, cap, cur, rfl, hb, hg, by omega, h2, h3, ?_⟩⟩
    rw [← h4, List.take_take]
    congr 1
    omega
theorem row1_far {w : World} {B n g cap o : Nat} {t : TypeId} {xs : List Value} {v : Value} (h : w.ownsRow B t 1 (.slice (some ⟨g, 0, none⟩) n cap) n xs) (ho : n ≤ o) : (w.setCell ⟨g, o, none⟩ v).ownsRow B t 1 (.slice (some ⟨g, 0, none⟩) n cap) n xs := by
  rcases h.2 with ⟨e, _⟩ | ⟨g', cap', cur, e, hb, hg, h1, h2, h3, h4⟩
  · cases e
  · injection e with e1 e2 e3
    injection e1 with e1
    injection e1 with e1 _
    subst e1 e3
    refine ⟨h.1, .inr ⟨g, cap, cur.setIfInBounds o v, rfl, hb, set_row hg o v, h1, h2, by simpa using h3, ?_⟩⟩
    rw [← h4]
    apply List.ext_getElem?
    intro j
    by_cases hj : j < n * 1
    · rw [List.getElem?_take_of_lt hj, List.getElem?_take_of_lt hj, Array.getElem?_toList, Array.getElem?_toList, Array.getElem?_setIfInBounds]
      rw [if_neg (by omega)]
    · rw [List.getElem?_take_eq_none (by omega), List.getElem?_take_eq_none (by omega)]
theorem row1_fars {B n g cap : Nat} {t : TypeId} {xs : List Value} : ∀ (vs : List Value) (o : Nat) (w : World), w.ownsRow B t 1 (.slice (some ⟨g, 0, none⟩) n cap) n xs → n ≤ o → (w.setCells g o vs).ownsRow B t 1 (.slice (some ⟨g, 0, none⟩) n cap) n xs
  | [], _, _, h, _ => h
  | v :: r, o, w, h, ho => row1_fars r (o + 1) _ (row1_far (v := v) h ho) (by omega)
theorem below_sets1 {B g : Nat} {a : World} (hg : B ≤ g) : ∀ (vs : List Value) (o : Nat) (w : World), Below B a w → Below B a (w.setCells g o vs)
  | [], _, _, h => h
  | v :: r, o, _, h => below_sets1 hg r (o + 1) _ (h.setCell (p := ⟨g, o, none⟩) hg v)
theorem grown_sets1 {g : Nat} : ∀ (vs : List Value) (o : Nat) (w : World), w.grownBy (w.setCells g o vs) (some g)
  | [], _, w => World.grownBy.refl _ _
  | v :: r, o, w => by
    have h1 : w.grownBy (w.setCell ⟨g, o, none⟩ v) (some g) := ⟨rfl, rfl, rfl, by simp [World.setCell], fun k hk hne => by
      have : g ≠ k := fun e => hne (by rw [e])
      simp [World.setCell, Array.getElem?_modify, this]⟩
    exact h1.trans (grown_sets1 r (o + 1) _)

/-- A slice of shapes of the call's own. -/
structure OwnS (B : Nat) (w : World) (v : Value) (es : List Ent) : Prop where
  row : w.ownsRow B 27 1 v es.length (es.map ev)
  each : EachS B w es
  apart : ApartS es
  off : ∀ e ∈ es, v.ownBlock ≠ some e.1
theorem OwnS.on {B : Nat} {w w' : World} {v : Value} {es : List Ent} (h : OwnS B w v es) (hb : Below w.heap.size w w') : OwnS B w' v es :=
  ⟨h.row.kept (grow_below hb none) (by cases v.ownBlock with | none => exact .inl rfl | some k => exact .inr (by simp)), h.each.on hb, h.apart, h.off⟩
theorem OwnS.less {B B' : Nat} {w : World} {v : Value} {es : List Ent} (h : OwnS B w v es) (hB : B' ≤ B) : OwnS B' w v es := ⟨own_below h.row hB, h.each.less hB, h.apart, h.off⟩
end

end Go.Proofs.YtailmmamgnebhaaGreatDoor
