/-
  Steps, edges, pinched corners, in the model: what each call gives.
  The way around a shape, in the model: what the call gives.
-/
import Derived.Test.YthnapikklolgcaaPow
import Derived.Test.YthnapikklolgcaaSon
import Derived.Test.YthnapikklolgcaaJpr
import Derived.Test.YthnapikklolgcaaJon
namespace Go.Proofs.Ythnapikklolgcaa

section
open Go.RowKit

set_option maxHeartbeats 1000000 in
theorem sStep (x y : Int) (w : World) (hx : -1000 ≤ x ∧ x ≤ 1000) (hy : -1000 ≤ y ∧ y ≤ 1000) : ∀ (d : Nat), d < 4 → ∀ (b : Int), b = [(114 : Int), 100, 108, 117].getD d 0 →
    Calls Try.prog 78 #[.agg #[.int .i64 x, .int .i64 y], .int .u8 b] w fun e w' => e = .returned (.tuple #[.agg #[.int .i64 (nbC (x, y) d).1, .int .i64 (nbC (x, y) d).2], .bool true]) ∧ Below w.heap.size w w' := by
  have w1 : IntKind.i64.wrap (x + 1) = x + 1 := IntWalk.i64_in _ (by omega)
  have w2 : IntKind.i64.wrap (x - 1) = x - 1 := IntWalk.i64_in _ (by omega)
  have w3 : IntKind.i64.wrap (y + 1) = y + 1 := IntWalk.i64_in _ (by omega)
  have w4 : IntKind.i64.wrap (y - 1) = y - 1 := IntWalk.i64_in _ (by omega)
  intro d hd b hb
  have hdd : d = 0 ∨ d = 1 ∨ d = 2 ∨ d = 3 := by omega
  rcases hdd with rfl | rfl | rfl | rfl
  · obtain rfl : b = 114 := hb
    rw [nb0]
    dsimp only
    have HB := Lib.hid (((Below.refl w.heap.size w).alloc (Nat.le_refl _) (.cells #[.int .i64 (x + 1), .int .i64 (y)] 53)).alloc (by simp) (.cells #[.int .i64 (x + 1), .int .i64 (y)] 53))
    have HE := Lib.hid (fun j => row_new (w.alloc (.cells #[.int .i64 (x + 1), .int .i64 (y)] 53)) 53 #[.int .i64 (x + 1), .int .i64 (y)] j)
    go_enter Try.func78, Try.ntmps78
    go_wp2
    have E := HE.out
    simp only [World.size_alloc] at E
    have E0 := E 0
    have E1 := E 1
    refine bodyPost_ret (v := .tuple #[.agg #[.int .i64 (x + 1), .int .i64 y], .bool true]) ?_ rfl ⟨rfl, HB.out⟩
    simp [results, Try.results78, go_sem, E]
  · obtain rfl : b = 100 := hb
    rw [nb1]
    dsimp only
    have HB := Lib.hid (((Below.refl w.heap.size w).alloc (Nat.le_refl _) (.cells #[.int .i64 (x), .int .i64 (y + 1)] 53)).alloc (by simp) (.cells #[.int .i64 (x), .int .i64 (y + 1)] 53))
    have HE := Lib.hid (fun j => row_new (w.alloc (.cells #[.int .i64 (x), .int .i64 (y + 1)] 53)) 53 #[.int .i64 (x), .int .i64 (y + 1)] j)
    go_enter Try.func78, Try.ntmps78
    go_wp2
    have E := HE.out
    simp only [World.size_alloc] at E
    have E0 := E 0
    have E1 := E 1
    refine bodyPost_ret (v := .tuple #[.agg #[.int .i64 x, .int .i64 (y + 1)], .bool true]) ?_ rfl ⟨rfl, HB.out⟩
    simp [results, Try.results78, go_sem, E]
  · obtain rfl : b = 108 := hb
    rw [nb2]
    dsimp only
    have HB := Lib.hid (((Below.refl w.heap.size w).alloc (Nat.le_refl _) (.cells #[.int .i64 (x - 1), .int .i64 (y)] 53)).alloc (by simp) (.cells #[.int .i64 (x - 1), .int .i64 (y)] 53))
    have HE := Lib.hid (fun j => row_new (w.alloc (.cells #[.int .i64 (x - 1), .int .i64 (y)] 53)) 53 #[.int .i64 (x - 1), .int .i64 (y)] j)
    go_enter Try.func78, Try.ntmps78
    go_wp2
    have E := HE.out
    simp only [World.size_alloc] at E
    have E0 := E 0
    have E1 := E 1
    refine bodyPost_ret (v := .tuple #[.agg #[.int .i64 (x - 1), .int .i64 y], .bool true]) ?_ rfl ⟨rfl, HB.out⟩
    simp [results, Try.results78, go_sem, E]
  · obtain rfl : b = 117 := hb
    rw [nb3]
    dsimp only
    have HB := Lib.hid (((Below.refl w.heap.size w).alloc (Nat.le_refl _) (.cells #[.int .i64 (x), .int .i64 (y - 1)] 53)).alloc (by simp) (.cells #[.int .i64 (x), .int .i64 (y - 1)] 53))
    have HE := Lib.hid (fun j => row_new (w.alloc (.cells #[.int .i64 (x), .int .i64 (y - 1)] 53)) 53 #[.int .i64 (x), .int .i64 (y - 1)] j)
    go_enter Try.func78, Try.ntmps78
    go_wp2
    have E := HE.out
    simp only [World.size_alloc] at E
    have E0 := E 0
    have E1 := E 1
    refine bodyPost_ret (v := .tuple #[.agg #[.int .i64 x, .int .i64 (y - 1)], .bool true]) ?_ rfl ⟨rfl, HB.out⟩
    simp [results, Try.results78, go_sem, E]

set_option maxHeartbeats 2000000 in
theorem sEdge (B n cap : Nat) (a : Option Addr) (l : List Cl) (x y : Int) (w : World) (hn : n ≤ 4194304) (hc : CellsAt B w a n l) (hB : B ≤ w.heap.size) (hx : -1000 ≤ x ∧ x ≤ 1000) (hy : -1000 ≤ y ∧ y ≤ 1000) : ∀ (d : Nat), d < 4 →
    Calls Try.prog 79 #[.slice a n cap, .agg #[.int .i64 x, .int .i64 y], .int .i64 d] w fun e w' => e = .returned (.bool (edC l x y d)) ∧ Below w.heap.size w w' := by
  obtain ⟨xm, exm⟩ : ∃ xm, x - 1 = xm := ⟨_, rfl⟩
  obtain ⟨ym, eym⟩ : ∃ ym, y - 1 = ym := ⟨_, rfl⟩
  have w2 : IntKind.i64.wrap (x - 1) = xm := by rw [← exm]; exact IntWalk.i64_in _ (by omega)
  have w4 : IntKind.i64.wrap (y - 1) = ym := by rw [← eym]; exact IntWalk.i64_in _ (by omega)
  have hbA : Below w.heap.size w (w.alloc (.cells #[.int .i64 x, .int .i64 y] 53)) := (Below.refl _ _).alloc (Nat.le_refl _) _
  have HCA := Lib.hid (hc.on (hbA.mono hB))
  have HB := Lib.hid hbA
  have hH : ∀ (p q : Int) (b : Bool), hasC l p q = b → Calls Try.prog 68 #[.slice a n cap, .int .i64 p, .int .i64 q] (w.alloc (.cells #[.int .i64 x, .int .i64 y] 53)) fun e w' => e = .returned (.bool b) ∧ (w.alloc (.cells #[.int .i64 x, .int .i64 y] 53)) = w' := fun p q b e => by subst e; exact sHasCell B n cap a l p q _ hn HCA.out
  clear hbA hc
  intro d hd
  have hdd : d = 0 ∨ d = 1 ∨ d = 2 ∨ d = 3 := by omega
  clear hx hy
  rcases hdd with rfl | rfl | rfl | rfl
  · have HV := Lib.hid (show edC l x y 0 = (hasC l x y && !hasC l x ym) from by simp only [edC, eym])
    rw [HV.out]
    clear exm eym
    cases e1 : hasC l x y with
    | false =>
      go_enter Try.func79, Try.ntmps79
      go_wp2_with (first | (go_at_call 68; refine (hH _ _ _ (by assumption)).mono ?_; rintro e w' ⟨rfl, rfl⟩))
      go_ret
      exact ⟨rfl, HB.out⟩
    | true =>
      cases e2 : hasC l x ym with
      | false =>
        go_enter Try.func79, Try.ntmps79
        go_wp2_with (first | (go_at_call 68; refine (hH _ _ _ (by assumption)).mono ?_; rintro e w' ⟨rfl, rfl⟩))
        go_ret
        exact ⟨rfl, HB.out⟩
      | true =>
        go_enter Try.func79, Try.ntmps79
        go_wp2_with (first | (go_at_call 68; refine (hH _ _ _ (by assumption)).mono ?_; rintro e w' ⟨rfl, rfl⟩))
        go_ret
        exact ⟨rfl, HB.out⟩
  · have HV := Lib.hid (show edC l x y 1 = (hasC l xm y && !hasC l x y) from by simp only [edC, exm])
    rw [HV.out]
    clear exm eym
    cases e1 : hasC l xm y with
    | false =>
      go_enter Try.func79, Try.ntmps79
      go_wp2_with (first | (go_at_call 68; refine (hH _ _ _ (by assumption)).mono ?_; rintro e w' ⟨rfl, rfl⟩))
      go_ret
      exact ⟨rfl, HB.out⟩
    | true =>
      cases e2 : hasC l x y with
      | false =>
        go_enter Try.func79, Try.ntmps79
        go_wp2_with (first | (go_at_call 68; refine (hH _ _ _ (by assumption)).mono ?_; rintro e w' ⟨rfl, rfl⟩))
        go_ret
        exact ⟨rfl, HB.out⟩
      | true =>
        go_enter Try.func79, Try.ntmps79
        go_wp2_with (first | (go_at_call 68; refine (hH _ _ _ (by assumption)).mono ?_; rintro e w' ⟨rfl, rfl⟩))
        go_ret
        exact ⟨rfl, HB.out⟩
  · have HV := Lib.hid (show edC l x y 2 = (hasC l xm ym && !hasC l xm y) from by simp only [edC, exm, eym])
    rw [HV.out]
    clear exm eym
    cases e1 : hasC l xm ym with
    | false =>
      go_enter Try.func79, Try.ntmps79
      go_wp2_with (first | (go_at_call 68; refine (hH _ _ _ (by assumption)).mono ?_; rintro e w' ⟨rfl, rfl⟩))
      go_ret
      exact ⟨rfl, HB.out⟩
    | true =>
      cases e2 : hasC l xm y with
      | false =>
        go_enter Try.func79, Try.ntmps79
        go_wp2_with (first | (go_at_call 68; refine (hH _ _ _ (by assumption)).mono ?_; rintro e w' ⟨rfl, rfl⟩))
        go_ret
        exact ⟨rfl, HB.out⟩
      | true =>
        go_enter Try.func79, Try.ntmps79
        go_wp2_with (first | (go_at_call 68; refine (hH _ _ _ (by assumption)).mono ?_; rintro e w' ⟨rfl, rfl⟩))
        go_ret
        exact ⟨rfl, HB.out⟩
  · have HV := Lib.hid (show edC l x y 3 = (hasC l x ym && !hasC l xm ym) from by simp only [edC, exm, eym])
    rw [HV.out]
    clear exm eym
    cases e1 : hasC l x ym with
    | false =>
      go_enter Try.func79, Try.ntmps79
      go_wp2_with (first | (go_at_call 68; refine (hH _ _ _ (by assumption)).mono ?_; rintro e w' ⟨rfl, rfl⟩))
      go_ret
      exact ⟨rfl, HB.out⟩
    | true =>
      cases e2 : hasC l xm ym with
      | false =>
        go_enter Try.func79, Try.ntmps79
        go_wp2_with (first | (go_at_call 68; refine (hH _ _ _ (by assumption)).mono ?_; rintro e w' ⟨rfl, rfl⟩))
        go_ret
        exact ⟨rfl, HB.out⟩
      | true =>
        go_enter Try.func79, Try.ntmps79
        go_wp2_with (first | (go_at_call 68; refine (hH _ _ _ (by assumption)).mono ?_; rintro e w' ⟨rfl, rfl⟩))
        go_ret
        exact ⟨rfl, HB.out⟩

set_option maxHeartbeats 4000000 in
set_option maxRecDepth 100000 in
theorem sPin (B n cap : Nat) (a : Option Addr) (l : List Cl) (w : World) (hn : n ≤ 4194304) (hP : ∀ c ∈ l, inP c = true) (hc : CellsAt B w a n l) :
    Calls Try.prog 77 #[.slice a n cap] w fun e w' => e = .returned (.bool (pinC l)) ∧ w = w' := by
  have H := Lib.hid hc
  have HLN := Lib.hid hc.1
  have HP := Lib.hid hP
  have hH : ∀ (p q : Int) (b : Bool), hasC l p q = b → Calls Try.prog 68 #[.slice a n cap, .int .i64 p, .int .i64 q] w fun e w' => e = .returned (.bool b) ∧ w = w' := fun p q b e => by subst e; exact sHasCell B n cap a l p q w hn hc
  clear hc hP
  go_enter Try.func77, Try.ntmps77
  go_wp2
  go_loopw [3] (fun i wr => ∃ k : Nat, k ≤ n ∧ i = .int .i64 k ∧ Hid (∀ j, j < k → pinAt l (l.getD j (0, 0)) = false) ∧ w = wr) (fun i _ => n - (intOf i).toNat)
  case atStart => exact ⟨0, by omega, rfl, (fun j hj => by omega), rfl⟩
  case round =>
    obtain ⟨k, hk, rfl, hall, rfl⟩ := hrel
    by_cases hlt : k < n
    · have hk1 : (k : Int) < (n : Int) := by omega
      have hk0 : (0 : Int) ≤ (k : Int) := by omega
      obtain ⟨x, y, hxy⟩ : ∃ x y, l.getD k (0, 0) = (x, y) := ⟨_, _, rfl⟩
      obtain ⟨b9, o9, rfl, hb9, hc9⟩ := H.out.2.2 (by omega)
      have p1 := (hc9 k hlt).1
      have p2 := (hc9 k hlt).2
      rw [hxy] at p1 p2
      dsimp only at p1 p2
      have hpx := inP_out (HP.out _ (getD_mem (l := l) (j := k) (by have := HLN.out; omega)))
      rw [hxy] at hpx
      dsimp only at hpx
      obtain ⟨x1, ex1⟩ : ∃ x1, x + 1 = x1 := ⟨_, rfl⟩
      obtain ⟨y1, ey1⟩ : ∃ y1, y + 1 = y1 := ⟨_, rfl⟩
      obtain ⟨xm, exm⟩ : ∃ xm, x - 1 = xm := ⟨_, rfl⟩
      have w1 : IntKind.i64.wrap (x + 1) = x1 := by rw [← ex1]; exact IntWalk.i64_in _ (by omega)
      have w2 : IntKind.i64.wrap (y + 1) = y1 := by rw [← ey1]; exact IntWalk.i64_in _ (by omega)
      have w3 : IntKind.i64.wrap (x - 1) = xm := by rw [← exm]; exact IntWalk.i64_in _ (by omega)
      have HA := Lib.hid (show pinAt l (x, y) = (hasC l x1 y1 && !hasC l x1 y && !hasC l x y1 || hasC l xm y1 && !hasC l xm y && !hasC l x y1) from by unfold pinAt; dsimp only; rw [ex1, ey1, exm])
      have HXY := Lib.hid hxy
      have HNO := Lib.hid (show pinAt l (x, y) = false → ∀ j, j < k + 1 → pinAt l (l.getD j (0, 0)) = false from fun h j hj => by
        by_cases e9 : j = k
        · subst e9; rw [HXY.out]; exact h
        · exact hall.out j (by omega))
      have HYES := Lib.hid (show pinAt l (x, y) = true → pinC l = true from fun h => by
        unfold pinC
        rw [List.any_eq_true]
        exact ⟨_, getD_mem (l := l) (j := k) (by have := HLN.out; omega), by rw [HXY.out]; exact h⟩)
      clear hxy hc9 hpx ex1 ey1 exm
      cases e1 : hasC l x1 y1 with
      | false =>
        cases e4 : hasC l xm y1 with
        | false =>
          have HR := Lib.hid (HNO.out (by rw [HA.out, e1, e4]; rfl))
          go_wp2_with (first | (go_at_call 68; refine (hH _ _ _ (by assumption)).mono ?_; rintro e w' ⟨rfl, rfl⟩))
          go_roundw
          case rel => exact ⟨k + 1, by omega, by go_num, HR.out, (by first | rfl | trivial)⟩
          case measure => simp [intOf]; omega
        | true =>
          cases e5 : hasC l xm y with
          | false =>
            cases e3 : hasC l x y1 with
            | false =>
              have HR := Lib.hid (HYES.out (by rw [HA.out, e1, e4, e5, e3]; rfl))
              go_wp2_with (first | (go_at_call 68; refine (hH _ _ _ (by assumption)).mono ?_; rintro e w' ⟨rfl, rfl⟩))
              go_ret
              exact ⟨by rw [HR.out]; rfl, rfl⟩
            | true =>
              have HR := Lib.hid (HNO.out (by rw [HA.out, e1, e4, e5, e3]; rfl))
              go_wp2_with (first | (go_at_call 68; refine (hH _ _ _ (by assumption)).mono ?_; rintro e w' ⟨rfl, rfl⟩))
              go_roundw
              case rel => exact ⟨k + 1, by omega, by go_num, HR.out, (by first | rfl | trivial)⟩
              case measure => simp [intOf]; omega
          | true =>
            have HR := Lib.hid (HNO.out (by rw [HA.out, e1, e4, e5]; rfl))
            go_wp2_with (first | (go_at_call 68; refine (hH _ _ _ (by assumption)).mono ?_; rintro e w' ⟨rfl, rfl⟩))
            go_roundw
            case rel => exact ⟨k + 1, by omega, by go_num, HR.out, (by first | rfl | trivial)⟩
            case measure => simp [intOf]; omega
      | true =>
        cases e2 : hasC l x1 y with
        | false =>
          cases e3 : hasC l x y1 with
          | false =>
            have HR := Lib.hid (HYES.out (by rw [HA.out, e1, e2, e3]; rfl))
            go_wp2_with (first | (go_at_call 68; refine (hH _ _ _ (by assumption)).mono ?_; rintro e w' ⟨rfl, rfl⟩))
            go_ret
            exact ⟨by rw [HR.out]; rfl, rfl⟩
          | true =>
            cases e4 : hasC l xm y1 with
            | false =>
              have HR := Lib.hid (HNO.out (by rw [HA.out, e1, e2, e3, e4]; rfl))
              go_wp2_with (first | (go_at_call 68; refine (hH _ _ _ (by assumption)).mono ?_; rintro e w' ⟨rfl, rfl⟩))
              go_roundw
              case rel => exact ⟨k + 1, by omega, by go_num, HR.out, (by first | rfl | trivial)⟩
              case measure => simp [intOf]; omega
            | true =>
              cases e5 : hasC l xm y with
              | false =>
                have HR := Lib.hid (HNO.out (by rw [HA.out, e1, e2, e3, e4, e5]; rfl))
                go_wp2_with (first | (go_at_call 68; refine (hH _ _ _ (by assumption)).mono ?_; rintro e w' ⟨rfl, rfl⟩))
                go_roundw
                case rel => exact ⟨k + 1, by omega, by go_num, HR.out, (by first | rfl | trivial)⟩
                case measure => simp [intOf]; omega
              | true =>
                have HR := Lib.hid (HNO.out (by rw [HA.out, e1, e2, e3, e4, e5]; rfl))
                go_wp2_with (first | (go_at_call 68; refine (hH _ _ _ (by assumption)).mono ?_; rintro e w' ⟨rfl, rfl⟩))
                go_roundw
                case rel => exact ⟨k + 1, by omega, by go_num, HR.out, (by first | rfl | trivial)⟩
                case measure => simp [intOf]; omega
        | true =>
          cases e4 : hasC l xm y1 with
          | false =>
            have HR := Lib.hid (HNO.out (by rw [HA.out, e1, e2, e4]; rfl))
            go_wp2_with (first | (go_at_call 68; refine (hH _ _ _ (by assumption)).mono ?_; rintro e w' ⟨rfl, rfl⟩))
            go_roundw
            case rel => exact ⟨k + 1, by omega, by go_num, HR.out, (by first | rfl | trivial)⟩
            case measure => simp [intOf]; omega
          | true =>
            cases e5 : hasC l xm y with
            | false =>
              cases e3 : hasC l x y1 with
              | false =>
                have HR := Lib.hid (HYES.out (by rw [HA.out, e1, e2, e4, e5, e3]; rfl))
                go_wp2_with (first | (go_at_call 68; refine (hH _ _ _ (by assumption)).mono ?_; rintro e w' ⟨rfl, rfl⟩))
                go_ret
                exact ⟨by rw [HR.out]; rfl, rfl⟩
              | true =>
                have HR := Lib.hid (HNO.out (by rw [HA.out, e1, e2, e4, e5, e3]; rfl))
                go_wp2_with (first | (go_at_call 68; refine (hH _ _ _ (by assumption)).mono ?_; rintro e w' ⟨rfl, rfl⟩))
                go_roundw
                case rel => exact ⟨k + 1, by omega, by go_num, HR.out, (by first | rfl | trivial)⟩
                case measure => simp [intOf]; omega
            | true =>
              have HR := Lib.hid (HNO.out (by rw [HA.out, e1, e2, e4, e5]; rfl))
              go_wp2_with (first | (go_at_call 68; refine (hH _ _ _ (by assumption)).mono ?_; rintro e w' ⟨rfl, rfl⟩))
              go_roundw
              case rel => exact ⟨k + 1, by omega, by go_num, HR.out, (by first | rfl | trivial)⟩
              case measure => simp [intOf]; omega
    · obtain rfl : k = n := by omega
      have HR := Lib.hid (show pinC l = false from by
        unfold pinC
        rw [← Bool.not_eq_true, List.any_eq_true]
        rintro ⟨c, hc, h⟩
        obtain ⟨j, hj, rfl⟩ := mem_getD hc
        rw [hall.out j (by have := HLN.out; omega)] at h
        cases h)
      go_wp2
      go_ret
      exact ⟨by rw [HR.out]; rfl, rfl⟩
end

section
open Go.RowKit

/-- What BoundaryWord hands back: a word and whether there is one; then it has as many letters as the perimeter. -/
def GivesW (w : World) (l : List Cl) (e : Ending) (w' : World) : Prop := ∃ (s : ByteArray) (b : Bool), e = .returned (.tuple #[.string s, .bool b]) ∧ (b = true → isShape l = true ∧ s.size = 4 * l.length - 2 * innI l l.length) ∧ Below w.heap.size w w'

theorem nbC_bd1 (c : Cl) (d : Nat) (hd : d < 4) (k : Int) (h : -k ≤ c.1 ∧ c.1 ≤ k ∧ -k ≤ c.2 ∧ c.2 ≤ k) : -(k + 1) ≤ (nbC c d).1 ∧ (nbC c d).1 ≤ k + 1 ∧ -(k + 1) ≤ (nbC c d).2 ∧ (nbC c d).2 ≤ k + 1 := by
  have hb := nb_bd d hd
  unfold nbC
  dsimp only
  omega
theorem trAt_bd {l : List Cl} (h : isShape l = true) : ∀ k, -((7 + k : Nat) : Int) ≤ (trAt l k).1.1 ∧ (trAt l k).1.1 ≤ ((7 + k : Nat) : Int) ∧ -((7 + k : Nat) : Int) ≤ (trAt l k).1.2 ∧ (trAt l k).1.2 ≤ ((7 + k : Nat) : Int)
  | 0 => by
    obtain ⟨hlen, hin, _⟩ := (isShape_iff l).1 h
    have := inP_out (hin _ (getD_mem (l := l) (j := 0) (by omega)))
    unfold trAt
    dsimp only
    omega
  | k + 1 => by
    have ih := trAt_bd h k
    have := nbC_bd1 _ _ (trAt_lt l k) _ ih
    unfold trAt
    dsimp only
    omega
theorem rdlu_one (s : ByteArray) : ∀ d : Nat, d < 4 → (s ++ (ByteArray.mk #[114, 100, 108, 117]).extract d (d + 1)).size = s.size + 1 := by
  intro d hd
  have : ((ByteArray.mk #[114, 100, 108, 117]).extract d (d + 1)).size = 1 := by
    have : d = 0 ∨ d = 1 ∨ d = 2 ∨ d = 3 := by omega
    rcases this with rfl | rfl | rfl | rfl <;> decide +kernel
  rw [ByteArray.size_append, this]
theorem rdlu_at : ∀ (d : Nat) (_ : d < 4) (h : d < (ByteArray.mk #[114, 100, 108, 117]).size), (((ByteArray.mk #[114, 100, 108, 117])[d]'h).toNat : Int) = [(114 : Int), 100, 108, 117].getD d 0
  | 0, _, _ => rfl
  | 1, _, _ => rfl
  | 2, _, _ => rfl
  | 3, _, _ => rfl
  | n + 4, h, _ => absurd h (by omega)
theorem tmod4a : ∀ (d t : Nat), d < 4 → t < 6 → ((d : Int) + (t : Int)).tmod 4 = (((d + t) % 4 : Nat) : Int) := by
  intro d t hd ht
  have h : ((d : Int) + (t : Int)) = ((d + t : Nat) : Int) := by omega
  rw [h]
  rfl
theorem trC_cases (l : List Cl) (c : Cl) (d : Nat) : (edC l c.1 c.2 ((d + 3) % 4) = true ∧ trC l c d = (d + 3) % 4) ∨ (edC l c.1 c.2 ((d + 3) % 4) = false ∧ edC l c.1 c.2 ((d + 4) % 4) = true ∧ trC l c d = (d + 4) % 4) ∨
    (edC l c.1 c.2 ((d + 3) % 4) = false ∧ edC l c.1 c.2 ((d + 4) % 4) = false ∧ edC l c.1 c.2 ((d + 5) % 4) = true ∧ trC l c d = (d + 5) % 4) ∨
    (edC l c.1 c.2 ((d + 3) % 4) = false ∧ edC l c.1 c.2 ((d + 4) % 4) = false ∧ edC l c.1 c.2 ((d + 5) % 4) = false ∧ trC l c d = d) := by
  unfold trC
  cases h1 : edC l c.1 c.2 ((d + 3) % 4) with
  | true => exact .inl ⟨rfl, if_pos rfl⟩
  | false =>
    rw [if_neg (by simp)]
    cases h2 : edC l c.1 c.2 ((d + 4) % 4) with
    | true => exact .inr (.inl ⟨rfl, rfl, if_pos rfl⟩)
    | false =>
      rw [if_neg (by simp)]
      cases h3 : edC l c.1 c.2 ((d + 5) % 4) with
      | true => exact .inr (.inr (.inl ⟨rfl, rfl, rfl, if_pos rfl⟩))
      | false => exact .inr (.inr (.inr ⟨rfl, rfl, rfl, if_neg (by simp)⟩))

/-- A variable of a cell, in memory. -/
def PtAt (w : World) (b : Nat) (x y : Int) : Prop := w.heap[b]? = some (.cells #[.int .i64 x, .int .i64 y] 53 (0, 0))
theorem PtAt.c0 {w : World} {b : Nat} {x y : Int} (h : PtAt w b x y) : w.cell? ⟨b, 0, none⟩ = some (.int .i64 x) := cell_of_row w b 0 _ _ _ h
theorem PtAt.c1 {w : World} {b : Nat} {x y : Int} (h : PtAt w b x y) : w.cell? ⟨b, 1, none⟩ = some (.int .i64 y) := cell_of_row w b 1 _ _ _ h
theorem PtAt.f {w : World} {b : Nat} {x y : Int} (h : PtAt w b x y) (k : Nat) : w.frozen? ⟨b, k, none⟩ = false := frozen_of_row w b k _ _ h
theorem PtAt.lt {w : World} {b : Nat} {x y : Int} (h : PtAt w b x y) : b < w.heap.size := (Array.getElem?_eq_some_iff.1 h).1
theorem PtAt.below {w w' : World} {B b : Nat} {x y : Int} (h : PtAt w b x y) (hb : Below B w w') (hlt : b < B) : PtAt w' b x y := (hb.block b hlt).trans h
theorem PtAt.store {w : World} {b : Nat} {x y : Int} (h : PtAt w b x y) (u v : Int) : PtAt ((w.setCell ⟨b, 0, none⟩ (.int .i64 u)).setCell ⟨b, 1, none⟩ (.int .i64 v)) b u v := by
  unfold PtAt
  have h1 := heap_setCell_same w b 0 _ _ (.int .i64 u) h
  rw [heap_setCell_same _ b 1 _ _ _ h1]
  rfl

set_option maxHeartbeats 8000000 in
set_option maxRecDepth 100000 in
theorem sBound (B n cap : Nat) (a : Option Addr) (l : List Cl) (w : World) (hn : n ≤ 4194304) (hc : CellsAt B w a n l) (hB : B ≤ w.heap.size) :
    Calls Try.prog 36 #[.slice a n cap] w (GivesW w l) := by
  have H := Lib.hid hc
  have HLN := Lib.hid hc.1
  clear hc
  go_enter Try.func36, Try.ntmps36
  go_wp2_with fail
  refine (sConn B n cap a l w hn H.out hB).mono ?_
  rintro e w1 ⟨bb, rfl, hbi, hb1⟩
  have HBI := Lib.hid hbi
  have HB1 := Lib.hid hb1
  have hsz1 := hb1.size
  clear hbi hb1
  cases bb with
  | false =>
    have HR := Lib.hid (show GivesW w l (.returned (.tuple #[.string (ByteArray.mk #[]), .bool false])) w1 from ⟨_, _, rfl, fun h => (by cases h), HB1.out⟩)
    go_wp2
    go_ret2
    exact HR.out
  | true =>
    have HCN := Lib.hid (show Conn l from HBI.out.1 (by simp))
    clear HBI
    go_wp2_with fail
    refine (sHoles B n cap a l w1 hn (H.out.on (HB1.out.mono hB)) (by omega)).mono ?_
    rintro e w2 ⟨rfl, hb2⟩
    have HB2 := Lib.hid (HB1.out.trans (hb2.mono hsz1))
    clear hb2 HB1 hsz1
    have hsz2 := HB2.out.size
    obtain ⟨hz, hzz⟩ : ∃ hz, holesN l = hz := ⟨_, rfl⟩
    rw [show holP l = (hz : Int) from by rw [holP_yes HCN.out.1, hzz]]
    have HZ := Lib.hid hzz
    clear hzz
    by_cases h0 : hz = 0
    · subst h0
      have e0 : (((0 : Nat) : Int) != 0) = false := by decide
      go_wp2_with fail
      refine (sPin B n cap a l w2 hn (isShape_in HCN.out.1) (H.out.on (HB2.out.mono hB))).mono ?_
      rintro e w' ⟨rfl, rfl⟩
      cases hpin : pinC l with
      | true =>
        have HR := Lib.hid (show GivesW w l (.returned (.tuple #[.string (ByteArray.mk #[]), .bool false])) w2 from ⟨_, _, rfl, fun h => (by cases h), HB2.out⟩)
        go_wp2
        go_ret2
        exact HR.out
      | false =>
        have HRD := Lib.hid (round_ok HCN.out HZ.out hpin)
        have hln := HLN.out
        have hlen := ((isShape_iff l).1 HCN.out.1).1
        rw [hln] at hlen
        have hp18 : 4 * l.length - 2 * innI l l.length ≤ 32 := by omega
        obtain ⟨p, hp⟩ : ∃ p, 4 * l.length - 2 * innI l l.length = p := ⟨_, rfl⟩
        have hp0 : 0 < p := by
          have := perim ((isShape_iff l).1 HCN.out.1).2.2
          have := arTo_pos HCN.out.1 l.length (by omega)
          omega
        rw [hp] at HRD hp18
        have HPP := Lib.hid hp
        obtain ⟨b9, o9, rfl, hb9, hc9⟩ := (H.out.on (HB2.out.mono hB)).2.2 (by omega)
        obtain ⟨sx, sy, hsxy⟩ : ∃ x y, l.getD 0 (0, 0) = (x, y) := ⟨_, _, rfl⟩
        have HS0 := Lib.hid hsxy
        have z1 := (hc9 0 (by omega)).1
        have z2 := (hc9 0 (by omega)).2
        rw [hsxy] at z1 z2
        simp only [Nat.zero_mul, Nat.add_zero] at z1 z2
        have hn0 : (0 : Int) < (n : Int) := by omega
        clear hpin hln hp hc9 hsxy
        have hbA : Below w2.heap.size w2 (w2.alloc (.cells #[.int .i64 sx, .int .i64 sy] 53)) := (Below.refl _ _).alloc (Nat.le_refl _) _
        have HP0 := Lib.hid (show PtAt (w2.alloc (.cells #[.int .i64 sx, .int .i64 sy] 53)) w2.heap.size sx sy from heap_alloc_new _ _)
        have HW0 := Lib.hid hbA
        clear hbA
        go_wp2
        go_loopw [4, 6, 7] (fun vs vd i wr => ∃ (k d : Nat) (x y : Int) (s : ByteArray), k ≤ p ∧ i = .int .i64 k ∧ vd = .int .i64 d ∧ d < 4 ∧ vs = .string s ∧ Hid (s.size = k) ∧ Hid (trAt l k = ((x, y), d)) ∧ Hid (PtAt wr w2.heap.size x y) ∧ Hid (Below w2.heap.size w2 wr)) (fun _ _ i _ => p - (intOf i).toNat)
        case atStart => exact ⟨0, 0, sx, sy, _, by omega, rfl, rfl, by omega, rfl, rfl, by rw [show trAt l 0 = (l.getD 0 (0, 0), 0) from rfl, HS0.out]; rfl, HP0.out, HW0.out⟩
        case round =>
          obtain ⟨k, d, x, y, s, hk, rfl, rfl, hd, rfl, hss, htr, hpt, hw⟩ := hrel
          clear HP0 HW0
          have hd0 : (0 : Int) ≤ (d : Int) := by omega
          have hd1 : (d : Int) < 4 := by omega
          have hd2 : (d : Int) + 1 ≤ 4 := by omega
          have hk0 : (0 : Int) ≤ (k : Int) := by omega
          have q1 := hpt.out.c0
          have q2 := hpt.out.c1
          have hbx : b9 < w2.heap.size := by omega
          have y1 := (hw.out.cell (p := ⟨b9, o9, none⟩) hbx).trans z1
          have y2 := (hw.out.cell (p := ⟨b9, o9 + 1, none⟩) hbx).trans z2
          have hs40 : s.size ≤ 40 := by have := hss.out; omega
          have hcat : ¬ (9223372036854775807 < s.size + (min (d + 1) 4 - d)) := by omega
          have hbd := trAt_bd HCN.out.1 k
          rw [htr.out] at hbd
          dsimp only at hbd
          have hxb' : -1000 ≤ x ∧ x ≤ 1000 := by omega
          have hyb' : -1000 ≤ y ∧ y ≤ 1000 := by omega
          clear hbd
          have hN0 := Lib.hid (neq_cell x y sx sy)
          have hG := cell_guard
          have hsd : sameC (x, y) (sx, sy) = decide ((x, y) = (sx, sy)) := by simp [sameC]
          have m3 : IntKind.i64.wrap ((d : Int) + 3) = (d : Int) + 3 := IntWalk.i64_in _ (by omega)
          have m4 : IntKind.i64.wrap ((d : Int) + 4) = (d : Int) + 4 := IntWalk.i64_in _ (by omega)
          have m5 : IntKind.i64.wrap ((d : Int) + 5) = (d : Int) + 5 := IntWalk.i64_in _ (by omega)
          obtain ⟨z3, hz3⟩ : ∃ z, (d + 3) % 4 = z := ⟨_, rfl⟩
          have HZ3 := Lib.hid hz3
          have n3 : ((d : Int) + 3).tmod 4 = (z3 : Int) := by rw [← hz3]; exact tmod4a d 3 hd (by omega)
          have hj3 : z3 < 4 := by rw [← hz3]; exact Nat.mod_lt _ (by omega)
          clear hz3
          obtain ⟨z4, hz4⟩ : ∃ z, (d + 4) % 4 = z := ⟨_, rfl⟩
          have HZ4 := Lib.hid hz4
          have n4 : ((d : Int) + 4).tmod 4 = (z4 : Int) := by rw [← hz4]; exact tmod4a d 4 hd (by omega)
          have hj4 : z4 < 4 := by rw [← hz4]; exact Nat.mod_lt _ (by omega)
          clear hz4
          obtain ⟨z5, hz5⟩ : ∃ z, (d + 5) % 4 = z := ⟨_, rfl⟩
          have HZ5 := Lib.hid hz5
          have n5 : ((d : Int) + 5).tmod 4 = (z5 : Int) := by rw [← hz5]; exact tmod4a d 5 hd (by omega)
          have hj5 : z5 < 4 := by rw [← hz5]; exact Nat.mod_lt _ (by omega)
          clear hz5
          by_cases hend : k = p
          · subst hend
            have hfin := HRD.out.1
            rw [htr.out, HS0.out] at hfin
            injection hfin with h1 h2
            injection h1 with h3 h4
            subst h2 h3 h4
            have e1 : ((k : Int) == 0) = false := by rw [beq_eq_false_iff_ne]; omega
            have e3 : (((0 : Nat) : Int) != 0) = false := by decide
            have hN : ∀ w, (binOp .neq 53 (.agg #[.int .i64 x, .int .i64 y]) (.agg #[.int .i64 x, .int .i64 y])).run Try.prog w = .ok (.bool false) w := fun w => by rw [hN0.out]; simp [sameC]
            have HR := Lib.hid (fun (nq : Nat) => show GivesW w l (.returned (.tuple #[.string s, .bool true])) (wr.drewN nq) from ⟨_, _, rfl, fun _ => ⟨HCN.out.1, by rw [hss.out, HPP.out]⟩, HB2.out.trans ((below_drewn hw.out nq).mono hsz2)⟩)
            go_wp2_with fail
            go_quiet (fail)
            go_wp2
            go_ret2
            exact HR.out _
          · have hkp : k < p := by omega
            have hcond : k = 0 ∨ (k ≠ 0 ∧ sameC (x, y) (sx, sy) = false) ∨ (k ≠ 0 ∧ sameC (x, y) (sx, sy) = true ∧ d ≠ 0) := by
              by_cases hk9 : k = 0
              · exact .inl hk9
              · cases hs9 : sameC (x, y) (sx, sy) with
                | false => exact .inr (.inl ⟨hk9, rfl⟩)
                | true =>
                  refine .inr (.inr ⟨hk9, rfl, fun hd9 => ?_⟩)
                  rw [hsd, decide_eq_true_eq] at hs9
                  refine HRD.out.2 k (by omega) hkp ?_
                  rw [htr.out, HS0.out, hs9, hd9]
            rcases hcond with hk9 | ⟨hk9, hs9⟩ | ⟨hk9, hs9, hd9⟩
            · have e1 : ((k : Int) == 0) = true := by simp [hk9]
              clear hk9
              go_wp2_with fail
              go_quiet (fail)
              go_wp2_with fail
              have HPW := Lib.hid (show PtAt (wr.drewN nq) w2.heap.size x y from hpt.out)
              have HWW := Lib.hid (below_drewn hw.out nq)
              have HS2 := Lib.hid (rdlu_one s d hd)
              have t1 := HPW.out.c0
              have t2 := HPW.out.c1
              have hxlt := HPW.out.lt
              clear q1 q2 y1 y2 hpt hw hG hsd
              generalize wr.drewN nq = W at *
              generalize s ++ (ByteArray.mk #[114, 100, 108, 117]).extract d (d + 1) = s2 at *
              generalize (ByteArray.mk #[114, 100, 108, 117]).extract d (d + 1) = s1 at *
              obtain ⟨u, v, huv⟩ : ∃ u v, nbC (x, y) d = (u, v) := ⟨_, _, rfl⟩
              have HUV := Lib.hid huv
              have hstp : ∀ (b : Int), b = [(114 : Int), 100, 108, 117].getD d 0 → ∀ w, Calls Try.prog 78 #[.agg #[.int .i64 x, .int .i64 y], .int .u8 b] w fun e w' => e = .returned (.tuple #[.agg #[.int .i64 u, .int .i64 v], .bool true]) ∧ Below w.heap.size w w' := fun b hb w => by have h9 := sStep x y w hxb' hyb' d hd b hb; rw [huv] at h9; exact h9
              have hub : (-1000 ≤ u ∧ u ≤ 1000) ∧ -1000 ≤ v ∧ v ≤ 1000 := by
                have h9 := trAt_bd HCN.out.1 (k + 1)
                have h8 : (trAt l (k + 1)).1 = (u, v) := by rw [trAt, htr.out]; exact huv
                rw [h8] at h9
                dsimp only at h9
                omega
              clear huv
              go_region_with (go_at_call 78; refine (hstp _ (rdlu_at d hd _) _).mono ?_; rintro e w' ⟨rfl, hbe⟩; have hpt' : PtAt w' w2.heap.size x y := (hbe.block w2.heap.size hxlt).trans HPW.out; have r0 := hpt'.c0; have r1 := hpt'.c1; have f0 := hpt'.f 0; have f1 := hpt'.f 1)
              all_goals
                have HP9 := Lib.hid (hpt'.store u v)
                have HW9 := Lib.hid (((HWW.out.drew.trans (hbe.mono (by show w2.heap.size ≤ W.heap.size; omega))).setCell (p := ⟨w2.heap.size, 0, none⟩) (Nat.le_refl _) (.int .i64 u)).setCell (p := ⟨w2.heap.size, 1, none⟩) (Nat.le_refl _) (.int .i64 v))
                clear r0 r1 f0 f1 t1 t2 hstp
                generalize ((w'.setCell ⟨w2.heap.size, 0, none⟩ (.int .i64 u)).setCell ⟨w2.heap.size, 1, none⟩ (.int .i64 v)) = W9 at *
                clear hpt' hbe HPW HWW hxlt
                have hxl : w2.heap.size < W9.heap.size := HP9.out.lt
                have g1 := HP9.out.c0
                have g2 := HP9.out.c1
                have hEd : ∀ (j : Nat) (b : Bool), j < 4 → edC l u v j = b → ∀ w', Below W9.heap.size W9 w' → Calls Try.prog 79 #[.slice (some ⟨b9, o9, none⟩) n cap, .agg #[.int .i64 u, .int .i64 v], .int .i64 j] w' fun e w'' => e = .returned (.bool b) ∧ Below W9.heap.size W9 w'' := fun j b hj hb w' hw' => by
                  subst hb
                  have hwb := HW9.out.trans (hw'.mono (by omega))
                  refine (sEdge B n cap _ l u v w' hn (H.out.on ((HB2.out.trans (hwb.mono hsz2)).mono hB)) (by have := hwb.size; omega) hub.1 hub.2 j hj).mono ?_
                  rintro e w'' ⟨rfl, hb⟩
                  exact ⟨rfl, hw'.trans (hb.mono hw'.size)⟩
                have HSS := Lib.hid (show s2.size = k + 1 from by rw [HS2.out, hss.out])
                have HTR : Hid (trAt l (k + 1) = ((u, v), trC l (u, v) d)) := by
                  rw [trAt, htr.out]
                  dsimp only
                  rw [HUV.out]
                  rfl
                have hkw : IntKind.i64.wrap ((k : Int) + 1) = (k : Int) + 1 := IntWalk.i64_in _ (by omega)
                have htc := trC_cases l (u, v) d
                rw [HZ3.out, HZ4.out, HZ5.out] at htc
                rcases htc with ⟨c3, ct⟩ | ⟨c3, c4, ct⟩ | ⟨c3, c4, c5, ct⟩ | ⟨c3, c4, c5, ct⟩
                · rw [ct] at HTR
                  have hE3 := hEd _ _ hj3 c3
                  clear c3 ct hEd
                  go_wp2
                  refine wp_loop_rounds 1 ?_
                  rw [rounds_succ]
                  go_wp2_with fail
                  refine (hE3 W9 (Below.refl _ _)).mono ?_
                  rintro e w7 ⟨rfl, hbw7⟩
                  have HPF := Lib.hid (HP9.out.below hbw7 hxl)
                  have HWF := Lib.hid (HW9.out.trans (hbw7.mono (by omega)))
                  go_wp2
                  go_roundw
                  case rel => first
                    | exact ⟨k + 1, z3, u, v, s2, by omega, by go_num, rfl, by omega, rfl, HSS.out, HTR.out, HPF.out, HWF.out⟩
                    | (repeat apply Exists.intro
                       exact ⟨⟨k + 1, z3, u, v, s2, by omega, by go_num, rfl, by omega, rfl, HSS.out, HTR.out, HPF.out, HWF.out⟩, rfl⟩)
                  case measure => simp [intOf]; omega
                · rw [ct] at HTR
                  have hE3 := hEd _ _ hj3 c3
                  have hE4 := hEd _ _ hj4 c4
                  clear c3 c4 ct hEd
                  go_wp2
                  refine wp_loop_rounds 2 ?_
                  rw [rounds_succ]
                  go_wp2_with fail
                  refine (hE3 W9 (Below.refl _ _)).mono ?_
                  rintro e w7 ⟨rfl, hbw7⟩
                  have g1w7 := (hbw7.cell (p := ⟨w2.heap.size, 0, none⟩) hxl).trans g1
                  have g2w7 := (hbw7.cell (p := ⟨w2.heap.size, 1, none⟩) hxl).trans g2
                  go_wp2_with fail
                  rw [rounds_succ]
                  go_wp2_with fail
                  refine (hE4 w7 hbw7).mono ?_
                  rintro e w8 ⟨rfl, hbw8⟩
                  have HPF := Lib.hid (HP9.out.below hbw8 hxl)
                  have HWF := Lib.hid (HW9.out.trans (hbw8.mono (by omega)))
                  go_wp2
                  go_roundw
                  case rel => first
                    | exact ⟨k + 1, z4, u, v, s2, by omega, by go_num, rfl, by omega, rfl, HSS.out, HTR.out, HPF.out, HWF.out⟩
                    | (repeat apply Exists.intro
                       exact ⟨⟨k + 1, z4, u, v, s2, by omega, by go_num, rfl, by omega, rfl, HSS.out, HTR.out, HPF.out, HWF.out⟩, rfl⟩)
                  case measure => simp [intOf]; omega
                · rw [ct] at HTR
                  have hE3 := hEd _ _ hj3 c3
                  have hE4 := hEd _ _ hj4 c4
                  have hE5 := hEd _ _ hj5 c5
                  clear c3 c4 c5 ct hEd
                  go_wp2
                  refine wp_loop_rounds 3 ?_
                  rw [rounds_succ]
                  go_wp2_with fail
                  refine (hE3 W9 (Below.refl _ _)).mono ?_
                  rintro e w7 ⟨rfl, hbw7⟩
                  have g1w7 := (hbw7.cell (p := ⟨w2.heap.size, 0, none⟩) hxl).trans g1
                  have g2w7 := (hbw7.cell (p := ⟨w2.heap.size, 1, none⟩) hxl).trans g2
                  go_wp2_with fail
                  rw [rounds_succ]
                  go_wp2_with fail
                  refine (hE4 w7 hbw7).mono ?_
                  rintro e w8 ⟨rfl, hbw8⟩
                  have g1w8 := (hbw8.cell (p := ⟨w2.heap.size, 0, none⟩) hxl).trans g1
                  have g2w8 := (hbw8.cell (p := ⟨w2.heap.size, 1, none⟩) hxl).trans g2
                  go_wp2_with fail
                  rw [rounds_succ]
                  go_wp2_with fail
                  refine (hE5 w8 hbw8).mono ?_
                  rintro e wa ⟨rfl, hbwa⟩
                  have HPF := Lib.hid (HP9.out.below hbwa hxl)
                  have HWF := Lib.hid (HW9.out.trans (hbwa.mono (by omega)))
                  go_wp2
                  go_roundw
                  case rel => first
                    | exact ⟨k + 1, z5, u, v, s2, by omega, by go_num, rfl, by omega, rfl, HSS.out, HTR.out, HPF.out, HWF.out⟩
                    | (repeat apply Exists.intro
                       exact ⟨⟨k + 1, z5, u, v, s2, by omega, by go_num, rfl, by omega, rfl, HSS.out, HTR.out, HPF.out, HWF.out⟩, rfl⟩)
                  case measure => simp [intOf]; omega
                · rw [ct] at HTR
                  have hE3 := hEd _ _ hj3 c3
                  have hE4 := hEd _ _ hj4 c4
                  have hE5 := hEd _ _ hj5 c5
                  clear c3 c4 c5 ct hEd
                  go_wp2
                  refine wp_loop_rounds 4 ?_
                  rw [rounds_succ]
                  go_wp2_with fail
                  refine (hE3 W9 (Below.refl _ _)).mono ?_
                  rintro e w7 ⟨rfl, hbw7⟩
                  have g1w7 := (hbw7.cell (p := ⟨w2.heap.size, 0, none⟩) hxl).trans g1
                  have g2w7 := (hbw7.cell (p := ⟨w2.heap.size, 1, none⟩) hxl).trans g2
                  go_wp2_with fail
                  rw [rounds_succ]
                  go_wp2_with fail
                  refine (hE4 w7 hbw7).mono ?_
                  rintro e w8 ⟨rfl, hbw8⟩
                  have g1w8 := (hbw8.cell (p := ⟨w2.heap.size, 0, none⟩) hxl).trans g1
                  have g2w8 := (hbw8.cell (p := ⟨w2.heap.size, 1, none⟩) hxl).trans g2
                  go_wp2_with fail
                  rw [rounds_succ]
                  go_wp2_with fail
                  refine (hE5 w8 hbw8).mono ?_
                  rintro e wa ⟨rfl, hbwa⟩
                  have g1wa := (hbwa.cell (p := ⟨w2.heap.size, 0, none⟩) hxl).trans g1
                  have g2wa := (hbwa.cell (p := ⟨w2.heap.size, 1, none⟩) hxl).trans g2
                  go_wp2_with fail
                  rw [rounds_succ]
                  have HPF := Lib.hid (HP9.out.below hbwa hxl)
                  have HWF := Lib.hid (HW9.out.trans (hbwa.mono (by omega)))
                  go_wp2
                  go_roundw
                  case rel => first
                    | exact ⟨k + 1, d, u, v, s2, by omega, by go_num, rfl, by omega, rfl, HSS.out, HTR.out, HPF.out, HWF.out⟩
                    | (repeat apply Exists.intro
                       exact ⟨⟨k + 1, d, u, v, s2, by omega, by go_num, rfl, by omega, rfl, HSS.out, HTR.out, HPF.out, HWF.out⟩, rfl⟩)
                  case measure => simp [intOf]; omega
            · have e1 : ((k : Int) == 0) = false := by rw [beq_eq_false_iff_ne]; omega
              have hN : ∀ w, (binOp .neq 53 (.agg #[.int .i64 x, .int .i64 y]) (.agg #[.int .i64 sx, .int .i64 sy])).run Try.prog w = .ok (.bool true) w := fun w => by rw [hN0.out, hs9]; rfl
              clear hs9
              go_wp2_with fail
              go_quiet (fail)
              clear hN
              go_wp2_with fail
              have HPW := Lib.hid (show PtAt (wr.drewN nq) w2.heap.size x y from hpt.out)
              have HWW := Lib.hid (below_drewn hw.out nq)
              have HS2 := Lib.hid (rdlu_one s d hd)
              have t1 := HPW.out.c0
              have t2 := HPW.out.c1
              have hxlt := HPW.out.lt
              clear q1 q2 y1 y2 hpt hw hG hsd
              generalize wr.drewN nq = W at *
              generalize s ++ (ByteArray.mk #[114, 100, 108, 117]).extract d (d + 1) = s2 at *
              generalize (ByteArray.mk #[114, 100, 108, 117]).extract d (d + 1) = s1 at *
              obtain ⟨u, v, huv⟩ : ∃ u v, nbC (x, y) d = (u, v) := ⟨_, _, rfl⟩
              have HUV := Lib.hid huv
              have hstp : ∀ (b : Int), b = [(114 : Int), 100, 108, 117].getD d 0 → ∀ w, Calls Try.prog 78 #[.agg #[.int .i64 x, .int .i64 y], .int .u8 b] w fun e w' => e = .returned (.tuple #[.agg #[.int .i64 u, .int .i64 v], .bool true]) ∧ Below w.heap.size w w' := fun b hb w => by have h9 := sStep x y w hxb' hyb' d hd b hb; rw [huv] at h9; exact h9
              have hub : (-1000 ≤ u ∧ u ≤ 1000) ∧ -1000 ≤ v ∧ v ≤ 1000 := by
                have h9 := trAt_bd HCN.out.1 (k + 1)
                have h8 : (trAt l (k + 1)).1 = (u, v) := by rw [trAt, htr.out]; exact huv
                rw [h8] at h9
                dsimp only at h9
                omega
              clear huv
              go_region_with (go_at_call 78; refine (hstp _ (rdlu_at d hd _) _).mono ?_; rintro e w' ⟨rfl, hbe⟩; have hpt' : PtAt w' w2.heap.size x y := (hbe.block w2.heap.size hxlt).trans HPW.out; have r0 := hpt'.c0; have r1 := hpt'.c1; have f0 := hpt'.f 0; have f1 := hpt'.f 1)
              all_goals
                have HP9 := Lib.hid (hpt'.store u v)
                have HW9 := Lib.hid (((HWW.out.drew.trans (hbe.mono (by show w2.heap.size ≤ W.heap.size; omega))).setCell (p := ⟨w2.heap.size, 0, none⟩) (Nat.le_refl _) (.int .i64 u)).setCell (p := ⟨w2.heap.size, 1, none⟩) (Nat.le_refl _) (.int .i64 v))
                clear r0 r1 f0 f1 t1 t2 hstp
                generalize ((w'.setCell ⟨w2.heap.size, 0, none⟩ (.int .i64 u)).setCell ⟨w2.heap.size, 1, none⟩ (.int .i64 v)) = W9 at *
                clear hpt' hbe HPW HWW hxlt
                have hxl : w2.heap.size < W9.heap.size := HP9.out.lt
                have g1 := HP9.out.c0
                have g2 := HP9.out.c1
                have hEd : ∀ (j : Nat) (b : Bool), j < 4 → edC l u v j = b → ∀ w', Below W9.heap.size W9 w' → Calls Try.prog 79 #[.slice (some ⟨b9, o9, none⟩) n cap, .agg #[.int .i64 u, .int .i64 v], .int .i64 j] w' fun e w'' => e = .returned (.bool b) ∧ Below W9.heap.size W9 w'' := fun j b hj hb w' hw' => by
                  subst hb
                  have hwb := HW9.out.trans (hw'.mono (by omega))
                  refine (sEdge B n cap _ l u v w' hn (H.out.on ((HB2.out.trans (hwb.mono hsz2)).mono hB)) (by have := hwb.size; omega) hub.1 hub.2 j hj).mono ?_
                  rintro e w'' ⟨rfl, hb⟩
                  exact ⟨rfl, hw'.trans (hb.mono hw'.size)⟩
                have HSS := Lib.hid (show s2.size = k + 1 from by rw [HS2.out, hss.out])
                have HTR : Hid (trAt l (k + 1) = ((u, v), trC l (u, v) d)) := by
                  rw [trAt, htr.out]
                  dsimp only
                  rw [HUV.out]
                  rfl
                have hkw : IntKind.i64.wrap ((k : Int) + 1) = (k : Int) + 1 := IntWalk.i64_in _ (by omega)
                have htc := trC_cases l (u, v) d
                rw [HZ3.out, HZ4.out, HZ5.out] at htc
                rcases htc with ⟨c3, ct⟩ | ⟨c3, c4, ct⟩ | ⟨c3, c4, c5, ct⟩ | ⟨c3, c4, c5, ct⟩
                · rw [ct] at HTR
                  have hE3 := hEd _ _ hj3 c3
                  clear c3 ct hEd
                  go_wp2
                  refine wp_loop_rounds 1 ?_
                  rw [rounds_succ]
                  go_wp2_with fail
                  refine (hE3 W9 (Below.refl _ _)).mono ?_
                  rintro e w7 ⟨rfl, hbw7⟩
                  have HPF := Lib.hid (HP9.out.below hbw7 hxl)
                  have HWF := Lib.hid (HW9.out.trans (hbw7.mono (by omega)))
                  go_wp2
                  go_roundw
                  case rel => first
                    | exact ⟨k + 1, z3, u, v, s2, by omega, by go_num, rfl, by omega, rfl, HSS.out, HTR.out, HPF.out, HWF.out⟩
                    | (repeat apply Exists.intro
                       exact ⟨⟨k + 1, z3, u, v, s2, by omega, by go_num, rfl, by omega, rfl, HSS.out, HTR.out, HPF.out, HWF.out⟩, rfl⟩)
                  case measure => simp [intOf]; omega
                · rw [ct] at HTR
                  have hE3 := hEd _ _ hj3 c3
                  have hE4 := hEd _ _ hj4 c4
                  clear c3 c4 ct hEd
                  go_wp2
                  refine wp_loop_rounds 2 ?_
                  rw [rounds_succ]
                  go_wp2_with fail
                  refine (hE3 W9 (Below.refl _ _)).mono ?_
                  rintro e w7 ⟨rfl, hbw7⟩
                  have g1w7 := (hbw7.cell (p := ⟨w2.heap.size, 0, none⟩) hxl).trans g1
                  have g2w7 := (hbw7.cell (p := ⟨w2.heap.size, 1, none⟩) hxl).trans g2
                  go_wp2_with fail
                  rw [rounds_succ]
                  go_wp2_with fail
                  refine (hE4 w7 hbw7).mono ?_
                  rintro e w8 ⟨rfl, hbw8⟩
                  have HPF := Lib.hid (HP9.out.below hbw8 hxl)
                  have HWF := Lib.hid (HW9.out.trans (hbw8.mono (by omega)))
                  go_wp2
                  go_roundw
                  case rel => first
                    | exact ⟨k + 1, z4, u, v, s2, by omega, by go_num, rfl, by omega, rfl, HSS.out, HTR.out, HPF.out, HWF.out⟩
                    | (repeat apply Exists.intro
                       exact ⟨⟨k + 1, z4, u, v, s2, by omega, by go_num, rfl, by omega, rfl, HSS.out, HTR.out, HPF.out, HWF.out⟩, rfl⟩)
                  case measure => simp [intOf]; omega
                · rw [ct] at HTR
                  have hE3 := hEd _ _ hj3 c3
                  have hE4 := hEd _ _ hj4 c4
                  have hE5 := hEd _ _ hj5 c5
                  clear c3 c4 c5 ct hEd
                  go_wp2
                  refine wp_loop_rounds 3 ?_
                  rw [rounds_succ]
                  go_wp2_with fail
                  refine (hE3 W9 (Below.refl _ _)).mono ?_
                  rintro e w7 ⟨rfl, hbw7⟩
                  have g1w7 := (hbw7.cell (p := ⟨w2.heap.size, 0, none⟩) hxl).trans g1
                  have g2w7 := (hbw7.cell (p := ⟨w2.heap.size, 1, none⟩) hxl).trans g2
                  go_wp2_with fail
                  rw [rounds_succ]
                  go_wp2_with fail
                  refine (hE4 w7 hbw7).mono ?_
                  rintro e w8 ⟨rfl, hbw8⟩
                  have g1w8 := (hbw8.cell (p := ⟨w2.heap.size, 0, none⟩) hxl).trans g1
                  have g2w8 := (hbw8.cell (p := ⟨w2.heap.size, 1, none⟩) hxl).trans g2
                  go_wp2_with fail
                  rw [rounds_succ]
                  go_wp2_with fail
                  refine (hE5 w8 hbw8).mono ?_
                  rintro e wa ⟨rfl, hbwa⟩
                  have HPF := Lib.hid (HP9.out.below hbwa hxl)
                  have HWF := Lib.hid (HW9.out.trans (hbwa.mono (by omega)))
                  go_wp2
                  go_roundw
                  case rel => first
                    | exact ⟨k + 1, z5, u, v, s2, by omega, by go_num, rfl, by omega, rfl, HSS.out, HTR.out, HPF.out, HWF.out⟩
                    | (repeat apply Exists.intro
                       exact ⟨⟨k + 1, z5, u, v, s2, by omega, by go_num, rfl, by omega, rfl, HSS.out, HTR.out, HPF.out, HWF.out⟩, rfl⟩)
                  case measure => simp [intOf]; omega
                · rw [ct] at HTR
                  have hE3 := hEd _ _ hj3 c3
                  have hE4 := hEd _ _ hj4 c4
                  have hE5 := hEd _ _ hj5 c5
                  clear c3 c4 c5 ct hEd
                  go_wp2
                  refine wp_loop_rounds 4 ?_
                  rw [rounds_succ]
                  go_wp2_with fail
                  refine (hE3 W9 (Below.refl _ _)).mono ?_
                  rintro e w7 ⟨rfl, hbw7⟩
                  have g1w7 := (hbw7.cell (p := ⟨w2.heap.size, 0, none⟩) hxl).trans g1
                  have g2w7 := (hbw7.cell (p := ⟨w2.heap.size, 1, none⟩) hxl).trans g2
                  go_wp2_with fail
                  rw [rounds_succ]
                  go_wp2_with fail
                  refine (hE4 w7 hbw7).mono ?_
                  rintro e w8 ⟨rfl, hbw8⟩
                  have g1w8 := (hbw8.cell (p := ⟨w2.heap.size, 0, none⟩) hxl).trans g1
                  have g2w8 := (hbw8.cell (p := ⟨w2.heap.size, 1, none⟩) hxl).trans g2
                  go_wp2_with fail
                  rw [rounds_succ]
                  go_wp2_with fail
                  refine (hE5 w8 hbw8).mono ?_
                  rintro e wa ⟨rfl, hbwa⟩
                  have g1wa := (hbwa.cell (p := ⟨w2.heap.size, 0, none⟩) hxl).trans g1
                  have g2wa := (hbwa.cell (p := ⟨w2.heap.size, 1, none⟩) hxl).trans g2
                  go_wp2_with fail
                  rw [rounds_succ]
                  have HPF := Lib.hid (HP9.out.below hbwa hxl)
                  have HWF := Lib.hid (HW9.out.trans (hbwa.mono (by omega)))
                  go_wp2
                  go_roundw
                  case rel => first
                    | exact ⟨k + 1, d, u, v, s2, by omega, by go_num, rfl, by omega, rfl, HSS.out, HTR.out, HPF.out, HWF.out⟩
                    | (repeat apply Exists.intro
                       exact ⟨⟨k + 1, d, u, v, s2, by omega, by go_num, rfl, by omega, rfl, HSS.out, HTR.out, HPF.out, HWF.out⟩, rfl⟩)
                  case measure => simp [intOf]; omega
            · have e1 : ((k : Int) == 0) = false := by rw [beq_eq_false_iff_ne]; omega
              have e3 : ((d : Int) != 0) = true := by rw [bne_iff_ne]; omega
              have hN : ∀ w, (binOp .neq 53 (.agg #[.int .i64 x, .int .i64 y]) (.agg #[.int .i64 sx, .int .i64 sy])).run Try.prog w = .ok (.bool false) w := fun w => by rw [hN0.out, hs9]; rfl
              clear hs9
              go_wp2_with fail
              go_quiet (fail)
              clear hN e3
              go_wp2_with fail
              have HPW := Lib.hid (show PtAt (wr.drewN nq) w2.heap.size x y from hpt.out)
              have HWW := Lib.hid (below_drewn hw.out nq)
              have HS2 := Lib.hid (rdlu_one s d hd)
              have t1 := HPW.out.c0
              have t2 := HPW.out.c1
              have hxlt := HPW.out.lt
              clear q1 q2 y1 y2 hpt hw hG hsd
              generalize wr.drewN nq = W at *
              generalize s ++ (ByteArray.mk #[114, 100, 108, 117]).extract d (d + 1) = s2 at *
              generalize (ByteArray.mk #[114, 100, 108, 117]).extract d (d + 1) = s1 at *
              obtain ⟨u, v, huv⟩ : ∃ u v, nbC (x, y) d = (u, v) := ⟨_, _, rfl⟩
              have HUV := Lib.hid huv
              have hstp : ∀ (b : Int), b = [(114 : Int), 100, 108, 117].getD d 0 → ∀ w, Calls Try.prog 78 #[.agg #[.int .i64 x, .int .i64 y], .int .u8 b] w fun e w' => e = .returned (.tuple #[.agg #[.int .i64 u, .int .i64 v], .bool true]) ∧ Below w.heap.size w w' := fun b hb w => by have h9 := sStep x y w hxb' hyb' d hd b hb; rw [huv] at h9; exact h9
              have hub : (-1000 ≤ u ∧ u ≤ 1000) ∧ -1000 ≤ v ∧ v ≤ 1000 := by
                have h9 := trAt_bd HCN.out.1 (k + 1)
                have h8 : (trAt l (k + 1)).1 = (u, v) := by rw [trAt, htr.out]; exact huv
                rw [h8] at h9
                dsimp only at h9
                omega
              clear huv
              go_region_with (go_at_call 78; refine (hstp _ (rdlu_at d hd _) _).mono ?_; rintro e w' ⟨rfl, hbe⟩; have hpt' : PtAt w' w2.heap.size x y := (hbe.block w2.heap.size hxlt).trans HPW.out; have r0 := hpt'.c0; have r1 := hpt'.c1; have f0 := hpt'.f 0; have f1 := hpt'.f 1)
              all_goals
                have HP9 := Lib.hid (hpt'.store u v)
                have HW9 := Lib.hid (((HWW.out.drew.trans (hbe.mono (by show w2.heap.size ≤ W.heap.size; omega))).setCell (p := ⟨w2.heap.size, 0, none⟩) (Nat.le_refl _) (.int .i64 u)).setCell (p := ⟨w2.heap.size, 1, none⟩) (Nat.le_refl _) (.int .i64 v))
                clear r0 r1 f0 f1 t1 t2 hstp
                generalize ((w'.setCell ⟨w2.heap.size, 0, none⟩ (.int .i64 u)).setCell ⟨w2.heap.size, 1, none⟩ (.int .i64 v)) = W9 at *
                clear hpt' hbe HPW HWW hxlt
                have hxl : w2.heap.size < W9.heap.size := HP9.out.lt
                have g1 := HP9.out.c0
                have g2 := HP9.out.c1
                have hEd : ∀ (j : Nat) (b : Bool), j < 4 → edC l u v j = b → ∀ w', Below W9.heap.size W9 w' → Calls Try.prog 79 #[.slice (some ⟨b9, o9, none⟩) n cap, .agg #[.int .i64 u, .int .i64 v], .int .i64 j] w' fun e w'' => e = .returned (.bool b) ∧ Below W9.heap.size W9 w'' := fun j b hj hb w' hw' => by
                  subst hb
                  have hwb := HW9.out.trans (hw'.mono (by omega))
                  refine (sEdge B n cap _ l u v w' hn (H.out.on ((HB2.out.trans (hwb.mono hsz2)).mono hB)) (by have := hwb.size; omega) hub.1 hub.2 j hj).mono ?_
                  rintro e w'' ⟨rfl, hb⟩
                  exact ⟨rfl, hw'.trans (hb.mono hw'.size)⟩
                have HSS := Lib.hid (show s2.size = k + 1 from by rw [HS2.out, hss.out])
                have HTR : Hid (trAt l (k + 1) = ((u, v), trC l (u, v) d)) := by
                  rw [trAt, htr.out]
                  dsimp only
                  rw [HUV.out]
                  rfl
                have hkw : IntKind.i64.wrap ((k : Int) + 1) = (k : Int) + 1 := IntWalk.i64_in _ (by omega)
                have htc := trC_cases l (u, v) d
                rw [HZ3.out, HZ4.out, HZ5.out] at htc
                rcases htc with ⟨c3, ct⟩ | ⟨c3, c4, ct⟩ | ⟨c3, c4, c5, ct⟩ | ⟨c3, c4, c5, ct⟩
                · rw [ct] at HTR
                  have hE3 := hEd _ _ hj3 c3
                  clear c3 ct hEd
                  go_wp2
                  refine wp_loop_rounds 1 ?_
                  rw [rounds_succ]
                  go_wp2_with fail
                  refine (hE3 W9 (Below.refl _ _)).mono ?_
                  rintro e w7 ⟨rfl, hbw7⟩
                  have HPF := Lib.hid (HP9.out.below hbw7 hxl)
                  have HWF := Lib.hid (HW9.out.trans (hbw7.mono (by omega)))
                  go_wp2
                  go_roundw
                  case rel => first
                    | exact ⟨k + 1, z3, u, v, s2, by omega, by go_num, rfl, by omega, rfl, HSS.out, HTR.out, HPF.out, HWF.out⟩
                    | (repeat apply Exists.intro
                       exact ⟨⟨k + 1, z3, u, v, s2, by omega, by go_num, rfl, by omega, rfl, HSS.out, HTR.out, HPF.out, HWF.out⟩, rfl⟩)
                  case measure => simp [intOf]; omega
                · rw [ct] at HTR
                  have hE3 := hEd _ _ hj3 c3
                  have hE4 := hEd _ _ hj4 c4
                  clear c3 c4 ct hEd
                  go_wp2
                  refine wp_loop_rounds 2 ?_
                  rw [rounds_succ]
                  go_wp2_with fail
                  refine (hE3 W9 (Below.refl _ _)).mono ?_
                  rintro e w7 ⟨rfl, hbw7⟩
                  have g1w7 := (hbw7.cell (p := ⟨w2.heap.size, 0, none⟩) hxl).trans g1
                  have g2w7 := (hbw7.cell (p := ⟨w2.heap.size, 1, none⟩) hxl).trans g2
                  go_wp2_with fail
                  rw [rounds_succ]
                  go_wp2_with fail
                  refine (hE4 w7 hbw7).mono ?_
                  rintro e w8 ⟨rfl, hbw8⟩
                  have HPF := Lib.hid (HP9.out.below hbw8 hxl)
                  have HWF := Lib.hid (HW9.out.trans (hbw8.mono (by omega)))
                  go_wp2
                  go_roundw
                  case rel => first
                    | exact ⟨k + 1, z4, u, v, s2, by omega, by go_num, rfl, by omega, rfl, HSS.out, HTR.out, HPF.out, HWF.out⟩
                    | (repeat apply Exists.intro
                       exact ⟨⟨k + 1, z4, u, v, s2, by omega, by go_num, rfl, by omega, rfl, HSS.out, HTR.out, HPF.out, HWF.out⟩, rfl⟩)
                  case measure => simp [intOf]; omega
                · rw [ct] at HTR
                  have hE3 := hEd _ _ hj3 c3
                  have hE4 := hEd _ _ hj4 c4
                  have hE5 := hEd _ _ hj5 c5
                  clear c3 c4 c5 ct hEd
                  go_wp2
                  refine wp_loop_rounds 3 ?_
                  rw [rounds_succ]
                  go_wp2_with fail
                  refine (hE3 W9 (Below.refl _ _)).mono ?_
                  rintro e w7 ⟨rfl, hbw7⟩
                  have g1w7 := (hbw7.cell (p := ⟨w2.heap.size, 0, none⟩) hxl).trans g1
                  have g2w7 := (hbw7.cell (p := ⟨w2.heap.size, 1, none⟩) hxl).trans g2
                  go_wp2_with fail
                  rw [rounds_succ]
                  go_wp2_with fail
                  refine (hE4 w7 hbw7).mono ?_
                  rintro e w8 ⟨rfl, hbw8⟩
                  have g1w8 := (hbw8.cell (p := ⟨w2.heap.size, 0, none⟩) hxl).trans g1
                  have g2w8 := (hbw8.cell (p := ⟨w2.heap.size, 1, none⟩) hxl).trans g2
                  go_wp2_with fail
                  rw [rounds_succ]
                  go_wp2_with fail
                  refine (hE5 w8 hbw8).mono ?_
                  rintro e wa ⟨rfl, hbwa⟩
                  have HPF := Lib.hid (HP9.out.below hbwa hxl)
                  have HWF := Lib.hid (HW9.out.trans (hbwa.mono (by omega)))
                  go_wp2
                  go_roundw
                  case rel => first
                    | exact ⟨k + 1, z5, u, v, s2, by omega, by go_num, rfl, by omega, rfl, HSS.out, HTR.out, HPF.out, HWF.out⟩
                    | (repeat apply Exists.intro
                       exact ⟨⟨k + 1, z5, u, v, s2, by omega, by go_num, rfl, by omega, rfl, HSS.out, HTR.out, HPF.out, HWF.out⟩, rfl⟩)
                  case measure => simp [intOf]; omega
                · rw [ct] at HTR
                  have hE3 := hEd _ _ hj3 c3
                  have hE4 := hEd _ _ hj4 c4
                  have hE5 := hEd _ _ hj5 c5
                  clear c3 c4 c5 ct hEd
                  go_wp2
                  refine wp_loop_rounds 4 ?_
                  rw [rounds_succ]
                  go_wp2_with fail
                  refine (hE3 W9 (Below.refl _ _)).mono ?_
                  rintro e w7 ⟨rfl, hbw7⟩
                  have g1w7 := (hbw7.cell (p := ⟨w2.heap.size, 0, none⟩) hxl).trans g1
                  have g2w7 := (hbw7.cell (p := ⟨w2.heap.size, 1, none⟩) hxl).trans g2
                  go_wp2_with fail
                  rw [rounds_succ]
                  go_wp2_with fail
                  refine (hE4 w7 hbw7).mono ?_
                  rintro e w8 ⟨rfl, hbw8⟩
                  have g1w8 := (hbw8.cell (p := ⟨w2.heap.size, 0, none⟩) hxl).trans g1
                  have g2w8 := (hbw8.cell (p := ⟨w2.heap.size, 1, none⟩) hxl).trans g2
                  go_wp2_with fail
                  rw [rounds_succ]
                  go_wp2_with fail
                  refine (hE5 w8 hbw8).mono ?_
                  rintro e wa ⟨rfl, hbwa⟩
                  have g1wa := (hbwa.cell (p := ⟨w2.heap.size, 0, none⟩) hxl).trans g1
                  have g2wa := (hbwa.cell (p := ⟨w2.heap.size, 1, none⟩) hxl).trans g2
                  go_wp2_with fail
                  rw [rounds_succ]
                  have HPF := Lib.hid (HP9.out.below hbwa hxl)
                  have HWF := Lib.hid (HW9.out.trans (hbwa.mono (by omega)))
                  go_wp2
                  go_roundw
                  case rel => first
                    | exact ⟨k + 1, d, u, v, s2, by omega, by go_num, rfl, by omega, rfl, HSS.out, HTR.out, HPF.out, HWF.out⟩
                    | (repeat apply Exists.intro
                       exact ⟨⟨k + 1, d, u, v, s2, by omega, by go_num, rfl, by omega, rfl, HSS.out, HTR.out, HPF.out, HWF.out⟩, rfl⟩)
                  case measure => simp [intOf]; omega
    · have e0 : ((hz : Int) != 0) = true := by rw [bne_iff_ne]; omega
      have HR := Lib.hid (show GivesW w l (.returned (.tuple #[.string (ByteArray.mk #[]), .bool false])) w2 from ⟨_, _, rfl, fun h => (by cases h), HB2.out⟩)
      go_wp2
      go_ret2
      exact HR.out
end

end Go.Proofs.Ythnapikklolgcaa
