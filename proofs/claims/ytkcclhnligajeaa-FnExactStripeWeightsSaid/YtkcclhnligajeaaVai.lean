/-
  Stripes, in the program: what the call gives.
  The small functions under the program's shapes: bounds of a place and of a move, the order of two cells.
-/
import Derived.Test.YtkcclhnligajeaaVah
import Derived.Test.YtkcclhnligajeaaVaa
import Derived.Sort.Grow
namespace Go.Proofs.Ytkcclhnligajeaa

section
open Go.RowKit

theorem inPW_two (p a b : Int) : inPW p [a, b] = ((decide (0 ≤ a) && decide (a < p)) && (decide (0 ≤ b) && decide (b < p))) := by
  simp [inPW, inTo, allN, List.range_succ]
theorem ints_two (w : World) (a b : Int) (ha : In64 a) (hb : In64 b) : IntsAt (w.heap.size + 1) (w.alloc (.cells #[.int .i64 a, .int .i64 b] 3)) (some ⟨w.heap.size, 0, none⟩) 2 [a, b] := by
  refine ⟨rfl, fun z hz => ?_, fun _ => ⟨_, _, rfl, by omega, fun k hk => ?_⟩⟩
  · rcases List.mem_cons.1 hz with rfl | hz
    · exact ha
    · rw [List.mem_singleton] at hz; subst hz; exact hb
  · rw [Nat.zero_add]
    have h : k = 0 ∨ k = 1 := by omega
    rcases h with rfl | rfl
    · exact World.cell?_alloc_at _ _ _ _ rfl
    · exact World.cell?_alloc_at _ _ _ _ rfl
set_option maxHeartbeats 8000000 in
set_option maxRecDepth 100000 in
theorem iStr (B n cap : Nat) (a : Option Addr) (W : Int) (l : List Int) (x y p : Int) (w : World) (hx : In64 x) (hy : In64 y) (hn : n ≤ 4194304) (hc : IntsAt B w a n l) (hB : B ≤ w.heap.size) :
    Calls Try.prog 10 #[.agg #[.int .i64 W, .slice a n cap], .int .i64 x, .int .i64 y, .int .i64 p] w fun e w' => ∃ v, e = .returned v ∧ w'.ownsRow w.heap.size 3 1 v (strW W l x y p).length (iv (strW W l x y p)) ∧ Below w.heap.size w w' := by
  obtain ⟨i0, hi, hz0, hz1, hz2⟩ := info_parts info_int
  have H := Lib.hid hc
  have hln := hc.1
  clear hc
  have hb0 := (Below.refl w.heap.size w).alloc (Nat.le_refl _) (.cells #[.int .i64 W, .slice a n cap] 28)
  have hbox0 := RgAt.new (w := w) W (.slice a n cap) rfl
  have c0 := hbox0.c0
  have c1 := hbox0.c1
  cases h1 : isReg W l with
  | false =>
    have HO := Lib.hid (strW_no (a := x) (b := y) (p := p) (show strOk W l x y p = false from by unfold strOk; rw [h1]; rfl))
    have HI := Lib.hid h1
    rw [HO.out]
    clear h1
    go_enter Try.func10, Try.ntmps10
    go_wp2_with fail
    refine (iIsReg B n cap a W l _ hn (H.out.on (hb0.mono hB)) (Nat.le_trans hB hb0.size)).mono ?_
    rintro e w1 ⟨rfl, hb⟩
    rw [HI.out]
    go_wp2
    go_ret
    exact ⟨_, rfl, World.ownsRow_nil _ _ _ _, hb0.trans (hb.mono hb0.size)⟩
  | true =>
    have HI := Lib.hid h1
    obtain ⟨N, rfl, hr⟩ := isReg_out h1
    rw [hln] at hr
    cases h2 : prmB p with
    | false =>
      have HO := Lib.hid (strW_no (a := x) (b := y) (p := p) (show strOk N l x y p = false from by unfold strOk; rw [h1, h2]; rfl))
      have HP := Lib.hid h2
      rw [HO.out]
      clear h1 h2 hr
      go_enter Try.func10, Try.ntmps10
      go_wp2_with fail
      refine (iIsReg B n cap a N l _ hn (H.out.on (hb0.mono hB)) (Nat.le_trans hB hb0.size)).mono ?_
      rintro e w1 ⟨rfl, hb⟩
      rw [HI.out]
      have HB1 := Lib.hid (hb0.trans (hb.mono hb0.size))
      clear hb hb0 c0 c1 hbox0
      go_wp2_with fail
      refine (iPrm p w1).mono ?_
      rintro e w2 ⟨rfl, rfl⟩
      rw [HP.out]
      go_wp2
      go_ret
      exact ⟨_, rfl, World.ownsRow_nil _ _ _ _, HB1.out⟩
    | true =>
      have HP := Lib.hid h2
      cases h3 : inPW p [x, y] with
      | false =>
        have HO := Lib.hid (strW_no (a := x) (b := y) (p := p) (show strOk N l x y p = false from by unfold strOk; rw [← inPW_two, h3]; simp))
        have H3 := Lib.hid h3
        rw [HO.out]
        clear h1 h2 h3 hr
        go_enter Try.func10, Try.ntmps10
        go_wp2_with fail
        refine (iIsReg B n cap a N l _ hn (H.out.on (hb0.mono hB)) (Nat.le_trans hB hb0.size)).mono ?_
        rintro e w1 ⟨rfl, hb⟩
        rw [HI.out]
        have HB1 := Lib.hid (hb0.trans (hb.mono hb0.size))
        clear hb hb0 c0 c1 hbox0
        go_wp2_with fail
        refine (iPrm p w1).mono ?_
        rintro e w2 ⟨rfl, rfl⟩
        rw [HP.out]
        go_wp2_with fail
        refine (iHasAll _ 2 2 _ [x, y] p _ (by omega) (ints_two w2 x y hx hy) (by simp)).mono ?_
        rintro e w3 ⟨rfl, hb3⟩
        rw [H3.out]
        have HB3 := Lib.hid ((HB1.out.alloc HB1.out.size (.cells #[.int .i64 x, .int .i64 y] 3)).trans (hb3.mono (by simp; have := HB1.out.size; omega)))
        clear hb3
        go_wp2
        go_ret
        exact ⟨_, rfl, World.ownsRow_nil _ _ _ _, HB3.out⟩
      | true =>
        have hok : strOk N l x y p = true := by unfold strOk; rw [← inPW_two, h1, h2, h3]; rfl
        obtain ⟨-, hp, hx5, hy5⟩ := strOk_parts hok
        have hp5 := hp.pos
        have HO := Lib.hid (strW_yes hok)
        have hN1 := hr.w0
        have hN6 := hr.w6
        have hn6 := hr.h6
        have HPC := Lib.hid (show plcN N l = n * N from by rw [plcN_rg hr, Nat.mul_comm])
        have H3 := Lib.hid h3
        rw [HO.out, HPC.out]
        have HF := Lib.hid (fun i j (hi : i < N) => (show strF N x y p (j * N + i) = (x * (i : Int) + y * (j : Int)) % p from by
          unfold strF
          have e1 : (j * N + i) % N = i := by rw [Nat.mul_comm, Nat.mul_add_mod]; exact Nat.mod_eq_of_lt hi
          have e2 : (j * N + i) / N = j := by rw [Nat.mul_comm, Nat.mul_add_div (by omega), Nat.div_eq_of_lt hi, Nat.add_zero]
          rw [e1, e2]))
        rw [show ((N : Int)).toNat = N by omega]
        generalize strF N x y p = F at HF ⊢
        rw [lstI_len]
        clear h1 h2 h3 hok hr hp
        have hpn : ¬ p = 0 := by omega
        go_enter Try.func10, Try.ntmps10
        go_wp2_with fail
        refine (iIsReg B n cap a N l _ hn (H.out.on (hb0.mono hB)) (Nat.le_trans hB hb0.size)).mono ?_
        rintro e w1 ⟨rfl, hb⟩
        rw [HI.out]
        have HB1 := Lib.hid (hb0.trans (hb.mono hb0.size))
        have HX1 := Lib.hid (hbox0.on hb hbox0.lt)
        clear hb hb0 c0 c1 hbox0
        go_wp2_with fail
        refine (iPrm p w1).mono ?_
        rintro e w2 ⟨rfl, rfl⟩
        rw [HP.out]
        go_wp2_with fail
        refine (iHasAll _ 2 2 _ [x, y] p _ (by omega) (ints_two w2 x y hx hy) (by simp)).mono ?_
        rintro e w3 ⟨rfl, hb3⟩
        rw [H3.out]
        have HB3 := Lib.hid ((HB1.out.alloc HB1.out.size (.cells #[.int .i64 x, .int .i64 y] 3)).trans (hb3.mono (by simp; have := HB1.out.size; omega)))
        have HX3 := Lib.hid ((HX1.out.alloc (.cells #[.int .i64 x, .int .i64 y] 3)).on hb3 (by simp; have := HX1.out.lt; omega))
        have hs3 := HB3.out.size
        clear hb3
        have c0 := HX3.out.c0
        have c1 := HX3.out.c1
        go_wp2
        go_loopw [9, 31] (fun v i wr => ∃ j : Nat, j ≤ n ∧ i = .int .i64 j ∧ Hid (wr.ownsRow w3.heap.size 3 1 v (j * N) (iv (lstI (j * N) F))) ∧ Below w3.heap.size w3 wr) (fun _ i _ => n - (intOf i).toNat)
        case atStart => exact ⟨0, by omega, rfl, by rw [Nat.zero_mul]; exact World.ownsRow_nil _ _ _ _, Below.refl _ _⟩
        case round =>
          obtain ⟨j, hj, rfl, hrow, hb⟩ := hrel
          have hbx := HX3.out.on hb HX3.out.lt
          have d0 := hbx.c0
          by_cases hlt : j < n
          · have hj1 : (j : Int) < (n : Int) := by omega
            have hj0 : (0 : Int) ≤ (j : Int) := by omega
            go_wp2
            go_loopw [9, 36] (fun v i wr => ∃ t : Nat, t ≤ N ∧ i = .int .i64 t ∧ Hid (wr.ownsRow w3.heap.size 3 1 v (j * N + t) (iv (lstI (j * N + t) F))) ∧ Below w3.heap.size w3 wr) (fun _ i _ => N - (intOf i).toNat)
            case atStart => exact ⟨0, by omega, rfl, hrow, hb⟩
            case round =>
              obtain ⟨t, ht, rfl, hrow, hb⟩ := hrel
              by_cases hlt2 : t < N
              · have ht1 : (t : Int) < (N : Int) := by omega
                have ht0 : (0 : Int) ≤ (t : Int) := by omega
                have m1 := mul_56 (x := x) (k := t) (by omega) (by omega)
                have m2 := mul_56 (x := y) (k := j) (by omega) (by omega)
                have HE := Lib.hid (HF.out t j hlt2)
                have m3 : 0 ≤ x * (t : Int) + y * (j : Int) ∧ x * (t : Int) + y * (j : Int) ≤ 360 := by omega
                have hjN : j * N ≤ 6 * 6 := Nat.mul_le_mul (by omega) hN6
                have hrw := hrow.out
                have hszr := hb.size
                go_wp2_with (first | (at_builtin; refine wpList_append_own _ rfl _ _ 23 rfl w3.heap.size 3 i0 (.int .i64 0) 1 8 Try.underlying23 hi hz0 hz1 hz2 rfl (by decide) _ _ _ rfl (hrw.alloc _) ⟨wr.heap.size, 0, none⟩ 1 1 [.int .i64 ((x * (t : Int) + y * (j : Int)) % p)] rfl rfl (liesV_block (t := 3) (fr := (0, 0)) (heap_alloc_new _ _)) (by simp [Value.oneCell']) ?c3 ?c4 ?c5 ?_) | go_in)
                case c3 => unfold maxLen; omega
                case c4 => omega
                case c5 => simp; omega
                intro v' w6 hown6 hgrow _
                have HR6 := Lib.hid (show w6.ownsRow w3.heap.size 3 1 v' (j * N + (t + 1)) (iv (lstI (j * N + (t + 1)) F)) from by
                  rw [← Nat.add_assoc, lstI_snoc, HE.out, ← iv_snoc]
                  exact hown6)
                have HB6 := Lib.hid ((hb.alloc hszr (.cells #[.int .i64 ((x * (t : Int) + y * (j : Int)) % p)] 3)).grown hgrow (by simp; omega) (fun k hk => (hrw.lt k hk).1))
                clear hown6 hgrow hrw hrow
                go_wp2
                go_roundw
                case rel => first
                  | exact ⟨t + 1, by omega, by go_num, HR6.out, HB6.out⟩
                  | (repeat apply Exists.intro
                     exact ⟨⟨t + 1, by omega, by go_num, HR6.out, HB6.out⟩, rfl⟩)
                case measure => first | (simp [intOf]; done) | (simp [intOf]; omega)
              · obtain rfl : t = N := by omega
                have HR6 := Lib.hid (show wr.ownsRow w3.heap.size 3 1 _ ((j + 1) * t) (iv (lstI ((j + 1) * t) F)) from by rw [Nat.succ_mul]; exact hrow.out)
                clear hrow
                go_wp2
                go_roundw
                case rel => first
                  | exact ⟨j + 1, by omega, by go_num, HR6.out, hb⟩
                  | (repeat apply Exists.intro
                     exact ⟨⟨j + 1, by omega, by go_num, HR6.out, hb⟩, rfl⟩)
                case measure => first | (simp [intOf]; done) | (simp [intOf]; omega)
          · obtain rfl : j = n := by omega
            have HR9 := Lib.hid (own_below hrow.out hs3)
            have HB9 := Lib.hid (HB3.out.trans (hb.mono hs3))
            go_wp2
            go_ret
            exact ⟨_, rfl, HR9.out, HB9.out⟩
end

section
open Go.RowKit

/-- Two numbers compared: -1, 0 or 1. -/
def cmpI (x y : Int) : Int := if x < y then -1 else if y < x then 1 else 0
/-- The first of two numbers that is not 0. -/
def orI (x y : Int) : Int := if x = 0 then y else x
/-- Two cells compared: by rows, then from left to right. -/
def cmpC (a b : Cl) : Int := orI (cmpI a.2 b.2) (cmpI a.1 b.1)
theorem cmpC_neg (a b : Cl) : decide (cmpC a b < 0) = bef a b := by
  unfold cmpC orI cmpI bef
  rw [Bool.eq_iff_iff]
  simp only [decide_eq_true_eq, Bool.or_eq_true, Bool.and_eq_true]
  constructor
  · intro h
    repeat' split at h
    all_goals omega
  · intro h
    repeat' split
    all_goals omega
theorem cmpC_geq (a b : Cl) : decide (cmpC a b ≥ 0) = !bef a b := by
  rw [← cmpC_neg, Bool.eq_iff_iff]
  simp only [Bool.not_eq_true', decide_eq_true_eq, decide_eq_false_iff_not]
  omega

theorem two_new {w : World} {t : TypeId} {p q : Value} {N : Nat} (hN : w.heap.size = N) : (w.alloc (.cells #[p, q] t)).drew.cell? ⟨N, 0, none⟩ = some p ∧ (w.alloc (.cells #[p, q] t)).drew.cell? ⟨N, 1, none⟩ = some q := by
  subst hN
  exact ⟨cell_of_row (w.alloc (.cells #[p, q] t)) _ 0 _ _ _ (heap_alloc_new _ _), cell_of_row (w.alloc (.cells #[p, q] t)) _ 1 _ _ _ (heap_alloc_new _ _)⟩
end

end Go.Proofs.Ytkcclhnligajeaa
