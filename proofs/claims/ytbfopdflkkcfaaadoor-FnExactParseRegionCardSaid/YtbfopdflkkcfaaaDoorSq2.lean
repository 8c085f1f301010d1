/-
  A text as a region, in the model: what the call gives.
-/
import Derived.Test.YtbfopdflkkcfaaaDoorSq1
import Derived.Maps.AppendAt
namespace Go.Proofs.YtbfopdflkkcfaaaDoor
open Go.RowKit Go.Maps

theorem RgAt.set0 {w : World} {g : Nat} {W : Int} {v : Value} (h : RgAt w g W v) (x : Int) : RgAt (w.setCell ⟨g, 0, none⟩ (.int .i64 x)) g x v := by
  have := set_row h 0 (.int .i64 x)
  unfold RgAt
  simpa using this
theorem dP_no {p : Prop} (h : ¬ p) : dP p = false := by
  cases h9 : dP p with
  | false => rfl
  | true => exact absurd ((dP_iff _).1 h9) h
/-- What was read of a text: the rows done, the row at hand, its place, the width. -/
theorem ps_next {s : ByteArray} {k : Nat} (h : k < s.size) {D : List Int} {c x w : Nat} (e : psTo (tx s) k = (D, c, x, w)) :
    (s[k] = 47 → psTo (tx s) (k + 1) = (D ++ [(c : Int)], 0, 0, w)) ∧ (s[k] = 35 → psTo (tx s) (k + 1) = (D, c ||| 2 ^ x, x + 1, max w (x + 1))) ∧ (s[k] ≠ 47 → s[k] ≠ 35 → psTo (tx s) (k + 1) = (D, c, x + 1, max w (x + 1))) := by
  have hg : (tx s).getD k 0 = s[k] := by
    rw [List.getD_eq_getElem?_getD, List.getElem?_eq_getElem (by rw [tx_len]; exact h)]
    rfl
  rw [psTo_step _ k (by rw [tx_len]; exact h), e, hg]
  refine ⟨fun hb => ?_, fun hb => ?_, fun h1 h2 => ?_⟩
  · unfold psStep; rw [if_pos hb]
  · unfold psStep; rw [if_neg (by rw [hb]; decide), if_pos hb]
  · unfold psStep; rw [if_neg h1, if_neg h2]
theorem okQ_byte {s : ByteArray} {k : Nat} (h : k < s.size) (hn : ¬ okBy s[k]) : ¬ okQ (tx s) := fun hq => by
  obtain ⟨_, _, _, _, _, _, _, _, _, hb⟩ := okQ_out hq
  exact hn (hb _ (List.getElem_mem (h := by rw [tx_len]; exact h)))
theorem fmt_okQ {W : Int} {l : List Int} {s : List UInt8} (h0 : s ≠ []) (h : fmtR W l = s) : okQ s := by
  refine ⟨W, l, ?_, h⟩
  cases h9 : isReg W l with
  | true => rfl
  | false => rw [fmtR_no h9] at h; exact absurd h.symm h0
theorem okQ_size {s : ByteArray} (hn : ¬ (1 ≤ s.size ∧ s.size ≤ 41)) : ¬ okQ (tx s) := fun hq => by
  obtain ⟨_, _, _, _, _, _, _, h1, h2, _⟩ := okQ_out hq
  rw [tx_len] at h1 h2
  exact hn ⟨h1, h2⟩

set_option maxHeartbeats 4000000 in
set_option maxRecDepth 100000 in
theorem sParR (s : ByteArray) (w : World) (hs : s.size ≤ 1048576) :
    Calls Tryd.prog 4 #[.string s] w fun e w' => ∃ v, e = .returned (.tuple #[.agg #[.int .i64 (resW (tx s)), v], .bool (dP (okQ (tx s)))]) ∧ w'.ownsRow w.heap.size 3 1 v (resL (tx s)).length (iv (resL (tx s))) ∧ Below w.heap.size w w' := by
  obtain ⟨i0, hi, hz0, hz1, hz2⟩ := info_parts info_int
  have hres := ((RgAt.new (w := w) 0 (.slice none 0 0) rfl).alloc (.cells #[.int .i64 0] 3)).alloc (.cells #[.int .i64 0, .slice (some ⟨w.heap.size + 1, 0, none⟩) 1 1] 24)
  have hv0 := RgAt.new (w := (w.alloc (.cells #[.int .i64 0, .slice none 0 0] 24)).alloc (.cells #[.int .i64 0] 3)) (N := w.heap.size + 1 + 1) 0 (.slice (some ⟨w.heap.size + 1, 0, none⟩) 1 1) (by simp)
  have hb0 := (((Below.refl w.heap.size w).alloc (Nat.le_refl _) (.cells #[.int .i64 0, .slice none 0 0] 24)).alloc (by simp) (.cells #[.int .i64 0] 3)).alloc (by simp; omega) (.cells #[.int .i64 0, .slice (some ⟨w.heap.size + 1, 0, none⟩) 1 1] 24)
  have ho0 : ((w.alloc (.cells #[.int .i64 0, .slice none 0 0] 24)).alloc (.cells #[.int .i64 0] 3)).ownsRow (w.heap.size + 1) 3 1 (.slice (some ⟨w.heap.size + 1, 0, none⟩) 1 1) 1 (iv [0]) := by
    have h9 := World.ownsRow_lit (base := w.heap.size + 1) (e := 3) (size := 1) (w.alloc (.cells #[.int .i64 0, .slice none 0 0] 24)) #[.int .i64 0] 1 (by simp) (by simp [maxLen]) rfl
    have e9 : (w.alloc (.cells #[.int .i64 0, .slice none 0 0] 24)).heap.size = w.heap.size + 1 := by simp
    rw [e9] at h9
    exact h9
  have ho1 := ho0.alloc (.cells #[.int .i64 0, .slice (some ⟨w.heap.size + 1, 0, none⟩) 1 1] 24)
  obtain ⟨RW, hRW⟩ : ∃ z, resW (tx s) = z := ⟨_, rfl⟩
  obtain ⟨RL, hRL⟩ : ∃ z, resL (tx s) = z := ⟨_, rfl⟩
  obtain ⟨RB, hRB⟩ : ∃ z, dP (okQ (tx s)) = z := ⟨_, rfl⟩
  rw [hRW, hRL, hRB]
  have HRS := Lib.hid (And.intro hRW (And.intro hRL hRB))
  have HNO := Lib.hid (show ¬ okQ (tx s) → RW = 0 ∧ RL = [] ∧ RB = false from fun h => ⟨by rw [← hRW, (res_no h).1], by rw [← hRL, (res_no h).2], by rw [← hRB, dP_no h]⟩)
  clear hRW hRL hRB ho0
  go_enter Tryd.func4, Tryd.ntmps4
  go_wp2_with fail
  generalize (((w.alloc (.cells #[.int .i64 0, .slice none 0 0] 24)).alloc (.cells #[.int .i64 0] 3)).alloc (.cells #[.int .i64 0, .slice (some ⟨w.heap.size + 1, 0, none⟩) 1 1] 24)) = w1 at *
  go_loopw [5, 6] (fun xv i wr => ∃ (k c x m ww g cc : Nat) (D : List Int), k ≤ s.size ∧ (k = 0 ∨ s.size ≤ 41) ∧ xv = .int .i64 x ∧ i = .int .i64 k ∧ Hid (m = D.length + 1) ∧ Hid (psTo (tx s) k = (D, c, x, ww)) ∧ Hid (RgAt wr (w.heap.size + 1 + 1) ww (.slice (some ⟨g, 0, none⟩) m cc)) ∧ Hid (wr.ownsRow (w.heap.size + 1) 3 1 (.slice (some ⟨g, 0, none⟩) m cc) m (iv (D ++ [(c : Int)]))) ∧ g ≠ w.heap.size + 1 + 1 ∧ Hid (RgAt wr w.heap.size 0 (.slice none 0 0)) ∧ Hid (Below w.heap.size w wr)) (fun _ i _ => s.size - (intOf i).toNat)
  case atStart => exact ⟨0, 0, 0, 1, 0, w.heap.size + 1, 1, [], by omega, .inl rfl, rfl, rfl, rfl, psTo_zero _, hv0, ho1, by omega, hres, hb0⟩
  case round =>
    obtain ⟨k, c, x, m, ww, g, cc, D, hk, hk41, rfl, rfl, hm, hps, hv, ho, hgv, hr, hb⟩ := hrel
    clear hv0 ho1 hres hb0
    have hbd := psTo_bd (tx s) k (by rw [tx_len]; exact hk)
    rw [hps.out] at hbd
    dsimp only at hbd
    have hm41 : m ≤ k + 1 := by have := hm.out; omega
    have hgl := ho.out.lt g rfl
    have hvl := hv.out.lt
    by_cases hlt : k < s.size
    · by_cases h41 : s.size ≤ 41
      · have hd41 : decide ((s.size : Int) ≤ 41) = true := by simp; omega
        have HNX := Lib.hid (ps_next hlt hps.out)
        have e35 := byte_int s[k] 35
        have e46 := byte_int s[k] 46
        have e47 := byte_int s[k] 47
        have c0 := hv.out.c0
        have c1 := hv.out.c1
        have f0 := hv.out.f 0
        have f1 := hv.out.f 1
        by_cases b47 : s[k] = 47
        · have t47 : (((s[k].toNat : Nat) : Int) == 47) = true := e47.trans (by rw [b47]; rfl)
          have HN := Lib.hid (HNX.out.1 b47)
          clear e35 e46 e47 b47
          go_wp2_with (first | (at_builtin; refine wpList_append_own_at _ rfl _ _ 22 rfl (w.heap.size + 1) 3 i0 (.int .i64 0) 1 8 Tryd.underlying22 hi hz0 hz1 hz2 rfl (by decide) _ _ _ rfl (ho.out.alloc _) ⟨wr.heap.size, 0, none⟩ 1 1 (iv [0]) rfl rfl (World.news_of_block (cs := (iv [0]).toArray) (heap_alloc_new _ _)) (iv_one _) ?c3 ?c4 ?c5 ?_) | go_in)
          case c3 => unfold maxLen; omega
          case c4 => omega
          case c5 => simp; omega
          intro v' w3 hown3 hgrow _ hblk
          obtain ⟨g3, cc3, rfl⟩ : ∃ g cap, v' = .slice (some ⟨g, 0, none⟩) (m + 1) cap := by
            rcases hown3.2 with ⟨_, h9⟩ | ⟨g, cap, cur, rfl, _⟩
            · omega
            · exact ⟨g, cap, rfl⟩
          have hg3 : g3 ≠ w.heap.size + 1 + 1 := by
            rcases hblk with h9 | h9
            · have e9 : g3 = g := Option.some.inj h9
              omega
            · have e9 : g3 = (wr.alloc (.cells (iv [0]).toArray 3)).heap.size := Option.some.inj (h9.trans (by simp))
              simp at e9
              omega
          have hgg := hown3.lt g3 rfl
          have hv3 := (hv.out.alloc (.cells (iv [0]).toArray 3)).by hgrow (fun e => hgv (Option.some.inj e))
          have hr3 := (hr.out.alloc (.cells (iv [0]).toArray 3)).by hgrow (fun e => by have e2 : g = w.heap.size := Option.some.inj e; omega)
          have HBN := Lib.hid (((hb.out.alloc hb.out.size (.cells (iv [0]).toArray 3)).grown hgrow (hb.out.alloc hb.out.size (.cells (iv [0]).toArray 3)).size (fun j hj => by have e2 : g = j := Option.some.inj hj; omega)).setCell (p := ⟨w.heap.size + 1 + 1, 1, none⟩) (by show w.heap.size ≤ w.heap.size + 1 + 1; omega) (.slice (some ⟨g3, 0, none⟩) (m + 1) cc3))
          have HVN := Lib.hid (hv3.set1 (.slice (some ⟨g3, 0, none⟩) (m + 1) cc3))
          have HRN := Lib.hid (hr3.far (g' := w.heap.size + 1 + 1) (j := 1) (u := .slice (some ⟨g3, 0, none⟩) (m + 1) cc3) (by omega))
          have HON := Lib.hid (own_far (b := w.heap.size + 1 + 1) (o := 1) (u := .slice (some ⟨g3, 0, none⟩) (m + 1) cc3) (show w3.ownsRow (w.heap.size + 1) 3 1 (.slice (some ⟨g3, 0, none⟩) (m + 1) cc3) (m + 1) (iv (D ++ [(c : Int)] ++ [((0 : Nat) : Int)])) from by
            have e9 : iv (D ++ [(c : Int)] ++ [((0 : Nat) : Int)]) = iv (D ++ [(c : Int)]) ++ iv [0] := by simp [iv]
            rw [e9]
            exact hown3) (by omega))
          have HMM := Lib.hid (show m + 1 = (D ++ [(c : Int)]).length + 1 from by rw [List.length_append, hm.out]; rfl)
          have z0 := hv3.c0
          have z1 := hv3.c1
          have zf := hv3.f 1
          clear hown3 hgrow hblk hv hr ho hb c0 c1 f0 f1 hv3 hr3 hm hps
          go_wp2
          go_roundw
          case rel => first
            | exact ⟨k + 1, 0, 0, m + 1, ww, g3, cc3, D ++ [(c : Int)], by omega, .inr h41, rfl, by go_num, HMM.out, HN.out, HVN.out, HON.out, hg3, HRN.out, HBN.out⟩
            | (repeat apply Exists.intro
               exact ⟨⟨k + 1, 0, 0, m + 1, ww, g3, cc3, D ++ [(c : Int)], by omega, .inr h41, rfl, by go_num, HMM.out, HN.out, HVN.out, HON.out, hg3, HRN.out, HBN.out⟩, rfl⟩)
          case measure => simp [intOf]; omega
        · have t47 : (((s[k].toNat : Nat) : Int) == 47) = false := e47.trans (by rw [decide_eq_false_iff_not]; exact b47)
          have hmx : max (ww : Int) ((x : Int) + 1) = ((max ww (x + 1) : Nat) : Int) := by omega
          have hwx : IntKind.i64.wrap ((x : Int) + 1) = (x : Int) + 1 := IntWalk.i64_in _ (by omega)
          obtain ⟨W2, hW2⟩ : ∃ z : Nat, max ww (x + 1) = z := ⟨_, rfl⟩
          rw [hW2] at hmx
          have HMX := Lib.hid hmx
          by_cases b35 : s[k] = 35
          · have t35 : (((s[k].toNat : Nat) : Int) == 35) = true := e35.trans (by rw [b35]; rfl)
            have hn := HNX.out.2.1 b35
            rw [hW2] at hn
            have HN := Lib.hid hn
            obtain ⟨d, hd⟩ : ∃ d, D.length = d := ⟨_, rfl⟩
            have hmd : m = d + 1 := by have := hm.out; omega
            have hwm : IntKind.i64.wrap ((m : Int) - 1) = (d : Int) := by rw [IntWalk.i64_in _ (by omega)]; omega
            have hd0 : (0 : Int) ≤ (d : Int) := by omega
            have hd1 : (d : Int) < (m : Int) := by omega
            have t1 := ho.out.cellAt d (by omega)
            rw [iv_get _ _ (by simp; omega), show (D ++ [(c : Int)]).getD d 0 = (c : Int) from by rw [← hd]; simp [List.getD]] at t1
            have t2 := ho.out.frozenAt d
            have hs := ho.out.stored d (.int .i64 ((c ||| 2 ^ x : Nat) : Int))
            rw [iv_set, show (D ++ [(c : Int)]).set d ((c ||| 2 ^ x : Nat) : Int) = D ++ [((c ||| 2 ^ x : Nat) : Int)] from by rw [← hd]; simp] at hs
            have HS := Lib.hid hs
            have hp : 2 ^ x ≤ 2 ^ 41 := Nat.pow_le_pow_right (by omega) (by omega)
            have hbv : bits .or .i64 (c : Int) (shV x) = ((c ||| 2 ^ x : Nat) : Int) := by
              rw [shV_in (by omega)]
              exact i64_or_nat _ _ (by omega) (by omega)
            unfold shV at hbv
            have HMD := Lib.hid hmd
            have HMDL := Lib.hid (show m = D.length + 1 from hm.out)
            clear e35 e46 e47 b35 b47 hs hmx hn hd hmd hp hW2 hm hps hbd
            generalize c ||| 2 ^ x = c2 at *
            go_wp2_with fail
            go_region
            all_goals
              have hv6 : RgAt (wr.setCell ⟨g, d, none⟩ (.int .i64 (c2 : Int))).drew (w.heap.size + 1 + 1) ww (.slice (some ⟨g, 0, none⟩) m cc) := RgAt.far (w := wr) hv.out hgv
              have hr6 : RgAt (wr.setCell ⟨g, d, none⟩ (.int .i64 (c2 : Int))).drew w.heap.size 0 (.slice none 0 0) := RgAt.far (w := wr) hr.out (by omega)
              have ho6 : (wr.setCell ⟨g, d, none⟩ (.int .i64 (c2 : Int))).drew.ownsRow (w.heap.size + 1) 3 1 (.slice (some ⟨g, 0, none⟩) m cc) m (iv (D ++ [(c2 : Int)])) := HS.out.1
              have hb6 := (hb.out.setCell (p := ⟨g, d, none⟩) (by show w.heap.size ≤ g; omega) (.int .i64 (c2 : Int))).drew
              clear hv hr ho hb HS t1 t2 c0 c1 f0 f1 hbv
              generalize (wr.setCell ⟨g, d, none⟩ (.int .i64 (c2 : Int))).drew = w6 at *
              have c0 := hv6.c0
              have f0 := hv6.f 0
              have hmx := HMX.out
              have HVN := Lib.hid (hv6.set0 (W2 : Int))
              have HRN := Lib.hid (hr6.far (g' := w.heap.size + 1 + 1) (j := 0) (u := .int .i64 (W2 : Int)) (by omega))
              have HON := Lib.hid (own_far (b := w.heap.size + 1 + 1) (o := 0) (u := .int .i64 (W2 : Int)) ho6 (by omega))
              have HBN := Lib.hid (hb6.setCell (p := ⟨w.heap.size + 1 + 1, 0, none⟩) (by show w.heap.size ≤ w.heap.size + 1 + 1; omega) (.int .i64 (W2 : Int)))
              have HML := Lib.hid (show m = D.length + 1 from HMDL.out)
              clear hv6 hr6 ho6 hb6
              go_wp2
              go_roundw
              case rel => first
                | exact ⟨k + 1, c2, x + 1, m, W2, g, cc, D, by omega, .inr h41, by go_num, by go_num, HML.out, HN.out, HVN.out, HON.out, hgv, HRN.out, HBN.out⟩
                | (repeat apply Exists.intro
                   exact ⟨⟨k + 1, c2, x + 1, m, W2, g, cc, D, by omega, .inr h41, by go_num, by go_num, HML.out, HN.out, HVN.out, HON.out, hgv, HRN.out, HBN.out⟩, rfl⟩)
              case measure => simp [intOf]; omega
          · have t35 : (((s[k].toNat : Nat) : Int) == 35) = false := e35.trans (by rw [decide_eq_false_iff_not]; exact b35)
            by_cases b46 : s[k] = 46
            · have t46 : (((s[k].toNat : Nat) : Int) == 46) = true := e46.trans (by rw [b46]; rfl)
              have hn := HNX.out.2.2 b47 b35
              rw [hW2] at hn
              have HN := Lib.hid hn
              have HVN := Lib.hid (hv.out.set0 (W2 : Int))
              have HRN := Lib.hid (hr.out.far (g' := w.heap.size + 1 + 1) (j := 0) (u := .int .i64 (W2 : Int)) (by omega))
              have HON := Lib.hid (own_far (b := w.heap.size + 1 + 1) (o := 0) (u := .int .i64 (W2 : Int)) ho.out (by omega))
              have HBN := Lib.hid (hb.out.setCell (p := ⟨w.heap.size + 1 + 1, 0, none⟩) (by show w.heap.size ≤ w.heap.size + 1 + 1; omega) (.int .i64 (W2 : Int)))
              clear e35 e46 e47 b35 b46 b47 hn hW2 hv hr ho hb hps hbd
              go_wp2
              go_roundw
              case rel => first
                | exact ⟨k + 1, c, x + 1, m, W2, g, cc, D, by omega, .inr h41, by go_num, by go_num, hm.out, HN.out, HVN.out, HON.out, hgv, HRN.out, HBN.out⟩
                | (repeat apply Exists.intro
                   exact ⟨⟨k + 1, c, x + 1, m, W2, g, cc, D, by omega, .inr h41, by go_num, by go_num, hm.out, HN.out, HVN.out, HON.out, hgv, HRN.out, HBN.out⟩, rfl⟩)
              case measure => simp [intOf]; omega
            · have t46 : (((s[k].toNat : Nat) : Int) == 46) = false := e46.trans (by rw [decide_eq_false_iff_not]; exact b46)
              obtain ⟨r1, r2, r3⟩ := HNO.out (okQ_byte hlt (by unfold okBy; intro h; rcases h with h | h | h; exact b47 h; exact b35 h; exact b46 h))
              subst r1 r2 r3
              have q0 := hr.out.c0
              have q1 := hr.out.c1
              have q2 := hr.out.f 0
              have q3 := hr.out.f 1
              have R9 := hr.out.set2 0 (.slice none 0 0)
              have e0 := R9.c0
              have e1 := R9.c1
              have HB9 := Lib.hid ((hb.out.setCell (p := ⟨w.heap.size, 0, none⟩) (Nat.le_refl _) (.int .i64 0)).setCell (p := ⟨w.heap.size, 1, none⟩) (Nat.le_refl _) (.slice none 0 0))
              clear e35 e46 e47 b35 b46 b47 hmx hW2 hps hbd
              go_wp2
              generalize ((wr.setCell ⟨w.heap.size, 0, none⟩ (.int .i64 0)).setCell ⟨w.heap.size, 1, none⟩ (.slice none 0 0)) = w9 at *
              exact bodyPost_ret (v := .tuple #[.agg #[.int .i64 0, .slice none 0 0], .bool false]) (by simp [results, Tryd.results4, go_sem, e0, e1]) rfl ⟨_, rfl, nil_rowI _ _, HB9.out⟩
      · have hd41 : decide ((s.size : Int) ≤ 41) = false := by simp; omega
        have hk0 : k = 0 := by omega
        have he1 : s.toList.isEmpty = false := by rw [ByteArray.toList_eq, List.isEmpty_eq_false_iff]; intro h; have := tx_len s; rw [show tx s = [] from h] at this; simp at this; omega
        have he2 : ¬ s.toList = [] := by intro h; rw [h] at he1; cases he1
        have hnq : ¬ okQ (tx s) := okQ_size (by omega)
        have hp : (2 : Int) ^ k ≤ 2 ^ 41 := by
          have h9 : (2 : Nat) ^ k ≤ 2 ^ 41 := Nat.pow_le_pow_right (by omega) (by omega)
          exact_mod_cast h9
        have hpx : 2 ^ x ≤ 2 ^ 41 := Nat.pow_le_pow_right (by omega) (by omega)
        have HA := Lib.hid (IntsAt.of_own ho.out (fun z hz => by
          unfold In64
          rcases List.mem_append.1 hz with hz | hz
          · have := hbd.2.2.2 z hz
            omega
          · rw [List.mem_singleton] at hz
            subst hz
            omega))
        have c0 := hv.out.c0
        have c1 := hv.out.c1
        clear hp hpx
        have hne : (fmtR (ww : Int) (D ++ [(c : Int)]) == s.toList) = false := by
          rw [beq_eq_false_iff_ne, ByteArray.toList_eq]
          exact fun h => hnq (fmt_okQ (fun h9 => he2 (by rw [ByteArray.toList_eq]; exact h9)) h)
        clear hps hbd
        subst hk0
        obtain ⟨r1, r2, r3⟩ := HNO.out hnq
        subst r1 r2 r3
        clear hnq
        go_wp2_with fail
        refine (sFmtR wr.heap.size m cc (some ⟨g, 0, none⟩) ww (D ++ [(c : Int)]) wr (by omega) HA.out (Nat.le_refl _)).mono ?_
        rintro e w5 ⟨rfl, hb5⟩
        have hr5 := hr.out.on hb5 hr.out.lt
        have HB5 := Lib.hid (hb.out.trans (hb5.mono hb.out.size))
        clear c0 c1 hb5 hv ho hr hb
        have q0 := hr5.c0
        have q1 := hr5.c1
        have q2 := hr5.f 0
        have q3 := hr5.f 1
        have R9 := hr5.set2 0 (.slice none 0 0)
        have e0 := R9.c0
        have e1 := R9.c1
        have HB9 := Lib.hid ((HB5.out.setCell (p := ⟨w.heap.size, 0, none⟩) (Nat.le_refl _) (.int .i64 0)).setCell (p := ⟨w.heap.size, 1, none⟩) (Nat.le_refl _) (.slice none 0 0))
        go_wp2
        generalize ((w5.setCell ⟨w.heap.size, 0, none⟩ (.int .i64 0)).setCell ⟨w.heap.size, 1, none⟩ (.slice none 0 0)) = w9 at *
        exact bodyPost_ret (v := .tuple #[.agg #[.int .i64 0, .slice none 0 0], .bool false]) (by simp [results, Tryd.results4, go_sem, e0, e1]) rfl ⟨_, rfl, nil_rowI _ _, HB9.out⟩
    · have hkk : k = s.size := by omega
      by_cases hz : s.size = 0
      · have he2 : s.toList = [] := by rw [ByteArray.toList_eq, ← List.length_eq_zero_iff, tx_len]; exact hz
        have he1 : s.toList.isEmpty = true := by rw [he2]; rfl
        obtain ⟨r1, r2, r3⟩ := HNO.out (okQ_size (s := s) (by omega))
        subst r1 r2 r3
        have q0 := hr.out.c0
        have q1 := hr.out.c1
        have q2 := hr.out.f 0
        have q3 := hr.out.f 1
        have R9 := hr.out.set2 0 (.slice none 0 0)
        have e0 := R9.c0
        have e1 := R9.c1
        have HB9 := Lib.hid ((hb.out.setCell (p := ⟨w.heap.size, 0, none⟩) (Nat.le_refl _) (.int .i64 0)).setCell (p := ⟨w.heap.size, 1, none⟩) (Nat.le_refl _) (.slice none 0 0))
        clear hps hbd
        go_wp2
        generalize ((wr.setCell ⟨w.heap.size, 0, none⟩ (.int .i64 0)).setCell ⟨w.heap.size, 1, none⟩ (.slice none 0 0)) = w9 at *
        exact bodyPost_ret (v := .tuple #[.agg #[.int .i64 0, .slice none 0 0], .bool false]) (by simp [results, Tryd.results4, go_sem, e0, e1]) rfl ⟨_, rfl, nil_rowI _ _, HB9.out⟩
      · have he2 : ¬ s.toList = [] := by rw [ByteArray.toList_eq, ← List.length_eq_zero_iff, tx_len]; exact hz
        have he1 : s.toList.isEmpty = false := by rw [List.isEmpty_eq_false_iff]; exact he2
        have hp : (2 : Int) ^ k ≤ 2 ^ 41 := by
          have h9 : (2 : Nat) ^ k ≤ 2 ^ 41 := Nat.pow_le_pow_right (by omega) (by omega)
          exact_mod_cast h9
        have hpx : 2 ^ x ≤ 2 ^ 41 := Nat.pow_le_pow_right (by omega) (by omega)
        have HA := Lib.hid (IntsAt.of_own ho.out (fun z hz => by
          unfold In64
          rcases List.mem_append.1 hz with hz | hz
          · have := hbd.2.2.2 z hz
            omega
          · rw [List.mem_singleton] at hz
            subst hz
            omega))
        have c0 := hv.out.c0
        have c1 := hv.out.c1
        clear hp hpx
        have hpe : psTo (tx s) (tx s).length = (D, c, x, ww) := by rw [tx_len, ← hkk]; exact hps.out
        have hiff := okQ_iff (s := tx s) (fun h9 => he2 (by rw [ByteArray.toList_eq]; exact h9))
        rw [hpe] at hiff
        have hry := fun h => res_yes (s := tx s) h
        rw [hpe] at hry
        have HRY := Lib.hid (show okQ (tx s) → resW (tx s) = ww ∧ resL (tx s) = D ++ [(c : Int)] from hry)
        have HIF := Lib.hid (show okQ (tx s) ↔ fmtR (ww : Int) (D ++ [(c : Int)]) = tx s from hiff)
        clear hpe hiff hry hps hbd
        cases hr9 : (fmtR (ww : Int) (D ++ [(c : Int)]) == s.toList) with
        | true =>
          have hyes : okQ (tx s) := HIF.out.2 (by rw [ByteArray.toList_eq, beq_iff_eq] at hr9; exact hr9)
          obtain rfl : RW = (ww : Int) := HRS.out.1.symm.trans (HRY.out hyes).1
          obtain rfl : RL = D ++ [(c : Int)] := HRS.out.2.1.symm.trans (HRY.out hyes).2
          obtain rfl : RB = true := HRS.out.2.2.symm.trans ((dP_iff _).2 hyes)
          clear hyes
          go_wp2_with fail
          refine (sFmtR wr.heap.size m cc (some ⟨g, 0, none⟩) ww (D ++ [(c : Int)]) wr (by omega) HA.out (Nat.le_refl _)).mono ?_
          rintro e w5 ⟨rfl, hb5⟩
          have hv5 := hv.out.on hb5 hv.out.lt
          have hr5 := hr.out.on hb5 hr.out.lt
          have HO5 := Lib.hid (ho.out.kept (grow_below hb5 none) (.inr (by intro e; cases e)))
          have HB5 := Lib.hid (hb.out.trans (hb5.mono hb.out.size))
          clear c0 c1 hb5 hv ho hr hb
          have c0 := hv5.c0
          have c1 := hv5.c1
          have q0 := hr5.c0
          have q1 := hr5.c1
          have q2 := hr5.f 0
          have q3 := hr5.f 1
          have R9 := hr5.set2 (ww : Int) (.slice (some ⟨g, 0, none⟩) m cc)
          have e0 := R9.c0
          have e1 := R9.c1
          have HO9 := Lib.hid (own_below (own_far (b := w.heap.size) (o := 1) (u := .slice (some ⟨g, 0, none⟩) m cc) (own_far (b := w.heap.size) (o := 0) (u := .int .i64 (ww : Int)) HO5.out (by omega)) (by omega)) (show w.heap.size ≤ w.heap.size + 1 by omega))
          have HB9 := Lib.hid ((HB5.out.setCell (p := ⟨w.heap.size, 0, none⟩) (Nat.le_refl _) (.int .i64 (ww : Int))).setCell (p := ⟨w.heap.size, 1, none⟩) (Nat.le_refl _) (.slice (some ⟨g, 0, none⟩) m cc))
          have HML := Lib.hid (show (D ++ [(c : Int)]).length = m from by rw [List.length_append, hm.out]; rfl)
          go_wp2
          generalize ((w5.setCell ⟨w.heap.size, 0, none⟩ (.int .i64 (ww : Int))).setCell ⟨w.heap.size, 1, none⟩ (.slice (some ⟨g, 0, none⟩) m cc)) = w9 at *
          exact bodyPost_ret (v := .tuple #[.agg #[.int .i64 (ww : Int), .slice (some ⟨g, 0, none⟩) m cc], .bool true]) (by simp [results, Tryd.results4, go_sem, e0, e1]) rfl ⟨_, rfl, by rw [HML.out]; exact HO9.out, HB9.out⟩
        | false =>
          have hnq : ¬ okQ (tx s) := fun h => by
            have h9 := HIF.out.1 h
            rw [h9, ByteArray.toList_eq, beq_self_eq_true] at hr9
            cases hr9
          obtain ⟨r1, r2, r3⟩ := HNO.out hnq
          subst r1 r2 r3
          clear hnq
          go_wp2_with fail
          refine (sFmtR wr.heap.size m cc (some ⟨g, 0, none⟩) ww (D ++ [(c : Int)]) wr (by omega) HA.out (Nat.le_refl _)).mono ?_
          rintro e w5 ⟨rfl, hb5⟩
          have hr5 := hr.out.on hb5 hr.out.lt
          have HB5 := Lib.hid (hb.out.trans (hb5.mono hb.out.size))
          clear c0 c1 hb5 hv ho hr hb
          have q0 := hr5.c0
          have q1 := hr5.c1
          have q2 := hr5.f 0
          have q3 := hr5.f 1
          have R9 := hr5.set2 0 (.slice none 0 0)
          have e0 := R9.c0
          have e1 := R9.c1
          have HB9 := Lib.hid ((HB5.out.setCell (p := ⟨w.heap.size, 0, none⟩) (Nat.le_refl _) (.int .i64 0)).setCell (p := ⟨w.heap.size, 1, none⟩) (Nat.le_refl _) (.slice none 0 0))
          go_wp2
          generalize ((w5.setCell ⟨w.heap.size, 0, none⟩ (.int .i64 0)).setCell ⟨w.heap.size, 1, none⟩ (.slice none 0 0)) = w9 at *
          exact bodyPost_ret (v := .tuple #[.agg #[.int .i64 0, .slice none 0 0], .bool false]) (by simp [results, Tryd.results4, go_sem, e0, e1]) rfl ⟨_, rfl, nil_rowI _ _, HB9.out⟩

end Go.Proofs.YtbfopdflkkcfaaaDoor
