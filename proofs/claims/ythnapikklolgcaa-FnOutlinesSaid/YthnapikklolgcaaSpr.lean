/-
  A text as a shape, in the model: what the call gives.
-/
import Derived.Test.YthnapikklolgcaaFmt
import Derived.Test.YthnapikklolgcaaCap
namespace Go.Proofs.Ythnapikklolgcaa
open Go.RowKit

abbrev tx (s : ByteArray) : List UInt8 := s.data.toList
theorem tx_len (s : ByteArray) : (tx s).length = s.size := by simp
theorem tx_get (s : ByteArray) (k : Nat) (h : k < s.size) : (tx s)[k]'(by rw [tx_len]; exact h) = s[k] := rfl
theorem tx_take (s : ByteArray) (k : Nat) (h : k < s.size) : (tx s).take (k + 1) = (tx s).take k ++ [s[k]] := by
  rw [List.take_succ_eq_append_getElem (by rw [tx_len]; exact h), tx_get s k h]
theorem pst_bd : ∀ (l : List UInt8) (x y : Int), 0 ≤ x → 0 ≤ y → 0 ≤ (pst l x y).1 ∧ (pst l x y).1 ≤ x + l.length ∧ 0 ≤ (pst l x y).2 ∧ (pst l x y).2 ≤ y + l.length
  | [], x, y, hx, hy => by simp [pst]; omega
  | b :: r, x, y, hx, hy => by
    rw [pst]
    split
    · have := pst_bd r 0 (y + 1) (by omega) (by omega)
      simp only [List.length_cons]
      omega
    · have := pst_bd r (x + 1) y (by omega) (by omega)
      simp only [List.length_cons]
      omega
theorem pcs_bd : ∀ (l : List UInt8) (x y : Int), 0 ≤ x → 0 ≤ y → (pcs l x y).length ≤ l.length ∧ ∀ c ∈ pcs l x y, 0 ≤ c.1 ∧ c.1 ≤ x + l.length ∧ 0 ≤ c.2 ∧ c.2 ≤ y + l.length
  | [], x, y, hx, hy => by simp [pcs]
  | b :: r, x, y, hx, hy => by
    rw [pcs]
    split
    · have := pcs_bd r 0 (y + 1) (by omega) (by omega)
      refine ⟨by simp only [List.length_cons]; omega, fun c hc => ?_⟩
      have := this.2 c hc
      simp only [List.length_cons]
      omega
    · have := pcs_bd r (x + 1) y (by omega) (by omega)
      split
      · refine ⟨by simp only [List.length_cons]; omega, fun c hc => ?_⟩
        rcases List.mem_cons.1 hc with rfl | hc
        · simp only [List.length_cons]
          omega
        · have := this.2 c hc
          simp only [List.length_cons]
          omega
      · refine ⟨by simp only [List.length_cons]; omega, fun c hc => ?_⟩
        have := this.2 c hc
        simp only [List.length_cons]
        omega
theorem pcs_in (s : ByteArray) (hs : s.size ≤ 4194304) : ∀ c ∈ pcs (tx s) 0 0, InC c := by
  intro c hc
  have := (pcs_bd (tx s) 0 0 (by omega) (by omega)).2 c hc
  rw [tx_len] at this
  unfold InC
  omega
/-- One byte more. -/
theorem pcs_next (s : ByteArray) (k : Nat) (h : k < s.size) :
    (s[k] = 47 → pcs ((tx s).take (k + 1)) 0 0 = pcs ((tx s).take k) 0 0 ∧ pst ((tx s).take (k + 1)) 0 0 = (0, (pst ((tx s).take k) 0 0).2 + 1)) ∧
    (s[k] = 35 → pcs ((tx s).take (k + 1)) 0 0 = pcs ((tx s).take k) 0 0 ++ [pst ((tx s).take k) 0 0] ∧ pst ((tx s).take (k + 1)) 0 0 = ((pst ((tx s).take k) 0 0).1 + 1, (pst ((tx s).take k) 0 0).2)) ∧
    (s[k] ≠ 47 → s[k] ≠ 35 → pcs ((tx s).take (k + 1)) 0 0 = pcs ((tx s).take k) 0 0 ∧ pst ((tx s).take (k + 1)) 0 0 = ((pst ((tx s).take k) 0 0).1 + 1, (pst ((tx s).take k) 0 0).2)) := by
  rw [tx_take s k h, pcs_append, pst_append]
  refine ⟨fun e => ?_, fun e => ?_, fun e1 e2 => ?_⟩
  · rw [e]; simp [pcs, pst]
  · rw [e]; simp [pcs, pst]
  · simp [pcs, pst, e1, e2]
theorem okP_len {s : ByteArray} (h : 70 < s.size) : okP (tx s) = false := by
  cases e : okP (tx s) with
  | false => rfl
  | true =>
    have := (okP_out e).2.2.2.1
    rw [tx_len] at this
    omega
theorem okP_byte {s : ByteArray} {k : Nat} (hk : k < s.size) (h : ¬ okB s[k]) : okP (tx s) = false := by
  cases e : okP (tx s) with
  | false => rfl
  | true =>
    refine absurd ((okP_out e).2.2.1 s[k] ?_) h
    rw [← tx_get s k hk]
    exact List.getElem_mem _
theorem parS_no {t : List UInt8} (h : okP t = false) : parS t = [] := if_neg (by rw [h]; simp)
theorem parS_yes {t : List UInt8} (h : okP t = true) : parS t = pcs t 0 0 := if_pos h
theorem byte_int (b : UInt8) (c : UInt8) : (((b.toNat : Int)) == (c.toNat : Int)) = decide (b = c) := by
  rw [Bool.eq_iff_iff, beq_iff_eq, decide_eq_true_eq]
  constructor
  · intro h
    exact UInt8.toNat_inj.1 (by omega)
  · rintro rfl; rfl
theorem gives_none (w : World) {W : World} (hb : Below w.heap.size w W) (b : Bool) (hr : b = false) : GivesCB w [] b (.returned (.tuple #[.slice (some ⟨W.heap.size, 0, none⟩) 0 0, .bool false])) (W.alloc (.cells #[] 53)) := by
  subst hr
  exact ⟨_, _, rfl, World.ownsRow_lit (base := w.heap.size) (e := 53) (size := 2) W #[] 0 hb.size (by simp [maxLen]) rfl, hb.alloc hb.size _⟩

set_option maxHeartbeats 2000000 in
set_option maxRecDepth 100000 in
theorem sParse (s : ByteArray) (w : World) (hs : s.size ≤ 4194304) :
    Calls Try.prog 92 #[.string s] w (GivesCB w (parS (tx s)) (okP (tx s))) := by
  go_enter Try.func92, Try.ntmps92
  go_wp2
  go_loopw [4, 5, 6, 7] (fun v x y i wr => ∃ (k g cc m : Nat), k ≤ s.size ∧ (k = 0 ∨ s.size ≤ 70) ∧ i = .int .i64 k ∧ m ≤ k ∧ v = .slice (some ⟨g, 0, none⟩) m cc ∧ Hid (m = (pcs ((tx s).take k) 0 0).length) ∧ x = .int .i64 (pst ((tx s).take k) 0 0).1 ∧ y = .int .i64 (pst ((tx s).take k) 0 0).2 ∧ wr.ownsRow w.heap.size 53 2 (.slice (some ⟨g, 0, none⟩) m cc) m (cvs (pcs ((tx s).take k) 0 0)) ∧ Below w.heap.size w wr) (fun _ _ _ i _ => s.size - (intOf i).toNat)
  case atStart => exact ⟨0, w.heap.size, 0, 0, by omega, .inl rfl, rfl, by omega, rfl, rfl, rfl, rfl, by simpa [cvs, pcs] using World.ownsRow_lit (base := w.heap.size) (e := 53) (size := 2) w #[] 0 (Nat.le_refl _) (by simp [maxLen]) rfl, (Below.refl _ _).alloc (Nat.le_refl _) _⟩
  case round =>
    obtain ⟨k, g, cc, m, hk, hk70, rfl, hmk, rfl, hm, rfl, rfl, hown, hb⟩ := hrel
    have hsz := hb.size
    by_cases hlt : k < s.size
    · by_cases h70 : s.size ≤ 70
      · have hnx := pcs_next s k hlt
        have hpb := pst_bd ((tx s).take k) 0 0 (by omega) (by omega)
        have hlk : ((tx s).take k).length = k := by rw [List.length_take, tx_len]; omega
        rw [hlk] at hpb
        obtain ⟨⟨x, y⟩, hxy⟩ : ∃ p, pst ((tx s).take k) 0 0 = p := ⟨_, rfl⟩
        rw [hxy] at hnx hpb ⊢
        dsimp only at hnx hpb ⊢
        have HNX := Lib.hid hnx
        have HB := Lib.hid hb
        have HM := Lib.hid hm.out
        clear hnx hxy hlk hb hm
        have hd70 : decide ((s.size : Int) ≤ 70) = true := by simp; omega
        have e35 := byte_int s[k] 35
        have e46 := byte_int s[k] 46
        have e47 := byte_int s[k] 47
        by_cases b35 : s[k] = 35
        · have t35 : (((s[k].toNat : Nat) : Int) == 35) = true := e35.trans (by rw [b35]; rfl)
          have HN := Lib.hid (HNX.out.2.1 b35)
          clear e35 e46 e47 b35
          go_wp2_with (first | (at_builtin; refine wpList_cells rfl _ _ rfl w.heap.size g m cc (pcs ((tx s).take k) 0 0) ⟨wr.heap.size, 0, none⟩ 1 1 [(x, y)] rfl rfl (hown.alloc _) rfl (lies_block (t := 53) (fr := (0, 0)) (heap_alloc_new _ _)) (by omega) ?c5 (wr.heap.size + 1) ?c6 ?_) | go_in)
          case c5 => simp; exact Nat.le_trans HB.out.size (Nat.le_succ _)
          case c6 => simp
          intro g' cc' w2 hown2 hgrow2 hat2 hgb2 hlt2
          have hgo := (hown.lt g rfl).1
          have hb3 := Lib.hid ((HB.out.alloc HB.out.size (.cells #[.int .i64 x, .int .i64 y] 53)).grown hgrow2 (HB.out.alloc HB.out.size (.cells #[.int .i64 x, .int .i64 y] 53)).size (fun j hj => by cases hj; exact hgo))
          have HO2 := Lib.hid hown2
          clear hown2 hgrow2
          go_wp2
          go_roundw
          case rel =>
            refine ⟨k + 1, g', cc', m + 1, by omega, .inr h70, by go_num, by omega, rfl, ?_, ?_, ?_, ?_, hb3.out⟩
            · show m + 1 = _
              rw [HN.out.1, List.length_append, ← HM.out]; rfl
            · rw [HN.out.2]
            · rw [HN.out.2]
            · rw [HN.out.1]; exact HO2.out
          case measure => simp [intOf]; omega
        · have t35 : (((s[k].toNat : Nat) : Int) == 35) = false := e35.trans (by rw [decide_eq_false_iff_not]; exact b35)
          by_cases b46 : s[k] = 46
          · have t46 : (((s[k].toNat : Nat) : Int) == 46) = true := e46.trans (by rw [b46]; rfl)
            have HN := Lib.hid (HNX.out.2.2 (by rw [b46]; decide) b35)
            have HO2 := Lib.hid hown
            clear e35 e46 e47 b35 b46
            go_wp2
            go_roundw
            case rel =>
              refine ⟨k + 1, g, cc, m, by omega, .inr h70, by go_num, by omega, rfl, ?_, ?_, ?_, ?_, HB.out⟩
              · show m = _
                rw [HN.out.1, ← HM.out]
              · rw [HN.out.2]
              · rw [HN.out.2]
              · rw [HN.out.1]; exact HO2.out
            case measure => simp [intOf]; omega
          · have t46 : (((s[k].toNat : Nat) : Int) == 46) = false := e46.trans (by rw [decide_eq_false_iff_not]; exact b46)
            by_cases b47 : s[k] = 47
            · have t47 : (((s[k].toNat : Nat) : Int) == 47) = true := e47.trans (by rw [b47]; rfl)
              have HN := Lib.hid (HNX.out.1 b47)
              have HO2 := Lib.hid hown
              clear e35 e46 e47 b35 b46 b47
              go_wp2
              go_roundw
              case rel =>
                refine ⟨k + 1, g, cc, m, by omega, .inr h70, by go_num, by omega, rfl, ?_, ?_, ?_, ?_, HB.out⟩
                · show m = _
                  rw [HN.out.1, ← HM.out]
                · rw [HN.out.2]
                · rw [HN.out.2]
                · rw [HN.out.1]; exact HO2.out
              case measure => simp [intOf]; omega
            · have t47 : (((s[k].toNat : Nat) : Int) == 47) = false := e47.trans (by rw [decide_eq_false_iff_not]; exact b47)
              have hno := okP_byte hlt (by unfold okB; intro h; rcases h with h | h | h; exact b35 h; exact b46 h; exact b47 h)
              have HNO := Lib.hid hno
              clear e35 e46 e47 b35 b46 b47 hno
              go_wp2
              go_ret2
              rw [parS_no HNO.out, HNO.out]
              exact gives_none w HB.out false rfl
      · have hd70 : decide ((s.size : Int) ≤ 70) = false := by simp; omega
        have hk0 : k = 0 := by omega
        subst hk0
        have HNO := Lib.hid (okP_len (s := s) (by omega))
        have HB := Lib.hid hb
        have he1 : s.toList.isEmpty = false := by rw [ByteArray.toList_eq, List.isEmpty_eq_false_iff]; intro h; have := tx_len s; rw [show tx s = [] from h] at this; simp at this; omega
        have he2 : ¬ s.toList = [] := by intro h; rw [h] at he1; cases he1
        have hcl : pcs ((tx s).take 0) 0 0 = [] := rfl
        rw [hcl] at hown
        have HA := Lib.hid (CellsAt.of_own (l := []) hown (fun c hc => by cases hc))
        have hf : fmtC [] = [] := rfl
        have hne : (fmtC [] == s.toList) = false := by rw [hf, beq_eq_false_iff_ne]; exact fun h => he2 h.symm
        obtain rfl : m = 0 := by omega
        clear hown hb hm hf hcl
        go_wp2_with fail
        refine (sFmt wr.heap.size 0 cc _ [] wr (by omega) HA.out (Nat.le_refl _)).mono ?_
        rintro e w1 ⟨rfl, hb1⟩
        have HB1 := Lib.hid (HB.out.trans (hb1.mono HB.out.size))
        clear hb1
        go_wp2
        go_ret2
        rw [parS_no HNO.out, HNO.out]
        exact gives_none w HB1.out false rfl
    · have hkk : k = s.size := by omega
      have hl : (tx s).take k = tx s := List.take_of_length_le (by rw [tx_len]; omega)
      rw [hl] at hown hm
      have HA := Lib.hid (CellsAt.of_own hown (pcs_in s hs))
      have HB := Lib.hid hb
      by_cases hz : s.size = 0
      · have he2 : s.toList = [] := by rw [ByteArray.toList_eq, ← List.length_eq_zero_iff, tx_len]; exact hz
        have he1 : s.toList.isEmpty = true := by rw [he2]; rfl
        have HNO := Lib.hid (show okP (tx s) = false from by
          have h : tx s = [] := by rw [← List.length_eq_zero_iff, tx_len]; exact hz
          rw [h]; rfl)
        clear hown hm hb
        go_wp2
        go_ret2
        rw [parS_no HNO.out, HNO.out]
        exact gives_none w HB.out false rfl
      · have he2 : ¬ s.toList = [] := by rw [ByteArray.toList_eq, ← List.length_eq_zero_iff, tx_len]; exact hz
        have he1 : s.toList.isEmpty = false := by rw [List.isEmpty_eq_false_iff]; exact he2
        have hok : okP (tx s) = (fmtC (pcs (tx s) 0 0) == s.toList) := by
          unfold okP
          rw [ByteArray.toList_eq] at he2 ⊢
          rw [Bool.eq_iff_iff, decide_eq_true_eq, beq_iff_eq]
          exact ⟨fun h => h.2, fun h => ⟨he2, h⟩⟩
        have HOK := Lib.hid hok
        have HO := Lib.hid hown
        have HM := Lib.hid hm.out
        clear hown hm hb hok
        cases hr : (fmtC (pcs (tx s) 0 0) == s.toList) with
        | true =>
          have hok := HOK.out.trans hr
          have HK := Lib.hid hok
          clear hok
          go_wp2_with fail
          refine (sFmt wr.heap.size m cc _ _ wr (by omega) HA.out (Nat.le_refl _)).mono ?_
          rintro e w1 ⟨rfl, hb1⟩
          have HB1 := Lib.hid (HB.out.trans (hb1.mono HB.out.size))
          have HO1 := Lib.hid (HO.out.kept (grow_below hb1 none) (.inr (by intro e; cases e)))
          clear hb1
          go_wp2
          go_ret2
          rw [parS_yes HK.out, HK.out]
          have hO := HO1.out
          have hM := HM.out
          subst hM
          exact ⟨g, cc, rfl, hO, HB1.out⟩
        | false =>
          have hok := HOK.out.trans hr
          have HK := Lib.hid hok
          clear hok
          go_wp2_with fail
          refine (sFmt wr.heap.size m cc _ _ wr (by omega) HA.out (Nat.le_refl _)).mono ?_
          rintro e w1 ⟨rfl, hb1⟩
          have HB1 := Lib.hid (HB.out.trans (hb1.mono HB.out.size))
          clear hb1
          go_wp2
          go_ret2
          rw [parS_no HK.out, HK.out]
          exact gives_none w HB1.out false rfl

end Go.Proofs.Ythnapikklolgcaa
