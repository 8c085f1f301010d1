/-
  A text as a shape, in the model: what the call gives.
  What a name of a piece stands for: plain facts; the model's PieceNamed.
  What a walk is told of a slice of integers that came in, and what its helpers of one byte are.
  The reader of drawn inputs: a block of three cells over the bytes that came in. What a byte and a number below a bound give.
-/
import Derived.Test.YtailmmamgnebhaaGreatDoorXab
import Derived.Test.YtailmmamgnebhaaGreatDoorKit
import Derived.OpenShut
import Derived.Deep.Draws
namespace Go.Proofs.YtailmmamgnebhaaGreatDoor

section
open Go.RowKit

theorem pst_bd : ∀ (l : List UInt8) (x y : Int), 0 ≤ x → 0 ≤ y → 0 ≤ (pst l x y).1 ∧ (pst l x y).1 ≤ x + l.length ∧ 0 ≤ (pst l x y).2 ∧ (pst l x y).2 ≤ y + l.length
  | [], x, y, hx, hy => by simp [pst]; omega
  | b :: r, x, y, hx, hy => by
    rw [pst]
    split
    · have := pst_bd r 0 (y + 1) (by omega) (by omega)
      simp only [List.length_cons]
      omega
    · have := pst_bd r (x + 1) y (by omega) (by omega)
      simp only [List.length_cons]
      omega
theorem pcs_bd : ∀ (l : List UInt8) (x y : Int), 0 ≤ x → 0 ≤ y → (pcs l x y).length ≤ l.length ∧ ∀ c ∈ pcs l x y, 0 ≤ c.1 ∧ c.1 ≤ x + l.length ∧ 0 ≤ c.2 ∧ c.2 ≤ y + l.length
  | [], x, y, hx, hy => by simp [pcs]
  | b :: r, x, y, hx, hy => by
    rw [pcs]
    split
    · have := pcs_bd r 0 (y + 1) (by omega) (by omega)
      refine ⟨by simp only [List.length_cons]; omega, fun c hc => ?_⟩
      have := this.2 c hc
      simp only [List.length_cons]
      omega
    · have := pcs_bd r (x + 1) y (by omega) (by omega)
      split
      · refine ⟨by simp only [List.length_cons]; omega, fun c hc => ?_⟩
        rcases List.mem_cons.1 hc with rfl | hc
        · simp only [List.length_cons]
          omega
        · have := this.2 c hc
          simp only [List.length_cons]
          omega
      · refine ⟨by simp only [List.length_cons]; omega, fun c hc => ?_⟩
        have := this.2 c hc
        simp only [List.length_cons]
        omega
theorem pcs_in (s : ByteArray) (hs : s.size ≤ 4194304) : ∀ c ∈ pcs (tx s) 0 0, InC c := by
  intro c hc
  have := (pcs_bd (tx s) 0 0 (by omega) (by omega)).2 c hc
  rw [tx_len] at this
  unfold InC
  omega
/-- One byte more. -/
theorem pcs_next (s : ByteArray) (k : Nat) (h : k < s.size) :
    (s[k] = 47 → pcs ((tx s).take (k + 1)) 0 0 = pcs ((tx s).take k) 0 0 ∧ pst ((tx s).take (k + 1)) 0 0 = (0, (pst ((tx s).take k) 0 0).2 + 1)) ∧
    (s[k] = 35 → pcs ((tx s).take (k + 1)) 0 0 = pcs ((tx s).take k) 0 0 ++ [pst ((tx s).take k) 0 0] ∧ pst ((tx s).take (k + 1)) 0 0 = ((pst ((tx s).take k) 0 0).1 + 1, (pst ((tx s).take k) 0 0).2)) ∧
    (s[k] ≠ 47 → s[k] ≠ 35 → pcs ((tx s).take (k + 1)) 0 0 = pcs ((tx s).take k) 0 0 ∧ pst ((tx s).take (k + 1)) 0 0 = ((pst ((tx s).take k) 0 0).1 + 1, (pst ((tx s).take k) 0 0).2)) := by
  rw [tx_take s k h, pcs_append, pst_append]
  refine ⟨fun e => ?_, fun e => ?_, fun e1 e2 => ?_⟩
  · rw [e]; simp [pcs, pst]
  · rw [e]; simp [pcs, pst]
  · simp [pcs, pst, e1, e2]
theorem okP_len {s : ByteArray} (h : 70 < s.size) : okP (tx s) = false := by
  cases e : okP (tx s) with
  | false => rfl
  | true =>
    have := (okP_out e).2.2.2.1
    rw [tx_len] at this
    omega
theorem okP_byte {s : ByteArray} {k : Nat} (hk : k < s.size) (h : ¬ okB s[k]) : okP (tx s) = false := by
  cases e : okP (tx s) with
  | false => rfl
  | true =>
    refine absurd ((okP_out e).2.2.1 s[k] ?_) h
    rw [← tx_get s k hk]
    exact List.getElem_mem _
theorem parS_no {t : List UInt8} (h : okP t = false) : parS t = [] := if_neg (by rw [h]; simp)
theorem parS_yes {t : List UInt8} (h : okP t = true) : parS t = pcs t 0 0 := if_pos h
theorem gives_none (w : World) {W : World} (hb : Below w.heap.size w W) (b : Bool) (hr : b = false) : GivesCB w [] b (.returned (.tuple #[.slice (some ⟨W.heap.size, 0, none⟩) 0 0, .bool false])) (W.alloc (.cells #[] 40)) := by
  subst hr
  exact ⟨_, _, rfl, World.ownsRow_lit (base := w.heap.size) (e := 40) (size := 2) W #[] 0 hb.size (by simp [maxLen]) rfl, hb.alloc hb.size _⟩

set_option maxHeartbeats 2000000 in
set_option maxRecDepth 100000 in
theorem sParse (s : ByteArray) (w : World) (hs : s.size ≤ 4194304) :
    Calls Tryz.prog 164 #[.string s] w (GivesCB w (parS (tx s)) (okP (tx s))) := by
  go_enter Tryz.func164, Tryz.ntmps164
  go_wp2
  go_loopw [4, 5, 6, 7] (fun v x y i wr => ∃ (k g cc m : Nat), k ≤ s.size ∧ (k = 0 ∨ s.size ≤ 70) ∧ i = .int .i64 k ∧ m ≤ k ∧ v = .slice (some ⟨g, 0, none⟩) m cc ∧ Hid (m = (pcs ((tx s).take k) 0 0).length) ∧ x = .int .i64 (pst ((tx s).take k) 0 0).1 ∧ y = .int .i64 (pst ((tx s).take k) 0 0).2 ∧ wr.ownsRow w.heap.size 40 2 (.slice (some ⟨g, 0, none⟩) m cc) m (cvs (pcs ((tx s).take k) 0 0)) ∧ Below w.heap.size w wr) (fun _ _ _ i _ => s.size - (intOf i).toNat)
  case atStart => exact ⟨0, w.heap.size, 0, 0, by omega, .inl rfl, rfl, by omega, rfl, rfl, rfl, rfl, by simpa [cvs, pcs] using World.ownsRow_lit (base := w.heap.size) (e := 40) (size := 2) w #[] 0 (Nat.le_refl _) (by simp [maxLen]) rfl, (Below.refl _ _).alloc (Nat.le_refl _) _⟩
  case round =>
    obtain ⟨k, g, cc, m, hk, hk70, rfl, hmk, rfl, hm, rfl, rfl, hown, hb⟩ := hrel
    have hsz := hb.size
    by_cases hlt : k < s.size
    · by_cases h70 : s.size ≤ 70
      · have hnx := pcs_next s k hlt
        have hpb := pst_bd ((tx s).take k) 0 0 (by omega) (by omega)
        have hlk : ((tx s).take k).length = k := by rw [List.length_take, tx_len]; omega
        rw [hlk] at hpb
        obtain ⟨⟨x, y⟩, hxy⟩ : ∃ p, pst ((tx s).take k) 0 0 = p := ⟨_, rfl⟩
        rw [hxy] at hnx hpb ⊢
        dsimp only at hnx hpb ⊢
        have HNX := Lib.hid hnx
        have HB := Lib.hid hb
        have HM := Lib.hid hm.out
        clear hnx hxy hlk hb hm
        have hd70 : decide ((s.size : Int) ≤ 70) = true := by simp; omega
        have e35 := byte_int s[k] 35
        have e46 := byte_int s[k] 46
        have e47 := byte_int s[k] 47
        by_cases b35 : s[k] = 35
        · have t35 : (((s[k].toNat : Nat) : Int) == 35) = true := e35.trans (by rw [b35]; rfl)
          have HN := Lib.hid (HNX.out.2.1 b35)
          clear e35 e46 e47 b35
          go_wp2_with (first | (at_builtin; refine wpList_cells rfl _ _ rfl w.heap.size g m cc (pcs ((tx s).take k) 0 0) ⟨wr.heap.size, 0, none⟩ 1 1 [(x, y)] rfl rfl (hown.alloc _) rfl (lies_block (t := 40) (fr := (0, 0)) (heap_alloc_new _ _)) (by omega) ?c5 (wr.heap.size + 1) ?c6 ?_) | go_in)
          case c5 => simp; exact Nat.le_trans HB.out.size (Nat.le_succ _)
          case c6 => simp
          intro g' cc' w2 hown2 hgrow2 hat2 hgb2 hlt2
          have hgo := (hown.lt g rfl).1
          have hb3 := Lib.hid ((HB.out.alloc HB.out.size (.cells #[.int .i64 x, .int .i64 y] 40)).grown hgrow2 (HB.out.alloc HB.out.size (.cells #[.int .i64 x, .int .i64 y] 40)).size (fun j hj => by cases hj; exact hgo))
          have HO2 := Lib.hid hown2
          clear hown2 hgrow2
          go_wp2
          go_roundw
          case rel =>
            refine ⟨k + 1, g', cc', m + 1, by omega, .inr h70, by go_num, by omega, rfl, ?_, ?_, ?_, ?_, hb3.out⟩
            · show m + 1 = _
              rw [HN.out.1, List.length_append, ← HM.out]; rfl
            · rw [HN.out.2]
            · rw [HN.out.2]
            · rw [HN.out.1]; exact HO2.out
          case measure => simp [intOf]; omega
        · have t35 : (((s[k].toNat : Nat) : Int) == 35) = false := e35.trans (by rw [decide_eq_false_iff_not]; exact b35)
          by_cases b46 : s[k] = 46
          · have t46 : (((s[k].toNat : Nat) : Int) == 46) = true := e46.trans (by rw [b46]; rfl)
            have HN := Lib.hid (HNX.out.2.2 (by rw [b46]; decide) b35)
            have HO2 := Lib.hid hown
            clear e35 e46 e47 b35 b46
            go_wp2
            go_roundw
            case rel =>
              refine ⟨k + 1, g, cc, m, by omega, .inr h70, by go_num, by omega, rfl, ?_, ?_, ?_, ?_, HB.out⟩
              · show m = _
                rw [HN.out.1, ← HM.out]
              · rw [HN.out.2]
              · rw [HN.out.2]
              · rw [HN.out.1]; exact HO2.out
            case measure => simp [intOf]; omega
          · have t46 : (((s[k].toNat : Nat) : Int) == 46) = false := e46.trans (by rw [decide_eq_false_iff_not]; exact b46)
            by_cases b47 : s[k] = 47
            · have t47 : (((s[k].toNat : Nat) : Int) == 47) = true := e47.trans (by rw [b47]; rfl)
              have HN := Lib.hid (HNX.out.1 b47)
              have HO2 := Lib.hid hown
              clear e35 e46 e47 b35 b46 b47
              go_wp2
              go_roundw
              case rel =>
                refine ⟨k + 1, g, cc, m, by omega, .inr h70, by go_num, by omega, rfl, ?_, ?_, ?_, ?_, HB.out⟩
                · show m = _
                  rw [HN.out.1, ← HM.out]
                · rw [HN.out.2]
                · rw [HN.out.2]
                · rw [HN.out.1]; exact HO2.out
              case measure => simp [intOf]; omega
            · have t47 : (((s[k].toNat : Nat) : Int) == 47) = false := e47.trans (by rw [decide_eq_false_iff_not]; exact b47)
              have hno := okP_byte hlt (by unfold okB; intro h; rcases h with h | h | h; exact b35 h; exact b46 h; exact b47 h)
              have HNO := Lib.hid hno
              clear e35 e46 e47 b35 b46 b47 hno
              go_wp2
              go_ret2
              rw [parS_no HNO.out, HNO.out]
              exact gives_none w HB.out false rfl
      · have hd70 : decide ((s.size : Int) ≤ 70) = false := by simp; omega
        have hk0 : k = 0 := by omega
        subst hk0
        have HNO := Lib.hid (okP_len (s := s) (by omega))
        have HB := Lib.hid hb
        have he1 : s.toList.isEmpty = false := by rw [ByteArray.toList_eq, List.isEmpty_eq_false_iff]; intro h; have := tx_len s; rw [show tx s = [] from h] at this; simp at this; omega
        have he2 : ¬ s.toList = [] := by intro h; rw [h] at he1; cases he1
        have hcl : pcs ((tx s).take 0) 0 0 = [] := rfl
        rw [hcl] at hown
        have HA := Lib.hid (CellsAt.of_own (l := []) hown (fun c hc => by cases hc))
        have hf : fmtC [] = [] := rfl
        have hne : (fmtC [] == s.toList) = false := by rw [hf, beq_eq_false_iff_ne]; exact fun h => he2 h.symm
        obtain rfl : m = 0 := by omega
        clear hown hb hm hf hcl
        go_wp2_with fail
        refine (sFmt wr.heap.size 0 cc _ [] wr (by omega) HA.out (Nat.le_refl _)).mono ?_
        rintro e w1 ⟨rfl, hb1⟩
        have HB1 := Lib.hid (HB.out.trans (hb1.mono HB.out.size))
        clear hb1
        go_wp2
        go_ret2
        rw [parS_no HNO.out, HNO.out]
        exact gives_none w HB1.out false rfl
    · have hkk : k = s.size := by omega
      have hl : (tx s).take k = tx s := List.take_of_length_le (by rw [tx_len]; omega)
      rw [hl] at hown hm
      have HA := Lib.hid (CellsAt.of_own hown (pcs_in s hs))
      have HB := Lib.hid hb
      by_cases hz : s.size = 0
      · have he2 : s.toList = [] := by rw [ByteArray.toList_eq, ← List.length_eq_zero_iff, tx_len]; exact hz
        have he1 : s.toList.isEmpty = true := by rw [he2]; rfl
        have HNO := Lib.hid (show okP (tx s) = false from by
          have h : tx s = [] := by rw [← List.length_eq_zero_iff, tx_len]; exact hz
          rw [h]; rfl)
        clear hown hm hb
        go_wp2
        go_ret2
        rw [parS_no HNO.out, HNO.out]
        exact gives_none w HB.out false rfl
      · have he2 : ¬ s.toList = [] := by rw [ByteArray.toList_eq, ← List.length_eq_zero_iff, tx_len]; exact hz
        have he1 : s.toList.isEmpty = false := by rw [List.isEmpty_eq_false_iff]; exact he2
        have hok : okP (tx s) = (fmtC (pcs (tx s) 0 0) == s.toList) := by
          unfold okP
          rw [ByteArray.toList_eq] at he2 ⊢
          rw [Bool.eq_iff_iff, decide_eq_true_eq, beq_iff_eq]
          exact ⟨fun h => h.2, fun h => ⟨he2, h⟩⟩
        have HOK := Lib.hid hok
        have HO := Lib.hid hown
        have HM := Lib.hid hm.out
        clear hown hm hb hok
        cases hr : (fmtC (pcs (tx s) 0 0) == s.toList) with
        | true =>
          have hok := HOK.out.trans hr
          have HK := Lib.hid hok
          clear hok
          go_wp2_with fail
          refine (sFmt wr.heap.size m cc _ _ wr (by omega) HA.out (Nat.le_refl _)).mono ?_
          rintro e w1 ⟨rfl, hb1⟩
          have HB1 := Lib.hid (HB.out.trans (hb1.mono HB.out.size))
          have HO1 := Lib.hid (HO.out.kept (grow_below hb1 none) (.inr (by intro e; cases e)))
          clear hb1
          go_wp2
          go_ret2
          rw [parS_yes HK.out, HK.out]
          have hO := HO1.out
          have hM := HM.out
          subst hM
          exact ⟨g, cc, rfl, hO, HB1.out⟩
        | false =>
          have hok := HOK.out.trans hr
          have HK := Lib.hid hok
          clear hok
          go_wp2_with fail
          refine (sFmt wr.heap.size m cc _ _ wr (by omega) HA.out (Nat.le_refl _)).mono ?_
          rintro e w1 ⟨rfl, hb1⟩
          have HB1 := Lib.hid (HB.out.trans (hb1.mono HB.out.size))
          clear hb1
          go_wp2
          go_ret2
          rw [parS_no HK.out, HK.out]
          exact gives_none w HB1.out false rfl
end

section
open Go.RowKit

/-- The twelve names and their formats, as the package's table holds them. -/
def pcL : List (List UInt8 × List UInt8) := [([73, 50], [35, 35]), ([73, 51], [35, 35, 35]), ([86, 51], [35, 35, 47, 35]), ([73, 52], [35, 35, 35, 35]), ([76, 52], [35, 35, 35, 47, 35]), ([84, 52], [35, 35, 35, 47, 46, 35]), ([83, 52], [46, 35, 35, 47, 35, 35]), ([79, 52], [35, 35, 47, 35, 35]), ([88, 53], [46, 35, 47, 35, 35, 35, 47, 46, 35]), ([80, 53], [35, 35, 47, 35, 35, 47, 35]), ([87, 53], [35, 47, 35, 35, 47, 46, 35, 35]), ([85, 53], [35, 46, 35, 47, 35, 35, 35])]
def nmB (k : Nat) : ByteArray := ⟨(pcL.getD k ([], [])).1.toArray⟩
def txB (k : Nat) : ByteArray := ⟨(pcL.getD k ([], [])).2.toArray⟩
/-- The format that a name stands for; none: empty. -/
def fmB (s : ByteArray) : ByteArray := match (List.range 12).find? (fun k => decide (nmB k = s)) with
  | some k => txB k
  | none => ⟨#[]⟩
theorem fmB_at {s : ByteArray} {k : Nat} (hk : k < 12) (h : nmB k = s) (hb : ∀ j, j < k → nmB j ≠ s) : fmB s = txB k := by
  have : (List.range 12).find? (fun k => decide (nmB k = s)) = some k := by
    rw [List.find?_range_eq_some]
    exact ⟨by simpa using h, by simpa using hk, fun j hj => by simpa using hb j hj⟩
  unfold fmB
  rw [this]
theorem fmB_no {s : ByteArray} (hb : ∀ j, j < 12 → nmB j ≠ s) : fmB s = ⟨#[]⟩ := by
  have : (List.range 12).find? (fun k => decide (nmB k = s)) = none := by
    rw [List.find?_eq_none]
    intro x hx
    have := hb x (List.mem_range.1 hx)
    simpa using this
  unfold fmB
  rw [this]
theorem okP_nil : okP (tx ⟨#[]⟩) = false := by
  cases h : okP (tx ⟨#[]⟩) with
  | false => rfl
  | true => exact absurd rfl (okP_out h).2.2.2.2
theorem parS_nil : parS (tx ⟨#[]⟩) = [] := parS_no okP_nil
theorem txB_size : ∀ k, k < 12 → (txB k).size ≤ 9 := by decide +kernel
theorem nmB_inj : ∀ k, k < 12 → ∀ j, j < 12 → nmB j = nmB k → j = k := by decide +kernel
theorem fmB_nm (k : Nat) (hk : k < 12) : fmB (nmB k) = txB k := fmB_at hk rfl fun j hj e => by
  have := nmB_inj k hk j (by omega) e
  omega
theorem eq_of_list {s : ByteArray} {l : List UInt8} (h : (s.toList == l) = true) : s = ⟨l.toArray⟩ := by
  have h1 : s.toList = l := by simpa using h
  rw [ByteArray.toList_eq] at h1
  obtain ⟨⟨l2⟩⟩ := s
  simp at h1
  rw [h1]
theorem ne_of_list {s : ByteArray} {l : List UInt8} (h : (s.toList == l) = false) : (⟨l.toArray⟩ : ByteArray) ≠ s := by
  rintro rfl
  rw [ByteArray.toList_mk] at h
  simp at h
theorem fm_hit {s : ByteArray} (k : Nat) (hk : k < 12) (h : (s.toList == (pcL.getD k ([], [])).1) = true) : fmB s = txB k := by
  rw [eq_of_list h]
  exact fmB_nm k hk
theorem fmB_miss {s : ByteArray} (hb : ∀ j, j < 12 → (s.toList == (pcL.getD j ([], [])).1) = false) : fmB s = ⟨#[]⟩ := fmB_no fun j hj => ne_of_list (hb j hj)

set_option maxHeartbeats 2000000 in
set_option maxRecDepth 100000 in
theorem sNamed (s : ByteArray) (w : World) :
    Calls Tryz.prog 129 #[.string s] w (GivesCB w (parS (tx (fmB s))) (okP (tx (fmB s)))) := by
  go_enter Tryz.func129, Tryz.ntmps129
  go_wp2_with fail
  · have hf : fmB s = txB 0 := fm_hit 0 (by omega) ‹(s.toList == [73, 50]) = true›
    have hz := txB_size 0 (by omega)
    refine (sParse (txB 0) w (by omega)).mono ?_
    rintro e w2 ⟨g2, c2, rfl, ho, hb2⟩
    have HR := Lib.hid (show GivesCB w (parS (tx (fmB s))) (okP (tx (fmB s))) (.returned (.tuple #[.slice (some ⟨g2, 0, none⟩) (parS (tx (txB 0))).length c2, .bool (okP (tx (txB 0)))])) w2 from by rw [hf]; exact ⟨g2, c2, rfl, ho, hb2⟩)
    clear ho hb2 hf hz
    generalize (parS (tx (txB 0))).length = nn at *
    generalize okP (tx (txB 0)) = bb at *
    go_wp2
    go_ret2
    exact HR.out
  · have hf : fmB s = txB 1 := fm_hit 1 (by omega) ‹(s.toList == [73, 51]) = true›
    have hz := txB_size 1 (by omega)
    refine (sParse (txB 1) w (by omega)).mono ?_
    rintro e w2 ⟨g2, c2, rfl, ho, hb2⟩
    have HR := Lib.hid (show GivesCB w (parS (tx (fmB s))) (okP (tx (fmB s))) (.returned (.tuple #[.slice (some ⟨g2, 0, none⟩) (parS (tx (txB 1))).length c2, .bool (okP (tx (txB 1)))])) w2 from by rw [hf]; exact ⟨g2, c2, rfl, ho, hb2⟩)
    clear ho hb2 hf hz
    generalize (parS (tx (txB 1))).length = nn at *
    generalize okP (tx (txB 1)) = bb at *
    go_wp2
    go_ret2
    exact HR.out
  · have hf : fmB s = txB 2 := fm_hit 2 (by omega) ‹(s.toList == [86, 51]) = true›
    have hz := txB_size 2 (by omega)
    refine (sParse (txB 2) w (by omega)).mono ?_
    rintro e w2 ⟨g2, c2, rfl, ho, hb2⟩
    have HR := Lib.hid (show GivesCB w (parS (tx (fmB s))) (okP (tx (fmB s))) (.returned (.tuple #[.slice (some ⟨g2, 0, none⟩) (parS (tx (txB 2))).length c2, .bool (okP (tx (txB 2)))])) w2 from by rw [hf]; exact ⟨g2, c2, rfl, ho, hb2⟩)
    clear ho hb2 hf hz
    generalize (parS (tx (txB 2))).length = nn at *
    generalize okP (tx (txB 2)) = bb at *
    go_wp2
    go_ret2
    exact HR.out
  · have hf : fmB s = txB 3 := fm_hit 3 (by omega) ‹(s.toList == [73, 52]) = true›
    have hz := txB_size 3 (by omega)
    refine (sParse (txB 3) w (by omega)).mono ?_
    rintro e w2 ⟨g2, c2, rfl, ho, hb2⟩
    have HR := Lib.hid (show GivesCB w (parS (tx (fmB s))) (okP (tx (fmB s))) (.returned (.tuple #[.slice (some ⟨g2, 0, none⟩) (parS (tx (txB 3))).length c2, .bool (okP (tx (txB 3)))])) w2 from by rw [hf]; exact ⟨g2, c2, rfl, ho, hb2⟩)
    clear ho hb2 hf hz
    generalize (parS (tx (txB 3))).length = nn at *
    generalize okP (tx (txB 3)) = bb at *
    go_wp2
    go_ret2
    exact HR.out
  · have hf : fmB s = txB 4 := fm_hit 4 (by omega) ‹(s.toList == [76, 52]) = true›
    have hz := txB_size 4 (by omega)
    refine (sParse (txB 4) w (by omega)).mono ?_
    rintro e w2 ⟨g2, c2, rfl, ho, hb2⟩
    have HR := Lib.hid (show GivesCB w (parS (tx (fmB s))) (okP (tx (fmB s))) (.returned (.tuple #[.slice (some ⟨g2, 0, none⟩) (parS (tx (txB 4))).length c2, .bool (okP (tx (txB 4)))])) w2 from by rw [hf]; exact ⟨g2, c2, rfl, ho, hb2⟩)
    clear ho hb2 hf hz
    generalize (parS (tx (txB 4))).length = nn at *
    generalize okP (tx (txB 4)) = bb at *
    go_wp2
    go_ret2
    exact HR.out
  · have hf : fmB s = txB 5 := fm_hit 5 (by omega) ‹(s.toList == [84, 52]) = true›
    have hz := txB_size 5 (by omega)
    refine (sParse (txB 5) w (by omega)).mono ?_
    rintro e w2 ⟨g2, c2, rfl, ho, hb2⟩
    have HR := Lib.hid (show GivesCB w (parS (tx (fmB s))) (okP (tx (fmB s))) (.returned (.tuple #[.slice (some ⟨g2, 0, none⟩) (parS (tx (txB 5))).length c2, .bool (okP (tx (txB 5)))])) w2 from by rw [hf]; exact ⟨g2, c2, rfl, ho, hb2⟩)
    clear ho hb2 hf hz
    generalize (parS (tx (txB 5))).length = nn at *
    generalize okP (tx (txB 5)) = bb at *
    go_wp2
    go_ret2
    exact HR.out
  · have hf : fmB s = txB 6 := fm_hit 6 (by omega) ‹(s.toList == [83, 52]) = true›
    have hz := txB_size 6 (by omega)
    refine (sParse (txB 6) w (by omega)).mono ?_
    rintro e w2 ⟨g2, c2, rfl, ho, hb2⟩
    have HR := Lib.hid (show GivesCB w (parS (tx (fmB s))) (okP (tx (fmB s))) (.returned (.tuple #[.slice (some ⟨g2, 0, none⟩) (parS (tx (txB 6))).length c2, .bool (okP (tx (txB 6)))])) w2 from by rw [hf]; exact ⟨g2, c2, rfl, ho, hb2⟩)
    clear ho hb2 hf hz
    generalize (parS (tx (txB 6))).length = nn at *
    generalize okP (tx (txB 6)) = bb at *
    go_wp2
    go_ret2
    exact HR.out
  · have hf : fmB s = txB 7 := fm_hit 7 (by omega) ‹(s.toList == [79, 52]) = true›
    have hz := txB_size 7 (by omega)
    refine (sParse (txB 7) w (by omega)).mono ?_
    rintro e w2 ⟨g2, c2, rfl, ho, hb2⟩
    have HR := Lib.hid (show GivesCB w (parS (tx (fmB s))) (okP (tx (fmB s))) (.returned (.tuple #[.slice (some ⟨g2, 0, none⟩) (parS (tx (txB 7))).length c2, .bool (okP (tx (txB 7)))])) w2 from by rw [hf]; exact ⟨g2, c2, rfl, ho, hb2⟩)
    clear ho hb2 hf hz
    generalize (parS (tx (txB 7))).length = nn at *
    generalize okP (tx (txB 7)) = bb at *
    go_wp2
    go_ret2
    exact HR.out
  · have hf : fmB s = txB 8 := fm_hit 8 (by omega) ‹(s.toList == [88, 53]) = true›
    have hz := txB_size 8 (by omega)
    refine (sParse (txB 8) w (by omega)).mono ?_
    rintro e w2 ⟨g2, c2, rfl, ho, hb2⟩
    have HR := Lib.hid (show GivesCB w (parS (tx (fmB s))) (okP (tx (fmB s))) (.returned (.tuple #[.slice (some ⟨g2, 0, none⟩) (parS (tx (txB 8))).length c2, .bool (okP (tx (txB 8)))])) w2 from by rw [hf]; exact ⟨g2, c2, rfl, ho, hb2⟩)
    clear ho hb2 hf hz
    generalize (parS (tx (txB 8))).length = nn at *
    generalize okP (tx (txB 8)) = bb at *
    go_wp2
    go_ret2
    exact HR.out
  · have hf : fmB s = txB 9 := fm_hit 9 (by omega) ‹(s.toList == [80, 53]) = true›
    have hz := txB_size 9 (by omega)
    refine (sParse (txB 9) w (by omega)).mono ?_
    rintro e w2 ⟨g2, c2, rfl, ho, hb2⟩
    have HR := Lib.hid (show GivesCB w (parS (tx (fmB s))) (okP (tx (fmB s))) (.returned (.tuple #[.slice (some ⟨g2, 0, none⟩) (parS (tx (txB 9))).length c2, .bool (okP (tx (txB 9)))])) w2 from by rw [hf]; exact ⟨g2, c2, rfl, ho, hb2⟩)
    clear ho hb2 hf hz
    generalize (parS (tx (txB 9))).length = nn at *
    generalize okP (tx (txB 9)) = bb at *
    go_wp2
    go_ret2
    exact HR.out
  · have hf : fmB s = txB 10 := fm_hit 10 (by omega) ‹(s.toList == [87, 53]) = true›
    have hz := txB_size 10 (by omega)
    refine (sParse (txB 10) w (by omega)).mono ?_
    rintro e w2 ⟨g2, c2, rfl, ho, hb2⟩
    have HR := Lib.hid (show GivesCB w (parS (tx (fmB s))) (okP (tx (fmB s))) (.returned (.tuple #[.slice (some ⟨g2, 0, none⟩) (parS (tx (txB 10))).length c2, .bool (okP (tx (txB 10)))])) w2 from by rw [hf]; exact ⟨g2, c2, rfl, ho, hb2⟩)
    clear ho hb2 hf hz
    generalize (parS (tx (txB 10))).length = nn at *
    generalize okP (tx (txB 10)) = bb at *
    go_wp2
    go_ret2
    exact HR.out
  · have hf : fmB s = txB 11 := fm_hit 11 (by omega) ‹(s.toList == [85, 53]) = true›
    have hz := txB_size 11 (by omega)
    refine (sParse (txB 11) w (by omega)).mono ?_
    rintro e w2 ⟨g2, c2, rfl, ho, hb2⟩
    have HR := Lib.hid (show GivesCB w (parS (tx (fmB s))) (okP (tx (fmB s))) (.returned (.tuple #[.slice (some ⟨g2, 0, none⟩) (parS (tx (txB 11))).length c2, .bool (okP (tx (txB 11)))])) w2 from by rw [hf]; exact ⟨g2, c2, rfl, ho, hb2⟩)
    clear ho hb2 hf hz
    generalize (parS (tx (txB 11))).length = nn at *
    generalize okP (tx (txB 11)) = bb at *
    go_wp2
    go_ret2
    exact HR.out
  · have hf : fmB s = ⟨#[]⟩ := fmB_miss (fun j hj => match j, hj with
      | 0, _ => ‹(s.toList == [73, 50]) = false›
      | 1, _ => ‹(s.toList == [73, 51]) = false›
      | 2, _ => ‹(s.toList == [86, 51]) = false›
      | 3, _ => ‹(s.toList == [73, 52]) = false›
      | 4, _ => ‹(s.toList == [76, 52]) = false›
      | 5, _ => ‹(s.toList == [84, 52]) = false›
      | 6, _ => ‹(s.toList == [83, 52]) = false›
      | 7, _ => ‹(s.toList == [79, 52]) = false›
      | 8, _ => ‹(s.toList == [88, 53]) = false›
      | 9, _ => ‹(s.toList == [80, 53]) = false›
      | 10, _ => ‹(s.toList == [87, 53]) = false›
      | 11, _ => ‹(s.toList == [85, 53]) = false›
      | n + 12, h => absurd h (by omega))
    go_ret2
    rw [hf, parS_nil, okP_nil]
    exact gives_none w (Below.refl _ _) false rfl
end

section
open Go.RowKit

/-- What the walk is told of a slice of integers that came in. -/
def IsRow (k : IntKind) (w : World) (a : Option Addr) (len cap : Nat) (zs : List Int) : Prop :=
  (a = none ∧ len = 0 ∧ cap = 0 ∧ zs = []) ∨
  ∃ x, a = some x ∧ len ≤ cap ∧ cap ≤ maxLen ∧ zs.length = cap ∧ (∀ i, i < zs.length → w.cell? (x.add i) = some (.int k (zs.getD i 0))) ∧ ∀ n ∈ zs, (Lit.int k n).wf = true
end

section
open Go.RowKit

theorem one_new (wr : World) (T : TypeId) (u : Value) : ∀ j v, [u][j]? = some v → (wr.alloc (.cells #[u] T)).cell? ((⟨wr.heap.size, 0, none⟩ : Addr).add j) = some v := by
  intro j v hj
  match j, hj with
  | 0, hj => simp at hj; subst hj; exact World.cell?_alloc_at _ _ _ _ rfl
theorem one_one (u : Value) (h : u.oneCell' = true) : ∀ v ∈ [u], v.oneCell' = true := by
  intro v hv; simp at hv; subst hv; exact h

theorem map_snoc (l : List UInt8) (b : UInt8) : l.map B ++ [B b] = (l ++ [b]).map B := by simp


/-- Block g is a reader over bytes that lie below block B. -/
def Cur (B : Nat) (w : World) (g : Nat) : Prop :=
  ∃ (a : Option Addr) (len cap i : Nat) (h : Int), w.heap[g]? = some (.cells #[.slice a len cap, .int .i64 i, .int .i64 h] 135 (0, 0)) ∧ i ≤ len ∧ len ≤ 1048576 ∧ len ≤ cap ∧ B ≤ g ∧
    (0 < len → ∃ b off, a = some ⟨b, off, none⟩ ∧ b < B ∧ ∀ k, k < len → ∃ v : UInt8, w.cell? ⟨b, off + k, none⟩ = some (.int .u8 (v.toNat : Int)))

theorem i64_and255 (n : Int) : bits .and .i64 n 255 = n % 256 := by
  have h255 : (BitVec.ofInt 64 255).toNat = 2 ^ 8 - 1 := by decide
  have key : (BitVec.ofInt 64 n &&& BitVec.ofInt 64 255).toNat = (n % ((2 ^ 64 : Nat) : Int)).toNat % 2 ^ 8 := by
    rw [BitVec.toNat_and, BitVec.toNat_ofInt, h255, Nat.and_two_pow_sub_one_eq_mod]
  show IntKind.i64.wrap ((BitVec.ofInt 64 n &&& BitVec.ofInt 64 255).toNat : Nat) = n % 256
  rw [key, IntKind.wrap_i64]
  omega

theorem i64_and30 (n : Int) : bits .and .i64 n 1073741823 = n % 1073741824 := by
  have h255 : (BitVec.ofInt 64 1073741823).toNat = 2 ^ 30 - 1 := by decide
  have key : (BitVec.ofInt 64 n &&& BitVec.ofInt 64 1073741823).toNat = (n % ((2 ^ 64 : Nat) : Int)).toNat % 2 ^ 30 := by
    rw [BitVec.toNat_and, BitVec.toNat_ofInt, h255, Nat.and_two_pow_sub_one_eq_mod]
  show IntKind.i64.wrap ((BitVec.ofInt 64 n &&& BitVec.ofInt 64 1073741823).toNat : Nat) = n % 1073741824
  rw [key, IntKind.wrap_i64]
  omega

theorem grow_set {w w' : World} {g j : Nat} {v : Value} (h : w.grownBy w' (some g)) : w.grownBy (w'.setCell ⟨g, j, none⟩ v) (some g) :=
  ⟨h.os, h.tape, h.output, by simpa [World.setCell] using h.size, fun k hk hne => (Below.heap_setCell w' ⟨g, j, none⟩ v k (fun e => hne (by rw [e]))).trans (h.block k hk hne)⟩
theorem grow_drewN {w w' : World} {r : Option Nat} (h : w.grownBy w' r) (n : Nat) : w.grownBy (w'.drewN n) r := ⟨h.os, h.tape, h.output, h.size, h.block⟩
theorem grow_trans {a b c : World} {r : Option Nat} (h : a.grownBy b r) (k : b.grownBy c r) : a.grownBy c r :=
  ⟨k.os.trans h.os, k.tape.trans h.tape, k.output.trans h.output, Nat.le_trans h.size k.size, fun i hi hne => (k.block i (Nat.lt_of_lt_of_le hi h.size) hne).trans (h.block i hi hne)⟩
theorem below_grow {B g : Nat} {w w' : World} (h : w.grownBy w' (some g)) (hB : B ≤ g) (hs : B ≤ w.heap.size) : Below B w w' :=
  (Below.refl B w).grown h hs (fun k e => by cases e; exact hB)

def SameMem (w w' : World) : Prop := w'.heap = w.heap ∧ w'.os = w.os ∧ w'.tape = w.tape ∧ w'.output = w.output
theorem SameMem.grow {w w1 w' : World} {r : Option Nat} (h : SameMem w1 w') (k : w.grownBy w1 r) : w.grownBy w' r :=
  ⟨h.2.1.trans k.os, h.2.2.1.trans k.tape, h.2.2.2.trans k.output, by rw [h.1]; exact k.size, fun i hi hne => by rw [h.1]; exact k.block i hi hne⟩
set_option maxHeartbeats 1000000 in
set_option maxRecDepth 100000 in
theorem dByte_end (g cap n : Nat) (a : Option Addr) (i : Nat) (h : Int) (w : World) (hi : n ≤ i) (h0 : w.cell? ⟨g, 0, none⟩ = some (.slice a n cap)) (h1 : w.cell? ⟨g, 1, none⟩ = some (.int .i64 i)) (h2 : w.cell? ⟨g, 2, none⟩ = some (.int .i64 h)) (hf : w.frozen? ⟨g, 2, none⟩ = false) :
    Calls Tryz.prog 130 #[.pointer (some ⟨g, 0, none⟩)] w fun e w' => ∃ (x h' : Int), 0 ≤ x ∧ x ≤ 255 ∧ e = .returned (.int .i64 x) ∧ SameMem (w.setCell ⟨g, 2, none⟩ (.int .i64 h')) w' := by
  go_enter Tryz.func130, Tryz.ntmps130
  have hb255 := i64_and255
  go_wp2
  go_quiet (fail)
  go_wp2
  go_quiet (fail)
  go_wp2
  go_ret
  exact ⟨_, _, by omega, by omega, rfl, rfl, rfl, rfl, rfl⟩

set_option maxHeartbeats 1000000 in
set_option maxRecDepth 100000 in
theorem dByte_more (g cap n b off : Nat) (i : Nat) (h : Int) (v : UInt8) (w : World) (hi : i < n) (hn : n ≤ 1048576) (h0 : w.cell? ⟨g, 0, none⟩ = some (.slice (some ⟨b, off, none⟩) n cap)) (h1 : w.cell? ⟨g, 1, none⟩ = some (.int .i64 i)) (h2 : w.cell? ⟨g, 2, none⟩ = some (.int .i64 h)) (hf : w.frozen? ⟨g, 2, none⟩ = false) (hf1 : w.frozen? ⟨g, 1, none⟩ = false)
    (hc : w.cell? ⟨b, off + i, none⟩ = some (.int .u8 (v.toNat : Int))) (hne : b ≠ g) :
    Calls Tryz.prog 130 #[.pointer (some ⟨g, 0, none⟩)] w fun e w' => ∃ (x h' : Int), 0 ≤ x ∧ x ≤ 255 ∧ e = .returned (.int .i64 x) ∧ SameMem ((w.setCell ⟨g, 2, none⟩ (.int .i64 h')).setCell ⟨g, 1, none⟩ (.int .i64 ((i : Int) + 1))) w' := by
  have hv := v.toNat_lt
  have hi0 : (0 : Int) ≤ (i : Int) := by omega
  have hi1 : (i : Int) < (n : Int) := by omega
  go_enter Tryz.func130, Tryz.ntmps130
  have hb255 := i64_and255
  go_wp2
  go_quiet (fail)
  go_wp2
  go_quiet (fail)
  go_wp2
  go_quiet (fail)
  go_wp2
  go_ret
  exact ⟨_, _, by omega, by omega, rfl, rfl, rfl, rfl, rfl⟩

/-- A byte of a reader: a number from 0 to 255; only the reader's own block changes. -/
theorem dByte (B g : Nat) (w : World) (hc : Cur B w g) :
    Calls Tryz.prog 130 #[.pointer (some ⟨g, 0, none⟩)] w fun e w' => ∃ x : Int, 0 ≤ x ∧ x ≤ 255 ∧ e = .returned (.int .i64 x) ∧ Cur B w' g ∧ w.grownBy w' (some g) := by
  obtain ⟨a, len, cap, i, h, hh, hi, hl, hlc, hBg, hrd⟩ := hc
  have h0 : w.cell? ⟨g, 0, none⟩ = some (.slice a len cap) := cell_of_row w g 0 _ _ _ hh
  have h1 : w.cell? ⟨g, 1, none⟩ = some (.int .i64 i) := cell_of_row w g 1 _ _ _ hh
  have h2 : w.cell? ⟨g, 2, none⟩ = some (.int .i64 h) := cell_of_row w g 2 _ _ _ hh
  have hf1 : w.frozen? ⟨g, 1, none⟩ = false := by simp [World.frozen?, hh]
  have hf2 : w.frozen? ⟨g, 2, none⟩ = false := by simp [World.frozen?, hh]
  have far : ∀ (w1 : World), w.grownBy w1 (some g) → (0 < len → ∃ b off, a = some ⟨b, off, none⟩ ∧ b < B ∧ ∀ k, k < len → ∃ v : UInt8, w1.cell? ⟨b, off + k, none⟩ = some (.int .u8 (v.toNat : Int))) := fun w1 hg hp => by
    obtain ⟨b, off, e, hb, hcell⟩ := hrd hp
    exact ⟨b, off, e, hb, fun k hk => by
      obtain ⟨v, hv⟩ := hcell k hk
      exact ⟨v, hg.cell hv (fun e => by have h9 : b = g := Option.some.inj e; omega)⟩⟩
  by_cases hlt : i < len
  · obtain ⟨b, off, rfl, hb, hcell⟩ := hrd (by omega)
    obtain ⟨v, hv⟩ := hcell i hlt
    refine (dByte_more g cap len b off i h v w hlt hl h0 h1 h2 hf2 hf1 hv (by omega)).mono ?_
    rintro e w' ⟨x, h', hx0, hx1, rfl, hs⟩
    have hg : w.grownBy w' (some g) := hs.grow (grow_set (grow_set (World.grownBy.refl w (some g))))
    refine ⟨x, hx0, hx1, rfl, ⟨_, len, cap, i + 1, h', ?_, by omega, hl, hlc, hBg, far w' hg⟩, hg⟩
    rw [hs.1, set_row (set_row hh 2 _) 1 _]
    rfl
  · refine (dByte_end g cap len a i h w (by omega) h0 h1 h2 hf2).mono ?_
    rintro e w' ⟨x, h', hx0, hx1, rfl, hs⟩
    have hg : w.grownBy w' (some g) := hs.grow (grow_set (World.grownBy.refl w (some g)))
    refine ⟨x, hx0, hx1, rfl, ⟨a, len, cap, i, h', ?_, hi, hl, hlc, hBg, far w' hg⟩, hg⟩
    rw [hs.1, set_row hh 2 _]
    rfl

theorem tmod_bd (x n : Int) (hn : 0 < n) : 0 ≤ x % n ∧ x % n < n := ⟨Int.emod_nonneg _ (by omega), Int.emod_lt_of_pos _ hn⟩

set_option maxHeartbeats 1000000 in
/-- A number below n. -/
theorem dBelow (B g : Nat) (n : Int) (w : World) (hc : Cur B w g) (hn : 0 < n) (hn2 : n ≤ 4294967296) :
    Calls Tryz.prog 80 #[.pointer (some ⟨g, 0, none⟩), .int .i64 n] w fun e w' => ∃ x : Int, 0 ≤ x ∧ x < n ∧ e = .returned (.int .i64 x) ∧ Cur B w' g ∧ w.grownBy w' (some g) := by
  have HC := Lib.hid hc
  clear hc
  by_cases h256 : n ≤ 256
  · go_enter Tryz.func80, Tryz.ntmps80
    go_wp2_with fail
    refine (dByte B g _ HC.out).mono ?_
    rintro e w1 ⟨x, hx0, hx1, rfl, hc1, hg1⟩
    have HC1 := Lib.hid hc1
    have HG1 := Lib.hid hg1
    have hm := tmod_bd x n hn
    have HM := Lib.hid hm
    clear hc1 hg1 hm
    go_wp2
    go_ret
    exact ⟨_, HM.out.1, HM.out.2, rfl, HC1.out, HG1.out⟩
  · go_enter Tryz.func80, Tryz.ntmps80
    go_wp2_with fail
    refine (dByte B g _ HC.out).mono ?_
    rintro e w1 ⟨x1, hx0, hx1, rfl, hc1, hg1⟩
    have HC1 := Lib.hid hc1
    have HG1 := Lib.hid hg1
    clear hc1 hg1
    go_wp2_with fail
    refine (dByte B g _ HC1.out).mono ?_
    rintro e w2 ⟨x2, hy0, hy1, rfl, hc2, hg2⟩
    have HC2 := Lib.hid hc2
    have HG2 := Lib.hid hg2
    clear hc2 hg2
    go_wp2_with fail
    refine (dByte B g _ HC2.out).mono ?_
    rintro e w3 ⟨x3, hz0, hz1, rfl, hc3, hg3⟩
    have HC3 := Lib.hid hc3
    have HG3 := Lib.hid hg3
    clear hc3 hg3
    go_wp2_with fail
    refine (dByte B g _ HC3.out).mono ?_
    rintro e w4 ⟨x4, hu0, hu1, rfl, hc4, hg4⟩
    have HC4 := Lib.hid hc4
    have HG4 := Lib.hid hg4
    have HM := Lib.hid (tmod_bd (x1 * 16777216 + x2 * 65536 + x3 * 256 + x4) n hn)
    clear hc4 hg4
    go_wp2
    go_ret
    exact ⟨_, HM.out.1, HM.out.2, rfl, HC4.out, grow_trans (grow_trans (grow_trans HG1.out HG2.out) HG3.out) HG4.out⟩
end

end Go.Proofs.YtailmmamgnebhaaGreatDoor
