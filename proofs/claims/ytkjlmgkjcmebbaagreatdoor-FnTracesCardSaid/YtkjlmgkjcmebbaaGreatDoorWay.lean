/-
  A shape as a text, in the model: what the call gives.
  A text cut at its strokes: the pieces. Nothing of the program is claimed here.
  A text as a shape, in the model: what the call gives.
  What a name of a piece stands for: plain facts; the model's PieceNamed.
-/
import Derived.Test.YtkjlmgkjcmebbaaGreatDoorWab
import Derived.Test.YtkjlmgkjcmebbaaGreatDoorWaa
import Derived.Lib.SplitLaws
namespace Go.Proofs.YtkjlmgkjcmebbaaGreatDoor

section
open Go.RowKit

def xAt (i : Nat) (x0 : Int) : Int := if i = 0 then x0 else 0
theorem rep_snoc (t : List UInt8) (i : Nat) (b : UInt8) : t ++ List.replicate i b ++ [b] = t ++ List.replicate (i + 1) b := by
  rw [List.append_assoc, ← List.replicate_succ']

set_option maxHeartbeats 2000000 in
set_option maxRecDepth 100000 in
theorem sFmt (B n cap : Nat) (a : Option Addr) (l : List Cl) (w : World) (hn : n ≤ 4194304) (hc : CellsAt B w a n l) (hB : B ≤ w.heap.size) :
    Calls Tryz.prog 183 #[.slice a n cap] w fun e w' => e = .returned (S (fmtC l)) ∧ Below w.heap.size w w' := by
  have H := Lib.hid hc
  clear hc
  go_enter Tryz.func183, Tryz.ntmps183
  go_wp2_with fail
  refine (sCornerShape B n cap a l w hn H.out hB).mono ?_
  rintro e w1 ⟨g, cc, rfl, hown, hb1⟩
  have HA := Lib.hid (CellsAt.of_own hown (fun c hc => inP_in (cornS_in l c hc)))
  have HP := Lib.hid (cornS_in l)
  have HF := Lib.hid (show fmtC l = (fmtTo (cornS l) (cornS l).length).1 from rfl)
  have hm := cornS_len l
  obtain ⟨m, hm'⟩ : ∃ m, (cornS l).length = m := ⟨_, rfl⟩
  rw [hm'] at hm hown ⊢
  have HM := Lib.hid hm'
  clear hm' hown
  go_wp2
  go_loopw [4, 5, 6, 7] (fun t x y i wr => ∃ k : Nat, k ≤ m ∧ i = .int .i64 k ∧ t = S (fmtTo (cornS l) k).1 ∧ x = .int .i64 (fmtTo (cornS l) k).2.1 ∧ y = .int .i64 (fmtTo (cornS l) k).2.2 ∧ wr = w1) (fun _ _ _ i _ => m - (intOf i).toNat)
  case atStart => exact ⟨0, by omega, rfl, rfl, rfl, rfl, rfl⟩
  case round =>
    obtain ⟨k, hk, rfl, rfl, rfl, rfl, rfl⟩ := hrel
    have hx1 := fmtTo_bd (cornS l) HP.out k (by rw [HM.out]; exact hk)
    by_cases hlt : k < m
    · obtain ⟨b1, o1, he, hb1', hc1⟩ := HA.out.2.2 (by rw [HM.out]; omega)
      injection he with he
      injection he with he1 he2
      subst he1 he2
      rw [HM.out] at hc1
      obtain ⟨x, y, hxy⟩ : ∃ x y, (cornS l).getD k (0, 0) = (x, y) := ⟨_, _, rfl⟩
      have p1 := (hc1 k hlt).1
      have p2 := (hc1 k hlt).2
      rw [hxy] at p1 p2
      have hpx := inP_out (HP.out _ (getD_mem (l := cornS l) (j := k) (by rw [HM.out]; exact hlt)))
      rw [hxy] at hpx
      dsimp only at hpx
      have hstep := fmtTo_step (cornS l) k
      rw [hxy] at hstep
      obtain ⟨⟨t0, x0, y0⟩, h0⟩ : ∃ s, fmtTo (cornS l) k = s := ⟨_, rfl⟩
      rw [h0] at hstep hx1 ⊢
      dsimp only at hstep hx1 ⊢
      have HS := Lib.hid hstep
      have hk0 : (0 : Int) ≤ (k : Int) := by omega
      have hk1 : (k : Int) < (m : Int) := by omega
      clear hxy hc1 hstep h0
      simp only [Nat.zero_add] at p1 p2
      go_wp2
      go_loop [4, 5, 6] (fun t x' y' => ∃ i : Nat, t = S (t0 ++ List.replicate i 47) ∧ Hid (i ≤ (y - y0).toNat) ∧ x' = .int .i64 (xAt i x0) ∧ y' = .int .i64 (y0 + i)) (fun _ _ y' => (y - intOf y').toNat)
      case atStart => exact ⟨0, by simp, Nat.zero_le _, by simp [xAt], by simp⟩
      case round =>
        obtain ⟨i, rfl, hi, rfl, rfl⟩ := hrel
        have hxx : xAt i x0 = 0 ∨ xAt i x0 = x0 := by unfold xAt; split <;> simp
        by_cases hy : y0 + i < y
        · have HS47 := Lib.hid (rep_snoc t0 i 47)
          have hi7 : i ≤ 7 := by have := hi.out; omega
          have ht7 : t0.length ≤ 120 := by omega
          have HI := Lib.hid (show i + 1 ≤ (y - y0).toNat by omega)
          go_wp2
          go_round
          case rel => exact ⟨i + 1, by rw [S_append, HS47.out], HI.out, by simp [xAt], by go_num⟩
          case measure => simp [intOf]; omega
        · have hi2 : i = (y - y0).toNat ∨ (i = 0 ∧ y ≤ y0) := by have := hi.out; omega
          have hx2 : xAt i x0 = if y0 < y then 0 else x0 := by
            unfold xAt
            rcases hi2 with h | h
            · by_cases h3 : y0 < y
              · rw [if_pos h3, if_neg (by omega)]
              · rw [if_neg h3, if_pos (by omega)]
            · rw [if_pos h.1, if_neg (by omega)]
          have hy2 : y0 + (i : Int) = if y0 < y then y else y0 := by
            split <;> omega
          have hr2 : List.replicate i (47 : UInt8) = List.replicate (y - y0).toNat 47 := by
            congr 1
            omega
          obtain ⟨x1, hx1'⟩ : ∃ x1, xAt i x0 = x1 := ⟨_, rfl⟩
          obtain ⟨y1, hy1'⟩ : ∃ y1, y0 + (i : Int) = y1 := ⟨_, rfl⟩
          obtain ⟨t1, ht1⟩ : ∃ t1, t0 ++ List.replicate (y - y0).toNat 47 = t1 := ⟨_, rfl⟩
          have htl : t1.length ≤ 200 := by rw [← ht1]; simp; omega
          have hy3 : ¬ y1 < y := by omega
          rw [hx1'] at hx2 hxx ⊢
          rw [hy1'] at hy2 ⊢
          rw [ht1] at HS
          have hxb : 0 ≤ x1 ∧ x1 ≤ 8 + k := by omega
          have HX2 := Lib.hid hx2.symm
          have HY2 := Lib.hid hy2.symm
          rw [hr2, ht1]
          clear hi2 hx2 hy2 hr2 hx1' hy1' hy hxx hi ht1
          go_wp2
          go_loop [4, 5] (fun t x' => ∃ i : Nat, t = S (t1 ++ List.replicate i 46) ∧ Hid (i ≤ (x - x1).toNat) ∧ x' = .int .i64 (x1 + i)) (fun _ x' => (x - intOf x').toNat)
          case atStart => exact ⟨0, by simp, Nat.zero_le _, by simp⟩
          case round =>
            obtain ⟨i, rfl, hi, rfl⟩ := hrel
            by_cases hx : x1 + i < x
            · have HS46 := Lib.hid (rep_snoc t1 i 46)
              have hi7 : i ≤ 7 := by have := hi.out; omega
              have HI := Lib.hid (show i + 1 ≤ (x - x1).toNat by omega)
              go_wp2
              go_round
              case rel => exact ⟨i + 1, by rw [S_append, HS46.out], HI.out, by go_num⟩
              case measure => simp [intOf]; omega
            · have hi2 : i = (x - x1).toNat := by have := hi.out; omega
              have hi7 : i ≤ 7 := by omega
              have hx3 : x1 + (i : Int) = if x1 < x then x else x1 := by split <;> omega
              have hE : fmtTo (cornS l) (k + 1) = (t1 ++ List.replicate i 46 ++ [35], x1 + (i : Int) + 1, y1) := by
                rw [HS.out, HX2.out, HY2.out, ← hx3, hi2]
              have HE := Lib.hid hE
              clear hi2 hx3 hE hi
              go_wp2
              go_roundw
              case rel => exact ⟨k + 1, by omega, by go_num, by rw [HE.out, S_append], by rw [HE.out], by rw [HE.out], trivial⟩
              case measure => simp [intOf]; omega
    · obtain rfl : k = m := by omega
      have e : fmtC l = (fmtTo (cornS l) k).1 := by rw [HF.out, HM.out]
      have E := Lib.hid e
      clear e
      go_wp2
      go_ret
      rw [E.out]
      exact ⟨rfl, hb1⟩
end

section
open Go.RowKit

abbrev tx (s : ByteArray) : List UInt8 := s.data.toList
theorem tx_len (s : ByteArray) : (tx s).length = s.size := by simp
theorem tx_get (s : ByteArray) (k : Nat) (h : k < s.size) : (tx s)[k]'(by rw [tx_len]; exact h) = s[k] := rfl
theorem tx_take (s : ByteArray) (k : Nat) (h : k < s.size) : (tx s).take (k + 1) = (tx s).take k ++ [s[k]] := by
  rw [List.take_succ_eq_append_getElem (by rw [tx_len]; exact h), tx_get s k h]
theorem byte_int (b : UInt8) (c : UInt8) : (((b.toNat : Int)) == (c.toNat : Int)) = decide (b = c) := by
  rw [Bool.eq_iff_iff, beq_iff_eq, decide_eq_true_eq]
  constructor
  · intro h
    exact UInt8.toNat_inj.1 (by omega)
  · rintro rfl; rfl
def cut47 : List UInt8 → List (List UInt8)
  | [] => [[]]
  | b :: r => if b = 47 then [] :: cut47 r else match cut47 r with
    | p :: ps => (b :: p) :: ps
    | [] => [[b]]
theorem cut47_ne : ∀ l, cut47 l ≠ []
  | [] => by simp [cut47]
  | b :: r => by
    unfold cut47
    split
    · simp
    · split <;> simp
theorem split_nil : Lib.split [] [47] = [[]] := by
  unfold Lib.split
  rw [Lib.count_miss (by simp [Lib.index])]
  rfl
theorem split_47 (r : List UInt8) : Lib.split (47 :: r) [47] = [] :: Lib.split r [47] := by
  have hix : Lib.index (47 :: r) [47] = ((0 : Nat) : Int) := by rw [Lib.index]; simp [List.isPrefixOf]
  unfold Lib.split
  rw [Lib.count_cons_eq, Nat.add_comm]
  show (if Lib.index (47 :: r) [47] == -1 then [47 :: r] else (47 :: r).take ((Lib.index (47 :: r) [47]).toNat + 0) :: Lib.splitK [47] 0 (Lib.count r [47]) ((47 :: r).drop ((Lib.index (47 :: r) [47]).toNat + [(47 : UInt8)].length))) = _
  rw [if_neg (by rw [hix]; decide), hix]
  rfl
theorem split_no (b : UInt8) (r : List UInt8) (h : b ≠ 47) : Lib.split (b :: r) [47] = match Lib.split r [47] with
    | p :: ps => (b :: p) :: ps
    | [] => [[b]] := by
  have hp : ([47] : List UInt8).isPrefixOf (b :: r) = false := by simp [List.isPrefixOf, Ne.symm h]
  have hix : Lib.index (b :: r) [47] = if Lib.index r [47] == -1 then -1 else Lib.index r [47] + 1 := by rw [Lib.index, hp]; simp
  unfold Lib.split
  rw [Lib.count_cons_ne b 47 r h]
  by_cases hm : Lib.index r [47] = -1
  · rw [Lib.count_miss hm]
    rfl
  · have hge := Lib.index_ge r [47]
    obtain ⟨j, hj⟩ : ∃ j : Nat, Lib.index r [47] = j := ⟨(Lib.index r [47]).toNat, by omega⟩
    have hix' : Lib.index (b :: r) [47] = ((j + 1 : Nat) : Int) := by rw [hix, if_neg (fun e => hm (beq_iff_eq.1 e)), hj]; omega
    rw [Lib.count_hit (by simp) hj, Nat.add_comm]
    unfold Lib.splitK
    rw [if_neg (by rw [hix', beq_iff_eq]; omega), if_neg (by rw [hj, beq_iff_eq]; omega), hix', hj]
    simp
theorem split_cut : ∀ l, Lib.split l [47] = cut47 l
  | [] => split_nil
  | b :: r => by
    unfold cut47
    by_cases h : b = 47
    · subst h
      rw [if_pos rfl, split_47, split_cut r]
    · rw [if_neg h, split_no b r h, split_cut r]
def pieces (s : ByteArray) : List ByteArray := Lib.splitB ⟨#[47]⟩ 0 (Lib.countB s ⟨#[47]⟩) s
theorem pieces_len (s : ByteArray) : (pieces s).length = Lib.countB s ⟨#[47]⟩ + 1 := Lib.splitB_all ⟨#[47]⟩ (by decide) 0 _ s rfl
theorem pieces_data (s : ByteArray) : (pieces s).map (fun p => tx p) = cut47 (tx s) := by
  rw [← split_cut]
  unfold pieces
  rw [Lib.splitB_data]
  rfl
theorem pieces_get (s : ByteArray) (k : Nat) (h : k < (pieces s).length) : ((pieces s).map fun p => tx p).getD k [] = tx ((pieces s)[k]) := by simp [List.getD, h]
theorem cut47_len : ∀ (l p : List UInt8), p ∈ cut47 l → p.length ≤ l.length
  | [], p, h => by simp [cut47] at h; subst h; exact Nat.le_refl _
  | b :: r, p, h => by
    unfold cut47 at h
    have ih := cut47_len r
    split at h
    · rcases List.mem_cons.1 h with rfl | h
      · simp
      · have := ih p h; simp only [List.length_cons]; omega
    · split at h
      · rename_i q qs hq
        rcases List.mem_cons.1 h with rfl | h
        · have := ih q (by rw [hq]; simp); simp only [List.length_cons]; omega
        · have := ih p (by rw [hq]; simp [h]); simp only [List.length_cons]; omega
      · simp at h; subst h; simp
theorem piece_size (s : ByteArray) (k : Nat) (h : k < (pieces s).length) : (pieces s)[k].size ≤ s.size := by
  have := cut47_len (tx s) (tx (pieces s)[k]) (by
    rw [← pieces_data]
    exact List.mem_map.2 ⟨_, List.getElem_mem h, rfl⟩)
  rw [tx_len, tx_len] at this
  exact this
theorem pieces_le (s : ByteArray) : (pieces s).length ≤ s.size + 1 := by
  rw [pieces_len]
  have := Lib.countB_le ⟨#[47]⟩ (by decide) s.size s (Nat.le_refl _)
  omega
theorem piece_cell (s : ByteArray) (w : World) (k : Nat) (h : k < (pieces s).length) : (w.alloc (.cells ((pieces s).map Value.string).toArray 9)).cell? ⟨w.heap.size, k, none⟩ = some (.string (pieces s)[k]) := by
  rw [cell_of_row _ w.heap.size k _ _ _ (heap_alloc_new w _)]
  simp [h]
end

section
open Go.RowKit

theorem pst_bd : ∀ (l : List UInt8) (x y : Int), 0 ≤ x → 0 ≤ y → 0 ≤ (pst l x y).1 ∧ (pst l x y).1 ≤ x + l.length ∧ 0 ≤ (pst l x y).2 ∧ (pst l x y).2 ≤ y + l.length
  | [], x, y, hx, hy => by simp [pst]; omega
  | b :: r, x, y, hx, hy => by
    rw [pst]
    split
    · have := pst_bd r 0 (y + 1) (by omega) (by omega)
      simp only [List.length_cons]
      omega
    · have := pst_bd r (x + 1) y (by omega) (by omega)
      simp only [List.length_cons]
      omega
theorem pcs_bd : ∀ (l : List UInt8) (x y : Int), 0 ≤ x → 0 ≤ y → (pcs l x y).length ≤ l.length ∧ ∀ c ∈ pcs l x y, 0 ≤ c.1 ∧ c.1 ≤ x + l.length ∧ 0 ≤ c.2 ∧ c.2 ≤ y + l.length
  | [], x, y, hx, hy => by simp [pcs]
  | b :: r, x, y, hx, hy => by
    rw [pcs]
    split
    · have := pcs_bd r 0 (y + 1) (by omega) (by omega)
      refine ⟨by simp only [List.length_cons]; omega, fun c hc => ?_⟩
      have := this.2 c hc
      simp only [List.length_cons]
      omega
    · have := pcs_bd r (x + 1) y (by omega) (by omega)
      split
      · refine ⟨by simp only [List.length_cons]; omega, fun c hc => ?_⟩
        rcases List.mem_cons.1 hc with rfl | hc
        · simp only [List.length_cons]
          omega
        · have := this.2 c hc
          simp only [List.length_cons]
          omega
      · refine ⟨by simp only [List.length_cons]; omega, fun c hc => ?_⟩
        have := this.2 c hc
        simp only [List.length_cons]
        omega
theorem pcs_in (s : ByteArray) (hs : s.size ≤ 4194304) : ∀ c ∈ pcs (tx s) 0 0, InC c := by
  intro c hc
  have := (pcs_bd (tx s) 0 0 (by omega) (by omega)).2 c hc
  rw [tx_len] at this
  unfold InC
  omega
/-- One byte more. -/
theorem pcs_next (s : ByteArray) (k : Nat) (h : k < s.size) :
    (s[k] = 47 → pcs ((tx s).take (k + 1)) 0 0 = pcs ((tx s).take k) 0 0 ∧ pst ((tx s).take (k + 1)) 0 0 = (0, (pst ((tx s).take k) 0 0).2 + 1)) ∧
    (s[k] = 35 → pcs ((tx s).take (k + 1)) 0 0 = pcs ((tx s).take k) 0 0 ++ [pst ((tx s).take k) 0 0] ∧ pst ((tx s).take (k + 1)) 0 0 = ((pst ((tx s).take k) 0 0).1 + 1, (pst ((tx s).take k) 0 0).2)) ∧
    (s[k] ≠ 47 → s[k] ≠ 35 → pcs ((tx s).take (k + 1)) 0 0 = pcs ((tx s).take k) 0 0 ∧ pst ((tx s).take (k + 1)) 0 0 = ((pst ((tx s).take k) 0 0).1 + 1, (pst ((tx s).take k) 0 0).2)) := by
  rw [tx_take s k h, pcs_append, pst_append]
  refine ⟨fun e => ?_, fun e => ?_, fun e1 e2 => ?_⟩
  · rw [e]; simp [pcs, pst]
  · rw [e]; simp [pcs, pst]
  · simp [pcs, pst, e1, e2]
theorem okP_len {s : ByteArray} (h : 70 < s.size) : okP (tx s) = false := by
  cases e : okP (tx s) with
  | false => rfl
  | true =>
    have := (okP_out e).2.2.2.1
    rw [tx_len] at this
    omega
theorem okP_byte {s : ByteArray} {k : Nat} (hk : k < s.size) (h : ¬ okB s[k]) : okP (tx s) = false := by
  cases e : okP (tx s) with
  | false => rfl
  | true =>
    refine absurd ((okP_out e).2.2.1 s[k] ?_) h
    rw [← tx_get s k hk]
    exact List.getElem_mem _
theorem parS_no {t : List UInt8} (h : okP t = false) : parS t = [] := if_neg (by rw [h]; simp)
theorem parS_yes {t : List UInt8} (h : okP t = true) : parS t = pcs t 0 0 := if_pos h
theorem gives_none (w : World) {W : World} (hb : Below w.heap.size w W) (b : Bool) (hr : b = false) : GivesCB w [] b (.returned (.tuple #[.slice (some ⟨W.heap.size, 0, none⟩) 0 0, .bool false])) (W.alloc (.cells #[] 86)) := by
  subst hr
  exact ⟨_, _, rfl, World.ownsRow_lit (base := w.heap.size) (e := 86) (size := 2) W #[] 0 hb.size (by simp [maxLen]) rfl, hb.alloc hb.size _⟩

set_option maxHeartbeats 2000000 in
set_option maxRecDepth 100000 in
theorem sParse (s : ByteArray) (w : World) (hs : s.size ≤ 4194304) :
    Calls Tryz.prog 156 #[.string s] w (GivesCB w (parS (tx s)) (okP (tx s))) := by
  go_enter Tryz.func156, Tryz.ntmps156
  go_wp2
  go_loopw [4, 5, 6, 7] (fun v x y i wr => ∃ (k g cc m : Nat), k ≤ s.size ∧ (k = 0 ∨ s.size ≤ 70) ∧ i = .int .i64 k ∧ m ≤ k ∧ v = .slice (some ⟨g, 0, none⟩) m cc ∧ Hid (m = (pcs ((tx s).take k) 0 0).length) ∧ x = .int .i64 (pst ((tx s).take k) 0 0).1 ∧ y = .int .i64 (pst ((tx s).take k) 0 0).2 ∧ wr.ownsRow w.heap.size 86 2 (.slice (some ⟨g, 0, none⟩) m cc) m (cvs (pcs ((tx s).take k) 0 0)) ∧ Below w.heap.size w wr) (fun _ _ _ i _ => s.size - (intOf i).toNat)
  case atStart => exact ⟨0, w.heap.size, 0, 0, by omega, .inl rfl, rfl, by omega, rfl, rfl, rfl, rfl, by simpa [cvs, pcs] using World.ownsRow_lit (base := w.heap.size) (e := 86) (size := 2) w #[] 0 (Nat.le_refl _) (by simp [maxLen]) rfl, (Below.refl _ _).alloc (Nat.le_refl _) _⟩
  case round =>
    obtain ⟨k, g, cc, m, hk, hk70, rfl, hmk, rfl, hm, rfl, rfl, hown, hb⟩ := hrel
    have hsz := hb.size
    by_cases hlt : k < s.size
    · by_cases h70 : s.size ≤ 70
      · have hnx := pcs_next s k hlt
        have hpb := pst_bd ((tx s).take k) 0 0 (by omega) (by omega)
        have hlk : ((tx s).take k).length = k := by rw [List.length_take, tx_len]; omega
        rw [hlk] at hpb
        obtain ⟨⟨x, y⟩, hxy⟩ : ∃ p, pst ((tx s).take k) 0 0 = p := ⟨_, rfl⟩
        rw [hxy] at hnx hpb ⊢
        dsimp only at hnx hpb ⊢
        have HNX := Lib.hid hnx
        have HB := Lib.hid hb
        have HM := Lib.hid hm.out
        clear hnx hxy hlk hb hm
        have hd70 : decide ((s.size : Int) ≤ 70) = true := by simp; omega
        have e35 := byte_int s[k] 35
        have e46 := byte_int s[k] 46
        have e47 := byte_int s[k] 47
        by_cases b35 : s[k] = 35
        · have t35 : (((s[k].toNat : Nat) : Int) == 35) = true := e35.trans (by rw [b35]; rfl)
          have HN := Lib.hid (HNX.out.2.1 b35)
          clear e35 e46 e47 b35
          go_wp2_with (first | (at_builtin; refine wpList_cells rfl _ _ rfl w.heap.size g m cc (pcs ((tx s).take k) 0 0) ⟨wr.heap.size, 0, none⟩ 1 1 [(x, y)] rfl rfl (hown.alloc _) rfl (lies_block (t := 86) (fr := (0, 0)) (heap_alloc_new _ _)) (by omega) ?c5 (wr.heap.size + 1) ?c6 ?_) | go_in)
          case c5 => simp; exact Nat.le_trans HB.out.size (Nat.le_succ _)
          case c6 => simp
          intro g' cc' w2 hown2 hgrow2 hat2 hgb2 hlt2
          have hgo := (hown.lt g rfl).1
          have hb3 := Lib.hid ((HB.out.alloc HB.out.size (.cells #[.int .i64 x, .int .i64 y] 86)).grown hgrow2 (HB.out.alloc HB.out.size (.cells #[.int .i64 x, .int .i64 y] 86)).size (fun j hj => by cases hj; exact hgo))
          have HO2 := Lib.hid hown2
          clear hown2 hgrow2
          go_wp2
          go_roundw
          case rel =>
            refine ⟨k + 1, g', cc', m + 1, by omega, .inr h70, by go_num, by omega, rfl, ?_, ?_, ?_, ?_, hb3.out⟩
            · show m + 1 = _
              rw [HN.out.1, List.length_append, ← HM.out]; rfl
            · rw [HN.out.2]
            · rw [HN.out.2]
            · rw [HN.out.1]; exact HO2.out
          case measure => simp [intOf]; omega
        · have t35 : (((s[k].toNat : Nat) : Int) == 35) = false := e35.trans (by rw [decide_eq_false_iff_not]; exact b35)
          by_cases b46 : s[k] = 46
          · have t46 : (((s[k].toNat : Nat) : Int) == 46) = true := e46.trans (by rw [b46]; rfl)
            have HN := Lib.hid (HNX.out.2.2 (by rw [b46]; decide) b35)
            have HO2 := Lib.hid hown
            clear e35 e46 e47 b35 b46
            go_wp2
            go_roundw
            case rel =>
              refine ⟨k + 1, g, cc, m, by omega, .inr h70, by go_num, by omega, rfl, ?_, ?_, ?_, ?_, HB.out⟩
              · show m = _
                rw [HN.out.1, ← HM.out]
              · rw [HN.out.2]
              · rw [HN.out.2]
              · rw [HN.out.1]; exact HO2.out
            case measure => simp [intOf]; omega
          · have t46 : (((s[k].toNat : Nat) : Int) == 46) = false := e46.trans (by rw [decide_eq_false_iff_not]; exact b46)
            by_cases b47 : s[k] = 47
            · have t47 : (((s[k].toNat : Nat) : Int) == 47) = true := e47.trans (by rw [b47]; rfl)
              have HN := Lib.hid (HNX.out.1 b47)
              have HO2 := Lib.hid hown
              clear e35 e46 e47 b35 b46 b47
              go_wp2
              go_roundw
              case rel =>
                refine ⟨k + 1, g, cc, m, by omega, .inr h70, by go_num, by omega, rfl, ?_, ?_, ?_, ?_, HB.out⟩
                · show m = _
                  rw [HN.out.1, ← HM.out]
                · rw [HN.out.2]
                · rw [HN.out.2]
                · rw [HN.out.1]; exact HO2.out
              case measure => simp [intOf]; omega
            · have t47 : (((s[k].toNat : Nat) : Int) == 47) = false := e47.trans (by rw [decide_eq_false_iff_not]; exact b47)
              have hno := okP_byte hlt (by unfold okB; intro h; rcases h with h | h | h; exact b35 h; exact b46 h; exact b47 h)
              have HNO := Lib.hid hno
              clear e35 e46 e47 b35 b46 b47 hno
              go_wp2
              go_ret2
              rw [parS_no HNO.out, HNO.out]
              exact gives_none w HB.out false rfl
      · have hd70 : decide ((s.size : Int) ≤ 70) = false := by simp; omega
        have hk0 : k = 0 := by omega
        subst hk0
        have HNO := Lib.hid (okP_len (s := s) (by omega))
        have HB := Lib.hid hb
        have he1 : s.toList.isEmpty = false := by rw [ByteArray.toList_eq, List.isEmpty_eq_false_iff]; intro h; have := tx_len s; rw [show tx s = [] from h] at this; simp at this; omega
        have he2 : ¬ s.toList = [] := by intro h; rw [h] at he1; cases he1
        have hcl : pcs ((tx s).take 0) 0 0 = [] := rfl
        rw [hcl] at hown
        have HA := Lib.hid (CellsAt.of_own (l := []) hown (fun c hc => by cases hc))
        have hf : fmtC [] = [] := rfl
        have hne : (fmtC [] == s.toList) = false := by rw [hf, beq_eq_false_iff_ne]; exact fun h => he2 h.symm
        obtain rfl : m = 0 := by omega
        clear hown hb hm hf hcl
        go_wp2_with fail
        refine (sFmt wr.heap.size 0 cc _ [] wr (by omega) HA.out (Nat.le_refl _)).mono ?_
        rintro e w1 ⟨rfl, hb1⟩
        have HB1 := Lib.hid (HB.out.trans (hb1.mono HB.out.size))
        clear hb1
        go_wp2
        go_ret2
        rw [parS_no HNO.out, HNO.out]
        exact gives_none w HB1.out false rfl
    · have hkk : k = s.size := by omega
      have hl : (tx s).take k = tx s := List.take_of_length_le (by rw [tx_len]; omega)
      rw [hl] at hown hm
      have HA := Lib.hid (CellsAt.of_own hown (pcs_in s hs))
      have HB := Lib.hid hb
      by_cases hz : s.size = 0
      · have he2 : s.toList = [] := by rw [ByteArray.toList_eq, ← List.length_eq_zero_iff, tx_len]; exact hz
        have he1 : s.toList.isEmpty = true := by rw [he2]; rfl
        have HNO := Lib.hid (show okP (tx s) = false from by
          have h : tx s = [] := by rw [← List.length_eq_zero_iff, tx_len]; exact hz
          rw [h]; rfl)
        clear hown hm hb
        go_wp2
        go_ret2
        rw [parS_no HNO.out, HNO.out]
        exact gives_none w HB.out false rfl
      · have he2 : ¬ s.toList = [] := by rw [ByteArray.toList_eq, ← List.length_eq_zero_iff, tx_len]; exact hz
        have he1 : s.toList.isEmpty = false := by rw [List.isEmpty_eq_false_iff]; exact he2
        have hok : okP (tx s) = (fmtC (pcs (tx s) 0 0) == s.toList) := by
          unfold okP
          rw [ByteArray.toList_eq] at he2 ⊢
          rw [Bool.eq_iff_iff, decide_eq_true_eq, beq_iff_eq]
          exact ⟨fun h => h.2, fun h => ⟨he2, h⟩⟩
        have HOK := Lib.hid hok
        have HO := Lib.hid hown
        have HM := Lib.hid hm.out
        clear hown hm hb hok
        cases hr : (fmtC (pcs (tx s) 0 0) == s.toList) with
        | true =>
          have hok := HOK.out.trans hr
          have HK := Lib.hid hok
          clear hok
          go_wp2_with fail
          refine (sFmt wr.heap.size m cc _ _ wr (by omega) HA.out (Nat.le_refl _)).mono ?_
          rintro e w1 ⟨rfl, hb1⟩
          have HB1 := Lib.hid (HB.out.trans (hb1.mono HB.out.size))
          have HO1 := Lib.hid (HO.out.kept (grow_below hb1 none) (.inr (by intro e; cases e)))
          clear hb1
          go_wp2
          go_ret2
          rw [parS_yes HK.out, HK.out]
          have hO := HO1.out
          have hM := HM.out
          subst hM
          exact ⟨g, cc, rfl, hO, HB1.out⟩
        | false =>
          have hok := HOK.out.trans hr
          have HK := Lib.hid hok
          clear hok
          go_wp2_with fail
          refine (sFmt wr.heap.size m cc _ _ wr (by omega) HA.out (Nat.le_refl _)).mono ?_
          rintro e w1 ⟨rfl, hb1⟩
          have HB1 := Lib.hid (HB.out.trans (hb1.mono HB.out.size))
          clear hb1
          go_wp2
          go_ret2
          rw [parS_no HK.out, HK.out]
          exact gives_none w HB1.out false rfl
end

section
open Go.RowKit

/-- The twelve names and their formats, as the package's table holds them. -/
def pcL : List (List UInt8 × List UInt8) := [([73, 50], [35, 35]), ([73, 51], [35, 35, 35]), ([86, 51], [35, 35, 47, 35]), ([73, 52], [35, 35, 35, 35]), ([76, 52], [35, 35, 35, 47, 35]), ([84, 52], [35, 35, 35, 47, 46, 35]), ([83, 52], [46, 35, 35, 47, 35, 35]), ([79, 52], [35, 35, 47, 35, 35]), ([88, 53], [46, 35, 47, 35, 35, 35, 47, 46, 35]), ([80, 53], [35, 35, 47, 35, 35, 47, 35]), ([87, 53], [35, 47, 35, 35, 47, 46, 35, 35]), ([85, 53], [35, 46, 35, 47, 35, 35, 35])]
def nmB (k : Nat) : ByteArray := ⟨(pcL.getD k ([], [])).1.toArray⟩
def txB (k : Nat) : ByteArray := ⟨(pcL.getD k ([], [])).2.toArray⟩
/-- The format that a name stands for; none: empty. -/
def fmB (s : ByteArray) : ByteArray := match (List.range 12).find? (fun k => decide (nmB k = s)) with
  | some k => txB k
  | none => ⟨#[]⟩
theorem fmB_at {s : ByteArray} {k : Nat} (hk : k < 12) (h : nmB k = s) (hb : ∀ j, j < k → nmB j ≠ s) : fmB s = txB k := by
  have : (List.range 12).find? (fun k => decide (nmB k = s)) = some k := by
    rw [List.find?_range_eq_some]
    exact ⟨by simpa using h, by simpa using hk, fun j hj => by simpa using hb j hj⟩
  unfold fmB
  rw [this]
theorem fmB_no {s : ByteArray} (hb : ∀ j, j < 12 → nmB j ≠ s) : fmB s = ⟨#[]⟩ := by
  have : (List.range 12).find? (fun k => decide (nmB k = s)) = none := by
    rw [List.find?_eq_none]
    intro x hx
    have := hb x (List.mem_range.1 hx)
    simpa using this
  unfold fmB
  rw [this]
theorem okP_nil : okP (tx ⟨#[]⟩) = false := by
  cases h : okP (tx ⟨#[]⟩) with
  | false => rfl
  | true => exact absurd rfl (okP_out h).2.2.2.2
theorem parS_nil : parS (tx ⟨#[]⟩) = [] := parS_no okP_nil
theorem txB_size : ∀ k, k < 12 → (txB k).size ≤ 9 := by decide +kernel
theorem nmB_inj : ∀ k, k < 12 → ∀ j, j < 12 → nmB j = nmB k → j = k := by decide +kernel
theorem fmB_nm (k : Nat) (hk : k < 12) : fmB (nmB k) = txB k := fmB_at hk rfl fun j hj e => by
  have := nmB_inj k hk j (by omega) e
  omega
theorem eq_of_list {s : ByteArray} {l : List UInt8} (h : (s.toList == l) = true) : s = ⟨l.toArray⟩ := by
  have h1 : s.toList = l := by simpa using h
  rw [ByteArray.toList_eq] at h1
  obtain ⟨⟨l2⟩⟩ := s
  simp at h1
  rw [h1]
theorem ne_of_list {s : ByteArray} {l : List UInt8} (h : (s.toList == l) = false) : (⟨l.toArray⟩ : ByteArray) ≠ s := by
  rintro rfl
  rw [ByteArray.toList_mk] at h
  simp at h
theorem fm_hit {s : ByteArray} (k : Nat) (hk : k < 12) (h : (s.toList == (pcL.getD k ([], [])).1) = true) : fmB s = txB k := by
  rw [eq_of_list h]
  exact fmB_nm k hk
theorem fmB_miss {s : ByteArray} (hb : ∀ j, j < 12 → (s.toList == (pcL.getD j ([], [])).1) = false) : fmB s = ⟨#[]⟩ := fmB_no fun j hj => ne_of_list (hb j hj)

set_option maxHeartbeats 2000000 in
set_option maxRecDepth 100000 in
theorem sNamed (s : ByteArray) (w : World) :
    Calls Tryz.prog 138 #[.string s] w (GivesCB w (parS (tx (fmB s))) (okP (tx (fmB s)))) := by
  go_enter Tryz.func138, Tryz.ntmps138
  go_wp2_with fail
  · have hf : fmB s = txB 0 := fm_hit 0 (by omega) ‹(s.toList == [73, 50]) = true›
    have hz := txB_size 0 (by omega)
    refine (sParse (txB 0) w (by omega)).mono ?_
    rintro e w2 ⟨g2, c2, rfl, ho, hb2⟩
    have HR := Lib.hid (show GivesCB w (parS (tx (fmB s))) (okP (tx (fmB s))) (.returned (.tuple #[.slice (some ⟨g2, 0, none⟩) (parS (tx (txB 0))).length c2, .bool (okP (tx (txB 0)))])) w2 from by rw [hf]; exact ⟨g2, c2, rfl, ho, hb2⟩)
    clear ho hb2 hf hz
    generalize (parS (tx (txB 0))).length = nn at *
    generalize okP (tx (txB 0)) = bb at *
    go_wp2
    go_ret2
    exact HR.out
  · have hf : fmB s = txB 1 := fm_hit 1 (by omega) ‹(s.toList == [73, 51]) = true›
    have hz := txB_size 1 (by omega)
    refine (sParse (txB 1) w (by omega)).mono ?_
    rintro e w2 ⟨g2, c2, rfl, ho, hb2⟩
    have HR := Lib.hid (show GivesCB w (parS (tx (fmB s))) (okP (tx (fmB s))) (.returned (.tuple #[.slice (some ⟨g2, 0, none⟩) (parS (tx (txB 1))).length c2, .bool (okP (tx (txB 1)))])) w2 from by rw [hf]; exact ⟨g2, c2, rfl, ho, hb2⟩)
    clear ho hb2 hf hz
    generalize (parS (tx (txB 1))).length = nn at *
    generalize okP (tx (txB 1)) = bb at *
    go_wp2
    go_ret2
    exact HR.out
  · have hf : fmB s = txB 2 := fm_hit 2 (by omega) ‹(s.toList == [86, 51]) = true›
    have hz := txB_size 2 (by omega)
    refine (sParse (txB 2) w (by omega)).mono ?_
    rintro e w2 ⟨g2, c2, rfl, ho, hb2⟩
    have HR := Lib.hid (show GivesCB w (parS (tx (fmB s))) (okP (tx (fmB s))) (.returned (.tuple #[.slice (some ⟨g2, 0, none⟩) (parS (tx (txB 2))).length c2, .bool (okP (tx (txB 2)))])) w2 from by rw [hf]; exact ⟨g2, c2, rfl, ho, hb2⟩)
    clear ho hb2 hf hz
    generalize (parS (tx (txB 2))).length = nn at *
    generalize okP (tx (txB 2)) = bb at *
    go_wp2
    go_ret2
    exact HR.out
  · have hf : fmB s = txB 3 := fm_hit 3 (by omega) ‹(s.toList == [73, 52]) = true›
    have hz := txB_size 3 (by omega)
    refine (sParse (txB 3) w (by omega)).mono ?_
    rintro e w2 ⟨g2, c2, rfl, ho, hb2⟩
    have HR := Lib.hid (show GivesCB w (parS (tx (fmB s))) (okP (tx (fmB s))) (.returned (.tuple #[.slice (some ⟨g2, 0, none⟩) (parS (tx (txB 3))).length c2, .bool (okP (tx (txB 3)))])) w2 from by rw [hf]; exact ⟨g2, c2, rfl, ho, hb2⟩)
    clear ho hb2 hf hz
    generalize (parS (tx (txB 3))).length = nn at *
    generalize okP (tx (txB 3)) = bb at *
    go_wp2
    go_ret2
    exact HR.out
  · have hf : fmB s = txB 4 := fm_hit 4 (by omega) ‹(s.toList == [76, 52]) = true›
    have hz := txB_size 4 (by omega)
    refine (sParse (txB 4) w (by omega)).mono ?_
    rintro e w2 ⟨g2, c2, rfl, ho, hb2⟩
    have HR := Lib.hid (show GivesCB w (parS (tx (fmB s))) (okP (tx (fmB s))) (.returned (.tuple #[.slice (some ⟨g2, 0, none⟩) (parS (tx (txB 4))).length c2, .bool (okP (tx (txB 4)))])) w2 from by rw [hf]; exact ⟨g2, c2, rfl, ho, hb2⟩)
    clear ho hb2 hf hz
    generalize (parS (tx (txB 4))).length = nn at *
    generalize okP (tx (txB 4)) = bb at *
    go_wp2
    go_ret2
    exact HR.out
  · have hf : fmB s = txB 5 := fm_hit 5 (by omega) ‹(s.toList == [84, 52]) = true›
    have hz := txB_size 5 (by omega)
    refine (sParse (txB 5) w (by omega)).mono ?_
    rintro e w2 ⟨g2, c2, rfl, ho, hb2⟩
    have HR := Lib.hid (show GivesCB w (parS (tx (fmB s))) (okP (tx (fmB s))) (.returned (.tuple #[.slice (some ⟨g2, 0, none⟩) (parS (tx (txB 5))).length c2, .bool (okP (tx (txB 5)))])) w2 from by rw [hf]; exact ⟨g2, c2, rfl, ho, hb2⟩)
    clear ho hb2 hf hz
    generalize (parS (tx (txB 5))).length = nn at *
    generalize okP (tx (txB 5)) = bb at *
    go_wp2
    go_ret2
    exact HR.out
  · have hf : fmB s = txB 6 := fm_hit 6 (by omega) ‹(s.toList == [83, 52]) = true›
    have hz := txB_size 6 (by omega)
    refine (sParse (txB 6) w (by omega)).mono ?_
    rintro e w2 ⟨g2, c2, rfl, ho, hb2⟩
    have HR := Lib.hid (show GivesCB w (parS (tx (fmB s))) (okP (tx (fmB s))) (.returned (.tuple #[.slice (some ⟨g2, 0, none⟩) (parS (tx (txB 6))).length c2, .bool (okP (tx (txB 6)))])) w2 from by rw [hf]; exact ⟨g2, c2, rfl, ho, hb2⟩)
    clear ho hb2 hf hz
    generalize (parS (tx (txB 6))).length = nn at *
    generalize okP (tx (txB 6)) = bb at *
    go_wp2
    go_ret2
    exact HR.out
  · have hf : fmB s = txB 7 := fm_hit 7 (by omega) ‹(s.toList == [79, 52]) = true›
    have hz := txB_size 7 (by omega)
    refine (sParse (txB 7) w (by omega)).mono ?_
    rintro e w2 ⟨g2, c2, rfl, ho, hb2⟩
    have HR := Lib.hid (show GivesCB w (parS (tx (fmB s))) (okP (tx (fmB s))) (.returned (.tuple #[.slice (some ⟨g2, 0, none⟩) (parS (tx (txB 7))).length c2, .bool (okP (tx (txB 7)))])) w2 from by rw [hf]; exact ⟨g2, c2, rfl, ho, hb2⟩)
    clear ho hb2 hf hz
    generalize (parS (tx (txB 7))).length = nn at *
    generalize okP (tx (txB 7)) = bb at *
    go_wp2
    go_ret2
    exact HR.out
  · have hf : fmB s = txB 8 := fm_hit 8 (by omega) ‹(s.toList == [88, 53]) = true›
    have hz := txB_size 8 (by omega)
    refine (sParse (txB 8) w (by omega)).mono ?_
    rintro e w2 ⟨g2, c2, rfl, ho, hb2⟩
    have HR := Lib.hid (show GivesCB w (parS (tx (fmB s))) (okP (tx (fmB s))) (.returned (.tuple #[.slice (some ⟨g2, 0, none⟩) (parS (tx (txB 8))).length c2, .bool (okP (tx (txB 8)))])) w2 from by rw [hf]; exact ⟨g2, c2, rfl, ho, hb2⟩)
    clear ho hb2 hf hz
    generalize (parS (tx (txB 8))).length = nn at *
    generalize okP (tx (txB 8)) = bb at *
    go_wp2
    go_ret2
    exact HR.out
  · have hf : fmB s = txB 9 := fm_hit 9 (by omega) ‹(s.toList == [80, 53]) = true›
    have hz := txB_size 9 (by omega)
    refine (sParse (txB 9) w (by omega)).mono ?_
    rintro e w2 ⟨g2, c2, rfl, ho, hb2⟩
    have HR := Lib.hid (show GivesCB w (parS (tx (fmB s))) (okP (tx (fmB s))) (.returned (.tuple #[.slice (some ⟨g2, 0, none⟩) (parS (tx (txB 9))).length c2, .bool (okP (tx (txB 9)))])) w2 from by rw [hf]; exact ⟨g2, c2, rfl, ho, hb2⟩)
    clear ho hb2 hf hz
    generalize (parS (tx (txB 9))).length = nn at *
    generalize okP (tx (txB 9)) = bb at *
    go_wp2
    go_ret2
    exact HR.out
  · have hf : fmB s = txB 10 := fm_hit 10 (by omega) ‹(s.toList == [87, 53]) = true›
    have hz := txB_size 10 (by omega)
    refine (sParse (txB 10) w (by omega)).mono ?_
    rintro e w2 ⟨g2, c2, rfl, ho, hb2⟩
    have HR := Lib.hid (show GivesCB w (parS (tx (fmB s))) (okP (tx (fmB s))) (.returned (.tuple #[.slice (some ⟨g2, 0, none⟩) (parS (tx (txB 10))).length c2, .bool (okP (tx (txB 10)))])) w2 from by rw [hf]; exact ⟨g2, c2, rfl, ho, hb2⟩)
    clear ho hb2 hf hz
    generalize (parS (tx (txB 10))).length = nn at *
    generalize okP (tx (txB 10)) = bb at *
    go_wp2
    go_ret2
    exact HR.out
  · have hf : fmB s = txB 11 := fm_hit 11 (by omega) ‹(s.toList == [85, 53]) = true›
    have hz := txB_size 11 (by omega)
    refine (sParse (txB 11) w (by omega)).mono ?_
    rintro e w2 ⟨g2, c2, rfl, ho, hb2⟩
    have HR := Lib.hid (show GivesCB w (parS (tx (fmB s))) (okP (tx (fmB s))) (.returned (.tuple #[.slice (some ⟨g2, 0, none⟩) (parS (tx (txB 11))).length c2, .bool (okP (tx (txB 11)))])) w2 from by rw [hf]; exact ⟨g2, c2, rfl, ho, hb2⟩)
    clear ho hb2 hf hz
    generalize (parS (tx (txB 11))).length = nn at *
    generalize okP (tx (txB 11)) = bb at *
    go_wp2
    go_ret2
    exact HR.out
  · have hf : fmB s = ⟨#[]⟩ := fmB_miss (fun j hj => match j, hj with
      | 0, _ => ‹(s.toList == [73, 50]) = false›
      | 1, _ => ‹(s.toList == [73, 51]) = false›
      | 2, _ => ‹(s.toList == [86, 51]) = false›
      | 3, _ => ‹(s.toList == [73, 52]) = false›
      | 4, _ => ‹(s.toList == [76, 52]) = false›
      | 5, _ => ‹(s.toList == [84, 52]) = false›
      | 6, _ => ‹(s.toList == [83, 52]) = false›
      | 7, _ => ‹(s.toList == [79, 52]) = false›
      | 8, _ => ‹(s.toList == [88, 53]) = false›
      | 9, _ => ‹(s.toList == [80, 53]) = false›
      | 10, _ => ‹(s.toList == [87, 53]) = false›
      | 11, _ => ‹(s.toList == [85, 53]) = false›
      | n + 12, h => absurd h (by omega))
    go_ret2
    rw [hf, parS_nil, okP_nil]
    exact gives_none w (Below.refl _ _) false rfl
end

end Go.Proofs.YtkjlmgkjcmebbaaGreatDoor
