/-
  A text cut at its strokes: the pieces. Nothing of the program is claimed here.
  What the program reads of a text cut at its strokes: plain facts, nothing of the program.
  A text as a region, in the program: what the call gives.
  A text as a region, in the model: what the call gives.
-/
import Derived.Test.YtcfioncnpfoccaaGreatDoorCel
import Derived.Lib.SplitLaws
import Derived.Test.YtcfioncnpfoccaaGreatDoorPr3
import Derived.Test.YtcfioncnpfoccaaGreatDoorSr5
import Derived.OpenShut
import Derived.Test.YtcfioncnpfoccaaGreatDoorSr9
import Derived.Maps.AppendAt
namespace Go.Proofs.YtcfioncnpfoccaaGreatDoor

section
open Go.RowKit

abbrev tx (s : ByteArray) : List UInt8 := s.data.toList
theorem tx_len (s : ByteArray) : (tx s).length = s.size := by simp
theorem tx_get (s : ByteArray) (k : Nat) (h : k < s.size) : (tx s)[k]'(by rw [tx_len]; exact h) = s[k] := rfl
theorem tx_take (s : ByteArray) (k : Nat) (h : k < s.size) : (tx s).take (k + 1) = (tx s).take k ++ [s[k]] := by
  rw [List.take_succ_eq_append_getElem (by rw [tx_len]; exact h), tx_get s k h]
theorem byte_int (b : UInt8) (c : UInt8) : (((b.toNat : Int)) == (c.toNat : Int)) = decide (b = c) := by
  rw [Bool.eq_iff_iff, beq_iff_eq, decide_eq_true_eq]
  constructor
  · intro h
    exact UInt8.toNat_inj.1 (by omega)
  · rintro rfl; rfl
def cut47 : List UInt8 → List (List UInt8)
  | [] => [[]]
  | b :: r => if b = 47 then [] :: cut47 r else match cut47 r with
    | p :: ps => (b :: p) :: ps
    | [] => [[b]]
theorem cut47_ne : ∀ l, cut47 l ≠ []
  | [] => by simp [cut47]
  | b :: r => by
    unfold cut47
    split
    · simp
    · split <;> simp
theorem split_nil : Lib.split [] [47] = [[]] := by
  unfold Lib.split
  rw [Lib.count_miss (by simp [Lib.index])]
  rfl
theorem split_47 (r : List UInt8) : Lib.split (47 :: r) [47] = [] :: Lib.split r [47] := by
  have hix : Lib.index (47 :: r) [47] = ((0 : Nat) : Int) := by rw [Lib.index]; simp [List.isPrefixOf]
  unfold Lib.split
  rw [Lib.count_cons_eq, Nat.add_comm]
  show (if Lib.index (47 :: r) [47] == -1 then [47 :: r] else (47 :: r).take ((Lib.index (47 :: r) [47]).toNat + 0) :: Lib.splitK [47] 0 (Lib.count r [47]) ((47 :: r).drop ((Lib.index (47 :: r) [47]).toNat + [(47 : UInt8)].length))) = _
  rw [if_neg (by rw [hix]; decide), hix]
  rfl
theorem split_no (b : UInt8) (r : List UInt8) (h : b ≠ 47) : Lib.split (b :: r) [47] = match Lib.split r [47] with
    | p :: ps => (b :: p) :: ps
    | [] => [[b]] := by
  have hp : ([47] : List UInt8).isPrefixOf (b :: r) = false := by simp [List.isPrefixOf, Ne.symm h]
  have hix : Lib.index (b :: r) [47] = if Lib.index r [47] == -1 then -1 else Lib.index r [47] + 1 := by rw [Lib.index, hp]; simp
  unfold Lib.split
  rw [Lib.count_cons_ne b 47 r h]
  by_cases hm : Lib.index r [47] = -1
  · rw [Lib.count_miss hm]
    rfl
  · have hge := Lib.index_ge r [47]
    obtain ⟨j, hj⟩ : ∃ j : Nat, Lib.index r [47] = j := ⟨(Lib.index r [47]).toNat, by omega⟩
    have hix' : Lib.index (b :: r) [47] = ((j + 1 : Nat) : Int) := by rw [hix, if_neg (fun e => hm (beq_iff_eq.1 e)), hj]; omega
    rw [Lib.count_hit (by simp) hj, Nat.add_comm]
    unfold Lib.splitK
    rw [if_neg (by rw [hix', beq_iff_eq]; omega), if_neg (by rw [hj, beq_iff_eq]; omega), hix', hj]
    simp
theorem split_cut : ∀ l, Lib.split l [47] = cut47 l
  | [] => split_nil
  | b :: r => by
    unfold cut47
    by_cases h : b = 47
    · subst h
      rw [if_pos rfl, split_47, split_cut r]
    · rw [if_neg h, split_no b r h, split_cut r]
def pieces (s : ByteArray) : List ByteArray := Lib.splitB ⟨#[47]⟩ 0 (Lib.countB s ⟨#[47]⟩) s
theorem pieces_len (s : ByteArray) : (pieces s).length = Lib.countB s ⟨#[47]⟩ + 1 := Lib.splitB_all ⟨#[47]⟩ (by decide) 0 _ s rfl
theorem pieces_data (s : ByteArray) : (pieces s).map (fun p => tx p) = cut47 (tx s) := by
  rw [← split_cut]
  unfold pieces
  rw [Lib.splitB_data]
  rfl
theorem pieces_get (s : ByteArray) (k : Nat) (h : k < (pieces s).length) : ((pieces s).map fun p => tx p).getD k [] = tx ((pieces s)[k]) := by simp [List.getD, h]
theorem cut47_len : ∀ (l p : List UInt8), p ∈ cut47 l → p.length ≤ l.length
  | [], p, h => by simp [cut47] at h; subst h; exact Nat.le_refl _
  | b :: r, p, h => by
    unfold cut47 at h
    have ih := cut47_len r
    split at h
    · rcases List.mem_cons.1 h with rfl | h
      · simp
      · have := ih p h; simp only [List.length_cons]; omega
    · split at h
      · rename_i q qs hq
        rcases List.mem_cons.1 h with rfl | h
        · have := ih q (by rw [hq]; simp); simp only [List.length_cons]; omega
        · have := ih p (by rw [hq]; simp [h]); simp only [List.length_cons]; omega
      · simp at h; subst h; simp
theorem piece_size (s : ByteArray) (k : Nat) (h : k < (pieces s).length) : (pieces s)[k].size ≤ s.size := by
  have := cut47_len (tx s) (tx (pieces s)[k]) (by
    rw [← pieces_data]
    exact List.mem_map.2 ⟨_, List.getElem_mem h, rfl⟩)
  rw [tx_len, tx_len] at this
  exact this
theorem pieces_le (s : ByteArray) : (pieces s).length ≤ s.size + 1 := by
  rw [pieces_len]
  have := Lib.countB_le ⟨#[47]⟩ (by decide) s.size s (Nat.le_refl _)
  omega
/-- The variable of the library that its search reads holds a number. -/
def Mx (w : World) : Prop := ∃ m, w.cell? ⟨0, 0, none⟩ = some (.int .i64 m)
theorem Mx.on {B : Nat} {w w' : World} (h : Mx w) (hb : Below B w w') (hB : 0 < B) : Mx w' := by
  obtain ⟨m, hm⟩ := h
  exact ⟨m, (hb.cell (p := ⟨0, 0, none⟩) hB).trans hm⟩
theorem Mx.lt {w : World} (h : Mx w) : 0 < w.heap.size := by
  obtain ⟨m, hm⟩ := h
  exact World.block_lt_of_cell? w _ hm
theorem piece_cell (s : ByteArray) (w : World) (k : Nat) (h : k < (pieces s).length) : (w.alloc (.cells ((pieces s).map Value.string).toArray 9)).cell? ⟨w.heap.size, k, none⟩ = some (.string (pieces s)[k]) := by
  rw [cell_of_row _ w.heap.size k _ _ _ (heap_alloc_new w _)]
  simp [h]
end

section
open Go.RowKit

def vTo (p : List UInt8) : Nat → Int
  | 0 => 0
  | x + 1 => if p.getD x 0 = 35 then bits .or .i64 (vTo p x) (shV x) else vTo p x
theorem vTo_in (p : List UInt8) : ∀ x, In64 (vTo p x)
  | 0 => by unfold vTo In64; omega
  | x + 1 => by
    rw [vTo]
    split
    · have h := wf_bits .or .i64 (vTo p x) (shV x)
      simp [Lit.wf, IntKind.min, IntKind.max, IntKind.signed, IntKind.bits] at h
      unfold In64
      omega
    · exact vTo_in p x
theorem vTo_row {W H : Nat} {l : List Int} (h : Rg W H l) {y : Nat} (hy : y < H) : ∀ x, x ≤ W → vTo (rowB l y W) x = ((rN l y % 2 ^ x : Nat) : Int)
  | 0, _ => by unfold vTo; simp [Nat.mod_one]
  | x + 1, hx => by
    have h6 := h.w6
    have hn := h.nat hy
    have e : (rowB l y W).getD x 0 = if bt l ((x : Int), (y : Int)) = true then 35 else 46 := by
      unfold rowB
      simp [List.getD, show x < W by omega]
    have hm := mod_bits (rN l y) hn.2.2 x (by omega)
    rw [vTo, e, vTo_row h hy x (by omega), hm, bt_nat]
    cases hb : (rN l y).testBit x with
    | true =>
      rw [if_pos rfl, if_pos rfl, if_pos rfl]
      exact or_val (Nat.lt_of_le_of_lt (Nat.mod_le _ _) hn.2.2) (by omega)
    | false =>
      rw [if_neg (by decide), if_neg (by decide)]
theorem vTo_all {W H : Nat} {l : List Int} (h : Rg W H l) {y : Nat} (hy : y < H) : vTo (rowB l y W) W = l.getD y 0 := by
  have hn := h.nat hy
  rw [vTo_row h hy W (Nat.le_refl _), Nat.mod_eq_of_lt hn.2.1, hn.1]
theorem cut_no : ∀ (b : List UInt8), (∀ c ∈ b, c ≠ 47) → cut47 b = [b]
  | [], _ => rfl
  | c :: b, h => by
    unfold cut47
    rw [if_neg (h c (by simp)), cut_no b fun d hd => h d (by simp [hd])]
theorem cut_snoc (b : List UInt8) (hb : ∀ c ∈ b, c ≠ 47) : ∀ a, cut47 (a ++ 47 :: b) = cut47 a ++ [b]
  | [] => by
    rw [List.nil_append]
    unfold cut47
    rw [if_pos rfl, cut_no b hb]
    rfl
  | c :: a => by
    rw [List.cons_append]
    unfold cut47
    rw [cut_snoc b hb a]
    by_cases hc : c = 47
    · rw [if_pos hc, if_pos hc]; rfl
    · rw [if_neg hc, if_neg hc]
      cases hq : cut47 a with
      | nil => exact absurd hq (cut47_ne a)
      | cons p ps => rfl
theorem cut_fmt (W : Nat) (l : List Int) : ∀ H, cut47 (fmtT W l (H + 1)) = (List.range (H + 1)).map fun y => rowB l y W
  | 0 => by
    have : fmtT W l 1 = rowB l 0 W := by simp [fmtT]
    rw [this, cut_no _ (fun c hc => by rcases rowB_by l 0 W c hc with rfl | rfl <;> decide)]
    rfl
  | H + 1 => by
    have : fmtT W l (H + 1 + 1) = fmtT W l (H + 1) ++ 47 :: rowB l (H + 1) W := by
      rw [fmtT, if_neg (by omega)]
      rfl
    rw [this, cut_snoc _ (fun c hc => by rcases rowB_by l (H + 1) W c hc with rfl | rfl <;> decide), cut_fmt W l H, List.range_succ (n := H + 1), List.map_append]
    rfl
def outW (s : List UInt8) : Int := (((cut47 s).getD 0 []).length : Int)
def outL (s : List UInt8) : List Int := (cut47 s).map fun p => vTo p p.length
theorem out_fmt {W H : Nat} {l : List Int} (h : Rg W H l) : outW (fmtR W l) = W ∧ outL (fmtR W l) = l := by
  obtain ⟨K, hK⟩ : ∃ K, H = K + 1 := ⟨H - 1, by have := h.h0; omega⟩
  rw [fmtR_yes h]
  subst hK
  unfold outW outL
  rw [cut_fmt]
  constructor
  · simp [List.getD, rowB_ln]
  · apply List.ext_getElem
    · simp [h.len]
    · intro j h1 h2
      have hj : j < K + 1 := by simpa using h1
      have h9 := vTo_all h hj
      simp only [List.getElem_map, List.getElem_range, rowB_ln]
      rw [h9]
      simp [List.getD, h2]
theorem out_yes {s : List UInt8} (h : okQ s) : isReg (outW s) (outL s) = true ∧ fmtR (outW s) (outL s) = s ∧ outW s = resW s ∧ outL s = resL s := by
  obtain ⟨W, H, l, hr, e, h1, h2, _⟩ := okQ_out h
  obtain ⟨o1, o2⟩ := out_fmt hr
  rw [← e] at o1 o2
  rw [o1, o2, (res_yes h).1, (res_yes h).2, h1, h2, ← e]
  exact ⟨isReg_of hr, rfl, rfl, rfl⟩
theorem out_no {s : List UInt8} (h : ¬ okQ s) : isReg (outW s) (outL s) = false ∨ fmtR (outW s) (outL s) ≠ s := by
  cases h1 : isReg (outW s) (outL s) with
  | false => exact .inl rfl
  | true => exact .inr fun e => h ⟨_, _, h1, e⟩
end

section
open Go.RowKit

def oRow (P : List (List UInt8)) (k : Nat) : List Int := (P.take k).map (fun p => vTo p p.length) ++ List.replicate (P.length - k) 0
def oTo (P : List (List UInt8)) (k x : Nat) : List Int := (P.take k).map (fun p => vTo p p.length) ++ vTo (P.getD k []) x :: List.replicate (P.length - (k + 1)) 0
theorem oTo_zero {P : List (List UInt8)} {k : Nat} (h : k < P.length) : oTo P k 0 = oRow P k := by
  unfold oTo oRow
  rw [show P.length - k = P.length - (k + 1) + 1 by omega, List.replicate_succ]
  rfl
theorem oTo_done {P : List (List UInt8)} {k : Nat} (h : k < P.length) : oTo P k (P.getD k []).length = oRow P (k + 1) := by
  unfold oTo oRow
  rw [List.take_succ_eq_append_getElem h, List.map_append, List.append_assoc]
  simp [List.getD, h]
theorem oRow_zero (P : List (List UInt8)) : oRow P 0 = zerosR P.length := by simp [oRow, zerosR]
theorem oRow_all (P : List (List UInt8)) : oRow P P.length = P.map (fun p => vTo p p.length) := by simp [oRow]
theorem oTo_len {P : List (List UInt8)} {k : Nat} (h : k < P.length) (x : Nat) : (oTo P k x).length = P.length := by
  unfold oTo
  simp
  omega
theorem oTo_get {P : List (List UInt8)} {k : Nat} (h : k < P.length) (x : Nat) : (oTo P k x).getD k 0 = vTo (P.getD k []) x := by
  unfold oTo
  have hl : ((P.take k).map (fun p => vTo p p.length)).length = k := by simp; omega
  rw [List.getD_eq_getElem?_getD, List.getElem?_append_right (by omega), hl, Nat.sub_self]
  rfl
theorem oTo_set {P : List (List UInt8)} {k : Nat} (h : k < P.length) (x y : Nat) : (oTo P k x).set k (vTo (P.getD k []) y) = oTo P k y := by
  unfold oTo
  have hl : ((P.take k).map (fun p => vTo p p.length)).length = k := by simp; omega
  rw [List.set_append_right _ _ (by omega), hl, Nat.sub_self]
  rfl
theorem outL_in (s : List UInt8) : ∀ z ∈ outL s, In64 z := by
  intro z hz
  obtain ⟨p, _, rfl⟩ := List.mem_map.1 hz
  exact vTo_in _ _
theorem nil_rowI (w : World) (B : Nat) : w.ownsRow B 3 1 (.slice none 0 0) 0 (iv []) := ⟨rfl, .inl ⟨rfl, rfl⟩⟩

set_option maxHeartbeats 4000000 in
set_option maxRecDepth 100000 in
theorem iParR (s : ByteArray) (w : World) (hs : s.size ≤ 1048576) (hM : Mx w) :
    Calls Tryz.prog 7 #[.string s] w fun e w' => ∃ v, e = .returned (.tuple #[.agg #[.int .i64 (resW (tx s)), v], .bool (dP (okQ (tx s)))]) ∧ w'.ownsRow w.heap.size 3 1 v (resL (tx s)).length (iv (resL (tx s))) ∧ Below w.heap.size w w' := by
  have hres := RgAt.new (w := w) 0 (.slice none 0 0) rfl
  have hb0 := (Below.refl w.heap.size w).alloc (Nat.le_refl _) (.cells #[.int .i64 0, .slice none 0 0] 26)
  have hsz0 : (w.alloc (.cells #[.int .i64 0, .slice none 0 0] 26)).heap.size = w.heap.size + 1 := by simp
  obtain ⟨mx, hmx⟩ := hM.on hb0 hM.lt
  clear hM
  obtain ⟨RW, hRW⟩ : ∃ z, resW (tx s) = z := ⟨_, rfl⟩
  obtain ⟨RL, hRL⟩ : ∃ z, resL (tx s) = z := ⟨_, rfl⟩
  obtain ⟨RB, hRB⟩ : ∃ z, dP (okQ (tx s)) = z := ⟨_, rfl⟩
  rw [hRW, hRL, hRB]
  have HRS := Lib.hid (And.intro hRW (And.intro hRL hRB))
  clear hRW hRL hRB
  go_enter Tryz.func7, Tryz.ntmps7
  go_wp2_with fail
  generalize (w.alloc (.cells #[.int .i64 0, .slice none 0 0] 26)) = w0 at *
  refine (Tryz.strings_Split s ⟨#[47]⟩ mx w0 (by omega) hmx (by decide)).mono ?_
  rintro e w1 ⟨rfl, hw1⟩
  have hpl := pieces_le s
  have hN : Lib.countB s ⟨#[47]⟩ + 1 = (pieces s).length := (pieces_len s).symm
  rw [hN]
  have HPC := Lib.hid (show ∀ k (h : k < (pieces s).length), w1.cell? ⟨w0.heap.size, k, none⟩ = some (.string (pieces s)[k]) from fun k h => by rw [hw1]; exact piece_cell s w0 k h)
  have hb1 : Below w0.heap.size w0 w1 := by rw [hw1]; exact (Below.refl _ _).alloc (Nat.le_refl _) _
  have hs1 : w0.heap.size + 1 ≤ w1.heap.size := by rw [hw1]; simp
  have HPS := Lib.hid (piece_size s)
  have hr1 := hres.on hb1 hres.lt
  have hB1 := hb0.trans (hb1.mono hb0.size)
  have HPD := Lib.hid (pieces_data s)
  have h0p : 0 < (pieces s).length := by rw [← hN]; omega
  have HPG := Lib.hid (pieces_get s)
  have p0 := HPC.out 0 h0p
  have hq0 := HPS.out 0 h0p
  have HW0 := Lib.hid (show outW (tx s) = ((pieces s)[0].size : Int) from by
    unfold outW
    have h9 := HPG.out 0 h0p
    rw [HPD.out] at h9
    rw [h9, tx_len])
  have HPL := Lib.hid (show (cut47 (tx s)).length = (pieces s).length from by rw [← HPD.out, List.length_map])
  generalize hp0 : (pieces s)[0] = f0 at *
  clear hw1 hmx hN hb0 hb1 hres hp0
  obtain ⟨N, hN⟩ : ∃ N, (pieces s).length = N := ⟨_, rfl⟩
  have HN := Lib.hid hN
  rw [hN] at hpl h0p HPL ⊢
  clear hN
  have h0i : (0 : Int) < (N : Int) := by omega
  rw [hsz0] at p0 HPC hs1
  go_wp2_with fail
  refine (iEmpty f0.size N w1 (by omega)).mono ?_
  rintro e w2 ⟨g, rfl, hown, hb2⟩
  have hgl := hown.lt g rfl
  obtain ⟨ob, hob⟩ : ∃ b, w2.heap.size = b := ⟨_, rfl⟩
  rw [hob] at hgl
  have hv3 := RgAt.new (w := w2) f0.size (.slice (some ⟨g, 0, none⟩) N N) hob
  have hr3 := (hr1.on hb2 hr1.lt).alloc (.cells #[.int .i64 (f0.size : Int), .slice (some ⟨g, 0, none⟩) N N] 26)
  have ho3 := hown.alloc (.cells #[.int .i64 (f0.size : Int), .slice (some ⟨g, 0, none⟩) N N] 26)
  have hB3 := hb2.alloc hb2.size (.cells #[.int .i64 (f0.size : Int), .slice (some ⟨g, 0, none⟩) N N] 26)
  clear hr1 hown hb2 p0
  go_wp2_with fail
  generalize (w2.alloc (.cells #[.int .i64 (f0.size : Int), .slice (some ⟨g, 0, none⟩) N N] 26)) = w3 at *
  have HV3 := Lib.hid hv3
  have HR3 := Lib.hid hr3
  have HO3 := Lib.hid (show w3.ownsRow w1.heap.size 3 1 (.slice (some ⟨g, 0, none⟩) N N) N (iv (oRow (cut47 (tx s)) 0)) from by rw [oRow_zero, HPL.out]; exact ho3)
  have HB3 := Lib.hid hB3
  clear hv3 hr3 ho3 hB3
  go_wp2
  go_loopw [20] (fun i wr => ∃ k : Nat, k ≤ N ∧ i = .int .i64 k ∧ Hid (RgAt wr ob f0.size (.slice (some ⟨g, 0, none⟩) N N)) ∧ Hid (RgAt wr w.heap.size 0 (.slice none 0 0)) ∧ Hid (wr.ownsRow w1.heap.size 3 1 (.slice (some ⟨g, 0, none⟩) N N) N (iv (oRow (cut47 (tx s)) k))) ∧ Below w1.heap.size w1 wr) (fun i _ => N - (intOf i).toNat)
  case atStart => exact ⟨0, by omega, rfl, HV3.out, HR3.out, HO3.out, HB3.out⟩
  case round =>
    obtain ⟨k, hk, rfl, hv, hr, ho, hb⟩ := hrel
    clear HV3 HR3 HO3 HB3
    have hsz := hb.size
    by_cases hlt : k < N
    · have hkp : k < (pieces s).length := by rw [HN.out]; exact hlt
      have hkP : k < (cut47 (tx s)).length := by rw [HPL.out]; exact hlt
      have hpc := (hb.cell (p := ⟨w.heap.size + 1, k, none⟩) (by show w.heap.size + 1 < _; omega)).trans (HPC.out k hkp)
      have hps := HPS.out k hkp
      have hpg := HPG.out k hkp
      rw [HPD.out] at hpg
      have HTZ := Lib.hid (oTo_zero hkP)
      have HTD := Lib.hid (oTo_done hkP)
      have HTG := Lib.hid (oTo_get hkP)
      have HTS := Lib.hid (oTo_set hkP)
      have HTL := Lib.hid (oTo_len hkP)
      generalize (pieces s)[k] = p at hpc hps hpg
      rw [hpg] at HTD HTG HTS
      rw [tx_len] at HTD
      have hk0 : (0 : Int) ≤ (k : Int) := by omega
      have hk1 : (k : Int) < (N : Int) := by omega
      have HO := Lib.hid (show wr.ownsRow w1.heap.size 3 1 (.slice (some ⟨g, 0, none⟩) N N) N (iv (oTo (cut47 (tx s)) k 0)) from by rw [HTZ.out]; exact ho.out)
      clear hpg ho
      generalize wr = wq at *
      go_wp2
      go_loopw [27] (fun i WR9 => ∃ x : Nat, x ≤ p.size ∧ i = .int .i64 x ∧ Hid (RgAt WR9 ob f0.size (.slice (some ⟨g, 0, none⟩) N N)) ∧ Hid (RgAt WR9 w.heap.size 0 (.slice none 0 0)) ∧ Hid (WR9.ownsRow w1.heap.size 3 1 (.slice (some ⟨g, 0, none⟩) N N) N (iv (oTo (cut47 (tx s)) k x))) ∧ Below w1.heap.size w1 WR9) (fun i _ => p.size - (intOf i).toNat)
      case atStart => exact ⟨0, by omega, rfl, hv, hr, HO.out, hb⟩
      case round =>
        clear hv hr hb hsz HO
        obtain ⟨x, hx, rfl, hv, hr, ho, hb⟩ := hrel
        have hsz := hb.size
        by_cases hxl : x < p.size
        · have e35 := byte_int p[x] 35
          have hgp : (tx p).getD x 0 = p[x] := by
            rw [List.getD_eq_getElem?_getD, List.getElem?_eq_getElem (by rw [tx_len]; exact hxl)]
            rfl
          have hst : vTo (tx p) (x + 1) = if p[x] = 35 then bits .or .i64 (vTo (tx p) x) (shV x) else vTo (tx p) x := by rw [vTo, hgp]
          by_cases b35 : p[x] = 35
          · rw [if_pos b35] at hst
            have t35 : (((p[x].toNat : Nat) : Int) == 35) = true := e35.trans (by rw [b35]; rfl)
            have t1 := ho.out.cellAt k (by omega)
            rw [iv_get _ _ (by rw [HTL.out, HPL.out]; exact hlt), HTG.out] at t1
            have t2 := ho.out.frozenAt k
            have hs := ho.out.stored k (.int .i64 (vTo (tx p) (x + 1)))
            rw [iv_set, HTS.out] at hs
            rw [hst] at hs
            have HS := Lib.hid hs
            obtain ⟨z, hz⟩ : ∃ z, vTo (tx p) x = z := ⟨_, rfl⟩
            rw [hz] at t1 HS
            have y1 := hv.out.c1
            clear e35 hst b35 hs hz hgp
            go_wp2_with fail
            refine (iSetC g k x z wr t1 t2).mono ?_
            rintro e w5 ⟨rfl, q, rfl⟩
            have HVN := Lib.hid (show RgAt ((wr.setCell ⟨g, k, none⟩ (.int .i64 (bits .or .i64 z (shV x)))).drewN q) ob f0.size (.slice (some ⟨g, 0, none⟩) N N) from RgAt.far (w := wr) hv.out (by omega))
            have HRN := Lib.hid (show RgAt ((wr.setCell ⟨g, k, none⟩ (.int .i64 (bits .or .i64 z (shV x)))).drewN q) w.heap.size 0 (.slice none 0 0) from RgAt.far (w := wr) hr.out (by omega))
            have HON := Lib.hid (show ((wr.setCell ⟨g, k, none⟩ (.int .i64 (bits .or .i64 z (shV x)))).drewN q).ownsRow w1.heap.size 3 1 (.slice (some ⟨g, 0, none⟩) N N) N (iv (oTo (cut47 (tx s)) k (x + 1))) from HS.out.1)
            have HBN := Lib.hid (below_drewn (hb.setCell (p := ⟨g, k, none⟩) hgl.1 (.int .i64 (bits .or .i64 z (shV x)))) q)
            clear hv hr ho hb HS t1 t2 y1
            generalize ((wr.setCell ⟨g, k, none⟩ (.int .i64 (bits .or .i64 z (shV x)))).drewN q) = w6 at *
            go_wp2
            go_roundw
            case rel => first
              | exact ⟨x + 1, by omega, by go_num, HVN.out, HRN.out, HON.out, HBN.out⟩
              | (repeat apply Exists.intro
                 exact ⟨⟨x + 1, by omega, by go_num, HVN.out, HRN.out, HON.out, HBN.out⟩, rfl⟩)
            case measure => simp [intOf]; omega
          · rw [if_neg b35] at hst
            have t35 : (((p[x].toNat : Nat) : Int) == 35) = false := e35.trans (by rw [decide_eq_false_iff_not]; exact b35)
            have HON := Lib.hid (show wr.ownsRow w1.heap.size 3 1 (.slice (some ⟨g, 0, none⟩) N N) N (iv (oTo (cut47 (tx s)) k (x + 1))) from by
              have h9 := HTS.out x (x + 1)
              rw [hst, ← HTG.out x] at h9
              have h8 := HTS.out x x
              rw [← HTG.out x] at h8
              rw [← h9, h8]
              exact ho.out)
            clear e35 hst b35 hgp ho
            go_wp2
            go_roundw
            case rel => exact ⟨x + 1, by omega, by go_num, hv, hr, HON.out, hb⟩
            case measure => simp [intOf]; omega
        · obtain rfl : x = p.size := by omega
          have HON := Lib.hid (show wr.ownsRow w1.heap.size 3 1 (.slice (some ⟨g, 0, none⟩) N N) N (iv (oRow (cut47 (tx s)) (k + 1))) from by rw [← HTD.out]; exact ho.out)
          clear ho
          go_wp2
          go_roundw
          case rel => exact ⟨k + 1, by omega, by go_num, hv, hr, HON.out, hb⟩
          case measure => simp [intOf]; omega
    · obtain rfl : k = N := by omega
      have HO := Lib.hid (show wr.ownsRow w1.heap.size 3 1 (.slice (some ⟨g, 0, none⟩) k k) k (iv (outL (tx s))) from by
        have h9 := ho.out
        rw [← HPL.out, oRow_all, HPL.out] at h9
        exact h9)
      have HA := Lib.hid (IntsAt.of_own HO.out (outL_in (tx s)))
      have hBW := hB1.trans (hb.mono (by omega))
      have c0 := hv.out.c0
      have c1 := hv.out.c1
      have hll : (outL (tx s)).length = k := by unfold outL; rw [List.length_map, HPL.out]
      have HLL := Lib.hid hll
      have HFW := Lib.hid HW0.out
      clear ho hll
      go_wp2_with fail
      refine (iIsReg wr.heap.size k k (some ⟨g, 0, none⟩) f0.size (outL (tx s)) wr (by omega) HA.out (Nat.le_refl _)).mono ?_
      rintro e w4 ⟨rfl, hb4⟩
      have hv4 := hv.out.on hb4 hv.out.lt
      have hr4 := hr.out.on hb4 hr.out.lt
      have HO4 := Lib.hid (HO.out.kept (grow_below hb4 none) (.inr (by intro e; cases e)))
      have HA4 := Lib.hid ((HA.out.more (Nat.le_refl _)).on hb4)
      have HB4 := Lib.hid (hBW.trans (hb4.mono hBW.size))
      have hsz4 := hb4.size
      clear hb4 hv hr HO HA hBW c0 c1
      cases hreg : isReg (f0.size : Int) (outL (tx s)) with
      | false =>
        have hno : ¬ okQ (tx s) := fun h => by
          have h9 := (out_yes h).1
          rw [HFW.out, hreg] at h9
          cases h9
        have hdn : dP (okQ (tx s)) = false := by
          cases h9 : dP (okQ (tx s)) with
          | false => rfl
          | true => exact absurd ((dP_iff _).1 h9) hno
        have HN0 := Lib.hid (res_no hno)
        obtain rfl : RW = 0 := HRS.out.1.symm.trans HN0.out.1
        obtain rfl : RL = [] := HRS.out.2.1.symm.trans HN0.out.2
        obtain rfl : RB = false := HRS.out.2.2.symm.trans hdn
        clear hreg hno hdn
        have q0 := hr4.c0
        have q1 := hr4.c1
        have q2 := hr4.f 0
        have q3 := hr4.f 1
        have R9 := hr4.set2 0 (.slice none 0 0)
        have e0 := R9.c0
        have e1 := R9.c1
        have HB9 := Lib.hid ((HB4.out.setCell (p := ⟨w.heap.size, 0, none⟩) (Nat.le_refl _) (.int .i64 0)).setCell (p := ⟨w.heap.size, 1, none⟩) (Nat.le_refl _) (.slice none 0 0))
        go_wp2
        generalize ((w4.setCell ⟨w.heap.size, 0, none⟩ (.int .i64 0)).setCell ⟨w.heap.size, 1, none⟩ (.slice none 0 0)) = w9 at *
        exact bodyPost_ret (v := .tuple #[.agg #[.int .i64 0, .slice none 0 0], .bool false]) (by simp [results, Tryz.results7, go_sem, e0, e1]) rfl ⟨_, rfl, nil_rowI _ _, HB9.out⟩
      | true =>
        have v0 := hv4.c0
        have v1 := hv4.c1
        cases hr9 : (fmtR (f0.size : Int) (outL (tx s)) == s.toList) with
        | true =>
          have hyes : okQ (tx s) := ⟨_, _, hreg, by rw [ByteArray.toList_eq, beq_iff_eq] at hr9; exact hr9⟩
          have ho := out_yes hyes
          obtain rfl : RW = (f0.size : Int) := HRS.out.1.symm.trans (ho.2.2.1.symm.trans HFW.out)
          obtain rfl : RL = outL (tx s) := HRS.out.2.1.symm.trans ho.2.2.2.symm
          obtain rfl : RB = true := HRS.out.2.2.symm.trans ((dP_iff _).2 hyes)
          clear ho hyes hreg
          go_wp2_with fail
          refine (iFmtR wr.heap.size k k (some ⟨g, 0, none⟩) f0.size (outL (tx s)) w4 (by omega) HA4.out hsz4).mono ?_
          rintro e w5 ⟨rfl, hb5⟩
          have hv5 := hv4.on hb5 hv4.lt
          have hr5 := hr4.on hb5 hr4.lt
          have HO5 := Lib.hid (HO4.out.kept (grow_below hb5 none) (.inr (by intro e; cases e)))
          have HB5 := Lib.hid (HB4.out.trans (hb5.mono HB4.out.size))
          clear v0 v1 hb5 hv4 hr4 HO4 HB4 HA4
          have v0 := hv5.c0
          have v1 := hv5.c1
          have q0 := hr5.c0
          have q1 := hr5.c1
          have q2 := hr5.f 0
          have q3 := hr5.f 1
          go_wp2
          have R9 := hr5.set2 (f0.size : Int) (.slice (some ⟨g, 0, none⟩) k k)
          have e0 := R9.c0
          have e1 := R9.c1
          have HO9 := Lib.hid (own_below (own_far (b := w.heap.size) (o := 1) (u := .slice (some ⟨g, 0, none⟩) k k) (own_far (b := w.heap.size) (o := 0) (u := .int .i64 (f0.size : Int)) HO5.out (by omega)) (by omega)) (show w.heap.size ≤ w1.heap.size by omega))
          have HB9 := Lib.hid ((HB5.out.setCell (p := ⟨w.heap.size, 0, none⟩) (Nat.le_refl _) (.int .i64 (f0.size : Int))).setCell (p := ⟨w.heap.size, 1, none⟩) (Nat.le_refl _) (.slice (some ⟨g, 0, none⟩) k k))
          generalize ((w5.setCell ⟨w.heap.size, 0, none⟩ (.int .i64 (f0.size : Int))).setCell ⟨w.heap.size, 1, none⟩ (.slice (some ⟨g, 0, none⟩) k k)) = w9 at *
          exact bodyPost_ret (v := .tuple #[.agg #[.int .i64 (f0.size : Int), .slice (some ⟨g, 0, none⟩) k k], .bool true]) (by simp [results, Tryz.results7, go_sem, e0, e1]) rfl ⟨_, rfl, by rw [HLL.out]; exact HO9.out, HB9.out⟩
        | false =>
          have hno : ¬ okQ (tx s) := fun h => by
            have h9 := out_yes h
            rw [HFW.out] at h9
            rw [h9.2.1, ByteArray.toList_eq, beq_self_eq_true] at hr9
            cases hr9
          have hdn : dP (okQ (tx s)) = false := by
            cases h9 : dP (okQ (tx s)) with
            | false => rfl
            | true => exact absurd ((dP_iff _).1 h9) hno
          have HN0 := Lib.hid (res_no hno)
          obtain rfl : RW = 0 := HRS.out.1.symm.trans HN0.out.1
          obtain rfl : RL = [] := HRS.out.2.1.symm.trans HN0.out.2
          obtain rfl : RB = false := HRS.out.2.2.symm.trans hdn
          clear hreg hno hdn
          go_wp2_with fail
          refine (iFmtR wr.heap.size k k (some ⟨g, 0, none⟩) f0.size (outL (tx s)) w4 (by omega) HA4.out hsz4).mono ?_
          rintro e w5 ⟨rfl, hb5⟩
          have hr5 := hr4.on hb5 hr4.lt
          have HB5 := Lib.hid (HB4.out.trans (hb5.mono HB4.out.size))
          clear v0 v1 hb5 hv4 hr4 HO4 HB4 HA4
          have q0 := hr5.c0
          have q1 := hr5.c1
          have q2 := hr5.f 0
          have q3 := hr5.f 1
          have R9 := hr5.set2 0 (.slice none 0 0)
          have e0 := R9.c0
          have e1 := R9.c1
          have HB9 := Lib.hid ((HB5.out.setCell (p := ⟨w.heap.size, 0, none⟩) (Nat.le_refl _) (.int .i64 0)).setCell (p := ⟨w.heap.size, 1, none⟩) (Nat.le_refl _) (.slice none 0 0))
          go_wp2
          generalize ((w5.setCell ⟨w.heap.size, 0, none⟩ (.int .i64 0)).setCell ⟨w.heap.size, 1, none⟩ (.slice none 0 0)) = w9 at *
          exact bodyPost_ret (v := .tuple #[.agg #[.int .i64 0, .slice none 0 0], .bool false]) (by simp [results, Tryz.results7, go_sem, e0, e1]) rfl ⟨_, rfl, nil_rowI _ _, HB9.out⟩
end

section
open Go.RowKit Go.Maps

theorem RgAt.set0 {w : World} {g : Nat} {W : Int} {v : Value} (h : RgAt w g W v) (x : Int) : RgAt (w.setCell ⟨g, 0, none⟩ (.int .i64 x)) g x v := by
  have := set_row h 0 (.int .i64 x)
  unfold RgAt
  simpa using this
theorem dP_no {p : Prop} (h : ¬ p) : dP p = false := by
  cases h9 : dP p with
  | false => rfl
  | true => exact absurd ((dP_iff _).1 h9) h
/-- What was read of a text: the rows done, the row at hand, its place, the width. -/
theorem ps_next {s : ByteArray} {k : Nat} (h : k < s.size) {D : List Int} {c x w : Nat} (e : psTo (tx s) k = (D, c, x, w)) :
    (s[k] = 47 → psTo (tx s) (k + 1) = (D ++ [(c : Int)], 0, 0, w)) ∧ (s[k] = 35 → psTo (tx s) (k + 1) = (D, c ||| 2 ^ x, x + 1, max w (x + 1))) ∧ (s[k] ≠ 47 → s[k] ≠ 35 → psTo (tx s) (k + 1) = (D, c, x + 1, max w (x + 1))) := by
  have hg : (tx s).getD k 0 = s[k] := by
    rw [List.getD_eq_getElem?_getD, List.getElem?_eq_getElem (by rw [tx_len]; exact h)]
    rfl
  rw [psTo_step _ k (by rw [tx_len]; exact h), e, hg]
  refine ⟨fun hb => ?_, fun hb => ?_, fun h1 h2 => ?_⟩
  · unfold psStep; rw [if_pos hb]
  · unfold psStep; rw [if_neg (by rw [hb]; decide), if_pos hb]
  · unfold psStep; rw [if_neg h1, if_neg h2]
theorem okQ_byte {s : ByteArray} {k : Nat} (h : k < s.size) (hn : ¬ okBy s[k]) : ¬ okQ (tx s) := fun hq => by
  obtain ⟨_, _, _, _, _, _, _, _, _, hb⟩ := okQ_out hq
  exact hn (hb _ (List.getElem_mem (h := by rw [tx_len]; exact h)))
theorem fmt_okQ {W : Int} {l : List Int} {s : List UInt8} (h0 : s ≠ []) (h : fmtR W l = s) : okQ s := by
  refine ⟨W, l, ?_, h⟩
  cases h9 : isReg W l with
  | true => rfl
  | false => rw [fmtR_no h9] at h; exact absurd h.symm h0
theorem okQ_size {s : ByteArray} (hn : ¬ (1 ≤ s.size ∧ s.size ≤ 41)) : ¬ okQ (tx s) := fun hq => by
  obtain ⟨_, _, _, _, _, _, _, h1, h2, _⟩ := okQ_out hq
  rw [tx_len] at h1 h2
  exact hn ⟨h1, h2⟩

set_option maxHeartbeats 4000000 in
set_option maxRecDepth 100000 in
theorem sParR (s : ByteArray) (w : World) (hs : s.size ≤ 1048576) :
    Calls Tryz.prog 9 #[.string s] w fun e w' => ∃ v, e = .returned (.tuple #[.agg #[.int .i64 (resW (tx s)), v], .bool (dP (okQ (tx s)))]) ∧ w'.ownsRow w.heap.size 3 1 v (resL (tx s)).length (iv (resL (tx s))) ∧ Below w.heap.size w w' := by
  obtain ⟨i0, hi, hz0, hz1, hz2⟩ := info_parts info_int
  have hres := ((RgAt.new (w := w) 0 (.slice none 0 0) rfl).alloc (.cells #[.int .i64 0] 3)).alloc (.cells #[.int .i64 0, .slice (some ⟨w.heap.size + 1, 0, none⟩) 1 1] 26)
  have hv0 := RgAt.new (w := (w.alloc (.cells #[.int .i64 0, .slice none 0 0] 26)).alloc (.cells #[.int .i64 0] 3)) (N := w.heap.size + 1 + 1) 0 (.slice (some ⟨w.heap.size + 1, 0, none⟩) 1 1) (by simp)
  have hb0 := (((Below.refl w.heap.size w).alloc (Nat.le_refl _) (.cells #[.int .i64 0, .slice none 0 0] 26)).alloc (by simp) (.cells #[.int .i64 0] 3)).alloc (by simp; omega) (.cells #[.int .i64 0, .slice (some ⟨w.heap.size + 1, 0, none⟩) 1 1] 26)
  have ho0 : ((w.alloc (.cells #[.int .i64 0, .slice none 0 0] 26)).alloc (.cells #[.int .i64 0] 3)).ownsRow (w.heap.size + 1) 3 1 (.slice (some ⟨w.heap.size + 1, 0, none⟩) 1 1) 1 (iv [0]) := by
    have h9 := World.ownsRow_lit (base := w.heap.size + 1) (e := 3) (size := 1) (w.alloc (.cells #[.int .i64 0, .slice none 0 0] 26)) #[.int .i64 0] 1 (by simp) (by simp [maxLen]) rfl
    have e9 : (w.alloc (.cells #[.int .i64 0, .slice none 0 0] 26)).heap.size = w.heap.size + 1 := by simp
    rw [e9] at h9
    exact h9
  have ho1 := ho0.alloc (.cells #[.int .i64 0, .slice (some ⟨w.heap.size + 1, 0, none⟩) 1 1] 26)
  obtain ⟨RW, hRW⟩ : ∃ z, resW (tx s) = z := ⟨_, rfl⟩
  obtain ⟨RL, hRL⟩ : ∃ z, resL (tx s) = z := ⟨_, rfl⟩
  obtain ⟨RB, hRB⟩ : ∃ z, dP (okQ (tx s)) = z := ⟨_, rfl⟩
  rw [hRW, hRL, hRB]
  have HRS := Lib.hid (And.intro hRW (And.intro hRL hRB))
  have HNO := Lib.hid (show ¬ okQ (tx s) → RW = 0 ∧ RL = [] ∧ RB = false from fun h => ⟨by rw [← hRW, (res_no h).1], by rw [← hRL, (res_no h).2], by rw [← hRB, dP_no h]⟩)
  clear hRW hRL hRB ho0
  go_enter Tryz.func9, Tryz.ntmps9
  go_wp2_with fail
  generalize (((w.alloc (.cells #[.int .i64 0, .slice none 0 0] 26)).alloc (.cells #[.int .i64 0] 3)).alloc (.cells #[.int .i64 0, .slice (some ⟨w.heap.size + 1, 0, none⟩) 1 1] 26)) = w1 at *
  go_loopw [5, 6] (fun xv i wr => ∃ (k c x m ww g cc : Nat) (D : List Int), k ≤ s.size ∧ (k = 0 ∨ s.size ≤ 41) ∧ xv = .int .i64 x ∧ i = .int .i64 k ∧ Hid (m = D.length + 1) ∧ Hid (psTo (tx s) k = (D, c, x, ww)) ∧ Hid (RgAt wr (w.heap.size + 1 + 1) ww (.slice (some ⟨g, 0, none⟩) m cc)) ∧ Hid (wr.ownsRow (w.heap.size + 1) 3 1 (.slice (some ⟨g, 0, none⟩) m cc) m (iv (D ++ [(c : Int)]))) ∧ g ≠ w.heap.size + 1 + 1 ∧ Hid (RgAt wr w.heap.size 0 (.slice none 0 0)) ∧ Hid (Below w.heap.size w wr)) (fun _ i _ => s.size - (intOf i).toNat)
  case atStart => exact ⟨0, 0, 0, 1, 0, w.heap.size + 1, 1, [], by omega, .inl rfl, rfl, rfl, rfl, psTo_zero _, hv0, ho1, by omega, hres, hb0⟩
  case round =>
    obtain ⟨k, c, x, m, ww, g, cc, D, hk, hk41, rfl, rfl, hm, hps, hv, ho, hgv, hr, hb⟩ := hrel
    clear hv0 ho1 hres hb0
    have hbd := psTo_bd (tx s) k (by rw [tx_len]; exact hk)
    rw [hps.out] at hbd
    dsimp only at hbd
    have hm41 : m ≤ k + 1 := by have := hm.out; omega
    have hgl := ho.out.lt g rfl
    have hvl := hv.out.lt
    by_cases hlt : k < s.size
    · by_cases h41 : s.size ≤ 41
      · have hd41 : decide ((s.size : Int) ≤ 41) = true := by simp; omega
        have HNX := Lib.hid (ps_next hlt hps.out)
        have e35 := byte_int s[k] 35
        have e46 := byte_int s[k] 46
        have e47 := byte_int s[k] 47
        have c0 := hv.out.c0
        have c1 := hv.out.c1
        have f0 := hv.out.f 0
        have f1 := hv.out.f 1
        by_cases b47 : s[k] = 47
        · have t47 : (((s[k].toNat : Nat) : Int) == 47) = true := e47.trans (by rw [b47]; rfl)
          have HN := Lib.hid (HNX.out.1 b47)
          clear e35 e46 e47 b47
          go_wp2_with (first | (at_builtin; refine wpList_append_own_at _ rfl _ _ 24 rfl (w.heap.size + 1) 3 i0 (.int .i64 0) 1 8 Tryz.underlying24 hi hz0 hz1 hz2 rfl (by decide) _ _ _ rfl (ho.out.alloc _) ⟨wr.heap.size, 0, none⟩ 1 1 (iv [0]) rfl rfl (World.news_of_block (cs := (iv [0]).toArray) (heap_alloc_new _ _)) (iv_one _) ?c3 ?c4 ?c5 ?_) | go_in)
          case c3 => unfold maxLen; omega
          case c4 => omega
          case c5 => simp; omega
          intro v' w3 hown3 hgrow _ hblk
          obtain ⟨g3, cc3, rfl⟩ : ∃ g cap, v' = .slice (some ⟨g, 0, none⟩) (m + 1) cap := by
            rcases hown3.2 with ⟨_, h9⟩ | ⟨g, cap, cur, rfl, _⟩
            · omega
            · exact ⟨g, cap, rfl⟩
          have hg3 : g3 ≠ w.heap.size + 1 + 1 := by
            rcases hblk with h9 | h9
            · have e9 : g3 = g := Option.some.inj h9
              omega
            · have e9 : g3 = (wr.alloc (.cells (iv [0]).toArray 3)).heap.size := Option.some.inj (h9.trans (by simp))
              simp at e9
              omega
          have hgg := hown3.lt g3 rfl
          have hv3 := (hv.out.alloc (.cells (iv [0]).toArray 3)).by hgrow (fun e => hgv (Option.some.inj e))
          have hr3 := (hr.out.alloc (.cells (iv [0]).toArray 3)).by hgrow (fun e => by have e2 : g = w.heap.size := Option.some.inj e; omega)
          have HBN := Lib.hid (((hb.out.alloc hb.out.size (.cells (iv [0]).toArray 3)).grown hgrow (hb.out.alloc hb.out.size (.cells (iv [0]).toArray 3)).size (fun j hj => by have e2 : g = j := Option.some.inj hj; omega)).setCell (p := ⟨w.heap.size + 1 + 1, 1, none⟩) (by show w.heap.size ≤ w.heap.size + 1 + 1; omega) (.slice (some ⟨g3, 0, none⟩) (m + 1) cc3))
          have HVN := Lib.hid (hv3.set1 (.slice (some ⟨g3, 0, none⟩) (m + 1) cc3))
          have HRN := Lib.hid (hr3.far (g' := w.heap.size + 1 + 1) (j := 1) (u := .slice (some ⟨g3, 0, none⟩) (m + 1) cc3) (by omega))
          have HON := Lib.hid (own_far (b := w.heap.size + 1 + 1) (o := 1) (u := .slice (some ⟨g3, 0, none⟩) (m + 1) cc3) (show w3.ownsRow (w.heap.size + 1) 3 1 (.slice (some ⟨g3, 0, none⟩) (m + 1) cc3) (m + 1) (iv (D ++ [(c : Int)] ++ [((0 : Nat) : Int)])) from by
            have e9 : iv (D ++ [(c : Int)] ++ [((0 : Nat) : Int)]) = iv (D ++ [(c : Int)]) ++ iv [0] := by simp [iv]
            rw [e9]
            exact hown3) (by omega))
          have HMM := Lib.hid (show m + 1 = (D ++ [(c : Int)]).length + 1 from by rw [List.length_append, hm.out]; rfl)
          have z0 := hv3.c0
          have z1 := hv3.c1
          have zf := hv3.f 1
          clear hown3 hgrow hblk hv hr ho hb c0 c1 f0 f1 hv3 hr3 hm hps
          go_wp2
          go_roundw
          case rel => first
            | exact ⟨k + 1, 0, 0, m + 1, ww, g3, cc3, D ++ [(c : Int)], by omega, .inr h41, rfl, by go_num, HMM.out, HN.out, HVN.out, HON.out, hg3, HRN.out, HBN.out⟩
            | (repeat apply Exists.intro
               exact ⟨⟨k + 1, 0, 0, m + 1, ww, g3, cc3, D ++ [(c : Int)], by omega, .inr h41, rfl, by go_num, HMM.out, HN.out, HVN.out, HON.out, hg3, HRN.out, HBN.out⟩, rfl⟩)
          case measure => simp [intOf]; omega
        · have t47 : (((s[k].toNat : Nat) : Int) == 47) = false := e47.trans (by rw [decide_eq_false_iff_not]; exact b47)
          have hmx : max (ww : Int) ((x : Int) + 1) = ((max ww (x + 1) : Nat) : Int) := by omega
          have hwx : IntKind.i64.wrap ((x : Int) + 1) = (x : Int) + 1 := IntWalk.i64_in _ (by omega)
          obtain ⟨W2, hW2⟩ : ∃ z : Nat, max ww (x + 1) = z := ⟨_, rfl⟩
          rw [hW2] at hmx
          have HMX := Lib.hid hmx
          by_cases b35 : s[k] = 35
          · have t35 : (((s[k].toNat : Nat) : Int) == 35) = true := e35.trans (by rw [b35]; rfl)
            have hn := HNX.out.2.1 b35
            rw [hW2] at hn
            have HN := Lib.hid hn
            obtain ⟨d, hd⟩ : ∃ d, D.length = d := ⟨_, rfl⟩
            have hmd : m = d + 1 := by have := hm.out; omega
            have hwm : IntKind.i64.wrap ((m : Int) - 1) = (d : Int) := by rw [IntWalk.i64_in _ (by omega)]; omega
            have hd0 : (0 : Int) ≤ (d : Int) := by omega
            have hd1 : (d : Int) < (m : Int) := by omega
            have t1 := ho.out.cellAt d (by omega)
            rw [iv_get _ _ (by simp; omega), show (D ++ [(c : Int)]).getD d 0 = (c : Int) from by rw [← hd]; simp [List.getD]] at t1
            have t2 := ho.out.frozenAt d
            have hs := ho.out.stored d (.int .i64 ((c ||| 2 ^ x : Nat) : Int))
            rw [iv_set, show (D ++ [(c : Int)]).set d ((c ||| 2 ^ x : Nat) : Int) = D ++ [((c ||| 2 ^ x : Nat) : Int)] from by rw [← hd]; simp] at hs
            have HS := Lib.hid hs
            have hp : 2 ^ x ≤ 2 ^ 41 := Nat.pow_le_pow_right (by omega) (by omega)
            have hbv : bits .or .i64 (c : Int) (shV x) = ((c ||| 2 ^ x : Nat) : Int) := by
              rw [shV_in (by omega)]
              exact i64_or_nat _ _ (by omega) (by omega)
            unfold shV at hbv
            have HMD := Lib.hid hmd
            have HMDL := Lib.hid (show m = D.length + 1 from hm.out)
            clear e35 e46 e47 b35 b47 hs hmx hn hd hmd hp hW2 hm hps hbd
            generalize c ||| 2 ^ x = c2 at *
            go_wp2_with fail
            go_region
            all_goals
              have hv6 : RgAt (wr.setCell ⟨g, d, none⟩ (.int .i64 (c2 : Int))).drew (w.heap.size + 1 + 1) ww (.slice (some ⟨g, 0, none⟩) m cc) := RgAt.far (w := wr) hv.out hgv
              have hr6 : RgAt (wr.setCell ⟨g, d, none⟩ (.int .i64 (c2 : Int))).drew w.heap.size 0 (.slice none 0 0) := RgAt.far (w := wr) hr.out (by omega)
              have ho6 : (wr.setCell ⟨g, d, none⟩ (.int .i64 (c2 : Int))).drew.ownsRow (w.heap.size + 1) 3 1 (.slice (some ⟨g, 0, none⟩) m cc) m (iv (D ++ [(c2 : Int)])) := HS.out.1
              have hb6 := (hb.out.setCell (p := ⟨g, d, none⟩) (by show w.heap.size ≤ g; omega) (.int .i64 (c2 : Int))).drew
              clear hv hr ho hb HS t1 t2 c0 c1 f0 f1 hbv
              generalize (wr.setCell ⟨g, d, none⟩ (.int .i64 (c2 : Int))).drew = w6 at *
              have c0 := hv6.c0
              have f0 := hv6.f 0
              have hmx := HMX.out
              have HVN := Lib.hid (hv6.set0 (W2 : Int))
              have HRN := Lib.hid (hr6.far (g' := w.heap.size + 1 + 1) (j := 0) (u := .int .i64 (W2 : Int)) (by omega))
              have HON := Lib.hid (own_far (b := w.heap.size + 1 + 1) (o := 0) (u := .int .i64 (W2 : Int)) ho6 (by omega))
              have HBN := Lib.hid (hb6.setCell (p := ⟨w.heap.size + 1 + 1, 0, none⟩) (by show w.heap.size ≤ w.heap.size + 1 + 1; omega) (.int .i64 (W2 : Int)))
              have HML := Lib.hid (show m = D.length + 1 from HMDL.out)
              clear hv6 hr6 ho6 hb6
              go_wp2
              go_roundw
              case rel => first
                | exact ⟨k + 1, c2, x + 1, m, W2, g, cc, D, by omega, .inr h41, by go_num, by go_num, HML.out, HN.out, HVN.out, HON.out, hgv, HRN.out, HBN.out⟩
                | (repeat apply Exists.intro
                   exact ⟨⟨k + 1, c2, x + 1, m, W2, g, cc, D, by omega, .inr h41, by go_num, by go_num, HML.out, HN.out, HVN.out, HON.out, hgv, HRN.out, HBN.out⟩, rfl⟩)
              case measure => simp [intOf]; omega
          · have t35 : (((s[k].toNat : Nat) : Int) == 35) = false := e35.trans (by rw [decide_eq_false_iff_not]; exact b35)
            by_cases b46 : s[k] = 46
            · have t46 : (((s[k].toNat : Nat) : Int) == 46) = true := e46.trans (by rw [b46]; rfl)
              have hn := HNX.out.2.2 b47 b35
              rw [hW2] at hn
              have HN := Lib.hid hn
              have HVN := Lib.hid (hv.out.set0 (W2 : Int))
              have HRN := Lib.hid (hr.out.far (g' := w.heap.size + 1 + 1) (j := 0) (u := .int .i64 (W2 : Int)) (by omega))
              have HON := Lib.hid (own_far (b := w.heap.size + 1 + 1) (o := 0) (u := .int .i64 (W2 : Int)) ho.out (by omega))
              have HBN := Lib.hid (hb.out.setCell (p := ⟨w.heap.size + 1 + 1, 0, none⟩) (by show w.heap.size ≤ w.heap.size + 1 + 1; omega) (.int .i64 (W2 : Int)))
              clear e35 e46 e47 b35 b46 b47 hn hW2 hv hr ho hb hps hbd
              go_wp2
              go_roundw
              case rel => first
                | exact ⟨k + 1, c, x + 1, m, W2, g, cc, D, by omega, .inr h41, by go_num, by go_num, hm.out, HN.out, HVN.out, HON.out, hgv, HRN.out, HBN.out⟩
                | (repeat apply Exists.intro
                   exact ⟨⟨k + 1, c, x + 1, m, W2, g, cc, D, by omega, .inr h41, by go_num, by go_num, hm.out, HN.out, HVN.out, HON.out, hgv, HRN.out, HBN.out⟩, rfl⟩)
              case measure => simp [intOf]; omega
            · have t46 : (((s[k].toNat : Nat) : Int) == 46) = false := e46.trans (by rw [decide_eq_false_iff_not]; exact b46)
              obtain ⟨r1, r2, r3⟩ := HNO.out (okQ_byte hlt (by unfold okBy; intro h; rcases h with h | h | h; exact b47 h; exact b35 h; exact b46 h))
              subst r1 r2 r3
              have q0 := hr.out.c0
              have q1 := hr.out.c1
              have q2 := hr.out.f 0
              have q3 := hr.out.f 1
              have R9 := hr.out.set2 0 (.slice none 0 0)
              have e0 := R9.c0
              have e1 := R9.c1
              have HB9 := Lib.hid ((hb.out.setCell (p := ⟨w.heap.size, 0, none⟩) (Nat.le_refl _) (.int .i64 0)).setCell (p := ⟨w.heap.size, 1, none⟩) (Nat.le_refl _) (.slice none 0 0))
              clear e35 e46 e47 b35 b46 b47 hmx hW2 hps hbd
              go_wp2
              generalize ((wr.setCell ⟨w.heap.size, 0, none⟩ (.int .i64 0)).setCell ⟨w.heap.size, 1, none⟩ (.slice none 0 0)) = w9 at *
              exact bodyPost_ret (v := .tuple #[.agg #[.int .i64 0, .slice none 0 0], .bool false]) (by simp [results, Tryz.results9, go_sem, e0, e1]) rfl ⟨_, rfl, nil_rowI _ _, HB9.out⟩
      · have hd41 : decide ((s.size : Int) ≤ 41) = false := by simp; omega
        have hk0 : k = 0 := by omega
        have he1 : s.toList.isEmpty = false := by rw [ByteArray.toList_eq, List.isEmpty_eq_false_iff]; intro h; have := tx_len s; rw [show tx s = [] from h] at this; simp at this; omega
        have he2 : ¬ s.toList = [] := by intro h; rw [h] at he1; cases he1
        have hnq : ¬ okQ (tx s) := okQ_size (by omega)
        have hp : (2 : Int) ^ k ≤ 2 ^ 41 := by
          have h9 : (2 : Nat) ^ k ≤ 2 ^ 41 := Nat.pow_le_pow_right (by omega) (by omega)
          exact_mod_cast h9
        have hpx : 2 ^ x ≤ 2 ^ 41 := Nat.pow_le_pow_right (by omega) (by omega)
        have HA := Lib.hid (IntsAt.of_own ho.out (fun z hz => by
          unfold In64
          rcases List.mem_append.1 hz with hz | hz
          · have := hbd.2.2.2 z hz
            omega
          · rw [List.mem_singleton] at hz
            subst hz
            omega))
        have c0 := hv.out.c0
        have c1 := hv.out.c1
        clear hp hpx
        have hne : (fmtR (ww : Int) (D ++ [(c : Int)]) == s.toList) = false := by
          rw [beq_eq_false_iff_ne, ByteArray.toList_eq]
          exact fun h => hnq (fmt_okQ (fun h9 => he2 (by rw [ByteArray.toList_eq]; exact h9)) h)
        clear hps hbd
        subst hk0
        obtain ⟨r1, r2, r3⟩ := HNO.out hnq
        subst r1 r2 r3
        clear hnq
        go_wp2_with fail
        refine (sFmtR wr.heap.size m cc (some ⟨g, 0, none⟩) ww (D ++ [(c : Int)]) wr (by omega) HA.out (Nat.le_refl _)).mono ?_
        rintro e w5 ⟨rfl, hb5⟩
        have hr5 := hr.out.on hb5 hr.out.lt
        have HB5 := Lib.hid (hb.out.trans (hb5.mono hb.out.size))
        clear c0 c1 hb5 hv ho hr hb
        have q0 := hr5.c0
        have q1 := hr5.c1
        have q2 := hr5.f 0
        have q3 := hr5.f 1
        have R9 := hr5.set2 0 (.slice none 0 0)
        have e0 := R9.c0
        have e1 := R9.c1
        have HB9 := Lib.hid ((HB5.out.setCell (p := ⟨w.heap.size, 0, none⟩) (Nat.le_refl _) (.int .i64 0)).setCell (p := ⟨w.heap.size, 1, none⟩) (Nat.le_refl _) (.slice none 0 0))
        go_wp2
        generalize ((w5.setCell ⟨w.heap.size, 0, none⟩ (.int .i64 0)).setCell ⟨w.heap.size, 1, none⟩ (.slice none 0 0)) = w9 at *
        exact bodyPost_ret (v := .tuple #[.agg #[.int .i64 0, .slice none 0 0], .bool false]) (by simp [results, Tryz.results9, go_sem, e0, e1]) rfl ⟨_, rfl, nil_rowI _ _, HB9.out⟩
    · have hkk : k = s.size := by omega
      by_cases hz : s.size = 0
      · have he2 : s.toList = [] := by rw [ByteArray.toList_eq, ← List.length_eq_zero_iff, tx_len]; exact hz
        have he1 : s.toList.isEmpty = true := by rw [he2]; rfl
        obtain ⟨r1, r2, r3⟩ := HNO.out (okQ_size (s := s) (by omega))
        subst r1 r2 r3
        have q0 := hr.out.c0
        have q1 := hr.out.c1
        have q2 := hr.out.f 0
        have q3 := hr.out.f 1
        have R9 := hr.out.set2 0 (.slice none 0 0)
        have e0 := R9.c0
        have e1 := R9.c1
        have HB9 := Lib.hid ((hb.out.setCell (p := ⟨w.heap.size, 0, none⟩) (Nat.le_refl _) (.int .i64 0)).setCell (p := ⟨w.heap.size, 1, none⟩) (Nat.le_refl _) (.slice none 0 0))
        clear hps hbd
        go_wp2
        generalize ((wr.setCell ⟨w.heap.size, 0, none⟩ (.int .i64 0)).setCell ⟨w.heap.size, 1, none⟩ (.slice none 0 0)) = w9 at *
        exact bodyPost_ret (v := .tuple #[.agg #[.int .i64 0, .slice none 0 0], .bool false]) (by simp [results, Tryz.results9, go_sem, e0, e1]) rfl ⟨_, rfl, nil_rowI _ _, HB9.out⟩
      · have he2 : ¬ s.toList = [] := by rw [ByteArray.toList_eq, ← List.length_eq_zero_iff, tx_len]; exact hz
        have he1 : s.toList.isEmpty = false := by rw [List.isEmpty_eq_false_iff]; exact he2
        have hp : (2 : Int) ^ k ≤ 2 ^ 41 := by
          have h9 : (2 : Nat) ^ k ≤ 2 ^ 41 := Nat.pow_le_pow_right (by omega) (by omega)
          exact_mod_cast h9
        have hpx : 2 ^ x ≤ 2 ^ 41 := Nat.pow_le_pow_right (by omega) (by omega)
        have HA := Lib.hid (IntsAt.of_own ho.out (fun z hz => by
          unfold In64
          rcases List.mem_append.1 hz with hz | hz
          · have := hbd.2.2.2 z hz
            omega
          · rw [List.mem_singleton] at hz
            subst hz
            omega))
        have c0 := hv.out.c0
        have c1 := hv.out.c1
        clear hp hpx
        have hpe : psTo (tx s) (tx s).length = (D, c, x, ww) := by rw [tx_len, ← hkk]; exact hps.out
        have hiff := okQ_iff (s := tx s) (fun h9 => he2 (by rw [ByteArray.toList_eq]; exact h9))
        rw [hpe] at hiff
        have hry := fun h => res_yes (s := tx s) h
        rw [hpe] at hry
        have HRY := Lib.hid (show okQ (tx s) → resW (tx s) = ww ∧ resL (tx s) = D ++ [(c : Int)] from hry)
        have HIF := Lib.hid (show okQ (tx s) ↔ fmtR (ww : Int) (D ++ [(c : Int)]) = tx s from hiff)
        clear hpe hiff hry hps hbd
        cases hr9 : (fmtR (ww : Int) (D ++ [(c : Int)]) == s.toList) with
        | true =>
          have hyes : okQ (tx s) := HIF.out.2 (by rw [ByteArray.toList_eq, beq_iff_eq] at hr9; exact hr9)
          obtain rfl : RW = (ww : Int) := HRS.out.1.symm.trans (HRY.out hyes).1
          obtain rfl : RL = D ++ [(c : Int)] := HRS.out.2.1.symm.trans (HRY.out hyes).2
          obtain rfl : RB = true := HRS.out.2.2.symm.trans ((dP_iff _).2 hyes)
          clear hyes
          go_wp2_with fail
          refine (sFmtR wr.heap.size m cc (some ⟨g, 0, none⟩) ww (D ++ [(c : Int)]) wr (by omega) HA.out (Nat.le_refl _)).mono ?_
          rintro e w5 ⟨rfl, hb5⟩
          have hv5 := hv.out.on hb5 hv.out.lt
          have hr5 := hr.out.on hb5 hr.out.lt
          have HO5 := Lib.hid (ho.out.kept (grow_below hb5 none) (.inr (by intro e; cases e)))
          have HB5 := Lib.hid (hb.out.trans (hb5.mono hb.out.size))
          clear c0 c1 hb5 hv ho hr hb
          have c0 := hv5.c0
          have c1 := hv5.c1
          have q0 := hr5.c0
          have q1 := hr5.c1
          have q2 := hr5.f 0
          have q3 := hr5.f 1
          have R9 := hr5.set2 (ww : Int) (.slice (some ⟨g, 0, none⟩) m cc)
          have e0 := R9.c0
          have e1 := R9.c1
          have HO9 := Lib.hid (own_below (own_far (b := w.heap.size) (o := 1) (u := .slice (some ⟨g, 0, none⟩) m cc) (own_far (b := w.heap.size) (o := 0) (u := .int .i64 (ww : Int)) HO5.out (by omega)) (by omega)) (show w.heap.size ≤ w.heap.size + 1 by omega))
          have HB9 := Lib.hid ((HB5.out.setCell (p := ⟨w.heap.size, 0, none⟩) (Nat.le_refl _) (.int .i64 (ww : Int))).setCell (p := ⟨w.heap.size, 1, none⟩) (Nat.le_refl _) (.slice (some ⟨g, 0, none⟩) m cc))
          have HML := Lib.hid (show (D ++ [(c : Int)]).length = m from by rw [List.length_append, hm.out]; rfl)
          go_wp2
          generalize ((w5.setCell ⟨w.heap.size, 0, none⟩ (.int .i64 (ww : Int))).setCell ⟨w.heap.size, 1, none⟩ (.slice (some ⟨g, 0, none⟩) m cc)) = w9 at *
          exact bodyPost_ret (v := .tuple #[.agg #[.int .i64 (ww : Int), .slice (some ⟨g, 0, none⟩) m cc], .bool true]) (by simp [results, Tryz.results9, go_sem, e0, e1]) rfl ⟨_, rfl, by rw [HML.out]; exact HO9.out, HB9.out⟩
        | false =>
          have hnq : ¬ okQ (tx s) := fun h => by
            have h9 := HIF.out.1 h
            rw [h9, ByteArray.toList_eq, beq_self_eq_true] at hr9
            cases hr9
          obtain ⟨r1, r2, r3⟩ := HNO.out hnq
          subst r1 r2 r3
          clear hnq
          go_wp2_with fail
          refine (sFmtR wr.heap.size m cc (some ⟨g, 0, none⟩) ww (D ++ [(c : Int)]) wr (by omega) HA.out (Nat.le_refl _)).mono ?_
          rintro e w5 ⟨rfl, hb5⟩
          have hr5 := hr.out.on hb5 hr.out.lt
          have HB5 := Lib.hid (hb.out.trans (hb5.mono hb.out.size))
          clear c0 c1 hb5 hv ho hr hb
          have q0 := hr5.c0
          have q1 := hr5.c1
          have q2 := hr5.f 0
          have q3 := hr5.f 1
          have R9 := hr5.set2 0 (.slice none 0 0)
          have e0 := R9.c0
          have e1 := R9.c1
          have HB9 := Lib.hid ((HB5.out.setCell (p := ⟨w.heap.size, 0, none⟩) (Nat.le_refl _) (.int .i64 0)).setCell (p := ⟨w.heap.size, 1, none⟩) (Nat.le_refl _) (.slice none 0 0))
          go_wp2
          generalize ((w5.setCell ⟨w.heap.size, 0, none⟩ (.int .i64 0)).setCell ⟨w.heap.size, 1, none⟩ (.slice none 0 0)) = w9 at *
          exact bodyPost_ret (v := .tuple #[.agg #[.int .i64 0, .slice none 0 0], .bool false]) (by simp [results, Tryz.results9, go_sem, e0, e1]) rfl ⟨_, rfl, nil_rowI _ _, HB9.out⟩
end

end Go.Proofs.YtcfioncnpfoccaaGreatDoor
