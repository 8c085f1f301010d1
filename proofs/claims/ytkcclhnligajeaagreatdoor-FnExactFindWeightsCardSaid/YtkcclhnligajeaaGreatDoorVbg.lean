/-
  Weights, the plain facts: how the two answers are laid, place by place; when the first column that serves is found.
  What a search for weights gives: a list of the call's own, and whether there is one.
  Is a number among some, by the library's own function: what the call gives.
  What the program's table says of slices of numbers.
  The search for weights that forbid: in the program: what the call gives.
-/
import Derived.Test.YtkcclhnligajeaaGreatDoorVam
import Derived.Test.YtkcclhnligajeaaGreatDoorVac
import Derived.Test.YtkcclhnligajeaaGreatDoorVai
import Derived.Test.YtkcclhnligajeaaGreatDoorVap
import Derived.Test.YtkcclhnligajeaaGreatDoorShelf
import Derived.Test.YtkcclhnligajeaaGreatDoorKit
import Derived.Test.YtkcclhnligajeaaGreatDoorVbc
import Derived.Test.YtkcclhnligajeaaGreatDoorVbf
namespace Go.Proofs.YtkcclhnligajeaaGreatDoor

section
/-- Numbers laid at the columns of the leading ones, one after another. -/
def layL (lead : List Nat) (g f : Nat → Int) : Nat → Nat → Int
  | 0 => f
  | i + 1 => fun j => if j = lead.getD i 0 then g i else layL lead g f i j
theorem layL_step (lead : List Nat) (g f : Nat → Int) (i n : Nat) : lstI n (fun j => if j = lead.getD i 0 then g i else layL lead g f i j) = lstI n (layL lead g f (i + 1)) := rfl
theorem layL_at {lead : List Nat} {g f : Nat → Int} {j r : Nat} (hr : r < lead.length) (e : lead.getD r 0 = j) (hd : ∀ i i', i < lead.length → i' < lead.length → lead.getD i 0 = lead.getD i' 0 → i = i') :
    ∀ i, i ≤ lead.length → layL lead g f i j = if r < i then g r else f j
  | 0, _ => by rw [if_neg (by omega)]; rfl
  | i + 1, h => by
    have ih := layL_at (g := g) (f := f) hr e hd i (by omega)
    show (if j = lead.getD i 0 then g i else layL lead g f i j) = _
    by_cases e2 : j = lead.getD i 0
    · have : i = r := hd i r (by omega) hr (by rw [e, e2])
      subst this
      rw [if_pos e2, if_pos (by omega)]
    · rw [if_neg e2, ih]
      by_cases e3 : r < i
      · rw [if_pos e3, if_pos (by omega)]
      · rw [if_neg e3, if_neg]
        intro h9
        obtain rfl : r = i := by omega
        exact e2 e.symm
theorem layL_off {lead : List Nat} {g f : Nat → Int} {j : Nat} (h : ∀ r, r < lead.length → lead.getD r 0 ≠ j) : ∀ i, i ≤ lead.length → layL lead g f i j = f j
  | 0, _ => rfl
  | i + 1, hi => by
    show (if j = lead.getD i 0 then g i else layL lead g f i j) = _
    rw [if_neg (fun e => h i (by omega) e.symm)]
    exact layL_off h i (by omega)
section
variable {p : Int} {n m : Nat} {P : Mt}
theorem redI_nodup (hp : PrmI p) (hb : ∀ i j, i < m → j < n → 0 ≤ P i j ∧ P i j < p) : ∀ i i', i < (redI p m P n).2.length → i' < (redI p m P n).2.length → (redI p m P n).2.getD i 0 = (redI p m P n).2.getD i' 0 → i = i' :=
  fun _ _ h1 h2 e => (redI_is hp hb n (Nat.le_refl _)).nodup h1 h2 e
theorem lay_vec (hp : PrmI p) (hb : ∀ i j, i < m → j < n → 0 ≤ P i j ∧ P i j < p) {k : Nat} (hk : posL (redI p m P n).2 k = none) :
    lstI n (layL (redI p m P n).2 (fun i => (p - (redI p m P n).1 i k) % p) (fun j => if j = k then 1 else 0) (redI p m P n).2.length) = lstI n (vecI p (redI p m P n).1 (redI p m P n).2 k) := lstI_congr fun j _ => by
  unfold vecI
  cases hj : posL (redI p m P n).2 j with
  | some r =>
    obtain ⟨h1, h2⟩ := posL_some hj
    rw [layL_at h1 h2 (redI_nodup hp hb) _ (Nat.le_refl _), if_pos h1]
    have : j ≠ k := fun e => by rw [e, hk] at hj; cases hj
    rw [if_neg this]
  | none => rw [layL_off (posL_none hj) _ (Nat.le_refl _)]
theorem lay_sol {n' : Nat} (hp : PrmI p) (hb : ∀ i j, i < m → j < n → 0 ≤ P i j ∧ P i j < p) (c : Nat) :
    lstI n' (layL (redI p m P n).2 (fun i => (redI p m P n).1 i c) (fun _ => 0) (redI p m P n).2.length) = lstI n' (solI (redI p m P n).1 (redI p m P n).2 c) := lstI_congr fun j _ => by
  unfold solI
  cases hj : posL (redI p m P n).2 j with
  | some r =>
    obtain ⟨h1, h2⟩ := posL_some hj
    rw [layL_at h1 h2 (redI_nodup hp hb) _ (Nat.le_refl _), if_pos h1]
  | none => rw [layL_off (posL_none hj) _ (Nat.le_refl _)]
/-- Whether a column serves. -/
def srvW (p : Int) (m n : Nat) (P : Mt) (u : Nat → Int) (k : Nat) : Bool := (posL (redI p m P n).2 k).isNone && decide (dotI n u (vecI p (redI p m P n).1 (redI p m P n).2 k) % p ≠ 0)
theorem ansW_hit {u : Nat → Int} {k : Nat} (hk : k < n) (h : srvW p m n P u k = true) (hno : ∀ j, j < k → srvW p m n P u j = false) : ansW p m n P u = some (lstI n (vecI p (redI p m P n).1 (redI p m P n).2 k)) := by
  have : colW p m n P u = some k := by
    unfold colW
    rw [List.find?_range_eq_some]
    refine ⟨h, List.mem_range.2 hk, fun j hj => ?_⟩
    have h9 := hno j hj
    unfold srvW at h9
    rw [h9]
    rfl
  unfold ansW
  rw [this]
  rfl
theorem ansW_no {u : Nat → Int} (hno : ∀ j, j < n → srvW p m n P u j = false) : ansW p m n P u = none := by
  have : colW p m n P u = none := by
    unfold colW
    rw [List.find?_range_eq_none]
    intro j hj
    have h9 := hno j hj
    unfold srvW at h9
    rw [h9]
    rfl
  unfold ansW
  rw [this]
  rfl
theorem posL_has (lead : List Nat) (k : Nat) : (ints lead).contains (k : Int) = (posL lead k).isSome := by
  cases h : posL lead k with
  | some r =>
    obtain ⟨h1, h2⟩ := posL_some h
    show _ = true
    rw [List.contains_iff_mem]
    unfold ints
    exact List.mem_map.2 ⟨k, by rw [← h2]; exact getD_memN h1, rfl⟩
  | none =>
    show _ = false
    rw [Bool.eq_false_iff]
    intro h9
    rw [List.contains_iff_mem] at h9
    unfold ints at h9
    obtain ⟨x, hx, e⟩ := List.mem_map.1 h9
    obtain ⟨i, hi, rfl⟩ := List.mem_iff_getElem.1 hx
    exact posL_none h i hi (by simp [List.getD, hi]; omega)
end
theorem sumW_lst {W : Int} {l : List Int} {p : Int} {f : Nat → Int} (hr : isReg W l = true) (hp : PrmI p) (hf : ∀ j, 0 ≤ f j ∧ f j < p) :
    sumW W l ((maskR W l : Nat) : Int) (lstI (plcN W l) f) p = dotI (plcN W l) (bitV (maskR W l)) f % p := by
  obtain ⟨N, rfl, hr2⟩ := isReg_out hr
  have hA : areW (N : Int) l (lstI (plcN (N : Int) l) f) p = true := areW_of hr hp (lstI_len _ _) (inPW_of fun z hz => by
    obtain ⟨j, _, rfl⟩ := lstI_mem hz
    exact hf j)
  have hm : okM (N : Int) l ((maskR (N : Int) l : Nat) : Int) = true := okM_of hr2 fun i hi => hi
  rw [sumW_yes hA hm, lstI_len]
  congr 1
  rw [← dot_smN]
  unfold dotI
  exact sumI_congr fun j hj => by show bitV _ j * (lstI _ f).getD j 0 = _; rw [lstI_get _ hj]
def ansL (t : Option (List Int)) : List Int := t.getD []
end

section
open Go.RowKit

/-- What a search gives: a list of the call's own, and whether there is one. -/
def GivesO (w : World) (t : Option (List Int)) (e : Ending) (w' : World) : Prop :=
  ∃ v, e = .returned (.tuple #[v, .bool t.isSome]) ∧ w'.ownsRow w.heap.size 3 1 v (ansL t).length (iv (ansL t)) ∧ Below w.heap.size w w'
theorem GivesO.void (w : World) {w' : World} (hb : Below w.heap.size w w') : GivesO w none (.returned (.tuple #[.slice none 0 0, .bool false])) w' := ⟨_, rfl, ⟨rfl, .inl ⟨rfl, rfl⟩⟩, hb⟩
/-- None, with an empty list that is made. -/
theorem GivesO.lit (w : World) {w' : World} (hb : Below w.heap.size w w') : GivesO w none (.returned (.tuple #[.slice (some ⟨w'.heap.size, 0, none⟩) 0 0, .bool false])) (w'.alloc (.cells #[] 3)) :=
  ⟨_, rfl, own_lit_i w' w.heap.size w'.heap.size hb.size rfl, hb.alloc hb.size _⟩
theorem GivesO.got {w w' : World} {v : Value} {l : List Int} {n : Nat} (hl : l.length = n) (h : w'.ownsRow w.heap.size 3 1 v n (iv l)) (hb : Below w.heap.size w w') : GivesO w (some l) (.returned (.tuple #[v, .bool true])) w' := by
  subst hl
  exact ⟨_, rfl, h, hb⟩
/-- Which part of the guard fails. -/
theorem okPr_cases {W : Int} {l : List Int} {ps : List (List Cl)} {p : Int} (h : okPr W l ps p = false) : isReg W l = false ∨ (isReg W l = true ∧ arePc ps = false) ∨ (isReg W l = true ∧ arePc ps = true ∧ prmB p = false) := by
  unfold okPr okT at h
  cases h1 : isReg W l <;> cases h2 : arePc ps <;> cases h3 : prmB p <;> simp_all
end

section
open Go.RowKit

set_option maxHeartbeats 2000000 in
set_option maxRecDepth 100000 in
theorem iHasN (n cap : Nat) (a : Option Addr) (l : List Int) (z : Int) (w : World) (hn : n ≤ 4194304) (hc : IntsAt w.heap.size w a n l) :
    Calls Tryz.prog 62 #[.slice a n cap, .int .i64 z] w fun e w' => e = .returned (.bool (l.contains z)) ∧ w' = w := by
  have hln := hc.1
  by_cases h0 : 0 < n
  · obtain ⟨b, off, rfl, hb, hcell⟩ := hc.2.2 h0
    have h1 := Tryz.slices_Contains_int b off n cap l z w (by omega) (by omega) (fun j hj => hcell j (by omega))
    rw [List.take_of_length_le (by omega)] at h1
    exact h1
  · have hl : l = [] := List.eq_nil_of_length_eq_zero (by omega)
    obtain rfl : n = 0 := by omega
    subst hl
    clear hc hln h0
    have HX : Calls Tryz.prog 108 #[.slice a 0 cap, .int .i64 z] w fun e w' => e = .returned (.int .i64 (-1)) ∧ w' = w := by
      go_enter Tryz.func108, Tryz.ntmps108
      go_wp2
      refine wp_loop_rounds 1 ?_
      rw [rounds_succ]
      go_wp2
      go_ret
      exact ⟨rfl, rfl⟩
    have HH := Lib.hid HX
    clear HX
    go_enter Tryz.func62, Tryz.ntmps62
    go_wp2_with fail
    refine HH.out.mono ?_
    rintro e w' ⟨rfl, hw⟩
    have hw2 := hw.symm
    subst hw2
    go_wp2
    go_ret
    exact ⟨rfl, rfl⟩
end

section
open Go.RowKit

theorem info_intss : (Tryz.prog.info? 24).map (fun i => (i.zero, i.size, i.bytes)) = some (some (.slice none 0 0), 1, 24) := by kernel_rfl
end

section
open Go.RowKit

set_option maxHeartbeats 16000000 in
set_option maxRecDepth 100000 in
theorem iFndW (B n cap m2 cap2 : Nat) (a a2 : Option Addr) (W : Int) (l : List Int) (ps : List (List Cl)) (p : Int) (w : World) (hn : n ≤ 4194304) (hm2 : m2 ≤ 1048576)
    (hc : IntsAt B w a n l) (hd : PsAt B w a2 m2 ps) (hB : B ≤ w.heap.size) (hT : Tz w) :
    Calls Tryz.prog 21 #[.agg #[.int .i64 W, .slice a n cap], .slice a2 m2 cap2, .int .i64 p] w (GivesO w (fndW W l ps p)) := by
  have H := Lib.hid hc
  have HD := Lib.hid hd
  have HT := Lib.hid hT
  have hln := hc.1
  clear hc hd hT
  have hb0 := (Below.refl w.heap.size w).alloc (Nat.le_refl _) (.cells #[.int .i64 W, .slice a n cap] 26)
  have hX := RgAt.new (w := w) W (.slice a n cap) rfl
  have c0 := hX.c0
  have c1 := hX.c1
  cases h1 : okPr W l ps p with
  | false =>
    have HO := Lib.hid (fndW_no h1)
    have HI := Lib.hid h1
    rw [HO.out]
    clear h1
    go_enter Tryz.func21, Tryz.ntmps21
    go_wp2_with fail
    refine (iCanW B n cap m2 cap2 a a2 W l ps p _ hn (by omega) (H.out.on (hb0.mono hB)) (HD.out.on (hb0.mono hB)) (Nat.le_trans hB hb0.size)).mono ?_
    rintro e w1 ⟨rfl, hb⟩
    rw [HI.out]
    go_wp2
    go_ret2
    exact GivesO.void w (hb0.trans (hb.mono hb0.size))
  | true =>
    obtain ⟨-, hr0, -, hp⟩ := okPr_parts h1
    have hp5 := hp.pos
    have HI := Lib.hid h1
    have HF := Lib.hid (fndW_yes h1)
    obtain ⟨N, rfl, hr⟩ := isReg_out hr0
    rw [hln] at hr
    have HR := Lib.hid hr
    have hpb := plcN_bd hr
    have HQB := Lib.hid (pQ_ok (N : Int) l ps)
    have HQL := Lib.hid (show ∀ q ∈ pQ (N : Int) l ps, ∀ i, q.testBit i = true → i < plcN (N : Int) l from fun q hq i hi => by
      rw [plcN_rg hr]
      exact (hr.mask_out (okM_bits (pQ_sub hr q hq) hi)).1)
    have hql := pQ_len (N : Int) l ps
    have HQI := Lib.hid (pQ_ints (N : Int) l ps)
    have HPB := Lib.hid (apR_bd (N : Int) l ps)
    have HSW := Lib.hid (fun f hf => sumW_lst (f := f) hr0 hp hf)
    have HAP := Lib.hid (fun W9 (h9 : Below w.heap.size w W9) => iAp B n cap m2 cap2 a a2 N l ps W9 hn hm2 (H.out.on (h9.mono hB)) (HD.out.on (h9.mono hB)) (Nat.le_trans hB h9.size))
    obtain ⟨t, ht⟩ : ∃ t, plcN (N : Int) l = t := ⟨_, rfl⟩
    have HTT := Lib.hid ht
    obtain ⟨Q, hQ⟩ : ∃ Q, pQ (N : Int) l ps = Q := ⟨_, rfl⟩
    rw [hQ] at HF HQB HQL hql HQI
    rw [ht] at HF HQL hpb HSW
    rw [← HQI.out] at HAP HPB
    obtain ⟨u, hu⟩ : ∃ u, bitV (maskR (N : Int) l) = u := ⟨_, rfl⟩
    rw [hu] at HF HSW
    rw [HF.out]
    have HBD := Lib.hid (fun i j (_ : i < Q.length) (_ : j < t) => rowP_bd hp Q i j)
    clear h1 hr0 hr ht hQ hu HQI
    go_enter Tryz.func21, Tryz.ntmps21
    go_wp2_with fail
    refine (iCanW B n cap m2 cap2 a a2 N l ps p _ hn (by omega) (H.out.on (hb0.mono hB)) (HD.out.on (hb0.mono hB)) (Nat.le_trans hB hb0.size)).mono ?_
    rintro e w1 ⟨rfl, hb⟩
    rw [HI.out]
    have HB1 := Lib.hid (hb0.trans (hb.mono hb0.size))
    have HX1 := Lib.hid (hX.on hb hX.lt)
    clear hb hb0 c0 c1 hX
    have c0 := HX1.out.c0
    have c1 := HX1.out.c1
    go_wp2_with fail
    refine (iPlc N n cap a l w1 HR.out).mono ?_
    rintro e w2 ⟨rfl, hb⟩
    rw [HTT.out]
    have HB2 := Lib.hid (HB1.out.trans (hb.mono HB1.out.size))
    have HX2 := Lib.hid (HX1.out.on hb HX1.out.lt)
    clear hb c0 c1 HX1 HB1
    have c0 := HX2.out.c0
    have c1 := HX2.out.c1
    go_wp2_with fail
    refine (HAP.out w2 HB2.out).mono ?_
    rintro e w3 ⟨v, rfl, hrow, hb⟩
    obtain ⟨i0, hi, hz0, hz1, hz2⟩ := info_parts info_int
    rw [ints_len] at hrow
    obtain ⟨ap, cpp, rfl⟩ := own_form hrow
    have HPI := Lib.hid (IntsAt.of_own hrow (fun z hz => by have := HPB.out z hz; unfold In64; omega))
    have HB3 := Lib.hid (HB2.out.trans (hb.mono HB2.out.size))
    have HX3 := Lib.hid (HX2.out.on hb HX2.out.lt)
    clear hrow hb c0 c1 HX2 HB2
    obtain ⟨j0, hj, hy0, hy1, hy2⟩ := info_parts info_intss
    go_wp2
    go_loopw [9, 28] (fun v i wr => ∃ (k : Nat) (b1 d1 : Nat → Nat), k ≤ Q.length ∧ i = .int .i64 k ∧ (k = 0 → v = .slice none 0 0) ∧ Hid (MtAt w3.heap.size wr v k t b1 d1 (rowP Q)) ∧ Hid (Below w3.heap.size w3 wr)) (fun _ i _ => Q.length - (intOf i).toNat)
    case atStart => exact ⟨0, fun _ => 0, fun _ => 0, by omega, rfl, fun _ => rfl, MtAt.nil _ _ _ _ _ _, Below.refl _ _⟩
    case round =>
      obtain ⟨k, b1, d1, hk, rfl, hnil, hM, hB9⟩ := hrel
      obtain ⟨sa, sc, rfl⟩ := own_form hM.out.spine
      by_cases hlt : k < Q.length
      · have hk1 : (k : Int) < (Q.length : Int) := by omega
        have hk0 : (0 : Int) ≤ (k : Int) := by omega
        obtain ⟨b9, o9, rfl, hb9, hc9⟩ := (HPI.out.on hB9.out).2.2 (by omega)
        have p1 := hc9 k hlt
        rw [ints_get] at p1
        have hqm := getD_memN (Q := Q) hlt
        have hqb := HQB.out _ hqm
        have HQT := Lib.hid (HQL.out _ hqm)
        have hTr := (HT.out.on HB3.out HT.out.2).on hB9.out (by have h8 := (HT.out.on HB3.out HT.out.2).2; exact h8)
        have HDG := Lib.hid (iDigOf (Q.getD k 0) t wr hqb.2 HQT.out (by omega) hTr)
        have HRW := Lib.hid (show bitV (Q.getD k 0) = rowP Q k from rfl)
        obtain ⟨q, hq⟩ : ∃ q, Q.getD k 0 = q := ⟨_, rfl⟩
        rw [hq] at p1 HDG HRW
        clear hc9 hqm hqb HQT hTr hq
        go_wp2_with fail
        refine HDG.out.mono ?_
        rintro e w4 ⟨b, rfl, hr4, hb4⟩
        rw [HRW.out] at hr4
        have hs4 := hb4.size
        have hbb := hr4.lt b rfl
        have HM4 := Lib.hid (hM.out.on hb4)
        have HLW := Lib.hid (fun i (hi : i < k) => (hM.out.lt hi).2)
        have HSP := Lib.hid (fun x (hx : (Value.slice sa k sc).ownBlock = some x) => (hM.out.spine.lt x hx).2)
        have hs3 := hB9.out.size
        have HR4 := Lib.hid hr4
        have HB4 := Lib.hid (hB9.out.trans (hb4.mono hs3))
        clear hM hr4 hb4 p1
        go_wp2_with (first | (at_builtin; refine wpList_append_own_at _ rfl _ _ 66 rfl w3.heap.size 24 j0 (.slice none 0 0) 1 24 Tryz.underlying66 hj hy0 hy1 hy2 rfl (by decide) _ _ _ rfl (HM4.out.spine.alloc _) ⟨w4.heap.size, 0, none⟩ 1 1 [.slice (some ⟨b, 0, none⟩) t t] rfl rfl (liesV_block (l := [.slice (some ⟨b, 0, none⟩) t t]) (t := 24) (fr := (0, 0)) (heap_alloc_new _ _)) ?d2 ?d3 ?d4 ?d5 ?_) | go_in)
        case d2 => intro u hu; rw [List.mem_singleton] at hu; subst hu; rfl
        case d3 => unfold maxLen; omega
        case d4 => omega
        case d5 => simp; omega
        intro v2 w5 hs5 hg5 hiff hob
        have HM5 := Lib.hid (MtAt.snoc (f := rowP Q k) (HM4.out.on ((Below.refl w4.heap.size w4).alloc (Nat.le_refl _) (.cells #[.slice (some ⟨b, 0, none⟩) t t] 24))) hs5 (own_below (HR4.out.alloc _) hs3) hg5 (fun i hi e => by have := HLW.out i hi; omega) (fun e => by have := HSP.out b e; omega) (by
          rcases hob with h9 | h9
          · exact .inl h9
          · exact .inr ⟨_, h9, by simp⟩))
        have HM6 := Lib.hid (HM5.out.same (a' := rowP Q) (fun i hi j _ => by
          by_cases e : i = k
          · subst e; rw [updM_at]
          · rw [updM_off _ _ e]))
        have HB5 := Lib.hid (show Below w3.heap.size w3 w5 from (HB4.out.alloc HB4.out.size (.cells #[.slice (some ⟨b, 0, none⟩) t t] 24)).grown hg5 (by simp; omega) (fun x hx => (HM4.out.spine.lt x hx).1))
        have HNI := Lib.hid (show k + 1 = 0 → v2 = .slice none 0 0 from fun h => by omega)
        clear hs5 hg5 hiff hob HM5 HM4 HR4 HB4
        go_wp2
        go_roundw
        case rel => first
          | exact ⟨k + 1, _, _, by omega, by go_num, HNI.out, HM6.out, HB5.out⟩
          | (repeat apply Exists.intro
             exact ⟨⟨k + 1, _, _, by omega, by go_num, HNI.out, HM6.out, HB5.out⟩, rfl⟩)
        case measure => first | (simp [intOf]; done) | (simp [intOf]; omega)
      · obtain rfl : k = Q.length := by omega
        have hs9 := hB9.out.size
        have hlowS : ∀ c, (Value.slice sa Q.length sc).ownBlock = some c → w3.heap.size ≤ c := fun c hc => (hM.out.spine.lt c hc).1
        have hlowR := hM.out.low
        have HRD := Lib.hid (iReduce w3.heap.size Q.length t sc sa b1 d1 (rowP Q) p wr hp (by omega) (by omega) (fun h9 => by
          have e9 := hnil h9
          injection e9 with e1 _ e2
          exact ⟨e1, e2⟩) HBD.out hM.out)
        have HFW := Lib.hid (redI_few hp HBD.out (Nat.le_refl t))
        have HRI := Lib.hid (redI_is hp HBD.out t (Nat.le_refl t))
        have HLV := Lib.hid (fun k => lay_vec (k := k) hp HBD.out)
        have HHIT := Lib.hid (fun k => ansW_hit (p := p) (m := Q.length) (n := t) (P := rowP Q) (u := u) (k := k))
        have HNO := Lib.hid (ansW_no (p := p) (m := Q.length) (n := t) (P := rowP Q) (u := u))
        have HSRV := Lib.hid (show ∀ k, srvW p Q.length t (rowP Q) u k = ((posL (redI p Q.length (rowP Q) t).2 k).isNone && decide (dotI t u (vecI p (redI p Q.length (rowP Q) t).1 (redI p Q.length (rowP Q) t).2 k) % p ≠ 0)) from fun k => rfl)
        have HVB := Lib.hid (fun k j => vecI_bd hp (redI p Q.length (rowP Q) t).1 (redI p Q.length (rowP Q) t).2 k j)
        obtain ⟨srv, hsv⟩ : ∃ srv, srvW p Q.length t (rowP Q) u = srv := ⟨_, rfl⟩
        obtain ⟨V, hV⟩ : ∃ V : Nat → Nat → Int, vecI p (redI p Q.length (rowP Q) t).1 (redI p Q.length (rowP Q) t).2 = V := ⟨_, rfl⟩
        unfold GivesRd at HRD
        rw [hsv] at HHIT HNO HSRV
        rw [hV] at HHIT HVB HLV HSRV
        generalize redI p Q.length (rowP Q) t = st at HRD HFW HRI HLV HSRV
        obtain ⟨RR, L⟩ := st
        try dsimp only at HFW
        try dsimp only at HLV
        try dsimp only at HSRV
        clear hM HPI HPB HQB HQL HAP hsv hV HBD hnil
        go_wp2_with fail
        refine HRD.out.mono ?_
        rintro e w6 ⟨vl, b2, d2, rfl, hM6, hL6, hK6, -⟩
        try dsimp only at hM6
        try dsimp only at hL6
        have HB36 := Lib.hid (hB9.out.trans (hK6.below (B := w3.heap.size) (fun c hc => by
          rcases hc with hc | hc
          · exact hlowS c hc
          · exact hlowR c hc) hs9))
        obtain ⟨la, lc, rfl⟩ := own_form hL6
        have hs6 := HB36.out.size
        have HX6 := Lib.hid (HX3.out.on HB36.out HX3.out.lt)
        have HB6 := Lib.hid (HB3.out.trans (HB36.out.mono HB3.out.size))
        have HM6 := Lib.hid hM6
        have HL6 := Lib.hid hL6
        have HT6 := Lib.hid (HT.out.on HB6.out HT.out.2)
        obtain ⟨LN, hLN⟩ : ∃ LN, L.length = LN := ⟨_, rfl⟩
        rw [hLN] at HL6
        have hfw := HFW.out
        rw [hLN] at hfw
        clear hM6 hL6 hK6 hB9 hlowS hlowR HRD HX3 HB3 HB36
        go_wp2
        go_loopw [44] (fun i wr => ∃ k : Nat, k ≤ t ∧ i = .int .i64 k ∧ Hid (∀ j, j < k → srv j = false) ∧ Hid (Below w6.heap.size w6 wr)) (fun i _ => t - (intOf i).toNat)
        case atStart => exact ⟨0, by omega, rfl, fun j h9 => absurd h9 (by omega), Below.refl _ _⟩
        case round =>
          obtain ⟨k, hk, rfl, hno, hB7⟩ := hrel
          by_cases hlt : k < t
          · have hk1 : (k : Int) < (t : Int) := by omega
            have hk0 : (0 : Int) ≤ (k : Int) := by omega
            have hs7 := hB7.out.size
            have HL7 := Lib.hid (own_on HL6.out hB7.out)
            have HI7 := Lib.hid (IntsAt.of_own HL7.out (ints_In64 fun x hx => by have := hfw.2.2 x hx; omega))
            have HC7 := Lib.hid (iHasN LN lc la (ints L) (k : Int) wr (by omega) HI7.out)
            cases hpl : posL L k with
            | some r =>
              have HV := Lib.hid (show (ints L).contains (k : Int) = true from by rw [posL_has, hpl]; rfl)
              have HN := Lib.hid (show ∀ j, j < k + 1 → srv j = false from fun j hj => by
                by_cases e : j = k
                · subst e; rw [HSRV.out, hpl]; rfl
                · exact hno.out j (by omega))
              clear hpl hno
              go_wp2_with fail
              refine HC7.out.mono ?_
              rintro e w7 ⟨rfl, rfl⟩
              rw [HV.out]
              go_wp2
              go_roundw
              case rel => first
                | exact ⟨k + 1, by omega, by go_num, HN.out, hB7.out⟩
                | (repeat apply Exists.intro
                   exact ⟨⟨k + 1, by omega, by go_num, HN.out, hB7.out⟩, rfl⟩)
              case measure => first | (simp [intOf]; done) | (simp [intOf]; omega)
            | none =>
              have HV := Lib.hid (show (ints L).contains (k : Int) = false from by rw [posL_has, hpl]; rfl)
              have hLK := HLV.out k hpl
              rw [hLN] at hLK
              have HSK := Lib.hid (show srv k = decide (dotI t u (V k) % p ≠ 0) from by rw [HSRV.out, hpl]; rfl)
              clear hpl
              have hB6 := HB6.out
              have HX7 := Lib.hid (HX6.out.on hB7.out HX6.out.lt)
              go_wp2_with fail
              refine HC7.out.mono ?_
              rintro e w7 ⟨rfl, rfl⟩
              rw [HV.out]
              go_wp2_with (first | (at_make; refine wpList_make_full _ rfl _ _ 24 rfl w7.heap.size 3 i0 (.int .i64 0) 1 Tryz.underlying24 hi hz0 hz1 _ _ _ _ t rfl rfl rfl rfl ?b2 ?b3 ?b4 ?_) | go_in)
              case b2 => rw [hz2]; omega
              case b3 => unfold maxLen; omega
              case b4 => exact Nat.le_refl _
              intro w8 hown8 hgrow8
              rw [made_ints t] at hown8
              have HB8 := Lib.hid (show Below w7.heap.size w7 w8 from (Below.refl _ w7).grown hgrow8 (Nat.le_refl _) (fun k h => by cases h))
              have HR8 := Lib.hid (show w8.ownsRow w7.heap.size 3 1 (.slice (some ⟨w7.heap.size, 0, none⟩) t t) t (iv (lstI t fun _ => 0)) from by
                have e : lstI t (fun _ => (0 : Int)) = List.replicate t 0 := by
                  apply List.ext_getElem
                  · simp [lstI]
                  · intro i h1 h2; simp [lstI]
                rw [e]
                exact hown8)
              clear hown8 hgrow8
              have p2 := row_num HR8.out hlt
              have p3 := HR8.out.frozenAt k
              have HS := Lib.hid (row_set (j := k) HR8.out 1)
              have HB8' := Lib.hid (HB8.out.setCell (p := ⟨w7.heap.size, k, none⟩) (Nat.le_refl _) (.int .i64 1))
              go_wp2
              have HRS := Lib.hid HS.out.1
              generalize (w8.setCell ⟨w7.heap.size, k, none⟩ (.int .i64 1)) = w9 at *
              clear HS HB8 HR8 p2 p3
              have hlw := HRS.out.lt _ rfl
              have hT9 := (HT6.out.on hB7.out (by have := HT6.out.2; omega))
              have hc0 : ∀ i, i < LN → wr.cell? ⟨0, 0, none⟩ = wr.cell? ⟨0, 0, none⟩ := fun _ _ => rfl
              clear hc0
              obtain ⟨bw, hbw⟩ : ∃ bw, w7.heap.size = bw := ⟨_, rfl⟩
              have hs8 : w6.heap.size ≤ bw := by omega
              have HB9 := Lib.hid (hB7.out.trans (HB8'.out.mono hs7))
              rw [hbw] at HRS hlw
              clear HB8' hT9
              go_wp2
              go_loopw [57] (fun i wr => ∃ k2 : Nat, k2 ≤ LN ∧ i = .int .i64 k2 ∧ Hid (wr.ownsRow bw 3 1 (.slice (some ⟨bw, 0, none⟩) t t) t (iv (lstI t (layL L (fun i => (p - RR i k) % p) (fun j => if j = k then 1 else 0) k2)))) ∧ Hid (Below w6.heap.size w6 wr) ∧ Hid (Below bw w9 wr)) (fun i _ => LN - (intOf i).toNat)
              case atStart => exact ⟨0, by omega, rfl, HRS.out, HB9.out, Below.refl _ _⟩
              case round =>
                obtain ⟨k2, hk2, rfl, hrow, hB10, hB11⟩ := hrel
                by_cases hlt2 : k2 < LN
                · have hi1 : (k2 : Int) < (LN : Int) := by omega
                  have hi0 : (0 : Int) ≤ (k2 : Int) := by omega
                  have hi3 : k2 < Q.length := by omega
                  have hi2 : (k2 : Int) < (Q.length : Int) := by omega
                  obtain ⟨b9, o9, e9, hb9, hc9⟩ := (IntsAt.of_own (own_on HL6.out hB10.out) (ints_In64 fun x hx => by have := hfw.2.2 x hx; omega)).2.2 (by omega)
                  obtain rfl := e9
                  have q1 := hc9 k2 hlt2
                  rw [ints_get] at q1
                  have hmp : L.getD k2 0 < t := hfw.2.2 _ (getD_memN (Q := L) (by omega))
                  have hM10 := HM6.out.on hB10.out
                  obtain ⟨g, cap9, e9, -, -, -⟩ := hM10.form (by omega)
                  injection e9 with e1 _ e2
                  subst e1 e2
                  have q2 := hM10.cell hi3
                  have q3 := hM10.num hi3 hlt
                  have hbd := HRI.out.bnd k2 k hi3 hlt
                  have HNG := Lib.hid (fun w9 => iNeg p (RR k2 k) hp hbd.1 hbd.2 w9)
                  obtain ⟨z, hz⟩ : ∃ z, (p - RR k2 k) % p = z := ⟨_, rfl⟩
                  have HLAY := Lib.hid (show lstI t (fun j => if j = L.getD k2 0 then z else layL L (fun i => (p - RR i k) % p) (fun j => if j = k then 1 else 0) k2 j) = lstI t (layL L (fun i => (p - RR i k) % p) (fun j => if j = k then 1 else 0) (k2 + 1)) from by rw [← hz]; exact layL_step L (fun i => (p - RR i k) % p) (fun j => if j = k then 1 else 0) k2 t)
                  rw [hz] at HNG
                  obtain ⟨pl, hpl⟩ : ∃ pl, L.getD k2 0 = pl := ⟨_, rfl⟩
                  rw [hpl] at q1 hmp HLAY
                  have hm1 : (pl : Int) < (t : Int) := by omega
                  have hm0 : (0 : Int) ≤ (pl : Int) := by omega
                  have q4 := row_num hrow.out hmp
                  have q5 := hrow.out.frozenAt pl
                  have HS := Lib.hid (row_set (j := pl) hrow.out z)
                  have hrs := hrow.out.lt _ rfl
                  have HB12 := Lib.hid (hB10.out.setCell (p := ⟨bw, pl, none⟩) hs8 (.int .i64 z))
                  have HB13 := Lib.hid (hB11.out.setCell (p := ⟨bw, pl, none⟩) (Nat.le_refl _) (.int .i64 z))
                  clear hM10 hc9 hrow hpl hbd hz
                  go_wp2_with fail
                  refine (HNG.out _).mono ?_
                  rintro e w11 ⟨rfl, rfl⟩
                  go_wp2
                  have HN := Lib.hid HS.out.1
                  rw [HLAY.out] at HN
                  go_roundw
                  case rel => exact ⟨k2 + 1, by omega, by go_num, HN.out, HB12.out, HB13.out⟩
                  case measure => first | (simp [intOf]; done) | (simp [intOf]; omega)
                · have ek2 : k2 = LN := by omega
                  rw [← ek2] at hLK
                  have HRV := Lib.hid (show wr.ownsRow bw 3 1 (.slice (some ⟨bw, 0, none⟩) t t) t (iv (lstI t (V k))) from by
                    have h9 := hrow.out
                    rw [hLK] at h9
                    exact h9)
                  have HX10 := Lib.hid (HX6.out.on hB10.out HX6.out.lt)
                  have c0 := HX10.out.c0
                  have c1 := HX10.out.c1
                  have hs10 := hB10.out.size
                  have hrl := (HRV.out.lt _ rfl).2
                  have HB0 := Lib.hid (HB6.out.trans (hB10.out.mono (by have := HB6.out.size; omega)))
                  have HFB := Lib.hid (iForb wr.heap.size n cap t t a (some ⟨bw, 0, none⟩) N l (lstI t (V k)) p wr hn (by omega) ((H.out.on (HB0.out.mono hB)).more (by have := HB0.out.size; omega)) (IntsAt.of_own HRV.out (fun z hz => by
                    obtain ⟨j, _, rfl⟩ := lstI_mem hz
                    have := HVB.out k j
                    unfold In64; omega)) (Nat.le_refl _) (HT.out.on HB0.out HT.out.2))
                  have HSV := Lib.hid (show decide (0 < sumW (N : Int) l (maskR (N : Int) l : Nat) (lstI t (V k)) p) = srv k from by
                    rw [HSK.out, HSW.out (V k) (HVB.out k)]
                    have h1 := Int.emod_nonneg (dotI t u (V k)) (show p ≠ 0 by omega)
                    apply decide_eq_decide.2
                    omega)
                  clear hrow
                  go_wp2_with fail
                  refine HFB.out.mono ?_
                  rintro e w12 ⟨rfl, hb12⟩
                  rw [HSV.out]
                  have HB12 := Lib.hid (hB10.out.trans (hb12.mono hs10))
                  have HRW := Lib.hid (own_on HRV.out hb12)
                  have HB14 := Lib.hid (HB0.out.trans (hb12.mono (by have := HB0.out.size; omega)))
                  clear hb12 c0 c1 HFB HSV
                  cases hsk : srv k with
                  | false =>
                    have HN := Lib.hid (show ∀ j, j < k + 1 → srv j = false from fun j hj => by
                      by_cases e : j = k
                      · subst e; exact hsk
                      · exact hno.out j (by omega))
                    clear hsk
                    go_wp2
                    go_roundw
                    case rel => first
                      | exact ⟨k + 1, by omega, by go_num, HN.out, HB12.out⟩
                      | (repeat apply Exists.intro
                         exact ⟨⟨k + 1, by omega, by go_num, HN.out, HB12.out⟩, rfl⟩)
                    case measure => first | (simp [intOf]; done) | (simp [intOf]; omega)
                  | true =>
                    have HE := Lib.hid (HHIT.out k hlt hsk hno.out)
                    have hwb : w.heap.size ≤ bw := by have := HB6.out.size; omega
                    clear hsk
                    go_wp2
                    go_ret2
                    rw [HE.out]
                    refine ⟨_, rfl, ?_, HB14.out⟩
                    have e : (ansL (some (lstI t (V k)))).length = t := lstI_len _ _
                    rw [e]
                    exact own_below HRW.out hwb
          · obtain rfl : k = t := by omega
            have HE := Lib.hid (HNO.out hno.out)
            go_wp2
            go_ret2
            rw [HE.out]
            exact GivesO.void w (HB6.out.trans (hB7.out.mono (by have := HB6.out.size; omega)))
end

end Go.Proofs.YtkcclhnligajeaaGreatDoor
