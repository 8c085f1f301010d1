/-
  A slice of shapes put in order by the library's slices.SortFunc: what the call gives.
  Where an orientation's cells can lie, in the program; numbers put in order, each once: what the calls give.
  Motions of the program: their parts, one after the other, back again.
  Shapes moved, in the program: what the call gives.
-/
import Derived.Test.YtkcclhnligajeaaGreatDoorVay
import Derived.Test.YtkcclhnligajeaaGreatDoorShelf
import Derived.Test.YtkcclhnligajeaaGreatDoorVax
import Derived.Test.YtkcclhnligajeaaGreatDoorVat
import Derived.Laws.AppendOwnNone
import Derived.Test.YtkcclhnligajeaaGreatDoorVas
import Derived.Test.YtkcclhnligajeaaGreatDoorVad
import Derived.BigQuiet
namespace Go.Proofs.YtkcclhnligajeaaGreatDoor

section
open Go.RowKit Go.Sort

/-! ### The row before and behind the sort -/
theorem holds_row {w : World} {B n g cap : Nat} {t : TypeId} {α : Type} [Inhabited α] (enc : α → Value) {d : List α} (h : w.ownsRow B t 1 (.slice (some ⟨g, 0, none⟩) n cap) n (d.map enc)) : Holds enc w g 0 d.toArray := by
  intro j hj
  have hl : d.length = n := by have := h.1; rw [List.length_map] at this; omega
  have hj2 : j < d.length := by simpa using hj
  have hc := h.cellAt j (by omega)
  have hf := h.frozenAt j
  rw [Nat.zero_add]
  refine ⟨?_, hf⟩
  rw [hc]
  simp [hj2]
theorem row_sorted {w : World} {B n g cap m : Nat} {t : TypeId} {α : Type} [Inhabited α] (enc : α → Value) {xs : List Value} {d : List α} {os : Array Obj} (h : w.ownsRow B t 1 (.slice (some ⟨g, 0, none⟩) n cap) n xs) (hd : d.length = n) :
    (sortWorld enc w g 0 m d.toArray os).ownsRow B t 1 (.slice (some ⟨g, 0, none⟩) n cap) n (d.map enc) ∧ w.grownBy (sortWorld enc w g 0 m d.toArray os) (some g) := by
  rcases h.2 with ⟨e, _⟩ | ⟨g', cap', cur, e, hb, hg, h1, h2, h3, h4⟩
  · cases e
  · injection e with e1 e2 e3
    injection e1 with e1
    injection e1 with e1 _
    subst e1 e3
    have hgl : g < w.heap.size := (Array.getElem?_eq_some_iff.1 hg).1
    have hheap : (sortWorld enc w g 0 m d.toArray os).heap[g]? = some (.cells (putCells enc 0 d.toArray cur) t (0, 0)) := by
      unfold sortWorld
      rw [heap_grow_old _ _ (by simp [putRow, mapBlock, Sort.ahead]; exact hgl)]
      simp [putRow, mapBlock, Sort.ahead, Array.getElem?_modify, hg, onCells]
    refine ⟨⟨by rw [List.length_map, hd]; omega, .inr ⟨g, cap, _, rfl, hb, hheap, h1, h2, by simp [putCells, h3], ?_⟩⟩, rfl, rfl, rfl, ?_, ?_⟩
    · apply List.ext_getElem?
      intro j
      by_cases hj : j < n * 1
      · rw [List.getElem?_take_of_lt hj, Array.getElem?_toList]
        have hjc : j < cur.size := by rw [h3]; omega
        have hjd : j < d.length := by omega
        simp [putCells, hjc, hjd]
      · rw [List.getElem?_take_eq_none (by omega), List.getElem?_eq_none (by rw [List.length_map]; omega)]
    · unfold sortWorld
      simp [putRow, mapBlock, Sort.ahead]
    · intro k hk hne
      unfold sortWorld
      rw [heap_grow_old _ _ (by simp [putRow, mapBlock, Sort.ahead]; exact hk)]
      have : g ≠ k := fun e => hne (by rw [e])
      simp [putRow, mapBlock, Sort.ahead, Array.getElem?_modify, this]

def cfE (es : List Ent) (x y : Nat) : Int := cmpS (kE (es.getD x dE)) (kE (es.getD y dE))
def encE (es : List Ent) (x : Nat) : Value := ev (es.getD x dE)
theorem ltOf_cfE (es : List Ent) (x y : Nat) : ltOf (cfE es) x y = ltS (kE (es.getD x dE)) (kE (es.getD y dE)) := rfl
theorem cfE_swo (es : List Ent) : SWO (ltOf (cfE es)) := by
  refine ⟨fun x => ?_, fun x y z h k => ?_, fun x y z h k => ?_⟩
  · rw [ltOf_cfE]; exact ordS.irr _
  · rw [ltOf_cfE] at *; exact ordS.trans h k
  · rw [ltOf_cfE] at *
    generalize kE (es.getD x dE) = a at *
    generalize kE (es.getD y dE) = b at *
    generalize kE (es.getD z dE) = c at *
    cases h1 : ltS a c with
    | false => rfl
    | true =>
      cases h2 : ltS b a with
      | true => have := ordS.trans h2 h1; rw [k] at this; cases this
      | false =>
        have e := ordS.total h h2
        rw [e] at h1
        rw [h1] at k
        cases k
theorem range_ents (es : List Ent) : (List.range es.length).map (fun i => es.getD i dE) = es := by
  apply List.ext_getElem?
  intro i
  by_cases hi : i < es.length
  · simp [List.getD, hi]
  · rw [List.getElem?_eq_none (by simp; omega), List.getElem?_eq_none (by omega)]
theorem ent_cells {B : Nat} {w : World} {es : List Ent} (h : EachS B w es) (hs : SmallS es) (x : Nat) : CellsAt w.heap.size w (some ⟨(es.getD x dE).1, 0, none⟩) (es.getD x dE).2.2.length (es.getD x dE).2.2 ∧ (es.getD x dE).2.2.length ≤ 4194304 := by
  by_cases hx : x < es.length
  · exact ⟨h.cells hs (ent_mem hx), (hs _ (ent_mem hx)).1⟩
  · have e : es.getD x dE = dE := by simp [List.getD, List.getElem?_eq_none (show es.length ≤ x by omega)]
    rw [e]
    exact ⟨⟨rfl, fun c hc => (by cases hc), fun h0 => absurd h0 (Nat.lt_irrefl 0)⟩, Nat.zero_le _⟩

theorem iSortS (B n g cap : Nat) (es : List Ent) (w : World) (hn : n ≤ 4194304) (hl : es.length = n) (hown : OwnS B w (.slice (some ⟨g, 0, none⟩) n cap) es) (hsm : SmallS es) :
    Calls Tryz.prog 165 #[.slice (some ⟨g, 0, none⟩) n cap, .func (.func 166) #[] #[]] w fun e w' => e = .returned (.tuple #[]) ∧ ∃ fs : List Ent, fs.Perm es ∧ (fs.Pairwise fun a b => ltS (kE b) (kE a) = false) ∧ OwnS B w' (.slice (some ⟨g, 0, none⟩) n cap) fs ∧ w.grownBy w' (some g) := by
  have hrow : w.ownsRow B 76 1 (.slice (some ⟨g, 0, none⟩) n cap) n (es.map ev) := by have := hown.row; rwa [hl] at this
  have hrow2 : w.ownsRow B 76 1 (.slice (some ⟨g, 0, none⟩) n cap) n ((List.range n).map (encE es)) := by
    have e : (List.range n).map (encE es) = es.map ev := by
      rw [← hl]
      conv => rhs; rw [← range_ents es]
      rw [List.map_map]
      rfl
    rw [e]
    exact hrow
  have hoff : OffS g es := fun e he h2 => hown.off e he (by rw [h2]; rfl)
  have eg : ∀ args w, (callFunc 166 args).run Tryz.prog w = .ok (.enter 166 args) w := enters_of Tryz.func166 (by kernel_rfl) rfl
  have hcmp : CmpLays1 Tryz.prog 166 #[] (encE es) (cfE es) g 0 (List.range n).toArray.size w := fun m os dk hdk x y => by
    have hdk2 : dk.toList.length = n := by simpa using hdk
    have hg := (row_sorted (m := m) (os := os) (encE es) (d := dk.toList) hrow hdk2).2
    have hE := hown.each.by hg hoff
    have hx := ent_cells hE hsm x
    have hy := ent_cells hE hsm y
    exact (iCmpShp _ _ _ (es.getD x dE).2.1 (es.getD y dE).2.1 _ _ _ _ _ hx.2 hy.2 hx.1 hy.1 (Nat.le_refl _)).mono fun e w' ⟨he, hgr⟩ => ⟨he, hgr.out⟩
  have h := Any.slices_SortFunc Tryz.sortShps (encE es) (fun x => ev_one _) (cfE es) (cfE_swo es) 166 #[] g 0 cap (List.range n).toArray w eg hcmp (holds_row (encE es) hrow2) (hrow.lt g rfl).2 (by simp; omega)
  rw [show (List.range n).toArray.size = n by simp] at h
  refine h.mono ?_
  rintro e w' ⟨rfl, d', m, os, hp, hs, rfl⟩
  obtain ⟨hp1, _, hp3⟩ := hp
  have hd' : d'.toList.length = n := by simpa using hp1
  have hperm : d'.toList.Perm (List.range n) := by
    have e1 : d'.extract 0 n = d' := by
      rw [show n = d'.size by simpa using hd'.symm]
      exact Array.extract_size
    have e2 : (List.range n).toArray.extract 0 n = (List.range n).toArray := by
      conv => lhs; rw [show n = (List.range n).toArray.size by simp]
      simp
    rw [e1, e2] at hp3
    simpa using hp3
  have hfs : (d'.toList.map fun i => es.getD i dE).Perm es := by
    have := hperm.map fun i => es.getD i dE
    rwa [← hl, range_ents] at this
  have hso := row_sorted (m := m) (os := os) (encE es) (d := d'.toList) hrow hd'
  have hev : d'.toList.map (encE es) = (d'.toList.map fun i => es.getD i dE).map ev := by rw [List.map_map]; rfl
  refine ⟨rfl, d'.toList.map fun i => es.getD i dE, hfs, ?_, ⟨?_, (hown.each.by hso.2 hoff).sub fun e he => hfs.mem_iff.1 he, ?_, fun e he => hown.off e (hfs.mem_iff.1 he)⟩, hso.2⟩
  · rw [List.pairwise_map, List.pairwise_iff_getElem]
    intro i j hi hj hij
    have := hs i j (Nat.zero_le _) hij (by omega)
    rw [ltOf_cfE] at this
    simp only [Array.getElem_toList]
    rwa [getElem!_pos _ _ (by simpa using hj), getElem!_pos _ _ (by simpa using hi)] at this
  · rw [← hev, List.length_map, hd']
    exact hso.1
  · exact hown.apart.perm hfs.symm (fun h => fun e => h e.symm)
end

section
open Go.RowKit Go.Sort

/-! ### Within the mask -/
theorem andN_zero {m k : Nat} (hm : m < 9223372036854775808) (hk : k < 9223372036854775808) : (bits .andNot .i64 (m : Int) (k : Int) == 0) = decide (m &&& k = m) := by
  have h1 : (BitVec.ofInt 64 (m : Int)).toNat = m := ofInt_i64 m hm
  have h2 : (BitVec.ofInt 64 (k : Int)).toNat = k := ofInt_i64 k hk
  have hx : (BitVec.ofInt 64 (m : Int) &&& ~~~(BitVec.ofInt 64 (k : Int))).toNat ≤ m := by
    rw [BitVec.toNat_and, h1]
    exact Nat.and_le_left
  have key : (BitVec.ofInt 64 (m : Int) &&& ~~~(BitVec.ofInt 64 (k : Int))).toNat = 0 ↔ m &&& k = m := by
    constructor
    · intro h
      apply Nat.eq_of_testBit_eq
      intro i
      rw [Nat.testBit_and]
      cases hb : m.testBit i with
      | false => rfl
      | true =>
        have hi : i < 64 := by
          apply Nat.lt_of_not_le
          intro hle
          have : m < 2 ^ i := Nat.lt_of_lt_of_le hm (Nat.le_trans (by decide : 9223372036854775808 ≤ 2 ^ 64) (Nat.pow_le_pow_right (by omega) hle))
          rw [Nat.testBit_lt_two_pow this] at hb
          cases hb
        have h3 : (BitVec.ofInt 64 (m : Int) &&& ~~~(BitVec.ofInt 64 (k : Int))).toNat.testBit i = false := by rw [h]; exact Nat.zero_testBit i
        rw [← BitVec.getLsbD, BitVec.getLsbD_and, BitVec.getLsbD_not] at h3
        have h4 : (BitVec.ofInt 64 (m : Int)).getLsbD i = true := by rw [BitVec.getLsbD, h1]; exact hb
        have h5 : (BitVec.ofInt 64 (k : Int)).getLsbD i = k.testBit i := by rw [BitVec.getLsbD, h2]
        rw [h4, h5] at h3
        simpa [hi] using h3
    · intro h
      apply Nat.eq_of_testBit_eq
      intro i
      rw [Nat.zero_testBit, ← BitVec.getLsbD, BitVec.getLsbD_and, BitVec.getLsbD_not]
      have h4 : (BitVec.ofInt 64 (m : Int)).getLsbD i = m.testBit i := by rw [BitVec.getLsbD, h1]
      have h5 : (BitVec.ofInt 64 (k : Int)).getLsbD i = k.testBit i := by rw [BitVec.getLsbD, h2]
      rw [h4, h5, ← h, Nat.testBit_and]
      cases m.testBit i <;> cases k.testBit i <;> simp
  have e : bits .andNot .i64 (m : Int) (k : Int) = (((BitVec.ofInt 64 (m : Int) &&& ~~~(BitVec.ofInt 64 (k : Int))).toNat : Nat) : Int) := by
    show IntKind.i64.wrap ((BitVec.ofInt 64 (m : Int) &&& ~~~(BitVec.ofInt 64 (k : Int))).toNat : Int) = _
    rw [IntKind.wrap_i64]
    omega
  rw [e]
  by_cases h : m &&& k = m
  · rw [key.2 h]
    simp [h]
  · have : ¬ (BitVec.ofInt 64 (m : Int) &&& ~~~(BitVec.ofInt 64 (k : Int))).toNat = 0 := fun h9 => h (key.1 h9)
    generalize (BitVec.ofInt 64 (m : Int) &&& ~~~(BitVec.ofInt 64 (k : Int))).toNat = z at this
    have h9 : ((z : Int) == 0) = false := by simpa using this
    rw [h9]
    simp [h]

/-! ### In order, each once -/
set_option maxHeartbeats 2000000 in
theorem iAsc (B : Nat) (v : Value) (L : List Int) (w : World) (hl : L.length ≤ 100000) (hown : w.ownsRow B 3 1 v L.length (iv L)) :
    Calls Tryz.prog 106 #[v] w fun e w' => ∃ v', e = .returned v' ∧ w'.ownsRow B 3 1 v' (ascI L).length (iv (ascI L)) ∧ Below B w w' := by
  have HO := Lib.hid hown
  rcases hown.2 with ⟨rfl, h0⟩ | ⟨g, cap, cur, rfl, hb, hg, _⟩
  · have : L = [] := List.eq_nil_of_length_eq_zero h0
    subst this
    clear hown
    go_enter Tryz.func106, Tryz.ntmps106
    go_wp2_with fail
    refine (Tryz.slices_Sort_int_none none 0 w).mono ?_
    rintro e w1 ⟨rfl, rfl⟩
    go_wp2_with fail
    refine (Tryz.slices_Compact_int_empty none 0 _).mono ?_
    rintro e w1 ⟨rfl, rfl⟩
    go_wp2
    go_ret
    exact ⟨_, rfl, HO.out, Below.refl _ _⟩
  · have hgl : g < w.heap.size := (Array.getElem?_eq_some_iff.1 hg).1
    have hcap := own_cap_m hown
    have h1 := Tryz.slices_Sort_int g 0 cap L w (holds_row (Value.int .i64) hown) hgl (by omega)
    obtain ⟨S, hS⟩ : ∃ S, (L.mergeSort fun x y => decide (x ≤ y)) = S := ⟨_, rfl⟩
    have HA := Lib.hid (show Lib.compact S = ascI L from by rw [← hS]; exact ascI_lib L)
    have hsl : S.length = L.length := by rw [← hS]; exact List.length_mergeSort L
    rw [hS] at h1
    clear hS
    have hrs := fun (q : Nat) (os : Array Obj) => row_sorted (m := q) (os := os) (Value.int .i64) hown hsl
    have hcl : (Lib.compact S).length ≤ S.length := by rw [HA.out, hsl]; exact ascI_len L
    have HRS := Lib.hid hrs
    have H1 := Lib.hid h1
    clear h1 hrs hown
    go_enter Tryz.func106, Tryz.ntmps106
    go_wp2_with fail
    refine H1.out.mono ?_
    rintro e w1 ⟨rfl, q, os, hw⟩
    have hr1 := HRS.out q os
    rw [show sortWorld (Value.int .i64) w g 0 q S.toArray os = w1 from hw.symm] at hr1
    clear hw
    have hr2 : w1.ownsRow B 3 1 (.slice (some ⟨g, 0, none⟩) S.length cap) S.length (S.map (Value.int .i64)) := by rw [hsl]; exact hr1.1
    have h2 := Tryz.slices_Compact_int g 0 cap S w1 (holds_row (Value.int .i64) hr2) (by omega) (by omega)
    have HRS2 := Lib.hid (fun (q : Nat) (d : List Int) (hd : d.length = S.length) => row_sorted (m := q) (os := #[]) (Value.int .i64) hr2 hd)
    have HG1 := Lib.hid hr1.2
    have H2 := Lib.hid h2
    rw [hsl] at H2
    clear h2 hr1 hr2
    go_wp2_with fail
    refine H2.out.mono ?_
    rintro e w2 ⟨rfl, q2, hw2⟩
    have hr3 := HRS2.out q2 (Lib.compact S ++ List.replicate (L.length - (Lib.compact S).length) 0) (by simp; omega)
    unfold sortWorld at hr3
    rw [grow_empty, ← hw2] at hr3
    have hr4 := row1_take (by rw [hsl] at hr3; exact hr3.1) (show (Lib.compact S).length ≤ L.length by omega)
    have e4 : ((Lib.compact S ++ List.replicate (L.length - (Lib.compact S).length) 0).map (Value.int .i64)).take (Lib.compact S).length = iv (Lib.compact S) := by
      rw [List.map_append, List.take_append_of_le_length (by simp), List.take_of_length_le (by simp)]
      rfl
    rw [e4] at hr4
    have HR4 := Lib.hid hr4
    have HB := Lib.hid (((Below.refl B w).grown HG1.out (by omega) (fun k hk => by cases hk; exact hb)).grown hr3.2 (by have := HG1.out.size; omega) (fun k hk => by cases hk; exact hb))
    rw [HA.out] at HR4
    clear hw2 hr3 hr4 e4
    go_wp2
    go_ret
    exact ⟨_, by rw [HA.out]; rfl, HR4.out, HB.out⟩

/-! ### The corner's mask, moved -/
theorem corner_bd {N : Nat} (hN : N ≤ 6) {o : List Cl} {p q : Nat} (hb : OrnB o p q) (k : Nat) : orB N (o.take k) < 2 ^ 50 := by
  refine orB_lt _ 0 (by decide) fun c hc => ?_
  have h1 := hb.all c (List.mem_of_mem_take hc)
  have := hb.w8
  have := hb.h8
  have h2 : c.2.toNat * N ≤ 7 * 6 := Nat.mul_le_mul (by omega) hN
  unfold bN
  omega
theorem moved_bd {N H : Nat} (hN : N ≤ 6) (hH : H ≤ 6) {o : List Cl} {p q x y : Nat} (hb : OrnB o p q) (hx : x + p ≤ N) (hy : y + q ≤ H) : orB N o * 2 ^ (y * N + x) < 68719476736 := by
  rw [← orB_move x y (fun c hc => by have := hb.all c hc; omega)]
  have h1 : orB N (moveC x y o) < 2 ^ (N * H) := by
    refine orB_lt _ 0 (Nat.pos_of_ne_zero (by simp)) fun d hd => ?_
    unfold moveC at hd
    obtain ⟨c, hc, rfl⟩ := List.mem_map.1 hd
    have := hb.all c hc
    exact bN_lt (by unfold inG; dsimp only; omega)
  have h2 := pow36 hN hH (Nat.le_refl H)
  rw [Nat.mul_comm H N] at h2
  omega

set_option maxHeartbeats 8000000 in
set_option maxRecDepth 100000 in
theorem iMoved (B n cap m2 cap2 N : Nat) (a a2 : Option Addr) (l : List Int) (o : List Cl) (w : World) (hn : n ≤ 4194304) (hm : m2 ≤ 4194304) (hr : Rg N n l) (ho : Orn o) (hc : IntsAt B w a n l) (hd : CellsAt B w a2 m2 o) (hB : B ≤ w.heap.size) :
    Calls Tryz.prog 142 #[.agg #[.int .i64 N, .slice a n cap], .slice a2 m2 cap2] w fun e w' => ∃ v, e = .returned v ∧ w'.ownsRow w.heap.size 3 1 v (mvO N n l o).length (iv (mvO N n l o)) ∧ Below w.heap.size w w' := by
  obtain ⟨i0, hi, hz0, hz1, hz2⟩ := info_parts info_int
  obtain ⟨p, q, hb⟩ := ho.box
  have H := Lib.hid hc
  have HD := Lib.hid hd
  have HR := Lib.hid hr
  have HP := Lib.hid hb
  have hlo := hd.1
  have HMO := Lib.hid (show mvO N n l o = mvY N n p q l o (n + 1 - q) from mvO_box hb)
  have hN6 := hr.w6
  have hn6 := hr.h6
  have hp1 := hb.w1
  have hp8 := hb.w8
  have hq1 := hb.h1
  have hq8 := hb.h8
  have HWH := Lib.hid (show _ ∧ _ from ⟨hb.wide, hb.high⟩)
  have HM := Lib.hid (maskR_lt N l)
  have hb0 := (Below.refl w.heap.size w).alloc (Nat.le_refl _) (.cells #[.int .i64 N, .slice a n cap] 26)
  have hbox0 := RgAt.new (w := w) N (.slice a n cap) rfl
  have hsz0 : (w.alloc (.cells #[.int .i64 N, .slice a n cap] 26)).heap.size = w.heap.size + 1 := by simp
  clear hc hd hr hb
  go_enter Tryz.func142, Tryz.ntmps142
  go_wp2_with fail
  generalize (w.alloc (.cells #[.int .i64 N, .slice a n cap] 26)) = W0 at *
  refine (iSize B m2 cap2 a2 o W0 hm (HD.out.on (hb0.mono hB)) (Nat.le_trans hB hb0.size)).mono ?_
  rintro e w1 ⟨rfl, hb1⟩
  rw [HWH.out.1, HWH.out.2]
  have hb01 := hb0.trans (hb1.mono hb0.size)
  have hbox1 := hbox0.on hb1 hbox0.lt
  have hs1 := hb1.size
  have c0 := hbox1.c0
  have c1 := hbox1.c1
  clear hb1 hb0 hbox0
  go_wp2_with fail
  refine (iMask B n cap a N l w1 hn (H.out.on (hb01.mono hB)) (Nat.le_trans hB hb01.size)).mono ?_
  rintro e W1 ⟨rfl, hb2⟩
  have HB := Lib.hid (hb01.trans (hb2.mono hb01.size))
  have hbox := hbox1.on hb2 hbox1.lt
  have hsz1 := hb2.size
  obtain ⟨M, hM⟩ : ∃ M, maskR N l = M := ⟨_, rfl⟩
  have HMK := Lib.hid hM
  rw [hM] at HM ⊢
  clear hb01 hb2 hbox1 c0 c1 hM
  have hB1 : w.heap.size + 1 ≤ W1.heap.size := by omega
  go_wp2
  go_loopw [8, 24] (fun v i wr => ∃ k m : Nat, k ≤ m2 ∧ i = .int .i64 k ∧ v = .int .i64 m ∧ Hid (m = orB N (o.take k)) ∧ Below (w.heap.size + 1) W1 wr) (fun _ i _ => m2 - (intOf i).toNat)
  case atStart => exact ⟨0, 0, by omega, rfl, rfl, rfl, Below.refl _ _⟩
  case round =>
    obtain ⟨k, m, hk, rfl, rfl, hmm, hb⟩ := hrel
    have hsz := hb.size
    have hbx := hbox.on hb (by omega)
    have hbw := HB.out.trans (hb.mono (by omega))
    by_cases hlt : k < m2
    · have hk1 : (k : Int) < (m2 : Int) := by omega
      have hk0 : (0 : Int) ≤ (k : Int) := by omega
      obtain ⟨b2, off2, rfl, hbB2, hcell2⟩ := HD.out.2.2 (by omega)
      obtain ⟨x, y, hxy⟩ : ∃ x y, o.getD k (0, 0) = (x, y) := ⟨_, _, rfl⟩
      have p0 := hcell2 k hlt
      rw [hxy] at p0
      have p1 := (hbw.cell (p := ⟨b2, off2 + k * 2, none⟩) (Nat.lt_of_lt_of_le hbB2 hB)).trans p0.1
      have p2 := (hbw.cell (p := ⟨b2, off2 + k * 2 + 1, none⟩) (Nat.lt_of_lt_of_le hbB2 hB)).trans p0.2
      have hall := HP.out.all _ (getD_mem (l := o) (j := k) (by omega))
      rw [hxy] at hall
      dsimp only at hall
      obtain ⟨u, rfl⟩ : ∃ u : Nat, x = u := ⟨x.toNat, by omega⟩
      obtain ⟨v, rfl⟩ : ∃ v : Nat, y = v := ⟨y.toNat, by omega⟩
      have hbn : bN N ((u : Int), (v : Int)) = v * N + u := bN_nat N u v
      obtain ⟨b, hbq⟩ : ∃ b : Nat, v * N + u = b := ⟨_, rfl⟩
      have hb49 : b ≤ 49 := by
        have : v * N ≤ 7 * 6 := Nat.mul_le_mul (by omega) hN6
        omega
      have HT := Lib.hid (orB_take (W := N) o (k := k) (by omega))
      rw [hxy, hbn, hbq] at HT
      have hcb := corner_bd hN6 HP.out k
      rw [← hmm.out] at hcb
      have hp2 : (2 : Nat) ^ b ≤ 2 ^ 50 := Nat.pow_le_pow_right (by omega) (by omega)
      have hor := i64_or_nat m (2 ^ b) (by omega) (by omega)
      have HMM := Lib.hid (show m ||| 2 ^ b = orB N (o.take (k + 1)) from by rw [HT.out, ← hmm.out])
      have hcb2 := corner_bd hN6 HP.out (k + 1)
      rw [← HMM.out] at hcb2
      have hszw := hbw.size
      obtain ⟨rb, hrb⟩ : ∃ rb, wr.heap.size = rb := ⟨_, rfl⟩
      have HC := Lib.hid (Two.new (w := wr) (u : Int) (v : Int) hrb)
      have HB1 := Lib.hid (hb.alloc (show w.heap.size + 1 ≤ wr.heap.size by omega) (.cells #[.int .i64 u, .int .i64 v] 126))
      have HBX := Lib.hid (hbx.alloc (.cells #[.int .i64 u, .int .i64 v] 126))
      have c0 := HBX.out.c0
      have d0 := HC.out.c0
      have d1 := HC.out.c1
      clear p0 hxy hcell2 hbx hbw hb hbn HT hmm
      go_wp2_with fail
      generalize (wr.alloc (.cells #[.int .i64 u, .int .i64 v] 126)) = w2 at *
      refine (iBitOf u v N b w2 hbq (by omega) (by omega) (by omega) hN6).mono ?_
      rintro e w4 ⟨rfl, hb4⟩
      have HB4 := Lib.hid (HB1.out.trans (hb4.mono (by have := HB1.out.size; omega)))
      clear hb4 c0 d0 d1 HC HBX hbq p1 p2
      generalize m ||| 2 ^ b = t at *
      generalize 2 ^ b = gg at *
      go_wp2
      go_roundw
      case rel => exact ⟨k + 1, t, by omega, by go_num, rfl, HMM.out, HB4.out⟩
      case measure => simp [intOf]; omega
    · obtain rfl : k = m2 := by omega
      have hco : m = orB N o := by rw [hmm.out, List.take_of_length_le (by omega)]
      have HCO := Lib.hid hco
      have hcb := corner_bd hN6 HP.out k
      rw [← hmm.out] at hcb
      clear hmm hlt hk hco
      have HBW := Lib.hid hbw
      have c0 := hbx.c0
      have c1 := hbx.c1
      have hbxW := hbx
      have hszW := hbw.size
      clear hbw hbx hbox
      have hsW : w.heap.size + 1 ≤ wr.heap.size := by omega
      clear HB hb hsz
      obtain ⟨cy, hcy⟩ : ∃ cy : Int, (n : Int) - (q : Int) + 1 = cy := ⟨_, rfl⟩
      obtain ⟨cx, hcx⟩ : ∃ cx : Int, (N : Int) - (p : Int) + 1 = cx := ⟨_, rfl⟩
      obtain ⟨Y, hY⟩ : ∃ Y, n + 1 - q = Y := ⟨_, rfl⟩
      obtain ⟨X, hX⟩ : ∃ X, N + 1 - p = X := ⟨_, rfl⟩
      have hY7 : Y ≤ 6 := by omega
      have hX7 : X ≤ 6 := by omega
      rw [hY] at HMO
      have HSY := Lib.hid (fun y => (show mvY N n p q l o (y + 1) = mvY N n p q l o y ++ mvX N n p q l o y (N + 1 - p) from rfl))
      rw [hX] at HSY
      have HXL := Lib.hid (fun y x => mvX_len N n p q l o y x)
      have HYL := Lib.hid (fun y => mvY_len N n p q l o y)
      rw [hX] at HYL
      generalize wr = w0 at *
      go_wp2
      go_loopw [11, 41] (fun v i wr => ∃ y m : Nat, y ≤ Y ∧ i = .int .i64 y ∧ Hid (m = (mvY N n p q l o y).length) ∧ Hid (wr.ownsRow (w.heap.size + 1) 3 1 v m (iv (mvY N n p q l o y))) ∧ Below (w.heap.size + 1) w0 wr) (fun _ i _ => Y - (intOf i).toNat)
      case atStart => exact ⟨0, 0, by omega, rfl, rfl, World.ownsRow_nil w0 _ _ _, Below.refl _ _⟩
      case round =>
        obtain ⟨y, mm, hy, rfl, hmm, hown, hb⟩ := hrel
        have hsz := hb.size
        clear c0 c1
        have hbx := hbxW.on hb (by omega)
        have c0 := hbx.c0
        by_cases hyt : y < Y
        · have hy1 : (y : Int) < cy := by omega
          have HSS := Lib.hid (HSY.out y)
          have hyl := HYL.out y
          have hyl2 : X * y ≤ 6 * 6 := Nat.mul_le_mul hX7 (by omega)
          obtain ⟨out1, hout1⟩ : ∃ r, mvY N n p q l o y = r := ⟨_, rfl⟩
          rw [hout1] at hmm hown HSS hyl
          clear hout1
          go_wp2
          clear c0 hbx
          go_loopw [11, 49] (fun v i wr => ∃ x m : Nat, x ≤ X ∧ i = .int .i64 x ∧ Hid (m = (out1 ++ mvX N n p q l o y x).length) ∧ Hid (wr.ownsRow (w.heap.size + 1) 3 1 v m (iv (out1 ++ mvX N n p q l o y x))) ∧ Below (w.heap.size + 1) w0 wr) (fun _ i _ => X - (intOf i).toNat)
          case atStart => exact ⟨0, mm, by omega, rfl, by rw [hmm.out]; simp [mvX, Hid], by rw [show mvX N n p q l o y 0 = [] from rfl, List.append_nil]; exact hown.out, hb⟩
          case round =>
            clear hown hb hsz hmm
            obtain ⟨x, mm, hx, rfl, hmm, hown, hb⟩ := hrel
            have hsz := hb.size
            have hbx := hbxW.on hb (by omega)
            have c0 := hbx.c0
            by_cases hxt : x < X
            · have hx1 : (x : Int) < cx := by omega
              have hmv := moved_bd hN6 hn6 HP.out (x := x) (y := y) (by omega) (by omega)
              rw [← HCO.out] at hmv
              have hxl := HXL.out y x
              have hml := hmm.out
              rw [List.length_append] at hml
              have hmm9 : mm ≤ 100 := by omega
              have hfit : fitN N n p q l o x y = decide (orB N o * 2 ^ (y * N + x) &&& maskR N l = orB N o * 2 ^ (y * N + x)) := by
                unfold fitN
                rw [decide_eq_true (show x + p ≤ N by omega), decide_eq_true (show y + q ≤ n by omega)]
                rfl
              rw [← HCO.out, HMK.out] at hfit
              have HYES := Lib.hid (fun h => mvX_yes (W := N) (H := n) (p := p) (q := q) (l := l) (o := o) (y := y) (x := x) h)
              have HNO := Lib.hid (fun h => mvX_no (W := N) (H := n) (p := p) (q := q) (l := l) (o := o) (y := y) (x := x) h)
              rw [← HCO.out] at HYES
              obtain ⟨s, hs⟩ : ∃ s : Nat, y * N = s := ⟨_, rfl⟩
              obtain ⟨b, hbb⟩ : ∃ b : Nat, y * N + x = b := ⟨_, rfl⟩
              obtain ⟨t, ht⟩ : ∃ t : Nat, m * 2 ^ (y * N + x) = t := ⟨_, rfl⟩
              have hmul : (y : Int) * (N : Int) = (s : Int) := by rw [← hs]; simp
              have hadd : (s : Int) + (x : Int) = (b : Int) := by omega
              have hb64 : b ≤ 41 := by
                have : y * N ≤ 5 * 6 := Nat.mul_le_mul (by omega) hN6
                omega
              have hshl : (m : Int) * (2 : Int) ^ b = (t : Int) := by rw [← ht, hbb]; simp
              have hand := andN_zero (m := t) (k := M) (by omega) (by have := HM.out; omega)
              rw [ht] at hmv hfit HYES
              have HFIT := Lib.hid hfit
              have HMM := Lib.hid hmm.out
              have hown9 := hown.out
              clear hs hbb ht hfit hmm hown hml hxl hbx
              cases hf : decide (t &&& M = t) with
              | true =>
                rw [hf] at hand HFIT
                have HX := Lib.hid (HYES.out HFIT.out)
                have HM1 := Lib.hid (show mm + 1 = (out1 ++ mvX N n p q l o y (x + 1)).length from by rw [HX.out, ← List.append_assoc, List.length_append, ← HMM.out]; rfl)
                clear hf
                go_wp2_with (first | (at_builtin; refine wpList_append_own _ rfl _ _ 24 rfl (w.heap.size + 1) 3 i0 (.int .i64 0) 1 8 Tryz.underlying24 hi hz0 hz1 hz2 rfl (by decide) _ _ _ rfl (hown9.alloc _) ⟨wr.heap.size, 0, none⟩ 1 1 [.int .i64 t] rfl rfl (liesV_block (t := 3) (fr := (0, 0)) (heap_alloc_new _ _)) (by simp [Value.oneCell']) ?c3 ?c4 ?c5 ?_) | go_in)
                case c3 => unfold maxLen; omega
                case c4 => omega
                case c5 => simp; omega
                intro v' w4 hown4 hgrow _
                rw [show iv (out1 ++ mvX N n p q l o y x) ++ [.int .i64 t] = iv (out1 ++ mvX N n p q l o y (x + 1)) from by rw [HX.out, ← List.append_assoc, iv_append (out1 ++ _)]; rfl] at hown4
                have HB4 := Lib.hid ((hb.alloc (show w.heap.size + 1 ≤ wr.heap.size by omega) (.cells #[.int .i64 t] 3)).grown hgrow (by simp; omega) (fun k hk => (hown9.lt k hk).1))
                have HO4 := Lib.hid hown4
                clear hown4 hgrow hown9
                go_wp2
                go_roundw
                case rel => first
                  | exact ⟨x + 1, mm + 1, by omega, by go_num, HM1.out, HO4.out, HB4.out⟩
                  | (repeat apply Exists.intro
                     exact ⟨⟨x + 1, mm + 1, by omega, by go_num, HM1.out, HO4.out, HB4.out⟩, rfl⟩)
                case measure => simp [intOf]; omega
              | false =>
                rw [hf] at hand HFIT
                have HX := Lib.hid (HNO.out HFIT.out)
                have HM1 := Lib.hid (show mm = (out1 ++ mvX N n p q l o y (x + 1)).length from by rw [HX.out]; exact HMM.out)
                have HO4 := Lib.hid (show wr.ownsRow (w.heap.size + 1) 3 1 _ mm (iv (out1 ++ mvX N n p q l o y (x + 1))) from by rw [HX.out]; exact hown9)
                clear hf hown9
                go_wp2
                go_roundw
                case rel => exact ⟨x + 1, mm, by omega, by go_num, HM1.out, HO4.out, hb⟩
                case measure => simp [intOf]; omega
            · obtain rfl : x = X := by omega
              have hx2 : ¬ (x : Int) < cx := by omega
              have HM1 := Lib.hid (show mm = (mvY N n p q l o (y + 1)).length from by rw [HSS.out]; exact hmm.out)
              have HO1 := Lib.hid (show wr.ownsRow (w.heap.size + 1) 3 1 _ mm (iv (mvY N n p q l o (y + 1))) from by rw [HSS.out]; exact hown.out)
              clear hmm hown hbx c0
              go_wp2
              go_roundw
              case rel => exact ⟨y + 1, mm, by omega, by go_num, HM1.out, HO1.out, hb⟩
              case measure => simp [intOf]; omega
        · obtain rfl : y = Y := by omega
          have hy2 : ¬ (y : Int) < cy := by omega
          have HO1 := Lib.hid (show wr.ownsRow w.heap.size 3 1 _ (mvO N n l o).length (iv (mvO N n l o)) from by rw [HMO.out, ← hmm.out]; exact own_below hown.out (by omega))
          have HBF := Lib.hid (HBW.out.trans (hb.mono (by omega)))
          clear hmm hown hbx c0 hb
          go_wp2
          go_ret
          exact ⟨_, rfl, HO1.out, HBF.out⟩
end

section
open Go.RowKit

theorem iIsMotion (m : Int) (w : World) : Calls Tryz.prog 186 #[.int .i64 m] w fun e w' => e = .returned (.bool (inb m 0 7)) ∧ w = w' := by
  unfold inb
  by_cases h1 : 0 ≤ m
  · have e : (decide (0 ≤ m) && decide (m ≤ 7)) = decide (m < 8) := by rw [Bool.eq_iff_iff]; simp; omega
    rw [e]
    clear e
    go_enter Tryz.func186, Tryz.ntmps186
    go_wp2
    go_ret
    exact ⟨rfl, rfl⟩
  · have e : (decide (0 ≤ m) && decide (m ≤ 7)) = false := by rw [decide_eq_false h1]; rfl
    rw [e]
    clear e
    go_enter Tryz.func186, Tryz.ntmps186
    go_wp2
    go_ret
    exact ⟨rfl, rfl⟩
theorem tmod4 (m : Nat) : ((m : Int).tmod 4) = ((m % 4 : Nat) : Int) := by rw [Int.tmod_eq_emod_of_nonneg (by omega)]; omega
theorem iTurns (m : Nat) (w : World) (_hm : m ≤ 7) : Calls Tryz.prog 209 #[.int .i64 m] w fun e w' => e = .returned (.int .i64 ((m % 4 : Nat) : Int)) ∧ w = w' := by
  have h4 := tmod4 m
  have hw : IntKind.i64.wrap ((m % 4 : Nat) : Int) = ((m % 4 : Nat) : Int) := IntWalk.i64_in _ (by omega)
  go_enter Tryz.func209, Tryz.ntmps209
  go_wp2
  go_ret
  exact ⟨rfl, rfl⟩
theorem iReflects (m : Int) (w : World) : Calls Tryz.prog 208 #[.int .i64 m] w fun e w' => e = .returned (.bool (decide (4 ≤ m))) ∧ w = w' := by
  go_enter Tryz.func208, Tryz.ntmps208
  go_wp2
  go_ret
  exact ⟨rfl, rfl⟩
/-- A motion out of turns and a reflection. -/
def motOf (t : Int) (r : Bool) : Int := (t + 4).tmod 4 + if r = true then 4 else 0
/-- One motion after another, by turns and reflections. -/
def compF (a b : Nat) : Int := motOf ((if 4 ≤ b then -((a % 4 : Nat) : Int) else ((a % 4 : Nat) : Int)) + ((b % 4 : Nat) : Int)) (decide (4 ≤ (a : Int)) != decide (4 ≤ (b : Int)))
theorem compF_eq : ∀ a : Fin 8, ∀ b : Fin 8, compI (a.val : Int) (b.val : Int) = compF a.val b.val := by decide +kernel
theorem compI_in {a b : Nat} (ha : a ≤ 7) (hb : b ≤ 7) : compI (a : Int) (b : Int) = compF a b := compF_eq ⟨a, by omega⟩ ⟨b, by omega⟩
theorem compI_no {p q : Int} (h : (inb p 0 7 && inb q 0 7) = false) : compI p q = -1 := by unfold compI; rw [h]; rfl
/-- A motion back, by turns and reflections. -/
def invF (a : Nat) : Int := if 4 ≤ a then (a : Int) else motOf (-((a % 4 : Nat) : Int)) false
theorem invF_eq : ∀ a : Fin 8, invI (a.val : Int) = invF a.val := by decide +kernel
theorem invI_in {a : Nat} (ha : a ≤ 7) : invI (a : Int) = invF a := invF_eq ⟨a, by omega⟩
theorem invI_no {p : Int} (h : inb p 0 7 = false) : invI p = -1 := by
  unfold invI
  have : (List.range 8).find? (fun k : Nat => decide (compI p (k : Int) = 0)) = none := by
    rw [List.find?_eq_none]
    intro k _
    rw [compI_no (by rw [h]; rfl)]
    simp
  rw [this]
theorem ret_Ij {a b : Int} (h : a = b) : Ending.returned (.int .i64 a) = .returned (.int .i64 b) := by rw [h]
theorem inb_nat {p : Int} (h : inb p 0 7 = true) : ∃ a : Nat, p = (a : Int) ∧ a ≤ 7 := by
  unfold inb at h
  simp only [Bool.and_eq_true, decide_eq_true_eq] at h
  obtain ⟨a, rfl⟩ := Int.eq_ofNat_of_zero_le h.1
  exact ⟨a, rfl, by omega⟩
end

section
open Go.RowKit

/-- A slice of the call's own, or nil, that reads as l. -/
def Own (w : World) (l : List Cl) (v : Value) (w' : World) : Prop := w'.ownsRow w.heap.size 126 2 v l.length (cvs l) ∧ Below w.heap.size w w'
theorem own_nil (w : World) (B : Nat) : w.ownsRow B 126 2 (.slice none 0 0) 0 (cvs []) := ⟨rfl, .inl ⟨rfl, rfl⟩⟩
theorem moveS_no {p q : Int} {l : List Cl} (h : canMove p q l = false) : moveS p q l = [] := if_neg (by rw [h]; simp)

theorem move_fill (p q : Int) (l : List Cl) (k n : Nat) (h : k < n) (hl : l.length = n) : (moveC p q (l.take k) ++ List.replicate (n - k) ((0 : Int), (0 : Int))).set k ((l.getD k (0, 0)).1 + p, (l.getD k (0, 0)).2 + q) = moveC p q (l.take (k + 1)) ++ List.replicate (n - (k + 1)) (0, 0) := by
  have e : n - k = (n - (k + 1)) + 1 := by omega
  have el : (moveC p q (l.take k)).length = k := by rw [moveC_len]; simp; omega
  rw [e, List.replicate_succ, List.set_append_right _ _ (by omega), el, Nat.sub_self, List.set_cons_zero]
  have e2 : moveC p q (l.take (k + 1)) = moveC p q (l.take k) ++ [((l.getD k (0, 0)).1 + p, (l.getD k (0, 0)).2 + q)] := by
    rw [take_snoc l k (by omega)]
    simp [moveC]
  rw [e2, List.append_assoc]
  rfl
end

end Go.Proofs.YtkcclhnligajeaaGreatDoor
