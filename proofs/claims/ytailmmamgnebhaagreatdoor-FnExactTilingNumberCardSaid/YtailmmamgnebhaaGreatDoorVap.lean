/-
  newFilling, in the program: what the call gives.
  The counts that the program keeps: a map from sets of free places to numbers.
  The masks to try next, in the program: what the call gives; the operator &^.
-/
import Derived.Test.YtailmmamgnebhaaGreatDoorVao
import Derived.Maps.Ext
import Derived.Maps.OwnSet
import Derived.Lib.QuietBelow
namespace Go.Proofs.YtailmmamgnebhaaGreatDoor

section
open Go.RowKit Go.Maps Go.ChangeMaps Go.MapKept

/-- How the counts' elements read. -/
noncomputable abbrev RI : Value → Option (DataW Nat × List MemPlace) := plainElem Tryz.prog 3

theorem own_map {w : World} {B size n b q : Nat} {t : TypeId} {v : Value} {xs : List Value} {k : TypeId} {R : Value → Option (DataW Nat × List MemPlace)} {D : DataW Nat} (h : w.ownsRow B t size v n xs) (hm : w.ownsMap Tryz.prog k R b q D) : v.ownBlock ≠ some b := by
  obtain ⟨es, clock, hb, _⟩ := hm
  rcases h.2 with ⟨rfl, _⟩ | ⟨g, cap, cur, rfl, _, hg, _⟩
  · exact fun e => (by cases e)
  · intro e
    have e2 : g = b := by injection e
    rw [e2, hb] at hg
    cases hg
theorem fil_after {w w' : World} {g mb : Nat} {rows : Nat → Value} {d : Nat → Bool} {L : Int} {o : Obj} {r : Option Nat} (h : FilAt w g rows d L mb) (hg : ((w.alloc o).drew).grownBy w' r) (hne : some g ≠ r) : FilAt w' g rows d L mb := by
  have h1 : FilAt (w.alloc o) g rows d L mb := h.by (World.grownBy_alloc w o none) (by simp)
  have h2 : FilAt (w.alloc o).drew g rows d L mb := h1
  exact h2.by hg hne

set_option maxHeartbeats 4000000 in
set_option maxRecDepth 100000 in
theorem iNewF (B n cap : Nat) (a : Option Addr) (Q : List Nat) (L : Int) (w : World) (hn : n ≤ 100000) (hc : IntsAt B w a n (ints Q)) (hQ : ∀ m ∈ Q, m ≠ 0 ∧ m < 68719476736) (hB : B ≤ w.heap.size) (hT : Tz w) :
    Calls Tryz.prog 92 #[.slice a n cap, .int .i64 L] w fun e w' => (∃ g mb rows d, e = .returned (.pointer (some ⟨g, 0, none⟩)) ∧ FilAt w' g rows d L mb ∧ GrpAt w.heap.size w' g rows Q ∧ SumTo Q d 65 ∧ w'.ownsMap Tryz.prog 3 RI mb 0 (.map []) ∧ w.heap.size ≤ g ∧ w.heap.size ≤ mb) ∧ Below w.heap.size w w' := by
  obtain ⟨i0, hi, hz0, hz1, hz2⟩ := info_parts info_int
  have H := Lib.hid hc
  have hln := hc.1
  rw [ints_len] at hln
  have HQ := Lib.hid hQ
  have HT := Lib.hid hT
  have hmm := @run_makeMap Tryz.prog
  clear hc hQ hT
  go_enter Tryz.func92, Tryz.ntmps92
  go_wp2_with fail
  refine (iSums B n cap a Q w (by omega) H.out (fun m hm => (HQ.out m hm).2) hB).mono ?_
  rintro e w1 ⟨⟨d, rfl, hd⟩, hb1⟩
  have HD := Lib.hid hd
  have HB1 := Lib.hid hb1
  clear hd hb1
  have hbt := fil_built d L w1.heap.size
  go_wp2_with (first | (refine wpList_build rfl 150 _ rfl ?iss ?_) | go_in)
  obtain ⟨mb, hmb⟩ : ∃ mb, w1.heap.size = mb := ⟨_, rfl⟩
  have hs1 := HB1.out.size
  have hs2 : (w1.alloc (.map #[] 0)).heap.size = mb + 1 := by simp [hmb]
  have HF0 := Lib.hid (show FilAt ((w1.alloc (.map #[] 0)).alloc (.cells (filV (fun _ => .slice none 0 0) d L mb) 150)) (mb + 1) (fun _ => .slice none 0 0) d L mb from by rw [← hs2]; exact heap_alloc_last _ _)
  have HM0 := Lib.hid (show ((w1.alloc (.map #[] 0)).alloc (.cells (filV (fun _ => .slice none 0 0) d L mb) 150)).ownsMap Tryz.prog 3 RI mb 0 (.map []) from by rw [← hmb]; exact (World.ownsMap_made w1 _ _ _).alloc _)
  have HW0 := Lib.hid (show Below w.heap.size w ((w1.alloc (.map #[] 0)).alloc (.cells (filV (fun _ => .slice none 0 0) d L mb) 150)) from (HB1.out.alloc hs1 _).alloc (by rw [hs2]; omega) _)
  rw [hmb] at hs1 ⊢
  clear hbt hmm hs2
  generalize ((w1.alloc (.map #[] 0)).alloc (.cells (filV (fun _ => .slice none 0 0) d L mb) 150)) = W2 at *
  go_loopw [17] (fun i wr => ∃ (k : Nat) (rows : Nat → Value), k ≤ n ∧ i = .int .i64 (k : Int) ∧ Hid (FilAt wr (mb + 1) rows d L mb) ∧ Hid (GrpAt w.heap.size wr (mb + 1) rows (Q.take k)) ∧ Hid (wr.ownsMap Tryz.prog 3 RI mb 0 (.map [])) ∧ Below w.heap.size w wr) (fun i _ => n - (intOf i).toNat)
  case atStart => exact ⟨0, _, by omega, rfl, HF0.out, GrpAt.nil _ _ _, HM0.out, HW0.out⟩
  case round =>
    clear HF0 HM0 HW0
    obtain ⟨k, rows, hk, rfl, hf, hgr, hmp, hb⟩ := hrel
    by_cases hkt : k < n
    · have hk1 : (k : Int) < (n : Int) := by omega
      have hk0 : (0 : Int) ≤ (k : Int) := by omega
      obtain ⟨b9, o9, rfl, hb9, hc9⟩ := (H.out.on (hb.mono hB)).2.2 (by omega)
      have p1 := hc9 k hkt
      rw [ints_get] at p1
      have hm := HQ.out (Q.getD k 0) (getD_memN (by omega))
      have HSN := Lib.hid (fun j => grpB_snoc Q k j (by omega))
      obtain ⟨m, hmm⟩ : ∃ m, Q.getD k 0 = m := ⟨_, rfl⟩
      rw [hmm] at p1 hm HSN
      have hlw := lowB_lt hm.1 (by omega)
      have HL := Lib.hid (iLow m (by omega) wr (HT.out.on hb HT.out.2))
      obtain ⟨low, hlow⟩ : ∃ low, lowB m = low := ⟨_, rfl⟩
      rw [hlow] at hlw HL HSN
      clear hc9 hmm hlow hm
      have hl0 : (0 : Int) ≤ (low : Int) := by omega
      have hl1 : (low : Int) < 64 := by omega
      have c0 := hf.out.row (k := low) hlw
      have f0 := hf.out.frozen low
      have hown := hgr.out.each low hlw
      have hlen := grpB_len (Q.take k) low
      rw [List.length_take] at hlen
      have hoff := hgr.out.off low hlw
      obtain ⟨v, hv⟩ : ∃ v, rows low = v := ⟨_, rfl⟩
      rw [hv] at c0 hown hoff
      have HV := Lib.hid hv
      obtain ⟨q, hq⟩ : ∃ q, (grpB (Q.take k) low).length = q := ⟨_, rfl⟩
      rw [hq] at hown hlen
      have hlen' : q ≤ 100000 := Nat.le_trans hlen (Nat.le_trans (Nat.min_le_left _ _) (by omega))
      clear hlen
      have HQL := Lib.hid hq
      have HOW := Lib.hid hown
      have hglt := hf.out.lt
      have m0 : (wr.alloc (.cells #[.int .i64 (m : Int)] 3)).cell? ⟨mb + 1, low, none⟩ = some v := (hf.out.by (World.grownBy_alloc wr _ none) (by simp)).row hlw |>.trans (by rw [HV.out])
      clear hv hq hown
      go_wp2_with fail
      refine HL.out.mono ?_
      rintro e w2 ⟨rfl, hw2⟩
      have hw2' := hw2.symm
      subst hw2'
      go_wp2_with fail
      go_region_law (first
        | (refine step_append_lies _ rfl _ _ _ rfl w.heap.size 3 i0 (.int .i64 0) 1 8 Tryz.underlying24 hi hz0 hz1 hz2 rfl (by omega) _ q (iv (ints (grpB (Q.take k) low))) rfl ?a1 ⟨wr.heap.size, 0, none⟩ 1 1 (iv [(m : Int)]) rfl rfl ?a2 (iv_one _) (by omega) ?a3 ?a4 ?a5 (wr.heap.size + 1) ?a6 ?_
           (case a1 => exact HOW.out.alloc (.cells #[.int .i64 (m : Int)] 3))
           (case a2 => exact World.news_of_block (cs := #[.int .i64 (m : Int)]) (t := 3) (fr := (0, 0)) (heap_alloc_new _ _))
           (case a3 => unfold maxLen; omega)
           (case a4 => omega)
           (case a5 => have := hb.size; simp; omega)
           (case a6 => simp)
           intro gg cap' w' hownN hgrN hatN hltN
           have hfN := fil_after hf.out hgrN (fun e => hoff e.symm)
           have m1 : w'.cell? ⟨mb + 1, low, none⟩ = some v := (hfN.row hlw).trans (by rw [HV.out])
           have m2 := hfN.frozen low))
      all_goals
        have hgr2 : ((wr.alloc (.cells #[.int .i64 (m : Int)] 3)).drew).grownBy w' v.ownBlock := hgrN
        have hat2 : v.ownBlock = some gg ∨ gg = wr.heap.size + 1 := hatN
        have hszA : ((wr.alloc (.cells #[.int .i64 (m : Int)] 3)).drew).heap.size = wr.heap.size + 1 := by show (wr.alloc (.cells #[.int .i64 (m : Int)] 3)).heap.size = _; simp
        have hG0 := hgr.out.by (World.grownBy_alloc wr (.cells #[.int .i64 (m : Int)] 3) none) (fun _ _ _ _ h => by cases h)
        have hG1 : GrpAt w.heap.size ((wr.alloc (.cells #[.int .i64 (m : Int)] 3)).drew) (mb + 1) rows (Q.take k) := ⟨hG0.each, hG0.off, hG0.apart⟩
        have hG2 := hG1.put (Q' := Q.take (k + 1)) (k := low) (m := m) (gg := gg) (c := cap') (w' := w') hlw HSN.out (by rw [HQL.out]; exact hownN) (by rw [HV.out]; exact hgr2)
          (by rw [HV.out]; rcases hat2 with h1 | h1; exact .inl h1; exact .inr (by rw [hszA]; omega)) (by rw [hszA]; omega)
        rw [HQL.out] at hG2
        have hne : some mb ≠ v.ownBlock := fun e => own_map HOW.out hmp.out e.symm
        have hM1 : ((wr.alloc (.cells #[.int .i64 (m : Int)] 3)).drew).ownsMap Tryz.prog 3 RI mb 0 (.map []) := (hmp.out.alloc _).drew
        have HM2 := Lib.hid ((hM1.kept hgr2 hne).setCell (a := ⟨mb + 1, low, none⟩) (by show mb ≠ mb + 1; omega) (.slice (some ⟨gg, 0, none⟩) (q + 1) cap'))
        have hb2 := ((hb.alloc hb.size (.cells #[.int .i64 (m : Int)] 3)).drew).grown hgr2 (by show _ ≤ (wr.alloc (.cells #[.int .i64 (m : Int)] 3)).heap.size; have := hb.size; simp; omega) (fun j hj => (HOW.out.lt _ hj).1)
        have HB2 := Lib.hid (hb2.setCell (p := ⟨mb + 1, low, none⟩) (by show w.heap.size ≤ mb + 1; omega) (.slice (some ⟨gg, 0, none⟩) (q + 1) cap'))
        have HF2 := Lib.hid (hfN.set hlw (.slice (some ⟨gg, 0, none⟩) (q + 1) cap'))
        have HG3 := Lib.hid (hG2.by (grown_set1 w' (mb + 1) low (.slice (some ⟨gg, 0, none⟩) (q + 1) cap')) (fun j hj b hb9 e => hG2.off j hj (by rw [hb9]; exact e.symm)))
        clear hownN hgrN hatN hfN m0 m1 m2 c0 f0 hgr2 hat2 hG0 hG1 hG2 hM1 hb2 hf hgr hmp hb HOW
        generalize (w'.setCell ⟨mb + 1, low, none⟩ (.slice (some ⟨gg, 0, none⟩) (q + 1) cap')) = w5 at *
        go_wp2
        go_roundw
        case rel => first
          | exact ⟨k + 1, _, by omega, by go_num, HF2.out, HG3.out, HM2.out, HB2.out⟩
          | (repeat apply Exists.intro
             exact ⟨⟨k + 1, _, by omega, by go_num, HF2.out, HG3.out, HM2.out, HB2.out⟩, rfl⟩)
        case measure => simp [intOf]; omega
    · obtain rfl : k = n := by omega
      have hgr9 := hgr.out
      rw [List.take_of_length_le (by omega)] at hgr9
      have HG9 := Lib.hid hgr9
      clear hgr9 hgr
      go_wp2
      go_ret
      exact ⟨⟨mb + 1, mb, rows, d, rfl, hf.out, HG9.out, HD.out, hmp.out, by omega, by omega⟩, hb⟩
end

section
open Go.RowKit Go.Maps Go.ChangeMaps Go.MapKept

theorem int_law : Keyed Tryz.prog 3 := int_keyed Tryz.underlying3
def litN (f : Nat) : Lit := .int .i64 (f : Int)
def dN (c : Nat) : DataW Nat := .lit (.int .i64 (c : Int))
theorem lit_inj {a b : Int} (h : (DataW.lit (.int .i64 a) : DataW Nat) = .lit (.int .i64 b)) : a = b := by cases h; rfl
theorem litN_inj {a b : Nat} (h : litN a = litN b) : a = b := by
  unfold litN at h
  injection h with _ h
  omega
theorem wf_N {c : Nat} (h : c < 9223372036854775808) : (Lit.int .i64 (c : Int)).wf = true := by
  simp only [Lit.wf, Bool.and_eq_true, decide_eq_true_eq]
  constructor
  · have : (IntKind.i64.min : Int) ≤ 0 := by decide
    omega
  · have : IntKind.i64.max = (9223372036854775807 : Int) := by decide
    omega
theorem litN_key {f : Nat} (h : f < 9223372036854775808) : keyOf Tryz.prog 3 (.int .i64 (f : Int)) = some (litN f) := keyOf_int_mk Tryz.underlying3 (wf_N h)
theorem zero_int (w : World) : (zeroValue 3).run Tryz.prog w = .ok (.int .i64 0) w := by
  obtain ⟨i0, hi, hz0, hz1, hz2⟩ := info_parts info_int
  simp [zeroValue, typeInfo, hi, hz0]
/-- What is in the map as read: for sets of places, v of them. -/
def HasC (D : DataW Nat) (v : Nat → Nat) : Prop := ∀ k, has D k = true → ∃ f : Nat, k = litN f ∧ f < 68719476736 ∧ D.atKey k (.lit (.int .i64 0)) = dN (v f)
/-- Block mb is a map of counts. -/
def CntM (w : World) (mb : Nat) (v : Nat → Nat) : Prop := ∃ D : DataW Nat, w.ownsMap Tryz.prog 3 RI mb 68719476736 D ∧ HasC D v
theorem CntM.made {w : World} {mb : Nat} (h : w.ownsMap Tryz.prog 3 RI mb 0 (.map [])) (v : Nat → Nat) : CntM w mb v := ⟨_, h.mono (by omega), fun k hk => by simp [Maps.has] at hk⟩
theorem CntM.kept {w w' : World} {mb : Nat} {v : Nat → Nat} {row : Option Nat} (h : CntM w mb v) (hg : w.grownBy w' row) (hne : some mb ≠ row) : CntM w' mb v := by
  obtain ⟨D, h1, h2⟩ := h
  exact ⟨D, h1.kept hg hne, h2⟩
theorem CntM.on {w w' : World} {mb : Nat} {v : Nat → Nat} (h : CntM w mb v) (hb : Below w.heap.size w w') : CntM w' mb v := h.kept (grow_below hb none) (by simp)
theorem CntM.drew {w : World} {mb : Nat} {v : Nat → Nat} (h : CntM w mb v) : CntM w.drew mb v := h
theorem CntM.lt {w : World} {mb : Nat} {v : Nat → Nat} (h : CntM w mb v) : mb < w.heap.size := by
  obtain ⟨D, h1, h2⟩ := h
  exact h1.lt
theorem rise_len (N : Nat) : ∀ (es : List (Lit × DataW Nat)) (lo : Nat), es.Pairwise (fun p q => p.1.before q.1 = true) → (∀ p ∈ es, ∃ f : Nat, p.1 = litN f ∧ lo ≤ f ∧ f < N) → lo ≤ N → es.length + lo ≤ N
  | [], lo, _, _, h => by simpa using h
  | p :: r, lo, hp, hk, h => by
    obtain ⟨h1, h2⟩ := List.pairwise_cons.1 hp
    obtain ⟨f, e, hf, hN⟩ := hk p (by simp)
    have := rise_len N r (f + 1) h2 (fun q hq => by
      obtain ⟨g, e2, _, hg⟩ := hk q (by simp [hq])
      have hb := h1 q hq
      rw [e, e2] at hb
      unfold litN Lit.before at hb
      have hb2 : (f : Int) < (g : Int) := by simpa using hb
      exact ⟨g, e2, by omega, hg⟩) (by omega)
    simp only [List.length_cons]
    omega
theorem own_tight {w : World} {b n : Nat} {D : DataW Nat} (h : w.ownsMap Tryz.prog 3 RI b n D) {v : Nat → Nat} (hc : HasC D v) : w.ownsMap Tryz.prog 3 RI b 68719476736 D := by
  obtain ⟨es0, e0, hr, hk⟩ := h.canon int_law
  have hl : es0.length ≤ 68719476736 := by
    have := rise_len 68719476736 es0 0 hr (fun p hp => by
      have hh : has D p.1 = true := by rw [e0, has_eq]; exact List.any_eq_true.2 ⟨p, hp, WideAt.sameKey_self (hk p hp)⟩
      obtain ⟨f, e1, h1, _⟩ := hc p.1 hh
      exact ⟨f, e1, Nat.zero_le _, h1⟩) (by omega)
    simpa using this
  obtain ⟨es, clock, hb, F, hs, hD⟩ := h
  refine ⟨es, clock, hb, F, ?_, hD⟩
  rw [e0] at hD
  injection hD with hD
  rw [hD, length_sorted] at hl
  simpa using hl
/-- One count more. -/
theorem CntM.store {w : World} {mb : Nat} {v : Nat → Nat} (h : CntM w mb v) {f : Nat} (hf : f < 68719476736) (hv : v f < 9223372036854775808) :
    ∃ w', (Instr.mapUpdate 147 (.map (some mb)) (.int .i64 (f : Int)) (.int .i64 (v f : Nat))).run Tryz.prog w = .ok () w' ∧ CntM w' mb v ∧ w.grownBy w' (some mb) ∧
      (Instr.lookup 147 (.map (some mb)) (.int .i64 (f : Int)) false).run Tryz.prog w' = .ok (.int .i64 (v f : Nat)) w' := by
  obtain ⟨D, h1, h2⟩ := h
  have hkey := litN_key (show f < 9223372036854775808 by omega)
  obtain ⟨w', hrun, ho, hg⟩ := h1.update int_law Tryz.underlying147 (by unfold maxLen; omega) hkey (plainElem_int (H := Nat) Tryz.underlying3 (wf_N hv))
  have hc : HasC (D.put (litN f) (.lit (.int .i64 ((v f : Nat) : Int)))) v := by
    intro k hk
    by_cases e : k = litN f
    · subst e
      exact ⟨f, rfl, hf, atKey_put_same h1.isMap (int_law.key hkey) _ _⟩
    · rw [has_put_other e] at hk
      obtain ⟨g, e1, hg2, e2⟩ := h2 k hk
      exact ⟨g, e1, hg2, by rw [atKey_put_other e]; exact e2⟩
  refine ⟨w', hrun, ⟨_, own_tight ho hc, hc⟩, hg, ?_⟩
  obtain ⟨c, hrun2, hat, _⟩ := ho.lookup_int int_law Tryz.underlying147 Tryz.underlying3 (zero_int w') hkey
  rw [atKey_put_same h1.isMap (int_law.key hkey)] at hat
  rw [hrun2, ← lit_inj hat]
/-- A count looked up. -/
theorem CntM.look {w : World} {mb : Nat} {v : Nat → Nat} (h : CntM w mb v) {f : Nat} (hf : f < 68719476736) :
    (Instr.lookup 147 (.map (some mb)) (.int .i64 (f : Int)) true).run Tryz.prog w = .ok (.tuple #[.int .i64 (v f : Nat), .bool true]) w ∨
    ∃ c : Int, (Instr.lookup 147 (.map (some mb)) (.int .i64 (f : Int)) true).run Tryz.prog w = .ok (.tuple #[.int .i64 c, .bool false]) w := by
  obtain ⟨D, h1, h2⟩ := h
  have hkey := litN_key (show f < 9223372036854775808 by omega)
  have hw0 : (Lit.int .i64 0).wf = true := by decide
  obtain ⟨x, ps, hrun, hx⟩ := h1.look_ok int_law Tryz.underlying147 (zero_int w) (plainElem_int (H := Nat) Tryz.underlying3 hw0) hkey
  obtain ⟨c, rfl, hc, hwc⟩ := plainElem_int_inv Tryz.underlying3 hx
  cases hh : has D (litN f) with
  | false => exact .inr ⟨c, by rw [hrun, hh]⟩
  | true =>
    left
    obtain ⟨g, e, hg, hat⟩ := h2 _ hh
    have e2 := litN_inj e
    subst e2
    have hc1 := congrArg Prod.fst hc
    simp only at hc1
    rw [hat] at hc1
    rw [hrun, hh, lit_inj hc1]
end

section
open Go.RowKit Go.Maps Go.ChangeMaps Go.MapKept

theorem and_self_sub (a b : Nat) : subN (a &&& b) a := subN_of fun i hi => by
  rw [Nat.testBit_and, Bool.and_eq_true] at hi
  exact hi.1
theorem i64_andnot (a b : Nat) (ha : a < 9223372036854775808) (hb : b < 9223372036854775808) : bits .andNot .i64 (a : Int) (b : Int) = ((a - (a &&& b) : Nat) : Int) := by
  have key : (BitVec.ofInt 64 (a : Int) &&& ~~~ BitVec.ofInt 64 (b : Int)).toNat = a - (a &&& b) := by
    apply Nat.eq_of_testBit_eq
    intro i
    rw [sub_bit (and_self_sub a b), Nat.testBit_and]
    rw [BitVec.testBit_toNat, BitVec.getLsbD_and, BitVec.getLsbD_not, BitVec.ofInt_natCast, BitVec.ofInt_natCast, BitVec.getLsbD_ofNat, BitVec.getLsbD_ofNat]
    by_cases hi : i < 64
    · simp only [hi, decide_true, Bool.true_and]
      cases a.testBit i <;> cases b.testBit i <;> rfl
    · have h1 : a.testBit i = false := Nat.testBit_lt_two_pow (Nat.lt_of_lt_of_le ha (Nat.le_trans (by decide) (Nat.pow_le_pow_right (n := 2) (by decide) (show 63 ≤ i by omega))))
      simp [hi, h1]
  show IntKind.i64.wrap ((BitVec.ofInt 64 (a : Int) &&& ~~~ BitVec.ofInt 64 (b : Int)).toNat : Int) = _
  rw [key, IntKind.wrap_i64]
  omega
theorem andnot_sub {m f : Nat} (h : subB f m = true) (hm : m < 9223372036854775808) (hf : f < 9223372036854775808) : bits .andNot .i64 (m : Int) (f : Int) = 0 ∧ bits .andNot .i64 (f : Int) (m : Int) = ((f - m : Nat) : Int) := by
  have hs : m &&& f = m := by unfold subB at h; exact of_decide_eq_true h
  refine ⟨?_, ?_⟩
  · rw [i64_andnot _ _ hm hf, hs]
    simp
  · rw [i64_andnot _ _ hf hm, Nat.and_comm, hs]
theorem andnot_no {m f : Nat} (h : subB f m = false) (hm : m < 9223372036854775808) (hf : f < 9223372036854775808) : bits .andNot .i64 (m : Int) (f : Int) ≠ 0 := by
  have hs : m &&& f ≠ m := by unfold subB at h; exact of_decide_eq_false h
  rw [i64_andnot _ _ hm hf]
  have := @Nat.and_le_left m f
  omega

/-- All that the program keeps while it fills, in a world at hand. -/
structure FilOk (B : Nat) (w : World) (g mb : Nat) (rows : Nat → Value) (d : Nat → Bool) (L : Int) (Q : List Nat) : Prop where
  fil : FilAt w g rows d L mb
  grp : GrpAt B w g rows Q
  tz : Tz w
  ne : g ≠ mb
  tne : gDB ≠ mb
  off : ∀ k, k < 64 → (rows k).ownBlock ≠ some mb
theorem FilOk.but {B g mb : Nat} {w w' : World} {rows : Nat → Value} {d : Nat → Bool} {L : Int} {Q : List Nat} (h : FilOk B w g mb rows d L Q) (hk : But w.heap.size mb w w') : FilOk B w' g mb rows d L Q := by
  have hg := hk.grown
  refine ⟨h.fil.by hg (fun e => h.ne (Option.some.inj e)), h.grp.by hg (fun k hk2 b hb e => h.off k hk2 (by rw [hb]; exact e.symm)), ⟨fun j hj => ?_, Nat.lt_of_lt_of_le h.tz.2 hk.size⟩, h.ne, h.tne, h.off⟩
  rw [World.cell?_of_block (a := ⟨gDB, j, none⟩) (hk.block gDB h.tz.2 h.tne)]
  exact h.tz.1 j hj
theorem FilOk.on {B g mb : Nat} {w w' : World} {rows : Nat → Value} {d : Nat → Bool} {L : Int} {Q : List Nat} (h : FilOk B w g mb rows d L Q) (hk : Below w.heap.size w w') : FilOk B w' g mb rows d L Q := h.but (But.of_below hk)

set_option maxHeartbeats 2000000 in
set_option maxRecDepth 100000 in
theorem iCands (B g mb f : Nat) (rows : Nat → Value) (d : Nat → Bool) (L : Int) (Q : List Nat) (w : World) (h0 : f ≠ 0) (hf : f < 68719476736) (h : FilOk B w g mb rows d L Q) :
    Calls Tryz.prog 138 #[.pointer (some ⟨g, 0, none⟩), .int .i64 f] w fun e w' => e = .returned (rows (lowB f)) ∧ Below w.heap.size w w' := by
  have hlt := lowB_lt h0 (by omega)
  have c0 := h.fil.row (k := lowB f) hlt
  have HL := Lib.hid (fun W hT => iLow f (by omega) W hT)
  have HT := Lib.hid h.tz
  obtain ⟨low, hlow⟩ : ∃ low, lowB f = low := ⟨_, rfl⟩
  rw [hlow] at hlt c0 HL ⊢
  have hl0 : (0 : Int) ≤ (low : Int) := by omega
  have hl1 : (low : Int) < 64 := by omega
  obtain ⟨v, hv⟩ : ∃ v, rows low = v := ⟨_, rfl⟩
  rw [hv] at c0 ⊢
  have r0 := cell_regrown c0
  have kI : ∀ d os, Calls Tryz.prog 97 #[.int .i64 f] (Go.Sort.grow (redrawn w d) os) fun e w9 => e = .returned (.int .i64 low) ∧ Below (Go.Sort.grow (redrawn w d) os).heap.size (Go.Sort.grow (redrawn w d) os) w9 := fun d os =>
    (HL.out _ (HT.out.on (below_regrown w d os) HT.out.2)).mono fun e w9 ⟨he, hw⟩ => ⟨he, by rw [hw]; exact Below.refl _ _⟩
  clear hlow hv h
  go_enter Tryz.func138, Tryz.ntmps138
  go_wp2_with fail
  refine wp_region_quiet_below (by kernel_rfl) (by kernel_rfl) ?_
  repeat (first | (go_big_quiet_step (first | (go_at_call 97; with_reducible refine Calls.regrown_of (kI _ _)))) | (quiet_step (first | (go_at_call 97; with_reducible refine Calls.regrown_of (kI _ _)))))
  refine wpQuiet_nil ?_
  intro _ hw9
  obtain ⟨⟨nq, osq⟩, hw8⟩ := hw9
  subst hw8
  have hbz := below_regrown w nq osq
  generalize (Go.Sort.grow (redrawn w nq) osq) = w3 at *
  clear r0 kI c0
  go_wp2
  go_ret
  exact ⟨rfl, hbz⟩
end

end Go.Proofs.YtailmmamgnebhaaGreatDoor
