/-
  The counts that the program keeps: a map from sets of free places to numbers.
  The masks to try next, in the program: what the call gives; the operator &^.
  How many ways there are, counted by the program: what the call gives.
-/
import Derived.Test.YtkjlmgkjcmebbaaGreatDoorVar
import Derived.Maps.Ext
import Derived.Maps.OwnSet
import Derived.Lib.QuietBelow
namespace Go.Proofs.YtkjlmgkjcmebbaaGreatDoor

section
open Go.RowKit Go.Maps Go.ChangeMaps Go.MapKept

theorem int_law : Keyed Tryz.prog 3 := int_keyed Tryz.underlying3
def litN (f : Nat) : Lit := .int .i64 (f : Int)
def dN (c : Nat) : DataW Nat := .lit (.int .i64 (c : Int))
theorem lit_inj {a b : Int} (h : (DataW.lit (.int .i64 a) : DataW Nat) = .lit (.int .i64 b)) : a = b := by cases h; rfl
theorem litN_inj {a b : Nat} (h : litN a = litN b) : a = b := by
  unfold litN at h
  injection h with _ h
  omega
theorem wf_N {c : Nat} (h : c < 9223372036854775808) : (Lit.int .i64 (c : Int)).wf = true := by
  simp only [Lit.wf, Bool.and_eq_true, decide_eq_true_eq]
  constructor
  · have : (IntKind.i64.min : Int) ≤ 0 := by decide
    omega
  · have : IntKind.i64.max = (9223372036854775807 : Int) := by decide
    omega
theorem litN_key {f : Nat} (h : f < 9223372036854775808) : keyOf Tryz.prog 3 (.int .i64 (f : Int)) = some (litN f) := keyOf_int_mk Tryz.underlying3 (wf_N h)
theorem zero_int (w : World) : (zeroValue 3).run Tryz.prog w = .ok (.int .i64 0) w := by
  obtain ⟨i0, hi, hz0, hz1, hz2⟩ := info_parts info_int
  simp [zeroValue, typeInfo, hi, hz0]
/-- What is in the map as read: for sets of places, v of them. -/
def HasC (D : DataW Nat) (v : Nat → Nat) : Prop := ∀ k, has D k = true → ∃ f : Nat, k = litN f ∧ f < 68719476736 ∧ D.atKey k (.lit (.int .i64 0)) = dN (v f)
/-- Block mb is a map of counts. -/
def CntM (w : World) (mb : Nat) (v : Nat → Nat) : Prop := ∃ D : DataW Nat, w.ownsMap Tryz.prog 3 RI mb 68719476736 D ∧ HasC D v
theorem CntM.made {w : World} {mb : Nat} (h : w.ownsMap Tryz.prog 3 RI mb 0 (.map [])) (v : Nat → Nat) : CntM w mb v := ⟨_, h.mono (by omega), fun k hk => by simp [Maps.has] at hk⟩
theorem CntM.kept {w w' : World} {mb : Nat} {v : Nat → Nat} {row : Option Nat} (h : CntM w mb v) (hg : w.grownBy w' row) (hne : some mb ≠ row) : CntM w' mb v := by
  obtain ⟨D, h1, h2⟩ := h
  exact ⟨D, h1.kept hg hne, h2⟩
theorem CntM.on {w w' : World} {mb : Nat} {v : Nat → Nat} (h : CntM w mb v) (hb : Below w.heap.size w w') : CntM w' mb v := h.kept (grow_below hb none) (by simp)
theorem CntM.drew {w : World} {mb : Nat} {v : Nat → Nat} (h : CntM w mb v) : CntM w.drew mb v := h
theorem CntM.lt {w : World} {mb : Nat} {v : Nat → Nat} (h : CntM w mb v) : mb < w.heap.size := by
  obtain ⟨D, h1, h2⟩ := h
  exact h1.lt
theorem rise_len (N : Nat) : ∀ (es : List (Lit × DataW Nat)) (lo : Nat), es.Pairwise (fun p q => p.1.before q.1 = true) → (∀ p ∈ es, ∃ f : Nat, p.1 = litN f ∧ lo ≤ f ∧ f < N) → lo ≤ N → es.length + lo ≤ N
  | [], lo, _, _, h => by simpa using h
  | p :: r, lo, hp, hk, h => by
    obtain ⟨h1, h2⟩ := List.pairwise_cons.1 hp
    obtain ⟨f, e, hf, hN⟩ := hk p (by simp)
    have := rise_len N r (f + 1) h2 (fun q hq => by
      obtain ⟨g, e2, _, hg⟩ := hk q (by simp [hq])
      have hb := h1 q hq
      rw [e, e2] at hb
      unfold litN Lit.before at hb
      have hb2 : (f : Int) < (g : Int) := by simpa using hb
      exact ⟨g, e2, by omega, hg⟩) (by omega)
    simp only [List.length_cons]
    omega
theorem own_tight {w : World} {b n : Nat} {D : DataW Nat} (h : w.ownsMap Tryz.prog 3 RI b n D) {v : Nat → Nat} (hc : HasC D v) : w.ownsMap Tryz.prog 3 RI b 68719476736 D := by
  obtain ⟨es0, e0, hr, hk⟩ := h.canon int_law
  have hl : es0.length ≤ 68719476736 := by
    have := rise_len 68719476736 es0 0 hr (fun p hp => by
      have hh : has D p.1 = true := by rw [e0, has_eq]; exact List.any_eq_true.2 ⟨p, hp, WideAt.sameKey_self (hk p hp)⟩
      obtain ⟨f, e1, h1, _⟩ := hc p.1 hh
      exact ⟨f, e1, Nat.zero_le _, h1⟩) (by omega)
    simpa using this
  obtain ⟨es, clock, hb, F, hs, hD⟩ := h
  refine ⟨es, clock, hb, F, ?_, hD⟩
  rw [e0] at hD
  injection hD with hD
  rw [hD, length_sorted] at hl
  simpa using hl
/-- One count more. -/
theorem CntM.store {w : World} {mb : Nat} {v : Nat → Nat} (h : CntM w mb v) {f : Nat} (hf : f < 68719476736) (hv : v f < 9223372036854775808) :
    ∃ w', (Instr.mapUpdate 109 (.map (some mb)) (.int .i64 (f : Int)) (.int .i64 (v f : Nat))).run Tryz.prog w = .ok () w' ∧ CntM w' mb v ∧ w.grownBy w' (some mb) ∧
      (Instr.lookup 109 (.map (some mb)) (.int .i64 (f : Int)) false).run Tryz.prog w' = .ok (.int .i64 (v f : Nat)) w' := by
  obtain ⟨D, h1, h2⟩ := h
  have hkey := litN_key (show f < 9223372036854775808 by omega)
  obtain ⟨w', hrun, ho, hg⟩ := h1.update int_law Tryz.underlying109 (by unfold maxLen; omega) hkey (plainElem_int (H := Nat) Tryz.underlying3 (wf_N hv))
  have hc : HasC (D.put (litN f) (.lit (.int .i64 ((v f : Nat) : Int)))) v := by
    intro k hk
    by_cases e : k = litN f
    · subst e
      exact ⟨f, rfl, hf, atKey_put_same h1.isMap (int_law.key hkey) _ _⟩
    · rw [has_put_other e] at hk
      obtain ⟨g, e1, hg2, e2⟩ := h2 k hk
      exact ⟨g, e1, hg2, by rw [atKey_put_other e]; exact e2⟩
  refine ⟨w', hrun, ⟨_, own_tight ho hc, hc⟩, hg, ?_⟩
  obtain ⟨c, hrun2, hat, _⟩ := ho.lookup_int int_law Tryz.underlying109 Tryz.underlying3 (zero_int w') hkey
  rw [atKey_put_same h1.isMap (int_law.key hkey)] at hat
  rw [hrun2, ← lit_inj hat]
/-- A count looked up. -/
theorem CntM.look {w : World} {mb : Nat} {v : Nat → Nat} (h : CntM w mb v) {f : Nat} (hf : f < 68719476736) :
    (Instr.lookup 109 (.map (some mb)) (.int .i64 (f : Int)) true).run Tryz.prog w = .ok (.tuple #[.int .i64 (v f : Nat), .bool true]) w ∨
    ∃ c : Int, (Instr.lookup 109 (.map (some mb)) (.int .i64 (f : Int)) true).run Tryz.prog w = .ok (.tuple #[.int .i64 c, .bool false]) w := by
  obtain ⟨D, h1, h2⟩ := h
  have hkey := litN_key (show f < 9223372036854775808 by omega)
  have hw0 : (Lit.int .i64 0).wf = true := by decide
  obtain ⟨x, ps, hrun, hx⟩ := h1.look_ok int_law Tryz.underlying109 (zero_int w) (plainElem_int (H := Nat) Tryz.underlying3 hw0) hkey
  obtain ⟨c, rfl, hc, hwc⟩ := plainElem_int_inv Tryz.underlying3 hx
  cases hh : has D (litN f) with
  | false => exact .inr ⟨c, by rw [hrun, hh]⟩
  | true =>
    left
    obtain ⟨g, e, hg, hat⟩ := h2 _ hh
    have e2 := litN_inj e
    subst e2
    have hc1 := congrArg Prod.fst hc
    simp only at hc1
    rw [hat] at hc1
    rw [hrun, hh, lit_inj hc1]
end

section
open Go.RowKit Go.Maps Go.ChangeMaps Go.MapKept

theorem and_self_sub (a b : Nat) : subN (a &&& b) a := subN_of fun i hi => by
  rw [Nat.testBit_and, Bool.and_eq_true] at hi
  exact hi.1
theorem i64_andnot (a b : Nat) (ha : a < 9223372036854775808) (hb : b < 9223372036854775808) : bits .andNot .i64 (a : Int) (b : Int) = ((a - (a &&& b) : Nat) : Int) := by
  have key : (BitVec.ofInt 64 (a : Int) &&& ~~~ BitVec.ofInt 64 (b : Int)).toNat = a - (a &&& b) := by
    apply Nat.eq_of_testBit_eq
    intro i
    rw [sub_bit (and_self_sub a b), Nat.testBit_and]
    rw [BitVec.testBit_toNat, BitVec.getLsbD_and, BitVec.getLsbD_not, BitVec.ofInt_natCast, BitVec.ofInt_natCast, BitVec.getLsbD_ofNat, BitVec.getLsbD_ofNat]
    by_cases hi : i < 64
    · simp only [hi, decide_true, Bool.true_and]
      cases a.testBit i <;> cases b.testBit i <;> rfl
    · have h1 : a.testBit i = false := Nat.testBit_lt_two_pow (Nat.lt_of_lt_of_le ha (Nat.le_trans (by decide) (Nat.pow_le_pow_right (n := 2) (by decide) (show 63 ≤ i by omega))))
      simp [hi, h1]
  show IntKind.i64.wrap ((BitVec.ofInt 64 (a : Int) &&& ~~~ BitVec.ofInt 64 (b : Int)).toNat : Int) = _
  rw [key, IntKind.wrap_i64]
  omega
theorem andnot_sub {m f : Nat} (h : subB f m = true) (hm : m < 9223372036854775808) (hf : f < 9223372036854775808) : bits .andNot .i64 (m : Int) (f : Int) = 0 ∧ bits .andNot .i64 (f : Int) (m : Int) = ((f - m : Nat) : Int) := by
  have hs : m &&& f = m := by unfold subB at h; exact of_decide_eq_true h
  refine ⟨?_, ?_⟩
  · rw [i64_andnot _ _ hm hf, hs]
    simp
  · rw [i64_andnot _ _ hf hm, Nat.and_comm, hs]
theorem andnot_no {m f : Nat} (h : subB f m = false) (hm : m < 9223372036854775808) (hf : f < 9223372036854775808) : bits .andNot .i64 (m : Int) (f : Int) ≠ 0 := by
  have hs : m &&& f ≠ m := by unfold subB at h; exact of_decide_eq_false h
  rw [i64_andnot _ _ hm hf]
  have := @Nat.and_le_left m f
  omega

/-- All that the program keeps while it fills, in a world at hand. -/
structure FilOk (B : Nat) (w : World) (g mb : Nat) (rows : Nat → Value) (d : Nat → Bool) (L : Int) (Q : List Nat) : Prop where
  fil : FilAt w g rows d L mb
  grp : GrpAt B w g rows Q
  tz : Tz w
  ne : g ≠ mb
  tne : gDB ≠ mb
  off : ∀ k, k < 64 → (rows k).ownBlock ≠ some mb
theorem FilOk.but {B g mb : Nat} {w w' : World} {rows : Nat → Value} {d : Nat → Bool} {L : Int} {Q : List Nat} (h : FilOk B w g mb rows d L Q) (hk : But w.heap.size mb w w') : FilOk B w' g mb rows d L Q := by
  have hg := hk.grown
  refine ⟨h.fil.by hg (fun e => h.ne (Option.some.inj e)), h.grp.by hg (fun k hk2 b hb e => h.off k hk2 (by rw [hb]; exact e.symm)), ⟨fun j hj => ?_, Nat.lt_of_lt_of_le h.tz.2 hk.size⟩, h.ne, h.tne, h.off⟩
  rw [World.cell?_of_block (a := ⟨gDB, j, none⟩) (hk.block gDB h.tz.2 h.tne)]
  exact h.tz.1 j hj
theorem FilOk.on {B g mb : Nat} {w w' : World} {rows : Nat → Value} {d : Nat → Bool} {L : Int} {Q : List Nat} (h : FilOk B w g mb rows d L Q) (hk : Below w.heap.size w w') : FilOk B w' g mb rows d L Q := h.but (But.of_below hk)

set_option maxHeartbeats 2000000 in
set_option maxRecDepth 100000 in
theorem iCandsC (g f : Nat) (v : Value) (w : World) (h0 : f ≠ 0) (hf : f < 68719476736) (hT : Tz w) (hc : w.cell? ⟨g, lowB f, none⟩ = some v) :
    Calls Tryz.prog 95 #[.pointer (some ⟨g, 0, none⟩), .int .i64 f] w fun e w' => e = .returned v ∧ Below w.heap.size w w' := by
  have hlt := lowB_lt h0 (show f < 2 ^ 64 by omega)
  have HL := Lib.hid (fun W hT => iLow f (by omega) W hT)
  have HT := Lib.hid hT
  obtain ⟨low, hlow⟩ : ∃ low, lowB f = low := ⟨_, rfl⟩
  rw [hlow] at hlt hc HL
  have hl0 : (0 : Int) ≤ (low : Int) := by omega
  have hl1 : (low : Int) < 64 := by omega
  have r0 := cell_regrown hc
  have kI : ∀ d os, Calls Tryz.prog 66 #[.int .i64 f] (Go.Sort.grow (redrawn w d) os) fun e w9 => e = .returned (.int .i64 low) ∧ Below (Go.Sort.grow (redrawn w d) os).heap.size (Go.Sort.grow (redrawn w d) os) w9 := fun d os =>
    (HL.out _ (HT.out.on (below_regrown w d os) HT.out.2)).mono fun e w9 ⟨he, hw⟩ => ⟨he, by rw [hw]; exact Below.refl _ _⟩
  clear hlow hT
  go_enter Tryz.func95, Tryz.ntmps95
  go_wp2_with fail
  refine wp_region_quiet_below (by kernel_rfl) (by kernel_rfl) ?_
  repeat (first | (go_big_quiet_step (first | (go_at_call 66; with_reducible refine Calls.regrown_of (kI _ _)))) | (quiet_step (first | (go_at_call 66; with_reducible refine Calls.regrown_of (kI _ _)))))
  refine wpQuiet_nil ?_
  intro _ hw9
  obtain ⟨⟨nq, osq⟩, hw8⟩ := hw9
  subst hw8
  have hbz := below_regrown w nq osq
  generalize (Go.Sort.grow (redrawn w nq) osq) = w3 at *
  clear r0 kI hc
  go_wp2
  go_ret
  exact ⟨rfl, hbz⟩
theorem iCands (B g mb f : Nat) (rows : Nat → Value) (d : Nat → Bool) (L : Int) (Q : List Nat) (w : World) (h0 : f ≠ 0) (hf : f < 68719476736) (h : FilOk B w g mb rows d L Q) :
    Calls Tryz.prog 95 #[.pointer (some ⟨g, 0, none⟩), .int .i64 f] w fun e w' => e = .returned (rows (lowB f)) ∧ Below w.heap.size w w' :=
  iCandsC g f _ w h0 hf h.tz (h.fil.row (lowB_lt h0 (by omega)))
end

section
open Go.RowKit Go.Maps Go.ChangeMaps Go.MapKept

/-- What the program counts: no further than its limit. -/
def cutC (Q : List Nat) (L f : Nat) : Nat := min (cntR Q f) L
theorem cutC_zero (Q : List Nat) {L : Nat} (h : 1 ≤ L) : cutC Q L 0 = 1 := by unfold cutC; rw [cntR_zero]; omega
theorem cutC_le (Q : List Nat) (L f : Nat) : cutC Q L f ≤ L := Nat.min_le_right _ _
theorem own_sliceI {w : World} {base n : Nat} {v : Value} {xs : List Value} (h : w.ownsRow base 3 1 v n xs) : ∃ a cap, v = .slice a n cap := by
  rcases h.2 with ⟨rfl, h0⟩ | ⟨g, cap, cur, rfl, _⟩
  · subst h0; exact ⟨none, 0, rfl⟩
  · exact ⟨_, cap, rfl⟩
theorem ints_bd {Q : List Nat} (h : ∀ m ∈ Q, m < 68719476736) : ∀ z ∈ ints Q, In64 z := by
  intro z hz
  unfold ints at hz
  obtain ⟨m, hm, rfl⟩ := List.mem_map.1 hz
  have := h m hm
  unfold In64
  omega


set_option maxHeartbeats 8000000 in
set_option maxRecDepth 100000 in
theorem iCount (B g mb : Nat) (rows : Nat → Value) (d : Nat → Bool) (L : Nat) (Q : List Nat) (hL : 1 ≤ L) (hL2 : L ≤ 100000) (hQ : ∀ m ∈ Q, m ≠ 0 ∧ m < 68719476736) (hQl : Q.length ≤ 100000) (hd : SumTo Q d 65) :
    ∀ (F f : Nat), f ≤ F → f < 68719476736 → ∀ w, FilOk B w g mb rows d L Q → CntM w mb (cutC Q L) →
    Calls Tryz.prog 64 #[.pointer (some ⟨g, 0, none⟩), .int .i64 f] w fun e w' => e = .returned (.int .i64 (cutC Q L f : Nat)) ∧ CntM w' mb (cutC Q L) ∧ But w.heap.size mb w w' := by
  intro F
  induction F with
  | zero =>
    intro f hf0 hf w hF hM
    obtain rfl : f = 0 := by omega
    have HC := Lib.hid (cutC_zero Q hL)
    rw [HC.out]
    go_enter Tryz.func64, Tryz.ntmps64
    go_wp2
    go_ret
    exact ⟨rfl, hM, But.refl _ _ _⟩
  | succ F ih =>
    intro f hfF hf w hF hM
    by_cases h0 : f = 0
    · subst h0
      have HC := Lib.hid (cutC_zero Q hL)
      rw [HC.out]
      go_enter Tryz.func64, Tryz.ntmps64
      go_wp2
      go_ret
      exact ⟨rfl, hM, But.refl _ _ _⟩
    have hfz : ((f : Int) == 0) = false := by simp; omega
    have HIH := Lib.hid ih
    have HQ := Lib.hid hQ
    have HF := Lib.hid hF
    have HM := Lib.hid hM
    have HTG := Lib.hid (tilR_grp (fun m hm => (hQ m hm).1) h0 (show f < 2 ^ 64 by omega))
    clear ih
    have hp64 := pop_le f
    have HP := Lib.hid (fun W => iOnes f (by omega) W)
    have HSN := Lib.hid (fun h => sum_no hd (f := f) h)
    have c0 := hF.fil.sum (k := pop f) (by omega)
    obtain ⟨s, hs⟩ : ∃ s, pop f = s := ⟨_, rfl⟩
    rw [hs] at hp64 HP HSN c0
    have hs0 : (0 : Int) ≤ (s : Int) := by omega
    have hs1 : (s : Int) < 65 := by omega
    have hwf : IntKind.u64.wrap (f : Int) = (f : Int) := by rw [IntKind.wrap_u64]; omega
    have r0 := cell_regrown c0
    have kI : ∀ d os, Calls Tryz.prog 99 #[.int .u64 f] (Go.Sort.grow (redrawn w d) os) fun e w9 => e = .returned (.int .i64 s) ∧ Below (Go.Sort.grow (redrawn w d) os).heap.size (Go.Sort.grow (redrawn w d) os) w9 := fun d os =>
      (HP.out _).mono fun e w9 ⟨he, hw⟩ => ⟨he, by rw [hw]; exact Below.refl _ _⟩
    clear hs
    cases hds : d s with
    | false =>
      rw [hds] at r0
      have HZ := Lib.hid (show cutC Q L f = 0 from by unfold cutC; rw [HSN.out hds]; omega)
      rw [HZ.out]
      clear HSN hds
      go_enter Tryz.func64, Tryz.ntmps64
      go_wp2_with fail
      refine wp_region_quiet_below (by kernel_rfl) (by kernel_rfl) ?_
      repeat (first | (go_big_quiet_step (first | (go_at_call 99; with_reducible refine Calls.regrown_of (kI _ _)))) | (quiet_step (first | (go_at_call 99; with_reducible refine Calls.regrown_of (kI _ _)))))
      refine wpQuiet_nil ?_
      intro _ hw9
      obtain ⟨⟨nq, osq⟩, hw8⟩ := hw9
      subst hw8
      have hbz := below_regrown w nq osq
      generalize (Go.Sort.grow (redrawn w nq) osq) = w3 at *
      clear r0 kI c0
      go_wp2
      go_ret
      exact ⟨rfl, HM.out.on hbz, But.of_below hbz⟩
    | true =>
      rw [hds] at r0
      clear HSN hds
      go_enter Tryz.func64, Tryz.ntmps64
      go_wp2_with fail
      refine wp_region_quiet_below (by kernel_rfl) (by kernel_rfl) ?_
      repeat (first | (go_big_quiet_step (first | (go_at_call 99; with_reducible refine Calls.regrown_of (kI _ _)))) | (quiet_step (first | (go_at_call 99; with_reducible refine Calls.regrown_of (kI _ _)))))
      refine wpQuiet_nil ?_
      intro _ hw9
      obtain ⟨⟨nq, osq⟩, hw8⟩ := hw9
      subst hw8
      have hbz := below_regrown w nq osq
      generalize (Go.Sort.grow (redrawn w nq) osq) = w3 at *
      clear r0 kI c0
      have HB3 := Lib.hid (But.of_below (b := mb) hbz)
      have HF3 := Lib.hid (HF.out.on hbz)
      have HM3 := Lib.hid (HM.out.on hbz)
      have c3 := HF3.out.fil.map
      have hsz3 := hbz.size
      clear HM hbz
      rcases HM3.out.look hf with hlk | ⟨c, hlk⟩
      · go_wp2
        go_ret
        exact ⟨rfl, HM3.out, HB3.out⟩
      · go_wp2_with fail
        refine (iCands B g mb f rows d L Q w3 h0 hf HF3.out).mono ?_
        rintro e w4 ⟨rfl, hb4⟩
        have HB4 := Lib.hid (HB3.out.trans ((But.of_below (b := mb) hb4).mono hsz3))
        have HF4 := Lib.hid (HF3.out.on hb4)
        have HM4 := Lib.hid (HM3.out.on hb4)
        have hlow := lowB_lt h0 (show f < 2 ^ 64 by omega)
        obtain ⟨low, hlw⟩ : ∃ low, lowB f = low := ⟨_, rfl⟩
        rw [hlw] at hlow HTG ⊢
        have HLW := Lib.hid hlw
        obtain ⟨C, hC⟩ : ∃ C, grpB Q low = C := ⟨_, rfl⟩
        have HCQ := Lib.hid (show ∀ m ∈ C, m ∈ Q ∧ m ≠ 0 ∧ m < 68719476736 from by rw [← hC]; intro m hm; have h9 := (List.mem_filter.1 hm).1; exact ⟨h9, HQ.out m h9⟩)
        have hCl : C.length ≤ 100000 := by rw [← hC]; exact Nat.le_trans (grpB_len Q low) hQl
        have HOW := Lib.hid (fun W (h9 : FilOk B W g mb rows d L Q) => (show W.ownsRow B 3 1 (rows low) C.length (iv (ints C)) from by rw [← hC]; exact h9.grp.each low hlow))
        rw [hC] at HTG
        obtain ⟨n, hn⟩ : ∃ n, C.length = n := ⟨_, rfl⟩
        rw [hn] at hCl HTG HOW
        obtain ⟨a, cap, hv⟩ := own_sliceI (HOW.out w4 HF4.out)
        rw [hv] at HOW ⊢
        have HIN := Lib.hid (ints_bd fun m hm => (HCQ.out m hm).2.2)
        have hsz4 := HB4.out.size
        have HCE := Lib.hid hC
        have HFw := HF
        clear HB3 HF3 HM3 hb4 c3 hlk hlw hC hv
        go_wp2
        go_loopw [7, 38] (fun sv ix wr => ∃ i t : Nat, i ≤ n ∧ ix = .int .i64 (i : Int) ∧ sv = .int .i64 (t : Int) ∧ t ≤ 2 * L ∧ Hid (min t L = min (cntTo Q C (subB f) f i) L) ∧ Hid (CntM wr mb (cutC Q L)) ∧ But w.heap.size mb w wr) (fun _ ix _ => n - (intOf ix).toNat)
        case atStart => exact ⟨0, 0, by omega, rfl, rfl, by omega, rfl, HM4.out, HB4.out⟩
        case round =>
          clear HM4 HB4 HF4
          obtain ⟨i, t, hi, rfl, rfl, ht2, hrl, hcm, hbt⟩ := hrel
          have HFr := Lib.hid (FilOk.but HFw.out hbt)
          have c2 := HFr.out.fil.limit
          have c3 := HFr.out.fil.map
          by_cases hlt : i < n
          · have hi1 : (i : Int) < (n : Int) := by omega
            have hi0 : (0 : Int) ≤ (i : Int) := by omega
            obtain ⟨b9, o9, rfl, hb9, hc9⟩ := (IntsAt.of_own (HOW.out wr HFr.out) HIN.out).2.2 (by omega)
            have p1 := hc9 i hlt
            rw [ints_get] at p1
            have hm := HCQ.out (C.getD i 0) (getD_memN (by omega))
            have HCY := Lib.hid (cntTo_yes Q (C := C) (p := subB f) f (i := i) (by omega))
            have HCN := Lib.hid (cntTo_no Q (C := C) (p := subB f) f (i := i) (by omega))
            have HGF := Lib.hid (fun h => grp_fit (fun m hm => (HQ.out m hm).1) (f := f) (m := C.getD i 0) (by omega) (by rw [HLW.out, HCE.out]; exact getD_memN (by omega)) h)
            obtain ⟨m, hmm⟩ : ∃ m, C.getD i 0 = m := ⟨_, rfl⟩
            rw [hmm] at p1 hm HCY HCN HGF
            clear hc9 hmm
            by_cases htl : t < L
            · have htl1 : (t : Int) < (L : Int) := by omega
              cases hsb : subB f m with
              | true =>
                obtain ⟨k1, k2⟩ := andnot_sub hsb (show m < 9223372036854775808 by omega) (show f < 9223372036854775808 by omega)
                have hfs := fit_sub (HGF.out hsb)
                have HCS := Lib.hid (HCY.out hsb)
                have HR := Lib.hid (HIH.out (f - m) (by omega) (by omega) wr HFr.out hcm.out)
                have hcl := cutC_le Q L (f - m)
                have HCD := Lib.hid (show cutC Q L (f - m) = min (cntR Q (f - m)) L from rfl)
                obtain ⟨c, hcc⟩ : ∃ c, cutC Q L (f - m) = c := ⟨_, rfl⟩
                rw [hcc] at HR hcl HCD
                obtain ⟨fm, hfm⟩ : ∃ fm, f - m = fm := ⟨_, rfl⟩
                rw [hfm] at HR HCD HCS k2
                clear HCY HCN HGF hsb hcc hfm
                go_wp2_with fail
                refine HR.out.mono ?_
                rintro e w5 ⟨rfl, hcm5, hb5⟩
                have HB5 := Lib.hid (hbt.trans (hb5.mono hbt.size))
                have HM5 := Lib.hid hcm5
                have HL5 := Lib.hid (show min (t + c) L = min (cntTo Q C (subB f) f (i + 1)) L from by
                  have h1 := hrl.out
                  have h2 := HCS.out
                  have h3 := HCD.out
                  unfold Hid at *
                  rw [h2]
                  omega)
                clear hcm5 hb5 hrl HCS HCD HR hcm hbt c2 c3
                go_wp2
                go_roundw
                case rel => first
                  | exact ⟨i + 1, t + c, by omega, by go_num, by go_num, by omega, HL5.out, HM5.out, HB5.out⟩
                  | (repeat apply Exists.intro
                     exact ⟨⟨i + 1, t + c, by omega, by go_num, by go_num, by omega, HL5.out, HM5.out, HB5.out⟩, rfl⟩)
                case measure => simp [intOf]; omega
              | false =>
                have k1 := andnot_no hsb (show m < 9223372036854775808 by omega) (show f < 9223372036854775808 by omega)
                have k3 : (bits .andNot .i64 (m : Int) (f : Int) == 0) = false := by simpa using k1
                have HL5 := Lib.hid (show min t L = min (cntTo Q C (subB f) f (i + 1)) L from by rw [HCN.out hsb]; exact hrl.out)
                clear HCY HCN HGF hsb k1 hrl
                go_wp2
                go_roundw
                case rel => first
                  | exact ⟨i + 1, t, by omega, by go_num, rfl, ht2, HL5.out, hcm, hbt⟩
                  | (repeat apply Exists.intro
                     exact ⟨⟨i + 1, t, by omega, by go_num, rfl, ht2, HL5.out, hcm, hbt⟩, rfl⟩)
                case measure => simp [intOf]; omega
            · have htl1 : ¬ (t : Int) < (L : Int) := by omega
              have HL5 := Lib.hid (show min t L = min (cntTo Q C (subB f) f (i + 1)) L from by
                have h1 := hrl.out
                cases hsb : subB f m with
                | true => rw [HCY.out hsb]; omega
                | false => rw [HCN.out hsb]; exact h1)
              clear HCY HCN HGF hrl
              go_wp2
              go_roundw
              case rel => first
                | exact ⟨i + 1, t, by omega, by go_num, rfl, ht2, HL5.out, hcm, hbt⟩
                | (repeat apply Exists.intro
                   exact ⟨⟨i + 1, t, by omega, by go_num, rfl, ht2, HL5.out, hcm, hbt⟩, rfl⟩)
              case measure => simp [intOf]; omega
          · obtain rfl : i = n := by omega
            have HVF := Lib.hid (show min t L = cutC Q L f from by
              have h1 := hrl.out
              rw [h1]
              unfold cutC cntR cntTo
              rw [HTG.out])
            have hv63 : cutC Q L f < 9223372036854775808 := by have := cutC_le Q L f; omega
            obtain ⟨w7, hrun, hM7, hg7, hlk7⟩ := CntM.store (w := wr.drew) hcm.out hf hv63
            have HB7 := Lib.hid (hbt.drew.trans ((But.of_grown hg7 (Nat.le_refl _)).mono (by show _ ≤ wr.drew.heap.size; exact hbt.size)))
            have HF7 := Lib.hid (FilOk.but HFw.out HB7.out)
            have HM7 := Lib.hid hM7
            have c7 := HF7.out.fil.map
            obtain ⟨c, hcc⟩ : ∃ c, cutC Q L f = c := ⟨_, rfl⟩
            have HCF := Lib.hid hcc
            rw [hcc] at HVF hrun hlk7
            have hmn := HVF.out
            have hif : (if L < t then (L : Int) else (t : Int)) = (c : Int) := by split <;> omega
            clear hrl hv63 hM7 hcc HTG HIH hg7
            go_wp2_with fail
            go_region
            go_wp2
            go_ret
            exact ⟨by rw [HCF.out]; rfl, HM7.out, HB7.out⟩
end

end Go.Proofs.YtkjlmgkjcmebbaaGreatDoor
