/-
  The trace of a search, the plain facts: whole, in parts, counted; what a text of parentheses comes to.
-/
import Derived.Test.YtkjlmgkjcmebbaaPc4
namespace Go.Proofs.Ytkjlmgkjcmebbaa

/-! ### The trace, uncut -/
def trc (Q : List Nat) : Nat → Nat → List UInt8
  | 0, _ => []
  | k + 1, f => if f = 0 then [] else (Q.filter (fitB f)).flatMap fun m => 40 :: (trc Q k (f - m) ++ [41])
theorem trc_zero (Q : List Nat) (k : Nat) : trc Q k 0 = [] := by cases k <;> rfl
theorem trc_fuel (Q : List Nat) : ∀ k k' f, f ≤ k → f ≤ k' → trc Q k f = trc Q k' f
  | 0, k', f, h, _ => by
    have : f = 0 := by omega
    subst this
    rw [trc_zero, trc_zero]
  | k + 1, 0, f, _, h => by
    have : f = 0 := by omega
    subst this
    rw [trc_zero, trc_zero]
  | k + 1, k' + 1, f, h, h' => by
    unfold trc
    by_cases h0 : f = 0
    · rw [if_pos h0, if_pos h0]
    · rw [if_neg h0, if_neg h0]
      refine flat_same fun m hm => ?_
      have := fit_sub (List.mem_filter.1 hm).2
      rw [trc_fuel Q k k' (f - m) (by omega) (by omega)]
/-- The trace of the search that fills f. -/
def trR (Q : List Nat) (f : Nat) : List UInt8 := trc Q f f
theorem trR_zero (Q : List Nat) : trR Q 0 = [] := rfl
/-- The part of the trace that begins with masks of C. -/
def trS (Q C : List Nat) (f : Nat) : List UInt8 := C.flatMap fun m => 40 :: (trR Q (f - m) ++ [41])
theorem trR_step (Q : List Nat) {f : Nat} (h : f ≠ 0) : trR Q f = trS Q (Q.filter (fitB f)) f := by
  obtain ⟨k, rfl⟩ : ∃ k, f = k + 1 := ⟨f - 1, by omega⟩
  unfold trS trR
  show trc Q (k + 1) (k + 1) = _
  rw [trc, if_neg h]
  refine flat_same fun m hm => ?_
  have := fit_sub (List.mem_filter.1 hm).2
  rw [trc_fuel Q k (k + 1 - m) (k + 1 - m) (by omega) (Nat.le_refl _)]
theorem trS_app (Q C D : List Nat) (f : Nat) : trS Q (C ++ D) f = trS Q C f ++ trS Q D f := List.flatMap_append
theorem trS_one (Q : List Nat) (m f : Nat) : trS Q [m] f = 40 :: (trR Q (f - m) ++ [41]) := by
  unfold trS
  rw [List.flatMap_cons, List.flatMap_nil, List.append_nil]
def trTo (Q C : List Nat) (p : Nat → Bool) (f i : Nat) : List UInt8 := trS Q ((C.take i).filter p) f
theorem trTo_zero (Q C : List Nat) (p : Nat → Bool) (f : Nat) : trTo Q C p f 0 = [] := rfl
theorem trTo_yes (Q : List Nat) {C : List Nat} {p : Nat → Bool} (f : Nat) {i : Nat} (h : i < C.length) (hp : p (C.getD i 0) = true) : trTo Q C p f (i + 1) = trTo Q C p f i ++ 40 :: (trR Q (f - C.getD i 0) ++ [41]) := by
  unfold trTo
  rw [take_one h 0, List.filter_append, trS_app]
  congr 1
  rw [List.filter_cons, if_pos hp]
  exact trS_one _ _ _
theorem trTo_no (Q : List Nat) {C : List Nat} {p : Nat → Bool} (f : Nat) {i : Nat} (h : i < C.length) (hp : p (C.getD i 0) = false) : trTo Q C p f (i + 1) = trTo Q C p f i := by
  unfold trTo
  rw [take_one h 0, List.filter_append, trS_app]
  rw [List.filter_cons, if_neg (by rw [hp]; simp)]
  simp [trS]
theorem trTo_all (Q C : List Nat) (p : Nat → Bool) (f : Nat) : trTo Q C p f C.length = trS Q (C.filter p) f := by
  unfold trTo
  rw [List.take_length]
theorem trTo_pre (Q C : List Nat) (p : Nat → Bool) (f i : Nat) : ∃ t, trS Q (C.filter p) f = trTo Q C p f i ++ t := by
  refine ⟨trS Q ((C.drop i).filter p) f, ?_⟩
  unfold trTo
  rw [← trS_app, ← List.filter_append, List.take_append_drop]
theorem trR_all (Q : List Nat) {f : Nat} (h0 : f ≠ 0) : trR Q f = trTo Q Q (fitB f) f Q.length := by
  rw [trTo_all]
  exact trR_step Q h0
theorem trR_grp {Q : List Nat} (hQ : ∀ m ∈ Q, m ≠ 0) {f : Nat} (h0 : f ≠ 0) (hf : f < 2 ^ 64) : trR Q f = trTo Q (grpB Q (lowB f)) (subB f) f (grpB Q (lowB f)).length := by
  rw [trTo_all, grp_sub hQ hf]
  exact trR_step Q h0
theorem trR_pre (Q : List Nat) {f : Nat} (h0 : f ≠ 0) (i : Nat) : ∃ t, trR Q f = trTo Q Q (fitB f) f i ++ t := by
  rw [trR_step Q h0]
  exact trTo_pre Q Q (fitB f) f i
theorem cntR_pre (Q : List Nat) {f : Nat} (h0 : f ≠ 0) (i : Nat) : cntTo Q Q (fitB f) f i ≤ cntR Q f := by
  have h1 := cntTo_le Q Q (fitB f) f i
  unfold cntR
  rw [tilR_step Q h0]
  exact h1

/-! ### How many -/
theorem flat_even {g : Nat → List UInt8} : ∀ {l : List Nat}, (∀ x ∈ l, (g x).length % 2 = 0) → (l.flatMap g).length % 2 = 0
  | [], _ => rfl
  | x :: r, e => by
    have h1 := e x (by simp)
    have h2 := flat_even (g := g) (l := r) fun y hy => e y (by simp [hy])
    rw [List.flatMap_cons, List.length_append]
    omega
theorem trc_even (Q : List Nat) : ∀ k f, (trc Q k f).length % 2 = 0
  | 0, _ => rfl
  | k + 1, f => by
    unfold trc
    split
    · rfl
    · refine flat_even fun m _ => ?_
      have := trc_even Q k (f - m)
      simp only [List.length_cons, List.length_append, List.length_nil]
      omega
theorem trR_even (Q : List Nat) (f : Nat) : (trR Q f).length % 2 = 0 := trc_even Q f f
theorem trTo_even (Q C : List Nat) (p : Nat → Bool) (f i : Nat) : (trTo Q C p f i).length % 2 = 0 := by
  unfold trTo trS
  refine flat_even fun m _ => ?_
  have := trR_even Q (f - m)
  simp only [List.length_cons, List.length_append, List.length_nil]
  omega
/-- How many placements are tried. -/
def nodR (Q : List Nat) (f : Nat) : Nat := (trR Q f).length / 2
def nodTo (Q C : List Nat) (p : Nat → Bool) (f i : Nat) : Nat := (trTo Q C p f i).length / 2
theorem nodR_two (Q : List Nat) (f : Nat) : (trR Q f).length = 2 * nodR Q f := by have := trR_even Q f; unfold nodR; omega
theorem nodTo_zero (Q C : List Nat) (p : Nat → Bool) (f : Nat) : nodTo Q C p f 0 = 0 := by simp [nodTo, trTo_zero]
theorem nodR_zero (Q : List Nat) : nodR Q 0 = 0 := by simp [nodR, trR_zero]
theorem nodTo_yes (Q : List Nat) {C : List Nat} {p : Nat → Bool} (f : Nat) {i : Nat} (h : i < C.length) (hp : p (C.getD i 0) = true) : nodTo Q C p f (i + 1) = nodTo Q C p f i + 1 + nodR Q (f - C.getD i 0) := by
  have h1 := trTo_even Q C p f i
  have h2 := trR_even Q (f - C.getD i 0)
  unfold nodTo nodR
  rw [trTo_yes Q f h hp]
  simp only [List.length_cons, List.length_append, List.length_nil]
  omega
theorem nodTo_no (Q : List Nat) {C : List Nat} {p : Nat → Bool} (f : Nat) {i : Nat} (h : i < C.length) (hp : p (C.getD i 0) = false) : nodTo Q C p f (i + 1) = nodTo Q C p f i := by
  unfold nodTo
  rw [trTo_no Q f h hp]
theorem nodR_all (Q : List Nat) {f : Nat} (h0 : f ≠ 0) : nodR Q f = nodTo Q Q (fitB f) f Q.length := by
  unfold nodR nodTo
  rw [trR_all Q h0]
theorem nodR_pre (Q : List Nat) {f : Nat} (h0 : f ≠ 0) (i : Nat) : nodTo Q Q (fitB f) f i ≤ nodR Q f := by
  obtain ⟨t, h⟩ := trR_pre Q h0 i
  unfold nodR nodTo
  rw [h, List.length_append]
  omega

/-! ### A text of parentheses -/
/-- A string's bytes. -/
abbrev tbs (s : ByteArray) : List UInt8 := s.data.toList
theorem tbs_len (s : ByteArray) : (tbs s).length = s.size := by simp
theorem tbs_at (s : ByteArray) (k : Nat) (h : k < s.size) : (tbs s).getD k 0 = s[k] := by
  rw [List.getD_eq_getElem?_getD, List.getElem?_eq_getElem (by simpa using h)]
  rfl
theorem u8_is {x : UInt8} {k : Nat} (h : (x == UInt8.ofNat k) = true) (hk : k < 256) : ((x.toNat : Int) == (k : Int)) = true ∧ ((x.toNat : Int) != (k : Int)) = false := by
  have h1 : x = UInt8.ofNat k := by simpa using h
  subst h1
  rw [UInt8.toNat_ofNat', Nat.mod_eq_of_lt hk]
  simp
theorem u8_not {x : UInt8} {k : Nat} (h : (x == UInt8.ofNat k) = false) (hk : k < 256) : ((x.toNat : Int) == (k : Int)) = false ∧ ((x.toNat : Int) != (k : Int)) = true := by
  have key : (x.toNat : Int) ≠ (k : Int) := by
    intro e
    have h1 : x.toNat = k := by omega
    have h2 : x = UInt8.ofNat k := by
      apply UInt8.toNat_inj.1
      rw [UInt8.toNat_ofNat', Nat.mod_eq_of_lt hk]
      exact h1
    rw [h2] at h
    simp at h
  exact ⟨by simpa using key, by rw [bne_iff_ne]; exact key⟩
def stP (c : UInt8) (st : Nat × Nat × Nat) : Option (Nat × Nat × Nat) := if c = 40 then some (st.1 + 1, st.2.1 + 1, max st.2.2 (st.2.1 + 1)) else if c = 41 ∧ 0 < st.2.1 then some (st.1, st.2.1 - 1, st.2.2) else none
def runP : List UInt8 → Nat × Nat × Nat → Option (Nat × Nat × Nat)
  | [], st => some st
  | c :: s, st => (stP c st).bind (runP s)
theorem runP_app : ∀ (a b : List UInt8) (st : Nat × Nat × Nat), runP (a ++ b) st = (runP a st).bind (runP b)
  | [], _, _ => rfl
  | c :: a, b, st => by
    show (stP c st).bind (runP (a ++ b)) = ((stP c st).bind (runP a)).bind (runP b)
    cases stP c st with
    | none => rfl
    | some st' => exact runP_app a b st'
def parN (s : List UInt8) (i : Nat) : Option (Nat × Nat × Nat) := runP (s.take i) (0, 0, 0)
theorem parN_zero (s : List UInt8) : parN s 0 = some (0, 0, 0) := rfl
theorem parN_step {s : List UInt8} {i : Nat} (h : i < s.length) : parN s (i + 1) = (parN s i).bind (stP (s.getD i 0)) := by
  unfold parN
  rw [take_one h 0, runP_app]
  congr 1
  funext st
  show (stP _ st).bind (runP []) = _
  cases stP (s.getD i 0) st <;> rfl
theorem parN_none {s : List UInt8} {i : Nat} (h : parN s i = none) : runP s (0, 0, 0) = none := by
  rw [← List.take_append_drop i s, runP_app]
  unfold parN at h
  rw [h]
  rfl
theorem parN_some {s : List UInt8} {st : Nat × Nat × Nat} (h : runP s (0, 0, 0) = some st) (i : Nat) : ∃ st', parN s i = some st' := by
  cases e : parN s i with
  | none => rw [parN_none e] at h; cases h
  | some st' => exact ⟨st', rfl⟩
theorem parN_all (s : List UInt8) : parN s s.length = runP s (0, 0, 0) := by unfold parN; rw [List.take_length]
def StOk (st : Nat × Nat × Nat) : Prop := st.2.1 ≤ st.2.2 ∧ st.2.2 ≤ st.1
theorem stP_ok {c : UInt8} {st st' : Nat × Nat × Nat} (h : stP c st = some st') (hk : StOk st) : StOk st' ∧ st'.1 ≤ st.1 + 1 ∧ st.1 ≤ st'.1 := by
  unfold StOk at *
  unfold stP at h
  split at h
  · injection h with h
    subst h
    dsimp only
    omega
  · split at h
    · injection h with h
      subst h
      dsimp only
      omega
    · cases h
theorem parN_ok {s : List UInt8} : ∀ {i : Nat} {st : Nat × Nat × Nat}, parN s i = some st → i ≤ s.length → StOk st ∧ st.1 ≤ i
  | 0, st, h, _ => by
    rw [parN_zero] at h
    injection h with h
    subst h
    exact ⟨⟨by simp, by simp⟩, by simp⟩
  | i + 1, st, h, hi => by
    rw [parN_step (by omega)] at h
    cases e : parN s i with
    | none => rw [e] at h; cases h
    | some st0 =>
      rw [e] at h
      have h1 := parN_ok e (by omega)
      have h2 := stP_ok (st := st0) h h1.1
      exact ⟨h2.1, by omega⟩
/-- The number and the depth of a text of parentheses that match. -/
def parE (s : List UInt8) : Option (Nat × Nat) := (runP s (0, 0, 0)).bind fun st => if st.2.1 = 0 then some (st.1, st.2.2) else none
def sizT (s : List UInt8) : Int := match parE s with | some p => (p.1 : Int) | none => -1
def depT (s : List UInt8) : Int := match parE s with | some p => (p.2 : Int) | none => -1
theorem parE_none {s : List UInt8} (h : runP s (0, 0, 0) = none) : parE s = none := by unfold parE; rw [h]; rfl
theorem parE_of {s : List UInt8} {st : Nat × Nat × Nat} (h : runP s (0, 0, 0) = some st) : parE s = if st.2.1 = 0 then some (st.1, st.2.2) else none := by unfold parE; rw [h]; rfl
theorem siz_of {s : List UInt8} {p : Nat × Nat} (h : parE s = some p) : sizT s = (p.1 : Int) ∧ depT s = (p.2 : Int) := by unfold sizT depT; rw [h]; exact ⟨rfl, rfl⟩
theorem siz_no {s : List UInt8} (h : parE s = none) : sizT s = -1 ∧ depT s = -1 := by unfold sizT depT; rw [h]; exact ⟨rfl, rfl⟩
theorem siz_bd (s : List UInt8) : -1 ≤ sizT s ∧ sizT s ≤ s.length ∧ -1 ≤ depT s ∧ depT s ≤ sizT s ∧ (sizT s < 0 ↔ depT s < 0) := by
  cases e : parE s with
  | none =>
    obtain ⟨h1, h2⟩ := siz_no e
    rw [h1, h2]
    omega
  | some p =>
    obtain ⟨h1, h2⟩ := siz_of e
    rw [h1, h2]
    unfold parE at e
    cases er : runP s (0, 0, 0) with
    | none => rw [er] at e; cases e
    | some st =>
      rw [er] at e
      have e2 : (if st.2.1 = 0 then some (st.1, st.2.2) else none) = some p := e
      have h3 := parN_ok (by rw [parN_all]; exact er) (Nat.le_refl s.length)
      unfold StOk at h3
      split at e2
      · injection e2 with e2
        subst e2
        dsimp only
        omega
      · cases e2
/-- A text whose parentheses match, so many of them. -/
def Bal (t : List UInt8) (k : Nat) : Prop := t.length = 2 * k ∧ ∀ n o d, ∃ d', runP t (n, o, d) = some (n + k, o, d')
theorem Bal.nil : Bal [] 0 := ⟨rfl, fun _ _ d => ⟨d, rfl⟩⟩
theorem Bal.app {a b : List UInt8} {j k : Nat} (h : Bal a j) (g : Bal b k) : Bal (a ++ b) (j + k) := by
  refine ⟨by rw [List.length_append, h.1, g.1]; omega, fun n o d => ?_⟩
  obtain ⟨d1, e1⟩ := h.2 n o d
  obtain ⟨d2, e2⟩ := g.2 (n + j) o d1
  exact ⟨d2, by rw [runP_app, e1]; show runP b _ = _; rw [e2, Nat.add_assoc]⟩
theorem Bal.wrap {a : List UInt8} {k : Nat} (h : Bal a k) : Bal (40 :: (a ++ [41])) (k + 1) := by
  refine ⟨by simp only [List.length_cons, List.length_append, List.length_nil, h.1]; omega, fun n o d => ?_⟩
  obtain ⟨d1, e1⟩ := h.2 (n + 1) (o + 1) (max d (o + 1))
  refine ⟨d1, ?_⟩
  show (stP 40 (n, o, d)).bind (runP (a ++ [41])) = _
  have h40 : stP 40 (n, o, d) = some (n + 1, o + 1, max d (o + 1)) := rfl
  rw [h40]
  show runP (a ++ [41]) (n + 1, o + 1, max d (o + 1)) = _
  rw [runP_app, e1]
  show (stP 41 (n + 1 + k, o + 1, d1)).bind (runP []) = _
  have h41 : stP 41 (n + 1 + k, o + 1, d1) = some (n + 1 + k, o, d1) := by
    unfold stP
    rw [if_neg (by decide), if_pos ⟨rfl, by simp⟩]
    rfl
  rw [h41]
  show some (n + 1 + k, o, d1) = some (n + (k + 1), o, d1)
  rw [show n + 1 + k = n + (k + 1) by omega]
theorem bal_flat {g : Nat → List UInt8} : ∀ {l : List Nat}, (∀ x ∈ l, ∃ k, Bal (g x) k) → ∃ k, Bal (l.flatMap g) k
  | [], _ => ⟨0, Bal.nil⟩
  | x :: r, e => by
    obtain ⟨j, h1⟩ := e x (by simp)
    obtain ⟨k, h2⟩ := bal_flat (g := g) (l := r) fun y hy => e y (by simp [hy])
    rw [List.flatMap_cons]
    exact ⟨_, h1.app h2⟩
theorem trc_bal (Q : List Nat) : ∀ k f, ∃ j, Bal (trc Q k f) j
  | 0, _ => ⟨0, Bal.nil⟩
  | k + 1, f => by
    unfold trc
    split
    · exact ⟨0, Bal.nil⟩
    · refine bal_flat fun m _ => ?_
      obtain ⟨j, h⟩ := trc_bal Q k (f - m)
      exact ⟨_, h.wrap⟩
theorem trR_bal (Q : List Nat) (f : Nat) : Bal (trR Q f) (nodR Q f) := by
  obtain ⟨j, h⟩ := trc_bal Q f f
  have h1 : Bal (trR Q f) j := h
  have h2 : nodR Q f = j := by unfold nodR; rw [h1.1]; omega
  rw [h2]
  exact h1
theorem Bal.size {t : List UInt8} {k : Nat} (h : Bal t k) : sizT t = (k : Int) := by
  obtain ⟨d, e⟩ := h.2 0 0 0
  have h1 : parE t = some (0 + k, d) := by rw [parE_of e]; rfl
  rw [(siz_of h1).1]
  show ((0 + k : Nat) : Int) = _
  rw [Nat.zero_add]

/-! ### The search that stops behind so many placements -/
structure TrOk (Q : List Nat) (L f t : Nat) (s : List UInt8) (t' : Nat) (b : Bool) : Prop where
  cnt : t' = min (t + nodR Q f) L
  bal : ∃ k, Bal s k ∧ t + k = t'
  all : t + nodR Q f ≤ L → s = trR Q f ∧ b = decide (cntR Q f ≠ 0)
structure TrTo (Q C : List Nat) (L f i t : Nat) (s : List UInt8) (t' : Nat) (b : Bool) : Prop where
  cnt : t' = min (t + nodTo Q C (subB f) f i) L
  bal : ∃ k, Bal s k ∧ t + k = t'
  all : t + nodTo Q C (subB f) f i ≤ L → s = trTo Q C (subB f) f i ∧ b = decide (cntTo Q C (subB f) f i ≠ 0)
theorem TrOk.zero (Q : List Nat) {L t : Nat} (h : t ≤ L) : TrOk Q L 0 t [] t true :=
  ⟨by rw [nodR_zero]; omega, ⟨0, Bal.nil, rfl⟩, fun _ => ⟨rfl, by rw [cntR_zero]; rfl⟩⟩
theorem TrTo.start (Q C : List Nat) (f : Nat) {L t : Nat} (h : t ≤ L) : TrTo Q C L f 0 t [] t false :=
  ⟨by rw [nodTo_zero]; omega, ⟨0, Bal.nil, rfl⟩, fun _ => ⟨rfl, by rw [cntTo_zero]; rfl⟩⟩
section
variable {Q C : List Nat} {L f i t t' t1 : Nat} {s s1 : List UInt8} {b b1 : Bool}
theorem TrTo.le (h : TrTo Q C L f i t s t' b) : t' ≤ L := by have := h.cnt; omega
theorem TrOk.le (h : TrOk Q L f t s t' b) : t' ≤ L := by have := h.cnt; omega
theorem TrTo.yes (h : TrTo Q C L f i t s t' b) (hi : i < C.length) (hp : subB f (C.getD i 0) = true) (hl : t' < L) (g : TrOk Q L (f - C.getD i 0) (t' + 1) s1 t1 b1) :
    TrTo Q C L f (i + 1) t (s ++ 40 :: (s1 ++ [41])) t1 (b || b1) := by
  have e := nodTo_yes Q (C := C) (p := subB f) f hi hp
  have h1 := h.cnt
  have h2 := g.cnt
  refine ⟨by omega, ?_, fun hle => ?_⟩
  · obtain ⟨j, hj, hj2⟩ := h.bal
    obtain ⟨k, hk, hk2⟩ := g.bal
    exact ⟨j + (k + 1), hj.app hk.wrap, by omega⟩
  · obtain ⟨e1, e2⟩ := h.all (by omega)
    obtain ⟨e3, e4⟩ := g.all (by omega)
    refine ⟨by rw [trTo_yes Q f hi hp, e1, e3], ?_⟩
    rw [e2, e4, cntTo_yes Q f hi hp, Bool.eq_iff_iff]
    simp only [Bool.or_eq_true, decide_eq_true_eq]
    omega
theorem TrTo.no (h : TrTo Q C L f i t s t' b) (hi : i < C.length) (hp : t' < L → subB f (C.getD i 0) = false) : TrTo Q C L f (i + 1) t s t' b := by
  have h1 := h.cnt
  cases e : subB f (C.getD i 0) with
  | false =>
    have e1 := nodTo_no Q (C := C) (p := subB f) f hi e
    refine ⟨by rw [e1]; exact h1, h.bal, fun hle => ?_⟩
    rw [trTo_no Q f hi e, cntTo_no Q f hi e]
    exact h.all (by omega)
  | true =>
    have e1 := nodTo_yes Q (C := C) (p := subB f) f hi e
    have h2 : ¬ t' < L := fun h3 => by rw [hp h3] at e; cases e
    exact ⟨by omega, h.bal, fun hle => by omega⟩
theorem TrTo.done (h : TrTo Q (grpB Q (lowB f)) L f (grpB Q (lowB f)).length t s t' b) (hQ : ∀ m ∈ Q, m ≠ 0) (h0 : f ≠ 0) (hf : f < 2 ^ 64) : TrOk Q L f t s t' b := by
  have e1 := trR_grp hQ h0 hf
  have e2 : nodR Q f = nodTo Q (grpB Q (lowB f)) (subB f) f (grpB Q (lowB f)).length := by unfold nodR nodTo; rw [e1]
  have e3 : cntR Q f = cntTo Q (grpB Q (lowB f)) (subB f) f (grpB Q (lowB f)).length := by unfold cntR cntTo; rw [tilR_grp hQ h0 hf]
  exact ⟨by rw [e2]; exact h.cnt, h.bal, fun hle => by rw [e1, e3]; exact h.all (by rw [← e2]; exact hle)⟩
/-- What RefutationOf makes of it. -/
theorem TrOk.short (h : TrOk Q 1001 f 0 s t' b) : (b || decide (2000 < s.length)) = !(decide (cntR Q f = 0 ∧ (trR Q f).length ≤ 2000)) ∧ (cntR Q f = 0 ∧ (trR Q f).length ≤ 2000 → s = trR Q f) ∧ s.length ≤ 2002 := by
  obtain ⟨k, hk, hk2⟩ := h.bal
  have h1 := h.cnt
  have h2 := nodR_two Q f
  have h3 := hk.1
  have h4 := h.all
  by_cases hn : 0 + nodR Q f ≤ 1001
  · obtain ⟨e1, e2⟩ := h4 hn
    refine ⟨?_, fun _ => e1, by omega⟩
    rw [e2, e1, Bool.eq_iff_iff]
    simp only [Bool.or_eq_true, decide_eq_true_eq, Bool.not_eq_true', decide_eq_false_iff_not]
    omega
  · refine ⟨?_, fun h5 => by omega, by omega⟩
    have h5 : 2000 < s.length := by omega
    have h6 : ¬ (cntR Q f = 0 ∧ (trR Q f).length ≤ 2000) := by omega
    rw [decide_eq_true h5, decide_eq_false h6, Bool.or_true]
    rfl
theorem TrOk.nodes (h : TrOk Q 5000 f 0 s t' b) : sizT s = ((min (nodR Q f) 5000 : Nat) : Int) ∧ s.length ≤ 10000 := by
  obtain ⟨k, hk, hk2⟩ := h.bal
  have h1 := h.cnt
  have h3 := hk.1
  rw [hk.size]
  refine ⟨?_, by omega⟩
  congr 1
  omega
end

/-! ### What the calls give -/
def refT (W : Int) (l : List Int) (ps : List (List Cl)) : Option (List UInt8) :=
  if okT W l ps = true ∧ cntR (pQ W l ps) (maskR W l) = 0 ∧ (trR (pQ W l ps) (maskR W l)).length ≤ 2000 then some (trR (pQ W l ps) (maskR W l)) else none
theorem refT_no {W : Int} {l : List Int} {ps : List (List Cl)} (h : okT W l ps = false) : refT W l ps = none := if_neg (by rw [h]; simp)
theorem refT_yes {W : Int} {l : List Int} {ps : List (List Cl)} (h : okT W l ps = true) : refT W l ps = if cntR (pQ W l ps) (maskR W l) = 0 ∧ (trR (pQ W l ps) (maskR W l)).length ≤ 2000 then some (trR (pQ W l ps) (maskR W l)) else none := by
  unfold refT
  rw [h]
  simp
theorem refT_len (W : Int) (l : List Int) (ps : List (List Cl)) : ((refT W l ps).getD []).length ≤ 2000 := by
  unfold refT
  split
  · rename_i h; exact h.2.2
  · simp
def isRef (W : Int) (l : List Int) (ps : List (List Cl)) (s : List UInt8) : Bool := decide (refT W l ps = some s)
theorem isRef_eq (W : Int) (l : List Int) (ps : List (List Cl)) (s : List UInt8) : isRef W l ps s = ((refT W l ps).isSome && decide (s = (refT W l ps).getD [])) := by
  unfold isRef
  cases refT W l ps with
  | none => simp
  | some t =>
    rw [Bool.eq_iff_iff]
    simp [eq_comm]
def srcN (W : Int) (l : List Int) (ps : List (List Cl)) : Int := if okT W l ps = true then ((min (nodR (pQ W l ps) (maskR W l)) 5000 : Nat) : Int) else -1
theorem srcN_no {W : Int} {l : List Int} {ps : List (List Cl)} (h : okT W l ps = false) : srcN W l ps = -1 := if_neg (by rw [h]; simp)
theorem srcN_yes {W : Int} {l : List Int} {ps : List (List Cl)} (h : okT W l ps = true) : srcN W l ps = ((min (nodR (pQ W l ps) (maskR W l)) 5000 : Nat) : Int) := if_pos h
/-- What the law of traces asks. -/
theorem ref_says {W : Int} {l : List Int} {ps : List (List Cl)} {s : List UInt8} (h : isRef W l ps s = true) :
    (tilN W l ps 0).isSome = false ∧ 0 ≤ sizT s ∧ sizT s ≤ 5000 ∧ srcN W l ps = sizT s := by
  have e : refT W l ps = some s := by unfold isRef at h; exact of_decide_eq_true h
  unfold refT at e
  split at e
  · rename_i hk
    injection e with e
    have h1 := (trR_bal (pQ W l ps) (maskR W l)).size
    have h2 := nodR_two (pQ W l ps) (maskR W l)
    rw [e] at h1 h2
    have h3 := hk.2.2
    rw [e] at h3
    rw [srcN_yes hk.1, h1]
    refine ⟨?_, by omega, by omega, by omega⟩
    have h4 := tilN_yes (n := 0) hk.1 (by omega)
    rw [show ((0 : Nat) : Int) = 0 from rfl] at h4
    rw [h4]
    have h5 : tilR (pQ W l ps) (maskR W l) = [] := List.eq_nil_of_length_eq_zero hk.2.1
    rw [h5]
    rfl
  · cases e
end Go.Proofs.Ytkjlmgkjcmebbaa
