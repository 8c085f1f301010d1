/-
  The trace of a search, the plain facts: whole, in parts, counted; what a text of parentheses comes to.
  How many placements a search tries, in the model: what each call gives.
  The model's way to write a trace and to check one, the plain facts.
  The trace of a search without result, written by the model: what each call gives.
-/
import Derived.Test.YtkjlmgkjcmebbaaGreatDoorWan
import Derived.Test.YtkjlmgkjcmebbaaGreatDoorWao
namespace Go.Proofs.YtkjlmgkjcmebbaaGreatDoor

section
/-! ### The trace, uncut -/
def trc (Q : List Nat) : Nat → Nat → List UInt8
  | 0, _ => []
  | k + 1, f => if f = 0 then [] else (Q.filter (fitB f)).flatMap fun m => 40 :: (trc Q k (f - m) ++ [41])
theorem trc_zero (Q : List Nat) (k : Nat) : trc Q k 0 = [] := by cases k <;> rfl
theorem trc_fuel (Q : List Nat) : ∀ k k' f, f ≤ k → f ≤ k' → trc Q k f = trc Q k' f
  | 0, k', f, h, _ => by
    have : f = 0 := by omega
    subst this
    rw [trc_zero, trc_zero]
  | k + 1, 0, f, _, h => by
    have : f = 0 := by omega
    subst this
    rw [trc_zero, trc_zero]
  | k + 1, k' + 1, f, h, h' => by
    unfold trc
    by_cases h0 : f = 0
    · rw [if_pos h0, if_pos h0]
    · rw [if_neg h0, if_neg h0]
      refine flat_same fun m hm => ?_
      have := fit_sub (List.mem_filter.1 hm).2
      rw [trc_fuel Q k k' (f - m) (by omega) (by omega)]
/-- The trace of the search that fills f. -/
def trR (Q : List Nat) (f : Nat) : List UInt8 := trc Q f f
theorem trR_zero (Q : List Nat) : trR Q 0 = [] := rfl
/-- The part of the trace that begins with masks of C. -/
def trS (Q C : List Nat) (f : Nat) : List UInt8 := C.flatMap fun m => 40 :: (trR Q (f - m) ++ [41])
theorem trR_step (Q : List Nat) {f : Nat} (h : f ≠ 0) : trR Q f = trS Q (Q.filter (fitB f)) f := by
  obtain ⟨k, rfl⟩ : ∃ k, f = k + 1 := ⟨f - 1, by omega⟩
  unfold trS trR
  show trc Q (k + 1) (k + 1) = _
  rw [trc, if_neg h]
  refine flat_same fun m hm => ?_
  have := fit_sub (List.mem_filter.1 hm).2
  rw [trc_fuel Q k (k + 1 - m) (k + 1 - m) (by omega) (Nat.le_refl _)]
theorem trS_app (Q C D : List Nat) (f : Nat) : trS Q (C ++ D) f = trS Q C f ++ trS Q D f := List.flatMap_append
theorem trS_one (Q : List Nat) (m f : Nat) : trS Q [m] f = 40 :: (trR Q (f - m) ++ [41]) := by
  unfold trS
  rw [List.flatMap_cons, List.flatMap_nil, List.append_nil]
def trTo (Q C : List Nat) (p : Nat → Bool) (f i : Nat) : List UInt8 := trS Q ((C.take i).filter p) f
theorem trTo_zero (Q C : List Nat) (p : Nat → Bool) (f : Nat) : trTo Q C p f 0 = [] := rfl
theorem trTo_yes (Q : List Nat) {C : List Nat} {p : Nat → Bool} (f : Nat) {i : Nat} (h : i < C.length) (hp : p (C.getD i 0) = true) : trTo Q C p f (i + 1) = trTo Q C p f i ++ 40 :: (trR Q (f - C.getD i 0) ++ [41]) := by
  unfold trTo
  rw [take_one h 0, List.filter_append, trS_app]
  congr 1
  rw [List.filter_cons, if_pos hp]
  exact trS_one _ _ _
theorem trTo_no (Q : List Nat) {C : List Nat} {p : Nat → Bool} (f : Nat) {i : Nat} (h : i < C.length) (hp : p (C.getD i 0) = false) : trTo Q C p f (i + 1) = trTo Q C p f i := by
  unfold trTo
  rw [take_one h 0, List.filter_append, trS_app]
  rw [List.filter_cons, if_neg (by rw [hp]; simp)]
  simp [trS]
theorem trTo_all (Q C : List Nat) (p : Nat → Bool) (f : Nat) : trTo Q C p f C.length = trS Q (C.filter p) f := by
  unfold trTo
  rw [List.take_length]
theorem trTo_pre (Q C : List Nat) (p : Nat → Bool) (f i : Nat) : ∃ t, trS Q (C.filter p) f = trTo Q C p f i ++ t := by
  refine ⟨trS Q ((C.drop i).filter p) f, ?_⟩
  unfold trTo
  rw [← trS_app, ← List.filter_append, List.take_append_drop]
theorem trR_all (Q : List Nat) {f : Nat} (h0 : f ≠ 0) : trR Q f = trTo Q Q (fitB f) f Q.length := by
  rw [trTo_all]
  exact trR_step Q h0
theorem trR_grp {Q : List Nat} (hQ : ∀ m ∈ Q, m ≠ 0) {f : Nat} (h0 : f ≠ 0) (hf : f < 2 ^ 64) : trR Q f = trTo Q (grpB Q (lowB f)) (subB f) f (grpB Q (lowB f)).length := by
  rw [trTo_all, grp_sub hQ hf]
  exact trR_step Q h0
theorem trR_pre (Q : List Nat) {f : Nat} (h0 : f ≠ 0) (i : Nat) : ∃ t, trR Q f = trTo Q Q (fitB f) f i ++ t := by
  rw [trR_step Q h0]
  exact trTo_pre Q Q (fitB f) f i
theorem cntR_pre (Q : List Nat) {f : Nat} (h0 : f ≠ 0) (i : Nat) : cntTo Q Q (fitB f) f i ≤ cntR Q f := by
  have h1 := cntTo_le Q Q (fitB f) f i
  unfold cntR
  rw [tilR_step Q h0]
  exact h1

/-! ### How many -/
theorem flat_even {g : Nat → List UInt8} : ∀ {l : List Nat}, (∀ x ∈ l, (g x).length % 2 = 0) → (l.flatMap g).length % 2 = 0
  | [], _ => rfl
  | x :: r, e => by
    have h1 := e x (by simp)
    have h2 := flat_even (g := g) (l := r) fun y hy => e y (by simp [hy])
    rw [List.flatMap_cons, List.length_append]
    omega
theorem trc_even (Q : List Nat) : ∀ k f, (trc Q k f).length % 2 = 0
  | 0, _ => rfl
  | k + 1, f => by
    unfold trc
    split
    · rfl
    · refine flat_even fun m _ => ?_
      have := trc_even Q k (f - m)
      simp only [List.length_cons, List.length_append, List.length_nil]
      omega
theorem trR_even (Q : List Nat) (f : Nat) : (trR Q f).length % 2 = 0 := trc_even Q f f
theorem trTo_even (Q C : List Nat) (p : Nat → Bool) (f i : Nat) : (trTo Q C p f i).length % 2 = 0 := by
  unfold trTo trS
  refine flat_even fun m _ => ?_
  have := trR_even Q (f - m)
  simp only [List.length_cons, List.length_append, List.length_nil]
  omega
/-- How many placements are tried. -/
def nodR (Q : List Nat) (f : Nat) : Nat := (trR Q f).length / 2
def nodTo (Q C : List Nat) (p : Nat → Bool) (f i : Nat) : Nat := (trTo Q C p f i).length / 2
theorem nodR_two (Q : List Nat) (f : Nat) : (trR Q f).length = 2 * nodR Q f := by have := trR_even Q f; unfold nodR; omega
theorem nodTo_zero (Q C : List Nat) (p : Nat → Bool) (f : Nat) : nodTo Q C p f 0 = 0 := by simp [nodTo, trTo_zero]
theorem nodR_zero (Q : List Nat) : nodR Q 0 = 0 := by simp [nodR, trR_zero]
theorem nodTo_yes (Q : List Nat) {C : List Nat} {p : Nat → Bool} (f : Nat) {i : Nat} (h : i < C.length) (hp : p (C.getD i 0) = true) : nodTo Q C p f (i + 1) = nodTo Q C p f i + 1 + nodR Q (f - C.getD i 0) := by
  have h1 := trTo_even Q C p f i
  have h2 := trR_even Q (f - C.getD i 0)
  unfold nodTo nodR
  rw [trTo_yes Q f h hp]
  simp only [List.length_cons, List.length_append, List.length_nil]
  omega
theorem nodTo_no (Q : List Nat) {C : List Nat} {p : Nat → Bool} (f : Nat) {i : Nat} (h : i < C.length) (hp : p (C.getD i 0) = false) : nodTo Q C p f (i + 1) = nodTo Q C p f i := by
  unfold nodTo
  rw [trTo_no Q f h hp]
theorem nodR_all (Q : List Nat) {f : Nat} (h0 : f ≠ 0) : nodR Q f = nodTo Q Q (fitB f) f Q.length := by
  unfold nodR nodTo
  rw [trR_all Q h0]
theorem nodR_pre (Q : List Nat) {f : Nat} (h0 : f ≠ 0) (i : Nat) : nodTo Q Q (fitB f) f i ≤ nodR Q f := by
  obtain ⟨t, h⟩ := trR_pre Q h0 i
  unfold nodR nodTo
  rw [h, List.length_append]
  omega

/-! ### A text of parentheses -/
/-- A string's bytes. -/
abbrev tbs (s : ByteArray) : List UInt8 := s.data.toList
theorem tbs_len (s : ByteArray) : (tbs s).length = s.size := by simp
theorem tbs_at (s : ByteArray) (k : Nat) (h : k < s.size) : (tbs s).getD k 0 = s[k] := by
  rw [List.getD_eq_getElem?_getD, List.getElem?_eq_getElem (by simpa using h)]
  rfl
theorem u8_is {x : UInt8} {k : Nat} (h : (x == UInt8.ofNat k) = true) (hk : k < 256) : ((x.toNat : Int) == (k : Int)) = true ∧ ((x.toNat : Int) != (k : Int)) = false := by
  have h1 : x = UInt8.ofNat k := by simpa using h
  subst h1
  rw [UInt8.toNat_ofNat', Nat.mod_eq_of_lt hk]
  simp
theorem u8_not {x : UInt8} {k : Nat} (h : (x == UInt8.ofNat k) = false) (hk : k < 256) : ((x.toNat : Int) == (k : Int)) = false ∧ ((x.toNat : Int) != (k : Int)) = true := by
  have key : (x.toNat : Int) ≠ (k : Int) := by
    intro e
    have h1 : x.toNat = k := by omega
    have h2 : x = UInt8.ofNat k := by
      apply UInt8.toNat_inj.1
      rw [UInt8.toNat_ofNat', Nat.mod_eq_of_lt hk]
      exact h1
    rw [h2] at h
    simp at h
  exact ⟨by simpa using key, by rw [bne_iff_ne]; exact key⟩
def stP (c : UInt8) (st : Nat × Nat × Nat) : Option (Nat × Nat × Nat) := if c = 40 then some (st.1 + 1, st.2.1 + 1, max st.2.2 (st.2.1 + 1)) else if c = 41 ∧ 0 < st.2.1 then some (st.1, st.2.1 - 1, st.2.2) else none
def runP : List UInt8 → Nat × Nat × Nat → Option (Nat × Nat × Nat)
  | [], st => some st
  | c :: s, st => (stP c st).bind (runP s)
theorem runP_app : ∀ (a b : List UInt8) (st : Nat × Nat × Nat), runP (a ++ b) st = (runP a st).bind (runP b)
  | [], _, _ => rfl
  | c :: a, b, st => by
    show (stP c st).bind (runP (a ++ b)) = ((stP c st).bind (runP a)).bind (runP b)
    cases stP c st with
    | none => rfl
    | some st' => exact runP_app a b st'
def parN (s : List UInt8) (i : Nat) : Option (Nat × Nat × Nat) := runP (s.take i) (0, 0, 0)
theorem parN_zero (s : List UInt8) : parN s 0 = some (0, 0, 0) := rfl
theorem parN_step {s : List UInt8} {i : Nat} (h : i < s.length) : parN s (i + 1) = (parN s i).bind (stP (s.getD i 0)) := by
  unfold parN
  rw [take_one h 0, runP_app]
  congr 1
  funext st
  show (stP _ st).bind (runP []) = _
  cases stP (s.getD i 0) st <;> rfl
theorem parN_none {s : List UInt8} {i : Nat} (h : parN s i = none) : runP s (0, 0, 0) = none := by
  rw [← List.take_append_drop i s, runP_app]
  unfold parN at h
  rw [h]
  rfl
theorem parN_some {s : List UInt8} {st : Nat × Nat × Nat} (h : runP s (0, 0, 0) = some st) (i : Nat) : ∃ st', parN s i = some st' := by
  cases e : parN s i with
  | none => rw [parN_none e] at h; cases h
  | some st' => exact ⟨st', rfl⟩
theorem parN_all (s : List UInt8) : parN s s.length = runP s (0, 0, 0) := by unfold parN; rw [List.take_length]
def StOk (st : Nat × Nat × Nat) : Prop := st.2.1 ≤ st.2.2 ∧ st.2.2 ≤ st.1
theorem stP_ok {c : UInt8} {st st' : Nat × Nat × Nat} (h : stP c st = some st') (hk : StOk st) : StOk st' ∧ st'.1 ≤ st.1 + 1 ∧ st.1 ≤ st'.1 := by
  unfold StOk at *
  unfold stP at h
  split at h
  · injection h with h
    subst h
    dsimp only
    omega
  · split at h
    · injection h with h
      subst h
      dsimp only
      omega
    · cases h
theorem parN_ok {s : List UInt8} : ∀ {i : Nat} {st : Nat × Nat × Nat}, parN s i = some st → i ≤ s.length → StOk st ∧ st.1 ≤ i
  | 0, st, h, _ => by
    rw [parN_zero] at h
    injection h with h
    subst h
    exact ⟨⟨by simp, by simp⟩, by simp⟩
  | i + 1, st, h, hi => by
    rw [parN_step (by omega)] at h
    cases e : parN s i with
    | none => rw [e] at h; cases h
    | some st0 =>
      rw [e] at h
      have h1 := parN_ok e (by omega)
      have h2 := stP_ok (st := st0) h h1.1
      exact ⟨h2.1, by omega⟩
/-- The number and the depth of a text of parentheses that match. -/
def parE (s : List UInt8) : Option (Nat × Nat) := (runP s (0, 0, 0)).bind fun st => if st.2.1 = 0 then some (st.1, st.2.2) else none
def sizT (s : List UInt8) : Int := match parE s with | some p => (p.1 : Int) | none => -1
def depT (s : List UInt8) : Int := match parE s with | some p => (p.2 : Int) | none => -1
theorem parE_none {s : List UInt8} (h : runP s (0, 0, 0) = none) : parE s = none := by unfold parE; rw [h]; rfl
theorem parE_of {s : List UInt8} {st : Nat × Nat × Nat} (h : runP s (0, 0, 0) = some st) : parE s = if st.2.1 = 0 then some (st.1, st.2.2) else none := by unfold parE; rw [h]; rfl
theorem siz_of {s : List UInt8} {p : Nat × Nat} (h : parE s = some p) : sizT s = (p.1 : Int) ∧ depT s = (p.2 : Int) := by unfold sizT depT; rw [h]; exact ⟨rfl, rfl⟩
theorem siz_no {s : List UInt8} (h : parE s = none) : sizT s = -1 ∧ depT s = -1 := by unfold sizT depT; rw [h]; exact ⟨rfl, rfl⟩
theorem siz_bd (s : List UInt8) : -1 ≤ sizT s ∧ sizT s ≤ s.length ∧ -1 ≤ depT s ∧ depT s ≤ sizT s ∧ (sizT s < 0 ↔ depT s < 0) := by
  cases e : parE s with
  | none =>
    obtain ⟨h1, h2⟩ := siz_no e
    rw [h1, h2]
    omega
  | some p =>
    obtain ⟨h1, h2⟩ := siz_of e
    rw [h1, h2]
    unfold parE at e
    cases er : runP s (0, 0, 0) with
    | none => rw [er] at e; cases e
    | some st =>
      rw [er] at e
      have e2 : (if st.2.1 = 0 then some (st.1, st.2.2) else none) = some p := e
      have h3 := parN_ok (by rw [parN_all]; exact er) (Nat.le_refl s.length)
      unfold StOk at h3
      split at e2
      · injection e2 with e2
        subst e2
        dsimp only
        omega
      · cases e2
/-- A text whose parentheses match, so many of them. -/
def Bal (t : List UInt8) (k : Nat) : Prop := t.length = 2 * k ∧ ∀ n o d, ∃ d', runP t (n, o, d) = some (n + k, o, d')
theorem Bal.nil : Bal [] 0 := ⟨rfl, fun _ _ d => ⟨d, rfl⟩⟩
theorem Bal.app {a b : List UInt8} {j k : Nat} (h : Bal a j) (g : Bal b k) : Bal (a ++ b) (j + k) := by
  refine ⟨by rw [List.length_append, h.1, g.1]; omega, fun n o d => ?_⟩
  obtain ⟨d1, e1⟩ := h.2 n o d
  obtain ⟨d2, e2⟩ := g.2 (n + j) o d1
  exact ⟨d2, by rw [runP_app, e1]; show runP b _ = _; rw [e2, Nat.add_assoc]⟩
theorem Bal.wrap {a : List UInt8} {k : Nat} (h : Bal a k) : Bal (40 :: (a ++ [41])) (k + 1) := by
  refine ⟨by simp only [List.length_cons, List.length_append, List.length_nil, h.1]; omega, fun n o d => ?_⟩
  obtain ⟨d1, e1⟩ := h.2 (n + 1) (o + 1) (max d (o + 1))
  refine ⟨d1, ?_⟩
  show (stP 40 (n, o, d)).bind (runP (a ++ [41])) = _
  have h40 : stP 40 (n, o, d) = some (n + 1, o + 1, max d (o + 1)) := rfl
  rw [h40]
  show runP (a ++ [41]) (n + 1, o + 1, max d (o + 1)) = _
  rw [runP_app, e1]
  show (stP 41 (n + 1 + k, o + 1, d1)).bind (runP []) = _
  have h41 : stP 41 (n + 1 + k, o + 1, d1) = some (n + 1 + k, o, d1) := by
    unfold stP
    rw [if_neg (by decide), if_pos ⟨rfl, by simp⟩]
    rfl
  rw [h41]
  show some (n + 1 + k, o, d1) = some (n + (k + 1), o, d1)
  rw [show n + 1 + k = n + (k + 1) by omega]
theorem bal_flat {g : Nat → List UInt8} : ∀ {l : List Nat}, (∀ x ∈ l, ∃ k, Bal (g x) k) → ∃ k, Bal (l.flatMap g) k
  | [], _ => ⟨0, Bal.nil⟩
  | x :: r, e => by
    obtain ⟨j, h1⟩ := e x (by simp)
    obtain ⟨k, h2⟩ := bal_flat (g := g) (l := r) fun y hy => e y (by simp [hy])
    rw [List.flatMap_cons]
    exact ⟨_, h1.app h2⟩
theorem trc_bal (Q : List Nat) : ∀ k f, ∃ j, Bal (trc Q k f) j
  | 0, _ => ⟨0, Bal.nil⟩
  | k + 1, f => by
    unfold trc
    split
    · exact ⟨0, Bal.nil⟩
    · refine bal_flat fun m _ => ?_
      obtain ⟨j, h⟩ := trc_bal Q k (f - m)
      exact ⟨_, h.wrap⟩
theorem trR_bal (Q : List Nat) (f : Nat) : Bal (trR Q f) (nodR Q f) := by
  obtain ⟨j, h⟩ := trc_bal Q f f
  have h1 : Bal (trR Q f) j := h
  have h2 : nodR Q f = j := by unfold nodR; rw [h1.1]; omega
  rw [h2]
  exact h1
theorem Bal.size {t : List UInt8} {k : Nat} (h : Bal t k) : sizT t = (k : Int) := by
  obtain ⟨d, e⟩ := h.2 0 0 0
  have h1 : parE t = some (0 + k, d) := by rw [parE_of e]; rfl
  rw [(siz_of h1).1]
  show ((0 + k : Nat) : Int) = _
  rw [Nat.zero_add]

/-! ### The search that stops behind so many placements -/
structure TrOk (Q : List Nat) (L f t : Nat) (s : List UInt8) (t' : Nat) (b : Bool) : Prop where
  cnt : t' = min (t + nodR Q f) L
  bal : ∃ k, Bal s k ∧ t + k = t'
  all : t + nodR Q f ≤ L → s = trR Q f ∧ b = decide (cntR Q f ≠ 0)
structure TrTo (Q C : List Nat) (L f i t : Nat) (s : List UInt8) (t' : Nat) (b : Bool) : Prop where
  cnt : t' = min (t + nodTo Q C (subB f) f i) L
  bal : ∃ k, Bal s k ∧ t + k = t'
  all : t + nodTo Q C (subB f) f i ≤ L → s = trTo Q C (subB f) f i ∧ b = decide (cntTo Q C (subB f) f i ≠ 0)
theorem TrOk.zero (Q : List Nat) {L t : Nat} (h : t ≤ L) : TrOk Q L 0 t [] t true :=
  ⟨by rw [nodR_zero]; omega, ⟨0, Bal.nil, rfl⟩, fun _ => ⟨rfl, by rw [cntR_zero]; rfl⟩⟩
theorem TrTo.start (Q C : List Nat) (f : Nat) {L t : Nat} (h : t ≤ L) : TrTo Q C L f 0 t [] t false :=
  ⟨by rw [nodTo_zero]; omega, ⟨0, Bal.nil, rfl⟩, fun _ => ⟨rfl, by rw [cntTo_zero]; rfl⟩⟩
section
variable {Q C : List Nat} {L f i t t' t1 : Nat} {s s1 : List UInt8} {b b1 : Bool}
theorem TrTo.le (h : TrTo Q C L f i t s t' b) : t' ≤ L := by have := h.cnt; omega
theorem TrOk.le (h : TrOk Q L f t s t' b) : t' ≤ L := by have := h.cnt; omega
theorem TrTo.yes (h : TrTo Q C L f i t s t' b) (hi : i < C.length) (hp : subB f (C.getD i 0) = true) (hl : t' < L) (g : TrOk Q L (f - C.getD i 0) (t' + 1) s1 t1 b1) :
    TrTo Q C L f (i + 1) t (s ++ 40 :: (s1 ++ [41])) t1 (b || b1) := by
  have e := nodTo_yes Q (C := C) (p := subB f) f hi hp
  have h1 := h.cnt
  have h2 := g.cnt
  refine ⟨by omega, ?_, fun hle => ?_⟩
  · obtain ⟨j, hj, hj2⟩ := h.bal
    obtain ⟨k, hk, hk2⟩ := g.bal
    exact ⟨j + (k + 1), hj.app hk.wrap, by omega⟩
  · obtain ⟨e1, e2⟩ := h.all (by omega)
    obtain ⟨e3, e4⟩ := g.all (by omega)
    refine ⟨by rw [trTo_yes Q f hi hp, e1, e3], ?_⟩
    rw [e2, e4, cntTo_yes Q f hi hp, Bool.eq_iff_iff]
    simp only [Bool.or_eq_true, decide_eq_true_eq]
    omega
theorem TrTo.no (h : TrTo Q C L f i t s t' b) (hi : i < C.length) (hp : t' < L → subB f (C.getD i 0) = false) : TrTo Q C L f (i + 1) t s t' b := by
  have h1 := h.cnt
  cases e : subB f (C.getD i 0) with
  | false =>
    have e1 := nodTo_no Q (C := C) (p := subB f) f hi e
    refine ⟨by rw [e1]; exact h1, h.bal, fun hle => ?_⟩
    rw [trTo_no Q f hi e, cntTo_no Q f hi e]
    exact h.all (by omega)
  | true =>
    have e1 := nodTo_yes Q (C := C) (p := subB f) f hi e
    have h2 : ¬ t' < L := fun h3 => by rw [hp h3] at e; cases e
    exact ⟨by omega, h.bal, fun hle => by omega⟩
theorem TrTo.done (h : TrTo Q (grpB Q (lowB f)) L f (grpB Q (lowB f)).length t s t' b) (hQ : ∀ m ∈ Q, m ≠ 0) (h0 : f ≠ 0) (hf : f < 2 ^ 64) : TrOk Q L f t s t' b := by
  have e1 := trR_grp hQ h0 hf
  have e2 : nodR Q f = nodTo Q (grpB Q (lowB f)) (subB f) f (grpB Q (lowB f)).length := by unfold nodR nodTo; rw [e1]
  have e3 : cntR Q f = cntTo Q (grpB Q (lowB f)) (subB f) f (grpB Q (lowB f)).length := by unfold cntR cntTo; rw [tilR_grp hQ h0 hf]
  exact ⟨by rw [e2]; exact h.cnt, h.bal, fun hle => by rw [e1, e3]; exact h.all (by rw [← e2]; exact hle)⟩
/-- What RefutationOf makes of it. -/
theorem TrOk.short (h : TrOk Q 1001 f 0 s t' b) : (b || decide (2000 < s.length)) = !(decide (cntR Q f = 0 ∧ (trR Q f).length ≤ 2000)) ∧ (cntR Q f = 0 ∧ (trR Q f).length ≤ 2000 → s = trR Q f) ∧ s.length ≤ 2002 := by
  obtain ⟨k, hk, hk2⟩ := h.bal
  have h1 := h.cnt
  have h2 := nodR_two Q f
  have h3 := hk.1
  have h4 := h.all
  by_cases hn : 0 + nodR Q f ≤ 1001
  · obtain ⟨e1, e2⟩ := h4 hn
    refine ⟨?_, fun _ => e1, by omega⟩
    rw [e2, e1, Bool.eq_iff_iff]
    simp only [Bool.or_eq_true, decide_eq_true_eq, Bool.not_eq_true', decide_eq_false_iff_not]
    omega
  · refine ⟨?_, fun h5 => by omega, by omega⟩
    have h5 : 2000 < s.length := by omega
    have h6 : ¬ (cntR Q f = 0 ∧ (trR Q f).length ≤ 2000) := by omega
    rw [decide_eq_true h5, decide_eq_false h6, Bool.or_true]
    rfl
theorem TrOk.nodes (h : TrOk Q 5000 f 0 s t' b) : sizT s = ((min (nodR Q f) 5000 : Nat) : Int) ∧ s.length ≤ 10000 := by
  obtain ⟨k, hk, hk2⟩ := h.bal
  have h1 := h.cnt
  have h3 := hk.1
  rw [hk.size]
  refine ⟨?_, by omega⟩
  congr 1
  omega
end

/-! ### What the calls give -/
def refT (W : Int) (l : List Int) (ps : List (List Cl)) : Option (List UInt8) :=
  if okT W l ps = true ∧ cntR (pQ W l ps) (maskR W l) = 0 ∧ (trR (pQ W l ps) (maskR W l)).length ≤ 2000 then some (trR (pQ W l ps) (maskR W l)) else none
theorem refT_no {W : Int} {l : List Int} {ps : List (List Cl)} (h : okT W l ps = false) : refT W l ps = none := if_neg (by rw [h]; simp)
theorem refT_yes {W : Int} {l : List Int} {ps : List (List Cl)} (h : okT W l ps = true) : refT W l ps = if cntR (pQ W l ps) (maskR W l) = 0 ∧ (trR (pQ W l ps) (maskR W l)).length ≤ 2000 then some (trR (pQ W l ps) (maskR W l)) else none := by
  unfold refT
  rw [h]
  simp
theorem refT_len (W : Int) (l : List Int) (ps : List (List Cl)) : ((refT W l ps).getD []).length ≤ 2000 := by
  unfold refT
  split
  · rename_i h; exact h.2.2
  · simp
def isRef (W : Int) (l : List Int) (ps : List (List Cl)) (s : List UInt8) : Bool := decide (refT W l ps = some s)
theorem isRef_eq (W : Int) (l : List Int) (ps : List (List Cl)) (s : List UInt8) : isRef W l ps s = ((refT W l ps).isSome && decide (s = (refT W l ps).getD [])) := by
  unfold isRef
  cases refT W l ps with
  | none => simp
  | some t =>
    rw [Bool.eq_iff_iff]
    simp [eq_comm]
def srcN (W : Int) (l : List Int) (ps : List (List Cl)) : Int := if okT W l ps = true then ((min (nodR (pQ W l ps) (maskR W l)) 5000 : Nat) : Int) else -1
theorem srcN_no {W : Int} {l : List Int} {ps : List (List Cl)} (h : okT W l ps = false) : srcN W l ps = -1 := if_neg (by rw [h]; simp)
theorem srcN_yes {W : Int} {l : List Int} {ps : List (List Cl)} (h : okT W l ps = true) : srcN W l ps = ((min (nodR (pQ W l ps) (maskR W l)) 5000 : Nat) : Int) := if_pos h
/-- What the law of traces asks. -/
theorem ref_says {W : Int} {l : List Int} {ps : List (List Cl)} {s : List UInt8} (h : isRef W l ps s = true) :
    (tilN W l ps 0).isSome = false ∧ 0 ≤ sizT s ∧ sizT s ≤ 5000 ∧ srcN W l ps = sizT s := by
  have e : refT W l ps = some s := by unfold isRef at h; exact of_decide_eq_true h
  unfold refT at e
  split at e
  · rename_i hk
    injection e with e
    have h1 := (trR_bal (pQ W l ps) (maskR W l)).size
    have h2 := nodR_two (pQ W l ps) (maskR W l)
    rw [e] at h1 h2
    have h3 := hk.2.2
    rw [e] at h3
    rw [srcN_yes hk.1, h1]
    refine ⟨?_, by omega, by omega, by omega⟩
    have h4 := tilN_yes (n := 0) hk.1 (by omega)
    rw [show ((0 : Nat) : Int) = 0 from rfl] at h4
    rw [h4]
    have h5 : tilR (pQ W l ps) (maskR W l) = [] := List.eq_nil_of_length_eq_zero hk.2.1
    rw [h5]
    rfl
  · cases e
end

section
open Go.RowKit


theorem sLow0 (w : World) : Calls Tryz.prog 69 #[.int .i64 0] w fun e w' => e = .returned (.int .i64 0) ∧ Below w.heap.size w w' := by
  go_enter Tryz.func69, Tryz.ntmps69
  go_wp2
  refine wp_loop_rounds 1 ?_
  rw [rounds_succ]
  go_wp2
  go_ret
  exact ⟨rfl, Below.refl _ _⟩
set_option maxHeartbeats 4000000 in
set_option maxRecDepth 100000 in
theorem sNodes (n cap : Nat) (a : Option Addr) (Q : List Nat) (hn : n ≤ 100000) (hQ : ∀ m ∈ Q, m ≠ 0 ∧ m < 68719476736) :
    ∀ (F f : Nat), f ≤ F → f < 68719476736 → ∀ M : Nat, M ≤ 100000 → ∀ (B : Nat) (w : World), IntsAt B w a n (ints Q) → B ≤ w.heap.size →
    Calls Tryz.prog 79 #[.slice a n cap, .int .i64 f, .int .i64 M] w fun e w' => e = .returned (.int .i64 (min (nodR Q f) M : Nat)) ∧ Below w.heap.size w w' := by
  intro F
  have base : ∀ M : Nat, ∀ (B : Nat) (w : World), IntsAt B w a n (ints Q) → B ≤ w.heap.size →
      Calls Tryz.prog 79 #[.slice a n cap, .int .i64 0, .int .i64 M] w fun e w' => e = .returned (.int .i64 (min (nodR Q 0) M : Nat)) ∧ Below w.heap.size w w' := by
    intro M B w hc hB
    have HC := Lib.hid (show min (nodR Q 0) M = 0 from by rw [nodR_zero]; omega)
    rw [HC.out]
    clear hc hQ
    by_cases h9 : 0 < (n : Int)
    all_goals
      go_enter Tryz.func79, Tryz.ntmps79
      go_wp2_with fail
      refine (sLow0 w).mono ?_
      rintro e w1 ⟨rfl, hb1⟩
      go_wp2
      refine wp_loop_rounds 1 ?_
      rw [rounds_succ]
      go_wp2
      go_ret
      exact ⟨rfl, hb1⟩
  induction F with
  | zero =>
    intro f hf0 hf M hM2 B w hc hB
    obtain rfl : f = 0 := by omega
    exact base M B w hc hB
  | succ F ih =>
    intro f hfF hf M hM2 B w hc hB
    by_cases h0 : f = 0
    · subst h0
      exact base M B w hc hB
    clear base
    have hf0 : (0 : Int) < (f : Int) := by omega
    have HIH := Lib.hid ih
    have HQ := Lib.hid hQ
    have H := Lib.hid hc
    have hln := hc.1
    rw [ints_len] at hln
    have HTA := Lib.hid (nodR_all Q h0)
    have HPR := Lib.hid (nodR_pre Q h0)
    have hlow := lowB_lt h0 (show f < 2 ^ 64 by omega)
    have HSL := Lib.hid (fun W => sLow f h0 (show f < 9223372036854775808 by omega) W)
    obtain ⟨low, hlw⟩ : ∃ low, lowB f = low := ⟨_, rfl⟩
    have HFI := Lib.hid (fun m => fit_is (m := m) hlw)
    rw [hlw] at hlow HSL
    clear ih hc hlw
    have hl0 : (0 : Int) ≤ (low : Int) := by omega
    go_enter Tryz.func79, Tryz.ntmps79
    go_wp2_with fail
    refine (HSL.out w).mono ?_
    rintro e w1 ⟨rfl, hb1⟩
    have HB1 := Lib.hid hb1
    clear hb1
    go_wp2
    go_loopw [7, 9] (fun tv ix wr => ∃ i t : Nat, i ≤ n ∧ ix = .int .i64 (i : Int) ∧ tv = .int .i64 (t : Int) ∧ t ≤ M ∧ Hid (t = min (nodTo Q Q (fitB f) f i) M) ∧ Below w.heap.size w wr) (fun _ ix _ => n - (intOf ix).toNat)
    case atStart => exact ⟨0, 0, by omega, rfl, rfl, by omega, by rw [nodTo_zero]; simp [Hid], HB1.out⟩
    case round =>
      clear HB1
      obtain ⟨i, t, hi, rfl, rfl, ht, hrl, hb⟩ := hrel
      by_cases hlt : i < n
      · have hi1 : (i : Int) < (n : Int) := by omega
        have hi0 : (0 : Int) ≤ (i : Int) := by omega
        by_cases htM : t < M
        · have htM1 : (t : Int) < (M : Int) := by omega
          obtain ⟨b9, o9, rfl, hb9, hc9⟩ := (H.out.on (hb.mono hB)).2.2 (by omega)
          have p1 := hc9 i hlt
          rw [ints_get] at p1
          have hm := HQ.out (Q.getD i 0) (getD_memN (by omega))
          have HCY := Lib.hid (nodTo_yes Q (C := Q) (p := fitB f) f (i := i) (by omega))
          have HCN := Lib.hid (nodTo_no Q (C := Q) (p := fitB f) f (i := i) (by omega))
          have HFM := Lib.hid (HFI.out (Q.getD i 0))
          have HFS := Lib.hid (fun h => fit_sub (f := f) (m := Q.getD i 0) h)
          obtain ⟨m, hmm⟩ : ∃ m, Q.getD i 0 = m := ⟨_, rfl⟩
          rw [hmm] at p1 hm HCY HCN HFM HFS
          clear hc9 hmm
          obtain ⟨u, hu⟩ : ∃ u : Nat, m / 2 ^ low = u := ⟨_, rfl⟩
          have hdiv : (m : Int) / (2 : Int) ^ low = (u : Int) := by rw [← hu]; simp
          have hum : u ≤ m := by rw [← hu]; exact Nat.div_le_self _ _
          have hand := bit_val (m := m) low (by omega)
          rw [hu] at hand
          clear hu
          cases htb : m.testBit low with
          | false =>
            rw [htb] at hand
            have hand1 : bits .and .i64 (u : Int) 1 = 0 := hand
            have HL5 := Lib.hid (show t = min (nodTo Q Q (fitB f) f (i + 1)) M from by rw [HCN.out (by rw [HFM.out, htb]; rfl)]; exact hrl.out)
            clear HCY HCN HFM HFS hand htb hrl
            go_wp2_with fail
            go_quiet (fail)
            go_wp2
            go_roundw
            case rel => first
              | exact ⟨i + 1, t, by omega, by go_num, rfl, ht, HL5.out, below_drewn hb _⟩
              | (repeat apply Exists.intro
                 exact ⟨⟨i + 1, t, by omega, by go_num, rfl, ht, HL5.out, below_drewn hb _⟩, rfl⟩)
            case measure => first | (simp [intOf]; done) | (simp [intOf]; omega)
          | true =>
            rw [htb] at hand
            have hand1 : bits .and .i64 (u : Int) 1 = 1 := hand
            have hmf := i64_and_nat m f (by omega) (by omega)
            by_cases hsb : m &&& f = m
            · rw [hsb] at hmf
              have e3 : ((m : Int) == (m : Int)) = true := by simp
              have hfit : fitB f m = true := by rw [HFM.out, htb, hsb]; simp
              have hfs := HFS.out hfit
              have HCS := Lib.hid (HCY.out hfit)
              obtain ⟨fm, hfm⟩ : ∃ fm, f - m = fm := ⟨_, rfl⟩
              obtain ⟨r, hr⟩ : ∃ r, M - t - 1 = r := ⟨_, rfl⟩
              have hfm1 : (f : Int) - (m : Int) = (fm : Int) := by omega
              obtain ⟨r1, hr9⟩ : ∃ r1, M - t = r1 := ⟨_, rfl⟩
              have hr1 : (M : Int) - (t : Int) = (r1 : Int) := by omega
              have hr2 : (r1 : Int) - 1 = (r : Int) := by omega
              rw [hfm] at HCS hfs
              have HR := Lib.hid (fun v9 (h9 : Below w.heap.size w v9) => HIH.out fm (by omega) (by omega) r (by omega) B v9 (H.out.on (h9.mono hB)) (Nat.le_trans hB h9.size))
              obtain ⟨c, hcc⟩ : ∃ c, min (nodR Q fm) r = c := ⟨_, rfl⟩
              rw [hcc] at HR
              have HCC := Lib.hid hcc
              have hcr : c ≤ r := by omega
              have htr : r + t + 1 = M := by omega
              clear HCY HCN HFM HFS hand htb hfit hsb hcc hr9
              go_wp2_with fail
              go_quiet (fail)
              go_wp2_with fail
              refine (HR.out _ (below_drewn hb _)).mono ?_
              rintro e w5 ⟨rfl, hb5⟩
              have HB5 := Lib.hid ((below_drewn hb _).trans (hb5.mono (below_drewn hb _).size))
              have HL5 := Lib.hid (show t + 1 + c = min (nodTo Q Q (fitB f) f (i + 1)) M from by
                have h1 := hrl.out
                have h2 := HCS.out
                have h3 := HCC.out
                unfold Hid at *
                rw [h2]
                omega)
              clear hb5 hrl HCS HCC HR hb
              go_wp2
              go_roundw
              case rel => first
                | exact ⟨i + 1, t + 1 + c, by omega, by go_num, by go_num, by omega, HL5.out, HB5.out⟩
                | (repeat apply Exists.intro
                   exact ⟨⟨i + 1, t + 1 + c, by omega, by go_num, by go_num, by omega, HL5.out, HB5.out⟩, rfl⟩)
              case measure => first | (simp [intOf]; done) | (simp [intOf]; omega)
            · obtain ⟨mf, hmf2⟩ : ∃ mf, m &&& f = mf := ⟨_, rfl⟩
              have HL5 := Lib.hid (show t = min (nodTo Q Q (fitB f) f (i + 1)) M from by rw [HCN.out (by rw [HFM.out, htb, decide_eq_false hsb]; rfl)]; exact hrl.out)
              rw [hmf2] at hmf hsb
              have e3 : ((mf : Int) == (m : Int)) = false := by simp; omega
              clear HCY HCN HFM HFS hand htb hrl hsb hmf2
              go_wp2_with fail
              go_quiet (fail)
              go_wp2
              go_roundw
              case rel => first
                | exact ⟨i + 1, t, by omega, by go_num, rfl, ht, HL5.out, below_drewn hb _⟩
                | (repeat apply Exists.intro
                   exact ⟨⟨i + 1, t, by omega, by go_num, rfl, ht, HL5.out, below_drewn hb _⟩, rfl⟩)
              case measure => first | (simp [intOf]; done) | (simp [intOf]; omega)
        · obtain rfl : t = M := by omega
          have HR := Lib.hid (show min (nodR Q f) t = t from by
            have h1 := hrl.out
            unfold Hid at h1
            have h2 := HPR.out i
            omega)
          clear hrl
          go_wp2
          go_ret
          exact ⟨by rw [HR.out]; rfl, hb⟩
      · obtain rfl : i = n := by omega
        have HR := Lib.hid (show min (nodR Q f) M = t from by
          have h1 := hrl.out
          unfold Hid at h1
          have h3 : nodR Q f = nodTo Q Q (fitB f) f i := by rw [HTA.out, hln]
          omega)
        clear hrl
        go_wp2
        go_ret
        exact ⟨by rw [HR.out]; rfl, hb⟩
theorem sNodesP (W : Int) (l : List Int) (ps : List (List Cl)) (M : Nat) (hM2 : M ≤ 100000) (V V1 V2 : World) (v : Value)
    (ho : V1.ownsRow V.heap.size 3 1 v (apR W l ps).length (iv (apR W l ps))) (hb : Below V1.heap.size V1 V2) :
    Calls Tryz.prog 79 #[v, .int .i64 (maskR W l : Nat), .int .i64 M] V2 fun e w' => e = .returned (.int .i64 (min (nodR (pQ W l ps) (maskR W l)) M : Nat)) ∧ Below V2.heap.size V2 w' := by
  obtain ⟨a, cap, rfl, h1, h2⟩ := own_intsQ ho
  exact sNodes _ cap a (pQ W l ps) h1 (pQ_ok W l ps) (maskR W l) (maskR W l) (Nat.le_refl _) (maskR_lt W l) M hM2 V1.heap.size V2 (h2.on hb) hb.size

set_option maxHeartbeats 4000000 in
set_option maxRecDepth 100000 in
theorem sSrch (B n cap m2 cap2 : Nat) (a a2 : Option Addr) (W : Int) (l : List Int) (ps : List (List Cl)) (w : World) (hn : n ≤ 4194304) (hm : m2 ≤ 1048576) (hc : IntsAt B w a n l) (hd : PsAt B w a2 m2 ps) (hB : B ≤ w.heap.size) :
    Calls Tryz.prog 36 #[.agg #[.int .i64 W, .slice a n cap], .slice a2 m2 cap2] w fun e w' => e = .returned (.int .i64 (srcN W l ps)) ∧ Below w.heap.size w w' := by
  have H := Lib.hid hc
  have HD := Lib.hid hd
  clear hc hd
  have hb0 := (Below.refl w.heap.size w).alloc (Nat.le_refl _) (.cells #[.int .i64 W, .slice a n cap] 26)
  have hbox0 := RgAt.new (w := w) W (.slice a n cap) rfl
  have hsz0 : (w.alloc (.cells #[.int .i64 W, .slice a n cap] 26)).heap.size = w.heap.size + 1 := by simp
  cases h1 : isReg W l with
  | false =>
    have HI := Lib.hid h1
    have HO := Lib.hid (srcN_no (ps := ps) (show okT W l ps = false from by unfold okT; rw [h1]; rfl))
    rw [HO.out]
    clear h1
    go_enter Tryz.func36, Tryz.ntmps36
    go_wp2_with fail
    refine (sIsReg B n cap a W l _ hn (H.out.on (hb0.mono hB)) (Nat.le_trans hB hb0.size)).mono ?_
    rintro e w' ⟨rfl, hb⟩
    rw [HI.out]
    go_wp2
    go_ret
    exact ⟨rfl, hb0.trans (hb.mono hb0.size)⟩
  | true =>
    have HI := Lib.hid h1
    cases h2 : arePc ps with
    | false =>
      have HP := Lib.hid h2
      have HO := Lib.hid (srcN_no (W := W) (l := l) (show okT W l ps = false from by unfold okT; rw [h1, h2]; rfl))
      rw [HO.out]
      clear h1 h2
      go_enter Tryz.func36, Tryz.ntmps36
      go_wp2_with fail
      refine (sIsReg B n cap a W l _ hn (H.out.on (hb0.mono hB)) (Nat.le_trans hB hb0.size)).mono ?_
      rintro e w1 ⟨rfl, hb⟩
      rw [HI.out]
      have HB1 := Lib.hid (hb0.trans (hb.mono hb0.size))
      clear hb hb0
      go_wp2_with fail
      refine (sArePc B m2 cap2 a2 ps w1 (by omega) (HD.out.on (HB1.out.mono hB)) (Nat.le_trans hB HB1.out.size)).mono ?_
      rintro e w2 ⟨rfl, hb2⟩
      rw [HP.out]
      go_wp2
      go_ret
      exact ⟨rfl, HB1.out.trans (hb2.mono HB1.out.size)⟩
    | true =>
      have HP := Lib.hid h2
      have HO := Lib.hid (srcN_yes (show okT W l ps = true from by unfold okT; rw [h1, h2]; rfl))
      rw [HO.out]
      have HQN := Lib.hid (fun (V V1 V2 : World) (v : Value) ho hb => sNodesP W l ps 5000 (by omega) V V1 V2 v ho hb)
      have hz5 : min (nodR (pQ W l ps) (maskR W l)) 5000 ≤ 5000 := Nat.min_le_right _ _
      obtain ⟨z, hz⟩ : ∃ z, min (nodR (pQ W l ps) (maskR W l)) 5000 = z := ⟨_, rfl⟩
      rw [hz] at HQN hz5 ⊢
      clear hz
      have hzi : (if (z : Int) < 5000 then (z : Int) else 5000) = (z : Int) := by split <;> omega
      clear h1 h2
      go_enter Tryz.func36, Tryz.ntmps36
      go_wp2_with fail
      refine (sIsReg B n cap a W l _ hn (H.out.on (hb0.mono hB)) (Nat.le_trans hB hb0.size)).mono ?_
      rintro e w1 ⟨rfl, hb⟩
      rw [HI.out]
      have HB1 := Lib.hid (hb0.trans (hb.mono hb0.size))
      have HX1 := Lib.hid (hbox0.on hb hbox0.lt)
      clear hb hb0 hbox0 hsz0
      go_wp2_with fail
      refine (sArePc B m2 cap2 a2 ps w1 (by omega) (HD.out.on (HB1.out.mono hB)) (Nat.le_trans hB HB1.out.size)).mono ?_
      rintro e vb ⟨rfl, hb2⟩
      rw [HP.out]
      have HB := Lib.hid (HB1.out.trans (hb2.mono HB1.out.size))
      have HBX := Lib.hid (HX1.out.on hb2 HX1.out.lt)
      clear hb2 HB1 HX1
      have hsb := HB.out.size
      have HK1 := Lib.hid (fun v9 (h9 : Below vb.heap.size vb v9) => sAp B n cap m2 cap2 a a2 W l ps v9 hn hm (H.out.on ((HB.out.mono hB).trans (h9.mono (by omega)))) (HD.out.on ((HB.out.mono hB).trans (h9.mono (by omega)))) (by have := h9.size; omega))
      have HK3 := Lib.hid (fun v9 (h9 : Below vb.heap.size vb v9) => sMask B n cap a W l v9 hn (H.out.on ((HB.out.mono hB).trans (h9.mono (by omega)))) (by have := h9.size; omega))
      have HS := Lib.hid (fun v9 (h9 : Below vb.heap.size vb v9) => (show v9.cell? ⟨w.heap.size, 0, none⟩ = some (.int .i64 W) ∧ v9.cell? ⟨w.heap.size, 1, none⟩ = some (.slice a n cap) from by have h8 := HBX.out.on h9 HBX.out.lt; exact ⟨h8.c0, h8.c1⟩))
      have c0 := HBX.out.c0
      have c1 := HBX.out.c1
      go_wp2_with fail
      have k0 : Below vb.heap.size vb vb.drew := (Below.refl _ vb).drew
      go_region_held3 (fun w' => w'.cell? ⟨w.heap.size, 0, none⟩ = some (.int .i64 W) ∧ w'.cell? ⟨w.heap.size, 1, none⟩ = some (.slice a n cap))
        (first | exact HS.out _ k0 | exact HS.out _ k1 | exact HS.out _ k3 | exact HS.out _ k4)
        (first
          | (go_at_call 62
             refine (HK1.out _ k0).mono ?_
             rintro e v1 ⟨av, rfl, ho1, hb1⟩
             have k1 : Below vb.heap.size vb v1 := Below.trans k0 (hb1.mono (Below.size k0)))
          | (go_at_call 63
             refine (HK3.out _ k1).mono ?_
             rintro e v3 ⟨rfl, hb3⟩
             have k3 : Below vb.heap.size vb v3 := Below.trans k1 (hb3.mono (Below.size k1)))
          | (go_at_call 79
             refine (HQN.out vb.drew v1 v3 av ho1 hb3).mono ?_
             rintro e v4 ⟨rfl, hb4⟩
             have k4 : Below vb.heap.size vb v4 := Below.trans k3 (hb4.mono (Below.size k3))))
      have HB9 := Lib.hid (HB.out.trans (k4.mono hsb))
      clear k0 k1 k3 k4 c0 c1 ho1 hb1 hb3 hb4
      (try simp only [Exit.then])
      go_wp2
      go_ret
      exact ⟨rfl, HB9.out⟩
end

section
/-! ### Written within so many bytes -/
def wrOk (Q : List Nat) (f : Nat) (M : Int) : Bool := decide (cntR Q f = 0 ∧ (trR Q f = [] ∨ ((trR Q f).length : Int) ≤ M))
def wrTo (Q : List Nat) (f : Nat) (M : Int) (i : Nat) : Bool := decide (cntTo Q Q (fitB f) f i = 0 ∧ (trTo Q Q (fitB f) f i = [] ∨ ((trTo Q Q (fitB f) f i).length : Int) ≤ M))
def wrT (Q : List Nat) (f : Nat) (M : Int) : List UInt8 := if wrOk Q f M = true then trR Q f else []
theorem wrT_yes {Q : List Nat} {f : Nat} {M : Int} (h : wrOk Q f M = true) : wrT Q f M = trR Q f := if_pos h
theorem wrT_no {Q : List Nat} {f : Nat} {M : Int} (h : wrOk Q f M = false) : wrT Q f M = [] := if_neg (by rw [h]; simp)
theorem wrOk_zero (Q : List Nat) (M : Int) : wrOk Q 0 M = false := by
  unfold wrOk
  rw [cntR_zero]
  simp
theorem wrTo_zero (Q : List Nat) (f : Nat) (M : Int) : wrTo Q f M 0 = true := by
  unfold wrTo
  rw [cntTo_zero, trTo_zero]
  simp
theorem wrTo_len {Q : List Nat} {f : Nat} {M : Int} {i : Nat} (h : wrTo Q f M i = true) : ((trTo Q Q (fitB f) f i).length : Int) ≤ M ∨ (trTo Q Q (fitB f) f i).length = 0 := by
  unfold wrTo at h
  have h1 := of_decide_eq_true h
  rcases h1.2 with h2 | h2
  · right; rw [h2]; rfl
  · exact .inl h2
theorem wrT_len (Q : List Nat) (f : Nat) (M : Int) : ((wrT Q f M).length : Int) ≤ M ∨ (wrT Q f M).length = 0 := by
  unfold wrT
  split
  · rename_i h
    unfold wrOk at h
    have h1 := of_decide_eq_true h
    rcases h1.2 with h2 | h2
    · right; rw [h2]; rfl
    · exact .inl h2
  · exact .inr rfl
theorem wrTo_no {Q : List Nat} {f : Nat} {M : Int} {i : Nat} (hi : i < Q.length) (hp : fitB f (Q.getD i 0) = false) : wrTo Q f M (i + 1) = wrTo Q f M i := by
  unfold wrTo
  rw [cntTo_no Q f hi hp, trTo_no Q f hi hp]
theorem wrTo_yes {Q : List Nat} {f : Nat} {M : Int} {i : Nat} (hi : i < Q.length) (hp : fitB f (Q.getD i 0) = true) (h : wrTo Q f M i = true) :
    wrTo Q f M (i + 1) = (wrOk Q (f - Q.getD i 0) (M - (trTo Q Q (fitB f) f i).length - 2) && decide (((trTo Q Q (fitB f) f i).length : Int) + (wrT Q (f - Q.getD i 0) (M - (trTo Q Q (fitB f) f i).length - 2)).length + 2 ≤ M)) := by
  have h1 : cntTo Q Q (fitB f) f i = 0 := by
    unfold wrTo at h
    exact (of_decide_eq_true h).1
  have e0 : wrTo Q f M (i + 1) = decide (cntR Q (f - Q.getD i 0) = 0 ∧ ((trTo Q Q (fitB f) f i).length : Int) + (trR Q (f - Q.getD i 0)).length + 2 ≤ M) := by
    unfold wrTo
    rw [cntTo_yes Q f hi hp, trTo_yes Q f hi hp, h1, Bool.eq_iff_iff]
    simp only [decide_eq_true_eq, List.append_eq_nil_iff, List.length_append, List.length_cons, List.length_nil]
    constructor
    · rintro ⟨h2, h3⟩
      rcases h3 with ⟨_, h3⟩ | h3
      · cases h3
      · omega
    · rintro ⟨h2, h3⟩
      exact ⟨by omega, .inr (by omega)⟩
  rw [e0]
  cases e : wrOk Q (f - Q.getD i 0) (M - (trTo Q Q (fitB f) f i).length - 2) with
  | true =>
    rw [wrT_yes e, Bool.true_and]
    unfold wrOk at e
    have h2 := (of_decide_eq_true e).1
    rw [h2, Bool.eq_iff_iff]
    simp
  | false =>
    rw [Bool.false_and, decide_eq_false_iff_not]
    unfold wrOk at e
    have h2 := of_decide_eq_false e
    rintro ⟨h3, h4⟩
    exact h2 ⟨h3, .inr (by omega)⟩
theorem wrTo_bad {Q : List Nat} {f : Nat} {M : Int} {i : Nat} (h0 : f ≠ 0) (h : wrTo Q f M i = false) : wrOk Q f M = false := by
  unfold wrTo at h
  unfold wrOk
  have h1 := of_decide_eq_false h
  rw [decide_eq_false_iff_not]
  rintro ⟨h2, h3⟩
  have h4 := cntR_pre Q h0 i
  obtain ⟨t, h5⟩ := trR_pre Q h0 i
  rw [h5] at h3
  refine h1 ⟨by omega, ?_⟩
  rcases h3 with h3 | h3
  · exact .inl (List.append_eq_nil_iff.1 h3).1
  · rw [List.length_append] at h3
    exact .inr (by omega)
theorem wrOk_all (Q : List Nat) {f : Nat} (M : Int) (h0 : f ≠ 0) : wrOk Q f M = wrTo Q f M Q.length := by
  unfold wrOk wrTo
  have e : cntR Q f = cntTo Q Q (fitB f) f Q.length := by unfold cntR cntTo; rw [tilR_all Q h0]
  rw [e, trR_all Q h0]

/-! ### Checked from a place on -/
def ckOk (Q : List Nat) (f : Nat) (l : List UInt8) (at_ : Nat) : Bool := decide (cntR Q f = 0) && (trR Q f).isPrefixOf (l.drop at_)
def ckTo (Q : List Nat) (f : Nat) (l : List UInt8) (at_ i : Nat) : Bool := decide (cntTo Q Q (fitB f) f i = 0) && (trTo Q Q (fitB f) f i).isPrefixOf (l.drop at_)
def ckV (Q : List Nat) (f : Nat) (l : List UInt8) (at_ : Nat) : Int := if ckOk Q f l at_ = true then ((at_ + (trR Q f).length : Nat) : Int) else -1
theorem pre_app (a b l : List UInt8) : (a ++ b).isPrefixOf l = (a.isPrefixOf l && b.isPrefixOf (l.drop a.length)) := by
  induction a generalizing l with
  | nil => simp
  | cons x a ih =>
    cases l with
    | nil => simp
    | cons y l =>
      simp only [List.cons_append, List.isPrefixOf, List.length_cons, List.drop_succ_cons]
      rw [ih, Bool.and_assoc]
theorem pre_one (c : UInt8) (l : List UInt8) (k : Nat) : ([c] : List UInt8).isPrefixOf (l.drop k) = (decide (k < l.length) && (l.getD k 0 == c)) := by
  by_cases h : k < l.length
  · rw [List.drop_eq_getElem_cons h]
    have e : l.getD k 0 = l[k] := by simp [List.getD, h]
    rw [e, decide_eq_true h, Bool.true_and]
    show (c == l[k] && ([] : List UInt8).isPrefixOf (l.drop (k + 1))) = _
    rw [List.isPrefixOf_nil_left, Bool.and_true, Bool.eq_iff_iff, beq_iff_eq, beq_iff_eq]
    exact eq_comm
  · rw [List.drop_eq_nil_of_le (by omega), decide_eq_false h]
    rfl
theorem ckOk_zero (Q : List Nat) (l : List UInt8) (k : Nat) : ckOk Q 0 l k = false := by
  unfold ckOk
  rw [cntR_zero]
  rfl
theorem ckV_zero (Q : List Nat) (l : List UInt8) (k : Nat) : ckV Q 0 l k = -1 := if_neg (by rw [ckOk_zero]; simp)
theorem ckTo_zero (Q : List Nat) (f : Nat) (l : List UInt8) (k : Nat) : ckTo Q f l k 0 = true := by
  unfold ckTo
  rw [cntTo_zero, trTo_zero]
  rfl
theorem pre_len {a l : List UInt8} {k : Nat} (h : a.isPrefixOf (l.drop k) = true) (hk : k ≤ l.length) : k + a.length ≤ l.length := by
  have h1 := (List.isPrefixOf_iff_prefix.1 h).length_le
  rw [List.length_drop] at h1
  omega
theorem ckTo_len {Q : List Nat} {f : Nat} {l : List UInt8} {k i : Nat} (h : ckTo Q f l k i = true) (hk : k ≤ l.length) : k + (trTo Q Q (fitB f) f i).length ≤ l.length := by
  unfold ckTo at h
  rw [Bool.and_eq_true] at h
  exact pre_len h.2 hk
theorem ckTo_no {Q : List Nat} {f : Nat} {l : List UInt8} {k i : Nat} (hi : i < Q.length) (hp : fitB f (Q.getD i 0) = false) : ckTo Q f l k (i + 1) = ckTo Q f l k i ∧ trTo Q Q (fitB f) f (i + 1) = trTo Q Q (fitB f) f i := by
  unfold ckTo
  rw [cntTo_no Q f hi hp, trTo_no Q f hi hp]
  exact ⟨rfl, rfl⟩
theorem ckTo_yes {Q : List Nat} {f : Nat} {l : List UInt8} {k i : Nat} (hi : i < Q.length) (hp : fitB f (Q.getD i 0) = true) (h : ckTo Q f l k i = true) {p : Nat} (hp2 : k + (trTo Q Q (fitB f) f i).length = p) :
    ckTo Q f l k (i + 1) = ((decide (p < l.length) && (l.getD p 0 == 40)) && (ckOk Q (f - Q.getD i 0) l (p + 1) && (decide (p + 1 + (trR Q (f - Q.getD i 0)).length < l.length) && (l.getD (p + 1 + (trR Q (f - Q.getD i 0)).length) 0 == 41)))) ∧
    k + (trTo Q Q (fitB f) f (i + 1)).length = p + 1 + (trR Q (f - Q.getD i 0)).length + 1 := by
  unfold ckTo at h ⊢
  rw [Bool.and_eq_true, decide_eq_true_eq] at h
  refine ⟨?_, ?_⟩
  · rw [cntTo_yes Q f hi hp, trTo_yes Q f hi hp, h.1, Nat.zero_add]
    rw [pre_app, h.2, Bool.true_and, List.drop_drop, hp2]
    have e : (40 :: (trR Q (f - Q.getD i 0) ++ [41]) : List UInt8) = [40] ++ (trR Q (f - Q.getD i 0) ++ [41]) := rfl
    rw [e, pre_app, pre_one, List.drop_drop, pre_app, List.drop_drop, pre_one]
    unfold ckOk
    show (_ && ((_ && _) && (List.isPrefixOf _ (l.drop (p + 1)) && _))) = _
    rw [show p + ([40] : List UInt8).length + (trR Q (f - Q.getD i 0)).length = p + 1 + (trR Q (f - Q.getD i 0)).length from rfl]
    generalize decide (cntR Q (f - Q.getD i 0) = 0) = x1
    generalize decide (p < l.length) = x2
    generalize (l.getD p 0 == 40) = x3
    generalize List.isPrefixOf (trR Q (f - Q.getD i 0)) (l.drop (p + 1)) = x4
    generalize (decide (p + 1 + (trR Q (f - Q.getD i 0)).length < l.length) && _) = x5
    cases x1 <;> cases x2 <;> cases x3 <;> cases x4 <;> cases x5 <;> rfl
  · rw [trTo_yes Q f hi hp, List.length_append, List.length_cons, List.length_append, List.length_cons, List.length_nil]
    omega
theorem ckTo_bad {Q : List Nat} {f : Nat} {l : List UInt8} {k i : Nat} (h0 : f ≠ 0) (h : ckTo Q f l k i = false) : ckV Q f l k = -1 := by
  refine if_neg ?_
  unfold ckOk
  rw [Bool.and_eq_true, decide_eq_true_eq]
  rintro ⟨h2, h3⟩
  obtain ⟨t, h5⟩ := trR_pre Q h0 i
  have h4 := cntR_pre Q h0 i
  rw [h5, pre_app, Bool.and_eq_true] at h3
  unfold ckTo at h
  rw [h3.1, Bool.and_true, decide_eq_false_iff_not] at h
  exact h (by omega)
theorem ckV_all {Q : List Nat} {f : Nat} {l : List UInt8} {k : Nat} (h0 : f ≠ 0) (h : ckTo Q f l k Q.length = true) : ckV Q f l k = ((k + (trTo Q Q (fitB f) f Q.length).length : Nat) : Int) := by
  have e : cntR Q f = cntTo Q Q (fitB f) f Q.length := by unfold cntR cntTo; rw [tilR_all Q h0]
  unfold ckTo at h
  unfold ckV ckOk
  rw [e, trR_all Q h0, if_pos h]
theorem ckV_bd (Q : List Nat) (f : Nat) {l : List UInt8} {k : Nat} (hk : k ≤ l.length) : ckV Q f l k = -1 ∨ ∃ p : Nat, ckV Q f l k = (p : Int) ∧ p = k + (trR Q f).length ∧ p ≤ l.length ∧ ckOk Q f l k = true := by
  unfold ckV
  split
  · rename_i h
    have h2 := h
    unfold ckOk at h2
    rw [Bool.and_eq_true] at h2
    exact .inr ⟨_, rfl, rfl, pre_len h2.2 hk, h⟩
  · exact .inl rfl
theorem ckV_ok {Q : List Nat} {f : Nat} {l : List UInt8} {k : Nat} (h : ckV Q f l k = -1) : ckOk Q f l k = false := by
  unfold ckV at h
  split at h
  · omega
  · rename_i h2
    cases e : ckOk Q f l k with
    | true => exact absurd e h2
    | false => rfl
/-- What IsRefutation makes of it. -/
theorem chk_ref {W : Int} {l : List Int} {ps : List (List Cl)} {s : List UInt8} (h : okT W l ps = true) (hs : s.length ≤ 2000) : isRef W l ps s = (ckV (pQ W l ps) (maskR W l) s 0 == (s.length : Int)) := by
  unfold isRef
  rw [refT_yes h, Bool.eq_iff_iff, decide_eq_true_eq, beq_iff_eq]
  unfold ckV ckOk
  rw [List.drop_zero]
  constructor
  · intro e
    split at e
    · rename_i hk
      injection e with e
      subst e
      rw [if_pos (by rw [Bool.and_eq_true, decide_eq_true_eq]; exact ⟨hk.1, List.isPrefixOf_iff_prefix.2 (List.prefix_refl _)⟩)]
      simp
    · cases e
  · intro e
    split at e
    · rename_i hk
      rw [Bool.and_eq_true, decide_eq_true_eq] at hk
      have h1 := (List.isPrefixOf_iff_prefix.1 hk.2).eq_of_length (by omega)
      rw [if_pos ⟨hk.1, by rw [h1]; exact hs⟩, h1]
    · omega
theorem isRef_no {W : Int} {l : List Int} {ps : List (List Cl)} (h : okT W l ps = false) (s : List UInt8) : isRef W l ps s = false := by
  unfold isRef
  rw [refT_no h]
  rfl
theorem isRef_long {W : Int} {l : List Int} {ps : List (List Cl)} {s : List UInt8} (h : 2000 < s.length) : isRef W l ps s = false := by
  unfold isRef
  rw [decide_eq_false_iff_not]
  intro e
  have := refT_len W l ps
  rw [e] at this
  simp at this
  omega
theorem tree_ref {W : Int} {l : List Int} {ps : List (List Cl)} (h : okT W l ps = true) : refT W l ps = (if wrOk (pQ W l ps) (maskR W l) 2000 = true then some (trR (pQ W l ps) (maskR W l)) else none) := by
  rw [refT_yes h]
  unfold wrOk
  by_cases h1 : cntR (pQ W l ps) (maskR W l) = 0 ∧ (trR (pQ W l ps) (maskR W l)).length ≤ 2000
  · rw [if_pos h1, if_pos (by rw [decide_eq_true_eq]; exact ⟨h1.1, .inr (by omega)⟩)]
  · rw [if_neg h1, if_neg ?_]
    rw [decide_eq_true_eq]
    rintro ⟨h2, h3⟩
    refine h1 ⟨h2, ?_⟩
    rcases h3 with h3 | h3
    · rw [h3]; simp
    · omega
theorem tree_parts {W : Int} {l : List Int} {ps : List (List Cl)} (h : okT W l ps = true) : (refT W l ps).getD [] = wrT (pQ W l ps) (maskR W l) 2000 ∧ (refT W l ps).isSome = wrOk (pQ W l ps) (maskR W l) 2000 := by
  rw [tree_ref h]
  unfold wrT
  cases e : wrOk (pQ W l ps) (maskR W l) 2000 with
  | true => exact ⟨rfl, rfl⟩
  | false => exact ⟨rfl, rfl⟩
end

section
open Go.RowKit

theorem cat4 {p t q : List UInt8} (h : q = p ++ 40 :: (t ++ [41])) : (((ByteArray.mk p.toArray ++ ByteArray.mk #[40]) ++ ByteArray.mk t.toArray) ++ ByteArray.mk #[41]) = ByteArray.mk q.toArray := by
  have e1 : (ByteArray.mk p.toArray ++ ByteArray.mk #[40]) = ByteArray.mk (p ++ [40]).toArray := S_append p [40]
  rw [e1, S_append (p ++ [40]) t]
  have e2 : (ByteArray.mk (p ++ [40] ++ t).toArray ++ ByteArray.mk #[41]) = ByteArray.mk (p ++ [40] ++ t ++ [41]).toArray := S_append _ [41]
  rw [e2, h]
  simp
set_option maxHeartbeats 8000000 in
set_option maxRecDepth 100000 in
theorem sTree (n cap : Nat) (a : Option Addr) (Q : List Nat) (hn : n ≤ 100000) (hQ : ∀ m ∈ Q, m ≠ 0 ∧ m < 68719476736) :
    ∀ (F f : Nat), f ≤ F → f < 68719476736 → ∀ M : Int, M ≤ 100000 → -(2 * (68719476736 - (f : Int)) + 2) ≤ M → ∀ (B : Nat) (w : World), IntsAt B w a n (ints Q) → B ≤ w.heap.size →
    Calls Tryz.prog 86 #[.slice a n cap, .int .i64 f, .int .i64 M] w fun e w' => e = .returned (.tuple #[S (wrT Q f M), .bool (wrOk Q f M)]) ∧ Below w.heap.size w w' := by
  intro F
  have base : ∀ M : Int, ∀ (w : World),
      Calls Tryz.prog 86 #[.slice a n cap, .int .i64 0, .int .i64 M] w fun e w' => e = .returned (.tuple #[S (wrT Q 0 M), .bool (wrOk Q 0 M)]) ∧ Below w.heap.size w w' := by
    intro M w
    have HC := Lib.hid (wrT_no (wrOk_zero Q M))
    have HD := Lib.hid (wrOk_zero Q M)
    rw [HC.out, HD.out]
    go_enter Tryz.func86, Tryz.ntmps86
    go_wp2
    go_ret2
    exact ⟨rfl, Below.refl _ _⟩
  induction F with
  | zero =>
    intro f hf0 hf M hM2 hM3 B w hc hB
    obtain rfl : f = 0 := by omega
    exact base M w
  | succ F ih =>
    intro f hfF hf M hM2 hM3 B w hc hB
    by_cases h0 : f = 0
    · subst h0
      exact base M w
    clear base
    have hfz : ((f : Int) == 0) = false := by simp; omega
    have HIH := Lib.hid ih
    have HQ := Lib.hid hQ
    have H := Lib.hid hc
    have hln := hc.1
    rw [ints_len] at hln
    have HTA := Lib.hid (wrOk_all Q M h0)
    have HAL := Lib.hid (trR_all Q h0)
    have HBD := Lib.hid (fun i => wrTo_bad (Q := Q) (f := f) (M := M) (i := i) h0)
    have hlow := lowB_lt h0 (show f < 2 ^ 64 by omega)
    have HSL := Lib.hid (fun W => sLow f h0 (show f < 9223372036854775808 by omega) W)
    obtain ⟨low, hlw⟩ : ∃ low, lowB f = low := ⟨_, rfl⟩
    have HFI := Lib.hid (fun m => fit_is (m := m) hlw)
    rw [hlw] at hlow HSL
    clear ih hc hlw
    have hl0 : (0 : Int) ≤ (low : Int) := by omega
    have HZ0 := Lib.hid (wrTo_zero Q f M)
    go_enter Tryz.func86, Tryz.ntmps86
    go_wp2_with fail
    refine (HSL.out w).mono ?_
    rintro e w1 ⟨rfl, hb1⟩
    have HB1 := Lib.hid hb1
    clear hb1
    go_wp2
    go_loopw [8, 10] (fun sv ix wr => ∃ i : Nat, i ≤ n ∧ ix = .int .i64 (i : Int) ∧ sv = S (trTo Q Q (fitB f) f i) ∧ Hid (wrTo Q f M i = true) ∧ Below w.heap.size w wr) (fun _ ix _ => n - (intOf ix).toNat)
    case atStart => exact ⟨0, by omega, rfl, rfl, HZ0.out, HB1.out⟩
    case round =>
      clear HB1
      obtain ⟨i, hi, rfl, rfl, hok, hb⟩ := hrel
      by_cases hlt : i < n
      · have hi1 : (i : Int) < (n : Int) := by omega
        have hi0 : (0 : Int) ≤ (i : Int) := by omega
        obtain ⟨b9, o9, rfl, hb9, hc9⟩ := (H.out.on (hb.mono hB)).2.2 (by omega)
        have p1 := hc9 i hlt
        rw [ints_get] at p1
        have hm := HQ.out (Q.getD i 0) (getD_memN (by omega))
        have HCY := Lib.hid (fun h => wrTo_yes (Q := Q) (f := f) (M := M) (i := i) (by omega) h hok.out)
        have HTY := Lib.hid (trTo_yes Q (C := Q) (p := fitB f) f (i := i) (by omega))
        have HTN := Lib.hid (trTo_no Q (C := Q) (p := fitB f) f (i := i) (by omega))
        have HCN := Lib.hid (wrTo_no (Q := Q) (f := f) (M := M) (i := i) (by omega))
        have HFM := Lib.hid (HFI.out (Q.getD i 0))
        have HFS := Lib.hid (fun h => fit_sub (f := f) (m := Q.getD i 0) h)
        have HLN := Lib.hid (wrTo_len hok.out)
        obtain ⟨m, hmm⟩ : ∃ m, Q.getD i 0 = m := ⟨_, rfl⟩
        rw [hmm] at p1 hm HCY HCN HFM HFS HTY HTN
        clear hc9 hmm
        obtain ⟨u, hu⟩ : ∃ u : Nat, m / 2 ^ low = u := ⟨_, rfl⟩
        have hdiv : (m : Int) / (2 : Int) ^ low = (u : Int) := by rw [← hu]; simp
        have hum : u ≤ m := by rw [← hu]; exact Nat.div_le_self _ _
        have hand := bit_val (m := m) low (by omega)
        rw [hu] at hand
        clear hu
        cases htb : m.testBit low with
        | false =>
          rw [htb] at hand
          have hand1 : bits .and .i64 (u : Int) 1 = 0 := hand
          have hnf : fitB f m = false := by rw [HFM.out, htb]; rfl
          have HL5 := Lib.hid (show wrTo Q f M (i + 1) = true from by rw [HCN.out hnf]; exact hok.out)
          have HS5 := Lib.hid (show S (trTo Q Q (fitB f) f i) = S (trTo Q Q (fitB f) f (i + 1)) from by rw [HTN.out hnf])
          clear HCY HCN HFM HFS HTY HTN hand htb hok hnf HLN
          go_wp2_with fail
          go_quiet (fail)
          go_wp2
          go_roundw
          case rel => first
            | exact ⟨i + 1, by omega, by go_num, HS5.out, HL5.out, below_drewn hb _⟩
            | (repeat apply Exists.intro
               exact ⟨⟨i + 1, by omega, by go_num, HS5.out, HL5.out, below_drewn hb _⟩, rfl⟩)
          case measure => first | (simp [intOf]; done) | (simp [intOf]; omega)
        | true =>
          rw [htb] at hand
          have hand1 : bits .and .i64 (u : Int) 1 = 1 := hand
          have hmf := i64_and_nat m f (by omega) (by omega)
          by_cases hsb : m &&& f = m
          · rw [hsb] at hmf
            have e3 : ((m : Int) != (m : Int)) = false := by simp
            have hfit : fitB f m = true := by rw [HFM.out, htb, hsb]; simp
            have hfs := HFS.out hfit
            have HCS := Lib.hid (HCY.out hfit)
            have HTS := Lib.hid (HTY.out hfit)
            obtain ⟨fm, hfm⟩ : ∃ fm, f - m = fm := ⟨_, rfl⟩
            have hfm1 : (f : Int) - (m : Int) = (fm : Int) := by omega
            rw [hfm] at HCS hfs HTS
            have hml := HLN.out
            obtain ⟨p, hp⟩ : ∃ p, trTo Q Q (fitB f) f i = p := ⟨_, rfl⟩
            rw [hp] at hml HCS HTS ⊢
            obtain ⟨pl, hpl⟩ : ∃ pl, p.length = pl := ⟨_, rfl⟩
            rw [hpl] at hml HCS
            obtain ⟨M1, hM1⟩ : ∃ M1 : Int, M - (pl : Int) = M1 := ⟨_, rfl⟩
            obtain ⟨M9, hM9⟩ : ∃ M9 : Int, M1 - 2 = M9 := ⟨_, rfl⟩
            have hM9b : M9 ≤ 100000 ∧ -(2 * (68719476736 - (fm : Int)) + 2) ≤ M9 := by omega
            have hpb : pl ≤ 100000 := by omega
            have HR := Lib.hid (fun v9 (h9 : Below w.heap.size w v9) => HIH.out fm (by omega) (by omega) M9 hM9b.1 hM9b.2 B v9 (H.out.on (h9.mono hB)) (Nat.le_trans hB h9.size))
            have HWL := Lib.hid (wrT_len Q fm M9)
            rw [show M - (pl : Int) - 2 = M9 by omega] at HCS
            have HYT := Lib.hid (fun h => wrT_yes (Q := Q) (f := fm) (M := M9) h)
            obtain ⟨ok, hok9⟩ : ∃ ok, wrOk Q fm M9 = ok := ⟨_, rfl⟩
            obtain ⟨tt, htt⟩ : ∃ tt, wrT Q fm M9 = tt := ⟨_, rfl⟩
            rw [hok9, htt] at HR HCS
            rw [htt] at HWL HYT
            rw [hok9] at HYT
            have htl := HWL.out
            obtain ⟨tl, htl9⟩ : ∃ tl, tt.length = tl := ⟨_, rfl⟩
            rw [htl9] at htl HCS
            have htb9 : tl ≤ 100000 := by omega
            clear HCY HCN HFM HFS HTY HTN hand htb hfit hsb hok9 htt HLN HWL
            have hsp : p.length = pl := hpl
            have hst : tt.length = tl := htl9
            cases ok with
            | false =>
              have HNO := Lib.hid (show wrOk Q f M = false from HBD.out (i + 1) (by rw [HCS.out]; rfl))
              have HNT := Lib.hid (wrT_no HNO.out)
              clear HCS HTS HYT
              go_wp2_with fail
              go_quiet (fail)
              go_wp2_with fail
              refine (HR.out _ (below_drewn hb _)).mono ?_
              rintro e w5 ⟨rfl, hb5⟩
              have HB5 := Lib.hid ((below_drewn hb _).trans (hb5.mono (below_drewn hb _).size))
              clear hb5 HR hb
              go_wp2
              go_ret2
              exact ⟨by rw [HNO.out, HNT.out]; rfl, HB5.out⟩
            | true =>
              by_cases hle : (pl : Int) + (tl : Int) + 2 ≤ M
              · have HL5 := Lib.hid (show wrTo Q f M (i + 1) = true from by rw [HCS.out, Bool.true_and]; exact decide_eq_true hle)
                have HS5 := Lib.hid (cat4 (p := p) (t := tt) (q := trTo Q Q (fitB f) f (i + 1)) (by rw [HYT.out rfl]; exact HTS.out))
                have hle1 : ¬ M < (pl : Int) + (tl : Int) + 2 := by omega
                clear HCS HTS HYT
                go_wp2_with fail
                go_quiet (fail)
                go_wp2_with fail
                refine (HR.out _ (below_drewn hb _)).mono ?_
                rintro e w5 ⟨rfl, hb5⟩
                have HB5 := Lib.hid ((below_drewn hb _).trans (hb5.mono (below_drewn hb _).size))
                clear hb5 HR hb
                go_wp2
                go_roundw
                case rel => first
                  | exact ⟨i + 1, by omega, by go_num, congrArg Value.string HS5.out, HL5.out, HB5.out⟩
                  | (repeat apply Exists.intro
                     exact ⟨⟨i + 1, by omega, by go_num, congrArg Value.string HS5.out, HL5.out, HB5.out⟩, rfl⟩)
                case measure => first | (simp [intOf]; done) | (simp [intOf]; omega)
              · have HNO := Lib.hid (show wrOk Q f M = false from HBD.out (i + 1) (by rw [HCS.out, decide_eq_false hle]; rfl))
                have HNT := Lib.hid (wrT_no HNO.out)
                have hle1 : M < (pl : Int) + (tl : Int) + 2 := by omega
                clear HCS HTS HYT
                go_wp2_with fail
                go_quiet (fail)
                go_wp2_with fail
                refine (HR.out _ (below_drewn hb _)).mono ?_
                rintro e w5 ⟨rfl, hb5⟩
                have HB5 := Lib.hid ((below_drewn hb _).trans (hb5.mono (below_drewn hb _).size))
                clear hb5 HR hb
                go_wp2
                go_ret2
                exact ⟨by rw [HNO.out, HNT.out]; rfl, HB5.out⟩
          · obtain ⟨mf, hmf2⟩ : ∃ mf, m &&& f = mf := ⟨_, rfl⟩
            have hnf : fitB f m = false := by rw [HFM.out, htb, decide_eq_false hsb]; rfl
            have HL5 := Lib.hid (show wrTo Q f M (i + 1) = true from by rw [HCN.out hnf]; exact hok.out)
            have HS5 := Lib.hid (show S (trTo Q Q (fitB f) f i) = S (trTo Q Q (fitB f) f (i + 1)) from by rw [HTN.out hnf])
            rw [hmf2] at hmf hsb
            have e3 : ((mf : Int) != (m : Int)) = true := by rw [bne_iff_ne]; omega
            clear HCY HCN HFM HFS HTY HTN hand htb hok hnf HLN hsb hmf2
            go_wp2_with fail
            go_quiet (fail)
            go_wp2
            go_roundw
            case rel => first
              | exact ⟨i + 1, by omega, by go_num, HS5.out, HL5.out, below_drewn hb _⟩
              | (repeat apply Exists.intro
                 exact ⟨⟨i + 1, by omega, by go_num, HS5.out, HL5.out, below_drewn hb _⟩, rfl⟩)
            case measure => first | (simp [intOf]; done) | (simp [intOf]; omega)
      · obtain rfl : i = n := by omega
        have HNO := Lib.hid (show wrOk Q f M = true from by rw [HTA.out, hln]; exact hok.out)
        have HNT := Lib.hid (show wrT Q f M = trTo Q Q (fitB f) f i from by rw [wrT_yes HNO.out, HAL.out, hln])
        clear hok
        go_wp2
        go_ret2
        exact ⟨by rw [HNO.out, HNT.out]; rfl, hb⟩
theorem sTreeP (W : Int) (l : List Int) (ps : List (List Cl)) (V V1 V2 : World) (v : Value)
    (ho : V1.ownsRow V.heap.size 3 1 v (apR W l ps).length (iv (apR W l ps))) (hb : Below V1.heap.size V1 V2) :
    Calls Tryz.prog 86 #[v, .int .i64 (maskR W l : Nat), .int .i64 2000] V2 fun e w' => e = .returned (.tuple #[S (wrT (pQ W l ps) (maskR W l) 2000), .bool (wrOk (pQ W l ps) (maskR W l) 2000)]) ∧ Below V2.heap.size V2 w' := by
  obtain ⟨a, cap, rfl, h1, h2⟩ := own_intsQ ho
  have h3 := maskR_lt W l
  exact sTree _ cap a (pQ W l ps) h1 (pQ_ok W l ps) (maskR W l) (maskR W l) (Nat.le_refl _) h3 2000 (by omega) (by omega) V1.heap.size V2 (h2.on hb) hb.size

set_option maxHeartbeats 4000000 in
set_option maxRecDepth 100000 in
theorem sRef (B n cap m2 cap2 : Nat) (a a2 : Option Addr) (W : Int) (l : List Int) (ps : List (List Cl)) (w : World) (hn : n ≤ 4194304) (hm : m2 ≤ 1048576) (hc : IntsAt B w a n l) (hd : PsAt B w a2 m2 ps) (hB : B ≤ w.heap.size) :
    Calls Tryz.prog 50 #[.agg #[.int .i64 W, .slice a n cap], .slice a2 m2 cap2] w fun e w' => e = .returned (.tuple #[S ((refT W l ps).getD []), .bool (refT W l ps).isSome]) ∧ Below w.heap.size w w' := by
  have H := Lib.hid hc
  have HD := Lib.hid hd
  clear hc hd
  have hb0 := (Below.refl w.heap.size w).alloc (Nat.le_refl _) (.cells #[.int .i64 W, .slice a n cap] 26)
  have hbox0 := RgAt.new (w := w) W (.slice a n cap) rfl
  have hsz0 : (w.alloc (.cells #[.int .i64 W, .slice a n cap] 26)).heap.size = w.heap.size + 1 := by simp
  cases h1 : isReg W l with
  | false =>
    have HI := Lib.hid h1
    have HO := Lib.hid (refT_no (ps := ps) (show okT W l ps = false from by unfold okT; rw [h1]; rfl))
    rw [HO.out]
    clear h1
    go_enter Tryz.func50, Tryz.ntmps50
    go_wp2_with fail
    refine (sIsReg B n cap a W l _ hn (H.out.on (hb0.mono hB)) (Nat.le_trans hB hb0.size)).mono ?_
    rintro e w' ⟨rfl, hb⟩
    rw [HI.out]
    go_wp2
    go_ret2
    exact ⟨rfl, hb0.trans (hb.mono hb0.size)⟩
  | true =>
    have HI := Lib.hid h1
    cases h2 : arePc ps with
    | false =>
      have HP := Lib.hid h2
      have HO := Lib.hid (refT_no (W := W) (l := l) (show okT W l ps = false from by unfold okT; rw [h1, h2]; rfl))
      rw [HO.out]
      clear h1 h2
      go_enter Tryz.func50, Tryz.ntmps50
      go_wp2_with fail
      refine (sIsReg B n cap a W l _ hn (H.out.on (hb0.mono hB)) (Nat.le_trans hB hb0.size)).mono ?_
      rintro e w1 ⟨rfl, hb⟩
      rw [HI.out]
      have HB1 := Lib.hid (hb0.trans (hb.mono hb0.size))
      clear hb hb0
      go_wp2_with fail
      refine (sArePc B m2 cap2 a2 ps w1 (by omega) (HD.out.on (HB1.out.mono hB)) (Nat.le_trans hB HB1.out.size)).mono ?_
      rintro e w2 ⟨rfl, hb2⟩
      rw [HP.out]
      go_wp2
      go_ret2
      exact ⟨rfl, HB1.out.trans (hb2.mono HB1.out.size)⟩
    | true =>
      have HP := Lib.hid h2
      have HO := Lib.hid (tree_parts (W := W) (l := l) (ps := ps) (show okT W l ps = true from by unfold okT; rw [h1, h2]; rfl))
      rw [HO.out.1, HO.out.2]
      have HQN := Lib.hid (fun (V V1 V2 : World) (v : Value) ho hb => sTreeP W l ps V V1 V2 v ho hb)
      obtain ⟨tz, htz⟩ : ∃ tz, wrT (pQ W l ps) (maskR W l) 2000 = tz := ⟨_, rfl⟩
      obtain ⟨bz, hbz⟩ : ∃ bz, wrOk (pQ W l ps) (maskR W l) 2000 = bz := ⟨_, rfl⟩
      rw [htz, hbz] at HQN ⊢
      clear htz hbz
      clear h1 h2
      go_enter Tryz.func50, Tryz.ntmps50
      go_wp2_with fail
      refine (sIsReg B n cap a W l _ hn (H.out.on (hb0.mono hB)) (Nat.le_trans hB hb0.size)).mono ?_
      rintro e w1 ⟨rfl, hb⟩
      rw [HI.out]
      have HB1 := Lib.hid (hb0.trans (hb.mono hb0.size))
      have HX1 := Lib.hid (hbox0.on hb hbox0.lt)
      clear hb hb0 hbox0 hsz0
      go_wp2_with fail
      refine (sArePc B m2 cap2 a2 ps w1 (by omega) (HD.out.on (HB1.out.mono hB)) (Nat.le_trans hB HB1.out.size)).mono ?_
      rintro e vb ⟨rfl, hb2⟩
      rw [HP.out]
      have HB := Lib.hid (HB1.out.trans (hb2.mono HB1.out.size))
      have HBX := Lib.hid (HX1.out.on hb2 HX1.out.lt)
      clear hb2 HB1 HX1
      have hsb := HB.out.size
      have HK1 := Lib.hid (fun v9 (h9 : Below vb.heap.size vb v9) => sAp B n cap m2 cap2 a a2 W l ps v9 hn hm (H.out.on ((HB.out.mono hB).trans (h9.mono (by omega)))) (HD.out.on ((HB.out.mono hB).trans (h9.mono (by omega)))) (by have := h9.size; omega))
      have HK3 := Lib.hid (fun v9 (h9 : Below vb.heap.size vb v9) => sMask B n cap a W l v9 hn (H.out.on ((HB.out.mono hB).trans (h9.mono (by omega)))) (by have := h9.size; omega))
      have HS := Lib.hid (fun v9 (h9 : Below vb.heap.size vb v9) => (show v9.cell? ⟨w.heap.size, 0, none⟩ = some (.int .i64 W) ∧ v9.cell? ⟨w.heap.size, 1, none⟩ = some (.slice a n cap) from by have h8 := HBX.out.on h9 HBX.out.lt; exact ⟨h8.c0, h8.c1⟩))
      have c0 := HBX.out.c0
      have c1 := HBX.out.c1
      go_wp2_with fail
      have k0 : Below vb.heap.size vb vb.drew := (Below.refl _ vb).drew
      go_region_held3 (fun w' => w'.cell? ⟨w.heap.size, 0, none⟩ = some (.int .i64 W) ∧ w'.cell? ⟨w.heap.size, 1, none⟩ = some (.slice a n cap))
        (first | exact HS.out _ k0 | exact HS.out _ k1 | exact HS.out _ k3 | exact HS.out _ k4)
        (first
          | (go_at_call 62
             refine (HK1.out _ k0).mono ?_
             rintro e v1 ⟨av, rfl, ho1, hb1⟩
             have k1 : Below vb.heap.size vb v1 := Below.trans k0 (hb1.mono (Below.size k0)))
          | (go_at_call 63
             refine (HK3.out _ k1).mono ?_
             rintro e v3 ⟨rfl, hb3⟩
             have k3 : Below vb.heap.size vb v3 := Below.trans k1 (hb3.mono (Below.size k1)))
          | (go_at_call 86
             refine (HQN.out vb.drew v1 v3 av ho1 hb3).mono ?_
             rintro e v4 ⟨rfl, hb4⟩
             have k4 : Below vb.heap.size vb v4 := Below.trans k3 (hb4.mono (Below.size k3))))
      have HB9 := Lib.hid (HB.out.trans (k4.mono hsb))
      clear k0 k1 k3 k4 c0 c1 ho1 hb1 hb3 hb4
      (try simp only [Exit.then])
      go_wp2
      go_ret2
      exact ⟨rfl, HB9.out⟩
end

end Go.Proofs.YtkjlmgkjcmebbaaGreatDoor
