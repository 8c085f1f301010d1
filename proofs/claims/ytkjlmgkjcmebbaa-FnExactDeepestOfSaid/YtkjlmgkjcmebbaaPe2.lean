/-
  Enumeration: what comes of taking one cell away; plain facts.
-/
import Derived.Test.YtkjlmgkjcmebbaaPe1
import Derived.Test.YtkjlmgkjcmebbaaCon
namespace Go.Proofs.Ytkjlmgkjcmebbaa

def delC (l : List Cl) (i : Nat) : List Cl := l.take i ++ l.drop (i + 1)
theorem delC_len (l : List Cl) (i : Nat) (h : i < l.length) : (delC l i).length = l.length - 1 := by
  unfold delC
  simp
  omega
/-- The list of a shape's parents: in order, each once, all of them. -/
def IsPar (l : List Cl) (L : List (List Cl)) : Prop := SrtG ltS L ∧ ∀ x, x ∈ L ↔ isShape l = true ∧ ∃ i, i < l.length ∧ Conn (delC l i) ∧ x = cornerC (delC l i)
/-- .. as far as the first k places. -/
def ParTo (l : List Cl) (k : Nat) (L : List (List Cl)) : Prop := SrtG ltS L ∧ ∀ x, x ∈ L ↔ ∃ i, i < k ∧ Conn (delC l i) ∧ x = cornerC (delC l i)
theorem parTo_zero (l : List Cl) : ParTo l 0 [] := ⟨List.Pairwise.nil, fun x => ⟨fun h => (by cases h), fun ⟨i, h, _⟩ => absurd h (Nat.not_lt_zero i)⟩⟩
theorem parTo_skip {l : List Cl} {k : Nat} {L : List (List Cl)} (h : ParTo l k L) (hc : ¬ Conn (delC l k)) : ParTo l (k + 1) L :=
  ⟨h.1, fun x => (h.2 x).trans ⟨fun ⟨i, hi, h2⟩ => ⟨i, by omega, h2⟩, fun ⟨i, hi, h2, h3⟩ => ⟨i, by
    by_cases e : i = k
    · exact absurd (e ▸ h2) hc
    · omega, h2, h3⟩⟩⟩
theorem parTo_put {l : List Cl} {k : Nat} {L : List (List Cl)} (h : ParTo l k L) (hc : Conn (delC l k)) : ParTo l (k + 1) (insG ltS [] L (cornerC (delC l k))) :=
  ⟨insG_srt ordS [] h.1 _, fun x => by
    rw [insG_mem, h.2 x]
    constructor
    · rintro (⟨i, hi, h2⟩ | rfl)
      · exact ⟨i, by omega, h2⟩
      · exact ⟨k, by omega, hc, rfl⟩
    · rintro ⟨i, hi, h2, h3⟩
      by_cases e : i = k
      · subst e; exact .inr h3
      · exact .inl ⟨i, by omega, h2, h3⟩⟩
theorem parTo_all {l : List Cl} {L : List (List Cl)} (hs : isShape l = true) (h : ParTo l l.length L) : IsPar l L := ⟨h.1, fun x => (h.2 x).trans ⟨fun h2 => ⟨hs, h2⟩, fun h2 => h2.2⟩⟩
theorem isPar_none {l : List Cl} (hs : isShape l = false) : IsPar l [] := ⟨List.Pairwise.nil, fun x => ⟨fun h => (by cases h), fun ⟨h, _⟩ => by rw [hs] at h; cases h⟩⟩
theorem isPar_unique {l : List Cl} {L M : List (List Cl)} (h : IsPar l L) (k : IsPar l M) : L = M := srtG_unique ordS h.1 k.1 fun x => (h.2 x).trans (k.2 x).symm
theorem isPar_ex (l : List Cl) : ∃ L, IsPar l L := by
  cases hs : isShape l with
  | false => exact ⟨[], isPar_none hs⟩
  | true =>
    have key : ∀ k, ∃ L, ParTo l k L := by
      intro k
      induction k with
      | zero => exact ⟨[], parTo_zero l⟩
      | succ k ih =>
        obtain ⟨L, hL⟩ := ih
        rcases Classical.em (Conn (delC l k)) with hc | hc
        · exact ⟨_, parTo_put hL hc⟩
        · exact ⟨L, parTo_skip hL hc⟩
    obtain ⟨L, hL⟩ := key l.length
    exact ⟨L, parTo_all hs hL⟩
theorem parTo_le {l : List Cl} : ∀ {k : Nat} {L : List (List Cl)}, ParTo l k L → L.length ≤ k
  | 0, L, h => by
    cases L with
    | nil => simp
    | cons x r => obtain ⟨i, hi, _⟩ := (h.2 x).1 (by simp); omega
  | k + 1, L, h => by
    have : ∃ M, ParTo l k M := by
      clear h
      induction k with
      | zero => exact ⟨[], parTo_zero l⟩
      | succ k ih =>
        obtain ⟨M, hM⟩ := ih
        rcases Classical.em (Conn (delC l k)) with hc | hc
        · exact ⟨_, parTo_put hM hc⟩
        · exact ⟨M, parTo_skip hM hc⟩
    obtain ⟨M, hM⟩ := this
    have hM2 := parTo_le hM
    rcases Classical.em (Conn (delC l k)) with hc | hc
    · have e : L = insG ltS [] M (cornerC (delC l k)) := srtG_unique ordS h.1 (parTo_put hM hc).1 fun x => (h.2 x).trans ((parTo_put hM hc).2 x).symm
      have := insG_le ltS [] M (cornerC (delC l k))
      rw [e]
      omega
    · have e : L = M := srtG_unique ordS h.1 hM.1 fun x => (h.2 x).trans ((parTo_skip hM hc).2 x).symm
      rw [e]
      omega
theorem isPar_shape {l : List Cl} {L : List (List Cl)} (h : IsPar l L) {x : List Cl} (hx : x ∈ L) : isShape x = true := by
  obtain ⟨_, i, _, hc, rfl⟩ := (h.2 x).1 hx
  exact isShape_corner hc.1
theorem isPar_le {l : List Cl} {L : List (List Cl)} (h : IsPar l L) : L.length ≤ 8 := by
  cases hs : isShape l with
  | false =>
    have := isPar_unique h (isPar_none hs)
    rw [this]
    simp
  | true =>
    have h8 := ((isShape_iff l).1 hs).1.2
    have : ParTo l l.length L := ⟨h.1, fun x => (h.2 x).trans ⟨fun h2 => h2.2, fun h2 => ⟨hs, h2⟩⟩⟩
    have := parTo_le this
    omega

end Go.Proofs.Ytkjlmgkjcmebbaa
