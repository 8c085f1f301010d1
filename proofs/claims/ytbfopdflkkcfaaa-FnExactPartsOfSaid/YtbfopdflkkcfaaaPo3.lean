/-
  Holes: what the model's queues want: plain facts.
-/
import Derived.Test.YtbfopdflkkcfaaaPo2
import Derived.Test.YtbfopdflkkcfaaaPu3
namespace Go.Proofs.Ytbfopdflkkcfaaa

theorem maxTo_ge (f : Cl → Int) (l : List Cl) : ∀ (k j : Nat), j < k → f (l.getD j (0, 0)) + 1 ≤ maxTo f l k
  | 0, j, h => by omega
  | k + 1, j, h => by
    rw [maxTo_step]
    by_cases e : j = k
    · subst e; split <;> omega
    · have := maxTo_ge f l k j (by omega)
      split <;> omega
theorem maxTo_le8 (f : Cl → Int) (l : List Cl) (h : ∀ c ∈ l, 0 ≤ f c ∧ f c ≤ 7) : ∀ k, k ≤ l.length → 0 ≤ maxTo f l k ∧ maxTo f l k ≤ 8
  | 0, _ => by simp [maxTo]
  | k + 1, hk => by
    have h1 := maxTo_le8 f l h k (by omega)
    have h2 := h _ (getD_mem (l := l) (j := k) (by omega))
    rw [maxTo_step]
    split <;> omega
/-- The frame of a shape in its corner. -/
theorem corner_frame {l : List Cl} (h : isShape l = true) : ∃ W H : Nat, wideC l = W ∧ highC l = H ∧ W ≤ 8 ∧ H ≤ 8 ∧ InsF (cornerC l) (-1) W (-1) H := by
  have hc : cornS l = cornerC l := if_pos h
  have hs := isShape_corner h
  have hin : ∀ c ∈ cornerC l, 0 ≤ c.1 ∧ c.1 ≤ 7 ∧ 0 ≤ c.2 ∧ c.2 ≤ 7 := fun c hc => inP_out (((isShape_iff _).1 hs).2.1 c hc)
  have h1 := maxTo_le8 Prod.fst (cornerC l) (fun c hc => by have := hin c hc; omega) _ (Nat.le_refl _)
  have h2 := maxTo_le8 Prod.snd (cornerC l) (fun c hc => by have := hin c hc; omega) _ (Nat.le_refl _)
  refine ⟨(wideC l).toNat, (highC l).toNat, ?_, ?_, ?_, ?_, fun c hc9 => ?_⟩
  · unfold wideC; rw [hc]; omega
  · unfold highC; rw [hc]; omega
  · unfold wideC; rw [hc]; omega
  · unfold highC; rw [hc]; omega
  · obtain ⟨j, hj, rfl⟩ := mem_getD hc9
    have h3 := maxTo_ge Prod.fst (cornerC l) _ j hj
    have h4 := maxTo_ge Prod.snd (cornerC l) _ j hj
    have h5 := hin _ (getD_mem hj)
    unfold wideC highC
    rw [hc]
    omega
theorem inb_iff (x lo hi : Int) : inb x lo hi = true ↔ lo ≤ x ∧ x ≤ hi := by unfold inb; rw [Bool.and_eq_true, decide_eq_true_eq, decide_eq_true_eq]
theorem hasC_false {l : List Cl} {p q : Int} (h : hasC l p q = false) : (p, q) ∉ l := by
  have := hasC_iff l (p, q)
  dsimp only at this
  rw [← this, h]
  simp
theorem hasC_true {l : List Cl} {p q : Int} (h : hasC l p q = true) : (p, q) ∈ l := (hasC_iff l (p, q)).1 h
def inBox (W H : Nat) (q : Cl) : Prop := inFr (-1) (W : Int) (-1) (H : Int) q
theorem inBox_out {W H : Nat} {q : Cl} (hW : W ≤ 8) (hH : H ≤ 8) (h : inBox W H q) : (-1 ≤ q.1 ∧ q.1 ≤ 8) ∧ -1 ≤ q.2 ∧ q.2 ≤ 8 := by
  unfold inBox inFr at h
  omega
/-- The queue of all that is outside. -/
abbrev OQ (c : List Cl) (W H : Nat) (sn : List Cl) (i k : Nat) : Prop := Bq (fun q => inBox W H q ∧ q ∉ c) (fun q => inBox W H q ∧ OutP c q) [] sn i k
theorem OQ.skip {c sn : List Cl} {W H i k : Nat} {p q : Int} (h : OQ c W H sn i k) (e : nbC (sn.getD i (0, 0)) k = (p, q)) (hno : inb p (-1) W = false ∨ inb q (-1) H = false ∨ hasC c p q = true ∨ hasC sn p q = true) : OQ c W H sn i (k + 1) := by
  refine Bq.skip h fun ha => ?_
  rw [e] at ha ⊢
  obtain ⟨h1, h2⟩ := ha
  unfold inBox inFr at h1
  dsimp only at h1
  rcases hno with h3 | h3 | h3 | h3
  · rw [(inb_iff p (-1) W).2 ⟨h1.1, h1.2.1⟩] at h3; cases h3
  · rw [(inb_iff q (-1) H).2 ⟨h1.2.2.1, h1.2.2.2⟩] at h3; cases h3
  · exact absurd (hasC_true h3) h2
  · exact hasC_true h3
theorem OQ.add {c sn : List Cl} {W H i k : Nat} {p q : Int} (h : OQ c W H sn i k) (hi : i < sn.length) (hk : k < 4) (e : nbC (sn.getD i (0, 0)) k = (p, q)) (h1 : inb p (-1) W = true) (h2 : inb q (-1) H = true) (h3 : hasC c p q = false) (h4 : hasC sn p q = false) : OQ c W H (sn ++ [(p, q)]) i (k + 1) := by
  refine Bq.add h hi e (hasC_false h4) ?_
  have ha := h.all i (by simp) hi
  have hc := hasC_false h3
  refine ⟨?_, ha.2.pth ?_⟩
  · have := (inb_iff _ _ _).1 h1
    have := (inb_iff _ _ _).1 h2
    unfold inBox inFr
    dsimp only
    omega
  · rw [← e]
    exact .one ha.2.free hk (by rw [e]; exact hc)
theorem OQ.len {c sn : List Cl} {W H i k : Nat} (hW : W ≤ 8) (hH : H ≤ 8) (h : OQ c W H sn i k) : sn.length ≤ 100 :=
  in_grid h.nodup hW hH fun q hq => by
    obtain ⟨j, hj, rfl⟩ := mem_getD hq
    exact (h.all j (by simp) hj).1
theorem OQ.start {c : List Cl} {W H : Nat} (hc : InsF c (-1) W (-1) H) : OQ c W H [(-1, -1)] 0 0 :=
  Bq.start _ _ [] (-1, -1) (by simp) (by simp) ⟨by unfold inBox inFr; dsimp only; omega, out_left fun d hd => by have := hc d hd; dsimp only; omega⟩
/-- The queue of a hole. -/
abbrev HQ (c : List Cl) (x y : Int) (old sn : List Cl) (i k : Nat) : Prop := Bq (fun q => q ∉ c) (Pth c (x, y)) old sn i k
theorem HQ.skip {c old sn : List Cl} {x y : Int} {i k : Nat} {p q : Int} (h : HQ c x y old sn i k) (e : nbC (sn.getD i (0, 0)) k = (p, q)) (hno : hasC c p q = true ∨ hasC sn p q = true) : HQ c x y old sn i (k + 1) := by
  refine Bq.skip h fun ha => ?_
  rw [e] at ha ⊢
  rcases hno with h3 | h3
  · exact absurd (hasC_true h3) ha
  · exact hasC_true h3
theorem HQ.add {c old sn : List Cl} {x y : Int} {i k : Nat} {p q : Int} (h : HQ c x y old sn i k) (ho : old.length ≤ i) (hi : i < sn.length) (hk : k < 4) (e : nbC (sn.getD i (0, 0)) k = (p, q)) (h3 : hasC c p q = false) (h4 : hasC sn p q = false) : HQ c x y old (sn ++ [(p, q)]) i (k + 1) := by
  refine Bq.add h hi e (hasC_false h4) ?_
  have ha := h.all i ho hi
  rw [← e]
  exact .step k ha hk (by rw [e]; exact hasC_false h3)
theorem HQ.box {c old sn : List Cl} {x y : Int} {W H i k : Nat} (hc : InsF c (-1) W (-1) H) (hold : ∀ q, q ∈ old ↔ inBox W H q ∧ Seen c (x, y) q) (hp : Lead c (x, y)) (h : HQ c x y old sn i k) : ∀ q ∈ sn, inBox W H q := fun q hq => by
  obtain ⟨new, hnew⟩ := h.pre
  obtain ⟨j, hj, rfl⟩ := mem_getD hq
  by_cases h1 : j < old.length
  · have : sn.getD j (0, 0) ∈ old := by rw [hnew, getD_app h1]; exact getD_mem h1
    exact ((hold _).1 this).1
  · have h2 := h.all j (by omega) hj
    have := inner_of hc (q := sn.getD j (0, 0)) (fun ho => hp.2.1 (ho.pth h2.symm))
    unfold inBox inFr
    omega
theorem HQ.len {c old sn : List Cl} {x y : Int} {W H i k : Nat} (hc : InsF c (-1) W (-1) H) (hW : W ≤ 8) (hH : H ≤ 8) (hold : ∀ q, q ∈ old ↔ inBox W H q ∧ Seen c (x, y) q) (hp : Lead c (x, y)) (h : HQ c x y old sn i k) : sn.length ≤ 100 := in_grid h.nodup hW hH (h.box hc hold hp)
noncomputable def holP (l : List Cl) : Int := if isShape l = true then (holesN l : Int) else -1
theorem holP_yes {l : List Cl} (h : isShape l = true) : holP l = holesN l := if_pos h
theorem holP_no {l : List Cl} (h : isShape l = false) : holP l = -1 := if_neg (by rw [h]; simp)
theorem insF_shape {l : List Cl} (h : isShape l = true) : InsF l (-1) 8 (-1) 8 := fun c hc => by
  have := inP_out (((isShape_iff l).1 h).2.1 c hc)
  omega

end Go.Proofs.Ytbfopdflkkcfaaa
