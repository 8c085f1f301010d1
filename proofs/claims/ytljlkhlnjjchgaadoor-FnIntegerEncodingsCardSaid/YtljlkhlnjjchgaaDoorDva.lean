/-
  The varint decoders: the plain function that both compute, and its arithmetic. Nothing of the program is claimed here.
-/
import Derived.Test.YtljlkhlnjjchgaaDoorVar
namespace Go.Proofs.YtljlkhlnjjchgaaDoor
open Go.RowKit

/-- The number of the groups l, least significant first. -/
def val : List UInt8 → Nat
  | [] => 0
  | b :: r => b.toNat % 128 + 128 * val r
/-- How many bytes the first run of at most f groups has; 0 if it does not end. -/
def grp : Nat → List UInt8 → Nat
  | 0, _ => 0
  | _ + 1, [] => 0
  | f + 1, b :: r => if b.toNat < 128 then 1 else if grp f r = 0 then 0 else grp f r + 1

def decV (l : List UInt8) : Nat × Nat :=
  if grp 7 l ≠ 0 ∧ (vi 7 (val (l.take (grp 7 l)))).length = grp 7 l then (val (l.take (grp 7 l)), grp 7 l) else (0, 0)

theorem grp_cons (f : Nat) (b : UInt8) (r : List UInt8) : grp (f + 1) (b :: r) = if b.toNat < 128 then 1 else if grp f r = 0 then 0 else grp f r + 1 := rfl

theorem grp_at : ∀ (l : List UInt8) (k f : Nat), k < f → (h : k < l.length) → (∀ j (hj : j < k), 128 ≤ (l[j]'(by omega)).toNat) → l[k].toNat < 128 → grp f l = k + 1 := by
  intro l
  induction l with
  | nil => intro k f _ h; simp at h
  | cons b r ih =>
    intro k f hf h hb hk
    obtain ⟨g, rfl⟩ : ∃ g, f = g + 1 := ⟨f - 1, by omega⟩
    rw [grp_cons]
    cases k with
    | zero => rw [if_pos (by simpa using hk)]
    | succ k =>
      have h0 := hb 0 (by omega)
      simp only [List.getElem_cons_zero] at h0
      have := ih k g (by omega) (by simpa using h) (fun j hj => by have := hb (j + 1) (by omega); simpa using this) (by simpa using hk)
      rw [if_neg (by omega), this, if_neg (by omega)]
theorem grp_none : ∀ (l : List UInt8) (f : Nat), (∀ j (hj : j < l.length), j < f → 128 ≤ l[j].toNat) → grp f l = 0 := by
  intro l
  induction l with
  | nil => intro f _; cases f <;> rfl
  | cons b r ih =>
    intro f h
    cases f with
    | zero => rfl
    | succ g =>
      have h0 := h 0 (by simp) (by omega)
      simp only [List.getElem_cons_zero] at h0
      rw [grp_cons, if_neg (by omega), if_pos (ih g fun j hj hjf => by have := h (j + 1) (by simp; omega) (by omega); simpa using this)]
theorem grp_le : ∀ (f : Nat) (l : List UInt8), grp f l ≤ f ∧ grp f l ≤ l.length := by
  intro f
  induction f with
  | zero => intro l; simp [grp]
  | succ f ih =>
    intro l
    cases l with
    | nil => simp [grp]
    | cons b r =>
      have := ih r
      rw [grp_cons]
      split
      · simp
      · split
        · simp
        · simp; omega

theorem val_snoc : ∀ (l : List UInt8) (b : UInt8), val (l ++ [b]) = val l + b.toNat % 128 * 128 ^ l.length := by
  intro l b
  induction l with
  | nil => simp [val]
  | cons c r ih =>
    simp only [List.cons_append, val, ih, List.length_cons, Nat.pow_succ]
    rw [Nat.mul_add, Nat.mul_comm (128 ^ r.length) 128, Nat.mul_left_comm]
    omega
theorem val_lt : ∀ l : List UInt8, val l < 128 ^ l.length := by
  intro l
  induction l with
  | nil => simp [val]
  | cons b r ih =>
    simp only [val, List.length_cons, Nat.pow_succ]
    have := Nat.mod_lt b.toNat (show 0 < 128 by omega)
    omega

theorem ofNat_big (b : UInt8) (h : ¬ b.toNat < 128) (v : Nat) : UInt8.ofNat (128 + (b.toNat % 128 + 128 * v) % 128) = b := by
  apply UInt8.toNat_inj.1
  have := b.toNat_lt
  simp
  omega
theorem vi_cons (b : UInt8) (h : ¬ b.toNat < 128) (v f : Nat) (hv : v ≠ 0) : vi (f + 1) (b.toNat % 128 + 128 * v) = b :: vi f v := by
  rw [vi_big (by omega), ofNat_big b h]
  congr 2
  omega
/-- A run of groups is the shortest one of its number, or its number has a shorter one. -/
theorem vi_val : ∀ (f : Nat) (g : List UInt8), g ≠ [] → grp f g = g.length → vi f (val g) = g ∨ (vi f (val g)).length < g.length := by
  intro f
  induction f with
  | zero => intro g hg h; exact absurd (List.eq_nil_of_length_eq_zero h.symm) hg
  | succ f ih =>
    intro g hg h
    cases g with
    | nil => exact absurd rfl hg
    | cons b r =>
      rw [grp_cons] at h
      by_cases hb : b.toNat < 128
      · rw [if_pos hb] at h
        have hr : r = [] := List.eq_nil_of_length_eq_zero (by simpa using h.symm)
        subst hr
        left
        have e : val [b] = b.toNat := by simp [val]; omega
        rw [e, vi_small hb]
        simp
      · rw [if_neg hb] at h
        by_cases h0 : grp f r = 0
        · rw [if_pos h0] at h; simp at h
        · rw [if_neg h0] at h
          have hr : grp f r = r.length := by simpa using h
          have hr0 : r ≠ [] := by rintro rfl; simp at hr; omega
          by_cases hv : val r = 0
          · right
            have hlen : 0 < r.length := List.length_pos_iff.2 hr0
            simp only [val, hv]
            rw [vi_small (by omega)]
            simp
            omega
          · simp only [val]
            rw [vi_cons b hb _ _ hv]
            rcases ih r hr0 hr with h1 | h1
            · left; rw [h1]
            · right; simpa using h1
/-- What the encoder writes is a run of groups. -/
theorem grp_vi : ∀ (f n : Nat) (r : List UInt8), n < 128 ^ f → 0 < f → grp f (vi f n ++ r) = (vi f n).length ∧ 0 < (vi f n).length := by
  intro f
  induction f with
  | zero => intro n r _ h; omega
  | succ f ih =>
    intro n r hn _
    by_cases h : n < 128
    · rw [vi_small h]
      simp only [List.cons_append, List.nil_append]
      rw [grp_cons, if_pos (by simp; omega)]
      simp
    · rw [vi_big h]
      simp only [List.cons_append]
      rw [grp_cons, if_neg (by simp; omega)]
      have hf : 0 < f := by
        rcases Nat.eq_zero_or_pos f with rfl | hf
        · simp at hn; omega
        · exact hf
      have := ih (n / 128) r (by rw [Nat.pow_succ] at hn; exact Nat.div_lt_of_lt_mul (by simpa [Nat.mul_comm] using hn)) hf
      rw [this.1, if_neg (by omega)]
      simp
theorem val_take_lt (l : List UInt8) (k : Nat) (hk : k ≤ 7) : val (l.take k) < 562949953421312 := by
  have h1 := val_lt (l.take k)
  have h2 : (l.take k).length ≤ 7 := by rw [List.length_take]; omega
  have h3 : 128 ^ (l.take k).length ≤ 128 ^ 7 := Nat.pow_le_pow_right (by omega) h2
  have h4 : 128 ^ 7 = 562949953421312 := by decide
  omega

/-- A prefix that the encoder gives back is the first run of groups. -/
theorem decV_hit (l : List UInt8) (k : Nat) (h1 : 1 ≤ k) (h2 : k ≤ 7) (h3 : k ≤ l.length) (h : vi 7 (val (l.take k)) = l.take k) : decV l = (val (l.take k), k) := by
  have hlt := val_take_lt l k h2
  have hg := (grp_vi 7 (val (l.take k)) (l.drop k) (by simpa using hlt) (by omega)).1
  rw [h, List.take_append_drop, List.length_take, Nat.min_eq_left h3] at hg
  unfold decV
  rw [hg, if_pos ⟨by omega, by rw [h, List.length_take, Nat.min_eq_left h3]⟩]
theorem decV_miss (l : List UInt8) (h : ∀ k, 1 ≤ k → k ≤ 7 → k ≤ l.length → vi 7 (val (l.take k)) ≠ l.take k) : decV l = (0, 0) := by
  unfold decV
  rw [if_neg]
  rintro ⟨h1, h2⟩
  have hle := grp_le 7 l
  have hlen : (l.take (grp 7 l)).length = grp 7 l := by rw [List.length_take]; omega
  have hne : l.take (grp 7 l) ≠ [] := by intro e; rw [e] at hlen; simp at hlen; omega
  have hsame : grp 7 (l.take (grp 7 l)) = grp 7 l := by
    have key : ∀ (f : Nat) (l : List UInt8), grp f l ≠ 0 → grp f (l.take (grp f l)) = grp f l := by
      intro f
      induction f with
      | zero => intro l h; exact absurd rfl h
      | succ f ih =>
        intro l h
        cases l with
        | nil => exact absurd rfl h
        | cons b r =>
          by_cases hb : b.toNat < 128
          · rw [grp_cons, if_pos hb, List.take_succ_cons, grp_cons, if_pos hb]
          · rw [grp_cons, if_neg hb] at h ⊢
            by_cases h0 : grp f r = 0
            · rw [if_pos h0] at h; exact absurd rfl h
            · rw [if_neg h0, List.take_succ_cons, grp_cons, if_neg hb, ih r h0, if_neg h0]
    exact key 7 l h1
  rcases vi_val 7 _ hne (by rw [hsame, hlen]) with hv | hv
  · exact h (grp 7 l) (by omega) hle.1 hle.2 hv
  · omega

end Go.Proofs.YtljlkhlnjjchgaaDoor
