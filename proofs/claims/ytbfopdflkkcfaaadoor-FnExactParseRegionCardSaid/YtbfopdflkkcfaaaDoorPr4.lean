/-
  What the program reads of a text cut at its strokes: plain facts, nothing of the program.
-/
import Derived.Test.YtbfopdflkkcfaaaDoorPr3
import Derived.Test.YtbfopdflkkcfaaaDoorCut
import Derived.Test.YtbfopdflkkcfaaaDoorSr5
import Derived.OpenShut
namespace Go.Proofs.YtbfopdflkkcfaaaDoor
open Go.RowKit

def vTo (p : List UInt8) : Nat → Int
  | 0 => 0
  | x + 1 => if p.getD x 0 = 35 then bits .or .i64 (vTo p x) (shV x) else vTo p x
theorem vTo_in (p : List UInt8) : ∀ x, In64 (vTo p x)
  | 0 => by unfold vTo In64; omega
  | x + 1 => by
    rw [vTo]
    split
    · have h := wf_bits .or .i64 (vTo p x) (shV x)
      simp [Lit.wf, IntKind.min, IntKind.max, IntKind.signed, IntKind.bits] at h
      unfold In64
      omega
    · exact vTo_in p x
theorem vTo_row {W H : Nat} {l : List Int} (h : Rg W H l) {y : Nat} (hy : y < H) : ∀ x, x ≤ W → vTo (rowB l y W) x = ((rN l y % 2 ^ x : Nat) : Int)
  | 0, _ => by unfold vTo; simp [Nat.mod_one]
  | x + 1, hx => by
    have h6 := h.w6
    have hn := h.nat hy
    have e : (rowB l y W).getD x 0 = if bt l ((x : Int), (y : Int)) = true then 35 else 46 := by
      unfold rowB
      simp [List.getD, show x < W by omega]
    have hm := mod_bits (rN l y) hn.2.2 x (by omega)
    rw [vTo, e, vTo_row h hy x (by omega), hm, bt_nat]
    cases hb : (rN l y).testBit x with
    | true =>
      rw [if_pos rfl, if_pos rfl, if_pos rfl]
      exact or_val (Nat.lt_of_le_of_lt (Nat.mod_le _ _) hn.2.2) (by omega)
    | false =>
      rw [if_neg (by decide), if_neg (by decide)]
theorem vTo_all {W H : Nat} {l : List Int} (h : Rg W H l) {y : Nat} (hy : y < H) : vTo (rowB l y W) W = l.getD y 0 := by
  have hn := h.nat hy
  rw [vTo_row h hy W (Nat.le_refl _), Nat.mod_eq_of_lt hn.2.1, hn.1]
theorem cut_no : ∀ (b : List UInt8), (∀ c ∈ b, c ≠ 47) → cut47 b = [b]
  | [], _ => rfl
  | c :: b, h => by
    unfold cut47
    rw [if_neg (h c (by simp)), cut_no b fun d hd => h d (by simp [hd])]
theorem cut_snoc (b : List UInt8) (hb : ∀ c ∈ b, c ≠ 47) : ∀ a, cut47 (a ++ 47 :: b) = cut47 a ++ [b]
  | [] => by
    rw [List.nil_append]
    unfold cut47
    rw [if_pos rfl, cut_no b hb]
    rfl
  | c :: a => by
    rw [List.cons_append]
    unfold cut47
    rw [cut_snoc b hb a]
    by_cases hc : c = 47
    · rw [if_pos hc, if_pos hc]; rfl
    · rw [if_neg hc, if_neg hc]
      cases hq : cut47 a with
      | nil => exact absurd hq (cut47_ne a)
      | cons p ps => rfl
theorem cut_fmt (W : Nat) (l : List Int) : ∀ H, cut47 (fmtT W l (H + 1)) = (List.range (H + 1)).map fun y => rowB l y W
  | 0 => by
    have : fmtT W l 1 = rowB l 0 W := by simp [fmtT]
    rw [this, cut_no _ (fun c hc => by rcases rowB_by l 0 W c hc with rfl | rfl <;> decide)]
    rfl
  | H + 1 => by
    have : fmtT W l (H + 1 + 1) = fmtT W l (H + 1) ++ 47 :: rowB l (H + 1) W := by
      rw [fmtT, if_neg (by omega)]
      rfl
    rw [this, cut_snoc _ (fun c hc => by rcases rowB_by l (H + 1) W c hc with rfl | rfl <;> decide), cut_fmt W l H, List.range_succ (n := H + 1), List.map_append]
    rfl
def outW (s : List UInt8) : Int := (((cut47 s).getD 0 []).length : Int)
def outL (s : List UInt8) : List Int := (cut47 s).map fun p => vTo p p.length
theorem out_fmt {W H : Nat} {l : List Int} (h : Rg W H l) : outW (fmtR W l) = W ∧ outL (fmtR W l) = l := by
  obtain ⟨K, hK⟩ : ∃ K, H = K + 1 := ⟨H - 1, by have := h.h0; omega⟩
  rw [fmtR_yes h]
  subst hK
  unfold outW outL
  rw [cut_fmt]
  constructor
  · simp [List.getD, rowB_ln]
  · apply List.ext_getElem
    · simp [h.len]
    · intro j h1 h2
      have hj : j < K + 1 := by simpa using h1
      have h9 := vTo_all h hj
      simp only [List.getElem_map, List.getElem_range, rowB_ln]
      rw [h9]
      simp [List.getD, h2]
theorem out_yes {s : List UInt8} (h : okQ s) : isReg (outW s) (outL s) = true ∧ fmtR (outW s) (outL s) = s ∧ outW s = resW s ∧ outL s = resL s := by
  obtain ⟨W, H, l, hr, e, h1, h2, _⟩ := okQ_out h
  obtain ⟨o1, o2⟩ := out_fmt hr
  rw [← e] at o1 o2
  rw [o1, o2, (res_yes h).1, (res_yes h).2, h1, h2, ← e]
  exact ⟨isReg_of hr, rfl, rfl, rfl⟩
theorem out_no {s : List UInt8} (h : ¬ okQ s) : isReg (outW s) (outL s) = false ∨ fmtR (outW s) (outL s) ≠ s := by
  cases h1 : isReg (outW s) (outL s) with
  | false => exact .inl rfl
  | true => exact .inr fun e => h ⟨_, _, h1, e⟩

end Go.Proofs.YtbfopdflkkcfaaaDoor
