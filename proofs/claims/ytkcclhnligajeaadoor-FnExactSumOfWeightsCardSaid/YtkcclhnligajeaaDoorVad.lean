/-
  Enumeration: one cell more, all fixed shapes, the first among results of motions: plain facts, nothing of the program.
  Cells compared as structs: what the comparison gives.
  Looking for a cell, cells side by side, equal lists, in the model: what each call gives.
  The size of a shape, in the model: what the call gives.
  Do cells hang together, in the model: what the call gives.
-/
import Derived.Test.YtkcclhnligajeaaDoorPu3
import Derived.Test.YtkcclhnligajeaaDoorVaa
import Derived.Laws.StructEq
import Derived.Test.YtkcclhnligajeaaDoorVac
import Derived.Shelf.SlSortCmp.QuietGrown
namespace Go.Proofs.YtkcclhnligajeaaDoor

section
theorem sortG_snoc {α : Type} [DecidableEq α] (lt : α → α → Bool) (d : α) (l : List α) (x : α) : sortG lt d (l ++ [x]) = insG lt d (sortG lt d l) x := by
  unfold sortG
  rw [List.foldl_append]
  rfl
theorem insG_le {α : Type} [DecidableEq α] (lt : α → α → Bool) (d : α) (o : List α) (x : α) : (insG lt d o x).length ≤ o.length + 1 := by
  unfold insG
  split
  · omega
  · simp; omega
theorem sortG_le {α : Type} [DecidableEq α] (lt : α → α → Bool) (d : α) (l : List α) : (sortG lt d l).length ≤ l.length := by
  have key : ∀ (l o : List α), (l.foldl (insG lt d) o).length ≤ o.length + l.length := by
    intro l
    induction l with
    | nil => intro o; simp
    | cons c l ih =>
      intro o
      rw [List.foldl_cons]
      have := ih (insG lt d o c)
      have := insG_le lt d o c
      simp only [List.length_cons]
      omega
  have := key l []
  simpa [sortG] using this

/-! ### One cell more -/
/-- The cell at side d. -/
def nbC (c : Cl) (d : Nat) : Cl := (c.1 + (1 - (d : Int)).tmod 2, c.2 + (2 - (d : Int)).tmod 2)
def moreC (l : List Cl) (x : Cl) : List Cl := cornerC (sortU (l ++ [x]))
def extAt (l : List Cl) (i d : Nat) : List (List Cl) := if hasC l (nbC (l.getD i (0, 0)) d).1 (nbC (l.getD i (0, 0)) d).2 = true then [] else if isShape (moreC l (nbC (l.getD i (0, 0)) d)) = true then [moreC l (nbC (l.getD i (0, 0)) d)] else []
def extRow (l : List Cl) (i : Nat) : Nat → List (List Cl)
  | 0 => []
  | d + 1 => extRow l i d ++ extAt l i d
def extTo (l : List Cl) : Nat → List (List Cl)
  | 0 => []
  | i + 1 => extTo l i ++ extRow l i 4
def extS (l : List Cl) : List (List Cl) := if (isShape l && !decide (l.length = 8)) = true then sortG ltS [] (extTo l l.length) else []
theorem extAt_has {l : List Cl} {i d : Nat} {c : Cl} (hc : l.getD i (0, 0) = c) (h : hasC l (nbC c d).1 (nbC c d).2 = true) : extAt l i d = [] := by
  subst hc
  exact if_pos h
theorem extAt_no {l : List Cl} {i d : Nat} {c : Cl} (hc : l.getD i (0, 0) = c) (h : hasC l (nbC c d).1 (nbC c d).2 = false) (h2 : isShape (moreC l (nbC c d)) = false) : extAt l i d = [] := by
  subst hc
  unfold extAt
  rw [if_neg (by rw [h]; simp), if_neg (by rw [h2]; simp)]
theorem extAt_yes {l : List Cl} {i d : Nat} {c : Cl} (hc : l.getD i (0, 0) = c) (h : hasC l (nbC c d).1 (nbC c d).2 = false) (h2 : isShape (moreC l (nbC c d)) = true) : extAt l i d = [moreC l (nbC c d)] := by
  subst hc
  unfold extAt
  rw [if_neg (by rw [h]; simp), if_pos h2]
theorem extAt_le (l : List Cl) (i d : Nat) : (extAt l i d).length ≤ 1 := by
  unfold extAt
  split
  · simp
  · split <;> simp
theorem extRow_le (l : List Cl) (i : Nat) : ∀ d, (extRow l i d).length ≤ d
  | 0 => by simp [extRow]
  | d + 1 => by
    have := extRow_le l i d
    have := extAt_le l i d
    simp only [extRow, List.length_append]
    omega
theorem extTo_le (l : List Cl) : ∀ i, (extTo l i).length ≤ 4 * i
  | 0 => by simp [extTo]
  | i + 1 => by
    have := extTo_le l i
    have := extRow_le l i 4
    simp only [extTo, List.length_append]
    omega
theorem mem_extRow (l : List Cl) (i : Nat) (x : List Cl) : ∀ n, x ∈ extRow l i n ↔ ∃ d, d < n ∧ x ∈ extAt l i d
  | 0 => by simp [extRow]
  | n + 1 => by
    simp only [extRow, List.mem_append, mem_extRow l i x n]
    constructor
    · rintro (⟨d, hd, h⟩ | h)
      · exact ⟨d, by omega, h⟩
      · exact ⟨n, by omega, h⟩
    · rintro ⟨d, hd, h⟩
      by_cases e : d = n
      · exact .inr (e ▸ h)
      · exact .inl ⟨d, by omega, h⟩
theorem mem_extTo (l : List Cl) (x : List Cl) : ∀ n, x ∈ extTo l n ↔ ∃ i, i < n ∧ ∃ d, d < 4 ∧ x ∈ extAt l i d
  | 0 => by simp [extTo]
  | n + 1 => by
    simp only [extTo, List.mem_append, mem_extTo l x n, mem_extRow l n x 4]
    constructor
    · rintro (⟨i, hi, h⟩ | h)
      · exact ⟨i, by omega, h⟩
      · exact ⟨n, by omega, h⟩
    · rintro ⟨i, hi, h⟩
      by_cases e : i = n
      · exact .inr (e ▸ h)
      · exact .inl ⟨i, by omega, h⟩
theorem mem_extAt (l : List Cl) (i d : Nat) (x : List Cl) : x ∈ extAt l i d ↔ nbC (l.getD i (0, 0)) d ∉ l ∧ isShape (moreC l (nbC (l.getD i (0, 0)) d)) = true ∧ x = moreC l (nbC (l.getD i (0, 0)) d) := by
  unfold extAt
  generalize nbC (l.getD i (0, 0)) d = c
  by_cases h1 : hasC l c.1 c.2 = true
  · rw [if_pos h1]
    have := (hasC_iff l c).1 h1
    simp [this]
  · rw [if_neg h1]
    have h3 : c ∉ l := fun h => h1 ((hasC_iff l _).2 h)
    by_cases h2 : isShape (moreC l c) = true
    · rw [if_pos h2]
      simp [h3, h2]
    · rw [if_neg h2]
      simp [h2]
/-- The shapes with one cell more, by what they are. -/
theorem mem_extS (l : List Cl) (x : List Cl) : x ∈ extS l ↔ isShape l = true ∧ l.length ≠ 8 ∧ ∃ c ∈ l, ∃ d, d < 4 ∧ nbC c d ∉ l ∧ isShape (moreC l (nbC c d)) = true ∧ x = moreC l (nbC c d) := by
  unfold extS
  by_cases h : (isShape l && !decide (l.length = 8)) = true
  · rw [if_pos h, sortG_mem ordS, mem_extTo]
    have h' := h
    simp only [Bool.and_eq_true, Bool.not_eq_true', decide_eq_false_iff_not] at h'
    constructor
    · rintro ⟨i, hi, d, hd, hx⟩
      exact ⟨h'.1, h'.2, l.getD i (0, 0), getD_mem hi, d, hd, (mem_extAt l i d x).1 hx⟩
    · rintro ⟨_, _, c, hc, d, hd, hx⟩
      obtain ⟨i, hi, rfl⟩ := mem_getD hc
      exact ⟨i, hi, d, hd, (mem_extAt l i d x).2 hx⟩
  · rw [if_neg h]
    constructor
    · intro h2; cases h2
    · rintro ⟨h1, h2, _⟩
      exact absurd (by simp [h1, h2]) h
theorem extS_srt (l : List Cl) : SrtG ltS (extS l) := by
  unfold extS
  split
  · exact sortG_srt ordS [] _
  · exact List.Pairwise.nil
theorem extS_shape {l x : List Cl} (h : x ∈ extS l) : isShape x = true := by
  obtain ⟨_, _, c, _, d, _, _, h1, rfl⟩ := (mem_extS l x).1 h
  exact h1
theorem extS_le (l : List Cl) : (extS l).length ≤ 32 := by
  unfold extS
  split
  · rename_i h
    simp only [Bool.and_eq_true] at h
    have h8 := ((isShape_iff l).1 h.1).1.2
    have := sortG_le ltS [] (extTo l l.length)
    have := extTo_le l l.length
    omega
  · simp
theorem extS_le4 (l : List Cl) : (extS l).length ≤ 4 * l.length := by
  unfold extS
  split
  · have := sortG_le ltS [] (extTo l l.length)
    have := extTo_le l l.length
    omega
  · simp
theorem moreC_len (l : List Cl) (x : Cl) : (moreC l x).length ≤ l.length + 1 := by
  have := sortU_len (l ++ [x])
  unfold moreC cornerC
  simp at this ⊢
  exact this

/-! ### All fixed shapes -/
def fixT : Nat → List (List Cl)
  | 0 => [[(0, 0)]]
  | k + 1 => sortG ltS [] ((fixT k).flatMap extS)
def fixS (n : Int) : List (List Cl) := if inb n 1 5 = true then fixT (n.toNat - 1) else []
theorem fixT_shape : ∀ (k : Nat) {x : List Cl}, x ∈ fixT k → isShape x = true ∧ x.length ≤ k + 1
  | 0, x, h => by
    simp only [fixT, List.mem_singleton] at h
    subst h
    exact ⟨by decide, by simp⟩
  | k + 1, x, h => by
    simp only [fixT, sortG_mem ordS, List.mem_flatMap] at h
    obtain ⟨y, hy, hx⟩ := h
    have h1 := fixT_shape k hy
    have h2 := extS_shape hx
    obtain ⟨_, _, c, _, d, _, _, _, rfl⟩ := (mem_extS y x).1 hx
    have := moreC_len y (nbC c d)
    exact ⟨h2, by omega⟩
theorem flat_le (L : List (List Cl)) (n : Nat) (h : ∀ x ∈ L, (extS x).length ≤ n) : (L.flatMap extS).length ≤ n * L.length := by
  induction L with
  | nil => simp
  | cons a r ih =>
    have h1 := h a (by simp)
    have h2 := ih fun x hx => h x (by simp [hx])
    simp only [List.flatMap_cons, List.length_append, List.length_cons, Nat.mul_add]
    omega
theorem fixT_le (k : Nat) : (fixT (k + 1)).length ≤ 4 * (k + 1) * (fixT k).length := by
  have h1 := sortG_le ltS [] ((fixT k).flatMap extS)
  have h2 := flat_le (fixT k) (4 * (k + 1)) fun x hx => by
    have := extS_le4 x
    have := (fixT_shape k hx).2
    omega
  exact Nat.le_trans h1 h2
theorem fixT_bd : ∀ k, k ≤ 4 → (fixT k).length ≤ 6144 := by
  have h0 : (fixT 0).length = 1 := rfl
  have h1 : (fixT 1).length ≤ 4 * (fixT 0).length := by simpa only [Nat.reduceAdd, Nat.reduceMul] using fixT_le 0
  have h2 : (fixT 2).length ≤ 8 * (fixT 1).length := by simpa only [Nat.reduceAdd, Nat.reduceMul] using fixT_le 1
  have h3 : (fixT 3).length ≤ 12 * (fixT 2).length := by simpa only [Nat.reduceAdd, Nat.reduceMul] using fixT_le 2
  have h4 : (fixT 4).length ≤ 16 * (fixT 3).length := by simpa only [Nat.reduceAdd, Nat.reduceMul] using fixT_le 3
  intro k hk
  have : k = 0 ∨ k = 1 ∨ k = 2 ∨ k = 3 ∨ k = 4 := by omega
  rcases this with rfl | rfl | rfl | rfl | rfl <;> omega
theorem fixT_srt : ∀ k, SrtG ltS (fixT k)
  | 0 => by simp [fixT, SrtG]
  | k + 1 => sortG_srt ordS [] _
theorem fixS_srt (n : Int) : SrtG ltS (fixS n) := by
  unfold fixS
  split
  · exact fixT_srt _
  · exact List.Pairwise.nil
theorem fixS_bd (n : Int) : (fixS n).length ≤ 6144 := by
  unfold fixS
  split
  · rename_i h
    unfold inb at h
    simp at h
    exact fixT_bd _ (by omega)
  · simp
theorem fixS_shape {n : Int} {x : List Cl} (h : x ∈ fixS n) : isShape x = true ∧ x.length ≤ 5 := by
  unfold fixS at h
  split at h
  · rename_i h1
    unfold inb at h1
    simp at h1
    have := fixT_shape _ h
    exact ⟨this.1, by omega⟩
  · cases h

/-! ### The first of its results -/
def leastS (m : Nat) (l : List Cl) : Bool := (List.range m).all fun k => !decide (cmpS (turnC k l) l < 0)
def firstS (m : Nat) (n : Int) : List (List Cl) := (fixS n).filter (leastS m)
def countS (n : Int) : Int := if inb n 1 5 = true then ((firstS 8 n).length : Int) else -1
theorem leastS_succ (l : List Cl) (m : Nat) : leastS (m + 1) l = (leastS m l && !decide (cmpS (turnC m l) l < 0)) := by
  unfold leastS
  rw [List.range_succ, List.all_append]
  simp
theorem leastS_false {l : List Cl} {k m : Nat} (h : cmpS (turnC k l) l < 0) (hk : k < m) : leastS m l = false := by
  rw [← Bool.not_eq_true]
  intro h2
  unfold leastS at h2
  rw [List.all_eq_true] at h2
  have := h2 k (List.mem_range.2 hk)
  simp [h] at this
theorem filter_snoc {α : Type} (p : α → Bool) (d : α) (l : List α) (k : Nat) (h : k < l.length) : (l.take (k + 1)).filter p = (l.take k).filter p ++ (if p (l.getD k d) = true then [l.getD k d] else []) := by
  rw [List.take_succ_eq_append_getElem h, List.filter_append]
  congr 1
  simp only [List.getD_eq_getElem?_getD, List.getElem?_eq_getElem h, Option.getD_some]
  cases hp : p l[k] <;> simp [hp]
theorem filter_le {α : Type} (p : α → Bool) (l : List α) : (l.filter p).length ≤ l.length := List.length_filter_le p l
end

section
open Go.RowKit

theorem int_plain : (Tryd.prog.underlying 3) = some (.int .i64) := Tryd.underlying3
def sameC (a b : Cl) : Bool := decide (a = b)
theorem sameC_eq (x y u v : Int) : sameC (x, y) (u, v) = ((x == u) && (y == v)) := by
  unfold sameC
  rw [Bool.eq_iff_iff]
  simp
theorem part_int (cs : Array Value) (off : Nat) (v : Value) (h : cs[off]? = some v) (w : World) : (part 3 cs off).run Tryd.prog w = .ok v w := by
  unfold part
  simp [go_sem, h]

theorem part_0 (a b : Value) (w : World) : (part 3 #[a, b] 0).run Tryd.prog w = .ok a w := part_int _ _ _ rfl w
theorem part_1 (a b : Value) (w : World) : (part 3 #[a, b] 1).run Tryd.prog w = .ok b w := part_int _ _ _ rfl w
end

section
open Go.RowKit

theorem take_any (l : List Cl) (p : Cl → Bool) (k : Nat) (h : k < l.length) : (l.take (k + 1)).any p = ((l.take k).any p || p (l.getD k (0, 0))) := by
  rw [List.take_succ_eq_append_getElem h, List.any_append]
  simp [List.getD, h]
theorem any_yes {l : List Cl} {p : Cl → Bool} {k : Nat} (h : k < l.length) (hp : p (l.getD k (0, 0)) = true) : l.any p = true := by
  rw [List.any_eq_true]
  refine ⟨l[k], List.getElem_mem h, ?_⟩
  simpa [List.getD, h] using hp

theorem sq_bd (x : Int) (h1 : -7 ≤ x) (h2 : x ≤ 7) : 0 ≤ x * x ∧ x * x ≤ 49 := by
  rcases Int.le_total 0 x with h | h
  · exact ⟨Int.mul_nonneg h h, Int.le_trans (Int.mul_le_mul h2 h2 h (by omega)) (by omega)⟩
  · have h3 : 0 ≤ (-x) * (-x) := Int.mul_nonneg (by omega) (by omega)
    have h4 : (-x) * (-x) ≤ 7 * 7 := Int.mul_le_mul (by omega) (by omega) (by omega) (by omega)
    rw [Int.neg_mul_neg] at h3 h4
    omega
end

section
open Go.RowKit

theorem cornerC_in {l : List Cl} (hp : ∀ c ∈ l, inP c = true) : ∀ c ∈ cornerC l, inP c = true := by
  intro c hc
  obtain ⟨d, hd, rfl⟩ := List.mem_map.1 hc
  have h1 := inP_out (hp d hd)
  obtain ⟨j, hj, rfl⟩ := List.getElem_of_mem hd
  have e : l[j] = l.getD j (0, 0) := by simp [List.getD, hj]
  rw [e] at h1 ⊢
  have h2 := minTo_le Prod.fst l l.length j hj
  have h3 := minTo_le Prod.snd l l.length j hj
  have h4 := minTo_bd Prod.fst l 7 (by omega) (fun j hj => by have := inP_out (hp _ (getD_mem hj)); omega) l.length (Nat.le_refl _)
  have h5 := minTo_bd Prod.snd l 7 (by omega) (fun j hj => by have := inP_out (hp _ (getD_mem hj)); omega) l.length (Nat.le_refl _)
  unfold minX minY inP inb
  simp only [Bool.and_eq_true, decide_eq_true_eq]
  omega
theorem cornS_in (l : List Cl) : ∀ c ∈ cornS l, inP c = true := by
  unfold cornS
  split
  · rename_i h
    exact cornerC_in (isShape_in h)
  · intro c hc; cases hc
theorem isShape_len {l : List Cl} (h : isShape l = true) : 1 ≤ l.length ∧ l.length ≤ 8 := by
  simp [isShape, inb] at h
  omega
theorem cornS_len (l : List Cl) : (cornS l).length ≤ 8 := by
  unfold cornS
  split
  · rename_i h
    have := isShape_len h
    unfold cornerC
    rw [List.length_map]
    omega
  · simp
theorem inP_in {c : Cl} (h : inP c = true) : InC c := by
  have := inP_out h
  unfold InC
  omega
theorem maxTo_bd (f : Cl → Int) (l : List Cl) (h : ∀ c ∈ l, 0 ≤ f c ∧ f c ≤ 7) : ∀ k, k ≤ l.length → 0 ≤ maxTo f l k ∧ maxTo f l k ≤ 8
  | 0, _ => by simp [maxTo]
  | k + 1, hk => by
    have h1 := maxTo_bd f l h k (by omega)
    have h2 := h _ (getD_mem (l := l) (j := k) (by omega))
    unfold maxTo
    split
    · omega
    · exact h1
end

section
open Go.RowKit

def Conn (l : List Cl) : Prop := isShape l = true ∧ AllRch l
end

end Go.Proofs.YtkcclhnligajeaaDoor
