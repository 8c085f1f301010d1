/-
  A text cut at its strokes: the pieces, and the cells that they show. Nothing of the program is claimed here.
-/
import Derived.Test.YtecfabhpjihcbaaGreatDoorSpr
import Derived.Lib.SplitLaws
namespace Go.Proofs.YtecfabhpjihcbaaGreatDoor
open Go.RowKit

def cut47 : List UInt8 → List (List UInt8)
  | [] => [[]]
  | b :: r => if b = 47 then [] :: cut47 r else match cut47 r with
    | p :: ps => (b :: p) :: ps
    | [] => [[b]]
theorem cut47_ne : ∀ l, cut47 l ≠ []
  | [] => by simp [cut47]
  | b :: r => by
    unfold cut47
    split
    · simp
    · split <;> simp
theorem split_nil : Lib.split [] [47] = [[]] := by
  unfold Lib.split
  rw [Lib.count_miss (by simp [Lib.index])]
  rfl
theorem split_47 (r : List UInt8) : Lib.split (47 :: r) [47] = [] :: Lib.split r [47] := by
  have hix : Lib.index (47 :: r) [47] = ((0 : Nat) : Int) := by rw [Lib.index]; simp [List.isPrefixOf]
  unfold Lib.split
  rw [Lib.count_cons_eq, Nat.add_comm]
  show (if Lib.index (47 :: r) [47] == -1 then [47 :: r] else (47 :: r).take ((Lib.index (47 :: r) [47]).toNat + 0) :: Lib.splitK [47] 0 (Lib.count r [47]) ((47 :: r).drop ((Lib.index (47 :: r) [47]).toNat + [(47 : UInt8)].length))) = _
  rw [if_neg (by rw [hix]; decide), hix]
  rfl
theorem split_no (b : UInt8) (r : List UInt8) (h : b ≠ 47) : Lib.split (b :: r) [47] = match Lib.split r [47] with
    | p :: ps => (b :: p) :: ps
    | [] => [[b]] := by
  have hp : ([47] : List UInt8).isPrefixOf (b :: r) = false := by simp [List.isPrefixOf, Ne.symm h]
  have hix : Lib.index (b :: r) [47] = if Lib.index r [47] == -1 then -1 else Lib.index r [47] + 1 := by rw [Lib.index, hp]; simp
  unfold Lib.split
  rw [Lib.count_cons_ne b 47 r h]
  by_cases hm : Lib.index r [47] = -1
  · rw [Lib.count_miss hm]
    rfl
  · have hge := Lib.index_ge r [47]
    obtain ⟨j, hj⟩ : ∃ j : Nat, Lib.index r [47] = j := ⟨(Lib.index r [47]).toNat, by omega⟩
    have hix' : Lib.index (b :: r) [47] = ((j + 1 : Nat) : Int) := by rw [hix, if_neg (fun e => hm (beq_iff_eq.1 e)), hj]; omega
    rw [Lib.count_hit (by simp) hj, Nat.add_comm]
    unfold Lib.splitK
    rw [if_neg (by rw [hix', beq_iff_eq]; omega), if_neg (by rw [hj, beq_iff_eq]; omega), hix', hj]
    simp
theorem split_cut : ∀ l, Lib.split l [47] = cut47 l
  | [] => split_nil
  | b :: r => by
    unfold cut47
    by_cases h : b = 47
    · subst h
      rw [if_pos rfl, split_47, split_cut r]
    · rw [if_neg h, split_no b r h, split_cut r]
/-- The cells of one row's text. -/
def hsh : List UInt8 → Int → Int → List Cl
  | [], _, _ => []
  | b :: r, x, y => if b = 35 then (x, y) :: hsh r (x + 1) y else hsh r (x + 1) y
theorem hsh_append : ∀ (a b : List UInt8) (x y : Int), hsh (a ++ b) x y = hsh a x y ++ hsh b (x + a.length) y
  | [], b, x, y => by simp [hsh]
  | c :: a, b, x, y => by
    have e : x + ((c :: a).length : Int) = x + 1 + (a.length : Int) := by simp only [List.length_cons]; omega
    rw [List.cons_append, hsh, hsh, e]
    split
    · rw [hsh_append a b]; rfl
    · exact hsh_append a b _ _
theorem hsh_len : ∀ (a : List UInt8) (x y : Int), (hsh a x y).length ≤ a.length
  | [], x, y => by simp [hsh]
  | c :: a, x, y => by
    have := hsh_len a (x + 1) y
    rw [hsh]
    split <;> (simp only [List.length_cons]; omega)
def rowsX : List (List UInt8) → Int → Int → List Cl
  | [], _, _ => []
  | p :: ps, x, y => hsh p x y ++ rowsX ps 0 (y + 1)
theorem rowsX_append : ∀ (a b : List (List UInt8)) (y : Int), rowsX (a ++ b) 0 y = rowsX a 0 y ++ rowsX b 0 (y + a.length)
  | [], b, y => by simp [rowsX]
  | p :: a, b, y => by
    have e : y + ((p :: a).length : Int) = y + 1 + (a.length : Int) := by simp only [List.length_cons]; omega
    rw [List.cons_append, rowsX, rowsX, rowsX_append a b, e, List.append_assoc]
theorem rows_cut : ∀ (l : List UInt8) (x y : Int), rowsX (cut47 l) x y = pcs l x y
  | [], x, y => by simp [cut47, rowsX, hsh, pcs]
  | b :: r, x, y => by
    unfold cut47
    rw [pcs]
    by_cases h : b = 47
    · rw [if_pos h, if_pos h, rowsX, hsh, List.nil_append, rows_cut r]
    · rw [if_neg h, if_neg h, ← rows_cut r (x + 1) y]
      have hne := cut47_ne r
      cases hc : cut47 r with
      | nil => exact absurd hc hne
      | cons p ps =>
        show rowsX ((b :: p) :: ps) x y = _
        rw [rowsX, rowsX, hsh]
        split <;> rfl
/-- The pieces of a text, as the library gives them. -/
def pieces (s : ByteArray) : List ByteArray := Lib.splitB ⟨#[47]⟩ 0 (Lib.countB s ⟨#[47]⟩) s
theorem pieces_len (s : ByteArray) : (pieces s).length = Lib.countB s ⟨#[47]⟩ + 1 := Lib.splitB_all ⟨#[47]⟩ (by decide) 0 _ s rfl
theorem pieces_data (s : ByteArray) : (pieces s).map (fun p => tx p) = cut47 (tx s) := by
  rw [← split_cut]
  unfold pieces
  rw [Lib.splitB_data]
  rfl
theorem pieces_cells (s : ByteArray) : rowsX ((pieces s).map fun p => tx p) 0 0 = pcs (tx s) 0 0 := by rw [pieces_data, rows_cut]
/-- What the first k pieces show, and j bytes of the next one. -/
def seen (s : ByteArray) (k j : Nat) : List Cl := rowsX (((pieces s).map fun p => tx p).take k) 0 0 ++ hsh ((((pieces s).map fun p => tx p).getD k []).take j) 0 k
theorem seen_zero (s : ByteArray) : seen s 0 0 = [] := by simp [seen, rowsX, hsh]
theorem pieces_get (s : ByteArray) (k : Nat) (h : k < (pieces s).length) : ((pieces s).map fun p => tx p).getD k [] = tx ((pieces s)[k]) := by simp [List.getD, h]
theorem seen_next (s : ByteArray) (k j : Nat) (h : k < (pieces s).length) (hj : j < (pieces s)[k].size) : seen s k (j + 1) = seen s k j ++ (if (pieces s)[k][j] = 35 then [((j : Int), (k : Int))] else []) := by
  unfold seen
  rw [pieces_get s k h, tx_take _ j hj, hsh_append, List.append_assoc]
  have e : (((tx (pieces s)[k]).take j).length : Int) = j := by rw [List.length_take, tx_len]; omega
  rw [e]
  congr 2
  simp [hsh]
theorem seen_row (s : ByteArray) (k : Nat) (h : k < (pieces s).length) : seen s k (pieces s)[k].size = seen s (k + 1) 0 := by
  unfold seen
  rw [pieces_get s k h]
  have hl : k < ((pieces s).map fun p => tx p).length := by rw [List.length_map]; exact h
  have e1 : (tx (pieces s)[k]).take (pieces s)[k].size = tx (pieces s)[k] := List.take_of_length_le (by rw [tx_len]; exact Nat.le_refl _)
  rw [e1, List.take_succ_eq_append_getElem hl, rowsX_append]
  have e2 : (0 : Int) + ((((pieces s).map fun p => tx p).take k).length : Int) = k := by rw [List.length_take]; omega
  rw [e2, List.take_zero]
  simp [hsh, rowsX]
theorem seen_all (s : ByteArray) : seen s (pieces s).length 0 = pcs (tx s) 0 0 := by
  unfold seen
  rw [List.take_of_length_le (by rw [List.length_map]; exact Nat.le_refl _), pieces_cells]
  simp [hsh]
theorem seen_le (s : ByteArray) (k j : Nat) (h : k < (pieces s).length) : (seen s k j).length ≤ s.size := by
  have h1 := (pcs_bd (tx s) 0 0 (by omega) (by omega)).1
  rw [tx_len, ← pieces_cells] at h1
  have hl : k < ((pieces s).map fun p => tx p).length := by rw [List.length_map]; exact h
  have e : ((pieces s).map fun p => tx p) = ((pieces s).map fun p => tx p).take k ++ ((pieces s).map fun p => tx p)[k] :: ((pieces s).map fun p => tx p).drop (k + 1) := by
    rw [← List.drop_eq_getElem_cons hl, List.take_append_drop]
  rw [e, rowsX_append, rowsX] at h1
  have e2 : ((pieces s).map fun p => tx p)[k] = ((((pieces s).map fun p => tx p).getD k []).take j) ++ ((((pieces s).map fun p => tx p).getD k []).drop j) := by
    rw [List.take_append_drop]
    simp [List.getD, h]
  rw [e2, hsh_append] at h1
  have e3 : (0 : Int) + ((((pieces s).map fun p => tx p).take k).length : Int) = k := by rw [List.length_take]; omega
  rw [e3] at h1
  unfold seen
  simp only [List.length_append] at h1 ⊢
  omega

end Go.Proofs.YtecfabhpjihcbaaGreatDoor
