/-
  A text cut at its strokes: the pieces. Nothing of the program is claimed here.
-/
import Derived.Test.YtbfopdflkkcfaaaDoorCel
import Derived.Lib.SplitLaws
namespace Go.Proofs.YtbfopdflkkcfaaaDoor
open Go.RowKit

abbrev tx (s : ByteArray) : List UInt8 := s.data.toList
theorem tx_len (s : ByteArray) : (tx s).length = s.size := by simp
theorem tx_get (s : ByteArray) (k : Nat) (h : k < s.size) : (tx s)[k]'(by rw [tx_len]; exact h) = s[k] := rfl
theorem tx_take (s : ByteArray) (k : Nat) (h : k < s.size) : (tx s).take (k + 1) = (tx s).take k ++ [s[k]] := by
  rw [List.take_succ_eq_append_getElem (by rw [tx_len]; exact h), tx_get s k h]
theorem byte_int (b : UInt8) (c : UInt8) : (((b.toNat : Int)) == (c.toNat : Int)) = decide (b = c) := by
  rw [Bool.eq_iff_iff, beq_iff_eq, decide_eq_true_eq]
  constructor
  · intro h
    exact UInt8.toNat_inj.1 (by omega)
  · rintro rfl; rfl
def cut47 : List UInt8 → List (List UInt8)
  | [] => [[]]
  | b :: r => if b = 47 then [] :: cut47 r else match cut47 r with
    | p :: ps => (b :: p) :: ps
    | [] => [[b]]
theorem cut47_ne : ∀ l, cut47 l ≠ []
  | [] => by simp [cut47]
  | b :: r => by
    unfold cut47
    split
    · simp
    · split <;> simp
theorem split_nil : Lib.split [] [47] = [[]] := by
  unfold Lib.split
  rw [Lib.count_miss (by simp [Lib.index])]
  rfl
theorem split_47 (r : List UInt8) : Lib.split (47 :: r) [47] = [] :: Lib.split r [47] := by
  have hix : Lib.index (47 :: r) [47] = ((0 : Nat) : Int) := by rw [Lib.index]; simp [List.isPrefixOf]
  unfold Lib.split
  rw [Lib.count_cons_eq, Nat.add_comm]
  show (if Lib.index (47 :: r) [47] == -1 then [47 :: r] else (47 :: r).take ((Lib.index (47 :: r) [47]).toNat + 0) :: Lib.splitK [47] 0 (Lib.count r [47]) ((47 :: r).drop ((Lib.index (47 :: r) [47]).toNat + [(47 : UInt8)].length))) = _
  rw [if_neg (by rw [hix]; decide), hix]
  rfl
theorem split_no (b : UInt8) (r : List UInt8) (h : b ≠ 47) : Lib.split (b :: r) [47] = match Lib.split r [47] with
    | p :: ps => (b :: p) :: ps
    | [] => [[b]] := by
  have hp : ([47] : List UInt8).isPrefixOf (b :: r) = false := by simp [List.isPrefixOf, Ne.symm h]
  have hix : Lib.index (b :: r) [47] = if Lib.index r [47] == -1 then -1 else Lib.index r [47] + 1 := by rw [Lib.index, hp]; simp
  unfold Lib.split
  rw [Lib.count_cons_ne b 47 r h]
  by_cases hm : Lib.index r [47] = -1
  · rw [Lib.count_miss hm]
    rfl
  · have hge := Lib.index_ge r [47]
    obtain ⟨j, hj⟩ : ∃ j : Nat, Lib.index r [47] = j := ⟨(Lib.index r [47]).toNat, by omega⟩
    have hix' : Lib.index (b :: r) [47] = ((j + 1 : Nat) : Int) := by rw [hix, if_neg (fun e => hm (beq_iff_eq.1 e)), hj]; omega
    rw [Lib.count_hit (by simp) hj, Nat.add_comm]
    unfold Lib.splitK
    rw [if_neg (by rw [hix', beq_iff_eq]; omega), if_neg (by rw [hj, beq_iff_eq]; omega), hix', hj]
    simp
theorem split_cut : ∀ l, Lib.split l [47] = cut47 l
  | [] => split_nil
  | b :: r => by
    unfold cut47
    by_cases h : b = 47
    · subst h
      rw [if_pos rfl, split_47, split_cut r]
    · rw [if_neg h, split_no b r h, split_cut r]
def pieces (s : ByteArray) : List ByteArray := Lib.splitB ⟨#[47]⟩ 0 (Lib.countB s ⟨#[47]⟩) s
theorem pieces_len (s : ByteArray) : (pieces s).length = Lib.countB s ⟨#[47]⟩ + 1 := Lib.splitB_all ⟨#[47]⟩ (by decide) 0 _ s rfl
theorem pieces_data (s : ByteArray) : (pieces s).map (fun p => tx p) = cut47 (tx s) := by
  rw [← split_cut]
  unfold pieces
  rw [Lib.splitB_data]
  rfl
theorem pieces_get (s : ByteArray) (k : Nat) (h : k < (pieces s).length) : ((pieces s).map fun p => tx p).getD k [] = tx ((pieces s)[k]) := by simp [List.getD, h]
theorem cut47_len : ∀ (l p : List UInt8), p ∈ cut47 l → p.length ≤ l.length
  | [], p, h => by simp [cut47] at h; subst h; exact Nat.le_refl _
  | b :: r, p, h => by
    unfold cut47 at h
    have ih := cut47_len r
    split at h
    · rcases List.mem_cons.1 h with rfl | h
      · simp
      · have := ih p h; simp only [List.length_cons]; omega
    · split at h
      · rename_i q qs hq
        rcases List.mem_cons.1 h with rfl | h
        · have := ih q (by rw [hq]; simp); simp only [List.length_cons]; omega
        · have := ih p (by rw [hq]; simp [h]); simp only [List.length_cons]; omega
      · simp at h; subst h; simp
theorem piece_size (s : ByteArray) (k : Nat) (h : k < (pieces s).length) : (pieces s)[k].size ≤ s.size := by
  have := cut47_len (tx s) (tx (pieces s)[k]) (by
    rw [← pieces_data]
    exact List.mem_map.2 ⟨_, List.getElem_mem h, rfl⟩)
  rw [tx_len, tx_len] at this
  exact this
theorem pieces_le (s : ByteArray) : (pieces s).length ≤ s.size + 1 := by
  rw [pieces_len]
  have := Lib.countB_le ⟨#[47]⟩ (by decide) s.size s (Nat.le_refl _)
  omega
/-- The variable of the library that its search reads holds a number. -/
def Mx (w : World) : Prop := ∃ m, w.cell? ⟨0, 0, none⟩ = some (.int .i64 m)
theorem Mx.on {B : Nat} {w w' : World} (h : Mx w) (hb : Below B w w') (hB : 0 < B) : Mx w' := by
  obtain ⟨m, hm⟩ := h
  exact ⟨m, (hb.cell (p := ⟨0, 0, none⟩) hB).trans hm⟩
theorem Mx.lt {w : World} (h : Mx w) : 0 < w.heap.size := by
  obtain ⟨m, hm⟩ := h
  exact World.block_lt_of_cell? w _ hm
theorem piece_cell (s : ByteArray) (w : World) (k : Nat) (h : k < (pieces s).length) : (w.alloc (.cells ((pieces s).map Value.string).toArray 9)).cell? ⟨w.heap.size, k, none⟩ = some (.string (pieces s)[k]) := by
  rw [cell_of_row _ w.heap.size k _ _ _ (heap_alloc_new w _)]
  simp [h]

end Go.Proofs.YtbfopdflkkcfaaaDoor
