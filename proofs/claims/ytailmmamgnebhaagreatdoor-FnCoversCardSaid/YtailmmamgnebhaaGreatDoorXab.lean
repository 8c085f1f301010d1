/-
  Appending cells to a slice of cells that the call owns: the laws at an operation, the new block a letter.
  Shapes moved, in the model: what each call gives.
  The size of a shape, in the model: what the call gives.
  A shape as a text, in the model: what the call gives.
  A text cut at its strokes: the pieces. Nothing of the program is claimed here.
-/
import Derived.Test.YtailmmamgnebhaaGreatDoorXaa
import Derived.Deep.RegionHeld3
import Derived.Deep.AppendLies
import Derived.Lib.SplitLaws
namespace Go.Proofs.YtailmmamgnebhaaGreatDoor

section
open Go.RowKit

theorem cell_size : ∃ i, Tryz.prog.info? 40 = some i ∧ i.zero = some (.agg #[.int .i64 0, .int .i64 0]) ∧ i.size = 2 ∧ i.bytes = 16 := by
  obtain ⟨i0, hi, hz0, hz1, hz2⟩ := info_parts info_cell
  exact ⟨i0, hi, hz0, hz1, hz2⟩

/-- Where l begins in memory at ad, cell for cell. -/
def Lies (w : World) (ad : Addr) (l : List Cl) : Prop := ∀ j u, (cvs l)[j]? = some u → w.cell? (ad.add j) = some u

theorem append_cells (base g n cap : Nat) (xs : List Cl) (ad : Addr) (m c : Nat) (ys : List Cl) (w : World)
    (hown : w.ownsRow base 40 2 (.slice (some ⟨g, 0, none⟩) n cap) n (cvs xs)) (hl : ys.length = m) (hnews : Lies w ad ys) (h63 : n + m ≤ 8388608) (hbase : base ≤ w.heap.size) (ty : TypeId) (H : Nat) (hH : w.heap.size = H) :
    ∃ g' cap' w', (Builtin.append_ #[27, 27] ty #[.slice (some ⟨g, 0, none⟩) n cap, .slice (some ad) m c]).run Tryz.prog w = .ok (.slice (some ⟨g', 0, none⟩) (n + m) cap') w' ∧
      w'.ownsRow base 40 2 (.slice (some ⟨g', 0, none⟩) (n + m) cap') (n + m) (cvs (xs ++ ys)) ∧ w.grownBy w' (some g) ∧ (g' = g ∨ g' = H) ∧ base ≤ g' ∧ g' < w'.heap.size := by
  obtain ⟨i, hi, hz, hs, hby⟩ := cell_size
  obtain ⟨v', w', hr, h2, h3, h4, h5⟩ := run_append_own_at (P := Tryz.prog) w base 27 ty 40 i _ 2 16 Tryz.underlying27 hi hz hs hby rfl (by omega) _ n (cvs xs) hown ad m c (cvs ys) (by rw [cvs_length, hl]) hnews (cvs_oneCell _) (by unfold maxLen; omega) (by omega) hbase
  rw [← cvs_append] at h2
  rcases h2.2 with ⟨rfl, _⟩ | ⟨g', cap', cur, rfl, hb, hg, _⟩
  · exact absurd (h4.1 rfl).1 (by intro e; cases e)
  · refine ⟨g', cap', w', hr, h2, h3, ?_, hb, (Array.getElem?_eq_some_iff.1 hg).1⟩
    rcases h5 with h5 | h5
    · exact .inl (by simpa [Value.ownBlock] using h5)
    · exact .inr (by rw [← hH]; simpa [Value.ownBlock] using h5)

theorem wp_cells {o : Oper} {a : Act} {w : World} {K : Act → World → Prop} {Q : Exit → Act → World → Prop} (s x : Operand)
    (ho : o.op = .call { callee := .builtin .append, args := #[s, x], argTypes := #[27, 27] })
    (base g n cap : Nat) (xs : List Cl) (ad : Addr) (m c : Nat) (ys : List Cl) (hs : a.eval s = .slice (some ⟨g, 0, none⟩) n cap) (hx : a.eval x = .slice (some ad) m c)
    (hown : w.ownsRow base 40 2 (.slice (some ⟨g, 0, none⟩) n cap) n (cvs xs)) (hl : ys.length = m) (hnews : Lies w ad ys) (h63 : n + m ≤ 8388608) (hbase : base ≤ w.heap.size) (H : Nat) (hH : w.heap.size = H)
    (h : ∀ g' cap' w', w'.ownsRow base 40 2 (.slice (some ⟨g', 0, none⟩) (n + m) cap') (n + m) (cvs (xs ++ ys)) → w.grownBy w' (some g) → (g' = g ∨ g' = H) → base ≤ g' → g' < w'.heap.size → K (a.put o.dst (.slice (some ⟨g', 0, none⟩) (n + m) cap')) w') : o.wp Tryz.prog a w K Q := by
  obtain ⟨g', cap', w', hr, h2, h3, h4, h5, h6⟩ := append_cells base g n cap xs ad m c ys w hown hl hnews h63 hbase o.type H hH
  unfold Oper.wp execOp
  simp only [ho, resolve, invoke, builtin, Sem.run_bind, Sem.run_pure, Result.andThen_ok, List.map_toArray, List.map_cons, List.map_nil, hs, hx, hr]
  exact h g' cap' w' h2 h3 h4 h5 h6

theorem wpList_cells {ops : Array Oper} {rest : List Oper} {o : Oper} {a : Act} {w : World} {Q : Exit → Act → World → Prop} (hgd : o.guard = none) (s x : Operand)
    (ho : o.op = .call { callee := .builtin .append, args := #[s, x], argTypes := #[27, 27] })
    (base g n cap : Nat) (xs : List Cl) (ad : Addr) (m c : Nat) (ys : List Cl) (hs : a.eval s = .slice (some ⟨g, 0, none⟩) n cap) (hx : a.eval x = .slice (some ad) m c)
    (hown : w.ownsRow base 40 2 (.slice (some ⟨g, 0, none⟩) n cap) n (cvs xs)) (hl : ys.length = m) (hnews : Lies w ad ys) (h63 : n + m ≤ 8388608) (hbase : base ≤ w.heap.size) (H : Nat) (hH : w.heap.size = H)
    (h : ∀ g' cap' w', w'.ownsRow base 40 2 (.slice (some ⟨g', 0, none⟩) (n + m) cap') (n + m) (cvs (xs ++ ys)) → w.grownBy w' (some g) → (g' = g ∨ g' = H) → base ≤ g' → g' < w'.heap.size → wpList Tryz.prog ops Q rest (a.put o.dst (.slice (some ⟨g', 0, none⟩) (n + m) cap')) w') : wpList Tryz.prog ops Q (o :: rest) a w :=
  wpList_plain hgd fun _ hK => wp_cells s x ho base g n cap xs ad m c ys hs hx hown hl hnews h63 hbase H hH fun g' cap' w' h2 h3 h4 h5 h6 => hK _ _ (h g' cap' w' h2 h3 h4 h5 h6)

theorem step_cells {ops : Array Oper} {o : Oper} {a : Act} {w : World} {K : Act → World → Prop} {Q : Exit → Act → World → Prop} {E : Prop} (hgd : o.guard = none) (s x : Operand)
    (ho : o.op = .call { callee := .builtin .append, args := #[s, x], argTypes := #[27, 27] })
    (base g n cap : Nat) (xs : List Cl) (ad : Addr) (m c : Nat) (ys : List Cl) (hs : a.eval s = .slice (some ⟨g, 0, none⟩) n cap) (hx : a.eval x = .slice (some ad) m c)
    (hown : w.ownsRow base 40 2 (.slice (some ⟨g, 0, none⟩) n cap) n (cvs xs)) (hl : ys.length = m) (hnews : Lies w ad ys) (h63 : n + m ≤ 8388608) (hbase : base ≤ w.heap.size) (H : Nat) (hH : w.heap.size = H)
    (h : ∀ g' cap' w', w'.ownsRow base 40 2 (.slice (some ⟨g', 0, none⟩) (n + m) cap') (n + m) (cvs (xs ++ ys)) → w.grownBy w' (some g) → (g' = g ∨ g' = H) → base ≤ g' → g' < w'.heap.size → K (a.put o.dst (.slice (some ⟨g', 0, none⟩) (n + m) cap')) w') :
    if Region.wanted o (yielded ops a.tmps) = true then Oper.wp Tryz.prog o a w K Q else E := by
  have hw : Region.wanted o (yielded ops a.tmps) = true := by simp [Region.wanted, hgd]
  rw [if_pos hw]
  exact wp_cells s x ho base g n cap xs ad m c ys hs hx hown hl hnews h63 hbase H hH h

/-! ### What lies where -/
theorem lies_block {w : World} {b : Nat} {l : List Cl} {t : TypeId} {fr : Nat × Nat} (h : w.heap[b]? = some (.cells (cvs l).toArray t fr)) : Lies w ⟨b, 0, none⟩ l := World.news_of_block (cs := (cvs l).toArray) h
theorem add_at (b o j : Nat) : (⟨b, o, none⟩ : Addr).add j = ⟨b, o + j, none⟩ := by unfold Addr.add; split <;> simp_all
/-- A part of a slice of cells. -/
theorem CellsAt.lies {B n b off k m : Nat} {w : World} {l : List Cl} (h : CellsAt B w (some ⟨b, off, none⟩) n l) (hk : k + m ≤ n) : Lies w ⟨b, off + k * 2, none⟩ ((l.drop k).take m) := by
  intro j u hj
  rw [add_at]
  have hjl : j < m * 2 := by
    have := (List.getElem?_eq_some_iff.1 hj).1
    rw [cvs_length, List.length_take, List.length_drop] at this
    omega
  obtain ⟨b', off', e, hlt, hc⟩ := h.2.2 (by omega)
  injection e with e
  injection e with e1 e2
  subst e1 e2
  have hcc := hc (k + j / 2) (by omega)
  have hl := h.1
  have hg := cvs_get ((l.drop k).take m) (j / 2) (by rw [List.length_take, List.length_drop]; omega)
  have e3 : ((l.drop k).take m).getD (j / 2) (0, 0) = l.getD (k + j / 2) (0, 0) := by
    simp [List.getD, List.getElem?_drop, show j / 2 < m by omega]
  rw [e3] at hg
  rcases Nat.mod_two_eq_zero_or_one j with h2 | h2
  · have e4 : j / 2 * 2 = j := by omega
    have e5 : off + (k + j / 2) * 2 = off + k * 2 + j := by omega
    rw [e4] at hg
    rw [e5] at hcc
    rw [hcc.1, ← hg.1, hj]
  · have e4 : j / 2 * 2 + 1 = j := by omega
    have e5 : off + (k + j / 2) * 2 + 1 = off + k * 2 + j := by omega
    rw [e4] at hg
    rw [e5] at hcc
    rw [hcc.2, ← hg.2, hj]
theorem Lies.on {w w' : World} {b off B : Nat} {l : List Cl} (h : Lies w ⟨b, off, none⟩ l) (hb : Below B w w') (hlt : b < B) : Lies w' ⟨b, off, none⟩ l := fun j u hj => by
  rw [add_at]
  have := h j u hj
  rw [add_at] at this
  exact (hb.cell (p := ⟨b, off + j, none⟩) hlt).trans this
end

section
open Go.RowKit

/-- A new slice of the call's own that reads as l. -/
def GivesC (w : World) (l : List Cl) (e : Ending) (w' : World) : Prop := ∃ g cap, e = .returned (.slice (some ⟨g, 0, none⟩) l.length cap) ∧ w'.ownsRow w.heap.size 40 2 (.slice (some ⟨g, 0, none⟩) l.length cap) l.length (cvs l) ∧ Below w.heap.size w w'
/-- .. and a truth value. -/
def GivesCB (w : World) (l : List Cl) (b : Bool) (e : Ending) (w' : World) : Prop := ∃ g cap, e = .returned (.tuple #[.slice (some ⟨g, 0, none⟩) l.length cap, .bool b]) ∧ w'.ownsRow w.heap.size 40 2 (.slice (some ⟨g, 0, none⟩) l.length cap) l.length (cvs l) ∧ Below w.heap.size w w'

theorem isShape_in {l : List Cl} (h : isShape l = true) : ∀ c ∈ l, inP c = true := by
  intro c hc
  unfold isShape okTo at h
  rw [Bool.and_eq_true, List.all_eq_true] at h
  obtain ⟨j, hj, rfl⟩ := List.getElem_of_mem hc
  have := h.1 j (List.mem_range.2 hj)
  unfold okAt at this
  rw [Bool.and_eq_true] at this
  have e : l.getD j (0, 0) = l[j] := by simp [List.getD, hj]
  rw [← e]
  exact this.1
theorem own_below {w : World} {b b' : Nat} {e : TypeId} {size : Nat} {v : Value} {n : Nat} {xs : List Value} (h : w.ownsRow b e size v n xs) (hb : b' ≤ b) : w.ownsRow b' e size v n xs :=
  ⟨h.1, h.2.imp id fun ⟨g, cap, cur, h1, h2, h3⟩ => ⟨g, cap, cur, h1, Nat.le_trans hb h2, h3⟩⟩
theorem map_step (f : Cl → Cl) (l : List Cl) (k : Nat) (h : k < l.length) : (l.take k).map f ++ [f (l.getD k (0, 0))] = (l.take (k + 1)).map f := by
  rw [List.take_succ_eq_append_getElem h, List.map_append]
  simp [List.getD, h]

/-- Within nine places of the corner, on any side. -/
def inW (c : Cl) : Prop := -9 ≤ c.1 ∧ c.1 ≤ 9 ∧ -9 ≤ c.2 ∧ c.2 ≤ 9
theorem inW_of_inP {c : Cl} (h : inP c = true) : inW c := by
  have := inP_out h
  unfold inW
  omega
theorem minTo_bdW (f : Cl → Int) (l : List Cl) (h : ∀ j, j < l.length → -9 ≤ f (l.getD j (0, 0)) ∧ f (l.getD j (0, 0)) ≤ 9) : ∀ k, k ≤ l.length → -9 ≤ minTo f l k ∧ minTo f l k ≤ 9
  | 0, _ => by simp [minTo]
  | k + 1, hk => by
    have h1 := minTo_bdW f l h k (by omega)
    have h2 := h k (by omega)
    unfold minTo
    split
    · exact h2
    · exact h1

set_option maxHeartbeats 2000000 in
set_option maxRecDepth 100000 in
theorem sCornerW (B n cap : Nat) (a : Option Addr) (l : List Cl) (w : World) (hn : n ≤ 4194304) (hc : CellsAt B w a n l) (hp : ∀ c ∈ l, inW c) (hB : B ≤ w.heap.size) :
    Calls Tryz.prog 159 #[.slice a n cap] w (GivesC w (cornerC l)) := by
  have H := Lib.hid hc
  have HP := Lib.hid hp
  clear hc hp
  go_enter Tryz.func159, Tryz.ntmps159
  go_wp2
  have hbx : ∀ k, k ≤ n → -9 ≤ minTo Prod.fst l k ∧ minTo Prod.fst l k ≤ 9 := fun k hk => minTo_bdW _ l (fun j hj => ⟨(HP.out _ (getD_mem hj)).1, (HP.out _ (getD_mem hj)).2.1⟩) k (by rw [H.out.1]; exact hk)
  have hby : ∀ k, k ≤ n → -9 ≤ minTo Prod.snd l k ∧ minTo Prod.snd l k ≤ 9 := fun k hk => minTo_bdW _ l (fun j hj => (HP.out _ (getD_mem hj)).2.2) k (by rw [H.out.1]; exact hk)
  have HBX := Lib.hid hbx
  have HBY := Lib.hid hby
  clear hbx hby
  go_loopw [4, 5, 6] (fun x y i wr => ∃ k : Nat, k ≤ n ∧ i = .int .i64 k ∧ x = .int .i64 (minTo Prod.fst l k) ∧ y = .int .i64 (minTo Prod.snd l k) ∧ wr = w.alloc (.cells #[] 40)) (fun _ _ i _ => n - (intOf i).toNat)
  case atStart => exact ⟨0, by omega, rfl, rfl, rfl, rfl⟩
  case round =>
    obtain ⟨k, hk, rfl, rfl, rfl, rfl⟩ := hrel
    by_cases hlt : k < n
    · obtain ⟨b1, o1, rfl, hb1, hc1⟩ := H.out.2.2 (by omega)
      obtain ⟨x, y, hxy⟩ : ∃ x y, l.getD k (0, 0) = (x, y) := ⟨_, _, rfl⟩
      obtain ⟨p, hp⟩ : ∃ p, minTo Prod.fst l k = p := ⟨_, rfl⟩
      obtain ⟨q, hq⟩ : ∃ q, minTo Prod.snd l k = q := ⟨_, rfl⟩
      have p1 : (w.alloc (.cells #[] 40)).cell? ⟨b1, o1 + k * 2, none⟩ = _ := (World.cell?_alloc_lt _ _ _ (by show b1 < _; omega)).trans (hc1 k hlt).1
      have p2 : (w.alloc (.cells #[] 40)).cell? ⟨b1, o1 + k * 2 + 1, none⟩ = _ := (World.cell?_alloc_lt _ _ _ (by show b1 < _; omega)).trans (hc1 k hlt).2
      rw [hxy] at p1 p2
      have HX := Lib.hid hxy
      have HPP := Lib.hid hp
      have HQ := Lib.hid hq
      have hk0 : (0 : Int) ≤ (k : Int) := by omega
      have hk1 : (k : Int) < (n : Int) := by omega
      rw [hp, hq]
      clear hxy hc1 hp hq
      by_cases hz : k = 0
      · have ex : minTo Prod.fst l (k + 1) = x := by rw [minTo_yes (.inl hz), HX.out]
        have ey : minTo Prod.snd l (k + 1) = y := by rw [minTo_yes (.inl hz), HX.out]
        have EX := Lib.hid ex
        have EY := Lib.hid ey
        have hz' : ((k : Int) == 0) = true := by simp; exact hz
        clear ex ey hz
        go_wp2
        go_roundw
        case rel => exact ⟨k + 1, by omega, by go_num, by rw [EX.out], by rw [EY.out], trivial⟩
        case measure => simp [intOf]; omega
      · have hz' : ((k : Int) == 0) = false := by simp; exact hz
        by_cases h1 : x < p
        · have ex : minTo Prod.fst l (k + 1) = x := by rw [minTo_yes (.inr (by rw [HPP.out, HX.out]; exact h1)), HX.out]
          have EX := Lib.hid ex
          clear ex
          by_cases h2 : y < q
          · have ey : minTo Prod.snd l (k + 1) = y := by rw [minTo_yes (.inr (by rw [HQ.out, HX.out]; exact h2)), HX.out]
            have EY := Lib.hid ey
            clear ey hz
            go_wp2
            go_roundw
            case rel => exact ⟨k + 1, by omega, by go_num, by rw [EX.out], by rw [EY.out], trivial⟩
            case measure => simp [intOf]; omega
          · have ey : minTo Prod.snd l (k + 1) = q := by rw [minTo_no (by rw [HQ.out, HX.out]; simp [hz]; omega), HQ.out]
            have EY := Lib.hid ey
            clear ey hz
            go_wp2
            go_roundw
            case rel => exact ⟨k + 1, by omega, by go_num, by rw [EX.out], by rw [EY.out], trivial⟩
            case measure => simp [intOf]; omega
        · have ex : minTo Prod.fst l (k + 1) = p := by rw [minTo_no (by rw [HPP.out, HX.out]; simp [hz]; omega), HPP.out]
          have EX := Lib.hid ex
          clear ex
          by_cases h2 : y < q
          · have ey : minTo Prod.snd l (k + 1) = y := by rw [minTo_yes (.inr (by rw [HQ.out, HX.out]; exact h2)), HX.out]
            have EY := Lib.hid ey
            clear ey hz
            go_wp2
            go_roundw
            case rel => exact ⟨k + 1, by omega, by go_num, by rw [EX.out], by rw [EY.out], trivial⟩
            case measure => simp [intOf]; omega
          · have ey : minTo Prod.snd l (k + 1) = q := by rw [minTo_no (by rw [HQ.out, HX.out]; simp [hz]; omega), HQ.out]
            have EY := Lib.hid ey
            clear ey hz
            go_wp2
            go_roundw
            case rel => exact ⟨k + 1, by omega, by go_num, by rw [EX.out], by rw [EY.out], trivial⟩
            case measure => simp [intOf]; omega
    · obtain rfl : k = n := by omega
      obtain ⟨p, hp⟩ : ∃ p, minTo Prod.fst l k = p := ⟨_, rfl⟩
      obtain ⟨q, hq⟩ : ∃ q, minTo Prod.snd l k = q := ⟨_, rfl⟩
      have hp1 := HBX.out k (Nat.le_refl _)
      have hq1 := HBY.out k (Nat.le_refl _)
      have hcor : cornerC l = l.map fun c => (c.1 - p, c.2 - q) := by unfold cornerC minX minY; rw [H.out.1, hp, hq]
      rw [hp] at hp1
      rw [hq] at hq1
      rw [hp, hq]
      have HC := Lib.hid hcor
      clear hcor hp hq HBX HBY hlt hk
      go_wp2
      go_loopw [3, 7] (fun v i wr => ∃ (j g cc : Nat), j ≤ k ∧ i = .int .i64 j ∧ v = .slice (some ⟨g, 0, none⟩) j cc ∧ wr.ownsRow w.heap.size 40 2 (.slice (some ⟨g, 0, none⟩) j cc) j (cvs ((l.take j).map fun c => (c.1 - p, c.2 - q))) ∧ Below w.heap.size w wr) (fun _ i _ => k - (intOf i).toNat)
      case atStart => exact ⟨0, w.heap.size, 0, by omega, rfl, rfl, by simpa [cvs] using World.ownsRow_lit (base := w.heap.size) (e := 40) (size := 2) w #[] 0 (Nat.le_refl _) (by simp [maxLen]) rfl, (Below.refl _ _).alloc (Nat.le_refl _) _⟩
      case round =>
        obtain ⟨j, g, cc, hj, rfl, rfl, hown, hb⟩ := hrel
        have hsz := hb.size
        by_cases hlt : j < k
        · obtain ⟨b1, o1, rfl, hb1, hc1⟩ := H.out.2.2 (by omega)
          obtain ⟨x, y, hxy⟩ : ∃ x y, l.getD j (0, 0) = (x, y) := ⟨_, _, rfl⟩
          have p1 := (hb.cell (p := ⟨b1, o1 + j * 2, none⟩) (Nat.lt_of_lt_of_le hb1 hB)).trans (hc1 j hlt).1
          have p2 := (hb.cell (p := ⟨b1, o1 + j * 2 + 1, none⟩) (Nat.lt_of_lt_of_le hb1 hB)).trans (hc1 j hlt).2
          rw [hxy] at p1 p2
          have hpx := HP.out _ (getD_mem (l := l) (j := j) (by rw [H.out.1]; exact hlt))
          rw [hxy] at hpx
          unfold inW at hpx
          dsimp only at hpx
          have HX := Lib.hid hxy
          have hk0 : (0 : Int) ≤ (j : Int) := by omega
          have hk1 : (j : Int) < (k : Int) := by omega
          have hbl : b1 < wr.heap.size := by omega
          have hgl := hown.lt g rfl
          have hx1 : IntKind.i64.wrap (x - p) = x - p := IntWalk.i64_in _ (by omega)
          have hy1 : IntKind.i64.wrap (y - q) = y - q := IntWalk.i64_in _ (by omega)
          have hne : g ≠ b1 := by omega
          clear hxy hc1
          go_wp2_with fail
          go_region_held3 (fun w' => w'.cell? ⟨b1, o1 + j * 2, none⟩ = some (.int .i64 x) ∧ w'.cell? ⟨b1, o1 + j * 2 + 1, none⟩ = some (.int .i64 y))
            (first | exact ⟨p1, p2⟩ | go_keep | exact ⟨(hgrow.cell_far ⟨b1, o1 + j * 2, none⟩ (by simp; omega) (by simp; omega)).trans ((World.cell?_alloc_lt _ _ _ hbl).trans p1), (hgrow.cell_far ⟨b1, o1 + j * 2 + 1, none⟩ (by simp; omega) (by simp; omega)).trans ((World.cell?_alloc_lt _ _ _ hbl).trans p2)⟩)
            (first | (refine step_cells rfl _ _ rfl w.heap.size g j cc ((l.take j).map fun c => (c.1 - p, c.2 - q)) ⟨wr.heap.size, 0, none⟩ 1 1 [(x - p, y - q)] rfl rfl ((hown.drew).alloc _) rfl (lies_block (t := 40) (fr := (0, 0)) (heap_alloc_new _ _)) (by omega) (by simp; omega) (wr.heap.size + 1) (by simp) ?_; intro g' cc' w1 hown1 hgrow hat hgb hlt1))
          go_wp2
          clear hx1 hy1
          go_roundw
          case rel => exact ⟨j + 1, g', cc', by omega, by go_num, rfl, by
            have h := hown1
            have e := map_step (fun c => (c.1 - p, c.2 - q)) l j (by rw [H.out.1]; exact hlt)
            rw [HX.out] at e
            dsimp only at e
            rw [e] at h
            exact h, (hb.drew.alloc hsz _).grown hgrow (by simp; omega) (fun i hi => by cases hi; exact hgl.1)⟩
          case measure => simp [intOf]; omega
        · obtain rfl : j = k := by omega
          have e : l.take j = l := List.take_of_length_le (by rw [H.out.1]; exact Nat.le_refl _)
          rw [e] at hown
          have hl2 : (l.map fun c => (c.1 - p, c.2 - q)).length = j := by rw [List.length_map, H.out.1]
          have HO := Lib.hid (show GivesC w (l.map fun c => (c.1 - p, c.2 - q)) (.returned (.slice (some ⟨g, 0, none⟩) j cc)) wr from ⟨g, cc, by rw [hl2], by rw [hl2]; exact hown, hb⟩)
          clear hl2 e
          go_wp2
          go_ret
          rw [HC.out]
          exact HO.out

theorem sCorner (B n cap : Nat) (a : Option Addr) (l : List Cl) (w : World) (hn : n ≤ 4194304) (hc : CellsAt B w a n l) (hp : ∀ c ∈ l, inP c = true) (hB : B ≤ w.heap.size) :
    Calls Tryz.prog 159 #[.slice a n cap] w (GivesC w (cornerC l)) := sCornerW B n cap a l w hn hc (fun c h => inW_of_inP (hp c h)) hB

set_option maxHeartbeats 1000000 in
theorem sCornerShape (B n cap : Nat) (a : Option Addr) (l : List Cl) (w : World) (hn : n ≤ 4194304) (hc : CellsAt B w a n l) (hB : B ≤ w.heap.size) :
    Calls Tryz.prog 204 #[.slice a n cap] w (GivesC w (cornS l)) := by
  by_cases h : isShape l = true
  · have hp : ∀ c ∈ l, inP c = true := isShape_in h
    rw [show cornS l = cornerC l from if_pos h]
    have H := Lib.hid hc
    have HP := Lib.hid hp
    clear hc hp
    go_enter Tryz.func204, Tryz.ntmps204
    go_wp2_with fail
    refine (sIsShape B n cap a l w hn H.out hB).mono ?_
    rintro e w1 ⟨rfl, hb1⟩
    go_wp2_with fail
    refine (sCorner B n cap a l w1 hn (H.out.on (hb1.mono hB)) HP.out (Nat.le_trans hB hb1.size)).mono ?_
    rintro e w2 ⟨g, cc, rfl, hown, hb2⟩
    have HO := Lib.hid (show GivesC w (cornerC l) (.returned (.slice (some ⟨g, 0, none⟩) (cornerC l).length cc)) w2 from ⟨g, cc, rfl, own_below hown hb1.size, hb1.trans (hb2.mono hb1.size)⟩)
    clear hown
    go_wp2
    go_ret
    exact HO.out
  · have h' : isShape l = false := by simpa using h
    rw [show cornS l = [] from if_neg h]
    have H := Lib.hid hc
    clear hc h
    go_enter Tryz.func204, Tryz.ntmps204
    go_wp2_with fail
    refine (sIsShape B n cap a l w hn H.out hB).mono ?_
    rintro e w1 ⟨rfl, hb1⟩
    have HO := Lib.hid (show GivesC w [] (.returned (.slice (some ⟨w1.heap.size, 0, none⟩) ([] : List Cl).length 0)) (w1.alloc (.cells #[] 40)) from ⟨_, _, rfl, World.ownsRow_lit (base := w.heap.size) (e := 40) (size := 2) w1 #[] 0 hb1.size (by simp [maxLen]) rfl, hb1.alloc hb1.size _⟩)
    go_wp2
    go_ret
    exact HO.out
end

section
open Go.RowKit

theorem cornerC_in {l : List Cl} (hp : ∀ c ∈ l, inP c = true) : ∀ c ∈ cornerC l, inP c = true := by
  intro c hc
  obtain ⟨d, hd, rfl⟩ := List.mem_map.1 hc
  have h1 := inP_out (hp d hd)
  obtain ⟨j, hj, rfl⟩ := List.getElem_of_mem hd
  have e : l[j] = l.getD j (0, 0) := by simp [List.getD, hj]
  rw [e] at h1 ⊢
  have h2 := minTo_le Prod.fst l l.length j hj
  have h3 := minTo_le Prod.snd l l.length j hj
  have h4 := minTo_bd Prod.fst l 7 (by omega) (fun j hj => by have := inP_out (hp _ (getD_mem hj)); omega) l.length (Nat.le_refl _)
  have h5 := minTo_bd Prod.snd l 7 (by omega) (fun j hj => by have := inP_out (hp _ (getD_mem hj)); omega) l.length (Nat.le_refl _)
  unfold minX minY inP inb
  simp only [Bool.and_eq_true, decide_eq_true_eq]
  omega
theorem cornS_in (l : List Cl) : ∀ c ∈ cornS l, inP c = true := by
  unfold cornS
  split
  · rename_i h
    exact cornerC_in (isShape_in h)
  · intro c hc; cases hc
theorem isShape_len {l : List Cl} (h : isShape l = true) : 1 ≤ l.length ∧ l.length ≤ 8 := by
  simp [isShape, inb] at h
  omega
theorem cornS_len (l : List Cl) : (cornS l).length ≤ 8 := by
  unfold cornS
  split
  · rename_i h
    have := isShape_len h
    unfold cornerC
    rw [List.length_map]
    omega
  · simp
theorem inP_in {c : Cl} (h : inP c = true) : InC c := by
  have := inP_out h
  unfold InC
  omega
theorem maxTo_bd (f : Cl → Int) (l : List Cl) (h : ∀ c ∈ l, 0 ≤ f c ∧ f c ≤ 7) : ∀ k, k ≤ l.length → 0 ≤ maxTo f l k ∧ maxTo f l k ≤ 8
  | 0, _ => by simp [maxTo]
  | k + 1, hk => by
    have h1 := maxTo_bd f l h k (by omega)
    have h2 := h _ (getD_mem (l := l) (j := k) (by omega))
    unfold maxTo
    split
    · omega
    · exact h1
end

section
open Go.RowKit

def xAt (i : Nat) (x0 : Int) : Int := if i = 0 then x0 else 0
theorem rep_snoc (t : List UInt8) (i : Nat) (b : UInt8) : t ++ List.replicate i b ++ [b] = t ++ List.replicate (i + 1) b := by
  rw [List.append_assoc, ← List.replicate_succ']

set_option maxHeartbeats 2000000 in
set_option maxRecDepth 100000 in
theorem sFmt (B n cap : Nat) (a : Option Addr) (l : List Cl) (w : World) (hn : n ≤ 4194304) (hc : CellsAt B w a n l) (hB : B ≤ w.heap.size) :
    Calls Tryz.prog 193 #[.slice a n cap] w fun e w' => e = .returned (S (fmtC l)) ∧ Below w.heap.size w w' := by
  have H := Lib.hid hc
  clear hc
  go_enter Tryz.func193, Tryz.ntmps193
  go_wp2_with fail
  refine (sCornerShape B n cap a l w hn H.out hB).mono ?_
  rintro e w1 ⟨g, cc, rfl, hown, hb1⟩
  have HA := Lib.hid (CellsAt.of_own hown (fun c hc => inP_in (cornS_in l c hc)))
  have HP := Lib.hid (cornS_in l)
  have HF := Lib.hid (show fmtC l = (fmtTo (cornS l) (cornS l).length).1 from rfl)
  have hm := cornS_len l
  obtain ⟨m, hm'⟩ : ∃ m, (cornS l).length = m := ⟨_, rfl⟩
  rw [hm'] at hm hown ⊢
  have HM := Lib.hid hm'
  clear hm' hown
  go_wp2
  go_loopw [4, 5, 6, 7] (fun t x y i wr => ∃ k : Nat, k ≤ m ∧ i = .int .i64 k ∧ t = S (fmtTo (cornS l) k).1 ∧ x = .int .i64 (fmtTo (cornS l) k).2.1 ∧ y = .int .i64 (fmtTo (cornS l) k).2.2 ∧ wr = w1) (fun _ _ _ i _ => m - (intOf i).toNat)
  case atStart => exact ⟨0, by omega, rfl, rfl, rfl, rfl, rfl⟩
  case round =>
    obtain ⟨k, hk, rfl, rfl, rfl, rfl, rfl⟩ := hrel
    have hx1 := fmtTo_bd (cornS l) HP.out k (by rw [HM.out]; exact hk)
    by_cases hlt : k < m
    · obtain ⟨b1, o1, he, hb1', hc1⟩ := HA.out.2.2 (by rw [HM.out]; omega)
      injection he with he
      injection he with he1 he2
      subst he1 he2
      rw [HM.out] at hc1
      obtain ⟨x, y, hxy⟩ : ∃ x y, (cornS l).getD k (0, 0) = (x, y) := ⟨_, _, rfl⟩
      have p1 := (hc1 k hlt).1
      have p2 := (hc1 k hlt).2
      rw [hxy] at p1 p2
      have hpx := inP_out (HP.out _ (getD_mem (l := cornS l) (j := k) (by rw [HM.out]; exact hlt)))
      rw [hxy] at hpx
      dsimp only at hpx
      have hstep := fmtTo_step (cornS l) k
      rw [hxy] at hstep
      obtain ⟨⟨t0, x0, y0⟩, h0⟩ : ∃ s, fmtTo (cornS l) k = s := ⟨_, rfl⟩
      rw [h0] at hstep hx1 ⊢
      dsimp only at hstep hx1 ⊢
      have HS := Lib.hid hstep
      have hk0 : (0 : Int) ≤ (k : Int) := by omega
      have hk1 : (k : Int) < (m : Int) := by omega
      clear hxy hc1 hstep h0
      simp only [Nat.zero_add] at p1 p2
      go_wp2
      go_loop [4, 5, 6] (fun t x' y' => ∃ i : Nat, t = S (t0 ++ List.replicate i 47) ∧ Hid (i ≤ (y - y0).toNat) ∧ x' = .int .i64 (xAt i x0) ∧ y' = .int .i64 (y0 + i)) (fun _ _ y' => (y - intOf y').toNat)
      case atStart => exact ⟨0, by simp, Nat.zero_le _, by simp [xAt], by simp⟩
      case round =>
        obtain ⟨i, rfl, hi, rfl, rfl⟩ := hrel
        have hxx : xAt i x0 = 0 ∨ xAt i x0 = x0 := by unfold xAt; split <;> simp
        by_cases hy : y0 + i < y
        · have HS47 := Lib.hid (rep_snoc t0 i 47)
          have hi7 : i ≤ 7 := by have := hi.out; omega
          have ht7 : t0.length ≤ 120 := by omega
          have HI := Lib.hid (show i + 1 ≤ (y - y0).toNat by omega)
          go_wp2
          go_round
          case rel => exact ⟨i + 1, by rw [S_append, HS47.out], HI.out, by simp [xAt], by go_num⟩
          case measure => simp [intOf]; omega
        · have hi2 : i = (y - y0).toNat ∨ (i = 0 ∧ y ≤ y0) := by have := hi.out; omega
          have hx2 : xAt i x0 = if y0 < y then 0 else x0 := by
            unfold xAt
            rcases hi2 with h | h
            · by_cases h3 : y0 < y
              · rw [if_pos h3, if_neg (by omega)]
              · rw [if_neg h3, if_pos (by omega)]
            · rw [if_pos h.1, if_neg (by omega)]
          have hy2 : y0 + (i : Int) = if y0 < y then y else y0 := by
            split <;> omega
          have hr2 : List.replicate i (47 : UInt8) = List.replicate (y - y0).toNat 47 := by
            congr 1
            omega
          obtain ⟨x1, hx1'⟩ : ∃ x1, xAt i x0 = x1 := ⟨_, rfl⟩
          obtain ⟨y1, hy1'⟩ : ∃ y1, y0 + (i : Int) = y1 := ⟨_, rfl⟩
          obtain ⟨t1, ht1⟩ : ∃ t1, t0 ++ List.replicate (y - y0).toNat 47 = t1 := ⟨_, rfl⟩
          have htl : t1.length ≤ 200 := by rw [← ht1]; simp; omega
          have hy3 : ¬ y1 < y := by omega
          rw [hx1'] at hx2 hxx ⊢
          rw [hy1'] at hy2 ⊢
          rw [ht1] at HS
          have hxb : 0 ≤ x1 ∧ x1 ≤ 8 + k := by omega
          have HX2 := Lib.hid hx2.symm
          have HY2 := Lib.hid hy2.symm
          rw [hr2, ht1]
          clear hi2 hx2 hy2 hr2 hx1' hy1' hy hxx hi ht1
          go_wp2
          go_loop [4, 5] (fun t x' => ∃ i : Nat, t = S (t1 ++ List.replicate i 46) ∧ Hid (i ≤ (x - x1).toNat) ∧ x' = .int .i64 (x1 + i)) (fun _ x' => (x - intOf x').toNat)
          case atStart => exact ⟨0, by simp, Nat.zero_le _, by simp⟩
          case round =>
            obtain ⟨i, rfl, hi, rfl⟩ := hrel
            by_cases hx : x1 + i < x
            · have HS46 := Lib.hid (rep_snoc t1 i 46)
              have hi7 : i ≤ 7 := by have := hi.out; omega
              have HI := Lib.hid (show i + 1 ≤ (x - x1).toNat by omega)
              go_wp2
              go_round
              case rel => exact ⟨i + 1, by rw [S_append, HS46.out], HI.out, by go_num⟩
              case measure => simp [intOf]; omega
            · have hi2 : i = (x - x1).toNat := by have := hi.out; omega
              have hi7 : i ≤ 7 := by omega
              have hx3 : x1 + (i : Int) = if x1 < x then x else x1 := by split <;> omega
              have hE : fmtTo (cornS l) (k + 1) = (t1 ++ List.replicate i 46 ++ [35], x1 + (i : Int) + 1, y1) := by
                rw [HS.out, HX2.out, HY2.out, ← hx3, hi2]
              have HE := Lib.hid hE
              clear hi2 hx3 hE hi
              go_wp2
              go_roundw
              case rel => exact ⟨k + 1, by omega, by go_num, by rw [HE.out, S_append], by rw [HE.out], by rw [HE.out], trivial⟩
              case measure => simp [intOf]; omega
    · obtain rfl : k = m := by omega
      have e : fmtC l = (fmtTo (cornS l) k).1 := by rw [HF.out, HM.out]
      have E := Lib.hid e
      clear e
      go_wp2
      go_ret
      rw [E.out]
      exact ⟨rfl, hb1⟩
end

section
open Go.RowKit

abbrev tx (s : ByteArray) : List UInt8 := s.data.toList
theorem tx_len (s : ByteArray) : (tx s).length = s.size := by simp
theorem tx_get (s : ByteArray) (k : Nat) (h : k < s.size) : (tx s)[k]'(by rw [tx_len]; exact h) = s[k] := rfl
theorem tx_take (s : ByteArray) (k : Nat) (h : k < s.size) : (tx s).take (k + 1) = (tx s).take k ++ [s[k]] := by
  rw [List.take_succ_eq_append_getElem (by rw [tx_len]; exact h), tx_get s k h]
theorem byte_int (b : UInt8) (c : UInt8) : (((b.toNat : Int)) == (c.toNat : Int)) = decide (b = c) := by
  rw [Bool.eq_iff_iff, beq_iff_eq, decide_eq_true_eq]
  constructor
  · intro h
    exact UInt8.toNat_inj.1 (by omega)
  · rintro rfl; rfl
def cut47 : List UInt8 → List (List UInt8)
  | [] => [[]]
  | b :: r => if b = 47 then [] :: cut47 r else match cut47 r with
    | p :: ps => (b :: p) :: ps
    | [] => [[b]]
theorem cut47_ne : ∀ l, cut47 l ≠ []
  | [] => by simp [cut47]
  | b :: r => by
    unfold cut47
    split
    · simp
    · split <;> simp
theorem split_nil : Lib.split [] [47] = [[]] := by
  unfold Lib.split
  rw [Lib.count_miss (by simp [Lib.index])]
  rfl
theorem split_47 (r : List UInt8) : Lib.split (47 :: r) [47] = [] :: Lib.split r [47] := by
  have hix : Lib.index (47 :: r) [47] = ((0 : Nat) : Int) := by rw [Lib.index]; simp [List.isPrefixOf]
  unfold Lib.split
  rw [Lib.count_cons_eq, Nat.add_comm]
  show (if Lib.index (47 :: r) [47] == -1 then [47 :: r] else (47 :: r).take ((Lib.index (47 :: r) [47]).toNat + 0) :: Lib.splitK [47] 0 (Lib.count r [47]) ((47 :: r).drop ((Lib.index (47 :: r) [47]).toNat + [(47 : UInt8)].length))) = _
  rw [if_neg (by rw [hix]; decide), hix]
  rfl
theorem split_no (b : UInt8) (r : List UInt8) (h : b ≠ 47) : Lib.split (b :: r) [47] = match Lib.split r [47] with
    | p :: ps => (b :: p) :: ps
    | [] => [[b]] := by
  have hp : ([47] : List UInt8).isPrefixOf (b :: r) = false := by simp [List.isPrefixOf, Ne.symm h]
  have hix : Lib.index (b :: r) [47] = if Lib.index r [47] == -1 then -1 else Lib.index r [47] + 1 := by rw [Lib.index, hp]; simp
  unfold Lib.split
  rw [Lib.count_cons_ne b 47 r h]
  by_cases hm : Lib.index r [47] = -1
  · rw [Lib.count_miss hm]
    rfl
  · have hge := Lib.index_ge r [47]
    obtain ⟨j, hj⟩ : ∃ j : Nat, Lib.index r [47] = j := ⟨(Lib.index r [47]).toNat, by omega⟩
    have hix' : Lib.index (b :: r) [47] = ((j + 1 : Nat) : Int) := by rw [hix, if_neg (fun e => hm (beq_iff_eq.1 e)), hj]; omega
    rw [Lib.count_hit (by simp) hj, Nat.add_comm]
    unfold Lib.splitK
    rw [if_neg (by rw [hix', beq_iff_eq]; omega), if_neg (by rw [hj, beq_iff_eq]; omega), hix', hj]
    simp
theorem split_cut : ∀ l, Lib.split l [47] = cut47 l
  | [] => split_nil
  | b :: r => by
    unfold cut47
    by_cases h : b = 47
    · subst h
      rw [if_pos rfl, split_47, split_cut r]
    · rw [if_neg h, split_no b r h, split_cut r]
def pieces (s : ByteArray) : List ByteArray := Lib.splitB ⟨#[47]⟩ 0 (Lib.countB s ⟨#[47]⟩) s
theorem pieces_len (s : ByteArray) : (pieces s).length = Lib.countB s ⟨#[47]⟩ + 1 := Lib.splitB_all ⟨#[47]⟩ (by decide) 0 _ s rfl
theorem pieces_data (s : ByteArray) : (pieces s).map (fun p => tx p) = cut47 (tx s) := by
  rw [← split_cut]
  unfold pieces
  rw [Lib.splitB_data]
  rfl
theorem pieces_get (s : ByteArray) (k : Nat) (h : k < (pieces s).length) : ((pieces s).map fun p => tx p).getD k [] = tx ((pieces s)[k]) := by simp [List.getD, h]
theorem cut47_len : ∀ (l p : List UInt8), p ∈ cut47 l → p.length ≤ l.length
  | [], p, h => by simp [cut47] at h; subst h; exact Nat.le_refl _
  | b :: r, p, h => by
    unfold cut47 at h
    have ih := cut47_len r
    split at h
    · rcases List.mem_cons.1 h with rfl | h
      · simp
      · have := ih p h; simp only [List.length_cons]; omega
    · split at h
      · rename_i q qs hq
        rcases List.mem_cons.1 h with rfl | h
        · have := ih q (by rw [hq]; simp); simp only [List.length_cons]; omega
        · have := ih p (by rw [hq]; simp [h]); simp only [List.length_cons]; omega
      · simp at h; subst h; simp
theorem piece_size (s : ByteArray) (k : Nat) (h : k < (pieces s).length) : (pieces s)[k].size ≤ s.size := by
  have := cut47_len (tx s) (tx (pieces s)[k]) (by
    rw [← pieces_data]
    exact List.mem_map.2 ⟨_, List.getElem_mem h, rfl⟩)
  rw [tx_len, tx_len] at this
  exact this
theorem pieces_le (s : ByteArray) : (pieces s).length ≤ s.size + 1 := by
  rw [pieces_len]
  have := Lib.countB_le ⟨#[47]⟩ (by decide) s.size s (Nat.le_refl _)
  omega
theorem piece_cell (s : ByteArray) (w : World) (k : Nat) (h : k < (pieces s).length) : (w.alloc (.cells ((pieces s).map Value.string).toArray 9)).cell? ⟨w.heap.size, k, none⟩ = some (.string (pieces s)[k]) := by
  rw [cell_of_row _ w.heap.size k _ _ _ (heap_alloc_new w _)]
  simp [h]
end

end Go.Proofs.YtailmmamgnebhaaGreatDoor
