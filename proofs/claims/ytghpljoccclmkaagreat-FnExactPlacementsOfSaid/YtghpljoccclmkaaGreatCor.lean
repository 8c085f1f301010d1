/-
  Shapes moved, in the model: what each call gives.
-/
import Derived.Test.YtghpljoccclmkaaGreatShp
import Derived.Test.YtghpljoccclmkaaGreatCap
namespace Go.Proofs.YtghpljoccclmkaaGreat
open Go.RowKit

/-- A new slice of the call's own that reads as l. -/
def GivesC (w : World) (l : List Cl) (e : Ending) (w' : World) : Prop := ∃ g cap, e = .returned (.slice (some ⟨g, 0, none⟩) l.length cap) ∧ w'.ownsRow w.heap.size 53 2 (.slice (some ⟨g, 0, none⟩) l.length cap) l.length (cvs l) ∧ Below w.heap.size w w'
/-- .. and a truth value. -/
def GivesCB (w : World) (l : List Cl) (b : Bool) (e : Ending) (w' : World) : Prop := ∃ g cap, e = .returned (.tuple #[.slice (some ⟨g, 0, none⟩) l.length cap, .bool b]) ∧ w'.ownsRow w.heap.size 53 2 (.slice (some ⟨g, 0, none⟩) l.length cap) l.length (cvs l) ∧ Below w.heap.size w w'

theorem isShape_in {l : List Cl} (h : isShape l = true) : ∀ c ∈ l, inP c = true := by
  intro c hc
  unfold isShape okTo at h
  rw [Bool.and_eq_true, List.all_eq_true] at h
  obtain ⟨j, hj, rfl⟩ := List.getElem_of_mem hc
  have := h.1 j (List.mem_range.2 hj)
  unfold okAt at this
  rw [Bool.and_eq_true] at this
  have e : l.getD j (0, 0) = l[j] := by simp [List.getD, hj]
  rw [← e]
  exact this.1
theorem own_below {w : World} {b b' : Nat} {e : TypeId} {size : Nat} {v : Value} {n : Nat} {xs : List Value} (h : w.ownsRow b e size v n xs) (hb : b' ≤ b) : w.ownsRow b' e size v n xs :=
  ⟨h.1, h.2.imp id fun ⟨g, cap, cur, h1, h2, h3⟩ => ⟨g, cap, cur, h1, Nat.le_trans hb h2, h3⟩⟩
theorem map_step (f : Cl → Cl) (l : List Cl) (k : Nat) (h : k < l.length) : (l.take k).map f ++ [f (l.getD k (0, 0))] = (l.take (k + 1)).map f := by
  rw [List.take_succ_eq_append_getElem h, List.map_append]
  simp [List.getD, h]

/-- Within nine places of the corner, on any side. -/
def inW (c : Cl) : Prop := -9 ≤ c.1 ∧ c.1 ≤ 9 ∧ -9 ≤ c.2 ∧ c.2 ≤ 9
theorem inW_of_inP {c : Cl} (h : inP c = true) : inW c := by
  have := inP_out h
  unfold inW
  omega
theorem minTo_bdW (f : Cl → Int) (l : List Cl) (h : ∀ j, j < l.length → -9 ≤ f (l.getD j (0, 0)) ∧ f (l.getD j (0, 0)) ≤ 9) : ∀ k, k ≤ l.length → -9 ≤ minTo f l k ∧ minTo f l k ≤ 9
  | 0, _ => by simp [minTo]
  | k + 1, hk => by
    have h1 := minTo_bdW f l h k (by omega)
    have h2 := h k (by omega)
    unfold minTo
    split
    · exact h2
    · exact h1

set_option maxHeartbeats 2000000 in
set_option maxRecDepth 100000 in
theorem sCornerW (B n cap : Nat) (a : Option Addr) (l : List Cl) (w : World) (hn : n ≤ 4194304) (hc : CellsAt B w a n l) (hp : ∀ c ∈ l, inW c) (hB : B ≤ w.heap.size) :
    Calls Tryz.prog 71 #[.slice a n cap] w (GivesC w (cornerC l)) := by
  have H := Lib.hid hc
  have HP := Lib.hid hp
  clear hc hp
  go_enter Tryz.func71, Tryz.ntmps71
  go_wp2
  have hbx : ∀ k, k ≤ n → -9 ≤ minTo Prod.fst l k ∧ minTo Prod.fst l k ≤ 9 := fun k hk => minTo_bdW _ l (fun j hj => ⟨(HP.out _ (getD_mem hj)).1, (HP.out _ (getD_mem hj)).2.1⟩) k (by rw [H.out.1]; exact hk)
  have hby : ∀ k, k ≤ n → -9 ≤ minTo Prod.snd l k ∧ minTo Prod.snd l k ≤ 9 := fun k hk => minTo_bdW _ l (fun j hj => (HP.out _ (getD_mem hj)).2.2) k (by rw [H.out.1]; exact hk)
  have HBX := Lib.hid hbx
  have HBY := Lib.hid hby
  clear hbx hby
  go_loopw [4, 5, 6] (fun x y i wr => ∃ k : Nat, k ≤ n ∧ i = .int .i64 k ∧ x = .int .i64 (minTo Prod.fst l k) ∧ y = .int .i64 (minTo Prod.snd l k) ∧ wr = w.alloc (.cells #[] 53)) (fun _ _ i _ => n - (intOf i).toNat)
  case atStart => exact ⟨0, by omega, rfl, rfl, rfl, rfl⟩
  case round =>
    obtain ⟨k, hk, rfl, rfl, rfl, rfl⟩ := hrel
    by_cases hlt : k < n
    · obtain ⟨b1, o1, rfl, hb1, hc1⟩ := H.out.2.2 (by omega)
      obtain ⟨x, y, hxy⟩ : ∃ x y, l.getD k (0, 0) = (x, y) := ⟨_, _, rfl⟩
      obtain ⟨p, hp⟩ : ∃ p, minTo Prod.fst l k = p := ⟨_, rfl⟩
      obtain ⟨q, hq⟩ : ∃ q, minTo Prod.snd l k = q := ⟨_, rfl⟩
      have p1 : (w.alloc (.cells #[] 53)).cell? ⟨b1, o1 + k * 2, none⟩ = _ := (World.cell?_alloc_lt _ _ _ (by show b1 < _; omega)).trans (hc1 k hlt).1
      have p2 : (w.alloc (.cells #[] 53)).cell? ⟨b1, o1 + k * 2 + 1, none⟩ = _ := (World.cell?_alloc_lt _ _ _ (by show b1 < _; omega)).trans (hc1 k hlt).2
      rw [hxy] at p1 p2
      have HX := Lib.hid hxy
      have HPP := Lib.hid hp
      have HQ := Lib.hid hq
      have hk0 : (0 : Int) ≤ (k : Int) := by omega
      have hk1 : (k : Int) < (n : Int) := by omega
      rw [hp, hq]
      clear hxy hc1 hp hq
      by_cases hz : k = 0
      · have ex : minTo Prod.fst l (k + 1) = x := by rw [minTo_yes (.inl hz), HX.out]
        have ey : minTo Prod.snd l (k + 1) = y := by rw [minTo_yes (.inl hz), HX.out]
        have EX := Lib.hid ex
        have EY := Lib.hid ey
        have hz' : ((k : Int) == 0) = true := by simp; exact hz
        clear ex ey hz
        go_wp2
        go_roundw
        case rel => exact ⟨k + 1, by omega, by go_num, by rw [EX.out], by rw [EY.out], trivial⟩
        case measure => simp [intOf]; omega
      · have hz' : ((k : Int) == 0) = false := by simp; exact hz
        by_cases h1 : x < p
        · have ex : minTo Prod.fst l (k + 1) = x := by rw [minTo_yes (.inr (by rw [HPP.out, HX.out]; exact h1)), HX.out]
          have EX := Lib.hid ex
          clear ex
          by_cases h2 : y < q
          · have ey : minTo Prod.snd l (k + 1) = y := by rw [minTo_yes (.inr (by rw [HQ.out, HX.out]; exact h2)), HX.out]
            have EY := Lib.hid ey
            clear ey hz
            go_wp2
            go_roundw
            case rel => exact ⟨k + 1, by omega, by go_num, by rw [EX.out], by rw [EY.out], trivial⟩
            case measure => simp [intOf]; omega
          · have ey : minTo Prod.snd l (k + 1) = q := by rw [minTo_no (by rw [HQ.out, HX.out]; simp [hz]; omega), HQ.out]
            have EY := Lib.hid ey
            clear ey hz
            go_wp2
            go_roundw
            case rel => exact ⟨k + 1, by omega, by go_num, by rw [EX.out], by rw [EY.out], trivial⟩
            case measure => simp [intOf]; omega
        · have ex : minTo Prod.fst l (k + 1) = p := by rw [minTo_no (by rw [HPP.out, HX.out]; simp [hz]; omega), HPP.out]
          have EX := Lib.hid ex
          clear ex
          by_cases h2 : y < q
          · have ey : minTo Prod.snd l (k + 1) = y := by rw [minTo_yes (.inr (by rw [HQ.out, HX.out]; exact h2)), HX.out]
            have EY := Lib.hid ey
            clear ey hz
            go_wp2
            go_roundw
            case rel => exact ⟨k + 1, by omega, by go_num, by rw [EX.out], by rw [EY.out], trivial⟩
            case measure => simp [intOf]; omega
          · have ey : minTo Prod.snd l (k + 1) = q := by rw [minTo_no (by rw [HQ.out, HX.out]; simp [hz]; omega), HQ.out]
            have EY := Lib.hid ey
            clear ey hz
            go_wp2
            go_roundw
            case rel => exact ⟨k + 1, by omega, by go_num, by rw [EX.out], by rw [EY.out], trivial⟩
            case measure => simp [intOf]; omega
    · obtain rfl : k = n := by omega
      obtain ⟨p, hp⟩ : ∃ p, minTo Prod.fst l k = p := ⟨_, rfl⟩
      obtain ⟨q, hq⟩ : ∃ q, minTo Prod.snd l k = q := ⟨_, rfl⟩
      have hp1 := HBX.out k (Nat.le_refl _)
      have hq1 := HBY.out k (Nat.le_refl _)
      have hcor : cornerC l = l.map fun c => (c.1 - p, c.2 - q) := by unfold cornerC minX minY; rw [H.out.1, hp, hq]
      rw [hp] at hp1
      rw [hq] at hq1
      rw [hp, hq]
      have HC := Lib.hid hcor
      clear hcor hp hq HBX HBY hlt hk
      go_wp2
      go_loopw [3, 7] (fun v i wr => ∃ (j g cc : Nat), j ≤ k ∧ i = .int .i64 j ∧ v = .slice (some ⟨g, 0, none⟩) j cc ∧ wr.ownsRow w.heap.size 53 2 (.slice (some ⟨g, 0, none⟩) j cc) j (cvs ((l.take j).map fun c => (c.1 - p, c.2 - q))) ∧ Below w.heap.size w wr) (fun _ i _ => k - (intOf i).toNat)
      case atStart => exact ⟨0, w.heap.size, 0, by omega, rfl, rfl, by simpa [cvs] using World.ownsRow_lit (base := w.heap.size) (e := 53) (size := 2) w #[] 0 (Nat.le_refl _) (by simp [maxLen]) rfl, (Below.refl _ _).alloc (Nat.le_refl _) _⟩
      case round =>
        obtain ⟨j, g, cc, hj, rfl, rfl, hown, hb⟩ := hrel
        have hsz := hb.size
        by_cases hlt : j < k
        · obtain ⟨b1, o1, rfl, hb1, hc1⟩ := H.out.2.2 (by omega)
          obtain ⟨x, y, hxy⟩ : ∃ x y, l.getD j (0, 0) = (x, y) := ⟨_, _, rfl⟩
          have p1 := (hb.cell (p := ⟨b1, o1 + j * 2, none⟩) (Nat.lt_of_lt_of_le hb1 hB)).trans (hc1 j hlt).1
          have p2 := (hb.cell (p := ⟨b1, o1 + j * 2 + 1, none⟩) (Nat.lt_of_lt_of_le hb1 hB)).trans (hc1 j hlt).2
          rw [hxy] at p1 p2
          have hpx := HP.out _ (getD_mem (l := l) (j := j) (by rw [H.out.1]; exact hlt))
          rw [hxy] at hpx
          unfold inW at hpx
          dsimp only at hpx
          have HX := Lib.hid hxy
          have hk0 : (0 : Int) ≤ (j : Int) := by omega
          have hk1 : (j : Int) < (k : Int) := by omega
          have hbl : b1 < wr.heap.size := by omega
          have hgl := hown.lt g rfl
          have hx1 : IntKind.i64.wrap (x - p) = x - p := IntWalk.i64_in _ (by omega)
          have hy1 : IntKind.i64.wrap (y - q) = y - q := IntWalk.i64_in _ (by omega)
          have hne : g ≠ b1 := by omega
          clear hxy hc1
          go_wp2_with fail
          go_region_held3 (fun w' => w'.cell? ⟨b1, o1 + j * 2, none⟩ = some (.int .i64 x) ∧ w'.cell? ⟨b1, o1 + j * 2 + 1, none⟩ = some (.int .i64 y))
            (first | exact ⟨p1, p2⟩ | go_keep | exact ⟨(hgrow.cell_far ⟨b1, o1 + j * 2, none⟩ (by simp; omega) (by simp; omega)).trans ((World.cell?_alloc_lt _ _ _ hbl).trans p1), (hgrow.cell_far ⟨b1, o1 + j * 2 + 1, none⟩ (by simp; omega) (by simp; omega)).trans ((World.cell?_alloc_lt _ _ _ hbl).trans p2)⟩)
            (first | (refine step_cells rfl _ _ rfl w.heap.size g j cc ((l.take j).map fun c => (c.1 - p, c.2 - q)) ⟨wr.heap.size, 0, none⟩ 1 1 [(x - p, y - q)] rfl rfl ((hown.drew).alloc _) rfl (lies_block (t := 53) (fr := (0, 0)) (heap_alloc_new _ _)) (by omega) (by simp; omega) (wr.heap.size + 1) (by simp) ?_; intro g' cc' w1 hown1 hgrow hat hgb hlt1))
          go_wp2
          clear hx1 hy1
          go_roundw
          case rel => exact ⟨j + 1, g', cc', by omega, by go_num, rfl, by
            have h := hown1
            have e := map_step (fun c => (c.1 - p, c.2 - q)) l j (by rw [H.out.1]; exact hlt)
            rw [HX.out] at e
            dsimp only at e
            rw [e] at h
            exact h, (hb.drew.alloc hsz _).grown hgrow (by simp; omega) (fun i hi => by cases hi; exact hgl.1)⟩
          case measure => simp [intOf]; omega
        · obtain rfl : j = k := by omega
          have e : l.take j = l := List.take_of_length_le (by rw [H.out.1]; exact Nat.le_refl _)
          rw [e] at hown
          have hl2 : (l.map fun c => (c.1 - p, c.2 - q)).length = j := by rw [List.length_map, H.out.1]
          have HO := Lib.hid (show GivesC w (l.map fun c => (c.1 - p, c.2 - q)) (.returned (.slice (some ⟨g, 0, none⟩) j cc)) wr from ⟨g, cc, by rw [hl2], by rw [hl2]; exact hown, hb⟩)
          clear hl2 e
          go_wp2
          go_ret
          rw [HC.out]
          exact HO.out

theorem sCorner (B n cap : Nat) (a : Option Addr) (l : List Cl) (w : World) (hn : n ≤ 4194304) (hc : CellsAt B w a n l) (hp : ∀ c ∈ l, inP c = true) (hB : B ≤ w.heap.size) :
    Calls Tryz.prog 71 #[.slice a n cap] w (GivesC w (cornerC l)) := sCornerW B n cap a l w hn hc (fun c h => inW_of_inP (hp c h)) hB

end Go.Proofs.YtghpljoccclmkaaGreat
