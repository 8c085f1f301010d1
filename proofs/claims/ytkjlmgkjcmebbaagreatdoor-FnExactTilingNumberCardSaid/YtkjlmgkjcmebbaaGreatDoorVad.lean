/-
  Shapes moved, in the model: what each call gives.
  The size of a shape, in the model: what the call gives.
  Do cells hang together, in the model: what the call gives.
  Enumeration: what comes of taking one cell away; plain facts.
  Shapes turned: the order in which one moves and sorts does not matter; plain facts.
  Symmetries, congruence and mirror images: where the program's words and the model's are one; plain facts.
-/
import Derived.Test.YtkjlmgkjcmebbaaGreatDoorVac
import Derived.Shelf.SlSortCmp.QuietGrown
import Derived.Test.YtkjlmgkjcmebbaaGreatDoorVaa
namespace Go.Proofs.YtkjlmgkjcmebbaaGreatDoor

section
open Go.RowKit

/-- A new slice of the call's own that reads as l. -/
def GivesC (w : World) (l : List Cl) (e : Ending) (w' : World) : Prop := ∃ g cap, e = .returned (.slice (some ⟨g, 0, none⟩) l.length cap) ∧ w'.ownsRow w.heap.size 86 2 (.slice (some ⟨g, 0, none⟩) l.length cap) l.length (cvs l) ∧ Below w.heap.size w w'
/-- .. and a truth value. -/
def GivesCB (w : World) (l : List Cl) (b : Bool) (e : Ending) (w' : World) : Prop := ∃ g cap, e = .returned (.tuple #[.slice (some ⟨g, 0, none⟩) l.length cap, .bool b]) ∧ w'.ownsRow w.heap.size 86 2 (.slice (some ⟨g, 0, none⟩) l.length cap) l.length (cvs l) ∧ Below w.heap.size w w'

theorem isShape_in {l : List Cl} (h : isShape l = true) : ∀ c ∈ l, inP c = true := by
  intro c hc
  unfold isShape okTo at h
  rw [Bool.and_eq_true, List.all_eq_true] at h
  obtain ⟨j, hj, rfl⟩ := List.getElem_of_mem hc
  have := h.1 j (List.mem_range.2 hj)
  unfold okAt at this
  rw [Bool.and_eq_true] at this
  have e : l.getD j (0, 0) = l[j] := by simp [List.getD, hj]
  rw [← e]
  exact this.1
theorem own_below {w : World} {b b' : Nat} {e : TypeId} {size : Nat} {v : Value} {n : Nat} {xs : List Value} (h : w.ownsRow b e size v n xs) (hb : b' ≤ b) : w.ownsRow b' e size v n xs :=
  ⟨h.1, h.2.imp id fun ⟨g, cap, cur, h1, h2, h3⟩ => ⟨g, cap, cur, h1, Nat.le_trans hb h2, h3⟩⟩
theorem map_step (f : Cl → Cl) (l : List Cl) (k : Nat) (h : k < l.length) : (l.take k).map f ++ [f (l.getD k (0, 0))] = (l.take (k + 1)).map f := by
  rw [List.take_succ_eq_append_getElem h, List.map_append]
  simp [List.getD, h]

/-- Within nine places of the corner, on any side. -/
def inW (c : Cl) : Prop := -9 ≤ c.1 ∧ c.1 ≤ 9 ∧ -9 ≤ c.2 ∧ c.2 ≤ 9
theorem inW_of_inP {c : Cl} (h : inP c = true) : inW c := by
  have := inP_out h
  unfold inW
  omega
theorem minTo_bdW (f : Cl → Int) (l : List Cl) (h : ∀ j, j < l.length → -9 ≤ f (l.getD j (0, 0)) ∧ f (l.getD j (0, 0)) ≤ 9) : ∀ k, k ≤ l.length → -9 ≤ minTo f l k ∧ minTo f l k ≤ 9
  | 0, _ => by simp [minTo]
  | k + 1, hk => by
    have h1 := minTo_bdW f l h k (by omega)
    have h2 := h k (by omega)
    unfold minTo
    split
    · exact h2
    · exact h1

set_option maxHeartbeats 2000000 in
set_option maxRecDepth 100000 in
theorem sCornerW (B n cap : Nat) (a : Option Addr) (l : List Cl) (w : World) (hn : n ≤ 4194304) (hc : CellsAt B w a n l) (hp : ∀ c ∈ l, inW c) (hB : B ≤ w.heap.size) :
    Calls Tryz.prog 181 #[.slice a n cap] w (GivesC w (cornerC l)) := by
  have H := Lib.hid hc
  have HP := Lib.hid hp
  clear hc hp
  go_enter Tryz.func181, Tryz.ntmps181
  go_wp2
  have hbx : ∀ k, k ≤ n → -9 ≤ minTo Prod.fst l k ∧ minTo Prod.fst l k ≤ 9 := fun k hk => minTo_bdW _ l (fun j hj => ⟨(HP.out _ (getD_mem hj)).1, (HP.out _ (getD_mem hj)).2.1⟩) k (by rw [H.out.1]; exact hk)
  have hby : ∀ k, k ≤ n → -9 ≤ minTo Prod.snd l k ∧ minTo Prod.snd l k ≤ 9 := fun k hk => minTo_bdW _ l (fun j hj => (HP.out _ (getD_mem hj)).2.2) k (by rw [H.out.1]; exact hk)
  have HBX := Lib.hid hbx
  have HBY := Lib.hid hby
  clear hbx hby
  go_loopw [4, 5, 6] (fun x y i wr => ∃ k : Nat, k ≤ n ∧ i = .int .i64 k ∧ x = .int .i64 (minTo Prod.fst l k) ∧ y = .int .i64 (minTo Prod.snd l k) ∧ wr = w.alloc (.cells #[] 86)) (fun _ _ i _ => n - (intOf i).toNat)
  case atStart => exact ⟨0, by omega, rfl, rfl, rfl, rfl⟩
  case round =>
    obtain ⟨k, hk, rfl, rfl, rfl, rfl⟩ := hrel
    by_cases hlt : k < n
    · obtain ⟨b1, o1, rfl, hb1, hc1⟩ := H.out.2.2 (by omega)
      obtain ⟨x, y, hxy⟩ : ∃ x y, l.getD k (0, 0) = (x, y) := ⟨_, _, rfl⟩
      obtain ⟨p, hp⟩ : ∃ p, minTo Prod.fst l k = p := ⟨_, rfl⟩
      obtain ⟨q, hq⟩ : ∃ q, minTo Prod.snd l k = q := ⟨_, rfl⟩
      have p1 : (w.alloc (.cells #[] 86)).cell? ⟨b1, o1 + k * 2, none⟩ = _ := (World.cell?_alloc_lt _ _ _ (by show b1 < _; omega)).trans (hc1 k hlt).1
      have p2 : (w.alloc (.cells #[] 86)).cell? ⟨b1, o1 + k * 2 + 1, none⟩ = _ := (World.cell?_alloc_lt _ _ _ (by show b1 < _; omega)).trans (hc1 k hlt).2
      rw [hxy] at p1 p2
      have HX := Lib.hid hxy
      have HPP := Lib.hid hp
      have HQ := Lib.hid hq
      have hk0 : (0 : Int) ≤ (k : Int) := by omega
      have hk1 : (k : Int) < (n : Int) := by omega
      rw [hp, hq]
      clear hxy hc1 hp hq
      by_cases hz : k = 0
      · have ex : minTo Prod.fst l (k + 1) = x := by rw [minTo_yes (.inl hz), HX.out]
        have ey : minTo Prod.snd l (k + 1) = y := by rw [minTo_yes (.inl hz), HX.out]
        have EX := Lib.hid ex
        have EY := Lib.hid ey
        have hz' : ((k : Int) == 0) = true := by simp; exact hz
        clear ex ey hz
        go_wp2
        go_roundw
        case rel => exact ⟨k + 1, by omega, by go_num, by rw [EX.out], by rw [EY.out], trivial⟩
        case measure => simp [intOf]; omega
      · have hz' : ((k : Int) == 0) = false := by simp; exact hz
        by_cases h1 : x < p
        · have ex : minTo Prod.fst l (k + 1) = x := by rw [minTo_yes (.inr (by rw [HPP.out, HX.out]; exact h1)), HX.out]
          have EX := Lib.hid ex
          clear ex
          by_cases h2 : y < q
          · have ey : minTo Prod.snd l (k + 1) = y := by rw [minTo_yes (.inr (by rw [HQ.out, HX.out]; exact h2)), HX.out]
            have EY := Lib.hid ey
            clear ey hz
            go_wp2
            go_roundw
            case rel => exact ⟨k + 1, by omega, by go_num, by rw [EX.out], by rw [EY.out], trivial⟩
            case measure => simp [intOf]; omega
          · have ey : minTo Prod.snd l (k + 1) = q := by rw [minTo_no (by rw [HQ.out, HX.out]; simp [hz]; omega), HQ.out]
            have EY := Lib.hid ey
            clear ey hz
            go_wp2
            go_roundw
            case rel => exact ⟨k + 1, by omega, by go_num, by rw [EX.out], by rw [EY.out], trivial⟩
            case measure => simp [intOf]; omega
        · have ex : minTo Prod.fst l (k + 1) = p := by rw [minTo_no (by rw [HPP.out, HX.out]; simp [hz]; omega), HPP.out]
          have EX := Lib.hid ex
          clear ex
          by_cases h2 : y < q
          · have ey : minTo Prod.snd l (k + 1) = y := by rw [minTo_yes (.inr (by rw [HQ.out, HX.out]; exact h2)), HX.out]
            have EY := Lib.hid ey
            clear ey hz
            go_wp2
            go_roundw
            case rel => exact ⟨k + 1, by omega, by go_num, by rw [EX.out], by rw [EY.out], trivial⟩
            case measure => simp [intOf]; omega
          · have ey : minTo Prod.snd l (k + 1) = q := by rw [minTo_no (by rw [HQ.out, HX.out]; simp [hz]; omega), HQ.out]
            have EY := Lib.hid ey
            clear ey hz
            go_wp2
            go_roundw
            case rel => exact ⟨k + 1, by omega, by go_num, by rw [EX.out], by rw [EY.out], trivial⟩
            case measure => simp [intOf]; omega
    · obtain rfl : k = n := by omega
      obtain ⟨p, hp⟩ : ∃ p, minTo Prod.fst l k = p := ⟨_, rfl⟩
      obtain ⟨q, hq⟩ : ∃ q, minTo Prod.snd l k = q := ⟨_, rfl⟩
      have hp1 := HBX.out k (Nat.le_refl _)
      have hq1 := HBY.out k (Nat.le_refl _)
      have hcor : cornerC l = l.map fun c => (c.1 - p, c.2 - q) := by unfold cornerC minX minY; rw [H.out.1, hp, hq]
      rw [hp] at hp1
      rw [hq] at hq1
      rw [hp, hq]
      have HC := Lib.hid hcor
      clear hcor hp hq HBX HBY hlt hk
      go_wp2
      go_loopw [3, 7] (fun v i wr => ∃ (j g cc : Nat), j ≤ k ∧ i = .int .i64 j ∧ v = .slice (some ⟨g, 0, none⟩) j cc ∧ wr.ownsRow w.heap.size 86 2 (.slice (some ⟨g, 0, none⟩) j cc) j (cvs ((l.take j).map fun c => (c.1 - p, c.2 - q))) ∧ Below w.heap.size w wr) (fun _ i _ => k - (intOf i).toNat)
      case atStart => exact ⟨0, w.heap.size, 0, by omega, rfl, rfl, by simpa [cvs] using World.ownsRow_lit (base := w.heap.size) (e := 86) (size := 2) w #[] 0 (Nat.le_refl _) (by simp [maxLen]) rfl, (Below.refl _ _).alloc (Nat.le_refl _) _⟩
      case round =>
        obtain ⟨j, g, cc, hj, rfl, rfl, hown, hb⟩ := hrel
        have hsz := hb.size
        by_cases hlt : j < k
        · obtain ⟨b1, o1, rfl, hb1, hc1⟩ := H.out.2.2 (by omega)
          obtain ⟨x, y, hxy⟩ : ∃ x y, l.getD j (0, 0) = (x, y) := ⟨_, _, rfl⟩
          have p1 := (hb.cell (p := ⟨b1, o1 + j * 2, none⟩) (Nat.lt_of_lt_of_le hb1 hB)).trans (hc1 j hlt).1
          have p2 := (hb.cell (p := ⟨b1, o1 + j * 2 + 1, none⟩) (Nat.lt_of_lt_of_le hb1 hB)).trans (hc1 j hlt).2
          rw [hxy] at p1 p2
          have hpx := HP.out _ (getD_mem (l := l) (j := j) (by rw [H.out.1]; exact hlt))
          rw [hxy] at hpx
          unfold inW at hpx
          dsimp only at hpx
          have HX := Lib.hid hxy
          have hk0 : (0 : Int) ≤ (j : Int) := by omega
          have hk1 : (j : Int) < (k : Int) := by omega
          have hbl : b1 < wr.heap.size := by omega
          have hgl := hown.lt g rfl
          have hx1 : IntKind.i64.wrap (x - p) = x - p := IntWalk.i64_in _ (by omega)
          have hy1 : IntKind.i64.wrap (y - q) = y - q := IntWalk.i64_in _ (by omega)
          have hne : g ≠ b1 := by omega
          clear hxy hc1
          go_wp2_with fail
          go_region_held3 (fun w' => w'.cell? ⟨b1, o1 + j * 2, none⟩ = some (.int .i64 x) ∧ w'.cell? ⟨b1, o1 + j * 2 + 1, none⟩ = some (.int .i64 y))
            (first | exact ⟨p1, p2⟩ | go_keep | exact ⟨(hgrow.cell_far ⟨b1, o1 + j * 2, none⟩ (by simp; omega) (by simp; omega)).trans ((World.cell?_alloc_lt _ _ _ hbl).trans p1), (hgrow.cell_far ⟨b1, o1 + j * 2 + 1, none⟩ (by simp; omega) (by simp; omega)).trans ((World.cell?_alloc_lt _ _ _ hbl).trans p2)⟩)
            (first | (refine step_cells rfl _ _ rfl w.heap.size g j cc ((l.take j).map fun c => (c.1 - p, c.2 - q)) ⟨wr.heap.size, 0, none⟩ 1 1 [(x - p, y - q)] rfl rfl ((hown.drew).alloc _) rfl (lies_block (t := 86) (fr := (0, 0)) (heap_alloc_new _ _)) (by omega) (by simp; omega) (wr.heap.size + 1) (by simp) ?_; intro g' cc' w1 hown1 hgrow hat hgb hlt1))
          go_wp2
          clear hx1 hy1
          go_roundw
          case rel => exact ⟨j + 1, g', cc', by omega, by go_num, rfl, by
            have h := hown1
            have e := map_step (fun c => (c.1 - p, c.2 - q)) l j (by rw [H.out.1]; exact hlt)
            rw [HX.out] at e
            dsimp only at e
            rw [e] at h
            exact h, (hb.drew.alloc hsz _).grown hgrow (by simp; omega) (fun i hi => by cases hi; exact hgl.1)⟩
          case measure => simp [intOf]; omega
        · obtain rfl : j = k := by omega
          have e : l.take j = l := List.take_of_length_le (by rw [H.out.1]; exact Nat.le_refl _)
          rw [e] at hown
          have hl2 : (l.map fun c => (c.1 - p, c.2 - q)).length = j := by rw [List.length_map, H.out.1]
          have HO := Lib.hid (show GivesC w (l.map fun c => (c.1 - p, c.2 - q)) (.returned (.slice (some ⟨g, 0, none⟩) j cc)) wr from ⟨g, cc, by rw [hl2], by rw [hl2]; exact hown, hb⟩)
          clear hl2 e
          go_wp2
          go_ret
          rw [HC.out]
          exact HO.out

theorem sCorner (B n cap : Nat) (a : Option Addr) (l : List Cl) (w : World) (hn : n ≤ 4194304) (hc : CellsAt B w a n l) (hp : ∀ c ∈ l, inP c = true) (hB : B ≤ w.heap.size) :
    Calls Tryz.prog 181 #[.slice a n cap] w (GivesC w (cornerC l)) := sCornerW B n cap a l w hn hc (fun c h => inW_of_inP (hp c h)) hB

set_option maxHeartbeats 1000000 in
theorem sCornerShape (B n cap : Nat) (a : Option Addr) (l : List Cl) (w : World) (hn : n ≤ 4194304) (hc : CellsAt B w a n l) (hB : B ≤ w.heap.size) :
    Calls Tryz.prog 202 #[.slice a n cap] w (GivesC w (cornS l)) := by
  by_cases h : isShape l = true
  · have hp : ∀ c ∈ l, inP c = true := isShape_in h
    rw [show cornS l = cornerC l from if_pos h]
    have H := Lib.hid hc
    have HP := Lib.hid hp
    clear hc hp
    go_enter Tryz.func202, Tryz.ntmps202
    go_wp2_with fail
    refine (sIsShape B n cap a l w hn H.out hB).mono ?_
    rintro e w1 ⟨rfl, hb1⟩
    go_wp2_with fail
    refine (sCorner B n cap a l w1 hn (H.out.on (hb1.mono hB)) HP.out (Nat.le_trans hB hb1.size)).mono ?_
    rintro e w2 ⟨g, cc, rfl, hown, hb2⟩
    have HO := Lib.hid (show GivesC w (cornerC l) (.returned (.slice (some ⟨g, 0, none⟩) (cornerC l).length cc)) w2 from ⟨g, cc, rfl, own_below hown hb1.size, hb1.trans (hb2.mono hb1.size)⟩)
    clear hown
    go_wp2
    go_ret
    exact HO.out
  · have h' : isShape l = false := by simpa using h
    rw [show cornS l = [] from if_neg h]
    have H := Lib.hid hc
    clear hc h
    go_enter Tryz.func202, Tryz.ntmps202
    go_wp2_with fail
    refine (sIsShape B n cap a l w hn H.out hB).mono ?_
    rintro e w1 ⟨rfl, hb1⟩
    have HO := Lib.hid (show GivesC w [] (.returned (.slice (some ⟨w1.heap.size, 0, none⟩) ([] : List Cl).length 0)) (w1.alloc (.cells #[] 86)) from ⟨_, _, rfl, World.ownsRow_lit (base := w.heap.size) (e := 86) (size := 2) w1 #[] 0 hb1.size (by simp [maxLen]) rfl, hb1.alloc hb1.size _⟩)
    go_wp2
    go_ret
    exact HO.out
end

section
open Go.RowKit

theorem cornerC_in {l : List Cl} (hp : ∀ c ∈ l, inP c = true) : ∀ c ∈ cornerC l, inP c = true := by
  intro c hc
  obtain ⟨d, hd, rfl⟩ := List.mem_map.1 hc
  have h1 := inP_out (hp d hd)
  obtain ⟨j, hj, rfl⟩ := List.getElem_of_mem hd
  have e : l[j] = l.getD j (0, 0) := by simp [List.getD, hj]
  rw [e] at h1 ⊢
  have h2 := minTo_le Prod.fst l l.length j hj
  have h3 := minTo_le Prod.snd l l.length j hj
  have h4 := minTo_bd Prod.fst l 7 (by omega) (fun j hj => by have := inP_out (hp _ (getD_mem hj)); omega) l.length (Nat.le_refl _)
  have h5 := minTo_bd Prod.snd l 7 (by omega) (fun j hj => by have := inP_out (hp _ (getD_mem hj)); omega) l.length (Nat.le_refl _)
  unfold minX minY inP inb
  simp only [Bool.and_eq_true, decide_eq_true_eq]
  omega
theorem cornS_in (l : List Cl) : ∀ c ∈ cornS l, inP c = true := by
  unfold cornS
  split
  · rename_i h
    exact cornerC_in (isShape_in h)
  · intro c hc; cases hc
theorem isShape_len {l : List Cl} (h : isShape l = true) : 1 ≤ l.length ∧ l.length ≤ 8 := by
  simp [isShape, inb] at h
  omega
theorem cornS_len (l : List Cl) : (cornS l).length ≤ 8 := by
  unfold cornS
  split
  · rename_i h
    have := isShape_len h
    unfold cornerC
    rw [List.length_map]
    omega
  · simp
theorem inP_in {c : Cl} (h : inP c = true) : InC c := by
  have := inP_out h
  unfold InC
  omega
theorem maxTo_bd (f : Cl → Int) (l : List Cl) (h : ∀ c ∈ l, 0 ≤ f c ∧ f c ≤ 7) : ∀ k, k ≤ l.length → 0 ≤ maxTo f l k ∧ maxTo f l k ≤ 8
  | 0, _ => by simp [maxTo]
  | k + 1, hk => by
    have h1 := maxTo_bd f l h k (by omega)
    have h2 := h _ (getD_mem (l := l) (j := k) (by omega))
    unfold maxTo
    split
    · omega
    · exact h1
end

section
open Go.RowKit

def Conn (l : List Cl) : Prop := isShape l = true ∧ AllRch l
end

section
def delC (l : List Cl) (i : Nat) : List Cl := l.take i ++ l.drop (i + 1)
theorem delC_len (l : List Cl) (i : Nat) (h : i < l.length) : (delC l i).length = l.length - 1 := by
  unfold delC
  simp
  omega
/-- The list of a shape's parents: in order, each once, all of them. -/
def IsPar (l : List Cl) (L : List (List Cl)) : Prop := SrtG ltS L ∧ ∀ x, x ∈ L ↔ isShape l = true ∧ ∃ i, i < l.length ∧ Conn (delC l i) ∧ x = cornerC (delC l i)
/-- .. as far as the first k places. -/
def ParTo (l : List Cl) (k : Nat) (L : List (List Cl)) : Prop := SrtG ltS L ∧ ∀ x, x ∈ L ↔ ∃ i, i < k ∧ Conn (delC l i) ∧ x = cornerC (delC l i)
theorem parTo_zero (l : List Cl) : ParTo l 0 [] := ⟨List.Pairwise.nil, fun x => ⟨fun h => (by cases h), fun ⟨i, h, _⟩ => absurd h (Nat.not_lt_zero i)⟩⟩
theorem parTo_skip {l : List Cl} {k : Nat} {L : List (List Cl)} (h : ParTo l k L) (hc : ¬ Conn (delC l k)) : ParTo l (k + 1) L :=
  ⟨h.1, fun x => (h.2 x).trans ⟨fun ⟨i, hi, h2⟩ => ⟨i, by omega, h2⟩, fun ⟨i, hi, h2, h3⟩ => ⟨i, by
    by_cases e : i = k
    · exact absurd (e ▸ h2) hc
    · omega, h2, h3⟩⟩⟩
theorem parTo_put {l : List Cl} {k : Nat} {L : List (List Cl)} (h : ParTo l k L) (hc : Conn (delC l k)) : ParTo l (k + 1) (insG ltS [] L (cornerC (delC l k))) :=
  ⟨insG_srt ordS [] h.1 _, fun x => by
    rw [insG_mem, h.2 x]
    constructor
    · rintro (⟨i, hi, h2⟩ | rfl)
      · exact ⟨i, by omega, h2⟩
      · exact ⟨k, by omega, hc, rfl⟩
    · rintro ⟨i, hi, h2, h3⟩
      by_cases e : i = k
      · subst e; exact .inr h3
      · exact .inl ⟨i, by omega, h2, h3⟩⟩
theorem parTo_all {l : List Cl} {L : List (List Cl)} (hs : isShape l = true) (h : ParTo l l.length L) : IsPar l L := ⟨h.1, fun x => (h.2 x).trans ⟨fun h2 => ⟨hs, h2⟩, fun h2 => h2.2⟩⟩
theorem isPar_none {l : List Cl} (hs : isShape l = false) : IsPar l [] := ⟨List.Pairwise.nil, fun x => ⟨fun h => (by cases h), fun ⟨h, _⟩ => by rw [hs] at h; cases h⟩⟩
theorem isPar_unique {l : List Cl} {L M : List (List Cl)} (h : IsPar l L) (k : IsPar l M) : L = M := srtG_unique ordS h.1 k.1 fun x => (h.2 x).trans (k.2 x).symm
theorem isPar_ex (l : List Cl) : ∃ L, IsPar l L := by
  cases hs : isShape l with
  | false => exact ⟨[], isPar_none hs⟩
  | true =>
    have key : ∀ k, ∃ L, ParTo l k L := by
      intro k
      induction k with
      | zero => exact ⟨[], parTo_zero l⟩
      | succ k ih =>
        obtain ⟨L, hL⟩ := ih
        rcases Classical.em (Conn (delC l k)) with hc | hc
        · exact ⟨_, parTo_put hL hc⟩
        · exact ⟨L, parTo_skip hL hc⟩
    obtain ⟨L, hL⟩ := key l.length
    exact ⟨L, parTo_all hs hL⟩
theorem parTo_le {l : List Cl} : ∀ {k : Nat} {L : List (List Cl)}, ParTo l k L → L.length ≤ k
  | 0, L, h => by
    cases L with
    | nil => simp
    | cons x r => obtain ⟨i, hi, _⟩ := (h.2 x).1 (by simp); omega
  | k + 1, L, h => by
    have : ∃ M, ParTo l k M := by
      clear h
      induction k with
      | zero => exact ⟨[], parTo_zero l⟩
      | succ k ih =>
        obtain ⟨M, hM⟩ := ih
        rcases Classical.em (Conn (delC l k)) with hc | hc
        · exact ⟨_, parTo_put hM hc⟩
        · exact ⟨M, parTo_skip hM hc⟩
    obtain ⟨M, hM⟩ := this
    have hM2 := parTo_le hM
    rcases Classical.em (Conn (delC l k)) with hc | hc
    · have e : L = insG ltS [] M (cornerC (delC l k)) := srtG_unique ordS h.1 (parTo_put hM hc).1 fun x => (h.2 x).trans ((parTo_put hM hc).2 x).symm
      have := insG_le ltS [] M (cornerC (delC l k))
      rw [e]
      omega
    · have e : L = M := srtG_unique ordS h.1 hM.1 fun x => (h.2 x).trans ((parTo_skip hM hc).2 x).symm
      rw [e]
      omega
theorem isPar_shape {l : List Cl} {L : List (List Cl)} (h : IsPar l L) {x : List Cl} (hx : x ∈ L) : isShape x = true := by
  obtain ⟨_, i, _, hc, rfl⟩ := (h.2 x).1 hx
  exact isShape_corner hc.1
theorem isPar_le {l : List Cl} {L : List (List Cl)} (h : IsPar l L) : L.length ≤ 8 := by
  cases hs : isShape l with
  | false =>
    have := isPar_unique h (isPar_none hs)
    rw [this]
    simp
  | true =>
    have h8 := ((isShape_iff l).1 hs).1.2
    have : ParTo l l.length L := ⟨h.1, fun x => (h.2 x).trans ⟨fun h2 => h2.2, fun h2 => ⟨hs, h2⟩⟩⟩
    have := parTo_le this
    omega
end

section
theorem sortU_move (x y : Int) (l : List Cl) : sortU (moveC x y l) = moveC x y (sortU l) := by
  refine (sortU_unique (srt_move (sortU_srt l)) fun c => ?_).symm
  unfold moveC
  simp only [List.mem_map, sortU_mem]
theorem minTo_same (f : Cl → Int) {A C : List Cl} (hA : 0 < A.length) (h : ∀ c, c ∈ A ↔ c ∈ C) : minTo f A A.length = minTo f C C.length := by
  have hC : 0 < C.length := List.length_pos_of_mem ((h _).1 (getD_mem hA))
  refine minTo_eq hA (fun j hj => ?_) ?_
  · obtain ⟨i, hi, e⟩ := mem_getD ((h _).1 (getD_mem hj))
    rw [← e]
    exact minTo_le f C C.length i hi
  · obtain ⟨i, hi, e⟩ := minTo_mem f C C.length hC
    obtain ⟨j, hj, e2⟩ := mem_getD ((h _).2 (getD_mem hi))
    exact ⟨j, hj, by rw [e2, e]⟩
theorem sortU_pos {l : List Cl} (h : 0 < l.length) : 0 < (sortU l).length := List.length_pos_of_mem ((sortU_mem l _).2 (getD_mem h))
theorem cornerC_sortU {l : List Cl} (h : 0 < l.length) : cornerC (sortU l) = sortU (cornerC l) := by
  have e1 : minX (sortU l) = minX l := minTo_same _ (sortU_pos h) (sortU_mem l)
  have e2 : minY (sortU l) = minY l := minTo_same _ (sortU_pos h) (sortU_mem l)
  rw [cornerC_move, cornerC_move, e1, e2, sortU_move]
/-- Turned, moved to the corner, put in order: the program's way. -/
theorem turnC_prog (m : Nat) {l : List Cl} (h : 0 < l.length) : turnC m l = sortU (cornerC (l.map (apM m))) := cornerC_sortU (by simpa using h)
theorem fill_map (f : Cl → Cl) (l : List Cl) (k n : Nat) (h : k < n) (hl : l.length = n) : ((l.take k).map f ++ List.replicate (n - k) ((0 : Int), (0 : Int))).set k (f (l.getD k (0, 0))) = (l.take (k + 1)).map f ++ List.replicate (n - (k + 1)) (0, 0) := by
  have e : n - k = (n - (k + 1)) + 1 := by omega
  have el : ((l.take k).map f).length = k := by simp; omega
  rw [e, List.replicate_succ, List.set_append_right _ _ (by omega), el, Nat.sub_self, List.set_cons_zero, take_snoc l k (by omega), List.map_append, List.append_assoc]
  rfl
theorem over_map (f : Cl → Cl) (l : List Cl) (k : Nat) (h : k < l.length) : ((l.take k).map f ++ l.drop k).set k (f (l.getD k (0, 0))) = (l.take (k + 1)).map f ++ l.drop (k + 1) := by
  have el : ((l.take k).map f).length = k := by simp; omega
  have ed : l.drop k = l.getD k (0, 0) :: l.drop (k + 1) := by rw [List.drop_eq_getElem_cons h]; simp [List.getD, h]
  rw [ed, List.set_append_right _ _ (by omega), el, Nat.sub_self, List.set_cons_zero, take_snoc l k h, List.map_append, List.append_assoc]
  rfl
theorem over_get (f : Cl → Cl) (l : List Cl) (k : Nat) (h : k < l.length) : ((l.take k).map f ++ l.drop k).getD k (0, 0) = l.getD k (0, 0) := by
  have el : ((l.take k).map f).length = k := by simp; omega
  simp only [List.getD_eq_getElem?_getD]
  rw [List.getElem?_append_right (by omega), el, Nat.sub_self, List.getElem?_drop, Nat.add_zero]
end

section
theorem apM_zero (c : Cl) : apM 0 c = c := by simp [apM, rotN, flipC]
theorem srt_sortU {l : List Cl} (h : Srt l) : sortU l = l := (sortU_unique h fun _ => Iff.rfl).symm
theorem turnC_zero {l : List Cl} (h : isShape l = true) : turnC 0 l = cornerC l := by
  have hs := ((isShape_iff l).1 h).2.2
  unfold turnC
  rw [show l.map (apM 0) = l by rw [List.map_congr_left (g := id) (fun c _ => apM_zero c)]; simp, srt_sortU hs]
theorem symS_ne {l : List Cl} (h : isShape l = true) : symS l ≠ [] := by
  intro e
  have : (0 : Int) ∈ symS l := by
    unfold symS symTo
    rw [if_pos h, List.mem_map]
    exact ⟨0, by rw [List.mem_filter]; exact ⟨by simp, by simpa using turnC_zero h⟩, rfl⟩
  rw [e] at this
  cases this
theorem turnC_pos (m : Nat) {l : List Cl} (h : 0 < l.length) : 0 < (turnC m l).length := by
  have : 0 < (sortU (l.map (apM m))).length := sortU_pos (by simpa using h)
  unfold turnC cornerC
  simpa using this
theorem turnsC_len (l : List Cl) (k : Nat) : (turnsC l k).length = k := by simp [turnsC]
theorem turnsC_get (l : List Cl) {k n : Nat} (h : k < n) : (turnsC l n)[k]? = some (turnC k l) := by simp [turnsC, h]
theorem orient_pos {l : List Cl} (h : isShape l = true) : 0 < (orientS l).length := by
  unfold orientS
  rw [if_pos h]
  refine List.length_pos_of_mem (a := turnC 0 l) ((sortG_mem ordS [] _ _).2 ?_)
  exact List.mem_of_getElem? (turnsC_get l (by omega))
theorem canonS_pos {l : List Cl} (h : isShape l = true) : 0 < (canonS l).length := by
  have h0 := orient_pos h
  have hl := ((isShape_iff l).1 h).1.1
  have hm : (orientS l).getD 0 [] ∈ orientS l := by simp [List.getD, h0]
  have hm2 : canonS l ∈ orientS l := hm
  unfold orientS at hm2
  rw [if_pos h, sortG_mem ordS] at hm2
  obtain ⟨m, _, e⟩ := List.mem_map.1 hm2
  rw [← e]
  exact turnC_pos m (by omega)
theorem canonS_no {l : List Cl} (h : isShape l = false) : canonS l = [] := by
  have : orientS l = [] := if_neg (by rw [h]; simp)
  unfold canonS
  rw [this]
  rfl
theorem congS_prog (a b : List Cl) : congS a b = (isShape a && decide (canonS a = canonS b)) := by
  unfold congS
  cases ha : isShape a with
  | false => rfl
  | true =>
    cases hb : isShape b with
    | true => simp
    | false =>
      have : canonS a ≠ canonS b := by
        intro e
        have := canonS_pos ha
        rw [e, canonS_no hb] at this
        simp at this
      simp [this]
theorem chirS_prog (l : List Cl) : chirS l = (isShape l && !(symS l).any fun m => decide (4 ≤ m)) := by
  unfold chirS
  have e : ((symS l).all fun m => decide (m < 4)) = !(symS l).any fun m => decide (4 ≤ m) := by
    rw [List.not_any_eq_all_not]
    congr 1
    funext m
    by_cases h : m < 4
    · simp [h]
    · simp [h]; omega
  rw [e]
  cases h : isShape l with
  | true => simp [symS_ne h]
  | false =>
    have : symS l = [] := if_neg (by rw [h]; simp)
    simp [this]
end

end Go.Proofs.YtkjlmgkjcmebbaaGreatDoor
