/-
  Shapes moved, in the model: what each call gives.
  Slices of numbers in memory, regions as values, and what the laws' own helpers on them give.
-/
import Derived.Test.YtkcclhnligajeaaGreatDoorVaa
import Derived.Test.YtkcclhnligajeaaGreatDoorVab
namespace Go.Proofs.YtkcclhnligajeaaGreatDoor

section
open Go.RowKit

/-- A new slice of the call's own that reads as l. -/
def GivesC (w : World) (l : List Cl) (e : Ending) (w' : World) : Prop := ∃ g cap, e = .returned (.slice (some ⟨g, 0, none⟩) l.length cap) ∧ w'.ownsRow w.heap.size 126 2 (.slice (some ⟨g, 0, none⟩) l.length cap) l.length (cvs l) ∧ Below w.heap.size w w'
/-- .. and a truth value. -/
def GivesCB (w : World) (l : List Cl) (b : Bool) (e : Ending) (w' : World) : Prop := ∃ g cap, e = .returned (.tuple #[.slice (some ⟨g, 0, none⟩) l.length cap, .bool b]) ∧ w'.ownsRow w.heap.size 126 2 (.slice (some ⟨g, 0, none⟩) l.length cap) l.length (cvs l) ∧ Below w.heap.size w w'

theorem isShape_in {l : List Cl} (h : isShape l = true) : ∀ c ∈ l, inP c = true := by
  intro c hc
  unfold isShape okTo at h
  rw [Bool.and_eq_true, List.all_eq_true] at h
  obtain ⟨j, hj, rfl⟩ := List.getElem_of_mem hc
  have := h.1 j (List.mem_range.2 hj)
  unfold okAt at this
  rw [Bool.and_eq_true] at this
  have e : l.getD j (0, 0) = l[j] := by simp [List.getD, hj]
  rw [← e]
  exact this.1
theorem own_below {w : World} {b b' : Nat} {e : TypeId} {size : Nat} {v : Value} {n : Nat} {xs : List Value} (h : w.ownsRow b e size v n xs) (hb : b' ≤ b) : w.ownsRow b' e size v n xs :=
  ⟨h.1, h.2.imp id fun ⟨g, cap, cur, h1, h2, h3⟩ => ⟨g, cap, cur, h1, Nat.le_trans hb h2, h3⟩⟩
theorem map_step (f : Cl → Cl) (l : List Cl) (k : Nat) (h : k < l.length) : (l.take k).map f ++ [f (l.getD k (0, 0))] = (l.take (k + 1)).map f := by
  rw [List.take_succ_eq_append_getElem h, List.map_append]
  simp [List.getD, h]

/-- Within nine places of the corner, on any side. -/
def inW (c : Cl) : Prop := -9 ≤ c.1 ∧ c.1 ≤ 9 ∧ -9 ≤ c.2 ∧ c.2 ≤ 9
theorem inW_of_inP {c : Cl} (h : inP c = true) : inW c := by
  have := inP_out h
  unfold inW
  omega
theorem minTo_bdW (f : Cl → Int) (l : List Cl) (h : ∀ j, j < l.length → -9 ≤ f (l.getD j (0, 0)) ∧ f (l.getD j (0, 0)) ≤ 9) : ∀ k, k ≤ l.length → -9 ≤ minTo f l k ∧ minTo f l k ≤ 9
  | 0, _ => by simp [minTo]
  | k + 1, hk => by
    have h1 := minTo_bdW f l h k (by omega)
    have h2 := h k (by omega)
    unfold minTo
    split
    · exact h2
    · exact h1

set_option maxHeartbeats 2000000 in
set_option maxRecDepth 100000 in
theorem sCornerW (B n cap : Nat) (a : Option Addr) (l : List Cl) (w : World) (hn : n ≤ 4194304) (hc : CellsAt B w a n l) (hp : ∀ c ∈ l, inW c) (hB : B ≤ w.heap.size) :
    Calls Tryz.prog 182 #[.slice a n cap] w (GivesC w (cornerC l)) := by
  have H := Lib.hid hc
  have HP := Lib.hid hp
  clear hc hp
  go_enter Tryz.func182, Tryz.ntmps182
  go_wp2
  have hbx : ∀ k, k ≤ n → -9 ≤ minTo Prod.fst l k ∧ minTo Prod.fst l k ≤ 9 := fun k hk => minTo_bdW _ l (fun j hj => ⟨(HP.out _ (getD_mem hj)).1, (HP.out _ (getD_mem hj)).2.1⟩) k (by rw [H.out.1]; exact hk)
  have hby : ∀ k, k ≤ n → -9 ≤ minTo Prod.snd l k ∧ minTo Prod.snd l k ≤ 9 := fun k hk => minTo_bdW _ l (fun j hj => (HP.out _ (getD_mem hj)).2.2) k (by rw [H.out.1]; exact hk)
  have HBX := Lib.hid hbx
  have HBY := Lib.hid hby
  clear hbx hby
  go_loopw [4, 5, 6] (fun x y i wr => ∃ k : Nat, k ≤ n ∧ i = .int .i64 k ∧ x = .int .i64 (minTo Prod.fst l k) ∧ y = .int .i64 (minTo Prod.snd l k) ∧ wr = w.alloc (.cells #[] 126)) (fun _ _ i _ => n - (intOf i).toNat)
  case atStart => exact ⟨0, by omega, rfl, rfl, rfl, rfl⟩
  case round =>
    obtain ⟨k, hk, rfl, rfl, rfl, rfl⟩ := hrel
    by_cases hlt : k < n
    · obtain ⟨b1, o1, rfl, hb1, hc1⟩ := H.out.2.2 (by omega)
      obtain ⟨x, y, hxy⟩ : ∃ x y, l.getD k (0, 0) = (x, y) := ⟨_, _, rfl⟩
      obtain ⟨p, hp⟩ : ∃ p, minTo Prod.fst l k = p := ⟨_, rfl⟩
      obtain ⟨q, hq⟩ : ∃ q, minTo Prod.snd l k = q := ⟨_, rfl⟩
      have p1 : (w.alloc (.cells #[] 126)).cell? ⟨b1, o1 + k * 2, none⟩ = _ := (World.cell?_alloc_lt _ _ _ (by show b1 < _; omega)).trans (hc1 k hlt).1
      have p2 : (w.alloc (.cells #[] 126)).cell? ⟨b1, o1 + k * 2 + 1, none⟩ = _ := (World.cell?_alloc_lt _ _ _ (by show b1 < _; omega)).trans (hc1 k hlt).2
      rw [hxy] at p1 p2
      have HX := Lib.hid hxy
      have HPP := Lib.hid hp
      have HQ := Lib.hid hq
      have hk0 : (0 : Int) ≤ (k : Int) := by omega
      have hk1 : (k : Int) < (n : Int) := by omega
      rw [hp, hq]
      clear hxy hc1 hp hq
      by_cases hz : k = 0
      · have ex : minTo Prod.fst l (k + 1) = x := by rw [minTo_yes (.inl hz), HX.out]
        have ey : minTo Prod.snd l (k + 1) = y := by rw [minTo_yes (.inl hz), HX.out]
        have EX := Lib.hid ex
        have EY := Lib.hid ey
        have hz' : ((k : Int) == 0) = true := by simp; exact hz
        clear ex ey hz
        go_wp2
        go_roundw
        case rel => exact ⟨k + 1, by omega, by go_num, by rw [EX.out], by rw [EY.out], trivial⟩
        case measure => simp [intOf]; omega
      · have hz' : ((k : Int) == 0) = false := by simp; exact hz
        by_cases h1 : x < p
        · have ex : minTo Prod.fst l (k + 1) = x := by rw [minTo_yes (.inr (by rw [HPP.out, HX.out]; exact h1)), HX.out]
          have EX := Lib.hid ex
          clear ex
          by_cases h2 : y < q
          · have ey : minTo Prod.snd l (k + 1) = y := by rw [minTo_yes (.inr (by rw [HQ.out, HX.out]; exact h2)), HX.out]
            have EY := Lib.hid ey
            clear ey hz
            go_wp2
            go_roundw
            case rel => exact ⟨k + 1, by omega, by go_num, by rw [EX.out], by rw [EY.out], trivial⟩
            case measure => simp [intOf]; omega
          · have ey : minTo Prod.snd l (k + 1) = q := by rw [minTo_no (by rw [HQ.out, HX.out]; simp [hz]; omega), HQ.out]
            have EY := Lib.hid ey
            clear ey hz
            go_wp2
            go_roundw
            case rel => exact ⟨k + 1, by omega, by go_num, by rw [EX.out], by rw [EY.out], trivial⟩
            case measure => simp [intOf]; omega
        · have ex : minTo Prod.fst l (k + 1) = p := by rw [minTo_no (by rw [HPP.out, HX.out]; simp [hz]; omega), HPP.out]
          have EX := Lib.hid ex
          clear ex
          by_cases h2 : y < q
          · have ey : minTo Prod.snd l (k + 1) = y := by rw [minTo_yes (.inr (by rw [HQ.out, HX.out]; exact h2)), HX.out]
            have EY := Lib.hid ey
            clear ey hz
            go_wp2
            go_roundw
            case rel => exact ⟨k + 1, by omega, by go_num, by rw [EX.out], by rw [EY.out], trivial⟩
            case measure => simp [intOf]; omega
          · have ey : minTo Prod.snd l (k + 1) = q := by rw [minTo_no (by rw [HQ.out, HX.out]; simp [hz]; omega), HQ.out]
            have EY := Lib.hid ey
            clear ey hz
            go_wp2
            go_roundw
            case rel => exact ⟨k + 1, by omega, by go_num, by rw [EX.out], by rw [EY.out], trivial⟩
            case measure => simp [intOf]; omega
    · obtain rfl : k = n := by omega
      obtain ⟨p, hp⟩ : ∃ p, minTo Prod.fst l k = p := ⟨_, rfl⟩
      obtain ⟨q, hq⟩ : ∃ q, minTo Prod.snd l k = q := ⟨_, rfl⟩
      have hp1 := HBX.out k (Nat.le_refl _)
      have hq1 := HBY.out k (Nat.le_refl _)
      have hcor : cornerC l = l.map fun c => (c.1 - p, c.2 - q) := by unfold cornerC minX minY; rw [H.out.1, hp, hq]
      rw [hp] at hp1
      rw [hq] at hq1
      rw [hp, hq]
      have HC := Lib.hid hcor
      clear hcor hp hq HBX HBY hlt hk
      go_wp2
      go_loopw [3, 7] (fun v i wr => ∃ (j g cc : Nat), j ≤ k ∧ i = .int .i64 j ∧ v = .slice (some ⟨g, 0, none⟩) j cc ∧ wr.ownsRow w.heap.size 126 2 (.slice (some ⟨g, 0, none⟩) j cc) j (cvs ((l.take j).map fun c => (c.1 - p, c.2 - q))) ∧ Below w.heap.size w wr) (fun _ i _ => k - (intOf i).toNat)
      case atStart => exact ⟨0, w.heap.size, 0, by omega, rfl, rfl, by simpa [cvs] using World.ownsRow_lit (base := w.heap.size) (e := 126) (size := 2) w #[] 0 (Nat.le_refl _) (by simp [maxLen]) rfl, (Below.refl _ _).alloc (Nat.le_refl _) _⟩
      case round =>
        obtain ⟨j, g, cc, hj, rfl, rfl, hown, hb⟩ := hrel
        have hsz := hb.size
        by_cases hlt : j < k
        · obtain ⟨b1, o1, rfl, hb1, hc1⟩ := H.out.2.2 (by omega)
          obtain ⟨x, y, hxy⟩ : ∃ x y, l.getD j (0, 0) = (x, y) := ⟨_, _, rfl⟩
          have p1 := (hb.cell (p := ⟨b1, o1 + j * 2, none⟩) (Nat.lt_of_lt_of_le hb1 hB)).trans (hc1 j hlt).1
          have p2 := (hb.cell (p := ⟨b1, o1 + j * 2 + 1, none⟩) (Nat.lt_of_lt_of_le hb1 hB)).trans (hc1 j hlt).2
          rw [hxy] at p1 p2
          have hpx := HP.out _ (getD_mem (l := l) (j := j) (by rw [H.out.1]; exact hlt))
          rw [hxy] at hpx
          unfold inW at hpx
          dsimp only at hpx
          have HX := Lib.hid hxy
          have hk0 : (0 : Int) ≤ (j : Int) := by omega
          have hk1 : (j : Int) < (k : Int) := by omega
          have hbl : b1 < wr.heap.size := by omega
          have hgl := hown.lt g rfl
          have hx1 : IntKind.i64.wrap (x - p) = x - p := IntWalk.i64_in _ (by omega)
          have hy1 : IntKind.i64.wrap (y - q) = y - q := IntWalk.i64_in _ (by omega)
          have hne : g ≠ b1 := by omega
          clear hxy hc1
          go_wp2_with fail
          go_region_held3 (fun w' => w'.cell? ⟨b1, o1 + j * 2, none⟩ = some (.int .i64 x) ∧ w'.cell? ⟨b1, o1 + j * 2 + 1, none⟩ = some (.int .i64 y))
            (first | exact ⟨p1, p2⟩ | go_keep | exact ⟨(hgrow.cell_far ⟨b1, o1 + j * 2, none⟩ (by simp; omega) (by simp; omega)).trans ((World.cell?_alloc_lt _ _ _ hbl).trans p1), (hgrow.cell_far ⟨b1, o1 + j * 2 + 1, none⟩ (by simp; omega) (by simp; omega)).trans ((World.cell?_alloc_lt _ _ _ hbl).trans p2)⟩)
            (first | (refine step_cells rfl _ _ rfl w.heap.size g j cc ((l.take j).map fun c => (c.1 - p, c.2 - q)) ⟨wr.heap.size, 0, none⟩ 1 1 [(x - p, y - q)] rfl rfl ((hown.drew).alloc _) rfl (lies_block (t := 126) (fr := (0, 0)) (heap_alloc_new _ _)) (by omega) (by simp; omega) (wr.heap.size + 1) (by simp) ?_; intro g' cc' w1 hown1 hgrow hat hgb hlt1))
          go_wp2
          clear hx1 hy1
          go_roundw
          case rel => exact ⟨j + 1, g', cc', by omega, by go_num, rfl, by
            have h := hown1
            have e := map_step (fun c => (c.1 - p, c.2 - q)) l j (by rw [H.out.1]; exact hlt)
            rw [HX.out] at e
            dsimp only at e
            rw [e] at h
            exact h, (hb.drew.alloc hsz _).grown hgrow (by simp; omega) (fun i hi => by cases hi; exact hgl.1)⟩
          case measure => simp [intOf]; omega
        · obtain rfl : j = k := by omega
          have e : l.take j = l := List.take_of_length_le (by rw [H.out.1]; exact Nat.le_refl _)
          rw [e] at hown
          have hl2 : (l.map fun c => (c.1 - p, c.2 - q)).length = j := by rw [List.length_map, H.out.1]
          have HO := Lib.hid (show GivesC w (l.map fun c => (c.1 - p, c.2 - q)) (.returned (.slice (some ⟨g, 0, none⟩) j cc)) wr from ⟨g, cc, by rw [hl2], by rw [hl2]; exact hown, hb⟩)
          clear hl2 e
          go_wp2
          go_ret
          rw [HC.out]
          exact HO.out

theorem sCorner (B n cap : Nat) (a : Option Addr) (l : List Cl) (w : World) (hn : n ≤ 4194304) (hc : CellsAt B w a n l) (hp : ∀ c ∈ l, inP c = true) (hB : B ≤ w.heap.size) :
    Calls Tryz.prog 182 #[.slice a n cap] w (GivesC w (cornerC l)) := sCornerW B n cap a l w hn hc (fun c h => inW_of_inP (hp c h)) hB

set_option maxHeartbeats 1000000 in
theorem sCornerShape (B n cap : Nat) (a : Option Addr) (l : List Cl) (w : World) (hn : n ≤ 4194304) (hc : CellsAt B w a n l) (hB : B ≤ w.heap.size) :
    Calls Tryz.prog 223 #[.slice a n cap] w (GivesC w (cornS l)) := by
  by_cases h : isShape l = true
  · have hp : ∀ c ∈ l, inP c = true := isShape_in h
    rw [show cornS l = cornerC l from if_pos h]
    have H := Lib.hid hc
    have HP := Lib.hid hp
    clear hc hp
    go_enter Tryz.func223, Tryz.ntmps223
    go_wp2_with fail
    refine (sIsShape B n cap a l w hn H.out hB).mono ?_
    rintro e w1 ⟨rfl, hb1⟩
    go_wp2_with fail
    refine (sCorner B n cap a l w1 hn (H.out.on (hb1.mono hB)) HP.out (Nat.le_trans hB hb1.size)).mono ?_
    rintro e w2 ⟨g, cc, rfl, hown, hb2⟩
    have HO := Lib.hid (show GivesC w (cornerC l) (.returned (.slice (some ⟨g, 0, none⟩) (cornerC l).length cc)) w2 from ⟨g, cc, rfl, own_below hown hb1.size, hb1.trans (hb2.mono hb1.size)⟩)
    clear hown
    go_wp2
    go_ret
    exact HO.out
  · have h' : isShape l = false := by simpa using h
    rw [show cornS l = [] from if_neg h]
    have H := Lib.hid hc
    clear hc h
    go_enter Tryz.func223, Tryz.ntmps223
    go_wp2_with fail
    refine (sIsShape B n cap a l w hn H.out hB).mono ?_
    rintro e w1 ⟨rfl, hb1⟩
    have HO := Lib.hid (show GivesC w [] (.returned (.slice (some ⟨w1.heap.size, 0, none⟩) ([] : List Cl).length 0)) (w1.alloc (.cells #[] 126)) from ⟨_, _, rfl, World.ownsRow_lit (base := w.heap.size) (e := 126) (size := 2) w1 #[] 0 hb1.size (by simp [maxLen]) rfl, hb1.alloc hb1.size _⟩)
    go_wp2
    go_ret
    exact HO.out
end

section
open Go.RowKit

def iv (l : List Int) : List Value := l.map (Value.int .i64)
def In64 (z : Int) : Prop := -9223372036854775808 ≤ z ∧ z ≤ 9223372036854775807
/-- A slice that reads as the list of numbers l, its memory below block B. -/
def IntsAt (B : Nat) (w : World) (a : Option Addr) (n : Nat) (l : List Int) : Prop :=
  l.length = n ∧ (∀ z ∈ l, In64 z) ∧ (0 < n → ∃ b off, a = some ⟨b, off, none⟩ ∧ b < B ∧ ∀ k, k < n → w.cell? ⟨b, off + k, none⟩ = some (.int .i64 (l.getD k 0)))
theorem IntsAt.on {B n : Nat} {w w' : World} {a : Option Addr} {l : List Int} (h : IntsAt B w a n l) (hb : Below B w w') : IntsAt B w' a n l :=
  ⟨h.1, h.2.1, fun hp => by
    obtain ⟨b, off, e, hlt, hc⟩ := h.2.2 hp
    exact ⟨b, off, e, hlt, fun k hk => (hb.cell (p := ⟨b, off + k, none⟩) hlt).trans (hc k hk)⟩⟩
theorem IntsAt.more {B B' n : Nat} {w : World} {a : Option Addr} {l : List Int} (h : IntsAt B w a n l) (hB : B ≤ B') : IntsAt B' w a n l :=
  ⟨h.1, h.2.1, fun hp => by
    obtain ⟨b, off, e, hlt, hc⟩ := h.2.2 hp
    exact ⟨b, off, e, by omega, hc⟩⟩
theorem iv_length (l : List Int) : (iv l).length = l.length := by simp [iv]
theorem iv_get (l : List Int) (k : Nat) (h : k < l.length) : (iv l)[k]? = some (.int .i64 (l.getD k 0)) := by simp [iv, List.getD, h]
theorem iv_one (l : List Int) : ∀ u ∈ iv l, u.oneCell' = true := by
  intro u hu
  obtain ⟨z, _, rfl⟩ := List.mem_map.1 hu
  rfl
theorem iv_set (l : List Int) (k : Nat) (z : Int) : (iv l).set k (.int .i64 z) = iv (l.set k z) := by simp [iv]
theorem IntsAt.of_own {base n cap : Nat} {w : World} {a : Option Addr} {l : List Int} (h : w.ownsRow base 3 1 (.slice a n cap) n (iv l)) (hi : ∀ z ∈ l, In64 z) : IntsAt w.heap.size w a n l := by
  have hl : l.length = n := by have := h.1; rw [iv_length] at this; omega
  refine ⟨hl, hi, fun hp => ?_⟩
  rcases h.2 with ⟨_, h0⟩ | ⟨g, c, cur, he, hb, hg, hnc, hcm, hcs, ht⟩
  · omega
  · injection he with e1 e2 e3
    subst e1 e3
    have hlt : g < w.heap.size := (Array.getElem?_eq_some_iff.1 hg).1
    refine ⟨g, 0, rfl, hlt, fun k hk => ?_⟩
    have c0 := h.cellAt k (by omega)
    rw [iv_get l k (by omega)] at c0
    rw [Nat.zero_add]
    exact c0
theorem IsRd.of_own2 {B n cap : Nat} {w : World} {a : Option Addr} {zs : List Int} (h : w.ownsRow B 3 1 (.slice a n cap) n (iv zs)) : IsRd w.heap.size w (.slice a n cap) zs := by
  have hl : zs.length = n := by have := h.1; rw [iv_length] at this; omega
  subst hl
  exact IsRd.of_own h
theorem info_int : (Tryz.prog.info? 3).map (fun i => (i.zero, i.size, i.bytes)) = some (some (.int .i64 0), 1, 8) := by kernel_rfl
theorem made_ints (n : Nat) : (madeCells #[Value.int .i64 0] n).toList = iv (List.replicate n 0) := by
  apply List.ext_getElem?
  intro j
  by_cases hj : j < n
  · rw [iv_get _ _ (by simpa using hj)]
    simp [madeCells, hj, List.getD, Nat.mod_one]
  · rw [List.getElem?_eq_none (by simp [madeCells]; omega), List.getElem?_eq_none (by rw [iv_length]; simp; omega)]
theorem fillI_step (l : List Int) (k n : Nat) (h : k < n) (hl : l.length = n) : (l.take k ++ List.replicate (n - k) (0 : Int)).set k (l.getD k 0) = l.take (k + 1) ++ List.replicate (n - (k + 1)) 0 := by
  have e : n - k = (n - (k + 1)) + 1 := by omega
  rw [e, List.replicate_succ, List.set_append_right _ _ (by simp; omega)]
  have e2 : k - (l.take k).length = 0 := by simp; omega
  rw [e2, List.set_cons_zero, List.take_succ_eq_append_getElem (by omega)]
  have e3 : l.getD k 0 = l[k]'(by omega) := by simp [List.getD, show k < l.length by omega]
  rw [e3, List.append_assoc]
  rfl

set_option maxHeartbeats 400000 in
set_option maxRecDepth 100000 in
/-- The laws' copy of a slice of numbers: a new slice that reads alike. -/
theorem lToIntS (B n cap : Nat) (a : Option Addr) (l : List Int) (w : World) (hn : n ≤ 1048576) (hc : IntsAt B w a n l) (hB : B ≤ w.heap.size) :
    Calls Tryz.prog 45 #[.slice a n cap] w fun e w' => e = .returned (.slice (some ⟨w.heap.size, 0, none⟩) n n) ∧ w'.ownsRow w.heap.size 3 1 (.slice (some ⟨w.heap.size, 0, none⟩) n n) n (iv l) ∧ Below w.heap.size w w' := by
  obtain ⟨i0, hi, hz0, hz1, hz2⟩ := info_parts info_int
  have HC := Lib.hid hc
  clear hc
  go_enter Tryz.func45, Tryz.ntmps45
  go_wp2_with (first | (at_make; refine wpList_make_full _ rfl _ _ 24 rfl w.heap.size 3 i0 (.int .i64 0) 1 Tryz.underlying24 hi hz0 hz1 _ _ _ _ n rfl rfl rfl rfl ?b2 ?b3 (Nat.le_refl _) ?_) | go_in)
  case b2 => rw [hz2]; omega
  case b3 => unfold maxLen; omega
  intro w0 hown0 hgrow0
  go_wp2
  go_loopw [4] (fun i wr => ∃ k : Nat, k ≤ n ∧ i = .int .i64 k ∧ Hid (wr.ownsRow w.heap.size 3 1 (.slice (some ⟨w.heap.size, 0, none⟩) n n) n (iv (l.take k ++ List.replicate (n - k) 0))) ∧ Below w.heap.size w wr) (fun i _ => n - (intOf i).toNat)
  case atStart => exact ⟨0, by omega, rfl, by rw [made_ints n] at hown0; simpa [Hid] using hown0, (Below.refl _ _).grown hgrow0 (Nat.le_refl _) (fun k h => by cases h)⟩
  case round =>
    obtain ⟨k, hk, rfl, hown, hbl⟩ := hrel
    by_cases hlt : k < n
    · obtain ⟨b, off, rfl, hb, hcell⟩ := HC.out.2.2 (by omega)
      have p1 := (hbl.cell (p := ⟨b, off + k, none⟩) (Nat.lt_of_lt_of_le hb hB)).trans (hcell k hlt)
      have HL := Lib.hid HC.out.1
      have hk0 : (0 : Int) ≤ (k : Int) := by omega
      have hk1 : (k : Int) < (n : Int) := by omega
      obtain ⟨z, hz⟩ : ∃ z, l.getD k 0 = z := ⟨_, rfl⟩
      rw [hz] at p1
      have HZ := Lib.hid hz
      have hlen : k < (l.take k ++ List.replicate (n - k) (0 : Int)).length := by have := HL.out; simp; omega
      have c0 := hown.out.cellAt k (by omega)
      rw [iv_get _ k hlen] at c0
      have f0 := hown.out.frozenAt k
      have hs1 := hown.out.stored k (.int .i64 z)
      rw [iv_set, ← hz, fillI_step l k n hlt HL.out, hz] at hs1
      have HO := Lib.hid hs1.1
      have HG := Lib.hid (hbl.grown hs1.2 hbl.size (fun j hj => by cases hj; exact Nat.le_refl _))
      generalize (l.take k ++ List.replicate (n - k) (0 : Int)).getD k 0 = u at c0
      clear hs1 hlen hz hcell hown hbl
      go_wp2
      go_roundw
      case rel => exact ⟨k + 1, by omega, by go_num, HO.out, HG.out⟩
      case measure => simp [intOf]; omega
    · have e : l.take k ++ List.replicate (n - k) (0 : Int) = l := by
        have := HC.out.1
        rw [List.take_of_length_le (by omega), show n - k = 0 by omega]
        simp
      rw [e] at hown
      go_wp2
      go_ret
      exact ⟨rfl, hown.out, hbl⟩

/-- A region as a value. -/
def rv (W : Int) (a : Option Addr) (n cap : Nat) : Value := .agg #[.int .i64 W, .slice a n cap]

/-- A region in memory, as two cells. -/
def RgAt (w : World) (g : Nat) (W : Int) (v : Value) : Prop := w.heap[g]? = some (.cells #[.int .i64 W, v] 26 (0, 0))
theorem RgAt.lt {w : World} {g : Nat} {W : Int} {v : Value} (h : RgAt w g W v) : g < w.heap.size := (Array.getElem?_eq_some_iff.1 h).1
theorem RgAt.c0 {w : World} {g : Nat} {W : Int} {v : Value} (h : RgAt w g W v) : w.cell? ⟨g, 0, none⟩ = some (.int .i64 W) := cell_of_row w g 0 _ _ _ h
theorem RgAt.c1 {w : World} {g : Nat} {W : Int} {v : Value} (h : RgAt w g W v) : w.cell? ⟨g, 1, none⟩ = some v := cell_of_row w g 1 _ _ _ h
theorem RgAt.f {w : World} {g : Nat} {W : Int} {v : Value} (h : RgAt w g W v) (j : Nat) : w.frozen? ⟨g, j, none⟩ = false := by unfold RgAt at h; simp [World.frozen?, h]
theorem RgAt.new {w : World} {N : Nat} (W : Int) (v : Value) (h : w.heap.size = N) : RgAt (w.alloc (.cells #[.int .i64 W, v] 26)) N W v := by subst h; exact heap_alloc_new _ _
theorem RgAt.alloc {w : World} {g : Nat} {W : Int} {v : Value} (h : RgAt w g W v) (o : Obj) : RgAt (w.alloc o) g W v := (Below.heap_alloc w o g h.lt).trans h
theorem RgAt.on {w w' : World} {g B : Nat} {W : Int} {v : Value} (h : RgAt w g W v) (hb : Below B w w') (hlt : g < B) : RgAt w' g W v := (hb.block g hlt).trans h
theorem RgAt.set1 {w : World} {g : Nat} {W : Int} {v : Value} (h : RgAt w g W v) (u : Value) : RgAt (w.setCell ⟨g, 1, none⟩ u) g W u := by
  have := set_row h 1 u
  unfold RgAt
  simpa using this
theorem RgAt.set2 {w : World} {g : Nat} {W : Int} {v : Value} (h : RgAt w g W v) (x : Int) (u : Value) : RgAt ((w.setCell ⟨g, 0, none⟩ (.int .i64 x)).setCell ⟨g, 1, none⟩ u) g x u := by
  have := set_row (set_row h 0 (.int .i64 x)) 1 u
  unfold RgAt
  simpa using this
theorem RgAt.far {w : World} {g g' j : Nat} {W : Int} {v u : Value} (h : RgAt w g W v) (hne : g' ≠ g) : RgAt (w.setCell ⟨g', j, none⟩ u) g W v := (Below.heap_setCell w ⟨g', j, none⟩ u g (fun e => hne e.symm)).trans h
theorem RgAt.by {w w' : World} {g : Nat} {W : Int} {v : Value} {r : Option Nat} (h : RgAt w g W v) (hg : w.grownBy w' r) (hne : r ≠ some g) : RgAt w' g W v := (hg.block g h.lt (fun e => hne e.symm)).trans h
/-- A region of the laws' own type in memory. -/
def LgAt (w : World) (g : Nat) (W : Int) (v : Value) : Prop := w.heap[g]? = some (.cells #[.int .i64 W, v] 52 (0, 0))
theorem LgAt.lt {w : World} {g : Nat} {W : Int} {v : Value} (h : LgAt w g W v) : g < w.heap.size := (Array.getElem?_eq_some_iff.1 h).1
theorem LgAt.c0 {w : World} {g : Nat} {W : Int} {v : Value} (h : LgAt w g W v) : w.cell? ⟨g, 0, none⟩ = some (.int .i64 W) := cell_of_row w g 0 _ _ _ h
theorem LgAt.c1 {w : World} {g : Nat} {W : Int} {v : Value} (h : LgAt w g W v) : w.cell? ⟨g, 1, none⟩ = some v := cell_of_row w g 1 _ _ _ h
theorem LgAt.new {w : World} {N : Nat} (W : Int) (v : Value) (h : w.heap.size = N) : LgAt (w.alloc (.cells #[.int .i64 W, v] 52)) N W v := by subst h; exact heap_alloc_new _ _
theorem LgAt.alloc {w : World} {g : Nat} {W : Int} {v : Value} (h : LgAt w g W v) (o : Obj) : LgAt (w.alloc o) g W v := (Below.heap_alloc w o g h.lt).trans h
theorem LgAt.on {w w' : World} {g B : Nat} {W : Int} {v : Value} (h : LgAt w g W v) (hb : Below B w w') (hlt : g < B) : LgAt w' g W v := (hb.block g hlt).trans h
theorem LgAt.by {w w' : World} {g : Nat} {W : Int} {v : Value} {r : Option Nat} (h : LgAt w g W v) (hg : w.grownBy w' r) (hne : r ≠ some g) : LgAt w' g W v := (hg.block g h.lt (fun e => hne e.symm)).trans h
theorem ne_rowT {v u : Value} {a b c d : Nat} (h : ∀ k, v.ownBlock = some k → a ≤ k ∧ k < b) (h2 : ∀ k, u.ownBlock = some k → c ≤ k ∧ k < d) (hd : b ≤ c ∨ d ≤ a) : v.ownBlock = none ∨ v.ownBlock ≠ u.ownBlock := by
  cases e : v.ownBlock with
  | none => exact .inl rfl
  | some k => exact .inr fun e2 => by have := h k e; have := h2 k e2.symm; omega
theorem ne_blkT {u : Value} {c d g : Nat} (h2 : ∀ k, u.ownBlock = some k → c ≤ k ∧ k < d) (hd : g < c ∨ d ≤ g) : u.ownBlock ≠ some g := fun e => by have := h2 g e; omega
theorem grown_set1 (w : World) (g o : Nat) (v : Value) : w.grownBy (w.setCell ⟨g, o, none⟩ v) (some g) := ⟨rfl, rfl, rfl, by simp [World.setCell], fun k _ hne => by
  have : g ≠ k := fun e => hne (by rw [e])
  simp [World.setCell, Array.getElem?_modify, this]⟩

theorem own_far {w : World} {base size n cap g b o : Nat} {t : TypeId} {xs : List Value} {u : Value} (h : w.ownsRow base t size (.slice (some ⟨g, 0, none⟩) n cap) n xs) (hne : b ≠ g) : (w.setCell ⟨b, o, none⟩ u).ownsRow base t size (.slice (some ⟨g, 0, none⟩) n cap) n xs :=
  h.kept (grown_set1 w b o u) (.inr fun e => hne (Option.some.inj (show some g = some b from e)).symm)

set_option maxHeartbeats 400000 in
set_option maxRecDepth 100000 in
theorem lToRegion (B n cap : Nat) (a : Option Addr) (W : Int) (l : List Int) (w : World) (hn : n ≤ 1048576) (hc : IntsAt B w a n l) (hB : B ≤ w.heap.size) :
    Calls Tryz.prog 43 #[.agg #[.int .i64 W, .slice a n cap]] w fun e w' => ∃ g, e = .returned (.agg #[.int .i64 W, .slice (some ⟨g, 0, none⟩) n n]) ∧ w'.ownsRow w.heap.size 3 1 (.slice (some ⟨g, 0, none⟩) n n) n (iv l) ∧ Below w.heap.size w w' := by
  have H := Lib.hid hc
  clear hc
  go_enter Tryz.func43, Tryz.ntmps43
  go_wp2_with fail
  obtain ⟨W1, hW1⟩ : ∃ x, w.alloc (.cells #[.int .i64 W, .slice a n cap] 52) = x := ⟨_, rfl⟩
  have hs1 : W1.heap.size = w.heap.size + 1 := by rw [← hW1]; simp
  have hb1 : Below w.heap.size w W1 := by rw [← hW1]; exact (Below.refl _ _).alloc (Nat.le_refl _) _
  rw [hW1]
  have R2 := (RgAt.new (w := W1) 0 (.slice none 0 0) hs1).alloc (.cells #[.int .i64 W, .slice none 0 0] 26)
  have R3 := RgAt.new (w := W1.alloc (.cells #[.int .i64 0, .slice none 0 0] 26)) (N := w.heap.size + 1 + 1) W (.slice none 0 0) (by simp [hs1])
  have hb3 := (hb1.alloc hb1.size (.cells #[.int .i64 0, .slice none 0 0] 26)).alloc (by simp [hs1]; omega) (.cells #[.int .i64 W, .slice none 0 0] 26)
  have hs3 : ((W1.alloc (.cells #[.int .i64 0, .slice none 0 0] 26)).alloc (.cells #[.int .i64 W, .slice none 0 0] 26)).heap.size = w.heap.size + 1 + 1 + 1 := by simp [hs1]
  generalize (W1.alloc (.cells #[.int .i64 0, .slice none 0 0] 26)).alloc (.cells #[.int .i64 W, .slice none 0 0] 26) = W3 at *
  refine (lToIntS B n cap a l W3 hn (H.out.on (hb3.mono hB)) (Nat.le_trans hB hb3.size)).mono ?_
  rintro e w4 ⟨rfl, hown, hb4⟩
  have R2' := R2.on hb4 R2.lt
  have R3' := R3.on hb4 R3.lt
  have hB4 := hb3.trans (hb4.mono hb3.size)
  rw [hs3] at hown ⊢
  have c0 := R3'.c0
  have c1 := R3'.c1
  have f1 := R3'.f 1
  have d0 := R2'.c0
  have d1 := R2'.c1
  have g0 := R2'.f 0
  have g1 := R2'.f 1
  have HO := Lib.hid hown
  have HR2 := Lib.hid R2'
  have HR3 := Lib.hid R3'
  have HB := Lib.hid hB4
  clear hb1 hb3 hb4 hW1 R2 R3 hown R2' R3' hB4
  go_wp2
  have R9 := (HR2.out.far (g' := w.heap.size + 1 + 1) (j := 1) (u := .slice (some ⟨w.heap.size + 1 + 1 + 1, 0, none⟩) n n) (by omega)).set2 W (.slice (some ⟨w.heap.size + 1 + 1 + 1, 0, none⟩) n n)
  have e0 := R9.c0
  have e1 := R9.c1
  have HO9 := Lib.hid (own_below (own_far (b := w.heap.size + 1) (o := 1) (u := .slice (some ⟨w.heap.size + 1 + 1 + 1, 0, none⟩) n n) (own_far (b := w.heap.size + 1) (o := 0) (u := .int .i64 W) (own_far (b := w.heap.size + 1 + 1) (o := 1) (u := .slice (some ⟨w.heap.size + 1 + 1 + 1, 0, none⟩) n n) HO.out (by omega)) (by omega)) (by omega)) (show w.heap.size ≤ w.heap.size + 1 + 1 + 1 by omega))
  have HB9 := Lib.hid (((HB.out.setCell (p := ⟨w.heap.size + 1 + 1, 1, none⟩) (by show w.heap.size ≤ w.heap.size + 1 + 1; omega) (.slice (some ⟨w.heap.size + 1 + 1 + 1, 0, none⟩) n n)).setCell (p := ⟨w.heap.size + 1, 0, none⟩) (by show w.heap.size ≤ w.heap.size + 1; omega) (.int .i64 W)).setCell (p := ⟨w.heap.size + 1, 1, none⟩) (by show w.heap.size ≤ w.heap.size + 1; omega) (.slice (some ⟨w.heap.size + 1 + 1 + 1, 0, none⟩) n n))
  generalize (((w4.setCell ⟨w.heap.size + 1 + 1, 1, none⟩ (.slice (some ⟨w.heap.size + 1 + 1 + 1, 0, none⟩) n n)).setCell ⟨w.heap.size + 1, 0, none⟩ (.int .i64 W)).setCell ⟨w.heap.size + 1, 1, none⟩ (.slice (some ⟨w.heap.size + 1 + 1 + 1, 0, none⟩) n n)) = w9 at *
  exact bodyPost_ret (v := .agg #[.int .i64 W, .slice (some ⟨w.heap.size + 1 + 1 + 1, 0, none⟩) n n]) (by simp [results, Tryz.results43, go_sem, e0, e1]) rfl ⟨_, rfl, HO9.out, HB9.out⟩

theorem lSzI_fits (a : Option Addr) (n cap : Nat) (left : Int) (w : World) (h0 : left ≤ 1048576) (h : (n : Int) ≤ left) :
    Calls Tryz.prog 92 #[.slice a n cap, .int .i64 left] w fun e w' => e = .returned (.int .i64 (left - n)) ∧ w = w' := by
  go_enter Tryz.func92, Tryz.ntmps92
  go_wp2
  go_ret
  exact ⟨rfl, rfl⟩
theorem lSzI_big (a : Option Addr) (n cap : Nat) (left : Int) (w : World) (h0 : 0 ≤ left) (h : left < n) (hn : n ≤ 9223372036854775807) :
    Calls Tryz.prog 92 #[.slice a n cap, .int .i64 left] w fun e w' => e = .returned (.int .i64 (-1)) ∧ w = w' := by
  go_enter Tryz.func92, Tryz.ntmps92
  go_wp2
  go_ret
  exact ⟨rfl, rfl⟩
theorem lSzR_fits (W : Int) (a : Option Addr) (n cap : Nat) (left : Int) (w : World) (h0 : left ≤ 1048576) (h : (n : Int) ≤ left) :
    Calls Tryz.prog 41 #[.agg #[.int .i64 W, .slice a n cap], .int .i64 left] w fun e w' => e = .returned (.int .i64 (left - n)) ∧ Below w.heap.size w w' := by
  go_enter Tryz.func41, Tryz.ntmps41
  go_wp2_with fail
  refine (lSzI_fits a n cap left _ h0 h).mono ?_
  rintro e w' ⟨rfl, rfl⟩
  go_wp2
  go_ret
  exact ⟨rfl, (Below.refl _ _).alloc (Nat.le_refl _) _⟩
theorem lSzR_big (W : Int) (a : Option Addr) (n cap : Nat) (left : Int) (w : World) (h0 : 0 ≤ left) (h : left < n) (hn : n ≤ 9223372036854775807) :
    Calls Tryz.prog 41 #[.agg #[.int .i64 W, .slice a n cap], .int .i64 left] w fun e w' => e = .returned (.int .i64 (-1)) ∧ Below w.heap.size w w' := by
  go_enter Tryz.func41, Tryz.ntmps41
  go_wp2_with fail
  refine (lSzI_big a n cap left _ h0 h hn).mono ?_
  rintro e w' ⟨rfl, rfl⟩
  go_wp2
  go_ret
  exact ⟨rfl, (Below.refl _ _).alloc (Nat.le_refl _) _⟩

set_option maxHeartbeats 400000 in
theorem lEqR (B : Nat) (W : Int) (v1 v2 : Value) (zs : List Int) (w : World) (hn : zs.length ≤ 4194304) (h1 : IsRd B w v1 zs) (h2 : IsRd B w v2 zs) (hB : B ≤ w.heap.size) :
    Calls Tryz.prog 46 #[.agg #[.int .i64 W, v1], .agg #[.int .i64 W, v2]] w fun e w' => e = .returned (.bool true) ∧ Below w.heap.size w w' := by
  have H1 := Lib.hid h1
  have H2 := Lib.hid h2
  have hne : (W != W) = false := by simp
  clear h1 h2
  go_enter Tryz.func46, Tryz.ntmps46
  go_wp2_with fail
  have hb := ((Below.refl w.heap.size w).alloc (Nat.le_refl _) (.cells #[.int .i64 W, v1] 26)).alloc (by simp) (.cells #[.int .i64 W, v2] 26)
  refine (lEqI B v1 v2 zs _ hn (H1.out.on (hb.mono hB)) (H2.out.on (hb.mono hB)) (Nat.le_trans hB hb.size)).mono ?_
  rintro e w' ⟨rfl, hb2⟩
  go_wp2
  go_ret
  exact ⟨rfl, hb.trans (hb2.mono hb.size)⟩
set_option maxHeartbeats 400000 in
theorem lMarkR (base : Nat) (W : Int) (v : Value) (zs : List Int) (k0 : Int) (w : World) (hn : zs.length ≤ 4194304) (h0 : 0 ≤ k0) (h1 : k0 ≤ 1048576) (ho : w.ownsRow base 3 1 v zs.length (iv zs)) :
    Calls Tryz.prog 49 #[.agg #[.int .i64 W, v], .int .i64 k0] w fun e w' => e = .returned (.int .i64 (k0 + zs.length)) ∧ w'.ownsRow base 3 1 v zs.length (iv (marksI k0 zs.length)) ∧ w.grownBy w' v.ownBlock := by
  have HO := Lib.hid ho
  clear ho
  go_enter Tryz.func49, Tryz.ntmps49
  go_wp2_with fail
  have hg := grow_below ((Below.refl w.heap.size w).alloc (Nat.le_refl _) (.cells #[.int .i64 W, v] 26)) v.ownBlock
  refine (lMarkI base v zs k0 _ hn h0 h1 (HO.out.alloc _)).mono ?_
  rintro e w' ⟨rfl, ho2, hg2⟩
  have HO2 := Lib.hid ho2
  clear ho2
  go_wp2
  go_ret
  exact ⟨rfl, HO2.out, hg.trans hg2⟩
end

end Go.Proofs.YtkcclhnligajeaaGreatDoor
