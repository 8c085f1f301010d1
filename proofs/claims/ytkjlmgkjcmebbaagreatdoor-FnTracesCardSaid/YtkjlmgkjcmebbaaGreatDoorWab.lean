/-
  Shapes moved, in the model: what each call gives.
  The size of a shape, in the model: what the call gives.
  What a walk is told of a slice of integers that came in, and what its helpers of one byte are.
  Cells compared as structs: what the comparison gives.
  Looking for a cell, cells side by side, equal lists, in the model: what each call gives.
-/
import Derived.Test.YtkjlmgkjcmebbaaGreatDoorWaa
import Derived.Test.YtkjlmgkjcmebbaaGreatDoorKit
import Derived.OpenShut
import Derived.Laws.StructEq
namespace Go.Proofs.YtkjlmgkjcmebbaaGreatDoor

section
open Go.RowKit

/-- A new slice of the call's own that reads as l. -/
def GivesC (w : World) (l : List Cl) (e : Ending) (w' : World) : Prop := ∃ g cap, e = .returned (.slice (some ⟨g, 0, none⟩) l.length cap) ∧ w'.ownsRow w.heap.size 86 2 (.slice (some ⟨g, 0, none⟩) l.length cap) l.length (cvs l) ∧ Below w.heap.size w w'
/-- .. and a truth value. -/
def GivesCB (w : World) (l : List Cl) (b : Bool) (e : Ending) (w' : World) : Prop := ∃ g cap, e = .returned (.tuple #[.slice (some ⟨g, 0, none⟩) l.length cap, .bool b]) ∧ w'.ownsRow w.heap.size 86 2 (.slice (some ⟨g, 0, none⟩) l.length cap) l.length (cvs l) ∧ Below w.heap.size w w'

theorem isShape_in {l : List Cl} (h : isShape l = true) : ∀ c ∈ l, inP c = true := by
  intro c hc
  unfold isShape okTo at h
  rw [Bool.and_eq_true, List.all_eq_true] at h
  obtain ⟨j, hj, rfl⟩ := List.getElem_of_mem hc
  have := h.1 j (List.mem_range.2 hj)
  unfold okAt at this
  rw [Bool.and_eq_true] at this
  have e : l.getD j (0, 0) = l[j] := by simp [List.getD, hj]
  rw [← e]
  exact this.1
theorem own_below {w : World} {b b' : Nat} {e : TypeId} {size : Nat} {v : Value} {n : Nat} {xs : List Value} (h : w.ownsRow b e size v n xs) (hb : b' ≤ b) : w.ownsRow b' e size v n xs :=
  ⟨h.1, h.2.imp id fun ⟨g, cap, cur, h1, h2, h3⟩ => ⟨g, cap, cur, h1, Nat.le_trans hb h2, h3⟩⟩
theorem map_step (f : Cl → Cl) (l : List Cl) (k : Nat) (h : k < l.length) : (l.take k).map f ++ [f (l.getD k (0, 0))] = (l.take (k + 1)).map f := by
  rw [List.take_succ_eq_append_getElem h, List.map_append]
  simp [List.getD, h]

/-- Within nine places of the corner, on any side. -/
def inW (c : Cl) : Prop := -9 ≤ c.1 ∧ c.1 ≤ 9 ∧ -9 ≤ c.2 ∧ c.2 ≤ 9
theorem inW_of_inP {c : Cl} (h : inP c = true) : inW c := by
  have := inP_out h
  unfold inW
  omega
theorem minTo_bdW (f : Cl → Int) (l : List Cl) (h : ∀ j, j < l.length → -9 ≤ f (l.getD j (0, 0)) ∧ f (l.getD j (0, 0)) ≤ 9) : ∀ k, k ≤ l.length → -9 ≤ minTo f l k ∧ minTo f l k ≤ 9
  | 0, _ => by simp [minTo]
  | k + 1, hk => by
    have h1 := minTo_bdW f l h k (by omega)
    have h2 := h k (by omega)
    unfold minTo
    split
    · exact h2
    · exact h1

set_option maxHeartbeats 2000000 in
set_option maxRecDepth 100000 in
theorem sCornerW (B n cap : Nat) (a : Option Addr) (l : List Cl) (w : World) (hn : n ≤ 4194304) (hc : CellsAt B w a n l) (hp : ∀ c ∈ l, inW c) (hB : B ≤ w.heap.size) :
    Calls Tryz.prog 181 #[.slice a n cap] w (GivesC w (cornerC l)) := by
  have H := Lib.hid hc
  have HP := Lib.hid hp
  clear hc hp
  go_enter Tryz.func181, Tryz.ntmps181
  go_wp2
  have hbx : ∀ k, k ≤ n → -9 ≤ minTo Prod.fst l k ∧ minTo Prod.fst l k ≤ 9 := fun k hk => minTo_bdW _ l (fun j hj => ⟨(HP.out _ (getD_mem hj)).1, (HP.out _ (getD_mem hj)).2.1⟩) k (by rw [H.out.1]; exact hk)
  have hby : ∀ k, k ≤ n → -9 ≤ minTo Prod.snd l k ∧ minTo Prod.snd l k ≤ 9 := fun k hk => minTo_bdW _ l (fun j hj => (HP.out _ (getD_mem hj)).2.2) k (by rw [H.out.1]; exact hk)
  have HBX := Lib.hid hbx
  have HBY := Lib.hid hby
  clear hbx hby
  go_loopw [4, 5, 6] (fun x y i wr => ∃ k : Nat, k ≤ n ∧ i = .int .i64 k ∧ x = .int .i64 (minTo Prod.fst l k) ∧ y = .int .i64 (minTo Prod.snd l k) ∧ wr = w.alloc (.cells #[] 86)) (fun _ _ i _ => n - (intOf i).toNat)
  case atStart => exact ⟨0, by omega, rfl, rfl, rfl, rfl⟩
  case round =>
    obtain ⟨k, hk, rfl, rfl, rfl, rfl⟩ := hrel
    by_cases hlt : k < n
    · obtain ⟨b1, o1, rfl, hb1, hc1⟩ := H.out.2.2 (by omega)
      obtain ⟨x, y, hxy⟩ : ∃ x y, l.getD k (0, 0) = (x, y) := ⟨_, _, rfl⟩
      obtain ⟨p, hp⟩ : ∃ p, minTo Prod.fst l k = p := ⟨_, rfl⟩
      obtain ⟨q, hq⟩ : ∃ q, minTo Prod.snd l k = q := ⟨_, rfl⟩
      have p1 : (w.alloc (.cells #[] 86)).cell? ⟨b1, o1 + k * 2, none⟩ = _ := (World.cell?_alloc_lt _ _ _ (by show b1 < _; omega)).trans (hc1 k hlt).1
      have p2 : (w.alloc (.cells #[] 86)).cell? ⟨b1, o1 + k * 2 + 1, none⟩ = _ := (World.cell?_alloc_lt _ _ _ (by show b1 < _; omega)).trans (hc1 k hlt).2
      rw [hxy] at p1 p2
      have HX := Lib.hid hxy
      have HPP := Lib.hid hp
      have HQ := Lib.hid hq
      have hk0 : (0 : Int) ≤ (k : Int) := by omega
      have hk1 : (k : Int) < (n : Int) := by omega
      rw [hp, hq]
      clear hxy hc1 hp hq
      by_cases hz : k = 0
      · have ex : minTo Prod.fst l (k + 1) = x := by rw [minTo_yes (.inl hz), HX.out]
        have ey : minTo Prod.snd l (k + 1) = y := by rw [minTo_yes (.inl hz), HX.out]
        have EX := Lib.hid ex
        have EY := Lib.hid ey
        have hz' : ((k : Int) == 0) = true := by simp; exact hz
        clear ex ey hz
        go_wp2
        go_roundw
        case rel => exact ⟨k + 1, by omega, by go_num, by rw [EX.out], by rw [EY.out], trivial⟩
        case measure => simp [intOf]; omega
      · have hz' : ((k : Int) == 0) = false := by simp; exact hz
        by_cases h1 : x < p
        · have ex : minTo Prod.fst l (k + 1) = x := by rw [minTo_yes (.inr (by rw [HPP.out, HX.out]; exact h1)), HX.out]
          have EX := Lib.hid ex
          clear ex
          by_cases h2 : y < q
          · have ey : minTo Prod.snd l (k + 1) = y := by rw [minTo_yes (.inr (by rw [HQ.out, HX.out]; exact h2)), HX.out]
            have EY := Lib.hid ey
            clear ey hz
            go_wp2
            go_roundw
            case rel => exact ⟨k + 1, by omega, by go_num, by rw [EX.out], by rw [EY.out], trivial⟩
            case measure => simp [intOf]; omega
          · have ey : minTo Prod.snd l (k + 1) = q := by rw [minTo_no (by rw [HQ.out, HX.out]; simp [hz]; omega), HQ.out]
            have EY := Lib.hid ey
            clear ey hz
            go_wp2
            go_roundw
            case rel => exact ⟨k + 1, by omega, by go_num, by rw [EX.out], by rw [EY.out], trivial⟩
            case measure => simp [intOf]; omega
        · have ex : minTo Prod.fst l (k + 1) = p := by rw [minTo_no (by rw [HPP.out, HX.out]; simp [hz]; omega), HPP.out]
          have EX := Lib.hid ex
          clear ex
          by_cases h2 : y < q
          · have ey : minTo Prod.snd l (k + 1) = y := by rw [minTo_yes (.inr (by rw [HQ.out, HX.out]; exact h2)), HX.out]
            have EY := Lib.hid ey
            clear ey hz
            go_wp2
            go_roundw
            case rel => exact ⟨k + 1, by omega, by go_num, by rw [EX.out], by rw [EY.out], trivial⟩
            case measure => simp [intOf]; omega
          · have ey : minTo Prod.snd l (k + 1) = q := by rw [minTo_no (by rw [HQ.out, HX.out]; simp [hz]; omega), HQ.out]
            have EY := Lib.hid ey
            clear ey hz
            go_wp2
            go_roundw
            case rel => exact ⟨k + 1, by omega, by go_num, by rw [EX.out], by rw [EY.out], trivial⟩
            case measure => simp [intOf]; omega
    · obtain rfl : k = n := by omega
      obtain ⟨p, hp⟩ : ∃ p, minTo Prod.fst l k = p := ⟨_, rfl⟩
      obtain ⟨q, hq⟩ : ∃ q, minTo Prod.snd l k = q := ⟨_, rfl⟩
      have hp1 := HBX.out k (Nat.le_refl _)
      have hq1 := HBY.out k (Nat.le_refl _)
      have hcor : cornerC l = l.map fun c => (c.1 - p, c.2 - q) := by unfold cornerC minX minY; rw [H.out.1, hp, hq]
      rw [hp] at hp1
      rw [hq] at hq1
      rw [hp, hq]
      have HC := Lib.hid hcor
      clear hcor hp hq HBX HBY hlt hk
      go_wp2
      go_loopw [3, 7] (fun v i wr => ∃ (j g cc : Nat), j ≤ k ∧ i = .int .i64 j ∧ v = .slice (some ⟨g, 0, none⟩) j cc ∧ wr.ownsRow w.heap.size 86 2 (.slice (some ⟨g, 0, none⟩) j cc) j (cvs ((l.take j).map fun c => (c.1 - p, c.2 - q))) ∧ Below w.heap.size w wr) (fun _ i _ => k - (intOf i).toNat)
      case atStart => exact ⟨0, w.heap.size, 0, by omega, rfl, rfl, by simpa [cvs] using World.ownsRow_lit (base := w.heap.size) (e := 86) (size := 2) w #[] 0 (Nat.le_refl _) (by simp [maxLen]) rfl, (Below.refl _ _).alloc (Nat.le_refl _) _⟩
      case round =>
        obtain ⟨j, g, cc, hj, rfl, rfl, hown, hb⟩ := hrel
        have hsz := hb.size
        by_cases hlt : j < k
        · obtain ⟨b1, o1, rfl, hb1, hc1⟩ := H.out.2.2 (by omega)
          obtain ⟨x, y, hxy⟩ : ∃ x y, l.getD j (0, 0) = (x, y) := ⟨_, _, rfl⟩
          have p1 := (hb.cell (p := ⟨b1, o1 + j * 2, none⟩) (Nat.lt_of_lt_of_le hb1 hB)).trans (hc1 j hlt).1
          have p2 := (hb.cell (p := ⟨b1, o1 + j * 2 + 1, none⟩) (Nat.lt_of_lt_of_le hb1 hB)).trans (hc1 j hlt).2
          rw [hxy] at p1 p2
          have hpx := HP.out _ (getD_mem (l := l) (j := j) (by rw [H.out.1]; exact hlt))
          rw [hxy] at hpx
          unfold inW at hpx
          dsimp only at hpx
          have HX := Lib.hid hxy
          have hk0 : (0 : Int) ≤ (j : Int) := by omega
          have hk1 : (j : Int) < (k : Int) := by omega
          have hbl : b1 < wr.heap.size := by omega
          have hgl := hown.lt g rfl
          have hx1 : IntKind.i64.wrap (x - p) = x - p := IntWalk.i64_in _ (by omega)
          have hy1 : IntKind.i64.wrap (y - q) = y - q := IntWalk.i64_in _ (by omega)
          have hne : g ≠ b1 := by omega
          clear hxy hc1
          go_wp2_with fail
          go_region_held3 (fun w' => w'.cell? ⟨b1, o1 + j * 2, none⟩ = some (.int .i64 x) ∧ w'.cell? ⟨b1, o1 + j * 2 + 1, none⟩ = some (.int .i64 y))
            (first | exact ⟨p1, p2⟩ | go_keep | exact ⟨(hgrow.cell_far ⟨b1, o1 + j * 2, none⟩ (by simp; omega) (by simp; omega)).trans ((World.cell?_alloc_lt _ _ _ hbl).trans p1), (hgrow.cell_far ⟨b1, o1 + j * 2 + 1, none⟩ (by simp; omega) (by simp; omega)).trans ((World.cell?_alloc_lt _ _ _ hbl).trans p2)⟩)
            (first | (refine step_cells rfl _ _ rfl w.heap.size g j cc ((l.take j).map fun c => (c.1 - p, c.2 - q)) ⟨wr.heap.size, 0, none⟩ 1 1 [(x - p, y - q)] rfl rfl ((hown.drew).alloc _) rfl (lies_block (t := 86) (fr := (0, 0)) (heap_alloc_new _ _)) (by omega) (by simp; omega) (wr.heap.size + 1) (by simp) ?_; intro g' cc' w1 hown1 hgrow hat hgb hlt1))
          go_wp2
          clear hx1 hy1
          go_roundw
          case rel => exact ⟨j + 1, g', cc', by omega, by go_num, rfl, by
            have h := hown1
            have e := map_step (fun c => (c.1 - p, c.2 - q)) l j (by rw [H.out.1]; exact hlt)
            rw [HX.out] at e
            dsimp only at e
            rw [e] at h
            exact h, (hb.drew.alloc hsz _).grown hgrow (by simp; omega) (fun i hi => by cases hi; exact hgl.1)⟩
          case measure => simp [intOf]; omega
        · obtain rfl : j = k := by omega
          have e : l.take j = l := List.take_of_length_le (by rw [H.out.1]; exact Nat.le_refl _)
          rw [e] at hown
          have hl2 : (l.map fun c => (c.1 - p, c.2 - q)).length = j := by rw [List.length_map, H.out.1]
          have HO := Lib.hid (show GivesC w (l.map fun c => (c.1 - p, c.2 - q)) (.returned (.slice (some ⟨g, 0, none⟩) j cc)) wr from ⟨g, cc, by rw [hl2], by rw [hl2]; exact hown, hb⟩)
          clear hl2 e
          go_wp2
          go_ret
          rw [HC.out]
          exact HO.out

theorem sCorner (B n cap : Nat) (a : Option Addr) (l : List Cl) (w : World) (hn : n ≤ 4194304) (hc : CellsAt B w a n l) (hp : ∀ c ∈ l, inP c = true) (hB : B ≤ w.heap.size) :
    Calls Tryz.prog 181 #[.slice a n cap] w (GivesC w (cornerC l)) := sCornerW B n cap a l w hn hc (fun c h => inW_of_inP (hp c h)) hB

set_option maxHeartbeats 1000000 in
theorem sCornerShape (B n cap : Nat) (a : Option Addr) (l : List Cl) (w : World) (hn : n ≤ 4194304) (hc : CellsAt B w a n l) (hB : B ≤ w.heap.size) :
    Calls Tryz.prog 202 #[.slice a n cap] w (GivesC w (cornS l)) := by
  by_cases h : isShape l = true
  · have hp : ∀ c ∈ l, inP c = true := isShape_in h
    rw [show cornS l = cornerC l from if_pos h]
    have H := Lib.hid hc
    have HP := Lib.hid hp
    clear hc hp
    go_enter Tryz.func202, Tryz.ntmps202
    go_wp2_with fail
    refine (sIsShape B n cap a l w hn H.out hB).mono ?_
    rintro e w1 ⟨rfl, hb1⟩
    go_wp2_with fail
    refine (sCorner B n cap a l w1 hn (H.out.on (hb1.mono hB)) HP.out (Nat.le_trans hB hb1.size)).mono ?_
    rintro e w2 ⟨g, cc, rfl, hown, hb2⟩
    have HO := Lib.hid (show GivesC w (cornerC l) (.returned (.slice (some ⟨g, 0, none⟩) (cornerC l).length cc)) w2 from ⟨g, cc, rfl, own_below hown hb1.size, hb1.trans (hb2.mono hb1.size)⟩)
    clear hown
    go_wp2
    go_ret
    exact HO.out
  · have h' : isShape l = false := by simpa using h
    rw [show cornS l = [] from if_neg h]
    have H := Lib.hid hc
    clear hc h
    go_enter Tryz.func202, Tryz.ntmps202
    go_wp2_with fail
    refine (sIsShape B n cap a l w hn H.out hB).mono ?_
    rintro e w1 ⟨rfl, hb1⟩
    have HO := Lib.hid (show GivesC w [] (.returned (.slice (some ⟨w1.heap.size, 0, none⟩) ([] : List Cl).length 0)) (w1.alloc (.cells #[] 86)) from ⟨_, _, rfl, World.ownsRow_lit (base := w.heap.size) (e := 86) (size := 2) w1 #[] 0 hb1.size (by simp [maxLen]) rfl, hb1.alloc hb1.size _⟩)
    go_wp2
    go_ret
    exact HO.out
end

section
open Go.RowKit

theorem cornerC_in {l : List Cl} (hp : ∀ c ∈ l, inP c = true) : ∀ c ∈ cornerC l, inP c = true := by
  intro c hc
  obtain ⟨d, hd, rfl⟩ := List.mem_map.1 hc
  have h1 := inP_out (hp d hd)
  obtain ⟨j, hj, rfl⟩ := List.getElem_of_mem hd
  have e : l[j] = l.getD j (0, 0) := by simp [List.getD, hj]
  rw [e] at h1 ⊢
  have h2 := minTo_le Prod.fst l l.length j hj
  have h3 := minTo_le Prod.snd l l.length j hj
  have h4 := minTo_bd Prod.fst l 7 (by omega) (fun j hj => by have := inP_out (hp _ (getD_mem hj)); omega) l.length (Nat.le_refl _)
  have h5 := minTo_bd Prod.snd l 7 (by omega) (fun j hj => by have := inP_out (hp _ (getD_mem hj)); omega) l.length (Nat.le_refl _)
  unfold minX minY inP inb
  simp only [Bool.and_eq_true, decide_eq_true_eq]
  omega
theorem cornS_in (l : List Cl) : ∀ c ∈ cornS l, inP c = true := by
  unfold cornS
  split
  · rename_i h
    exact cornerC_in (isShape_in h)
  · intro c hc; cases hc
theorem isShape_len {l : List Cl} (h : isShape l = true) : 1 ≤ l.length ∧ l.length ≤ 8 := by
  simp [isShape, inb] at h
  omega
theorem cornS_len (l : List Cl) : (cornS l).length ≤ 8 := by
  unfold cornS
  split
  · rename_i h
    have := isShape_len h
    unfold cornerC
    rw [List.length_map]
    omega
  · simp
theorem inP_in {c : Cl} (h : inP c = true) : InC c := by
  have := inP_out h
  unfold InC
  omega
theorem maxTo_bd (f : Cl → Int) (l : List Cl) (h : ∀ c ∈ l, 0 ≤ f c ∧ f c ≤ 7) : ∀ k, k ≤ l.length → 0 ≤ maxTo f l k ∧ maxTo f l k ≤ 8
  | 0, _ => by simp [maxTo]
  | k + 1, hk => by
    have h1 := maxTo_bd f l h k (by omega)
    have h2 := h _ (getD_mem (l := l) (j := k) (by omega))
    unfold maxTo
    split
    · omega
    · exact h1
end

section
open Go.RowKit

/-- What the walk is told of a slice of integers that came in. -/
def IsRow (k : IntKind) (w : World) (a : Option Addr) (len cap : Nat) (zs : List Int) : Prop :=
  (a = none ∧ len = 0 ∧ cap = 0 ∧ zs = []) ∨
  ∃ x, a = some x ∧ len ≤ cap ∧ cap ≤ maxLen ∧ zs.length = cap ∧ (∀ i, i < zs.length → w.cell? (x.add i) = some (.int k (zs.getD i 0))) ∧ ∀ n ∈ zs, (Lit.int k n).wf = true
end

section
open Go.RowKit

theorem cell_guard : Tryz.prog.eqGuardType Tryz.prog.depth 86 = false := by kernel_rfl
theorem cell_held : Tryz.prog.stoodInHeld 86 = false := by kernel_rfl
theorem cell_struct : Tryz.prog.underlying 86 = some (.struct (Tryz.prog.fieldsOf 86)) := by kernel_rfl
theorem cell_fields : (Tryz.prog.fieldsOf 86).toList.map (fun f => (f.name, f.type, f.offset)) = [("X", 3, 0), ("Y", 3, 1)] := by kernel_rfl
theorem int_plain : (Tryz.prog.underlying 3) = some (.int .i64) := Tryz.underlying3
def sameC (a b : Cl) : Bool := decide (a = b)
theorem sameC_eq (x y u v : Int) : sameC (x, y) (u, v) = ((x == u) && (y == v)) := by
  unfold sameC
  rw [Bool.eq_iff_iff]
  simp
theorem part_int (cs : Array Value) (off : Nat) (v : Value) (h : cs[off]? = some v) (w : World) : (part 3 cs off).run Tryz.prog w = .ok v w := by
  unfold part
  simp [go_sem, h]

theorem part_0 (a b : Value) (w : World) : (part 3 #[a, b] 0).run Tryz.prog w = .ok a w := part_int _ _ _ rfl w
theorem part_1 (a b : Value) (w : World) : (part 3 #[a, b] 1).run Tryz.prog w = .ok b w := part_int _ _ _ rfl w
theorem cell_eq (x y u v : Int) (w : World) : (Op.equalIn 10000 86 (.agg #[.int .i64 x, .int .i64 y]) (.agg #[.int .i64 u, .int .i64 v])).run Tryz.prog w = .ok (sameC (x, y) (u, v)) w := by
  rw [run_equalIn_struct w 9999 86 _ _ cell_struct cell_held, sameC_eq]
  have h := cell_fields
  generalize (Tryz.prog.fieldsOf 86).toList = fs at h
  match fs, h with
  | [], h => simp at h
  | [_], h => simp at h
  | _ :: _ :: _ :: _, h => simp at h
  | [f, g], h =>
    simp only [List.map_cons, List.map_nil, List.cons.injEq, Prod.mk.injEq, and_true] at h
    obtain ⟨⟨h1, h2, h3⟩, h4, h5, h6⟩ := h
    simp only [Op.eqFields, h1, h2, h3, h4, h5, h6]
    have n1 : ("X" ≠ "_") = True := eq_true (by decide)
    have n2 : ("Y" ≠ "_") = True := eq_true (by decide)
    simp only [n1, n2, if_true, Sem.run_bind, part_0, Result.andThen_ok]
    by_cases hx : x = u <;> by_cases hy : y = v <;> simp [hx, hy, Sem.run_bind, part_1, run_equalIn_int w 9998 3 .i64 .i64 _ _ int_plain]

theorem eql_cell (x y u v : Int) (w : World) : (binOp .eql 86 (.agg #[.int .i64 x, .int .i64 y]) (.agg #[.int .i64 u, .int .i64 v])).run Tryz.prog w = .ok (.bool (sameC (x, y) (u, v))) w := by
  rw [run_eql_struct, cell_eq]; rfl
theorem neq_cell (x y u v : Int) (w : World) : (binOp .neq 86 (.agg #[.int .i64 x, .int .i64 y]) (.agg #[.int .i64 u, .int .i64 v])).run Tryz.prog w = .ok (.bool (!sameC (x, y) (u, v))) w := by
  rw [run_neq_struct, cell_eq]; rfl
end

section
open Go.RowKit

theorem take_any (l : List Cl) (p : Cl → Bool) (k : Nat) (h : k < l.length) : (l.take (k + 1)).any p = ((l.take k).any p || p (l.getD k (0, 0))) := by
  rw [List.take_succ_eq_append_getElem h, List.any_append]
  simp [List.getD, h]
theorem any_yes {l : List Cl} {p : Cl → Bool} {k : Nat} (h : k < l.length) (hp : p (l.getD k (0, 0)) = true) : l.any p = true := by
  rw [List.any_eq_true]
  refine ⟨l[k], List.getElem_mem h, ?_⟩
  simpa [List.getD, h] using hp

set_option maxHeartbeats 1000000 in
set_option maxRecDepth 100000 in
theorem sHasCell (B n cap : Nat) (a : Option Addr) (l : List Cl) (p q : Int) (w : World) (hn : n ≤ 4194304) (hc : CellsAt B w a n l) :
    Calls Tryz.prog 184 #[.slice a n cap, .int .i64 p, .int .i64 q] w fun e w' => e = .returned (.bool (hasC l p q)) ∧ w = w' := by
  have H := Lib.hid hc
  clear hc
  go_enter Tryz.func184, Tryz.ntmps184
  go_wp2
  go_loopw [7] (fun i wr => ∃ k : Nat, k ≤ n ∧ i = .int .i64 k ∧ Hid ((l.take k).any (cellIs p q) = false) ∧ wr = w) (fun i _ => n - (intOf i).toNat)
  case atStart => exact ⟨0, by omega, rfl, by simp [Hid], rfl⟩
  case round =>
    obtain ⟨k, hk, rfl, hno, rfl⟩ := hrel
    by_cases hlt : k < n
    · obtain ⟨b1, o1, rfl, hb1, hc1⟩ := H.out.2.2 (by omega)
      obtain ⟨x, y, hxy⟩ : ∃ x y, l.getD k (0, 0) = (x, y) := ⟨_, _, rfl⟩
      have p1 := (hc1 k hlt).1
      have p2 := (hc1 k hlt).2
      rw [hxy] at p1 p2
      have HX := Lib.hid hxy
      have hk0 : (0 : Int) ≤ (k : Int) := by omega
      have hk1 : (k : Int) < (n : Int) := by omega
      clear hxy hc1
      by_cases hA : x = p ∧ y = q
      · obtain ⟨rfl, rfl⟩ := hA
        have hyes : hasC l x y = true := any_yes (by rw [H.out.1]; exact hlt) (by rw [HX.out]; simp [cellIs])
        go_wp2
        go_ret
        exact ⟨by first | rfl | (rw [hyes]; rfl), rfl⟩
      · have hno2 : (l.take (k + 1)).any (cellIs p q) = false := by
          rw [take_any l _ k (by rw [H.out.1]; exact hlt), hno.out, HX.out]
          simp only [cellIs, Bool.false_or]
          simpa using hA
        by_cases h1 : x = p
        · have h2 : (y == q) = false := by simp; intro e; exact hA ⟨h1, e⟩
          subst h1
          clear hA
          go_wp2
          go_roundw
          case rel => exact ⟨k + 1, by omega, by go_num, hno2, trivial⟩
          case measure => simp [intOf]; omega
        · have h2 : (x == p) = false := by simp; exact h1
          clear hA h1
          go_wp2
          go_roundw
          case rel => exact ⟨k + 1, by omega, by go_num, hno2, trivial⟩
          case measure => simp [intOf]; omega
    · obtain rfl : k = n := by omega
      have he : hasC l p q = false := by
        have := hno.out
        rwa [List.take_of_length_le (by rw [H.out.1]; exact Nat.le_refl _)] at this
      go_wp2
      go_ret
      exact ⟨by first | rfl | (rw [he]; rfl), rfl⟩

theorem sq_bd (x : Int) (h1 : -7 ≤ x) (h2 : x ≤ 7) : 0 ≤ x * x ∧ x * x ≤ 49 := by
  rcases Int.le_total 0 x with h | h
  · exact ⟨Int.mul_nonneg h h, Int.le_trans (Int.mul_le_mul h2 h2 h (by omega)) (by omega)⟩
  · have h3 : 0 ≤ (-x) * (-x) := Int.mul_nonneg (by omega) (by omega)
    have h4 : (-x) * (-x) ≤ 7 * 7 := Int.mul_le_mul (by omega) (by omega) (by omega) (by omega)
    rw [Int.neg_mul_neg] at h3 h4
    omega

set_option maxHeartbeats 1000000 in
set_option maxRecDepth 100000 in
theorem sEqual_same (B n c1 c2 : Nat) (a1 a2 : Option Addr) (l r : List Cl) (w : World) (hn : n ≤ 4194304) (h1 : CellsAt B w a1 n l) (h2 : CellsAt B w a2 n r) (hB : B ≤ w.heap.size) :
    Calls Tryz.prog 179 #[.slice a1 n c1, .slice a2 n c2] w fun e w' => e = .returned (.bool (eqb l r)) ∧ Below w.heap.size w w' := by
  have H1 := Lib.hid h1
  have H2 := Lib.hid h2
  clear h1 h2
  have hne : (((n : Nat) : Int) != (n : Int)) = false := by simp
  go_enter Tryz.func179, Tryz.ntmps179
  go_wp2
  go_loopw [5] (fun i wr => ∃ k : Nat, k ≤ n ∧ i = .int .i64 k ∧ Hid (l.take k = r.take k) ∧ Below w.heap.size w wr) (fun i _ => n - (intOf i).toNat)
  case atStart => exact ⟨0, by omega, rfl, by simp [Hid], Below.refl _ _⟩
  case round =>
    obtain ⟨k, hk, rfl, hsame, hb⟩ := hrel
    have hsz := hb.size
    by_cases hlt : k < n
    · obtain ⟨b1, o1, rfl, hb1, hc1⟩ := H1.out.2.2 (by omega)
      obtain ⟨b2, o2, rfl, hb2, hc2⟩ := H2.out.2.2 (by omega)
      obtain ⟨x, y, hxy⟩ : ∃ x y, l.getD k (0, 0) = (x, y) := ⟨_, _, rfl⟩
      obtain ⟨u, v, huv⟩ : ∃ u v, r.getD k (0, 0) = (u, v) := ⟨_, _, rfl⟩
      have p1 := (hb.cell (p := ⟨b1, o1 + k * 2, none⟩) (Nat.lt_of_lt_of_le hb1 hB)).trans (hc1 k hlt).1
      have p2 := (hb.cell (p := ⟨b1, o1 + k * 2 + 1, none⟩) (Nat.lt_of_lt_of_le hb1 hB)).trans (hc1 k hlt).2
      have q1 := (hb.cell (p := ⟨b2, o2 + k * 2, none⟩) (Nat.lt_of_lt_of_le hb2 hB)).trans (hc2 k hlt).1
      have q2 := (hb.cell (p := ⟨b2, o2 + k * 2 + 1, none⟩) (Nat.lt_of_lt_of_le hb2 hB)).trans (hc2 k hlt).2
      rw [hxy] at p1 p2
      rw [huv] at q1 q2
      have HX := Lib.hid hxy
      have HU := Lib.hid huv
      have hk0 : (0 : Int) ≤ (k : Int) := by omega
      have hk1 : (k : Int) < (n : Int) := by omega
      have hE := neq_cell x y u v
      have hG := cell_guard
      clear hc1 hc2 hxy huv
      go_wp2_with fail
      go_quiet (fail)
      go_wp2
      all_goals
        rename_i hcase
        clear hE hG
        simp [sameC] at hcase
        first
          | (have hd : l.getD k (0, 0) ≠ r.getD k (0, 0) := by
               rw [HX.out, HU.out]
               intro e
               injection e with e1 e2
               subst e1 e2
               simp at hcase
             go_ret
             exact ⟨by rw [eqb_no hd]; rfl, below_drewn hb _⟩)
          | (have hd : l.getD k (0, 0) = r.getD k (0, 0) := by
               rw [HX.out, HU.out, hcase.1, hcase.2]
             have hst := take_same l r k (by have := H1.out.1; omega) (by have := H2.out.1; omega) hsame.out hd
             go_roundw
             case rel => exact ⟨k + 1, by omega, by go_num, hst, below_drewn hb _⟩
             case measure => simp [intOf]; omega)
    · go_wp2
      go_ret
      have e : l = r := by
        have h := hsame.out
        rwa [List.take_of_length_le (by have := H1.out.1; omega), List.take_of_length_le (by have := H2.out.1; omega)] at h
      exact ⟨by rw [eqb, e]; simp, hb⟩

theorem sEqual_any (B n m c1 c2 : Nat) (a1 a2 : Option Addr) (l r : List Cl) (w : World) (hn : n ≤ 4194304) (hm : m ≤ 4194304) (h1 : CellsAt B w a1 n l) (h2 : CellsAt B w a2 m r) (hB : B ≤ w.heap.size) :
    Calls Tryz.prog 179 #[.slice a1 n c1, .slice a2 m c2] w fun e w' => e = .returned (.bool (eqb l r)) ∧ Below w.heap.size w w' := by
  by_cases hnm : n = m
  · subst hnm
    exact sEqual_same B n c1 c2 a1 a2 l r w hn h1 h2 hB
  · have hne : (((n : Nat) : Int) != (m : Int)) = true := by rw [bne_iff_ne]; omega
    have he : eqb l r = false := by
      unfold eqb
      simp
      intro e
      have a := h1.1
      have b := h2.1
      rw [e] at a
      omega
    rw [he]
    clear he hnm h1 h2
    go_enter Tryz.func179, Tryz.ntmps179
    go_wp2
    go_ret
    exact ⟨rfl, Below.refl _ _⟩
end

end Go.Proofs.YtkjlmgkjcmebbaaGreatDoor
