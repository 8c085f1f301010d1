/-
  The model's PieceNamed and the program's: what a name stands for.
-/
import Derived.Test.YtecfabhpjihcbaaGreatDoorLw7
import Derived.Deep.MidRow
namespace Go.Proofs.YtecfabhpjihcbaaGreatDoor
open Go.RowKit

/-- The twelve names and their formats, as the package's table holds them. -/
def pcL : List (List UInt8 × List UInt8) := [([73, 50], [35, 35]), ([73, 51], [35, 35, 35]), ([86, 51], [35, 35, 47, 35]), ([73, 52], [35, 35, 35, 35]), ([76, 52], [35, 35, 35, 47, 35]), ([84, 52], [35, 35, 35, 47, 46, 35]), ([83, 52], [46, 35, 35, 47, 35, 35]), ([79, 52], [35, 35, 47, 35, 35]), ([88, 53], [46, 35, 47, 35, 35, 35, 47, 46, 35]), ([80, 53], [35, 35, 47, 35, 35, 47, 35]), ([87, 53], [35, 47, 35, 35, 47, 46, 35, 35]), ([85, 53], [35, 46, 35, 47, 35, 35, 35])]
def nmB (k : Nat) : ByteArray := ⟨(pcL.getD k ([], [])).1.toArray⟩
def txB (k : Nat) : ByteArray := ⟨(pcL.getD k ([], [])).2.toArray⟩
/-- The format that a name stands for; none: empty. -/
def fmB (s : ByteArray) : ByteArray := match (List.range 12).find? (fun k => decide (nmB k = s)) with
  | some k => txB k
  | none => ⟨#[]⟩
theorem fmB_at {s : ByteArray} {k : Nat} (hk : k < 12) (h : nmB k = s) (hb : ∀ j, j < k → nmB j ≠ s) : fmB s = txB k := by
  have : (List.range 12).find? (fun k => decide (nmB k = s)) = some k := by
    rw [List.find?_range_eq_some]
    exact ⟨by simpa using h, by simpa using hk, fun j hj => by simpa using hb j hj⟩
  unfold fmB
  rw [this]
theorem fmB_no {s : ByteArray} (hb : ∀ j, j < 12 → nmB j ≠ s) : fmB s = ⟨#[]⟩ := by
  have : (List.range 12).find? (fun k => decide (nmB k = s)) = none := by
    rw [List.find?_eq_none]
    intro x hx
    have := hb x (List.mem_range.1 hx)
    simpa using this
  unfold fmB
  rw [this]
theorem okP_nil : okP (tx ⟨#[]⟩) = false := by
  cases h : okP (tx ⟨#[]⟩) with
  | false => rfl
  | true => exact absurd rfl (okP_out h).2.2.2.2
theorem parS_nil : parS (tx ⟨#[]⟩) = [] := parS_no okP_nil
theorem txB_size : ∀ k, k < 12 → (txB k).size ≤ 9 := by decide +kernel
theorem nmB_inj : ∀ k, k < 12 → ∀ j, j < 12 → nmB j = nmB k → j = k := by decide +kernel
theorem fmB_nm (k : Nat) (hk : k < 12) : fmB (nmB k) = txB k := fmB_at hk rfl fun j hj e => by
  have := nmB_inj k hk j (by omega) e
  omega
theorem eq_of_list {s : ByteArray} {l : List UInt8} (h : (s.toList == l) = true) : s = ⟨l.toArray⟩ := by
  have h1 : s.toList = l := by simpa using h
  rw [ByteArray.toList_eq] at h1
  obtain ⟨⟨l2⟩⟩ := s
  simp at h1
  rw [h1]
theorem ne_of_list {s : ByteArray} {l : List UInt8} (h : (s.toList == l) = false) : (⟨l.toArray⟩ : ByteArray) ≠ s := by
  rintro rfl
  rw [ByteArray.toList_mk] at h
  simp at h
theorem fm_hit {s : ByteArray} (k : Nat) (hk : k < 12) (h : (s.toList == (pcL.getD k ([], [])).1) = true) : fmB s = txB k := by
  rw [eq_of_list h]
  exact fmB_nm k hk
theorem fmB_miss {s : ByteArray} (hb : ∀ j, j < 12 → (s.toList == (pcL.getD j ([], [])).1) = false) : fmB s = ⟨#[]⟩ := fmB_no fun j hj => ne_of_list (hb j hj)

/-- The table in memory. -/
def Nmd (w : World) : Prop := ∀ k, k < 12 → w.cell? ⟨0, k * 2, none⟩ = some (.string (nmB k)) ∧ w.cell? ⟨0, k * 2 + 1, none⟩ = some (.string (txB k))
theorem Nmd.lt {w : World} (h : Nmd w) : 0 < w.heap.size := World.block_lt_of_cell? w _ (h 0 (by omega)).1
theorem Nmd.on {B : Nat} {w w' : World} (h : Nmd w) (hb : Below B w w') (hB : 0 < B) : Nmd w' := fun k hk =>
  ⟨(hb.cell (p := ⟨0, k * 2, none⟩) hB).trans (h k hk).1, (hb.cell (p := ⟨0, k * 2 + 1, none⟩) hB).trans (h k hk).2⟩
def pcV : List Value := (List.range 24).map fun j => if j % 2 = 0 then .string (nmB (j / 2)) else .string (txB (j / 2))
theorem Nmd.range {w : World} (h : Nmd w) : w.rangeAt 0 0 pcV := by
  intro j v hj
  unfold pcV at hj
  rw [List.getElem?_map] at hj
  by_cases hlt : j < 24
  · rw [List.getElem?_range hlt] at hj
    have hv : (if j % 2 = 0 then Value.string (nmB (j / 2)) else Value.string (txB (j / 2))) = v := Option.some.inj hj
    rw [Nat.zero_add, ← hv]
    have h2 := h (j / 2) (by omega)
    by_cases he : j % 2 = 0
    · rw [if_pos he, ← h2.1]
      congr 2
      omega
    · rw [if_neg he, ← h2.2]
      congr 2
      omega
  · rw [List.getElem?_eq_none (by simp; omega)] at hj
    cases hj
theorem pc_load (w : World) (h : Nmd w) : (Instr.loadAt 39 (.pointer (some ⟨0, 0, none⟩))).run Tryz.prog w = .ok (.agg pcV.toArray) w :=
  run_loadAt_mid w _ 0 39 pcV _ h.range Tryz.underlying39 rfl (by kernel_rfl)
theorem pc_index : (k : Nat) → (hk : k < 12) → (w : World) → (Instr.index 39 (.agg pcV.toArray) (.int .i64 (k : Int))).run Tryz.prog w = .ok (.agg #[.string (nmB k), .string (txB k)]) w
  | 0, _, w => by kernel_rfl
  | 1, _, w => by kernel_rfl
  | 2, _, w => by kernel_rfl
  | 3, _, w => by kernel_rfl
  | 4, _, w => by kernel_rfl
  | 5, _, w => by kernel_rfl
  | 6, _, w => by kernel_rfl
  | 7, _, w => by kernel_rfl
  | 8, _, w => by kernel_rfl
  | 9, _, w => by kernel_rfl
  | 10, _, w => by kernel_rfl
  | 11, _, w => by kernel_rfl
  | n + 12, h, _ => absurd h (by omega)

set_option maxHeartbeats 2000000 in
set_option maxRecDepth 100000 in
theorem sNamed (s : ByteArray) (w : World) :
    Calls Tryz.prog 10 #[.string s] w (GivesCB w (parS (tx (fmB s))) (okP (tx (fmB s)))) := by
  go_enter Tryz.func10, Tryz.ntmps10
  go_wp2_with fail
  · have hf : fmB s = txB 0 := fm_hit 0 (by omega) ‹(s.toList == [73, 50]) = true›
    have hz := txB_size 0 (by omega)
    refine (sParse (txB 0) w (by omega)).mono ?_
    rintro e w2 ⟨g2, c2, rfl, ho, hb2⟩
    have HR := Lib.hid (show GivesCB w (parS (tx (fmB s))) (okP (tx (fmB s))) (.returned (.tuple #[.slice (some ⟨g2, 0, none⟩) (parS (tx (txB 0))).length c2, .bool (okP (tx (txB 0)))])) w2 from by rw [hf]; exact ⟨g2, c2, rfl, ho, hb2⟩)
    clear ho hb2 hf hz
    generalize (parS (tx (txB 0))).length = nn at *
    generalize okP (tx (txB 0)) = bb at *
    go_wp2
    go_ret2
    exact HR.out
  · have hf : fmB s = txB 1 := fm_hit 1 (by omega) ‹(s.toList == [73, 51]) = true›
    have hz := txB_size 1 (by omega)
    refine (sParse (txB 1) w (by omega)).mono ?_
    rintro e w2 ⟨g2, c2, rfl, ho, hb2⟩
    have HR := Lib.hid (show GivesCB w (parS (tx (fmB s))) (okP (tx (fmB s))) (.returned (.tuple #[.slice (some ⟨g2, 0, none⟩) (parS (tx (txB 1))).length c2, .bool (okP (tx (txB 1)))])) w2 from by rw [hf]; exact ⟨g2, c2, rfl, ho, hb2⟩)
    clear ho hb2 hf hz
    generalize (parS (tx (txB 1))).length = nn at *
    generalize okP (tx (txB 1)) = bb at *
    go_wp2
    go_ret2
    exact HR.out
  · have hf : fmB s = txB 2 := fm_hit 2 (by omega) ‹(s.toList == [86, 51]) = true›
    have hz := txB_size 2 (by omega)
    refine (sParse (txB 2) w (by omega)).mono ?_
    rintro e w2 ⟨g2, c2, rfl, ho, hb2⟩
    have HR := Lib.hid (show GivesCB w (parS (tx (fmB s))) (okP (tx (fmB s))) (.returned (.tuple #[.slice (some ⟨g2, 0, none⟩) (parS (tx (txB 2))).length c2, .bool (okP (tx (txB 2)))])) w2 from by rw [hf]; exact ⟨g2, c2, rfl, ho, hb2⟩)
    clear ho hb2 hf hz
    generalize (parS (tx (txB 2))).length = nn at *
    generalize okP (tx (txB 2)) = bb at *
    go_wp2
    go_ret2
    exact HR.out
  · have hf : fmB s = txB 3 := fm_hit 3 (by omega) ‹(s.toList == [73, 52]) = true›
    have hz := txB_size 3 (by omega)
    refine (sParse (txB 3) w (by omega)).mono ?_
    rintro e w2 ⟨g2, c2, rfl, ho, hb2⟩
    have HR := Lib.hid (show GivesCB w (parS (tx (fmB s))) (okP (tx (fmB s))) (.returned (.tuple #[.slice (some ⟨g2, 0, none⟩) (parS (tx (txB 3))).length c2, .bool (okP (tx (txB 3)))])) w2 from by rw [hf]; exact ⟨g2, c2, rfl, ho, hb2⟩)
    clear ho hb2 hf hz
    generalize (parS (tx (txB 3))).length = nn at *
    generalize okP (tx (txB 3)) = bb at *
    go_wp2
    go_ret2
    exact HR.out
  · have hf : fmB s = txB 4 := fm_hit 4 (by omega) ‹(s.toList == [76, 52]) = true›
    have hz := txB_size 4 (by omega)
    refine (sParse (txB 4) w (by omega)).mono ?_
    rintro e w2 ⟨g2, c2, rfl, ho, hb2⟩
    have HR := Lib.hid (show GivesCB w (parS (tx (fmB s))) (okP (tx (fmB s))) (.returned (.tuple #[.slice (some ⟨g2, 0, none⟩) (parS (tx (txB 4))).length c2, .bool (okP (tx (txB 4)))])) w2 from by rw [hf]; exact ⟨g2, c2, rfl, ho, hb2⟩)
    clear ho hb2 hf hz
    generalize (parS (tx (txB 4))).length = nn at *
    generalize okP (tx (txB 4)) = bb at *
    go_wp2
    go_ret2
    exact HR.out
  · have hf : fmB s = txB 5 := fm_hit 5 (by omega) ‹(s.toList == [84, 52]) = true›
    have hz := txB_size 5 (by omega)
    refine (sParse (txB 5) w (by omega)).mono ?_
    rintro e w2 ⟨g2, c2, rfl, ho, hb2⟩
    have HR := Lib.hid (show GivesCB w (parS (tx (fmB s))) (okP (tx (fmB s))) (.returned (.tuple #[.slice (some ⟨g2, 0, none⟩) (parS (tx (txB 5))).length c2, .bool (okP (tx (txB 5)))])) w2 from by rw [hf]; exact ⟨g2, c2, rfl, ho, hb2⟩)
    clear ho hb2 hf hz
    generalize (parS (tx (txB 5))).length = nn at *
    generalize okP (tx (txB 5)) = bb at *
    go_wp2
    go_ret2
    exact HR.out
  · have hf : fmB s = txB 6 := fm_hit 6 (by omega) ‹(s.toList == [83, 52]) = true›
    have hz := txB_size 6 (by omega)
    refine (sParse (txB 6) w (by omega)).mono ?_
    rintro e w2 ⟨g2, c2, rfl, ho, hb2⟩
    have HR := Lib.hid (show GivesCB w (parS (tx (fmB s))) (okP (tx (fmB s))) (.returned (.tuple #[.slice (some ⟨g2, 0, none⟩) (parS (tx (txB 6))).length c2, .bool (okP (tx (txB 6)))])) w2 from by rw [hf]; exact ⟨g2, c2, rfl, ho, hb2⟩)
    clear ho hb2 hf hz
    generalize (parS (tx (txB 6))).length = nn at *
    generalize okP (tx (txB 6)) = bb at *
    go_wp2
    go_ret2
    exact HR.out
  · have hf : fmB s = txB 7 := fm_hit 7 (by omega) ‹(s.toList == [79, 52]) = true›
    have hz := txB_size 7 (by omega)
    refine (sParse (txB 7) w (by omega)).mono ?_
    rintro e w2 ⟨g2, c2, rfl, ho, hb2⟩
    have HR := Lib.hid (show GivesCB w (parS (tx (fmB s))) (okP (tx (fmB s))) (.returned (.tuple #[.slice (some ⟨g2, 0, none⟩) (parS (tx (txB 7))).length c2, .bool (okP (tx (txB 7)))])) w2 from by rw [hf]; exact ⟨g2, c2, rfl, ho, hb2⟩)
    clear ho hb2 hf hz
    generalize (parS (tx (txB 7))).length = nn at *
    generalize okP (tx (txB 7)) = bb at *
    go_wp2
    go_ret2
    exact HR.out
  · have hf : fmB s = txB 8 := fm_hit 8 (by omega) ‹(s.toList == [88, 53]) = true›
    have hz := txB_size 8 (by omega)
    refine (sParse (txB 8) w (by omega)).mono ?_
    rintro e w2 ⟨g2, c2, rfl, ho, hb2⟩
    have HR := Lib.hid (show GivesCB w (parS (tx (fmB s))) (okP (tx (fmB s))) (.returned (.tuple #[.slice (some ⟨g2, 0, none⟩) (parS (tx (txB 8))).length c2, .bool (okP (tx (txB 8)))])) w2 from by rw [hf]; exact ⟨g2, c2, rfl, ho, hb2⟩)
    clear ho hb2 hf hz
    generalize (parS (tx (txB 8))).length = nn at *
    generalize okP (tx (txB 8)) = bb at *
    go_wp2
    go_ret2
    exact HR.out
  · have hf : fmB s = txB 9 := fm_hit 9 (by omega) ‹(s.toList == [80, 53]) = true›
    have hz := txB_size 9 (by omega)
    refine (sParse (txB 9) w (by omega)).mono ?_
    rintro e w2 ⟨g2, c2, rfl, ho, hb2⟩
    have HR := Lib.hid (show GivesCB w (parS (tx (fmB s))) (okP (tx (fmB s))) (.returned (.tuple #[.slice (some ⟨g2, 0, none⟩) (parS (tx (txB 9))).length c2, .bool (okP (tx (txB 9)))])) w2 from by rw [hf]; exact ⟨g2, c2, rfl, ho, hb2⟩)
    clear ho hb2 hf hz
    generalize (parS (tx (txB 9))).length = nn at *
    generalize okP (tx (txB 9)) = bb at *
    go_wp2
    go_ret2
    exact HR.out
  · have hf : fmB s = txB 10 := fm_hit 10 (by omega) ‹(s.toList == [87, 53]) = true›
    have hz := txB_size 10 (by omega)
    refine (sParse (txB 10) w (by omega)).mono ?_
    rintro e w2 ⟨g2, c2, rfl, ho, hb2⟩
    have HR := Lib.hid (show GivesCB w (parS (tx (fmB s))) (okP (tx (fmB s))) (.returned (.tuple #[.slice (some ⟨g2, 0, none⟩) (parS (tx (txB 10))).length c2, .bool (okP (tx (txB 10)))])) w2 from by rw [hf]; exact ⟨g2, c2, rfl, ho, hb2⟩)
    clear ho hb2 hf hz
    generalize (parS (tx (txB 10))).length = nn at *
    generalize okP (tx (txB 10)) = bb at *
    go_wp2
    go_ret2
    exact HR.out
  · have hf : fmB s = txB 11 := fm_hit 11 (by omega) ‹(s.toList == [85, 53]) = true›
    have hz := txB_size 11 (by omega)
    refine (sParse (txB 11) w (by omega)).mono ?_
    rintro e w2 ⟨g2, c2, rfl, ho, hb2⟩
    have HR := Lib.hid (show GivesCB w (parS (tx (fmB s))) (okP (tx (fmB s))) (.returned (.tuple #[.slice (some ⟨g2, 0, none⟩) (parS (tx (txB 11))).length c2, .bool (okP (tx (txB 11)))])) w2 from by rw [hf]; exact ⟨g2, c2, rfl, ho, hb2⟩)
    clear ho hb2 hf hz
    generalize (parS (tx (txB 11))).length = nn at *
    generalize okP (tx (txB 11)) = bb at *
    go_wp2
    go_ret2
    exact HR.out
  · have hf : fmB s = ⟨#[]⟩ := fmB_miss (fun j hj => match j, hj with
      | 0, _ => ‹(s.toList == [73, 50]) = false›
      | 1, _ => ‹(s.toList == [73, 51]) = false›
      | 2, _ => ‹(s.toList == [86, 51]) = false›
      | 3, _ => ‹(s.toList == [73, 52]) = false›
      | 4, _ => ‹(s.toList == [76, 52]) = false›
      | 5, _ => ‹(s.toList == [84, 52]) = false›
      | 6, _ => ‹(s.toList == [83, 52]) = false›
      | 7, _ => ‹(s.toList == [79, 52]) = false›
      | 8, _ => ‹(s.toList == [88, 53]) = false›
      | 9, _ => ‹(s.toList == [80, 53]) = false›
      | 10, _ => ‹(s.toList == [87, 53]) = false›
      | 11, _ => ‹(s.toList == [85, 53]) = false›
      | n + 12, h => absurd h (by omega))
    go_ret2
    rw [hf, parS_nil, okP_nil]
    exact gives_none w (Below.refl _ _) false rfl

end Go.Proofs.YtecfabhpjihcbaaGreatDoor
