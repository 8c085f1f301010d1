/-
  The draws of the law on placements: a region and a number; a region and pieces (written by tools/draws7.py).
  Slices of shapes that the call owns, each shape's memory the call's own and apart from the others'.
-/
import Derived.Test.YtailmmamgnebhaaGreatDoorDr8
import Derived.Test.YtailmmamgnebhaaGreatDoorSm6
import Derived.Test.YtailmmamgnebhaaGreatDoorXaa
import Derived.Test.YtailmmamgnebhaaGreatDoorXaf
import Derived.Test.YtailmmamgnebhaaGreatDoorXab
namespace Go.Proofs.YtailmmamgnebhaaGreatDoor

section
open Go.RowKit

set_option maxHeartbeats 4000000 in
set_option maxRecDepth 100000 in
theorem dMask7 (a : Option Addr) (len cap : Nat) (w : World) (hc : Code w.heap.size w a len cap) (hl : len ≤ 1048576) :
    Calls Tryz.prog 81 #[.slice a len cap] w (GivesRgM w) := by
  obtain ⟨rb, hrb⟩ : ∃ rb, w.heap.size = rb := ⟨_, rfl⟩
  have hres := RgAt.new (w := w) 0 (.slice none 0 0) hrb
  have hb0 := (Below.refl w.heap.size w).alloc (Nat.le_refl _) (.cells #[.int .i64 0, .slice none 0 0] 26)
  have hsz : (w.alloc (.cells #[.int .i64 0, .slice none 0 0] 26)).heap.size = rb + 1 := by simp [hrb]
  have HC := Lib.hid ((hc.on hb0).more hb0.size)
  clear hc
  go_enter Tryz.func81, Tryz.ntmps81
  go_wp2_with fail
  generalize (w.alloc (.cells #[.int .i64 0, .slice none 0 0] 26)) = W0 at *
  have HB := Lib.hid hb0
  clear hb0
  refine (dBoth7 a len cap W0 HC.out hl).mono ?_
  rintro e w2 ⟨W, M, gg, cp, l, ad, gg2, off2, n2, cp2, cs, rfl, hM, hin, hown, ⟨hcam, hgg2⟩, hin2, hn9, hle2, hb2⟩
  have hlt0 := hres.lt
  have hs2 := hb2.size
  have hr2 := (hres.on hb2 hlt0).alloc (.cells #[.int .i64 W, .slice (some ⟨gg, 0, none⟩) M cp] 26)
  obtain ⟨vb, hvb⟩ : ∃ vb, w2.heap.size = vb := ⟨_, rfl⟩
  have hv2 := RgAt.new (w := w2) W (.slice (some ⟨gg, 0, none⟩) M cp) hvb
  have hb3 := (HB.out.trans (hb2.mono HB.out.size)).alloc (by omega) (.cells #[.int .i64 W, .slice (some ⟨gg, 0, none⟩) M cp] 26)
  have hs3 : (w2.alloc (.cells #[.int .i64 W, .slice (some ⟨gg, 0, none⟩) M cp] 26)).heap.size = vb + 1 := by simp [hvb]
  have HO2 := Lib.hid (hown.alloc (.cells #[.int .i64 W, .slice (some ⟨gg, 0, none⟩) M cp] 26))
  have hgv := hown.lt gg rfl
  have HK2 := Lib.hid (Came.kept hcam (World.grownBy_alloc w2 (.cells #[.int .i64 W, .slice (some ⟨gg, 0, none⟩) M cp] 26) none) (fun _ => by simp))
  have HIN := Lib.hid hin
  have HIN2 := Lib.hid hin2
  clear hres hown hcam hgg2 hin hin2 hb2 HB HC
  go_wp2_with fail
  (try rw [hvb])
  generalize (w2.alloc (.cells #[.int .i64 W, .slice (some ⟨gg, 0, none⟩) M cp] 26)) = w3 at *
  refine (sPl w3.heap.size M cp n2 cp2 _ _ W l cs w3 (by omega) (by omega) (IntsAt.of_own HO2.out HIN.out) (CellsAt.of_came HK2.out HIN2.out) (Nat.le_refl _)).mono ?_
  rintro e w4 ⟨v4, rfl, hown4, hb4⟩
  have hbd := plR_bd W l cs
  have hpl := plR_len W l cs
  obtain ⟨L, hL⟩ : ∃ L, plR W l cs = L := ⟨_, rfl⟩
  rw [hL] at hown4 hbd hpl
  clear hL
  obtain ⟨a4, c4, rfl⟩ := own_sl_i hown4
  have HI4 := Lib.hid (IntsAt.of_own hown4 (fun z hz => by have := hbd z hz; unfold In64; omega))
  have hr4 := hr2.on hb4 hr2.lt
  have hv4 := hv2.on hb4 hv2.lt
  have HO4 := Lib.hid (HO2.out.kept (grow_below hb4 none) (.inr (by intro e; cases e)))
  have HBE := Lib.hid (hb3.trans (hb4.mono hb3.size))
  have hs4 := hb4.size
  have q0 := hr4.c0
  have q1 := hr4.c1
  have q2 := hr4.f 0
  have q3 := hr4.f 1
  have v0 := hv4.c0
  have v1 := hv4.c1
  have HR4 := Lib.hid hr4
  have HV4 := Lib.hid hv4
  have hne : rb ≠ vb := by omega
  have hlen0 : (0 : Int) ≤ (len : Int) := by omega
  have HOW4 := Lib.hid hown4
  clear hr2 hv2 hr4 hv4 hb4 hb3 hown4 hbd HK2 HO2
  have hm4 : (len : Int).tmod 4 = ((len % 4 : Nat) : Int) := by rw [Int.tmod_eq_emod_of_nonneg hlen0]; omega
  have hm5 : (len : Int).tmod 5 = ((len % 5 : Nat) : Int) := by rw [Int.tmod_eq_emod_of_nonneg hlen0]; omega
  have hk5 : len % 5 < 5 := Nat.mod_lt _ (by omega)
  generalize len % 4 = k4 at hm4
  generalize len % 5 = k5 at hm5 hk5
  by_cases hpos : 0 < L.length ∧ 0 < k4
  · obtain ⟨hp1, hp2⟩ := hpos
    obtain ⟨b4, o4, rfl, hb4', hc4'⟩ := HI4.out.2.2 hp1
    have hml : (len : Int).tmod (L.length : Int) = ((len % L.length : Nat) : Int) := by rw [Int.tmod_eq_emod_of_nonneg hlen0]; rfl
    have hkl : len % L.length < L.length := Nat.mod_lt _ hp1
    have hx4 := hc4' (len % L.length) hkl
    have HX := Lib.hid (HI4.out.2.1 _ (show L.getD (len % L.length) 0 ∈ L by simp [List.getD, hkl]))
    generalize L.getD (len % L.length) 0 = x at hx4 HX
    generalize len % L.length = kl at hml hkl hx4
    have hp1' : (0 : Int) < (L.length : Int) := by omega
    have hp2' : (0 : Int) < (k4 : Int) := by omega
    have hnl : ¬ ((L.length : Int) = 0) := by omega
    have hnl2 : ¬ (L.length = 0) := by omega
    have hkl' : (kl : Int) < (L.length : Int) := by omega
    have hkl0 : (0 : Int) ≤ (kl : Int) := by omega
    have hbb := (HOW4.out.lt b4 rfl).1
    have hneb : rb ≠ b4 := by omega
    clear HOW4
    have HF := Lib.hid (fun (b o : Nat) (u : Value) (hb : rb ≠ b) (hu : w4.cell? ⟨b, o, none⟩ = some u) => show ((w4.setCell ⟨rb, 0, none⟩ (.int .i64 W)).setCell ⟨rb, 1, none⟩ (.slice (some ⟨gg, 0, none⟩) M cp)).cell? ⟨b, o, none⟩ = some u from by
      rw [World.cell?_setCell_far _ _ _ _ (by exact hb), World.cell?_setCell_far _ _ _ _ (by exact hb)]
      exact hu)
    go_wp2_with fail
    have HA9 := Lib.hid (own_below (own_off (b := rb) (o := 1) (u := .slice (some ⟨gg, 0, none⟩) M cp) (own_off (b := rb) (o := 0) (u := .int .i64 (W)) HO4.out (by omega)) (by omega)) (show w.heap.size ≤ W0.heap.size by omega))
    have HB9 := Lib.hid ((HBE.out.setCell (p := ⟨rb, 0, none⟩) (by show w.heap.size ≤ rb; omega) (.int .i64 (W))).setCell (p := ⟨rb, 1, none⟩) (by show w.heap.size ≤ rb; omega) (.slice (some ⟨gg, 0, none⟩) M cp))
    have HR9 := Lib.hid (HR4.out.set2 (W) (.slice (some ⟨gg, 0, none⟩) M cp))
    clear HBE HR4
    go_region_held3 (fun w9 => w9.cell? ⟨vb, 0, none⟩ = some (.int .i64 W) ∧ w9.cell? ⟨vb, 1, none⟩ = some (.slice (some ⟨gg, 0, none⟩) M cp) ∧ w9.cell? ⟨b4, o4 + kl, none⟩ = some (.int .i64 x))
      (first | exact ⟨v0, v1, hx4⟩ | exact ⟨HF.out _ _ _ hne v0, HF.out _ _ _ hne v1, HF.out _ _ _ hneb hx4⟩ | go_keep)
      (fail)
    all_goals
      go_wp2
      generalize ((w4.setCell ⟨rb, 0, none⟩ (.int .i64 W)).setCell ⟨rb, 1, none⟩ (.slice (some ⟨gg, 0, none⟩) M cp)) = w9 at *
      have e0 := HR9.out.c0
      have e1 := HR9.out.c1
      exact bodyPost_ret (v := .tuple #[.agg #[.int .i64 W, .slice (some ⟨gg, 0, none⟩) M cp], .int .i64 x]) (by simp [results, Tryz.results81, go_sem, e0, e1]) rfl ⟨W, M, gg, cp, l, x, rfl, hM, HIN.out, HA9.out, HX.out, HB9.out.drew⟩
  · obtain ⟨x, HX5, hx5⟩ : ∃ x : Int, In64 x ∧ ∀ W9 : World, (W9.alloc (.cells #[.int .i64 0, .int .i64 (-1), .int .i64 1, .int .i64 3, .int .i64 9223372036854775807] 3)).cell? ⟨W9.heap.size, k5, none⟩ = some (.int .i64 x) := by
      have e5 : ∀ (x : Int) (W9 : World), (#[Value.int .i64 0, .int .i64 (-1), .int .i64 1, .int .i64 3, .int .i64 9223372036854775807] : Array Value)[k5]? = some (.int .i64 x) → (W9.alloc (.cells #[.int .i64 0, .int .i64 (-1), .int .i64 1, .int .i64 3, .int .i64 9223372036854775807] 3)).cell? ⟨W9.heap.size, k5, none⟩ = some (.int .i64 x) := fun x W9 h => (cell_of_row _ W9.heap.size k5 _ _ (0, 0) (heap_alloc_new W9 (.cells #[.int .i64 0, .int .i64 (-1), .int .i64 1, .int .i64 3, .int .i64 9223372036854775807] 3))).trans h
      rcases (show k5 = 0 ∨ k5 = 1 ∨ k5 = 2 ∨ k5 = 3 ∨ k5 = 4 by omega) with rfl | rfl | rfl | rfl | rfl
      · exact ⟨0, by unfold In64; omega, fun W9 => e5 _ W9 rfl⟩
      · exact ⟨-1, by unfold In64; omega, fun W9 => e5 _ W9 rfl⟩
      · exact ⟨1, by unfold In64; omega, fun W9 => e5 _ W9 rfl⟩
      · exact ⟨3, by unfold In64; omega, fun W9 => e5 _ W9 rfl⟩
      · exact ⟨9223372036854775807, by unfold In64; omega, fun W9 => e5 _ W9 rfl⟩
    have HX := Lib.hid HX5
    clear HX5
    have hk5' : (k5 : Int) < 5 := by omega
    have hk50 : (0 : Int) ≤ (k5 : Int) := by omega
    have z1 := hx5 w4
    have z2 : ((((((w4.alloc (.cells #[.int .i64 0, .int .i64 (-1), .int .i64 1, .int .i64 3, .int .i64 9223372036854775807] 3)).setCell ⟨rb, 0, none⟩ (.int .i64 W)).setCell ⟨rb, 1, none⟩ (.slice (some ⟨gg, 0, none⟩) M cp)))).cell? ⟨w4.heap.size, k5, none⟩) = some (.int .i64 x) := by
      rw [World.cell?_setCell_far _ _ _ _ (by show rb ≠ w4.heap.size; omega), World.cell?_setCell_far _ _ _ _ (by show rb ≠ w4.heap.size; omega)]
      exact z1
    have z3 : (((w4.setCell ⟨rb, 0, none⟩ (.int .i64 W)).setCell ⟨rb, 1, none⟩ (.slice (some ⟨gg, 0, none⟩) M cp)).alloc (.cells #[.int .i64 0, .int .i64 (-1), .int .i64 1, .int .i64 3, .int .i64 9223372036854775807] 3)).cell? ⟨w4.heap.size, k5, none⟩ = some (.int .i64 x) := by
      have := hx5 (((w4.setCell ⟨rb, 0, none⟩ (.int .i64 W)).setCell ⟨rb, 1, none⟩ (.slice (some ⟨gg, 0, none⟩) M cp)))
      simpa using this
    clear hx5
    by_cases hp1 : 0 < L.length
    · have hp2 : ¬ (0 : Int) < (k4 : Int) := by omega
      have hp1' : (0 : Int) < (L.length : Int) := by omega
      go_wp2_with fail
      have HRA := Lib.hid ((HR4.out.alloc (.cells #[.int .i64 0, .int .i64 (-1), .int .i64 1, .int .i64 3, .int .i64 9223372036854775807] 3)).set2 (W) (.slice (some ⟨gg, 0, none⟩) M cp))
      have HRB := Lib.hid ((HR4.out.set2 (W) (.slice (some ⟨gg, 0, none⟩) M cp)).alloc (.cells #[.int .i64 0, .int .i64 (-1), .int .i64 1, .int .i64 3, .int .i64 9223372036854775807] 3))
      have HOA := Lib.hid (own_below (own_off (b := rb) (o := 1) (u := .slice (some ⟨gg, 0, none⟩) M cp) (own_off (b := rb) (o := 0) (u := .int .i64 (W)) (HO4.out.alloc (.cells #[.int .i64 0, .int .i64 (-1), .int .i64 1, .int .i64 3, .int .i64 9223372036854775807] 3)) (by omega)) (by omega)) (show w.heap.size ≤ W0.heap.size by omega))
      have HOB := Lib.hid (own_below ((own_off (b := rb) (o := 1) (u := .slice (some ⟨gg, 0, none⟩) M cp) (own_off (b := rb) (o := 0) (u := .int .i64 (W)) HO4.out (by omega)) (by omega)).alloc (.cells #[.int .i64 0, .int .i64 (-1), .int .i64 1, .int .i64 3, .int .i64 9223372036854775807] 3)) (show w.heap.size ≤ W0.heap.size by omega))
      have HBA := Lib.hid (((HBE.out.alloc (by omega) (.cells #[.int .i64 0, .int .i64 (-1), .int .i64 1, .int .i64 3, .int .i64 9223372036854775807] 3)).setCell (p := ⟨rb, 0, none⟩) (by show w.heap.size ≤ rb; omega) (.int .i64 (W))).setCell (p := ⟨rb, 1, none⟩) (by show w.heap.size ≤ rb; omega) (.slice (some ⟨gg, 0, none⟩) M cp))
      have HBB := Lib.hid (((HBE.out.setCell (p := ⟨rb, 0, none⟩) (by show w.heap.size ≤ rb; omega) (.int .i64 (W))).setCell (p := ⟨rb, 1, none⟩) (by show w.heap.size ≤ rb; omega) (.slice (some ⟨gg, 0, none⟩) M cp)).alloc (by simp; omega) (.cells #[.int .i64 0, .int .i64 (-1), .int .i64 1, .int .i64 3, .int .i64 9223372036854775807] 3))
      have va0 := (HV4.out.alloc (.cells #[.int .i64 0, .int .i64 (-1), .int .i64 1, .int .i64 3, .int .i64 9223372036854775807] 3)).c0
      have va1 := (HV4.out.alloc (.cells #[.int .i64 0, .int .i64 (-1), .int .i64 1, .int .i64 3, .int .i64 9223372036854775807] 3)).c1
      have ra0 := (HR4.out.alloc (.cells #[.int .i64 0, .int .i64 (-1), .int .i64 1, .int .i64 3, .int .i64 9223372036854775807] 3)).c0
      have ra1 := (HR4.out.alloc (.cells #[.int .i64 0, .int .i64 (-1), .int .i64 1, .int .i64 3, .int .i64 9223372036854775807] 3)).c1
      have ra2 := (HR4.out.alloc (.cells #[.int .i64 0, .int .i64 (-1), .int .i64 1, .int .i64 3, .int .i64 9223372036854775807] 3)).f 0
      have ra3 := (HR4.out.alloc (.cells #[.int .i64 0, .int .i64 (-1), .int .i64 1, .int .i64 3, .int .i64 9223372036854775807] 3)).f 1
      clear HBE HR4
      have hn4 : w4.heap.size ≠ rb := by omega
      have hn5 : w4.heap.size ≠ vb := by omega
      go_region_with (fail)
      all_goals
        go_wp2
        first
          | (generalize (((w4.alloc (.cells #[.int .i64 0, .int .i64 (-1), .int .i64 1, .int .i64 3, .int .i64 9223372036854775807] 3)).setCell ⟨rb, 0, none⟩ (.int .i64 W)).setCell ⟨rb, 1, none⟩ (.slice (some ⟨gg, 0, none⟩) M cp)) = w9 at *
             have e0 := HRA.out.c0
             have e1 := HRA.out.c1
             exact bodyPost_ret (v := .tuple #[.agg #[.int .i64 W, .slice (some ⟨gg, 0, none⟩) M cp], .int .i64 x]) (by simp [results, Tryz.results81, go_sem, e0, e1]) rfl ⟨W, M, gg, cp, l, x, rfl, hM, HIN.out, HOA.out, HX.out, HBA.out.drew⟩)
          | (generalize (((w4.setCell ⟨rb, 0, none⟩ (.int .i64 W)).setCell ⟨rb, 1, none⟩ (.slice (some ⟨gg, 0, none⟩) M cp)).alloc (.cells #[.int .i64 0, .int .i64 (-1), .int .i64 1, .int .i64 3, .int .i64 9223372036854775807] 3)) = w9 at *
             have e0 := HRB.out.c0
             have e1 := HRB.out.c1
             exact bodyPost_ret (v := .tuple #[.agg #[.int .i64 W, .slice (some ⟨gg, 0, none⟩) M cp], .int .i64 x]) (by simp [results, Tryz.results81, go_sem, e0, e1]) rfl ⟨W, M, gg, cp, l, x, rfl, hM, HIN.out, HOB.out, HX.out, HBB.out.drew⟩)
    · have hp1' : ¬ (0 : Int) < (L.length : Int) := by omega
      go_wp2_with fail
      have HRA := Lib.hid ((HR4.out.alloc (.cells #[.int .i64 0, .int .i64 (-1), .int .i64 1, .int .i64 3, .int .i64 9223372036854775807] 3)).set2 (W) (.slice (some ⟨gg, 0, none⟩) M cp))
      have HRB := Lib.hid ((HR4.out.set2 (W) (.slice (some ⟨gg, 0, none⟩) M cp)).alloc (.cells #[.int .i64 0, .int .i64 (-1), .int .i64 1, .int .i64 3, .int .i64 9223372036854775807] 3))
      have HOA := Lib.hid (own_below (own_off (b := rb) (o := 1) (u := .slice (some ⟨gg, 0, none⟩) M cp) (own_off (b := rb) (o := 0) (u := .int .i64 (W)) (HO4.out.alloc (.cells #[.int .i64 0, .int .i64 (-1), .int .i64 1, .int .i64 3, .int .i64 9223372036854775807] 3)) (by omega)) (by omega)) (show w.heap.size ≤ W0.heap.size by omega))
      have HOB := Lib.hid (own_below ((own_off (b := rb) (o := 1) (u := .slice (some ⟨gg, 0, none⟩) M cp) (own_off (b := rb) (o := 0) (u := .int .i64 (W)) HO4.out (by omega)) (by omega)).alloc (.cells #[.int .i64 0, .int .i64 (-1), .int .i64 1, .int .i64 3, .int .i64 9223372036854775807] 3)) (show w.heap.size ≤ W0.heap.size by omega))
      have HBA := Lib.hid (((HBE.out.alloc (by omega) (.cells #[.int .i64 0, .int .i64 (-1), .int .i64 1, .int .i64 3, .int .i64 9223372036854775807] 3)).setCell (p := ⟨rb, 0, none⟩) (by show w.heap.size ≤ rb; omega) (.int .i64 (W))).setCell (p := ⟨rb, 1, none⟩) (by show w.heap.size ≤ rb; omega) (.slice (some ⟨gg, 0, none⟩) M cp))
      have HBB := Lib.hid (((HBE.out.setCell (p := ⟨rb, 0, none⟩) (by show w.heap.size ≤ rb; omega) (.int .i64 (W))).setCell (p := ⟨rb, 1, none⟩) (by show w.heap.size ≤ rb; omega) (.slice (some ⟨gg, 0, none⟩) M cp)).alloc (by simp; omega) (.cells #[.int .i64 0, .int .i64 (-1), .int .i64 1, .int .i64 3, .int .i64 9223372036854775807] 3))
      have va0 := (HV4.out.alloc (.cells #[.int .i64 0, .int .i64 (-1), .int .i64 1, .int .i64 3, .int .i64 9223372036854775807] 3)).c0
      have va1 := (HV4.out.alloc (.cells #[.int .i64 0, .int .i64 (-1), .int .i64 1, .int .i64 3, .int .i64 9223372036854775807] 3)).c1
      have ra0 := (HR4.out.alloc (.cells #[.int .i64 0, .int .i64 (-1), .int .i64 1, .int .i64 3, .int .i64 9223372036854775807] 3)).c0
      have ra1 := (HR4.out.alloc (.cells #[.int .i64 0, .int .i64 (-1), .int .i64 1, .int .i64 3, .int .i64 9223372036854775807] 3)).c1
      have ra2 := (HR4.out.alloc (.cells #[.int .i64 0, .int .i64 (-1), .int .i64 1, .int .i64 3, .int .i64 9223372036854775807] 3)).f 0
      have ra3 := (HR4.out.alloc (.cells #[.int .i64 0, .int .i64 (-1), .int .i64 1, .int .i64 3, .int .i64 9223372036854775807] 3)).f 1
      clear HBE HR4
      have hn4 : w4.heap.size ≠ rb := by omega
      have hn5 : w4.heap.size ≠ vb := by omega
      go_region_with (fail)
      all_goals
        go_wp2
        first
          | (generalize (((w4.alloc (.cells #[.int .i64 0, .int .i64 (-1), .int .i64 1, .int .i64 3, .int .i64 9223372036854775807] 3)).setCell ⟨rb, 0, none⟩ (.int .i64 W)).setCell ⟨rb, 1, none⟩ (.slice (some ⟨gg, 0, none⟩) M cp)) = w9 at *
             have e0 := HRA.out.c0
             have e1 := HRA.out.c1
             exact bodyPost_ret (v := .tuple #[.agg #[.int .i64 W, .slice (some ⟨gg, 0, none⟩) M cp], .int .i64 x]) (by simp [results, Tryz.results81, go_sem, e0, e1]) rfl ⟨W, M, gg, cp, l, x, rfl, hM, HIN.out, HOA.out, HX.out, HBA.out.drew⟩)
          | (generalize (((w4.setCell ⟨rb, 0, none⟩ (.int .i64 W)).setCell ⟨rb, 1, none⟩ (.slice (some ⟨gg, 0, none⟩) M cp)).alloc (.cells #[.int .i64 0, .int .i64 (-1), .int .i64 1, .int .i64 3, .int .i64 9223372036854775807] 3)) = w9 at *
             have e0 := HRB.out.c0
             have e1 := HRB.out.c1
             exact bodyPost_ret (v := .tuple #[.agg #[.int .i64 W, .slice (some ⟨gg, 0, none⟩) M cp], .int .i64 x]) (by simp [results, Tryz.results81, go_sem, e0, e1]) rfl ⟨W, M, gg, cp, l, x, rfl, hM, HIN.out, HOB.out, HX.out, HBB.out.drew⟩)

set_option maxHeartbeats 4000000 in
set_option maxRecDepth 100000 in
theorem dCmOf (a : Option Addr) (len cap : Nat) (w : World) (hc : Code w.heap.size w a len cap) (hl : len ≤ 1048576) :
    Calls Tryz.prog 22 #[.slice a len cap] w (GivesRgM w) := by
  obtain ⟨rb, hrb⟩ : ∃ rb, w.heap.size = rb := ⟨_, rfl⟩
  have hres := RgAt.new (w := w) 0 (.slice none 0 0) hrb
  have hb0 := (Below.refl w.heap.size w).alloc (Nat.le_refl _) (.cells #[.int .i64 0, .slice none 0 0] 26)
  have hsz : (w.alloc (.cells #[.int .i64 0, .slice none 0 0] 26)).heap.size = rb + 1 := by simp [hrb]
  have HC := Lib.hid ((hc.on hb0).more hb0.size)
  clear hc
  go_enter Tryz.func22, Tryz.ntmps22
  go_wp2_with fail
  generalize (w.alloc (.cells #[.int .i64 0, .slice none 0 0] 26)) = W0 at *
  have HB := Lib.hid hb0
  clear hb0
  refine (dMask7 a len cap W0 HC.out hl).mono ?_
  rintro e w2 ⟨W, M, gg, cp, l, x, rfl, hM, hin, hown, hx, hb2⟩
  have hlt0 := hres.lt
  have hs2 := hb2.size
  have hr2 := (hres.on hb2 hlt0).alloc (.cells #[.int .i64 W, .slice (some ⟨gg, 0, none⟩) M cp] 26)
  obtain ⟨vb, hvb⟩ : ∃ vb, w2.heap.size = vb := ⟨_, rfl⟩
  have hv2 := RgAt.new (w := w2) W (.slice (some ⟨gg, 0, none⟩) M cp) hvb
  have HBE := Lib.hid ((HB.out.trans (hb2.mono HB.out.size)).alloc (by omega) (.cells #[.int .i64 W, .slice (some ⟨gg, 0, none⟩) M cp] 26))
  have HO2 := Lib.hid (own_below (hown.alloc (.cells #[.int .i64 W, .slice (some ⟨gg, 0, none⟩) M cp] 26)) (show rb + 1 ≤ W0.heap.size by omega))
  have hgv := hown.lt gg rfl
  have HIN := Lib.hid hin
  have HX := Lib.hid hx
  clear hres hown hin hx hb2 HB HC
  have q0 := hr2.c0
  have q1 := hr2.c1
  have q2 := hr2.f 0
  have q3 := hr2.f 1
  have v0 := hv2.c0
  have v1 := hv2.c1
  have HR2 := Lib.hid hr2
  have hne : rb ≠ vb := by omega
  clear hr2 hv2
  go_wp2
  have R9 := HR2.out.set2 (W) (.slice (some ⟨gg, 0, none⟩) M cp)
  have e0 := R9.c0
  have e1 := R9.c1
  have HA9 := Lib.hid (own_below (own_off (b := rb) (o := 1) (u := .slice (some ⟨gg, 0, none⟩) M cp) (own_off (b := rb) (o := 0) (u := .int .i64 (W)) HO2.out (by omega)) (by omega)) (show w.heap.size ≤ rb + 1 by omega))
  have HB9 := Lib.hid ((HBE.out.setCell (p := ⟨rb, 0, none⟩) (by show w.heap.size ≤ rb; omega) (.int .i64 (W))).setCell (p := ⟨rb, 1, none⟩) (by show w.heap.size ≤ rb; omega) (.slice (some ⟨gg, 0, none⟩) M cp))
  generalize (((w2.alloc (.cells #[.int .i64 W, .slice (some ⟨gg, 0, none⟩) M cp] 26)).setCell ⟨rb, 0, none⟩ (.int .i64 (W))).setCell ⟨rb, 1, none⟩ (.slice (some ⟨gg, 0, none⟩) M cp)) = w9 at *
  exact bodyPost_ret (v := .tuple #[.agg #[.int .i64 W, .slice (some ⟨gg, 0, none⟩) M cp], .int .i64 x]) (by simp [results, Tryz.results22, go_sem, e0, e1]) rfl ⟨W, M, gg, cp, l, x, rfl, hM, HIN.out, HA9.out, HX.out, HB9.out⟩

set_option maxHeartbeats 4000000 in
set_option maxRecDepth 100000 in
theorem dFcOf (a : Option Addr) (len cap : Nat) (w : World) (hc : Code w.heap.size w a len cap) (hl : len ≤ 1048576) :
    Calls Tryz.prog 26 #[.slice a len cap] w (GivesRgM w) := by
  obtain ⟨rb, hrb⟩ : ∃ rb, w.heap.size = rb := ⟨_, rfl⟩
  have hres := RgAt.new (w := w) 0 (.slice none 0 0) hrb
  have hb0 := (Below.refl w.heap.size w).alloc (Nat.le_refl _) (.cells #[.int .i64 0, .slice none 0 0] 26)
  have hsz : (w.alloc (.cells #[.int .i64 0, .slice none 0 0] 26)).heap.size = rb + 1 := by simp [hrb]
  have HC := Lib.hid ((hc.on hb0).more hb0.size)
  clear hc
  go_enter Tryz.func26, Tryz.ntmps26
  go_wp2_with fail
  generalize (w.alloc (.cells #[.int .i64 0, .slice none 0 0] 26)) = W0 at *
  have HB := Lib.hid hb0
  clear hb0
  refine (dMask7 a len cap W0 HC.out hl).mono ?_
  rintro e w2 ⟨W, M, gg, cp, l, x, rfl, hM, hin, hown, hx, hb2⟩
  have hlt0 := hres.lt
  have hs2 := hb2.size
  have hr2 := (hres.on hb2 hlt0).alloc (.cells #[.int .i64 W, .slice (some ⟨gg, 0, none⟩) M cp] 26)
  obtain ⟨vb, hvb⟩ : ∃ vb, w2.heap.size = vb := ⟨_, rfl⟩
  have hv2 := RgAt.new (w := w2) W (.slice (some ⟨gg, 0, none⟩) M cp) hvb
  have HBE := Lib.hid ((HB.out.trans (hb2.mono HB.out.size)).alloc (by omega) (.cells #[.int .i64 W, .slice (some ⟨gg, 0, none⟩) M cp] 26))
  have HO2 := Lib.hid (own_below (hown.alloc (.cells #[.int .i64 W, .slice (some ⟨gg, 0, none⟩) M cp] 26)) (show rb + 1 ≤ W0.heap.size by omega))
  have hgv := hown.lt gg rfl
  have HIN := Lib.hid hin
  have HX := Lib.hid hx
  clear hres hown hin hx hb2 HB HC
  have q0 := hr2.c0
  have q1 := hr2.c1
  have q2 := hr2.f 0
  have q3 := hr2.f 1
  have v0 := hv2.c0
  have v1 := hv2.c1
  have HR2 := Lib.hid hr2
  have hne : rb ≠ vb := by omega
  clear hr2 hv2
  go_wp2
  have R9 := HR2.out.set2 (W) (.slice (some ⟨gg, 0, none⟩) M cp)
  have e0 := R9.c0
  have e1 := R9.c1
  have HA9 := Lib.hid (own_below (own_off (b := rb) (o := 1) (u := .slice (some ⟨gg, 0, none⟩) M cp) (own_off (b := rb) (o := 0) (u := .int .i64 (W)) HO2.out (by omega)) (by omega)) (show w.heap.size ≤ rb + 1 by omega))
  have HB9 := Lib.hid ((HBE.out.setCell (p := ⟨rb, 0, none⟩) (by show w.heap.size ≤ rb; omega) (.int .i64 (W))).setCell (p := ⟨rb, 1, none⟩) (by show w.heap.size ≤ rb; omega) (.slice (some ⟨gg, 0, none⟩) M cp))
  generalize (((w2.alloc (.cells #[.int .i64 W, .slice (some ⟨gg, 0, none⟩) M cp] 26)).setCell ⟨rb, 0, none⟩ (.int .i64 (W))).setCell ⟨rb, 1, none⟩ (.slice (some ⟨gg, 0, none⟩) M cp)) = w9 at *
  exact bodyPost_ret (v := .tuple #[.agg #[.int .i64 W, .slice (some ⟨gg, 0, none⟩) M cp], .int .i64 x]) (by simp [results, Tryz.results26, go_sem, e0, e1]) rfl ⟨W, M, gg, cp, l, x, rfl, hM, HIN.out, HA9.out, HX.out, HB9.out⟩
end

section
open Go.RowKit

/-- A shape in memory: its block, its capacity, its cells. -/
abbrev Ent := Nat × Nat × List Cl
def ev (e : Ent) : Value := .slice (some ⟨e.1, 0, none⟩) e.2.2.length e.2.1
def dE : Ent := (0, 0, [])
def kE (e : Ent) : List Cl := e.2.2
def EachS (B : Nat) (w : World) (es : List Ent) : Prop := ∀ e ∈ es, w.ownsRow B 40 2 (ev e) e.2.2.length (cvs e.2.2)
def SmallS (es : List Ent) : Prop := ∀ e ∈ es, e.2.2.length ≤ 4194304 ∧ ∀ c ∈ e.2.2, InC c
def ApartS (es : List Ent) : Prop := es.Pairwise fun e f => e.1 ≠ f.1
def OffS (g : Nat) (es : List Ent) : Prop := ∀ e ∈ es, e.1 ≠ g
theorem ev_block (e : Ent) : (ev e).ownBlock = some e.1 := rfl
theorem EachS.on {B : Nat} {w w' : World} {es : List Ent} (h : EachS B w es) (hb : Below w.heap.size w w') : EachS B w' es := fun e he => (h e he).kept (grow_below hb none) (.inr (by rw [ev_block]; intro e; cases e))
theorem EachS.by {B g : Nat} {w w' : World} {es : List Ent} (h : EachS B w es) (hg : w.grownBy w' (some g)) (hne : OffS g es) : EachS B w' es := fun e he => (h e he).kept hg (.inr (by rw [ev_block]; intro e2; injection e2 with e2; exact hne e he e2))
theorem EachS.sub {B : Nat} {w : World} {es fs : List Ent} (h : EachS B w es) (hs : ∀ e ∈ fs, e ∈ es) : EachS B w fs := fun e he => h e (hs e he)
theorem EachS.less {B B' : Nat} {w : World} {es : List Ent} (h : EachS B w es) (hB : B' ≤ B) : EachS B' w es := fun e he => own_below (h e he) hB
theorem EachS.cells {B : Nat} {w : World} {es : List Ent} (h : EachS B w es) (hs : SmallS es) {e : Ent} (he : e ∈ es) : CellsAt w.heap.size w (some ⟨e.1, 0, none⟩) e.2.2.length e.2.2 := CellsAt.of_own (h e he) (hs e he).2
theorem EachS.lt {B : Nat} {w : World} {es : List Ent} (h : EachS B w es) {e : Ent} (he : e ∈ es) : B ≤ e.1 ∧ e.1 < w.heap.size := (h e he).lt e.1 rfl
theorem ev_one (e : Ent) : (ev e).oneCell' = true := rfl
theorem evs_one (es : List Ent) : ∀ u ∈ es.map ev, u.oneCell' = true := by
  intro u hu
  obtain ⟨e, _, rfl⟩ := List.mem_map.1 hu
  exact ev_one e
theorem evs_get {es : List Ent} {k : Nat} (h : k < es.length) : (es.map ev)[k]? = some (ev (es.getD k dE)) := by simp [List.getD, h]
theorem ent_mem {es : List Ent} {k : Nat} (h : k < es.length) : es.getD k dE ∈ es := by simp [List.getD, h]

/-! ### Rows of values of one cell -/
theorem row1_le {w : World} {B n g cap : Nat} {t : TypeId} {xs : List Value} (h : w.ownsRow B t 1 (.slice (some ⟨g, 0, none⟩) n cap) n xs) : n ≤ cap := by
  rcases h.2 with ⟨e, _⟩ | ⟨g', cap', cur, e, _, _, h1, _⟩
  · cases e
  · injection e with _ _ e3
    omega
theorem row1_take {w : World} {B n g cap k : Nat} {t : TypeId} {xs : List Value} (h : w.ownsRow B t 1 (.slice (some ⟨g, 0, none⟩) n cap) n xs) (hk : k ≤ n) : w.ownsRow B t 1 (.slice (some ⟨g, 0, none⟩) k cap) k (xs.take k) := by
  have hl : xs.length = n := by have := h.1; omega
  rcases h.2 with ⟨e, _⟩ | ⟨g', cap', cur, e, hb, hg, h1, h2, h3, h4⟩
  · cases e
  · injection e with e1 e2 e3
    injection e1 with e1
    injection e1 with e1 _
    subst e1 e3
    refine ⟨by rw [List.length_take]; omega, .inr ⟨g, cap, cur, rfl, hb, hg, by omega, h2, h3, ?_⟩⟩
    rw [← h4, List.take_take]
    congr 1
    omega
theorem row1_far {w : World} {B n g cap o : Nat} {t : TypeId} {xs : List Value} {v : Value} (h : w.ownsRow B t 1 (.slice (some ⟨g, 0, none⟩) n cap) n xs) (ho : n ≤ o) : (w.setCell ⟨g, o, none⟩ v).ownsRow B t 1 (.slice (some ⟨g, 0, none⟩) n cap) n xs := by
  rcases h.2 with ⟨e, _⟩ | ⟨g', cap', cur, e, hb, hg, h1, h2, h3, h4⟩
  · cases e
  · injection e with e1 e2 e3
    injection e1 with e1
    injection e1 with e1 _
    subst e1 e3
    refine ⟨h.1, .inr ⟨g, cap, cur.setIfInBounds o v, rfl, hb, set_row hg o v, h1, h2, by simpa using h3, ?_⟩⟩
    rw [← h4]
    apply List.ext_getElem?
    intro j
    by_cases hj : j < n * 1
    · rw [List.getElem?_take_of_lt hj, List.getElem?_take_of_lt hj, Array.getElem?_toList, Array.getElem?_toList, Array.getElem?_setIfInBounds]
      rw [if_neg (by omega)]
    · rw [List.getElem?_take_eq_none (by omega), List.getElem?_take_eq_none (by omega)]
theorem row1_fars {B n g cap : Nat} {t : TypeId} {xs : List Value} : ∀ (vs : List Value) (o : Nat) (w : World), w.ownsRow B t 1 (.slice (some ⟨g, 0, none⟩) n cap) n xs → n ≤ o → (w.setCells g o vs).ownsRow B t 1 (.slice (some ⟨g, 0, none⟩) n cap) n xs
  | [], _, _, h, _ => h
  | v :: r, o, w, h, ho => row1_fars r (o + 1) _ (row1_far (v := v) h ho) (by omega)
theorem below_sets1 {B g : Nat} {a : World} (hg : B ≤ g) : ∀ (vs : List Value) (o : Nat) (w : World), Below B a w → Below B a (w.setCells g o vs)
  | [], _, _, h => h
  | v :: r, o, _, h => below_sets1 hg r (o + 1) _ (h.setCell (p := ⟨g, o, none⟩) hg v)
theorem grown_sets1 {g : Nat} : ∀ (vs : List Value) (o : Nat) (w : World), w.grownBy (w.setCells g o vs) (some g)
  | [], _, w => World.grownBy.refl _ _
  | v :: r, o, w => by
    have h1 : w.grownBy (w.setCell ⟨g, o, none⟩ v) (some g) := ⟨rfl, rfl, rfl, by simp [World.setCell], fun k hk hne => by
      have : g ≠ k := fun e => hne (by rw [e])
      simp [World.setCell, Array.getElem?_modify, this]⟩
    exact h1.trans (grown_sets1 r (o + 1) _)

/-- A slice of shapes of the call's own. -/
structure OwnS (B : Nat) (w : World) (v : Value) (es : List Ent) : Prop where
  row : w.ownsRow B 27 1 v es.length (es.map ev)
  each : EachS B w es
  apart : ApartS es
  off : ∀ e ∈ es, v.ownBlock ≠ some e.1
theorem OwnS.on {B : Nat} {w w' : World} {v : Value} {es : List Ent} (h : OwnS B w v es) (hb : Below w.heap.size w w') : OwnS B w' v es :=
  ⟨h.row.kept (grow_below hb none) (by cases v.ownBlock with | none => exact .inl rfl | some k => exact .inr (by simp)), h.each.on hb, h.apart, h.off⟩
theorem OwnS.less {B B' : Nat} {w : World} {v : Value} {es : List Ent} (h : OwnS B w v es) (hB : B' ≤ B) : OwnS B' w v es := ⟨own_below h.row hB, h.each.less hB, h.apart, h.off⟩
end

end Go.Proofs.YtailmmamgnebhaaGreatDoor
