/-
  Drawn shapes: a shape grown cell by cell.
-/
import Derived.Test.YtcfioncnpfoccaaGreatDoorDrk
import Derived.Test.YtcfioncnpfoccaaGreatDoorSrt
import Derived.Test.YtcfioncnpfoccaaGreatDoorShq
import Derived.Test.YtcfioncnpfoccaaGreatDoorSiz
namespace Go.Proofs.YtcfioncnpfoccaaGreatDoor
open Go.RowKit

theorem rem2 (x : Int) (h : -3 ≤ x) (h2 : x ≤ 2) : -1 ≤ x.tmod 2 ∧ x.tmod 2 ≤ 1 := by
  have : x = -3 ∨ x = -2 ∨ x = -1 ∨ x = 0 ∨ x = 1 ∨ x = 2 := by omega
  rcases this with rfl | rfl | rfl | rfl | rfl | rfl <;> decide
theorem inb_out {x lo hi : Int} (h : inb x lo hi = true) : lo ≤ x ∧ x ≤ hi := by
  unfold inb at h
  simpa using h
theorem sortU_inP {l : List Cl} (h : ∀ c ∈ l, inP c = true) : ∀ c ∈ sortU l, inP c = true := fun c hc => h c ((sortU_mem l c).1 hc)

theorem inP_of {p q : Int} (h1 : 0 ≤ p ∧ p ≤ 7) (h2 : 0 ≤ q ∧ q ≤ 7) : inP (p, q) = true := by
  unfold inP inb
  simp
  omega
theorem cornerC_len (l : List Cl) : (cornerC l).length = l.length := by simp [cornerC]
/-- A drawn row of cells: the call's own; the reader stays one. -/
def GivesD (B g : Nat) (w : World) (e : Ending) (w' : World) : Prop := ∃ (gg cap : Nat) (l : List Cl), e = .returned (.slice (some ⟨gg, 0, none⟩) l.length cap) ∧ w'.ownsRow w.heap.size 79 2 (.slice (some ⟨gg, 0, none⟩) l.length cap) l.length (cvs l) ∧ (∀ c ∈ l, InC c) ∧ 1 ≤ l.length ∧ l.length ≤ 8 ∧ Cur B w' g ∧ w.grownBy w' (some g)

set_option maxHeartbeats 2000000 in
set_option maxRecDepth 100000 in
theorem dGrow (B g n : Nat) (w : World) (hc : Cur B w g) (hn : n ≤ 7) :
    Calls Tryz.prog 89 #[.pointer (some ⟨g, 0, none⟩), .int .i64 n] w (GivesD B g w) := by
  have hlt := hc.lt
  obtain ⟨hl1, hl2⟩ := hlt
  have HC := Lib.hid hc
  clear hc
  go_enter Tryz.func89, Tryz.ntmps89
  go_wp2
  go_loopw [5, 6] (fun v i wr => ∃ (k gg cap m : Nat) (l : List Cl), 1 ≤ k ∧ (k ≤ n ∨ k = 1) ∧ i = .int .i64 k ∧ m ≤ k ∧ 1 ≤ m ∧ v = .slice (some ⟨gg, 0, none⟩) m cap ∧ Hid (l.length = m) ∧ Hid (∀ c ∈ l, inP c = true) ∧ Hid (wr.ownsRow w.heap.size 79 2 (.slice (some ⟨gg, 0, none⟩) m cap) m (cvs l)) ∧ Hid (Cur B wr g) ∧ Hid (w.grownBy wr (some g)) ∧ w.heap.size ≤ wr.heap.size) (fun _ i _ => n - (intOf i).toNat)
  case atStart =>
    refine ⟨1, w.heap.size, 1, 1, [(3, 3)], by omega, .inr rfl, rfl, by omega, by omega, rfl, rfl, ?_, ?_, HC.out.alloc _, World.grownBy_alloc _ _ _, by simp⟩
    · intro c hc
      obtain rfl := List.mem_singleton.1 hc
      decide
    · exact World.ownsRow_lit (base := w.heap.size) (e := 79) (size := 2) w #[.int .i64 3, .int .i64 3] 1 (Nat.le_refl _) (by simp [maxLen]) rfl
  case round =>
    obtain ⟨k, gg, cap, m, l, hk1, hkn, rfl, hmk, hm1, rfl, hlm, hin, hown, hcur, hgr, hsz⟩ := hrel
    by_cases hlt : k < n
    · have hkk : (k : Int) < (n : Int) := by omega
      have hgg := hown.out.lt gg rfl
      go_wp2_with fail
      refine (dBelow B g m _ hcur.out (by omega) (by omega)).mono ?_
      rintro e w1 ⟨x, hx0, hx1, rfl, hc1, hg1⟩
      obtain ⟨j, rfl⟩ := Int.eq_ofNat_of_zero_le hx0
      have hown1 := hown.out.kept hg1 (.inr (by intro e; have h9 : gg = g := Option.some.inj e; omega))
      have hca := CellsAt.of_own hown1 (fun c hc => inP_in (hin.out c hc))
      obtain ⟨b1, o1, he, hb1, hc1'⟩ := hca.2.2 (by omega)
      injection he with he
      injection he with he1 he2
      subst he1 he2
      have hjm : j < m := by omega
      obtain ⟨x, y, hxy⟩ : ∃ x y, l.getD j (0, 0) = (x, y) := ⟨_, _, rfl⟩
      have p1 := (hc1' j hjm).1
      have p2 := (hc1' j hjm).2
      rw [hxy] at p1 p2
      simp only [Nat.zero_add] at p1 p2
      try dsimp only at p1 p2
      have hpx := inP_out (hin.out _ (getD_mem (l := l) (j := j) (by rw [hlm.out]; exact hjm)))
      rw [hxy] at hpx
      dsimp only at hpx
      have hs1 := hg1.size
      have HG1 := Lib.hid (grow_trans hgr.out hg1)
      have HC1 := Lib.hid hc1
      have HO1 := Lib.hid hown1
      clear hxy hc1' hca hown1 hg1 hc1 hown hcur hgr
      go_wp2_with fail
      refine (dBelow B g 4 _ (HC1.out.alloc _) (by omega) (by omega)).mono ?_
      rintro e w3 ⟨d, hd0, hd1, rfl, hc3, hg3⟩
      have hblk := (hg3.block w1.heap.size (by simp) (by intro e; have h9 : w1.heap.size = g := Option.some.inj e; omega)).trans (heap_alloc_new w1 (.cells #[.int .i64 x, .int .i64 y] 79))
      have q1 : w3.cell? ⟨w1.heap.size, 0, none⟩ = some (.int .i64 x) := cell_of_row w3 w1.heap.size 0 _ _ _ hblk
      have q2 : w3.cell? ⟨w1.heap.size, 1, none⟩ = some (.int .i64 y) := cell_of_row w3 w1.heap.size 1 _ _ _ hblk
      have hs3 := hg3.size
      simp only [World.size_alloc] at hs3
      have HO3 := Lib.hid ((HO1.out.alloc (.cells #[.int .i64 x, .int .i64 y] 79)).kept hg3 (.inr (by intro e; have h9 : gg = g := Option.some.inj e; omega)))
      have HC3 := Lib.hid hc3
      have HG3 := Lib.hid (grow_trans HG1.out (grow_trans (World.grownBy_alloc w1 (.cells #[.int .i64 x, .int .i64 y] 79) (some g)) hg3))
      have r1 := rem2 (1 - d) (by omega) (by omega)
      have r2 := rem2 (2 - d) (by omega) (by omega)
      clear hc3 hg3 hblk p1 p2
      go_wp2_with fail
      generalize hp : x + (1 - d).tmod 2 = p at *
      generalize hq : y + (2 - d).tmod 2 = q at *
      have s1 : (w3.alloc (.cells #[.int .i64 p, .int .i64 q] 79)).cell? ⟨w3.heap.size, 0, none⟩ = some (.int .i64 p) := cell_of_row _ w3.heap.size 0 _ _ _ (heap_alloc_new _ _)
      have s2 : (w3.alloc (.cells #[.int .i64 p, .int .i64 q] 79)).cell? ⟨w3.heap.size, 1, none⟩ = some (.int .i64 q) := cell_of_row _ w3.heap.size 1 _ _ _ (heap_alloc_new _ _)
      have hs4 : w3.heap.size < (w3.alloc (.cells #[.int .i64 p, .int .i64 q] 79)).heap.size := by simp
      have HO4 := Lib.hid (HO3.out.alloc (.cells #[.int .i64 p, .int .i64 q] 79))
      have HC4 := Lib.hid (HC3.out.alloc (.cells #[.int .i64 p, .int .i64 q] 79))
      have HG4 := Lib.hid (grow_trans HG3.out (World.grownBy_alloc w3 (.cells #[.int .i64 p, .int .i64 q] 79) (some g)))
      generalize (w3.alloc (.cells #[.int .i64 p, .int .i64 q] 79)) = w4 at *
      clear q1 q2 HO1 HC1 HG1 HO3 HC3 HG3 r1 r2 hp hq
      have hgg4 := HO4.out.lt gg rfl
      have HA := Lib.hid (CellsAt.of_own HO4.out (fun c hc => inP_in (hin.out c hc)))
      refine (sIn _ _ _ _).mono ?_
      rintro e w' ⟨rfl, rfl⟩
      cases hi1 : inb p 0 7 with
      | false =>
        go_wp2
        go_roundw
        case rel => exact ⟨k + 1, gg, cap, m, l, by omega, .inl (by omega), by go_num, by omega, hm1, rfl, hlm, hin, HO4.out, HC4.out, HG4.out, by have := HG4.out.size; omega⟩
        case measure => simp [intOf]; omega
      | true =>
        go_wp2_with fail
        refine (sIn _ _ _ _).mono ?_
        rintro e w' ⟨rfl, rfl⟩
        cases hi2 : inb q 0 7 with
        | false =>
          go_wp2
          go_roundw
          case rel => exact ⟨k + 1, gg, cap, m, l, by omega, .inl (by omega), by go_num, by omega, hm1, rfl, hlm, hin, HO4.out, HC4.out, HG4.out, by have := HG4.out.size; omega⟩
          case measure => simp [intOf]; omega
        | true =>
          have b1 := inb_out hi1
          have b2 := inb_out hi2
          go_wp2_with fail
          refine (sHasCell w4.heap.size m cap _ l p q w4 (by omega) HA.out).mono ?_
          rintro e w' ⟨rfl, rfl⟩
          cases hh : hasC l p q with
          | true =>
            go_wp2
            go_roundw
            case rel => exact ⟨k + 1, gg, cap, m, l, by omega, .inl (by omega), by go_num, by omega, hm1, rfl, hlm, hin, HO4.out, HC4.out, HG4.out, by have := HG4.out.size; omega⟩
            case measure => simp [intOf]; omega
          | false =>
            have HIN := Lib.hid (show ∀ c ∈ l ++ [(p, q)], inP c = true from fun c hc => by
              rcases List.mem_append.1 hc with h | h
              · exact hin.out c h
              · obtain rfl := List.mem_singleton.1 h
                exact inP_of b1 b2)
            have hsw : w.heap.size ≤ w4.heap.size := HG4.out.size
            go_wp2_with (first | (at_builtin; refine wpList_cells rfl _ _ rfl w.heap.size gg m cap l ⟨w4.heap.size, 0, none⟩ 1 1 [(p, q)] rfl rfl (HO4.out.alloc _) rfl (lies_block (t := 79) (fr := (0, 0)) (heap_alloc_new _ _)) (by omega) ?c5 (w4.heap.size + 1) ?c6 ?_) | go_in)
            case c5 => simp; omega
            case c6 => simp
            intro g' cc' w5 hown5 hgrow5 hat5 hgb5 hlt5
            have hc5 := (HC4.out.alloc (.cells #[.int .i64 p, .int .i64 q] 79)).grown hgrow5 (fun x hx => by cases hx; omega)
            have hg5 := grow_new (grow_trans HG4.out (World.grownBy_alloc w4 (.cells #[.int .i64 p, .int .i64 q] 79) (some g))) hgrow5 (fun x hx => by cases hx; omega)
            have HO5 := Lib.hid hown5
            have HC5 := Lib.hid hc5
            have HG5 := Lib.hid hg5
            clear hown5 hgrow5 hc5 hg5
            go_wp2
            go_roundw
            case rel => exact ⟨k + 1, g', cc', m + 1, l ++ [(p, q)], by omega, .inl (by omega), by go_num, by omega, by omega, rfl, by rw [List.length_append, hlm.out]; rfl, HIN.out, HO5.out, HC5.out, HG5.out, HG5.out.size⟩
            case measure => simp [intOf]; omega
    · have HA := Lib.hid (CellsAt.of_own hown.out (fun c hc => inP_in (hin.out c hc)))
      go_wp2_with fail
      refine (sSort wr.heap.size m cap _ l wr (by omega) HA.out (Nat.le_refl _)).mono ?_
      rintro e w1 ⟨g1, c1, rfl, hown1, hb1⟩
      have hsl := sortU_len l
      have hin1 := sortU_inP hin.out
      have hpos : 1 ≤ (sortU l).length := by
        have hm0 : l.getD 0 (0, 0) ∈ sortU l := (sortU_mem l _).2 (getD_mem (by rw [hlm.out]; omega))
        exact List.length_pos_of_mem hm0
      rw [hlm.out] at hsl
      have HA1 := Lib.hid (CellsAt.of_own hown1 (fun c hc => inP_in (hin1 c hc)))
      have HG1 := Lib.hid (grow_trans hgr.out (grow_below hb1 (some g)))
      have HC1 := Lib.hid (hcur.out.grown (grow_below hb1 none) (fun k hk => by cases hk))
      have hs1 := hb1.size
      clear hown1 hb1
      go_wp2_with fail
      refine (sCorner w1.heap.size (sortU l).length c1 _ (sortU l) w1 (by omega) HA1.out hin1 (Nat.le_refl _)).mono ?_
      rintro e w2 ⟨g2, c2, rfl, hown2, hb2⟩
      have hs2 := hb2.size
      have HR := Lib.hid (show GivesD B g w (.returned (.slice (some ⟨g2, 0, none⟩) (cornerC (sortU l)).length c2)) w2 from
        ⟨g2, c2, cornerC (sortU l), rfl, own_below hown2 (by omega), (fun c hc => inP_in (cornerC_in hin1 c hc)), by rw [cornerC_len]; exact hpos, by rw [cornerC_len]; omega,
          HC1.out.grown (grow_below hb2 none) (fun k hk => by cases hk), grow_trans HG1.out (grow_below hb2 (some g))⟩)
      clear hown2 hb2
      go_wp2
      go_ret
      exact HR.out

end Go.Proofs.YtcfioncnpfoccaaGreatDoor
