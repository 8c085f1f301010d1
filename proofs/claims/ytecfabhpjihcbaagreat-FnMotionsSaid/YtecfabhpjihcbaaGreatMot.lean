/-
  Motions in the model.
-/
import Derived.Deep.Onto
import Derived.Deep.RegionWith
import Derived.Deep.QuietTactic
import Derived.BigQuiet
import Derived.Shelf.SlSortCmp.QuietGrown
import Derived.Test.YtecfabhpjihcbaaGreatCor
import Derived.Test.YtecfabhpjihcbaaGreatSrt
import Derived.Test.YtecfabhpjihcbaaGreatShq
import Derived.Test.YtecfabhpjihcbaaGreatPall
namespace Go.Proofs.YtecfabhpjihcbaaGreat
open Go.RowKit

def twoBlk (w : World) (x y : Int) : World := (w.alloc (.cells #[.int .i64 x, .int .i64 y] 55)).alloc (.cells #[.int .i64 0, .int .i64 0] 55)

theorem inW_of_inR {c : Cl} (h : inR 7 c) : inW c := by
  unfold inR at h
  unfold inW
  omega

set_option maxHeartbeats 1000000 in
set_option maxRecDepth 100000 in
theorem sApply (x y : Int) (m : Nat) (w : World) (hm : m ≤ 7) (hx : inR 1000 (x, y)) :
    Calls Tryz.prog 39 #[.agg #[.int .i64 x, .int .i64 y], .int .i64 m] w fun e w' => e = .returned (.agg #[.int .i64 (apM m (x, y)).1, .int .i64 (apM m (x, y)).2]) ∧ (∃ q os', w' = Go.Sort.grow (w.drewN q) os') ∧ Below w.heap.size w w' := by
  have HF := Lib.hid (flipC_in m hx)
  have hx' := hx
  unfold inR at hx'
  dsimp only at hx'
  have hmod : (m : Int).tmod 4 = ((m % 4 : Nat) : Int) := by rw [Int.tmod_eq_emod_of_nonneg (by omega)]; omega
  obtain ⟨X0, Y0, hfl⟩ : ∃ X0 Y0, flipC m (x, y) = (X0, Y0) := ⟨_, _, rfl⟩
  have HM : Hid (apM m (x, y) = rotN (m % 4) (X0, Y0)) := by unfold apM; rw [hfl]; exact rfl
  rw [hfl] at HF
  rw [HM.out]
  have hfl2 := hfl
  unfold flipC at hfl2
  clear hfl
  by_cases h4 : 4 ≤ m
  focus
    rw [if_pos h4] at hfl2
    injection hfl2 with e1 e2
    subst e1 e2
    go_enter Tryz.func39, Tryz.ntmps39
    go_wp2
    go_loopw [5] (fun i wr => ∃ (k : Nat) (X Y : Int), k ≤ m % 4 ∧ i = .int .i64 k ∧ (X, Y) = rotN k (-x, y) ∧ wr = twoBlk w X Y) (fun i _ => 4 - (intOf i).toNat)
  rotate_left 2
  focus
    rw [if_neg h4] at hfl2
    injection hfl2 with e1 e2
    subst e1 e2
    go_enter Tryz.func39, Tryz.ntmps39
    go_wp2
    go_loopw [5] (fun i wr => ∃ (k : Nat) (X Y : Int), k ≤ m % 4 ∧ i = .int .i64 k ∧ (X, Y) = rotN k (x, y) ∧ wr = twoBlk w X Y) (fun i _ => 4 - (intOf i).toNat)
  case atStart => exact ⟨0, x, y, by omega, rfl, rfl, rfl⟩
  case atStart => exact ⟨0, -x, y, by omega, rfl, rfl, rfl⟩
  all_goals
    obtain ⟨k, X, Y, hk, rfl, hXY, rfl⟩ := hrel
    unfold twoBlk
    have hb := rotN_in k HF.out
    rw [← hXY] at hb
    unfold inR at hb
    dsimp only at hb
    by_cases hlt : k < m % 4
  all_goals first | (
    have hi : (k : Int) < ((m % 4 : Nat) : Int) := by omega
    have hnext := congrArg rotC hXY
    simp only [rotC] at hnext
    go_wp2
    go_roundw
    case rel => exact ⟨k + 1, -Y, X, by omega, by go_num, hnext, rfl⟩
    case measure => simp [intOf]; omega) | (
    obtain rfl : k = m % 4 := by omega
    go_wp2
    (try simp only [Exit.inBlock, Exit.then])
    refine bodyPost_ret (v := .agg #[.int .i64 X, .int .i64 Y]) (by simp [results, Tryz.results39, go_sem]) rfl ?_
    exact ⟨by rw [← hXY], ⟨0, _, by rw [Go.Sort.alloc_eq_grow, Go.Sort.alloc_eq_grow, Go.Sort.grow_grow]; rfl⟩, ((Below.refl _ _).alloc (Nat.le_refl _) _).alloc (by simp) _⟩)

/-- The cells turned, before they are put in order. -/
theorem inC_ofs {p q : Int} (h1 : -9223372036854775808 ≤ p ∧ p ≤ 9223372036854775807) (h2 : -9223372036854775808 ≤ q ∧ q ≤ 9223372036854775807) : InC (p, q) := by
  unfold InC
  exact ⟨by omega, by omega⟩
theorem map_apM_in (m : Nat) (l : List Cl) (h : ∀ c ∈ l, inP c = true) : ∀ c ∈ l.map (apM m), inR 7 c := by
  intro c hc
  obtain ⟨d, hd, rfl⟩ := List.mem_map.1 hc
  exact apM_in m (inR_of_inP (h d hd))

set_option maxHeartbeats 2000000 in
set_option maxRecDepth 100000 in
theorem sTurn (B n cap m : Nat) (a : Option Addr) (l : List Cl) (w : World) (hm : m ≤ 7) (hn : n ≤ 1048576) (hc : CellsAt B w a n l) (hp : ∀ c ∈ l, inP c = true) (hB : B ≤ w.heap.size) :
    Calls Tryz.prog 44 #[.slice a n cap, .int .i64 m] w (GivesC w (turnC m l)) := by
  have H := Lib.hid hc
  have HP := Lib.hid hp
  clear hc hp
  go_enter Tryz.func44, Tryz.ntmps44
  go_wp2
  go_loopw [5, 6] (fun v i wr => ∃ (j g cc : Nat), j ≤ n ∧ i = .int .i64 j ∧ v = .slice (some ⟨g, 0, none⟩) j cc ∧ wr.ownsRow w.heap.size 55 2 (.slice (some ⟨g, 0, none⟩) j cc) j (cvs ((l.take j).map (apM m))) ∧ Below w.heap.size w wr) (fun _ i _ => n - (intOf i).toNat)
  case atStart => exact ⟨0, w.heap.size, 0, by omega, rfl, rfl, by simpa [cvs] using World.ownsRow_lit (base := w.heap.size) (e := 55) (size := 2) w #[] 0 (Nat.le_refl _) (by simp [maxLen]) rfl, (Below.refl _ _).alloc (Nat.le_refl _) _⟩
  case round =>
    obtain ⟨j, g, cc, hj, rfl, rfl, hown, hb⟩ := hrel
    have hsz := hb.size
    by_cases hlt : j < n
    · obtain ⟨b1, o1, rfl, hb1, hc1⟩ := H.out.2.2 (by omega)
      obtain ⟨x, y, hxy⟩ : ∃ x y, l.getD j (0, 0) = (x, y) := ⟨_, _, rfl⟩
      have p1 := (hb.cell (p := ⟨b1, o1 + j * 2, none⟩) (Nat.lt_of_lt_of_le hb1 hB)).trans (hc1 j hlt).1
      have p2 := (hb.cell (p := ⟨b1, o1 + j * 2 + 1, none⟩) (Nat.lt_of_lt_of_le hb1 hB)).trans (hc1 j hlt).2
      rw [hxy] at p1 p2
      have hpx := HP.out _ (getD_mem (l := l) (j := j) (by rw [H.out.1]; exact hlt))
      rw [hxy] at hpx
      have HX := Lib.hid hxy
      have hk0 : (0 : Int) ≤ (j : Int) := by omega
      have hk1 : (j : Int) < (n : Int) := by omega
      have hbl : b1 < wr.heap.size := by omega
      have hgl := hown.lt g rfl
      have hne : g ≠ b1 := by omega
      clear hxy hc1
      go_wp2_with fail
      refine (sApply x y m _ hm (by have := inR_of_inP hpx; unfold inR at *; omega)).mono ?_
      rintro e w1 ⟨rfl, -, hb1'⟩
      obtain ⟨X, Y, hXY⟩ : ∃ X Y, apM m (x, y) = (X, Y) := ⟨_, _, rfl⟩
      have hstep := map_step (apM m) l j (by rw [H.out.1]; exact hlt)
      rw [HX.out, hXY] at hstep
      have HST := Lib.hid hstep
      have hin := apM_in m (inR_of_inP hpx)
      rw [hXY] at hin
      unfold inR at hin
      dsimp only at hin
      have hownA := hown.kept (grow_below hb1' none) (.inr (by intro e; cases e))
      have hsz1 := hb1'.size
      have HBW := Lib.hid (hb.trans (hb1'.mono hsz))
      have HOWN := Lib.hid hownA
      rw [hXY]
      dsimp only
      clear hstep hXY p1 p2 hpx hown hownA hb1' hb
      go_wp2_with (first | (at_builtin; refine wpList_cells rfl _ _ rfl w.heap.size g j cc ((l.take j).map (apM m)) ⟨w1.heap.size, 0, none⟩ 1 1 [(X, Y)] rfl rfl (HOWN.out.alloc _) rfl (lies_block (t := 55) (fr := (0, 0)) (heap_alloc_new _ _)) ?c4 ?c5 (w1.heap.size + 1) ?c6 ?_) | go_in)
      case c4 => omega
      case c5 => simp; omega
      case c6 => simp
      intro g' cc' w2 hown2 hgrow2 hat2 hgb2 hlt2
      have hstep2 := HST.out
      rw [List.map_take] at hstep2
      rw [hstep2] at hown2
      have HO2 := Lib.hid hown2
      have HB2 := Lib.hid ((HBW.out.alloc (Nat.le_trans hsz hsz1) (.cells #[.int .i64 X, .int .i64 Y] 55)).grown hgrow2 (by simp; omega) (fun i hi => by cases hi; exact hgl.1))
      clear hown2 hgrow2 hat2 hstep2
      go_wp2
      go_roundw
      case rel => exact ⟨j + 1, g', cc', by omega, by go_num, rfl, HO2.out, HB2.out⟩
      case measure => simp [intOf]; omega
    · obtain rfl : j = n := by omega
      have e : l.take j = l := List.take_of_length_le (by rw [H.out.1]; exact Nat.le_refl _)
      rw [e] at hown
      have hmi := map_apM_in m l HP.out
      have hll : (l.map (apM m)).length = j := by rw [List.length_map, H.out.1]
      have HA := Lib.hid (CellsAt.of_own hown (fun c hc => by have := hmi c hc; unfold inR at this; exact inC_ofs (by omega) (by omega)))
      have HMI := Lib.hid hmi
      have HB1 := Lib.hid hb
      clear hown hmi e hb
      go_wp2_with fail
      refine (sSort wr.heap.size j cc (some ⟨g, 0, none⟩) (l.map (apM m)) wr hn HA.out (Nat.le_refl _)).mono ?_
      rintro e w3 ⟨g3, c3, rfl, hown3, hb3⟩
      have hsl := sortU_len (l.map (apM m))
      have hsi : ∀ c ∈ sortU (l.map (apM m)), inR 7 c := fun c hc => HMI.out c ((sortU_mem _ c).1 hc)
      have HA3 := Lib.hid (CellsAt.of_own hown3 (fun c hc => by have := hsi c hc; unfold inR at this; exact inC_ofs (by omega) (by omega)))
      have HSI := Lib.hid hsi
      have HB3 := Lib.hid (HB1.out.trans (hb3.mono hsz))
      have hsz3 := HB3.out.size
      clear hown3 hsi hb3
      go_wp2_with fail
      refine (sCornerW w3.heap.size (sortU (l.map (apM m))).length c3 _ (sortU (l.map (apM m))) w3 (by omega) HA3.out (fun c hc => inW_of_inR (HSI.out c hc)) (Nat.le_refl _)).mono ?_
      rintro e w4 ⟨g4, c4, rfl, hown4, hb4⟩
      have HR := Lib.hid (show GivesC w (turnC m l) (.returned (.slice (some ⟨g4, 0, none⟩) (cornerC (sortU (l.map (apM m)))).length c4)) w4 from ⟨g4, c4, rfl, own_below hown4 hsz3, HB3.out.trans (hb4.mono hsz3)⟩)
      clear hown4 hb4
      go_wp2
      go_ret
      exact HR.out

end Go.Proofs.YtecfabhpjihcbaaGreat
