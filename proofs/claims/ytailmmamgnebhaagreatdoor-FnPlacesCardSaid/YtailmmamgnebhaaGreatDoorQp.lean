/-
  Motions in the model.
  Shapes turned and compared, in the model.
  Lists of shapes in the model: what is put in order.
  Orientations, the canonical one, in the model.
  Where a shape can lie, in the model: what the call gives.
-/
import Derived.Deep.Onto
import Derived.Deep.RegionWith
import Derived.Deep.QuietTactic
import Derived.BigQuiet
import Derived.Shelf.SlSortCmp.QuietGrown
import Derived.Test.YtailmmamgnebhaaGreatDoorQa
import Derived.Test.YtailmmamgnebhaaGreatDoorQd
import Derived.Test.YtailmmamgnebhaaGreatDoorQf
import Derived.Test.YtailmmamgnebhaaGreatDoorQj
import Derived.Test.YtailmmamgnebhaaGreatDoorQo
import Derived.Test.YtailmmamgnebhaaGreatDoorQn
namespace Go.Proofs.YtailmmamgnebhaaGreatDoor

section
open Go.RowKit

def twoBlk (w : World) (x y : Int) : World := (w.alloc (.cells #[.int .i64 x, .int .i64 y] 40)).alloc (.cells #[.int .i64 0, .int .i64 0] 40)

theorem inW_of_inR {c : Cl} (h : inR 7 c) : inW c := by
  unfold inR at h
  unfold inW
  omega

set_option maxHeartbeats 1000000 in
set_option maxRecDepth 100000 in
theorem sApply (x y : Int) (m : Nat) (w : World) (hm : m ≤ 7) (hx : inR 1000 (x, y)) :
    Calls Tryz.prog 158 #[.agg #[.int .i64 x, .int .i64 y], .int .i64 m] w fun e w' => e = .returned (.agg #[.int .i64 (apM m (x, y)).1, .int .i64 (apM m (x, y)).2]) ∧ (∃ q os', w' = Go.Sort.grow (w.drewN q) os') ∧ Below w.heap.size w w' := by
  have HF := Lib.hid (flipC_in m hx)
  have hx' := hx
  unfold inR at hx'
  dsimp only at hx'
  have hmod : (m : Int).tmod 4 = ((m % 4 : Nat) : Int) := by rw [Int.tmod_eq_emod_of_nonneg (by omega)]; omega
  obtain ⟨X0, Y0, hfl⟩ : ∃ X0 Y0, flipC m (x, y) = (X0, Y0) := ⟨_, _, rfl⟩
  have HM : Hid (apM m (x, y) = rotN (m % 4) (X0, Y0)) := by unfold apM; rw [hfl]; exact rfl
  rw [hfl] at HF
  rw [HM.out]
  have hfl2 := hfl
  unfold flipC at hfl2
  clear hfl
  by_cases h4 : 4 ≤ m
  focus
    rw [if_pos h4] at hfl2
    injection hfl2 with e1 e2
    subst e1 e2
    go_enter Tryz.func158, Tryz.ntmps158
    go_wp2
    go_loopw [5] (fun i wr => ∃ (k : Nat) (X Y : Int), k ≤ m % 4 ∧ i = .int .i64 k ∧ (X, Y) = rotN k (-x, y) ∧ wr = twoBlk w X Y) (fun i _ => 4 - (intOf i).toNat)
  rotate_left 2
  focus
    rw [if_neg h4] at hfl2
    injection hfl2 with e1 e2
    subst e1 e2
    go_enter Tryz.func158, Tryz.ntmps158
    go_wp2
    go_loopw [5] (fun i wr => ∃ (k : Nat) (X Y : Int), k ≤ m % 4 ∧ i = .int .i64 k ∧ (X, Y) = rotN k (x, y) ∧ wr = twoBlk w X Y) (fun i _ => 4 - (intOf i).toNat)
  case atStart => exact ⟨0, x, y, by omega, rfl, rfl, rfl⟩
  case atStart => exact ⟨0, -x, y, by omega, rfl, rfl, rfl⟩
  all_goals
    obtain ⟨k, X, Y, hk, rfl, hXY, rfl⟩ := hrel
    unfold twoBlk
    have hb := rotN_in k HF.out
    rw [← hXY] at hb
    unfold inR at hb
    dsimp only at hb
    by_cases hlt : k < m % 4
  all_goals first | (
    have hi : (k : Int) < ((m % 4 : Nat) : Int) := by omega
    have hnext := congrArg rotC hXY
    simp only [rotC] at hnext
    go_wp2
    go_roundw
    case rel => exact ⟨k + 1, -Y, X, by omega, by go_num, hnext, rfl⟩
    case measure => simp [intOf]; omega) | (
    obtain rfl : k = m % 4 := by omega
    go_wp2
    (try simp only [Exit.inBlock, Exit.then])
    refine bodyPost_ret (v := .agg #[.int .i64 X, .int .i64 Y]) (by simp [results, Tryz.results158, go_sem]) rfl ?_
    exact ⟨by rw [← hXY], ⟨0, _, by rw [Go.Sort.alloc_eq_grow, Go.Sort.alloc_eq_grow, Go.Sort.grow_grow]; rfl⟩, ((Below.refl _ _).alloc (Nat.le_refl _) _).alloc (by simp) _⟩)

/-- The cells turned, before they are put in order. -/
theorem inC_ofs {p q : Int} (h1 : -9223372036854775808 ≤ p ∧ p ≤ 9223372036854775807) (h2 : -9223372036854775808 ≤ q ∧ q ≤ 9223372036854775807) : InC (p, q) := by
  unfold InC
  exact ⟨by omega, by omega⟩
theorem map_apM_in (m : Nat) (l : List Cl) (h : ∀ c ∈ l, inP c = true) : ∀ c ∈ l.map (apM m), inR 7 c := by
  intro c hc
  obtain ⟨d, hd, rfl⟩ := List.mem_map.1 hc
  exact apM_in m (inR_of_inP (h d hd))

set_option maxHeartbeats 2000000 in
set_option maxRecDepth 100000 in
theorem sTurn (B n cap m : Nat) (a : Option Addr) (l : List Cl) (w : World) (hm : m ≤ 7) (hn : n ≤ 1048576) (hc : CellsAt B w a n l) (hp : ∀ c ∈ l, inP c = true) (hB : B ≤ w.heap.size) :
    Calls Tryz.prog 122 #[.slice a n cap, .int .i64 m] w (GivesC w (turnC m l)) := by
  have H := Lib.hid hc
  have HP := Lib.hid hp
  clear hc hp
  go_enter Tryz.func122, Tryz.ntmps122
  go_wp2
  go_loopw [5, 6] (fun v i wr => ∃ (j g cc : Nat), j ≤ n ∧ i = .int .i64 j ∧ v = .slice (some ⟨g, 0, none⟩) j cc ∧ wr.ownsRow w.heap.size 40 2 (.slice (some ⟨g, 0, none⟩) j cc) j (cvs ((l.take j).map (apM m))) ∧ Below w.heap.size w wr) (fun _ i _ => n - (intOf i).toNat)
  case atStart => exact ⟨0, w.heap.size, 0, by omega, rfl, rfl, by simpa [cvs] using World.ownsRow_lit (base := w.heap.size) (e := 40) (size := 2) w #[] 0 (Nat.le_refl _) (by simp [maxLen]) rfl, (Below.refl _ _).alloc (Nat.le_refl _) _⟩
  case round =>
    obtain ⟨j, g, cc, hj, rfl, rfl, hown, hb⟩ := hrel
    have hsz := hb.size
    by_cases hlt : j < n
    · obtain ⟨b1, o1, rfl, hb1, hc1⟩ := H.out.2.2 (by omega)
      obtain ⟨x, y, hxy⟩ : ∃ x y, l.getD j (0, 0) = (x, y) := ⟨_, _, rfl⟩
      have p1 := (hb.cell (p := ⟨b1, o1 + j * 2, none⟩) (Nat.lt_of_lt_of_le hb1 hB)).trans (hc1 j hlt).1
      have p2 := (hb.cell (p := ⟨b1, o1 + j * 2 + 1, none⟩) (Nat.lt_of_lt_of_le hb1 hB)).trans (hc1 j hlt).2
      rw [hxy] at p1 p2
      have hpx := HP.out _ (getD_mem (l := l) (j := j) (by rw [H.out.1]; exact hlt))
      rw [hxy] at hpx
      have HX := Lib.hid hxy
      have hk0 : (0 : Int) ≤ (j : Int) := by omega
      have hk1 : (j : Int) < (n : Int) := by omega
      have hbl : b1 < wr.heap.size := by omega
      have hgl := hown.lt g rfl
      have hne : g ≠ b1 := by omega
      clear hxy hc1
      go_wp2_with fail
      refine (sApply x y m _ hm (by have := inR_of_inP hpx; unfold inR at *; omega)).mono ?_
      rintro e w1 ⟨rfl, -, hb1'⟩
      obtain ⟨X, Y, hXY⟩ : ∃ X Y, apM m (x, y) = (X, Y) := ⟨_, _, rfl⟩
      have hstep := map_step (apM m) l j (by rw [H.out.1]; exact hlt)
      rw [HX.out, hXY] at hstep
      have HST := Lib.hid hstep
      have hin := apM_in m (inR_of_inP hpx)
      rw [hXY] at hin
      unfold inR at hin
      dsimp only at hin
      have hownA := hown.kept (grow_below hb1' none) (.inr (by intro e; cases e))
      have hsz1 := hb1'.size
      have HBW := Lib.hid (hb.trans (hb1'.mono hsz))
      have HOWN := Lib.hid hownA
      rw [hXY]
      dsimp only
      clear hstep hXY p1 p2 hpx hown hownA hb1' hb
      go_wp2_with (first | (at_builtin; refine wpList_cells rfl _ _ rfl w.heap.size g j cc ((l.take j).map (apM m)) ⟨w1.heap.size, 0, none⟩ 1 1 [(X, Y)] rfl rfl (HOWN.out.alloc _) rfl (lies_block (t := 40) (fr := (0, 0)) (heap_alloc_new _ _)) ?c4 ?c5 (w1.heap.size + 1) ?c6 ?_) | go_in)
      case c4 => omega
      case c5 => simp; omega
      case c6 => simp
      intro g' cc' w2 hown2 hgrow2 hat2 hgb2 hlt2
      have hstep2 := HST.out
      rw [List.map_take] at hstep2
      rw [hstep2] at hown2
      have HO2 := Lib.hid hown2
      have HB2 := Lib.hid ((HBW.out.alloc (Nat.le_trans hsz hsz1) (.cells #[.int .i64 X, .int .i64 Y] 40)).grown hgrow2 (by simp; omega) (fun i hi => by cases hi; exact hgl.1))
      clear hown2 hgrow2 hat2 hstep2
      go_wp2
      go_roundw
      case rel => exact ⟨j + 1, g', cc', by omega, by go_num, rfl, HO2.out, HB2.out⟩
      case measure => simp [intOf]; omega
    · obtain rfl : j = n := by omega
      have e : l.take j = l := List.take_of_length_le (by rw [H.out.1]; exact Nat.le_refl _)
      rw [e] at hown
      have hmi := map_apM_in m l HP.out
      have hll : (l.map (apM m)).length = j := by rw [List.length_map, H.out.1]
      have HA := Lib.hid (CellsAt.of_own hown (fun c hc => by have := hmi c hc; unfold inR at this; exact inC_ofs (by omega) (by omega)))
      have HMI := Lib.hid hmi
      have HB1 := Lib.hid hb
      clear hown hmi e hb
      go_wp2_with fail
      refine (sSort wr.heap.size j cc (some ⟨g, 0, none⟩) (l.map (apM m)) wr hn HA.out (Nat.le_refl _)).mono ?_
      rintro e w3 ⟨g3, c3, rfl, hown3, hb3⟩
      have hsl := sortU_len (l.map (apM m))
      have hsi : ∀ c ∈ sortU (l.map (apM m)), inR 7 c := fun c hc => HMI.out c ((sortU_mem _ c).1 hc)
      have HA3 := Lib.hid (CellsAt.of_own hown3 (fun c hc => by have := hsi c hc; unfold inR at this; exact inC_ofs (by omega) (by omega)))
      have HSI := Lib.hid hsi
      have HB3 := Lib.hid (HB1.out.trans (hb3.mono hsz))
      have hsz3 := HB3.out.size
      clear hown3 hsi hb3
      go_wp2_with fail
      refine (sCornerW w3.heap.size (sortU (l.map (apM m))).length c3 _ (sortU (l.map (apM m))) w3 (by omega) HA3.out (fun c hc => inW_of_inR (HSI.out c hc)) (Nat.le_refl _)).mono ?_
      rintro e w4 ⟨g4, c4, rfl, hown4, hb4⟩
      have HR := Lib.hid (show GivesC w (turnC m l) (.returned (.slice (some ⟨g4, 0, none⟩) (cornerC (sortU (l.map (apM m)))).length c4)) w4 from ⟨g4, c4, rfl, own_below hown4 hsz3, HB3.out.trans (hb4.mono hsz3)⟩)
      clear hown4 hb4
      go_wp2
      go_ret
      exact HR.out
end

section
open Go.RowKit

theorem inb_out2 {x lo hi : Int} (h : inb x lo hi = true) : lo ≤ x ∧ x ≤ hi := by
  unfold inb at h
  simpa using h
theorem turnS_yes {m : Nat} {l : List Cl} (h : isShape l = true) (hm : m ≤ 7) : turnS (m : Int) l = turnC m l ∧ (isShape l && inb (m : Int) 0 7) = true := by
  have e : (isShape l && inb (m : Int) 0 7) = true := by simp [h, inb]; omega
  exact ⟨by unfold turnS; rw [if_pos e]; rfl, e⟩
theorem turnS_no {m : Int} {l : List Cl} (h : (isShape l && inb m 0 7) = false) : turnS m l = [] := if_neg (by rw [h]; simp)

theorem ret_I {a b : Int} (h : a = b) : Ending.returned (.int .i64 a) = .returned (.int .i64 b) := by rw [h]
theorem sBeforeG (x y u v : Int) (w : World) : Calls Tryz.prog 125 #[.agg #[.int .i64 x, .int .i64 y], .agg #[.int .i64 u, .int .i64 v]] w fun e w' => e = .returned (.bool (bef (x, y) (u, v))) ∧ ∃ q os', w' = Go.Sort.grow (w.drewN q) os' := by
  unfold bef
  dsimp only
  by_cases h1 : y < v
  · go_enter Tryz.func125, Tryz.ntmps125
    go_wp2
    go_ret
    exact ⟨by simp [h1], 0, _, by rw [Go.Sort.alloc_eq_grow, Go.Sort.alloc_eq_grow, Go.Sort.grow_grow]; rfl⟩
  · by_cases h2 : y = v
    · subst h2
      by_cases h3 : x < u
      · go_enter Tryz.func125, Tryz.ntmps125
        go_wp2
        go_ret
        exact ⟨by simp, 0, _, by rw [Go.Sort.alloc_eq_grow, Go.Sort.alloc_eq_grow, Go.Sort.grow_grow]; rfl⟩
      · go_enter Tryz.func125, Tryz.ntmps125
        go_wp2
        go_ret
        exact ⟨by simp [h3], 0, _, by rw [Go.Sort.alloc_eq_grow, Go.Sort.alloc_eq_grow, Go.Sort.grow_grow]; rfl⟩
    · have e2 : (y == v) = false := by simp [h2]
      go_enter Tryz.func125, Tryz.ntmps125
      go_wp2
      go_ret
      exact ⟨by simp [h1], 0, _, by rw [Go.Sort.alloc_eq_grow, Go.Sort.alloc_eq_grow, Go.Sort.grow_grow]; rfl⟩

theorem cmpS_lens {l r : List Cl} (h : l.length = r.length) : cmpS l r = cmpL (l.drop 0) (r.drop 0) := by
  unfold cmpS
  rw [if_neg (by omega), if_neg (by omega)]
  rfl

set_option maxHeartbeats 2000000 in
set_option maxRecDepth 100000 in
theorem sCompare (B n m c1 c2 : Nat) (a1 a2 : Option Addr) (l r : List Cl) (w : World) (hn : n ≤ 4194304) (hm : m ≤ 4194304) (h1 : CellsAt B w a1 n l) (h2 : CellsAt B w a2 m r) (hB : B ≤ w.heap.size) :
    Calls Tryz.prog 157 #[.slice a1 n c1, .slice a2 m c2] w fun e w' => e = .returned (.int .i64 (cmpS l r)) ∧ Below w.heap.size w w' := by
  have H1 := Lib.hid h1
  have H2 := Lib.hid h2
  clear h1 h2
  by_cases hd : n = m
  · subst hd
    have hne : (((n : Nat) : Int) != (n : Int)) = false := by simp
    have HC := Lib.hid (cmpS_lens (l := l) (r := r) (by rw [H1.out.1, H2.out.1]))
    go_enter Tryz.func157, Tryz.ntmps157
    go_wp2
    go_loopw [5] (fun i wr => ∃ k : Nat, k ≤ n ∧ i = .int .i64 k ∧ Hid (cmpS l r = cmpL (l.drop k) (r.drop k)) ∧ Below w.heap.size w wr) (fun i _ => n - (intOf i).toNat)
    case atStart => exact ⟨0, by omega, rfl, HC, Below.refl _ _⟩
    case round =>
      obtain ⟨k, hk, rfl, hsame, hb⟩ := hrel
      have hsz := hb.size
      by_cases hlt : k < n
      · obtain ⟨b1, o1, rfl, hb1, hc1⟩ := H1.out.2.2 (by omega)
        obtain ⟨b2, o2, rfl, hb2, hc2⟩ := H2.out.2.2 (by omega)
        obtain ⟨x, y, hxy⟩ : ∃ x y, l.getD k (0, 0) = (x, y) := ⟨_, _, rfl⟩
        obtain ⟨u, v, huv⟩ : ∃ u v, r.getD k (0, 0) = (u, v) := ⟨_, _, rfl⟩
        have p1 := (hb.cell (p := ⟨b1, o1 + k * 2, none⟩) (Nat.lt_of_lt_of_le hb1 hB)).trans (hc1 k hlt).1
        have p2 := (hb.cell (p := ⟨b1, o1 + k * 2 + 1, none⟩) (Nat.lt_of_lt_of_le hb1 hB)).trans (hc1 k hlt).2
        have q1 := (hb.cell (p := ⟨b2, o2 + k * 2, none⟩) (Nat.lt_of_lt_of_le hb2 hB)).trans (hc2 k hlt).1
        have q2 := (hb.cell (p := ⟨b2, o2 + k * 2 + 1, none⟩) (Nat.lt_of_lt_of_le hb2 hB)).trans (hc2 k hlt).2
        rw [hxy] at p1 p2
        rw [huv] at q1 q2
        have hdrop := cmpL_drop (l := l) (r := r) (by rw [H1.out.1, H2.out.1]) k (by rw [H1.out.1]; exact hlt)
        rw [hxy, huv] at hdrop
        have HDR := Lib.hid (hsame.out.trans hdrop)
        have hbl1 : b1 < wr.heap.size := by omega
        have hbl2 : b2 < wr.heap.size := by omega
        have hk0 : (0 : Int) ≤ (k : Int) := by omega
        have hk1 : (k : Int) < (n : Int) := by omega
        have hE := neq_cell x y u v
        have hG := cell_guard
        clear hc1 hc2 hxy huv hdrop hsame
        by_cases heq : x = u ∧ y = v
        · obtain ⟨rfl, rfl⟩ := heq
          rw [if_pos rfl] at HDR
          have hsc : sameC (x, y) (x, y) = true := by simp [sameC]
          rw [hsc] at hE
          clear hsc
          go_wp2_with fail
          go_quiet (fail)
          go_wp2_with fail
          go_roundw
          case rel => exact ⟨k + 1, by omega, by go_num, HDR, below_drewn hb _⟩
          case measure => simp [intOf]; omega
        · rw [if_neg (fun e => heq (by injection e with e1 e2; exact ⟨e1, e2⟩))] at HDR
          have hsc : sameC (x, y) (u, v) = false := by unfold sameC; rw [Bool.eq_false_iff]; intro h; apply heq; simpa using h
          rw [hsc] at hE
          clear hsc heq
          go_wp2_with fail
          go_quiet (fail)
          go_wp2_with fail
          have hBG : ∀ n os, Calls Tryz.prog 125 #[.agg #[.int .i64 x, .int .i64 y], .agg #[.int .i64 u, .int .i64 v]] (Go.Sort.grow ((wr.drewN nq).drewN n) os) fun e w'' => e = .returned (.bool (bef (x, y) (u, v))) ∧ ∃ q os', w'' = Go.Sort.grow ((Go.Sort.grow ((wr.drewN nq).drewN n) os).drewN q) os' := fun n os => sBeforeG x y u v _
          have g1 := cell_grown (w := wr.drewN nq) hbl1 p1
          have g2 := cell_grown (w := wr.drewN nq) hbl1 p2
          have g3 := cell_grown (w := wr.drewN nq) hbl2 q1
          have g4 := cell_grown (w := wr.drewN nq) hbl2 q2
          have hmix : Tryz.prog.follows .mixedOrders = true := by kernel_rfl
          have HBD := Lib.hid (below_drewn hb nq)
          obtain ⟨wd, hwd⟩ : ∃ wd, wr.drewN nq = wd := ⟨_, rfl⟩
          rw [hwd] at hBG g1 g2 g3 g4 HBD ⊢
          have hszd : w.heap.size ≤ wd.heap.size := HBD.out.size
          clear hE hG hb hwd hbl1 hbl2 p1 p2 q1 q2
          refine wp_region_quiet_grown hmix (by kernel_rfl) ?_
          repeat (first | (go_big_quiet_step (first | (go_at_call 125; refine Calls.grown_of (hBG _ _)))) | (quiet_step (first | (go_at_call 125; refine Calls.grown_of (hBG _ _)))))
          refine wpQuiet_nil ?_
          intro _ hw'
          obtain ⟨⟨nq2, osq⟩, hw''⟩ := hw'
          subst hw''
          have hbw : Below wd.heap.size wd (Go.Sort.grow (wd.drewN nq2) osq) := ⟨rfl, rfl, rfl, by simp, fun k hk => Go.Sort.heap_grow_old _ _ hk⟩
          have HBB := Lib.hid (HBD.out.trans (hbw.mono hszd))
          clear hbw g1 g2 g3 g4 hBG
          cases hbf : bef (x, y) (u, v) with
          | true =>
            rw [hbf] at HDR
            have HR := Lib.hid (show cmpS l r = -1 from HDR.out)
            go_wp2
            go_ret
            exact ⟨ret_I HR.out.symm, HBB.out⟩
          | false =>
            rw [hbf] at HDR
            have HR := Lib.hid (show cmpS l r = 1 from HDR.out)
            go_wp2
            go_ret
            exact ⟨ret_I HR.out.symm, HBB.out⟩
      · obtain rfl : k = n := by omega
        have e0 : cmpL (l.drop k) (r.drop k) = 0 := by rw [List.drop_eq_nil_of_le (by rw [H1.out.1]; exact Nat.le_refl _)]; unfold cmpL; rfl
        have HSM := Lib.hid (hsame.out.trans e0)
        clear hsame e0
        go_wp2
        go_ret
        exact ⟨ret_I HSM.out.symm, hb⟩
  · have hne : (((n : Nat) : Int) != (m : Int)) = true := by simp; omega
    by_cases hl : n < m
    · have HC : Hid (cmpS l r = -1) := by unfold cmpS; rw [if_pos (by rw [H1.out.1, H2.out.1]; exact hl)]; exact rfl
      rw [HC.out]
      go_enter Tryz.func157, Tryz.ntmps157
      go_wp2
      go_ret
      exact ⟨rfl, Below.refl _ _⟩
    · have HC : Hid (cmpS l r = 1) := by unfold cmpS; rw [if_neg (by rw [H1.out.1, H2.out.1]; exact hl), if_pos (by rw [H1.out.1, H2.out.1]; omega)]; exact rfl
      rw [HC.out]
      go_enter Tryz.func157, Tryz.ntmps157
      go_wp2
      go_ret
      exact ⟨rfl, Below.refl _ _⟩
end

section
open Go.RowKit

/-- A slice value that reads as a list of cells. -/
def SlAt (B : Nat) (w : World) (v : Value) (l : List Cl) : Prop := ∃ a cap, v = .slice a l.length cap ∧ CellsAt B w a l.length l ∧ l.length ≤ 4194304
theorem SlAt.on {B : Nat} {w w' : World} {v : Value} {l : List Cl} (h : SlAt B w v l) (hb : Below B w w') : SlAt B w' v l := by
  obtain ⟨a, cap, e, hc, hn⟩ := h
  exact ⟨a, cap, e, hc.on hb, hn⟩
theorem SlAt.more {B B' : Nat} {w : World} {v : Value} {l : List Cl} (h : SlAt B w v l) (hB : B ≤ B') : SlAt B' w v l := by
  obtain ⟨a, cap, e, hc, hn⟩ := h
  exact ⟨a, cap, e, hc.more hB, hn⟩
/-- The cells of a block that read as a list of shapes. -/
def SsAt (B : Nat) (w : World) (g : Nat) (vs : List Value) (L : List (List Cl)) : Prop := g < B ∧ vs.length = L.length ∧ (∀ k, k < L.length → w.cell? ⟨g, k, none⟩ = vs[k]?) ∧ ∀ (k : Nat) (v : Value) (l : List Cl), vs[k]? = some v → L[k]? = some l → SlAt B w v l
theorem SsAt.on {B g : Nat} {w w' : World} {vs : List Value} {L : List (List Cl)} (h : SsAt B w g vs L) (hb : Below B w w') : SsAt B w' g vs L :=
  ⟨h.1, h.2.1, fun k hk => (hb.cell (p := ⟨g, k, none⟩) h.1).trans (h.2.2.1 k hk), fun k v l hv hl => (h.2.2.2 k v l hv hl).on hb⟩
theorem SsAt.more {B B' g : Nat} {w : World} {vs : List Value} {L : List (List Cl)} (h : SsAt B w g vs L) (hB : B ≤ B') : SsAt B' w g vs L :=
  ⟨Nat.lt_of_lt_of_le h.1 hB, h.2.1, h.2.2.1, fun k v l hv hl => (h.2.2.2 k v l hv hl).more hB⟩
theorem SsAt.get {B g : Nat} {w : World} {vs : List Value} {L : List (List Cl)} (h : SsAt B w g vs L) {k : Nat} (hk : k < L.length) : ∃ a cap, w.cell? ⟨g, k, none⟩ = some (.slice a (L.getD k []).length cap) ∧ CellsAt B w a (L.getD k []).length (L.getD k []) ∧ (L.getD k []).length ≤ 4194304 := by
  have h1 := h.2.2.1 k hk
  have h2 : vs[k]? = some (vs[k]'(by rw [h.2.1]; exact hk)) := List.getElem?_eq_getElem _
  have h3 : L[k]? = some (L.getD k []) := by simp [List.getD, hk]
  obtain ⟨a, cap, e, hc, hn⟩ := h.2.2.2 k _ _ h2 h3
  exact ⟨a, cap, by rw [h1, h2, e], hc, hn⟩
theorem SsAt.one {B g : Nat} {w : World} {vs : List Value} {L : List (List Cl)} (h : SsAt B w g vs L) : ∀ u ∈ vs, u.oneCell' = true := by
  intro u hu
  obtain ⟨k, hk, rfl⟩ := List.getElem_of_mem hu
  have hk2 : k < L.length := by rw [← h.2.1]; exact hk
  obtain ⟨a, cap, e, _⟩ := h.2.2.2 k _ _ (List.getElem?_eq_getElem hk) (List.getElem?_eq_getElem hk2)
  rw [e]
  rfl
theorem get_ins {α : Type} (l : List α) (x : α) (j k : Nat) (hj : j ≤ l.length) : (l.take j ++ [x] ++ l.drop j)[k]? = if k < j then l[k]? else if k = j then some x else l[k - 1]? := by
  have hl : (l.take j).length = j := by rw [List.length_take]; omega
  by_cases h1 : k < j
  · rw [if_pos h1, List.append_assoc, List.getElem?_append_left (by omega), List.getElem?_take, if_pos h1]
  · rw [if_neg h1]
    by_cases h2 : k = j
    · subst h2
      rw [if_pos rfl, List.append_assoc, List.getElem?_append_right (by omega), hl]
      simp
    · rw [if_neg h2, List.getElem?_append_right (by simp; omega), List.getElem?_drop]
      congr 1
      simp
      omega
theorem LiesV.on {w w' : World} {b off B : Nat} {l : List Value} (h : LiesV w ⟨b, off, none⟩ l) (hb : Below B w w') (hlt : b < B) : LiesV w' ⟨b, off, none⟩ l := fun j u hj => by
  rw [add_at]
  have := h j u hj
  rw [add_at] at this
  exact (hb.cell (p := ⟨b, off + j, none⟩) hlt).trans this
theorem SsAt.lies {B g : Nat} {w : World} {vs : List Value} {L : List (List Cl)} (h : SsAt B w g vs L) (k m : Nat) : LiesV w ⟨g, k, none⟩ ((vs.drop k).take m) := by
  intro j u hj
  rw [add_at]
  rw [List.getElem?_take] at hj
  split at hj
  · rw [List.getElem?_drop] at hj
    have hlt := (List.getElem?_eq_some_iff.1 hj).1
    rw [h.2.2.1 (k + j) (by rw [← h.2.1]; exact hlt), hj]
  · cases hj
/-- A shape put between. -/
theorem ss_ins {B g g3 c3 j N : Nat} {w w3 : World} {vs : List Value} {sv : Value} {L : List (List Cl)} {s : List Cl} {t : TypeId} {b3 : Nat} (h : SsAt B w g vs L) (hs : SlAt B w sv s) (hj : j ≤ L.length) (hB : B ≤ w.heap.size) (hb : Below w.heap.size w w3)
    (hown : w3.ownsRow b3 t 1 (.slice (some ⟨g3, 0, none⟩) N c3) N (vs.take j ++ [sv] ++ vs.drop j)) : SsAt w3.heap.size w3 g3 (vs.take j ++ [sv] ++ vs.drop j) (L.take j ++ [s] ++ L.drop j) := by
  have hl : (vs.take j ++ [sv] ++ vs.drop j).length = (L.take j ++ [s] ++ L.drop j).length := by simp [h.2.1]
  refine ⟨(hown.lt g3 rfl).2, hl, fun k hk => ?_, fun k v l hv hl2 => ?_⟩
  · exact hown.cellAt k (by have h9 := hown.1; rw [hl] at h9; omega)
  · rw [get_ins _ _ _ _ (by rw [h.2.1]; exact hj)] at hv
    rw [get_ins _ _ _ _ hj] at hl2
    have hsz := hb.size
    split at hv
    · rename_i h1
      rw [if_pos h1] at hl2
      exact ((h.2.2.2 k v l hv hl2).on (hb.mono hB)).more (Nat.le_trans hB hsz)
    · rename_i h1
      rw [if_neg h1] at hl2
      split at hv
      · rename_i h2
        rw [if_pos h2] at hl2
        injection hv with hv
        injection hl2 with hl2
        subst hv hl2
        exact (hs.on (hb.mono hB)).more (Nat.le_trans hB hsz)
      · rename_i h2
        rw [if_neg h2] at hl2
        exact ((h.2.2.2 (k - 1) v l hv hl2).on (hb.mono hB)).more (Nat.le_trans hB hsz)
theorem own_lit_s {w : World} {B N : Nat} (h : w.heap.size = N) (hB : B ≤ N) : (w.alloc (.cells #[] 27)).ownsRow B 27 1 (.slice (some ⟨N, 0, none⟩) 0 0) 0 [] := by subst h; exact World.ownsRow_lit (base := B) (e := 27) (size := 1) w #[] 0 hB (by simp [maxLen]) rfl
/-- A list of shapes comes back. -/
def GivesSs (w : World) (L : List (List Cl)) (e : Ending) (w' : World) : Prop := ∃ g cap vs, e = .returned (.slice (some ⟨g, 0, none⟩) L.length cap) ∧ L.length ≤ cap ∧ SsAt w'.heap.size w' g vs L ∧ Below w.heap.size w w'

theorem posG_step {x : List Cl} {o : List (List Cl)} {k : Nat} (h : ltS x (o.getD k []) = true) : posG ltS [] x o (k + 1) = posG ltS [] x o k := if_pos h
theorem posG_stop {x : List Cl} {o : List (List Cl)} {k : Nat} (h : ltS x (o.getD k []) = false) : posG ltS [] x o (k + 1) = k + 1 := if_neg (by rw [h]; simp)
theorem insG_yes {x : List Cl} {o : List (List Cl)} {k : Nat} (hp : posG ltS [] x o o.length = k) (h : 0 < k ∧ o.getD (k - 1) [] = x) : insG ltS [] o x = o := by
  unfold insG
  rw [hp, if_pos h]
theorem insG_no {x : List Cl} {o : List (List Cl)} {k : Nat} (hp : posG ltS [] x o o.length = k) (h : ¬ (0 < k ∧ o.getD (k - 1) [] = x)) : insG ltS [] o x = o.take k ++ [x] ++ o.drop k := by
  unfold insG
  rw [hp, if_neg h]

theorem own_cap_s {w : World} {B n g cap : Nat} {t : TypeId} {xs : List Value} (h : w.ownsRow B t 1 (.slice (some ⟨g, 0, none⟩) n cap) n xs) : n ≤ cap := by
  rcases h.2 with ⟨e, _⟩ | ⟨g', cap', cur, e, _, _, h1, _⟩
  · cases e
  · injection e with _ _ e3
    omega

set_option maxHeartbeats 4000000 in
set_option maxRecDepth 100000 in
theorem sPut (B g n cap c2 : Nat) (a2 : Option Addr) (vs : List Value) (L : List (List Cl)) (s : List Cl) (w : World) (hn : L.length = n) (hn2 : n ≤ 1000000) (hcap : n ≤ cap) (hL : SsAt B w g vs L) (hm : s.length ≤ 4194304) (hs : CellsAt B w a2 s.length s) (hB : B ≤ w.heap.size) :
    Calls Tryz.prog 121 #[.slice (some ⟨g, 0, none⟩) n cap, .slice a2 s.length c2] w (GivesSs w (insG ltS [] L s)) := by
  have HL := Lib.hid hL
  have HS := Lib.hid hs
  have hg := hL.1
  clear hL hs
  go_enter Tryz.func121, Tryz.ntmps121
  go_wp2
  go_loopw [5] (fun q wi => ∃ j : Nat, j ≤ n ∧ q = .int .i64 j ∧ Hid (posG ltS [] s L n = posG ltS [] s L j) ∧ Below w.heap.size w wi) (fun q _ => (intOf q).toNat)
  case atStart => exact ⟨n, Nat.le_refl _, rfl, rfl, Below.refl _ _⟩
  case round =>
    obtain ⟨j, hj, rfl, hpos, hbi⟩ := hrel
    have hszi := hbi.size
    by_cases hj0 : 0 < j
    · obtain ⟨a3, c3, hcell, hc3, hn3⟩ := (HL.out.on (hbi.mono hB)).get (k := j - 1) (by omega)
      obtain ⟨t, ht⟩ : ∃ t, L.getD (j - 1) [] = t := ⟨_, rfl⟩
      rw [ht] at hc3 hn3 hcell
      have HT := Lib.hid ht
      have HC3 := Lib.hid hc3
      have hj1 : (1 : Int) ≤ (j : Int) := by omega
      have hj2 : (j : Int) - 1 < (n : Int) := by omega
      have hj3 : (0 : Int) ≤ (j : Int) - 1 := by omega
      have hj4 : ((j : Int) - 1).toNat = j - 1 := by omega
      have hjw : IntKind.i64.wrap ((j : Int) - 1) = (j : Int) - 1 := IntWalk.i64_in _ (by omega)
      clear ht hc3
      go_wp2_with fail
      refine (sCompare B s.length t.length c2 c3 a2 a3 s t wr hm hn3 (HS.out.on (hbi.mono hB)) HC3.out (Nat.le_trans hB hszi)).mono ?_
      rintro e w1 ⟨rfl, hb1⟩
      have HB1 := Lib.hid (hbi.trans (hb1.mono hszi))
      by_cases hcmp : cmpS s t < 0
      · have hp2 : posG ltS [] s L n = posG ltS [] s L (j - 1) := by
          have e := posG_step (x := s) (o := L) (k := j - 1) (by rw [HT.out]; unfold ltS; simpa using hcmp)
          rw [show j - 1 + 1 = j by omega] at e
          rw [hpos.out, e]
        have HP2 := Lib.hid hp2
        clear hp2
        go_wp2
        go_roundw
        case rel => exact ⟨j - 1, by omega, by congr 1; omega, HP2.out, HB1.out⟩
        case measure => simp [intOf]; omega
      · have hp2 : posG ltS [] s L L.length = j := by
          have e := posG_stop (x := s) (o := L) (k := j - 1) (by rw [HT.out]; unfold ltS; simpa using hcmp)
          rw [show j - 1 + 1 = j by omega] at e
          rw [hn, hpos.out, e]
        have HP2 := Lib.hid hp2
        have hcell1 := (hb1.cell (p := ⟨g, j - 1, none⟩) (by show g < _; omega)).trans hcell
        clear hp2 hcell
        go_wp2_with fail
        refine (sEqual_any B t.length s.length c3 c2 a3 a2 t s w1 hn3 hm (HC3.out.on (hb1.mono (Nat.le_trans hB hszi))) (HS.out.on (HB1.out.mono hB)) (Nat.le_trans hB HB1.out.size)).mono ?_
        rintro e w2 ⟨rfl, hb2⟩
        have HB2 := Lib.hid (HB1.out.trans (hb2.mono HB1.out.size))
        by_cases hts : t = s
        · have he : insG ltS [] L s = L := insG_yes HP2.out ⟨hj0, by rw [HT.out]; exact hts⟩
          have hq : eqb t s = true := by simp [eqb, hts]
          have HR := Lib.hid (show GivesSs w (insG ltS [] L s) (.returned (.slice (some ⟨g, 0, none⟩) n cap)) w2 from by
            rw [he]
            exact ⟨g, cap, vs, by rw [hn], by omega, (HL.out.on (HB2.out.mono hB)).more (Nat.le_trans hB HB2.out.size), HB2.out⟩)
          clear he hcell1
          rw [hq]
          go_wp2
          go_ret
          exact HR.out
        · have he : insG ltS [] L s = L.take j ++ [s] ++ L.drop j := insG_no HP2.out (fun h => hts (by rw [← HT.out]; exact h.2))
          have hq : eqb t s = false := by simp [eqb, hts]
          have HE := Lib.hid he
          rw [hq]
          clear he hcell1 hq
          go_wp2_with fail
          clear hj1 hj2 hj3 hj4 hjw hcmp hts hn3 hb1 hb2 HC3 HT HB1 hbi hszi HP2 hpos
          obtain ⟨WW, rfl⟩ : ∃ x, x = w2 := ⟨_, rfl⟩
          have hszW := HB2.out.size
          have hSS := (HL.out.on (HB2.out.mono hB)).more (Nat.le_trans hB hszW)
          have HSS := Lib.hid hSS
          have HSV := Lib.hid (show SlAt WW.heap.size WW (.slice a2 s.length c2) s from ⟨a2, c2, rfl, (HS.out.on (HB2.out.mono hB)).more (Nat.le_trans hB hszW), hm⟩)
          have HONE := Lib.hid hSS.one
          have hgW := hSS.1
          have hvl : vs.length = n := by rw [hSS.2.1, hn]
          have HL1 := Lib.hid (show LiesV WW ⟨g, 0, none⟩ (vs.take j) from by have h9 := hSS.lies 0 j; simpa using h9)
          have hl2 : LiesV WW ⟨g, j, none⟩ (vs.drop j) := by have h9 := hSS.lies j (n - j); rw [List.take_of_length_le (by rw [List.length_drop, hvl]; exact Nat.le_refl _)] at h9; exact h9
          obtain ⟨bo, haj, hl3⟩ : ∃ bo : Nat, (if cap = j then some (⟨g, 0, none⟩ : Addr) else some ⟨g, j, none⟩) = some ⟨g, bo, none⟩ ∧ LiesV WW ⟨g, bo, none⟩ (vs.drop j) := by
            by_cases hcj : cap = j
            · refine ⟨0, if_pos hcj, ?_⟩
              rw [List.drop_of_length_le (by rw [hvl]; omega)]
              intro q u9 hq
              simp at hq
            · exact ⟨j, if_neg hcj, hl2⟩
          have HAJ := Lib.hid haj
          have HL2 := Lib.hid hl3
          have HVL := Lib.hid hvl
          have hjm : (j : Int) ≤ (n : Int) := by omega
          have hj00 : (0 : Int) ≤ (j : Int) := by omega
          have hjc : (j : Int) ≤ (cap : Int) := by omega
          have hmc : (n : Int) ≤ (cap : Int) := by omega
          clear haj hl2 hl3 hSS hvl
          go_region_held3 (fun w' => Held WW w')
            (first | (unfold Held; repeat' (first | exact Below.refl _ _ | exact hbS3 | exact hbS2 | exact hbS1 | refine Below.drew ?_ | refine Below.alloc ?_ ?_ _ | exact Nat.le_refl _ | exact hbS3.size | exact hbS2.size | exact hbS1.size | (simp; omega) | (simp; done))))
            (first | (refine step_shps rfl _ _ rfl WW.heap.size _ 0 0 [] ⟨g, 0, none⟩ j cap (vs.take j) rfl rfl ?a1 (by rw [List.length_take, HVL.out]; omega) ?a3 (fun u hu => HONE.out u (List.mem_of_mem_take hu)) (by omega) ?a5 _ rfl ?_; (case a1 => (first | exact own_lit_s (w := WW) rfl (Nat.le_refl _) | exact (own_lit_s (w := WW) rfl (Nat.le_refl _)).alloc _ | exact own_lit_s (w := WW.alloc _) (by simp) (by simp))); (case a3 => (refine LiesV.on HL1.out ?_ hgW; (repeat' (first | exact Below.refl _ _ | exact hbS2 | exact hbS1 | refine Below.drew ?_ | refine Below.alloc ?_ ?_ _ | exact Nat.le_refl _ | exact hbS2.size | exact hbS1.size | (have h9 := hbS1.size; simp; omega) | (simp; omega) | (simp; done))))); (case a5 => (first | (simp; done) | (simp; omega))); intro g1 c1 w1 hown1 hgrow1 hat1 hgb1 hlt1; (simp only [Nat.zero_add, List.nil_append] at hown1); have hbS1 : Below WW.heap.size WW w1 := by (refine Below.grown (w := _) ?_ hgrow1 ?_ (fun k hk => by cases hk; first | exact Nat.le_refl _ | (simp; done) | (simp; omega)) <;> (repeat' (first | exact Below.refl _ _ | exact hbS2 | exact hbS1 | refine Below.drew ?_ | refine Below.alloc ?_ ?_ _ | exact Nat.le_refl _ | exact hbS2.size | exact hbS1.size | (have h9 := hbS1.size; simp; omega) | (simp; omega) | (simp; done))))) | (refine step_shps rfl _ _ rfl WW.heap.size g1 _ c1 (vs.take j) _ 1 1 [.slice a2 s.length c2] rfl rfl ?a1 rfl ?a3 (by simp [Value.oneCell']) ?a4 ?a5 _ rfl ?_; (case a1 => ((try simp only [Nat.zero_add]); first | exact hown1 | exact hown1.alloc _)); (case a4 => omega); (case a3 => (refine liesV_block (t := 27) (fr := (0, 0)) ?_; first | exact heap_alloc_new _ _ | (refine (hgrow1.block _ ?_ ?_).trans ?_ <;> first | (simp; done) | (simp; omega) | exact new_at (w := WW.alloc _) _ (by simp) | exact (Below.heap_alloc (WW.alloc _) _ _ (by simp)).trans (new_at _ rfl)))); (case a5 => (first | exact hbS1.size | (simp; omega) | (simp; have := hbS1.size; omega))); intro g2 c2' w2' hown2 hgrow2 hat2 hgb2 hlt2; (try simp only [Nat.zero_add] at hown2); have hbS2 : Below WW.heap.size WW w2' := by (refine Below.grown (w := _) ?_ hgrow2 ?_ (fun k hk => by cases hk; exact hgb1) <;> (repeat' (first | exact Below.refl _ _ | exact hbS2 | exact hbS1 | refine Below.drew ?_ | refine Below.alloc ?_ ?_ _ | exact Nat.le_refl _ | exact hbS2.size | exact hbS1.size | (have h9 := hbS1.size; simp; omega) | (simp; omega) | (simp; done))))) | (refine step_shps rfl _ _ rfl WW.heap.size g2 _ c2' (vs.take j ++ [.slice a2 s.length c2]) ⟨g, bo, none⟩ (n - j) (cap - j) (vs.drop j) rfl (congrArg (fun z => Value.slice z (n - j) (cap - j)) HAJ.out) ?a1 ?a2 ?a3 (fun u hu => HONE.out u (List.mem_of_mem_drop hu)) ?a4 ?a5 _ rfl ?_; (case a2 => (rw [List.length_drop, HVL.out])); (case a1 => ((try simp only [Nat.zero_add]); exact hown2)); (case a4 => omega); (case a3 => (exact LiesV.on HL2.out hbS2 hgW)); (case a5 => (exact hbS2.size)); intro g3 c3' w3 hown3 hgrow3 hat3 hgb3 hlt3; have hbS3 : Below WW.heap.size WW w3 := Below.grown hbS2 hgrow3 hbS2.size (fun k hk => by cases hk; exact hgb2)))
          all_goals
            (try simp only [Nat.zero_add] at hown3)
            have HB3 := Lib.hid (HB2.out.trans (hbS3.mono hszW))
            have hss := ss_ins HSS.out HSV.out (by rw [hn]; exact hj) (Nat.le_refl _) hbS3 hown3
            have hlen : (insG ltS [] L s).length = j + 1 + (n - j) := by rw [HE.out]; simp [hn]; omega
            have hc9 : j + 1 + (n - j) ≤ c3' := own_cap_s hown3
            have HR := Lib.hid (show GivesSs w (insG ltS [] L s) (.returned (.slice (some ⟨g3, 0, none⟩) (j + 1 + (n - j)) c3')) w3 from ⟨g3, c3', _, by rw [hlen], by rw [hlen]; exact hc9, by rw [HE.out]; exact hss, HB3.out⟩)
            clear hown1 hown2 hown3 hbS1 hbS2 hbS3 hgrow1 hgrow2 hgrow3 hss hlen
            simp only [Exit.then]
            go_wp2
            all_goals
              go_ret
              exact HR.out
    · have hp2 : posG ltS [] s L L.length = 0 := by
        rw [hn, hpos.out, show j = 0 by omega]
        rfl
      have he : insG ltS [] L s = L.take j ++ [s] ++ L.drop j := by
        have h9 := insG_no hp2 (fun h => by omega)
        rw [show j = 0 by omega]
        exact h9
      have HE := Lib.hid he
      have hd : decide ((0 : Int) < (j : Int)) = false := by simp; omega
      have HB2 := Lib.hid hbi
      clear hp2 he
      go_wp2_with fail
      clear hbi hszi hd hpos
      obtain ⟨WW, rfl⟩ : ∃ x, x = wr := ⟨_, rfl⟩
      have hszW := HB2.out.size
      have hSS := (HL.out.on (HB2.out.mono hB)).more (Nat.le_trans hB hszW)
      have HSS := Lib.hid hSS
      have HSV := Lib.hid (show SlAt WW.heap.size WW (.slice a2 s.length c2) s from ⟨a2, c2, rfl, (HS.out.on (HB2.out.mono hB)).more (Nat.le_trans hB hszW), hm⟩)
      have HONE := Lib.hid hSS.one
      have hgW := hSS.1
      have hvl : vs.length = n := by rw [hSS.2.1, hn]
      have HL1 := Lib.hid (show LiesV WW ⟨g, 0, none⟩ (vs.take j) from by have h9 := hSS.lies 0 j; simpa using h9)
      have hl2 : LiesV WW ⟨g, j, none⟩ (vs.drop j) := by have h9 := hSS.lies j (n - j); rw [List.take_of_length_le (by rw [List.length_drop, hvl]; exact Nat.le_refl _)] at h9; exact h9
      obtain ⟨bo, haj, hl3⟩ : ∃ bo : Nat, (if cap = j then some (⟨g, 0, none⟩ : Addr) else some ⟨g, j, none⟩) = some ⟨g, bo, none⟩ ∧ LiesV WW ⟨g, bo, none⟩ (vs.drop j) := by
        by_cases hcj : cap = j
        · refine ⟨0, if_pos hcj, ?_⟩
          rw [List.drop_of_length_le (by rw [hvl]; omega)]
          intro q u9 hq
          simp at hq
        · exact ⟨j, if_neg hcj, hl2⟩
      have HAJ := Lib.hid haj
      have HL2 := Lib.hid hl3
      have HVL := Lib.hid hvl
      have hjm : (j : Int) ≤ (n : Int) := by omega
      have hj00 : (0 : Int) ≤ (j : Int) := by omega
      have hjc : (j : Int) ≤ (cap : Int) := by omega
      have hmc : (n : Int) ≤ (cap : Int) := by omega
      clear haj hl2 hl3 hSS hvl
      go_region_held3 (fun w' => Held WW w')
        (first | (unfold Held; repeat' (first | exact Below.refl _ _ | exact hbS3 | exact hbS2 | exact hbS1 | refine Below.drew ?_ | refine Below.alloc ?_ ?_ _ | exact Nat.le_refl _ | exact hbS3.size | exact hbS2.size | exact hbS1.size | (simp; omega) | (simp; done))))
        (first | (refine step_shps rfl _ _ rfl WW.heap.size _ 0 0 [] ⟨g, 0, none⟩ j cap (vs.take j) rfl rfl ?a1 (by rw [List.length_take, HVL.out]; omega) ?a3 (fun u hu => HONE.out u (List.mem_of_mem_take hu)) (by omega) ?a5 _ rfl ?_; (case a1 => (first | exact own_lit_s (w := WW) rfl (Nat.le_refl _) | exact (own_lit_s (w := WW) rfl (Nat.le_refl _)).alloc _ | exact own_lit_s (w := WW.alloc _) (by simp) (by simp))); (case a3 => (refine LiesV.on HL1.out ?_ hgW; (repeat' (first | exact Below.refl _ _ | exact hbS2 | exact hbS1 | refine Below.drew ?_ | refine Below.alloc ?_ ?_ _ | exact Nat.le_refl _ | exact hbS2.size | exact hbS1.size | (have h9 := hbS1.size; simp; omega) | (simp; omega) | (simp; done))))); (case a5 => (first | (simp; done) | (simp; omega))); intro g1 c1 w1 hown1 hgrow1 hat1 hgb1 hlt1; (simp only [Nat.zero_add, List.nil_append] at hown1); have hbS1 : Below WW.heap.size WW w1 := by (refine Below.grown (w := _) ?_ hgrow1 ?_ (fun k hk => by cases hk; first | exact Nat.le_refl _ | (simp; done) | (simp; omega)) <;> (repeat' (first | exact Below.refl _ _ | exact hbS2 | exact hbS1 | refine Below.drew ?_ | refine Below.alloc ?_ ?_ _ | exact Nat.le_refl _ | exact hbS2.size | exact hbS1.size | (have h9 := hbS1.size; simp; omega) | (simp; omega) | (simp; done))))) | (refine step_shps rfl _ _ rfl WW.heap.size g1 _ c1 (vs.take j) _ 1 1 [.slice a2 s.length c2] rfl rfl ?a1 rfl ?a3 (by simp [Value.oneCell']) ?a4 ?a5 _ rfl ?_; (case a1 => ((try simp only [Nat.zero_add]); first | exact hown1 | exact hown1.alloc _)); (case a4 => omega); (case a3 => (refine liesV_block (t := 27) (fr := (0, 0)) ?_; first | exact heap_alloc_new _ _ | (refine (hgrow1.block _ ?_ ?_).trans ?_ <;> first | (simp; done) | (simp; omega) | exact new_at (w := WW.alloc _) _ (by simp) | exact (Below.heap_alloc (WW.alloc _) _ _ (by simp)).trans (new_at _ rfl)))); (case a5 => (first | exact hbS1.size | (simp; omega) | (simp; have := hbS1.size; omega))); intro g2 c2' w2' hown2 hgrow2 hat2 hgb2 hlt2; (try simp only [Nat.zero_add] at hown2); have hbS2 : Below WW.heap.size WW w2' := by (refine Below.grown (w := _) ?_ hgrow2 ?_ (fun k hk => by cases hk; exact hgb1) <;> (repeat' (first | exact Below.refl _ _ | exact hbS2 | exact hbS1 | refine Below.drew ?_ | refine Below.alloc ?_ ?_ _ | exact Nat.le_refl _ | exact hbS2.size | exact hbS1.size | (have h9 := hbS1.size; simp; omega) | (simp; omega) | (simp; done))))) | (refine step_shps rfl _ _ rfl WW.heap.size g2 _ c2' (vs.take j ++ [.slice a2 s.length c2]) ⟨g, bo, none⟩ (n - j) (cap - j) (vs.drop j) rfl (congrArg (fun z => Value.slice z (n - j) (cap - j)) HAJ.out) ?a1 ?a2 ?a3 (fun u hu => HONE.out u (List.mem_of_mem_drop hu)) ?a4 ?a5 _ rfl ?_; (case a2 => (rw [List.length_drop, HVL.out])); (case a1 => ((try simp only [Nat.zero_add]); exact hown2)); (case a4 => omega); (case a3 => (exact LiesV.on HL2.out hbS2 hgW)); (case a5 => (exact hbS2.size)); intro g3 c3' w3 hown3 hgrow3 hat3 hgb3 hlt3; have hbS3 : Below WW.heap.size WW w3 := Below.grown hbS2 hgrow3 hbS2.size (fun k hk => by cases hk; exact hgb2)))
      all_goals
        (try simp only [Nat.zero_add] at hown3)
        have HB3 := Lib.hid (HB2.out.trans (hbS3.mono hszW))
        have hss := ss_ins HSS.out HSV.out (by rw [hn]; exact hj) (Nat.le_refl _) hbS3 hown3
        have hlen : (insG ltS [] L s).length = j + 1 + (n - j) := by rw [HE.out]; simp [hn]; omega
        have hc9 : j + 1 + (n - j) ≤ c3' := own_cap_s hown3
        have HR := Lib.hid (show GivesSs w (insG ltS [] L s) (.returned (.slice (some ⟨g3, 0, none⟩) (j + 1 + (n - j)) c3')) w3 from ⟨g3, c3', _, by rw [hlen], by rw [hlen]; exact hc9, by rw [HE.out]; exact hss, HB3.out⟩)
        clear hown1 hown2 hown3 hbS1 hbS2 hbS3 hgrow1 hgrow2 hgrow3 hss hlen
        simp only [Exit.then]
        go_wp2
        all_goals
          go_ret
          exact HR.out
end

section
open Go.RowKit

/-- A list of cells comes back, in whose memory is not said. -/
def GivesAt (w : World) (l : List Cl) (e : Ending) (w' : World) : Prop := ∃ a cap, e = .returned (.slice a l.length cap) ∧ CellsAt w'.heap.size w' a l.length l ∧ Below w.heap.size w w'
theorem sortG_turns (l : List Cl) (k : Nat) : sortG ltS [] (turnsC l (k + 1)) = insG ltS [] (sortG ltS [] (turnsC l k)) (turnC k l) := by
  rw [turnsC_succ]
  unfold sortG
  rw [List.foldl_append]
  rfl
theorem insG_len {α : Type} [DecidableEq α] (lt : α → α → Bool) (d : α) (o : List α) (x : α) : (insG lt d o x).length ≤ o.length + 1 := by
  unfold insG
  split
  · omega
  · simp; omega
theorem sortT_len (l : List Cl) : ∀ k, (sortG ltS [] (turnsC l k)).length ≤ k
  | 0 => by simp [turnsC, sortG]
  | k + 1 => by
    rw [sortG_turns]
    have := insG_len ltS [] (sortG ltS [] (turnsC l k)) (turnC k l)
    have := sortT_len l k
    omega
theorem turnC_inC {l : List Cl} (h : ∀ c ∈ l, inP c = true) (m : Nat) : ∀ c ∈ turnC m l, InC c := by
  have hmi := map_apM_in m l h
  have hsi : ∀ c ∈ sortU (l.map (apM m)), inR 7 c := fun c hc => hmi c ((sortU_mem _ c).1 hc)
  have bx := minTo_bdW Prod.fst (sortU (l.map (apM m))) (fun j hj => by have := hsi _ (getD_mem hj); unfold inR at this; omega) _ (Nat.le_refl _)
  have bY := minTo_bdW Prod.snd (sortU (l.map (apM m))) (fun j hj => by have := hsi _ (getD_mem hj); unfold inR at this; omega) _ (Nat.le_refl _)
  intro c hc
  unfold turnC cornerC at hc
  obtain ⟨d, hd, rfl⟩ := List.mem_map.1 hc
  have := hsi d hd
  unfold inR at this
  unfold minX minY InC
  dsimp only
  omega

set_option maxHeartbeats 2000000 in
set_option maxRecDepth 100000 in
theorem sOrient (B n cap : Nat) (a : Option Addr) (l : List Cl) (w : World) (hn : n ≤ 1048576) (hc : CellsAt B w a n l) (hB : B ≤ w.heap.size) :
    Calls Tryz.prog 68 #[.slice a n cap] w (GivesSs w (orientS l)) := by
  have H := Lib.hid hc
  clear hc
  cases h : isShape l with
  | true =>
    have hp := isShape_in h
    have hlen := ((isShape_iff l).1 h).1.2
    have HP := Lib.hid hp
    have HS := Lib.hid h
    have HO : Hid (orientS l = sortG ltS [] (turnsC l 8)) := if_pos h
    rw [HO.out]
    clear h hp
    go_enter Tryz.func68, Tryz.ntmps68
    go_wp2
    go_loopw [3, 4] (fun v i wr => ∃ (k g cc : Nat) (vs : List Value), k ≤ 8 ∧ i = .int .i64 k ∧ v = .slice (some ⟨g, 0, none⟩) (sortG ltS [] (turnsC l k)).length cc ∧ (sortG ltS [] (turnsC l k)).length ≤ cc ∧ Hid (SsAt wr.heap.size wr g vs (sortG ltS [] (turnsC l k))) ∧ Below w.heap.size w wr) (fun _ i _ => 8 - (intOf i).toNat)
    case atStart => exact ⟨0, w.heap.size, 0, [], by omega, rfl, rfl, Nat.le_refl _, ⟨by simp, rfl, fun k hk => by simp [turnsC, sortG] at hk, fun k v l h1 _ => by simp at h1⟩, (Below.refl _ _).alloc (Nat.le_refl _) _⟩
    case round =>
      obtain ⟨k, g, cc, vs, hk, rfl, rfl, hlc, hss, hb⟩ := hrel
      have hsz := hb.size
      by_cases hlt : k < 8
      · have hk1 : (k : Int) < 8 := by omega
        have hle := sortT_len l k
        go_wp2_with fail
        refine (sIsShape B n cap a l wr (by omega) (H.out.on (hb.mono hB)) (Nat.le_trans hB hsz)).mono ?_
        rintro e w1 ⟨rfl, hb1⟩
        rw [HS.out]
        have HB1 := Lib.hid (hb.trans (hb1.mono hsz))
        have HSS1 := Lib.hid ((hss.out.on hb1).more hb1.size)
        have hsz1 := HB1.out.size
        clear hss hb1 hb
        go_wp2_with fail
        refine (sTurn B n cap k a l w1 (by omega) hn (H.out.on (HB1.out.mono hB)) HP.out (Nat.le_trans hB hsz1)).mono ?_
        rintro e w2 ⟨g2, c2, rfl, hown2, hb2⟩
        have htl := turnC_len k l
        have HA2 := Lib.hid (CellsAt.of_own hown2 (turnC_inC HP.out k))
        have HSS2 := Lib.hid ((HSS1.out.on hb2).more hb2.size)
        have HB2 := Lib.hid (HB1.out.trans (hb2.mono hsz1))
        have hll : l.length = n := H.out.1
        have htn : (turnC k l).length ≤ 4194304 := by omega
        clear hown2 hb2 HSS1 hll htl
        go_wp2_with fail
        refine (sPut w2.heap.size g (sortG ltS [] (turnsC l k)).length cc c2 _ vs (sortG ltS [] (turnsC l k)) (turnC k l) w2 rfl (by omega) hlc HSS2.out htn HA2.out (Nat.le_refl _)).mono ?_
        rintro e w3 ⟨g3, c3, vs3, rfl, hc3, hss3, hb3⟩
        rw [← sortG_turns] at hss3 hc3
        have HSS3 := Lib.hid hss3
        have HB3 := Lib.hid (HB2.out.trans (hb3.mono HB2.out.size))
        have HST := Lib.hid (sortG_turns l k)
        clear hss3 hb3
        rw [← HST.out]
        go_wp2
        go_roundw
        case rel => exact ⟨k + 1, g3, c3, vs3, by omega, by go_num, rfl, hc3, HSS3.out, HB3.out⟩
        case measure => simp [intOf]; omega
      · obtain rfl : k = 8 := by omega
        have HR := Lib.hid (show GivesSs w (sortG ltS [] (turnsC l 8)) (.returned (.slice (some ⟨g, 0, none⟩) (sortG ltS [] (turnsC l 8)).length cc)) wr from ⟨g, cc, vs, rfl, hlc, hss.out, hb⟩)
        clear hss hlc
        go_wp2
        go_ret
        exact HR.out
  | false =>
    have HS := Lib.hid h
    have HO : Hid (orientS l = []) := if_neg (by rw [h]; simp)
    rw [HO.out]
    clear h
    go_enter Tryz.func68, Tryz.ntmps68
    go_wp2
    go_loopw [3, 4] (fun v i wr => i = .int .i64 0 ∧ v = .slice (some ⟨w.heap.size, 0, none⟩) 0 0 ∧ wr = w.alloc (.cells #[] 27)) (fun _ _ _ => 0)
    case atStart => exact ⟨rfl, rfl, rfl⟩
    case round =>
      obtain ⟨rfl, rfl, rfl⟩ := hrel
      go_wp2_with fail
      refine (sIsShape B n cap a l _ (by omega) (H.out.on ((Below.refl _ _).alloc hB _)) (by simp; omega)).mono ?_
      rintro e w1 ⟨rfl, hb1⟩
      rw [HS.out]
      have hb0 : Below w.heap.size w (w.alloc (.cells #[] 27)) := (Below.refl _ _).alloc (Nat.le_refl _) _
      have hbW := hb0.trans (hb1.mono (by simp))
      have hz := hb1.size
      have HR := Lib.hid (show GivesSs w [] (.returned (.slice (some ⟨w.heap.size, 0, none⟩) ([] : List (List Cl)).length 0)) w1 from ⟨w.heap.size, 0, [], rfl, Nat.le_refl _, ⟨by simp at hz; omega, rfl, fun k hk => by simp at hk, fun k v l h1 _ => by simp at h1⟩, hbW⟩)
      clear hb1 hbW hb0 hz
      go_wp2
      go_ret
      exact HR.out

set_option maxHeartbeats 1000000 in
set_option maxRecDepth 100000 in
theorem sCanon (B n cap : Nat) (a : Option Addr) (l : List Cl) (w : World) (hn : n ≤ 1048576) (hc : CellsAt B w a n l) (hB : B ≤ w.heap.size) :
    Calls Tryz.prog 76 #[.slice a n cap] w (GivesAt w (canonS l)) := by
  have H := Lib.hid hc
  clear hc
  go_enter Tryz.func76, Tryz.ntmps76
  go_wp2_with fail
  refine (sOrient B n cap a l w hn H.out hB).mono ?_
  rintro e w1 ⟨g, cc, vs, rfl, hcc, hss, hb1⟩
  have HSS := Lib.hid hss
  have HB1 := Lib.hid hb1
  have HCN : Hid (canonS l = (orientS l).getD 0 []) := rfl
  obtain ⟨O, hO⟩ : ∃ O, orientS l = O := ⟨_, rfl⟩
  rw [hO] at HSS HCN hcc ⊢
  clear hss hb1 hO
  by_cases h0 : O.length = 0
  · have hb0 : ((O.length : Int) == 0) = true := by simp [h0]
    have e0 : O = [] := List.eq_nil_of_length_eq_zero h0
    have HR : Hid (GivesAt w (canonS l) (.returned (.slice (some ⟨w1.heap.size, 0, none⟩) 0 0)) (w1.alloc (.cells #[] 40))) := by
      rw [HCN.out, e0]
      exact ⟨_, _, rfl, CellsAt.of_own (World.ownsRow_lit (base := w1.heap.size) (e := 40) (size := 2) w1 #[] 0 (Nat.le_refl _) (by simp [maxLen]) rfl) (by simp), HB1.out.alloc HB1.out.size _⟩
    clear HCN h0 e0
    go_wp2
    go_ret
    exact HR.out
  · have hb0 : ((O.length : Int) == 0) = false := beq_eq_false_iff_ne.2 (by omega)
    obtain ⟨a3, c3, hcell, hc3, hn3⟩ := HSS.out.get (k := 0) (by omega)
    have HR : Hid (GivesAt w (canonS l) (.returned (.slice a3 (O.getD 0 []).length c3)) w1) := by
      rw [HCN.out]
      exact ⟨a3, c3, rfl, hc3, HB1.out⟩
    have hlt : (0 : Int) < (O.length : Int) := by omega
    clear HCN hc3
    go_wp2
    go_ret
    exact HR.out

theorem canonS_of (l : List Cl) : canonS l = [] ∨ ∃ m, canonS l = turnC m l := by
  unfold canonS orientS
  split
  · cases hL : sortG ltS [] (turnsC l 8) with
    | nil => exact .inl rfl
    | cons x L =>
      have hx : x ∈ sortG ltS [] (turnsC l 8) := by rw [hL]; simp
      rw [sortG_mem ordS] at hx
      obtain ⟨m, _, rfl⟩ := List.mem_map.1 hx
      exact .inr ⟨m, rfl⟩
  · exact .inl rfl
theorem canonS_len (l : List Cl) : (canonS l).length ≤ l.length := by
  rcases canonS_of l with e | ⟨m, e⟩
  · rw [e]; simp
  · rw [e]; exact turnC_len m l
theorem ret_Bo {a b : Bool} (h : a = b) : Ending.returned (.bool a) = .returned (.bool b) := by rw [h]

set_option maxHeartbeats 1000000 in
set_option maxRecDepth 100000 in
theorem sCongr (B n m c1 c2 : Nat) (a1 a2 : Option Addr) (l r : List Cl) (w : World) (hn : n ≤ 1048576) (hm : m ≤ 1048576) (h1 : CellsAt B w a1 n l) (h2 : CellsAt B w a2 m r) (hB : B ≤ w.heap.size) :
    Calls Tryz.prog 19 #[.slice a1 n c1, .slice a2 m c2] w fun e w' => e = .returned (.bool (congS l r)) ∧ Below w.heap.size w w' := by
  have H1 := Lib.hid h1
  have H2 := Lib.hid h2
  clear h1 h2
  have HG : Hid (congS l r = (isShape l && isShape r && decide (canonS l = canonS r))) := rfl
  rw [HG.out]
  clear HG
  go_enter Tryz.func19, Tryz.ntmps19
  go_wp2_with fail
  refine (sIsShape B n c1 a1 l w (by omega) H1.out hB).mono ?_
  rintro e w1 ⟨rfl, hb1⟩
  have hz1 := hb1.size
  cases h : isShape l with
  | false =>
    have e9 : (isShape l && isShape r && decide (canonS l = canonS r)) = false := by rw [h]; rfl
    have E9 := Lib.hid e9.symm
    clear e9 h
    go_wp2
    go_ret
    exact ⟨ret_Bo E9.out, hb1⟩
  | true =>
    go_wp2_with fail
    refine (sIsShape B m c2 a2 r w1 (by omega) (H2.out.on (hb1.mono hB)) (Nat.le_trans hB hz1)).mono ?_
    rintro e w2 ⟨rfl, hb2⟩
    have HB2 := Lib.hid (hb1.trans (hb2.mono hz1))
    cases h2 : isShape r with
    | false =>
      have e9 : (isShape l && isShape r && decide (canonS l = canonS r)) = false := by rw [h, h2]; rfl
      have E9 := Lib.hid e9.symm
      clear e9 h h2
      go_wp2
      go_ret
      exact ⟨ret_Bo E9.out, HB2.out⟩
    | true =>
      have E9 := Lib.hid (show eqb (canonS l) (canonS r) = (isShape l && isShape r && decide (canonS l = canonS r)) from by rw [h, h2]; rfl)
      have l1 : (canonS l).length ≤ 4194304 := by have := canonS_len l; have := H1.out.1; omega
      have l2 : (canonS r).length ≤ 4194304 := by have := canonS_len r; have := H2.out.1; omega
      clear h h2
      go_wp2_with fail
      refine (sCanon B n c1 a1 l w2 hn (H1.out.on (HB2.out.mono hB)) (Nat.le_trans hB HB2.out.size)).mono ?_
      rintro e w3 ⟨ca, cc, rfl, hca, hb3⟩
      have HB3 := Lib.hid (HB2.out.trans (hb3.mono HB2.out.size))
      have HCA := Lib.hid hca
      clear hca hb3
      go_wp2_with fail
      refine (sCanon B m c2 a2 r w3 hm (H2.out.on (HB3.out.mono hB)) (Nat.le_trans hB HB3.out.size)).mono ?_
      rintro e w4 ⟨da, dc, rfl, hda, hb4⟩
      have HB4 := Lib.hid (HB3.out.trans (hb4.mono HB3.out.size))
      have HCA4 := Lib.hid ((HCA.out.on hb4).more hb4.size)
      have HDA := Lib.hid hda
      clear hda hb4 HCA
      go_wp2_with fail
      refine (sEqual_any w4.heap.size (canonS l).length (canonS r).length cc dc ca da (canonS l) (canonS r) w4 l1 l2 HCA4.out HDA.out (Nat.le_refl _)).mono ?_
      rintro e w5 ⟨rfl, hb5⟩
      go_wp2
      go_ret
      exact ⟨ret_Bo E9.out, HB4.out.trans (hb5.mono HB4.out.size)⟩
end

section
open Go.RowKit

theorem own_lit0m (w : World) (B : Nat) (h : B ≤ w.heap.size) : (w.alloc (.cells #[] 40)).ownsRow B 40 2 (.slice (some ⟨w.heap.size, 0, none⟩) 0 0) 0 (cvs []) := by
  simpa [cvs] using World.ownsRow_lit (base := B) (e := 40) (size := 2) w #[] 0 h (by simp [maxLen]) rfl
/-- Numbers of the call's own. -/
def GivesV (w : World) (L : List Int) (e : Ending) (w' : World) : Prop := ∃ v, e = .returned v ∧ w'.ownsRow w.heap.size 3 1 v L.length (iv L) ∧ Below w.heap.size w w'
theorem st_bd {N H K : Nat} (hN : N ≤ 6) (hH : H ≤ 6) (l : List Int) (os : List (List Cl)) (o : List Cl) {k y x : Nat} (hk : k ≤ K) (hK : K ≤ 8) (hy : y ≤ H) (hx : x ≤ N) : (stX N l o y (stY N l o (stO N H l os k) y) x).length ≤ 1000 ∧ (stY N l o (stO N H l os k) y).length ≤ 1000 ∧ (stO N H l os k).length ≤ 1000 := by
  have h1 := stX_len N l o y (stY N l o (stO N H l os k) y) x
  have h2 := stY_len N l o (stO N H l os k) y
  have h3 := stO_len N H l os k
  have h4 : N * y ≤ 6 * 6 := Nat.mul_le_mul hN (by omega)
  have h5 : N * H ≤ 6 * 6 := Nat.mul_le_mul hN hH
  have h6 : N * H * k ≤ 36 * 8 := Nat.mul_le_mul h5 (by omega)
  omega
theorem moveC_snoc (p q : Int) (l : List Cl) (j : Nat) (h : j < l.length) : moveC p q (l.take (j + 1)) = moveC p q (l.take j) ++ [((l.getD j (0, 0)).1 + p, (l.getD j (0, 0)).2 + q)] := by
  unfold moveC
  rw [List.take_succ_eq_append_getElem h, List.map_append]
  simp [List.getD, h]

set_option maxHeartbeats 8000000 in
set_option maxRecDepth 100000 in
theorem sPl (B n cap m2 cap2 : Nat) (a a2 : Option Addr) (W : Int) (l : List Int) (cs : List Cl) (w : World) (hn : n ≤ 4194304) (hm : m2 ≤ 1048576) (hc : IntsAt B w a n l) (hd : CellsAt B w a2 m2 cs) (hB : B ≤ w.heap.size) :
    Calls Tryz.prog 13 #[.agg #[.int .i64 W, .slice a n cap], .slice a2 m2 cap2] w (GivesV w (plR W l cs)) := by
  have H := Lib.hid hc
  have HD := Lib.hid hd
  have HLN := Lib.hid hc.1
  clear hc hd
  have hb0 := (Below.refl w.heap.size w).alloc (Nat.le_refl _) (.cells #[.int .i64 W, .slice a n cap] 26)
  have hbox0 := RgAt.new (w := w) W (.slice a n cap) rfl
  have hsz0 : (w.alloc (.cells #[.int .i64 W, .slice a n cap] 26)).heap.size = w.heap.size + 1 := by simp
  have hb1 := hb0.alloc hb0.size (.cells #[] 3)
  have hbox1 := hbox0.alloc (.cells #[] 3)
  have hown1 := own_lit_m (w := w.alloc (.cells #[.int .i64 W, .slice a n cap] 26)) (B := w.heap.size) hsz0 (by omega)
  have hsz1 : ((w.alloc (.cells #[.int .i64 W, .slice a n cap] 26)).alloc (.cells #[] 3)).heap.size = w.heap.size + 2 := by simp
  go_enter Tryz.func13, Tryz.ntmps13
  go_wp2_with fail
  (try rw [hsz0])
  generalize ((w.alloc (.cells #[.int .i64 W, .slice a n cap] 26)).alloc (.cells #[] 3)) = W1 at *
  clear hsz0 hb0 hbox0
  refine (sOrient B m2 cap2 a2 cs W1 hm (HD.out.on (hb1.mono hB)) (Nat.le_trans hB hb1.size)).mono ?_
  rintro e W2 ⟨gO, cO, vs, rfl, hcO, hss, hb2⟩
  have hsz2 := hb2.size
  have HB2 := Lib.hid (hb1.trans (hb2.mono hb1.size))
  have hbox := hbox1.on hb2 hbox1.lt
  have HOW := Lib.hid (hown1.kept (grow_below hb2 none) (.inr (by intro e; cases e)))
  obtain ⟨os, hos⟩ : ∃ os, orientS cs = os := ⟨_, rfl⟩
  have HOS := Lib.hid hos
  have hK8 : os.length ≤ 8 := by rw [← hos]; exact orient_le cs
  obtain ⟨K, hK⟩ : ∃ K, os.length = K := ⟨_, rfl⟩
  rw [hos] at hss hcO ⊢
  rw [hK] at hcO hK8 ⊢
  have HK := Lib.hid hK
  have HSS := Lib.hid hss
  have hgO := hss.1
  clear hb1 hb2 hbox1 hown1 hos hK hss
  cases h : isReg W l with
  | false =>
    have HI := Lib.hid h
    have HO := Lib.hid (plR_no h cs)
    clear h
    by_cases h0 : 0 < (K : Int)
    · go_wp2
      refine wp_loop_rounds 1 ?_
      rw [rounds_succ]
      have c0 := hbox.c0
      have c1 := hbox.c1
      go_wp2_with fail
      refine (sIsReg B n cap a W l _ hn (H.out.on (HB2.out.mono hB)) (Nat.le_trans hB HB2.out.size)).mono ?_
      rintro e w' ⟨rfl, hb⟩
      rw [HI.out]
      have HB3 := Lib.hid (HB2.out.trans (hb.mono HB2.out.size))
      have HOW3 := Lib.hid (HOW.out.kept (grow_below hb none) (.inr (by intro e; cases e)))
      clear hb
      go_wp2
      go_ret
      exact ⟨_, rfl, by rw [HO.out]; exact HOW3.out, HB3.out⟩
    · go_wp2
      refine wp_loop_rounds 1 ?_
      rw [rounds_succ]
      have c0 := hbox.c0
      have c1 := hbox.c1
      go_wp2
      go_ret
      exact ⟨_, rfl, by rw [HO.out]; exact HOW.out, HB2.out⟩
  | true =>
    obtain ⟨N, rfl, hr⟩ := isReg_out h
    have hln := HLN.out
    rw [hln] at hr
    have HR := Lib.hid hr
    have HI := Lib.hid h
    have HO := Lib.hid (show plR N l cs = stO N n l os K from by rw [plR_yes hr, HOS.out, HK.out])
    have HMC := Lib.hid (fun cs => mcOk_yes hr cs)
    have HMV := Lib.hid (fun cs (h : mcOk (N : Int) l cs = true) => mcV_yes (l := l) (cs := cs) h)
    have hN6 := hr.w6
    have hn6 := hr.h6
    clear h hr hln
    go_wp2
    go_loopw [5, 7] (fun v i wr => ∃ k m g c : Nat, k ≤ K ∧ i = .int .i64 k ∧ v = .slice (some ⟨g, 0, none⟩) m c ∧ Hid (m = (stO N n l os k).length) ∧ Hid (wr.ownsRow w.heap.size 3 1 (.slice (some ⟨g, 0, none⟩) m c) m (iv (stO N n l os k))) ∧ Below W2.heap.size W2 wr) (fun _ i _ => K - (intOf i).toNat)
    case atStart => exact ⟨0, 0, _, 0, by omega, rfl, rfl, rfl, HOW.out, Below.refl _ _⟩
    case round =>
      obtain ⟨k, m, g, c, hk, rfl, rfl, hmm, hown, hb⟩ := hrel
      clear HOW
      have hsz := hb.size
      have hbx := hbox.on hb hbox.lt
      have c0 := hbx.c0
      have c1 := hbx.c1
      have hbw := HB2.out.trans (hb.mono HB2.out.size)
      by_cases hlt : k < K
      · have hk1 : (k : Int) < (K : Int) := by omega
        have hk0 : (0 : Int) ≤ (k : Int) := by omega
        go_wp2_with fail
        refine (sIsReg B n cap a N l wr hn (H.out.on (hbw.mono hB)) (Nat.le_trans hB hbw.size)).mono ?_
        rintro e w3 ⟨rfl, hb3⟩
        rw [HI.out]
        have hb' := hb.trans (hb3.mono hsz)
        have hown3 := Lib.hid (hown.out.kept (grow_below hb3 none) (.inr (by intro e; cases e)))
        have hsz3 := hb'.size
        have HORN := Lib.hid (orient_mem (l := cs) (o := os.getD k []) (by rw [HOS.out]; simp [List.getD, show k < os.length by have := HK.out; omega])).2.1
        obtain ⟨aO, cc, hcellO, hcellsO, _⟩ := HSS.out.get (k := k) (by rw [HK.out]; exact hlt)
        have HSO := Lib.hid (show stO N n l os (k + 1) = stY N l (os.getD k []) (stO N n l os k) n from rfl)
        have HBD := Lib.hid (fun x y (hy : y ≤ n) (hx : x ≤ N) => st_bd hN6 hn6 l os (os.getD k []) hk hK8 hy hx)
        obtain ⟨o, ho⟩ : ∃ o, os.getD k [] = o := ⟨_, rfl⟩
        rw [ho] at HORN hcellO hcellsO HSO HBD
        have ho8 := ((isShape_iff o).1 HORN.out.shape).1.2
        have HIN := Lib.hid (isShape_in HORN.out.shape)
        have HNE := Lib.hid HORN.out.ne
        obtain ⟨out0, hout0⟩ : ∃ r, stO N n l os k = r := ⟨_, rfl⟩
        rw [hout0] at hmm hown3 HSO HBD
        have HC := Lib.hid hcellsO
        have HCO := Lib.hid hcellO
        clear hb hb3 hbx c0 c1 hbw hsz hown ho hcellO hcellsO hout0
        generalize wr = w0 at *
        clear w0
        go_wp2
        go_loopw [5, 8] (fun v i wr => ∃ y m g c : Nat, y ≤ n ∧ i = .int .i64 y ∧ v = .slice (some ⟨g, 0, none⟩) m c ∧ Hid (m = (stY N l o out0 y).length) ∧ Hid (wr.ownsRow w.heap.size 3 1 (.slice (some ⟨g, 0, none⟩) m c) m (iv (stY N l o out0 y))) ∧ Below W2.heap.size W2 wr) (fun _ i _ => n - (intOf i).toNat)
        case atStart => exact ⟨0, m, g, c, by omega, rfl, rfl, hmm, hown3.out, hb'⟩
        case round =>
          clear hown3 hb' hsz3 hmm
          obtain ⟨y, m, g, c, hy, rfl, rfl, hmm, hown, hb⟩ := hrel
          have hsz := hb.size
          have hbx := hbox.on hb hbox.lt
          have c0 := hbx.c0
          have c1 := hbx.c1
          by_cases hyt : y < n
          · have hy1 : (y : Int) < (n : Int) := by omega
            have HSY := Lib.hid (show stY N l o out0 (y + 1) = stX N l o y (stY N l o out0 y) N from rfl)
            have HBY := Lib.hid (fun x (hx : x ≤ N) => HBD.out x y hy hx)
            obtain ⟨out1, hout1⟩ : ∃ r, stY N l o out0 y = r := ⟨_, rfl⟩
            rw [hout1] at hmm hown HSY HBY
            clear hout1 hbx
            go_wp2
            clear c0 c1
            go_loopw [5, 9] (fun v i wr => ∃ x m g c : Nat, x ≤ N ∧ i = .int .i64 x ∧ v = .slice (some ⟨g, 0, none⟩) m c ∧ Hid (m = (stX N l o y out1 x).length) ∧ Hid (wr.ownsRow w.heap.size 3 1 (.slice (some ⟨g, 0, none⟩) m c) m (iv (stX N l o y out1 x))) ∧ Below W2.heap.size W2 wr) (fun _ i _ => N - (intOf i).toNat)
            case atStart => exact ⟨0, m, g, c, by omega, rfl, rfl, hmm, hown.out, hb⟩
            case round =>
              clear hown hb hsz hmm
              obtain ⟨x, m, g, c, hx, rfl, rfl, hmm, hown, hb⟩ := hrel
              have hsz := hb.size
              have hbx := hbox.on hb hbox.lt
              have c0 := hbx.c0
              by_cases hxt : x < N
              · have hx1 : (x : Int) < (N : Int) := by omega
                have hm1 : m ≤ 1000 := by rw [hmm.out]; exact (HBY.out x hx).1
                have HYES := Lib.hid (fun h => stX_yes (W := N) (l := l) (o := o) (y := y) (out := out1) (x := x) h)
                have HNO := Lib.hid (fun h => stX_no (W := N) (l := l) (o := o) (y := y) (out := out1) (x := x) h)
                have HMM := Lib.hid hmm.out
                obtain ⟨out2, hout2⟩ : ∃ r, stX N l o y out1 x = r := ⟨_, rfl⟩
                rw [hout2] at HMM hown HYES HNO
                clear hbx hout2 hmm
                go_wp2
                clear c0
                generalize wr = w5 at *
                obtain ⟨mb, hmb⟩ : ∃ b, w5.heap.size = b := ⟨_, rfl⟩
                have hlit := own_lit0m w5 mb (by omega)
                have hbl := (Below.refl w5.heap.size w5).alloc (Nat.le_refl _) (.cells #[] 40)
                have hsl : (w5.alloc (.cells #[] 40)).heap.size = mb + 1 := by simp [hmb]
                rw [hmb] at hlit hsz
                (try rw [hmb])
                generalize (w5.alloc (.cells #[] 40)) = w6 at *
                have HLT := Lib.hid hlit
                have HBL := Lib.hid hbl
                clear hlit hbl
                go_loopw [10, 11] (fun v i wr => ∃ j g c : Nat, j ≤ o.length ∧ i = .int .i64 j ∧ v = .slice (some ⟨g, 0, none⟩) j c ∧ Hid (wr.ownsRow mb 40 2 (.slice (some ⟨g, 0, none⟩) j c) j (cvs (moveC x y (o.take j)))) ∧ Below mb w5 wr ∧ mb < wr.heap.size) (fun _ i _ => o.length - (intOf i).toNat)
                case atStart => exact ⟨0, mb, 0, by omega, rfl, rfl, HLT.out, by rw [← hmb]; exact HBL.out, by omega⟩
                case round =>
                  obtain ⟨j, gm, cm, hj, rfl, rfl, hmov, hb6, hmbl⟩ := hrel
                  clear HLT HBL hsl
                  have hsz6 := hb6.size
                  have hb7 := hb.trans (hb6.mono (by omega))
                  have hq0 := (hb7.cell (p := ⟨gO, k, none⟩) hgO).trans HCO.out
                  by_cases hjt : j < o.length
                  · obtain ⟨b1, o1, rfl, hb1', hc1⟩ := HC.out.2.2 (by omega)
                    obtain ⟨p, q, hpq⟩ : ∃ p q, o.getD j (0, 0) = (p, q) := ⟨_, _, rfl⟩
                    have p1 := (hb7.cell (p := ⟨b1, o1 + j * 2, none⟩) hb1').trans (hc1 j hjt).1
                    have p2 := (hb7.cell (p := ⟨b1, o1 + j * 2 + 1, none⟩) hb1').trans (hc1 j hjt).2
                    rw [hpq] at p1 p2
                    have hpx := inP_out (HIN.out _ (getD_mem (l := o) (j := j) hjt))
                    rw [hpq] at hpx
                    dsimp only at hpx
                    have HST := Lib.hid (moveC_snoc x y o j hjt)
                    rw [hpq] at HST
                    have hj1 : (j : Int) < (o.length : Int) := by omega
                    have hj0 : (0 : Int) ≤ (j : Int) := by omega
                    have hgl := hmov.out.lt gm rfl
                    have hbl1 : b1 < wr.heap.size := by omega
                    have hgO1 : gO < wr.heap.size := by omega
                    have hx1' : IntKind.i64.wrap (p + x) = p + x := IntWalk.i64_in _ (by omega)
                    have hy1' : IntKind.i64.wrap (q + y) = q + y := IntWalk.i64_in _ (by omega)
                    have hne : gm ≠ b1 := by omega
                    have hne2 : gm ≠ gO := by omega
                    have HMV9 := Lib.hid hmov.out
                    clear hpq hc1 hmov
                    go_wp2_with fail
                    go_region_held3 (fun w' => w'.cell? ⟨b1, o1 + j * 2, none⟩ = some (.int .i64 p) ∧ w'.cell? ⟨b1, o1 + j * 2 + 1, none⟩ = some (.int .i64 q) ∧ w'.cell? ⟨gO, k, none⟩ = some (.slice (some ⟨b1, o1, none⟩) o.length cc))
                      (first | exact ⟨p1, p2, hq0⟩ | go_keep | exact ⟨(hgrow.cell_far ⟨b1, o1 + j * 2, none⟩ (by simp; omega) (by simp; omega)).trans ((World.cell?_alloc_lt _ _ _ hbl1).trans p1), (hgrow.cell_far ⟨b1, o1 + j * 2 + 1, none⟩ (by simp; omega) (by simp; omega)).trans ((World.cell?_alloc_lt _ _ _ hbl1).trans p2), (hgrow.cell_far ⟨gO, k, none⟩ (by simp; omega) (by simp; omega)).trans ((World.cell?_alloc_lt _ _ _ hgO1).trans hq0)⟩)
                      (first | (refine step_cells rfl _ _ rfl mb gm j cm (moveC x y (o.take j)) ⟨wr.heap.size, 0, none⟩ 1 1 [(p + x, q + y)] rfl rfl ((HMV9.out.drew).alloc _) rfl (lies_block (t := 40) (fr := (0, 0)) (heap_alloc_new _ _)) (by omega) (by simp; omega) (wr.heap.size + 1) (by simp) ?_; intro g' cc' w7 hown1 hgrow hat hgb hlt1))
                    go_wp2
                    clear hx1' hy1'
                    go_roundw
                    case rel => exact ⟨j + 1, g', cc', by omega, by go_num, rfl, by rw [HST.out]; exact hown1, (hb6.drew.alloc (by show mb ≤ wr.heap.size; omega) _).grown hgrow (by simp; omega) (fun i hi => by cases hi; exact hgl.1), by have := hgrow.size; simp at this; omega⟩
                    case measure => simp [intOf]; omega
                  · obtain rfl : j = o.length := by omega
                    have e9 : o.take o.length = o := List.take_length
                    rw [e9] at hmov
                    have HMINC := Lib.hid (show ∀ c ∈ moveC (x : Int) (y : Int) o, InC c from by
                      intro c hc
                      unfold moveC at hc
                      obtain ⟨d, hd, rfl⟩ := List.mem_map.1 hc
                      have := inP_out (HIN.out d hd)
                      unfold InC
                      dsimp only
                      omega)
                    have hlm : (moveC (x : Int) (y : Int) o).length = o.length := by unfold moveC; rw [List.length_map]
                    have HCM := Lib.hid (CellsAt.of_own hmov.out HMINC.out)
                    have HMO := Lib.hid (HMC.out (moveC x y o))
                    have HMW := Lib.hid (HMV.out (moveC x y o))
                    have hbx7 := hbox.on hb7 hbox.lt
                    have c0 := hbx7.c0
                    have c1 := hbx7.c1
                    have hsz7 := hb7.size
                    have hbw7 := HB2.out.trans (hb7.mono HB2.out.size)
                    have HB6 := Lib.hid hb6
                    have HB7 := Lib.hid hb7
                    clear hmov e9 hb6 hb7
                    go_wp2_with fail
                    refine (sMaskC wr.heap.size n cap o.length cm a _ N l (moveC x y o) wr hn (by omega) ((H.out.on (hbw7.mono hB)).more (Nat.le_trans hB hbw7.size)) HCM.out (Nat.le_refl _)).mono ?_
                    rintro e w8 ⟨rfl, hb8⟩
                    have hown8 := hown.out.kept (grow_below (show Below w5.heap.size w5 wr from by rw [hmb]; exact HB6.out) none) (.inr (by intro e; cases e))
                    have hown9 := hown8.kept (grow_below hb8 none) (.inr (by intro e; cases e))
                    have HB9 := Lib.hid (HB7.out.trans (hb8.mono hsz7))
                    have hw8 := HB2.out.trans (HB9.out.mono HB2.out.size)
                    have hws8 := hw8.size
                    clear hb8 hown8 hbw7 hbx7 c0 c1 hq0
                    cases hok : mcOk N l (moveC x y o) with
                    | true =>
                      have hoc := HMO.out.symm.trans hok
                      have HX := Lib.hid (HYES.out hoc)
                      have hv := HMW.out hok
                      rw [hv]
                      generalize orB N (moveC x y o) = om at *
                      clear hok hoc hv
                      go_wp2_with fail
                      refine (sPutI w.heap.size g m c out2 om w8 (by omega) hown9 (by omega)).mono ?_
                      rintro e w10 ⟨g2, c2, rfl, hown10, hb10⟩
                      have HO10 := Lib.hid hown10
                      have HB10 := Lib.hid (HB9.out.trans (hb10.mono HB9.out.size))
                      rw [← HX.out] at HO10
                      have hlx : (putM out2 (om : Int)).length = (stX N l o y out1 (x + 1)).length := by rw [HX.out]
                      rw [hlx]
                      clear hown10 hb10 hown9 hlx
                      go_wp2
                      go_roundw
                      case rel => exact ⟨x + 1, _, g2, c2, by omega, by go_num, rfl, rfl, HO10.out, HB10.out⟩
                      case measure => simp [intOf]; omega
                    | false =>
                      have hoc := HMO.out.symm.trans hok
                      have HX := Lib.hid (HNO.out hoc)
                      have HM9 := Lib.hid (show m = (stX N l o y out1 (x + 1)).length from by rw [HX.out, ← HMM.out])
                      have HO9 := Lib.hid (show w8.ownsRow w.heap.size 3 1 (.slice (some ⟨g, 0, none⟩) m c) m (iv (stX N l o y out1 (x + 1))) from by rw [HX.out]; exact hown9)
                      clear hok hoc hown9
                      go_wp2
                      go_roundw
                      case rel => exact ⟨x + 1, m, g, c, by omega, by go_num, rfl, HM9.out, HO9.out, HB9.out⟩
                      case measure => simp [intOf]; omega
              · obtain rfl : x = N := by omega
                have HM9 := Lib.hid (show m = (stY x l o out0 (y + 1)).length from by rw [HSY.out]; exact hmm.out)
                have HO9 := Lib.hid (show wr.ownsRow w.heap.size 3 1 (.slice (some ⟨g, 0, none⟩) m c) m (iv (stY x l o out0 (y + 1))) from by rw [HSY.out]; exact hown.out)
                clear hmm hown hbx
                go_wp2
                go_roundw
                case rel => exact ⟨y + 1, m, g, c, by omega, by go_num, rfl, HM9.out, HO9.out, hb⟩
                case measure => simp [intOf]; omega
          · obtain rfl : y = n := by omega
            have HM9 := Lib.hid (show m = (stO N y l os (k + 1)).length from by rw [HSO.out]; exact hmm.out)
            have HO9 := Lib.hid (show wr.ownsRow w.heap.size 3 1 (.slice (some ⟨g, 0, none⟩) m c) m (iv (stO N y l os (k + 1))) from by rw [HSO.out]; exact hown.out)
            clear hmm hown hbx
            go_wp2
            go_roundw
            case rel => exact ⟨k + 1, m, g, c, by omega, by go_num, rfl, HM9.out, HO9.out, hb⟩
            case measure => simp [intOf]; omega
      · obtain rfl : k = K := by omega
        have HO9 := Lib.hid (show wr.ownsRow w.heap.size 3 1 (.slice (some ⟨g, 0, none⟩) m c) (plR N l cs).length (iv (plR N l cs)) from by rw [HO.out, ← hmm.out]; exact hown.out)
        have HBW := Lib.hid hbw
        clear hbw hb hbx hown hmm
        go_wp2
        go_ret
        exact ⟨_, rfl, HO9.out, HBW.out⟩
end

end Go.Proofs.YtailmmamgnebhaaGreatDoor
