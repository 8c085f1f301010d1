/-
  Shapes turned, in the program: what the call gives.
  Cells moved to the corner and put in order, in the program: what the call gives.
  Shapes turned, in the program: the cells carried, moved to the corner, put in order.
-/
import Derived.Test.YtkjlmgkjcmebbaaGreatDoorVav
import Derived.Test.YtkjlmgkjcmebbaaGreatDoorVad
import Derived.Test.YtkjlmgkjcmebbaaGreatDoorVaw
import Derived.Test.YtkjlmgkjcmebbaaGreatDoorMo2
namespace Go.Proofs.YtkjlmgkjcmebbaaGreatDoor

section
open Go.RowKit

def twoBox (w : World) (x y : Int) : World := (w.alloc (.cells #[.int .i64 x, .int .i64 y] 86)).alloc (.cells #[.int .i64 0, .int .i64 0] 86)

set_option maxHeartbeats 1000000 in
set_option maxRecDepth 100000 in
theorem iCarry (x y : Int) (m : Nat) (w : World) (hm : m ≤ 7) (hx : inR 1000 (x, y)) :
    Calls Tryz.prog 162 #[.int .i64 m, .agg #[.int .i64 x, .int .i64 y]] w fun e w' => e = .returned (.agg #[.int .i64 (apM m (x, y)).1, .int .i64 (apM m (x, y)).2]) ∧ (∃ q os', w' = Go.Sort.grow (w.drewN q) os') ∧ Below w.heap.size w w' := by
  have HF := Lib.hid (flipC_in m hx)
  have hx' := hx
  unfold inR at hx'
  dsimp only at hx'
  obtain ⟨X0, Y0, hfl⟩ : ∃ X0 Y0, flipC m (x, y) = (X0, Y0) := ⟨_, _, rfl⟩
  have HM : Hid (apM m (x, y) = rotN (m % 4) (X0, Y0)) := by unfold apM; rw [hfl]; exact rfl
  rw [hfl] at HF
  rw [HM.out]
  have hfl2 := hfl
  unfold flipC at hfl2
  clear hfl
  by_cases h4 : 4 ≤ m
  focus
    have d4 : decide (4 ≤ (m : Int)) = true := decide_eq_true (by omega)
    rw [if_pos h4] at hfl2
    injection hfl2 with e1 e2
    subst e1 e2
    go_enter Tryz.func162, Tryz.ntmps162
    go_wp2_with fail
    refine (iReflects (m : Int) _).mono ?_
    rintro e w' ⟨rfl, rfl⟩
    rw [d4]
    go_wp2_with fail
    refine (iTurns m _ hm).mono ?_
    rintro e w' ⟨rfl, rfl⟩
    go_wp2
    go_loopw [13] (fun i wr => ∃ (k : Nat) (X Y : Int), k ≤ m % 4 ∧ i = .int .i64 k ∧ (X, Y) = rotN k (-x, y) ∧ wr = twoBox w X Y) (fun i _ => 4 - (intOf i).toNat)
  rotate_left 2
  focus
    have d4 : decide (4 ≤ (m : Int)) = false := decide_eq_false (by omega)
    rw [if_neg h4] at hfl2
    injection hfl2 with e1 e2
    subst e1 e2
    go_enter Tryz.func162, Tryz.ntmps162
    go_wp2_with fail
    refine (iReflects (m : Int) _).mono ?_
    rintro e w' ⟨rfl, rfl⟩
    rw [d4]
    go_wp2_with fail
    refine (iTurns m _ hm).mono ?_
    rintro e w' ⟨rfl, rfl⟩
    go_wp2
    go_loopw [13] (fun i wr => ∃ (k : Nat) (X Y : Int), k ≤ m % 4 ∧ i = .int .i64 k ∧ (X, Y) = rotN k (x, y) ∧ wr = twoBox w X Y) (fun i _ => 4 - (intOf i).toNat)
  case atStart => exact ⟨0, x, y, by omega, rfl, rfl, rfl⟩
  case atStart => exact ⟨0, -x, y, by omega, rfl, rfl, rfl⟩
  all_goals
    obtain ⟨k, X, Y, hk, rfl, hXY, rfl⟩ := hrel
    unfold twoBox
    have hb := rotN_in k HF.out
    rw [← hXY] at hb
    unfold inR at hb
    dsimp only at hb
    by_cases hlt : k < m % 4
  all_goals first | (
    have hi : (k : Int) < ((m % 4 : Nat) : Int) := by omega
    have hnext := congrArg rotC hXY
    simp only [rotC] at hnext
    go_wp2
    go_roundw
    case rel => exact ⟨k + 1, -Y, X, by omega, by go_num, hnext, rfl⟩
    case measure => simp [intOf]; omega) | (
    obtain rfl : k = m % 4 := by omega
    go_wp2
    (try simp only [Exit.inBlock, Exit.then])
    refine bodyPost_ret (v := .agg #[.int .i64 X, .int .i64 Y]) (by simp [results, Tryz.results162, go_sem]) rfl ?_
    exact ⟨by rw [← hXY], ⟨0, _, by rw [Go.Sort.alloc_eq_grow, Go.Sort.alloc_eq_grow, Go.Sort.grow_grow]; rfl⟩, ((Below.refl _ _).alloc (Nat.le_refl _) _).alloc (by simp) _⟩)

theorem iSortO (base g n cap : Nat) (l : List Cl) (w : World) (hn : n ≤ 1048576) (hi : ∀ c ∈ l, InC c) (hown : w.ownsRow base 86 2 (.slice (some ⟨g, 0, none⟩) n cap) n (cvs l)) :
    Calls Tryz.prog 203 #[.slice (some ⟨g, 0, none⟩) n cap] w fun e w' => ∃ v, e = .returned v ∧ Own w (sortU l) v w' := by
  have C := CellsAt.of_own hown hi
  refine iSort n n cap g 0 l w hn (hown.lt g rfl).2 C.1 fun k hk => ?_
  obtain ⟨b, off, e, _, hcell⟩ := C.2.2 (by omega)
  injection e with e1
  injection e1 with e2 e3 _
  subst e2 e3
  exact hcell k hk
end

section
open Go.RowKit

set_option maxHeartbeats 2000000 in
set_option maxRecDepth 100000 in
theorem iSortedIn (B n cap : Nat) (a : Option Addr) (L : List Cl) (w : World) (h1 : 0 < n) (hn : n ≤ 1048576) (hc : CellsAt B w a n L) (hp : ∀ c ∈ L, inW c) (hB : B ≤ w.heap.size) :
    Calls Tryz.prog 186 #[.slice a n cap] w fun e w' => ∃ v, e = .returned v ∧ Own w (sortU (cornerC L)) v w' := by
  obtain ⟨i0, hi, hz0, hz1, hz2⟩ := info_parts info_cell
  have HC := Lib.hid hc
  have HMI := Lib.hid hp
  have hll := hc.1
  have hlx : lstX L = minX L := lst_min _ _ (by omega)
  have hly : lstY L = minY L := lst_min _ _ (by omega)
  have hdef : cornerC L = L.map fun c => (c.1 - minX L, c.2 - minY L) := rfl
  have bx := minTo_bdW Prod.fst L (fun j hj => by have := hp _ (getD_mem hj); unfold inW at this; omega) _ (Nat.le_refl _)
  have bY := minTo_bdW Prod.snd L (fun j hj => by have := hp _ (getD_mem hj); unfold inW at this; omega) _ (Nat.le_refl _)
  change _ ≤ minX L ∧ minX L ≤ _ at bx
  change _ ≤ minY L ∧ minY L ≤ _ at bY
  obtain ⟨f, hf⟩ : ∃ f : Cl → Cl, f = fun c => (c.1 - minX L, c.2 - minY L) := ⟨_, rfl⟩
  rw [← hf] at hdef
  have HDEF := Lib.hid hdef
  have hfx : ∀ x y, f (x, y) = (x - minX L, y - minY L) := fun x y => by rw [hf]
  have HLXY := Lib.hid (show _ ∧ _ from ⟨hlx, hly⟩)
  clear hf hdef hc hp hlx hly
  generalize minX L = a1 at bx hfx HLXY
  generalize minY L = a2 at bY hfx HLXY
  have HFX := Lib.hid hfx
  clear hfx
  go_enter Tryz.func186, Tryz.ntmps186
  go_wp2_with fail
  refine (iBounds B n cap a L w (by omega) h1 HC.out hB).mono ?_
  rintro e w2 ⟨rfl, hb2⟩
  rw [HLXY.out.1, HLXY.out.2]
  generalize grtX L = a3
  generalize grtY L = a4
  have hsz2 := hb2.size
  have HB2 := Lib.hid ((hb2.alloc hsz2 (.cells #[.int .i64 a1, .int .i64 a2] 86)).alloc (by simp; omega) (.cells #[.int .i64 a3, .int .i64 a4] 86))
  have HT2 := Lib.hid ((Two.new (w := w2) a1 a2 rfl).alloc (.cells #[.int .i64 a3, .int .i64 a4] 86))
  obtain ⟨W, hW⟩ : ∃ W, (w2.alloc (.cells #[.int .i64 a1, .int .i64 a2] 86)).alloc (.cells #[.int .i64 a3, .int .i64 a4] 86) = W := ⟨_, rfl⟩
  rw [hW] at HB2 HT2
  obtain ⟨lb, hlb⟩ : ∃ lb, w2.heap.size = lb := ⟨_, rfl⟩
  rw [hlb] at HT2
  clear hb2
  have hbW := HB2.out.size
  go_wp2_with (first | (at_make; refine wpList_make_full _ rfl _ _ 95 rfl W.heap.size 86 i0 (.agg #[.int .i64 0, .int .i64 0]) 2 Tryz.underlying95 hi hz0 hz1 _ _ _ _ n rfl rfl rfl rfl ?b2 ?b3 (Nat.le_refl _) ?_) | go_in)
  case b2 => rw [hz2]; omega
  case b3 => unfold maxLen; omega
  intro w0 hown0 hgrow0
  have hlbW := HT2.out.lt
  have HB0 := Lib.hid (HB2.out.grown hgrow0 hbW (fun k h => by cases h))
  have HT0 := Lib.hid (HT2.out.on (show Below W.heap.size W w0 from (Below.refl _ _).grown hgrow0 (Nat.le_refl _) (fun k h => by cases h)) hlbW)
  obtain ⟨G, hG⟩ : ∃ G, W.heap.size = G := ⟨_, rfl⟩
  rw [made_cells n, hG] at hown0
  have HO0 := Lib.hid hown0
  rw [hG] at hlbW hbW
  clear hown0 hgrow0 HB2 HT2
  go_wp2
  (try rw [hG])
  clear hW hlb hG
  go_loopw [18] (fun i wr => ∃ j : Nat, j ≤ n ∧ i = .int .i64 j ∧ Hid (wr.ownsRow G 86 2 (.slice (some ⟨G, 0, none⟩) n n) n (cvs ((L.take j).map f ++ List.replicate (n - j) (0, 0)))) ∧ Hid (Two wr lb a1 a2) ∧ Below w.heap.size w wr) (fun i _ => n - (intOf i).toNat)
  case atStart => exact ⟨0, by omega, rfl, by simpa [Hid] using HO0.out, HT0.out, HB0.out⟩
  case round =>
    obtain ⟨j, hj, rfl, hown, htw, hb⟩ := hrel
    have hsz3 := hb.size
    clear HO0 HT0 HB0
    by_cases hlt : j < n
    · obtain ⟨b1, o1, rfl, hb1', hc1⟩ := HC.out.2.2 (by omega)
      have hLl : j < L.length := by omega
      have hlen : j < ((L.take j).map f ++ List.replicate (n - j) ((0 : Int), (0 : Int))).length := by simp; omega
      obtain ⟨x, y, hxy⟩ : ∃ x y, L.getD j (0, 0) = (x, y) := ⟨_, _, rfl⟩
      have hin := HMI.out _ (getD_mem hLl)
      rw [hxy] at hin
      unfold inW at hin
      dsimp only at hin
      have p1 := (hb.cell (p := ⟨b1, o1 + j * 2, none⟩) (Nat.lt_of_lt_of_le hb1' hB)).trans (hc1 j hlt).1
      have p2 := (hb.cell (p := ⟨b1, o1 + j * 2 + 1, none⟩) (Nat.lt_of_lt_of_le hb1' hB)).trans (hc1 j hlt).2
      rw [hxy] at p1 p2
      have hfill := fill_map f L j n hlt hll
      rw [hxy, HFX.out] at hfill
      have HFI := Lib.hid hfill
      have hg := cvs_get _ j hlen
      have c0 := hown.out.cellAt (j * 2) (by omega)
      have c1 := hown.out.cellAt (j * 2 + 1) (by omega)
      rw [hg.1] at c0
      rw [hg.2] at c1
      have f0 := hown.out.frozenAt (j * 2)
      have f1 := hown.out.frozenAt (j * 2 + 1)
      have hs1 := hown.out.stored (j * 2) (.int .i64 (x - a1))
      have hs2 := hs1.1.stored (j * 2 + 1) (.int .i64 (y - a2))
      have hO := hs2.1
      have hset := cvs_set _ j (x - a1, y - a2) hlen
      dsimp only at hset
      rw [hset, HFI.out] at hO
      have hgl2 := (hown.out.lt G rfl).2
      have t0 := htw.out.c0
      have t1 := htw.out.c1
      have hlbl := htw.out.lt
      have hnlb : G ≠ lb := by omega
      have HBB := Lib.hid (((hb.setCell (p := ⟨G, j * 2, none⟩) (by show w.heap.size ≤ G; omega) (.int .i64 (x - a1))).setCell (p := ⟨G, j * 2 + 1, none⟩) (by show w.heap.size ≤ G; omega) (.int .i64 (y - a2))).alloc (by simp [World.setCell]; omega) (.cells #[.int .i64 x, .int .i64 y] 86))
      have HOO := Lib.hid (hO.alloc (.cells #[.int .i64 x, .int .i64 y] 86))
      have HTT := Lib.hid (((htw.out.far (j := j * 2) (v := .int .i64 (x - a1)) hnlb).far (j := j * 2 + 1) (v := .int .i64 (y - a2)) hnlb).alloc (.cells #[.int .i64 x, .int .i64 y] 86))
      have hx1 : IntKind.i64.wrap (x - a1) = x - a1 := IntWalk.i64_in _ (by omega)
      have hy1 : IntKind.i64.wrap (y - a2) = y - a2 := IntWalk.i64_in _ (by omega)
      have hk0 : (0 : Int) ≤ (j : Int) := by omega
      have hk1 : (j : Int) < (n : Int) := by omega
      have hne : G ≠ wr.heap.size := by omega
      have hne2 : lb ≠ wr.heap.size := by omega
      clear hxy hfill hg hs1 hs2 hO hset hown htw hb hlen hc1
      go_wp2
      go_roundw
      case rel => exact ⟨j + 1, by omega, by go_num, HOO.out, HTT.out, HBB.out⟩
      case measure => simp [intOf]; omega
    · obtain rfl : j = n := by omega
      have e : (L.take j).map f ++ List.replicate (j - j) ((0 : Int), (0 : Int)) = cornerC L := by
        rw [List.take_of_length_le (by omega), Nat.sub_self, List.replicate_zero, List.append_nil]
        exact HDEF.out.symm
      rw [e] at hown
      have hci : ∀ c ∈ cornerC L, InC c := by
        rw [HDEF.out]
        intro c hc
        obtain ⟨⟨x, y⟩, hd, rfl⟩ := List.mem_map.1 hc
        rw [HFX.out]
        have := HMI.out _ hd
        unfold inW at this
        unfold InC
        dsimp only at *
        omega
      have HCI := Lib.hid hci
      clear hci e
      go_wp2_with fail
      refine (iSortO G G j j (cornerC L) wr (by omega) HCI.out hown.out).mono ?_
      rintro e w3 ⟨v, rfl, hown3, hb3⟩
      have HR := Lib.hid (show Own w (sortU (cornerC L)) v w3 from ⟨own_below hown3 hsz3, hb.trans (hb3.mono hsz3)⟩)
      clear hown3 hb3
      go_wp2
      go_ret
      exact ⟨_, rfl, HR.out⟩
end

section
open Go.RowKit

set_option maxHeartbeats 2000000 in
set_option maxRecDepth 100000 in
theorem iCarried (B n cap m : Nat) (a : Option Addr) (l : List Cl) (w : World) (hm : m ≤ 7) (h1 : 0 < n) (hn : n ≤ 8) (hc : CellsAt B w a n l) (hp : ∀ c ∈ l, inP c = true) (hB : B ≤ w.heap.size) :
    Calls Tryz.prog 161 #[.slice a n cap, .func (.func 162) #[.int .i64 m] #[]] w fun e w' => ∃ v, e = .returned v ∧ Own w (turnC m l) v w' := by
  have eg : ∀ args w, (callFunc 162 args).run Tryz.prog w = .ok (.enter 162 args) w := enters_of Tryz.func162 (by kernel_rfl) rfl
  obtain ⟨i0, hi, hz0, hz1, hz2⟩ := info_parts info_cell
  have H := Lib.hid hc
  have HP := Lib.hid hp
  have HT := Lib.hid (turnC_prog m (l := l) (by rw [hc.1]; exact h1))
  clear hc hp
  go_enter Tryz.func161, Tryz.ntmps161
  go_wp2_with (first | (at_make; refine wpList_make_full _ rfl _ _ 95 rfl w.heap.size 86 i0 (.agg #[.int .i64 0, .int .i64 0]) 2 Tryz.underlying95 hi hz0 hz1 _ _ _ _ n rfl rfl rfl rfl ?b2 ?b3 (Nat.le_refl _) ?_) | go_in)
  case b2 => rw [hz2]; omega
  case b3 => unfold maxLen; omega
  intro w0 hown0 hgrow0
  have hb0 := ((Below.refl w.heap.size w).grown hgrow0 (Nat.le_refl _) (fun k h => by cases h))
  go_wp2
  go_loopw [13] (fun i wr => ∃ k : Nat, k ≤ n ∧ i = .int .i64 k ∧ wr.ownsRow w.heap.size 86 2 (.slice (some ⟨w.heap.size, 0, none⟩) n n) n (cvs ((l.take k).map (apM m) ++ List.replicate (n - k) (0, 0))) ∧ Below w.heap.size w wr) (fun i _ => n - (intOf i).toNat)
  case atStart => exact ⟨0, by omega, rfl, by rw [made_cells n] at hown0; simpa using hown0, hb0⟩
  case round =>
    obtain ⟨k, hk, rfl, hown, hb⟩ := hrel
    have hsz := hb.size
    clear hown0 hgrow0 hb0
    by_cases hlt : k < n
    · obtain ⟨b1, o1, rfl, hb1', hc1⟩ := H.out.2.2 (by omega)
      obtain ⟨x, y, hxy⟩ : ∃ x y, l.getD k (0, 0) = (x, y) := ⟨_, _, rfl⟩
      have p1 := (hb.cell (p := ⟨b1, o1 + k * 2, none⟩) (Nat.lt_of_lt_of_le hb1' hB)).trans (hc1 k hlt).1
      have p2 := (hb.cell (p := ⟨b1, o1 + k * 2 + 1, none⟩) (Nat.lt_of_lt_of_le hb1' hB)).trans (hc1 k hlt).2
      rw [hxy] at p1 p2
      have hpx := HP.out _ (getD_mem (l := l) (j := k) (by rw [H.out.1]; exact hlt))
      rw [hxy] at hpx
      have hin := apM_in m (inR_of_inP hpx)
      obtain ⟨X, Y, hXY⟩ : ∃ X Y, apM m (x, y) = (X, Y) := ⟨_, _, rfl⟩
      have hfill := fill_map (apM m) l k n hlt H.out.1
      rw [hxy, hXY] at hfill
      have HFI := Lib.hid hfill
      have HXY := Lib.hid hXY
      have hk0 : (0 : Int) ≤ (k : Int) := by omega
      have hk1 : (k : Int) < (n : Int) := by omega
      have hgl := (hown.lt w.heap.size rfl).2
      have hlen : k < ((l.take k).map (apM m) ++ List.replicate (n - k) ((0 : Int), (0 : Int))).length := by have := H.out.1; simp; omega
      have HOWN := Lib.hid (hown.alloc (.cells #[.int .i64 x, .int .i64 y] 86))
      have HB := Lib.hid (hb.alloc hsz (.cells #[.int .i64 x, .int .i64 y] 86))
      clear hxy hXY hc1 hfill hown hb
      go_wp2_with fail
      refine (iCarry x y m _ hm (by have := inR_of_inP hpx; unfold inR at *; omega)).mono ?_
      rintro e w1 ⟨rfl, -, hb1⟩
      rw [HXY.out]
      dsimp only
      have hown1 := HOWN.out.kept (grow_below hb1 none) (.inr (by intro e; cases e))
      have HB1 := Lib.hid (HB.out.trans (hb1.mono HB.out.size))
      have hg := cvs_get _ k hlen
      have c0 := hown1.cellAt (k * 2) (by omega)
      have c1 := hown1.cellAt (k * 2 + 1) (by omega)
      rw [hg.1] at c0
      rw [hg.2] at c1
      have f0 := hown1.frozenAt (k * 2)
      have f1 := hown1.frozenAt (k * 2 + 1)
      have hs1 := hown1.stored (k * 2) (.int .i64 X)
      have hs2 := hs1.1.stored (k * 2 + 1) (.int .i64 Y)
      have hO := hs2.1
      have hset := cvs_set _ k (X, Y) hlen
      dsimp only at hset
      rw [hset, HFI.out] at hO
      have HOO := Lib.hid hO
      have HBB := Lib.hid ((HB1.out.setCell (p := ⟨w.heap.size, k * 2, none⟩) (Nat.le_refl _) (.int .i64 X)).setCell (p := ⟨w.heap.size, k * 2 + 1, none⟩) (Nat.le_refl _) (.int .i64 Y))
      clear hg hs1 hs2 hb1 hown1 hlen hset hO p1 p2
      go_wp2
      go_roundw
      case rel => exact ⟨k + 1, by omega, by go_num, HOO.out, HBB.out⟩
      case measure => simp [intOf]; omega
    · obtain rfl : k = n := by omega
      have e : (l.take k).map (apM m) ++ List.replicate (k - k) ((0 : Int), (0 : Int)) = l.map (apM m) := by
        rw [List.take_of_length_le (by rw [H.out.1]; exact Nat.le_refl _)]
        simp
      rw [e] at hown
      have hmi := map_apM_in m l HP.out
      have hll : (l.map (apM m)).length = k := by rw [List.length_map, H.out.1]
      obtain ⟨L, hL⟩ : ∃ L, l.map (apM m) = L := ⟨_, rfl⟩
      rw [hL] at hown hmi hll HT
      have HA := Lib.hid (CellsAt.of_own hown (fun c hc => by have := hmi c hc; unfold inR at this; exact inC_ofs (by omega) (by omega)))
      have HMI := Lib.hid (show ∀ c ∈ L, inW c from fun c hc => by have := hmi c hc; unfold inR at this; unfold inW; omega)
      have HB1 := Lib.hid hb
      clear hown hmi hb e hL
      go_wp2_with fail
      refine (iSortedIn wr.heap.size k k _ L wr h1 (by omega) (by rw [← hll]; rw [hll]; exact HA.out) HMI.out (Nat.le_refl _)).mono ?_
      rintro e w3 ⟨v, rfl, hown3, hb3⟩
      have HR := Lib.hid (show Own w (turnC m l) v w3 from ⟨by rw [HT.out]; exact own_below hown3 hsz, HB1.out.trans (hb3.mono hsz)⟩)
      clear hown3 hb3
      go_wp2
      go_ret
      exact ⟨_, rfl, HR.out⟩

set_option maxHeartbeats 1000000 in
set_option maxRecDepth 100000 in
theorem iTurn (B n cap : Nat) (a : Option Addr) (l : List Cl) (m : Int) (w : World) (hn : n ≤ 4194304) (hc : CellsAt B w a n l) (hB : B ≤ w.heap.size) :
    Calls Tryz.prog 144 #[.slice a n cap, .int .i64 m] w fun e w' => ∃ v, e = .returned (.tuple #[v, .bool (isShape l && inb m 0 7)]) ∧ Own w (turnS m l) v w' := by
  have H := Lib.hid hc
  clear hc
  cases h : isShape l with
  | true =>
    have hl := ((isShape_iff l).1 h).1
    rw [H.out.1] at hl
    cases hm : inb m 0 7 with
    | true =>
      obtain ⟨k, rfl, hk⟩ := inb_nat hm
      have HT := Lib.hid (turnS_yes h hk).1
      have HP := Lib.hid (isShape_in h)
      have HS := Lib.hid h
      have HM := Lib.hid hm
      clear h hm
      rw [HT.out]
      go_enter Tryz.func144, Tryz.ntmps144
      go_wp2_with fail
      refine (iIsShape B n cap a l w hn H.out hB).mono ?_
      rintro e w1 ⟨rfl, hb1⟩
      rw [HS.out]
      go_wp2_with fail
      refine (iIsMotion (k : Int) w1).mono ?_
      rintro e w2 ⟨rfl, rfl⟩
      rw [HM.out]
      go_wp2_with fail
      refine (iCarried B n cap k a l w1 hk (by omega) (by omega) (H.out.on (hb1.mono hB)) HP.out (Nat.le_trans hB hb1.size)).mono ?_
      rintro e w2 ⟨v, rfl, hown, hb2⟩
      have HO := Lib.hid (show Own w (turnC k l) v w2 from ⟨own_below hown hb1.size, hb1.trans (hb2.mono hb1.size)⟩)
      clear hown
      go_wp2
      go_ret2
      exact ⟨_, rfl, HO.out⟩
    | false =>
      have HT := Lib.hid (turnS_no (m := m) (l := l) (by rw [h, hm]; rfl))
      have HS := Lib.hid h
      have HM := Lib.hid hm
      clear h hm
      rw [HT.out]
      go_enter Tryz.func144, Tryz.ntmps144
      go_wp2_with fail
      refine (iIsShape B n cap a l w hn H.out hB).mono ?_
      rintro e w1 ⟨rfl, hb1⟩
      rw [HS.out]
      go_wp2_with fail
      refine (iIsMotion m w1).mono ?_
      rintro e w2 ⟨rfl, rfl⟩
      rw [HM.out]
      go_wp2
      go_ret2
      exact ⟨_, rfl, own_nil _ _, hb1⟩
  | false =>
    have HT := Lib.hid (turnS_no (m := m) (l := l) (by rw [h]; rfl))
    have HS := Lib.hid h
    clear h
    rw [HT.out]
    go_enter Tryz.func144, Tryz.ntmps144
    go_wp2_with fail
    refine (iIsShape B n cap a l w hn H.out hB).mono ?_
    rintro e w1 ⟨rfl, hb1⟩
    rw [HS.out]
    go_wp2
    go_ret2
    exact ⟨_, rfl, own_nil _ _, hb1⟩
end

end Go.Proofs.YtkjlmgkjcmebbaaGreatDoor
