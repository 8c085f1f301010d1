/-
  Shapes turned, in the program: the cells carried, moved to the corner, put in order.
-/
import Derived.Test.YthnapikklolgcaaJsi
import Derived.Test.YthnapikklolgcaaMon
namespace Go.Proofs.Ythnapikklolgcaa
open Go.RowKit

set_option maxHeartbeats 2000000 in
set_option maxRecDepth 100000 in
theorem iCarried (B n cap m : Nat) (a : Option Addr) (l : List Cl) (w : World) (hm : m ≤ 7) (h1 : 0 < n) (hn : n ≤ 8) (hc : CellsAt B w a n l) (hp : ∀ c ∈ l, inP c = true) (hB : B ≤ w.heap.size) :
    Calls Try.prog 102 #[.slice a n cap, .func (.func 103) #[.int .i64 m] #[]] w fun e w' => ∃ v, e = .returned v ∧ Own w (turnC m l) v w' := by
  have eg : ∀ args w, (callFunc 103 args).run Try.prog w = .ok (.enter 103 args) w := enters_of Try.func103 (by kernel_rfl) rfl
  obtain ⟨i0, hi, hz0, hz1, hz2⟩ := info_parts info_cell
  have H := Lib.hid hc
  have HP := Lib.hid hp
  have HT := Lib.hid (turnC_prog m (l := l) (by rw [hc.1]; exact h1))
  clear hc hp
  go_enter Try.func102, Try.ntmps102
  go_wp2_with (first | (at_make; refine wpList_make_full _ rfl _ _ 24 rfl w.heap.size 53 i0 (.agg #[.int .i64 0, .int .i64 0]) 2 Try.underlying24 hi hz0 hz1 _ _ _ _ n rfl rfl rfl rfl ?b2 ?b3 (Nat.le_refl _) ?_) | go_in)
  case b2 => rw [hz2]; omega
  case b3 => unfold maxLen; omega
  intro w0 hown0 hgrow0
  have hb0 := ((Below.refl w.heap.size w).grown hgrow0 (Nat.le_refl _) (fun k h => by cases h))
  go_wp2
  go_loopw [13] (fun i wr => ∃ k : Nat, k ≤ n ∧ i = .int .i64 k ∧ wr.ownsRow w.heap.size 53 2 (.slice (some ⟨w.heap.size, 0, none⟩) n n) n (cvs ((l.take k).map (apM m) ++ List.replicate (n - k) (0, 0))) ∧ Below w.heap.size w wr) (fun i _ => n - (intOf i).toNat)
  case atStart => exact ⟨0, by omega, rfl, by rw [made_cells n] at hown0; simpa using hown0, hb0⟩
  case round =>
    obtain ⟨k, hk, rfl, hown, hb⟩ := hrel
    have hsz := hb.size
    clear hown0 hgrow0 hb0
    by_cases hlt : k < n
    · obtain ⟨b1, o1, rfl, hb1', hc1⟩ := H.out.2.2 (by omega)
      obtain ⟨x, y, hxy⟩ : ∃ x y, l.getD k (0, 0) = (x, y) := ⟨_, _, rfl⟩
      have p1 := (hb.cell (p := ⟨b1, o1 + k * 2, none⟩) (Nat.lt_of_lt_of_le hb1' hB)).trans (hc1 k hlt).1
      have p2 := (hb.cell (p := ⟨b1, o1 + k * 2 + 1, none⟩) (Nat.lt_of_lt_of_le hb1' hB)).trans (hc1 k hlt).2
      rw [hxy] at p1 p2
      have hpx := HP.out _ (getD_mem (l := l) (j := k) (by rw [H.out.1]; exact hlt))
      rw [hxy] at hpx
      have hin := apM_in m (inR_of_inP hpx)
      obtain ⟨X, Y, hXY⟩ : ∃ X Y, apM m (x, y) = (X, Y) := ⟨_, _, rfl⟩
      have hfill := fill_map (apM m) l k n hlt H.out.1
      rw [hxy, hXY] at hfill
      have HFI := Lib.hid hfill
      have HXY := Lib.hid hXY
      have hk0 : (0 : Int) ≤ (k : Int) := by omega
      have hk1 : (k : Int) < (n : Int) := by omega
      have hgl := (hown.lt w.heap.size rfl).2
      have hlen : k < ((l.take k).map (apM m) ++ List.replicate (n - k) ((0 : Int), (0 : Int))).length := by have := H.out.1; simp; omega
      have HOWN := Lib.hid (hown.alloc (.cells #[.int .i64 x, .int .i64 y] 53))
      have HB := Lib.hid (hb.alloc hsz (.cells #[.int .i64 x, .int .i64 y] 53))
      clear hxy hXY hc1 hfill hown hb
      go_wp2_with fail
      refine (iCarry x y m _ hm (by have := inR_of_inP hpx; unfold inR at *; omega)).mono ?_
      rintro e w1 ⟨rfl, -, hb1⟩
      rw [HXY.out]
      dsimp only
      have hown1 := HOWN.out.kept (grow_below hb1 none) (.inr (by intro e; cases e))
      have HB1 := Lib.hid (HB.out.trans (hb1.mono HB.out.size))
      have hg := cvs_get _ k hlen
      have c0 := hown1.cellAt (k * 2) (by omega)
      have c1 := hown1.cellAt (k * 2 + 1) (by omega)
      rw [hg.1] at c0
      rw [hg.2] at c1
      have f0 := hown1.frozenAt (k * 2)
      have f1 := hown1.frozenAt (k * 2 + 1)
      have hs1 := hown1.stored (k * 2) (.int .i64 X)
      have hs2 := hs1.1.stored (k * 2 + 1) (.int .i64 Y)
      have hO := hs2.1
      have hset := cvs_set _ k (X, Y) hlen
      dsimp only at hset
      rw [hset, HFI.out] at hO
      have HOO := Lib.hid hO
      have HBB := Lib.hid ((HB1.out.setCell (p := ⟨w.heap.size, k * 2, none⟩) (Nat.le_refl _) (.int .i64 X)).setCell (p := ⟨w.heap.size, k * 2 + 1, none⟩) (Nat.le_refl _) (.int .i64 Y))
      clear hg hs1 hs2 hb1 hown1 hlen hset hO p1 p2
      go_wp2
      go_roundw
      case rel => exact ⟨k + 1, by omega, by go_num, HOO.out, HBB.out⟩
      case measure => simp [intOf]; omega
    · obtain rfl : k = n := by omega
      have e : (l.take k).map (apM m) ++ List.replicate (k - k) ((0 : Int), (0 : Int)) = l.map (apM m) := by
        rw [List.take_of_length_le (by rw [H.out.1]; exact Nat.le_refl _)]
        simp
      rw [e] at hown
      have hmi := map_apM_in m l HP.out
      have hll : (l.map (apM m)).length = k := by rw [List.length_map, H.out.1]
      obtain ⟨L, hL⟩ : ∃ L, l.map (apM m) = L := ⟨_, rfl⟩
      rw [hL] at hown hmi hll HT
      have HA := Lib.hid (CellsAt.of_own hown (fun c hc => by have := hmi c hc; unfold inR at this; exact inC_ofs (by omega) (by omega)))
      have HMI := Lib.hid (show ∀ c ∈ L, inW c from fun c hc => by have := hmi c hc; unfold inR at this; unfold inW; omega)
      have HB1 := Lib.hid hb
      clear hown hmi hb e hL
      go_wp2_with fail
      refine (iSortedIn wr.heap.size k k _ L wr h1 (by omega) (by rw [← hll]; rw [hll]; exact HA.out) HMI.out (Nat.le_refl _)).mono ?_
      rintro e w3 ⟨v, rfl, hown3, hb3⟩
      have HR := Lib.hid (show Own w (turnC m l) v w3 from ⟨by rw [HT.out]; exact own_below hown3 hsz, HB1.out.trans (hb3.mono hsz)⟩)
      clear hown3 hb3
      go_wp2
      go_ret
      exact ⟨_, rfl, HR.out⟩

set_option maxHeartbeats 1000000 in
set_option maxRecDepth 100000 in
theorem iTurn (B n cap : Nat) (a : Option Addr) (l : List Cl) (m : Int) (w : World) (hn : n ≤ 4194304) (hc : CellsAt B w a n l) (hB : B ≤ w.heap.size) :
    Calls Try.prog 71 #[.slice a n cap, .int .i64 m] w fun e w' => ∃ v, e = .returned (.tuple #[v, .bool (isShape l && inb m 0 7)]) ∧ Own w (turnS m l) v w' := by
  have H := Lib.hid hc
  clear hc
  cases h : isShape l with
  | true =>
    have hl := ((isShape_iff l).1 h).1
    rw [H.out.1] at hl
    cases hm : inb m 0 7 with
    | true =>
      obtain ⟨k, rfl, hk⟩ := inb_nat hm
      have HT := Lib.hid (turnS_yes h hk).1
      have HP := Lib.hid (isShape_in h)
      have HS := Lib.hid h
      have HM := Lib.hid hm
      clear h hm
      rw [HT.out]
      go_enter Try.func71, Try.ntmps71
      go_wp2_with fail
      refine (iIsShape B n cap a l w hn H.out hB).mono ?_
      rintro e w1 ⟨rfl, hb1⟩
      rw [HS.out]
      go_wp2_with fail
      refine (iIsMotion (k : Int) w1).mono ?_
      rintro e w2 ⟨rfl, rfl⟩
      rw [HM.out]
      go_wp2_with fail
      refine (iCarried B n cap k a l w1 hk (by omega) (by omega) (H.out.on (hb1.mono hB)) HP.out (Nat.le_trans hB hb1.size)).mono ?_
      rintro e w2 ⟨v, rfl, hown, hb2⟩
      have HO := Lib.hid (show Own w (turnC k l) v w2 from ⟨own_below hown hb1.size, hb1.trans (hb2.mono hb1.size)⟩)
      clear hown
      go_wp2
      go_ret2
      exact ⟨_, rfl, HO.out⟩
    | false =>
      have HT := Lib.hid (turnS_no (m := m) (l := l) (by rw [h, hm]; rfl))
      have HS := Lib.hid h
      have HM := Lib.hid hm
      clear h hm
      rw [HT.out]
      go_enter Try.func71, Try.ntmps71
      go_wp2_with fail
      refine (iIsShape B n cap a l w hn H.out hB).mono ?_
      rintro e w1 ⟨rfl, hb1⟩
      rw [HS.out]
      go_wp2_with fail
      refine (iIsMotion m w1).mono ?_
      rintro e w2 ⟨rfl, rfl⟩
      rw [HM.out]
      go_wp2
      go_ret2
      exact ⟨_, rfl, own_nil _ _, hb1⟩
  | false =>
    have HT := Lib.hid (turnS_no (m := m) (l := l) (by rw [h]; rfl))
    have HS := Lib.hid h
    clear h
    rw [HT.out]
    go_enter Try.func71, Try.ntmps71
    go_wp2_with fail
    refine (iIsShape B n cap a l w hn H.out hB).mono ?_
    rintro e w1 ⟨rfl, hb1⟩
    rw [HS.out]
    go_wp2
    go_ret2
    exact ⟨_, rfl, own_nil _ _, hb1⟩

end Go.Proofs.Ythnapikklolgcaa
