/-
  Shapes turned, in the program: the cells carried, moved to the corner, put in order.
-/
import Derived.Test.YtiopnldddgikiaaJtu
import Derived.Test.YtiopnldddgikiaaMo2
namespace Go.Proofs.Ytiopnldddgikiaa
open Go.RowKit

set_option maxHeartbeats 2000000 in
set_option maxRecDepth 100000 in
theorem iCarried (B n cap m : Nat) (a : Option Addr) (l : List Cl) (w : World) (hm : m ≤ 7) (h1 : 0 < n) (hn : n ≤ 8) (hc : CellsAt B w a n l) (hp : ∀ c ∈ l, inP c = true) (hB : B ≤ w.heap.size) :
    Calls Try.prog 47 #[.slice a n cap, .func (.func 48) #[.int .i64 m] #[]] w fun e w' => ∃ v, e = .returned v ∧ Own w (turnC m l) v w' := by
  have eg : ∀ args w, (callFunc 48 args).run Try.prog w = .ok (.enter 48 args) w := enters_of Try.func48 (by kernel_rfl) rfl
  obtain ⟨i0, hi, hz0, hz1, hz2⟩ := info_parts info_cell
  have H := Lib.hid hc
  have HP := Lib.hid hp
  have HT := Lib.hid (turnC_prog m (l := l) (by rw [hc.1]; exact h1))
  clear hc hp
  go_enter Try.func47, Try.ntmps47
  go_wp2_with (first | (at_make; refine wpList_make_full _ rfl _ _ 24 rfl w.heap.size 51 i0 (.agg #[.int .i64 0, .int .i64 0]) 2 Try.underlying24 hi hz0 hz1 _ _ _ _ n rfl rfl rfl rfl ?b2 ?b3 (Nat.le_refl _) ?_) | go_in)
  case b2 => rw [hz2]; omega
  case b3 => unfold maxLen; omega
  intro w0 hown0 hgrow0
  have hb0 := ((Below.refl w.heap.size w).grown hgrow0 (Nat.le_refl _) (fun k h => by cases h))
  go_wp2
  go_loopw [17] (fun i wr => ∃ k : Nat, k ≤ n ∧ i = .int .i64 k ∧ wr.ownsRow w.heap.size 51 2 (.slice (some ⟨w.heap.size, 0, none⟩) n n) n (cvs ((l.take k).map (apM m) ++ List.replicate (n - k) (0, 0))) ∧ Below w.heap.size w wr) (fun i _ => n - (intOf i).toNat)
  case atStart => exact ⟨0, by omega, rfl, by rw [made_cells n] at hown0; simpa using hown0, hb0⟩
  case round =>
    obtain ⟨k, hk, rfl, hown, hb⟩ := hrel
    have hsz := hb.size
    clear hown0 hgrow0 hb0
    by_cases hlt : k < n
    · obtain ⟨b1, o1, rfl, hb1', hc1⟩ := H.out.2.2 (by omega)
      obtain ⟨x, y, hxy⟩ : ∃ x y, l.getD k (0, 0) = (x, y) := ⟨_, _, rfl⟩
      have p1 := (hb.cell (p := ⟨b1, o1 + k * 2, none⟩) (Nat.lt_of_lt_of_le hb1' hB)).trans (hc1 k hlt).1
      have p2 := (hb.cell (p := ⟨b1, o1 + k * 2 + 1, none⟩) (Nat.lt_of_lt_of_le hb1' hB)).trans (hc1 k hlt).2
      rw [hxy] at p1 p2
      have hpx := HP.out _ (getD_mem (l := l) (j := k) (by rw [H.out.1]; exact hlt))
      rw [hxy] at hpx
      have hin := apM_in m (inR_of_inP hpx)
      obtain ⟨X, Y, hXY⟩ : ∃ X Y, apM m (x, y) = (X, Y) := ⟨_, _, rfl⟩
      have hfill := fill_map (apM m) l k n hlt H.out.1
      rw [hxy, hXY] at hfill
      have HFI := Lib.hid hfill
      have HXY := Lib.hid hXY
      have hk0 : (0 : Int) ≤ (k : Int) := by omega
      have hk1 : (k : Int) < (n : Int) := by omega
      have hgl := (hown.lt w.heap.size rfl).2
      have hlen : k < ((l.take k).map (apM m) ++ List.replicate (n - k) ((0 : Int), (0 : Int))).length := by have := H.out.1; simp; omega
      have HOWN := Lib.hid (hown.alloc (.cells #[.int .i64 x, .int .i64 y] 51))
      have HB := Lib.hid (hb.alloc hsz (.cells #[.int .i64 x, .int .i64 y] 51))
      clear hxy hXY hc1 hfill hown hb
      go_wp2_with fail
      refine (iCarry x y m _ hm (by have := inR_of_inP hpx; unfold inR at *; omega)).mono ?_
      rintro e w1 ⟨rfl, -, hb1⟩
      rw [HXY.out]
      dsimp only
      have hown1 := HOWN.out.kept (grow_below hb1 none) (.inr (by intro e; cases e))
      have HB1 := Lib.hid (HB.out.trans (hb1.mono HB.out.size))
      have hg := cvs_get _ k hlen
      have c0 := hown1.cellAt (k * 2) (by omega)
      have c1 := hown1.cellAt (k * 2 + 1) (by omega)
      rw [hg.1] at c0
      rw [hg.2] at c1
      have f0 := hown1.frozenAt (k * 2)
      have f1 := hown1.frozenAt (k * 2 + 1)
      have hs1 := hown1.stored (k * 2) (.int .i64 X)
      have hs2 := hs1.1.stored (k * 2 + 1) (.int .i64 Y)
      have hO := hs2.1
      have hset := cvs_set _ k (X, Y) hlen
      dsimp only at hset
      rw [hset, HFI.out] at hO
      have HOO := Lib.hid hO
      have HBB := Lib.hid ((HB1.out.setCell (p := ⟨w.heap.size, k * 2, none⟩) (Nat.le_refl _) (.int .i64 X)).setCell (p := ⟨w.heap.size, k * 2 + 1, none⟩) (Nat.le_refl _) (.int .i64 Y))
      clear hg hs1 hs2 hb1 hown1 hlen hset hO p1 p2
      go_wp2
      go_roundw
      case rel => exact ⟨k + 1, by omega, by go_num, HOO.out, HBB.out⟩
      case measure => simp [intOf]; omega
    · obtain rfl : k = n := by omega
      have e : (l.take k).map (apM m) ++ List.replicate (k - k) ((0 : Int), (0 : Int)) = l.map (apM m) := by
        rw [List.take_of_length_le (by rw [H.out.1]; exact Nat.le_refl _)]
        simp
      rw [e] at hown
      have hmi := map_apM_in m l HP.out
      have hll : (l.map (apM m)).length = k := by rw [List.length_map, H.out.1]
      obtain ⟨L, hL⟩ : ∃ L, l.map (apM m) = L := ⟨_, rfl⟩
      rw [hL] at hown hmi hll HT
      have HA := Lib.hid (CellsAt.of_own hown (fun c hc => by have := hmi c hc; unfold inR at this; exact inC_ofs (by omega) (by omega)))
      have HMI := Lib.hid hmi
      have HOW := Lib.hid hown
      have HB1 := Lib.hid hb
      have hlx : lstX L = minX L := lst_min _ _ (by omega)
      have hly : lstY L = minY L := lst_min _ _ (by omega)
      have hdef : cornerC L = L.map fun c => (c.1 - minX L, c.2 - minY L) := rfl
      have bx := minTo_bdW Prod.fst L (fun j hj => by have := hmi _ (getD_mem hj); unfold inR at this; omega) _ (Nat.le_refl _)
      have bY := minTo_bdW Prod.snd L (fun j hj => by have := hmi _ (getD_mem hj); unfold inR at this; omega) _ (Nat.le_refl _)
      change _ ≤ minX L ∧ minX L ≤ _ at bx
      change _ ≤ minY L ∧ minY L ≤ _ at bY
      have hgg : ∃ f : Cl → Cl, f = fun c => (c.1 - minX L, c.2 - minY L) := ⟨_, rfl⟩
      obtain ⟨f, hf⟩ := hgg
      rw [← hf] at hdef
      have HDEF := Lib.hid hdef
      have hfx : ∀ x y, f (x, y) = (x - minX L, y - minY L) := fun x y => by rw [hf]
      clear hf hdef
      have HLXY := Lib.hid (show _ ∧ _ from ⟨hlx, hly⟩)
      generalize minX L = a1 at bx hfx HLXY
      generalize minY L = a2 at bY hfx HLXY
      have HFX := Lib.hid hfx
      clear hown hmi hb e hlx hly hfx
      go_wp2_with fail
      refine (iBounds wr.heap.size k k _ L wr (by omega) h1 (by rw [← hll]; rw [hll]; exact HA.out) (Nat.le_refl _)).mono ?_
      rintro e w2 ⟨rfl, hb2⟩
      rw [HLXY.out.1, HLXY.out.2]
      generalize grtX L = a3
      generalize grtY L = a4
      have hsz2 := hb2.size
      have hgl : w.heap.size < w2.heap.size := by have := (HOW.out.lt w.heap.size rfl).2; omega
      have HB2 := Lib.hid (((HB1.out.trans (hb2.mono hsz)).alloc (by omega) (.cells #[.int .i64 a1, .int .i64 a2] 51)).alloc (by simp; omega) (.cells #[.int .i64 a3, .int .i64 a4] 51))
      have HO2 := Lib.hid (((HOW.out.kept (grow_below hb2 none) (.inr (by intro e; cases e))).alloc (.cells #[.int .i64 a1, .int .i64 a2] 51)).alloc (.cells #[.int .i64 a3, .int .i64 a4] 51))
      have HT2 := Lib.hid ((Two.new (w := w2) a1 a2 rfl).alloc (.cells #[.int .i64 a3, .int .i64 a4] 51))
      obtain ⟨W, hW⟩ : ∃ W, (w2.alloc (.cells #[.int .i64 a1, .int .i64 a2] 51)).alloc (.cells #[.int .i64 a3, .int .i64 a4] 51) = W := ⟨_, rfl⟩
      rw [hW] at HB2 HO2 HT2
      obtain ⟨lb, hlb⟩ : ∃ lb, w2.heap.size = lb := ⟨_, rfl⟩
      rw [hlb] at HT2 hgl
      clear HOW hb2 hsz2 HA
      go_wp2
      skip
      clear hW hlb
      go_loopw [36] (fun i wr => ∃ j : Nat, j ≤ k ∧ i = .int .i64 j ∧ Hid (wr.ownsRow w.heap.size 51 2 (.slice (some ⟨w.heap.size, 0, none⟩) k k) k (cvs ((L.take j).map f ++ L.drop j))) ∧ Hid (Two wr lb a1 a2) ∧ Below w.heap.size w wr) (fun i _ => k - (intOf i).toNat)
      case atStart => exact ⟨0, by omega, rfl, by simpa [Hid] using HO2.out, HT2.out, HB2.out⟩
      case round =>
        obtain ⟨j, hj, rfl, hown, htw, hb⟩ := hrel
        have hsz3 := hb.size
        clear HO2 HT2 HB2
        by_cases hlt : j < k
        · have hLl : j < L.length := by omega
          have hlen : j < ((L.take j).map f ++ L.drop j).length := by simp; omega
          obtain ⟨x, y, hxy⟩ : ∃ x y, L.getD j (0, 0) = (x, y) := ⟨_, _, rfl⟩
          have hin := HMI.out _ (getD_mem hLl)
          rw [hxy] at hin
          unfold inR at hin
          dsimp only at hin
          have hov := over_map f L j hLl
          rw [hxy, HFX.out] at hov
          have HOV := Lib.hid hov
          have hg := cvs_get _ j hlen
          rw [over_get f L j hLl, hxy] at hg
          have c0 := hown.out.cellAt (j * 2) (by omega)
          have c1 := hown.out.cellAt (j * 2 + 1) (by omega)
          rw [hg.1] at c0
          rw [hg.2] at c1
          have f0 := hown.out.frozenAt (j * 2)
          have f1 := hown.out.frozenAt (j * 2 + 1)
          have hs1 := hown.out.stored (j * 2) (.int .i64 (x - a1))
          have hs2 := hs1.1.stored (j * 2 + 1) (.int .i64 (y - a2))
          have hO := hs2.1
          have hset := cvs_set _ j (x - a1, y - a2) hlen
          dsimp only at hset
          rw [hset, HOV.out] at hO
          have hgl2 := (hown.out.lt w.heap.size rfl).2
          have t0 := htw.out.c0
          have t1 := htw.out.c1
          have hlbl := htw.out.lt
          have hnlb : w.heap.size ≠ lb := by omega
          have HBB := Lib.hid (((hb.setCell (p := ⟨w.heap.size, j * 2, none⟩) (Nat.le_refl _) (.int .i64 (x - a1))).setCell (p := ⟨w.heap.size, j * 2 + 1, none⟩) (Nat.le_refl _) (.int .i64 (y - a2))).alloc (by simp [World.setCell]; omega) (.cells #[.int .i64 x, .int .i64 y] 51))
          have HOO := Lib.hid (hO.alloc (.cells #[.int .i64 x, .int .i64 y] 51))
          have HTT := Lib.hid (((htw.out.far (j := j * 2) (v := .int .i64 (x - a1)) hnlb).far (j := j * 2 + 1) (v := .int .i64 (y - a2)) hnlb).alloc (.cells #[.int .i64 x, .int .i64 y] 51))
          have hx1 : IntKind.i64.wrap (x - a1) = x - a1 := IntWalk.i64_in _ (by omega)
          have hy1 : IntKind.i64.wrap (y - a2) = y - a2 := IntWalk.i64_in _ (by omega)
          have hk0 : (0 : Int) ≤ (j : Int) := by omega
          have hk1 : (j : Int) < (k : Int) := by omega
          have hne : w.heap.size ≠ wr.heap.size := by omega
          have hne2 : lb ≠ wr.heap.size := by omega
          clear hxy hov hg hs1 hs2 hO hset hown htw hb hlen
          go_wp2
          go_roundw
          case rel => exact ⟨j + 1, by omega, by go_num, HOO.out, HTT.out, HBB.out⟩
          case measure => simp [intOf]; omega
        · obtain rfl : j = k := by omega
          have e : (L.take j).map f ++ L.drop j = cornerC L := by
            rw [List.take_of_length_le (by omega), List.drop_eq_nil_of_le (by omega), List.append_nil]
            exact HDEF.out.symm
          rw [e] at hown
          have hci : ∀ c ∈ cornerC L, InC c := by
            rw [HDEF.out]
            intro c hc
            obtain ⟨⟨x, y⟩, hd, rfl⟩ := List.mem_map.1 hc
            rw [HFX.out]
            have := HMI.out _ hd
            unfold inR at this
            unfold InC
            dsimp only at *
            omega
          have HCI := Lib.hid hci
          clear hci e
          go_wp2_with fail
          refine (iSortO w.heap.size w.heap.size j j (cornerC L) wr (by omega) HCI.out hown.out).mono ?_
          rintro e w3 ⟨v, rfl, hown3, hb3⟩
          have HR := Lib.hid (show Own w (turnC m l) v w3 from ⟨by rw [HT.out]; exact own_below hown3 hsz3, hb.trans (hb3.mono hsz3)⟩)
          clear hown3 hb3
          go_wp2
          go_ret
          exact ⟨_, rfl, HR.out⟩

set_option maxHeartbeats 1000000 in
set_option maxRecDepth 100000 in
theorem iTurn (B n cap : Nat) (a : Option Addr) (l : List Cl) (m : Int) (w : World) (hn : n ≤ 4194304) (hc : CellsAt B w a n l) (hB : B ≤ w.heap.size) :
    Calls Try.prog 15 #[.slice a n cap, .int .i64 m] w fun e w' => ∃ v, e = .returned (.tuple #[v, .bool (isShape l && inb m 0 7)]) ∧ Own w (turnS m l) v w' := by
  have H := Lib.hid hc
  clear hc
  cases h : isShape l with
  | true =>
    have hl := ((isShape_iff l).1 h).1
    rw [H.out.1] at hl
    cases hm : inb m 0 7 with
    | true =>
      obtain ⟨k, rfl, hk⟩ := inb_nat hm
      have HT := Lib.hid (turnS_yes h hk).1
      have HP := Lib.hid (isShape_in h)
      have HS := Lib.hid h
      have HM := Lib.hid hm
      clear h hm
      rw [HT.out]
      go_enter Try.func15, Try.ntmps15
      go_wp2_with fail
      refine (iIsShape B n cap a l w hn H.out hB).mono ?_
      rintro e w1 ⟨rfl, hb1⟩
      rw [HS.out]
      go_wp2_with fail
      refine (iIsMotion (k : Int) w1).mono ?_
      rintro e w2 ⟨rfl, rfl⟩
      rw [HM.out]
      go_wp2_with fail
      refine (iCarried B n cap k a l w1 hk (by omega) (by omega) (H.out.on (hb1.mono hB)) HP.out (Nat.le_trans hB hb1.size)).mono ?_
      rintro e w2 ⟨v, rfl, hown, hb2⟩
      have HO := Lib.hid (show Own w (turnC k l) v w2 from ⟨own_below hown hb1.size, hb1.trans (hb2.mono hb1.size)⟩)
      clear hown
      go_wp2
      go_ret2
      exact ⟨_, rfl, HO.out⟩
    | false =>
      have HT := Lib.hid (turnS_no (m := m) (l := l) (by rw [h, hm]; rfl))
      have HS := Lib.hid h
      have HM := Lib.hid hm
      clear h hm
      rw [HT.out]
      go_enter Try.func15, Try.ntmps15
      go_wp2_with fail
      refine (iIsShape B n cap a l w hn H.out hB).mono ?_
      rintro e w1 ⟨rfl, hb1⟩
      rw [HS.out]
      go_wp2_with fail
      refine (iIsMotion m w1).mono ?_
      rintro e w2 ⟨rfl, rfl⟩
      rw [HM.out]
      go_wp2
      go_ret2
      exact ⟨_, rfl, own_nil _ _, hb1⟩
  | false =>
    have HT := Lib.hid (turnS_no (m := m) (l := l) (by rw [h]; rfl))
    have HS := Lib.hid h
    clear h
    rw [HT.out]
    go_enter Try.func15, Try.ntmps15
    go_wp2_with fail
    refine (iIsShape B n cap a l w hn H.out hB).mono ?_
    rintro e w1 ⟨rfl, hb1⟩
    rw [HS.out]
    go_wp2
    go_ret2
    exact ⟨_, rfl, own_nil _ _, hb1⟩

end Go.Proofs.Ytiopnldddgikiaa
