/-
  Cells moved to the corner and put in order, in the program: what the call gives.
  Shapes turned, in the program: the cells carried, moved to the corner, put in order.
  Orientations, the canonical one, congruence, in the program: what the calls give.
  Numbers appended to numbers: the law at an operation.
-/
import Derived.Test.YtkcclhnligajeaaGreatDoorVba
import Derived.Test.YtkcclhnligajeaaGreatDoorVau
import Derived.Test.YtkcclhnligajeaaGreatDoorVaz
import Derived.Test.YtkcclhnligajeaaGreatDoorVae
import Derived.Test.YtkcclhnligajeaaGreatDoorVav
import Derived.Test.YtkcclhnligajeaaGreatDoorVat
import Derived.Laws.AppendOwnNone
namespace Go.Proofs.YtkcclhnligajeaaGreatDoor

section
open Go.RowKit

set_option maxHeartbeats 2000000 in
set_option maxRecDepth 100000 in
theorem iSortedIn (B n cap : Nat) (a : Option Addr) (L : List Cl) (w : World) (h1 : 0 < n) (hn : n ≤ 1048576) (hc : CellsAt B w a n L) (hp : ∀ c ∈ L, inW c) (hB : B ≤ w.heap.size) :
    Calls Tryz.prog 207 #[.slice a n cap] w fun e w' => ∃ v, e = .returned v ∧ Own w (sortU (cornerC L)) v w' := by
  obtain ⟨i0, hi, hz0, hz1, hz2⟩ := info_parts info_cell
  have HC := Lib.hid hc
  have HMI := Lib.hid hp
  have hll := hc.1
  have hlx : lstX L = minX L := lst_min _ _ (by omega)
  have hly : lstY L = minY L := lst_min _ _ (by omega)
  have hdef : cornerC L = L.map fun c => (c.1 - minX L, c.2 - minY L) := rfl
  have bx := minTo_bdW Prod.fst L (fun j hj => by have := hp _ (getD_mem hj); unfold inW at this; omega) _ (Nat.le_refl _)
  have bY := minTo_bdW Prod.snd L (fun j hj => by have := hp _ (getD_mem hj); unfold inW at this; omega) _ (Nat.le_refl _)
  change _ ≤ minX L ∧ minX L ≤ _ at bx
  change _ ≤ minY L ∧ minY L ≤ _ at bY
  obtain ⟨f, hf⟩ : ∃ f : Cl → Cl, f = fun c => (c.1 - minX L, c.2 - minY L) := ⟨_, rfl⟩
  rw [← hf] at hdef
  have HDEF := Lib.hid hdef
  have hfx : ∀ x y, f (x, y) = (x - minX L, y - minY L) := fun x y => by rw [hf]
  have HLXY := Lib.hid (show _ ∧ _ from ⟨hlx, hly⟩)
  clear hf hdef hc hp hlx hly
  generalize minX L = a1 at bx hfx HLXY
  generalize minY L = a2 at bY hfx HLXY
  have HFX := Lib.hid hfx
  clear hfx
  go_enter Tryz.func207, Tryz.ntmps207
  go_wp2_with fail
  refine (iBounds B n cap a L w (by omega) h1 HC.out hB).mono ?_
  rintro e w2 ⟨rfl, hb2⟩
  rw [HLXY.out.1, HLXY.out.2]
  generalize grtX L = a3
  generalize grtY L = a4
  have hsz2 := hb2.size
  have HB2 := Lib.hid ((hb2.alloc hsz2 (.cells #[.int .i64 a1, .int .i64 a2] 126)).alloc (by simp; omega) (.cells #[.int .i64 a3, .int .i64 a4] 126))
  have HT2 := Lib.hid ((Two.new (w := w2) a1 a2 rfl).alloc (.cells #[.int .i64 a3, .int .i64 a4] 126))
  obtain ⟨W, hW⟩ : ∃ W, (w2.alloc (.cells #[.int .i64 a1, .int .i64 a2] 126)).alloc (.cells #[.int .i64 a3, .int .i64 a4] 126) = W := ⟨_, rfl⟩
  rw [hW] at HB2 HT2
  obtain ⟨lb, hlb⟩ : ∃ lb, w2.heap.size = lb := ⟨_, rfl⟩
  rw [hlb] at HT2
  clear hb2
  have hbW := HB2.out.size
  go_wp2_with (first | (at_make; refine wpList_make_full _ rfl _ _ 76 rfl W.heap.size 126 i0 (.agg #[.int .i64 0, .int .i64 0]) 2 Tryz.underlying76 hi hz0 hz1 _ _ _ _ n rfl rfl rfl rfl ?b2 ?b3 (Nat.le_refl _) ?_) | go_in)
  case b2 => rw [hz2]; omega
  case b3 => unfold maxLen; omega
  intro w0 hown0 hgrow0
  have hlbW := HT2.out.lt
  have HB0 := Lib.hid (HB2.out.grown hgrow0 hbW (fun k h => by cases h))
  have HT0 := Lib.hid (HT2.out.on (show Below W.heap.size W w0 from (Below.refl _ _).grown hgrow0 (Nat.le_refl _) (fun k h => by cases h)) hlbW)
  obtain ⟨G, hG⟩ : ∃ G, W.heap.size = G := ⟨_, rfl⟩
  rw [made_cells n, hG] at hown0
  have HO0 := Lib.hid hown0
  rw [hG] at hlbW hbW
  clear hown0 hgrow0 HB2 HT2
  go_wp2
  (try rw [hG])
  clear hW hlb hG
  go_loopw [18] (fun i wr => ∃ j : Nat, j ≤ n ∧ i = .int .i64 j ∧ Hid (wr.ownsRow G 126 2 (.slice (some ⟨G, 0, none⟩) n n) n (cvs ((L.take j).map f ++ List.replicate (n - j) (0, 0)))) ∧ Hid (Two wr lb a1 a2) ∧ Below w.heap.size w wr) (fun i _ => n - (intOf i).toNat)
  case atStart => exact ⟨0, by omega, rfl, by simpa [Hid] using HO0.out, HT0.out, HB0.out⟩
  case round =>
    obtain ⟨j, hj, rfl, hown, htw, hb⟩ := hrel
    have hsz3 := hb.size
    clear HO0 HT0 HB0
    by_cases hlt : j < n
    · obtain ⟨b1, o1, rfl, hb1', hc1⟩ := HC.out.2.2 (by omega)
      have hLl : j < L.length := by omega
      have hlen : j < ((L.take j).map f ++ List.replicate (n - j) ((0 : Int), (0 : Int))).length := by simp; omega
      obtain ⟨x, y, hxy⟩ : ∃ x y, L.getD j (0, 0) = (x, y) := ⟨_, _, rfl⟩
      have hin := HMI.out _ (getD_mem hLl)
      rw [hxy] at hin
      unfold inW at hin
      dsimp only at hin
      have p1 := (hb.cell (p := ⟨b1, o1 + j * 2, none⟩) (Nat.lt_of_lt_of_le hb1' hB)).trans (hc1 j hlt).1
      have p2 := (hb.cell (p := ⟨b1, o1 + j * 2 + 1, none⟩) (Nat.lt_of_lt_of_le hb1' hB)).trans (hc1 j hlt).2
      rw [hxy] at p1 p2
      have hfill := fill_map f L j n hlt hll
      rw [hxy, HFX.out] at hfill
      have HFI := Lib.hid hfill
      have hg := cvs_get _ j hlen
      have c0 := hown.out.cellAt (j * 2) (by omega)
      have c1 := hown.out.cellAt (j * 2 + 1) (by omega)
      rw [hg.1] at c0
      rw [hg.2] at c1
      have f0 := hown.out.frozenAt (j * 2)
      have f1 := hown.out.frozenAt (j * 2 + 1)
      have hs1 := hown.out.stored (j * 2) (.int .i64 (x - a1))
      have hs2 := hs1.1.stored (j * 2 + 1) (.int .i64 (y - a2))
      have hO := hs2.1
      have hset := cvs_set _ j (x - a1, y - a2) hlen
      dsimp only at hset
      rw [hset, HFI.out] at hO
      have hgl2 := (hown.out.lt G rfl).2
      have t0 := htw.out.c0
      have t1 := htw.out.c1
      have hlbl := htw.out.lt
      have hnlb : G ≠ lb := by omega
      have HBB := Lib.hid (((hb.setCell (p := ⟨G, j * 2, none⟩) (by show w.heap.size ≤ G; omega) (.int .i64 (x - a1))).setCell (p := ⟨G, j * 2 + 1, none⟩) (by show w.heap.size ≤ G; omega) (.int .i64 (y - a2))).alloc (by simp [World.setCell]; omega) (.cells #[.int .i64 x, .int .i64 y] 126))
      have HOO := Lib.hid (hO.alloc (.cells #[.int .i64 x, .int .i64 y] 126))
      have HTT := Lib.hid (((htw.out.far (j := j * 2) (v := .int .i64 (x - a1)) hnlb).far (j := j * 2 + 1) (v := .int .i64 (y - a2)) hnlb).alloc (.cells #[.int .i64 x, .int .i64 y] 126))
      have hx1 : IntKind.i64.wrap (x - a1) = x - a1 := IntWalk.i64_in _ (by omega)
      have hy1 : IntKind.i64.wrap (y - a2) = y - a2 := IntWalk.i64_in _ (by omega)
      have hk0 : (0 : Int) ≤ (j : Int) := by omega
      have hk1 : (j : Int) < (n : Int) := by omega
      have hne : G ≠ wr.heap.size := by omega
      have hne2 : lb ≠ wr.heap.size := by omega
      clear hxy hfill hg hs1 hs2 hO hset hown htw hb hlen hc1
      go_wp2
      go_roundw
      case rel => exact ⟨j + 1, by omega, by go_num, HOO.out, HTT.out, HBB.out⟩
      case measure => simp [intOf]; omega
    · obtain rfl : j = n := by omega
      have e : (L.take j).map f ++ List.replicate (j - j) ((0 : Int), (0 : Int)) = cornerC L := by
        rw [List.take_of_length_le (by omega), Nat.sub_self, List.replicate_zero, List.append_nil]
        exact HDEF.out.symm
      rw [e] at hown
      have hci : ∀ c ∈ cornerC L, InC c := by
        rw [HDEF.out]
        intro c hc
        obtain ⟨⟨x, y⟩, hd, rfl⟩ := List.mem_map.1 hc
        rw [HFX.out]
        have := HMI.out _ hd
        unfold inW at this
        unfold InC
        dsimp only at *
        omega
      have HCI := Lib.hid hci
      clear hci e
      go_wp2_with fail
      refine (iSortO G G j j (cornerC L) wr (by omega) HCI.out hown.out).mono ?_
      rintro e w3 ⟨v, rfl, hown3, hb3⟩
      have HR := Lib.hid (show Own w (sortU (cornerC L)) v w3 from ⟨own_below hown3 hsz3, hb.trans (hb3.mono hsz3)⟩)
      clear hown3 hb3
      go_wp2
      go_ret
      exact ⟨_, rfl, HR.out⟩
end

section
open Go.RowKit

set_option maxHeartbeats 2000000 in
set_option maxRecDepth 100000 in
theorem iCarried (B n cap m : Nat) (a : Option Addr) (l : List Cl) (w : World) (hm : m ≤ 7) (h1 : 0 < n) (hn : n ≤ 8) (hc : CellsAt B w a n l) (hp : ∀ c ∈ l, inP c = true) (hB : B ≤ w.heap.size) :
    Calls Tryz.prog 187 #[.slice a n cap, .func (.func 188) #[.int .i64 m] #[]] w fun e w' => ∃ v, e = .returned v ∧ Own w (turnC m l) v w' := by
  have eg : ∀ args w, (callFunc 188 args).run Tryz.prog w = .ok (.enter 188 args) w := enters_of Tryz.func188 (by kernel_rfl) rfl
  obtain ⟨i0, hi, hz0, hz1, hz2⟩ := info_parts info_cell
  have H := Lib.hid hc
  have HP := Lib.hid hp
  have HT := Lib.hid (turnC_prog m (l := l) (by rw [hc.1]; exact h1))
  clear hc hp
  go_enter Tryz.func187, Tryz.ntmps187
  go_wp2_with (first | (at_make; refine wpList_make_full _ rfl _ _ 76 rfl w.heap.size 126 i0 (.agg #[.int .i64 0, .int .i64 0]) 2 Tryz.underlying76 hi hz0 hz1 _ _ _ _ n rfl rfl rfl rfl ?b2 ?b3 (Nat.le_refl _) ?_) | go_in)
  case b2 => rw [hz2]; omega
  case b3 => unfold maxLen; omega
  intro w0 hown0 hgrow0
  have hb0 := ((Below.refl w.heap.size w).grown hgrow0 (Nat.le_refl _) (fun k h => by cases h))
  go_wp2
  go_loopw [13] (fun i wr => ∃ k : Nat, k ≤ n ∧ i = .int .i64 k ∧ wr.ownsRow w.heap.size 126 2 (.slice (some ⟨w.heap.size, 0, none⟩) n n) n (cvs ((l.take k).map (apM m) ++ List.replicate (n - k) (0, 0))) ∧ Below w.heap.size w wr) (fun i _ => n - (intOf i).toNat)
  case atStart => exact ⟨0, by omega, rfl, by rw [made_cells n] at hown0; simpa using hown0, hb0⟩
  case round =>
    obtain ⟨k, hk, rfl, hown, hb⟩ := hrel
    have hsz := hb.size
    clear hown0 hgrow0 hb0
    by_cases hlt : k < n
    · obtain ⟨b1, o1, rfl, hb1', hc1⟩ := H.out.2.2 (by omega)
      obtain ⟨x, y, hxy⟩ : ∃ x y, l.getD k (0, 0) = (x, y) := ⟨_, _, rfl⟩
      have p1 := (hb.cell (p := ⟨b1, o1 + k * 2, none⟩) (Nat.lt_of_lt_of_le hb1' hB)).trans (hc1 k hlt).1
      have p2 := (hb.cell (p := ⟨b1, o1 + k * 2 + 1, none⟩) (Nat.lt_of_lt_of_le hb1' hB)).trans (hc1 k hlt).2
      rw [hxy] at p1 p2
      have hpx := HP.out _ (getD_mem (l := l) (j := k) (by rw [H.out.1]; exact hlt))
      rw [hxy] at hpx
      have hin := apM_in m (inR_of_inP hpx)
      obtain ⟨X, Y, hXY⟩ : ∃ X Y, apM m (x, y) = (X, Y) := ⟨_, _, rfl⟩
      have hfill := fill_map (apM m) l k n hlt H.out.1
      rw [hxy, hXY] at hfill
      have HFI := Lib.hid hfill
      have HXY := Lib.hid hXY
      have hk0 : (0 : Int) ≤ (k : Int) := by omega
      have hk1 : (k : Int) < (n : Int) := by omega
      have hgl := (hown.lt w.heap.size rfl).2
      have hlen : k < ((l.take k).map (apM m) ++ List.replicate (n - k) ((0 : Int), (0 : Int))).length := by have := H.out.1; simp; omega
      have HOWN := Lib.hid (hown.alloc (.cells #[.int .i64 x, .int .i64 y] 126))
      have HB := Lib.hid (hb.alloc hsz (.cells #[.int .i64 x, .int .i64 y] 126))
      clear hxy hXY hc1 hfill hown hb
      go_wp2_with fail
      refine (iCarry x y m _ hm (by have := inR_of_inP hpx; unfold inR at *; omega)).mono ?_
      rintro e w1 ⟨rfl, -, hb1⟩
      rw [HXY.out]
      dsimp only
      have hown1 := HOWN.out.kept (grow_below hb1 none) (.inr (by intro e; cases e))
      have HB1 := Lib.hid (HB.out.trans (hb1.mono HB.out.size))
      have hg := cvs_get _ k hlen
      have c0 := hown1.cellAt (k * 2) (by omega)
      have c1 := hown1.cellAt (k * 2 + 1) (by omega)
      rw [hg.1] at c0
      rw [hg.2] at c1
      have f0 := hown1.frozenAt (k * 2)
      have f1 := hown1.frozenAt (k * 2 + 1)
      have hs1 := hown1.stored (k * 2) (.int .i64 X)
      have hs2 := hs1.1.stored (k * 2 + 1) (.int .i64 Y)
      have hO := hs2.1
      have hset := cvs_set _ k (X, Y) hlen
      dsimp only at hset
      rw [hset, HFI.out] at hO
      have HOO := Lib.hid hO
      have HBB := Lib.hid ((HB1.out.setCell (p := ⟨w.heap.size, k * 2, none⟩) (Nat.le_refl _) (.int .i64 X)).setCell (p := ⟨w.heap.size, k * 2 + 1, none⟩) (Nat.le_refl _) (.int .i64 Y))
      clear hg hs1 hs2 hb1 hown1 hlen hset hO p1 p2
      go_wp2
      go_roundw
      case rel => exact ⟨k + 1, by omega, by go_num, HOO.out, HBB.out⟩
      case measure => simp [intOf]; omega
    · obtain rfl : k = n := by omega
      have e : (l.take k).map (apM m) ++ List.replicate (k - k) ((0 : Int), (0 : Int)) = l.map (apM m) := by
        rw [List.take_of_length_le (by rw [H.out.1]; exact Nat.le_refl _)]
        simp
      rw [e] at hown
      have hmi := map_apM_in m l HP.out
      have hll : (l.map (apM m)).length = k := by rw [List.length_map, H.out.1]
      obtain ⟨L, hL⟩ : ∃ L, l.map (apM m) = L := ⟨_, rfl⟩
      rw [hL] at hown hmi hll HT
      have HA := Lib.hid (CellsAt.of_own hown (fun c hc => by have := hmi c hc; unfold inR at this; exact inC_ofs (by omega) (by omega)))
      have HMI := Lib.hid (show ∀ c ∈ L, inW c from fun c hc => by have := hmi c hc; unfold inR at this; unfold inW; omega)
      have HB1 := Lib.hid hb
      clear hown hmi hb e hL
      go_wp2_with fail
      refine (iSortedIn wr.heap.size k k _ L wr h1 (by omega) (by rw [← hll]; rw [hll]; exact HA.out) HMI.out (Nat.le_refl _)).mono ?_
      rintro e w3 ⟨v, rfl, hown3, hb3⟩
      have HR := Lib.hid (show Own w (turnC m l) v w3 from ⟨by rw [HT.out]; exact own_below hown3 hsz, HB1.out.trans (hb3.mono hsz)⟩)
      clear hown3 hb3
      go_wp2
      go_ret
      exact ⟨_, rfl, HR.out⟩

set_option maxHeartbeats 1000000 in
set_option maxRecDepth 100000 in
theorem iTurn (B n cap : Nat) (a : Option Addr) (l : List Cl) (m : Int) (w : World) (hn : n ≤ 4194304) (hc : CellsAt B w a n l) (hB : B ≤ w.heap.size) :
    Calls Tryz.prog 164 #[.slice a n cap, .int .i64 m] w fun e w' => ∃ v, e = .returned (.tuple #[v, .bool (isShape l && inb m 0 7)]) ∧ Own w (turnS m l) v w' := by
  have H := Lib.hid hc
  clear hc
  cases h : isShape l with
  | true =>
    have hl := ((isShape_iff l).1 h).1
    rw [H.out.1] at hl
    cases hm : inb m 0 7 with
    | true =>
      obtain ⟨k, rfl, hk⟩ := inb_nat hm
      have HT := Lib.hid (turnS_yes h hk).1
      have HP := Lib.hid (isShape_in h)
      have HS := Lib.hid h
      have HM := Lib.hid hm
      clear h hm
      rw [HT.out]
      go_enter Tryz.func164, Tryz.ntmps164
      go_wp2_with fail
      refine (iIsShape B n cap a l w hn H.out hB).mono ?_
      rintro e w1 ⟨rfl, hb1⟩
      rw [HS.out]
      go_wp2_with fail
      refine (iIsMotion (k : Int) w1).mono ?_
      rintro e w2 ⟨rfl, rfl⟩
      rw [HM.out]
      go_wp2_with fail
      refine (iCarried B n cap k a l w1 hk (by omega) (by omega) (H.out.on (hb1.mono hB)) HP.out (Nat.le_trans hB hb1.size)).mono ?_
      rintro e w2 ⟨v, rfl, hown, hb2⟩
      have HO := Lib.hid (show Own w (turnC k l) v w2 from ⟨own_below hown hb1.size, hb1.trans (hb2.mono hb1.size)⟩)
      clear hown
      go_wp2
      go_ret2
      exact ⟨_, rfl, HO.out⟩
    | false =>
      have HT := Lib.hid (turnS_no (m := m) (l := l) (by rw [h, hm]; rfl))
      have HS := Lib.hid h
      have HM := Lib.hid hm
      clear h hm
      rw [HT.out]
      go_enter Tryz.func164, Tryz.ntmps164
      go_wp2_with fail
      refine (iIsShape B n cap a l w hn H.out hB).mono ?_
      rintro e w1 ⟨rfl, hb1⟩
      rw [HS.out]
      go_wp2_with fail
      refine (iIsMotion m w1).mono ?_
      rintro e w2 ⟨rfl, rfl⟩
      rw [HM.out]
      go_wp2
      go_ret2
      exact ⟨_, rfl, own_nil _ _, hb1⟩
  | false =>
    have HT := Lib.hid (turnS_no (m := m) (l := l) (by rw [h]; rfl))
    have HS := Lib.hid h
    clear h
    rw [HT.out]
    go_enter Tryz.func164, Tryz.ntmps164
    go_wp2_with fail
    refine (iIsShape B n cap a l w hn H.out hB).mono ?_
    rintro e w1 ⟨rfl, hb1⟩
    rw [HS.out]
    go_wp2
    go_ret2
    exact ⟨_, rfl, own_nil _ _, hb1⟩
end

section
open Go.RowKit

theorem made_shps (n : Nat) : (madeCells #[Value.slice none 0 0] (n * 1)).toList = List.replicate n (.slice none 0 0) := by
  apply List.ext_getElem?
  intro j
  by_cases hj : j < n
  · simp [madeCells, hj, Nat.mod_one]
  · rw [List.getElem?_eq_none (by simp [madeCells]; omega), List.getElem?_eq_none (by simp; omega)]
theorem ss_fill (es : List Ent) (e : Ent) (k n : Nat) (hl : es.length = k) (h : k < n) : (es.map ev ++ List.replicate (n - k) (Value.slice none 0 0)).set k (ev e) = (es ++ [e]).map ev ++ List.replicate (n - (k + 1)) (.slice none 0 0) := by
  have e1 : n - k = (n - (k + 1)) + 1 := by omega
  rw [e1, List.replicate_succ, List.set_append_right _ _ (by simp; omega), List.length_map, hl, Nat.sub_self, List.set_cons_zero, List.map_append, List.append_assoc]
  rfl
/-- A slice of the call's own, not empty, written out. -/
theorem own_some {w : World} {B n : Nat} {t : TypeId} {size : Nat} {v : Value} {xs : List Value} (h : w.ownsRow B t size v n xs) (hn : 0 < n) : ∃ g cap, v = .slice (some ⟨g, 0, none⟩) n cap := by
  rcases h.2 with ⟨_, h0⟩ | ⟨g, cap, cur, rfl, _⟩
  · omega
  · exact ⟨g, cap, rfl⟩
/-- Shapes of the call's own. -/
def GivesS (w : World) (L : List (List Cl)) (e : Ending) (w' : World) : Prop := ∃ v es, e = .returned v ∧ es.map kE = L ∧ SmallS es ∧ OwnS w.heap.size w' v es ∧ Below w.heap.size w w'
theorem ownS_nil (B : Nat) (w : World) : OwnS B w (.slice none 0 0) [] := ⟨World.ownsRow_nil w B _ _, fun e he => (by cases he), List.Pairwise.nil, fun e he => (by cases he)⟩

set_option maxHeartbeats 2000000 in
set_option maxRecDepth 100000 in
theorem iOrient (B n cap : Nat) (a : Option Addr) (l : List Cl) (w : World) (hn : n ≤ 4194304) (hc : CellsAt B w a n l) (hB : B ≤ w.heap.size) :
    Calls Tryz.prog 141 #[.slice a n cap] w (GivesS w (orientS l)) := by
  have H := Lib.hid hc
  clear hc
  cases h : isShape l with
  | false =>
    have HO : Hid (orientS l = []) := if_neg (by rw [h]; simp)
    have HS := Lib.hid h
    clear h
    rw [HO.out]
    go_enter Tryz.func141, Tryz.ntmps141
    go_wp2_with fail
    refine (iIsShape B n cap a l w hn H.out hB).mono ?_
    rintro e w1 ⟨rfl, hb1⟩
    rw [HS.out]
    have HR := Lib.hid (show GivesS w [] (.returned (.slice none 0 0)) w1 from ⟨_, [], rfl, rfl, fun e he => (by cases he), ownS_nil _ _, hb1⟩)
    go_wp2
    go_ret
    exact HR.out
  | true =>
    have hl := ((isShape_iff l).1 h).1
    have hpos : ∀ k, 0 < (turnC k l).length := fun k => turnC_pos k (by omega)
    have hsmall : ∀ k, (turnC k l).length ≤ 8 := fun k => Nat.le_trans (turnC_len k l) hl.2
    have HIN := Lib.hid (fun k => turnC_inC (isShape_in h) k)
    have HO : Hid (orientS l = sortG ltS [] (turnsC l 8)) := if_pos h
    have HTS := Lib.hid (fun (k : Nat) (hk : k ≤ 7) => (turnS_yes h hk).1)
    have HS := Lib.hid h
    obtain ⟨i0, hi, hz0, hz1, hz2⟩ := shps_size
    clear h
    rw [HO.out]
    go_enter Tryz.func141, Tryz.ntmps141
    go_wp2_with fail
    refine (iIsShape B n cap a l w hn H.out hB).mono ?_
    rintro e w1 ⟨rfl, hb1⟩
    rw [HS.out]
    go_wp2_with (first | (at_make; refine wpList_make_full _ rfl _ _ 27 rfl w1.heap.size 76 i0 (.slice none 0 0) 1 Tryz.underlying27 hi hz0 hz1 _ _ _ _ 8 rfl rfl rfl rfl ?b2 ?b3 (Nat.le_refl _) ?_) | go_in)
    case b2 => rw [hz2]; omega
    case b3 => unfold maxLen; omega
    intro w0 hown0 hgrow0
    have HB0 := Lib.hid (hb1.grown hgrow0 hb1.size (fun k h => by cases h))
    have hlt0 : w1.heap.size < w0.heap.size := (hown0.lt w1.heap.size rfl).2
    have hb1s := hb1.size
    obtain ⟨G, hG⟩ : ∃ G, w1.heap.size = G := ⟨_, rfl⟩
    have hG' := hG
    have HRW0 : Hid (w0.ownsRow G 76 1 (.slice (some ⟨G, 0, none⟩) 8 8) 8 (List.replicate 8 (.slice none 0 0))) := by
      rw [← hG']
      have h9 := made_shps 8
      change (madeCells #[Value.slice none 0 0] 8).toList = _ at h9
      rw [h9] at hown0
      exact hown0
    rw [hG] at hlt0 hb1s
    clear hown0 hgrow0 hb1
    go_wp2
    (try rw [hG])
    clear hG hG'
    go_loopw [11] (fun i wr => ∃ (k : Nat) (es : List Ent), k ≤ 8 ∧ i = .int .i64 k ∧ Hid (es.map kE = turnsC l k) ∧ Hid (wr.ownsRow G 76 1 (.slice (some ⟨G, 0, none⟩) 8 8) 8 (es.map ev ++ List.replicate (8 - k) (.slice none 0 0))) ∧ Hid (EachS (G + 1) wr es) ∧ Hid (ApartS es) ∧ G < wr.heap.size ∧ Below w.heap.size w wr) (fun i _ => 8 - (intOf i).toNat)
    case atStart => exact ⟨0, [], by omega, rfl, by exact rfl, HRW0.out, fun e he => (by cases he), List.Pairwise.nil, hlt0, HB0.out⟩
    case round =>
      obtain ⟨k, es, hk, rfl, hm, hrow, hea, hap, hGl, hb⟩ := hrel
      have hsz := hb.size
      have hel : es.length = k := by have := congrArg List.length hm.out; rwa [List.length_map, turnsC_len] at this
      clear HRW0 HB0
      by_cases hlt : k < 8
      · have hk0 : (0 : Int) ≤ (k : Int) := by omega
        have hk1 : (k : Int) < 8 := by omega
        go_wp2_with fail
        refine (iTurn B n cap a l (k : Int) wr hn (H.out.on (hb.mono hB)) (Nat.le_trans hB hsz)).mono ?_
        rintro e w2 ⟨v, rfl, hown2, hb2⟩
        rw [HTS.out k (by omega)] at hown2
        obtain ⟨b, c, rfl⟩ := own_some hown2 (hpos k)
        have hbl := hown2.lt b rfl
        have hGw2 : G < w2.heap.size := by omega
        have HE2 := Lib.hid (show EachS (G + 1) w2 (es ++ [(b, c, turnC k l)]) from fun e he => by
          rw [List.mem_append] at he
          rcases he with he | he
          · exact (hea.out.on hb2) e he
          · rw [List.mem_singleton] at he
            subst he
            exact own_below hown2 (by omega))
        have HA2 := Lib.hid (show ApartS (es ++ [(b, c, turnC k l)]) from by
          unfold ApartS
          rw [List.pairwise_append]
          refine ⟨hap.out, by simp, fun e he f hf => ?_⟩
          rw [List.mem_singleton] at hf
          subst hf
          have := (hea.out.lt he).2
          show e.1 ≠ b
          omega)
        have HM2 := Lib.hid (show (es ++ [(b, c, turnC k l)]).map kE = turnsC l (k + 1) from by rw [List.map_append, hm.out, turnsC_succ]; rfl)
        have hr2 := hrow.out.kept (grow_below hb2 none) (.inr (by intro e; cases e))
        have hs := hr2.stored k (.slice (some ⟨b, 0, none⟩) (turnC k l).length c)
        have hO := hs.1
        have hfill := ss_fill es (b, c, turnC k l) k 8 hel hlt
        change _ = _ at hfill
        rw [show (Value.slice (some ⟨b, 0, none⟩) (turnC k l).length c) = ev (b, c, turnC k l) from rfl, hfill] at hO
        have HOO := Lib.hid hO
        have hc0 := hr2.cellAt k (by omega)
        have hlen : k < (es.map ev ++ List.replicate (8 - k) (Value.slice none 0 0)).length := by simp; omega
        obtain ⟨u, hu⟩ : ∃ u, (es.map ev ++ List.replicate (8 - k) (Value.slice none 0 0))[k]? = some u := ⟨_, List.getElem?_eq_getElem hlen⟩
        rw [hu] at hc0
        have hf0 := hr2.frozenAt k
        have hoff : OffS G (es ++ [(b, c, turnC k l)]) := fun e he => by have := (HE2.out.lt he).1; omega
        have HEE := Lib.hid (HE2.out.by hs.2 hoff)
        have HBB := Lib.hid ((hb.trans (hb2.mono hsz)).setCell (p := ⟨G, k, none⟩) (by show w.heap.size ≤ G; omega) (.slice (some ⟨b, 0, none⟩) (turnC k l).length c))
        have hGn : G < (w2.setCell ⟨G, k, none⟩ (.slice (some ⟨b, 0, none⟩) (turnC k l).length c)).heap.size := by simp [World.setCell]; exact hGw2
        clear hown2 hr2 hs hO hfill hu hlen hrow hea hap hm hb hb2 hoff
        go_wp2
        go_roundw
        case rel => exact ⟨k + 1, _, by omega, by go_num, HM2.out, HOO.out, HEE.out, HA2.out, hGn, HBB.out⟩
        case measure => simp [intOf]; omega
      · obtain rfl : k = 8 := by omega
        have hrow8 : wr.ownsRow G 76 1 (.slice (some ⟨G, 0, none⟩) 8 8) 8 (es.map ev) := by have := hrow.out; simpa using this
        have hoff : OffS G es := fun e he => by have := (hea.out.lt he).1; omega
        have hown : OwnS G wr (.slice (some ⟨G, 0, none⟩) 8 8) es := ⟨by rw [hel]; exact hrow8, hea.out.less (by omega), hap.out, fun e he h9 => by injection h9 with h9; exact hoff e he h9.symm⟩
        have hsm : SmallS es := fun e he => by
          have h9 : kE e ∈ turnsC l 8 := by rw [← hm.out]; exact List.mem_map_of_mem he
          obtain ⟨q, _, e9⟩ := List.mem_map.1 h9
          change turnC q l = e.2.2 at e9
          rw [← e9]
          exact ⟨by have := hsmall q; omega, HIN.out q⟩
        have HSM := Lib.hid hsm
        have HOW := Lib.hid hown
        have HM := Lib.hid hm.out
        clear hrow8 hoff hown hsm hrow hea hap hm
        go_wp2_with fail
        refine (iSortS G 8 G 8 es wr (by omega) hel HOW.out HSM.out).mono ?_
        rintro e w3 ⟨rfl, fs, hperm, hpair, hown3, hg3⟩
        have hfl : fs.length = 8 := by rw [hperm.length_eq, hel]
        have hsm3 : SmallS fs := fun e he => HSM.out e (hperm.mem_iff.1 he)
        have HB3 := Lib.hid (hb.grown hg3 hsz (fun k hk => by cases hk; exact hb1s))
        have hkey : (dedE fs).map kE = sortG ltS [] (turnsC l 8) := dedK_sortG ordS [] hpair (fun x => by rw [← HM.out]; exact (hperm.map kE).mem_iff)
        have hsub : (dedE fs).Sublist fs := by
          have := dedK_sub (key := kE) (d := dE) fs fs.length (Nat.le_refl _)
          rwa [List.take_length] at this
        have HSM4 := Lib.hid (show SmallS (dedE fs) from fun e he => hsm3 e (hsub.subset he))
        have HK := Lib.hid hkey
        have HO3 := Lib.hid hown3
        have HS3 := Lib.hid hsm3
        have hG3 : G ≤ w3.heap.size := by have := hg3.size; omega
        clear hkey hsub hperm hpair hown3 hg3 hsm3 HOW HSM HM
        go_wp2_with fail
        refine (iCompactS G 8 G 8 fs w3 (by omega) hG3 hfl HO3.out HS3.out).mono ?_
        rintro e w4 ⟨q, rfl, hq, hown4, hb4⟩
        have HR := Lib.hid (show GivesS w (sortG ltS [] (turnsC l 8)) (.returned (.slice (some ⟨G, 0, none⟩) q 8)) w4 from ⟨_, dedE fs, rfl, HK.out, HSM4.out, hown4.less hb1s, HB3.out.trans (hb4.mono hb1s)⟩)
        clear hown4 hb4 hq
        go_wp2
        go_ret
        exact HR.out
end

section
open Go.RowKit

/-- Numbers of the call's own appended to numbers of the call's own, either of them nil or not. -/
theorem wpList_app {ops : Array Oper} {rest : List Oper} {o : Oper} {a : Act} {w : World} {Q : Exit → Act → World → Prop} (hgd : o.guard = none) (s x : Operand)
    (ho : o.op = .call { callee := .builtin .append, args := #[s, x], argTypes := #[24, 24] })
    (base bs n m : Nat) (v u : Value) (xs ys : List Int) (hs : a.eval s = v) (hx : a.eval x = u) (hown : w.ownsRow base 3 1 v n (iv xs)) (hsrc : w.ownsRow bs 3 1 u m (iv ys)) (h63 : n + m ≤ 8388608) (hbase : base ≤ w.heap.size)
    (h : ∀ v' w', w'.ownsRow base 3 1 v' (n + m) (iv (xs ++ ys)) → w.grownBy w' v.ownBlock → wpList Tryz.prog ops Q rest (a.put o.dst v') w') : wpList Tryz.prog ops Q (o :: rest) a w := by
  obtain ⟨i0, hi, hz0, hz1, hz2⟩ := info_parts info_int
  have hl : ys.length = m := by have := hsrc.1; rw [iv_length] at this; omega
  rcases hsrc.2 with ⟨rfl, h0⟩ | ⟨g, cap, cur, rfl, _⟩
  · subst h0
    have : ys = [] := List.eq_nil_of_length_eq_zero hl
    subst this
    refine wpList_append_own_none hgd s x _ ho base 3 i0 1 Tryz.underlying24 hi v n (iv xs) hs hown hx ?_
    exact h v w (by rw [List.append_nil]; exact hown) (World.grownBy.refl _ _)
  · have hli := own_lies hsrc 0
    rw [List.drop_zero] at hli
    refine wpList_append_own _ hgd s x _ ho base 3 i0 (.int .i64 0) 1 8 Tryz.underlying24 hi hz0 hz1 hz2 rfl (by decide) v n (iv xs) hs hown ⟨g, 0, none⟩ m cap (iv ys) hx (by rw [iv_length, hl]; omega) hli (iv_one ys) (by unfold maxLen; omega) (by omega) hbase ?_
    intro v' w' h2 h3 _
    exact h v' w' (by rw [iv_append]; exact h2) h3
end

end Go.Proofs.YtkcclhnligajeaaGreatDoor
