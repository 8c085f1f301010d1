/-
  Cells moved to the corner and put in order, in the program: what the call gives.
-/
import Derived.Test.YthnapikklolgcaaJtu
import Derived.Test.YthnapikklolgcaaMon
namespace Go.Proofs.Ythnapikklolgcaa
open Go.RowKit

set_option maxHeartbeats 2000000 in
set_option maxRecDepth 100000 in
theorem iSortedIn (B n cap : Nat) (a : Option Addr) (L : List Cl) (w : World) (h1 : 0 < n) (hn : n ≤ 1048576) (hc : CellsAt B w a n L) (hp : ∀ c ∈ L, inW c) (hB : B ≤ w.heap.size) :
    Calls Try.prog 109 #[.slice a n cap] w fun e w' => ∃ v, e = .returned v ∧ Own w (sortU (cornerC L)) v w' := by
  obtain ⟨i0, hi, hz0, hz1, hz2⟩ := info_parts info_cell
  have HC := Lib.hid hc
  have HMI := Lib.hid hp
  have hll := hc.1
  have hlx : lstX L = minX L := lst_min _ _ (by omega)
  have hly : lstY L = minY L := lst_min _ _ (by omega)
  have hdef : cornerC L = L.map fun c => (c.1 - minX L, c.2 - minY L) := rfl
  have bx := minTo_bdW Prod.fst L (fun j hj => by have := hp _ (getD_mem hj); unfold inW at this; omega) _ (Nat.le_refl _)
  have bY := minTo_bdW Prod.snd L (fun j hj => by have := hp _ (getD_mem hj); unfold inW at this; omega) _ (Nat.le_refl _)
  change _ ≤ minX L ∧ minX L ≤ _ at bx
  change _ ≤ minY L ∧ minY L ≤ _ at bY
  obtain ⟨f, hf⟩ : ∃ f : Cl → Cl, f = fun c => (c.1 - minX L, c.2 - minY L) := ⟨_, rfl⟩
  rw [← hf] at hdef
  have HDEF := Lib.hid hdef
  have hfx : ∀ x y, f (x, y) = (x - minX L, y - minY L) := fun x y => by rw [hf]
  have HLXY := Lib.hid (show _ ∧ _ from ⟨hlx, hly⟩)
  clear hf hdef hc hp hlx hly
  generalize minX L = a1 at bx hfx HLXY
  generalize minY L = a2 at bY hfx HLXY
  have HFX := Lib.hid hfx
  clear hfx
  go_enter Try.func109, Try.ntmps109
  go_wp2_with fail
  refine (iBounds B n cap a L w (by omega) h1 HC.out hB).mono ?_
  rintro e w2 ⟨rfl, hb2⟩
  rw [HLXY.out.1, HLXY.out.2]
  generalize grtX L = a3
  generalize grtY L = a4
  have hsz2 := hb2.size
  have HB2 := Lib.hid ((hb2.alloc hsz2 (.cells #[.int .i64 a1, .int .i64 a2] 53)).alloc (by simp; omega) (.cells #[.int .i64 a3, .int .i64 a4] 53))
  have HT2 := Lib.hid ((Two.new (w := w2) a1 a2 rfl).alloc (.cells #[.int .i64 a3, .int .i64 a4] 53))
  obtain ⟨W, hW⟩ : ∃ W, (w2.alloc (.cells #[.int .i64 a1, .int .i64 a2] 53)).alloc (.cells #[.int .i64 a3, .int .i64 a4] 53) = W := ⟨_, rfl⟩
  rw [hW] at HB2 HT2
  obtain ⟨lb, hlb⟩ : ∃ lb, w2.heap.size = lb := ⟨_, rfl⟩
  rw [hlb] at HT2
  clear hb2
  have hbW := HB2.out.size
  go_wp2_with (first | (at_make; refine wpList_make_full _ rfl _ _ 24 rfl W.heap.size 53 i0 (.agg #[.int .i64 0, .int .i64 0]) 2 Try.underlying24 hi hz0 hz1 _ _ _ _ n rfl rfl rfl rfl ?b2 ?b3 (Nat.le_refl _) ?_) | go_in)
  case b2 => rw [hz2]; omega
  case b3 => unfold maxLen; omega
  intro w0 hown0 hgrow0
  have hlbW := HT2.out.lt
  have HB0 := Lib.hid (HB2.out.grown hgrow0 hbW (fun k h => by cases h))
  have HT0 := Lib.hid (HT2.out.on (show Below W.heap.size W w0 from (Below.refl _ _).grown hgrow0 (Nat.le_refl _) (fun k h => by cases h)) hlbW)
  obtain ⟨G, hG⟩ : ∃ G, W.heap.size = G := ⟨_, rfl⟩
  rw [made_cells n, hG] at hown0
  have HO0 := Lib.hid hown0
  rw [hG] at hlbW hbW
  clear hown0 hgrow0 HB2 HT2
  go_wp2
  (try rw [hG])
  clear hW hlb hG
  go_loopw [18] (fun i wr => ∃ j : Nat, j ≤ n ∧ i = .int .i64 j ∧ Hid (wr.ownsRow G 53 2 (.slice (some ⟨G, 0, none⟩) n n) n (cvs ((L.take j).map f ++ List.replicate (n - j) (0, 0)))) ∧ Hid (Two wr lb a1 a2) ∧ Below w.heap.size w wr) (fun i _ => n - (intOf i).toNat)
  case atStart => exact ⟨0, by omega, rfl, by simpa [Hid] using HO0.out, HT0.out, HB0.out⟩
  case round =>
    obtain ⟨j, hj, rfl, hown, htw, hb⟩ := hrel
    have hsz3 := hb.size
    clear HO0 HT0 HB0
    by_cases hlt : j < n
    · obtain ⟨b1, o1, rfl, hb1', hc1⟩ := HC.out.2.2 (by omega)
      have hLl : j < L.length := by omega
      have hlen : j < ((L.take j).map f ++ List.replicate (n - j) ((0 : Int), (0 : Int))).length := by simp; omega
      obtain ⟨x, y, hxy⟩ : ∃ x y, L.getD j (0, 0) = (x, y) := ⟨_, _, rfl⟩
      have hin := HMI.out _ (getD_mem hLl)
      rw [hxy] at hin
      unfold inW at hin
      dsimp only at hin
      have p1 := (hb.cell (p := ⟨b1, o1 + j * 2, none⟩) (Nat.lt_of_lt_of_le hb1' hB)).trans (hc1 j hlt).1
      have p2 := (hb.cell (p := ⟨b1, o1 + j * 2 + 1, none⟩) (Nat.lt_of_lt_of_le hb1' hB)).trans (hc1 j hlt).2
      rw [hxy] at p1 p2
      have hfill := fill_map f L j n hlt hll
      rw [hxy, HFX.out] at hfill
      have HFI := Lib.hid hfill
      have hg := cvs_get _ j hlen
      have c0 := hown.out.cellAt (j * 2) (by omega)
      have c1 := hown.out.cellAt (j * 2 + 1) (by omega)
      rw [hg.1] at c0
      rw [hg.2] at c1
      have f0 := hown.out.frozenAt (j * 2)
      have f1 := hown.out.frozenAt (j * 2 + 1)
      have hs1 := hown.out.stored (j * 2) (.int .i64 (x - a1))
      have hs2 := hs1.1.stored (j * 2 + 1) (.int .i64 (y - a2))
      have hO := hs2.1
      have hset := cvs_set _ j (x - a1, y - a2) hlen
      dsimp only at hset
      rw [hset, HFI.out] at hO
      have hgl2 := (hown.out.lt G rfl).2
      have t0 := htw.out.c0
      have t1 := htw.out.c1
      have hlbl := htw.out.lt
      have hnlb : G ≠ lb := by omega
      have HBB := Lib.hid (((hb.setCell (p := ⟨G, j * 2, none⟩) (by show w.heap.size ≤ G; omega) (.int .i64 (x - a1))).setCell (p := ⟨G, j * 2 + 1, none⟩) (by show w.heap.size ≤ G; omega) (.int .i64 (y - a2))).alloc (by simp [World.setCell]; omega) (.cells #[.int .i64 x, .int .i64 y] 53))
      have HOO := Lib.hid (hO.alloc (.cells #[.int .i64 x, .int .i64 y] 53))
      have HTT := Lib.hid (((htw.out.far (j := j * 2) (v := .int .i64 (x - a1)) hnlb).far (j := j * 2 + 1) (v := .int .i64 (y - a2)) hnlb).alloc (.cells #[.int .i64 x, .int .i64 y] 53))
      have hx1 : IntKind.i64.wrap (x - a1) = x - a1 := IntWalk.i64_in _ (by omega)
      have hy1 : IntKind.i64.wrap (y - a2) = y - a2 := IntWalk.i64_in _ (by omega)
      have hk0 : (0 : Int) ≤ (j : Int) := by omega
      have hk1 : (j : Int) < (n : Int) := by omega
      have hne : G ≠ wr.heap.size := by omega
      have hne2 : lb ≠ wr.heap.size := by omega
      clear hxy hfill hg hs1 hs2 hO hset hown htw hb hlen hc1
      go_wp2
      go_roundw
      case rel => exact ⟨j + 1, by omega, by go_num, HOO.out, HTT.out, HBB.out⟩
      case measure => simp [intOf]; omega
    · obtain rfl : j = n := by omega
      have e : (L.take j).map f ++ List.replicate (j - j) ((0 : Int), (0 : Int)) = cornerC L := by
        rw [List.take_of_length_le (by omega), Nat.sub_self, List.replicate_zero, List.append_nil]
        exact HDEF.out.symm
      rw [e] at hown
      have hci : ∀ c ∈ cornerC L, InC c := by
        rw [HDEF.out]
        intro c hc
        obtain ⟨⟨x, y⟩, hd, rfl⟩ := List.mem_map.1 hc
        rw [HFX.out]
        have := HMI.out _ hd
        unfold inW at this
        unfold InC
        dsimp only at *
        omega
      have HCI := Lib.hid hci
      clear hci e
      go_wp2_with fail
      refine (iSortO G G j j (cornerC L) wr (by omega) HCI.out hown.out).mono ?_
      rintro e w3 ⟨v, rfl, hown3, hb3⟩
      have HR := Lib.hid (show Own w (sortU (cornerC L)) v w3 from ⟨own_below hown3 hsz3, hb.trans (hb3.mono hsz3)⟩)
      clear hown3 hb3
      go_wp2
      go_ret
      exact ⟨_, rfl, HR.out⟩

end Go.Proofs.Ythnapikklolgcaa
