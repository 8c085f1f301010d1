/-
  Colours: in the model and in the program: what each call gives.
-/
import Derived.Test.YtcfioncnpfoccaaGreatDoorSr7
namespace Go.Proofs.YtcfioncnpfoccaaGreatDoor
open Go.RowKit Go.Maps

theorem colR_no1 {W k : Int} {l : List Int} (h : isReg W l = false) : colR W l k = [] := if_neg (by rw [h]; simp)
theorem colR_no2 {W k : Int} {l : List Int} (h : inb k 1 6 = false) : colR W l k = [] := if_neg (by rw [h]; simp)
theorem colR_yes {W : Int} {k : Nat} {l : List Int} (h : isReg W l = true) (h2 : inb (k : Int) 1 6 = true) : colR W l k = colTo k (cellsR W l) (cellsR W l).length := by
  unfold colR
  rw [if_pos (by rw [h, h2]; rfl)]
  rfl
theorem colR_len (W : Int) (l : List Int) (k : Int) : (colR W l k).length ≤ 6 := by
  unfold colR
  split
  · rename_i h
    rw [colTo_len]
    rw [Bool.and_eq_true] at h
    have := inb_out h.2
    omega
  · simp
theorem colTo_in (k : Nat) (cs : List Cl) (j : Nat) (h : j ≤ 36) : ∀ z ∈ colTo k cs j, In64 z := by
  intro z hz
  obtain ⟨i, hi, rfl⟩ := List.mem_iff_getElem.1 hz
  have := colTo_bd k cs j i
  rw [show (colTo k cs j).getD i 0 = (colTo k cs j)[i] from by simp [List.getD, hi]] at this
  unfold In64
  omega
theorem colR_in (W : Int) (l : List Int) (k : Int) : ∀ z ∈ colR W l k, In64 z := by
  unfold colR
  split
  · exact colTo_in _ _ _ (cellsR_len W l)
  · intro z hz; cases hz
theorem col_step (k : Nat) (cs : List Cl) (j : Nat) (x y : Nat) (h : cs.getD j (0, 0) = ((x : Int), (y : Int))) : colTo k cs (j + 1) = (colTo k cs j).set ((x + y) % k) ((colTo k cs j).getD ((x + y) % k) 0 + 1) := by
  rw [colTo, h]
  dsimp only
  rw [show ((x : Int) + (y : Int)).toNat = x + y by omega]

theorem cell_far {w : World} {g o b j : Nat} {u : Value} (hne : g ≠ b) : (w.setCell ⟨g, o, none⟩ u).cell? ⟨b, j, none⟩ = w.cell? ⟨b, j, none⟩ := by
  have h := heap_setCell_other w ⟨g, o, none⟩ b u (fun e => hne e.symm)
  unfold World.cell?
  simp only [h]
theorem CellsAt.far {B b off n g o : Nat} {w : World} {l : List Cl} {u : Value} (h : CellsAt B w (some ⟨b, off, none⟩) n l) (hne : g ≠ b) : CellsAt B (w.setCell ⟨g, o, none⟩ u) (some ⟨b, off, none⟩) n l :=
  ⟨h.1, h.2.1, fun hp => by
    obtain ⟨b', off', e, hlt, hc⟩ := h.2.2 hp
    injection e with e
    injection e with e1 e2
    subst e1 e2
    exact ⟨b, off, rfl, hlt, fun k hk => ⟨(cell_far hne).trans (hc k hk).1, (cell_far hne).trans (hc k hk).2⟩⟩⟩

set_option maxHeartbeats 2000000 in
set_option maxRecDepth 100000 in
theorem sCol (B n cap : Nat) (a : Option Addr) (W k : Int) (l : List Int) (w : World) (hn : n ≤ 4194304) (hc : IntsAt B w a n l) (hB : B ≤ w.heap.size) :
    Calls Tryz.prog 33 #[.agg #[.int .i64 W, .slice a n cap], .int .i64 k] w fun e w' => ∃ v, e = .returned v ∧ w'.ownsRow w.heap.size 3 1 v (colR W l k).length (iv (colR W l k)) ∧ Below w.heap.size w w' := by
  obtain ⟨i0, hi, hz0, hz1, hz2⟩ := info_parts info_int
  have H := Lib.hid hc
  clear hc
  have hbox := RgAt.new (w := w) W (.slice a n cap) rfl
  have hb0 := (Below.refl w.heap.size w).alloc (Nat.le_refl _) (.cells #[.int .i64 W, .slice a n cap] 26)
  cases h : isReg W l with
  | false =>
    have HI := Lib.hid h
    have HN := Lib.hid (colR_no1 (k := k) h)
    rw [HN.out]
    clear h
    go_enter Tryz.func33, Tryz.ntmps33
    go_wp2_with fail
    refine (sIsReg B n cap a W l _ hn (H.out.on (hb0.mono hB)) (Nat.le_trans hB hb0.size)).mono ?_
    rintro e w2 ⟨rfl, hb⟩
    rw [HI.out]
    have hB2 := hb0.trans (hb.mono hb0.size)
    have hO := own_lit_i w2 w.heap.size _ hB2.size rfl
    go_wp2
    go_ret
    exact ⟨_, rfl, hO, hB2.alloc hB2.size _⟩
  | true =>
    cases h2 : inb k 1 6 with
    | false =>
      have HI := Lib.hid h
      have HN := Lib.hid (colR_no2 (W := W) (l := l) h2)
      rw [HN.out]
      clear h
      go_enter Tryz.func33, Tryz.ntmps33
      go_wp2_with fail
      refine (sIsReg B n cap a W l _ hn (H.out.on (hb0.mono hB)) (Nat.le_trans hB hb0.size)).mono ?_
      rintro e w2 ⟨rfl, hb⟩
      rw [HI.out]
      have hB2 := hb0.trans (hb.mono hb0.size)
      have hO := own_lit_i w2 w.heap.size _ hB2.size rfl
      go_wp2_with fail
      refine (sIn k 1 6 _).mono ?_
      rintro e w' ⟨rfl, rfl⟩
      rw [h2]
      go_wp2
      go_ret
      exact ⟨_, rfl, hO, hB2.alloc hB2.size _⟩
    | true =>
      have b2 := inb_out h2
      obtain ⟨K, rfl⟩ : ∃ K : Nat, k = K := ⟨k.toNat, by omega⟩
      have HI := Lib.hid h
      have HN := Lib.hid (colR_yes (l := l) h h2)
      have hcl := cellsR_len W l
      have HCI := Lib.hid (cellsR_in W l)
      have HCC := Lib.hid (cellsR_inC W l)
      rw [HN.out]
      obtain ⟨cs, hcs⟩ : ∃ cs, cellsR W l = cs := ⟨_, rfl⟩
      obtain ⟨m, hm⟩ : ∃ m, cs.length = m := ⟨_, rfl⟩
      have HM := Lib.hid hm
      have HCS := Lib.hid hcs
      rw [hcs] at HCI HCC hcl ⊢
      rw [hm] at hcl ⊢
      clear h hcs hm HN
      go_enter Tryz.func33, Tryz.ntmps33
      go_wp2_with fail
      refine (sIsReg B n cap a W l _ hn (H.out.on (hb0.mono hB)) (Nat.le_trans hB hb0.size)).mono ?_
      rintro e w2 ⟨rfl, hb⟩
      rw [HI.out]
      have hbx2 := hbox.on hb hbox.lt
      have HB2 := Lib.hid (hb0.trans (hb.mono hb0.size))
      have hsz2 := HB2.out.size
      clear hb hb0 hbox
      go_wp2_with fail
      refine (sIn (K : Int) 1 6 _).mono ?_
      rintro e w' ⟨rfl, rfl⟩
      rw [h2]
      go_wp2_with (first | (at_make; refine wpList_make_full _ rfl _ _ 24 rfl w2.heap.size 3 i0 (.int .i64 0) 1 Tryz.underlying24 hi hz0 hz1 _ _ _ _ K rfl rfl rfl rfl ?b2 ?b3 (Nat.le_refl _) ?_) | fail)
      case b2 => rw [hz2]; omega
      case b3 => unfold maxLen; omega
      intro w3 hown3 hgr3
      rw [made_ints K] at hown3
      have hbx3 := RgAt.by hbx2 hgr3 (by intro e; cases e)
      have hb3 := HB2.out.grown hgr3 hsz2 (fun j hj => by cases hj)
      have c0 := hbx3.c0
      have c1 := hbx3.c1
      have HB3 := Lib.hid hb3
      have HO3 := Lib.hid hown3
      have hlt3 := (hown3.lt _ rfl).2
      clear hown3 hgr3 hb3 hbx2
      go_wp2_with fail
      refine (sCells B n cap a W l w3 hn (H.out.on (HB3.out.mono hB)) (Nat.le_trans hB HB3.out.size)).mono ?_
      rintro e w4 ⟨v, rfl, hownc, hb4⟩
      rw [HCS.out, HM.out] at hownc
      obtain ⟨a4, c4, rfl⟩ := own_slice hownc
      have HA := Lib.hid (CellsAt.of_own hownc HCC.out)
      have hO4 := HO3.out.kept (grow_below hb4 none) (.inr (by intro e; cases e))
      have HB4 := Lib.hid (HB3.out.trans (hb4.mono HB3.out.size))
      have HO4 := Lib.hid (show w4.ownsRow w2.heap.size 3 1 (.slice (some ⟨w2.heap.size, 0, none⟩) K K) K (iv (colTo K cs 0)) from hO4)
      have hcb : ∀ b off, a4 = some ⟨b, off, none⟩ → b ≠ w2.heap.size ∨ m = 0 := fun b off e => by
        subst e
        rcases hownc.2 with ⟨e, _⟩ | ⟨g, cp, cur, e, hb, _⟩
        · cases e
        · injection e with e1 _ _
          injection e1 with e1
          injection e1 with e1 _ _
          subst e1
          exact .inl (by omega)
      have HCB := Lib.hid hcb
      have hsz4 := hb4.size
      clear hownc hb4 hO4 hcb c0 c1 hbx3
      go_wp2
      go_loopw [7] (fun i wr => ∃ j : Nat, j ≤ m ∧ i = .int .i64 j ∧ Hid (wr.ownsRow w2.heap.size 3 1 (.slice (some ⟨w2.heap.size, 0, none⟩) K K) K (iv (colTo K cs j))) ∧ Hid (CellsAt w4.heap.size wr a4 m cs) ∧ Below w.heap.size w wr) (fun i _ => m - (intOf i).toNat)
      case atStart => exact ⟨0, by omega, rfl, HO4.out, HA.out, HB4.out⟩
      case round =>
        obtain ⟨j, hj, rfl, hown, hca, hb⟩ := hrel
        clear HA HO4
        by_cases hlt : j < m
        · obtain ⟨b, off, rfl, hbB, hcell⟩ := hca.out.2.2 (by omega)
          have hbne := (HCB.out b off rfl).resolve_right (by omega)
          have hq := HCI.out _ (getD_mem (l := cs) (j := j) (by rw [HM.out]; exact hlt))
          obtain ⟨x, y, hxy⟩ : ∃ x y : Nat, cs.getD j (0, 0) = ((x : Int), (y : Int)) := ⟨(cs.getD j (0, 0)).1.toNat, (cs.getD j (0, 0)).2.toNat, by
            have e1 : (((cs.getD j (0, 0)).1.toNat : Nat) : Int) = (cs.getD j (0, 0)).1 := by omega
            have e2 : (((cs.getD j (0, 0)).2.toNat : Nat) : Int) = (cs.getD j (0, 0)).2 := by omega
            rw [e1, e2]⟩
          have p1 := (hcell j hlt).1
          have p2 := (hcell j hlt).2
          rw [hxy] at p1 p2 hq
          dsimp only at p1 p2 hq
          have hstep := col_step K cs j x y hxy
          obtain ⟨r, hr⟩ : ∃ r, (x + y) % K = r := ⟨_, rfl⟩
          have hrK : r < K := by rw [← hr]; exact Nat.mod_lt _ (by omega)
          rw [hr] at hstep
          have hcl2 := colTo_len K cs j
          have q1 := hown.out.cellAt r (by omega)
          rw [iv_get _ _ (by rw [hcl2]; exact hrK)] at q1
          have hbd := colTo_bd K cs j r
          obtain ⟨z, hz⟩ : ∃ z, (colTo K cs j).getD r 0 = z := ⟨_, rfl⟩
          rw [hz] at q1 hstep hbd
          have q2 := hown.out.frozenAt r
          have hs := hown.out.stored r (.int .i64 (z + 1))
          rw [iv_set, ← hstep] at hs
          have HS := Lib.hid hs
          have hwz : IntKind.i64.wrap (z + 1) = z + 1 := IntWalk.i64_in _ (by omega)
          have hws : IntKind.i64.wrap ((x : Int) + (y : Int)) = (x : Int) + (y : Int) := IntWalk.i64_in _ (by omega)
          have hrm : ((x : Int) + (y : Int)).tmod (K : Int) = (r : Int) := by
            rw [← hr, show (x : Int) + (y : Int) = ((x + y : Nat) : Int) by omega, Int.tmod_eq_emod_of_nonneg (by omega)]
            simp
          have hj0 : (0 : Int) ≤ (j : Int) := by omega
          have hj1 : (j : Int) < (m : Int) := by omega
          have hK0 : ¬ ((K : Int) = 0) := by omega
          have hr0 : (r : Int) < (K : Int) := by omega
          clear hcell hstep hs hz hxy hcl2
          go_wp2_with fail
          go_region
          all_goals
            have HON := Lib.hid (show (wr.setCell ⟨w2.heap.size, r, none⟩ (.int .i64 (z + 1))).drew.ownsRow w2.heap.size 3 1 (.slice (some ⟨w2.heap.size, 0, none⟩) K K) K (iv (colTo K cs (j + 1))) from HS.out.1)
            have HCN := Lib.hid (show CellsAt w4.heap.size (wr.setCell ⟨w2.heap.size, r, none⟩ (.int .i64 (z + 1))).drew (some ⟨b, off, none⟩) m cs from CellsAt.far (w := wr) hca.out (fun e => hbne e.symm))
            have HBN := Lib.hid ((hb.setCell (p := ⟨w2.heap.size, r, none⟩) hsz2 (.int .i64 (z + 1))).drew)
            clear HS hown hca hb p1 p2 q1 q2
            generalize (wr.setCell ⟨w2.heap.size, r, none⟩ (.int .i64 (z + 1))).drew = w5 at *
            go_wp2
            go_roundw
            case rel => first
              | exact ⟨j + 1, by omega, by go_num, HON.out, HCN.out, HBN.out⟩
              | (repeat apply Exists.intro
                 exact ⟨⟨j + 1, by omega, by go_num, HON.out, HCN.out, HBN.out⟩, rfl⟩)
            case measure => simp [intOf]; omega
        · obtain rfl : j = m := by omega
          go_wp2
          go_ret
          exact ⟨_, rfl, by rw [colTo_len]; exact own_below hown.out hsz2, hb⟩

set_option maxHeartbeats 2000000 in
set_option maxRecDepth 100000 in
theorem iCol (B n cap : Nat) (a : Option Addr) (W k : Int) (l : List Int) (w : World) (hn : n ≤ 4194304) (hc : IntsAt B w a n l) (hB : B ≤ w.heap.size) :
    Calls Tryz.prog 32 #[.agg #[.int .i64 W, .slice a n cap], .int .i64 k] w fun e w' => ∃ v, e = .returned v ∧ w'.ownsRow w.heap.size 3 1 v (colR W l k).length (iv (colR W l k)) ∧ Below w.heap.size w w' := by
  obtain ⟨i0, hi, hz0, hz1, hz2⟩ := info_parts info_int
  have H := Lib.hid hc
  clear hc
  have hbox := RgAt.new (w := w) W (.slice a n cap) rfl
  have hb0 := (Below.refl w.heap.size w).alloc (Nat.le_refl _) (.cells #[.int .i64 W, .slice a n cap] 26)
  cases h : isReg W l with
  | false =>
    have HI := Lib.hid h
    have HN := Lib.hid (colR_no1 (k := k) h)
    rw [HN.out]
    clear h
    go_enter Tryz.func32, Tryz.ntmps32
    go_wp2_with fail
    refine (iIsReg B n cap a W l _ hn (H.out.on (hb0.mono hB)) (Nat.le_trans hB hb0.size)).mono ?_
    rintro e w2 ⟨rfl, hb⟩
    rw [HI.out]
    have hB2 := hb0.trans (hb.mono hb0.size)
    go_wp2
    go_ret
    exact ⟨_, rfl, own_nil_i _ _, hB2⟩
  | true =>
    cases h2 : inb k 1 6 with
    | false =>
      have HI := Lib.hid h
      have HN := Lib.hid (colR_no2 (W := W) (l := l) h2)
      rw [HN.out]
      clear h
      go_enter Tryz.func32, Tryz.ntmps32
      go_wp2_with fail
      refine (iIsReg B n cap a W l _ hn (H.out.on (hb0.mono hB)) (Nat.le_trans hB hb0.size)).mono ?_
      rintro e w2 ⟨rfl, hb⟩
      rw [HI.out]
      have hB2 := hb0.trans (hb.mono hb0.size)
      have h3 : ¬ (1 ≤ k ∧ k ≤ 6) := fun h3 => by
        have : inb k 1 6 = true := by simp [inb, h3]
        rw [h2] at this
        cases this
      by_cases h4 : k < 1
      · go_wp2
        go_ret
        exact ⟨_, rfl, own_nil_i _ _, hB2⟩
      · have h5 : 6 < k := by omega
        go_wp2
        go_ret
        exact ⟨_, rfl, own_nil_i _ _, hB2⟩
    | true =>
      have b2 := inb_out h2
      obtain ⟨K, rfl⟩ : ∃ K : Nat, k = K := ⟨k.toNat, by omega⟩
      have HI := Lib.hid h
      have HN := Lib.hid (colR_yes (l := l) h h2)
      have hcl := cellsR_len W l
      have HCI := Lib.hid (cellsR_in W l)
      have HCC := Lib.hid (cellsR_inC W l)
      rw [HN.out]
      obtain ⟨cs, hcs⟩ : ∃ cs, cellsR W l = cs := ⟨_, rfl⟩
      obtain ⟨m, hm⟩ : ∃ m, cs.length = m := ⟨_, rfl⟩
      have HM := Lib.hid hm
      have HCS := Lib.hid hcs
      rw [hcs] at HCI HCC hcl ⊢
      rw [hm] at hcl ⊢
      clear h hcs hm HN
      go_enter Tryz.func32, Tryz.ntmps32
      go_wp2_with fail
      refine (iIsReg B n cap a W l _ hn (H.out.on (hb0.mono hB)) (Nat.le_trans hB hb0.size)).mono ?_
      rintro e w2 ⟨rfl, hb⟩
      rw [HI.out]
      have hbx2 := hbox.on hb hbox.lt
      have HB2 := Lib.hid (hb0.trans (hb.mono hb0.size))
      have hsz2 := HB2.out.size
      clear hb hb0 hbox
      have hK1 : ¬ ((K : Int) < 1) := by omega
      have hK6 : ¬ (6 < (K : Int)) := by omega
      go_wp2_with (first | (at_make; refine wpList_make_full _ rfl _ _ 24 rfl w2.heap.size 3 i0 (.int .i64 0) 1 Tryz.underlying24 hi hz0 hz1 _ _ _ _ K rfl rfl rfl rfl ?b2 ?b3 (Nat.le_refl _) ?_) | fail)
      case b2 => rw [hz2]; omega
      case b3 => unfold maxLen; omega
      intro w3 hown3 hgr3
      rw [made_ints K] at hown3
      have hbx3 := RgAt.by hbx2 hgr3 (by intro e; cases e)
      have hb3 := HB2.out.grown hgr3 hsz2 (fun j hj => by cases hj)
      have c0 := hbx3.c0
      have c1 := hbx3.c1
      have HB3 := Lib.hid hb3
      have HO3 := Lib.hid hown3
      have hlt3 := (hown3.lt _ rfl).2
      clear hown3 hgr3 hb3 hbx2
      go_wp2_with fail
      refine (iCells B n cap a W l w3 hn (H.out.on (HB3.out.mono hB)) (Nat.le_trans hB HB3.out.size)).mono ?_
      rintro e w4 ⟨v, rfl, hownc, hb4⟩
      rw [HCS.out, HM.out] at hownc
      obtain ⟨a4, c4, rfl⟩ := own_slice hownc
      have HA := Lib.hid (CellsAt.of_own hownc HCC.out)
      have hO4 := HO3.out.kept (grow_below hb4 none) (.inr (by intro e; cases e))
      have HB4 := Lib.hid (HB3.out.trans (hb4.mono HB3.out.size))
      have HO4 := Lib.hid (show w4.ownsRow w2.heap.size 3 1 (.slice (some ⟨w2.heap.size, 0, none⟩) K K) K (iv (colTo K cs 0)) from hO4)
      have hcb : ∀ b off, a4 = some ⟨b, off, none⟩ → b ≠ w2.heap.size ∨ m = 0 := fun b off e => by
        subst e
        rcases hownc.2 with ⟨e, _⟩ | ⟨g, cp, cur, e, hb, _⟩
        · cases e
        · injection e with e1 _ _
          injection e1 with e1
          injection e1 with e1 _ _
          subst e1
          exact .inl (by omega)
      have HCB := Lib.hid hcb
      have hsz4 := hb4.size
      clear hownc hb4 hO4 hcb c0 c1 hbx3
      go_wp2
      go_loopw [24] (fun i wr => ∃ j : Nat, j ≤ m ∧ i = .int .i64 j ∧ Hid (wr.ownsRow w2.heap.size 3 1 (.slice (some ⟨w2.heap.size, 0, none⟩) K K) K (iv (colTo K cs j))) ∧ Hid (CellsAt w4.heap.size wr a4 m cs) ∧ Below w.heap.size w wr ∧ w4.heap.size ≤ wr.heap.size) (fun i _ => m - (intOf i).toNat)
      case atStart => exact ⟨0, by omega, rfl, HO4.out, HA.out, HB4.out, Nat.le_refl _⟩
      case round =>
        obtain ⟨j, hj, rfl, hown, hca, hb, hszr⟩ := hrel
        clear HA HO4
        by_cases hlt : j < m
        · obtain ⟨b, off, rfl, hbB, hcell⟩ := hca.out.2.2 (by omega)
          have hbne := (HCB.out b off rfl).resolve_right (by omega)
          have hq := HCI.out _ (getD_mem (l := cs) (j := j) (by rw [HM.out]; exact hlt))
          obtain ⟨x, y, hxy⟩ : ∃ x y : Nat, cs.getD j (0, 0) = ((x : Int), (y : Int)) := ⟨(cs.getD j (0, 0)).1.toNat, (cs.getD j (0, 0)).2.toNat, by
            have e1 : (((cs.getD j (0, 0)).1.toNat : Nat) : Int) = (cs.getD j (0, 0)).1 := by omega
            have e2 : (((cs.getD j (0, 0)).2.toNat : Nat) : Int) = (cs.getD j (0, 0)).2 := by omega
            rw [e1, e2]⟩
          have p1 := (hcell j hlt).1
          have p2 := (hcell j hlt).2
          rw [hxy] at p1 p2 hq
          dsimp only at p1 p2 hq
          have hstep := col_step K cs j x y hxy
          obtain ⟨r, hr⟩ : ∃ r, (x + y) % K = r := ⟨_, rfl⟩
          have hrK : r < K := by rw [← hr]; exact Nat.mod_lt _ (by omega)
          rw [hr] at hstep
          have hcl2 := colTo_len K cs j
          have hownA := hown.out.alloc (.cells #[.int .i64 (x : Int), .int .i64 (y : Int)] 79)
          have q1 := hownA.cellAt r (by omega)
          rw [iv_get _ _ (by rw [hcl2]; exact hrK)] at q1
          have hbd := colTo_bd K cs j r
          obtain ⟨z, hz⟩ : ∃ z, (colTo K cs j).getD r 0 = z := ⟨_, rfl⟩
          rw [hz] at q1 hstep hbd
          have q2 := hownA.frozenAt r
          have hs := hownA.stored r (.int .i64 (z + 1))
          rw [iv_set, ← hstep] at hs
          have HS := Lib.hid hs
          have hwz : IntKind.i64.wrap (z + 1) = z + 1 := IntWalk.i64_in _ (by omega)
          have hws : IntKind.i64.wrap ((x : Int) + (y : Int)) = (x : Int) + (y : Int) := IntWalk.i64_in _ (by omega)
          have hrm : ((x : Int) + (y : Int)).tmod (K : Int) = (r : Int) := by
            rw [← hr, show (x : Int) + (y : Int) = ((x + y : Nat) : Int) by omega, Int.tmod_eq_emod_of_nonneg (by omega)]
            simp
          have hj0 : (0 : Int) ≤ (j : Int) := by omega
          have hj1 : (j : Int) < (m : Int) := by omega
          have hK0 : ¬ ((K : Int) = 0) := by omega
          have hr0 : (r : Int) < (K : Int) := by omega
          clear hcell hstep hs hz hxy hcl2
          have HBA := Lib.hid (hb.alloc hb.size (.cells #[.int .i64 (x : Int), .int .i64 (y : Int)] 79))
          have hbA := (Below.refl wr.heap.size wr).alloc (Nat.le_refl _) (.cells #[.int .i64 (x : Int), .int .i64 (y : Int)] 79)
          have HCA := Lib.hid (CellsAt.far (g := w2.heap.size) (o := r) (u := .int .i64 (z + 1)) (hca.out.on (hbA.mono hszr)) (fun e => hbne e.symm))
          have HBN := Lib.hid (HBA.out.setCell (p := ⟨w2.heap.size, r, none⟩) hsz2 (.int .i64 (z + 1)))
          have hsz9 : w4.heap.size ≤ ((wr.alloc (.cells #[.int .i64 (x : Int), .int .i64 (y : Int)] 79)).setCell ⟨w2.heap.size, r, none⟩ (.int .i64 (z + 1))).heap.size := Nat.le_trans hszr (Nat.le_trans hbA.size (grown_set1 _ _ _ _).size)
          clear hca hbA hb
          go_wp2
          go_roundw
          case rel => first
            | exact ⟨j + 1, by omega, by go_num, HS.out.1, HCA.out, HBN.out, hsz9⟩
            | (repeat apply Exists.intro
               exact ⟨⟨j + 1, by omega, by go_num, HS.out.1, HCA.out, HBN.out, hsz9⟩, rfl⟩)
          case measure => simp [intOf]; omega
        · obtain rfl : j = m := by omega
          go_wp2
          go_ret
          exact ⟨_, rfl, by rw [colTo_len]; exact own_below hown.out hsz2, hb⟩

end Go.Proofs.YtcfioncnpfoccaaGreatDoor
