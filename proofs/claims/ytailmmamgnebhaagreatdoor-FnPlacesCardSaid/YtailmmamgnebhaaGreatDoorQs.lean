/-
  The cells of a mask, in the model.
  The first cell of a mask: in the model and in the program.
  The library's table for the count of trailing zeros, out of the row's condition on the listed variables. Nothing of the program is claimed here.
  What lies where a shape lies: its cells are the shape moved, of its kind, and read back as its mask: plain facts.
-/
import Derived.Test.YtailmmamgnebhaaGreatDoorQn
import Derived.Test.YtailmmamgnebhaaGreatDoorQr
import Derived.Test.YtailmmamgnebhaaGreatDoorQa
import Derived.Test.YtailmmamgnebhaaGreatDoorQo
import Derived.Lib.QuietBelow
import Derived.LaidMore
import Derived.MakeChecks
import Derived.Stop.LaidErr
import Derived.Lib.LaidTab
import Derived.Test.YtailmmamgnebhaaGreatDoorRows
import Derived.Test.YtailmmamgnebhaaGreatDoorQg
namespace Go.Proofs.YtailmmamgnebhaaGreatDoor

section
open Go.RowKit

theorem own_lit0b (w : World) (B : Nat) (h : B ≤ w.heap.size) : (w.alloc (.cells #[] 40)).ownsRow B 40 2 (.slice (some ⟨w.heap.size, 0, none⟩) 0 0) 0 (cvs []) := by
  simpa [cvs] using World.ownsRow_lit (base := B) (e := 40) (size := 2) w #[] 0 h (by simp [maxLen]) rfl

set_option maxHeartbeats 8000000 in
set_option maxRecDepth 100000 in
theorem sCellsM (B n cap : Nat) (a : Option Addr) (W : Int) (l : List Int) (m : Int) (w : World) (h1 : -9223372036854775808 ≤ m) (h2 : m ≤ 9223372036854775807) (hn : n ≤ 4194304) (hc : IntsAt B w a n l) (hB : B ≤ w.heap.size) :
    Calls Tryz.prog 31 #[.agg #[.int .i64 W, .slice a n cap], .int .i64 m] w (GivesVC w (cellsM W l m)) := by
  have H := Lib.hid hc
  have HLN := Lib.hid hc.1
  clear hc
  have hb0 := (Below.refl w.heap.size w).alloc (Nat.le_refl _) (.cells #[.int .i64 W, .slice a n cap] 26)
  have hbox0 := RgAt.new (w := w) W (.slice a n cap) rfl
  have hsz0 : (w.alloc (.cells #[.int .i64 W, .slice a n cap] 26)).heap.size = w.heap.size + 1 := by simp
  have hb1 := hb0.alloc hb0.size (.cells #[] 40)
  have hbox1 := hbox0.alloc (.cells #[] 40)
  have hown1 := own_lit0b (w.alloc (.cells #[.int .i64 W, .slice a n cap] 26)) (w.heap.size + 1) (by omega)
  have hsz1 : ((w.alloc (.cells #[.int .i64 W, .slice a n cap] 26)).alloc (.cells #[] 40)).heap.size = w.heap.size + 2 := by simp
  rw [hsz0] at hown1
  go_enter Tryz.func31, Tryz.ntmps31
  go_wp2_with fail
  (try rw [hsz0])
  clear hb0 hbox0
  generalize ((w.alloc (.cells #[.int .i64 W, .slice a n cap] 26)).alloc (.cells #[] 40)) = W1 at *
  clear hsz0
  refine (sIsReg B n cap a W l W1 hn (H.out.on (hb1.mono hB)) (Nat.le_trans hB hb1.size)).mono ?_
  rintro e W2 ⟨rfl, hb2⟩
  have hsz2 := hb2.size
  have HB2 := Lib.hid (hb1.trans (hb2.mono hb1.size))
  have hbox := hbox1.on hb2 hbox1.lt
  have HOW := Lib.hid (hown1.kept (grow_below hb2 none) (.inr (by intro e; cases e)))
  clear hb1 hb2 hbox1 hown1
  cases h : isReg W l with
  | false =>
    have HO := Lib.hid (cellsM_no (okM_no h m))
    clear h
    go_wp2
    go_ret
    rw [HO.out]
    exact ⟨_, rfl, own_base HOW.out (Nat.le_succ _), HB2.out⟩
  | true =>
    by_cases h0 : m < 0
    · have HO := Lib.hid (cellsM_no (okM_neg (W := W) (l := l) (show ¬ 0 ≤ m by omega)))
      clear h
      go_wp2
      go_ret
      rw [HO.out]
      exact ⟨_, rfl, own_base HOW.out (Nat.le_succ _), HB2.out⟩
    · obtain ⟨q, rfl⟩ := Int.eq_ofNat_of_zero_le (show 0 ≤ m by omega)
      have hq : q < 9223372036854775808 := by omega
      have hM := maskR_lt W l
      have hand := i64_and_nat q (maskR W l) hq (by omega)
      have HD := Lib.hid (okM_nat h q)
      have HR := Lib.hid h
      clear h
      obtain ⟨M, hMe⟩ : ∃ M, maskR W l = M := ⟨_, rfl⟩
      have c0 := hbox.c0
      have c1 := hbox.c1
      go_wp2_with fail
      refine (sMask B n cap a W l W2 hn (H.out.on (HB2.out.mono hB)) (Nat.le_trans hB HB2.out.size)).mono ?_
      rintro e W3 ⟨rfl, hb3⟩
      have hsz3 := hb3.size
      have HB3 := Lib.hid (HB2.out.trans (hb3.mono HB2.out.size))
      have hbox3 := hbox.on hb3 hbox.lt
      have HOW3 := Lib.hid (HOW.out.kept (grow_below hb3 none) (.inr (by intro e; cases e)))
      rw [hMe] at hand HD hM ⊢
      clear hb3 hbox c0 c1 HOW HB2
      cases hd : decide (q &&& M = q) with
      | false =>
        have hne : (((q &&& M : Nat) : Int) != (q : Int)) = true := by
          rw [decide_eq_false_iff_not] at hd
          rw [bne_iff_ne]
          omega
        have HO := Lib.hid (cellsM_no (W := W) (l := l) (m := (q : Int)) (by rw [HD.out, hd]))
        clear hd
        generalize q &&& M = u at *
        go_wp2
        go_ret
        rw [HO.out]
        exact ⟨_, rfl, own_base HOW3.out (Nat.le_succ _), HB3.out⟩
      | true =>
        have hqM : q &&& M = q := of_decide_eq_true hd
        rw [hqM] at hand
        obtain ⟨N, rfl, hr⟩ := isReg_out HR.out
        have hln := HLN.out
        rw [hln] at hr
        have hN6 := hr.w6
        have hn6 := hr.h6
        have hN0 := hr.w0
        have hqlt : q < 68719476736 := by
          have h9 : q &&& M ≤ M := Nat.and_le_right
          omega
        have HO := Lib.hid (cellsM_yes hr (show okM (N : Int) l (q : Int) = true from by rw [HD.out, hd]))
        have hT : N * n ≤ 36 := Nat.mul_le_mul hN6 hn6
        obtain ⟨T, hTe⟩ : ∃ T, N * n = T := ⟨_, rfl⟩
        have hmul : (N : Int) * (n : Int) = (T : Int) := by rw [← hTe]; simp
        rw [hTe] at hT HO
        have hNne : ¬ ((N : Int) = 0) := by omega
        have hNz : ¬ (N = 0) := by omega
        clear hr hln hqM hd HR HD hM hTe
        go_wp2
        go_loopw [5, 6] (fun v i wr => ∃ k m g c : Nat, k ≤ T ∧ i = .int .i64 k ∧ v = .slice (some ⟨g, 0, none⟩) m c ∧ Hid (m = (mcells N k q).length) ∧ Hid (wr.ownsRow (w.heap.size + 1) 40 2 (.slice (some ⟨g, 0, none⟩) m c) m (cvs (mcells N k q))) ∧ Below (w.heap.size + 1) W3 wr) (fun _ i _ => T - (intOf i).toNat)
        case atStart => exact ⟨0, 0, w.heap.size + 1, 0, by omega, rfl, rfl, rfl, HOW3.out, Below.refl _ _⟩
        case round =>
          obtain ⟨k, m, g, c, hk, rfl, rfl, hmm, hown, hb⟩ := hrel
          have hsz := hb.size
          have hbx := hbox3.on hb (by omega)
          have c0 := hbx.c0
          have c1 := hbx.c1
          have hml : m ≤ 36 := by rw [hmm.out]; exact Nat.le_trans (mcells_len _ _ _) (by omega)
          by_cases hkt : k < T
          · have hk1 : (k : Int) < (T : Int) := by omega
            have hk0 : (0 : Int) ≤ (k : Int) := by omega
            obtain ⟨t, ht⟩ : ∃ t : Nat, q / 2 ^ k = t := ⟨_, rfl⟩
            have hdiv : (q : Int) / (2 : Int) ^ k = (t : Int) := by rw [← ht]; simp
            have htm : t ≤ q := by rw [← ht]; exact Nat.div_le_self _ _
            have hbit := bit_val (m := q) k (by omega)
            rw [ht] at hbit
            clear ht
            cases htb : q.testBit k with
            | false =>
              rw [htb] at hbit
              have hbit1 : bits .and .i64 (t : Int) 1 = 0 := hbit
              have HN := Lib.hid (mcells_no (W := N) htb)
              clear htb hbit
              go_wp2_with fail
              go_roundw
              case rel => exact ⟨k + 1, m, g, c, by omega, by go_num, rfl, by rw [HN.out]; exact hmm, by rw [HN.out]; exact hown, hb⟩
              case measure => simp [intOf]; omega
            | true =>
              rw [htb] at hbit
              have hbit1 : bits .and .i64 (t : Int) 1 = 1 := hbit
              have HN := Lib.hid (mcells_yes (W := N) htb)
              clear htb hbit
              go_wp2_with fail
              have hgl := hown.out.lt g rfl
              have HO9 := Lib.hid hown.out
              have HM1 := Lib.hid (show m + 1 = (mcells N (k + 1) q).length from by rw [HN.out, List.length_append, ← hmm.out]; rfl)
              have hwq : IntKind.i64.wrap ((k : Int) / (N : Int)) = (k : Int) / (N : Int) := by
                rw [show (k : Int) / (N : Int) = ((k / N : Nat) : Int) from rfl, IntKind.wrap_i64]
                have h9 := Nat.div_le_self k N
                generalize k / N = z at h9 ⊢
                omega
              have hrem : (k : Int).tmod (N : Int) = (k : Int) % (N : Int) := Int.tmod_eq_emod_of_nonneg (by omega)
              have hquo : (k : Int).tdiv (N : Int) = (k : Int) / (N : Int) := Int.tdiv_eq_ediv_of_nonneg (by omega)
              clear hmm hown
              go_region_held3 (fun w' => w'.cell? ⟨w.heap.size, 0, none⟩ = some (.int .i64 (N : Int)))
                (first | exact c0 | go_keep | exact (hgrow.cell_far ⟨w.heap.size, 0, none⟩ (by simp; omega) (by simp; omega)).trans ((World.cell?_alloc_lt _ _ _ (by simp; omega)).trans c0))
                (first | (refine step_cells rfl _ _ rfl (w.heap.size + 1) g m c (mcells N k q) ⟨wr.heap.size, 0, none⟩ 1 1 [cAt N k] rfl rfl ((HO9.out.drew).alloc _) rfl (lies_block (t := 40) (fr := (0, 0)) (heap_alloc_new _ _)) (by omega) (by simp; omega) (wr.heap.size + 1) (by simp) ?_; intro g' cc' w7 hown1 hgrow hat hgb hlt1))
              go_wp2
              clear hwq
              go_roundw
              case rel => exact ⟨k + 1, m + 1, g', cc', by omega, by go_num, rfl, HM1.out, by rw [HN.out]; exact hown1, (hb.drew.alloc (by show w.heap.size + 1 ≤ wr.heap.size; omega) _).grown hgrow (by simp; omega) (fun i hi => by cases hi; exact hgl.1)⟩
              case measure => simp [intOf]; omega
          · obtain rfl : k = T := by omega
            go_wp2
            go_ret
            rw [HO.out]
            have hown9 := hown.out
            rw [hmm.out] at hown9
            exact ⟨_, by rw [hmm.out]; rfl, own_base hown9 (Nat.le_succ _), HB3.out.trans (hb.mono (by omega))⟩
end

section
open Go.RowKit

theorem own_sliceB {w : World} {base n : Nat} {v : Value} {xs : List Value} (h : w.ownsRow base 40 2 v n xs) : ∃ a cap, v = .slice a n cap := by
  rcases h.2 with ⟨rfl, rfl⟩ | ⟨g, cap, cur, rfl, _⟩
  · exact ⟨_, _, rfl⟩
  · exact ⟨_, _, rfl⟩

set_option maxHeartbeats 4000000 in
set_option maxRecDepth 100000 in
theorem sFirst (B n cap : Nat) (a : Option Addr) (W : Int) (l : List Int) (m : Int) (w : World) (h1 : -9223372036854775808 ≤ m) (h2 : m ≤ 9223372036854775807) (hn : n ≤ 4194304) (hc : IntsAt B w a n l) (hB : B ≤ w.heap.size) :
    Calls Tryz.prog 27 #[.agg #[.int .i64 W, .slice a n cap], .int .i64 m] w fun e w' => e = .returned (.tuple #[.int .i64 (fcX W l m).1, .int .i64 (fcX W l m).2, .bool (fcB W l m)]) ∧ Below w.heap.size w w' := by
  have H := Lib.hid hc
  clear hc
  have hb0 := (Below.refl w.heap.size w).alloc (Nat.le_refl _) (.cells #[.int .i64 W, .slice a n cap] 26)
  go_enter Tryz.func27, Tryz.ntmps27
  go_wp2_with fail
  refine (sCellsM B n cap a W l m _ h1 h2 hn (H.out.on (hb0.mono hB)) (Nat.le_trans hB hb0.size)).mono ?_
  rintro e w2 ⟨v, rfl, hown, hb⟩
  have hin := cellsM_inC W l m
  have hlen := cellsM_len W l m
  have HX := Lib.hid (show fcX W l m = (cellsM W l m).getD 0 (0, 0) from rfl)
  have HF := Lib.hid (show fcB W l m = decide (0 < (cellsM W l m).length) from rfl)
  obtain ⟨zs, hzs⟩ : ∃ zs, cellsM W l m = zs := ⟨_, rfl⟩
  rw [hzs] at hown hin hlen HX HF
  clear hzs
  obtain ⟨a2, c2, rfl⟩ := own_sliceB hown
  have HC := Lib.hid (CellsAt.of_own hown hin)
  have HB := Lib.hid (hb0.trans (hb.mono hb0.size))
  clear hown hin hb hb0
  by_cases h0 : zs.length = 0
  · obtain rfl := List.length_eq_zero_iff.1 h0
    go_wp2
    go_ret3
    exact ⟨by rw [HX.out, HF.out]; rfl, HB.out⟩
  · obtain ⟨b2, o2, rfl, hbB, hcell⟩ := HC.out.2.2 (by omega)
    obtain ⟨x, y, hxy⟩ : ∃ x y, zs.getD 0 (0, 0) = (x, y) := ⟨_, _, rfl⟩
    have p0 := hcell 0 (by omega)
    rw [hxy] at p0
    simp only [Nat.zero_mul, Nat.add_zero] at p0
    obtain ⟨p1, p2⟩ := p0
    have HXY := Lib.hid hxy
    have h00 : ((zs.length : Int) == 0) = false := by simpa using h0
    have hp : (0 : Int) < (zs.length : Int) := by omega
    have HF2 := Lib.hid (show fcB W l m = true from by rw [HF.out]; simp; omega)
    clear hcell hxy HF
    go_wp2_with fail
    (try go_quiet (fail))
    (try go_wp2)
    go_ret3
    exact ⟨by rw [HX.out, HXY.out, HF2.out]; rfl, below_drewn HB.out _⟩

set_option maxHeartbeats 4000000 in
set_option maxRecDepth 100000 in
theorem iFirst (B n cap : Nat) (a : Option Addr) (W : Int) (l : List Int) (m : Int) (w : World) (h1 : -9223372036854775808 ≤ m) (h2 : m ≤ 9223372036854775807) (hn : n ≤ 4194304) (hc : IntsAt B w a n l) (hB : B ≤ w.heap.size) (hT : Tz w) :
    Calls Tryz.prog 20 #[.agg #[.int .i64 W, .slice a n cap], .int .i64 m] w fun e w' => e = .returned (.tuple #[.int .i64 (fcX W l m).1, .int .i64 (fcX W l m).2, .bool (fcB W l m)]) ∧ Below w.heap.size w w' := by
  have H := Lib.hid hc
  clear hc
  have hb0 := (Below.refl w.heap.size w).alloc (Nat.le_refl _) (.cells #[.int .i64 W, .slice a n cap] 26)
  go_enter Tryz.func20, Tryz.ntmps20
  go_wp2_with fail
  refine (iCellsM B n cap a W l m _ h1 h2 hn (H.out.on (hb0.mono hB)) (Nat.le_trans hB hb0.size) (hT.on hb0 hT.2)).mono ?_
  rintro e w2 ⟨v, rfl, hown, hb⟩
  have hin := cellsM_inC W l m
  have hlen := cellsM_len W l m
  have HX := Lib.hid (show fcX W l m = (cellsM W l m).getD 0 (0, 0) from rfl)
  have HF := Lib.hid (show fcB W l m = decide (0 < (cellsM W l m).length) from rfl)
  obtain ⟨zs, hzs⟩ : ∃ zs, cellsM W l m = zs := ⟨_, rfl⟩
  rw [hzs] at hown hin hlen HX HF
  clear hzs
  obtain ⟨a2, c2, rfl⟩ := own_sliceB hown
  have HC := Lib.hid (CellsAt.of_own hown hin)
  have HB := Lib.hid (hb0.trans (hb.mono hb0.size))
  clear hown hin hb hb0
  by_cases h0 : zs.length = 0
  · obtain rfl := List.length_eq_zero_iff.1 h0
    go_wp2
    go_ret3
    exact ⟨by rw [HX.out, HF.out]; rfl, HB.out⟩
  · obtain ⟨b2, o2, rfl, hbB, hcell⟩ := HC.out.2.2 (by omega)
    obtain ⟨x, y, hxy⟩ : ∃ x y, zs.getD 0 (0, 0) = (x, y) := ⟨_, _, rfl⟩
    have p0 := hcell 0 (by omega)
    rw [hxy] at p0
    simp only [Nat.zero_mul, Nat.add_zero] at p0
    obtain ⟨p1, p2⟩ := p0
    have HXY := Lib.hid hxy
    have h00 : ((zs.length : Int) == 0) = false := by simpa using h0
    have hp : (0 : Int) < (zs.length : Int) := by omega
    have HF2 := Lib.hid (show fcB W l m = true from by rw [HF.out]; simp; omega)
    clear hcell hxy HF
    go_wp2_with fail
    (try go_quiet (fail))
    (try go_wp2)
    go_ret3
    exact ⟨by rw [HX.out, HXY.out, HF2.out]; rfl, below_drewn HB.out _⟩
end

section
open Go.RowKit

theorem datumDB : (Rows.laid_math_bits_deBruijn64tab : DataW Unit) = Lib.tabData .u8 (Lib.deBruijn64tab.map fun (x : Nat) => (x : Int)) := by kernel_rfl
theorem nDB : Tryz.prog.globalNamed "math/bits.deBruijn64tab" = some gDB := by kernel_rfl
theorem tDB : (Tryz.prog.globals[gDB]?).map (·.type) = some 192 := by kernel_rfl
theorem tab_of_laid {W : World} (h : laidMetH Tryz.prog [("math/bits.deBruijn32tab", Rows.laid_math_bits_deBruijn32tab), ("math/bits.deBruijn64tab", Rows.laid_math_bits_deBruijn64tab)] W) : Tz W := by
  rw [MakeChecks.laidMetH_plain _ _ _ (by kernel_rfl)] at h
  have h2 := h.tail
  rw [datumDB] at h2
  have h3 := Lib.tabIs_of_head nDB tDB Tryz.underlying192 Tryz.underlying5 (by kernel_rfl) (by kernel_rfl) h2
  have hc : ∀ j, j < Lib.deBruijn64tab.length → W.cell? ⟨gDB, j, none⟩ = some (.int .u8 (Lib.deBruijn64tab.getD j 0)) := fun j hj => by
    have := Lib.TabIs.cell h3 nDB j (by rw [List.length_map]; exact hj)
    rw [this]
    simp [List.getD, hj]
  exact ⟨hc, World.block_lt_of_cell? W ⟨gDB, 0, none⟩ (hc 0 (by decide))⟩
end

section
theorem cAt_bef {W i j : Nat} (h : i < j) : bef (cAt W i) (cAt W j) = true := by
  rw [bef_iff]
  unfold cAt
  dsimp only
  have h1 : i / W ≤ j / W := Nat.div_le_div_right (Nat.le_of_lt h)
  by_cases he : i / W = j / W
  · right
    refine ⟨by rw [he], ?_⟩
    have e1 := Nat.div_add_mod i W
    have e2 := Nat.div_add_mod j W
    rw [he] at e1
    generalize W * (j / W) = t at e1 e2
    omega
  · left
    omega
theorem mcells_srt (W n m : Nat) : Srt (mcells W n m) := by
  unfold mcells Srt
  rw [List.pairwise_map]
  exact (List.pairwise_lt_range.filter _).imp fun h => cAt_bef h
theorem mem_mcells {W n m : Nat} {c : Cl} : c ∈ mcells W n m ↔ ∃ i, i < n ∧ m.testBit i = true ∧ cAt W i = c := by
  unfold mcells
  simp only [List.mem_map, List.mem_filter, List.mem_range, and_assoc]
theorem congS_trans {a b c : List Cl} (h : congS a b = true) (k : congS b c = true) : congS a c = true := by
  unfold congS at *
  simp only [Bool.and_eq_true, decide_eq_true_eq] at *
  exact ⟨⟨h.1.1, k.1.2⟩, h.2.trans k.2⟩
theorem place_of {W H : Nat} {l : List Int} (hr : Rg W H l) {s : List Cl} {z : Int} (h : z ∈ plR W l s) :
    congS (cellsM W l z) s = true ∧ mcOk W l (cellsM W l z) = true ∧ ((mcV W l (cellsM W l z) : Nat) : Int) = z ∧ 0 < (cellsM W l z).length := by
  obtain ⟨o, ho, y, x, hk, rfl⟩ := (mem_plR hr).1 h
  obtain ⟨_, horn, hcg⟩ := orient_mem ho
  obtain ⟨⟨hl1, hl8⟩, hin, hsrt⟩ := (isShape_iff o).1 horn.shape
  have hne : (moveC (x : Int) (y : Int) o).Pairwise (· ≠ ·) := move_ne _ _ horn.ne
  have hall := (okC_all hr hne).1 hk
  have hok : okM W l ((orB W (moveC x y o) : Nat) : Int) = true := okM_of hr fun i hi => by
    obtain ⟨c, hc, rfl⟩ := (orB_bit _ _ _).1 hi
    rw [hr.mask_bit (hr.bt_in (hall c hc))]
    exact hall c hc
  have hcells : cellsM W l ((orB W (moveC x y o) : Nat) : Int) = moveC x y o := by
    rw [cellsM_yes hr hok]
    refine srt_unique (mcells_srt _ _ _) (srt_move hsrt) fun c => ?_
    rw [mem_mcells]
    constructor
    · rintro ⟨i, hi, hb, rfl⟩
      obtain ⟨c, hc, rfl⟩ := (orB_bit _ _ _).1 hb
      rw [cAt_bN (hr.bt_in (hall c hc))]
      exact hc
    · intro hc
      have hg := hr.bt_in (hall c hc)
      exact ⟨bN W c, bN_lt hg, (orB_bit _ _ _).2 ⟨c, hc, rfl⟩, cAt_bN hg⟩
  rw [hcells]
  have hW := hr.w6
  have hH := hr.h6
  have hM : isShape (moveC x y o) = true := by
    rw [isShape_iff, moveC_len]
    refine ⟨⟨hl1, hl8⟩, fun c hc => ?_, srt_move hsrt⟩
    have hg := hr.bt_in (hall c hc)
    simp [inP, inb]
    omega
  have hc1 : congS (moveC x y o) o = true := by
    have h1 := congS_turn (a := 0) (by omega) hM
    rw [turnC_zero hM, cornerC_of_move _ _ _ (by omega), horn.corner] at h1
    exact h1
  have hmk : mcOk W l (moveC x y o) = true := by rw [mcOk_yes hr]; exact hk
  refine ⟨congS_trans hc1 (by rw [congS_symm]; exact hcg), hmk, ?_, by rw [moveC_len]; omega⟩
  rw [mcV_yes hmk]
theorem place_asc {W : Int} {l : List Int} {s : List Cl} {i : Nat} (hi : 0 < i) (hl : i < (plR W l s).length) : (plR W l s).getD (i - 1) 0 < (plR W l s).getD i 0 := by
  have := srtG_getD 0 (plR_srt W l s) (i := i - 1) (j := i) (by omega) hl
  simpa [ltI] using this
/-- What the law asks of each place. -/
theorem place_at {W : Int} {l : List Int} {s : List Cl} {i : Nat} (hl : i < (plR W l s).length) :
    congS (cellsM W l ((plR W l s).getD i 0)) s = true ∧ mcOk W l (cellsM W l ((plR W l s).getD i 0)) = true ∧ ((mcV W l (cellsM W l ((plR W l s).getD i 0)) : Nat) : Int) = (plR W l s).getD i 0 ∧ 0 < (cellsM W l ((plR W l s).getD i 0)).length ∧
      fcB W l ((plR W l s).getD i 0) = true ∧ fcX W l ((plR W l s).getD i 0) = (cellsM W l ((plR W l s).getD i 0)).getD 0 (0, 0) := by
  cases h : isReg W l with
  | false => rw [plR_no h] at hl; simp at hl
  | true =>
    obtain ⟨N, rfl, hr⟩ := isReg_out h
    have hm : (plR N l s).getD i 0 ∈ plR N l s := by simp [List.getD, hl]
    obtain ⟨h1, h2, h3, h4⟩ := place_of hr hm
    exact ⟨h1, h2, h3, h4, by unfold fcB; simpa using h4, rfl⟩
end

end Go.Proofs.YtailmmamgnebhaaGreatDoor
