/-
  Placements of several shapes, those that have a cell: in the model: what the calls give.
  Are weights accepted: in the model: what the call gives.
-/
import Derived.Test.YtkcclhnligajeaaGreatDoorVas
import Derived.Test.YtkcclhnligajeaaGreatDoorVav
import Derived.Lib.QuietBelow
import Derived.Test.YtkcclhnligajeaaGreatDoorVar
namespace Go.Proofs.YtkcclhnligajeaaGreatDoor

section
open Go.RowKit

theorem own_sl_n {w : World} {B n size : Nat} {t : TypeId} {v : Value} {xs : List Value} (h : w.ownsRow B t size v n xs) : ∃ a c, v = .slice a n c := by
  rcases h.2 with ⟨rfl, h0⟩ | ⟨g, c, cur, rfl, _⟩
  · exact ⟨none, 0, by rw [h0]⟩
  · exact ⟨_, c, rfl⟩
theorem plR_in64 (W : Int) (l : List Int) (cs : List Cl) : ∀ z ∈ plR W l cs, In64 z := fun z hz => by
  have := plR_bd W l cs z hz
  unfold In64
  omega
theorem grow_step {W2 wr w4 : World} {lit g : Nat} (h : W2.grownBy wr (some lit)) (h2 : wr.grownBy w4 (some g)) (hg : g = lit ∨ W2.heap.size ≤ g) : W2.grownBy w4 (some lit) := by
  refine ⟨h2.os.trans h.os, h2.tape.trans h.tape, h2.output.trans h.output, Nat.le_trans h.size h2.size, fun k hk hne => ?_⟩
  refine (h2.block k (Nat.lt_of_lt_of_le hk h.size) ?_).trans (h.block k hk hne)
  rcases hg with rfl | hg
  · exact hne
  · intro e
    have : k = g := Option.some.inj e
    omega
theorem grow_drawn {W2 w3 : World} {r : Option Nat} (h : W2.grownBy w3 r) (q : Nat) : W2.grownBy (w3.drewN q) r := ⟨h.os, h.tape, h.output, h.size, h.block⟩
theorem take_snocI (l : List Int) (k : Nat) (h : k < l.length) : l.take (k + 1) = l.take k ++ [l.getD k 0] := by
  rw [List.take_succ_eq_append_getElem h]
  simp [List.getD, h]

set_option maxHeartbeats 8000000 in
set_option maxRecDepth 100000 in
theorem sAp (B n cap m2 cap2 : Nat) (a a2 : Option Addr) (W : Int) (l : List Int) (ps : List (List Cl)) (w : World) (hn : n ≤ 4194304) (hm : m2 ≤ 1048576) (hc : IntsAt B w a n l) (hd : PsAt B w a2 m2 ps) (hB : B ≤ w.heap.size) :
    Calls Tryz.prog 56 #[.agg #[.int .i64 W, .slice a n cap], .slice a2 m2 cap2] w (GivesV w (apR W l ps)) := by
  have H := Lib.hid hc
  have HD := Lib.hid hd
  have hlp := hd.1
  clear hc hd
  have hb0 := (Below.refl w.heap.size w).alloc (Nat.le_refl _) (.cells #[.int .i64 W, .slice a n cap] 26)
  have hbox0 := RgAt.new (w := w) W (.slice a n cap) rfl
  have hsz0 : (w.alloc (.cells #[.int .i64 W, .slice a n cap] 26)).heap.size = w.heap.size + 1 := by simp
  have hb1 := hb0.alloc hb0.size (.cells #[] 3)
  have hbox1 := hbox0.alloc (.cells #[] 3)
  have hown1 := own_lit_m (w := w.alloc (.cells #[.int .i64 W, .slice a n cap] 26)) (B := w.heap.size) hsz0 (by omega)
  have hsz1 : ((w.alloc (.cells #[.int .i64 W, .slice a n cap] 26)).alloc (.cells #[] 3)).heap.size = w.heap.size + 2 := by simp
  go_enter Tryz.func56, Tryz.ntmps56
  go_wp2
  (try rw [hsz0])
  generalize ((w.alloc (.cells #[.int .i64 W, .slice a n cap] 26)).alloc (.cells #[] 3)) = W1 at *
  clear hsz0 hb0 hbox0
  have HB1 := Lib.hid hb1
  have HOW := Lib.hid hown1
  clear hb1 hown1
  cases h : arePc ps with
  | false =>
    have HF := Lib.hid h
    have HO := Lib.hid (apR_no h W l)
    clear h
    refine wp_loop_rounds 1 ?_
    rw [rounds_succ]
    by_cases h0 : 0 < (m2 : Int)
    · go_wp2_with fail
      refine (sArePc B m2 cap2 a2 ps _ (by omega) (HD.out.on (HB1.out.mono hB)) (Nat.le_trans hB HB1.out.size)).mono ?_
      rintro e w' ⟨rfl, hb⟩
      rw [HF.out]
      have HB3 := Lib.hid (HB1.out.trans (hb.mono HB1.out.size))
      have HOW3 := Lib.hid (HOW.out.kept (grow_below hb none) (.inr (by intro e; cases e)))
      clear hb
      go_wp2
      go_ret
      exact ⟨_, rfl, by rw [HO.out]; exact HOW3.out, HB3.out⟩
    · go_wp2
      go_ret
      exact ⟨_, rfl, by rw [HO.out]; exact HOW.out, HB1.out⟩
  | true =>
    have HF := Lib.hid h
    have hl5 := (arePc_len h).2
    rw [hlp] at hl5
    have HO := Lib.hid (show apR W l ps = ascI (apTo W l ps m2) from by rw [apR_yes h, hlp])
    clear h
    go_loopw [5, 6] (fun v i wr => ∃ k m g c : Nat, k ≤ m2 ∧ i = .int .i64 k ∧ v = .slice (some ⟨g, 0, none⟩) m c ∧ Hid (m = (ascI (apTo W l ps k)).length) ∧ Hid (wr.ownsRow w.heap.size 3 1 (.slice (some ⟨g, 0, none⟩) m c) m (iv (ascI (apTo W l ps k)))) ∧ Below W1.heap.size W1 wr) (fun _ i _ => m2 - (intOf i).toNat)
    case atStart => exact ⟨0, 0, _, 0, by omega, rfl, rfl, rfl, HOW.out, Below.refl _ _⟩
    case round =>
      obtain ⟨k, m, g, c, hk, rfl, rfl, hmm, hown, hb⟩ := hrel
      clear HOW
      have hsz := hb.size
      have hbw := HB1.out.trans (hb.mono HB1.out.size)
      by_cases hlt : k < m2
      · have hk1 : (k : Int) < (m2 : Int) := by omega
        have hk0 : (0 : Int) ≤ (k : Int) := by omega
        go_wp2_with fail
        refine (sArePc B m2 cap2 a2 ps wr (by omega) (HD.out.on (hbw.mono hB)) (Nat.le_trans hB hbw.size)).mono ?_
        rintro e w3 ⟨rfl, hb3⟩
        rw [HF.out]
        have hb3' := hb.trans (hb3.mono hsz)
        have hown3 := Lib.hid (hown.out.kept (grow_below hb3 none) (.inr (by intro e; cases e)))
        have hbw3 := HB1.out.trans (hb3'.mono HB1.out.size)
        have hs3 := hb3'.size
        obtain ⟨b, off, rfl, hbB, hcell⟩ := HD.out.2 (by omega)
        obtain ⟨ak, ck, h1, h2, h3⟩ := hcell k hlt
        have p1 := (hbw3.cell (p := ⟨b, off + k, none⟩) (Nat.lt_of_lt_of_le hbB hB)).trans h1
        have HC := Lib.hid ((h2.on (hbw3.mono hB)).more (Nat.le_trans hB hbw3.size))
        have HST := Lib.hid (apTo_succ (W := W) (l := l) (ps := ps) (i := k) (by omega))
        have hal := apTo_len W l ps k (by omega)
        obtain ⟨o, ho⟩ : ∃ o, ps.getD k [] = o := ⟨_, rfl⟩
        rw [ho] at p1 HC HST h3
        have hbx := hbox1.on hb3' hbox1.lt
        have c0 := hbx.c0
        have c1 := hbx.c1
        have hbl : b < w3.heap.size := by omega
        obtain ⟨A0, hA0⟩ : ∃ r, apTo W l ps k = r := ⟨_, rfl⟩
        rw [hA0] at hmm hown3 HST hal
        have HAT := Lib.hid ((H.out.on (hbw3.mono hB)).more (Nat.le_trans hB hbw3.size))
        have HB3 := Lib.hid hb3'
        clear hcell h1 h2 ho hown hA0 hb hb3 hbw hb3' hbw3
        generalize wr = w0 at *
        go_wp2_with fail
        go_region_held3 (fun w' => w'.cell? ⟨w.heap.size, 0, none⟩ = some (.int .i64 W) ∧ w'.cell? ⟨w.heap.size, 1, none⟩ = some (.slice a n cap) ∧ w'.cell? ⟨b, off + k, none⟩ = some (.slice ak o.length ck))
          (first | exact ⟨c0, c1, p1⟩ | exact ⟨hbx4.c0, hbx4.c1, p4⟩)
          (first | (go_at_call 102
                    refine (sPl w3.heap.size n cap o.length ck a ak W l o w3.drew hn h3 HAT.out HC.out (Nat.le_refl _)).mono ?_
                    rintro e w4 ⟨u, rfl, hou, hb4⟩
                    have hbx4 : RgAt w4 w.heap.size W (.slice a n cap) := RgAt.on (w := w3.drew) hbx hb4 hbx.lt
                    have p4 : w4.cell? ⟨b, off + k, none⟩ = some (.slice ak o.length ck) := (hb4.cell (p := ⟨b, off + k, none⟩) hbl).trans p1))
        all_goals
          have hb34 : Below w3.heap.size w3 w4 := ((Below.refl w3.heap.size w3).drew).trans hb4
          have HB4 := Lib.hid (HB3.out.trans (hb34.mono hs3))
          have HO4 := Lib.hid (hown3.out.kept (grow_below hb34 none) (.inr (by intro e; cases e)))
          have hou2 : w4.ownsRow w3.heap.size 3 1 u (plR W l o).length (iv (plR W l o)) := hou
          obtain ⟨au, cu, rfl⟩ := own_sl_n hou2
          have HU := Lib.hid (IntsAt.of_own hou2 (plR_in64 W l o))
          have hs4 := hb34.size
          have hul := plR_len W l o
          obtain ⟨L, hL⟩ : ∃ L, plR W l o = L := ⟨_, rfl⟩
          rw [hL] at HU HST hul ⊢
          obtain ⟨q, hq⟩ : ∃ q, L.length = q := ⟨_, rfl⟩
          rw [hq] at HU hul ⊢
          have HQ := Lib.hid hq
          clear hb4 hb34 hou hou2 hbx4 p4 c0 c1 p1 hown3 hL hq HB3
          (try simp only [Exit.then])
          go_wp2
          go_loopw [5, 8] (fun v i wr => ∃ j m g c : Nat, j ≤ q ∧ i = .int .i64 j ∧ v = .slice (some ⟨g, 0, none⟩) m c ∧ Hid (m = (ascI (A0 ++ L.take j)).length) ∧ Hid (wr.ownsRow w.heap.size 3 1 (.slice (some ⟨g, 0, none⟩) m c) m (iv (ascI (A0 ++ L.take j)))) ∧ Below w4.heap.size w4 wr) (fun _ i _ => q - (intOf i).toNat)
          case atStart => exact ⟨0, m, g, c, by omega, rfl, rfl, by rw [List.take_zero, List.append_nil]; exact hmm, by rw [List.take_zero, List.append_nil]; exact HO4.out, Below.refl _ _⟩
          case round =>
            clear HO4 hmm
            obtain ⟨j, m, g, c, hj, rfl, rfl, hmm, hown, hb⟩ := hrel
            have hsz := hb.size
            by_cases hjt : j < q
            · have hj1 : (j : Int) < (q : Int) := by omega
              have hj0 : (0 : Int) ≤ (j : Int) := by omega
              obtain ⟨bu, ou, rfl, hbu, hcu⟩ := HU.out.2.2 (by omega)
              have p1 := (hb.cell (p := ⟨bu, ou + j, none⟩) hbu).trans (hcu j hjt)
              have HTK := Lib.hid (show ascI (A0 ++ L.take (j + 1)) = putM (ascI (A0 ++ L.take j)) (L.getD j 0) from by rw [take_snocI L j (by rw [HQ.out]; exact hjt), ← List.append_assoc, ascI_put])
              have hml := ascI_len (A0 ++ L.take j)
              rw [← hmm.out, List.length_append, List.length_take] at hml
              obtain ⟨z, hz⟩ : ∃ z, L.getD j 0 = z := ⟨_, rfl⟩
              rw [hz] at p1 HTK
              obtain ⟨A1, hA1⟩ : ∃ r, ascI (A0 ++ L.take j) = r := ⟨_, rfl⟩
              rw [hA1] at hmm hown HTK
              have hown9 := hown.out
              clear hcu hz hA1 hown
              go_wp2_with fail
              refine (sPutI w.heap.size g m c A1 z wr (by omega) hown9 (by omega)).mono ?_
              rintro e w10 ⟨g2, c2, rfl, hown10, hb10⟩
              have HO10 := Lib.hid hown10
              have HB10 := Lib.hid (hb.trans (hb10.mono hsz))
              rw [← HTK.out] at HO10
              have hlx : (putM A1 z).length = (ascI (A0 ++ L.take (j + 1))).length := by rw [HTK.out]
              rw [hlx]
              clear hown10 hb10 hown9 hlx
              go_wp2
              go_roundw
              case rel => exact ⟨j + 1, _, g2, c2, by omega, by go_num, rfl, rfl, HO10.out, HB10.out⟩
              case measure => simp [intOf]; omega
            · obtain rfl : j = q := by omega
              have e9 : L.take j = L := List.take_of_length_le (by rw [HQ.out]; exact Nat.le_refl _)
              rw [e9, ← HST.out] at hmm hown
              have HBZ := Lib.hid (HB4.out.trans (hb.mono (by omega)))
              clear e9 hb
              go_wp2
              go_roundw
              case rel => exact ⟨k + 1, m, g, c, by omega, by go_num, rfl, hmm, hown.out, HBZ.out⟩
              case measure => simp [intOf]; omega
      · obtain rfl : k = m2 := by omega
        have HO9 := Lib.hid (show wr.ownsRow w.heap.size 3 1 (.slice (some ⟨g, 0, none⟩) m c) (apR W l ps).length (iv (apR W l ps)) from by rw [HO.out, ← hmm.out]; exact hown.out)
        have HBW := Lib.hid hbw
        clear hbw hb hown hmm
        go_wp2
        go_ret
        exact ⟨_, rfl, HO9.out, HBW.out⟩
end

section
open Go.RowKit Go.Sort

theorem isWP_no1 {W : Int} {l : List Int} {ps : List (List Cl)} {p : Int} {ws : List Int} (h : areW W l ws p = false) : isWP W l ps p ws = false := by unfold isWP; rw [h]; rfl
theorem isWP_no2 {W : Int} {l : List Int} {ps : List (List Cl)} {p : Int} {ws : List Int} (h : arePc ps = false) : isWP W l ps p ws = false := by unfold isWP; rw [h]; simp
theorem isWP_no3 {W : Int} {l : List Int} {ps : List (List Cl)} {p : Int} {ws : List Int} (h : sumW W l (maskR W l) ws p = 0) : isWP W l ps p ws = false := by unfold isWP; rw [h]; simp
theorem isWP_yes {W : Int} {l : List Int} {ps : List (List Cl)} {p : Int} {ws : List Int} (h1 : areW W l ws p = true) (h2 : arePc ps = true) (h3 : ¬ sumW W l (maskR W l) ws p = 0) : isWP W l ps p ws = zerW W l ws p (apR W l ps) (apR W l ps).length := by
  unfold isWP
  rw [h1, h2, beq_eq_false_iff_ne.2 h3]
  rfl
set_option maxHeartbeats 8000000 in
set_option maxRecDepth 100000 in
theorem sIsWP (B n cap m2 cap2 m3 cap3 : Nat) (a a2 a3 : Option Addr) (W : Int) (l ws : List Int) (ps : List (List Cl)) (p : Int) (w : World) (hn : n ≤ 4194304) (hm2 : m2 ≤ 1048576) (hm3 : m3 ≤ 4194304)
    (hc : IntsAt B w a n l) (hd : PsAt B w a2 m2 ps) (hw : IntsAt B w a3 m3 ws) (hB : B ≤ w.heap.size) :
    Calls Tryz.prog 28 #[.agg #[.int .i64 W, .slice a n cap], .slice a2 m2 cap2, .int .i64 p, .slice a3 m3 cap3] w fun e w' => e = .returned (.bool (isWP W l ps p ws)) ∧ Below w.heap.size w w' := by
  have H := Lib.hid hc
  have HD := Lib.hid hd
  have HW := Lib.hid hw
  clear hc hd hw
  have hb0 := (Below.refl w.heap.size w).alloc (Nat.le_refl _) (.cells #[.int .i64 W, .slice a n cap] 26)
  have hbox0 := RgAt.new (w := w) W (.slice a n cap) rfl
  have HA := Lib.hid (fun W9 (h9 : Below w.heap.size w W9) => sAreW B n cap m3 cap3 a a3 W l ws p W9 hn hm3 (H.out.on (h9.mono hB)) (HW.out.on (h9.mono hB)) (Nat.le_trans hB h9.size))
  have HP := Lib.hid (fun W9 (h9 : Below w.heap.size w W9) => sArePc B m2 cap2 a2 ps W9 (by omega) (HD.out.on (h9.mono hB)) (Nat.le_trans hB h9.size))
  have HM := Lib.hid (fun W9 (h9 : Below w.heap.size w W9) => sMask B n cap a W l W9 hn (H.out.on (h9.mono hB)) (Nat.le_trans hB h9.size))
  have HS := Lib.hid (fun z (hz : In64 z) W9 (h9 : Below w.heap.size w W9) => sSumW B n cap m3 cap3 a a3 W l ws z p W9 hz hn hm3 (H.out.on (h9.mono hB)) (HW.out.on (h9.mono hB)) (Nat.le_trans hB h9.size))
  have HAP := Lib.hid (fun W9 (h9 : Below w.heap.size w W9) => sAp B n cap m2 cap2 a a2 W l ps W9 hn hm2 (H.out.on (h9.mono hB)) (HD.out.on (h9.mono hB)) (Nat.le_trans hB h9.size))
  have HB0 := Lib.hid hb0
  have c0 := hbox0.c0
  have c1 := hbox0.c1
  have hsz1 : w.heap.size ≤ (w.alloc (.cells #[.int .i64 W, .slice a n cap] 26)).heap.size := by simp
  cases h1 : areW W l ws p with
  | false =>
    have HO := Lib.hid (isWP_no1 (ps := ps) h1)
    rw [HO.out]
    rw [h1] at HA
    clear h1
    go_enter Tryz.func28, Tryz.ntmps28
    go_wp2_with fail
    generalize (w.alloc (.cells #[.int .i64 W, .slice a n cap] 26)) = w1 at *
    have r0 := cell_regrown c0
    have r1 := cell_regrown c1
    have kA := fun d os => HA.out _ (HB0.out.trans ((below_regrown w1 d os).mono hsz1))
    refine wp_region_quiet_below (by kernel_rfl) (by kernel_rfl) ?_
    repeat (first | (go_big_quiet_step (first | (go_at_call 84; with_reducible refine Calls.regrown_of (kA _ _)))) | (quiet_step (first | (go_at_call 84; with_reducible refine Calls.regrown_of (kA _ _)))))
    refine wpQuiet_nil ?_
    intro _ hw9
    obtain ⟨⟨nq, osq⟩, hw8⟩ := hw9
    subst hw8
    have hbz := below_regrown w1 nq osq
    generalize (Go.Sort.grow (redrawn w1 nq) osq) = w2 at *
    clear kA r0 r1 c0 c1
    go_wp2
    go_ret
    exact ⟨rfl, HB0.out.trans (hbz.mono hsz1)⟩
  | true =>
    have HI := Lib.hid h1
    rw [h1] at HA
    cases h2 : arePc ps with
    | false =>
      have HO := Lib.hid (isWP_no2 (W := W) (l := l) (p := p) (ws := ws) h2)
      rw [HO.out]
      rw [h2] at HP
      clear h1 h2
      go_enter Tryz.func28, Tryz.ntmps28
      go_wp2_with fail
      generalize (w.alloc (.cells #[.int .i64 W, .slice a n cap] 26)) = w1 at *
      have r0 := cell_regrown c0
      have r1 := cell_regrown c1
      have kA := fun d os => HA.out _ (HB0.out.trans ((below_regrown w1 d os).mono hsz1))
      have kP := fun d os => HP.out _ (HB0.out.trans ((below_regrown w1 d os).mono hsz1))
      refine wp_region_quiet_below (by kernel_rfl) (by kernel_rfl) ?_
      repeat (first | (go_big_quiet_step (first | (go_at_call 84; with_reducible refine Calls.regrown_of (kA _ _)) | (go_at_call 20; with_reducible refine Calls.regrown_of (kP _ _)))) | (quiet_step (first | (go_at_call 84; with_reducible refine Calls.regrown_of (kA _ _)) | (go_at_call 20; with_reducible refine Calls.regrown_of (kP _ _)))))
      refine wpQuiet_nil ?_
      intro _ hw9
      obtain ⟨⟨nq, osq⟩, hw8⟩ := hw9
      subst hw8
      have hbz := below_regrown w1 nq osq
      generalize (Go.Sort.grow (redrawn w1 nq) osq) = w2 at *
      clear kA kP r0 r1 c0 c1
      go_wp2
      go_ret
      exact ⟨rfl, HB0.out.trans (hbz.mono hsz1)⟩
    | true =>
      rw [h2] at HP
      have hmk : maskR W l < 68719476736 := maskR_lt W l
      have HY := Lib.hid (fun h3 => isWP_yes (p := p) h1 h2 h3)
      have HN := Lib.hid (fun h3 => isWP_no3 (ps := ps) (W := W) (l := l) (p := p) (ws := ws) h3)
      obtain ⟨mk, hk⟩ : ∃ mk, maskR W l = mk := ⟨_, rfl⟩
      rw [hk] at hmk HM HY HN
      have hS0 := Lib.hid (HS.out ((mk : Nat) : Int) (by unfold In64; omega))
      obtain ⟨s0, hs0⟩ : ∃ s0, sumW W l ((mk : Nat) : Int) ws p = s0 := ⟨_, rfl⟩
      rw [hs0] at hS0 HY HN
      clear h1 h2 hk hs0
      by_cases h3 : s0 = 0
      · have e3 : (s0 == 0) = true := by simp [h3]
        have HO := Lib.hid (HN.out h3)
        rw [HO.out]
        clear h3 HN HY
        go_enter Tryz.func28, Tryz.ntmps28
        go_wp2_with fail
        generalize (w.alloc (.cells #[.int .i64 W, .slice a n cap] 26)) = w1 at *
        have r0 := cell_regrown c0
        have r1 := cell_regrown c1
        have kA := fun d os => HA.out _ (HB0.out.trans ((below_regrown w1 d os).mono hsz1))
        have kP := fun d os => HP.out _ (HB0.out.trans ((below_regrown w1 d os).mono hsz1))
        have kM := fun d os => HM.out _ (HB0.out.trans ((below_regrown w1 d os).mono hsz1))
        have kS := fun d os => hS0.out _ (HB0.out.trans ((below_regrown w1 d os).mono hsz1))
        refine wp_region_quiet_below (by kernel_rfl) (by kernel_rfl) ?_
        repeat (first | (go_big_quiet_step (first | (go_at_call 84; with_reducible refine Calls.regrown_of (kA _ _)) | (go_at_call 20; with_reducible refine Calls.regrown_of (kP _ _)) | (go_at_call 57; with_reducible refine Calls.regrown_of (kM _ _)) | (go_at_call 37; with_reducible refine Calls.regrown_of (kS _ _)))) | (quiet_step (first | (go_at_call 84; with_reducible refine Calls.regrown_of (kA _ _)) | (go_at_call 20; with_reducible refine Calls.regrown_of (kP _ _)) | (go_at_call 57; with_reducible refine Calls.regrown_of (kM _ _)) | (go_at_call 37; with_reducible refine Calls.regrown_of (kS _ _)))))
        refine wpQuiet_nil ?_
        intro _ hw9
        obtain ⟨⟨nq, osq⟩, hw8⟩ := hw9
        subst hw8
        have hbz := below_regrown w1 nq osq
        generalize (Go.Sort.grow (redrawn w1 nq) osq) = w2 at *
        clear kA kP kM kS r0 r1 c0 c1
        go_wp2
        go_ret
        exact ⟨rfl, HB0.out.trans (hbz.mono hsz1)⟩
      · have e3 : (s0 == 0) = false := by simp [h3]
        have HO := Lib.hid (HY.out h3)
        rw [HO.out]
        have HPB := Lib.hid (apR_bd W l ps)
        have hpl : (apR W l ps).length ≤ 1440 := by rw [← pQ_ints, ints_len]; exact pQ_len W l ps
        obtain ⟨P, hP⟩ : ∃ P, apR W l ps = P := ⟨_, rfl⟩
        rw [hP] at HAP HPB hpl ⊢
        have HZS := Lib.hid (fun k => zerW_step W l ws p P k)
        have HZB := Lib.hid (fun k h => zerW_bad (W := W) (l := l) (ws := ws) (p := p) (P := P) (k := k) (n := P.length) h)
        clear h3 HN HY HO hP
        go_enter Tryz.func28, Tryz.ntmps28
        go_wp2_with fail
        generalize (w.alloc (.cells #[.int .i64 W, .slice a n cap] 26)) = w1 at *
        have r0 := cell_regrown c0
        have r1 := cell_regrown c1
        have kA := fun d os => HA.out _ (HB0.out.trans ((below_regrown w1 d os).mono hsz1))
        have kP := fun d os => HP.out _ (HB0.out.trans ((below_regrown w1 d os).mono hsz1))
        have kM := fun d os => HM.out _ (HB0.out.trans ((below_regrown w1 d os).mono hsz1))
        have kS := fun d os => hS0.out _ (HB0.out.trans ((below_regrown w1 d os).mono hsz1))
        refine wp_region_quiet_below (by kernel_rfl) (by kernel_rfl) ?_
        repeat (first | (go_big_quiet_step (first | (go_at_call 84; with_reducible refine Calls.regrown_of (kA _ _)) | (go_at_call 20; with_reducible refine Calls.regrown_of (kP _ _)) | (go_at_call 57; with_reducible refine Calls.regrown_of (kM _ _)) | (go_at_call 37; with_reducible refine Calls.regrown_of (kS _ _)))) | (quiet_step (first | (go_at_call 84; with_reducible refine Calls.regrown_of (kA _ _)) | (go_at_call 20; with_reducible refine Calls.regrown_of (kP _ _)) | (go_at_call 57; with_reducible refine Calls.regrown_of (kM _ _)) | (go_at_call 37; with_reducible refine Calls.regrown_of (kS _ _)))))
        refine wpQuiet_nil ?_
        intro _ hw9
        obtain ⟨⟨nq, osq⟩, hw8⟩ := hw9
        subst hw8
        have hbz := below_regrown w1 nq osq
        generalize (Go.Sort.grow (redrawn w1 nq) osq) = w2 at *
        have HX2 := Lib.hid (hbox0.on hbz hbox0.lt)
        have HB2 := Lib.hid (HB0.out.trans (hbz.mono hsz1))
        clear kA kP kM kS r0 r1 c0 c1 hbz hbox0
        have c0 := HX2.out.c0
        have c1 := HX2.out.c1
        go_wp2_with fail
        refine (HAP.out w2 HB2.out).mono ?_
        rintro e w3 ⟨v, rfl, hrow, hb3⟩
        obtain ⟨ap, cpp, rfl⟩ := own_form hrow
        have HPI := Lib.hid (IntsAt.of_own hrow (fun z hz => by have := HPB.out z hz; unfold In64; omega))
        have HB3 := Lib.hid (HB2.out.trans (hb3.mono HB2.out.size))
        have HX3 := Lib.hid (HX2.out.on hb3 HX2.out.lt)
        clear hrow hb3 c0 c1 HX2 HB2
        go_wp2
        go_loopw [10] (fun i wr => ∃ k : Nat, k ≤ P.length ∧ i = .int .i64 k ∧ Hid (zerW W l ws p P k = true) ∧ Below w3.heap.size w3 wr) (fun i _ => P.length - (intOf i).toNat)
        case atStart => exact ⟨0, by omega, rfl, by simp [Hid, zerW, allN], Below.refl _ _⟩
        case round =>
          obtain ⟨k, hk, rfl, ho, hb⟩ := hrel
          have hbx := HX3.out.on hb HX3.out.lt
          have c0 := hbx.c0
          have c1 := hbx.c1
          have hs3 := HB3.out.size
          have hbw := HB3.out.trans (hb.mono hs3)
          have hsr := hb.size
          by_cases hlt : k < P.length
          · have hk1 : (k : Int) < (P.length : Int) := by omega
            have hk0 : (0 : Int) ≤ (k : Int) := by omega
            obtain ⟨b9, o9, rfl, hb9, hc9⟩ := (HPI.out.on hb).2.2 (by omega)
            have p1 := hc9 k hlt
            have hzb := HPB.out (P.getD k 0) (by simp [List.getD, hlt])
            have hZ := Lib.hid (HZS.out k)
            have hF := Lib.hid (fun h => HZB.out k h hlt)
            obtain ⟨q, hq⟩ : ∃ q, P.getD k 0 = q := ⟨_, rfl⟩
            rw [hq] at p1 hzb hZ hF
            have hSk := Lib.hid (HS.out q (by unfold In64; omega))
            obtain ⟨sk, hsk⟩ : ∃ sk, sumW W l q ws p = sk := ⟨_, rfl⟩
            rw [hsk] at hSk hZ hF
            have r0 := cell_regrown c0
            have r1 := cell_regrown c1
            have r2 := cell_regrown p1
            have kS := fun d os => hSk.out _ (hbw.trans ((below_regrown wr d os).mono (Nat.le_trans hs3 hsr)))
            clear hq hsk hc9
            go_wp2_with fail
            refine wp_region_quiet_below (by kernel_rfl) (by kernel_rfl) ?_
            repeat (first | (go_big_quiet_step (first | (go_at_call 37; with_reducible refine Calls.regrown_of (kS _ _)))) | (quiet_step (first | (go_at_call 37; with_reducible refine Calls.regrown_of (kS _ _)))))
            refine wpQuiet_nil ?_
            intro _ hw9
            obtain ⟨⟨nq, osq⟩, hw8⟩ := hw9
            subst hw8
            have hbz := below_regrown wr nq osq
            generalize (Go.Sort.grow (redrawn wr nq) osq) = w6 at *
            have HB6 := Lib.hid (hb.trans (hbz.mono hsr))
            clear kS r0 r1 r2 c0 c1 p1 hbz
            by_cases hz : sk = 0
            · have e4 : (sk != 0) = false := by simp [hz]
              have HN := Lib.hid (show zerW W l ws p P (k + 1) = true from by rw [hZ.out, ho.out, hz]; rfl)
              clear hz
              go_wp2
              go_roundw
              case rel => first
                | exact ⟨k + 1, by omega, by go_num, HN.out, HB6.out⟩
                | (repeat apply Exists.intro
                   exact ⟨⟨k + 1, by omega, by go_num, HN.out, HB6.out⟩, rfl⟩)
              case measure => first | (simp [intOf]; done) | (simp [intOf]; omega)
            · have e4 : (sk != 0) = true := by simp [hz]
              have HN := Lib.hid (hF.out (by simp [hz]))
              clear hz
              go_wp2
              go_ret
              exact ⟨by rw [HN.out]; rfl, HB3.out.trans (HB6.out.mono hs3)⟩
          · obtain rfl : k = P.length := by omega
            go_wp2
            go_ret
            exact ⟨by rw [ho.out]; rfl, hbw⟩
end

end Go.Proofs.YtkcclhnligajeaaGreatDoor
