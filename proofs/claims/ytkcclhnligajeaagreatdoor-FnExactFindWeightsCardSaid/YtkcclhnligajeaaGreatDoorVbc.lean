/-
  Placements of a shape, of several shapes, those that have a cell: in the program: what the calls give.
  Sums of weights, are weights accepted: in the program: what each call gives.
  A slice of cells that came in as an argument, out of its reading.
  The laws on what is asked of a shape: the walk of each law, out of the contracts of the program's function and of its model.
-/
import Derived.Test.YtkcclhnligajeaaGreatDoorVaz
import Derived.Test.YtkcclhnligajeaaGreatDoorVbb
import Derived.Test.YtkcclhnligajeaaGreatDoorVas
import Derived.Test.YtkcclhnligajeaaGreatDoorVav
import Derived.Test.YtkcclhnligajeaaGreatDoorVar
import Derived.Test.YtkcclhnligajeaaGreatDoorVaw
import Derived.Lib.QuietBelow
import Derived.Test.YtkcclhnligajeaaGreatDoorVaa
import Derived.Deep.SlicePairs
import Derived.Test.YtkcclhnligajeaaGreatDoorVax
import Derived.Test.YtkcclhnligajeaaGreatDoorVba
namespace Go.Proofs.YtkcclhnligajeaaGreatDoor

section
open Go.RowKit Go.Sort

set_option maxHeartbeats 4000000 in
set_option maxRecDepth 100000 in
theorem iPl (B n cap m2 cap2 : Nat) (a a2 : Option Addr) (W : Int) (l : List Int) (cs : List Cl) (w : World) (hn : n ≤ 4194304) (hm : m2 ≤ 1048576) (hc : IntsAt B w a n l) (hd : CellsAt B w a2 m2 cs) (hB : B ≤ w.heap.size) :
    Calls Tryz.prog 105 #[.agg #[.int .i64 W, .slice a n cap], .slice a2 m2 cap2] w (GivesV w (plR W l cs)) := by
  have H := Lib.hid hc
  have HD := Lib.hid hd
  have HLN := Lib.hid hc.1
  clear hc hd
  have hb0 := (Below.refl w.heap.size w).alloc (Nat.le_refl _) (.cells #[.int .i64 W, .slice a n cap] 26)
  have hbox0 := RgAt.new (w := w) W (.slice a n cap) rfl
  have hsz0 : (w.alloc (.cells #[.int .i64 W, .slice a n cap] 26)).heap.size = w.heap.size + 1 := by simp
  cases h : isReg W l with
  | false =>
    have HI := Lib.hid h
    have HO := Lib.hid (plR_no h cs)
    clear h
    go_enter Tryz.func105, Tryz.ntmps105
    go_wp2_with fail
    refine (iIsReg B n cap a W l _ hn (H.out.on (hb0.mono hB)) (Nat.le_trans hB hb0.size)).mono ?_
    rintro e w' ⟨rfl, hb⟩
    rw [HI.out]
    have HB2 := Lib.hid (hb0.trans (hb.mono hb0.size))
    clear hb hb0
    go_wp2
    go_ret
    exact ⟨_, rfl, by rw [HO.out]; exact World.ownsRow_nil _ _ _ _, HB2.out⟩
  | true =>
    obtain ⟨N, rfl, hr⟩ := isReg_out h
    have hln := HLN.out
    rw [hln] at hr
    have HR := Lib.hid hr
    have HI := Lib.hid h
    have HO := Lib.hid (plR_prog hr cs)
    have hN6 := hr.w6
    have hn6 := hr.h6
    have HML := Lib.hid (fun i hi => mvTo_len hr.w6 hr.h6 l cs i hi)
    have HORN := Lib.hid (fun (o : List Cl) (h : o ∈ orientS cs) => (orient_mem h).2.1)
    clear h hr hln
    go_enter Tryz.func105, Tryz.ntmps105
    go_wp2_with fail
    refine (iIsReg B n cap a N l _ hn (H.out.on (hb0.mono hB)) (Nat.le_trans hB hb0.size)).mono ?_
    rintro e W1 ⟨rfl, hb⟩
    rw [HI.out]
    have hb1 := hb0.trans (hb.mono hb0.size)
    have hbox1 := hbox0.on hb hbox0.lt
    clear hb hb0 hbox0 hsz0
    go_wp2_with fail
    refine (iOrient B m2 cap2 a2 cs W1 (by omega) (HD.out.on (hb1.mono hB)) (Nat.le_trans hB hb1.size)).mono ?_
    rintro e W2 ⟨v, es, rfl, hk, hsm, hos, hb2⟩
    have HB2 := Lib.hid (hb1.trans (hb2.mono hb1.size))
    have hbox := hbox1.on hb2 hbox1.lt
    obtain ⟨aO, cO, rfl, hps⟩ := PsB.of_own (M := 4194304) hos hsm (fun e he => (hsm e he).1)
    rw [hk] at hps
    have HPS := Lib.hid hps
    have hKe : es.length = (orientS cs).length := by rw [← hk, List.length_map]
    obtain ⟨os, hos9⟩ : ∃ os, orientS cs = os := ⟨_, rfl⟩
    have hK8 : os.length ≤ 8 := by rw [← hos9]; exact orient_le cs
    rw [hos9] at HO HML HORN HPS hKe
    obtain ⟨K, hK⟩ : ∃ K, es.length = K := ⟨_, rfl⟩
    rw [hK] at HPS hKe ⊢
    have HMS := Lib.hid (fun i (h : i < os.length) => mvTo_succ (W := N) (H := n) (l := l) (os := os) (i := i) h)
    clear hb1 hb2 hbox1 hos hsm hk hps hK hos9
    go_wp2
    go_loopw [5, 14] (fun v i wr => ∃ k m : Nat, k ≤ K ∧ i = .int .i64 k ∧ Hid (m = (mvTo N n l os k).length) ∧ Hid (wr.ownsRow W2.heap.size 3 1 v m (iv (mvTo N n l os k))) ∧ Below W2.heap.size W2 wr) (fun _ i _ => K - (intOf i).toNat)
    case atStart => exact ⟨0, 0, by omega, rfl, rfl, World.ownsRow_nil _ _ _ _, Below.refl _ _⟩
    case round =>
      obtain ⟨k, m, hk, rfl, hmm, hown, hb⟩ := hrel
      have hsz := hb.size
      have hbx := hbox.on hb hbox.lt
      have hbw := HB2.out.trans (hb.mono HB2.out.size)
      by_cases hlt : k < K
      · have hk1 : (k : Int) < (K : Int) := by omega
        have hk0 : (0 : Int) ≤ (k : Int) := by omega
        obtain ⟨b, off, rfl, hbB, hcell⟩ := HPS.out.2 (by omega)
        obtain ⟨ak, ck, h1, h2, h3⟩ := hcell k hlt
        have p1 := (hb.cell (p := ⟨b, off + k, none⟩) hbB).trans h1
        have HC := Lib.hid ((h2.on hb).more hsz)
        have HST := Lib.hid (HMS.out k (by omega))
        have hml := HML.out k (by omega)
        rw [← hmm.out] at hml
        have HOK := Lib.hid (HORN.out (os.getD k []) (by simp [List.getD, show k < os.length by omega]))
        obtain ⟨o, ho⟩ : ∃ o, os.getD k [] = o := ⟨_, rfl⟩
        rw [ho] at p1 HC HST HOK h3
        have hol := mvO_len hN6 hn6 l HOK.out
        have c0 := hbx.c0
        have c1 := hbx.c1
        have hown9 := hown.out
        have HMM := Lib.hid hmm.out
        obtain ⟨out1, hout1⟩ : ∃ r, mvTo N n l os k = r := ⟨_, rfl⟩
        rw [hout1] at hown9 HST HMM
        clear hcell h1 h2 ho hown hmm hout1
        go_wp2_with fail
        refine (iMoved wr.heap.size n cap o.length ck N a ak l o wr hn h3 HR.out HOK.out ((H.out.on (hbw.mono hB)).more (Nat.le_trans hB hbw.size)) HC.out (Nat.le_refl _)).mono ?_
        rintro e w3 ⟨u, rfl, hou, hb3⟩
        have hown3 := hown9.kept (grow_below hb3 none) (Classical.em _)
        have hb3' := hb.trans (hb3.mono hsz)
        have hs3 := hb3'.size
        have HMM1 := Lib.hid (show m + (mvO N n l o).length = (mvTo N n l os (k + 1)).length from by rw [HST.out, List.length_append, ← HMM.out])
        clear hown9 hb3 c0 c1
        go_wp2_with (first | (at_builtin; refine wpList_app rfl _ _ rfl W2.heap.size wr.heap.size _ _ _ _ _ _ rfl rfl hown3 hou ?c1 ?c2 ?_) | go_in)
        case c1 => omega
        case c2 => omega
        intro v' w4 hown4 hgrow
        rw [← HST.out] at hown4
        have HB4 := Lib.hid (hb3'.grown hgrow hs3 (fun j hj => (hown3.lt j hj).1))
        have HO4 := Lib.hid hown4
        clear hown4 hgrow hown3 hb3' hou
        go_wp2
        go_roundw
        case rel => first
          | exact ⟨k + 1, m + (mvO N n l o).length, by omega, by go_num, HMM1.out, HO4.out, HB4.out⟩
          | (repeat apply Exists.intro
             exact ⟨⟨k + 1, m + (mvO N n l o).length, by omega, by go_num, HMM1.out, HO4.out, HB4.out⟩, rfl⟩)
        case measure => simp [intOf]; omega
      · obtain rfl : k = K := by omega
        have hml := HML.out k (by omega)
        rw [hKe] at hown hmm
        have hown8 := hown.out
        rw [hmm.out] at hown8
        rw [hKe] at hml
        have HBW := Lib.hid hbw
        have HB := Lib.hid hb
        have hs2 := HB2.out.size
        clear hown hbw hbx hb hmm
        go_wp2_with fail
        refine (iAsc W2.heap.size _ (mvTo N n l os os.length) wr (by omega) hown8).mono ?_
        rintro e w3 ⟨v', rfl, hou, hb3⟩
        have HR9 := Lib.hid (show w3.ownsRow w.heap.size 3 1 v' (plR N l cs).length (iv (plR N l cs)) from by rw [HO.out]; exact own_below hou hs2)
        have HB9 := Lib.hid (HBW.out.trans (hb3.mono hs2))
        clear hou hb3 hown8
        go_wp2
        go_ret
        exact ⟨_, rfl, HR9.out, HB9.out⟩

set_option maxHeartbeats 4000000 in
set_option maxRecDepth 100000 in
theorem iAp (B n cap m2 cap2 : Nat) (a a2 : Option Addr) (W : Int) (l : List Int) (ps : List (List Cl)) (w : World) (hn : n ≤ 4194304) (hm : m2 ≤ 1048576) (hc : IntsAt B w a n l) (hd : PsAt B w a2 m2 ps) (hB : B ≤ w.heap.size) :
    Calls Tryz.prog 59 #[.agg #[.int .i64 W, .slice a n cap], .slice a2 m2 cap2] w (GivesV w (apR W l ps)) := by
  have H := Lib.hid hc
  have HD := Lib.hid hd
  have hlp := hd.1
  clear hc hd
  have hb0 := (Below.refl w.heap.size w).alloc (Nat.le_refl _) (.cells #[.int .i64 W, .slice a n cap] 26)
  have hbox0 := RgAt.new (w := w) W (.slice a n cap) rfl
  have hsz0 : (w.alloc (.cells #[.int .i64 W, .slice a n cap] 26)).heap.size = w.heap.size + 1 := by simp
  go_enter Tryz.func59, Tryz.ntmps59
  go_wp2_with fail
  generalize (w.alloc (.cells #[.int .i64 W, .slice a n cap] 26)) = W1 at *
  refine (iArePc B m2 cap2 a2 ps W1 (by omega) (HD.out.on (hb0.mono hB)) (Nat.le_trans hB hb0.size)).mono ?_
  rintro e W2 ⟨rfl, hb2⟩
  have HB2 := Lib.hid (hb0.trans (hb2.mono hb0.size))
  have hbox := hbox0.on hb2 hbox0.lt
  clear hb2 hb0 hbox0 hsz0
  cases h : arePc ps with
  | false =>
    have HO := Lib.hid (apR_no h W l)
    clear h
    go_wp2
    go_ret
    exact ⟨_, rfl, by rw [HO.out]; exact World.ownsRow_nil _ _ _ _, HB2.out⟩
  | true =>
    have hl5 := (arePc_len h).2
    rw [hlp] at hl5
    have HO := Lib.hid (show apR W l ps = ascI (apTo W l ps m2) from by rw [apR_yes h, hlp])
    have HML := Lib.hid (fun i hi => apTo_len W l ps i hi)
    have HMS := Lib.hid (fun i (h : i < ps.length) => apTo_succ (W := W) (l := l) (ps := ps) (i := i) h)
    clear h
    go_wp2
    go_loopw [5, 13] (fun v i wr => ∃ k m : Nat, k ≤ m2 ∧ i = .int .i64 k ∧ Hid (m = (apTo W l ps k).length) ∧ Hid (wr.ownsRow W2.heap.size 3 1 v m (iv (apTo W l ps k))) ∧ Below W2.heap.size W2 wr) (fun _ i _ => m2 - (intOf i).toNat)
    case atStart => exact ⟨0, 0, by omega, rfl, rfl, World.ownsRow_nil _ _ _ _, Below.refl _ _⟩
    case round =>
      obtain ⟨k, m, hk, rfl, hmm, hown, hb⟩ := hrel
      have hsz := hb.size
      have hbx := hbox.on hb hbox.lt
      have hbw := HB2.out.trans (hb.mono HB2.out.size)
      by_cases hlt : k < m2
      · have hk1 : (k : Int) < (m2 : Int) := by omega
        have hk0 : (0 : Int) ≤ (k : Int) := by omega
        obtain ⟨b, off, rfl, hbB, hcell⟩ := HD.out.2 (by omega)
        obtain ⟨ak, ck, h1, h2, h3⟩ := hcell k hlt
        have p1 := (hbw.cell (p := ⟨b, off + k, none⟩) (Nat.lt_of_lt_of_le hbB hB)).trans h1
        have HC := Lib.hid ((h2.on (hbw.mono hB)).more (Nat.le_trans hB hbw.size))
        have HST := Lib.hid (HMS.out k (by omega))
        have hml := HML.out k (by omega)
        rw [← hmm.out] at hml
        obtain ⟨o, ho⟩ : ∃ o, ps.getD k [] = o := ⟨_, rfl⟩
        rw [ho] at p1 HC HST h3
        have hol := plR_len W l o
        have c0 := hbx.c0
        have c1 := hbx.c1
        have hown9 := hown.out
        have HMM := Lib.hid hmm.out
        obtain ⟨out1, hout1⟩ : ∃ r, apTo W l ps k = r := ⟨_, rfl⟩
        rw [hout1] at hown9 HST HMM
        clear hcell h1 h2 ho hown hmm hout1
        go_wp2_with fail
        refine (iPl wr.heap.size n cap o.length ck a ak W l o wr hn h3 ((H.out.on (hbw.mono hB)).more (Nat.le_trans hB hbw.size)) HC.out (Nat.le_refl _)).mono ?_
        rintro e w3 ⟨u, rfl, hou, hb3⟩
        have hown3 := hown9.kept (grow_below hb3 none) (Classical.em _)
        have hb3' := hb.trans (hb3.mono hsz)
        have hs3 := hb3'.size
        have HMM1 := Lib.hid (show m + (plR W l o).length = (apTo W l ps (k + 1)).length from by rw [HST.out, List.length_append, ← HMM.out])
        clear hown9 hb3 c0 c1
        go_wp2_with (first | (at_builtin; refine wpList_app rfl _ _ rfl W2.heap.size wr.heap.size _ _ _ _ _ _ rfl rfl hown3 hou ?c1 ?c2 ?_) | go_in)
        case c1 => omega
        case c2 => omega
        intro v' w4 hown4 hgrow
        rw [← HST.out] at hown4
        have HB4 := Lib.hid (hb3'.grown hgrow hs3 (fun j hj => (hown3.lt j hj).1))
        have HO4 := Lib.hid hown4
        clear hown4 hgrow hown3 hb3' hou
        go_wp2
        go_roundw
        case rel => first
          | exact ⟨k + 1, m + (plR W l o).length, by omega, by go_num, HMM1.out, HO4.out, HB4.out⟩
          | (repeat apply Exists.intro
             exact ⟨⟨k + 1, m + (plR W l o).length, by omega, by go_num, HMM1.out, HO4.out, HB4.out⟩, rfl⟩)
        case measure => simp [intOf]; omega
      · obtain rfl : k = m2 := by omega
        have hml := HML.out k (by omega)
        have hown8 := hown.out
        rw [hmm.out] at hown8
        have HBW := Lib.hid hbw
        have hs2 := HB2.out.size
        clear hown hbw hbx hb hmm
        go_wp2_with fail
        refine (iAsc W2.heap.size _ (apTo W l ps k) wr (by omega) hown8).mono ?_
        rintro e w3 ⟨v', rfl, hou, hb3⟩
        have HR9 := Lib.hid (show w3.ownsRow w.heap.size 3 1 v' (apR W l ps).length (iv (apR W l ps)) from by rw [HO.out]; exact own_below hou hs2)
        have HB9 := Lib.hid (HBW.out.trans (hb3.mono hs2))
        clear hou hb3 hown8
        go_wp2
        go_ret
        exact ⟨_, rfl, HR9.out, HB9.out⟩
end

section
open Go.RowKit Go.Sort

set_option maxHeartbeats 4000000 in
set_option maxRecDepth 100000 in
theorem iForb (B n cap m3 cap3 : Nat) (a a3 : Option Addr) (W : Int) (l ws : List Int) (p : Int) (w : World) (hn : n ≤ 4194304) (hm3 : m3 ≤ 4194304) (hc : IntsAt B w a n l) (hw : IntsAt B w a3 m3 ws) (hB : B ≤ w.heap.size) (hT : Tz w) :
    Calls Tryz.prog 72 #[.agg #[.int .i64 W, .slice a n cap], .slice a3 m3 cap3, .int .i64 p] w fun e w' => e = .returned (.bool (decide (0 < sumW W l (maskR W l : Nat) ws p))) ∧ Below w.heap.size w w' := by
  have hb0 := (Below.refl w.heap.size w).alloc (Nat.le_refl _) (.cells #[.int .i64 W, .slice a n cap] 26)
  have hbox0 := RgAt.new (w := w) W (.slice a n cap) rfl
  have hmk := maskR_lt W l
  have HM := Lib.hid (fun W9 (h9 : Below w.heap.size w W9) => iMask B n cap a W l W9 hn (hc.on (h9.mono hB)) (Nat.le_trans hB h9.size))
  have HS := Lib.hid (fun W9 (h9 : Below w.heap.size w W9) => iSumW B n cap m3 cap3 a a3 W l ws (maskR W l : Nat) p W9 (by unfold In64; omega) hn hm3 (hc.on (h9.mono hB)) (hw.on (h9.mono hB)) (Nat.le_trans hB h9.size) (hT.on h9 hT.2))
  obtain ⟨mk, hk⟩ : ∃ mk, maskR W l = mk := ⟨_, rfl⟩
  rw [hk] at HM HS ⊢
  obtain ⟨s0, hs0⟩ : ∃ s0, sumW W l ((mk : Nat) : Int) ws p = s0 := ⟨_, rfl⟩
  rw [hs0] at HS ⊢
  have c0 := hbox0.c0
  have c1 := hbox0.c1
  have HB0 := Lib.hid hb0
  have hsz1 : w.heap.size ≤ (w.alloc (.cells #[.int .i64 W, .slice a n cap] 26)).heap.size := by simp
  clear hc hw hk hs0 hb0
  go_enter Tryz.func72, Tryz.ntmps72
  go_wp2_with fail
  generalize (w.alloc (.cells #[.int .i64 W, .slice a n cap] 26)) = w1 at *
  have r0 := cell_regrown c0
  have r1 := cell_regrown c1
  have kM := fun d os => HM.out _ (HB0.out.trans ((below_regrown w1 d os).mono hsz1))
  have kS := fun d os => HS.out _ (HB0.out.trans ((below_regrown w1 d os).mono hsz1))
  refine wp_region_quiet_below (by kernel_rfl) (by kernel_rfl) ?_
  repeat (first | (go_big_quiet_step (first | (go_at_call 60; with_reducible refine Calls.regrown_of (kM _ _)) | (go_at_call 36; with_reducible refine Calls.regrown_of (kS _ _)))) | (quiet_step (first | (go_at_call 60; with_reducible refine Calls.regrown_of (kM _ _)) | (go_at_call 36; with_reducible refine Calls.regrown_of (kS _ _)))))
  refine wpQuiet_nil ?_
  intro _ hw9
  obtain ⟨⟨nq, osq⟩, hw8⟩ := hw9
  subst hw8
  have hbz := below_regrown w1 nq osq
  generalize (Go.Sort.grow (redrawn w1 nq) osq) = w2 at *
  clear kM kS r0 r1 c0 c1
  go_wp2
  go_ret
  exact ⟨rfl, HB0.out.trans (hbz.mono hsz1)⟩
set_option maxHeartbeats 2000000 in
set_option maxRecDepth 100000 in
theorem iCanW (B n cap m2 cap2 : Nat) (a a2 : Option Addr) (W : Int) (l : List Int) (ps : List (List Cl)) (p : Int) (w : World) (hn : n ≤ 4194304) (hm : m2 ≤ 4194304) (hc : IntsAt B w a n l) (hd : PsAt B w a2 m2 ps) (hB : B ≤ w.heap.size) :
    Calls Tryz.prog 67 #[.agg #[.int .i64 W, .slice a n cap], .slice a2 m2 cap2, .int .i64 p] w fun e w' => e = .returned (.bool (okPr W l ps p)) ∧ Below w.heap.size w w' := by
  have H := Lib.hid hc
  have HD := Lib.hid hd
  have hb0 := (Below.refl w.heap.size w).alloc (Nat.le_refl _) (.cells #[.int .i64 W, .slice a n cap] 26)
  clear hc hd
  cases h1 : okT W l ps with
  | false =>
    have HO := Lib.hid (show okPr W l ps p = false from by unfold okPr; rw [h1]; rfl)
    have HI := Lib.hid h1
    rw [HO.out]
    clear h1
    go_enter Tryz.func67, Tryz.ntmps67
    go_wp2_with fail
    refine (iCanT B n cap m2 cap2 a a2 W l ps _ hn hm (H.out.on (hb0.mono hB)) (HD.out.on (hb0.mono hB)) (Nat.le_trans hB hb0.size)).mono ?_
    rintro e w1 ⟨rfl, hb⟩
    rw [HI.out]
    go_wp2
    go_ret
    exact ⟨rfl, hb0.trans (hb.mono hb0.size)⟩
  | true =>
    have HO := Lib.hid (show okPr W l ps p = prmB p from by unfold okPr; rw [h1]; rfl)
    have HI := Lib.hid h1
    rw [HO.out]
    clear h1
    go_enter Tryz.func67, Tryz.ntmps67
    go_wp2_with fail
    refine (iCanT B n cap m2 cap2 a a2 W l ps _ hn hm (H.out.on (hb0.mono hB)) (HD.out.on (hb0.mono hB)) (Nat.le_trans hB hb0.size)).mono ?_
    rintro e w1 ⟨rfl, hb⟩
    rw [HI.out]
    have HB1 := Lib.hid (hb0.trans (hb.mono hb0.size))
    clear hb hb0
    go_wp2_with fail
    refine (iPrm p w1).mono ?_
    rintro e w2 ⟨rfl, rfl⟩
    go_wp2
    go_ret
    exact ⟨rfl, HB1.out⟩
theorem isWP_no4 {W : Int} {l : List Int} {ps : List (List Cl)} {p : Int} {ws : List Int} (h : okPr W l ps p = false) : isWP W l ps p ws = false := by
  unfold okPr okT at h
  unfold isWP areW
  cases h1 : isReg W l <;> cases h2 : arePc ps <;> cases h3 : prmB p <;> rw [h1, h2, h3] at h <;> simp at h ⊢
theorem isWP_i {W : Int} {l : List Int} {ps : List (List Cl)} {p : Int} {ws : List Int} (h : okPr W l ps p = true) :
    isWP W l ps p ws = (decide (0 < sumW W l ((maskR W l : Nat) : Int) ws p) && zerW W l ws p (apR W l ps) (apR W l ps).length) := by
  obtain ⟨_, hr, ha, hp⟩ := okPr_parts h
  unfold isWP
  cases h1 : areW W l ws p with
  | false =>
    rw [sumW_no (fun h9 => by rw [h1] at h9; cases h9.1)]
    rfl
  | true =>
    obtain ⟨N, rfl, hr2⟩ := isReg_out hr
    have hm : okM (N : Int) l ((maskR (N : Int) l : Nat) : Int) = true := okM_of hr2 fun i hi => hi
    have h2 := Int.emod_nonneg (smN (maskR (N : Int) l) ws ws.length) (show p ≠ 0 by have := hp.pos; omega)
    rw [sumW_yes h1 hm, ha, Bool.true_and, Bool.true_and]
    congr 1
    generalize smN (maskR (N : Int) l) ws ws.length % p = x at h2
    rw [Bool.eq_iff_iff, decide_eq_true_eq, Bool.not_eq_true', beq_eq_false_iff_ne]
    omega
set_option maxHeartbeats 2000000 in
set_option maxRecDepth 100000 in
theorem iHasSum (B n cap m3 cap3 br bw bp : Nat) (a a3 : Option Addr) (W : Int) (l ws : List Int) (p z : Int) (w : World) (hz : In64 z) (hn : n ≤ 4194304) (hm3 : m3 ≤ 4194304) (hc : IntsAt B w a n l) (hw : IntsAt B w a3 m3 ws) (hB : B ≤ w.heap.size) (hT : Tz w)
    (hR : RgAt w br W (.slice a n cap)) (hW : w.cell? ⟨bw, 0, none⟩ = some (.slice a3 m3 cap3)) (hP : w.cell? ⟨bp, 0, none⟩ = some (.int .i64 p)) :
    Calls Tryz.prog 78 #[.int .i64 z, .pointer (some ⟨br, 0, none⟩), .pointer (some ⟨bw, 0, none⟩), .pointer (some ⟨bp, 0, none⟩)] w fun e w' => e = .returned (.bool (sumW W l z ws p != 0)) ∧ Below w.heap.size w w' := by
  have H := Lib.hid (iSumW B n cap m3 cap3 a a3 W l ws z p w hz hn hm3 hc hw hB hT)
  have c0 := hR.c0
  have c1 := hR.c1
  clear hc hw hT
  obtain ⟨s0, hs0⟩ : ∃ s0, sumW W l z ws p = s0 := ⟨_, rfl⟩
  rw [hs0] at H ⊢
  clear hs0
  go_enter Tryz.func78, Tryz.ntmps78
  go_wp2_with fail
  refine H.out.mono ?_
  rintro e w1 ⟨rfl, hb⟩
  clear c0 c1 hW hP
  go_wp2
  go_ret
  exact ⟨rfl, hb⟩
set_option maxHeartbeats 2000000 in
set_option maxRecDepth 100000 in
theorem iIdxHs (B n cap m3 cap3 br bw bp L cL : Nat) (a a3 aL : Option Addr) (W : Int) (l ws P : List Int) (p : Int) (w : World) (hL : L ≤ 4194304) (hn : n ≤ 4194304) (hm3 : m3 ≤ 4194304) (hc : IntsAt B w a n l) (hw : IntsAt B w a3 m3 ws) (hPr : IntsAt B w aL L P) (hB : B ≤ w.heap.size) (hT : Tz w)
    (hR : RgAt w br W (.slice a n cap)) (hW : w.cell? ⟨bw, 0, none⟩ = some (.slice a3 m3 cap3)) (hP : w.cell? ⟨bp, 0, none⟩ = some (.int .i64 p)) (hbw : bw < w.heap.size) (hbp : bp < w.heap.size) :
    Calls Tryz.prog 121 #[.slice aL L cL, .func (.func 78) #[] #[.pointer (some ⟨br, 0, none⟩), .pointer (some ⟨bw, 0, none⟩), .pointer (some ⟨bp, 0, none⟩)]] w fun e w' => ∃ r : Int, e = .returned (.int .i64 r) ∧ decide (0 ≤ r) = (!zerW W l ws p P L) ∧ Below w.heap.size w w' := by
  have HPI := Lib.hid hPr
  have HS := Lib.hid (fun z (hz : In64 z) W9 (h9 : Below w.heap.size w W9) => iHasSum B n cap m3 cap3 br bw bp a a3 W l ws p z W9 hz hn hm3 (hc.on (h9.mono hB)) (hw.on (h9.mono hB)) (Nat.le_trans hB h9.size) (hT.on h9 hT.2) (hR.on h9 hR.lt) ((h9.cell (p := ⟨bw, 0, none⟩) hbw).trans hW) ((h9.cell (p := ⟨bp, 0, none⟩) hbp).trans hP))
  have HZS := Lib.hid (fun k => zerW_step W l ws p P k)
  have HZB := Lib.hid (fun k h (hk : k < L) => zerW_bad (W := W) (l := l) (ws := ws) (p := p) (P := P) (k := k) (n := L) h hk)
  clear hc hw hPr hT hR hW hP
  go_enter Tryz.func121, Tryz.ntmps121
  go_wp2
  go_loopw [8] (fun i wr => ∃ k : Nat, k ≤ L ∧ i = .int .i64 k ∧ Hid (zerW W l ws p P k = true) ∧ Below w.heap.size w wr) (fun i _ => L - (intOf i).toNat)
  case atStart => exact ⟨0, by omega, rfl, by simp [Hid, zerW, allN], Below.refl _ _⟩
  case round =>
    obtain ⟨k, hk, rfl, ho, hb⟩ := hrel
    by_cases hlt : k < L
    · have hk1 : (k : Int) < (L : Int) := by omega
      have hk0 : (0 : Int) ≤ (k : Int) := by omega
      obtain ⟨b, off, rfl, hbB, hcell⟩ := HPI.out.2.2 (by omega)
      have p1 := (hb.cell (p := ⟨b, off + k, none⟩) (Nat.lt_of_lt_of_le hbB hB)).trans (hcell k hlt)
      have hin := HPI.out.2.1 (P.getD k 0) (by have h8 := HPI.out.1; simp [List.getD, show k < P.length by omega])
      have HZ := Lib.hid (HZS.out k)
      have HF := Lib.hid (fun h => HZB.out k h hlt)
      obtain ⟨q, hq⟩ : ∃ q, P.getD k 0 = q := ⟨_, rfl⟩
      rw [hq] at p1 hin HZ HF
      have HC := Lib.hid (HS.out q hin wr hb)
      obtain ⟨sk, hsk⟩ : ∃ sk, sumW W l q ws p = sk := ⟨_, rfl⟩
      rw [hsk] at HC HZ HF
      clear hcell hq hsk
      go_wp2_with fail
      refine HC.out.mono ?_
      rintro e w2 ⟨rfl, hb2⟩
      have HB := Lib.hid (hb.trans (hb2.mono hb.size))
      clear hb hb2 p1
      by_cases hz : sk = 0
      · have e4 : (sk != 0) = false := by simp [hz]
        have HN := Lib.hid (show zerW W l ws p P (k + 1) = true from by rw [HZ.out, ho.out, hz]; rfl)
        clear hz
        go_wp2
        go_roundw
        case rel => exact ⟨k + 1, by omega, by go_num, HN.out, HB.out⟩
        case measure => simp [intOf]; omega
      · have e4 : (sk != 0) = true := by simp [hz]
        have HN := Lib.hid (HF.out (by simp [hz]))
        clear hz
        go_wp2
        go_ret
        exact ⟨_, rfl, by rw [HN.out]; simp, HB.out⟩
    · obtain rfl : k = L := by omega
      go_wp2
      go_ret
      exact ⟨_, rfl, by rw [ho.out]; rfl, hb⟩
set_option maxHeartbeats 8000000 in
set_option maxRecDepth 100000 in
theorem iIsWP (B n cap m2 cap2 m3 cap3 : Nat) (a a2 a3 : Option Addr) (W : Int) (l ws : List Int) (ps : List (List Cl)) (p : Int) (w : World) (hn : n ≤ 4194304) (hm2 : m2 ≤ 1048576) (hm3 : m3 ≤ 4194304)
    (hc : IntsAt B w a n l) (hd : PsAt B w a2 m2 ps) (hw : IntsAt B w a3 m3 ws) (hB : B ≤ w.heap.size) (hT : Tz w) :
    Calls Tryz.prog 25 #[.agg #[.int .i64 W, .slice a n cap], .slice a2 m2 cap2, .int .i64 p, .slice a3 m3 cap3] w fun e w' => e = .returned (.bool (isWP W l ps p ws)) ∧ Below w.heap.size w w' := by
  have H := Lib.hid hc
  have HD := Lib.hid hd
  have HW := Lib.hid hw
  have HT := Lib.hid hT
  have HN := Lib.hid (isWP_no4 (W := W) (l := l) (ps := ps) (p := p) (ws := ws))
  have HY := Lib.hid (isWP_i (W := W) (l := l) (ps := ps) (p := p) (ws := ws))
  clear hc hd hw hT
  have hb0 : Below w.heap.size w (((w.alloc (.cells #[.int .i64 W, .slice a n cap] 26)).alloc (.cells #[.int .i64 p] 3)).alloc (.cells #[.slice a3 m3 cap3] 24)) := (((Below.refl w.heap.size w).alloc (Nat.le_refl _) _).alloc (by simp) _).alloc (by simp; omega) _
  have hX := ((RgAt.new (w := w) W (.slice a n cap) rfl).alloc (.cells #[.int .i64 p] 3)).alloc (.cells #[.slice a3 m3 cap3] 24)
  have hP := (Boxed.new (w.alloc (.cells #[.int .i64 W, .slice a n cap] 26)) 3 (.int .i64 p)).alloc (.cells #[.slice a3 m3 cap3] 24)
  have hQ := Boxed.new ((w.alloc (.cells #[.int .i64 W, .slice a n cap] 26)).alloc (.cells #[.int .i64 p] 3)) 24 (.slice a3 m3 cap3)
  simp only [World.size_alloc] at hP hQ
  have hsz : (((w.alloc (.cells #[.int .i64 W, .slice a n cap] 26)).alloc (.cells #[.int .i64 p] 3)).alloc (.cells #[.slice a3 m3 cap3] 24)).heap.size = w.heap.size + 1 + 1 + 1 := by simp
  have c0 := hX.c0
  have c1 := hX.c1
  have c2 := hP.cell
  have c3 := hQ.cell
  cases h1 : okPr W l ps p with
  | false =>
    have HO := Lib.hid (HN.out h1)
    have HI := Lib.hid h1
    rw [HO.out]
    clear h1 HN HY
    go_enter Tryz.func25, Tryz.ntmps25
    go_wp2_with fail
    generalize (((w.alloc (.cells #[.int .i64 W, .slice a n cap] 26)).alloc (.cells #[.int .i64 p] 3)).alloc (.cells #[.slice a3 m3 cap3] 24)) = w0 at *
    refine (iCanW B n cap m2 cap2 a a2 W l ps p w0 hn (by omega) (H.out.on (hb0.mono hB)) (HD.out.on (hb0.mono hB)) (Nat.le_trans hB hb0.size)).mono ?_
    rintro e w1 ⟨rfl, hb⟩
    rw [HI.out]
    clear c0 c1 c2 c3
    go_wp2
    go_ret
    exact ⟨rfl, hb0.trans (hb.mono hb0.size)⟩
  | true =>
    have HE := Lib.hid (HY.out h1)
    have HI := Lib.hid h1
    rw [HE.out]
    have HPB := Lib.hid (apR_bd W l ps)
    have hpl : (apR W l ps).length ≤ 1440 := by rw [← pQ_ints, ints_len]; exact pQ_len W l ps
    have HAP := Lib.hid (fun W9 (h9 : Below w.heap.size w W9) => iAp B n cap m2 cap2 a a2 W l ps W9 hn hm2 (H.out.on (h9.mono hB)) (HD.out.on (h9.mono hB)) (Nat.le_trans hB h9.size))
    have HFB := Lib.hid (fun W9 (h9 : Below w.heap.size w W9) => iForb B n cap m3 cap3 a a3 W l ws p W9 hn hm3 (H.out.on (h9.mono hB)) (HW.out.on (h9.mono hB)) (Nat.le_trans hB h9.size) (HT.out.on h9 HT.out.2))
    obtain ⟨fb, hfb⟩ : ∃ fb, decide (0 < sumW W l ((maskR W l : Nat) : Int) ws p) = fb := ⟨_, rfl⟩
    rw [hfb] at HFB ⊢
    obtain ⟨P, hP9⟩ : ∃ P, apR W l ps = P := ⟨_, rfl⟩
    rw [hP9] at HAP HPB hpl ⊢
    clear h1 HN HY HE hfb hP9
    go_enter Tryz.func25, Tryz.ntmps25
    go_wp2_with fail
    generalize (((w.alloc (.cells #[.int .i64 W, .slice a n cap] 26)).alloc (.cells #[.int .i64 p] 3)).alloc (.cells #[.slice a3 m3 cap3] 24)) = w0 at *
    refine (iCanW B n cap m2 cap2 a a2 W l ps p w0 hn (by omega) (H.out.on (hb0.mono hB)) (HD.out.on (hb0.mono hB)) (Nat.le_trans hB hb0.size)).mono ?_
    rintro e w1 ⟨rfl, hb⟩
    rw [HI.out]
    have HB1 := Lib.hid (hb0.trans (hb.mono hb0.size))
    have HX1 := Lib.hid (hX.on hb hX.lt)
    have HP1 := Lib.hid (hP.kept (grow_below hb none) (by simp))
    have HQ1 := Lib.hid (hQ.kept (grow_below hb none) (by simp))
    clear hb hb0 c0 c1 c2 c3 hX hP hQ
    have c0 := HX1.out.c0
    have c1 := HX1.out.c1
    have c2 := HP1.out.cell
    have c3 := HQ1.out.cell
    go_wp2_with fail
    refine (HFB.out w1 HB1.out).mono ?_
    rintro e w2 ⟨rfl, hb⟩
    have HB2 := Lib.hid (HB1.out.trans (hb.mono HB1.out.size))
    have HX2 := Lib.hid (HX1.out.on hb HX1.out.lt)
    have HP2 := Lib.hid (HP1.out.kept (grow_below hb none) (by simp))
    have HQ2 := Lib.hid (HQ1.out.kept (grow_below hb none) (by simp))
    clear hb c0 c1 c2 c3 HX1 HP1 HQ1
    cases fb with
    | false =>
      go_wp2
      go_ret
      exact ⟨rfl, HB2.out⟩
    | true =>
      have c0 := HX2.out.c0
      have c1 := HX2.out.c1
      go_wp2_with fail
      refine (HAP.out w2 HB2.out).mono ?_
      rintro e w3 ⟨v, rfl, hrow, hb⟩
      obtain ⟨ap, cpp, rfl⟩ := own_form hrow
      have HPI := Lib.hid (IntsAt.of_own hrow (fun z hz => by have := HPB.out z hz; unfold In64; omega))
      have HB3 := Lib.hid (HB2.out.trans (hb.mono HB2.out.size))
      have HX3 := Lib.hid (HX2.out.on hb HX2.out.lt)
      have HP3 := Lib.hid (HP2.out.kept (grow_below hb none) (by simp))
      have HQ3 := Lib.hid (HQ2.out.kept (grow_below hb none) (by simp))
      clear hrow hb c0 c1 HX2 HP2 HQ2
      go_wp2_with (first | (go_at_call 79; go_in))
      refine (iIdxHs w3.heap.size n cap m3 cap3 w.heap.size (w.heap.size + 1 + 1) (w.heap.size + 1) P.length cpp a a3 ap W l ws P p w3 (by omega) hn hm3 ((H.out.on (HB3.out.mono hB)).more (Nat.le_trans hB HB3.out.size)) ((HW.out.on (HB3.out.mono hB)).more (Nat.le_trans hB HB3.out.size)) HPI.out (Nat.le_refl _) (HT.out.on HB3.out HT.out.2) HX3.out HQ3.out.cell HP3.out.cell HQ3.out.lt HP3.out.lt).mono ?_
      rintro e w4 ⟨r, rfl, hr, hb⟩
      have HB4 := Lib.hid (HB3.out.trans (hb.mono HB3.out.size))
      have HR := Lib.hid hr
      clear hr hb
      go_wp2
      go_ret
      refine ⟨?_, HB4.out⟩
      have h9 := HR.out
      cases hi : zerW W l ws p P P.length <;> rw [hi] at h9 <;> simp at h9 <;> simp [h9]
end

section
open Go.RowKit Go.ChangeShapes Go.WideShapes

def valI : Value → Int
  | .int _ n => n
  | _ => 0

theorem wf_i64 {n : Int} (h : (Lit.int .i64 n).wf = true) : -9223372036854775808 ≤ n ∧ n ≤ 9223372036854775807 := by
  simp [Lit.wf] at h
  have e : IntKind.i64.min = -9223372036854775808 := by decide
  omega

theorem open_cells {H : Type} {enc : TypeId × Value → H} {W : World} {fuel : Nat} {a : Option Addr} {len cap : Nat} {d : DataW H × List MemPlace}
    (h : DataW.trod enc Tryz.prog W 0 (fun _ => true) true fuel 102 [.slice a len cap] = some d) : len ≤ maxLen ∧ ∃ zs, CellsAt W.heap.size W a len zs := by
  rcases Go.Deep.open_slice_pairs Tryz.underlying102 Tryz.underlying140 (by kernel_rfl) rfl rfl (by kernel_rfl) (by kernel_rfl) h with ⟨hcs, _⟩ | ⟨x, l, c, m, n, V0, V1, D0, D1, P0, P1, hcs, _, hl, hm, hmm, _, hall⟩
  · simp only [List.cons.injEq, Value.slice.injEq, and_true] at hcs
    obtain ⟨rfl, rfl, rfl⟩ := hcs
    exact ⟨Nat.zero_le _, [], rfl, (fun c hc => absurd hc (List.not_mem_nil)), fun h => absurd h (Nat.lt_irrefl 0)⟩
  · simp only [List.cons.injEq, Value.slice.injEq, and_true] at hcs
    obtain ⟨rfl, rfl, rfl⟩ := hcs
    simp only [if_true] at hmm
    subst hmm
    have each : ∀ i, i < len → ∃ p q : Int, V0 i = .int .i64 p ∧ V1 i = .int .i64 q ∧ InC (p, q) := fun i hi => by
      obtain ⟨_, _, h3, h4⟩ := hall i (by omega)
      obtain ⟨p, hp, _, wp⟩ := DataW.trod_int Tryz.underlying3 h3
      obtain ⟨q, hq, _, wq⟩ := DataW.trod_int Tryz.underlying3 h4
      simp only [List.cons.injEq, and_true] at hp hq
      have b1 := wf_i64 wp
      have b2 := wf_i64 wq
      exact ⟨p, q, hp, hq, b1.1, b1.2, b2.1, b2.2⟩
    refine ⟨Nat.le_trans hl hm, (List.range len).map fun i => (valI (V0 i), valI (V1 i)), by simp, ?_, ?_⟩
    · intro c hc
      obtain ⟨i, hi, rfl⟩ := List.mem_map.1 hc
      obtain ⟨p, q, e1, e2, hin⟩ := each i (List.mem_range.1 hi)
      rw [e1, e2]
      exact hin
    · intro hp
      obtain ⟨b, off, spot⟩ := x
      have hspot : spot = none := by simpa [Addr.add] using World.cell?_spot (hall 0 (by omega)).1
      subst hspot
      have hblk := World.block_lt_of_cell? W _ (hall 0 (by omega)).1
      refine ⟨b, off, rfl, by simpa [Addr.add] using hblk, fun k hk => ?_⟩
      obtain ⟨p, q, e1, e2, _⟩ := each k hk
      obtain ⟨c1, c2, _, _⟩ := hall k (by omega)
      have eg : ((List.range len).map fun i => (valI (V0 i), valI (V1 i))).getD k (0, 0) = (p, q) := by
        simp [hk, e1, e2, valI]
      rw [eg]
      rw [e1] at c1
      rw [e2] at c2
      have ad : ∀ j, (⟨b, off, none⟩ : Addr).add j = ⟨b, off + j, none⟩ := fun j => by unfold Addr.add; split <;> simp_all
      rw [ad] at c1 c2
      exact ⟨c1, by rw [Nat.add_assoc]; exact c2⟩
end

section
open Go.RowKit

theorem eqb_refl (l : List Cl) : eqb l l = true := by simp [eqb]
end

end Go.Proofs.YtkcclhnligajeaaGreatDoor
