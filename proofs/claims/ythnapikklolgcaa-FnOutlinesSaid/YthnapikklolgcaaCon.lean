/-
  Do cells hang together, in the model: what the call gives.
-/
import Derived.Test.YthnapikklolgcaaShq
import Derived.Test.YthnapikklolgcaaCap
import Derived.Test.YthnapikklolgcaaSiz
import Derived.Shelf.SlSortCmp.QuietGrown
namespace Go.Proofs.Ythnapikklolgcaa
open Go.RowKit

theorem sNearG (x y u v : Int) (w : World) (hx : inP (x, y) = true) (hu : inP (u, v) = true) : Calls Try.prog 69 #[.agg #[.int .i64 x, .int .i64 y], .agg #[.int .i64 u, .int .i64 v]] w fun e w' => e = .returned (.bool (nearC (x, y) (u, v))) ∧ ∃ q os', w' = Go.Sort.grow (w.drewN q) os' := by
  simp [inP, inb] at hx hu
  have h1 := sq_bd (x - u) (by omega) (by omega)
  have h2 := sq_bd (y - v) (by omega) (by omega)
  unfold nearC
  dsimp only
  go_enter Try.func69, Try.ntmps69
  go_wp2
  go_ret
  exact ⟨by rfl, 0, _, by rw [Go.Sort.alloc_eq_grow, Go.Sort.alloc_eq_grow, Go.Sort.grow_grow]; rfl⟩

def Conn (l : List Cl) : Prop := isShape l = true ∧ AllRch l

set_option maxHeartbeats 1500000 in
set_option maxRecDepth 100000 in
theorem sConn (B n cap : Nat) (a : Option Addr) (l : List Cl) (w : World) (hn : n ≤ 4194304) (hc : CellsAt B w a n l) (hB : B ≤ w.heap.size) :
    Calls Try.prog 73 #[.slice a n cap] w fun e w' => ∃ b : Bool, e = .returned (.bool b) ∧ (b = true ↔ Conn l) ∧ Below w.heap.size w w' := by
  have H := Lib.hid hc
  clear hc
  by_cases hs : isShape l = true
  · obtain ⟨hlen, hin, hsrt⟩ := (isShape_iff l).1 hs
    rw [H.out.1] at hlen
    have HIN := Lib.hid hin
    have HND := Lib.hid (srt_nodup hsrt)
    have HS := Lib.hid hs
    obtain ⟨b1, o1, rfl, hb1, hc1⟩ := H.out.2.2 (by omega)
    obtain ⟨x0, y0, hxy0⟩ : ∃ x y, l.getD 0 (0, 0) = (x, y) := ⟨_, _, rfl⟩
    have z1 := (hc1 0 (by omega)).1
    have z2 := (hc1 0 (by omega)).2
    rw [hxy0] at z1 z2
    simp only [Nat.zero_mul, Nat.add_zero] at z1 z2
    have HX0 := Lib.hid hxy0
    have HC1 := Lib.hid hc1
    have hn0 : (0 : Int) < (n : Int) := by omega
    clear hin hsrt hs hxy0 hc1
    go_enter Try.func73, Try.ntmps73
    go_wp2_with fail
    refine (sIsShape B n cap _ l w hn H.out hB).mono ?_
    rintro e w1 ⟨rfl, hb⟩
    rw [HS.out]
    have y1 := (hb.cell (p := ⟨b1, o1, none⟩) (Nat.lt_of_lt_of_le hb1 hB)).trans z1
    have y2 := (hb.cell (p := ⟨b1, o1 + 1, none⟩) (Nat.lt_of_lt_of_le hb1 hB)).trans z2
    have hsz := hb.size
    go_wp2
    go_loopw [3, 4] (fun v i wr => ∃ (k g cc m : Nat) (sn : List Cl), i = .int .i64 k ∧ v = .slice (some ⟨g, 0, none⟩) m cc ∧ k ≤ m ∧ m ≤ n ∧ Hid (wr.ownsRow w.heap.size 53 2 (.slice (some ⟨g, 0, none⟩) m cc) m (cvs sn)) ∧ Hid (Bfs l sn k 0) ∧ Below w.heap.size w wr) (fun _ i _ => n - (intOf i).toNat)
    case atStart =>
      have h9 := World.ownsRow_lit (base := w.heap.size) (e := 53) (size := 2) w1 #[.int .i64 x0, .int .i64 y0] 1 hsz (by simp [maxLen]) rfl
      refine ⟨0, w1.heap.size, 1, 1, [l.getD 0 (0, 0)], rfl, rfl, by omega, by omega, ?_, Bfs.start l (by have := H.out.1; omega), hb.alloc hsz _⟩
      rw [HX0.out]
      exact h9
    case round =>
      obtain ⟨i, g, cc, m, sn, rfl, rfl, him, hmn, hown, hbfs, hbo⟩ := hrel
      have hszo := hbo.size
      clear y1 y2
      have hm := hown.out.1
      rw [cvs_length] at hm
      by_cases hlt : i < m
      · have hi1 : (i : Int) < (m : Int) := by omega
        go_wp2
        go_loopw [3, 5] (fun v q wr => ∃ (k g cc m : Nat) (sn : List Cl), q = .int .i64 k ∧ k ≤ n ∧ v = .slice (some ⟨g, 0, none⟩) m cc ∧ i < m ∧ m ≤ n ∧ Hid (wr.ownsRow w.heap.size 53 2 (.slice (some ⟨g, 0, none⟩) m cc) m (cvs sn)) ∧ Hid (Bfs l sn i k) ∧ Below w.heap.size w wr) (fun _ q _ => n - (intOf q).toNat)
        case atStart => exact ⟨0, g, cc, m, sn, rfl, by omega, rfl, hlt, hmn, hown, hbfs, hbo⟩
        case round =>
          clear hown hbfs hbo hm him hmn hlt hi1 hszo
          obtain ⟨k, g, cc, m, sn, rfl, hkn, rfl, him, hmn, hown, hbfs, hbo⟩ := hrel
          have hszo := hbo.size
          have hm := hown.out.1
          rw [cvs_length] at hm
          have hmm : sn.length = m := by omega
          by_cases hlt : k < n
          · obtain ⟨x, y, hxy⟩ : ∃ x y, sn.getD i (0, 0) = (x, y) := ⟨_, _, rfl⟩
            obtain ⟨u, v, huv⟩ : ∃ u v, l.getD k (0, 0) = (u, v) := ⟨_, _, rfl⟩
            have hcv := cvs_get sn i (by omega)
            rw [hxy] at hcv
            have p1 := hown.out.cellAt (i * 2) (by omega)
            have p2 := hown.out.cellAt (i * 2 + 1) (by omega)
            rw [hcv.1] at p1
            rw [hcv.2] at p2
            have q1 := (hbo.cell (p := ⟨b1, o1 + k * 2, none⟩) (Nat.lt_of_lt_of_le hb1 hB)).trans (HC1.out k hlt).1
            have q2 := (hbo.cell (p := ⟨b1, o1 + k * 2 + 1, none⟩) (Nat.lt_of_lt_of_le hb1 hB)).trans (HC1.out k hlt).2
            rw [huv] at q1 q2
            have hx := HIN.out _ (hbfs.out.sub _ (getD_mem (l := sn) (j := i) (by omega)))
            have hu := HIN.out _ (getD_mem (l := l) (j := k) (by rw [H.out.1]; exact hlt))
            rw [hxy] at hx
            rw [huv] at hu
            have HX := Lib.hid hxy
            have HU := Lib.hid huv
            have hk0 : (0 : Int) ≤ (k : Int) := by omega
            have hk1 : (k : Int) < (n : Int) := by omega
            have hi0 : (0 : Int) ≤ (i : Int) := by omega
            have hi1 : (i : Int) < (m : Int) := by omega
            have hgl := hown.out.lt g rfl
            have hbl : b1 < wr.heap.size := by omega
            have hne : g ≠ b1 := by omega
            have HA := Lib.hid (CellsAt.of_own hown.out (fun c hc => inP_in (HIN.out c (hbfs.out.sub c hc))))
            clear hxy huv hcv hm
            have hN : ∀ w', Calls Try.prog 69 #[.agg #[.int .i64 x, .int .i64 y], .agg #[.int .i64 u, .int .i64 v]] w' fun e w'' => e = .returned (.bool (nearC (x, y) (u, v))) ∧ Below w'.heap.size w' w'' := fun w' => sNear x y u v w' hx hu
            cases hnr : nearC (x, y) (u, v) with
            | false =>
              have hNG : ∀ n os, Calls Try.prog 69 #[.agg #[.int .i64 x, .int .i64 y], .agg #[.int .i64 u, .int .i64 v]] (Go.Sort.grow (wr.drewN n) os) fun e w'' => e = .returned (.bool false) ∧ ∃ q os', w'' = Go.Sort.grow ((Go.Sort.grow (wr.drewN n) os).drewN q) os' := fun n os => by have h9 := sNearG x y u v (Go.Sort.grow (wr.drewN n) os) hx hu; rw [hnr] at h9; exact h9
              have hb2 : Bfs l sn i (k + 1) := hbfs.out.skip (by rw [HX.out, HU.out, hnr]; intro h; cases h)
              have HB2 := Lib.hid hb2
              have g1 := cell_grown hgl.2 p1
              have g2 := cell_grown hgl.2 p2
              have g3 := cell_grown hbl q1
              have g4 := cell_grown hbl q2
              have hmix : Try.prog.follows .mixedOrders = true := by kernel_rfl
              clear hb2 hnr hN hx hu p1 p2 q1 q2
              go_wp2_with fail
              refine wp_region_quiet_grown hmix (by kernel_rfl) ?_
              repeat (first | (go_big_quiet_step (first | (go_at_call 69; refine Calls.grown_of (hNG _ _)))) | (quiet_step (first | (go_at_call 69; refine Calls.grown_of (hNG _ _)))))
              refine wpQuiet_nil ?_
              intro _ hw'
              obtain ⟨⟨nq, osq⟩, hw''⟩ := hw'
              subst hw''
              have hbw : Below wr.heap.size wr (Go.Sort.grow (wr.drewN nq) osq) := ⟨rfl, rfl, rfl, by simp, fun k hk => Go.Sort.heap_grow_old _ _ hk⟩
              have HO := Lib.hid (hown.out.kept (grow_below hbw none) (.inr (by intro e; cases e)))
              have HBB := Lib.hid (hbo.trans (hbw.mono hszo))
              clear hbw g1 g2 g3 g4 hNG
              go_wp2
              go_roundw
              case rel => exact ⟨k + 1, g, cc, m, sn, by go_num, by omega, rfl, him, hmn, HO.out, HB2.out, HBB.out⟩
              case measure => simp [intOf]; omega
            | true =>
              simp only [hnr] at hN
              have hH : ∀ w' w'', Below wr.drew.heap.size wr.drew w' → w' = w'' → Calls Try.prog 68 #[.slice (some ⟨g, 0, none⟩) m cc, .int .i64 u, .int .i64 v] w'' fun e w3 => e = .returned (.bool (hasC sn u v)) ∧ w'' = w3 := fun w' w'' hb e => by
                subst e
                exact sHasCell wr.heap.size m cc _ sn u v _ (by omega) (CellsAt.on (w := wr.drew) HA.out hb)
              have hasi := hasC_iff sn (u, v)
              dsimp only at hasi
              have HAS := Lib.hid hasi
              clear hasi
              generalize hasC sn u v = hb at hH HAS
              cases hb with
              | true =>
                have hb2 : Bfs l sn i (k + 1) := hbfs.out.skip (by rw [HX.out, HU.out]; exact fun _ => HAS.out.1 rfl)
                have HB2 := Lib.hid hb2
                clear hb2
                go_wp2_with fail
                go_region_held3 (fun w' => w'.cell? ⟨g, i * 2, none⟩ = some (.int .i64 x) ∧ w'.cell? ⟨g, i * 2 + 1, none⟩ = some (.int .i64 y) ∧ w'.cell? ⟨b1, o1 + k * 2, none⟩ = some (.int .i64 u) ∧ w'.cell? ⟨b1, o1 + k * 2 + 1, none⟩ = some (.int .i64 v))
                  (first | exact ⟨p1, p2, q1, q2⟩ | exact ⟨(hbe.cell (p := ⟨g, i * 2, none⟩) hgl.2).trans p1, (hbe.cell (p := ⟨g, i * 2 + 1, none⟩) hgl.2).trans p2, (hbe.cell (p := ⟨b1, o1 + k * 2, none⟩) hbl).trans q1, (hbe.cell (p := ⟨b1, o1 + k * 2 + 1, none⟩) hbl).trans q2⟩)
                  (first | (go_at_call 69; refine (hN _).mono ?_; rintro e w' ⟨rfl, hbe⟩) | (go_at_call 68; refine (hH _ _ hbe rfl).mono ?_; rintro e w'' ⟨rfl, rfl⟩))
                go_wp2
                have HO := Lib.hid (World.ownsRow.kept (w := wr.drew) hown.out (grow_below hbe none) (.inr (by intro e; cases e)))
                have HBB := Lib.hid (hbo.drew.trans (hbe.mono hszo))
                go_roundw
                case rel => exact ⟨k + 1, g, cc, m, sn, by go_num, by omega, rfl, him, hmn, HO.out, HB2.out, HBB.out⟩
                case measure => simp [intOf]; omega
              | false =>
                have hb2 : Bfs l (sn ++ [(u, v)]) i (k + 1) := by
                  have h9 := hbfs.out.add (by omega) (by rw [H.out.1]; exact hlt) (by rw [HX.out, HU.out]; exact hnr) (by rw [HU.out]; intro h; have := HAS.out.2 h; cases this)
                  rw [HU.out] at h9
                  exact h9
                have HB2 := Lib.hid hb2
                have hm1 := hb2.len
                rw [List.length_append, List.length_singleton, hmm, H.out.1] at hm1
                clear hb2
                go_wp2_with fail
                go_region_held3 (fun w' => w'.cell? ⟨g, i * 2, none⟩ = some (.int .i64 x) ∧ w'.cell? ⟨g, i * 2 + 1, none⟩ = some (.int .i64 y) ∧ w'.cell? ⟨b1, o1 + k * 2, none⟩ = some (.int .i64 u) ∧ w'.cell? ⟨b1, o1 + k * 2 + 1, none⟩ = some (.int .i64 v))
                  (first | exact ⟨p1, p2, q1, q2⟩ | exact ⟨(hbe.cell (p := ⟨g, i * 2, none⟩) hgl.2).trans p1, (hbe.cell (p := ⟨g, i * 2 + 1, none⟩) hgl.2).trans p2, (hbe.cell (p := ⟨b1, o1 + k * 2, none⟩) hbl).trans q1, (hbe.cell (p := ⟨b1, o1 + k * 2 + 1, none⟩) hbl).trans q2⟩)
                  (first | (go_at_call 69; refine (hN _).mono ?_; rintro e w' ⟨rfl, hbe⟩) | (go_at_call 68; refine (hH _ _ hbe rfl).mono ?_; rintro e w'' ⟨rfl, rfl⟩))
                have hownB := World.ownsRow.kept (w := wr.drew) hown.out (grow_below hbe none) (.inr (by intro e; cases e))
                have hbB := hbo.drew.trans (hbe.mono hszo)
                have r1 := (hbe.cell (p := ⟨b1, o1 + k * 2, none⟩) hbl).trans q1
                have r2 := (hbe.cell (p := ⟨b1, o1 + k * 2 + 1, none⟩) hbl).trans q2
                clear hH hN p1 p2 q1 q2 HA
                go_wp2_with (first | (at_builtin; refine wpList_cells rfl _ _ rfl w.heap.size g m cc sn ⟨w'.heap.size, 0, none⟩ 1 1 [(u, v)] rfl rfl (hownB.alloc _) rfl (lies_block (t := 53) (fr := (0, 0)) (heap_alloc_new _ _)) (by omega) ?c5 (w'.heap.size + 1) ?c6 ?_) | go_in)
                case c5 => simp; exact Nat.le_trans hbB.size (Nat.le_succ _)
                case c6 => simp
                intro g' cc' w2 hown2 hgrow2 hat2 hgb2 hlt2
                have hgo := (hownB.lt g rfl).1
                have hb3 := (hbB.alloc hbB.size (.cells #[.int .i64 u, .int .i64 v] 53)).grown hgrow2 (hbB.alloc hbB.size (.cells #[.int .i64 u, .int .i64 v] 53)).size (fun j hj => by cases hj; exact hgo)
                have HO := Lib.hid hown2
                have HBB := Lib.hid hb3
                clear hownB hbB r1 r2 hown2 hgrow2 hb3
                go_wp2
                go_roundw
                case rel => exact ⟨k + 1, g', cc', m + 1, sn ++ [(u, v)], by go_num, by omega, rfl, by omega, hm1, HO.out, HB2.out, HBB.out⟩
                case measure => simp [intOf]; omega
          · obtain rfl : k = n := by omega
            have hnx : Bfs l sn (i + 1) 0 := Bfs.next (by have h9 := hbfs.out; rw [← H.out.1] at h9; exact h9) (by omega)
            have HNX := Lib.hid hnx
            clear hnx
            go_wp2
            go_roundw
            case rel => exact ⟨i + 1, g, cc, m, sn, by go_num, rfl, by omega, hmn, hown, HNX.out, hbo⟩
            case measure => simp [intOf]; omega
      · obtain rfl : i = m := by omega
        have hdn : sn.length = l.length ↔ AllRch l := Bfs.done (by have h9 := hbfs.out; rw [show i = sn.length by omega] at h9; exact h9) HND.out
        have hfin : (decide ((i : Int) = (n : Int)) = true ↔ Conn l) := by
          rw [decide_eq_true_eq]
          unfold Conn
          constructor
          · intro h; exact ⟨HS.out, hdn.1 (by have := H.out.1; omega)⟩
          · intro h; have := hdn.2 h.2; have := H.out.1; omega
        have HF := Lib.hid hfin
        clear hdn hfin
        go_wp2
        go_ret
        refine ⟨_, rfl, ?_, hbo⟩
        have := HF.out
        simpa using this
  · have hno : ¬ Conn l := fun h => hs h.1
    have h' : isShape l = false := by simpa using hs
    have HN := Lib.hid hno
    clear hno hs
    go_enter Try.func73, Try.ntmps73
    go_wp2_with fail
    refine (sIsShape B n cap _ l w hn H.out hB).mono ?_
    rintro e w1 ⟨rfl, hb⟩
    go_wp2
    go_ret
    exact ⟨false, rfl, ⟨fun h => (by cases h), fun h => absurd h HN.out⟩, hb⟩

end Go.Proofs.Ythnapikklolgcaa
