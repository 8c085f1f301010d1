/-
  Common sides, perimeter, trees, in the model: what each call gives.
  Neighbour cells, rows, squares, convex shapes, in the model: what each call gives.
  Squares, in the model: what the call gives.
  What is outside of a shape, and its holes, in the model: what each call gives.
  Holes, in the model: what the call gives.
-/
import Derived.Test.YthnapikklolgcaaPen
import Derived.Test.YthnapikklolgcaaCon
import Derived.Test.YthnapikklolgcaaMon
import Derived.Test.YthnapikklolgcaaSen
namespace Go.Proofs.Ythnapikklolgcaa

section
open Go.RowKit

def innP (l : List Cl) : Int := if isShape l = true then (innI l l.length : Int) else 0
theorem innP_yes {l : List Cl} (h : isShape l = true) : innP l = innI l l.length := if_pos h
theorem innP_no {l : List Cl} (h : isShape l = false) : innP l = 0 := if_neg (by rw [h]; simp)
theorem innP_bd (l : List Cl) : 0 ≤ innP l ∧ innP l ≤ 16 := by
  cases h : isShape l with
  | true =>
    rw [innP_yes h]
    have := innI_le l l.length
    have := ((isShape_iff l).1 h).1
    omega
  | false => rw [innP_no h]; omega
def perP (l : List Cl) : Int := if isShape l = true then ((arTo l l.length).length : Int) else -1
theorem perP_yes {l : List Cl} (h : isShape l = true) : perP l = (arTo l l.length).length := if_pos h
theorem perP_no {l : List Cl} (h : isShape l = false) : perP l = -1 := if_neg (by rw [h]; simp)
theorem perP_inn {l : List Cl} (h : isShape l = true) : perP l = 4 * l.length - 2 * innP l := by
  rw [perP_yes h, innP_yes h]
  have := perim ((isShape_iff l).1 h).2.2
  omega

set_option maxHeartbeats 2000000 in
set_option maxRecDepth 100000 in
theorem sInner (B n cap : Nat) (a : Option Addr) (l : List Cl) (w : World) (hn : n ≤ 4194304) (hc : CellsAt B w a n l) (hB : B ≤ w.heap.size) :
    Calls Try.prog 25 #[.slice a n cap] w fun e w' => e = .returned (.int .i64 (innP l)) ∧ Below w.heap.size w w' := by
  have H := Lib.hid hc
  have hln := hc.1
  clear hc
  cases hs : isShape l with
  | false =>
    have HS := Lib.hid hs
    have HO := Lib.hid (innP_no hs)
    rw [HO.out]
    clear hs hln
    by_cases h0 : 0 < (n : Int)
    · go_enter Try.func25, Try.ntmps25
      go_wp2
      refine wp_loop_rounds 1 ?_
      rw [rounds_succ]
      go_wp2_with fail
      refine (sIsShape B n cap a l w hn H.out hB).mono ?_
      rintro e w1 ⟨rfl, hb1⟩
      rw [HS.out]
      go_wp2
      go_ret
      exact ⟨rfl, hb1⟩
    · go_enter Try.func25, Try.ntmps25
      go_wp2
      refine wp_loop_rounds 1 ?_
      rw [rounds_succ]
      go_wp2
      go_ret
      exact ⟨rfl, Below.refl _ _⟩
  | true =>
    obtain ⟨hlen, hin, hsrt⟩ := (isShape_iff l).1 hs
    rw [hln] at hlen
    have HIN := Lib.hid hin
    have HS := Lib.hid hs
    have HO := Lib.hid (show innP l = prTo l n from by rw [innP_yes hs, ← inn_eq hsrt, hln])
    have HLN := Lib.hid hln
    obtain ⟨b1, o1, rfl, hb1, hc1⟩ := H.out.2.2 (by omega)
    have HC1 := Lib.hid hc1
    rw [HO.out]
    clear hin hsrt hs hc1 hln
    go_enter Try.func25, Try.ntmps25
    go_wp2
    go_loopw [3, 4] (fun v i wr => ∃ k z : Nat, k ≤ n ∧ i = .int .i64 k ∧ v = .int .i64 z ∧ z ≤ 8 * k ∧ Hid (z = prTo l k) ∧ Below w.heap.size w wr) (fun _ i _ => n - (intOf i).toNat)
    case atStart => exact ⟨0, 0, by omega, rfl, rfl, by omega, rfl, Below.refl _ _⟩
    case round =>
      obtain ⟨i, z, hi, rfl, rfl, hz, hzz, hbo⟩ := hrel
      have hszo := hbo.size
      by_cases hlt : i < n
      · have hi1 : (i : Int) < (n : Int) := by omega
        have hi0 : (0 : Int) ≤ (i : Int) := by omega
        go_wp2_with fail
        refine (sIsShape B n cap _ l wr hn (H.out.on (hbo.mono hB)) (by omega)).mono ?_
        rintro e w1 ⟨rfl, hbs⟩
        rw [HS.out]
        have HB1 := Lib.hid (hbo.trans (hbs.mono hszo))
        clear hbs hbo hszo
        go_wp2
        go_loopw [3, 5] (fun v q wr => ∃ k z : Nat, k ≤ i ∧ q = .int .i64 k ∧ v = .int .i64 z ∧ z ≤ 8 * i + k ∧ Hid (z = prTo l i + prR l i k) ∧ Below w.heap.size w wr) (fun _ q _ => i - (intOf q).toNat)
        case atStart => exact ⟨0, z, by omega, rfl, rfl, by omega, by rw [show prR l i 0 = 0 from rfl]; exact hzz, HB1.out⟩
        case round =>
          clear hzz hz HB1
          obtain ⟨k, z, hk, rfl, rfl, hz, hzz, hbo⟩ := hrel
          have hszo := hbo.size
          by_cases hkt : k < i
          · obtain ⟨x, y, hxy⟩ : ∃ x y, l.getD i (0, 0) = (x, y) := ⟨_, _, rfl⟩
            obtain ⟨u, v, huv⟩ : ∃ u v, l.getD k (0, 0) = (u, v) := ⟨_, _, rfl⟩
            have p1 := (hbo.cell (p := ⟨b1, o1 + i * 2, none⟩) (Nat.lt_of_lt_of_le hb1 hB)).trans (HC1.out i hlt).1
            have p2 := (hbo.cell (p := ⟨b1, o1 + i * 2 + 1, none⟩) (Nat.lt_of_lt_of_le hb1 hB)).trans (HC1.out i hlt).2
            have q1 := (hbo.cell (p := ⟨b1, o1 + k * 2, none⟩) (Nat.lt_of_lt_of_le hb1 hB)).trans (HC1.out k (by omega)).1
            have q2 := (hbo.cell (p := ⟨b1, o1 + k * 2 + 1, none⟩) (Nat.lt_of_lt_of_le hb1 hB)).trans (HC1.out k (by omega)).2
            rw [hxy] at p1 p2
            rw [huv] at q1 q2
            have hx := HIN.out _ (getD_mem (l := l) (j := i) (by rw [HLN.out]; exact hlt))
            have hu := HIN.out _ (getD_mem (l := l) (j := k) (by rw [HLN.out]; omega))
            rw [hxy] at hx
            rw [huv] at hu
            have hk0 : (0 : Int) ≤ (k : Int) := by omega
            have hk1 : (k : Int) < (i : Int) := by omega
            have hk2 : (k : Int) < (n : Int) := by omega
            have hbl : b1 < wr.heap.size := by omega
            obtain ⟨bb, hbb⟩ : ∃ bb, nearC (x, y) (u, v) = bb := ⟨_, rfl⟩
            have hstep : prTo l i + prR l i (k + 1) = prTo l i + prR l i k + bb.toNat := by
              rw [show prR l i (k + 1) = prR l i k + (nearC (l.getD i (0, 0)) (l.getD k (0, 0))).toNat from rfl, hxy, huv, hbb]
              omega
            have hNG : ∀ n os, Calls Try.prog 69 #[.agg #[.int .i64 x, .int .i64 y], .agg #[.int .i64 u, .int .i64 v]] (Go.Sort.grow (wr.drewN n) os) fun e w'' => e = .returned (.bool bb) ∧ ∃ q os', w'' = Go.Sort.grow ((Go.Sort.grow (wr.drewN n) os).drewN q) os' := fun n os => by have h9 := sNearG x y u v (Go.Sort.grow (wr.drewN n) os) hx hu; rw [hbb] at h9; exact h9
            have g1 := cell_grown hbl p1
            have g2 := cell_grown hbl p2
            have g3 := cell_grown hbl q1
            have g4 := cell_grown hbl q2
            have hmix : Try.prog.follows .mixedOrders = true := by kernel_rfl
            have HST := Lib.hid hstep
            clear hxy huv hbb hstep hx hu p1 p2 q1 q2
            cases bb with
            | false =>
              go_wp2_with fail
              refine wp_region_quiet_grown hmix (by kernel_rfl) ?_
              repeat (first | (go_big_quiet_step (first | (go_at_call 69; refine Calls.grown_of (hNG _ _)))) | (quiet_step (first | (go_at_call 69; refine Calls.grown_of (hNG _ _)))))
              refine wpQuiet_nil ?_
              intro _ hw'
              obtain ⟨⟨nq, osq⟩, hw''⟩ := hw'
              subst hw''
              have hbw : Below wr.heap.size wr (Go.Sort.grow (wr.drewN nq) osq) := ⟨rfl, rfl, rfl, by simp, fun k hk => Go.Sort.heap_grow_old _ _ hk⟩
              have HBB := Lib.hid (hbo.trans (hbw.mono hszo))
              have HZ := Lib.hid (show z = prTo l i + prR l i (k + 1) from by rw [HST.out, hzz.out]; rfl)
              clear hbw g1 g2 g3 g4 hNG
              go_wp2
              go_roundw
              case rel => exact ⟨k + 1, z, by omega, by go_num, rfl, by omega, HZ.out, HBB.out⟩
              case measure => simp [intOf]; omega
            | true =>
              go_wp2_with fail
              refine wp_region_quiet_grown hmix (by kernel_rfl) ?_
              repeat (first | (go_big_quiet_step (first | (go_at_call 69; refine Calls.grown_of (hNG _ _)))) | (quiet_step (first | (go_at_call 69; refine Calls.grown_of (hNG _ _)))))
              refine wpQuiet_nil ?_
              intro _ hw'
              obtain ⟨⟨nq, osq⟩, hw''⟩ := hw'
              subst hw''
              have hbw : Below wr.heap.size wr (Go.Sort.grow (wr.drewN nq) osq) := ⟨rfl, rfl, rfl, by simp, fun k hk => Go.Sort.heap_grow_old _ _ hk⟩
              have HBB := Lib.hid (hbo.trans (hbw.mono hszo))
              have HZ := Lib.hid (show z + 1 = prTo l i + prR l i (k + 1) from by rw [HST.out, hzz.out]; rfl)
              clear hbw g1 g2 g3 g4 hNG
              go_wp2
              go_roundw
              case rel => exact ⟨k + 1, z + 1, by omega, by go_num, by go_num, by omega, HZ.out, HBB.out⟩
              case measure => simp [intOf]; omega
          · obtain rfl : k = i := by omega
            have HZ := Lib.hid (show z = prTo l (k + 1) from hzz.out)
            go_wp2
            go_roundw
            case rel => exact ⟨k + 1, z, by omega, by go_num, rfl, by omega, HZ.out, hbo⟩
            case measure => simp [intOf]; omega
      · obtain rfl : i = n := by omega
        have HR := Lib.hid (show (prTo l i : Int) = (z : Int) from by rw [hzz.out])
        go_wp2
        go_ret
        exact ⟨by rw [HR.out]; rfl, hbo⟩

set_option maxHeartbeats 1000000 in
theorem sPerim (B n cap : Nat) (a : Option Addr) (l : List Cl) (w : World) (hn : n ≤ 4194304) (hc : CellsAt B w a n l) (hB : B ≤ w.heap.size) :
    Calls Try.prog 23 #[.slice a n cap] w fun e w' => e = .returned (.int .i64 (perP l)) ∧ Below w.heap.size w w' := by
  have H := Lib.hid hc
  have hln := hc.1
  clear hc
  cases hs : isShape l with
  | false =>
    have HS := Lib.hid hs
    have HO := Lib.hid (perP_no hs)
    rw [HO.out]
    clear hs
    go_enter Try.func23, Try.ntmps23
    go_wp2_with fail
    refine (sIsShape B n cap a l w hn H.out hB).mono ?_
    rintro e w1 ⟨rfl, hb1⟩
    rw [HS.out]
    go_wp2
    go_ret
    exact ⟨rfl, hb1⟩
  | true =>
    have HS := Lib.hid hs
    have hlen := ((isShape_iff l).1 hs).1
    have hib := innP_bd l
    have HO := Lib.hid (show perP l = 4 * (n : Int) - 2 * innP l from by rw [perP_inn hs, hln])
    rw [hln] at hlen
    obtain ⟨z, hz⟩ : ∃ z, innP l = z := ⟨_, rfl⟩
    rw [HO.out]
    rw [hz] at hib ⊢
    have HZ := Lib.hid hz
    have w1 : IntKind.i64.wrap (4 * (n : Int)) = 4 * (n : Int) := IntWalk.i64_in _ (by omega)
    have w2 : IntKind.i64.wrap (2 * z) = 2 * z := IntWalk.i64_in _ (by omega)
    have w3 : IntKind.i64.wrap (4 * (n : Int) - 2 * z) = 4 * (n : Int) - 2 * z := IntWalk.i64_in _ (by omega)
    clear hs hln hz
    go_enter Try.func23, Try.ntmps23
    go_wp2_with fail
    refine (sIsShape B n cap a l w hn H.out hB).mono ?_
    rintro e w5 ⟨rfl, hb1⟩
    rw [HS.out]
    go_wp2_with fail
    refine (sInner B n cap a l w5 hn (H.out.on (hb1.mono hB)) (Nat.le_trans hB hb1.size)).mono ?_
    rintro e w6 ⟨rfl, hb2⟩
    rw [HZ.out]
    go_wp2
    go_ret
    exact ⟨rfl, hb1.trans (hb2.mono hb1.size)⟩

def TreeP (l : List Cl) : Prop := Conn l ∧ innP l = (l.length : Int) - 1
set_option maxHeartbeats 1000000 in
theorem sTree (B n cap : Nat) (a : Option Addr) (l : List Cl) (w : World) (hn : n ≤ 4194304) (hc : CellsAt B w a n l) (hB : B ≤ w.heap.size) :
    Calls Try.prog 34 #[.slice a n cap] w fun e w' => ∃ b : Bool, e = .returned (.bool b) ∧ (b = true ↔ TreeP l) ∧ Below w.heap.size w w' := by
  have H := Lib.hid hc
  have HLN := Lib.hid hc.1
  have hib := innP_bd l
  obtain ⟨z, hz⟩ : ∃ z, innP l = z := ⟨_, rfl⟩
  have HT := Lib.hid (show TreeP l ↔ Conn l ∧ z = (n : Int) - 1 from by unfold TreeP; rw [hz, hc.1])
  rw [hz] at hib
  have HZ := Lib.hid hz
  have w1 : IntKind.i64.wrap ((n : Int) - 1) = (n : Int) - 1 := IntWalk.i64_in _ (by omega)
  clear hc hz
  go_enter Try.func34, Try.ntmps34
  go_wp2_with fail
  refine (sConn B n cap a l w hn H.out hB).mono ?_
  rintro e w5 ⟨bb, rfl, hbi, hb1⟩
  have HBI := Lib.hid hbi
  clear hbi
  cases bb with
  | false =>
    go_wp2
    go_ret
    refine ⟨false, rfl, ?_, hb1⟩
    rw [HT.out]
    exact ⟨fun h => (by cases h), fun h => HBI.out.2 h.1⟩
  | true =>
    go_wp2_with fail
    refine (sInner B n cap a l w5 hn (H.out.on (hb1.mono hB)) (Nat.le_trans hB hb1.size)).mono ?_
    rintro e w6 ⟨rfl, hb2⟩
    rw [HZ.out]
    go_wp2
    go_ret
    refine ⟨_, rfl, ?_, hb1.trans (hb2.mono hb1.size)⟩
    rw [HT.out]
    have := HBI.out.1 (by simp)
    simp [this]
end

section
open Go.RowKit

def neiP (l : List Cl) : Int := if isShape l = true then ((neTo l l.length).length : Int) else -1
theorem neiP_yes {l : List Cl} (h : isShape l = true) : neiP l = (neTo l l.length).length := if_pos h
theorem neiP_no {l : List Cl} (h : isShape l = false) : neiP l = -1 := if_neg (by rw [h]; simp)
def nearBd (c : Cl) : Prop := (-1 ≤ c.1 ∧ c.1 ≤ 8) ∧ -1 ≤ c.2 ∧ c.2 ≤ 8
theorem nearBd_in {c : Cl} (h : nearBd c) : InC c := by unfold nearBd at h; unfold InC; omega
theorem nbC_bd {x y : Int} (d : Nat) (hd : d < 4) (hx : 0 ≤ x ∧ x ≤ 7 ∧ 0 ≤ y ∧ y ≤ 7) {p q : Int} (h : nbC (x, y) d = (p, q)) : (-1 ≤ p ∧ p ≤ 8) ∧ -1 ≤ q ∧ q ≤ 8 := by
  have hb := nb_bd d hd
  unfold nbC at h
  injection h with h1 h2
  dsimp only at h1 h2
  omega

set_option maxHeartbeats 2000000 in
set_option maxRecDepth 100000 in
theorem sNei (B n cap : Nat) (a : Option Addr) (l : List Cl) (w : World) (hn : n ≤ 4194304) (hc : CellsAt B w a n l) (hB : B ≤ w.heap.size) :
    Calls Try.prog 28 #[.slice a n cap] w fun e w' => e = .returned (.int .i64 (neiP l)) ∧ Below w.heap.size w w' := by
  have H := Lib.hid hc
  have hln := hc.1
  clear hc
  cases hs : isShape l with
  | false =>
    have HS := Lib.hid hs
    have HO := Lib.hid (neiP_no hs)
    rw [HO.out]
    clear hs
    go_enter Try.func28, Try.ntmps28
    go_wp2_with fail
    refine (sIsShape B n cap a l w hn H.out hB).mono ?_
    rintro e w1 ⟨rfl, hb1⟩
    rw [HS.out]
    go_wp2
    go_ret
    exact ⟨rfl, hb1⟩
  | true =>
    have HS := Lib.hid hs
    have hlen := ((isShape_iff l).1 hs).1
    have HP := Lib.hid (isShape_in hs)
    have HO := Lib.hid (show neiP l = ((neTo l n).length : Int) from by rw [neiP_yes hs, hln])
    have HLN := Lib.hid hln
    rw [hln] at hlen
    rw [HO.out]
    clear hs hln
    go_enter Try.func28, Try.ntmps28
    go_wp2_with fail
    refine (sIsShape B n cap a l w hn H.out hB).mono ?_
    rintro e w1 ⟨rfl, hb1⟩
    rw [HS.out]
    have hsz1 := hb1.size
    have HB1 := Lib.hid (hb1.alloc hsz1 (.cells #[] 53))
    have HO1 := Lib.hid (own_lit_c (w := w1) rfl hsz1)
    clear hb1
    go_wp2
    go_loopw [3, 4] (fun v i wr => ∃ (k g cc m : Nat) (sn : List Cl), k ≤ n ∧ i = .int .i64 k ∧ v = .slice (some ⟨g, 0, none⟩) m cc ∧ m ≤ 4 * k ∧ Hid (sn = neTo l k) ∧ Hid (wr.ownsRow w.heap.size 53 2 (.slice (some ⟨g, 0, none⟩) m cc) m (cvs sn)) ∧ Hid (∀ c ∈ sn, nearBd c) ∧ Below w.heap.size w wr) (fun _ i _ => n - (intOf i).toNat)
    case atStart => exact ⟨0, w1.heap.size, 0, 0, [], by omega, rfl, rfl, by omega, rfl, HO1.out, (fun c hc => by cases hc), HB1.out⟩
    case round =>
      obtain ⟨k, g, cc, m, sn, hk, rfl, rfl, hm, hsn, hown, hbd, hb⟩ := hrel
      have hsz := hb.size
      clear HO1 HB1
      by_cases hlt : k < n
      · have hk1 : (k : Int) < (n : Int) := by omega
        have hk0 : (0 : Int) ≤ (k : Int) := by omega
        obtain ⟨x, y, hxy⟩ : ∃ x y, l.getD k (0, 0) = (x, y) := ⟨_, _, rfl⟩
        have HXY := Lib.hid hxy
        have hpx := inP_out (HP.out _ (getD_mem (l := l) (j := k) (by have := HLN.out; omega)))
        rw [hxy] at hpx
        dsimp only at hpx
        clear hxy
        go_wp2
        go_loopw [3, 5] (fun v i wr => ∃ (d g cc m : Nat) (sn : List Cl), d ≤ 4 ∧ i = .int .i64 d ∧ v = .slice (some ⟨g, 0, none⟩) m cc ∧ m ≤ 4 * k + d ∧ Hid (sn = neRow l (neTo l k) (x, y) d) ∧ Hid (wr.ownsRow w.heap.size 53 2 (.slice (some ⟨g, 0, none⟩) m cc) m (cvs sn)) ∧ Hid (∀ c ∈ sn, nearBd c) ∧ Below w.heap.size w wr) (fun _ i _ => 4 - (intOf i).toNat)
        case atStart => exact ⟨0, g, cc, m, sn, by omega, rfl, rfl, by omega, hsn, hown, hbd, hb⟩
        case round =>
          clear hm hsn hown hbd hb hsz
          obtain ⟨d, g, cc, m, sn, hd, rfl, rfl, hm, hsn, hown, hbd, hb⟩ := hrel
          have hsz := hb.size
          by_cases hdt : d < 4
          · have hd1 : (d : Int) < 4 := by omega
            have hd0 : (0 : Int) ≤ (d : Int) := by omega
            have HCW := Lib.hid (H.out.on (hb.mono hB))
            obtain ⟨b9, o9, rfl, hb9, hc9⟩ := HCW.out.2.2 (by omega)
            have p1 := (hc9 k hlt).1
            have p2 := (hc9 k hlt).2
            rw [HXY.out] at p1 p2
            dsimp only at p1 p2
            have hnb := nb_bd d hdt
            have hx1 : IntKind.i64.wrap (x + (1 - (d : Int)).tmod 2) = x + (1 - (d : Int)).tmod 2 := IntWalk.i64_in _ (by omega)
            have hy1 : IntKind.i64.wrap (y + (2 - (d : Int)).tmod 2) = y + (2 - (d : Int)).tmod 2 := IntWalk.i64_in _ (by omega)
            have hd3 : IntKind.i64.wrap (1 - (d : Int)) = 1 - (d : Int) := IntWalk.i64_in _ (by omega)
            have hd4 : IntKind.i64.wrap (2 - (d : Int)) = 2 - (d : Int) := IntWalk.i64_in _ (by omega)
            clear hc9
            go_wp2_with fail
            obtain ⟨p, hp⟩ : ∃ p, x + (1 - (d : Int)).tmod 2 = p := ⟨_, rfl⟩
            obtain ⟨q, hq⟩ : ∃ q, y + (2 - (d : Int)).tmod 2 = q := ⟨_, rfl⟩
            have hnbc : nbC (x, y) d = (p, q) := by unfold nbC; rw [← hp, ← hq]
            have HNB := Lib.hid hnbc
            have hpq := nbC_bd d hdt hpx hnbc
            rw [hp, hq]
            clear hx1 hy1 hd3 hd4 hp hq p1 p2 hnb hnbc
            refine (sHasCell B n cap _ l p q wr (by omega) HCW.out).mono ?_
            rintro e w' ⟨rfl, rfl⟩
            cases hh : hasC l p q with
            | true =>
              have HE := Lib.hid (show sn = neRow l (neTo l k) (x, y) (d + 1) from by rw [neRow_yes (.inl (by rw [HNB.out]; exact hh))]; exact hsn.out)
              go_wp2
              go_roundw
              case rel => exact ⟨d + 1, g, cc, m, sn, by omega, by go_num, rfl, by omega, HE.out, hown, hbd, hb⟩
              case measure => simp [intOf]; omega
            | false =>
              go_wp2_with fail
              have HAC := Lib.hid (CellsAt.of_own hown.out (fun c hc => nearBd_in (hbd.out c hc)))
              refine (sHasCell wr.heap.size m cc _ sn p q wr (by omega) HAC.out).mono ?_
              rintro e w' ⟨rfl, rfl⟩
              cases hh2 : hasC sn p q with
              | true =>
                have HE := Lib.hid (show sn = neRow l (neTo l k) (x, y) (d + 1) from by rw [neRow_yes (.inr (by rw [HNB.out, ← hsn.out]; exact hh2))]; exact hsn.out)
                go_wp2
                go_roundw
                case rel => exact ⟨d + 1, g, cc, m, sn, by omega, by go_num, rfl, by omega, HE.out, hown, hbd, hb⟩
                case measure => simp [intOf]; omega
              | false =>
                have HE := Lib.hid (show sn ++ [(p, q)] = neRow l (neTo l k) (x, y) (d + 1) from by rw [neRow_no (by rw [HNB.out]; exact hh) (by rw [HNB.out, ← hsn.out]; exact hh2), HNB.out, ← hsn.out])
                have HBD := Lib.hid (show ∀ c ∈ sn ++ [(p, q)], nearBd c from fun c hc => by
                  rcases List.mem_append.1 hc with h9 | h9
                  · exact hbd.out c h9
                  · obtain rfl := List.mem_singleton.1 h9; exact hpq)
                have hgo := (hown.out.lt g rfl).1
                go_wp2_with (first | (at_builtin; refine wpList_cells rfl _ _ rfl w.heap.size g m cc sn ⟨wr.heap.size, 0, none⟩ 1 1 [(p, q)] rfl rfl (hown.out.alloc _) rfl (lies_block (t := 53) (fr := (0, 0)) (heap_alloc_new _ _)) (by omega) ?c5 (wr.heap.size + 1) ?c6 ?_) | go_in)
                case c5 => simp; exact Nat.le_trans hsz (Nat.le_succ _)
                case c6 => simp
                intro g' cc' w2 hown2 hgrow2 hat2 hgb2 hlt2
                have hb3 := (hb.alloc hsz (.cells #[.int .i64 p, .int .i64 q] 53)).grown hgrow2 (hb.alloc hsz (.cells #[.int .i64 p, .int .i64 q] 53)).size (fun j hj => by cases hj; exact hgo)
                have HO := Lib.hid hown2
                have HBB := Lib.hid hb3
                clear hown2 hgrow2 hb3
                go_wp2
                go_roundw
                case rel => exact ⟨d + 1, g', cc', m + 1, sn ++ [(p, q)], by omega, by go_num, rfl, by omega, HE.out, HO.out, HBD.out, HBB.out⟩
                case measure => simp [intOf]; omega
          · obtain rfl : d = 4 := by omega
            have HE := Lib.hid (show sn = neTo l (k + 1) from by rw [neTo, HXY.out]; exact hsn.out)
            go_wp2
            go_roundw
            case rel => exact ⟨k + 1, g, cc, m, sn, by omega, by go_num, rfl, by omega, HE.out, hown, hbd, hb⟩
            case measure => simp [intOf]; omega
      · obtain rfl : k = n := by omega
        have hml := hown.out.1
        rw [cvs_length] at hml
        have HR := Lib.hid (show ((neTo l k).length : Int) = (m : Int) from by rw [← hsn.out]; omega)
        clear hown hml
        go_wp2
        go_ret
        exact ⟨by rw [HR.out]; rfl, hb⟩

set_option maxHeartbeats 2000000 in
set_option maxRecDepth 100000 in
theorem sRow (B n cap : Nat) (a : Option Addr) (l : List Cl) (w : World) (hn : n ≤ 4194304) (hc : CellsAt B w a n l) (hB : B ≤ w.heap.size) :
    Calls Try.prog 30 #[.slice a n cap] w fun e w' => e = .returned (.bool (rowC l)) ∧ Below w.heap.size w w' := by
  have H := Lib.hid hc
  have hln := hc.1
  clear hc
  cases hs : isShape l with
  | false =>
    have HS := Lib.hid hs
    have HO := Lib.hid (show rowC l = false from by unfold rowC; rw [hs]; rfl)
    rw [HO.out]
    clear hs hln
    by_cases h0 : 1 < (n : Int)
    · go_enter Try.func30, Try.ntmps30
      go_wp2
      refine wp_loop_rounds 1 ?_
      rw [rounds_succ]
      go_wp2_with fail
      refine (sIsShape B n cap a l w hn H.out hB).mono ?_
      rintro e w1 ⟨rfl, hb1⟩
      rw [HS.out]
      go_wp2_with fail
      refine (sIsShape B n cap a l w1 hn (H.out.on (hb1.mono hB)) (Nat.le_trans hB hb1.size)).mono ?_
      rintro e w2 ⟨rfl, hb2⟩
      rw [HS.out]
      go_wp2
      go_ret
      exact ⟨rfl, hb1.trans (hb2.mono hb1.size)⟩
    · go_enter Try.func30, Try.ntmps30
      go_wp2
      refine wp_loop_rounds 1 ?_
      rw [rounds_succ]
      go_wp2_with fail
      refine (sIsShape B n cap a l w hn H.out hB).mono ?_
      rintro e w1 ⟨rfl, hb1⟩
      rw [HS.out]
      go_wp2
      go_ret
      exact ⟨rfl, hb1⟩
  | true =>
    have HS := Lib.hid hs
    have hlen := ((isShape_iff l).1 hs).1
    have HP := Lib.hid (isShape_in hs)
    have HO := Lib.hid (show rowC l = rcTo l (n - 1) from by unfold rowC; rw [hs, hln]; rfl)
    have HLN := Lib.hid hln
    rw [hln] at hlen
    rw [HO.out]
    clear hs hln
    go_enter Try.func30, Try.ntmps30
    go_wp2
    go_loopw [3] (fun i wr => ∃ k : Nat, k + 1 ≤ n ∧ i = .int .i64 ((k : Int) + 1) ∧ Hid (rcTo l k = true) ∧ Below w.heap.size w wr) (fun i _ => n - (intOf i).toNat)
    case atStart => exact ⟨0, by omega, rfl, rfl, Below.refl _ _⟩
    case round =>
      obtain ⟨k, hk, rfl, hrc, hb⟩ := hrel
      have hsz := hb.size
      by_cases hlt : k + 1 < n
      · have hk1 : (k : Int) + 1 < (n : Int) := by omega
        have hk0 : (0 : Int) ≤ (k : Int) := by omega
        have hk2 : (k : Int) < (n : Int) := by omega
        have hk3 : ((k : Int) + 1).toNat = k + 1 := by omega
        have hk4 : IntKind.i64.wrap ((k : Int) + 1 - 1) = (k : Int) := by rw [show (k : Int) + 1 - 1 = (k : Int) by omega]; exact IntWalk.i64_in _ (by omega)
        have hk5 : IntKind.i64.wrap ((k : Int) + 1 + 1) = (k : Int) + 1 + 1 := IntWalk.i64_in _ (by omega)
        go_wp2_with fail
        refine (sIsShape B n cap a l wr hn (H.out.on (hb.mono hB)) (by omega)).mono ?_
        rintro e w1 ⟨rfl, hbs⟩
        rw [HS.out]
        have HB1 := Lib.hid (hb.trans (hbs.mono hsz))
        have HCW := Lib.hid (H.out.on (HB1.out.mono hB))
        obtain ⟨b9, o9, rfl, hb9, hc9⟩ := HCW.out.2.2 (by omega)
        obtain ⟨x, y, hxy⟩ : ∃ x y, l.getD k (0, 0) = (x, y) := ⟨_, _, rfl⟩
        obtain ⟨u, v, huv⟩ : ∃ u v, l.getD (k + 1) (0, 0) = (u, v) := ⟨_, _, rfl⟩
        have p1 := (hc9 k (by omega)).1
        have p2 := (hc9 k (by omega)).2
        have q1 := (hc9 (k + 1) hlt).1
        have q2 := (hc9 (k + 1) hlt).2
        rw [hxy] at p1 p2
        rw [huv] at q1 q2
        dsimp only at p1 p2 q1 q2
        have hpx := inP_out (HP.out _ (getD_mem (l := l) (j := k) (by have := HLN.out; omega)))
        rw [hxy] at hpx
        dsimp only at hpx
        have hx1 : IntKind.i64.wrap (x + 1) = x + 1 := IntWalk.i64_in _ (by omega)
        have hrcs := rcTo_step l k
        have hrca : rcAt l k = !(decide (v = y) && !decide (u = x + 1)) := by unfold rcAt; rw [hxy, huv]
        have HRS := Lib.hid hrcs
        have HRA := Lib.hid hrca
        clear hxy huv hc9 hrcs hrca hb hbs
        by_cases h1 : v = y
        · have e1 : (v == y) = true := by simp [h1]
          by_cases h2 : u = x + 1
          · have e2 : (u != x + 1) = false := by simp [h2]
            have HE := Lib.hid (show rcTo l (k + 1) = true from by rw [HRS.out, hrc.out, HRA.out]; simp [h2])
            clear h1 h2
            go_wp2_with fail
            go_quiet (fail)
            go_wp2
            go_roundw
            case rel => exact ⟨k + 1, by omega, by go_num, HE.out, below_drewn HB1.out _⟩
            case measure => simp [intOf]; omega
          · have e2 : (u != x + 1) = true := by rw [bne_iff_ne]; exact h2
            have HE := Lib.hid (show rcTo l (n - 1) = false from rcTo_false (k := k) (by rw [HRA.out]; simp [h1, h2]) (by omega))
            clear h1 h2
            go_wp2_with fail
            go_quiet (fail)
            go_wp2
            go_ret
            exact ⟨by rw [HE.out]; rfl, below_drewn HB1.out _⟩
        · have e1 : (v == y) = false := by simp [h1]
          have HE := Lib.hid (show rcTo l (k + 1) = true from by rw [HRS.out, hrc.out, HRA.out]; simp [h1])
          clear h1
          go_wp2_with fail
          go_quiet (fail)
          go_wp2
          go_roundw
          case rel => exact ⟨k + 1, by omega, by go_num, HE.out, below_drewn HB1.out _⟩
          case measure => simp [intOf]; omega
      · have hkn : n - 1 = k := by omega
        have hk1 : ¬ (k : Int) + 1 < (n : Int) := by omega
        have HE := Lib.hid (show rcTo l (n - 1) = true from by rw [hkn]; exact hrc.out)
        go_wp2_with fail
        refine (sIsShape B n cap a l wr hn (H.out.on (hb.mono hB)) (by omega)).mono ?_
        rintro e w1 ⟨rfl, hbs⟩
        rw [HS.out]
        go_wp2
        go_ret
        exact ⟨by rw [HE.out]; rfl, hb.trans (hbs.mono hsz)⟩

def ConvP (l : List Cl) : Prop := Conn l ∧ rowC l = true ∧ rowC (turnC 1 l) = true
set_option maxHeartbeats 2000000 in
theorem sConvex (B n cap : Nat) (a : Option Addr) (l : List Cl) (w : World) (hn : n ≤ 1048576) (hc : CellsAt B w a n l) (hB : B ≤ w.heap.size) :
    Calls Try.prog 32 #[.slice a n cap] w fun e w' => ∃ b : Bool, e = .returned (.bool b) ∧ (b = true ↔ ConvP l) ∧ Below w.heap.size w w' := by
  have H := Lib.hid hc
  have HLN := Lib.hid hc.1
  clear hc
  cases hs : isShape l with
  | false =>
    have HS := Lib.hid hs
    have HT := Lib.hid (show ¬ ConvP l from fun h => by have := h.1.1; rw [hs] at this; cases this)
    clear hs
    go_enter Try.func32, Try.ntmps32
    go_wp2_with fail
    refine (sIsShape B n cap a l w (by omega) H.out hB).mono ?_
    rintro e w1 ⟨rfl, hb1⟩
    rw [HS.out]
    go_wp2
    go_ret
    exact ⟨false, rfl, ⟨fun h => (by cases h), fun h => absurd h HT.out⟩, hb1⟩
  | true =>
    have HS := Lib.hid hs
    have HP := Lib.hid (isShape_in hs)
    clear hs
    go_enter Try.func32, Try.ntmps32
    go_wp2_with fail
    refine (sIsShape B n cap a l w (by omega) H.out hB).mono ?_
    rintro e w1 ⟨rfl, hb1⟩
    rw [HS.out]
    have hsz1 := hb1.size
    go_wp2_with fail
    refine (sConn B n cap a l w1 (by omega) (H.out.on (hb1.mono hB)) (by omega)).mono ?_
    rintro e w2 ⟨bb, rfl, hbi, hb2⟩
    have HBI := Lib.hid hbi
    have HB2 := Lib.hid (hb1.trans (hb2.mono hsz1))
    clear hbi hb1 hb2 hsz1
    have hsz2 := HB2.out.size
    cases bb with
    | false =>
      go_wp2
      go_ret
      exact ⟨false, rfl, ⟨fun h => (by cases h), fun h => (by have := HBI.out.2 h.1; cases this)⟩, HB2.out⟩
    | true =>
      have HCN := Lib.hid (show Conn l from HBI.out.1 (by simp))
      clear HBI
      go_wp2_with fail
      refine (sRow B n cap a l w2 (by omega) (H.out.on (HB2.out.mono hB)) (by omega)).mono ?_
      rintro e w3 ⟨rfl, hb3⟩
      have HB3 := Lib.hid (HB2.out.trans (hb3.mono hsz2))
      clear hb3
      have hsz3 := HB3.out.size
      cases hr : rowC l with
      | false =>
        have HR := Lib.hid hr
        clear hr
        go_wp2
        go_ret
        exact ⟨false, rfl, ⟨fun h => (by cases h), fun h => (by have := h.2.1; rw [HR.out] at this; cases this)⟩, HB3.out⟩
      | true =>
        have HR := Lib.hid hr
        clear hr
        go_wp2_with fail
        refine (sTurn B n cap 1 a l w3 (by omega) hn (H.out.on (HB3.out.mono hB)) HP.out (by omega)).mono ?_
        rintro e w4 ⟨g, cc, rfl, hown, hb4⟩
        have HB4 := Lib.hid (HB3.out.trans (hb4.mono hsz3))
        have HA := Lib.hid (CellsAt.of_own hown (turnC_inC HP.out 1))
        have htl := turnC_len 1 l
        rw [HLN.out] at htl
        obtain ⟨T, hT⟩ : ∃ T, turnC 1 l = T := ⟨_, rfl⟩
        rw [hT] at HA htl ⊢
        have HTT := Lib.hid hT
        clear hb4 hown hT
        have hsz4 := HB4.out.size
        go_wp2_with fail
        refine (sRow w4.heap.size T.length cc _ T w4 (by omega) HA.out (Nat.le_refl _)).mono ?_
        rintro e w5 ⟨rfl, hb5⟩
        have HB5 := Lib.hid (HB4.out.trans (hb5.mono hsz4))
        go_wp2
        go_ret
        refine ⟨rowC T, rfl, ?_, HB5.out⟩
        unfold ConvP
        rw [HTT.out]
        exact ⟨fun h => ⟨HCN.out, HR.out, h⟩, fun h => h.2.2⟩
end

section
open Go.RowKit

def sqP (l : List Cl) : Int := if isShape l = true then (sqTo l l.length : Int) else 0
theorem sqP_yes {l : List Cl} (h : isShape l = true) : sqP l = sqTo l l.length := if_pos h
theorem sqP_no {l : List Cl} (h : isShape l = false) : sqP l = 0 := if_neg (by rw [h]; simp)

set_option maxHeartbeats 4000000 in
set_option maxRecDepth 100000 in
theorem sSq (B n cap : Nat) (a : Option Addr) (l : List Cl) (w : World) (hn : n ≤ 4194304) (hc : CellsAt B w a n l) (hB : B ≤ w.heap.size) :
    Calls Try.prog 26 #[.slice a n cap] w fun e w' => e = .returned (.int .i64 (sqP l)) ∧ Below w.heap.size w w' := by
  have H := Lib.hid hc
  have hln := hc.1
  clear hc
  cases hs : isShape l with
  | false =>
    have HS := Lib.hid hs
    have HO := Lib.hid (sqP_no hs)
    rw [HO.out]
    clear hs hln
    by_cases h0 : 0 < (n : Int)
    · go_enter Try.func26, Try.ntmps26
      go_wp2
      refine wp_loop_rounds 1 ?_
      rw [rounds_succ]
      go_wp2_with fail
      refine (sIsShape B n cap a l w hn H.out hB).mono ?_
      rintro e w1 ⟨rfl, hb1⟩
      rw [HS.out]
      go_wp2
      go_ret
      exact ⟨rfl, hb1⟩
    · go_enter Try.func26, Try.ntmps26
      go_wp2
      refine wp_loop_rounds 1 ?_
      rw [rounds_succ]
      go_wp2
      go_ret
      exact ⟨rfl, Below.refl _ _⟩
  | true =>
    have HS := Lib.hid hs
    have hlen := ((isShape_iff l).1 hs).1
    have HP := Lib.hid (isShape_in hs)
    have HO := Lib.hid (show sqP l = (sqTo l n : Int) from by rw [sqP_yes hs, hln])
    have HLN := Lib.hid hln
    rw [hln] at hlen
    rw [HO.out]
    clear hs hln
    go_enter Try.func26, Try.ntmps26
    go_wp2
    go_loopw [3, 4] (fun v i wr => ∃ k z : Nat, k ≤ n ∧ i = .int .i64 k ∧ v = .int .i64 z ∧ z ≤ k ∧ Hid (z = sqTo l k) ∧ Below w.heap.size w wr) (fun _ i _ => n - (intOf i).toNat)
    case atStart => exact ⟨0, 0, by omega, rfl, rfl, by omega, rfl, Below.refl _ _⟩
    case round =>
      obtain ⟨k, z, hk, rfl, rfl, hz, hzz, hb⟩ := hrel
      have hsz := hb.size
      by_cases hlt : k < n
      · have hk1 : (k : Int) < (n : Int) := by omega
        have hk0 : (0 : Int) ≤ (k : Int) := by omega
        go_wp2_with fail
        refine (sIsShape B n cap a l wr hn (H.out.on (hb.mono hB)) (by omega)).mono ?_
        rintro e w1 ⟨rfl, hbs⟩
        rw [HS.out]
        have HB1 := Lib.hid (hb.trans (hbs.mono hsz))
        have HCW := Lib.hid (H.out.on (HB1.out.mono hB))
        have hH : ∀ (p q : Int) (b : Bool) (j : Nat), hasC l p q = b → Calls Try.prog 68 #[.slice a n cap, .int .i64 p, .int .i64 q] (w1.drewN j) fun e w' => e = .returned (.bool b) ∧ w1.drewN j = w' := fun p q b j e => by subst e; exact sHasCell B n cap a l p q (w1.drewN j) (by omega) (HCW.out.on (below_drewn (Below.refl B w1) j))
        obtain ⟨b9, o9, rfl, hb9, hc9⟩ := HCW.out.2.2 (by omega)
        obtain ⟨x, y, hxy⟩ : ∃ x y, l.getD k (0, 0) = (x, y) := ⟨_, _, rfl⟩
        have p1 := (hc9 k (by omega)).1
        have p2 := (hc9 k (by omega)).2
        rw [hxy] at p1 p2
        dsimp only at p1 p2
        have hpx := inP_out (HP.out _ (getD_mem (l := l) (j := k) (by have := HLN.out; omega)))
        rw [hxy] at hpx
        dsimp only at hpx
        obtain ⟨x1, ex1⟩ : ∃ x1, x + 1 = x1 := ⟨_, rfl⟩
        obtain ⟨y1, ey1⟩ : ∃ y1, y + 1 = y1 := ⟨_, rfl⟩
        have hx1 : IntKind.i64.wrap (x + 1) = x1 := by rw [← ex1]; exact IntWalk.i64_in _ (by omega)
        have hy1 : IntKind.i64.wrap (y + 1) = y1 := by rw [← ey1]; exact IntWalk.i64_in _ (by omega)
        have HST := Lib.hid (sqTo_step l k)
        have HA := Lib.hid (show sqAt l k = (hasC l x1 y && hasC l x y1 && hasC l x1 y1) from by unfold sqAt; rw [hxy]; dsimp only; rw [ex1, ey1])
        clear hxy hc9 hb hbs hpx ex1 ey1
        cases e1 : hasC l x1 y with
        | false =>
          have HE := Lib.hid (show z = sqTo l (k + 1) from by rw [HST.out, HA.out, e1]; exact hzz.out)
          go_wp2_with fail
          go_quiet (first | (go_at_call 68; refine quiet_same (hH _ _ _ _ (by assumption))))
          go_wp2
          go_roundw
          case rel => exact ⟨k + 1, z, by omega, by go_num, rfl, by omega, HE.out, below_drewn HB1.out _⟩
          case measure => simp [intOf]; omega
        | true =>
          cases e2 : hasC l x y1 with
          | false =>
            have HE := Lib.hid (show z = sqTo l (k + 1) from by rw [HST.out, HA.out, e1, e2]; exact hzz.out)
            go_wp2_with fail
            go_quiet (first | (go_at_call 68; refine quiet_same (hH _ _ _ _ (by assumption))))
            go_wp2
            go_roundw
            case rel => exact ⟨k + 1, z, by omega, by go_num, rfl, by omega, HE.out, below_drewn HB1.out _⟩
            case measure => simp [intOf]; omega
          | true =>
            cases e3 : hasC l x1 y1 with
            | false =>
              have HE := Lib.hid (show z = sqTo l (k + 1) from by rw [HST.out, HA.out, e1, e2, e3]; exact hzz.out)
              go_wp2_with fail
              go_quiet (first | (go_at_call 68; refine quiet_same (hH _ _ _ _ (by assumption))))
              go_wp2
              go_roundw
              case rel => exact ⟨k + 1, z, by omega, by go_num, rfl, by omega, HE.out, below_drewn HB1.out _⟩
              case measure => simp [intOf]; omega
            | true =>
              have HE := Lib.hid (show z + 1 = sqTo l (k + 1) from by rw [HST.out, HA.out, e1, e2, e3, hzz.out]; rfl)
              go_wp2_with fail
              go_quiet (first | (go_at_call 68; refine quiet_same (hH _ _ _ _ (by assumption))))
              go_wp2
              go_roundw
              case rel => exact ⟨k + 1, z + 1, by omega, by go_num, by go_num, by omega, HE.out, below_drewn HB1.out _⟩
              case measure => simp [intOf]; omega
      · obtain rfl : k = n := by omega
        have HR := Lib.hid (show (sqTo l k : Int) = (z : Int) from by rw [hzz.out])
        go_wp2
        go_ret
        exact ⟨by rw [HR.out]; rfl, hb⟩
end

section
open Go.RowKit

set_option maxHeartbeats 4000000 in
set_option maxRecDepth 100000 in
theorem sOutside (B n cap W H : Nat) (a : Option Addr) (l : List Cl) (w : World) (hn : n ≤ 4194304) (hl : isShape l = true) (hW : wideC l = W) (hH : highC l = H) (hW8 : W ≤ 8) (hH8 : H ≤ 8) (hins : InsF (cornerC l) (-1) W (-1) H) (hc : CellsAt B w a n l) (hB : B ≤ w.heap.size) :
    Calls Try.prog 67 #[.slice a n cap] w fun e w' => ∃ (g cc m : Nat) (sn : List Cl), e = .returned (.slice (some ⟨g, 0, none⟩) m cc) ∧ w'.ownsRow w.heap.size 53 2 (.slice (some ⟨g, 0, none⟩) m cc) m (cvs sn) ∧ sn.Nodup ∧ (∀ q, q ∈ sn ↔ inBox W H q ∧ OutP (cornerC l) q) ∧ Below w.heap.size w w' := by
  have HC := Lib.hid hc
  have HSH := Lib.hid hl
  have HW := Lib.hid hW
  have HH := Lib.hid hH
  have HI := Lib.hid hins
  clear hc hl hW hH hins
  go_enter Try.func67, Try.ntmps67
  go_wp2_with fail
  refine (sSize B n cap a l w hn HC.out hB).mono ?_
  rintro e w1 ⟨rfl, hb1⟩
  rw [HW.out, HH.out]
  have hsz1 := hb1.size
  go_wp2_with fail
  refine (sCornerShape B n cap a l w1 hn (HC.out.on (hb1.mono hB)) (by omega)).mono ?_
  rintro e w2 ⟨gc, capc, rfl, hownc, hb2⟩
  rw [show cornS l = cornerC l from if_pos HSH.out] at hownc ⊢
  have HCI := Lib.hid (isShape_in (isShape_corner HSH.out))
  obtain ⟨c, hcc⟩ : ∃ c, cornerC l = c := ⟨_, rfl⟩
  rw [hcc] at hownc HI HCI ⊢
  have hcl : c.length ≤ 8 := by rw [← hcc]; have := ((isShape_iff _).1 (isShape_corner HSH.out)).1; omega
  have HCC := Lib.hid (CellsAt.of_own hownc (fun q hq => inP_in (HCI.out q hq)))
  have HB2 := Lib.hid (hb1.trans (hb2.mono hsz1))
  have HCE := Lib.hid hcc
  clear hb1 hb2 hownc hcc HSH HW HH
  have hsz2 := HB2.out.size
  have HO3 := Lib.hid (World.ownsRow_lit (base := w2.heap.size) (e := 53) (size := 2) w2 #[.int .i64 (-1), .int .i64 (-1)] 1 (Nat.le_refl _) (by simp [maxLen]) rfl)
  have HBC := Lib.hid ((Below.refl w2.heap.size w2).alloc (Nat.le_refl _) (.cells #[.int .i64 (-1), .int .i64 (-1)] 53))
  go_wp2
  go_loopw [6, 7] (fun v i wr => ∃ (k g cc m : Nat) (sn : List Cl), i = .int .i64 k ∧ v = .slice (some ⟨g, 0, none⟩) m cc ∧ k ≤ m ∧ m ≤ 100 ∧ Hid (wr.ownsRow w2.heap.size 53 2 (.slice (some ⟨g, 0, none⟩) m cc) m (cvs sn)) ∧ Hid (OQ c W H sn k 0) ∧ Hid ((-1, -1) ∈ sn) ∧ Below w2.heap.size w2 wr) (fun _ i _ => 100 - (intOf i).toNat)
  case atStart => exact ⟨0, w2.heap.size, 1, 1, [(-1, -1)], rfl, rfl, by omega, by omega, HO3.out, OQ.start HI.out, List.mem_singleton.2 rfl, HBC.out⟩
  case round =>
    obtain ⟨i, g, cc, m, sn, rfl, rfl, him, hm, hown, hq, hs0, hb⟩ := hrel
    have hsz := hb.size
    clear HO3 HBC
    by_cases hlt : i < m
    · have hi1 : (i : Int) < (m : Int) := by omega
      go_wp2
      go_loopw [6, 8] (fun v j wr => ∃ (d g cc m : Nat) (sn : List Cl), j = .int .i64 d ∧ d ≤ 4 ∧ v = .slice (some ⟨g, 0, none⟩) m cc ∧ i < m ∧ m ≤ 100 ∧ Hid (wr.ownsRow w2.heap.size 53 2 (.slice (some ⟨g, 0, none⟩) m cc) m (cvs sn)) ∧ Hid (OQ c W H sn i d) ∧ Hid ((-1, -1) ∈ sn) ∧ Below w2.heap.size w2 wr) (fun _ j _ => 4 - (intOf j).toNat)
      case atStart => exact ⟨0, g, cc, m, sn, rfl, by omega, rfl, hlt, hm, hown, hq, hs0, hb⟩
      case round =>
        clear hown hq hs0 hb hsz hm him hlt hi1
        obtain ⟨d, g, cc, m, sn, rfl, hd, rfl, him, hm, hown, hq, hs0, hb⟩ := hrel
        have hsz := hb.size
        have hmm := hown.out.1
        rw [cvs_length] at hmm
        have hml : sn.length = m := by omega
        have HML := Lib.hid hml
        clear hmm
        by_cases hdt : d < 4
        · have hd1 : (d : Int) < 4 := by omega
          have hd0 : (0 : Int) ≤ (d : Int) := by omega
          have hi0 : (0 : Int) ≤ (i : Int) := by omega
          have hi1 : (i : Int) < (m : Int) := by omega
          obtain ⟨x, y, hxy⟩ : ∃ x y, sn.getD i (0, 0) = (x, y) := ⟨_, _, rfl⟩
          have hpx := inBox_out hW8 hH8 (hq.out.all i (by simp) (by omega)).1
          have hcv := cvs_get sn i (by omega)
          have p1 := hown.out.cellAt (i * 2) (by omega)
          have p2 := hown.out.cellAt (i * 2 + 1) (by omega)
          rw [hcv.1, hxy] at p1
          rw [hcv.2, hxy] at p2
          rw [hxy] at hpx
          dsimp only at p1 p2 hpx
          have hnb := nb_bd d hdt
          have HXY := Lib.hid hxy
          have HAC := Lib.hid (CellsAt.of_own hown.out (fun q hq9 => nearBd_in (by
            obtain ⟨j, hj, rfl⟩ := mem_getD hq9
            exact inBox_out hW8 hH8 (hq.out.all j (by simp) hj).1)))
          have HCW := Lib.hid (HCC.out.on hb)
          have hx1 : IntKind.i64.wrap (x + (1 - (d : Int)).tmod 2) = x + (1 - (d : Int)).tmod 2 := IntWalk.i64_in _ (by omega)
          have hy1 : IntKind.i64.wrap (y + (2 - (d : Int)).tmod 2) = y + (2 - (d : Int)).tmod 2 := IntWalk.i64_in _ (by omega)
          have hd3 : IntKind.i64.wrap (1 - (d : Int)) = 1 - (d : Int) := IntWalk.i64_in _ (by omega)
          have hd4 : IntKind.i64.wrap (2 - (d : Int)) = 2 - (d : Int) := IntWalk.i64_in _ (by omega)
          clear hxy hcv hml
          go_wp2_with fail
          obtain ⟨p, hp⟩ : ∃ p, x + (1 - (d : Int)).tmod 2 = p := ⟨_, rfl⟩
          obtain ⟨q, hqq⟩ : ∃ q, y + (2 - (d : Int)).tmod 2 = q := ⟨_, rfl⟩
          have HNB := Lib.hid (show nbC (sn.getD i (0, 0)) d = (p, q) from by rw [HXY.out]; unfold nbC; rw [← hp, ← hqq])
          have hpb : -2 ≤ p ∧ p ≤ 9 := by omega
          have hqb : -2 ≤ q ∧ q ≤ 9 := by omega
          rw [hp, hqq]
          clear hx1 hy1 hd3 hd4 hp hqq p1 p2 hnb hpx
          refine (sIn p (-1) (W : Int) wr).mono ?_
          rintro e w' ⟨rfl, rfl⟩
          cases h1 : inb p (-1) W with
          | false =>
            have HN := Lib.hid (hq.out.skip HNB.out (.inl h1))
            clear h1
            go_wp2
            go_roundw
            case rel => exact ⟨d + 1, g, cc, m, sn, by go_num, by omega, rfl, him, hm, hown, HN.out, hs0, hb⟩
            case measure => simp [intOf]; omega
          | true =>
            have H1 := Lib.hid h1
            clear h1
            go_wp2_with fail
            refine (sIn q (-1) (H : Int) wr).mono ?_
            rintro e w' ⟨rfl, rfl⟩
            cases h2 : inb q (-1) H with
            | false =>
              have HN := Lib.hid (hq.out.skip HNB.out (.inr (.inl h2)))
              clear h2
              go_wp2
              go_roundw
              case rel => exact ⟨d + 1, g, cc, m, sn, by go_num, by omega, rfl, him, hm, hown, HN.out, hs0, hb⟩
              case measure => simp [intOf]; omega
            | true =>
              have H2 := Lib.hid h2
              clear h2
              go_wp2_with fail
              refine (sHasCell w2.heap.size c.length capc _ c p q wr (by omega) HCW.out).mono ?_
              rintro e w' ⟨rfl, rfl⟩
              cases h3 : hasC c p q with
              | true =>
                have HN := Lib.hid (hq.out.skip HNB.out (.inr (.inr (.inl h3))))
                clear h3
                go_wp2
                go_roundw
                case rel => exact ⟨d + 1, g, cc, m, sn, by go_num, by omega, rfl, him, hm, hown, HN.out, hs0, hb⟩
                case measure => simp [intOf]; omega
              | false =>
                have H3 := Lib.hid h3
                clear h3
                go_wp2_with fail
                refine (sHasCell wr.heap.size m cc _ sn p q wr (by omega) HAC.out).mono ?_
                rintro e w' ⟨rfl, rfl⟩
                cases h4 : hasC sn p q with
                | true =>
                  have HN := Lib.hid (hq.out.skip HNB.out (.inr (.inr (.inr h4))))
                  clear h4
                  go_wp2
                  go_roundw
                  case rel => exact ⟨d + 1, g, cc, m, sn, by go_num, by omega, rfl, him, hm, hown, HN.out, hs0, hb⟩
                  case measure => simp [intOf]; omega
                | false =>
                  have hnew := hq.out.add (by have := HML.out; omega) hdt HNB.out H1.out H2.out H3.out h4
                  have HN := Lib.hid hnew
                  have hm1 := hnew.len hW8 hH8
                  rw [List.length_append, List.length_singleton, HML.out] at hm1
                  have HS := Lib.hid (List.mem_append_left [(p, q)] hs0.out)
                  have hgo := (hown.out.lt g rfl).1
                  clear hnew h4
                  go_wp2_with (first | (at_builtin; refine wpList_cells rfl _ _ rfl w2.heap.size g m cc sn ⟨wr.heap.size, 0, none⟩ 1 1 [(p, q)] rfl rfl (hown.out.alloc _) rfl (lies_block (t := 53) (fr := (0, 0)) (heap_alloc_new _ _)) (by omega) ?c5 (wr.heap.size + 1) ?c6 ?_) | go_in)
                  case c5 => simp; exact Nat.le_trans hsz (Nat.le_succ _)
                  case c6 => simp
                  intro g' cc' w3 hown2 hgrow2 hat2 hgb2 hlt2
                  have hb3 := (hb.alloc hsz (.cells #[.int .i64 p, .int .i64 q] 53)).grown hgrow2 (hb.alloc hsz (.cells #[.int .i64 p, .int .i64 q] 53)).size (fun j hj => by cases hj; exact hgo)
                  have HO := Lib.hid hown2
                  have HBB := Lib.hid hb3
                  clear hown2 hgrow2 hb3
                  go_wp2
                  go_roundw
                  case rel => exact ⟨d + 1, g', cc', m + 1, sn ++ [(p, q)], by go_num, by omega, rfl, by omega, hm1, HO.out, HN.out, HS.out, HBB.out⟩
                  case measure => simp [intOf]; omega
        · obtain rfl : d = 4 := by omega
          have HN := Lib.hid (Bq.next hq.out)
          go_wp2
          go_roundw
          case rel => exact ⟨i + 1, g, cc, m, sn, by go_num, rfl, by omega, hm, hown, HN.out, hs0, hb⟩
          case measure => simp [intOf]; omega
    · obtain rfl : i = m := by omega
      have hml := hown.out.1
      rw [cvs_length] at hml
      have hlen : sn.length = i := by omega
      have hqq := hq.out
      rw [← hlen] at hqq
      have HR := Lib.hid (Bq.outside HI.out (by omega) (by omega) hs0.out hqq)
      have HND := Lib.hid hqq.nodup
      clear hml hqq hlen
      go_wp2
      go_ret
      exact ⟨g, cc, i, sn, rfl, own_below hown.out hsz2, HND.out, by rw [HCE.out]; exact HR.out, HB2.out.trans (hb.mono hsz2)⟩
end

section
open Go.RowKit

set_option maxHeartbeats 8000000 in
set_option maxRecDepth 100000 in
theorem sHoles (B n cap : Nat) (a : Option Addr) (l : List Cl) (w : World) (hn : n ≤ 4194304) (hc : CellsAt B w a n l) (hB : B ≤ w.heap.size) :
    Calls Try.prog 24 #[.slice a n cap] w fun e w' => e = .returned (.int .i64 (holP l)) ∧ Below w.heap.size w w' := by
  have HC := Lib.hid hc
  clear hc
  cases hs : isShape l with
  | false =>
    have HS := Lib.hid hs
    have HO := Lib.hid (holP_no hs)
    rw [HO.out]
    clear hs
    go_enter Try.func24, Try.ntmps24
    go_wp2_with fail
    refine (sIsShape B n cap a l w hn HC.out hB).mono ?_
    rintro e w1 ⟨rfl, hb1⟩
    rw [HS.out]
    go_wp2
    go_ret
    exact ⟨rfl, hb1⟩
  | true =>
    have HSH := Lib.hid hs
    obtain ⟨W, H, hW, hH, hW8, hH8, hins⟩ := corner_frame hs
    have HW := Lib.hid hW
    have HH := Lib.hid hH
    have HI := Lib.hid hins
    have HO := Lib.hid (show holP l = (cntL (cornerC l) (gTo W H) : Int) from by rw [holP_yes hs, holes_corner (insF_shape hs) W H hins])
    rw [HO.out]
    clear hs hW hH hins
    go_enter Try.func24, Try.ntmps24
    go_wp2_with fail
    refine (sIsShape B n cap a l w hn HC.out hB).mono ?_
    rintro e w0 ⟨rfl, hb0⟩
    rw [HSH.out]
    have hsz0 := hb0.size
    go_wp2_with fail
    refine (sSize B n cap a l w0 hn (HC.out.on (hb0.mono hB)) (by omega)).mono ?_
    rintro e w1 ⟨rfl, hb1⟩
    rw [HW.out, HH.out]
    have HB1 := Lib.hid (hb0.trans (hb1.mono hsz0))
    have hsz1 := HB1.out.size
    clear hb0 hb1
    go_wp2_with fail
    refine (sCornerShape B n cap a l w1 hn (HC.out.on (HB1.out.mono hB)) (by omega)).mono ?_
    rintro e w2 ⟨gc, capc, rfl, hownc, hb2⟩
    have HB2 := Lib.hid (HB1.out.trans (hb2.mono hsz1))
    have hsz2 := HB2.out.size
    clear hb2
    rw [show cornS l = cornerC l from if_pos HSH.out] at hownc ⊢
    have HCI := Lib.hid (isShape_in (isShape_corner HSH.out))
    have HCC := Lib.hid (CellsAt.of_own hownc (fun q hq => inP_in (HCI.out q hq)))
    have hcl : (cornerC l).length ≤ 8 := by have := ((isShape_iff _).1 (isShape_corner HSH.out)).1; omega
    clear hownc
    go_wp2_with fail
    refine (sOutside B n cap W H a l w2 hn HSH.out HW.out HH.out hW8 hH8 HI.out (HC.out.on (HB2.out.mono hB)) (by omega)).mono ?_
    rintro e w3 ⟨g3, cc3, m3, sn3, rfl, hown3, hnd3, hmem3, hb3⟩
    obtain ⟨c, hcc⟩ : ∃ c, cornerC l = c := ⟨_, rfl⟩
    rw [hcc] at HI HCI HCC hcl hmem3 HO ⊢
    have HO3 := Lib.hid hown3
    have HND3 := Lib.hid hnd3
    have HM3 := Lib.hid (show ∀ q, q ∈ sn3 ↔ inBox W H q ∧ Seen c (((0 : Nat) : Int), ((0 : Nat) : Int)) q from fun q => by rw [hmem3 q, seen_start HI.out (by omega) (by omega)])
    have HB3 := Lib.hid (HB2.out.trans (hb3.mono hsz2))
    have HBC := Lib.hid hb3
    have HCE := Lib.hid hcc
    clear hown3 hnd3 hmem3 hb3 hcc HSH HW HH
    have hsz3 := HB3.out.size
    go_wp2
    go_loopw [6, 7, 8] (fun v zz i wr => ∃ (y z g cc m : Nat) (sn : List Cl), y ≤ H ∧ i = .int .i64 y ∧ zz = .int .i64 z ∧ z ≤ 8 * y ∧ v = .slice (some ⟨g, 0, none⟩) m cc ∧ Hid (z = cntL c (gTo W y)) ∧ Hid (wr.ownsRow w2.heap.size 53 2 (.slice (some ⟨g, 0, none⟩) m cc) m (cvs sn)) ∧ Hid (sn.Nodup) ∧ Hid (∀ q, q ∈ sn ↔ inBox W H q ∧ Seen c (((0 : Nat) : Int), (y : Int)) q) ∧ Below w2.heap.size w2 wr) (fun _ _ i _ => H - (intOf i).toNat)
    case atStart => exact ⟨0, 0, g3, cc3, m3, sn3, by omega, rfl, rfl, by omega, rfl, rfl, HO3.out, HND3.out, HM3.out, HBC.out⟩
    case round =>
      obtain ⟨y, z, g, cc, m, sn, hy, rfl, rfl, hz, rfl, hzz, hown, hnd, hmem, hb⟩ := hrel
      have hsz := hb.size
      clear HO3 HND3 HM3 HB3 HBC
      by_cases hyt : y < H
      · have hy1 : (y : Int) < (H : Int) := by omega
        have hy0 : (0 : Int) ≤ (y : Int) := by omega
        go_wp2
        go_loopw [6, 7, 9] (fun v zz i wr => ∃ (x z g cc m : Nat) (sn : List Cl), x ≤ W ∧ i = .int .i64 x ∧ zz = .int .i64 z ∧ z ≤ 8 * y + x ∧ v = .slice (some ⟨g, 0, none⟩) m cc ∧ Hid (z = cntL c (gTo W y ++ gRow y x)) ∧ Hid (wr.ownsRow w2.heap.size 53 2 (.slice (some ⟨g, 0, none⟩) m cc) m (cvs sn)) ∧ Hid (sn.Nodup) ∧ Hid (∀ q, q ∈ sn ↔ inBox W H q ∧ Seen c ((x : Int), (y : Int)) q) ∧ Below w2.heap.size w2 wr) (fun _ _ i _ => W - (intOf i).toNat)
        case atStart => exact ⟨0, z, g, cc, m, sn, by omega, rfl, rfl, by omega, rfl, by rw [show gRow y 0 = [] from rfl, List.append_nil]; exact hzz, hown, hnd, hmem, hb⟩
        case round =>
          clear hzz hown hnd hmem hb hsz hz
          obtain ⟨x, z, g, cc, m, sn, hx, rfl, rfl, hz, rfl, hzz, hown, hnd, hmem, hb⟩ := hrel
          have hsz := hb.size
          by_cases hxt : x < W
          · have hx1 : (x : Int) < (W : Int) := by omega
            have hx0 : (0 : Int) ≤ (x : Int) := by omega
            have hinb : inBox W H ((x : Int), (y : Int)) := by unfold inBox inFr; dsimp only; omega
            have HIB := Lib.hid hinb
            have hml := in_grid hnd.out hW8 hH8 (fun q hq => ((hmem.out q).1 hq).1)
            have hmm := hown.out.1
            rw [cvs_length] at hmm
            have hml2 : sn.length = m := by omega
            rw [hml2] at hml
            have HML := Lib.hid hml2
            have HCW := Lib.hid (HCC.out.on hb)
            have HAC := Lib.hid (CellsAt.of_own hown.out (fun q hq9 => nearBd_in (inBox_out hW8 hH8 ((hmem.out q).1 hq9).1)))
            have HNX := Lib.hid (show ¬ Lead c ((x : Int), (y : Int)) → ∀ q, q ∈ sn ↔ inBox W H q ∧ Seen c (((x + 1 : Nat) : Int), (y : Int)) q from fun hno q => by
              rw [hmem.out q, show ((x + 1 : Nat) : Int) = (x : Int) + 1 from by omega, seen_next_no hno])
            have HCT := Lib.hid (show gTo W y ++ gRow y (x + 1) = (gTo W y ++ gRow y x) ++ [((x : Int), (y : Int))] from by rw [gRow, List.append_assoc])
            clear hinb hmm hml2
            go_wp2_with fail
            refine (sHasCell w2.heap.size c.length capc _ c (x : Int) (y : Int) wr (by omega) HCW.out).mono ?_
            rintro e w' ⟨rfl, rfl⟩
            cases h1 : hasC c (x : Int) (y : Int) with
            | true =>
              have hno : ¬ Lead c ((x : Int), (y : Int)) := fun h => h.1 (hasC_true h1)
              have HM := Lib.hid (HNX.out hno)
              have HZ := Lib.hid (show z = cntL c (gTo W y ++ gRow y (x + 1)) from by rw [HCT.out, cntL_no _ hno]; exact hzz.out)
              clear h1 hno HNX
              go_wp2
              go_roundw
              case rel => exact ⟨x + 1, z, g, cc, m, sn, by omega, by go_num, rfl, by omega, rfl, HZ.out, hown, hnd, HM.out, hb⟩
              case measure => simp [intOf]; omega
            | false =>
              have HH1 := Lib.hid h1
              clear h1
              go_wp2_with fail
              refine (sHasCell wr.heap.size m cc _ sn (x : Int) (y : Int) wr (by omega) HAC.out).mono ?_
              rintro e w' ⟨rfl, rfl⟩
              cases h2 : hasC sn (x : Int) (y : Int) with
              | true =>
                have hno : ¬ Lead c ((x : Int), (y : Int)) := fun h => ((lead_iff _ _).1 h).2 ((hmem.out _).1 (hasC_true h2)).2
                have HM := Lib.hid (HNX.out hno)
                have HZ := Lib.hid (show z = cntL c (gTo W y ++ gRow y (x + 1)) from by rw [HCT.out, cntL_no _ hno]; exact hzz.out)
                clear h2 hno HNX
                go_wp2
                go_roundw
                case rel => exact ⟨x + 1, z, g, cc, m, sn, by omega, by go_num, rfl, by omega, rfl, HZ.out, hown, hnd, HM.out, hb⟩
                case measure => simp [intOf]; omega
              | false =>
                have hnsn := hasC_false h2
                have hlead : Lead c ((x : Int), (y : Int)) := (lead_iff _ _).2 ⟨hasC_false HH1.out, fun h => hnsn ((hmem.out _).2 ⟨HIB.out, h⟩)⟩
                have HLD := Lib.hid hlead
                have HZ := Lib.hid (show z + 1 = cntL c (gTo W y ++ gRow y (x + 1)) from by rw [HCT.out, cntL_yes _ hlead, hzz.out])
                have hq0 : HQ c x y sn (sn ++ [((x : Int), (y : Int))]) m 0 := by
                  have := Bq.start (fun q => q ∉ c) (Pth c ((x : Int), (y : Int))) sn ((x : Int), (y : Int)) hnd.out hnsn (.base hlead.1)
                  rw [HML.out] at this
                  exact this
                have HQ0 := Lib.hid hq0
                have hm1 := hq0.len HI.out hW8 hH8 hmem.out hlead
                rw [List.length_append, List.length_singleton, HML.out] at hm1
                have hgo := (hown.out.lt g rfl).1
                clear h2 hnsn hlead hq0 HNX
                go_wp2_with (first | (at_builtin; refine wpList_cells rfl _ _ rfl w2.heap.size g m cc sn ⟨wr.heap.size, 0, none⟩ 1 1 [((x : Int), (y : Int))] rfl rfl (hown.out.alloc _) rfl (lies_block (t := 53) (fr := (0, 0)) (heap_alloc_new _ _)) (by omega) ?c5 (wr.heap.size + 1) ?c6 ?_) | go_in)
                case c5 => simp; exact Nat.le_trans hsz (Nat.le_succ _)
                case c6 => simp
                intro g' cc' w4 hown4 hgrow4 _ _ _
                have hb4 := (hb.alloc hsz (.cells #[.int .i64 (x : Int), .int .i64 (y : Int)] 53)).grown hgrow4 (hb.alloc hsz (.cells #[.int .i64 (x : Int), .int .i64 (y : Int)] 53)).size (fun j hj => by cases hj; exact hgo)
                have HO4 := Lib.hid hown4
                have HB4 := Lib.hid hb4
                clear hown4 hgrow4 hb4
                go_wp2
                go_loopw [6, 11] (fun v i wr => ∃ (k g cc q : Nat) (sk : List Cl), i = .int .i64 k ∧ v = .slice (some ⟨g, 0, none⟩) q cc ∧ m ≤ k ∧ k ≤ q ∧ q ≤ 100 ∧ Hid (wr.ownsRow w2.heap.size 53 2 (.slice (some ⟨g, 0, none⟩) q cc) q (cvs sk)) ∧ Hid (HQ c x y sn sk k 0) ∧ Hid (((x : Int), (y : Int)) ∈ sk) ∧ Below w2.heap.size w2 wr) (fun _ i _ => 100 - (intOf i).toNat)
                case atStart => exact ⟨m, g', cc', m + 1, _, rfl, rfl, by omega, by omega, hm1, HO4.out, HQ0.out, List.mem_append_right _ (List.mem_singleton.2 rfl), HB4.out⟩
                case round =>
                  obtain ⟨k, g2, cc2, q2, sk, rfl, rfl, hmk, hkq, hq2, hown2, hhq, hps, hb2⟩ := hrel
                  have hsz2' := hb2.size
                  clear HO4 HB4 HQ0
                  by_cases hkt : k < q2
                  · have hk1 : (k : Int) < (q2 : Int) := by omega
                    have hk0 : (0 : Int) ≤ (k : Int) := by omega
                    go_wp2
                    go_loopw [6, 12] (fun v j wr => ∃ (d g cc q : Nat) (sk : List Cl), j = .int .i64 d ∧ d ≤ 4 ∧ v = .slice (some ⟨g, 0, none⟩) q cc ∧ k < q ∧ q ≤ 100 ∧ Hid (wr.ownsRow w2.heap.size 53 2 (.slice (some ⟨g, 0, none⟩) q cc) q (cvs sk)) ∧ Hid (HQ c x y sn sk k d) ∧ Hid (((x : Int), (y : Int)) ∈ sk) ∧ Below w2.heap.size w2 wr) (fun _ j _ => 4 - (intOf j).toNat)
                    case atStart => exact ⟨0, g2, cc2, q2, sk, rfl, by omega, rfl, hkt, hq2, hown2, hhq, hps, hb2⟩
                    case round =>
                      clear hown2 hhq hps hb2 hsz2' hq2 hkq hkt hk1
                      obtain ⟨d, g2, cc2, q2, sk, rfl, hd, rfl, hkq, hq2, hown2, hhq, hps, hb2⟩ := hrel
                      have hsz2' := hb2.size
                      have hmm := hown2.out.1
                      rw [cvs_length] at hmm
                      have hkl : sk.length = q2 := by omega
                      have HKL := Lib.hid hkl
                      clear hmm
                      by_cases hdt : d < 4
                      · have hd1 : (d : Int) < 4 := by omega
                        have hd0 : (0 : Int) ≤ (d : Int) := by omega
                        have hk1 : (k : Int) < (q2 : Int) := by omega
                        obtain ⟨u, v, huv⟩ : ∃ u v, sk.getD k (0, 0) = (u, v) := ⟨_, _, rfl⟩
                        have hbx := hhq.out.box HI.out hmem.out HLD.out
                        have hpx := inBox_out hW8 hH8 (hbx _ (getD_mem (l := sk) (j := k) (by omega)))
                        have hcv := cvs_get sk k (by omega)
                        have p1 := hown2.out.cellAt (k * 2) (by omega)
                        have p2 := hown2.out.cellAt (k * 2 + 1) (by omega)
                        rw [hcv.1, huv] at p1
                        rw [hcv.2, huv] at p2
                        rw [huv] at hpx
                        dsimp only at p1 p2 hpx
                        have hnb := nb_bd d hdt
                        have HUV := Lib.hid huv
                        have HAK := Lib.hid (CellsAt.of_own hown2.out (fun q hq9 => nearBd_in (inBox_out hW8 hH8 (hbx q hq9))))
                        have HCW2 := Lib.hid (HCC.out.on hb2)
                        have hx2 : IntKind.i64.wrap (u + (1 - (d : Int)).tmod 2) = u + (1 - (d : Int)).tmod 2 := IntWalk.i64_in _ (by omega)
                        have hy2 : IntKind.i64.wrap (v + (2 - (d : Int)).tmod 2) = v + (2 - (d : Int)).tmod 2 := IntWalk.i64_in _ (by omega)
                        have hd3 : IntKind.i64.wrap (1 - (d : Int)) = 1 - (d : Int) := IntWalk.i64_in _ (by omega)
                        have hd4 : IntKind.i64.wrap (2 - (d : Int)) = 2 - (d : Int) := IntWalk.i64_in _ (by omega)
                        clear huv hcv hkl hbx
                        go_wp2_with fail
                        obtain ⟨p, hp⟩ : ∃ p, u + (1 - (d : Int)).tmod 2 = p := ⟨_, rfl⟩
                        obtain ⟨q, hqq⟩ : ∃ q, v + (2 - (d : Int)).tmod 2 = q := ⟨_, rfl⟩
                        have HNB := Lib.hid (show nbC (sk.getD k (0, 0)) d = (p, q) from by rw [HUV.out]; unfold nbC; rw [← hp, ← hqq])
                        have hpb : -2 ≤ p ∧ p ≤ 9 := by omega
                        have hqb : -2 ≤ q ∧ q ≤ 9 := by omega
                        rw [hp, hqq]
                        clear hx2 hy2 hd3 hd4 hp hqq p1 p2 hnb hpx
                        refine (sHasCell w2.heap.size c.length capc _ c p q wr (by omega) HCW2.out).mono ?_
                        rintro e w' ⟨rfl, rfl⟩
                        cases h3 : hasC c p q with
                        | true =>
                          have HN := Lib.hid (hhq.out.skip HNB.out (.inl h3))
                          clear h3
                          go_wp2
                          go_roundw
                          case rel => exact ⟨d + 1, g2, cc2, q2, sk, by go_num, by omega, rfl, hkq, hq2, hown2, HN.out, hps, hb2⟩
                          case measure => simp [intOf]; omega
                        | false =>
                          have H3 := Lib.hid h3
                          clear h3
                          go_wp2_with fail
                          refine (sHasCell wr.heap.size q2 cc2 _ sk p q wr (by omega) HAK.out).mono ?_
                          rintro e w' ⟨rfl, rfl⟩
                          cases h4 : hasC sk p q with
                          | true =>
                            have HN := Lib.hid (hhq.out.skip HNB.out (.inr h4))
                            clear h4
                            go_wp2
                            go_roundw
                            case rel => exact ⟨d + 1, g2, cc2, q2, sk, by go_num, by omega, rfl, hkq, hq2, hown2, HN.out, hps, hb2⟩
                            case measure => simp [intOf]; omega
                          | false =>
                            have hnew := hhq.out.add (by have := HML.out; omega) (by have := HKL.out; omega) hdt HNB.out H3.out h4
                            have HN := Lib.hid hnew
                            have hm2 := hnew.len HI.out hW8 hH8 hmem.out HLD.out
                            rw [List.length_append, List.length_singleton, HKL.out] at hm2
                            have HS := Lib.hid (List.mem_append_left [(p, q)] hps.out)
                            have hgo := (hown2.out.lt g2 rfl).1
                            clear hnew h4
                            go_wp2_with (first | (at_builtin; refine wpList_cells rfl _ _ rfl w2.heap.size g2 q2 cc2 sk ⟨wr.heap.size, 0, none⟩ 1 1 [(p, q)] rfl rfl (hown2.out.alloc _) rfl (lies_block (t := 53) (fr := (0, 0)) (heap_alloc_new _ _)) (by omega) ?d5 (wr.heap.size + 1) ?d6 ?_) | go_in)
                            case d5 => simp; exact Nat.le_trans hsz2' (Nat.le_succ _)
                            case d6 => simp
                            intro g5 cc5 w5 hown5 hgrow5 _ _ _
                            have hb5 := (hb2.alloc hsz2' (.cells #[.int .i64 p, .int .i64 q] 53)).grown hgrow5 (hb2.alloc hsz2' (.cells #[.int .i64 p, .int .i64 q] 53)).size (fun j hj => by cases hj; exact hgo)
                            have HO5 := Lib.hid hown5
                            have HB5 := Lib.hid hb5
                            clear hown5 hgrow5 hb5
                            go_wp2
                            go_roundw
                            case rel => exact ⟨d + 1, g5, cc5, q2 + 1, sk ++ [(p, q)], by go_num, by omega, rfl, by omega, hm2, HO5.out, HN.out, HS.out, HB5.out⟩
                            case measure => simp [intOf]; omega
                      · obtain rfl : d = 4 := by omega
                        have HN := Lib.hid (Bq.next hhq.out)
                        go_wp2
                        go_roundw
                        case rel => exact ⟨k + 1, g2, cc2, q2, sk, by go_num, rfl, by omega, by omega, hq2, hown2, HN.out, hps, hb2⟩
                        case measure => simp [intOf]; omega
                  · obtain rfl : k = q2 := by omega
                    have hmm := hown2.out.1
                    rw [cvs_length] at hmm
                    have hlen : sk.length = k := by omega
                    have hqq := hhq.out
                    rw [← hlen] at hqq
                    have HM := Lib.hid (show ∀ q, q ∈ sk ↔ inBox W H q ∧ Seen c (((x + 1 : Nat) : Int), (y : Int)) q from fun q => by
                      rw [show ((x + 1 : Nat) : Int) = (x : Int) + 1 from by omega]
                      exact Bq.hole HI.out hmem.out HLD.out hps.out hqq q)
                    have HND := Lib.hid hqq.nodup
                    clear hmm hqq hlen
                    go_wp2
                    go_roundw
                    case rel => exact ⟨x + 1, z + 1, g2, cc2, k, sk, by omega, by go_num, by go_num, by omega, rfl, HZ.out, hown2, HND.out, HM.out, hb2⟩
                    case measure => simp [intOf]; omega
          · obtain rfl : x = W := by omega
            have HM := Lib.hid (show ∀ q, q ∈ sn ↔ inBox x H q ∧ Seen c (((0 : Nat) : Int), ((y + 1 : Nat) : Int)) q from fun q => by
              rw [hmem.out q, show ((y + 1 : Nat) : Int) = (y : Int) + 1 from by omega, seen_row HI.out (w := (x : Int)) (o := ((0 : Nat) : Int)) (by omega) (by omega) (y : Int) q])
            have HZ := Lib.hid (show z = cntL c (gTo x (y + 1)) from hzz.out)
            clear hmem
            go_wp2
            go_roundw
            case rel => exact ⟨y + 1, z, g, cc, m, sn, by omega, by go_num, rfl, by omega, rfl, HZ.out, hown, hnd, HM.out, hb⟩
            case measure => simp [intOf]; omega
      · obtain rfl : y = H := by omega
        have HR := Lib.hid (show (cntL c (gTo W y) : Int) = (z : Int) from by rw [hzz.out])
        have HBF := Lib.hid (HB2.out.trans (hb.mono hsz2))
        clear hown
        go_wp2
        go_ret
        exact ⟨by rw [HCE.out, HR.out]; rfl, HBF.out⟩
end

end Go.Proofs.Ythnapikklolgcaa
