/-
  The area of a region, in the model and in the program: what each call gives.
  Are two regions alike, a region as a text: in the model and in the program: what each call gives.
-/
import Derived.Test.YtcfioncnpfoccaaGreatDoorSr2
import Derived.Test.YtcfioncnpfoccaaGreatDoorLwl
namespace Go.Proofs.YtcfioncnpfoccaaGreatDoor

section
open Go.RowKit

set_option maxHeartbeats 4000000 in
set_option maxRecDepth 100000 in
theorem iOnes64 (n : Nat) (hn : n < 64) (w : World) : Calls Tryz.prog 77 #[.int .u64 n] w fun e w' => e = .returned (.int .i64 (popc n)) ∧ w = w' := by
  go_enter Tryz.func77, Tryz.ntmps77
  go_wp2
  go_ret
  refine ⟨congrArg (fun z => Ending.returned (Value.int .i64 z)) (?_ : _ = (popc n : Int)), rfl⟩
  revert hn
  revert n
  decide +kernel
theorem iOnes (n : Nat) (hn : n < 64) (w : World) : Calls Tryz.prog 58 #[.int .u64 n] w fun e w' => e = .returned (.int .i64 (popc n)) ∧ w = w' := by
  go_enter Tryz.func58, Tryz.ntmps58
  go_wp2_with fail
  refine (iOnes64 n hn w).mono ?_
  rintro e w' ⟨rfl, rfl⟩
  go_wp2
  go_ret
  exact ⟨rfl, rfl⟩

set_option maxHeartbeats 1000000 in
theorem sArea (B n cap : Nat) (a : Option Addr) (W : Int) (l : List Int) (w : World) (hn : n ≤ 4194304) (hc : IntsAt B w a n l) (hB : B ≤ w.heap.size) :
    Calls Tryz.prog 18 #[.agg #[.int .i64 W, .slice a n cap]] w fun e w' => e = .returned (.int .i64 (areaR W l)) ∧ Below w.heap.size w w' := by
  have H := Lib.hid hc
  clear hc
  have hb0 := (Below.refl w.heap.size w).alloc (Nat.le_refl _) (.cells #[.int .i64 W, .slice a n cap] 26)
  have hbox := RgAt.new (w := w) W (.slice a n cap) rfl
  cases h : isReg W l with
  | false =>
    have HI := Lib.hid h
    have HO := Lib.hid (areaR_no h)
    rw [HO.out]
    clear h
    go_enter Tryz.func18, Tryz.ntmps18
    go_wp2_with fail
    refine (sIsReg B n cap a W l _ hn (H.out.on (hb0.mono hB)) (Nat.le_trans hB hb0.size)).mono ?_
    rintro e w' ⟨rfl, hb⟩
    rw [HI.out]
    go_wp2
    go_ret
    exact ⟨rfl, hb0.trans (hb.mono hb0.size)⟩
  | true =>
    have HI := Lib.hid h
    have HO := Lib.hid (show areaR W l = ((cellsR W l).length : Int) from if_pos h)
    rw [HO.out]
    clear h
    go_enter Tryz.func18, Tryz.ntmps18
    go_wp2_with fail
    refine (sIsReg B n cap a W l _ hn (H.out.on (hb0.mono hB)) (Nat.le_trans hB hb0.size)).mono ?_
    rintro e w2 ⟨rfl, hb⟩
    rw [HI.out]
    have hbx := hbox.on hb hbox.lt
    have c0 := hbx.c0
    have c1 := hbx.c1
    have HB := Lib.hid (hb0.trans (hb.mono hb0.size))
    clear hb hb0 hbox
    go_wp2_with fail
    refine (sCells B n cap a W l w2 hn (H.out.on (HB.out.mono hB)) (Nat.le_trans hB HB.out.size)).mono ?_
    rintro e w3 ⟨v, rfl, hown, hb3⟩
    obtain ⟨a3, c3, rfl⟩ := own_slice hown
    have HB3 := Lib.hid (HB.out.trans (hb3.mono HB.out.size))
    clear hown hb3
    go_wp2
    go_ret
    exact ⟨rfl, HB3.out⟩

set_option maxHeartbeats 2000000 in
set_option maxRecDepth 100000 in
theorem iArea (B n cap : Nat) (a : Option Addr) (W : Int) (l : List Int) (w : World) (hn : n ≤ 4194304) (hc : IntsAt B w a n l) (hB : B ≤ w.heap.size) :
    Calls Tryz.prog 17 #[.agg #[.int .i64 W, .slice a n cap]] w fun e w' => e = .returned (.int .i64 (areaR W l)) ∧ Below w.heap.size w w' := by
  have H := Lib.hid hc
  have HLN := Lib.hid hc.1
  clear hc
  have hb0 := (Below.refl w.heap.size w).alloc (Nat.le_refl _) (.cells #[.int .i64 W, .slice a n cap] 26)
  have hbox := RgAt.new (w := w) W (.slice a n cap) rfl
  cases h : isReg W l with
  | false =>
    have HI := Lib.hid h
    have HO := Lib.hid (areaR_no h)
    rw [HO.out]
    clear h
    go_enter Tryz.func17, Tryz.ntmps17
    go_wp2_with fail
    refine (iIsReg B n cap a W l _ hn (H.out.on (hb0.mono hB)) (Nat.le_trans hB hb0.size)).mono ?_
    rintro e w' ⟨rfl, hb⟩
    rw [HI.out]
    go_wp2
    go_ret
    exact ⟨rfl, hb0.trans (hb.mono hb0.size)⟩
  | true =>
    obtain ⟨N, rfl, hr⟩ := isReg_out h
    have hln := HLN.out
    rw [hln] at hr
    have HR := Lib.hid hr
    have HI := Lib.hid h
    have HO := Lib.hid (areaR_yes hr)
    rw [HO.out]
    have hn6 := hr.h6
    clear h hr hln
    go_enter Tryz.func17, Tryz.ntmps17
    go_wp2_with fail
    refine (iIsReg B n cap a N l _ hn (H.out.on (hb0.mono hB)) (Nat.le_trans hB hb0.size)).mono ?_
    rintro e w2 ⟨rfl, hb⟩
    rw [HI.out]
    have hbx := hbox.on hb hbox.lt
    have c1 := hbx.c1
    have HB := Lib.hid (hb0.trans (hb.mono hb0.size))
    clear hb hb0 hbox
    go_wp2
    go_loopw [3, 12] (fun v i wr => ∃ y m : Nat, y ≤ n ∧ i = .int .i64 y ∧ v = .int .i64 m ∧ m ≤ 6 * y ∧ Hid (m = (cellsB N y l).length) ∧ wr = w2) (fun _ i _ => n - (intOf i).toNat)
    case atStart => exact ⟨0, 0, by omega, rfl, rfl, by omega, rfl, rfl⟩
    case round =>
      obtain ⟨y, m, hy, rfl, rfl, hm6, hmm, rfl⟩ := hrel
      by_cases hlt : y < n
      · obtain ⟨b, off, rfl, hbB, hcell⟩ := H.out.2.2 (by omega)
        have p1 := (HB.out.cell (p := ⟨b, off + y, none⟩) (Nat.lt_of_lt_of_le hbB hB)).trans (hcell y hlt)
        have hv := HR.out.nat hlt
        rw [hv.1] at p1
        have HST := Lib.hid (area_step HR.out hlt)
        have hp6 := popc_le (rN l y)
        obtain ⟨z, hz⟩ : ∃ z, rN l y = z := ⟨_, rfl⟩
        rw [hz] at p1 hp6 HST hv
        have hz64 := hv.2.2
        have hy0 : (0 : Int) ≤ (y : Int) := by omega
        have hy1 : (y : Int) < (n : Int) := by omega
        have hcv : IntKind.u64.wrap (z : Int) = (z : Int) := by simp [IntKind.wrap, IntKind.bits, IntKind.signed]; omega
        clear hcell hv hz
        have HM := Lib.hid (show m + popc z = (cellsB N (y + 1) l).length from by rw [HST.out, hmm.out])
        obtain ⟨pc, hpc⟩ : ∃ pc, popc z = pc := ⟨_, rfl⟩
        rw [hpc] at hp6 HM
        have HPC := Lib.hid hpc
        clear hpc
        go_wp2_with fail
        refine (iOnes z hz64 wr).mono ?_
        rintro e w' ⟨rfl, rfl⟩
        rw [HPC.out]
        go_wp2
        go_roundw
        case rel => exact ⟨y + 1, m + pc, by omega, by go_num, by go_num, by omega, HM.out, trivial⟩
        case measure => simp [intOf]; omega
      · obtain rfl : y = n := by omega
        have HM := Lib.hid (show ((cellsB N y l).length : Int) = (m : Int) from by rw [hmm.out])
        go_wp2
        go_ret
        exact ⟨by rw [HM.out]; rfl, HB.out⟩
end

section
open Go.RowKit

def eqTo (l r : List Int) (k : Nat) : Bool := (List.range k).all fun j => decide (l.getD j 0 = r.getD j 0)
theorem eqTo_step (l r : List Int) (k : Nat) : eqTo l r (k + 1) = (eqTo l r k && decide (l.getD k 0 = r.getD k 0)) := by
  unfold eqTo; rw [List.range_succ, List.all_append]; simp
theorem eqTo_iff (l r : List Int) (k : Nat) : eqTo l r k = true ↔ ∀ j, j < k → l.getD j 0 = r.getD j 0 := by
  unfold eqTo; rw [List.all_eq_true]; simp
theorem eqTo_all {l r : List Int} (h : l.length = r.length) : eqTo l r l.length = decide (l = r) := by
  rw [Bool.eq_iff_iff, eqTo_iff, decide_eq_true_eq]
  constructor
  · intro h2
    apply List.ext_getElem h
    intro j h3 h4
    have := h2 j h3
    simpa [List.getD, h3, h4] using this
  · rintro rfl j _; rfl
def eqR (W : Int) (l : List Int) (U : Int) (r : List Int) : Bool := decide (W = U) && decide (l = r)
theorem eqR_w {W U : Int} {l r : List Int} (h : ¬ W = U) : eqR W l U r = false := by unfold eqR; simp [h]
theorem eqR_n {W U : Int} {l r : List Int} (h : ¬ l.length = r.length) : eqR W l U r = false := by
  unfold eqR
  have : ¬ l = r := fun e => h (by rw [e])
  simp [this]
theorem eqR_at {W U : Int} {l r : List Int} {k : Nat} (h : ¬ l.getD k 0 = r.getD k 0) : eqR W l U r = false := by
  unfold eqR
  have : ¬ l = r := fun e => h (by rw [e])
  simp [this]
theorem eqI_at {l r : List Int} {k : Nat} (h : ¬ l.getD k 0 = r.getD k 0) : decide (l = r) = false := by
  have : ¬ l = r := fun e => h (by rw [e])
  simp [this]

set_option maxHeartbeats 2000000 in
set_option maxRecDepth 100000 in
theorem sEqR (B n cap m cap2 : Nat) (a a2 : Option Addr) (W U : Int) (l r : List Int) (w : World) (hn : n ≤ 4194304) (hm : m ≤ 4194304) (hc : IntsAt B w a n l) (hc2 : IntsAt B w a2 m r) (hB : B ≤ w.heap.size) :
    Calls Tryz.prog 13 #[.agg #[.int .i64 W, .slice a n cap], .agg #[.int .i64 U, .slice a2 m cap2]] w fun e w' => e = .returned (.bool (eqR W l U r)) ∧ Below w.heap.size w w' := by
  have H := Lib.hid hc
  have H2 := Lib.hid hc2
  have hl1 := hc.1
  have hl2 := hc2.1
  clear hc hc2
  have hb0 := ((Below.refl w.heap.size w).alloc (Nat.le_refl _) (.cells #[.int .i64 W, .slice a n cap] 26)).alloc (by simp) (.cells #[.int .i64 U, .slice a2 m cap2] 26)
  by_cases h1 : W = U
  · subst h1
    by_cases h2 : n = m
    · subst h2
      have HO := Lib.hid (show eqR W l W r = eqTo l r n from by unfold eqR; rw [← hl1, eqTo_all (by omega)]; simp)
      rw [HO.out]
      have hbox := (RgAt.new (w := w) W (.slice a n cap) rfl).alloc (.cells #[.int .i64 W, .slice a2 n cap2] 26)
      have hbox2 := RgAt.new (w := w.alloc (.cells #[.int .i64 W, .slice a n cap] 26)) (N := w.heap.size + 1) W (.slice a2 n cap2) (by simp)
      have e1 : (W != W) = false := by simp
      have e2 : ((n : Int) != (n : Int)) = false := by simp
      go_enter Tryz.func13, Tryz.ntmps13
      go_wp2
      have hsz0 : ((w.alloc (.cells #[.int .i64 W, .slice a n cap] 26)).alloc (.cells #[.int .i64 W, .slice a2 n cap2] 26)).heap.size = w.heap.size + 1 + 1 := by simp
      generalize ((w.alloc (.cells #[.int .i64 W, .slice a n cap] 26)).alloc (.cells #[.int .i64 W, .slice a2 n cap2] 26)) = W1 at *
      have HB := Lib.hid hb0
      clear hb0
      go_loopw [5] (fun i wr => ∃ k : Nat, k ≤ n ∧ i = .int .i64 k ∧ Hid (eqTo l r k = true) ∧ Below (w.heap.size + 1 + 1) W1 wr) (fun i _ => n - (intOf i).toNat)
      case atStart => exact ⟨0, by omega, rfl, by simp [Hid, eqTo], Below.refl _ _⟩
      case round =>
        obtain ⟨k, hk, rfl, he, hb⟩ := hrel
        have hsz := hb.size
        have hbw := HB.out.trans (hb.mono (by omega))
        have hbx := hbox.on hb (by omega)
        have hbx2 := hbox2.on hb (by omega)
        have c1 := hbx.c1
        have d1 := hbx2.c1
        by_cases hlt : k < n
        · obtain ⟨b, off, rfl, hbB, hcell⟩ := H.out.2.2 (by omega)
          obtain ⟨b2, off2, rfl, hbB2, hcell2⟩ := H2.out.2.2 (by omega)
          have p1 := (hbw.cell (p := ⟨b, off + k, none⟩) (Nat.lt_of_lt_of_le hbB hB)).trans (hcell k hlt)
          have p2 := (hbw.cell (p := ⟨b2, off2 + k, none⟩) (Nat.lt_of_lt_of_le hbB2 hB)).trans (hcell2 k hlt)
          have hk0 : (0 : Int) ≤ (k : Int) := by omega
          have hk1 : (k : Int) < (n : Int) := by omega
          have HS := Lib.hid (eqTo_step l r k)
          have HA := Lib.hid (eqI_at (l := l) (r := r) (k := k))
          have HL := Lib.hid (show eqTo l r n = decide (l = r) from by rw [← hl1, eqTo_all (by omega)])
          obtain ⟨x, hx⟩ : ∃ x, l.getD k 0 = x := ⟨_, rfl⟩
          obtain ⟨y, hy⟩ : ∃ y, r.getD k 0 = y := ⟨_, rfl⟩
          rw [hx] at p1 HS HA
          rw [hy] at p2 HS HA
          clear hcell hcell2 hx hy
          by_cases hxy : x = y
          · subst hxy
            have e3 : (x != x) = false := by simp
            have HR := Lib.hid (show eqTo l r (k + 1) = true from by rw [HS.out, he.out]; simp)
            clear HA
            go_wp2_with fail
            go_quiet (fail)
            go_wp2
            go_roundw
            case rel => exact ⟨k + 1, by omega, by go_num, HR.out, below_drewn hb _⟩
            case measure => simp [intOf]; omega
          · have e3 : (x != y) = true := by rw [bne_iff_ne]; exact hxy
            have HR := Lib.hid (show eqTo l r n = false from by rw [HL.out]; exact HA.out hxy)
            clear HA hxy
            go_wp2_with fail
            go_quiet (fail)
            go_wp2
            go_ret
            exact ⟨by rw [HR.out]; rfl, below_drewn hbw _⟩
        · obtain rfl : k = n := by omega
          go_wp2
          go_ret
          exact ⟨by rw [he.out]; rfl, hbw⟩
    · have HO := Lib.hid (eqR_n (W := W) (U := W) (l := l) (r := r) (by rw [hl1, hl2]; exact h2))
      rw [HO.out]
      have e1 : (W != W) = false := by simp
      have e2 : ((n : Int) != (m : Int)) = true := by rw [bne_iff_ne]; omega
      go_enter Tryz.func13, Tryz.ntmps13
      go_wp2
      go_ret
      exact ⟨rfl, hb0⟩
  · have HO := Lib.hid (eqR_w (l := l) (r := r) h1)
    rw [HO.out]
    have e1 : (W != U) = true := by rw [bne_iff_ne]; exact h1
    go_enter Tryz.func13, Tryz.ntmps13
    go_wp2
    go_ret
    exact ⟨rfl, hb0⟩

set_option maxHeartbeats 2000000 in
set_option maxRecDepth 100000 in
theorem iEqI (B n cap m cap2 : Nat) (a a2 : Option Addr) (l r : List Int) (w : World) (hn : n ≤ 4194304) (hm : m ≤ 4194304) (hc : IntsAt B w a n l) (hc2 : IntsAt B w a2 m r) (hB : B ≤ w.heap.size) :
    Calls Tryz.prog 68 #[.slice a n cap, .slice a2 m cap2] w fun e w' => e = .returned (.bool (decide (l = r))) ∧ Below w.heap.size w w' := by
  have H := Lib.hid hc
  have H2 := Lib.hid hc2
  have hl1 := hc.1
  have hl2 := hc2.1
  clear hc hc2
  by_cases h2 : n = m
  · subst h2
    have HL := Lib.hid (show eqTo l r n = decide (l = r) from by rw [← hl1, eqTo_all (by omega)])
    rw [← HL.out]
    have e2 : ((n : Int) != (n : Int)) = false := by simp
    go_enter Tryz.func68, Tryz.ntmps68
    go_wp2
    go_loopw [13] (fun i wr => ∃ k : Nat, k ≤ n ∧ i = .int .i64 k ∧ Hid (eqTo l r k = true) ∧ Below w.heap.size w wr) (fun i _ => n - (intOf i).toNat)
    case atStart => exact ⟨0, by omega, rfl, by simp [Hid, eqTo], Below.refl _ _⟩
    case round =>
      obtain ⟨k, hk, rfl, he, hbw⟩ := hrel
      by_cases hlt : k < n
      · obtain ⟨b, off, rfl, hbB, hcell⟩ := H.out.2.2 (by omega)
        obtain ⟨b2, off2, rfl, hbB2, hcell2⟩ := H2.out.2.2 (by omega)
        have p1 := (hbw.cell (p := ⟨b, off + k, none⟩) (Nat.lt_of_lt_of_le hbB hB)).trans (hcell k hlt)
        have p2 := (hbw.cell (p := ⟨b2, off2 + k, none⟩) (Nat.lt_of_lt_of_le hbB2 hB)).trans (hcell2 k hlt)
        have hk0 : (0 : Int) ≤ (k : Int) := by omega
        have hk1 : (k : Int) < (n : Int) := by omega
        have HS := Lib.hid (eqTo_step l r k)
        have HA := Lib.hid (eqI_at (l := l) (r := r) (k := k))
        obtain ⟨x, hx⟩ : ∃ x, l.getD k 0 = x := ⟨_, rfl⟩
        obtain ⟨y, hy⟩ : ∃ y, r.getD k 0 = y := ⟨_, rfl⟩
        rw [hx] at p1 HS HA
        rw [hy] at p2 HS HA
        clear hcell hcell2 hx hy
        by_cases hxy : x = y
        · subst hxy
          have e3 : (x != x) = false := by simp
          have HR := Lib.hid (show eqTo l r (k + 1) = true from by rw [HS.out, he.out]; simp)
          clear HA
          go_wp2_with fail
          go_quiet (fail)
          go_wp2
          go_roundw
          case rel => exact ⟨k + 1, by omega, by go_num, HR.out, below_drewn hbw _⟩
          case measure => simp [intOf]; omega
        · have e3 : (x != y) = true := by rw [bne_iff_ne]; exact hxy
          have HR := Lib.hid (show eqTo l r n = false from by rw [HL.out]; exact HA.out hxy)
          clear HA hxy
          go_wp2_with fail
          go_quiet (fail)
          go_wp2
          go_ret
          exact ⟨by rw [HR.out]; rfl, below_drewn hbw _⟩
      · obtain rfl : k = n := by omega
        go_wp2
        go_ret
        exact ⟨by rw [he.out]; rfl, hbw⟩
  · have HO := Lib.hid (show decide (l = r) = false from by
      have : ¬ l = r := fun e => h2 (by rw [← hl1, ← hl2, e])
      simp [this])
    rw [HO.out]
    have e2 : ((n : Int) != (m : Int)) = true := by rw [bne_iff_ne]; omega
    go_enter Tryz.func68, Tryz.ntmps68
    go_wp2
    go_ret
    exact ⟨rfl, Below.refl _ _⟩

set_option maxHeartbeats 1000000 in
theorem iEqR (B n cap m cap2 : Nat) (a a2 : Option Addr) (W U : Int) (l r : List Int) (w : World) (hn : n ≤ 4194304) (hm : m ≤ 4194304) (hc : IntsAt B w a n l) (hc2 : IntsAt B w a2 m r) (hB : B ≤ w.heap.size) :
    Calls Tryz.prog 37 #[.agg #[.int .i64 W, .slice a n cap], .agg #[.int .i64 U, .slice a2 m cap2]] w fun e w' => e = .returned (.bool (eqR W l U r)) ∧ Below w.heap.size w w' := by
  have H := Lib.hid hc
  have H2 := Lib.hid hc2
  clear hc hc2
  have hb0 := ((Below.refl w.heap.size w).alloc (Nat.le_refl _) (.cells #[.int .i64 W, .slice a n cap] 26)).alloc (by simp) (.cells #[.int .i64 U, .slice a2 m cap2] 26)
  by_cases h1 : W = U
  · subst h1
    have HO := Lib.hid (show eqR W l W r = decide (l = r) from by unfold eqR; simp)
    rw [HO.out]
    have e1 : (W == W) = true := by simp
    go_enter Tryz.func37, Tryz.ntmps37
    go_wp2_with fail
    refine (iEqI B n cap m cap2 a a2 l r _ hn hm (H.out.on (hb0.mono hB)) (H2.out.on (hb0.mono hB)) (Nat.le_trans hB hb0.size)).mono ?_
    rintro e w' ⟨rfl, hb⟩
    go_wp2
    go_ret
    exact ⟨rfl, hb0.trans (hb.mono hb0.size)⟩
  · have HO := Lib.hid (eqR_w (l := l) (r := r) h1)
    rw [HO.out]
    have e1 : (W == U) = false := by rw [beq_eq_false_iff_ne]; exact h1
    go_enter Tryz.func37, Tryz.ntmps37
    go_wp2
    go_ret
    exact ⟨rfl, hb0⟩
end

end Go.Proofs.YtcfioncnpfoccaaGreatDoor
