/-
  The area of a region, in the model and in the program: what each call gives.
-/
import Derived.Test.YtbfopdflkkcfaaaSr2
import Derived.Test.YtbfopdflkkcfaaaLw3
namespace Go.Proofs.Ytbfopdflkkcfaaa
open Go.RowKit

set_option maxHeartbeats 4000000 in
set_option maxRecDepth 100000 in
theorem iOnes64 (n : Nat) (hn : n < 64) (w : World) : Calls Try.prog 78 #[.int .u64 n] w fun e w' => e = .returned (.int .i64 (popc n)) ∧ w = w' := by
  go_enter Try.func78, Try.ntmps78
  go_wp2
  go_ret
  refine ⟨congrArg (fun z => Ending.returned (Value.int .i64 z)) (?_ : _ = (popc n : Int)), rfl⟩
  revert hn
  revert n
  decide +kernel
theorem iOnes (n : Nat) (hn : n < 64) (w : World) : Calls Try.prog 59 #[.int .u64 n] w fun e w' => e = .returned (.int .i64 (popc n)) ∧ w = w' := by
  go_enter Try.func59, Try.ntmps59
  go_wp2_with fail
  refine (iOnes64 n hn w).mono ?_
  rintro e w' ⟨rfl, rfl⟩
  go_wp2
  go_ret
  exact ⟨rfl, rfl⟩

set_option maxHeartbeats 1000000 in
theorem sArea (B n cap : Nat) (a : Option Addr) (W : Int) (l : List Int) (w : World) (hn : n ≤ 4194304) (hc : IntsAt B w a n l) (hB : B ≤ w.heap.size) :
    Calls Try.prog 25 #[.agg #[.int .i64 W, .slice a n cap]] w fun e w' => e = .returned (.int .i64 (areaR W l)) ∧ Below w.heap.size w w' := by
  have H := Lib.hid hc
  clear hc
  have hb0 := (Below.refl w.heap.size w).alloc (Nat.le_refl _) (.cells #[.int .i64 W, .slice a n cap] 27)
  have hbox := RgAt.new (w := w) W (.slice a n cap) rfl
  cases h : isReg W l with
  | false =>
    have HI := Lib.hid h
    have HO := Lib.hid (areaR_no h)
    rw [HO.out]
    clear h
    go_enter Try.func25, Try.ntmps25
    go_wp2_with fail
    refine (sIsReg B n cap a W l _ hn (H.out.on (hb0.mono hB)) (Nat.le_trans hB hb0.size)).mono ?_
    rintro e w' ⟨rfl, hb⟩
    rw [HI.out]
    go_wp2
    go_ret
    exact ⟨rfl, hb0.trans (hb.mono hb0.size)⟩
  | true =>
    have HI := Lib.hid h
    have HO := Lib.hid (show areaR W l = ((cellsR W l).length : Int) from if_pos h)
    rw [HO.out]
    clear h
    go_enter Try.func25, Try.ntmps25
    go_wp2_with fail
    refine (sIsReg B n cap a W l _ hn (H.out.on (hb0.mono hB)) (Nat.le_trans hB hb0.size)).mono ?_
    rintro e w2 ⟨rfl, hb⟩
    rw [HI.out]
    have hbx := hbox.on hb hbox.lt
    have c0 := hbx.c0
    have c1 := hbx.c1
    have HB := Lib.hid (hb0.trans (hb.mono hb0.size))
    clear hb hb0 hbox
    go_wp2_with fail
    refine (sCells B n cap a W l w2 hn (H.out.on (HB.out.mono hB)) (Nat.le_trans hB HB.out.size)).mono ?_
    rintro e w3 ⟨v, rfl, hown, hb3⟩
    obtain ⟨a3, c3, rfl⟩ := own_slice hown
    have HB3 := Lib.hid (HB.out.trans (hb3.mono HB.out.size))
    clear hown hb3
    go_wp2
    go_ret
    exact ⟨rfl, HB3.out⟩

set_option maxHeartbeats 2000000 in
set_option maxRecDepth 100000 in
theorem iArea (B n cap : Nat) (a : Option Addr) (W : Int) (l : List Int) (w : World) (hn : n ≤ 4194304) (hc : IntsAt B w a n l) (hB : B ≤ w.heap.size) :
    Calls Try.prog 26 #[.agg #[.int .i64 W, .slice a n cap]] w fun e w' => e = .returned (.int .i64 (areaR W l)) ∧ Below w.heap.size w w' := by
  have H := Lib.hid hc
  have HLN := Lib.hid hc.1
  clear hc
  have hb0 := (Below.refl w.heap.size w).alloc (Nat.le_refl _) (.cells #[.int .i64 W, .slice a n cap] 27)
  have hbox := RgAt.new (w := w) W (.slice a n cap) rfl
  cases h : isReg W l with
  | false =>
    have HI := Lib.hid h
    have HO := Lib.hid (areaR_no h)
    rw [HO.out]
    clear h
    go_enter Try.func26, Try.ntmps26
    go_wp2_with fail
    refine (iIsReg B n cap a W l _ hn (H.out.on (hb0.mono hB)) (Nat.le_trans hB hb0.size)).mono ?_
    rintro e w' ⟨rfl, hb⟩
    rw [HI.out]
    go_wp2
    go_ret
    exact ⟨rfl, hb0.trans (hb.mono hb0.size)⟩
  | true =>
    obtain ⟨N, rfl, hr⟩ := isReg_out h
    have hln := HLN.out
    rw [hln] at hr
    have HR := Lib.hid hr
    have HI := Lib.hid h
    have HO := Lib.hid (areaR_yes hr)
    rw [HO.out]
    have hn6 := hr.h6
    clear h hr hln
    go_enter Try.func26, Try.ntmps26
    go_wp2_with fail
    refine (iIsReg B n cap a N l _ hn (H.out.on (hb0.mono hB)) (Nat.le_trans hB hb0.size)).mono ?_
    rintro e w2 ⟨rfl, hb⟩
    rw [HI.out]
    have hbx := hbox.on hb hbox.lt
    have c1 := hbx.c1
    have HB := Lib.hid (hb0.trans (hb.mono hb0.size))
    clear hb hb0 hbox
    go_wp2
    go_loopw [3, 12] (fun v i wr => ∃ y m : Nat, y ≤ n ∧ i = .int .i64 y ∧ v = .int .i64 m ∧ m ≤ 6 * y ∧ Hid (m = (cellsB N y l).length) ∧ wr = w2) (fun _ i _ => n - (intOf i).toNat)
    case atStart => exact ⟨0, 0, by omega, rfl, rfl, by omega, rfl, rfl⟩
    case round =>
      obtain ⟨y, m, hy, rfl, rfl, hm6, hmm, rfl⟩ := hrel
      by_cases hlt : y < n
      · obtain ⟨b, off, rfl, hbB, hcell⟩ := H.out.2.2 (by omega)
        have p1 := (HB.out.cell (p := ⟨b, off + y, none⟩) (Nat.lt_of_lt_of_le hbB hB)).trans (hcell y hlt)
        have hv := HR.out.nat hlt
        rw [hv.1] at p1
        have HST := Lib.hid (area_step HR.out hlt)
        have hp6 := popc_le (rN l y)
        obtain ⟨z, hz⟩ : ∃ z, rN l y = z := ⟨_, rfl⟩
        rw [hz] at p1 hp6 HST hv
        have hz64 := hv.2.2
        have hy0 : (0 : Int) ≤ (y : Int) := by omega
        have hy1 : (y : Int) < (n : Int) := by omega
        have hcv : IntKind.u64.wrap (z : Int) = (z : Int) := by simp [IntKind.wrap, IntKind.bits, IntKind.signed]; omega
        clear hcell hv hz
        have HM := Lib.hid (show m + popc z = (cellsB N (y + 1) l).length from by rw [HST.out, hmm.out])
        obtain ⟨pc, hpc⟩ : ∃ pc, popc z = pc := ⟨_, rfl⟩
        rw [hpc] at hp6 HM
        have HPC := Lib.hid hpc
        clear hpc
        go_wp2_with fail
        refine (iOnes z hz64 wr).mono ?_
        rintro e w' ⟨rfl, rfl⟩
        rw [HPC.out]
        go_wp2
        go_roundw
        case rel => exact ⟨y + 1, m + pc, by omega, by go_num, by go_num, by omega, HM.out, trivial⟩
        case measure => simp [intOf]; omega
      · obtain rfl : y = n := by omega
        have HM := Lib.hid (show ((cellsB N y l).length : Int) = (m : Int) from by rw [hmm.out])
        go_wp2
        go_ret
        exact ⟨by rw [HM.out]; rfl, HB.out⟩

end Go.Proofs.Ytbfopdflkkcfaaa
