/-
  The first cell of a mask: in the model and in the program.
-/
import Derived.Test.YtghpljoccclmkaaDoorBt3
import Derived.Test.YtghpljoccclmkaaDoorBt4
import Derived.Test.YtghpljoccclmkaaDoorPma
import Derived.Lib.QuietBelow
namespace Go.Proofs.YtghpljoccclmkaaDoor
open Go.RowKit

theorem own_sliceB {w : World} {base n : Nat} {v : Value} {xs : List Value} (h : w.ownsRow base 41 2 v n xs) : ∃ a cap, v = .slice a n cap := by
  rcases h.2 with ⟨rfl, rfl⟩ | ⟨g, cap, cur, rfl, _⟩
  · exact ⟨_, _, rfl⟩
  · exact ⟨_, _, rfl⟩

set_option maxHeartbeats 4000000 in
set_option maxRecDepth 100000 in
theorem sFirst (B n cap : Nat) (a : Option Addr) (W : Int) (l : List Int) (m : Int) (w : World) (h1 : -9223372036854775808 ≤ m) (h2 : m ≤ 9223372036854775807) (hn : n ≤ 4194304) (hc : IntsAt B w a n l) (hB : B ≤ w.heap.size) :
    Calls Tryd.prog 14 #[.agg #[.int .i64 W, .slice a n cap], .int .i64 m] w fun e w' => e = .returned (.tuple #[.int .i64 (fcX W l m).1, .int .i64 (fcX W l m).2, .bool (fcB W l m)]) ∧ Below w.heap.size w w' := by
  have H := Lib.hid hc
  clear hc
  have hb0 := (Below.refl w.heap.size w).alloc (Nat.le_refl _) (.cells #[.int .i64 W, .slice a n cap] 28)
  go_enter Tryd.func14, Tryd.ntmps14
  go_wp2_with fail
  refine (sCellsM B n cap a W l m _ h1 h2 hn (H.out.on (hb0.mono hB)) (Nat.le_trans hB hb0.size)).mono ?_
  rintro e w2 ⟨v, rfl, hown, hb⟩
  have hin := cellsM_inC W l m
  have hlen := cellsM_len W l m
  have HX := Lib.hid (show fcX W l m = (cellsM W l m).getD 0 (0, 0) from rfl)
  have HF := Lib.hid (show fcB W l m = decide (0 < (cellsM W l m).length) from rfl)
  obtain ⟨zs, hzs⟩ : ∃ zs, cellsM W l m = zs := ⟨_, rfl⟩
  rw [hzs] at hown hin hlen HX HF
  clear hzs
  obtain ⟨a2, c2, rfl⟩ := own_sliceB hown
  have HC := Lib.hid (CellsAt.of_own hown hin)
  have HB := Lib.hid (hb0.trans (hb.mono hb0.size))
  clear hown hin hb hb0
  by_cases h0 : zs.length = 0
  · obtain rfl := List.length_eq_zero_iff.1 h0
    go_wp2
    go_ret3
    exact ⟨by rw [HX.out, HF.out]; rfl, HB.out⟩
  · obtain ⟨b2, o2, rfl, hbB, hcell⟩ := HC.out.2.2 (by omega)
    obtain ⟨x, y, hxy⟩ : ∃ x y, zs.getD 0 (0, 0) = (x, y) := ⟨_, _, rfl⟩
    have p0 := hcell 0 (by omega)
    rw [hxy] at p0
    simp only [Nat.zero_mul, Nat.add_zero] at p0
    obtain ⟨p1, p2⟩ := p0
    have HXY := Lib.hid hxy
    have h00 : ((zs.length : Int) == 0) = false := by simpa using h0
    have hp : (0 : Int) < (zs.length : Int) := by omega
    have HF2 := Lib.hid (show fcB W l m = true from by rw [HF.out]; simp; omega)
    clear hcell hxy HF
    go_wp2_with fail
    (try go_quiet (fail))
    (try go_wp2)
    go_ret3
    exact ⟨by rw [HX.out, HXY.out, HF2.out]; rfl, below_drewn HB.out _⟩

set_option maxHeartbeats 4000000 in
set_option maxRecDepth 100000 in
theorem iFirst (B n cap : Nat) (a : Option Addr) (W : Int) (l : List Int) (m : Int) (w : World) (h1 : -9223372036854775808 ≤ m) (h2 : m ≤ 9223372036854775807) (hn : n ≤ 4194304) (hc : IntsAt B w a n l) (hB : B ≤ w.heap.size) (hT : Tz w) :
    Calls Tryd.prog 15 #[.agg #[.int .i64 W, .slice a n cap], .int .i64 m] w fun e w' => e = .returned (.tuple #[.int .i64 (fcX W l m).1, .int .i64 (fcX W l m).2, .bool (fcB W l m)]) ∧ Below w.heap.size w w' := by
  have H := Lib.hid hc
  clear hc
  have hb0 := (Below.refl w.heap.size w).alloc (Nat.le_refl _) (.cells #[.int .i64 W, .slice a n cap] 28)
  go_enter Tryd.func15, Tryd.ntmps15
  go_wp2_with fail
  refine (iCellsM B n cap a W l m _ h1 h2 hn (H.out.on (hb0.mono hB)) (Nat.le_trans hB hb0.size) (hT.on hb0 hT.2)).mono ?_
  rintro e w2 ⟨v, rfl, hown, hb⟩
  have hin := cellsM_inC W l m
  have hlen := cellsM_len W l m
  have HX := Lib.hid (show fcX W l m = (cellsM W l m).getD 0 (0, 0) from rfl)
  have HF := Lib.hid (show fcB W l m = decide (0 < (cellsM W l m).length) from rfl)
  obtain ⟨zs, hzs⟩ : ∃ zs, cellsM W l m = zs := ⟨_, rfl⟩
  rw [hzs] at hown hin hlen HX HF
  clear hzs
  obtain ⟨a2, c2, rfl⟩ := own_sliceB hown
  have HC := Lib.hid (CellsAt.of_own hown hin)
  have HB := Lib.hid (hb0.trans (hb.mono hb0.size))
  clear hown hin hb hb0
  by_cases h0 : zs.length = 0
  · obtain rfl := List.length_eq_zero_iff.1 h0
    go_wp2
    go_ret3
    exact ⟨by rw [HX.out, HF.out]; rfl, HB.out⟩
  · obtain ⟨b2, o2, rfl, hbB, hcell⟩ := HC.out.2.2 (by omega)
    obtain ⟨x, y, hxy⟩ : ∃ x y, zs.getD 0 (0, 0) = (x, y) := ⟨_, _, rfl⟩
    have p0 := hcell 0 (by omega)
    rw [hxy] at p0
    simp only [Nat.zero_mul, Nat.add_zero] at p0
    obtain ⟨p1, p2⟩ := p0
    have HXY := Lib.hid hxy
    have h00 : ((zs.length : Int) == 0) = false := by simpa using h0
    have hp : (0 : Int) < (zs.length : Int) := by omega
    have HF2 := Lib.hid (show fcB W l m = true from by rw [HF.out]; simp; omega)
    clear hcell hxy HF
    go_wp2_with fail
    (try go_quiet (fail))
    (try go_wp2)
    go_ret3
    exact ⟨by rw [HX.out, HXY.out, HF2.out]; rfl, below_drewn HB.out _⟩

end Go.Proofs.YtghpljoccclmkaaDoor
