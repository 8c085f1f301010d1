/-
  The laws on FormatInt and ParseInt: the walk of each law, out of the contracts of the program's function and of its model.
-/
import Derived.Test.YtljlkhlnjjchgaaDoorPis
import Derived.Test.YtljlkhlnjjchgaaDoorPii
import Derived.Test.YtljlkhlnjjchgaaDoorLaid
import Derived.OpenShut
namespace Go.Proofs.YtljlkhlnjjchgaaDoor
open Go.RowKit

theorem law_FormatInt (a0 : Int) (w0 : (Lit.int .i64 a0).wf = true) (w : World) (hT : Tab w.heap.size w) :
    Calls Tryd.prog 4 #[.int .i64 a0] w fun e w' => e = .returned (.bool true) ∧ Below w.heap.size w w' := by
  obtain ⟨hn0, hn1⟩ := bounds_i64 w0
  have HT := Lib.hid hT
  clear w0 hT
  go_enter Tryd.func4, Tryd.ntmps4
  go_wp2_with fail
  refine (sFormatInt a0 hn0 hn1 _).mono ?_
  rintro e w1 ⟨rfl, hb1⟩
  go_wp2_with fail
  refine (iFormatInt a0 hn0 hn1 w.heap.size _ (HT.out.on hb1) hb1.size).mono ?_
  rintro e w2 ⟨rfl, hb2⟩
  go_wp2
  go_ret
  exact ⟨rfl, hb1.trans hb2⟩

theorem law_ParseInt (a0 : ByteArray) (_ : a0.size ≤ maxLen) (w : World) (hT : Tab w.heap.size w) :
    Calls Tryd.prog 5 #[.string a0] w fun e w' => e = .returned (.bool true) ∧ Below w.heap.size w w' := by
  have HT := Lib.hid hT
  clear hT
  by_cases hs : (1048576 : Int) < a0.size
  · go_enter Tryd.func5, Tryd.ntmps5
    go_wp2
    go_ret
    exact ⟨rfl, Below.refl _ _⟩
  · by_cases hm : ∃ m, Small m ∧ Lib.itoa m = bs a0
    · obtain ⟨m, hm, hi⟩ := hm
      have HS := Lib.hid (show sPI (bs a0) = (m, true) by rw [← hi]; exact sPI_yes m hm)
      have HM := Lib.hid hm
      have HI := Lib.hid hi.symm
      clear hm hi
      go_enter Tryd.func5, Tryd.ntmps5
      go_wp2_with fail
      refine (sParseInt a0 _ (by omega)).mono ?_
      rintro e w1 ⟨rfl, hb1⟩
      rw [HS.out]
      go_wp2_with fail
      refine (iParse_yes a0 _ m _ HM.out HI.out rfl w.heap.size hb1.size (HT.out.on hb1)).mono ?_
      rintro e w2 ⟨rfl, hb2⟩
      go_wp2
      go_ret
      exact ⟨rfl, hb1.trans hb2⟩
    · have hno : ∀ m, Small m → Lib.itoa m ≠ bs a0 := fun m h e => hm ⟨m, h, e⟩
      have HS := Lib.hid (sPI_no (bs a0) hno)
      have HNO := Lib.hid hno
      clear hno hm
      go_enter Tryd.func5, Tryd.ntmps5
      go_wp2_with fail
      refine (sParseInt a0 _ (by omega)).mono ?_
      rintro e w1 ⟨rfl, hb1⟩
      rw [HS.out]
      go_wp2_with fail
      refine (iParse_no a0 _ _ HNO.out rfl w.heap.size hb1.size (HT.out.on hb1)).mono ?_
      rintro e w2 ⟨rfl, hb2⟩
      go_wp2
      go_ret
      exact ⟨rfl, hb1.trans hb2⟩

end Go.Proofs.YtljlkhlnjjchgaaDoor
