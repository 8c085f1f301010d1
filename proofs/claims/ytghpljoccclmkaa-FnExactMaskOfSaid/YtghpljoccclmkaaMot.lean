/-
  Motions in the model.
-/
import Derived.Deep.Onto
import Derived.Deep.RegionWith
import Derived.Deep.QuietTactic
import Derived.BigQuiet
import Derived.Shelf.SlSortCmp.QuietGrown
import Derived.Test.YtghpljoccclmkaaCor
import Derived.Test.YtghpljoccclmkaaSrt
import Derived.Test.YtghpljoccclmkaaShq
import Derived.Test.YtghpljoccclmkaaPu3
namespace Go.Proofs.Ytghpljoccclmkaa
open Go.RowKit

def twoBlk (w : World) (x y : Int) : World := (w.alloc (.cells #[.int .i64 x, .int .i64 y] 52)).alloc (.cells #[.int .i64 0, .int .i64 0] 52)

theorem inW_of_inR {c : Cl} (h : inR 7 c) : inW c := by
  unfold inR at h
  unfold inW
  omega

/-- The cells turned, before they are put in order. -/
theorem inC_ofs {p q : Int} (h1 : -9223372036854775808 ≤ p ∧ p ≤ 9223372036854775807) (h2 : -9223372036854775808 ≤ q ∧ q ≤ 9223372036854775807) : InC (p, q) := by
  unfold InC
  exact ⟨by omega, by omega⟩
theorem map_apM_in (m : Nat) (l : List Cl) (h : ∀ c ∈ l, inP c = true) : ∀ c ∈ l.map (apM m), inR 7 c := by
  intro c hc
  obtain ⟨d, hd, rfl⟩ := List.mem_map.1 hc
  exact apM_in m (inR_of_inP (h d hd))

end Go.Proofs.Ytghpljoccclmkaa
