/-
  A slice of numbers that came in: its numbers in memory.
-/
import Derived.Test.YtailmmamgnebhaaRow
import Derived.Test.YtailmmamgnebhaaRga
import Derived.Test.YtailmmamgnebhaaArg
namespace Go.Proofs.Ytailmmamgnebhaa
open Go.RowKit

theorem ints_of_row {w : World} {a : Option Addr} {len cap : Nat} {zs : List Int} (h : IsRow .i64 w a len cap zs) : IntsAt w.heap.size w a len (zs.take len) ∧ len ≤ maxLen := by
  rcases h with ⟨rfl, rfl, rfl, rfl⟩ | ⟨x, rfl, h1, h2, h3, h4, h5⟩
  · exact ⟨⟨rfl, fun z hz => (by cases hz), fun h => absurd h (by omega)⟩, Nat.zero_le _⟩
  · refine ⟨⟨by rw [List.length_take]; omega, fun z hz => ?_, fun hp => ?_⟩, by omega⟩
    · exact wf_i64 (h5 z (List.mem_of_mem_take hz))
    · obtain ⟨b, off, spot⟩ := x
      have hc := h4 0 (by omega)
      have hspot : spot = none := by simpa [Addr.add] using World.cell?_spot hc
      subst hspot
      have hb : b < w.heap.size := World.block_lt_of_cell? w _ (by simpa [Addr.add] using hc)
      refine ⟨b, off, rfl, hb, fun k hk => ?_⟩
      rw [← Addr.add_lit, h4 k (by omega)]
      congr 2
      simp [List.getD, hk, show k < zs.length by omega]
end Go.Proofs.Ytailmmamgnebhaa
