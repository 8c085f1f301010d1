/-
  A slice of cells that came in as an argument, out of its reading.
-/
import Derived.Test.YtghpljoccclmkaaGreatCel
import Derived.Deep.SlicePairs
namespace Go.Proofs.YtghpljoccclmkaaGreat
open Go.RowKit Go.ChangeShapes Go.WideShapes

def valI : Value → Int
  | .int _ n => n
  | _ => 0

theorem wf_i64 {n : Int} (h : (Lit.int .i64 n).wf = true) : -9223372036854775808 ≤ n ∧ n ≤ 9223372036854775807 := by
  simp [Lit.wf] at h
  have e : IntKind.i64.min = -9223372036854775808 := by decide
  omega

theorem open_cells {H : Type} {enc : TypeId × Value → H} {W : World} {fuel : Nat} {a : Option Addr} {len cap : Nat} {d : DataW H × List MemPlace}
    (h : DataW.trod enc Tryz.prog W 0 (fun _ => true) true fuel 25 [.slice a len cap] = some d) : len ≤ maxLen ∧ ∃ zs, CellsAt W.heap.size W a len zs := by
  rcases Go.Deep.open_slice_pairs Tryz.underlying25 Tryz.underlying59 (by kernel_rfl) rfl rfl (by kernel_rfl) (by kernel_rfl) h with ⟨hcs, _⟩ | ⟨x, l, c, m, n, V0, V1, D0, D1, P0, P1, hcs, _, hl, hm, hmm, _, hall⟩
  · simp only [List.cons.injEq, Value.slice.injEq, and_true] at hcs
    obtain ⟨rfl, rfl, rfl⟩ := hcs
    exact ⟨Nat.zero_le _, [], rfl, (fun c hc => absurd hc (List.not_mem_nil)), fun h => absurd h (Nat.lt_irrefl 0)⟩
  · simp only [List.cons.injEq, Value.slice.injEq, and_true] at hcs
    obtain ⟨rfl, rfl, rfl⟩ := hcs
    simp only [if_true] at hmm
    subst hmm
    have each : ∀ i, i < len → ∃ p q : Int, V0 i = .int .i64 p ∧ V1 i = .int .i64 q ∧ InC (p, q) := fun i hi => by
      obtain ⟨_, _, h3, h4⟩ := hall i (by omega)
      obtain ⟨p, hp, _, wp⟩ := DataW.trod_int Tryz.underlying3 h3
      obtain ⟨q, hq, _, wq⟩ := DataW.trod_int Tryz.underlying3 h4
      simp only [List.cons.injEq, and_true] at hp hq
      have b1 := wf_i64 wp
      have b2 := wf_i64 wq
      exact ⟨p, q, hp, hq, b1.1, b1.2, b2.1, b2.2⟩
    refine ⟨Nat.le_trans hl hm, (List.range len).map fun i => (valI (V0 i), valI (V1 i)), by simp, ?_, ?_⟩
    · intro c hc
      obtain ⟨i, hi, rfl⟩ := List.mem_map.1 hc
      obtain ⟨p, q, e1, e2, hin⟩ := each i (List.mem_range.1 hi)
      rw [e1, e2]
      exact hin
    · intro hp
      obtain ⟨b, off, spot⟩ := x
      have hspot : spot = none := by simpa [Addr.add] using World.cell?_spot (hall 0 (by omega)).1
      subst hspot
      have hblk := World.block_lt_of_cell? W _ (hall 0 (by omega)).1
      refine ⟨b, off, rfl, by simpa [Addr.add] using hblk, fun k hk => ?_⟩
      obtain ⟨p, q, e1, e2, _⟩ := each k hk
      obtain ⟨c1, c2, _, _⟩ := hall k (by omega)
      have eg : ((List.range len).map fun i => (valI (V0 i), valI (V1 i))).getD k (0, 0) = (p, q) := by
        simp [hk, e1, e2, valI]
      rw [eg]
      rw [e1] at c1
      rw [e2] at c2
      have ad : ∀ j, (⟨b, off, none⟩ : Addr).add j = ⟨b, off + j, none⟩ := fun j => by unfold Addr.add; split <;> simp_all
      rw [ad] at c1 c2
      exact ⟨c1, by rw [Nat.add_assoc]; exact c2⟩

end Go.Proofs.YtghpljoccclmkaaGreat
