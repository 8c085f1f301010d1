/-
  The laws on masks and pieces that give a plain value: the walk of each law.
-/
import Derived.Test.YtghpljoccclmkaaGreatSm3
import Derived.Test.YtghpljoccclmkaaGreatLps
import Derived.Test.YtghpljoccclmkaaGreatRar
namespace Go.Proofs.YtghpljoccclmkaaGreat
open Go.RowKit

theorem ownS_up {B : Nat} {w : World} {g n cap : Nat} {es : List Ent} (h : OwnS B w (.slice (some ⟨g, 0, none⟩) n cap) es) : (B ≤ g ∧ g < w.heap.size) ∧ ∀ e ∈ es, B ≤ e.1 ∧ e.1 < w.heap.size :=
  ⟨h.row.lt g rfl, fun e he => h.each.lt he⟩
theorem ps_at {B m2 g cap : Nat} {w : World} {es : List Ent} {ps : List (List Cl)} (h : OwnS B w (.slice (some ⟨g, 0, none⟩) m2 cap) es) (hs : SmallS es) (hk : es.map kE = ps) (hl : es.length = m2) (ht : totL ps ≤ 1048576) : PsAt w.heap.size w (some ⟨g, 0, none⟩) m2 ps := by
  obtain ⟨a, c, e, hp⟩ := PsB.of_own (M := 1048576) h hs (fun e he => by
    have h1 : kE e ∈ ps := by rw [← hk]; exact List.mem_map_of_mem he
    obtain ⟨k, hk2, e2⟩ := List.getElem_of_mem h1
    have h2 := totL_get ps k hk2
    have e3 : ps.getD k [] = ps[k] := by simp [List.getD, hk2]
    rw [e3, e2] at h2
    exact Nat.le_trans h2 ht)
  injection e with e1 e2 e3
  subst e1
  rw [hl, hk] at hp
  exact hp




end Go.Proofs.YtghpljoccclmkaaGreat
