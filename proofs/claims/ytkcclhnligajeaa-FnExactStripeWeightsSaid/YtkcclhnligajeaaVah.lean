/-
  Numbers modulo a prime, one row and two rows of numbers, in the program: what each call gives.
  Appending to slices of shapes and of numbers that the call owns: the laws at an operation, the new block a letter.
  Are these weights; a number for each placement that has a place; stripes: in the program: what each call gives.
-/
import Derived.Test.YtkcclhnligajeaaMtx
import Derived.Test.YtkcclhnligajeaaVaf
import Derived.Test.YtkcclhnligajeaaVab
import Derived.Test.YtkcclhnligajeaaVag
namespace Go.Proofs.Ytkcclhnligajeaa

section
open Go.RowKit

def powI (p x : Int) : Nat → Int
  | 0 => 1
  | k + 1 => powI p x k * x % p
theorem powI_bd {p x : Int} (hp : 1 < p) : ∀ k, 0 ≤ powI p x k ∧ powI p x k < p
  | 0 => by show 0 ≤ (1 : Int) ∧ (1 : Int) < p; omega
  | k + 1 => ⟨Int.emod_nonneg _ (by omega), Int.emod_lt_of_pos _ (by omega)⟩
theorem powI_inv {p x : Int} (hp : PrmI p) (hx : 0 < x ∧ x < p) : powI p x (p - 2).toNat = invM p x := by
  rcases hp with rfl | rfl | rfl
  · obtain rfl : x = 1 := by omega
    decide
  · have h : x = 1 ∨ x = 2 := by omega
    rcases h with rfl | rfl <;> decide
  · have h : x = 1 ∨ x = 2 ∨ x = 3 ∨ x = 4 := by omega
    rcases h with rfl | rfl | rfl | rfl <;> decide
theorem grown_dr {w w' : World} {r : Option Nat} (h : w.grownBy w' r) : w.grownBy w'.drew r := ⟨h.os, h.tape, h.output, h.size, h.block⟩
theorem mul_bd {x y : Int} (hx : 0 ≤ x ∧ x ≤ 5) (hy : 0 ≤ y ∧ y ≤ 5) : 0 ≤ x * y ∧ x * y ≤ 25 := by
  have h1 := Int.mul_nonneg hx.1 hy.1
  have h2 : x * y ≤ 5 * y := Int.mul_le_mul_of_nonneg_right hx.2 hy.1
  omega
end

section
open Go.RowKit

/-- Where values begin in memory at ad, cell for cell. -/
def LiesV (w : World) (ad : Addr) (l : List Value) : Prop := ∀ j u, l[j]? = some u → w.cell? (ad.add j) = some u
theorem liesV_block {w : World} {b : Nat} {l : List Value} {t : TypeId} {fr : Nat × Nat} (h : w.heap[b]? = some (.cells l.toArray t fr)) : LiesV w ⟨b, 0, none⟩ l := World.news_of_block (cs := l.toArray) h


theorem ints_info : (Try.prog.info? 3).map (fun i => (i.zero, i.size, i.bytes)) = some (some (.int .i64 0), 1, 8) := by kernel_rfl
theorem ints_size : ∃ i, Try.prog.info? 3 = some i ∧ i.zero = some (.int .i64 0) ∧ i.size = 1 ∧ i.bytes = 8 := by
  obtain ⟨i0, hi, hz0, hz1, hz2⟩ := info_parts ints_info
  exact ⟨i0, hi, hz0, hz1, hz2⟩
theorem append_ints (base g n cap : Nat) (xs : List Value) (ad : Addr) (m c : Nat) (ys : List Value) (w : World)
    (hown : w.ownsRow base 3 1 (.slice (some ⟨g, 0, none⟩) n cap) n xs) (hl : ys.length = m) (hnews : LiesV w ad ys) (hone : ∀ u ∈ ys, u.oneCell' = true) (h63 : n + m ≤ 8388608) (hbase : base ≤ w.heap.size) (ty : TypeId) (H : Nat) (hH : w.heap.size = H) :
    ∃ g' cap' w', (Builtin.append_ #[23, 23] ty #[.slice (some ⟨g, 0, none⟩) n cap, .slice (some ad) m c]).run Try.prog w = .ok (.slice (some ⟨g', 0, none⟩) (n + m) cap') w' ∧
      w'.ownsRow base 3 1 (.slice (some ⟨g', 0, none⟩) (n + m) cap') (n + m) (xs ++ ys) ∧ w.grownBy w' (some g) ∧ (g' = g ∨ g' = H) ∧ base ≤ g' ∧ g' < w'.heap.size := by
  obtain ⟨i, hi, hz, hs, hby⟩ := ints_size
  obtain ⟨v', w', hr, h2, h3, h4, h5⟩ := run_append_own_at (P := Try.prog) w base 23 ty 3 i _ 1 8 Try.underlying23 hi hz hs hby rfl (by omega) _ n xs hown ad m c ys (by omega) hnews hone (by unfold maxLen; omega) (by omega) hbase
  rcases h2.2 with ⟨rfl, _⟩ | ⟨g', cap', cur, rfl, hb, hg, _⟩
  · exact absurd (h4.1 rfl).1 (by intro e; cases e)
  · refine ⟨g', cap', w', hr, h2, h3, ?_, hb, (Array.getElem?_eq_some_iff.1 hg).1⟩
    rcases h5 with h5 | h5
    · exact .inl (by simpa [Value.ownBlock] using h5)
    · exact .inr (by rw [← hH]; simpa [Value.ownBlock] using h5)
theorem wp_ints {o : Oper} {a : Act} {w : World} {K : Act → World → Prop} {Q : Exit → Act → World → Prop} (s x : Operand)
    (ho : o.op = .call { callee := .builtin .append, args := #[s, x], argTypes := #[23, 23] })
    (base g n cap : Nat) (xs : List Value) (ad : Addr) (m c : Nat) (ys : List Value) (hs : a.eval s = .slice (some ⟨g, 0, none⟩) n cap) (hx : a.eval x = .slice (some ad) m c)
    (hown : w.ownsRow base 3 1 (.slice (some ⟨g, 0, none⟩) n cap) n xs) (hl : ys.length = m) (hnews : LiesV w ad ys) (hone : ∀ u ∈ ys, u.oneCell' = true) (h63 : n + m ≤ 8388608) (hbase : base ≤ w.heap.size) (H : Nat) (hH : w.heap.size = H)
    (h : ∀ g' cap' w', w'.ownsRow base 3 1 (.slice (some ⟨g', 0, none⟩) (n + m) cap') (n + m) (xs ++ ys) → w.grownBy w' (some g) → (g' = g ∨ g' = H) → base ≤ g' → g' < w'.heap.size → K (a.put o.dst (.slice (some ⟨g', 0, none⟩) (n + m) cap')) w') : o.wp Try.prog a w K Q := by
  obtain ⟨g', cap', w', hr, h2, h3, h4, h5, h6⟩ := append_ints base g n cap xs ad m c ys w hown hl hnews hone h63 hbase o.type H hH
  unfold Oper.wp execOp
  simp only [ho, resolve, invoke, builtin, Sem.run_bind, Sem.run_pure, Result.andThen_ok, List.map_toArray, List.map_cons, List.map_nil, hs, hx, hr]
  exact h g' cap' w' h2 h3 h4 h5 h6
theorem wpList_ints {ops : Array Oper} {rest : List Oper} {o : Oper} {a : Act} {w : World} {Q : Exit → Act → World → Prop} (hgd : o.guard = none) (s x : Operand)
    (ho : o.op = .call { callee := .builtin .append, args := #[s, x], argTypes := #[23, 23] })
    (base g n cap : Nat) (xs : List Value) (ad : Addr) (m c : Nat) (ys : List Value) (hs : a.eval s = .slice (some ⟨g, 0, none⟩) n cap) (hx : a.eval x = .slice (some ad) m c)
    (hown : w.ownsRow base 3 1 (.slice (some ⟨g, 0, none⟩) n cap) n xs) (hl : ys.length = m) (hnews : LiesV w ad ys) (hone : ∀ u ∈ ys, u.oneCell' = true) (h63 : n + m ≤ 8388608) (hbase : base ≤ w.heap.size) (H : Nat) (hH : w.heap.size = H)
    (h : ∀ g' cap' w', w'.ownsRow base 3 1 (.slice (some ⟨g', 0, none⟩) (n + m) cap') (n + m) (xs ++ ys) → w.grownBy w' (some g) → (g' = g ∨ g' = H) → base ≤ g' → g' < w'.heap.size → wpList Try.prog ops Q rest (a.put o.dst (.slice (some ⟨g', 0, none⟩) (n + m) cap')) w') : wpList Try.prog ops Q (o :: rest) a w :=
  wpList_plain hgd fun _ hK => wp_ints s x ho base g n cap xs ad m c ys hs hx hown hl hnews hone h63 hbase H hH fun g' cap' w' h2 h3 h4 h5 h6 => hK _ _ (h g' cap' w' h2 h3 h4 h5 h6)
theorem step_ints {ops : Array Oper} {o : Oper} {a : Act} {w : World} {K : Act → World → Prop} {Q : Exit → Act → World → Prop} {E : Prop} (hgd : o.guard = none) (s x : Operand)
    (ho : o.op = .call { callee := .builtin .append, args := #[s, x], argTypes := #[23, 23] })
    (base g n cap : Nat) (xs : List Value) (ad : Addr) (m c : Nat) (ys : List Value) (hs : a.eval s = .slice (some ⟨g, 0, none⟩) n cap) (hx : a.eval x = .slice (some ad) m c)
    (hown : w.ownsRow base 3 1 (.slice (some ⟨g, 0, none⟩) n cap) n xs) (hl : ys.length = m) (hnews : LiesV w ad ys) (hone : ∀ u ∈ ys, u.oneCell' = true) (h63 : n + m ≤ 8388608) (hbase : base ≤ w.heap.size) (H : Nat) (hH : w.heap.size = H)
    (h : ∀ g' cap' w', w'.ownsRow base 3 1 (.slice (some ⟨g', 0, none⟩) (n + m) cap') (n + m) (xs ++ ys) → w.grownBy w' (some g) → (g' = g ∨ g' = H) → base ≤ g' → g' < w'.heap.size → K (a.put o.dst (.slice (some ⟨g', 0, none⟩) (n + m) cap')) w') :
    if Region.wanted o (yielded ops a.tmps) = true then Oper.wp Try.prog o a w K Q else E := by
  have hw : Region.wanted o (yielded ops a.tmps) = true := by simp [Region.wanted, hgd]
  rw [if_pos hw]
  exact wp_ints s x ho base g n cap xs ad m c ys hs hx hown hl hnews hone h63 hbase H hH h
end

section
open Go.RowKit
end

end Go.Proofs.Ytkcclhnligajeaa
