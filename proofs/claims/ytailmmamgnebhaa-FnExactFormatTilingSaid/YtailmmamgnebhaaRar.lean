/-
  A region that came in as an argument, out of its reading.
-/
import Derived.Test.YtailmmamgnebhaaRga
import Derived.Test.YtailmmamgnebhaaArg
import Derived.ChangeArms
import Derived.ChangeSlices
namespace Go.Proofs.Ytailmmamgnebhaa
open Go.RowKit Go.ChangeShapes Go.WideShapes

set_option maxRecDepth 100000 in
theorem open_ints_at {H : Type} {enc : TypeId × Value → H} {W : World} {fuel : Nat} {v : Value} {d : DataW H × List MemPlace}
    (h : DataW.trod enc Try.prog W 0 (fun _ => true) true fuel 22 [v] = some d) : ∃ a len cap zs, v = .slice a len cap ∧ len ≤ maxLen ∧ IntsAt W.heap.size W a len zs := by
  rcases open_ints Try.underlying22 Try.underlying3 (by kernel_rfl) h with ⟨hcs, _⟩ | ⟨x, len, cap, zs, hcs, _, hl, hm, hz, _, hcell, hwz⟩
  · simp only [List.cons.injEq, and_true] at hcs
    exact ⟨none, 0, 0, [], hcs, Nat.zero_le _, rfl, (fun c hc => absurd hc (List.not_mem_nil)), fun h => absurd h (Nat.lt_irrefl 0)⟩
  · simp only [List.cons.injEq, and_true] at hcs
    simp only [if_true] at hz
    refine ⟨some x, len, cap, zs.take len, hcs, Nat.le_trans hl hm, by rw [List.length_take, hz]; omega, fun z hz9 => wf_i64 (hwz z (List.mem_of_mem_take hz9)), fun hp => ?_⟩
    obtain ⟨b, off, spot⟩ := x
    have h0 := hcell 0 (by omega)
    have hspot : spot = none := by simpa [Addr.add] using World.cell?_spot h0
    subst hspot
    have hblk := World.block_lt_of_cell? W _ h0
    have ad : ∀ j, (⟨b, off, none⟩ : Addr).add j = ⟨b, off + j, none⟩ := fun j => by unfold Addr.add; split <;> simp_all
    refine ⟨b, off, rfl, by simpa [Addr.add] using hblk, fun k hk => ?_⟩
    have hc := hcell k (by omega)
    rw [ad] at hc
    rw [hc]
    congr 2
    simp [List.getD, hk]

set_option maxRecDepth 100000 in
theorem open_region {H : Type} {enc : TypeId × Value → H} {W : World} {base : Nat} {v : Value} {d : DataW H} {ps : List MemPlace}
    (hval : Value.okWide Try.prog W .any base 24 v) (h : DataW.Trod enc Try.prog W 0 (fun _ => true) true 24 v d ps) :
    ∃ x a len cap zs, v = .agg #[.int .i64 x, .slice a len cap] ∧ len ≤ maxLen ∧ In64 x ∧ IntsAt W.heap.size W a len zs := by
  obtain ⟨fuel, h⟩ := h
  obtain ⟨xs, n, rfl, _, hlen, hxl, hf⟩ := DataW.trod_struct Try.underlying24 h
  obtain ⟨cs, rfl, hsz⟩ := okWide_struct Try.underlying24 hval
  have c2 : Try.prog.cellsOf 24 = 2 := by kernel_rfl
  have c0 : Try.prog.cellsOf 3 = 1 := by kernel_rfl
  have c1 : Try.prog.cellsOf 22 = 1 := by kernel_rfl
  rw [c2] at hsz
  obtain ⟨l⟩ := cs
  match l, hsz with
  | [v0, v1], _ =>
    match xs, hxl with
    | [y0, y1], _ =>
      have g0 : DataW.trod enc Try.prog W 0 (fun _ => true) true n 3 ((List.drop 0 [v0, v1]).take (Try.prog.cellsOf 3)) = some y0 := hf 0 _ rfl
      have g1 : DataW.trod enc Try.prog W 0 (fun _ => true) true n 22 ((List.drop 1 [v0, v1]).take (Try.prog.cellsOf 22)) = some y1 := hf 1 _ rfl
      rw [c0] at g0
      rw [c1] at g1
      obtain ⟨p, hp, _, wp⟩ := DataW.trod_int Try.underlying3 g0
      obtain ⟨a, len, cap, zs, hv1, hm, hz⟩ := open_ints_at (v := v1) g1
      have hp0 : v0 = .int .i64 p := by simpa using hp
      subst hp0 hv1
      exact ⟨p, a, len, cap, zs, rfl, hm, wf_i64 wp, hz⟩

end Go.Proofs.Ytailmmamgnebhaa
