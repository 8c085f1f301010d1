/-
  What the law on tilings draws besides: the number of a tiling, a list of masks: what each call gives.
-/
import Derived.Test.YtkjlmgkjcmebbaaGreatDoorWbe
namespace Go.Proofs.YtkjlmgkjcmebbaaGreatDoor
open Go.RowKit

theorem lit6 (k : Nat) (hk : k < 6) : ∃ x : Int, (In64 x ∧ (x = -1 ∨ 0 ≤ x) ∧ x ≤ 200) ∧ ∀ h : k < ([.int .i64 0, .int .i64 1, .int .i64 2, .int .i64 3, .int .i64 (-1), .int .i64 200] : List Value).length, ([.int .i64 0, .int .i64 1, .int .i64 2, .int .i64 3, .int .i64 (-1), .int .i64 200] : List Value)[k]'h = .int .i64 x := by
  have : k = 0 ∨ k = 1 ∨ k = 2 ∨ k = 3 ∨ k = 4 ∨ k = 5 := by omega
  unfold In64
  rcases this with rfl | rfl | rfl | rfl | rfl | rfl
  · exact ⟨0, by omega, fun _ => rfl⟩
  · exact ⟨1, by omega, fun _ => rfl⟩
  · exact ⟨2, by omega, fun _ => rfl⟩
  · exact ⟨3, by omega, fun _ => rfl⟩
  · exact ⟨-1, by omega, fun _ => rfl⟩
  · exact ⟨200, by omega, fun _ => rfl⟩
/-- A drawn region, drawn pieces, a drawn number. -/
def GivesRPx (w : World) (e : Ending) (w' : World) : Prop := ∃ (W : Int) (M gg cap : Nat) (l : List Int) (gr cp : Nat) (us : List Value) (ps : List (List Cl)) (x : Int), e = .returned (.tuple #[.agg #[.int .i64 W, .slice (some ⟨gg, 0, none⟩) M cap], .slice (some ⟨gr, 0, none⟩) ps.length cp, .int .i64 x]) ∧ M ≤ 8 ∧ (∀ z ∈ l, In64 z) ∧ w'.ownsRow w.heap.size 3 1 (.slice (some ⟨gg, 0, none⟩) M cap) M (iv l) ∧ w'.ownsRow w.heap.size 95 1 (.slice (some ⟨gr, 0, none⟩) ps.length cp) ps.length us ∧ (∀ j, j < ps.length → PcAt w.heap.size gr w' (us.getD j undef) (ps.getD j [])) ∧ ps.length ≤ 3 ∧ (In64 x ∧ (x = -1 ∨ 0 ≤ x) ∧ x ≤ 200) ∧ Below w.heap.size w w'
/-- What was drawn, in a world at hand. -/
structure RPAt (base : Nat) (w : World) (gg M cap : Nat) (l : List Int) (gr cp : Nat) (us : List Value) (ps : List (List Cl)) : Prop where
  row : w.ownsRow base 3 1 (.slice (some ⟨gg, 0, none⟩) M cap) M (iv l)
  prow : w.ownsRow base 95 1 (.slice (some ⟨gr, 0, none⟩) ps.length cp) ps.length us
  pcs : ∀ j, j < ps.length → PcAt base gr w (us.getD j undef) (ps.getD j [])
section
variable {base gg M cap gr cp : Nat} {w w' : World} {l : List Int} {us : List Value} {ps : List (List Cl)}
theorem RPAt.grow (h : RPAt base w gg M cap l gr cp us ps) (hg : w.grownBy w' none) : RPAt base w' gg M cap l gr cp us ps := ⟨h.row.kept hg (.inr (fun e => by cases e)), h.prow.kept hg (.inr (fun e => by cases e)), fun j hj => (h.pcs j hj).kept0 hg⟩
theorem RPAt.alloc (h : RPAt base w gg M cap l gr cp us ps) (o : Obj) : RPAt base (w.alloc o) gg M cap l gr cp us ps := h.grow (World.grownBy_alloc w o none)
theorem RPAt.on (h : RPAt base w gg M cap l gr cp us ps) (hb : Below w.heap.size w w') : RPAt base w' gg M cap l gr cp us ps := h.grow (grow_below hb none)
theorem RPAt.put (h : RPAt base w gg M cap l gr cp us ps) (b o : Nat) (v : Value) (hb : b < base) : RPAt base (w.setCell ⟨b, o, none⟩ v) gg M cap l gr cp us ps := ⟨own_off (b := b) (o := o) (u := v) h.row hb, own_off (b := b) (o := o) (u := v) h.prow hb, fun j hj => (h.pcs j hj).kept (grownBy_put w b o v) hb⟩
theorem RPAt.drew (h : RPAt base w gg M cap l gr cp us ps) : RPAt base w.drew gg M cap l gr cp us ps := h.grow ⟨rfl, rfl, rfl, Nat.le_refl _, fun _ _ _ => rfl⟩
theorem RPAt.less {base' : Nat} (h : RPAt base w gg M cap l gr cp us ps) (hb : base' ≤ base) : RPAt base' w gg M cap l gr cp us ps := ⟨own_below h.row hb, own_below h.prow hb, fun j hj => (h.pcs j hj).less hb⟩
theorem RPAt.psAt (h : RPAt base w gg M cap l gr cp us ps) : PsAt w.heap.size w (some ⟨gr, 0, none⟩) ps.length ps := psAt_of h.prow h.pcs
end

set_option maxHeartbeats 4000000 in
set_option maxRecDepth 100000 in
theorem dTilN8 (a : Option Addr) (len cap : Nat) (w : World) (hc : Code w.heap.size w a len cap) (hl : len ≤ 1048576) :
    Calls Tryz.prog 13 #[.slice a len cap] w (GivesRPx w) := by
  obtain ⟨rb, hrb⟩ : ∃ rb, w.heap.size = rb := ⟨_, rfl⟩
  have hres := RgAt.new (w := w) 0 (.slice none 0 0) hrb
  have hb0 := (Below.refl w.heap.size w).alloc (Nat.le_refl _) (.cells #[.int .i64 0, .slice none 0 0] 26)
  have hsz : (w.alloc (.cells #[.int .i64 0, .slice none 0 0] 26)).heap.size = rb + 1 := by simp [hrb]
  have HC := Lib.hid (hc.on hb0)
  clear hc
  obtain ⟨k, hk⟩ : ∃ k, len % 6 = k := ⟨_, rfl⟩
  have hk6 : k < 6 := by omega
  have hrem : (len : Int) % 6 = (k : Int) := by omega
  have hrem2 : Int.tmod (len : Int) 6 = (k : Int) := by rw [Int.tmod_eq_emod_of_nonneg (by omega)]; exact hrem
  clear hk
  go_enter Tryz.func13, Tryz.ntmps13
  go_wp2_with fail
  generalize (w.alloc (.cells #[.int .i64 0, .slice none 0 0] 26)) = W0 at *
  have HB := Lib.hid hb0
  clear hb0
  refine (dBoth8 a len cap W0 ((HC.out).more (by omega)) hl).mono ?_
  rintro e w1 ⟨W, M, gg, cp, l, gr, cp2, us, ps, rfl, hM, hin, hown, hprow, hpcs, hps3, hb1⟩
  have HRP := Lib.hid (RPAt.mk hown hprow hpcs)
  have hr1 := hres.on hb1 (by omega)
  have HB1 := Lib.hid (HB.out.trans (hb1.mono (by omega)))
  have hs1 := hb1.size
  have HIN := Lib.hid hin
  have ht1 := hown.lt gg rfl
  clear hres HC HB hin
  obtain ⟨vb, hvb⟩ : ∃ vb, w1.heap.size = vb := ⟨_, rfl⟩
  have HV3 := Lib.hid (RgAt.new (w := w1) W (.slice (some ⟨gg, 0, none⟩) M cp) hvb)
  have HR3 := Lib.hid (hr1.alloc (.cells #[.int .i64 W, .slice (some ⟨gg, 0, none⟩) M cp] 26))
  have HB3 := Lib.hid (HB1.out.alloc (by omega) (.cells #[.int .i64 W, .slice (some ⟨gg, 0, none⟩) M cp] 26))
  have HRP3 := Lib.hid (HRP.out.alloc (.cells #[.int .i64 W, .slice (some ⟨gg, 0, none⟩) M cp] 26))
  have hs3 : (w1.alloc (.cells #[.int .i64 W, .slice (some ⟨gg, 0, none⟩) M cp] 26)).heap.size = vb + 1 := by simp [hvb]
  clear hr1 HB1 hown hprow hpcs hb1 HRP
  go_wp2_with fail
  generalize (w1.alloc (.cells #[.int .i64 W, .slice (some ⟨gg, 0, none⟩) M cp] 26)) = w3 at *
  obtain ⟨x, hx, hlit⟩ := lit6 k hk6
  have HLX := Lib.hid hx
  have HLL := Lib.hid hlit
  clear hx hlit
  have p0 := HR3.out.c0
  have p1 := HR3.out.c1
  have p2 := HR3.out.f 0
  have p3 := HR3.out.f 1
  have HVA := Lib.hid (HV3.out.alloc (.cells #[.int .i64 0, .int .i64 1, .int .i64 2, .int .i64 3, .int .i64 (-1), .int .i64 200] 3))
  have HRA := Lib.hid (HR3.out.alloc (.cells #[.int .i64 0, .int .i64 1, .int .i64 2, .int .i64 3, .int .i64 (-1), .int .i64 200] 3))
  have HBA := Lib.hid (HB3.out.alloc (by omega) (.cells #[.int .i64 0, .int .i64 1, .int .i64 2, .int .i64 3, .int .i64 (-1), .int .i64 200] 3))
  have hsA : (w3.alloc (.cells #[.int .i64 0, .int .i64 1, .int .i64 2, .int .i64 3, .int .i64 (-1), .int .i64 200] 3)).heap.size = w3.heap.size + 1 := by simp
  have hrb1 : rb < W0.heap.size := by omega
  have c0 := HV3.out.c0
  have c1 := HV3.out.c1
  have n0 := HVA.out.c0
  have n1 := HVA.out.c1
  have q0 := HRA.out.c0
  have q1 := HRA.out.c1
  have q2 := HRA.out.f 0
  have q3 := HRA.out.f 1
  have hk0 : (0 : Int) ≤ (k : Int) := by omega
  have hk7 : (k : Int) < 6 := by omega
  go_region_law (fail)
  all_goals
    have hll := HLL.out
    simp only [hll]
    clear hll c0 c1 n0 n1 q0 q1 q2 q3 p0 p1 p2 p3
    (try simp only [Exit.then])
    go_wp2
    first
    | (have R9 := HRA.out.set2 W (.slice (some ⟨gg, 0, none⟩) M cp)
       have HRP9 := Lib.hid (((((HRP3.out.alloc (.cells #[.int .i64 0, .int .i64 1, .int .i64 2, .int .i64 3, .int .i64 (-1), .int .i64 200] 3)).put rb 0 (.int .i64 W) hrb1).put rb 1 (.slice (some ⟨gg, 0, none⟩) M cp) hrb1).drew).less (show w.heap.size ≤ W0.heap.size by omega))
       have HB9 := Lib.hid ((HBA.out.setCell (p := ⟨rb, 0, none⟩) (by show w.heap.size ≤ rb; omega) (.int .i64 W)).setCell (p := ⟨rb, 1, none⟩) (by show w.heap.size ≤ rb; omega) (.slice (some ⟨gg, 0, none⟩) M cp))
       generalize (((w3.alloc (.cells #[.int .i64 0, .int .i64 1, .int .i64 2, .int .i64 3, .int .i64 (-1), .int .i64 200] 3)).setCell ⟨rb, 0, none⟩ (.int .i64 W)).setCell ⟨rb, 1, none⟩ (.slice (some ⟨gg, 0, none⟩) M cp)) = w9 at *
       have R8 : RgAt w9.drew rb W (.slice (some ⟨gg, 0, none⟩) M cp) := R9
       have e0 := R8.c0
       have e1 := R8.c1
       exact bodyPost_ret (v := .tuple #[.agg #[.int .i64 W, .slice (some ⟨gg, 0, none⟩) M cp], .slice (some ⟨gr, 0, none⟩) ps.length cp2, .int .i64 x]) (by simp [results, Tryz.results13, go_sem, e0, e1]) rfl ⟨W, M, gg, cp, l, gr, cp2, us, ps, x, rfl, hM, HIN.out, HRP9.out.row, HRP9.out.prow, HRP9.out.pcs, hps3, HLX.out, HB9.out.drew⟩)
    | (have R9 := (HR3.out.set2 W (.slice (some ⟨gg, 0, none⟩) M cp)).alloc (.cells #[.int .i64 0, .int .i64 1, .int .i64 2, .int .i64 3, .int .i64 (-1), .int .i64 200] 3)
       have HRP9 := Lib.hid (((((HRP3.out.put rb 0 (.int .i64 W) hrb1).put rb 1 (.slice (some ⟨gg, 0, none⟩) M cp) hrb1).alloc (.cells #[.int .i64 0, .int .i64 1, .int .i64 2, .int .i64 3, .int .i64 (-1), .int .i64 200] 3)).drew).less (show w.heap.size ≤ W0.heap.size by omega))
       have HB9 := Lib.hid (((HB3.out.setCell (p := ⟨rb, 0, none⟩) (by show w.heap.size ≤ rb; omega) (.int .i64 W)).setCell (p := ⟨rb, 1, none⟩) (by show w.heap.size ≤ rb; omega) (.slice (some ⟨gg, 0, none⟩) M cp)).alloc (by rw [World.size_setCell, World.size_setCell]; omega) (.cells #[.int .i64 0, .int .i64 1, .int .i64 2, .int .i64 3, .int .i64 (-1), .int .i64 200] 3))
       generalize (((w3.setCell ⟨rb, 0, none⟩ (.int .i64 W)).setCell ⟨rb, 1, none⟩ (.slice (some ⟨gg, 0, none⟩) M cp)).alloc (.cells #[.int .i64 0, .int .i64 1, .int .i64 2, .int .i64 3, .int .i64 (-1), .int .i64 200] 3)) = w9 at *
       have R8 : RgAt w9.drew rb W (.slice (some ⟨gg, 0, none⟩) M cp) := R9
       have e0 := R8.c0
       have e1 := R8.c1
       exact bodyPost_ret (v := .tuple #[.agg #[.int .i64 W, .slice (some ⟨gg, 0, none⟩) M cp], .slice (some ⟨gr, 0, none⟩) ps.length cp2, .int .i64 x]) (by simp [results, Tryz.results13, go_sem, e0, e1]) rfl ⟨W, M, gg, cp, l, gr, cp2, us, ps, x, rfl, hM, HIN.out, HRP9.out.row, HRP9.out.prow, HRP9.out.pcs, hps3, HLX.out, HB9.out.drew⟩)
end Go.Proofs.YtkjlmgkjcmebbaaGreatDoor
