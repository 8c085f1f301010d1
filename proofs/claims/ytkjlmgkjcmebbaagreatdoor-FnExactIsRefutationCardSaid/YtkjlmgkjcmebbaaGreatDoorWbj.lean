/-
  A slice of cells that came in as an argument, out of its reading.
  The laws' helpers that compare, mark and look at slices of shapes.
  The laws' helpers that size, copy and compare slices of shapes; such an argument out of its reading.
  A region that came in as an argument, out of its reading.
  The laws on masks and pieces that give a plain value: the walk of each law.
  The laws' helpers that write marks into slices of shapes and look whether they stand there.
  Marks written into slices of shapes: what lies elsewhere is as it was.
  A slice of numbers that came in: its numbers in memory.
-/
import Derived.Test.YtkjlmgkjcmebbaaGreatDoorWaa
import Derived.Deep.SlicePairs
import Derived.Test.YtkjlmgkjcmebbaaGreatDoorWam
import Derived.Test.YtkjlmgkjcmebbaaGreatDoorWac
import Derived.Test.YtkjlmgkjcmebbaaGreatDoorWal
import Derived.Test.YtkjlmgkjcmebbaaGreatDoorWah
import Derived.Test.YtkjlmgkjcmebbaaGreatDoorWad
import Derived.ChangeArms
import Derived.ChangeSlices
import Derived.Test.YtkjlmgkjcmebbaaGreatDoorWas
import Derived.Test.YtkjlmgkjcmebbaaGreatDoorWab
namespace Go.Proofs.YtkjlmgkjcmebbaaGreatDoor

section
open Go.RowKit Go.ChangeShapes Go.WideShapes

def valI : Value → Int
  | .int _ n => n
  | _ => 0

theorem wf_i64 {n : Int} (h : (Lit.int .i64 n).wf = true) : -9223372036854775808 ≤ n ∧ n ≤ 9223372036854775807 := by
  simp [Lit.wf] at h
  have e : IntKind.i64.min = -9223372036854775808 := by decide
  omega

theorem open_cells {H : Type} {enc : TypeId × Value → H} {W : World} {fuel : Nat} {a : Option Addr} {len cap : Nat} {d : DataW H × List MemPlace}
    (h : DataW.trod enc Tryz.prog W 0 (fun _ => true) true fuel 93 [.slice a len cap] = some d) : len ≤ maxLen ∧ ∃ zs, CellsAt W.heap.size W a len zs := by
  rcases Go.Deep.open_slice_pairs Tryz.underlying93 Tryz.underlying127 (by kernel_rfl) rfl rfl (by kernel_rfl) (by kernel_rfl) h with ⟨hcs, _⟩ | ⟨x, l, c, m, n, V0, V1, D0, D1, P0, P1, hcs, _, hl, hm, hmm, _, hall⟩
  · simp only [List.cons.injEq, Value.slice.injEq, and_true] at hcs
    obtain ⟨rfl, rfl, rfl⟩ := hcs
    exact ⟨Nat.zero_le _, [], rfl, (fun c hc => absurd hc (List.not_mem_nil)), fun h => absurd h (Nat.lt_irrefl 0)⟩
  · simp only [List.cons.injEq, Value.slice.injEq, and_true] at hcs
    obtain ⟨rfl, rfl, rfl⟩ := hcs
    simp only [if_true] at hmm
    subst hmm
    have each : ∀ i, i < len → ∃ p q : Int, V0 i = .int .i64 p ∧ V1 i = .int .i64 q ∧ InC (p, q) := fun i hi => by
      obtain ⟨_, _, h3, h4⟩ := hall i (by omega)
      obtain ⟨p, hp, _, wp⟩ := DataW.trod_int Tryz.underlying3 h3
      obtain ⟨q, hq, _, wq⟩ := DataW.trod_int Tryz.underlying3 h4
      simp only [List.cons.injEq, and_true] at hp hq
      have b1 := wf_i64 wp
      have b2 := wf_i64 wq
      exact ⟨p, q, hp, hq, b1.1, b1.2, b2.1, b2.2⟩
    refine ⟨Nat.le_trans hl hm, (List.range len).map fun i => (valI (V0 i), valI (V1 i)), by simp, ?_, ?_⟩
    · intro c hc
      obtain ⟨i, hi, rfl⟩ := List.mem_map.1 hc
      obtain ⟨p, q, e1, e2, hin⟩ := each i (List.mem_range.1 hi)
      rw [e1, e2]
      exact hin
    · intro hp
      obtain ⟨b, off, spot⟩ := x
      have hspot : spot = none := by simpa [Addr.add] using World.cell?_spot (hall 0 (by omega)).1
      subst hspot
      have hblk := World.block_lt_of_cell? W _ (hall 0 (by omega)).1
      refine ⟨b, off, rfl, by simpa [Addr.add] using hblk, fun k hk => ?_⟩
      obtain ⟨p, q, e1, e2, _⟩ := each k hk
      obtain ⟨c1, c2, _, _⟩ := hall k (by omega)
      have eg : ((List.range len).map fun i => (valI (V0 i), valI (V1 i))).getD k (0, 0) = (p, q) := by
        simp [hk, e1, e2, valI]
      rw [eg]
      rw [e1] at c1
      rw [e2] at c2
      have ad : ∀ j, (⟨b, off, none⟩ : Addr).add j = ⟨b, off + j, none⟩ := fun j => by unfold Addr.add; split <;> simp_all
      rw [ad] at c1 c2
      exact ⟨c1, by rw [Nat.add_assoc]; exact c2⟩
end

section
open Go.RowKit

/-- A value that reads as a list of shapes. -/
def SsRd (B : Nat) (w : World) (v : Value) (L : List (List Cl)) : Prop := ∃ a cap, v = .slice a L.length cap ∧ (0 < L.length → ∃ g vs, a = some ⟨g, 0, none⟩ ∧ SsAt B w g vs L)
theorem SsRd.on {B : Nat} {w w' : World} {v : Value} {L : List (List Cl)} (h : SsRd B w v L) (hb : Below B w w') : SsRd B w' v L := by
  obtain ⟨a, cap, e, h1⟩ := h
  exact ⟨a, cap, e, fun h0 => by obtain ⟨g, vs, e1, h2⟩ := h1 h0; exact ⟨g, vs, e1, h2.on hb⟩⟩
theorem SsRd.more {B B' : Nat} {w : World} {v : Value} {L : List (List Cl)} (h : SsRd B w v L) (hB : B ≤ B') : SsRd B' w v L := by
  obtain ⟨a, cap, e, h1⟩ := h
  exact ⟨a, cap, e, fun h0 => by obtain ⟨g, vs, e1, h2⟩ := h1 h0; exact ⟨g, vs, e1, h2.more hB⟩⟩
theorem SsRd.of_at {B g cap : Nat} {w : World} {vs : List Value} {L : List (List Cl)} (h : SsAt B w g vs L) : SsRd B w (.slice (some ⟨g, 0, none⟩) L.length cap) L := ⟨_, _, rfl, fun _ => ⟨g, vs, rfl, h⟩⟩
theorem SsRd.of_own {B : Nat} {w : World} {v : Value} {es : List Ent} (h : OwnS B w v es) (hs : SmallS es) : SsRd w.heap.size w v (es.map kE) := by
  rcases h.row.2 with ⟨rfl, h0⟩ | ⟨g, cap, cur, rfl, hb, hg, _⟩
  · have : es = [] := List.eq_nil_of_length_eq_zero h0
    subst this
    exact ⟨none, 0, rfl, fun h9 => absurd h9 (Nat.lt_irrefl 0)⟩
  · refine ⟨_, cap, by rw [List.length_map], fun _ => ⟨g, es.map ev, rfl, (Array.getElem?_eq_some_iff.1 hg).1, by simp, fun k hk => ?_, fun k v l hv hl => ?_⟩⟩
    · rw [List.length_map] at hk
      exact h.row.cellAt k (by omega)
    · rw [List.getElem?_map] at hv hl
      cases he : es[k]? with
      | none => rw [he] at hv; cases hv
      | some e =>
        rw [he] at hv hl
        cases hv
        cases hl
        have hm : e ∈ es := List.mem_of_getElem? he
        exact ⟨_, _, rfl, h.each.cells hs hm, (hs e hm).1⟩

set_option maxHeartbeats 1000000 in
set_option maxRecDepth 100000 in
theorem lEqSS (B : Nat) (v1 v2 : Value) (L : List (List Cl)) (w : World) (hn : L.length ≤ 4194304) (h1 : SsRd B w v1 L) (h2 : SsRd B w v2 L) (hB : B ≤ w.heap.size) :
    Calls Tryz.prog 45 #[v1, v2] w fun e w' => e = .returned (.bool true) ∧ Below w.heap.size w w' := by
  obtain ⟨a1, c1, rfl, hr1⟩ := h1
  obtain ⟨a2, c2, rfl, hr2⟩ := h2
  have H1 := Lib.hid hr1
  have H2 := Lib.hid hr2
  generalize hN : L.length = n at *
  have HN := Lib.hid hN
  have hne : (((n : Nat) : Int) != (n : Int)) = false := by simp
  clear hr1 hr2 hN
  go_enter Tryz.func45, Tryz.ntmps45
  go_wp2
  go_loopw [5] (fun i wr => ∃ k : Nat, k ≤ n ∧ i = .int .i64 k ∧ Below w.heap.size w wr) (fun i _ => n - (intOf i).toNat)
  case atStart => exact ⟨0, by omega, rfl, Below.refl _ _⟩
  case round =>
    obtain ⟨k, hk, rfl, hb⟩ := hrel
    have hsz := hb.size
    by_cases hlt : k < n
    · obtain ⟨g1, vs1, rfl, hs1⟩ := H1.out (by omega)
      obtain ⟨g2, vs2, rfl, hs2⟩ := H2.out (by omega)
      obtain ⟨b1, d1, p1, hc1, hm1⟩ := (hs1.on (hb.mono hB)).get (k := k) (by rw [HN.out]; exact hlt)
      obtain ⟨b2, d2, p2, hc2, _⟩ := (hs2.on (hb.mono hB)).get (k := k) (by rw [HN.out]; exact hlt)
      obtain ⟨x, hx⟩ : ∃ x, L.getD k [] = x := ⟨_, rfl⟩
      rw [hx] at p1 p2 hc1 hc2 hm1
      have hBr := Nat.le_trans hB hsz
      have hgl1 : g1 < wr.heap.size := Nat.lt_of_lt_of_le hs1.1 hBr
      have hgl2 : g2 < wr.heap.size := Nat.lt_of_lt_of_le hs2.1 hBr
      have HC1 := Lib.hid (hc1.more hBr)
      have HC2 := Lib.hid (hc2.more hBr)
      have HQ := Lib.hid (show eqb x x = true from by simp [eqb])
      have hk0 : (0 : Int) ≤ (k : Int) := by omega
      have hk1 : (k : Int) < (n : Int) := by omega
      have HCL := Lib.hid (fun w' (h9 : Below wr.heap.size wr w') => lEqCellS_any wr.heap.size x.length x.length d1 d2 b1 b2 x x w' hm1 (HC1.out.on h9) (HC2.out.on h9) h9.size)
      rw [HQ.out] at HCL
      have hb9 := Below.refl wr.heap.size wr
      clear hc1 hc2 hx hs1 hs2
      go_wp2_with fail
      go_region_held3 (fun w' => w'.cell? ⟨g1, k, none⟩ = some (.slice b1 x.length d1) ∧ w'.cell? ⟨g2, k, none⟩ = some (.slice b2 x.length d2))
        (first | go_keep | exact ⟨(hbw.cell (p := ⟨g1, k, none⟩) hgl1).trans p1, (hbw.cell (p := ⟨g2, k, none⟩) hgl2).trans p2⟩)
        (first | (go_at_call 84; refine (HCL.out _ (by first | exact hb9 | exact hb9.drew)).mono ?_; rintro e w1 ⟨rfl, hbe⟩; have hbw : Below wr.heap.size wr w1 := by first | exact hb9.trans hbe | exact hb9.drew.trans hbe))
      all_goals
        have HB := Lib.hid (hb.trans (hbw.mono hsz))
        clear p1 p2 HCL hb9 hbw hbe HC1 HC2 HQ hb
        (try simp only [Exit.then])
        go_wp2
        go_roundw
        case rel => first | exact ⟨k + 1, by omega, by go_num, HB.out⟩ | ((repeat apply Exists.intro); exact ⟨⟨k + 1, by omega, by go_num, HB.out⟩, rfl⟩)
        case measure => simp [intOf]; omega
    · obtain rfl : k = n := by omega
      go_wp2
      go_ret
      exact ⟨rfl, hb⟩

/-! ### Marks -/
def totE (es : List Ent) : Nat := (es.map fun e => e.2.2.length).sum
/-- Marks written into shapes, one after the other. -/
def mkE : Int → List Ent → List Ent
  | _, [] => []
  | k, e :: r => (e.1, e.2.1, marks k e.2.2.length) :: mkE (k + 2 * e.2.2.length) r
theorem totE_append (a b : List Ent) : totE (a ++ b) = totE a + totE b := by simp [totE]
theorem totE_take (es : List Ent) (k : Nat) (h : k < es.length) : totE (es.take (k + 1)) = totE (es.take k) + (es.getD k dE).2.2.length := by
  rw [takeG_snoc dE es k h, totE_append]
  simp [totE]
theorem totE_mono (es : List Ent) (k : Nat) : totE (es.take k) ≤ totE es := by
  conv => rhs; rw [← List.take_append_drop k es]
  rw [totE_append]
  omega
theorem mkE_length (es : List Ent) : ∀ k, (mkE k es).length = es.length := by
  induction es with
  | nil => intro k; rfl
  | cons e r ih => intro k; simp [mkE, ih]
theorem mkE_append (a b : List Ent) : ∀ k, mkE k (a ++ b) = mkE k a ++ mkE (k + 2 * totE a) b := by
  induction a with
  | nil => intro k; simp [mkE, totE]
  | cons e r ih =>
    intro k
    simp only [List.cons_append, mkE]
    rw [ih]
    simp only [totE, List.map_cons, List.sum_cons]
    congr 3
    omega
theorem mkE_ev (es : List Ent) : ∀ k, (mkE k es).map ev = es.map ev := by
  induction es with
  | nil => intro k; rfl
  | cons e r ih =>
    intro k
    simp only [mkE, List.map_cons, ih]
    congr 1
    unfold ev
    simp [marks_length]
theorem mkE_fst (es : List Ent) : ∀ k, (mkE k es).map Prod.fst = es.map Prod.fst := by
  induction es with
  | nil => intro k; rfl
  | cons e r ih => intro k; simp only [mkE, List.map_cons, ih]
theorem mkE_get (es : List Ent) (j : Nat) (h : j < es.length) (k : Int) : (mkE k es).getD j dE = ((es.getD j dE).1, (es.getD j dE).2.1, marks (k + 2 * totE (es.take j)) (es.getD j dE).2.2.length) := by
  have e1 : es = es.take j ++ (es.getD j dE :: es.drop (j + 1)) := by
    conv => lhs; rw [← List.take_append_drop j es]
    congr 1
    rw [List.drop_eq_getElem_cons h]
    simp [List.getD, h]
  have hl : (mkE k (es.take j)).length = j := by rw [mkE_length, List.length_take]; omega
  conv => lhs; rw [e1]
  rw [mkE_append]
  simp only [List.getD_eq_getElem?_getD]
  rw [List.getElem?_append_right (by omega), hl, Nat.sub_self]
  rfl
end

section
open Go.RowKit Go.ChangeShapes Go.WideShapes

theorem open_pieces {H : Type} {enc : TypeId × Value → H} {W : World} {fuel : Nat} {a : Option Addr} {len cap : Nat} {d : DataW H × List MemPlace}
    (h : DataW.trod enc Tryz.prog W 0 (fun _ => true) true fuel 48 [.slice a len cap] = some d) : len ≤ maxLen ∧ ∃ L, PsB maxLen W.heap.size W a len L := by
  rcases Go.Deep.open_slice1 Tryz.underlying48 (by kernel_rfl) h with ⟨hcs, _⟩ | ⟨x, l, c, m, n, V, D, Pl, hcs, _, hl, hm, hmm, _, hall⟩
  · simp only [List.cons.injEq, Value.slice.injEq, and_true] at hcs
    obtain ⟨rfl, rfl, rfl⟩ := hcs
    exact ⟨Nat.zero_le _, [], rfl, fun h => absurd h (Nat.lt_irrefl 0)⟩
  · simp only [List.cons.injEq, Value.slice.injEq, and_true] at hcs
    obtain ⟨rfl, rfl, rfl⟩ := hcs
    simp only [if_true] at hmm
    subst hmm
    have each : ∀ i, i < len → ∃ q : Option Addr × Nat × Nat × List Cl, V i = .slice q.1 q.2.1 q.2.2.1 ∧ q.2.1 ≤ maxLen ∧ CellsAt W.heap.size W q.1 q.2.1 q.2.2.2 := fun i hi => by
      obtain ⟨_, h2⟩ := hall i (by omega)
      have h3 : ∃ ai li ci, V i = .slice ai li ci := by
        rcases DataW.trod_slice Tryz.underlying93 h2 with ⟨e, _⟩ | ⟨ai, li, ci, _, _, _, _, e, _⟩
        · simp only [List.cons.injEq, and_true] at e; exact ⟨_, _, _, e⟩
        · simp only [List.cons.injEq, and_true] at e; exact ⟨_, _, _, e⟩
      obtain ⟨ai, li, ci, e⟩ := h3
      rw [e] at h2
      obtain ⟨h4, zs, h5⟩ := open_cells h2
      exact ⟨(ai, li, ci, zs), e, h4, h5⟩
    obtain ⟨y, hy⟩ := Go.Deep.choose_lt each
    refine ⟨Nat.le_trans hl hm, (List.range len).map fun i => (y i).2.2.2, by simp, fun hp => ?_⟩
    obtain ⟨b, off, spot⟩ := x
    have hspot : spot = none := by
      have h0 := (hall 0 (by omega)).1
      simpa [Addr.add] using World.cell?_spot h0
    subst hspot
    have hblk := World.block_lt_of_cell? W _ (hall 0 (by omega)).1
    refine ⟨b, off, rfl, by simpa [Addr.add] using hblk, fun k hk => ?_⟩
    obtain ⟨e1, e2, e3⟩ := hy k hk
    have eg : ((List.range len).map fun i => (y i).2.2.2).getD k [] = (y k).2.2.2 := by simp [hk]
    have c0 := (hall k (by omega)).1
    have ad : ∀ j, (⟨b, off, none⟩ : Addr).add j = ⟨b, off + j, none⟩ := fun j => by unfold Addr.add; split <;> simp_all
    rw [ad, e1] at c0
    rw [eg]
    have hlen : (y k).2.2.2.length = (y k).2.1 := e3.1
    rw [hlen]
    exact ⟨_, _, c0, e3, e2⟩

def totL (L : List (List Cl)) : Nat := (L.map List.length).sum
theorem totL_take (L : List (List Cl)) (k : Nat) (h : k < L.length) : totL (L.take (k + 1)) = totL (L.take k) + (L.getD k []).length := by
  have e : L.getD k [] = L[k] := by simp [List.getD, h]
  rw [List.take_succ_eq_append_getElem h, e]
  unfold totL
  rw [List.map_append, List.sum_append]
  simp only [List.map_cons, List.map_nil, List.sum_cons, List.sum_nil, Nat.add_zero]
theorem totL_mono (L : List (List Cl)) (k : Nat) : totL (L.take k) ≤ totL L := by
  conv => rhs; rw [← List.take_append_drop k L]
  unfold totL
  rw [List.map_append, List.sum_append]
  omega
theorem totL_get (L : List (List Cl)) (k : Nat) (h : k < L.length) : (L.getD k []).length ≤ totL L := by
  have h1 := totL_take L k h
  have h2 := totL_mono L (k + 1)
  omega
theorem totL_ent (es : List Ent) : totE es = totL (es.map kE) := by
  unfold totE totL
  rw [List.map_map]
  rfl

set_option maxHeartbeats 1000000 in
set_option maxRecDepth 100000 in
/-- How much is left behind a slice of shapes; below 0: too much. -/
theorem lSzPs (B n cap : Nat) (a : Option Addr) (L : List (List Cl)) (left : Int) (w : World) (h0 : 0 ≤ left) (h1 : left ≤ 1048576) (hn : n ≤ maxLen) (hc : PsB maxLen B w a n L) (hB : B ≤ w.heap.size) :
    Calls Tryz.prog 38 #[.slice a n cap, .int .i64 left] w fun e w' => ∃ r : Int, e = .returned (.int .i64 r) ∧ (0 ≤ r → r = left - n - totL L) ∧ r ≤ left ∧ w = w' := by
  have H := Lib.hid hc
  have hl := hc.1
  have hn2 : n ≤ 9223372036854775807 := by unfold maxLen at hn; omega
  clear hc hn
  by_cases hs : left < (n : Int)
  · go_enter Tryz.func38, Tryz.ntmps38
    go_wp2
    go_ret
    exact ⟨_, rfl, fun h => absurd h (by omega), by omega, rfl⟩
  · go_enter Tryz.func38, Tryz.ntmps38
    go_wp2
    go_loopw [1, 5] (fun q i wr => ∃ (k : Nat) (r : Int), k ≤ n ∧ i = .int .i64 k ∧ q = .int .i64 r ∧ 0 ≤ r ∧ r ≤ left ∧ Hid (r = left - n - totL (L.take k)) ∧ wr = w) (fun _ i _ => n - (intOf i).toNat)
    case atStart => exact ⟨0, left - n, by omega, rfl, rfl, by omega, by omega, by simp [Hid, totL], rfl⟩
    case round =>
      obtain ⟨k, r, hk, rfl, rfl, hr0, hr1, hr, rfl⟩ := hrel
      by_cases hlt : k < n
      · have hk1 : (k : Int) < (n : Int) := by omega
        have hk0 : (0 : Int) ≤ (k : Int) := by omega
        obtain ⟨b, off, rfl, hbB, hcell⟩ := H.out.2 (by omega)
        obtain ⟨ak, ck, p1, h2, h3⟩ := hcell k hlt
        have HS := Lib.hid (totL_take L k (by omega))
        unfold maxLen at h3
        obtain ⟨m, hm⟩ : ∃ m, (L.getD k []).length = m := ⟨_, rfl⟩
        rw [hm] at p1 HS h3
        clear hcell h2 hm
        by_cases hfit : (m : Int) ≤ r
        · have HR := Lib.hid (show r - m = left - n - totL (L.take (k + 1)) from by have := HS.out; have := hr.out; omega)
          clear hr HS
          go_wp2_with fail
          refine (lSz_fits ak m ck r _ (by omega) hfit).mono ?_
          rintro e w' ⟨rfl, rfl⟩
          go_wp2
          go_roundw
          case rel => exact ⟨k + 1, r - m, by omega, by go_num, rfl, by omega, by omega, HR.out, (by first | rfl | trivial)⟩
          case measure => simp [intOf]; omega
        · go_wp2_with fail
          refine (lSz_big ak m ck r _ (by omega) (by omega) (by omega)).mono ?_
          rintro e w' ⟨rfl, rfl⟩
          go_wp2
          go_ret
          exact ⟨_, rfl, fun h => absurd h (by omega), by omega, rfl⟩
      · obtain rfl : k = n := by omega
        have HT := Lib.hid (show r = left - k - totL L from by have := hr.out; rw [List.take_of_length_le (by omega)] at this; exact this)
        clear hr
        go_wp2
        go_ret
        exact ⟨_, rfl, fun _ => HT.out, by omega, rfl⟩

theorem shp_size : ∃ i, Tryz.prog.info? 95 = some i ∧ i.zero = some (.slice none 0 0) ∧ i.size = 1 ∧ i.bytes = 24 := by
  obtain ⟨i0, hi, hz0, hz1, hz2⟩ := info_parts (show (Tryz.prog.info? 95).map (fun i => (i.zero, i.size, i.bytes)) = some (some (.slice none 0 0), 1, 24) by kernel_rfl)
  exact ⟨i0, hi, hz0, hz1, hz2⟩
theorem made_ps (n : Nat) : (madeCells #[Value.slice none 0 0] (n * 1)).toList = List.replicate n (.slice none 0 0) := by
  apply List.ext_getElem?
  intro j
  by_cases hj : j < n
  · simp [madeCells, hj, Nat.mod_one]
  · rw [List.getElem?_eq_none (by simp [madeCells]; omega), List.getElem?_eq_none (by simp; omega)]
theorem ps_fill (es : List Ent) (e : Ent) (k n : Nat) (hl : es.length = k) (h : k < n) : (es.map ev ++ List.replicate (n - k) (Value.slice none 0 0)).set k (ev e) = (es ++ [e]).map ev ++ List.replicate (n - (k + 1)) (.slice none 0 0) := by
  have e1 : n - k = (n - (k + 1)) + 1 := by omega
  rw [e1, List.replicate_succ, List.set_append_right _ _ (by simp; omega), List.length_map, hl, Nat.sub_self, List.set_cons_zero, List.map_append, List.append_assoc]
  rfl

set_option maxHeartbeats 2000000 in
set_option maxRecDepth 100000 in
/-- The laws' copy of a slice of shapes: new slices that read alike. -/
theorem lToPs (B n cap : Nat) (a : Option Addr) (L : List (List Cl)) (w : World) (hn : n ≤ 1048576) (hc : PsAt B w a n L) (hB : B ≤ w.heap.size) :
    Calls Tryz.prog 41 #[.slice a n cap] w fun e w' => ∃ g es, e = .returned (.slice (some ⟨g, 0, none⟩) n n) ∧ es.map kE = L ∧ SmallS es ∧ OwnS w.heap.size w' (.slice (some ⟨g, 0, none⟩) n n) es ∧ Below w.heap.size w w' := by
  obtain ⟨i0, hi, hz0, hz1, hz2⟩ := shp_size
  have H := Lib.hid hc
  have hl := hc.1
  clear hc
  go_enter Tryz.func41, Tryz.ntmps41
  go_wp2_with (first | (at_make; refine wpList_make_full _ rfl _ _ 27 rfl w.heap.size 95 i0 (.slice none 0 0) 1 Tryz.underlying27 hi hz0 hz1 _ _ _ _ n rfl rfl rfl rfl ?b2 ?b3 (Nat.le_refl _) ?_) | go_in)
  case b2 => rw [hz2]; omega
  case b3 => unfold maxLen; omega
  intro w0 hown0 hgrow0
  have HB0 := Lib.hid ((Below.refl w.heap.size w).grown hgrow0 (Nat.le_refl _) (fun k h => by cases h))
  have hlt0 : w.heap.size < w0.heap.size := (hown0.lt w.heap.size rfl).2
  obtain ⟨G, hG⟩ : ∃ G, w.heap.size = G := ⟨_, rfl⟩
  have h9 := made_ps n
  simp only [Nat.mul_one] at h9
  rw [h9, hG] at hown0
  rw [hG] at hlt0 HB0 hB ⊢
  have HRW0 := Lib.hid hown0
  clear hown0 hgrow0 h9
  go_wp2
  go_loopw [4] (fun i wr => ∃ (k : Nat) (es : List Ent), k ≤ n ∧ i = .int .i64 k ∧ Hid (es.map kE = L.take k) ∧ Hid (SmallS es) ∧ Hid (wr.ownsRow G 95 1 (.slice (some ⟨G, 0, none⟩) n n) n (es.map ev ++ List.replicate (n - k) (.slice none 0 0))) ∧ Hid (EachS (G + 1) wr es) ∧ Hid (ApartS es) ∧ G < wr.heap.size ∧ Below G w wr) (fun i _ => n - (intOf i).toNat)
  case atStart => exact ⟨0, [], by omega, rfl, by exact rfl, fun e he => (by cases he), HRW0.out, fun e he => (by cases he), List.Pairwise.nil, hlt0, HB0.out⟩
  case round =>
    obtain ⟨k, es, hk, rfl, hm, hsml, hrow, hea, hap, hGl, hb⟩ := hrel
    have hsz := hb.size
    have hel : es.length = k := by have := congrArg List.length hm.out; rw [List.length_map, List.length_take] at this; omega
    clear HRW0 HB0
    by_cases hlt : k < n
    · have hk0 : (0 : Int) ≤ (k : Int) := by omega
      have hk1 : (k : Int) < (n : Int) := by omega
      obtain ⟨bb, off, rfl, hbB, hcell⟩ := H.out.2 (by omega)
      obtain ⟨ak, ck, h1, h2, h3⟩ := hcell k hlt
      have p1 := (hb.cell (p := ⟨bb, off + k, none⟩) (Nat.lt_of_lt_of_le hbB hB)).trans h1
      have HC := Lib.hid (h2.on (hb.mono hB))
      have HTK := Lib.hid (show L.take (k + 1) = L.take k ++ [L.getD k []] from by
        rw [List.take_succ_eq_append_getElem (by omega)]
        simp [List.getD, show k < L.length by omega])
      obtain ⟨q, hq⟩ : ∃ q, L.getD k [] = q := ⟨_, rfl⟩
      rw [hq] at p1 HC HTK h3
      clear hcell h1 h2 hq
      go_wp2_with fail
      refine (lToCellS_any B q.length ck ak q wr h3 HC.out (by omega)).mono ?_
      rintro e w2 ⟨rfl, hown2, hb2⟩
      obtain ⟨b, hbe⟩ : ∃ b, wr.heap.size = b := ⟨_, rfl⟩
      rw [hbe] at hown2 ⊢
      have hbl := hown2.lt b rfl
      have hGw2 : G < w2.heap.size := by omega
      have HE2 := Lib.hid (show EachS (G + 1) w2 (es ++ [(b, q.length, q)]) from fun e he => by
        rw [List.mem_append] at he
        rcases he with he | he
        · exact (hea.out.on hb2) e he
        · rw [List.mem_singleton] at he
          subst he
          exact own_below hown2 (by omega))
      have HA2 := Lib.hid (show ApartS (es ++ [(b, q.length, q)]) from by
        unfold ApartS
        rw [List.pairwise_append]
        refine ⟨hap.out, by simp, fun e he f hf => ?_⟩
        rw [List.mem_singleton] at hf
        subst hf
        have := (hea.out.lt he).2
        show e.1 ≠ b
        omega)
      have HS2 := Lib.hid (show SmallS (es ++ [(b, q.length, q)]) from fun e he => by
        rw [List.mem_append] at he
        rcases he with he | he
        · exact hsml.out e he
        · rw [List.mem_singleton] at he
          subst he
          exact ⟨by show q.length ≤ 4194304; omega, HC.out.2.1⟩)
      have HM2 := Lib.hid (show (es ++ [(b, q.length, q)]).map kE = L.take (k + 1) from by rw [List.map_append, hm.out, HTK.out]; rfl)
      have hr2 := hrow.out.kept (grow_below hb2 none) (.inr (by intro e; cases e))
      have hs := hr2.stored k (.slice (some ⟨b, 0, none⟩) q.length q.length)
      have hO := hs.1
      have hfill := ps_fill es (b, q.length, q) k n hel hlt
      rw [show (Value.slice (some ⟨b, 0, none⟩) q.length q.length) = ev (b, q.length, q) from rfl, hfill] at hO
      have HOO := Lib.hid hO
      have hc0 := hr2.cellAt k (by omega)
      have hlen : k < (es.map ev ++ List.replicate (n - k) (Value.slice none 0 0)).length := by simp; omega
      obtain ⟨u, hu⟩ : ∃ u, (es.map ev ++ List.replicate (n - k) (Value.slice none 0 0))[k]? = some u := ⟨_, List.getElem?_eq_getElem hlen⟩
      rw [hu] at hc0
      have hf0 := hr2.frozenAt k
      have hoff : OffS G (es ++ [(b, q.length, q)]) := fun e he => by have := (HE2.out.lt he).1; omega
      have HEE := Lib.hid (HE2.out.by hs.2 hoff)
      have HBB := Lib.hid ((hb.trans (hb2.mono (by omega))).setCell (p := ⟨G, k, none⟩) (by show G ≤ G; omega) (.slice (some ⟨b, 0, none⟩) q.length q.length))
      have hGn : G < (w2.setCell ⟨G, k, none⟩ (.slice (some ⟨b, 0, none⟩) q.length q.length)).heap.size := by simp [World.setCell]; exact hGw2
      clear hown2 hr2 hs hO hfill hu hlen hrow hea hap hm hsml hb hb2 hoff
      go_wp2
      go_roundw
      case rel => exact ⟨k + 1, _, by omega, by go_num, HM2.out, HS2.out, HOO.out, HEE.out, HA2.out, hGn, HBB.out⟩
      case measure => simp [intOf]; omega
    · obtain rfl : k = n := by omega
      have hrow8 : wr.ownsRow G 95 1 (.slice (some ⟨G, 0, none⟩) k k) k (es.map ev) := by have := hrow.out; simpa using this
      have hoff : OffS G es := fun e he => by have := (hea.out.lt he).1; omega
      have HOW := Lib.hid (show OwnS G wr (.slice (some ⟨G, 0, none⟩) k k) es from ⟨by rw [hel]; exact hrow8, hea.out.less (by omega), hap.out, fun e he h9 => by injection h9 with h9; exact hoff e he h9.symm⟩)
      have HM := Lib.hid (show es.map kE = L from by rw [hm.out, List.take_of_length_le (by omega)])
      clear hrow8 hoff hrow hea hap hm
      go_wp2
      go_ret
      exact ⟨G, es, rfl, HM.out, hsml.out, by rw [hG]; exact HOW.out, by rw [hG]; exact hb⟩
end

section
open Go.RowKit Go.ChangeShapes Go.WideShapes

set_option maxRecDepth 100000 in
theorem open_ints_at {H : Type} {enc : TypeId × Value → H} {W : World} {fuel : Nat} {v : Value} {d : DataW H × List MemPlace}
    (h : DataW.trod enc Tryz.prog W 0 (fun _ => true) true fuel 24 [v] = some d) : ∃ a len cap zs, v = .slice a len cap ∧ len ≤ maxLen ∧ IntsAt W.heap.size W a len zs := by
  rcases open_ints Tryz.underlying24 Tryz.underlying3 (by kernel_rfl) h with ⟨hcs, _⟩ | ⟨x, len, cap, zs, hcs, _, hl, hm, hz, _, hcell, hwz⟩
  · simp only [List.cons.injEq, and_true] at hcs
    exact ⟨none, 0, 0, [], hcs, Nat.zero_le _, rfl, (fun c hc => absurd hc (List.not_mem_nil)), fun h => absurd h (Nat.lt_irrefl 0)⟩
  · simp only [List.cons.injEq, and_true] at hcs
    simp only [if_true] at hz
    refine ⟨some x, len, cap, zs.take len, hcs, Nat.le_trans hl hm, by rw [List.length_take, hz]; omega, fun z hz9 => wf_i64 (hwz z (List.mem_of_mem_take hz9)), fun hp => ?_⟩
    obtain ⟨b, off, spot⟩ := x
    have h0 := hcell 0 (by omega)
    have hspot : spot = none := by simpa [Addr.add] using World.cell?_spot h0
    subst hspot
    have hblk := World.block_lt_of_cell? W _ h0
    have ad : ∀ j, (⟨b, off, none⟩ : Addr).add j = ⟨b, off + j, none⟩ := fun j => by unfold Addr.add; split <;> simp_all
    refine ⟨b, off, rfl, by simpa [Addr.add] using hblk, fun k hk => ?_⟩
    have hc := hcell k (by omega)
    rw [ad] at hc
    rw [hc]
    congr 2
    simp [List.getD, hk]

set_option maxRecDepth 100000 in
theorem open_region {H : Type} {enc : TypeId × Value → H} {W : World} {base : Nat} {v : Value} {d : DataW H} {ps : List MemPlace}
    (hval : Value.okWide Tryz.prog W .any base 47 v) (h : DataW.Trod enc Tryz.prog W 0 (fun _ => true) true 47 v d ps) :
    ∃ x a len cap zs, v = .agg #[.int .i64 x, .slice a len cap] ∧ len ≤ maxLen ∧ In64 x ∧ IntsAt W.heap.size W a len zs := by
  obtain ⟨fuel, h⟩ := h
  obtain ⟨xs, n, rfl, _, hlen, hxl, hf⟩ := DataW.trod_struct Tryz.underlying47 h
  obtain ⟨cs, rfl, hsz⟩ := okWide_struct Tryz.underlying47 hval
  have c2 : Tryz.prog.cellsOf 47 = 2 := by kernel_rfl
  have c0 : Tryz.prog.cellsOf 3 = 1 := by kernel_rfl
  have c1 : Tryz.prog.cellsOf 24 = 1 := by kernel_rfl
  rw [c2] at hsz
  obtain ⟨l⟩ := cs
  match l, hsz with
  | [v0, v1], _ =>
    match xs, hxl with
    | [y0, y1], _ =>
      have g0 : DataW.trod enc Tryz.prog W 0 (fun _ => true) true n 3 ((List.drop 0 [v0, v1]).take (Tryz.prog.cellsOf 3)) = some y0 := hf 0 _ rfl
      have g1 : DataW.trod enc Tryz.prog W 0 (fun _ => true) true n 24 ((List.drop 1 [v0, v1]).take (Tryz.prog.cellsOf 24)) = some y1 := hf 1 _ rfl
      rw [c0] at g0
      rw [c1] at g1
      obtain ⟨p, hp, _, wp⟩ := DataW.trod_int Tryz.underlying3 g0
      obtain ⟨a, len, cap, zs, hv1, hm, hz⟩ := open_ints_at (v := v1) g1
      have hp0 : v0 = .int .i64 p := by simpa using hp
      subst hp0 hv1
      exact ⟨p, a, len, cap, zs, rfl, hm, wf_i64 wp, hz⟩
end

section
open Go.RowKit

theorem ownS_up {B : Nat} {w : World} {g n cap : Nat} {es : List Ent} (h : OwnS B w (.slice (some ⟨g, 0, none⟩) n cap) es) : (B ≤ g ∧ g < w.heap.size) ∧ ∀ e ∈ es, B ≤ e.1 ∧ e.1 < w.heap.size :=
  ⟨h.row.lt g rfl, fun _e he => h.each.lt he⟩
theorem ps_at {B m2 g cap : Nat} {w : World} {es : List Ent} {ps : List (List Cl)} (h : OwnS B w (.slice (some ⟨g, 0, none⟩) m2 cap) es) (hs : SmallS es) (hk : es.map kE = ps) (hl : es.length = m2) (ht : totL ps ≤ 1048576) : PsAt w.heap.size w (some ⟨g, 0, none⟩) m2 ps := by
  obtain ⟨a, c, e, hp⟩ := PsB.of_own (M := 1048576) h hs (fun e he => by
    have h1 : kE e ∈ ps := by rw [← hk]; exact List.mem_map_of_mem he
    obtain ⟨k, hk2, e2⟩ := List.getElem_of_mem h1
    have h2 := totL_get ps k hk2
    have e3 : ps.getD k [] = ps[k] := by simp [List.getD, hk2]
    rw [e3, e2] at h2
    exact Nat.le_trans h2 ht)
  injection e with e1 e2 e3
  subst e1
  rw [hl, hk] at hp
  exact hp
end

section
open Go.RowKit

theorem apart_iff (es : List Ent) : ApartS es ↔ (es.map Prod.fst).Pairwise (· ≠ ·) := by unfold ApartS; rw [List.pairwise_map]
theorem mkE_take (es : List Ent) (j : Nat) (h : j < es.length) (k : Int) : mkE k (es.take (j + 1)) = mkE k (es.take j) ++ [((es.getD j dE).1, (es.getD j dE).2.1, marks (k + 2 * totE (es.take j)) (es.getD j dE).2.2.length)] := by
  rw [takeG_snoc dE es j h, mkE_append]
  rfl
theorem drop_cons (es : List Ent) (j : Nat) (h : j < es.length) : es.drop j = es.getD j dE :: es.drop (j + 1) := by
  rw [List.drop_eq_getElem_cons h]
  simp [List.getD, h]
theorem mix_apart {es : List Ent} (h : ApartS es) (k : Int) (j : Nat) : ApartS (mkE k (es.take j) ++ es.drop j) := by
  rw [apart_iff] at *
  rwa [List.map_append, mkE_fst, ← List.map_append, List.take_append_drop]
theorem EachS.marked {B b c : Nat} {A D : List Ent} {x m : List Cl} {w w' : World} (h : EachS B w (A ++ ((b, c, x) :: D))) (ha : ApartS (A ++ ((b, c, x) :: D))) (hg : w.grownBy w' (some b)) (ho : w'.ownsRow B 86 2 (.slice (some ⟨b, 0, none⟩) m.length c) m.length (cvs m)) : EachS B w' (A ++ [(b, c, m)] ++ D) := by
  unfold ApartS at ha
  rw [List.pairwise_append, List.pairwise_cons] at ha
  intro e he
  rw [List.mem_append, List.mem_append, List.mem_singleton] at he
  rcases he with (he | rfl) | he
  · exact (h e (by simp [he])).kept hg (.inr (by rw [ev_block]; intro e2; injection e2 with e2; exact ha.2.2 e he _ (List.mem_cons_self ..) e2))
  · exact ho
  · exact (h e (by simp [he])).kept hg (.inr (by rw [ev_block]; intro e2; injection e2 with e2; exact ha.2.1.1 e he e2.symm))

set_option maxHeartbeats 1000000 in
set_option maxRecDepth 100000 in
theorem lMarkSS (B : Nat) (v : Value) (es : List Ent) (k0 : Int) (w : World) (hn : es.length ≤ 4194304) (h0 : 0 ≤ k0) (h1 : k0 + 2 * totE es ≤ 4194304) (hs : SmallS es) (h : OwnS B w v es) (hB : B ≤ w.heap.size) :
    Calls Tryz.prog 47 #[v, .int .i64 k0] w fun e w' => e = .returned (.int .i64 (k0 + 2 * totE es)) ∧ OwnS B w' v (mkE k0 es) ∧ Below B w w' := by
  cases hes : es with
  | nil =>
    subst hes
    have HO := Lib.hid h
    have hv : ∃ av cv, v = .slice av 0 cv := by
      rcases h.row.2 with ⟨rfl, _⟩ | ⟨g, cv, cur, rfl, _⟩
      · exact ⟨_, _, rfl⟩
      · exact ⟨_, _, rfl⟩
    obtain ⟨av, cv, rfl⟩ := hv
    clear h hs
    go_enter Tryz.func47, Tryz.ntmps47
    go_wp2
    go_loopw [5, 1] (fun i q wr => i = .int .i64 0 ∧ q = .int .i64 k0 ∧ wr = w) (fun i _ _ => 0 - (intOf i).toNat)
    case atStart => exact ⟨rfl, rfl, rfl⟩
    case round =>
      obtain ⟨rfl, rfl, rfl⟩ := hrel
      go_wp2
      go_ret
      exact ⟨by simp [totE], HO.out, Below.refl _ _⟩
  | cons e0 r0 =>
    rw [← hes]
    have hpos : 0 < es.length := by rw [hes]; simp
    clear hes
    obtain ⟨g, cv, rfl⟩ : ∃ g cap, v = .slice (some ⟨g, 0, none⟩) es.length cap := by
      rcases h.row.2 with ⟨_, h9⟩ | ⟨g, cap, cur, rfl, _⟩
      · omega
      · exact ⟨g, cap, rfl⟩
    have hoff : OffS g es := fun e he h2 => h.off e he (by rw [h2]; rfl)
    have HROW := Lib.hid h.row
    have HEA := Lib.hid h.each
    have HAP := Lib.hid h.apart
    have HOFF := Lib.hid hoff
    have HOO := Lib.hid h.off
    have HS := Lib.hid hs
    have hgl := h.row.lt g rfl
    generalize hN : es.length = n at *
    have HN := Lib.hid hN
    clear h hs hoff hN
    go_enter Tryz.func47, Tryz.ntmps47
    go_wp2
    go_loopw [5, 1] (fun i q wr => ∃ j : Nat, j ≤ n ∧ i = .int .i64 j ∧ q = .int .i64 (k0 + 2 * totE (es.take j)) ∧ Hid (EachS B wr (mkE k0 (es.take j) ++ es.drop j)) ∧ Hid (wr.ownsRow B 95 1 (.slice (some ⟨g, 0, none⟩) n cv) n (es.map ev)) ∧ Below B w wr) (fun i _ _ => n - (intOf i).toNat)
    case atStart => exact ⟨0, by omega, rfl, by simp [totE], HEA.out, HROW.out, Below.refl _ _⟩
    case round =>
      obtain ⟨j, hj, rfl, rfl, hea, hrow, hb⟩ := hrel
      have hsz := hb.size
      have htm := totE_mono es j
      by_cases hlt : j < n
      · have hje : j < es.length := by rw [HN.out]; exact hlt
        have hk0 : (0 : Int) ≤ (j : Int) := by omega
        have hk1 : (j : Int) < (n : Int) := by omega
        have htt := totE_take es j hje
        have htm2 := totE_mono es (j + 1)
        have hmk := mkE_take es j hje k0
        have hdr := drop_cons es j hje
        have hmem := ent_mem hje
        have hap := mix_apart HAP.out k0 j
        rw [hdr] at hap
        have hea2 := hea.out
        rw [hdr] at hea2
        have p1 := hrow.out.cellAt j (by omega)
        rw [evs_get hje] at p1
        generalize es.getD j dE = ej at *
        obtain ⟨b, c, x⟩ := ej
        dsimp only at htt hmk
        change _ = some (Value.slice (some ⟨b, 0, none⟩) x.length c) at p1
        have hown := hea2 (b, c, x) (by simp)
        change wr.ownsRow B _ 2 (.slice (some ⟨b, 0, none⟩) x.length c) x.length (cvs x) at hown
        have hxl : x.length ≤ 4194304 := (HS.out _ hmem).1
        have HTT := Lib.hid htt
        have HMK := Lib.hid hmk
        have hne : b ≠ g := HOFF.out _ hmem
        have hbB := (hown.lt b rfl).1
        have HAP2 := Lib.hid hap
        have HEA2 := Lib.hid hea2
        generalize hq : totE (es.take j) = q at *
        have HQ := Lib.hid hq
        have hcall := lMark_at B b x.length c (k0 + 2 * q) x wr hxl (by omega) (by omega) rfl hown
        have hmem9 : 0 < 1 := by omega
        clear hea hea2 hap hown htt hmk hdr hq hmem
        go_wp2_with fail
        refine hcall.mono ?_
        rintro e w2 ⟨rfl, hown2, hg2⟩
        have HE2 := Lib.hid (show EachS B w2 (mkE k0 (es.take (j + 1)) ++ es.drop (j + 1)) from by
          rw [HMK.out]
          exact EachS.marked HEA2.out HAP2.out hg2 (by rw [marks_length]; exact hown2))
        have HR2 := Lib.hid (hrow.out.kept hg2 (.inr (by intro e9; injection e9 with e9; exact hne e9.symm)))
        have HB2 := Lib.hid (hb.grown hg2 (by omega) (fun i hi => by cases hi; exact hbB))
        have hqq : k0 + 2 * (q : Int) + 2 * (x.length : Int) = k0 + 2 * (totE (es.take (j + 1)) : Int) := by rw [HTT.out]; omega
        rw [hqq]
        clear hown2 hg2 hrow hb hqq hcall HMK HTT HAP2 HEA2 HQ
        go_wp2
        go_roundw
        case rel => exact ⟨j + 1, by omega, by go_num, rfl, HE2.out, HR2.out, HB2.out⟩
        case measure => simp [intOf]; omega
      · obtain rfl : j = n := by omega
        have e1 : es.take j = es := List.take_of_length_le (by rw [HN.out]; exact Nat.le_refl _)
        have e2 : es.drop j = [] := List.drop_eq_nil_of_le (by rw [HN.out]; exact Nat.le_refl _)
        rw [e1, e2, List.append_nil] at hea
        rw [e1]
        have hap := mix_apart HAP.out k0 j
        rw [e1, e2, List.append_nil] at hap
        have HR := Lib.hid (show OwnS B wr (.slice (some ⟨g, 0, none⟩) j cv) (mkE k0 es) from ⟨by rw [mkE_length, HN.out, mkE_ev]; exact hrow.out, hea.out, hap, fun e he => by
          have h8 : e.1 ∈ (mkE k0 es).map Prod.fst := List.mem_map_of_mem he
          rw [mkE_fst] at h8
          obtain ⟨f, hf, e9⟩ := List.mem_map.1 h8
          rw [← e9]
          exact HOO.out f hf⟩)
        clear hea hap hrow e1 e2
        go_wp2
        go_ret
        exact ⟨rfl, HR.out, hb⟩

theorem mkE_keys (es : List Ent) (k : Int) (j : Nat) (h : j < es.length) : ((mkE k es).map kE).getD j [] = marks (k + 2 * totE (es.take j)) (es.getD j dE).2.2.length := by
  have e := mkE_get es j h k
  have hl : j < (mkE k es).length := by rw [mkE_length]; exact h
  have e2 : ((mkE k es).map kE).getD j [] = kE ((mkE k es).getD j dE) := by simp [List.getD, hl]
  rw [e2, e]
  rfl
end

section
open Go.RowKit

/-- All is as it was, but for the blocks of some shapes. -/
structure KeptBut (es : List Ent) (w w' : World) : Prop where
  os : w'.os = w.os
  tape : w'.tape = w.tape
  output : w'.output = w.output
  size : w.heap.size ≤ w'.heap.size
  block : ∀ k, k < w.heap.size → OffS k es → w'.heap[k]? = w.heap[k]?
theorem KeptBut.refl (es : List Ent) (w : World) : KeptBut es w w := ⟨rfl, rfl, rfl, Nat.le_refl _, fun _ _ _ => rfl⟩
theorem KeptBut.step {es : List Ent} {w w1 w2 : World} {b c : Nat} {x : List Cl} (h : KeptBut es w w1) (hg : w1.grownBy w2 (some b)) (hm : (b, c, x) ∈ es) : KeptBut es w w2 :=
  ⟨hg.os.trans h.os, hg.tape.trans h.tape, hg.output.trans h.output, Nat.le_trans h.size hg.size, fun k hk ho => (hg.block k (Nat.lt_of_lt_of_le hk h.size) (fun e => ho _ hm (Option.some.inj e).symm)).trans (h.block k hk ho)⟩
theorem RgAt.kp {w w' : World} {g : Nat} {W : Int} {v : Value} {es : List Ent} (h : RgAt w g W v) (hk : KeptBut es w w') (ho : OffS g es) : RgAt w' g W v := (hk.block g h.lt ho).trans h
theorem LgAt.kp {w w' : World} {g : Nat} {W : Int} {v : Value} {es : List Ent} (h : LgAt w g W v) (hk : KeptBut es w w') (ho : OffS g es) : LgAt w' g W v := (hk.block g h.lt ho).trans h
theorem own_kp {es : List Ent} {w w' : World} {B n size : Nat} {t : TypeId} {v : Value} {xs : List Value} (hk : KeptBut es w w') (h : w.ownsRow B t size v n xs) (ho : ∀ k, v.ownBlock = some k → OffS k es) : w'.ownsRow B t size v n xs := by
  refine ⟨h.1, ?_⟩
  rcases h.2 with ⟨e, h0⟩ | ⟨g, cap, cur, rfl, hb, hg, h1, h2, h3, h4⟩
  · exact .inl ⟨e, h0⟩
  · exact .inr ⟨g, cap, cur, rfl, hb, (hk.block g (Array.getElem?_eq_some_iff.1 hg).1 (ho g rfl)).trans hg, h1, h2, h3, h4⟩
theorem off_up {B U g k : Nat} {es : List Ent} (h : (B ≤ g ∧ g < U) ∧ ∀ e ∈ es, B ≤ e.1 ∧ e.1 < U) (hk : k < B ∨ U ≤ k) : OffS k es := fun e he h9 => by
  have := h.2 e he
  omega
theorem OwnS.byLow {B : Nat} {w w' : World} {r : Option Nat} {v : Value} {es : List Ent} (h : OwnS B w v es) (hg : w.grownBy w' r) (hne : ∀ k, r = some k → k < B) : OwnS B w' v es := by
  refine ⟨h.row.kept hg ?_, fun e he => (h.each e he).kept hg (.inr ?_), h.apart, h.off⟩
  · cases hv : v.ownBlock with
    | none => exact .inl rfl
    | some k =>
      refine .inr ?_
      intro e9
      have h1 := (h.row.lt k hv).1
      have h2 := hne k e9.symm
      omega
  · intro e9
    have h1 := (h.each.lt he).1
    have h2 := hne e.1 e9.symm
    omega

set_option maxHeartbeats 1000000 in
set_option maxRecDepth 100000 in
theorem lMarkSS2 (B : Nat) (v : Value) (es : List Ent) (k0 : Int) (w : World) (hn : es.length ≤ 4194304) (h0 : 0 ≤ k0) (h1 : k0 + 2 * totE es ≤ 4194304) (hs : SmallS es) (h : OwnS B w v es) (hB : B ≤ w.heap.size) :
    Calls Tryz.prog 47 #[v, .int .i64 k0] w fun e w' => e = .returned (.int .i64 (k0 + 2 * totE es)) ∧ Below B w w' ∧ KeptBut es w w' := by
  cases hes : es with
  | nil =>
    subst hes
    have hv : ∃ av cv, v = .slice av 0 cv := by
      rcases h.row.2 with ⟨rfl, _⟩ | ⟨g, cv, cur, rfl, _⟩
      · exact ⟨_, _, rfl⟩
      · exact ⟨_, _, rfl⟩
    obtain ⟨av, cv, rfl⟩ := hv
    clear h hs
    go_enter Tryz.func47, Tryz.ntmps47
    go_wp2
    go_loopw [5, 1] (fun i q wr => i = .int .i64 0 ∧ q = .int .i64 k0 ∧ wr = w) (fun i _ _ => 0 - (intOf i).toNat)
    case atStart => exact ⟨rfl, rfl, rfl⟩
    case round =>
      obtain ⟨rfl, rfl, rfl⟩ := hrel
      go_wp2
      go_ret
      exact ⟨by simp [totE], Below.refl _ _, KeptBut.refl _ _⟩
  | cons e0 r0 =>
    rw [← hes]
    have hpos : 0 < es.length := by rw [hes]; simp
    clear hes
    obtain ⟨g, cv, rfl⟩ : ∃ g cap, v = .slice (some ⟨g, 0, none⟩) es.length cap := by
      rcases h.row.2 with ⟨_, h9⟩ | ⟨g, cap, cur, rfl, _⟩
      · omega
      · exact ⟨g, cap, rfl⟩
    have hoff : OffS g es := fun e he h2 => h.off e he (by rw [h2]; rfl)
    have HROW := Lib.hid h.row
    have HEA := Lib.hid h.each
    have HAP := Lib.hid h.apart
    have HOFF := Lib.hid hoff
    have HS := Lib.hid hs
    have hgl := h.row.lt g rfl
    generalize hN : es.length = n at *
    have HN := Lib.hid hN
    clear h hs hoff hN
    go_enter Tryz.func47, Tryz.ntmps47
    go_wp2
    go_loopw [5, 1] (fun i q wr => ∃ j : Nat, j ≤ n ∧ i = .int .i64 j ∧ q = .int .i64 (k0 + 2 * totE (es.take j)) ∧ Hid (EachS B wr (mkE k0 (es.take j) ++ es.drop j)) ∧ Hid (wr.ownsRow B 95 1 (.slice (some ⟨g, 0, none⟩) n cv) n (es.map ev)) ∧ Below B w wr ∧ KeptBut es w wr) (fun i _ _ => n - (intOf i).toNat)
    case atStart => exact ⟨0, by omega, rfl, by simp [totE], HEA.out, HROW.out, Below.refl _ _, KeptBut.refl _ _⟩
    case round =>
      obtain ⟨j, hj, rfl, rfl, hea, hrow, hb, hkb⟩ := hrel
      have hsz := hb.size
      have htm := totE_mono es j
      by_cases hlt : j < n
      · have hje : j < es.length := by rw [HN.out]; exact hlt
        have hk0 : (0 : Int) ≤ (j : Int) := by omega
        have hk1 : (j : Int) < (n : Int) := by omega
        have htt := totE_take es j hje
        have htm2 := totE_mono es (j + 1)
        have hmk := mkE_take es j hje k0
        have hdr := drop_cons es j hje
        have hmem := ent_mem hje
        have hap := mix_apart HAP.out k0 j
        rw [hdr] at hap
        have hea2 := hea.out
        rw [hdr] at hea2
        have p1 := hrow.out.cellAt j (by omega)
        rw [evs_get hje] at p1
        generalize es.getD j dE = ej at *
        obtain ⟨b, c, x⟩ := ej
        dsimp only at htt hmk
        change _ = some (Value.slice (some ⟨b, 0, none⟩) x.length c) at p1
        have hown := hea2 (b, c, x) (by simp)
        change wr.ownsRow B _ 2 (.slice (some ⟨b, 0, none⟩) x.length c) x.length (cvs x) at hown
        have hxl : x.length ≤ 4194304 := (HS.out _ hmem).1
        have HTT := Lib.hid htt
        have HMK := Lib.hid hmk
        have hne : b ≠ g := HOFF.out _ hmem
        have hbB := (hown.lt b rfl).1
        have HAP2 := Lib.hid hap
        have HEA2 := Lib.hid hea2
        generalize hq : totE (es.take j) = q at *
        have HQ := Lib.hid hq
        have hcall := lMark_at B b x.length c (k0 + 2 * q) x wr hxl (by omega) (by omega) rfl hown
        have HMEM := Lib.hid hmem
        clear hea hea2 hap hown htt hmk hdr hq hmem
        go_wp2_with fail
        refine hcall.mono ?_
        rintro e w2 ⟨rfl, hown2, hg2⟩
        have HE2 := Lib.hid (show EachS B w2 (mkE k0 (es.take (j + 1)) ++ es.drop (j + 1)) from by
          rw [HMK.out]
          exact EachS.marked HEA2.out HAP2.out hg2 (by rw [marks_length]; exact hown2))
        have HR2 := Lib.hid (hrow.out.kept hg2 (.inr (by intro e9; injection e9 with e9; exact hne e9.symm)))
        have HB2 := Lib.hid (hb.grown hg2 (by omega) (fun i hi => by cases hi; exact hbB))
        have HK2 := Lib.hid (hkb.step hg2 HMEM.out)
        have hqq : k0 + 2 * (q : Int) + 2 * (x.length : Int) = k0 + 2 * (totE (es.take (j + 1)) : Int) := by rw [HTT.out]; omega
        rw [hqq]
        clear hown2 hg2 hrow hb hkb hqq hcall HMK HTT HAP2 HEA2 HQ
        go_wp2
        go_roundw
        case rel => exact ⟨j + 1, by omega, by go_num, rfl, HE2.out, HR2.out, HB2.out, HK2.out⟩
        case measure => simp [intOf]; omega
      · obtain rfl : j = n := by omega
        have e1 : es.take j = es := List.take_of_length_le (by rw [HN.out]; exact Nat.le_refl _)
        have e2 : es.drop j = [] := List.drop_eq_nil_of_le (by rw [HN.out]; exact Nat.le_refl _)
        rw [e1]
        clear hea hrow e1 e2
        go_wp2
        go_ret
        exact ⟨rfl, hb, hkb⟩
end

section
open Go.RowKit

theorem ints_of_row {w : World} {a : Option Addr} {len cap : Nat} {zs : List Int} (h : IsRow .i64 w a len cap zs) : IntsAt w.heap.size w a len (zs.take len) ∧ len ≤ maxLen := by
  rcases h with ⟨rfl, rfl, rfl, rfl⟩ | ⟨x, rfl, h1, h2, h3, h4, h5⟩
  · exact ⟨⟨rfl, fun z hz => (by cases hz), fun h => absurd h (by omega)⟩, Nat.zero_le _⟩
  · refine ⟨⟨by rw [List.length_take]; omega, fun z hz => ?_, fun hp => ?_⟩, by omega⟩
    · exact wf_i64 (h5 z (List.mem_of_mem_take hz))
    · obtain ⟨b, off, spot⟩ := x
      have hc := h4 0 (by omega)
      have hspot : spot = none := by simpa [Addr.add] using World.cell?_spot hc
      subst hspot
      have hb : b < w.heap.size := World.block_lt_of_cell? w _ (by simpa [Addr.add] using hc)
      refine ⟨b, off, rfl, hb, fun k hk => ?_⟩
      rw [← Addr.add_lit, h4 k (by omega)]
      congr 2
      simp [List.getD, hk, show k < zs.length by omega]
end

end Go.Proofs.YtkjlmgkjcmebbaaGreatDoor
