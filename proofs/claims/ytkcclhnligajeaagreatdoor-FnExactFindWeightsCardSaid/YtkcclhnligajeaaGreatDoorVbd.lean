/-
  The laws on what gives a row of cells: helpers, and the walk of the law on CornerShape.
  The laws' helpers that compare, mark and look at slices of shapes.
  The laws' helpers that size, copy and compare slices of shapes; such an argument out of its reading.
  A region that came in as an argument, out of its reading.
  The laws on masks and pieces that give a plain value: the walk of each law.
-/
import Derived.Test.YtkcclhnligajeaaGreatDoorVaa
import Derived.Test.YtkcclhnligajeaaGreatDoorVba
import Derived.Test.YtkcclhnligajeaaGreatDoorVbc
import Derived.Test.YtkcclhnligajeaaGreatDoorVai
import Derived.Test.YtkcclhnligajeaaGreatDoorVab
import Derived.Test.YtkcclhnligajeaaGreatDoorVau
import Derived.Test.YtkcclhnligajeaaGreatDoorVas
import Derived.Test.YtkcclhnligajeaaGreatDoorVac
import Derived.ChangeArms
import Derived.ChangeSlices
import Derived.Test.YtkcclhnligajeaaGreatDoorVax
namespace Go.Proofs.YtkcclhnligajeaaGreatDoor

section
open Go.RowKit

theorem own_slice {w : World} {base n : Nat} {v : Value} {xs : List Value} (h : w.ownsRow base 126 2 v n xs) : ∃ a cap, v = .slice a n cap := by
  rcases h.2 with ⟨rfl, rfl⟩ | ⟨g, cap, cur, rfl, _⟩
  · exact ⟨_, _, rfl⟩
  · exact ⟨_, _, rfl⟩
theorem none_row (v : Value) : v.ownBlock = none ∨ v.ownBlock ≠ none := by
  cases v.ownBlock with
  | none => exact .inl rfl
  | some k => exact .inr (by simp)
theorem ne_row {v u : Value} {B m : Nat} (h : ∀ k, v.ownBlock = some k → B ≤ k ∧ k < m) (h2 : ∀ k, u.ownBlock = some k → k < B) : v.ownBlock = none ∨ v.ownBlock ≠ u.ownBlock := by
  cases e : v.ownBlock with
  | none => exact .inl rfl
  | some k =>
    refine .inr fun e2 => ?_
    have := h k e
    have := h2 k e2.symm
    omega
theorem cornS_le (l : List Cl) : (cornS l).length ≤ l.length := by
  unfold cornS cornerC
  split
  · simp
  · simp

set_option maxHeartbeats 1000000 in
theorem lMark_any (base n cap : Nat) (a : Option Addr) (k0 : Int) (l : List Cl) (w : World) (hn : n ≤ 4194304) (h0 : 0 ≤ k0) (h1 : k0 ≤ 4194304) (hl : l.length = n)
    (ho : w.ownsRow base 126 2 (.slice a n cap) n (cvs l)) :
    Calls Tryz.prog 96 #[.slice a n cap, .int .i64 k0] w fun e w' => e = .returned (.int .i64 (k0 + 2 * n)) ∧ w'.ownsRow base 126 2 (.slice a n cap) n (cvs (marks k0 n)) ∧ w.grownBy w' (Value.slice a n cap).ownBlock := by
  rcases ho.2 with ⟨e, rfl⟩ | ⟨g, cp, cur, e, _⟩
  · injection e with e1 _ e3
    subst e1 e3
    have HO := Lib.hid (show w.ownsRow base 126 2 (.slice none 0 0) 0 (cvs (marks k0 0)) from World.ownsRow_nil w base 126 2)
    clear ho
    go_enter Tryz.func96, Tryz.ntmps96
    go_wp2
    go_loopw [5, 1] (fun i q wr => i = .int .i64 0 ∧ q = .int .i64 k0 ∧ wr = w) (fun i _ _ => 0 - (intOf i).toNat)
    case atStart => exact ⟨rfl, rfl, rfl⟩
    case round =>
      obtain ⟨rfl, rfl, rfl⟩ := hrel
      go_wp2
      go_ret
      exact ⟨by simp, HO.out, World.grownBy.refl _ _⟩
  · injection e with e1 _ e3
    subst e1 e3
    exact lMark_at base g n cap k0 l w hn h0 h1 hl ho
end

section
open Go.RowKit

/-- A value that reads as a list of shapes. -/
def SsRd (B : Nat) (w : World) (v : Value) (L : List (List Cl)) : Prop := ∃ a cap, v = .slice a L.length cap ∧ (0 < L.length → ∃ g vs, a = some ⟨g, 0, none⟩ ∧ SsAt B w g vs L)
theorem SsRd.on {B : Nat} {w w' : World} {v : Value} {L : List (List Cl)} (h : SsRd B w v L) (hb : Below B w w') : SsRd B w' v L := by
  obtain ⟨a, cap, e, h1⟩ := h
  exact ⟨a, cap, e, fun h0 => by obtain ⟨g, vs, e1, h2⟩ := h1 h0; exact ⟨g, vs, e1, h2.on hb⟩⟩
theorem SsRd.more {B B' : Nat} {w : World} {v : Value} {L : List (List Cl)} (h : SsRd B w v L) (hB : B ≤ B') : SsRd B' w v L := by
  obtain ⟨a, cap, e, h1⟩ := h
  exact ⟨a, cap, e, fun h0 => by obtain ⟨g, vs, e1, h2⟩ := h1 h0; exact ⟨g, vs, e1, h2.more hB⟩⟩
theorem SsRd.of_at {B g cap : Nat} {w : World} {vs : List Value} {L : List (List Cl)} (h : SsAt B w g vs L) : SsRd B w (.slice (some ⟨g, 0, none⟩) L.length cap) L := ⟨_, _, rfl, fun _ => ⟨g, vs, rfl, h⟩⟩
theorem SsRd.of_own {B : Nat} {w : World} {v : Value} {es : List Ent} (h : OwnS B w v es) (hs : SmallS es) : SsRd w.heap.size w v (es.map kE) := by
  rcases h.row.2 with ⟨rfl, h0⟩ | ⟨g, cap, cur, rfl, hb, hg, _⟩
  · have : es = [] := List.eq_nil_of_length_eq_zero h0
    subst this
    exact ⟨none, 0, rfl, fun h9 => absurd h9 (Nat.lt_irrefl 0)⟩
  · refine ⟨_, cap, by rw [List.length_map], fun _ => ⟨g, es.map ev, rfl, (Array.getElem?_eq_some_iff.1 hg).1, by simp, fun k hk => ?_, fun k v l hv hl => ?_⟩⟩
    · rw [List.length_map] at hk
      exact h.row.cellAt k (by omega)
    · rw [List.getElem?_map] at hv hl
      cases he : es[k]? with
      | none => rw [he] at hv; cases hv
      | some e =>
        rw [he] at hv hl
        cases hv
        cases hl
        have hm : e ∈ es := List.mem_of_getElem? he
        exact ⟨_, _, rfl, h.each.cells hs hm, (hs e hm).1⟩

set_option maxHeartbeats 1000000 in
set_option maxRecDepth 100000 in
theorem lEqSS (B : Nat) (v1 v2 : Value) (L : List (List Cl)) (w : World) (hn : L.length ≤ 4194304) (h1 : SsRd B w v1 L) (h2 : SsRd B w v2 L) (hB : B ≤ w.heap.size) :
    Calls Tryz.prog 47 #[v1, v2] w fun e w' => e = .returned (.bool true) ∧ Below w.heap.size w w' := by
  obtain ⟨a1, c1, rfl, hr1⟩ := h1
  obtain ⟨a2, c2, rfl, hr2⟩ := h2
  have H1 := Lib.hid hr1
  have H2 := Lib.hid hr2
  generalize hN : L.length = n at *
  have HN := Lib.hid hN
  have hne : (((n : Nat) : Int) != (n : Int)) = false := by simp
  clear hr1 hr2 hN
  go_enter Tryz.func47, Tryz.ntmps47
  go_wp2
  go_loopw [5] (fun i wr => ∃ k : Nat, k ≤ n ∧ i = .int .i64 k ∧ Below w.heap.size w wr) (fun i _ => n - (intOf i).toNat)
  case atStart => exact ⟨0, by omega, rfl, Below.refl _ _⟩
  case round =>
    obtain ⟨k, hk, rfl, hb⟩ := hrel
    have hsz := hb.size
    by_cases hlt : k < n
    · obtain ⟨g1, vs1, rfl, hs1⟩ := H1.out (by omega)
      obtain ⟨g2, vs2, rfl, hs2⟩ := H2.out (by omega)
      obtain ⟨b1, d1, p1, hc1, hm1⟩ := (hs1.on (hb.mono hB)).get (k := k) (by rw [HN.out]; exact hlt)
      obtain ⟨b2, d2, p2, hc2, _⟩ := (hs2.on (hb.mono hB)).get (k := k) (by rw [HN.out]; exact hlt)
      obtain ⟨x, hx⟩ : ∃ x, L.getD k [] = x := ⟨_, rfl⟩
      rw [hx] at p1 p2 hc1 hc2 hm1
      have hBr := Nat.le_trans hB hsz
      have hgl1 : g1 < wr.heap.size := Nat.lt_of_lt_of_le hs1.1 hBr
      have hgl2 : g2 < wr.heap.size := Nat.lt_of_lt_of_le hs2.1 hBr
      have HC1 := Lib.hid (hc1.more hBr)
      have HC2 := Lib.hid (hc2.more hBr)
      have HQ := Lib.hid (show eqb x x = true from by simp [eqb])
      have hk0 : (0 : Int) ≤ (k : Int) := by omega
      have hk1 : (k : Int) < (n : Int) := by omega
      have HCL := Lib.hid (fun w' (h9 : Below wr.heap.size wr w') => lEqCellS_any wr.heap.size x.length x.length d1 d2 b1 b2 x x w' hm1 (HC1.out.on h9) (HC2.out.on h9) h9.size)
      rw [HQ.out] at HCL
      have hb9 := Below.refl wr.heap.size wr
      clear hc1 hc2 hx hs1 hs2
      go_wp2_with fail
      go_region_held3 (fun w' => w'.cell? ⟨g1, k, none⟩ = some (.slice b1 x.length d1) ∧ w'.cell? ⟨g2, k, none⟩ = some (.slice b2 x.length d2))
        (first | go_keep | exact ⟨(hbw.cell (p := ⟨g1, k, none⟩) hgl1).trans p1, (hbw.cell (p := ⟨g2, k, none⟩) hgl2).trans p2⟩)
        (first | (go_at_call 95; refine (HCL.out _ (by first | exact hb9 | exact hb9.drew)).mono ?_; rintro e w1 ⟨rfl, hbe⟩; have hbw : Below wr.heap.size wr w1 := by first | exact hb9.trans hbe | exact hb9.drew.trans hbe))
      all_goals
        have HB := Lib.hid (hb.trans (hbw.mono hsz))
        clear p1 p2 HCL hb9 hbw hbe HC1 HC2 HQ hb
        (try simp only [Exit.then])
        go_wp2
        go_roundw
        case rel => first | exact ⟨k + 1, by omega, by go_num, HB.out⟩ | ((repeat apply Exists.intro); exact ⟨⟨k + 1, by omega, by go_num, HB.out⟩, rfl⟩)
        case measure => simp [intOf]; omega
    · obtain rfl : k = n := by omega
      go_wp2
      go_ret
      exact ⟨rfl, hb⟩

/-! ### Marks -/
def totE (es : List Ent) : Nat := (es.map fun e => e.2.2.length).sum
/-- Marks written into shapes, one after the other. -/
def mkE : Int → List Ent → List Ent
  | _, [] => []
  | k, e :: r => (e.1, e.2.1, marks k e.2.2.length) :: mkE (k + 2 * e.2.2.length) r
theorem totE_append (a b : List Ent) : totE (a ++ b) = totE a + totE b := by simp [totE]
theorem totE_take (es : List Ent) (k : Nat) (h : k < es.length) : totE (es.take (k + 1)) = totE (es.take k) + (es.getD k dE).2.2.length := by
  rw [takeG_snoc dE es k h, totE_append]
  simp [totE]
theorem totE_mono (es : List Ent) (k : Nat) : totE (es.take k) ≤ totE es := by
  conv => rhs; rw [← List.take_append_drop k es]
  rw [totE_append]
  omega
theorem mkE_length (es : List Ent) : ∀ k, (mkE k es).length = es.length := by
  induction es with
  | nil => intro k; rfl
  | cons e r ih => intro k; simp [mkE, ih]
theorem mkE_append (a b : List Ent) : ∀ k, mkE k (a ++ b) = mkE k a ++ mkE (k + 2 * totE a) b := by
  induction a with
  | nil => intro k; simp [mkE, totE]
  | cons e r ih =>
    intro k
    simp only [List.cons_append, mkE]
    rw [ih]
    simp only [totE, List.map_cons, List.sum_cons]
    congr 3
    omega
theorem mkE_ev (es : List Ent) : ∀ k, (mkE k es).map ev = es.map ev := by
  induction es with
  | nil => intro k; rfl
  | cons e r ih =>
    intro k
    simp only [mkE, List.map_cons, ih]
    congr 1
    unfold ev
    simp [marks_length]
theorem mkE_fst (es : List Ent) : ∀ k, (mkE k es).map Prod.fst = es.map Prod.fst := by
  induction es with
  | nil => intro k; rfl
  | cons e r ih => intro k; simp only [mkE, List.map_cons, ih]
theorem mkE_get (es : List Ent) (j : Nat) (h : j < es.length) (k : Int) : (mkE k es).getD j dE = ((es.getD j dE).1, (es.getD j dE).2.1, marks (k + 2 * totE (es.take j)) (es.getD j dE).2.2.length) := by
  have e1 : es = es.take j ++ (es.getD j dE :: es.drop (j + 1)) := by
    conv => lhs; rw [← List.take_append_drop j es]
    congr 1
    rw [List.drop_eq_getElem_cons h]
    simp [List.getD, h]
  have hl : (mkE k (es.take j)).length = j := by rw [mkE_length, List.length_take]; omega
  conv => lhs; rw [e1]
  rw [mkE_append]
  simp only [List.getD_eq_getElem?_getD]
  rw [List.getElem?_append_right (by omega), hl, Nat.sub_self]
  rfl
end

section
open Go.RowKit Go.ChangeShapes Go.WideShapes

theorem open_pieces {H : Type} {enc : TypeId × Value → H} {W : World} {fuel : Nat} {a : Option Addr} {len cap : Nat} {d : DataW H × List MemPlace}
    (h : DataW.trod enc Tryz.prog W 0 (fun _ => true) true fuel 53 [.slice a len cap] = some d) : len ≤ maxLen ∧ ∃ L, PsB maxLen W.heap.size W a len L := by
  rcases Go.Deep.open_slice1 Tryz.underlying53 (by kernel_rfl) h with ⟨hcs, _⟩ | ⟨x, l, c, m, n, V, D, Pl, hcs, _, hl, hm, hmm, _, hall⟩
  · simp only [List.cons.injEq, Value.slice.injEq, and_true] at hcs
    obtain ⟨rfl, rfl, rfl⟩ := hcs
    exact ⟨Nat.zero_le _, [], rfl, fun h => absurd h (Nat.lt_irrefl 0)⟩
  · simp only [List.cons.injEq, Value.slice.injEq, and_true] at hcs
    obtain ⟨rfl, rfl, rfl⟩ := hcs
    simp only [if_true] at hmm
    subst hmm
    have each : ∀ i, i < len → ∃ q : Option Addr × Nat × Nat × List Cl, V i = .slice q.1 q.2.1 q.2.2.1 ∧ q.2.1 ≤ maxLen ∧ CellsAt W.heap.size W q.1 q.2.1 q.2.2.2 := fun i hi => by
      obtain ⟨_, h2⟩ := hall i (by omega)
      have h3 : ∃ ai li ci, V i = .slice ai li ci := by
        rcases DataW.trod_slice Tryz.underlying102 h2 with ⟨e, _⟩ | ⟨ai, li, ci, _, _, _, _, e, _⟩
        · simp only [List.cons.injEq, and_true] at e; exact ⟨_, _, _, e⟩
        · simp only [List.cons.injEq, and_true] at e; exact ⟨_, _, _, e⟩
      obtain ⟨ai, li, ci, e⟩ := h3
      rw [e] at h2
      obtain ⟨h4, zs, h5⟩ := open_cells h2
      exact ⟨(ai, li, ci, zs), e, h4, h5⟩
    obtain ⟨y, hy⟩ := Go.Deep.choose_lt each
    refine ⟨Nat.le_trans hl hm, (List.range len).map fun i => (y i).2.2.2, by simp, fun hp => ?_⟩
    obtain ⟨b, off, spot⟩ := x
    have hspot : spot = none := by
      have h0 := (hall 0 (by omega)).1
      simpa [Addr.add] using World.cell?_spot h0
    subst hspot
    have hblk := World.block_lt_of_cell? W _ (hall 0 (by omega)).1
    refine ⟨b, off, rfl, by simpa [Addr.add] using hblk, fun k hk => ?_⟩
    obtain ⟨e1, e2, e3⟩ := hy k hk
    have eg : ((List.range len).map fun i => (y i).2.2.2).getD k [] = (y k).2.2.2 := by simp [hk]
    have c0 := (hall k (by omega)).1
    have ad : ∀ j, (⟨b, off, none⟩ : Addr).add j = ⟨b, off + j, none⟩ := fun j => by unfold Addr.add; split <;> simp_all
    rw [ad, e1] at c0
    rw [eg]
    have hlen : (y k).2.2.2.length = (y k).2.1 := e3.1
    rw [hlen]
    exact ⟨_, _, c0, e3, e2⟩

def totL (L : List (List Cl)) : Nat := (L.map List.length).sum
theorem totL_take (L : List (List Cl)) (k : Nat) (h : k < L.length) : totL (L.take (k + 1)) = totL (L.take k) + (L.getD k []).length := by
  have e : L.getD k [] = L[k] := by simp [List.getD, h]
  rw [List.take_succ_eq_append_getElem h, e]
  unfold totL
  rw [List.map_append, List.sum_append]
  simp only [List.map_cons, List.map_nil, List.sum_cons, List.sum_nil, Nat.add_zero]
theorem totL_mono (L : List (List Cl)) (k : Nat) : totL (L.take k) ≤ totL L := by
  conv => rhs; rw [← List.take_append_drop k L]
  unfold totL
  rw [List.map_append, List.sum_append]
  omega
theorem totL_get (L : List (List Cl)) (k : Nat) (h : k < L.length) : (L.getD k []).length ≤ totL L := by
  have h1 := totL_take L k h
  have h2 := totL_mono L (k + 1)
  omega
theorem totL_ent (es : List Ent) : totE es = totL (es.map kE) := by
  unfold totE totL
  rw [List.map_map]
  rfl

set_option maxHeartbeats 1000000 in
set_option maxRecDepth 100000 in
/-- How much is left behind a slice of shapes; below 0: too much. -/
theorem lSzPs (B n cap : Nat) (a : Option Addr) (L : List (List Cl)) (left : Int) (w : World) (h0 : 0 ≤ left) (h1 : left ≤ 1048576) (hn : n ≤ maxLen) (hc : PsB maxLen B w a n L) (hB : B ≤ w.heap.size) :
    Calls Tryz.prog 42 #[.slice a n cap, .int .i64 left] w fun e w' => ∃ r : Int, e = .returned (.int .i64 r) ∧ (0 ≤ r → r = left - n - totL L) ∧ r ≤ left ∧ w = w' := by
  have H := Lib.hid hc
  have hl := hc.1
  have hn2 : n ≤ 9223372036854775807 := by unfold maxLen at hn; omega
  clear hc hn
  by_cases hs : left < (n : Int)
  · go_enter Tryz.func42, Tryz.ntmps42
    go_wp2
    go_ret
    exact ⟨_, rfl, fun h => absurd h (by omega), by omega, rfl⟩
  · go_enter Tryz.func42, Tryz.ntmps42
    go_wp2
    go_loopw [1, 5] (fun q i wr => ∃ (k : Nat) (r : Int), k ≤ n ∧ i = .int .i64 k ∧ q = .int .i64 r ∧ 0 ≤ r ∧ r ≤ left ∧ Hid (r = left - n - totL (L.take k)) ∧ wr = w) (fun _ i _ => n - (intOf i).toNat)
    case atStart => exact ⟨0, left - n, by omega, rfl, rfl, by omega, by omega, by simp [Hid, totL], rfl⟩
    case round =>
      obtain ⟨k, r, hk, rfl, rfl, hr0, hr1, hr, rfl⟩ := hrel
      by_cases hlt : k < n
      · have hk1 : (k : Int) < (n : Int) := by omega
        have hk0 : (0 : Int) ≤ (k : Int) := by omega
        obtain ⟨b, off, rfl, hbB, hcell⟩ := H.out.2 (by omega)
        obtain ⟨ak, ck, p1, h2, h3⟩ := hcell k hlt
        have HS := Lib.hid (totL_take L k (by omega))
        unfold maxLen at h3
        obtain ⟨m, hm⟩ : ∃ m, (L.getD k []).length = m := ⟨_, rfl⟩
        rw [hm] at p1 HS h3
        clear hcell h2 hm
        by_cases hfit : (m : Int) ≤ r
        · have HR := Lib.hid (show r - m = left - n - totL (L.take (k + 1)) from by have := HS.out; have := hr.out; omega)
          clear hr HS
          go_wp2_with fail
          refine (lSz_fits ak m ck r _ (by omega) hfit).mono ?_
          rintro e w' ⟨rfl, rfl⟩
          go_wp2
          go_roundw
          case rel => exact ⟨k + 1, r - m, by omega, by go_num, rfl, by omega, by omega, HR.out, (by first | rfl | trivial)⟩
          case measure => simp [intOf]; omega
        · go_wp2_with fail
          refine (lSz_big ak m ck r _ (by omega) (by omega) (by omega)).mono ?_
          rintro e w' ⟨rfl, rfl⟩
          go_wp2
          go_ret
          exact ⟨_, rfl, fun h => absurd h (by omega), by omega, rfl⟩
      · obtain rfl : k = n := by omega
        have HT := Lib.hid (show r = left - k - totL L from by have := hr.out; rw [List.take_of_length_le (by omega)] at this; exact this)
        clear hr
        go_wp2
        go_ret
        exact ⟨_, rfl, fun _ => HT.out, by omega, rfl⟩

theorem shp_size : ∃ i, Tryz.prog.info? 76 = some i ∧ i.zero = some (.slice none 0 0) ∧ i.size = 1 ∧ i.bytes = 24 := by
  obtain ⟨i0, hi, hz0, hz1, hz2⟩ := info_parts (show (Tryz.prog.info? 76).map (fun i => (i.zero, i.size, i.bytes)) = some (some (.slice none 0 0), 1, 24) by kernel_rfl)
  exact ⟨i0, hi, hz0, hz1, hz2⟩
theorem made_ps (n : Nat) : (madeCells #[Value.slice none 0 0] (n * 1)).toList = List.replicate n (.slice none 0 0) := by
  apply List.ext_getElem?
  intro j
  by_cases hj : j < n
  · simp [madeCells, hj, Nat.mod_one]
  · rw [List.getElem?_eq_none (by simp [madeCells]; omega), List.getElem?_eq_none (by simp; omega)]
theorem ps_fill (es : List Ent) (e : Ent) (k n : Nat) (hl : es.length = k) (h : k < n) : (es.map ev ++ List.replicate (n - k) (Value.slice none 0 0)).set k (ev e) = (es ++ [e]).map ev ++ List.replicate (n - (k + 1)) (.slice none 0 0) := by
  have e1 : n - k = (n - (k + 1)) + 1 := by omega
  rw [e1, List.replicate_succ, List.set_append_right _ _ (by simp; omega), List.length_map, hl, Nat.sub_self, List.set_cons_zero, List.map_append, List.append_assoc]
  rfl

set_option maxHeartbeats 2000000 in
set_option maxRecDepth 100000 in
/-- The laws' copy of a slice of shapes: new slices that read alike. -/
theorem lToPs (B n cap : Nat) (a : Option Addr) (L : List (List Cl)) (w : World) (hn : n ≤ 1048576) (hc : PsAt B w a n L) (hB : B ≤ w.heap.size) :
    Calls Tryz.prog 44 #[.slice a n cap] w fun e w' => ∃ g es, e = .returned (.slice (some ⟨g, 0, none⟩) n n) ∧ es.map kE = L ∧ SmallS es ∧ OwnS w.heap.size w' (.slice (some ⟨g, 0, none⟩) n n) es ∧ Below w.heap.size w w' := by
  obtain ⟨i0, hi, hz0, hz1, hz2⟩ := shp_size
  have H := Lib.hid hc
  have hl := hc.1
  clear hc
  go_enter Tryz.func44, Tryz.ntmps44
  go_wp2_with (first | (at_make; refine wpList_make_full _ rfl _ _ 27 rfl w.heap.size 76 i0 (.slice none 0 0) 1 Tryz.underlying27 hi hz0 hz1 _ _ _ _ n rfl rfl rfl rfl ?b2 ?b3 (Nat.le_refl _) ?_) | go_in)
  case b2 => rw [hz2]; omega
  case b3 => unfold maxLen; omega
  intro w0 hown0 hgrow0
  have HB0 := Lib.hid ((Below.refl w.heap.size w).grown hgrow0 (Nat.le_refl _) (fun k h => by cases h))
  have hlt0 : w.heap.size < w0.heap.size := (hown0.lt w.heap.size rfl).2
  obtain ⟨G, hG⟩ : ∃ G, w.heap.size = G := ⟨_, rfl⟩
  have h9 := made_ps n
  simp only [Nat.mul_one] at h9
  rw [h9, hG] at hown0
  rw [hG] at hlt0 HB0 hB ⊢
  have HRW0 := Lib.hid hown0
  clear hown0 hgrow0 h9
  go_wp2
  go_loopw [4] (fun i wr => ∃ (k : Nat) (es : List Ent), k ≤ n ∧ i = .int .i64 k ∧ Hid (es.map kE = L.take k) ∧ Hid (SmallS es) ∧ Hid (wr.ownsRow G 76 1 (.slice (some ⟨G, 0, none⟩) n n) n (es.map ev ++ List.replicate (n - k) (.slice none 0 0))) ∧ Hid (EachS (G + 1) wr es) ∧ Hid (ApartS es) ∧ G < wr.heap.size ∧ Below G w wr) (fun i _ => n - (intOf i).toNat)
  case atStart => exact ⟨0, [], by omega, rfl, by exact rfl, fun e he => (by cases he), HRW0.out, fun e he => (by cases he), List.Pairwise.nil, hlt0, HB0.out⟩
  case round =>
    obtain ⟨k, es, hk, rfl, hm, hsml, hrow, hea, hap, hGl, hb⟩ := hrel
    have hsz := hb.size
    have hel : es.length = k := by have := congrArg List.length hm.out; rw [List.length_map, List.length_take] at this; omega
    clear HRW0 HB0
    by_cases hlt : k < n
    · have hk0 : (0 : Int) ≤ (k : Int) := by omega
      have hk1 : (k : Int) < (n : Int) := by omega
      obtain ⟨bb, off, rfl, hbB, hcell⟩ := H.out.2 (by omega)
      obtain ⟨ak, ck, h1, h2, h3⟩ := hcell k hlt
      have p1 := (hb.cell (p := ⟨bb, off + k, none⟩) (Nat.lt_of_lt_of_le hbB hB)).trans h1
      have HC := Lib.hid (h2.on (hb.mono hB))
      have HTK := Lib.hid (show L.take (k + 1) = L.take k ++ [L.getD k []] from by
        rw [List.take_succ_eq_append_getElem (by omega)]
        simp [List.getD, show k < L.length by omega])
      obtain ⟨q, hq⟩ : ∃ q, L.getD k [] = q := ⟨_, rfl⟩
      rw [hq] at p1 HC HTK h3
      clear hcell h1 h2 hq
      go_wp2_with fail
      refine (lToCellS_any B q.length ck ak q wr h3 HC.out (by omega)).mono ?_
      rintro e w2 ⟨rfl, hown2, hb2⟩
      obtain ⟨b, hbe⟩ : ∃ b, wr.heap.size = b := ⟨_, rfl⟩
      rw [hbe] at hown2 ⊢
      have hbl := hown2.lt b rfl
      have hGw2 : G < w2.heap.size := by omega
      have HE2 := Lib.hid (show EachS (G + 1) w2 (es ++ [(b, q.length, q)]) from fun e he => by
        rw [List.mem_append] at he
        rcases he with he | he
        · exact (hea.out.on hb2) e he
        · rw [List.mem_singleton] at he
          subst he
          exact own_below hown2 (by omega))
      have HA2 := Lib.hid (show ApartS (es ++ [(b, q.length, q)]) from by
        unfold ApartS
        rw [List.pairwise_append]
        refine ⟨hap.out, by simp, fun e he f hf => ?_⟩
        rw [List.mem_singleton] at hf
        subst hf
        have := (hea.out.lt he).2
        show e.1 ≠ b
        omega)
      have HS2 := Lib.hid (show SmallS (es ++ [(b, q.length, q)]) from fun e he => by
        rw [List.mem_append] at he
        rcases he with he | he
        · exact hsml.out e he
        · rw [List.mem_singleton] at he
          subst he
          exact ⟨by show q.length ≤ 4194304; omega, HC.out.2.1⟩)
      have HM2 := Lib.hid (show (es ++ [(b, q.length, q)]).map kE = L.take (k + 1) from by rw [List.map_append, hm.out, HTK.out]; rfl)
      have hr2 := hrow.out.kept (grow_below hb2 none) (.inr (by intro e; cases e))
      have hs := hr2.stored k (.slice (some ⟨b, 0, none⟩) q.length q.length)
      have hO := hs.1
      have hfill := ps_fill es (b, q.length, q) k n hel hlt
      rw [show (Value.slice (some ⟨b, 0, none⟩) q.length q.length) = ev (b, q.length, q) from rfl, hfill] at hO
      have HOO := Lib.hid hO
      have hc0 := hr2.cellAt k (by omega)
      have hlen : k < (es.map ev ++ List.replicate (n - k) (Value.slice none 0 0)).length := by simp; omega
      obtain ⟨u, hu⟩ : ∃ u, (es.map ev ++ List.replicate (n - k) (Value.slice none 0 0))[k]? = some u := ⟨_, List.getElem?_eq_getElem hlen⟩
      rw [hu] at hc0
      have hf0 := hr2.frozenAt k
      have hoff : OffS G (es ++ [(b, q.length, q)]) := fun e he => by have := (HE2.out.lt he).1; omega
      have HEE := Lib.hid (HE2.out.by hs.2 hoff)
      have HBB := Lib.hid ((hb.trans (hb2.mono (by omega))).setCell (p := ⟨G, k, none⟩) (by show G ≤ G; omega) (.slice (some ⟨b, 0, none⟩) q.length q.length))
      have hGn : G < (w2.setCell ⟨G, k, none⟩ (.slice (some ⟨b, 0, none⟩) q.length q.length)).heap.size := by simp [World.setCell]; exact hGw2
      clear hown2 hr2 hs hO hfill hu hlen hrow hea hap hm hsml hb hb2 hoff
      go_wp2
      go_roundw
      case rel => exact ⟨k + 1, _, by omega, by go_num, HM2.out, HS2.out, HOO.out, HEE.out, HA2.out, hGn, HBB.out⟩
      case measure => simp [intOf]; omega
    · obtain rfl : k = n := by omega
      have hrow8 : wr.ownsRow G 76 1 (.slice (some ⟨G, 0, none⟩) k k) k (es.map ev) := by have := hrow.out; simpa using this
      have hoff : OffS G es := fun e he => by have := (hea.out.lt he).1; omega
      have HOW := Lib.hid (show OwnS G wr (.slice (some ⟨G, 0, none⟩) k k) es from ⟨by rw [hel]; exact hrow8, hea.out.less (by omega), hap.out, fun e he h9 => by injection h9 with h9; exact hoff e he h9.symm⟩)
      have HM := Lib.hid (show es.map kE = L from by rw [hm.out, List.take_of_length_le (by omega)])
      clear hrow8 hoff hrow hea hap hm
      go_wp2
      go_ret
      exact ⟨G, es, rfl, HM.out, hsml.out, by rw [hG]; exact HOW.out, by rw [hG]; exact hb⟩
end

section
open Go.RowKit Go.ChangeShapes Go.WideShapes

set_option maxRecDepth 100000 in
theorem open_ints_at {H : Type} {enc : TypeId × Value → H} {W : World} {fuel : Nat} {v : Value} {d : DataW H × List MemPlace}
    (h : DataW.trod enc Tryz.prog W 0 (fun _ => true) true fuel 24 [v] = some d) : ∃ a len cap zs, v = .slice a len cap ∧ len ≤ maxLen ∧ IntsAt W.heap.size W a len zs := by
  rcases open_ints Tryz.underlying24 Tryz.underlying3 (by kernel_rfl) h with ⟨hcs, _⟩ | ⟨x, len, cap, zs, hcs, _, hl, hm, hz, _, hcell, hwz⟩
  · simp only [List.cons.injEq, and_true] at hcs
    exact ⟨none, 0, 0, [], hcs, Nat.zero_le _, rfl, (fun c hc => absurd hc (List.not_mem_nil)), fun h => absurd h (Nat.lt_irrefl 0)⟩
  · simp only [List.cons.injEq, and_true] at hcs
    simp only [if_true] at hz
    refine ⟨some x, len, cap, zs.take len, hcs, Nat.le_trans hl hm, by rw [List.length_take, hz]; omega, fun z hz9 => wf_i64 (hwz z (List.mem_of_mem_take hz9)), fun hp => ?_⟩
    obtain ⟨b, off, spot⟩ := x
    have h0 := hcell 0 (by omega)
    have hspot : spot = none := by simpa [Addr.add] using World.cell?_spot h0
    subst hspot
    have hblk := World.block_lt_of_cell? W _ h0
    have ad : ∀ j, (⟨b, off, none⟩ : Addr).add j = ⟨b, off + j, none⟩ := fun j => by unfold Addr.add; split <;> simp_all
    refine ⟨b, off, rfl, by simpa [Addr.add] using hblk, fun k hk => ?_⟩
    have hc := hcell k (by omega)
    rw [ad] at hc
    rw [hc]
    congr 2
    simp [List.getD, hk]

set_option maxRecDepth 100000 in
theorem open_region {H : Type} {enc : TypeId × Value → H} {W : World} {base : Nat} {v : Value} {d : DataW H} {ps : List MemPlace}
    (hval : Value.okWide Tryz.prog W .any base 52 v) (h : DataW.Trod enc Tryz.prog W 0 (fun _ => true) true 52 v d ps) :
    ∃ x a len cap zs, v = .agg #[.int .i64 x, .slice a len cap] ∧ len ≤ maxLen ∧ In64 x ∧ IntsAt W.heap.size W a len zs := by
  obtain ⟨fuel, h⟩ := h
  obtain ⟨xs, n, rfl, _, hlen, hxl, hf⟩ := DataW.trod_struct Tryz.underlying52 h
  obtain ⟨cs, rfl, hsz⟩ := okWide_struct Tryz.underlying52 hval
  have c2 : Tryz.prog.cellsOf 52 = 2 := by kernel_rfl
  have c0 : Tryz.prog.cellsOf 3 = 1 := by kernel_rfl
  have c1 : Tryz.prog.cellsOf 24 = 1 := by kernel_rfl
  rw [c2] at hsz
  obtain ⟨l⟩ := cs
  match l, hsz with
  | [v0, v1], _ =>
    match xs, hxl with
    | [y0, y1], _ =>
      have g0 : DataW.trod enc Tryz.prog W 0 (fun _ => true) true n 3 ((List.drop 0 [v0, v1]).take (Tryz.prog.cellsOf 3)) = some y0 := hf 0 _ rfl
      have g1 : DataW.trod enc Tryz.prog W 0 (fun _ => true) true n 24 ((List.drop 1 [v0, v1]).take (Tryz.prog.cellsOf 24)) = some y1 := hf 1 _ rfl
      rw [c0] at g0
      rw [c1] at g1
      obtain ⟨p, hp, _, wp⟩ := DataW.trod_int Tryz.underlying3 g0
      obtain ⟨a, len, cap, zs, hv1, hm, hz⟩ := open_ints_at (v := v1) g1
      have hp0 : v0 = .int .i64 p := by simpa using hp
      subst hp0 hv1
      exact ⟨p, a, len, cap, zs, rfl, hm, wf_i64 wp, hz⟩
end

section
open Go.RowKit

theorem ownS_up {B : Nat} {w : World} {g n cap : Nat} {es : List Ent} (h : OwnS B w (.slice (some ⟨g, 0, none⟩) n cap) es) : (B ≤ g ∧ g < w.heap.size) ∧ ∀ e ∈ es, B ≤ e.1 ∧ e.1 < w.heap.size :=
  ⟨h.row.lt g rfl, fun _e he => h.each.lt he⟩
theorem ps_at {B m2 g cap : Nat} {w : World} {es : List Ent} {ps : List (List Cl)} (h : OwnS B w (.slice (some ⟨g, 0, none⟩) m2 cap) es) (hs : SmallS es) (hk : es.map kE = ps) (hl : es.length = m2) (ht : totL ps ≤ 1048576) : PsAt w.heap.size w (some ⟨g, 0, none⟩) m2 ps := by
  obtain ⟨a, c, e, hp⟩ := PsB.of_own (M := 1048576) h hs (fun e he => by
    have h1 : kE e ∈ ps := by rw [← hk]; exact List.mem_map_of_mem he
    obtain ⟨k, hk2, e2⟩ := List.getElem_of_mem h1
    have h2 := totL_get ps k hk2
    have e3 : ps.getD k [] = ps[k] := by simp [List.getD, hk2]
    rw [e3, e2] at h2
    exact Nat.le_trans h2 ht)
  injection e with e1 e2 e3
  subst e1
  rw [hl, hk] at hp
  exact hp
end

end Go.Proofs.YtkcclhnligajeaaGreatDoor
