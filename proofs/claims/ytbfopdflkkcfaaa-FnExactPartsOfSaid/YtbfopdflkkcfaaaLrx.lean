/-
  The laws' helpers that compare, mark and look at slices of regions.
  The laws' helpers that write marks into slices of regions and look whether they stand there.
-/
import Derived.Test.YtbfopdflkkcfaaaSp3
namespace Go.Proofs.Ytbfopdflkkcfaaa

section
open Go.RowKit

def wR (e : REnt) : Int := e.2.2.1
/-- A value that reads as a list of regions. -/
def RsRd (B : Nat) (w : World) (v : Value) (Ws : List Int) (L : List (List Int)) : Prop := Ws.length = L.length ∧ ∃ a cap, v = .slice a L.length cap ∧ (0 < L.length → ∃ g, a = some ⟨g, 0, none⟩ ∧ g < B ∧ ∀ k, k < L.length → w.cell? ⟨g, k * 2, none⟩ = some (.int .i64 (Ws.getD k 0)) ∧ ∃ u, w.cell? ⟨g, k * 2 + 1, none⟩ = some u ∧ IsRd B w u (L.getD k []))
theorem RsRd.on {B : Nat} {w w' : World} {v : Value} {Ws : List Int} {L : List (List Int)} (h : RsRd B w v Ws L) (hb : Below B w w') : RsRd B w' v Ws L := by
  obtain ⟨hw, a, cap, e, h1⟩ := h
  refine ⟨hw, a, cap, e, fun h0 => ?_⟩
  obtain ⟨g, e1, hlt, h2⟩ := h1 h0
  refine ⟨g, e1, hlt, fun k hk => ?_⟩
  obtain ⟨h3, u, h4, h5⟩ := h2 k hk
  exact ⟨(hb.cell (p := ⟨g, k * 2, none⟩) hlt).trans h3, u, (hb.cell (p := ⟨g, k * 2 + 1, none⟩) hlt).trans h4, h5.on hb⟩
theorem RsRd.more {B B' : Nat} {w : World} {v : Value} {Ws : List Int} {L : List (List Int)} (h : RsRd B w v Ws L) (hB : B ≤ B') : RsRd B' w v Ws L := by
  obtain ⟨hw, a, cap, e, h1⟩ := h
  refine ⟨hw, a, cap, e, fun h0 => ?_⟩
  obtain ⟨g, e1, hlt, h2⟩ := h1 h0
  refine ⟨g, e1, by omega, fun k hk => ?_⟩
  obtain ⟨h3, u, h4, h5⟩ := h2 k hk
  exact ⟨h3, u, h4, h5.more hB⟩
theorem rvs_get : ∀ (es : List REnt) (k : Nat), k < es.length → (rvs es)[k * 2]? = some (.int .i64 ((es.map wR).getD k 0)) ∧ ∃ e ∈ es, (rvs es)[k * 2 + 1]? = some (rvE e) ∧ (es.map kR).getD k [] = kR e
  | [], k, h => by simp at h
  | e :: r, 0, _ => ⟨rfl, e, by simp, rfl, rfl⟩
  | e :: r, k + 1, h => by
    obtain ⟨h1, e2, h2, h3, h4⟩ := rvs_get r k (by simpa using h)
    have e9 : rvs (e :: r) = .int .i64 e.2.2.1 :: rvE e :: rvs r := by simp [rvs]
    rw [e9, show (k + 1) * 2 = k * 2 + 1 + 1 by omega]
    refine ⟨?_, e2, by simp [h2], ?_, ?_⟩
    · simpa using h1
    · simpa using h3
    · simpa using h4
theorem RsRd.of_own {B : Nat} {w : World} {v : Value} {es : List REnt} (h : OwnRs B w v es) : RsRd w.heap.size w v (es.map wR) (es.map kR) := by
  refine ⟨by simp, ?_⟩
  rcases h.row.2 with ⟨rfl, h0⟩ | ⟨g, cap, cur, rfl, hb, hg, _⟩
  · have : es = [] := List.eq_nil_of_length_eq_zero h0
    subst this
    exact ⟨none, 0, rfl, fun h9 => absurd h9 (Nat.lt_irrefl 0)⟩
  · refine ⟨_, cap, by rw [List.length_map], fun _ => ⟨g, rfl, (Array.getElem?_eq_some_iff.1 hg).1, fun k hk => ?_⟩⟩
    rw [List.length_map] at hk
    obtain ⟨h1, e, he, h2, h3⟩ := rvs_get es k hk
    have c1 := h.row.cellAt (k * 2) (by omega)
    have c2 := h.row.cellAt (k * 2 + 1) (by omega)
    rw [h1] at c1
    rw [h2] at c2
    refine ⟨c1, _, c2, ?_⟩
    rw [h3]
    exact IsRd.of_own2 (h.each e he)

set_option maxHeartbeats 1000000 in
set_option maxRecDepth 100000 in
theorem lEqRs (B : Nat) (v1 v2 : Value) (Ws : List Int) (L : List (List Int)) (w : World) (hn : L.length ≤ 4194304) (hx : ∀ x ∈ L, x.length ≤ 4194304) (h1 : RsRd B w v1 Ws L) (h2 : RsRd B w v2 Ws L) (hB : B ≤ w.heap.size) :
    Calls Try.prog 40 #[v1, v2] w fun e w' => e = .returned (.bool true) ∧ Below w.heap.size w w' := by
  obtain ⟨hw, a1, c1, rfl, hr1⟩ := h1
  obtain ⟨_, a2, c2, rfl, hr2⟩ := h2
  have H1 := Lib.hid hr1
  have H2 := Lib.hid hr2
  have HX := Lib.hid (show ∀ k, k < L.length → (L.getD k []).length ≤ 4194304 from fun k hk => hx _ (by simp [List.getD, hk]))
  generalize hN : L.length = n at *
  have hne : (((n : Nat) : Int) != (n : Int)) = false := by simp
  clear hr1 hr2 hN hw hx
  go_enter Try.func40, Try.ntmps40
  go_wp2
  go_loopw [5] (fun i wr => ∃ k : Nat, k ≤ n ∧ i = .int .i64 k ∧ Below w.heap.size w wr) (fun i _ => n - (intOf i).toNat)
  case atStart => exact ⟨0, by omega, rfl, Below.refl _ _⟩
  case round =>
    obtain ⟨k, hk, rfl, hb⟩ := hrel
    have hsz := hb.size
    by_cases hlt : k < n
    · obtain ⟨g1, rfl, hg1, hs1⟩ := H1.out (by omega)
      obtain ⟨g2, rfl, hg2, hs2⟩ := H2.out (by omega)
      obtain ⟨p0, u1, p1, hi1⟩ := hs1 k hlt
      obtain ⟨q0, u2, q1, hi2⟩ := hs2 k hlt
      have hxl := HX.out k hlt
      obtain ⟨x, hx⟩ : ∃ x, L.getD k [] = x := ⟨_, rfl⟩
      obtain ⟨z, hz⟩ : ∃ z, Ws.getD k 0 = z := ⟨_, rfl⟩
      rw [hx] at hi1 hi2 hxl
      rw [hz] at p0 q0
      have hbB := hb.mono hB
      have p0' := (hbB.cell (p := ⟨g1, k * 2, none⟩) hg1).trans p0
      have p1' := (hbB.cell (p := ⟨g1, k * 2 + 1, none⟩) hg1).trans p1
      have q0' := (hbB.cell (p := ⟨g2, k * 2, none⟩) hg2).trans q0
      have q1' := (hbB.cell (p := ⟨g2, k * 2 + 1, none⟩) hg2).trans q1
      have HI1 := Lib.hid (hi1.on hbB)
      have HI2 := Lib.hid (hi2.on hbB)
      have hBr := Nat.le_trans hB hsz
      have hgl1 : g1 < wr.heap.size := by omega
      have hgl2 : g2 < wr.heap.size := by omega
      have hk0 : (0 : Int) ≤ (k : Int) := by omega
      have hk1 : (k : Int) < (n : Int) := by omega
      have HCL := Lib.hid (show ∀ w', Below wr.heap.size wr w' → Calls Try.prog 18 #[.agg #[.int .i64 z, u1], .agg #[.int .i64 z, u2]] w' fun e w'' => e = .returned (.bool true) ∧ Below w'.heap.size w' w'' from fun w' h9 => lEqR B z u1 u2 x w' hxl (HI1.out.on (h9.mono hBr)) (HI2.out.on (h9.mono hBr)) (Nat.le_trans hBr h9.size))
      have hb9 := Below.refl wr.heap.size wr
      clear hx hz hs1 hs2 hi1 hi2 hbB p0 p1 q0 q1
      go_wp2_with fail
      go_region_held3 (fun w' => w'.cell? ⟨g1, k * 2, none⟩ = some (.int .i64 z) ∧ w'.cell? ⟨g1, k * 2 + 1, none⟩ = some u1 ∧ w'.cell? ⟨g2, k * 2, none⟩ = some (.int .i64 z) ∧ w'.cell? ⟨g2, k * 2 + 1, none⟩ = some u2)
        (first | go_keep | exact ⟨p0', p1', q0', q1'⟩ | exact ⟨(hbw.cell (p := ⟨g1, k * 2, none⟩) hgl1).trans p0', (hbw.cell (p := ⟨g1, k * 2 + 1, none⟩) hgl1).trans p1', (hbw.cell (p := ⟨g2, k * 2, none⟩) hgl2).trans q0', (hbw.cell (p := ⟨g2, k * 2 + 1, none⟩) hgl2).trans q1'⟩)
        (first | (go_at_call 18; refine (HCL.out _ (by first | exact hb9 | exact hb9.drew)).mono ?_; rintro e w1 ⟨rfl, hbe⟩; have hbw : Below wr.heap.size wr w1 := by first | exact hb9.trans hbe | exact hb9.drew.trans hbe))
      all_goals
        have HB := Lib.hid (hb.trans (hbw.mono hsz))
        clear p0' p1' q0' q1' HCL hb9 hbw hbe HI1 HI2 hb
        (try simp only [Exit.then])
        go_wp2
        go_roundw
        case rel => first | exact ⟨k + 1, by omega, by go_num, HB.out⟩ | ((repeat apply Exists.intro); exact ⟨⟨k + 1, by omega, by go_num, HB.out⟩, rfl⟩)
        case measure => simp [intOf]; omega
    · obtain rfl : k = n := by omega
      go_wp2
      go_ret
      exact ⟨rfl, hb⟩
end

section
open Go.RowKit

def dR : REnt := (0, 0, 0, [])
def totR (es : List REnt) : Nat := (es.map fun e => 1 + e.2.2.2.length).sum
/-- Marks written into regions, one after the other. -/
def mkR : Int → List REnt → List REnt
  | _, [] => []
  | k, e :: r => (e.1, e.2.1, k, marksI (k + 1) e.2.2.2.length) :: mkR (k + (1 + e.2.2.2.length : Nat)) r
theorem totR_append (a b : List REnt) : totR (a ++ b) = totR a + totR b := by simp [totR]
theorem totR_take (es : List REnt) (k : Nat) (h : k < es.length) : totR (es.take (k + 1)) = totR (es.take k) + (1 + (es.getD k dR).2.2.2.length) := by
  rw [takeG_snoc dR es k h, totR_append]
  simp [totR]
theorem totR_mono (es : List REnt) (k : Nat) : totR (es.take k) ≤ totR es := by
  conv => rhs; rw [← List.take_append_drop k es]
  rw [totR_append]
  omega
theorem mkR_length (es : List REnt) : ∀ k, (mkR k es).length = es.length := by
  induction es with
  | nil => intro k; rfl
  | cons e r ih => intro k; simp [mkR, ih]
theorem mkR_append (a b : List REnt) : ∀ k, mkR k (a ++ b) = mkR k a ++ mkR (k + totR a) b := by
  induction a with
  | nil => intro k; simp [mkR, totR]
  | cons e r ih =>
    intro k
    simp only [List.cons_append, mkR]
    rw [ih]
    simp only [totR, List.map_cons, List.sum_cons]
    congr 3
    omega
theorem mkR_take (es : List REnt) (j : Nat) (h : j < es.length) (k : Int) : mkR k (es.take (j + 1)) = mkR k (es.take j) ++ [((es.getD j dR).1, (es.getD j dR).2.1, k + totR (es.take j), marksI (k + totR (es.take j) + 1) (es.getD j dR).2.2.2.length)] := by
  rw [takeG_snoc dR es j h, mkR_append]
  rfl
theorem drop_consR (es : List REnt) (j : Nat) (h : j < es.length) : es.drop j = es.getD j dR :: es.drop (j + 1) := by
  rw [List.drop_eq_getElem_cons h]
  simp [List.getD, h]
theorem ent_memR {es : List REnt} {k : Nat} (h : k < es.length) : es.getD k dR ∈ es := by simp [List.getD, h]
theorem mkR_get (es : List REnt) (j : Nat) (h : j < es.length) (k : Int) : ((mkR k es).map wR).getD j 0 = k + totR (es.take j) ∧ ((mkR k es).map kR).getD j [] = marksI (k + totR (es.take j) + 1) (es.getD j dR).2.2.2.length := by
  have e1 : es = es.take j ++ (es.getD j dR :: es.drop (j + 1)) := by
    conv => lhs; rw [← List.take_append_drop j es]
    rw [drop_consR es j h]
  have hl : (mkR k (es.take j)).length = j := by rw [mkR_length, List.length_take]; omega
  obtain ⟨T, hT⟩ : ∃ T, mkR k es = mkR k (es.take j) ++ ((es.getD j dR).1, (es.getD j dR).2.1, k + (totR (es.take j) : Int), marksI (k + totR (es.take j) + 1) (es.getD j dR).2.2.2.length) :: T := ⟨_, by
    conv => lhs; rw [e1]
    rw [mkR_append]
    rfl⟩
  rw [hT, List.map_append, List.map_append]
  constructor
  · simp only [List.getD_eq_getElem?_getD]
    rw [List.getElem?_append_right (by simp [hl]), List.length_map, hl, Nat.sub_self]
    rfl
  · simp only [List.getD_eq_getElem?_getD]
    rw [List.getElem?_append_right (by simp [hl]), List.length_map, hl, Nat.sub_self]
    rfl
theorem rvs_len (es : List REnt) : (rvs es).length = es.length * 2 := by
  induction es with
  | nil => rfl
  | cons e r ih =>
    have e9 : rvs (e :: r) = .int .i64 e.2.2.1 :: rvE e :: rvs r := by simp [rvs]
    rw [e9]
    simp [ih]
    omega
theorem rvs_mid (A D : List REnt) (e : REnt) : rvs (A ++ e :: D) = rvs A ++ (.int .i64 e.2.2.1 :: rvE e :: rvs D) := by simp [rvs]
theorem OwnRs.setW {B g n cap : Nat} {w : World} {A D : List REnt} {e : REnt} (h : OwnRs B w (.slice (some ⟨g, 0, none⟩) n cap) (A ++ e :: D)) (hn : (A ++ e :: D).length = n) (q : Int) : OwnRs B (w.setCell ⟨g, A.length * 2, none⟩ (.int .i64 q)) (.slice (some ⟨g, 0, none⟩) n cap) (A ++ (e.1, e.2.1, q, e.2.2.2) :: D) := by
  have hr := h.row
  rw [hn] at hr
  have h1 := hr.stored (A.length * 2) (.int .i64 q)
  rw [rvs_mid, List.set_append_right _ _ (by rw [rvs_len]; exact Nat.le_refl _), rvs_len, Nat.sub_self, List.set_cons_zero] at h1
  refine ⟨?_, fun f hf => ?_, ?_, fun f hf => ?_⟩
  · rw [rvs_mid]
    have h9 := h1.1
    rw [show (A ++ (e.1, e.2.1, q, e.2.2.2) :: D).length = n by rw [← hn]; simp]
    exact h9
  · rw [List.mem_append, List.mem_cons] at hf
    have hk : ∀ f, f ∈ A ++ e :: D → (w.setCell ⟨g, A.length * 2, none⟩ (.int .i64 q)).ownsRow B 3 1 (rvE f) f.2.2.2.length (iv f.2.2.2) := fun f hf => (h.each f hf).kept h1.2 (.inr (by rw [rvE_block]; intro e9; exact h.off f hf (by rw [e9]; rfl)))
    rcases hf with hf | rfl | hf
    · exact hk f (by simp [hf])
    · exact hk e (by simp)
    · exact hk f (by simp [hf])
  · have := h.apart
    rw [List.pairwise_append, List.pairwise_cons] at this ⊢
    exact ⟨this.1, ⟨this.2.1.1, this.2.1.2⟩, fun a ha b hb => by
      rcases List.mem_cons.1 hb with rfl | hb
      · exact this.2.2 a ha e (by simp)
      · exact this.2.2 a ha b (by simp [hb])⟩
  · rw [List.mem_append, List.mem_cons] at hf
    rcases hf with hf | rfl | hf
    · exact h.off f (by simp [hf])
    · exact h.off e (by simp)
    · exact h.off f (by simp [hf])
theorem OwnRs.setR {B : Nat} {w w' : World} {v : Value} {A D : List REnt} {b c : Nat} {z : Int} {x m : List Int} (h : OwnRs B w v (A ++ (b, c, z, x) :: D)) (hg : w.grownBy w' (some b)) (hm : m.length = x.length) (ho : w'.ownsRow B 3 1 (.slice (some ⟨b, 0, none⟩) x.length c) x.length (iv m)) : OwnRs B w' v (A ++ (b, c, z, m) :: D) := by
  have hap := h.apart
  rw [List.pairwise_append, List.pairwise_cons] at hap
  have er : rvE (b, c, z, m) = rvE (b, c, z, x) := by unfold rvE; dsimp only; rw [hm]
  have er2 : rvs (A ++ (b, c, z, m) :: D) = rvs (A ++ (b, c, z, x) :: D) := by rw [rvs_mid, rvs_mid, er]
  refine ⟨?_, fun f hf => ?_, ?_, fun f hf => ?_⟩
  · have h1 := h.row.kept hg (.inr (h.off (b, c, z, x) (by simp)))
    rw [er2]
    simpa using h1
  · rw [List.mem_append, List.mem_cons] at hf
    rcases hf with hf | rfl | hf
    · exact (h.each f (by simp [hf])).kept hg (.inr (by rw [rvE_block]; intro e9; injection e9 with e9; exact hap.2.2 f hf (b, c, z, x) (by simp) e9))
    · show w'.ownsRow B 3 1 (rvE (b, c, z, m)) m.length (iv m)
      rw [er, hm]
      exact ho
    · exact (h.each f (by simp [hf])).kept hg (.inr (by rw [rvE_block]; intro e9; injection e9 with e9; exact hap.2.1.1 f hf e9.symm))
  · rw [List.pairwise_append, List.pairwise_cons]
    exact ⟨hap.1, ⟨hap.2.1.1, hap.2.1.2⟩, fun a ha b' hb => by
      rcases List.mem_cons.1 hb with rfl | hb
      · exact hap.2.2 a ha (b, c, z, x) (by simp)
      · exact hap.2.2 a ha b' (by simp [hb])⟩
  · rw [List.mem_append, List.mem_cons] at hf
    rcases hf with hf | rfl | hf
    · exact h.off f (by simp [hf])
    · exact h.off (b, c, z, x) (by simp)
    · exact h.off f (by simp [hf])

set_option maxHeartbeats 1000000 in
set_option maxRecDepth 100000 in
theorem lMarkRs (B : Nat) (v : Value) (es : List REnt) (k0 : Int) (w : World) (hn : es.length ≤ 4194304) (hx : ∀ e ∈ es, e.2.2.2.length ≤ 4194304) (h0 : 0 ≤ k0) (h1 : k0 + totR es ≤ 1048576) (h : OwnRs B w v es) (hB : B ≤ w.heap.size) :
    Calls Try.prog 41 #[v, .int .i64 k0] w fun e w' => e = .returned (.int .i64 (k0 + totR es)) ∧ OwnRs B w' v (mkR k0 es) ∧ Below B w w' := by
  cases hes : es with
  | nil =>
    subst hes
    have HO := Lib.hid h
    have hv : ∃ av cv, v = .slice av 0 cv := by
      rcases h.row.2 with ⟨rfl, _⟩ | ⟨g, cv, cur, rfl, _⟩
      · exact ⟨_, _, rfl⟩
      · exact ⟨_, _, rfl⟩
    obtain ⟨av, cv, rfl⟩ := hv
    clear h hx
    go_enter Try.func41, Try.ntmps41
    go_wp2
    go_loopw [5, 1] (fun i q wr => i = .int .i64 0 ∧ q = .int .i64 k0 ∧ wr = w) (fun i _ _ => 0 - (intOf i).toNat)
    case atStart => exact ⟨rfl, rfl, rfl⟩
    case round =>
      obtain ⟨rfl, rfl, rfl⟩ := hrel
      go_wp2
      go_ret
      exact ⟨by simp [totR], HO.out, Below.refl _ _⟩
  | cons e0 r0 =>
    rw [← hes]
    have hpos : 0 < es.length := by rw [hes]; simp
    clear hes
    obtain ⟨g, cv, rfl⟩ : ∃ g cap, v = .slice (some ⟨g, 0, none⟩) es.length cap := by
      rcases h.row.2 with ⟨_, h9⟩ | ⟨g, cap, cur, rfl, _⟩
      · omega
      · exact ⟨g, cap, rfl⟩
    have HO := Lib.hid h
    have HXL := Lib.hid (show ∀ k, k < es.length → (es.getD k dR).2.2.2.length ≤ 4194304 from fun k hk => hx _ (ent_memR hk))
    have hgB := (h.row.lt g rfl).1
    generalize hN : es.length = n at *
    have HN := Lib.hid hN
    clear h hN hx
    go_enter Try.func41, Try.ntmps41
    go_wp2
    go_loopw [5, 1] (fun i q wr => ∃ j : Nat, j ≤ n ∧ i = .int .i64 j ∧ q = .int .i64 (k0 + totR (es.take j)) ∧ Hid (OwnRs B wr (.slice (some ⟨g, 0, none⟩) n cv) (mkR k0 (es.take j) ++ es.drop j)) ∧ Below B w wr) (fun i _ _ => n - (intOf i).toNat)
    case atStart => exact ⟨0, by omega, rfl, by simp [totR], by simpa [mkR, Hid] using HO.out, Below.refl _ _⟩
    case round =>
      obtain ⟨j, hj, rfl, rfl, ho, hb⟩ := hrel
      have hsz := hb.size
      have htm := totR_mono es j
      by_cases hlt : j < n
      · have hje : j < es.length := by rw [HN.out]; exact hlt
        have hk0 : (0 : Int) ≤ (j : Int) := by omega
        have hk1 : (j : Int) < (n : Int) := by omega
        have htt := totR_take es j hje
        have htm2 := totR_mono es (j + 1)
        have hmk := mkR_take es j hje k0
        have hxl := HXL.out j hlt
        have hAl : (mkR k0 (es.take j)).length = j := by rw [mkR_length, List.length_take]; omega
        have ho2 := ho.out
        rw [drop_consR es j hje] at ho2
        generalize es.getD j dR = ej at *
        obtain ⟨b, c, z, x⟩ := ej
        dsimp only at htt hmk hxl
        obtain ⟨A, hA⟩ : ∃ A, mkR k0 (es.take j) = A := ⟨_, rfl⟩
        rw [hA] at ho2 hmk hAl
        obtain ⟨D, hD⟩ : ∃ D, es.drop (j + 1) = D := ⟨_, rfl⟩
        rw [hD] at ho2
        obtain ⟨q, hq⟩ : ∃ q : Nat, totR (es.take j) = q := ⟨_, rfl⟩
        rw [hq] at htt hmk htm ⊢
        have hDl : D.length = n - (j + 1) := by rw [← hD, List.length_drop, HN.out]
        have hAD : (A ++ (b, c, z, x) :: D).length = n := by rw [List.length_append, List.length_cons, hAl, hDl]; omega
        have hrow := ho2.row
        rw [hAD] at hrow
        have p0 := hrow.cellAt (j * 2) (by omega)
        have p1 := hrow.cellAt (j * 2 + 1) (by omega)
        rw [rvs_mid, List.getElem?_append_right (by rw [rvs_len, hAl]; exact Nat.le_refl _), rvs_len, hAl, Nat.sub_self] at p0
        rw [rvs_mid, List.getElem?_append_right (by rw [rvs_len, hAl]; omega), rvs_len, hAl, show j * 2 + 1 - j * 2 = 1 by omega] at p1
        change _ = some (Value.int .i64 z) at p0
        change _ = some (Value.slice (some ⟨b, 0, none⟩) x.length c) at p1
        have f0 := hrow.frozenAt (j * 2)
        have hw1 := ho2.setW hAD (k0 + (q : Int))
        rw [hAl] at hw1
        dsimp only at hw1
        have HW1 := Lib.hid hw1
        have hbB := (hw1.lt (e := (b, c, k0 + (q : Int), x)) (by simp)).1
        have p1' : (wr.setCell ⟨g, j * 2, none⟩ (.int .i64 (k0 + (q : Int)))).cell? ⟨g, j * 2 + 1, none⟩ = some (.slice (some ⟨b, 0, none⟩) x.length c) := by
          have h8 := hw1.row
          rw [show (A ++ (b, c, k0 + (q : Int), x) :: D).length = n by rw [← hAD]; simp] at h8
          have h9 := h8.cellAt (j * 2 + 1) (by omega)
          rw [rvs_mid, List.getElem?_append_right (by rw [rvs_len, hAl]; omega), rvs_len, hAl, show j * 2 + 1 - j * 2 = 1 by omega] at h9
          exact h9
        have HB1 := Lib.hid (hb.setCell (p := ⟨g, j * 2, none⟩) hgB (.int .i64 (k0 + (q : Int))))
        have HTT := Lib.hid htt
        have HMK := Lib.hid hmk
        have HAD := Lib.hid (And.intro hA hD)
        have hq1 : k0 + (q : Int) + 1 ≤ 1048576 := by omega
        have hwq : IntKind.i64.wrap (k0 + (q : Int) + 1) = k0 + (q : Int) + 1 := IntWalk.i64_in _ (by omega)
        clear ho ho2 hw1 htt hmk hA hD hq hb p1 hrow hAD hDl
        go_wp2_with fail
        generalize (wr.setCell ⟨g, j * 2, none⟩ (.int .i64 (k0 + (q : Int)))) = w1 at *
        refine (lMarkI B (.slice (some ⟨b, 0, none⟩) x.length c) x (k0 + (q : Int) + 1) w1 hxl (by omega) (by omega) (HW1.out.each (b, c, k0 + (q : Int), x) (by simp))).mono ?_
        rintro e w2 ⟨rfl, hown2, hg2⟩
        have HO2 := Lib.hid (show OwnRs B w2 (.slice (some ⟨g, 0, none⟩) n cv) (mkR k0 (es.take (j + 1)) ++ es.drop (j + 1)) from by
          rw [HMK.out, HAD.out.2, List.append_assoc]
          exact HW1.out.setR hg2 (marksI_length _ _) hown2)
        have HB2 := Lib.hid (HB1.out.grown hg2 (Nat.le_trans hB HB1.out.size) (fun i hi => by cases hi; exact hbB))
        have hqq : k0 + (q : Int) + 1 + (x.length : Int) = k0 + (totR (es.take (j + 1)) : Int) := by rw [HTT.out]; omega
        rw [hqq]
        clear hown2 hg2 hqq HMK HTT HW1 HB1 HAD p0 p1' f0
        go_wp2
        go_roundw
        case rel => exact ⟨j + 1, by omega, by go_num, rfl, HO2.out, HB2.out⟩
        case measure => simp [intOf]; omega
      · obtain rfl : j = n := by omega
        have e1 : es.take j = es := List.take_of_length_le (by rw [HN.out]; exact Nat.le_refl _)
        have e2 : es.drop j = [] := List.drop_eq_nil_of_le (by rw [HN.out]; exact Nat.le_refl _)
        have ho2 := ho.out
        rw [e1, e2, List.append_nil] at ho2
        rw [e1]
        have HR := Lib.hid ho2
        clear ho ho2 e1 e2
        go_wp2
        go_ret
        exact ⟨rfl, HR.out, hb⟩

set_option maxHeartbeats 1000000 in
set_option maxRecDepth 100000 in
theorem lHeldRs (B : Nat) (v : Value) (es : List REnt) (k0 : Int) (w : World) (hn : es.length ≤ 4194304) (hx : ∀ e ∈ es, e.2.2.2.length ≤ 4194304) (h0 : 0 ≤ k0) (h1 : k0 + totR es ≤ 1048576) (hr : RsRd B w v ((mkR k0 es).map wR) ((mkR k0 es).map kR)) (hB : B ≤ w.heap.size) :
    Calls Try.prog 42 #[v, .int .i64 k0] w fun e w' => e = .returned (.int .i64 (k0 + totR es)) ∧ Below w.heap.size w w' := by
  obtain ⟨_, a1, c1, rfl, hr1⟩ := hr
  rw [List.length_map, mkR_length] at hr1 ⊢
  have H1 := Lib.hid hr1
  have HXL := Lib.hid (show ∀ k, k < es.length → (es.getD k dR).2.2.2.length ≤ 4194304 from fun k hk => hx _ (ent_memR hk))
  generalize hN : es.length = n at *
  have HN := Lib.hid hN
  clear hr1 hN hx
  go_enter Try.func42, Try.ntmps42
  go_wp2
  go_loopw [5, 1] (fun i q wr => ∃ j : Nat, j ≤ n ∧ i = .int .i64 j ∧ q = .int .i64 (k0 + totR (es.take j)) ∧ Below w.heap.size w wr) (fun i _ _ => n - (intOf i).toNat)
  case atStart => exact ⟨0, by omega, rfl, by simp [totR], Below.refl _ _⟩
  case round =>
    obtain ⟨j, hj, rfl, rfl, hb⟩ := hrel
    have hsz := hb.size
    have htm := totR_mono es j
    by_cases hlt : j < n
    · have hje : j < es.length := by rw [HN.out]; exact hlt
      obtain ⟨g1, rfl, hg1, hs1⟩ := H1.out (by omega)
      obtain ⟨p0, u, p1, hi⟩ := hs1 j hlt
      obtain ⟨m1, m2⟩ := mkR_get es j hje k0
      rw [m1] at p0
      rw [m2] at hi
      have hbB := hb.mono hB
      have p0' := (hbB.cell (p := ⟨g1, j * 2, none⟩) hg1).trans p0
      have p1' := (hbB.cell (p := ⟨g1, j * 2 + 1, none⟩) hg1).trans p1
      have HI := Lib.hid (hi.on hbB)
      have hBr := Nat.le_trans hB hsz
      have hk0 : (0 : Int) ≤ (j : Int) := by omega
      have hk1 : (j : Int) < (n : Int) := by omega
      have htt := totR_take es j hje
      have htm2 := totR_mono es (j + 1)
      have hxl := HXL.out j hlt
      obtain ⟨m, hm⟩ : ∃ m, (es.getD j dR).2.2.2.length = m := ⟨_, rfl⟩
      rw [hm] at HI htt hxl
      have HTT := Lib.hid htt
      obtain ⟨q, hq⟩ : ∃ q : Nat, totR (es.take j) = q := ⟨_, rfl⟩
      rw [hq] at p0' HI htm HTT htt ⊢
      have hq1 : k0 + (q : Int) + 1 ≤ 1048576 := by omega
      have hnq : ((k0 + (q : Int)) != (k0 + (q : Int))) = false := by simp
      have hwq : IntKind.i64.wrap (k0 + (q : Int) + 1) = k0 + (q : Int) + 1 := IntWalk.i64_in _ (by omega)
      have hge : ¬ (k0 + (q : Int) + 1 + (m : Int) < 0) := by omega
      clear hs1 hi p0 p1 m1 m2 hbB hm hq htt
      go_wp2_with fail
      refine (lHeldI B m u (k0 + (q : Int) + 1) wr hxl (by omega) (by omega) HI.out hBr).mono ?_
      rintro e w2 ⟨rfl, hb2⟩
      have HB2 := Lib.hid (hb.trans (hb2.mono hsz))
      have hqq : k0 + (q : Int) + 1 + (m : Int) = k0 + (totR (es.take (j + 1)) : Int) := by rw [HTT.out]; omega
      rw [hqq] at hge ⊢
      clear hb hb2 HTT hqq p0' p1' HI
      go_wp2
      go_roundw
      case rel => exact ⟨j + 1, by omega, by go_num, rfl, HB2.out⟩
      case measure => simp [intOf]; omega
    · obtain rfl : j = n := by omega
      have e1 : es.take j = es := List.take_of_length_le (by rw [HN.out]; exact Nat.le_refl _)
      rw [e1]
      go_wp2
      go_ret
      exact ⟨rfl, hb⟩
end

end Go.Proofs.Ytbfopdflkkcfaaa
