/-
  Shapes turned and compared, in the model.
  Lists of shapes in the model: what is put in order.
-/
import Derived.Test.YtkcclhnligajeaaGreatDoorVat
import Derived.Test.YtkcclhnligajeaaGreatDoorVap
namespace Go.Proofs.YtkcclhnligajeaaGreatDoor

section
open Go.RowKit

theorem inb_out2 {x lo hi : Int} (h : inb x lo hi = true) : lo ≤ x ∧ x ≤ hi := by
  unfold inb at h
  simpa using h
theorem turnS_yes {m : Nat} {l : List Cl} (h : isShape l = true) (hm : m ≤ 7) : turnS (m : Int) l = turnC m l ∧ (isShape l && inb (m : Int) 0 7) = true := by
  have e : (isShape l && inb (m : Int) 0 7) = true := by simp [h, inb]; omega
  exact ⟨by unfold turnS; rw [if_pos e]; rfl, e⟩
theorem turnS_no {m : Int} {l : List Cl} (h : (isShape l && inb m 0 7) = false) : turnS m l = [] := if_neg (by rw [h]; simp)

theorem ret_I {a b : Int} (h : a = b) : Ending.returned (.int .i64 a) = .returned (.int .i64 b) := by rw [h]
theorem sBeforeG (x y u v : Int) (w : World) : Calls Tryz.prog 115 #[.agg #[.int .i64 x, .int .i64 y], .agg #[.int .i64 u, .int .i64 v]] w fun e w' => e = .returned (.bool (bef (x, y) (u, v))) ∧ ∃ q os', w' = Go.Sort.grow (w.drewN q) os' := by
  unfold bef
  dsimp only
  by_cases h1 : y < v
  · go_enter Tryz.func115, Tryz.ntmps115
    go_wp2
    go_ret
    exact ⟨by simp [h1], 0, _, by rw [Go.Sort.alloc_eq_grow, Go.Sort.alloc_eq_grow, Go.Sort.grow_grow]; rfl⟩
  · by_cases h2 : y = v
    · subst h2
      by_cases h3 : x < u
      · go_enter Tryz.func115, Tryz.ntmps115
        go_wp2
        go_ret
        exact ⟨by simp, 0, _, by rw [Go.Sort.alloc_eq_grow, Go.Sort.alloc_eq_grow, Go.Sort.grow_grow]; rfl⟩
      · go_enter Tryz.func115, Tryz.ntmps115
        go_wp2
        go_ret
        exact ⟨by simp [h3], 0, _, by rw [Go.Sort.alloc_eq_grow, Go.Sort.alloc_eq_grow, Go.Sort.grow_grow]; rfl⟩
    · have e2 : (y == v) = false := by simp [h2]
      go_enter Tryz.func115, Tryz.ntmps115
      go_wp2
      go_ret
      exact ⟨by simp [h1], 0, _, by rw [Go.Sort.alloc_eq_grow, Go.Sort.alloc_eq_grow, Go.Sort.grow_grow]; rfl⟩

theorem cmpS_lens {l r : List Cl} (h : l.length = r.length) : cmpS l r = cmpL (l.drop 0) (r.drop 0) := by
  unfold cmpS
  rw [if_neg (by omega), if_neg (by omega)]
  rfl

set_option maxHeartbeats 2000000 in
set_option maxRecDepth 100000 in
theorem sCompare (B n m c1 c2 : Nat) (a1 a2 : Option Addr) (l r : List Cl) (w : World) (hn : n ≤ 4194304) (hm : m ≤ 4194304) (h1 : CellsAt B w a1 n l) (h2 : CellsAt B w a2 m r) (hB : B ≤ w.heap.size) :
    Calls Tryz.prog 179 #[.slice a1 n c1, .slice a2 m c2] w fun e w' => e = .returned (.int .i64 (cmpS l r)) ∧ Below w.heap.size w w' := by
  have H1 := Lib.hid h1
  have H2 := Lib.hid h2
  clear h1 h2
  by_cases hd : n = m
  · subst hd
    have hne : (((n : Nat) : Int) != (n : Int)) = false := by simp
    have HC := Lib.hid (cmpS_lens (l := l) (r := r) (by rw [H1.out.1, H2.out.1]))
    go_enter Tryz.func179, Tryz.ntmps179
    go_wp2
    go_loopw [5] (fun i wr => ∃ k : Nat, k ≤ n ∧ i = .int .i64 k ∧ Hid (cmpS l r = cmpL (l.drop k) (r.drop k)) ∧ Below w.heap.size w wr) (fun i _ => n - (intOf i).toNat)
    case atStart => exact ⟨0, by omega, rfl, HC, Below.refl _ _⟩
    case round =>
      obtain ⟨k, hk, rfl, hsame, hb⟩ := hrel
      have hsz := hb.size
      by_cases hlt : k < n
      · obtain ⟨b1, o1, rfl, hb1, hc1⟩ := H1.out.2.2 (by omega)
        obtain ⟨b2, o2, rfl, hb2, hc2⟩ := H2.out.2.2 (by omega)
        obtain ⟨x, y, hxy⟩ : ∃ x y, l.getD k (0, 0) = (x, y) := ⟨_, _, rfl⟩
        obtain ⟨u, v, huv⟩ : ∃ u v, r.getD k (0, 0) = (u, v) := ⟨_, _, rfl⟩
        have p1 := (hb.cell (p := ⟨b1, o1 + k * 2, none⟩) (Nat.lt_of_lt_of_le hb1 hB)).trans (hc1 k hlt).1
        have p2 := (hb.cell (p := ⟨b1, o1 + k * 2 + 1, none⟩) (Nat.lt_of_lt_of_le hb1 hB)).trans (hc1 k hlt).2
        have q1 := (hb.cell (p := ⟨b2, o2 + k * 2, none⟩) (Nat.lt_of_lt_of_le hb2 hB)).trans (hc2 k hlt).1
        have q2 := (hb.cell (p := ⟨b2, o2 + k * 2 + 1, none⟩) (Nat.lt_of_lt_of_le hb2 hB)).trans (hc2 k hlt).2
        rw [hxy] at p1 p2
        rw [huv] at q1 q2
        have hdrop := cmpL_drop (l := l) (r := r) (by rw [H1.out.1, H2.out.1]) k (by rw [H1.out.1]; exact hlt)
        rw [hxy, huv] at hdrop
        have HDR := Lib.hid (hsame.out.trans hdrop)
        have hbl1 : b1 < wr.heap.size := by omega
        have hbl2 : b2 < wr.heap.size := by omega
        have hk0 : (0 : Int) ≤ (k : Int) := by omega
        have hk1 : (k : Int) < (n : Int) := by omega
        have hE := neq_cell x y u v
        have hG := cell_guard
        clear hc1 hc2 hxy huv hdrop hsame
        by_cases heq : x = u ∧ y = v
        · obtain ⟨rfl, rfl⟩ := heq
          rw [if_pos rfl] at HDR
          have hsc : sameC (x, y) (x, y) = true := by simp [sameC]
          rw [hsc] at hE
          clear hsc
          go_wp2_with fail
          go_quiet (fail)
          go_wp2_with fail
          go_roundw
          case rel => exact ⟨k + 1, by omega, by go_num, HDR, below_drewn hb _⟩
          case measure => simp [intOf]; omega
        · rw [if_neg (fun e => heq (by injection e with e1 e2; exact ⟨e1, e2⟩))] at HDR
          have hsc : sameC (x, y) (u, v) = false := by unfold sameC; rw [Bool.eq_false_iff]; intro h; apply heq; simpa using h
          rw [hsc] at hE
          clear hsc heq
          go_wp2_with fail
          go_quiet (fail)
          go_wp2_with fail
          have hBG : ∀ n os, Calls Tryz.prog 115 #[.agg #[.int .i64 x, .int .i64 y], .agg #[.int .i64 u, .int .i64 v]] (Go.Sort.grow ((wr.drewN nq).drewN n) os) fun e w'' => e = .returned (.bool (bef (x, y) (u, v))) ∧ ∃ q os', w'' = Go.Sort.grow ((Go.Sort.grow ((wr.drewN nq).drewN n) os).drewN q) os' := fun n os => sBeforeG x y u v _
          have g1 := cell_grown (w := wr.drewN nq) hbl1 p1
          have g2 := cell_grown (w := wr.drewN nq) hbl1 p2
          have g3 := cell_grown (w := wr.drewN nq) hbl2 q1
          have g4 := cell_grown (w := wr.drewN nq) hbl2 q2
          have hmix : Tryz.prog.follows .mixedOrders = true := by kernel_rfl
          have HBD := Lib.hid (below_drewn hb nq)
          obtain ⟨wd, hwd⟩ : ∃ wd, wr.drewN nq = wd := ⟨_, rfl⟩
          rw [hwd] at hBG g1 g2 g3 g4 HBD ⊢
          have hszd : w.heap.size ≤ wd.heap.size := HBD.out.size
          clear hE hG hb hwd hbl1 hbl2 p1 p2 q1 q2
          refine wp_region_quiet_grown hmix (by kernel_rfl) ?_
          repeat (first | (go_big_quiet_step (first | (go_at_call 115; refine Calls.grown_of (hBG _ _)))) | (quiet_step (first | (go_at_call 115; refine Calls.grown_of (hBG _ _)))))
          refine wpQuiet_nil ?_
          intro _ hw'
          obtain ⟨⟨nq2, osq⟩, hw''⟩ := hw'
          subst hw''
          have hbw : Below wd.heap.size wd (Go.Sort.grow (wd.drewN nq2) osq) := ⟨rfl, rfl, rfl, by simp, fun k hk => Go.Sort.heap_grow_old _ _ hk⟩
          have HBB := Lib.hid (HBD.out.trans (hbw.mono hszd))
          clear hbw g1 g2 g3 g4 hBG
          cases hbf : bef (x, y) (u, v) with
          | true =>
            rw [hbf] at HDR
            have HR := Lib.hid (show cmpS l r = -1 from HDR.out)
            go_wp2
            go_ret
            exact ⟨ret_I HR.out.symm, HBB.out⟩
          | false =>
            rw [hbf] at HDR
            have HR := Lib.hid (show cmpS l r = 1 from HDR.out)
            go_wp2
            go_ret
            exact ⟨ret_I HR.out.symm, HBB.out⟩
      · obtain rfl : k = n := by omega
        have e0 : cmpL (l.drop k) (r.drop k) = 0 := by rw [List.drop_eq_nil_of_le (by rw [H1.out.1]; exact Nat.le_refl _)]; unfold cmpL; rfl
        have HSM := Lib.hid (hsame.out.trans e0)
        clear hsame e0
        go_wp2
        go_ret
        exact ⟨ret_I HSM.out.symm, hb⟩
  · have hne : (((n : Nat) : Int) != (m : Int)) = true := by simp; omega
    by_cases hl : n < m
    · have HC : Hid (cmpS l r = -1) := by unfold cmpS; rw [if_pos (by rw [H1.out.1, H2.out.1]; exact hl)]; exact rfl
      rw [HC.out]
      go_enter Tryz.func179, Tryz.ntmps179
      go_wp2
      go_ret
      exact ⟨rfl, Below.refl _ _⟩
    · have HC : Hid (cmpS l r = 1) := by unfold cmpS; rw [if_neg (by rw [H1.out.1, H2.out.1]; exact hl), if_pos (by rw [H1.out.1, H2.out.1]; omega)]; exact rfl
      rw [HC.out]
      go_enter Tryz.func179, Tryz.ntmps179
      go_wp2
      go_ret
      exact ⟨rfl, Below.refl _ _⟩
end

section
open Go.RowKit

/-- A slice value that reads as a list of cells. -/
def SlAt (B : Nat) (w : World) (v : Value) (l : List Cl) : Prop := ∃ a cap, v = .slice a l.length cap ∧ CellsAt B w a l.length l ∧ l.length ≤ 4194304
theorem SlAt.on {B : Nat} {w w' : World} {v : Value} {l : List Cl} (h : SlAt B w v l) (hb : Below B w w') : SlAt B w' v l := by
  obtain ⟨a, cap, e, hc, hn⟩ := h
  exact ⟨a, cap, e, hc.on hb, hn⟩
theorem SlAt.more {B B' : Nat} {w : World} {v : Value} {l : List Cl} (h : SlAt B w v l) (hB : B ≤ B') : SlAt B' w v l := by
  obtain ⟨a, cap, e, hc, hn⟩ := h
  exact ⟨a, cap, e, hc.more hB, hn⟩
/-- The cells of a block that read as a list of shapes. -/
def SsAt (B : Nat) (w : World) (g : Nat) (vs : List Value) (L : List (List Cl)) : Prop := g < B ∧ vs.length = L.length ∧ (∀ k, k < L.length → w.cell? ⟨g, k, none⟩ = vs[k]?) ∧ ∀ (k : Nat) (v : Value) (l : List Cl), vs[k]? = some v → L[k]? = some l → SlAt B w v l
theorem SsAt.on {B g : Nat} {w w' : World} {vs : List Value} {L : List (List Cl)} (h : SsAt B w g vs L) (hb : Below B w w') : SsAt B w' g vs L :=
  ⟨h.1, h.2.1, fun k hk => (hb.cell (p := ⟨g, k, none⟩) h.1).trans (h.2.2.1 k hk), fun k v l hv hl => (h.2.2.2 k v l hv hl).on hb⟩
theorem SsAt.more {B B' g : Nat} {w : World} {vs : List Value} {L : List (List Cl)} (h : SsAt B w g vs L) (hB : B ≤ B') : SsAt B' w g vs L :=
  ⟨Nat.lt_of_lt_of_le h.1 hB, h.2.1, h.2.2.1, fun k v l hv hl => (h.2.2.2 k v l hv hl).more hB⟩
theorem SsAt.get {B g : Nat} {w : World} {vs : List Value} {L : List (List Cl)} (h : SsAt B w g vs L) {k : Nat} (hk : k < L.length) : ∃ a cap, w.cell? ⟨g, k, none⟩ = some (.slice a (L.getD k []).length cap) ∧ CellsAt B w a (L.getD k []).length (L.getD k []) ∧ (L.getD k []).length ≤ 4194304 := by
  have h1 := h.2.2.1 k hk
  have h2 : vs[k]? = some (vs[k]'(by rw [h.2.1]; exact hk)) := List.getElem?_eq_getElem _
  have h3 : L[k]? = some (L.getD k []) := by simp [List.getD, hk]
  obtain ⟨a, cap, e, hc, hn⟩ := h.2.2.2 k _ _ h2 h3
  exact ⟨a, cap, by rw [h1, h2, e], hc, hn⟩
theorem SsAt.one {B g : Nat} {w : World} {vs : List Value} {L : List (List Cl)} (h : SsAt B w g vs L) : ∀ u ∈ vs, u.oneCell' = true := by
  intro u hu
  obtain ⟨k, hk, rfl⟩ := List.getElem_of_mem hu
  have hk2 : k < L.length := by rw [← h.2.1]; exact hk
  obtain ⟨a, cap, e, _⟩ := h.2.2.2 k _ _ (List.getElem?_eq_getElem hk) (List.getElem?_eq_getElem hk2)
  rw [e]
  rfl
theorem get_ins {α : Type} (l : List α) (x : α) (j k : Nat) (hj : j ≤ l.length) : (l.take j ++ [x] ++ l.drop j)[k]? = if k < j then l[k]? else if k = j then some x else l[k - 1]? := by
  have hl : (l.take j).length = j := by rw [List.length_take]; omega
  by_cases h1 : k < j
  · rw [if_pos h1, List.append_assoc, List.getElem?_append_left (by omega), List.getElem?_take, if_pos h1]
  · rw [if_neg h1]
    by_cases h2 : k = j
    · subst h2
      rw [if_pos rfl, List.append_assoc, List.getElem?_append_right (by omega), hl]
      simp
    · rw [if_neg h2, List.getElem?_append_right (by simp; omega), List.getElem?_drop]
      congr 1
      simp
      omega
theorem LiesV.on {w w' : World} {b off B : Nat} {l : List Value} (h : LiesV w ⟨b, off, none⟩ l) (hb : Below B w w') (hlt : b < B) : LiesV w' ⟨b, off, none⟩ l := fun j u hj => by
  rw [add_at]
  have := h j u hj
  rw [add_at] at this
  exact (hb.cell (p := ⟨b, off + j, none⟩) hlt).trans this
theorem SsAt.lies {B g : Nat} {w : World} {vs : List Value} {L : List (List Cl)} (h : SsAt B w g vs L) (k m : Nat) : LiesV w ⟨g, k, none⟩ ((vs.drop k).take m) := by
  intro j u hj
  rw [add_at]
  rw [List.getElem?_take] at hj
  split at hj
  · rw [List.getElem?_drop] at hj
    have hlt := (List.getElem?_eq_some_iff.1 hj).1
    rw [h.2.2.1 (k + j) (by rw [← h.2.1]; exact hlt), hj]
  · cases hj
/-- A shape put between. -/
theorem ss_ins {B g g3 c3 j N : Nat} {w w3 : World} {vs : List Value} {sv : Value} {L : List (List Cl)} {s : List Cl} {t : TypeId} {b3 : Nat} (h : SsAt B w g vs L) (hs : SlAt B w sv s) (hj : j ≤ L.length) (hB : B ≤ w.heap.size) (hb : Below w.heap.size w w3)
    (hown : w3.ownsRow b3 t 1 (.slice (some ⟨g3, 0, none⟩) N c3) N (vs.take j ++ [sv] ++ vs.drop j)) : SsAt w3.heap.size w3 g3 (vs.take j ++ [sv] ++ vs.drop j) (L.take j ++ [s] ++ L.drop j) := by
  have hl : (vs.take j ++ [sv] ++ vs.drop j).length = (L.take j ++ [s] ++ L.drop j).length := by simp [h.2.1]
  refine ⟨(hown.lt g3 rfl).2, hl, fun k hk => ?_, fun k v l hv hl2 => ?_⟩
  · exact hown.cellAt k (by have h9 := hown.1; rw [hl] at h9; omega)
  · rw [get_ins _ _ _ _ (by rw [h.2.1]; exact hj)] at hv
    rw [get_ins _ _ _ _ hj] at hl2
    have hsz := hb.size
    split at hv
    · rename_i h1
      rw [if_pos h1] at hl2
      exact ((h.2.2.2 k v l hv hl2).on (hb.mono hB)).more (Nat.le_trans hB hsz)
    · rename_i h1
      rw [if_neg h1] at hl2
      split at hv
      · rename_i h2
        rw [if_pos h2] at hl2
        injection hv with hv
        injection hl2 with hl2
        subst hv hl2
        exact (hs.on (hb.mono hB)).more (Nat.le_trans hB hsz)
      · rename_i h2
        rw [if_neg h2] at hl2
        exact ((h.2.2.2 (k - 1) v l hv hl2).on (hb.mono hB)).more (Nat.le_trans hB hsz)
theorem own_lit_s {w : World} {B N : Nat} (h : w.heap.size = N) (hB : B ≤ N) : (w.alloc (.cells #[] 76)).ownsRow B 76 1 (.slice (some ⟨N, 0, none⟩) 0 0) 0 [] := by subst h; exact World.ownsRow_lit (base := B) (e := 76) (size := 1) w #[] 0 hB (by simp [maxLen]) rfl
/-- A list of shapes comes back. -/
def GivesSs (w : World) (L : List (List Cl)) (e : Ending) (w' : World) : Prop := ∃ g cap vs, e = .returned (.slice (some ⟨g, 0, none⟩) L.length cap) ∧ L.length ≤ cap ∧ SsAt w'.heap.size w' g vs L ∧ Below w.heap.size w w'

theorem posG_step {x : List Cl} {o : List (List Cl)} {k : Nat} (h : ltS x (o.getD k []) = true) : posG ltS [] x o (k + 1) = posG ltS [] x o k := if_pos h
theorem posG_stop {x : List Cl} {o : List (List Cl)} {k : Nat} (h : ltS x (o.getD k []) = false) : posG ltS [] x o (k + 1) = k + 1 := if_neg (by rw [h]; simp)
theorem insG_yes {x : List Cl} {o : List (List Cl)} {k : Nat} (hp : posG ltS [] x o o.length = k) (h : 0 < k ∧ o.getD (k - 1) [] = x) : insG ltS [] o x = o := by
  unfold insG
  rw [hp, if_pos h]
theorem insG_no {x : List Cl} {o : List (List Cl)} {k : Nat} (hp : posG ltS [] x o o.length = k) (h : ¬ (0 < k ∧ o.getD (k - 1) [] = x)) : insG ltS [] o x = o.take k ++ [x] ++ o.drop k := by
  unfold insG
  rw [hp, if_neg h]

theorem own_cap_s {w : World} {B n g cap : Nat} {t : TypeId} {xs : List Value} (h : w.ownsRow B t 1 (.slice (some ⟨g, 0, none⟩) n cap) n xs) : n ≤ cap := by
  rcases h.2 with ⟨e, _⟩ | ⟨g', cap', cur, e, _, _, h1, _⟩
  · cases e
  · injection e with _ _ e3
    omega

set_option maxHeartbeats 4000000 in
set_option maxRecDepth 100000 in
theorem sPut (B g n cap c2 : Nat) (a2 : Option Addr) (vs : List Value) (L : List (List Cl)) (s : List Cl) (w : World) (hn : L.length = n) (hn2 : n ≤ 1000000) (hcap : n ≤ cap) (hL : SsAt B w g vs L) (hm : s.length ≤ 4194304) (hs : CellsAt B w a2 s.length s) (hB : B ≤ w.heap.size) :
    Calls Tryz.prog 158 #[.slice (some ⟨g, 0, none⟩) n cap, .slice a2 s.length c2] w (GivesSs w (insG ltS [] L s)) := by
  have HL := Lib.hid hL
  have HS := Lib.hid hs
  have hg := hL.1
  clear hL hs
  go_enter Tryz.func158, Tryz.ntmps158
  go_wp2
  go_loopw [5] (fun q wi => ∃ j : Nat, j ≤ n ∧ q = .int .i64 j ∧ Hid (posG ltS [] s L n = posG ltS [] s L j) ∧ Below w.heap.size w wi) (fun q _ => (intOf q).toNat)
  case atStart => exact ⟨n, Nat.le_refl _, rfl, rfl, Below.refl _ _⟩
  case round =>
    obtain ⟨j, hj, rfl, hpos, hbi⟩ := hrel
    have hszi := hbi.size
    by_cases hj0 : 0 < j
    · obtain ⟨a3, c3, hcell, hc3, hn3⟩ := (HL.out.on (hbi.mono hB)).get (k := j - 1) (by omega)
      obtain ⟨t, ht⟩ : ∃ t, L.getD (j - 1) [] = t := ⟨_, rfl⟩
      rw [ht] at hc3 hn3 hcell
      have HT := Lib.hid ht
      have HC3 := Lib.hid hc3
      have hj1 : (1 : Int) ≤ (j : Int) := by omega
      have hj2 : (j : Int) - 1 < (n : Int) := by omega
      have hj3 : (0 : Int) ≤ (j : Int) - 1 := by omega
      have hj4 : ((j : Int) - 1).toNat = j - 1 := by omega
      have hjw : IntKind.i64.wrap ((j : Int) - 1) = (j : Int) - 1 := IntWalk.i64_in _ (by omega)
      clear ht hc3
      go_wp2_with fail
      refine (sCompare B s.length t.length c2 c3 a2 a3 s t wr hm hn3 (HS.out.on (hbi.mono hB)) HC3.out (Nat.le_trans hB hszi)).mono ?_
      rintro e w1 ⟨rfl, hb1⟩
      have HB1 := Lib.hid (hbi.trans (hb1.mono hszi))
      by_cases hcmp : cmpS s t < 0
      · have hp2 : posG ltS [] s L n = posG ltS [] s L (j - 1) := by
          have e := posG_step (x := s) (o := L) (k := j - 1) (by rw [HT.out]; unfold ltS; simpa using hcmp)
          rw [show j - 1 + 1 = j by omega] at e
          rw [hpos.out, e]
        have HP2 := Lib.hid hp2
        clear hp2
        go_wp2
        go_roundw
        case rel => exact ⟨j - 1, by omega, by congr 1; omega, HP2.out, HB1.out⟩
        case measure => simp [intOf]; omega
      · have hp2 : posG ltS [] s L L.length = j := by
          have e := posG_stop (x := s) (o := L) (k := j - 1) (by rw [HT.out]; unfold ltS; simpa using hcmp)
          rw [show j - 1 + 1 = j by omega] at e
          rw [hn, hpos.out, e]
        have HP2 := Lib.hid hp2
        have hcell1 := (hb1.cell (p := ⟨g, j - 1, none⟩) (by show g < _; omega)).trans hcell
        clear hp2 hcell
        go_wp2_with fail
        refine (sEqual_any B t.length s.length c3 c2 a3 a2 t s w1 hn3 hm (HC3.out.on (hb1.mono (Nat.le_trans hB hszi))) (HS.out.on (HB1.out.mono hB)) (Nat.le_trans hB HB1.out.size)).mono ?_
        rintro e w2 ⟨rfl, hb2⟩
        have HB2 := Lib.hid (HB1.out.trans (hb2.mono HB1.out.size))
        by_cases hts : t = s
        · have he : insG ltS [] L s = L := insG_yes HP2.out ⟨hj0, by rw [HT.out]; exact hts⟩
          have hq : eqb t s = true := by simp [eqb, hts]
          have HR := Lib.hid (show GivesSs w (insG ltS [] L s) (.returned (.slice (some ⟨g, 0, none⟩) n cap)) w2 from by
            rw [he]
            exact ⟨g, cap, vs, by rw [hn], by omega, (HL.out.on (HB2.out.mono hB)).more (Nat.le_trans hB HB2.out.size), HB2.out⟩)
          clear he hcell1
          rw [hq]
          go_wp2
          go_ret
          exact HR.out
        · have he : insG ltS [] L s = L.take j ++ [s] ++ L.drop j := insG_no HP2.out (fun h => hts (by rw [← HT.out]; exact h.2))
          have hq : eqb t s = false := by simp [eqb, hts]
          have HE := Lib.hid he
          rw [hq]
          clear he hcell1 hq
          go_wp2_with fail
          clear hj1 hj2 hj3 hj4 hjw hcmp hts hn3 hb1 hb2 HC3 HT HB1 hbi hszi HP2 hpos
          obtain ⟨WW, rfl⟩ : ∃ x, x = w2 := ⟨_, rfl⟩
          have hszW := HB2.out.size
          have hSS := (HL.out.on (HB2.out.mono hB)).more (Nat.le_trans hB hszW)
          have HSS := Lib.hid hSS
          have HSV := Lib.hid (show SlAt WW.heap.size WW (.slice a2 s.length c2) s from ⟨a2, c2, rfl, (HS.out.on (HB2.out.mono hB)).more (Nat.le_trans hB hszW), hm⟩)
          have HONE := Lib.hid hSS.one
          have hgW := hSS.1
          have hvl : vs.length = n := by rw [hSS.2.1, hn]
          have HL1 := Lib.hid (show LiesV WW ⟨g, 0, none⟩ (vs.take j) from by have h9 := hSS.lies 0 j; simpa using h9)
          have hl2 : LiesV WW ⟨g, j, none⟩ (vs.drop j) := by have h9 := hSS.lies j (n - j); rw [List.take_of_length_le (by rw [List.length_drop, hvl]; exact Nat.le_refl _)] at h9; exact h9
          obtain ⟨bo, haj, hl3⟩ : ∃ bo : Nat, (if cap = j then some (⟨g, 0, none⟩ : Addr) else some ⟨g, j, none⟩) = some ⟨g, bo, none⟩ ∧ LiesV WW ⟨g, bo, none⟩ (vs.drop j) := by
            by_cases hcj : cap = j
            · refine ⟨0, if_pos hcj, ?_⟩
              rw [List.drop_of_length_le (by rw [hvl]; omega)]
              intro q u9 hq
              simp at hq
            · exact ⟨j, if_neg hcj, hl2⟩
          have HAJ := Lib.hid haj
          have HL2 := Lib.hid hl3
          have HVL := Lib.hid hvl
          have hjm : (j : Int) ≤ (n : Int) := by omega
          have hj00 : (0 : Int) ≤ (j : Int) := by omega
          have hjc : (j : Int) ≤ (cap : Int) := by omega
          have hmc : (n : Int) ≤ (cap : Int) := by omega
          clear haj hl2 hl3 hSS hvl
          go_region_held3 (fun w' => Held WW w')
            (first | (unfold Held; repeat' (first | exact Below.refl _ _ | exact hbS3 | exact hbS2 | exact hbS1 | refine Below.drew ?_ | refine Below.alloc ?_ ?_ _ | exact Nat.le_refl _ | exact hbS3.size | exact hbS2.size | exact hbS1.size | (simp; omega) | (simp; done))))
            (first | (refine step_shps rfl _ _ rfl WW.heap.size _ 0 0 [] ⟨g, 0, none⟩ j cap (vs.take j) rfl rfl ?a1 (by rw [List.length_take, HVL.out]; omega) ?a3 (fun u hu => HONE.out u (List.mem_of_mem_take hu)) (by omega) ?a5 _ rfl ?_; (case a1 => (first | exact own_lit_s (w := WW) rfl (Nat.le_refl _) | exact (own_lit_s (w := WW) rfl (Nat.le_refl _)).alloc _ | exact own_lit_s (w := WW.alloc _) (by simp) (by simp))); (case a3 => (refine LiesV.on HL1.out ?_ hgW; (repeat' (first | exact Below.refl _ _ | exact hbS2 | exact hbS1 | refine Below.drew ?_ | refine Below.alloc ?_ ?_ _ | exact Nat.le_refl _ | exact hbS2.size | exact hbS1.size | (have h9 := hbS1.size; simp; omega) | (simp; omega) | (simp; done))))); (case a5 => (first | (simp; done) | (simp; omega))); intro g1 c1 w1 hown1 hgrow1 hat1 hgb1 hlt1; (simp only [Nat.zero_add, List.nil_append] at hown1); have hbS1 : Below WW.heap.size WW w1 := by (refine Below.grown (w := _) ?_ hgrow1 ?_ (fun k hk => by cases hk; first | exact Nat.le_refl _ | (simp; done) | (simp; omega)) <;> (repeat' (first | exact Below.refl _ _ | exact hbS2 | exact hbS1 | refine Below.drew ?_ | refine Below.alloc ?_ ?_ _ | exact Nat.le_refl _ | exact hbS2.size | exact hbS1.size | (have h9 := hbS1.size; simp; omega) | (simp; omega) | (simp; done))))) | (refine step_shps rfl _ _ rfl WW.heap.size g1 _ c1 (vs.take j) _ 1 1 [.slice a2 s.length c2] rfl rfl ?a1 rfl ?a3 (by simp [Value.oneCell']) ?a4 ?a5 _ rfl ?_; (case a1 => ((try simp only [Nat.zero_add]); first | exact hown1 | exact hown1.alloc _)); (case a4 => omega); (case a3 => (refine liesV_block (t := 76) (fr := (0, 0)) ?_; first | exact heap_alloc_new _ _ | (refine (hgrow1.block _ ?_ ?_).trans ?_ <;> first | (simp; done) | (simp; omega) | exact new_at (w := WW.alloc _) _ (by simp) | exact (Below.heap_alloc (WW.alloc _) _ _ (by simp)).trans (new_at _ rfl)))); (case a5 => (first | exact hbS1.size | (simp; omega) | (simp; have := hbS1.size; omega))); intro g2 c2' w2' hown2 hgrow2 hat2 hgb2 hlt2; (try simp only [Nat.zero_add] at hown2); have hbS2 : Below WW.heap.size WW w2' := by (refine Below.grown (w := _) ?_ hgrow2 ?_ (fun k hk => by cases hk; exact hgb1) <;> (repeat' (first | exact Below.refl _ _ | exact hbS2 | exact hbS1 | refine Below.drew ?_ | refine Below.alloc ?_ ?_ _ | exact Nat.le_refl _ | exact hbS2.size | exact hbS1.size | (have h9 := hbS1.size; simp; omega) | (simp; omega) | (simp; done))))) | (refine step_shps rfl _ _ rfl WW.heap.size g2 _ c2' (vs.take j ++ [.slice a2 s.length c2]) ⟨g, bo, none⟩ (n - j) (cap - j) (vs.drop j) rfl (congrArg (fun z => Value.slice z (n - j) (cap - j)) HAJ.out) ?a1 ?a2 ?a3 (fun u hu => HONE.out u (List.mem_of_mem_drop hu)) ?a4 ?a5 _ rfl ?_; (case a2 => (rw [List.length_drop, HVL.out])); (case a1 => ((try simp only [Nat.zero_add]); exact hown2)); (case a4 => omega); (case a3 => (exact LiesV.on HL2.out hbS2 hgW)); (case a5 => (exact hbS2.size)); intro g3 c3' w3 hown3 hgrow3 hat3 hgb3 hlt3; have hbS3 : Below WW.heap.size WW w3 := Below.grown hbS2 hgrow3 hbS2.size (fun k hk => by cases hk; exact hgb2)))
          all_goals
            (try simp only [Nat.zero_add] at hown3)
            have HB3 := Lib.hid (HB2.out.trans (hbS3.mono hszW))
            have hss := ss_ins HSS.out HSV.out (by rw [hn]; exact hj) (Nat.le_refl _) hbS3 hown3
            have hlen : (insG ltS [] L s).length = j + 1 + (n - j) := by rw [HE.out]; simp [hn]; omega
            have hc9 : j + 1 + (n - j) ≤ c3' := own_cap_s hown3
            have HR := Lib.hid (show GivesSs w (insG ltS [] L s) (.returned (.slice (some ⟨g3, 0, none⟩) (j + 1 + (n - j)) c3')) w3 from ⟨g3, c3', _, by rw [hlen], by rw [hlen]; exact hc9, by rw [HE.out]; exact hss, HB3.out⟩)
            clear hown1 hown2 hown3 hbS1 hbS2 hbS3 hgrow1 hgrow2 hgrow3 hss hlen
            simp only [Exit.then]
            go_wp2
            all_goals
              go_ret
              exact HR.out
    · have hp2 : posG ltS [] s L L.length = 0 := by
        rw [hn, hpos.out, show j = 0 by omega]
        rfl
      have he : insG ltS [] L s = L.take j ++ [s] ++ L.drop j := by
        have h9 := insG_no hp2 (fun h => by omega)
        rw [show j = 0 by omega]
        exact h9
      have HE := Lib.hid he
      have hd : decide ((0 : Int) < (j : Int)) = false := by simp; omega
      have HB2 := Lib.hid hbi
      clear hp2 he
      go_wp2_with fail
      clear hbi hszi hd hpos
      obtain ⟨WW, rfl⟩ : ∃ x, x = wr := ⟨_, rfl⟩
      have hszW := HB2.out.size
      have hSS := (HL.out.on (HB2.out.mono hB)).more (Nat.le_trans hB hszW)
      have HSS := Lib.hid hSS
      have HSV := Lib.hid (show SlAt WW.heap.size WW (.slice a2 s.length c2) s from ⟨a2, c2, rfl, (HS.out.on (HB2.out.mono hB)).more (Nat.le_trans hB hszW), hm⟩)
      have HONE := Lib.hid hSS.one
      have hgW := hSS.1
      have hvl : vs.length = n := by rw [hSS.2.1, hn]
      have HL1 := Lib.hid (show LiesV WW ⟨g, 0, none⟩ (vs.take j) from by have h9 := hSS.lies 0 j; simpa using h9)
      have hl2 : LiesV WW ⟨g, j, none⟩ (vs.drop j) := by have h9 := hSS.lies j (n - j); rw [List.take_of_length_le (by rw [List.length_drop, hvl]; exact Nat.le_refl _)] at h9; exact h9
      obtain ⟨bo, haj, hl3⟩ : ∃ bo : Nat, (if cap = j then some (⟨g, 0, none⟩ : Addr) else some ⟨g, j, none⟩) = some ⟨g, bo, none⟩ ∧ LiesV WW ⟨g, bo, none⟩ (vs.drop j) := by
        by_cases hcj : cap = j
        · refine ⟨0, if_pos hcj, ?_⟩
          rw [List.drop_of_length_le (by rw [hvl]; omega)]
          intro q u9 hq
          simp at hq
        · exact ⟨j, if_neg hcj, hl2⟩
      have HAJ := Lib.hid haj
      have HL2 := Lib.hid hl3
      have HVL := Lib.hid hvl
      have hjm : (j : Int) ≤ (n : Int) := by omega
      have hj00 : (0 : Int) ≤ (j : Int) := by omega
      have hjc : (j : Int) ≤ (cap : Int) := by omega
      have hmc : (n : Int) ≤ (cap : Int) := by omega
      clear haj hl2 hl3 hSS hvl
      go_region_held3 (fun w' => Held WW w')
        (first | (unfold Held; repeat' (first | exact Below.refl _ _ | exact hbS3 | exact hbS2 | exact hbS1 | refine Below.drew ?_ | refine Below.alloc ?_ ?_ _ | exact Nat.le_refl _ | exact hbS3.size | exact hbS2.size | exact hbS1.size | (simp; omega) | (simp; done))))
        (first | (refine step_shps rfl _ _ rfl WW.heap.size _ 0 0 [] ⟨g, 0, none⟩ j cap (vs.take j) rfl rfl ?a1 (by rw [List.length_take, HVL.out]; omega) ?a3 (fun u hu => HONE.out u (List.mem_of_mem_take hu)) (by omega) ?a5 _ rfl ?_; (case a1 => (first | exact own_lit_s (w := WW) rfl (Nat.le_refl _) | exact (own_lit_s (w := WW) rfl (Nat.le_refl _)).alloc _ | exact own_lit_s (w := WW.alloc _) (by simp) (by simp))); (case a3 => (refine LiesV.on HL1.out ?_ hgW; (repeat' (first | exact Below.refl _ _ | exact hbS2 | exact hbS1 | refine Below.drew ?_ | refine Below.alloc ?_ ?_ _ | exact Nat.le_refl _ | exact hbS2.size | exact hbS1.size | (have h9 := hbS1.size; simp; omega) | (simp; omega) | (simp; done))))); (case a5 => (first | (simp; done) | (simp; omega))); intro g1 c1 w1 hown1 hgrow1 hat1 hgb1 hlt1; (simp only [Nat.zero_add, List.nil_append] at hown1); have hbS1 : Below WW.heap.size WW w1 := by (refine Below.grown (w := _) ?_ hgrow1 ?_ (fun k hk => by cases hk; first | exact Nat.le_refl _ | (simp; done) | (simp; omega)) <;> (repeat' (first | exact Below.refl _ _ | exact hbS2 | exact hbS1 | refine Below.drew ?_ | refine Below.alloc ?_ ?_ _ | exact Nat.le_refl _ | exact hbS2.size | exact hbS1.size | (have h9 := hbS1.size; simp; omega) | (simp; omega) | (simp; done))))) | (refine step_shps rfl _ _ rfl WW.heap.size g1 _ c1 (vs.take j) _ 1 1 [.slice a2 s.length c2] rfl rfl ?a1 rfl ?a3 (by simp [Value.oneCell']) ?a4 ?a5 _ rfl ?_; (case a1 => ((try simp only [Nat.zero_add]); first | exact hown1 | exact hown1.alloc _)); (case a4 => omega); (case a3 => (refine liesV_block (t := 76) (fr := (0, 0)) ?_; first | exact heap_alloc_new _ _ | (refine (hgrow1.block _ ?_ ?_).trans ?_ <;> first | (simp; done) | (simp; omega) | exact new_at (w := WW.alloc _) _ (by simp) | exact (Below.heap_alloc (WW.alloc _) _ _ (by simp)).trans (new_at _ rfl)))); (case a5 => (first | exact hbS1.size | (simp; omega) | (simp; have := hbS1.size; omega))); intro g2 c2' w2' hown2 hgrow2 hat2 hgb2 hlt2; (try simp only [Nat.zero_add] at hown2); have hbS2 : Below WW.heap.size WW w2' := by (refine Below.grown (w := _) ?_ hgrow2 ?_ (fun k hk => by cases hk; exact hgb1) <;> (repeat' (first | exact Below.refl _ _ | exact hbS2 | exact hbS1 | refine Below.drew ?_ | refine Below.alloc ?_ ?_ _ | exact Nat.le_refl _ | exact hbS2.size | exact hbS1.size | (have h9 := hbS1.size; simp; omega) | (simp; omega) | (simp; done))))) | (refine step_shps rfl _ _ rfl WW.heap.size g2 _ c2' (vs.take j ++ [.slice a2 s.length c2]) ⟨g, bo, none⟩ (n - j) (cap - j) (vs.drop j) rfl (congrArg (fun z => Value.slice z (n - j) (cap - j)) HAJ.out) ?a1 ?a2 ?a3 (fun u hu => HONE.out u (List.mem_of_mem_drop hu)) ?a4 ?a5 _ rfl ?_; (case a2 => (rw [List.length_drop, HVL.out])); (case a1 => ((try simp only [Nat.zero_add]); exact hown2)); (case a4 => omega); (case a3 => (exact LiesV.on HL2.out hbS2 hgW)); (case a5 => (exact hbS2.size)); intro g3 c3' w3 hown3 hgrow3 hat3 hgb3 hlt3; have hbS3 : Below WW.heap.size WW w3 := Below.grown hbS2 hgrow3 hbS2.size (fun k hk => by cases hk; exact hgb2)))
      all_goals
        (try simp only [Nat.zero_add] at hown3)
        have HB3 := Lib.hid (HB2.out.trans (hbS3.mono hszW))
        have hss := ss_ins HSS.out HSV.out (by rw [hn]; exact hj) (Nat.le_refl _) hbS3 hown3
        have hlen : (insG ltS [] L s).length = j + 1 + (n - j) := by rw [HE.out]; simp [hn]; omega
        have hc9 : j + 1 + (n - j) ≤ c3' := own_cap_s hown3
        have HR := Lib.hid (show GivesSs w (insG ltS [] L s) (.returned (.slice (some ⟨g3, 0, none⟩) (j + 1 + (n - j)) c3')) w3 from ⟨g3, c3', _, by rw [hlen], by rw [hlen]; exact hc9, by rw [HE.out]; exact hss, HB3.out⟩)
        clear hown1 hown2 hown3 hbS1 hbS2 hbS3 hgrow1 hgrow2 hgrow3 hss hlen
        simp only [Exit.then]
        go_wp2
        all_goals
          go_ret
          exact HR.out
end

end Go.Proofs.YtkcclhnligajeaaGreatDoor
