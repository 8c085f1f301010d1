/-
  The placements as masks, the counts and the ways of a region: the plain facts.
  Neighbours with one key taken out of a list: plain facts for any list and key, nothing of the program.
  The laws' helpers that compare, mark and look at slices of numbers.
-/
import Derived.Test.YtkjlmgkjcmebbaaGreatDoorVag
import Derived.Test.YtkjlmgkjcmebbaaGreatDoorVaa
import Derived.Test.YtkjlmgkjcmebbaaGreatDoorVab
import Derived.Test.YtkjlmgkjcmebbaaGreatDoorVac
import Derived.BigQuiet
import Derived.Deep.QuietTactic
namespace Go.Proofs.YtkjlmgkjcmebbaaGreatDoor

section
theorem plR_pos (W : Int) (l : List Int) (s : List Cl) : ∀ m ∈ plR W l s, 0 < m := by
  intro m hm
  cases h : isReg W l with
  | false => rw [plR_no h] at hm; cases hm
  | true =>
    obtain ⟨N, rfl, hr⟩ := isReg_out h
    obtain ⟨o, ho, y, x, _, rfl⟩ := (mem_plR hr).1 hm
    have hs := (orient_mem ho).2.1.shape
    have hl := ((isShape_iff o).1 hs).1.1
    have h1 : (moveC x y o).length = o.length := by unfold moveC; exact List.length_map _
    obtain ⟨c, hc⟩ : ∃ c, c ∈ moveC (x : Int) (y : Int) o := List.exists_mem_of_length_pos (by omega)
    have hb := (orB_bit N (moveC x y o) (bN N c)).2 ⟨c, hc, rfl⟩
    have h0 : orB N (moveC x y o) ≠ 0 := fun e => by rw [e] at hb; simp at hb
    omega
/-- All placements, as masks. -/
def pQ (W : Int) (l : List Int) (ps : List (List Cl)) : List Nat := (apR W l ps).map Int.toNat
theorem apR_bd (W : Int) (l : List Int) (ps : List (List Cl)) : ∀ m ∈ apR W l ps, 0 < m ∧ m < 68719476736 := by
  intro m hm
  cases h : arePc ps with
  | false => rw [apR_no h] at hm; cases hm
  | true =>
    rw [apR_yes h, mem_ascI] at hm
    refine ⟨?_, (apTo_bd W l ps _ m hm).2⟩
    unfold apTo at hm
    obtain ⟨s, _, h2⟩ := List.mem_flatMap.1 hm
    exact plR_pos W l s m h2
theorem pQ_ints (W : Int) (l : List Int) (ps : List (List Cl)) : ints (pQ W l ps) = apR W l ps := by
  unfold ints pQ
  rw [List.map_map]
  conv => rhs; rw [← List.map_id (apR W l ps)]
  apply List.map_congr_left
  intro m hm
  have := apR_bd W l ps m hm
  show ((m.toNat : Nat) : Int) = m
  omega
theorem pQ_ok (W : Int) (l : List Int) (ps : List (List Cl)) : ∀ m ∈ pQ W l ps, m ≠ 0 ∧ m < 68719476736 := by
  intro m hm
  unfold pQ at hm
  obtain ⟨z, hz, rfl⟩ := List.mem_map.1 hm
  have := apR_bd W l ps z hz
  omega
theorem pQ_len (W : Int) (l : List Int) (ps : List (List Cl)) : (pQ W l ps).length ≤ 1440 := by
  unfold pQ
  rw [List.length_map]
  cases h : arePc ps with
  | false => rw [apR_no h]; simp
  | true =>
    rw [apR_yes h]
    have h1 := ascI_len (apTo W l ps ps.length)
    have h2 := apTo_len W l ps ps.length (Nat.le_refl _)
    have h3 := (arePc_len h).2
    omega
/-- Region and pieces are valid. -/
def okT (W : Int) (l : List Int) (ps : List (List Cl)) : Bool := isReg W l && arePc ps
/-- How many tilings, at most so many. -/
def cntT (W : Int) (l : List Int) (ps : List (List Cl)) : Int := if okT W l ps = true then ((min (cntR (pQ W l ps) (maskR W l)) 2000 : Nat) : Int) else -1
theorem cntT_no {W : Int} {l : List Int} {ps : List (List Cl)} (h : okT W l ps = false) : cntT W l ps = -1 := if_neg (by rw [h]; simp)
theorem cntT_yes {W : Int} {l : List Int} {ps : List (List Cl)} (h : okT W l ps = true) : cntT W l ps = ((min (cntR (pQ W l ps) (maskR W l)) 2000 : Nat) : Int) := if_pos h
/-- The tiling with a number. -/
def tilN (W : Int) (l : List Int) (ps : List (List Cl)) (n : Int) : Option (List Nat) := if okT W l ps = true ∧ 0 ≤ n ∧ n ≤ 199 then (tilR (pQ W l ps) (maskR W l))[n.toNat]? else none
theorem tilN_no {W : Int} {l : List Int} {ps : List (List Cl)} {n : Int} (h : ¬ (okT W l ps = true ∧ 0 ≤ n ∧ n ≤ 199)) : tilN W l ps n = none := if_neg h
theorem tilN_yes {W : Int} {l : List Int} {ps : List (List Cl)} {n : Nat} (h : okT W l ps = true) (hn : n ≤ 199) : tilN W l ps n = (tilR (pQ W l ps) (maskR W l))[n]? := by
  unfold tilN
  rw [if_pos ⟨h, by omega, by omega⟩]
  rfl
/-- The tiling's masks, if there is one. -/
def wayI (t : Option (List Nat)) : List Int := ints (t.getD [])
def isTil (W : Int) (l : List Int) (ps : List (List Cl)) (ms : List Int) : Bool := okT W l ps && isTm (apR W l ps) (maskR W l) ms
theorem isTil_no {W : Int} {l : List Int} {ps : List (List Cl)} (h : okT W l ps = false) (ms : List Int) : isTil W l ps ms = false := by unfold isTil; rw [h]; rfl
theorem isTil_m {W : Int} {l : List Int} {ps : List (List Cl)} (h : okT W l ps = true) (ms : List Int) : isTil W l ps ms = isTm (apR W l ps) (maskR W l) ms := by unfold isTil; rw [h]; rfl
theorem isTil_p {W : Int} {l : List Int} {ps : List (List Cl)} (h : okT W l ps = true) (ms : List Int) : isTil W l ps ms = isTp (apR W l ps) (maskR W l) ms := by
  rw [isTil_m h, tiling_eq (apR_bd W l ps) (maskR_lt W l)]
theorem til_len (Q : List Nat) : ∀ n f, f ≤ n → f < 2 ^ 64 → ∀ t ∈ tilR Q f, t.length ≤ pop f ∨ 68719476736 ≤ f
  | n, f, hf, h64, t, ht => by
    by_cases hb : 68719476736 ≤ f
    · exact .inr hb
    left
    by_cases h0 : f = 0
    · subst h0
      rw [tilR_zero] at ht
      rw [List.mem_singleton.1 ht]
      exact Nat.zero_le _
    · obtain ⟨m, r, rfl, hm, hfit, hr⟩ := til_mem h0 ht
      have h1 := fit_sub hfit
      have h2 := pop_sub (fit_parts hfit).2
      have h3 := pop_pos (m := m) (by have := fit_pos hfit; omega) (by omega)
      cases n with
      | zero => omega
      | succ n =>
        rcases til_len Q n (f - m) (by omega) (by omega) r hr with h4 | h4
        · simp only [List.length_cons]; omega
        · omega
theorem til_len40 {Q : List Nat} {f : Nat} (hf : f < 68719476736) {t : List Nat} (h : t ∈ tilR Q f) : t.length ≤ 40 := by
  rcases til_len Q f f (Nat.le_refl _) (by omega) t h with h1 | h1
  · exact Nat.le_trans h1 (pop_le f)
  · omega
end

section
section
variable {α β : Type} [DecidableEq β] {key : α → β} {d : α}

/-- What is left of the first k of m when an element goes whose key is its neighbour's. -/
def dedK (key : α → β) (d : α) (m : List α) : Nat → List α
  | 0 => []
  | k + 1 => if 0 < k ∧ key (m.getD k d) = key (m.getD (k - 1) d) then dedK key d m k else dedK key d m k ++ [m.getD k d]
theorem dedK_skip {m : List α} {k : Nat} (h : 0 < k ∧ key (m.getD k d) = key (m.getD (k - 1) d)) : dedK key d m (k + 1) = dedK key d m k := if_pos h
theorem dedK_keep {m : List α} {k : Nat} (h : ¬ (0 < k ∧ key (m.getD k d) = key (m.getD (k - 1) d))) : dedK key d m (k + 1) = dedK key d m k ++ [m.getD k d] := if_neg h
theorem takeG_snoc (d : α) (l : List α) (k : Nat) (h : k < l.length) : l.take (k + 1) = l.take k ++ [l.getD k d] := by
  rw [List.take_succ_eq_append_getElem h]
  simp [List.getD, h]
theorem dedK_upto {m : List α} {n : Nat} (hn : n ≤ m.length) (h : ∀ j, 0 < j → j < n → key (m.getD j d) ≠ key (m.getD (j - 1) d)) : ∀ k, k ≤ n → dedK key d m k = m.take k
  | 0, _ => by simp [dedK]
  | k + 1, hk => by
    rw [dedK_keep (fun hh => h k hh.1 (by omega) hh.2), dedK_upto hn h k (by omega), takeG_snoc d m k (by omega)]
theorem dedK_le (m : List α) : ∀ k, (dedK key d m k).length ≤ k
  | 0 => by simp [dedK]
  | k + 1 => by
    have := dedK_le m k
    unfold dedK
    split
    · omega
    · simp; omega
theorem dedK_sub (m : List α) : ∀ k, k ≤ m.length → (dedK key d m k).Sublist (m.take k)
  | 0, _ => by simp [dedK]
  | k + 1, hk => by
    have h := dedK_sub m k (by omega)
    rw [takeG_snoc d m k (by omega)]
    unfold dedK
    split
    · exact h.trans (List.sublist_append_left _ _)
    · exact h.append (List.Sublist.refl _)
/-- The row while neighbours are taken out: p looked at, the first kk left. -/
structure CptK (key : α → β) (d : α) (m L : List α) (p kk : Nat) : Prop where
  len : L.length = m.length
  kept : L.take kk = dedK key d m p
  size : kk = (dedK key d m p).length
  lt : kk < p
  rest : ∀ j, p - 1 ≤ j → L.getD j d = m.getD j d
theorem CptK.skip {m L : List α} {p kk : Nat} (h : CptK key d m L p kk) (he : 0 < p ∧ key (m.getD p d) = key (m.getD (p - 1) d)) : CptK key d m L (p + 1) kk :=
  ⟨h.len, by rw [dedK_skip he]; exact h.kept, by rw [dedK_skip he]; exact h.size, by have := h.lt; omega, fun j hj => h.rest j (by omega)⟩
theorem CptK.keep {m L : List α} {p kk : Nat} (h : CptK key d m L p kk) (hp : p < m.length) (he : ¬ (0 < p ∧ key (m.getD p d) = key (m.getD (p - 1) d))) : CptK key d m (L.set kk (m.getD p d)) (p + 1) (kk + 1) := by
  have hl := h.lt
  have hkl : kk < L.length := by have := h.len; omega
  refine ⟨by rw [List.length_set]; exact h.len, ?_, by rw [dedK_keep he, List.length_append, ← h.size]; rfl, by omega, fun j hj => ?_⟩
  · have e : (L.set kk (m.getD p d)).getD kk d = m.getD p d := by
      rw [List.getD_eq_getElem?_getD, List.getElem?_set_self hkl]
      rfl
    rw [takeG_snoc d _ _ (by rw [List.length_set]; exact hkl), dedK_keep he, List.take_set_of_le (Nat.le_refl _), h.kept, e]
  · have hne : kk ≠ j := by omega
    have := h.rest j (by omega)
    rw [List.getD_eq_getElem?_getD] at this ⊢
    rw [List.getElem?_set_ne hne]
    exact this
/-- Behind a sort, every key is left, once. -/
theorem dedK_spec {lt : β → β → Bool} (O : OrdG lt) (m : List α) (h : m.Pairwise fun a b => lt (key b) (key a) = false) : ∀ k, k ≤ m.length → SrtG lt ((dedK key d m k).map key) ∧ ∀ x, x ∈ (dedK key d m k).map key ↔ ∃ j, j < k ∧ key (m.getD j d) = x
  | 0, _ => ⟨List.Pairwise.nil, fun x => by simp [dedK]⟩
  | k + 1, hk => by
    obtain ⟨h1, h2⟩ := dedK_spec O m h k (by omega)
    unfold dedK
    split
    · rename_i he
      refine ⟨h1, fun x => ?_⟩
      rw [h2]
      constructor
      · rintro ⟨j, hj, e⟩; exact ⟨j, by omega, e⟩
      · rintro ⟨j, hj, e⟩
        by_cases hjk : j = k
        · exact ⟨k - 1, by omega, by rw [← he.2, ← hjk]; exact e⟩
        · exact ⟨j, by omega, e⟩
    · rename_i hne
      refine ⟨?_, fun x => ?_⟩
      · unfold SrtG
        rw [List.map_append, List.pairwise_append]
        refine ⟨h1, by simp, ?_⟩
        intro a ha b hb
        rw [List.map_cons, List.map_nil, List.mem_singleton] at hb
        subst hb
        obtain ⟨j, hj, rfl⟩ := (h2 a).1 ha
        have hle : ∀ i, i < k → lt (key (m.getD k d)) (key (m.getD i d)) = false := fun i hi => by
          have := List.pairwise_iff_getElem.1 h i k (by omega) (by omega) hi
          simpa [List.getD, show i < m.length by omega, show k < m.length by omega] using this
        have hlt : lt (key (m.getD (k - 1) d)) (key (m.getD k d)) = true := by
          cases h5 : lt (key (m.getD (k - 1) d)) (key (m.getD k d)) with
          | true => rfl
          | false => exact absurd ⟨by omega, O.total (hle (k - 1) (by omega)) h5⟩ hne
        by_cases hj2 : j = k - 1
        · rw [hj2]; exact hlt
        · have h6 := List.pairwise_iff_getElem.1 h j (k - 1) (by omega) (by omega) (by omega)
          have h7 : lt (key (m.getD (k - 1) d)) (key (m.getD j d)) = false := by simpa [List.getD, show j < m.length by omega, show k - 1 < m.length by omega] using h6
          cases h8 : lt (key (m.getD j d)) (key (m.getD k d)) with
          | true => rfl
          | false =>
            have e1 := O.total h8 (hle j (by omega))
            rw [e1] at h7
            rw [h7] at hlt
            cases hlt
      · rw [List.map_append, List.mem_append, h2, List.map_cons, List.map_nil, List.mem_singleton]
        constructor
        · rintro (⟨j, hj, e⟩ | e)
          · exact ⟨j, by omega, e⟩
          · exact ⟨k, by omega, e.symm⟩
        · rintro ⟨j, hj, e⟩
          by_cases hjk : j = k
          · exact .inr (by rw [← e, hjk])
          · exact .inl ⟨j, by omega, e⟩
/-- .. so what is left has the keys in order, each once. -/
theorem dedK_sortG {lt : β → β → Bool} (O : OrdG lt) (db : β) {m : List α} (h : m.Pairwise fun a b => lt (key b) (key a) = false) {l : List β} (hm : ∀ x, x ∈ m.map key ↔ x ∈ l) : (dedK key d m m.length).map key = sortG lt db l := by
  obtain ⟨h1, h2⟩ := dedK_spec (d := d) O m h m.length (Nat.le_refl _)
  refine sortG_unique O db h1 fun x => ?_
  rw [h2, ← hm]
  constructor
  · rintro ⟨j, hj, rfl⟩; exact List.mem_map.2 ⟨m[j], List.getElem_mem _, by simp [List.getD, hj]⟩
  · intro hx
    obtain ⟨a, ha, rfl⟩ := List.mem_map.1 hx
    obtain ⟨j, hj, rfl⟩ := List.getElem_of_mem ha
    exact ⟨j, hj, by simp [List.getD, hj]⟩
end
end

section
open Go.RowKit

/-- A value that reads as a list of numbers. -/
def IsRd (B : Nat) (w : World) (v : Value) (zs : List Int) : Prop := ∃ a cap, v = .slice a zs.length cap ∧ (0 < zs.length → ∃ g, a = some ⟨g, 0, none⟩ ∧ g < B ∧ ∀ k, k < zs.length → w.cell? ⟨g, k, none⟩ = some (.int .i64 (zs.getD k 0)))
theorem IsRd.on {B : Nat} {w w' : World} {v : Value} {zs : List Int} (h : IsRd B w v zs) (hb : Below B w w') : IsRd B w' v zs := by
  obtain ⟨a, cap, e, h1⟩ := h
  exact ⟨a, cap, e, fun h0 => by obtain ⟨g, e1, hlt, h2⟩ := h1 h0; exact ⟨g, e1, hlt, fun k hk => (hb.cell (p := ⟨g, k, none⟩) hlt).trans (h2 k hk)⟩⟩
theorem IsRd.more {B B' : Nat} {w : World} {v : Value} {zs : List Int} (h : IsRd B w v zs) (hB : B ≤ B') : IsRd B' w v zs := by
  obtain ⟨a, cap, e, h1⟩ := h
  exact ⟨a, cap, e, fun h0 => by obtain ⟨g, e1, hlt, h2⟩ := h1 h0; exact ⟨g, e1, Nat.lt_of_lt_of_le hlt hB, h2⟩⟩
theorem IsRd.of_own {B : Nat} {w : World} {v : Value} {zs : List Int} (h : w.ownsRow B 3 1 v zs.length (zs.map (Value.int .i64))) : IsRd w.heap.size w v zs := by
  rcases h.2 with ⟨rfl, h0⟩ | ⟨g, cap, cur, rfl, hb, hg, _⟩
  · have : zs = [] := List.eq_nil_of_length_eq_zero h0
    subst this
    exact ⟨none, 0, rfl, fun h9 => absurd h9 (Nat.lt_irrefl 0)⟩
  · refine ⟨_, cap, rfl, fun _ => ⟨g, rfl, (Array.getElem?_eq_some_iff.1 hg).1, fun k hk => ?_⟩⟩
    rw [h.cellAt k (by omega)]
    simp [List.getD, hk]

set_option maxHeartbeats 1000000 in
set_option maxRecDepth 100000 in
theorem lEqI (B : Nat) (v1 v2 : Value) (zs : List Int) (w : World) (hn : zs.length ≤ 4194304) (h1 : IsRd B w v1 zs) (h2 : IsRd B w v2 zs) (hB : B ≤ w.heap.size) :
    Calls Tryz.prog 43 #[v1, v2] w fun e w' => e = .returned (.bool true) ∧ Below w.heap.size w w' := by
  obtain ⟨a1, c1, rfl, hr1⟩ := h1
  obtain ⟨a2, c2, rfl, hr2⟩ := h2
  have H1 := Lib.hid hr1
  have H2 := Lib.hid hr2
  generalize zs.length = n at *
  have hne : (((n : Nat) : Int) != (n : Int)) = false := by simp
  clear hr1 hr2
  go_enter Tryz.func43, Tryz.ntmps43
  go_wp2
  go_loopw [5] (fun i wr => ∃ k : Nat, k ≤ n ∧ i = .int .i64 k ∧ Below w.heap.size w wr) (fun i _ => n - (intOf i).toNat)
  case atStart => exact ⟨0, by omega, rfl, Below.refl _ _⟩
  case round =>
    obtain ⟨k, hk, rfl, hb⟩ := hrel
    have hsz := hb.size
    by_cases hlt : k < n
    · obtain ⟨g1, rfl, hg1, hs1⟩ := H1.out (by omega)
      obtain ⟨g2, rfl, hg2, hs2⟩ := H2.out (by omega)
      have p1 := (hb.cell (p := ⟨g1, k, none⟩) (Nat.lt_of_lt_of_le hg1 hB)).trans (hs1 k hlt)
      have p2 := (hb.cell (p := ⟨g2, k, none⟩) (Nat.lt_of_lt_of_le hg2 hB)).trans (hs2 k hlt)
      generalize zs.getD k 0 = z at p1 p2
      have hk0 : (0 : Int) ≤ (k : Int) := by omega
      have hk1 : (k : Int) < (n : Int) := by omega
      have hzz : (z != z) = false := by simp
      clear hs1 hs2
      go_wp2_with fail
      go_quiet (fail)
      go_wp2
      go_roundw
      case rel => exact ⟨k + 1, by omega, by go_num, below_drewn hb _⟩
      case measure => simp [intOf]; omega
    · obtain rfl : k = n := by omega
      go_wp2
      go_ret
      exact ⟨rfl, hb⟩

/-- Marks: the numbers from k on. -/
def marksI (k : Int) (n : Nat) : List Int := (List.range n).map fun (j : Nat) => k + (j : Int)
theorem marksI_length (k : Int) (n : Nat) : (marksI k n).length = n := by simp [marksI]
theorem marksI_succ (k : Int) (n : Nat) : marksI k (n + 1) = marksI k n ++ [k + (n : Int)] := by simp [marksI, List.range_succ]
theorem marksI_get (k : Int) (n j : Nat) (h : j < n) : (marksI k n).getD j 0 = k + (j : Int) := by simp [marksI, h]
theorem markI_step (k : Int) (j : Nat) (l : List Int) (h : j < l.length) : ((marksI k j ++ l.drop j).map (Value.int .i64)).set j (.int .i64 (k + (j : Int))) = (marksI k (j + 1) ++ l.drop (j + 1)).map (Value.int .i64) := by
  rw [← List.map_set, List.set_append_right _ _ (by simp [marksI_length]), marksI_length, Nat.sub_self, List.drop_eq_getElem_cons h, List.set_cons_zero, marksI_succ, List.append_assoc]
  rfl

set_option maxHeartbeats 1000000 in
set_option maxRecDepth 100000 in
theorem lMarkI (base : Nat) (v : Value) (zs : List Int) (k0 : Int) (w : World) (hn : zs.length ≤ 4194304) (h0 : 0 ≤ k0) (h1 : k0 ≤ 1048576) (ho : w.ownsRow base 3 1 v zs.length (zs.map (Value.int .i64))) :
    Calls Tryz.prog 48 #[v, .int .i64 k0] w fun e w' => e = .returned (.int .i64 (k0 + zs.length)) ∧ w'.ownsRow base 3 1 v zs.length ((marksI k0 zs.length).map (Value.int .i64)) ∧ w.grownBy w' v.ownBlock := by
  by_cases hz : zs.length = 0
  · have e0 : zs = [] := List.eq_nil_of_length_eq_zero hz
    subst e0
    have HO := Lib.hid ho
    have hv : ∃ av cv, v = .slice av 0 cv := by
      rcases ho.2 with ⟨rfl, _⟩ | ⟨g, cv, cur, rfl, _⟩
      · exact ⟨_, _, rfl⟩
      · exact ⟨_, _, rfl⟩
    obtain ⟨av, cv, rfl⟩ := hv
    clear ho hz
    go_enter Tryz.func48, Tryz.ntmps48
    go_wp2
    go_loopw [5, 1] (fun i q wr => i = .int .i64 0 ∧ q = .int .i64 k0 ∧ wr = w) (fun i _ _ => 0 - (intOf i).toNat)
    case atStart => exact ⟨rfl, rfl, rfl⟩
    case round =>
      obtain ⟨rfl, rfl, rfl⟩ := hrel
      go_wp2
      go_ret
      exact ⟨by simp, HO.out, World.grownBy.refl _ _⟩
  · obtain ⟨g, cap, rfl⟩ : ∃ g cap, v = .slice (some ⟨g, 0, none⟩) zs.length cap := by
      rcases ho.2 with ⟨_, h9⟩ | ⟨g, cap, cur, rfl, _⟩
      · exact absurd h9 hz
      · exact ⟨g, cap, rfl⟩
    generalize hN : zs.length = n at *
    have HL := Lib.hid hN
    clear hN
    go_enter Tryz.func48, Tryz.ntmps48
    go_wp2
    go_loopw [5, 1] (fun i q wr => ∃ k : Nat, k ≤ n ∧ i = .int .i64 k ∧ q = .int .i64 (k0 + k) ∧ Hid (wr.ownsRow base 3 1 (.slice (some ⟨g, 0, none⟩) n cap) n ((marksI k0 k ++ zs.drop k).map (Value.int .i64))) ∧ w.grownBy wr (some g)) (fun i _ _ => n - (intOf i).toNat)
    case atStart => exact ⟨0, by omega, rfl, by simp, by simpa [marksI, Hid] using ho, World.grownBy.refl _ _⟩
    case round =>
      obtain ⟨k, hk, rfl, rfl, hown, hg⟩ := hrel
      by_cases hlt : k < n
      · have hk0 : (0 : Int) ≤ (k : Int) := by omega
        have hk1 : (k : Int) < (n : Int) := by omega
        have hlen : k < ((marksI k0 k ++ zs.drop k).map (Value.int .i64)).length := by have := HL.out; simp [marksI_length]; omega
        have c0 := hown.out.cellAt k (by omega)
        rw [List.getElem?_eq_getElem hlen] at c0
        have f0 := hown.out.frozenAt k
        have hs1 := hown.out.stored k (.int .i64 (k0 + k))
        have hO := hs1.1
        rw [markI_step _ _ _ (by have := HL.out; omega)] at hO
        have HO := Lib.hid hO
        have HG := Lib.hid (hg.trans hs1.2)
        generalize ((marksI k0 k ++ zs.drop k).map (Value.int .i64))[k] = u at c0
        clear hs1 hown hg hO hlen
        go_wp2
        go_roundw
        case rel => exact ⟨k + 1, by omega, by go_num, by go_num, HO.out, HG.out⟩
        case measure => simp [intOf]; omega
      · have e : k = n := by omega
        subst e
        have e2 : marksI k0 k ++ zs.drop k = marksI k0 k := by rw [List.drop_of_length_le (by have := HL.out; omega), List.append_nil]
        rw [e2] at hown
        go_wp2
        go_ret
        exact ⟨by rfl, hown.out, hg⟩

set_option maxHeartbeats 1000000 in
set_option maxRecDepth 100000 in
theorem lHeldI (B n : Nat) (v : Value) (k0 : Int) (w : World) (hn : n ≤ 4194304) (h0 : 0 ≤ k0) (h1 : k0 ≤ 1048576) (hr : IsRd B w v (marksI k0 n)) (hB : B ≤ w.heap.size) :
    Calls Tryz.prog 49 #[v, .int .i64 k0] w fun e w' => e = .returned (.int .i64 (k0 + n)) ∧ Below w.heap.size w w' := by
  obtain ⟨a1, c1, rfl, hr1⟩ := hr
  rw [marksI_length] at hr1 ⊢
  have H1 := Lib.hid hr1
  clear hr1
  go_enter Tryz.func49, Tryz.ntmps49
  go_wp2
  go_loopw [5, 1] (fun i q wr => ∃ k : Nat, k ≤ n ∧ i = .int .i64 k ∧ q = .int .i64 (k0 + k) ∧ Below w.heap.size w wr) (fun i _ _ => n - (intOf i).toNat)
  case atStart => exact ⟨0, by omega, rfl, by simp, Below.refl _ _⟩
  case round =>
    obtain ⟨k, hk, rfl, rfl, hb⟩ := hrel
    by_cases hlt : k < n
    · obtain ⟨g1, rfl, hg1, hs1⟩ := H1.out (by omega)
      have p1 := (hb.cell (p := ⟨g1, k, none⟩) (Nat.lt_of_lt_of_le hg1 hB)).trans (hs1 k hlt)
      rw [marksI_get k0 n k hlt] at p1
      have hk0 : (0 : Int) ≤ (k : Int) := by omega
      have hk1 : (k : Int) < (n : Int) := by omega
      have hzz : ((k0 + (k : Int)) != (k0 + (k : Int))) = false := by simp
      clear hs1
      go_wp2
      go_roundw
      case rel => exact ⟨k + 1, by omega, by go_num, by go_num, hb⟩
      case measure => simp [intOf]; omega
    · obtain rfl : k = n := by omega
      go_wp2
      go_ret
      exact ⟨rfl, hb⟩
end

end Go.Proofs.YtkjlmgkjcmebbaaGreatDoor
