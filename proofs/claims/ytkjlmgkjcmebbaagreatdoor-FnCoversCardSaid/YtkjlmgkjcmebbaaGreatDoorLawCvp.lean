/-
  The law on tilings (FnCovers): plain facts, and sameInts at lists that differ (written by tools/lawcov.py).
-/
import Derived.Test.YtkjlmgkjcmebbaaGreatDoorDre
import Derived.Test.YtkjlmgkjcmebbaaGreatDoorWap
import Derived.Test.YtkjlmgkjcmebbaaGreatDoorWax
import Derived.Test.YtkjlmgkjcmebbaaGreatDoorWad
import Derived.Test.YtkjlmgkjcmebbaaGreatDoorJc8
import Derived.Test.YtkjlmgkjcmebbaaGreatDoorSc3
import Derived.Test.YtkjlmgkjcmebbaaGreatDoorWaw
import Derived.Test.YtkjlmgkjcmebbaaGreatDoorSfm
import Derived.Deep.RegionHeld3
namespace Go.Proofs.YtkjlmgkjcmebbaaGreatDoor
open Go.RowKit

def St7 (W w : World) (a : Option Addr) (n c : Nat) : Prop := Below W.heap.size W w ∧ Code w.heap.size w a n c ∧ Tz w
theorem St7.go {W w w' : World} {a : Option Addr} {n c : Nat} (h : St7 W w a n c) (hb : Below w.heap.size w w') : St7 W w' a n c :=
  ⟨h.1.trans (hb.mono h.1.size), (h.2.1.on hb).more hb.size, h.2.2.on hb h.2.2.2⟩

set_option maxHeartbeats 1000000 in
set_option maxRecDepth 100000 in
theorem lSameI (B : Nat) (v1 v2 : Value) (zs : List Int) (w : World) (hn : zs.length ≤ 4194304) (h1 : IsRd B w v1 zs) (h2 : IsRd B w v2 zs) (hB : B ≤ w.heap.size) :
    Calls Tryz.prog 17 #[v1, v2] w fun e w' => e = .returned (.bool true) ∧ Below w.heap.size w w' := by
  obtain ⟨a1, c1, rfl, hr1⟩ := h1
  obtain ⟨a2, c2, rfl, hr2⟩ := h2
  have H1 := Lib.hid hr1
  have H2 := Lib.hid hr2
  generalize zs.length = n at *
  have hne : (((n : Nat) : Int) != (n : Int)) = false := by simp
  clear hr1 hr2
  go_enter Tryz.func17, Tryz.ntmps17
  go_wp2
  go_loopw [5] (fun i wr => ∃ k : Nat, k ≤ n ∧ i = .int .i64 k ∧ Below w.heap.size w wr) (fun i _ => n - (intOf i).toNat)
  case atStart => exact ⟨0, by omega, rfl, Below.refl _ _⟩
  case round =>
    obtain ⟨k, hk, rfl, hb⟩ := hrel
    have hsz := hb.size
    by_cases hlt : k < n
    · obtain ⟨g1, rfl, hg1, hs1⟩ := H1.out (by omega)
      obtain ⟨g2, rfl, hg2, hs2⟩ := H2.out (by omega)
      have p1 := (hb.cell (p := ⟨g1, k, none⟩) (Nat.lt_of_lt_of_le hg1 hB)).trans (hs1 k hlt)
      have p2 := (hb.cell (p := ⟨g2, k, none⟩) (Nat.lt_of_lt_of_le hg2 hB)).trans (hs2 k hlt)
      generalize zs.getD k 0 = z at p1 p2
      have hk0 : (0 : Int) ≤ (k : Int) := by omega
      have hk1 : (k : Int) < (n : Int) := by omega
      have hzz : (z != z) = false := by simp
      clear hs1 hs2
      go_wp2_with fail
      go_quiet (fail)
      go_wp2
      go_roundw
      case rel => exact ⟨k + 1, by omega, by go_num, below_drewn hb _⟩
      case measure => simp [intOf]; omega
    · obtain rfl : k = n := by omega
      go_wp2
      go_ret
      exact ⟨rfl, hb⟩

theorem way_apart {W : Int} {l : List Int} {ps : List (List Cl)} {n : Int} {t : List Nat} (h : tilN W l ps n = some t) (h0 : 0 < n) : wayI (tilN W l ps (n - 1)) ≠ ints t := by
  obtain ⟨h1, _, h3, h4⟩ := tilN_some h
  obtain ⟨k, rfl⟩ : ∃ k : Nat, n = k := ⟨n.toNat, by omega⟩
  have hk : 0 < k := by omega
  have e1 : ((k : Nat) : Int) - 1 = ((k - 1 : Nat) : Int) := by omega
  have e2 : ((k : Nat) : Int).toNat = k := by omega
  rw [e2] at h4
  rw [e1, tilN_yes h1 (by omega)]
  obtain ⟨b1, b2⟩ := List.getElem?_eq_some_iff.1 h4
  cases h5 : (tilR (pQ W l ps) (maskR W l))[k - 1]? with
  | none =>
    rw [List.getElem?_eq_none_iff] at h5
    omega
  | some s =>
    intro e
    exact til_apart (pQ_nodup W l ps) hk h5 h4 (ints_inj e)
theorem way_len (W : Int) (l : List Int) (ps : List (List Cl)) (n : Int) : (wayI (tilN W l ps n)).length ≤ 1440 := by
  unfold wayI
  cases h : tilN W l ps n with
  | none => simp [ints]
  | some t =>
    obtain ⟨_, _, _, h2⟩ := tilN_some h
    show (ints t).length ≤ 1440
    rw [ints_len]
    have := til_len40 (maskR_lt W l) (List.mem_of_getElem? h2)
    omega
theorem way_in (W : Int) (l : List Int) (ps : List (List Cl)) (n : Int) : ∀ z ∈ wayI (tilN W l ps n), In64 z := by
  unfold wayI
  cases h : tilN W l ps n with
  | none => exact fun z hz => (by cases hz)
  | some t =>
    obtain ⟨h1, _, _, h2⟩ := tilN_some h
    have h3 := List.mem_of_getElem? h2
    show ∀ z ∈ ints t, In64 z
    refine ints_bd (fun m hm => ?_)
    have h4 := til_isTp (pQ_ok W l ps) _ _ (Nat.le_refl _) (maskR_lt W l) t h3
    unfold isTp at h4
    rw [Bool.and_eq_true] at h4
    obtain ⟨k, hk, e⟩ := List.getElem_of_mem hm
    have h5 := (pT_parts ((allN_iff _ _).1 h4.1 k (by rw [ints_len]; exact hk))).2.2.2
    rw [ints_get, pQ_ints] at h5
    have h6 := apR_bd W l ps _ h5
    have h7 : t.getD k 0 = m := by simp [List.getD, hk, e]
    rw [h7] at h6
    omega
theorem ps_go {w w' : World} {a : Option Addr} {n : Nat} {ps : List (List Cl)} (h : PsAt w.heap.size w a n ps) (hb : Below w.heap.size w w') : PsAt w'.heap.size w' a n ps := (h.on hb).more hb.size

set_option maxHeartbeats 2000000 in
set_option maxRecDepth 100000 in
theorem lSameD (B : Nat) (v1 v2 : Value) (za zb : List Int) (w : World) (hn : za.length ≤ 4194304) (_hn2 : zb.length ≤ 4194304) (h1 : IsRd B w v1 za) (h2 : IsRd B w v2 zb) (hB : B ≤ w.heap.size) (hd : za ≠ zb) :
    Calls Tryz.prog 17 #[v1, v2] w fun e w' => e = .returned (.bool false) ∧ Below w.heap.size w w' := by
  obtain ⟨a1, c1, rfl, hr1⟩ := h1
  obtain ⟨a2, c2, rfl, hr2⟩ := h2
  have H1 := Lib.hid hr1
  have H2 := Lib.hid hr2
  clear hr1 hr2
  by_cases hl : za.length = zb.length
  · obtain ⟨n, hzn⟩ : ∃ n, za.length = n := ⟨_, rfl⟩
    have hzm : zb.length = n := by omega
    have HD := Lib.hid (show ¬ ∀ k, k < n → za.getD k 0 = zb.getD k 0 from fun h => hd (List.ext_getElem hl (fun i h8 h9 => by
      have := h i (by omega)
      simpa [List.getD, h8, h9] using this)))
    rw [hzn] at H1 hn
    rw [hzm] at H2
    rw [hzn, hzm]
    clear hd hl hzn hzm
    have hne : (((n : Nat) : Int) != (n : Int)) = false := by simp
    go_enter Tryz.func17, Tryz.ntmps17
    go_wp2
    go_loopw [5] (fun i wr => ∃ k : Nat, k ≤ n ∧ i = .int .i64 k ∧ Hid (∀ j, j < k → za.getD j 0 = zb.getD j 0) ∧ Below w.heap.size w wr) (fun i _ => n - (intOf i).toNat)
    case atStart => exact ⟨0, by omega, rfl, Lib.hid (fun j hj => absurd hj (by omega)), Below.refl _ _⟩
    case round =>
      obtain ⟨k, hk, rfl, heq, hb⟩ := hrel
      have hsz := hb.size
      by_cases hlt : k < n
      · obtain ⟨g1, rfl, hg1, hs1⟩ := H1.out (by omega)
        obtain ⟨g2, rfl, hg2, hs2⟩ := H2.out (by omega)
        have p1 := (hb.cell (p := ⟨g1, k, none⟩) (Nat.lt_of_lt_of_le hg1 hB)).trans (hs1 k hlt)
        have p2 := (hb.cell (p := ⟨g2, k, none⟩) (Nat.lt_of_lt_of_le hg2 hB)).trans (hs2 k hlt)
        have HEQ := Lib.hid (fun (h : za.getD k 0 = zb.getD k 0) j (hj : j < k + 1) => (show za.getD j 0 = zb.getD j 0 from by
          rcases Nat.lt_or_ge j k with h9 | h9
          · exact heq.out j h9
          · rw [show j = k by omega]
            exact h))
        generalize za.getD k 0 = z at p1 HEQ
        generalize zb.getD k 0 = y at p2 HEQ
        have hk0 : (0 : Int) ≤ (k : Int) := by omega
        have hk1 : (k : Int) < (n : Int) := by omega
        clear hs1 hs2
        by_cases hzy : z = y
        · have HQ := Lib.hid (HEQ.out hzy)
          clear HEQ
          subst hzy
          have hzz : (z != z) = false := by simp
          go_wp2_with fail
          go_quiet (fail)
          go_wp2
          go_roundw
          case rel => exact ⟨k + 1, by omega, by go_num, HQ, below_drewn hb _⟩
          case measure => simp [intOf]; omega
        · have hzz : (z != y) = true := by simpa using hzy
          clear HEQ
          go_wp2_with fail
          go_quiet (fail)
          go_wp2
          go_ret
          exact ⟨rfl, below_drewn hb _⟩
      · exact absurd (fun j hj => heq.out j (by omega)) HD.out
  · have hne : ((za.length : Int) != (zb.length : Int)) = true := by simp; omega
    go_enter Tryz.func17, Tryz.ntmps17
    go_wp2
    go_ret
    exact ⟨rfl, Below.refl _ _⟩

end Go.Proofs.YtkjlmgkjcmebbaaGreatDoor
