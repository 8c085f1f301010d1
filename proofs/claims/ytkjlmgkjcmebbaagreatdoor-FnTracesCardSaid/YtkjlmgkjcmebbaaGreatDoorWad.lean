/-
  The laws' helpers that compare, mark and look at slices of numbers.
  Slices of numbers in memory, regions as values, and what the laws' own helpers on them give.
  Motions of shapes and their orders, as lists: plain facts, nothing of the program.
-/
import Derived.Test.YtkjlmgkjcmebbaaGreatDoorWaa
import Derived.Test.YtkjlmgkjcmebbaaGreatDoorWac
import Derived.BigQuiet
import Derived.Deep.QuietTactic
import Derived.Test.YtkjlmgkjcmebbaaGreatDoorWab
import Derived.Test.YtkjlmgkjcmebbaaGreatDoorPur
namespace Go.Proofs.YtkjlmgkjcmebbaaGreatDoor

section
open Go.RowKit

/-- A value that reads as a list of numbers. -/
def IsRd (B : Nat) (w : World) (v : Value) (zs : List Int) : Prop := ∃ a cap, v = .slice a zs.length cap ∧ (0 < zs.length → ∃ g, a = some ⟨g, 0, none⟩ ∧ g < B ∧ ∀ k, k < zs.length → w.cell? ⟨g, k, none⟩ = some (.int .i64 (zs.getD k 0)))
theorem IsRd.on {B : Nat} {w w' : World} {v : Value} {zs : List Int} (h : IsRd B w v zs) (hb : Below B w w') : IsRd B w' v zs := by
  obtain ⟨a, cap, e, h1⟩ := h
  exact ⟨a, cap, e, fun h0 => by obtain ⟨g, e1, hlt, h2⟩ := h1 h0; exact ⟨g, e1, hlt, fun k hk => (hb.cell (p := ⟨g, k, none⟩) hlt).trans (h2 k hk)⟩⟩
theorem IsRd.more {B B' : Nat} {w : World} {v : Value} {zs : List Int} (h : IsRd B w v zs) (hB : B ≤ B') : IsRd B' w v zs := by
  obtain ⟨a, cap, e, h1⟩ := h
  exact ⟨a, cap, e, fun h0 => by obtain ⟨g, e1, hlt, h2⟩ := h1 h0; exact ⟨g, e1, Nat.lt_of_lt_of_le hlt hB, h2⟩⟩
theorem IsRd.of_own {B : Nat} {w : World} {v : Value} {zs : List Int} (h : w.ownsRow B 3 1 v zs.length (zs.map (Value.int .i64))) : IsRd w.heap.size w v zs := by
  rcases h.2 with ⟨rfl, h0⟩ | ⟨g, cap, cur, rfl, hb, hg, _⟩
  · have : zs = [] := List.eq_nil_of_length_eq_zero h0
    subst this
    exact ⟨none, 0, rfl, fun h9 => absurd h9 (Nat.lt_irrefl 0)⟩
  · refine ⟨_, cap, rfl, fun _ => ⟨g, rfl, (Array.getElem?_eq_some_iff.1 hg).1, fun k hk => ?_⟩⟩
    rw [h.cellAt k (by omega)]
    simp [List.getD, hk]

set_option maxHeartbeats 1000000 in
set_option maxRecDepth 100000 in
theorem lEqI (B : Nat) (v1 v2 : Value) (zs : List Int) (w : World) (hn : zs.length ≤ 4194304) (h1 : IsRd B w v1 zs) (h2 : IsRd B w v2 zs) (hB : B ≤ w.heap.size) :
    Calls Tryz.prog 43 #[v1, v2] w fun e w' => e = .returned (.bool true) ∧ Below w.heap.size w w' := by
  obtain ⟨a1, c1, rfl, hr1⟩ := h1
  obtain ⟨a2, c2, rfl, hr2⟩ := h2
  have H1 := Lib.hid hr1
  have H2 := Lib.hid hr2
  generalize zs.length = n at *
  have hne : (((n : Nat) : Int) != (n : Int)) = false := by simp
  clear hr1 hr2
  go_enter Tryz.func43, Tryz.ntmps43
  go_wp2
  go_loopw [5] (fun i wr => ∃ k : Nat, k ≤ n ∧ i = .int .i64 k ∧ Below w.heap.size w wr) (fun i _ => n - (intOf i).toNat)
  case atStart => exact ⟨0, by omega, rfl, Below.refl _ _⟩
  case round =>
    obtain ⟨k, hk, rfl, hb⟩ := hrel
    have hsz := hb.size
    by_cases hlt : k < n
    · obtain ⟨g1, rfl, hg1, hs1⟩ := H1.out (by omega)
      obtain ⟨g2, rfl, hg2, hs2⟩ := H2.out (by omega)
      have p1 := (hb.cell (p := ⟨g1, k, none⟩) (Nat.lt_of_lt_of_le hg1 hB)).trans (hs1 k hlt)
      have p2 := (hb.cell (p := ⟨g2, k, none⟩) (Nat.lt_of_lt_of_le hg2 hB)).trans (hs2 k hlt)
      generalize zs.getD k 0 = z at p1 p2
      have hk0 : (0 : Int) ≤ (k : Int) := by omega
      have hk1 : (k : Int) < (n : Int) := by omega
      have hzz : (z != z) = false := by simp
      clear hs1 hs2
      go_wp2_with fail
      go_quiet (fail)
      go_wp2
      go_roundw
      case rel => exact ⟨k + 1, by omega, by go_num, below_drewn hb _⟩
      case measure => simp [intOf]; omega
    · obtain rfl : k = n := by omega
      go_wp2
      go_ret
      exact ⟨rfl, hb⟩

/-- Marks: the numbers from k on. -/
def marksI (k : Int) (n : Nat) : List Int := (List.range n).map fun (j : Nat) => k + (j : Int)
theorem marksI_length (k : Int) (n : Nat) : (marksI k n).length = n := by simp [marksI]
theorem marksI_succ (k : Int) (n : Nat) : marksI k (n + 1) = marksI k n ++ [k + (n : Int)] := by simp [marksI, List.range_succ]
theorem marksI_get (k : Int) (n j : Nat) (h : j < n) : (marksI k n).getD j 0 = k + (j : Int) := by simp [marksI, h]
theorem markI_step (k : Int) (j : Nat) (l : List Int) (h : j < l.length) : ((marksI k j ++ l.drop j).map (Value.int .i64)).set j (.int .i64 (k + (j : Int))) = (marksI k (j + 1) ++ l.drop (j + 1)).map (Value.int .i64) := by
  rw [← List.map_set, List.set_append_right _ _ (by simp [marksI_length]), marksI_length, Nat.sub_self, List.drop_eq_getElem_cons h, List.set_cons_zero, marksI_succ, List.append_assoc]
  rfl

set_option maxHeartbeats 1000000 in
set_option maxRecDepth 100000 in
theorem lMarkI (base : Nat) (v : Value) (zs : List Int) (k0 : Int) (w : World) (hn : zs.length ≤ 4194304) (h0 : 0 ≤ k0) (h1 : k0 ≤ 1048576) (ho : w.ownsRow base 3 1 v zs.length (zs.map (Value.int .i64))) :
    Calls Tryz.prog 48 #[v, .int .i64 k0] w fun e w' => e = .returned (.int .i64 (k0 + zs.length)) ∧ w'.ownsRow base 3 1 v zs.length ((marksI k0 zs.length).map (Value.int .i64)) ∧ w.grownBy w' v.ownBlock := by
  by_cases hz : zs.length = 0
  · have e0 : zs = [] := List.eq_nil_of_length_eq_zero hz
    subst e0
    have HO := Lib.hid ho
    have hv : ∃ av cv, v = .slice av 0 cv := by
      rcases ho.2 with ⟨rfl, _⟩ | ⟨g, cv, cur, rfl, _⟩
      · exact ⟨_, _, rfl⟩
      · exact ⟨_, _, rfl⟩
    obtain ⟨av, cv, rfl⟩ := hv
    clear ho hz
    go_enter Tryz.func48, Tryz.ntmps48
    go_wp2
    go_loopw [5, 1] (fun i q wr => i = .int .i64 0 ∧ q = .int .i64 k0 ∧ wr = w) (fun i _ _ => 0 - (intOf i).toNat)
    case atStart => exact ⟨rfl, rfl, rfl⟩
    case round =>
      obtain ⟨rfl, rfl, rfl⟩ := hrel
      go_wp2
      go_ret
      exact ⟨by simp, HO.out, World.grownBy.refl _ _⟩
  · obtain ⟨g, cap, rfl⟩ : ∃ g cap, v = .slice (some ⟨g, 0, none⟩) zs.length cap := by
      rcases ho.2 with ⟨_, h9⟩ | ⟨g, cap, cur, rfl, _⟩
      · exact absurd h9 hz
      · exact ⟨g, cap, rfl⟩
    generalize hN : zs.length = n at *
    have HL := Lib.hid hN
    clear hN
    go_enter Tryz.func48, Tryz.ntmps48
    go_wp2
    go_loopw [5, 1] (fun i q wr => ∃ k : Nat, k ≤ n ∧ i = .int .i64 k ∧ q = .int .i64 (k0 + k) ∧ Hid (wr.ownsRow base 3 1 (.slice (some ⟨g, 0, none⟩) n cap) n ((marksI k0 k ++ zs.drop k).map (Value.int .i64))) ∧ w.grownBy wr (some g)) (fun i _ _ => n - (intOf i).toNat)
    case atStart => exact ⟨0, by omega, rfl, by simp, by simpa [marksI, Hid] using ho, World.grownBy.refl _ _⟩
    case round =>
      obtain ⟨k, hk, rfl, rfl, hown, hg⟩ := hrel
      by_cases hlt : k < n
      · have hk0 : (0 : Int) ≤ (k : Int) := by omega
        have hk1 : (k : Int) < (n : Int) := by omega
        have hlen : k < ((marksI k0 k ++ zs.drop k).map (Value.int .i64)).length := by have := HL.out; simp [marksI_length]; omega
        have c0 := hown.out.cellAt k (by omega)
        rw [List.getElem?_eq_getElem hlen] at c0
        have f0 := hown.out.frozenAt k
        have hs1 := hown.out.stored k (.int .i64 (k0 + k))
        have hO := hs1.1
        rw [markI_step _ _ _ (by have := HL.out; omega)] at hO
        have HO := Lib.hid hO
        have HG := Lib.hid (hg.trans hs1.2)
        generalize ((marksI k0 k ++ zs.drop k).map (Value.int .i64))[k] = u at c0
        clear hs1 hown hg hO hlen
        go_wp2
        go_roundw
        case rel => exact ⟨k + 1, by omega, by go_num, by go_num, HO.out, HG.out⟩
        case measure => simp [intOf]; omega
      · have e : k = n := by omega
        subst e
        have e2 : marksI k0 k ++ zs.drop k = marksI k0 k := by rw [List.drop_of_length_le (by have := HL.out; omega), List.append_nil]
        rw [e2] at hown
        go_wp2
        go_ret
        exact ⟨by rfl, hown.out, hg⟩

set_option maxHeartbeats 1000000 in
set_option maxRecDepth 100000 in
theorem lHeldI (B n : Nat) (v : Value) (k0 : Int) (w : World) (hn : n ≤ 4194304) (h0 : 0 ≤ k0) (h1 : k0 ≤ 1048576) (hr : IsRd B w v (marksI k0 n)) (hB : B ≤ w.heap.size) :
    Calls Tryz.prog 49 #[v, .int .i64 k0] w fun e w' => e = .returned (.int .i64 (k0 + n)) ∧ Below w.heap.size w w' := by
  obtain ⟨a1, c1, rfl, hr1⟩ := hr
  rw [marksI_length] at hr1 ⊢
  have H1 := Lib.hid hr1
  clear hr1
  go_enter Tryz.func49, Tryz.ntmps49
  go_wp2
  go_loopw [5, 1] (fun i q wr => ∃ k : Nat, k ≤ n ∧ i = .int .i64 k ∧ q = .int .i64 (k0 + k) ∧ Below w.heap.size w wr) (fun i _ _ => n - (intOf i).toNat)
  case atStart => exact ⟨0, by omega, rfl, by simp, Below.refl _ _⟩
  case round =>
    obtain ⟨k, hk, rfl, rfl, hb⟩ := hrel
    by_cases hlt : k < n
    · obtain ⟨g1, rfl, hg1, hs1⟩ := H1.out (by omega)
      have p1 := (hb.cell (p := ⟨g1, k, none⟩) (Nat.lt_of_lt_of_le hg1 hB)).trans (hs1 k hlt)
      rw [marksI_get k0 n k hlt] at p1
      have hk0 : (0 : Int) ≤ (k : Int) := by omega
      have hk1 : (k : Int) < (n : Int) := by omega
      have hzz : ((k0 + (k : Int)) != (k0 + (k : Int))) = false := by simp
      clear hs1
      go_wp2
      go_roundw
      case rel => exact ⟨k + 1, by omega, by go_num, by go_num, hb⟩
      case measure => simp [intOf]; omega
    · obtain rfl : k = n := by omega
      go_wp2
      go_ret
      exact ⟨rfl, hb⟩
end

section
open Go.RowKit

def iv (l : List Int) : List Value := l.map (Value.int .i64)
def In64 (z : Int) : Prop := -9223372036854775808 ≤ z ∧ z ≤ 9223372036854775807
/-- A slice that reads as the list of numbers l, its memory below block B. -/
def IntsAt (B : Nat) (w : World) (a : Option Addr) (n : Nat) (l : List Int) : Prop :=
  l.length = n ∧ (∀ z ∈ l, In64 z) ∧ (0 < n → ∃ b off, a = some ⟨b, off, none⟩ ∧ b < B ∧ ∀ k, k < n → w.cell? ⟨b, off + k, none⟩ = some (.int .i64 (l.getD k 0)))
theorem IntsAt.on {B n : Nat} {w w' : World} {a : Option Addr} {l : List Int} (h : IntsAt B w a n l) (hb : Below B w w') : IntsAt B w' a n l :=
  ⟨h.1, h.2.1, fun hp => by
    obtain ⟨b, off, e, hlt, hc⟩ := h.2.2 hp
    exact ⟨b, off, e, hlt, fun k hk => (hb.cell (p := ⟨b, off + k, none⟩) hlt).trans (hc k hk)⟩⟩
theorem IntsAt.more {B B' n : Nat} {w : World} {a : Option Addr} {l : List Int} (h : IntsAt B w a n l) (hB : B ≤ B') : IntsAt B' w a n l :=
  ⟨h.1, h.2.1, fun hp => by
    obtain ⟨b, off, e, hlt, hc⟩ := h.2.2 hp
    exact ⟨b, off, e, by omega, hc⟩⟩
theorem iv_length (l : List Int) : (iv l).length = l.length := by simp [iv]
theorem iv_get (l : List Int) (k : Nat) (h : k < l.length) : (iv l)[k]? = some (.int .i64 (l.getD k 0)) := by simp [iv, List.getD, h]
theorem iv_one (l : List Int) : ∀ u ∈ iv l, u.oneCell' = true := by
  intro u hu
  obtain ⟨z, _, rfl⟩ := List.mem_map.1 hu
  rfl
theorem iv_set (l : List Int) (k : Nat) (z : Int) : (iv l).set k (.int .i64 z) = iv (l.set k z) := by simp [iv]
theorem IntsAt.of_own {base n cap : Nat} {w : World} {a : Option Addr} {l : List Int} (h : w.ownsRow base 3 1 (.slice a n cap) n (iv l)) (hi : ∀ z ∈ l, In64 z) : IntsAt w.heap.size w a n l := by
  have hl : l.length = n := by have := h.1; rw [iv_length] at this; omega
  refine ⟨hl, hi, fun hp => ?_⟩
  rcases h.2 with ⟨_, h0⟩ | ⟨g, c, cur, he, hb, hg, hnc, hcm, hcs, ht⟩
  · omega
  · injection he with e1 e2 e3
    subst e1 e3
    have hlt : g < w.heap.size := (Array.getElem?_eq_some_iff.1 hg).1
    refine ⟨g, 0, rfl, hlt, fun k hk => ?_⟩
    have c0 := h.cellAt k (by omega)
    rw [iv_get l k (by omega)] at c0
    rw [Nat.zero_add]
    exact c0
theorem IsRd.of_own2 {B n cap : Nat} {w : World} {a : Option Addr} {zs : List Int} (h : w.ownsRow B 3 1 (.slice a n cap) n (iv zs)) : IsRd w.heap.size w (.slice a n cap) zs := by
  have hl : zs.length = n := by have := h.1; rw [iv_length] at this; omega
  subst hl
  exact IsRd.of_own h
theorem info_int : (Tryz.prog.info? 3).map (fun i => (i.zero, i.size, i.bytes)) = some (some (.int .i64 0), 1, 8) := by kernel_rfl
theorem made_ints (n : Nat) : (madeCells #[Value.int .i64 0] n).toList = iv (List.replicate n 0) := by
  apply List.ext_getElem?
  intro j
  by_cases hj : j < n
  · rw [iv_get _ _ (by simpa using hj)]
    simp [madeCells, hj, List.getD, Nat.mod_one]
  · rw [List.getElem?_eq_none (by simp [madeCells]; omega), List.getElem?_eq_none (by rw [iv_length]; simp; omega)]
theorem fillI_step (l : List Int) (k n : Nat) (h : k < n) (hl : l.length = n) : (l.take k ++ List.replicate (n - k) (0 : Int)).set k (l.getD k 0) = l.take (k + 1) ++ List.replicate (n - (k + 1)) 0 := by
  have e : n - k = (n - (k + 1)) + 1 := by omega
  rw [e, List.replicate_succ, List.set_append_right _ _ (by simp; omega)]
  have e2 : k - (l.take k).length = 0 := by simp; omega
  rw [e2, List.set_cons_zero, List.take_succ_eq_append_getElem (by omega)]
  have e3 : l.getD k 0 = l[k]'(by omega) := by simp [List.getD, show k < l.length by omega]
  rw [e3, List.append_assoc]
  rfl

set_option maxHeartbeats 400000 in
set_option maxRecDepth 100000 in
/-- The laws' copy of a slice of numbers: a new slice that reads alike. -/
theorem lToIntS (B n cap : Nat) (a : Option Addr) (l : List Int) (w : World) (hn : n ≤ 1048576) (hc : IntsAt B w a n l) (hB : B ≤ w.heap.size) :
    Calls Tryz.prog 82 #[.slice a n cap] w fun e w' => e = .returned (.slice (some ⟨w.heap.size, 0, none⟩) n n) ∧ w'.ownsRow w.heap.size 3 1 (.slice (some ⟨w.heap.size, 0, none⟩) n n) n (iv l) ∧ Below w.heap.size w w' := by
  obtain ⟨i0, hi, hz0, hz1, hz2⟩ := info_parts info_int
  have HC := Lib.hid hc
  clear hc
  go_enter Tryz.func82, Tryz.ntmps82
  go_wp2_with (first | (at_make; refine wpList_make_full _ rfl _ _ 24 rfl w.heap.size 3 i0 (.int .i64 0) 1 Tryz.underlying24 hi hz0 hz1 _ _ _ _ n rfl rfl rfl rfl ?b2 ?b3 (Nat.le_refl _) ?_) | go_in)
  case b2 => rw [hz2]; omega
  case b3 => unfold maxLen; omega
  intro w0 hown0 hgrow0
  go_wp2
  go_loopw [4] (fun i wr => ∃ k : Nat, k ≤ n ∧ i = .int .i64 k ∧ Hid (wr.ownsRow w.heap.size 3 1 (.slice (some ⟨w.heap.size, 0, none⟩) n n) n (iv (l.take k ++ List.replicate (n - k) 0))) ∧ Below w.heap.size w wr) (fun i _ => n - (intOf i).toNat)
  case atStart => exact ⟨0, by omega, rfl, by rw [made_ints n] at hown0; simpa [Hid] using hown0, (Below.refl _ _).grown hgrow0 (Nat.le_refl _) (fun k h => by cases h)⟩
  case round =>
    obtain ⟨k, hk, rfl, hown, hbl⟩ := hrel
    by_cases hlt : k < n
    · obtain ⟨b, off, rfl, hb, hcell⟩ := HC.out.2.2 (by omega)
      have p1 := (hbl.cell (p := ⟨b, off + k, none⟩) (Nat.lt_of_lt_of_le hb hB)).trans (hcell k hlt)
      have HL := Lib.hid HC.out.1
      have hk0 : (0 : Int) ≤ (k : Int) := by omega
      have hk1 : (k : Int) < (n : Int) := by omega
      obtain ⟨z, hz⟩ : ∃ z, l.getD k 0 = z := ⟨_, rfl⟩
      rw [hz] at p1
      have HZ := Lib.hid hz
      have hlen : k < (l.take k ++ List.replicate (n - k) (0 : Int)).length := by have := HL.out; simp; omega
      have c0 := hown.out.cellAt k (by omega)
      rw [iv_get _ k hlen] at c0
      have f0 := hown.out.frozenAt k
      have hs1 := hown.out.stored k (.int .i64 z)
      rw [iv_set, ← hz, fillI_step l k n hlt HL.out, hz] at hs1
      have HO := Lib.hid hs1.1
      have HG := Lib.hid (hbl.grown hs1.2 hbl.size (fun j hj => by cases hj; exact Nat.le_refl _))
      generalize (l.take k ++ List.replicate (n - k) (0 : Int)).getD k 0 = u at c0
      clear hs1 hlen hz hcell hown hbl
      go_wp2
      go_roundw
      case rel => exact ⟨k + 1, by omega, by go_num, HO.out, HG.out⟩
      case measure => simp [intOf]; omega
    · have e : l.take k ++ List.replicate (n - k) (0 : Int) = l := by
        have := HC.out.1
        rw [List.take_of_length_le (by omega), show n - k = 0 by omega]
        simp
      rw [e] at hown
      go_wp2
      go_ret
      exact ⟨rfl, hown.out, hbl⟩

/-- A region as a value. -/
def rv (W : Int) (a : Option Addr) (n cap : Nat) : Value := .agg #[.int .i64 W, .slice a n cap]

/-- A region in memory, as two cells. -/
def RgAt (w : World) (g : Nat) (W : Int) (v : Value) : Prop := w.heap[g]? = some (.cells #[.int .i64 W, v] 26 (0, 0))
theorem RgAt.lt {w : World} {g : Nat} {W : Int} {v : Value} (h : RgAt w g W v) : g < w.heap.size := (Array.getElem?_eq_some_iff.1 h).1
theorem RgAt.c0 {w : World} {g : Nat} {W : Int} {v : Value} (h : RgAt w g W v) : w.cell? ⟨g, 0, none⟩ = some (.int .i64 W) := cell_of_row w g 0 _ _ _ h
theorem RgAt.c1 {w : World} {g : Nat} {W : Int} {v : Value} (h : RgAt w g W v) : w.cell? ⟨g, 1, none⟩ = some v := cell_of_row w g 1 _ _ _ h
theorem RgAt.f {w : World} {g : Nat} {W : Int} {v : Value} (h : RgAt w g W v) (j : Nat) : w.frozen? ⟨g, j, none⟩ = false := by unfold RgAt at h; simp [World.frozen?, h]
theorem RgAt.new {w : World} {N : Nat} (W : Int) (v : Value) (h : w.heap.size = N) : RgAt (w.alloc (.cells #[.int .i64 W, v] 26)) N W v := by subst h; exact heap_alloc_new _ _
theorem RgAt.alloc {w : World} {g : Nat} {W : Int} {v : Value} (h : RgAt w g W v) (o : Obj) : RgAt (w.alloc o) g W v := (Below.heap_alloc w o g h.lt).trans h
theorem RgAt.on {w w' : World} {g B : Nat} {W : Int} {v : Value} (h : RgAt w g W v) (hb : Below B w w') (hlt : g < B) : RgAt w' g W v := (hb.block g hlt).trans h
theorem RgAt.set1 {w : World} {g : Nat} {W : Int} {v : Value} (h : RgAt w g W v) (u : Value) : RgAt (w.setCell ⟨g, 1, none⟩ u) g W u := by
  have := set_row h 1 u
  unfold RgAt
  simpa using this
theorem RgAt.set2 {w : World} {g : Nat} {W : Int} {v : Value} (h : RgAt w g W v) (x : Int) (u : Value) : RgAt ((w.setCell ⟨g, 0, none⟩ (.int .i64 x)).setCell ⟨g, 1, none⟩ u) g x u := by
  have := set_row (set_row h 0 (.int .i64 x)) 1 u
  unfold RgAt
  simpa using this
theorem RgAt.far {w : World} {g g' j : Nat} {W : Int} {v u : Value} (h : RgAt w g W v) (hne : g' ≠ g) : RgAt (w.setCell ⟨g', j, none⟩ u) g W v := (Below.heap_setCell w ⟨g', j, none⟩ u g (fun e => hne e.symm)).trans h
theorem RgAt.by {w w' : World} {g : Nat} {W : Int} {v : Value} {r : Option Nat} (h : RgAt w g W v) (hg : w.grownBy w' r) (hne : r ≠ some g) : RgAt w' g W v := (hg.block g h.lt (fun e => hne e.symm)).trans h
/-- A region of the laws' own type in memory. -/
def LgAt (w : World) (g : Nat) (W : Int) (v : Value) : Prop := w.heap[g]? = some (.cells #[.int .i64 W, v] 47 (0, 0))
theorem LgAt.lt {w : World} {g : Nat} {W : Int} {v : Value} (h : LgAt w g W v) : g < w.heap.size := (Array.getElem?_eq_some_iff.1 h).1
theorem LgAt.c0 {w : World} {g : Nat} {W : Int} {v : Value} (h : LgAt w g W v) : w.cell? ⟨g, 0, none⟩ = some (.int .i64 W) := cell_of_row w g 0 _ _ _ h
theorem LgAt.c1 {w : World} {g : Nat} {W : Int} {v : Value} (h : LgAt w g W v) : w.cell? ⟨g, 1, none⟩ = some v := cell_of_row w g 1 _ _ _ h
theorem LgAt.new {w : World} {N : Nat} (W : Int) (v : Value) (h : w.heap.size = N) : LgAt (w.alloc (.cells #[.int .i64 W, v] 47)) N W v := by subst h; exact heap_alloc_new _ _
theorem LgAt.alloc {w : World} {g : Nat} {W : Int} {v : Value} (h : LgAt w g W v) (o : Obj) : LgAt (w.alloc o) g W v := (Below.heap_alloc w o g h.lt).trans h
theorem LgAt.on {w w' : World} {g B : Nat} {W : Int} {v : Value} (h : LgAt w g W v) (hb : Below B w w') (hlt : g < B) : LgAt w' g W v := (hb.block g hlt).trans h
theorem LgAt.by {w w' : World} {g : Nat} {W : Int} {v : Value} {r : Option Nat} (h : LgAt w g W v) (hg : w.grownBy w' r) (hne : r ≠ some g) : LgAt w' g W v := (hg.block g h.lt (fun e => hne e.symm)).trans h
theorem ne_rowT {v u : Value} {a b c d : Nat} (h : ∀ k, v.ownBlock = some k → a ≤ k ∧ k < b) (h2 : ∀ k, u.ownBlock = some k → c ≤ k ∧ k < d) (hd : b ≤ c ∨ d ≤ a) : v.ownBlock = none ∨ v.ownBlock ≠ u.ownBlock := by
  cases e : v.ownBlock with
  | none => exact .inl rfl
  | some k => exact .inr fun e2 => by have := h k e; have := h2 k e2.symm; omega
theorem ne_blkT {u : Value} {c d g : Nat} (h2 : ∀ k, u.ownBlock = some k → c ≤ k ∧ k < d) (hd : g < c ∨ d ≤ g) : u.ownBlock ≠ some g := fun e => by have := h2 g e; omega
theorem grown_set1 (w : World) (g o : Nat) (v : Value) : w.grownBy (w.setCell ⟨g, o, none⟩ v) (some g) := ⟨rfl, rfl, rfl, by simp [World.setCell], fun k _ hne => by
  have : g ≠ k := fun e => hne (by rw [e])
  simp [World.setCell, Array.getElem?_modify, this]⟩

theorem own_far {w : World} {base size n cap g b o : Nat} {t : TypeId} {xs : List Value} {u : Value} (h : w.ownsRow base t size (.slice (some ⟨g, 0, none⟩) n cap) n xs) (hne : b ≠ g) : (w.setCell ⟨b, o, none⟩ u).ownsRow base t size (.slice (some ⟨g, 0, none⟩) n cap) n xs :=
  h.kept (grown_set1 w b o u) (.inr fun e => hne (Option.some.inj (show some g = some b from e)).symm)

set_option maxHeartbeats 400000 in
set_option maxRecDepth 100000 in
theorem lToRegion (B n cap : Nat) (a : Option Addr) (W : Int) (l : List Int) (w : World) (hn : n ≤ 1048576) (hc : IntsAt B w a n l) (hB : B ≤ w.heap.size) :
    Calls Tryz.prog 40 #[.agg #[.int .i64 W, .slice a n cap]] w fun e w' => ∃ g, e = .returned (.agg #[.int .i64 W, .slice (some ⟨g, 0, none⟩) n n]) ∧ w'.ownsRow w.heap.size 3 1 (.slice (some ⟨g, 0, none⟩) n n) n (iv l) ∧ Below w.heap.size w w' := by
  have H := Lib.hid hc
  clear hc
  go_enter Tryz.func40, Tryz.ntmps40
  go_wp2_with fail
  obtain ⟨W1, hW1⟩ : ∃ x, w.alloc (.cells #[.int .i64 W, .slice a n cap] 47) = x := ⟨_, rfl⟩
  have hs1 : W1.heap.size = w.heap.size + 1 := by rw [← hW1]; simp
  have hb1 : Below w.heap.size w W1 := by rw [← hW1]; exact (Below.refl _ _).alloc (Nat.le_refl _) _
  rw [hW1]
  have R2 := (RgAt.new (w := W1) 0 (.slice none 0 0) hs1).alloc (.cells #[.int .i64 W, .slice none 0 0] 26)
  have R3 := RgAt.new (w := W1.alloc (.cells #[.int .i64 0, .slice none 0 0] 26)) (N := w.heap.size + 1 + 1) W (.slice none 0 0) (by simp [hs1])
  have hb3 := (hb1.alloc hb1.size (.cells #[.int .i64 0, .slice none 0 0] 26)).alloc (by simp [hs1]; omega) (.cells #[.int .i64 W, .slice none 0 0] 26)
  have hs3 : ((W1.alloc (.cells #[.int .i64 0, .slice none 0 0] 26)).alloc (.cells #[.int .i64 W, .slice none 0 0] 26)).heap.size = w.heap.size + 1 + 1 + 1 := by simp [hs1]
  generalize (W1.alloc (.cells #[.int .i64 0, .slice none 0 0] 26)).alloc (.cells #[.int .i64 W, .slice none 0 0] 26) = W3 at *
  refine (lToIntS B n cap a l W3 hn (H.out.on (hb3.mono hB)) (Nat.le_trans hB hb3.size)).mono ?_
  rintro e w4 ⟨rfl, hown, hb4⟩
  have R2' := R2.on hb4 R2.lt
  have R3' := R3.on hb4 R3.lt
  have hB4 := hb3.trans (hb4.mono hb3.size)
  rw [hs3] at hown ⊢
  have c0 := R3'.c0
  have c1 := R3'.c1
  have f1 := R3'.f 1
  have d0 := R2'.c0
  have d1 := R2'.c1
  have g0 := R2'.f 0
  have g1 := R2'.f 1
  have HO := Lib.hid hown
  have HR2 := Lib.hid R2'
  have HR3 := Lib.hid R3'
  have HB := Lib.hid hB4
  clear hb1 hb3 hb4 hW1 R2 R3 hown R2' R3' hB4
  go_wp2
  have R9 := (HR2.out.far (g' := w.heap.size + 1 + 1) (j := 1) (u := .slice (some ⟨w.heap.size + 1 + 1 + 1, 0, none⟩) n n) (by omega)).set2 W (.slice (some ⟨w.heap.size + 1 + 1 + 1, 0, none⟩) n n)
  have e0 := R9.c0
  have e1 := R9.c1
  have HO9 := Lib.hid (own_below (own_far (b := w.heap.size + 1) (o := 1) (u := .slice (some ⟨w.heap.size + 1 + 1 + 1, 0, none⟩) n n) (own_far (b := w.heap.size + 1) (o := 0) (u := .int .i64 W) (own_far (b := w.heap.size + 1 + 1) (o := 1) (u := .slice (some ⟨w.heap.size + 1 + 1 + 1, 0, none⟩) n n) HO.out (by omega)) (by omega)) (by omega)) (show w.heap.size ≤ w.heap.size + 1 + 1 + 1 by omega))
  have HB9 := Lib.hid (((HB.out.setCell (p := ⟨w.heap.size + 1 + 1, 1, none⟩) (by show w.heap.size ≤ w.heap.size + 1 + 1; omega) (.slice (some ⟨w.heap.size + 1 + 1 + 1, 0, none⟩) n n)).setCell (p := ⟨w.heap.size + 1, 0, none⟩) (by show w.heap.size ≤ w.heap.size + 1; omega) (.int .i64 W)).setCell (p := ⟨w.heap.size + 1, 1, none⟩) (by show w.heap.size ≤ w.heap.size + 1; omega) (.slice (some ⟨w.heap.size + 1 + 1 + 1, 0, none⟩) n n))
  generalize (((w4.setCell ⟨w.heap.size + 1 + 1, 1, none⟩ (.slice (some ⟨w.heap.size + 1 + 1 + 1, 0, none⟩) n n)).setCell ⟨w.heap.size + 1, 0, none⟩ (.int .i64 W)).setCell ⟨w.heap.size + 1, 1, none⟩ (.slice (some ⟨w.heap.size + 1 + 1 + 1, 0, none⟩) n n)) = w9 at *
  exact bodyPost_ret (v := .agg #[.int .i64 W, .slice (some ⟨w.heap.size + 1 + 1 + 1, 0, none⟩) n n]) (by simp [results, Tryz.results40, go_sem, e0, e1]) rfl ⟨_, rfl, HO9.out, HB9.out⟩

theorem lSzI_fits (a : Option Addr) (n cap : Nat) (left : Int) (w : World) (h0 : left ≤ 1048576) (h : (n : Int) ≤ left) :
    Calls Tryz.prog 80 #[.slice a n cap, .int .i64 left] w fun e w' => e = .returned (.int .i64 (left - n)) ∧ w = w' := by
  go_enter Tryz.func80, Tryz.ntmps80
  go_wp2
  go_ret
  exact ⟨rfl, rfl⟩
theorem lSzI_big (a : Option Addr) (n cap : Nat) (left : Int) (w : World) (h0 : 0 ≤ left) (h : left < n) (hn : n ≤ 9223372036854775807) :
    Calls Tryz.prog 80 #[.slice a n cap, .int .i64 left] w fun e w' => e = .returned (.int .i64 (-1)) ∧ w = w' := by
  go_enter Tryz.func80, Tryz.ntmps80
  go_wp2
  go_ret
  exact ⟨rfl, rfl⟩
theorem lSzR_fits (W : Int) (a : Option Addr) (n cap : Nat) (left : Int) (w : World) (h0 : left ≤ 1048576) (h : (n : Int) ≤ left) :
    Calls Tryz.prog 37 #[.agg #[.int .i64 W, .slice a n cap], .int .i64 left] w fun e w' => e = .returned (.int .i64 (left - n)) ∧ Below w.heap.size w w' := by
  go_enter Tryz.func37, Tryz.ntmps37
  go_wp2_with fail
  refine (lSzI_fits a n cap left _ h0 h).mono ?_
  rintro e w' ⟨rfl, rfl⟩
  go_wp2
  go_ret
  exact ⟨rfl, (Below.refl _ _).alloc (Nat.le_refl _) _⟩
theorem lSzR_big (W : Int) (a : Option Addr) (n cap : Nat) (left : Int) (w : World) (h0 : 0 ≤ left) (h : left < n) (hn : n ≤ 9223372036854775807) :
    Calls Tryz.prog 37 #[.agg #[.int .i64 W, .slice a n cap], .int .i64 left] w fun e w' => e = .returned (.int .i64 (-1)) ∧ Below w.heap.size w w' := by
  go_enter Tryz.func37, Tryz.ntmps37
  go_wp2_with fail
  refine (lSzI_big a n cap left _ h0 h hn).mono ?_
  rintro e w' ⟨rfl, rfl⟩
  go_wp2
  go_ret
  exact ⟨rfl, (Below.refl _ _).alloc (Nat.le_refl _) _⟩

set_option maxHeartbeats 400000 in
theorem lEqR (B : Nat) (W : Int) (v1 v2 : Value) (zs : List Int) (w : World) (hn : zs.length ≤ 4194304) (h1 : IsRd B w v1 zs) (h2 : IsRd B w v2 zs) (hB : B ≤ w.heap.size) :
    Calls Tryz.prog 44 #[.agg #[.int .i64 W, v1], .agg #[.int .i64 W, v2]] w fun e w' => e = .returned (.bool true) ∧ Below w.heap.size w w' := by
  have H1 := Lib.hid h1
  have H2 := Lib.hid h2
  have hne : (W != W) = false := by simp
  clear h1 h2
  go_enter Tryz.func44, Tryz.ntmps44
  go_wp2_with fail
  have hb := ((Below.refl w.heap.size w).alloc (Nat.le_refl _) (.cells #[.int .i64 W, v1] 26)).alloc (by simp) (.cells #[.int .i64 W, v2] 26)
  refine (lEqI B v1 v2 zs _ hn (H1.out.on (hb.mono hB)) (H2.out.on (hb.mono hB)) (Nat.le_trans hB hb.size)).mono ?_
  rintro e w' ⟨rfl, hb2⟩
  go_wp2
  go_ret
  exact ⟨rfl, hb.trans (hb2.mono hb.size)⟩
set_option maxHeartbeats 400000 in
theorem lMarkR (base : Nat) (W : Int) (v : Value) (zs : List Int) (k0 : Int) (w : World) (hn : zs.length ≤ 4194304) (h0 : 0 ≤ k0) (h1 : k0 ≤ 1048576) (ho : w.ownsRow base 3 1 v zs.length (iv zs)) :
    Calls Tryz.prog 46 #[.agg #[.int .i64 W, v], .int .i64 k0] w fun e w' => e = .returned (.int .i64 (k0 + zs.length)) ∧ w'.ownsRow base 3 1 v zs.length (iv (marksI k0 zs.length)) ∧ w.grownBy w' v.ownBlock := by
  have HO := Lib.hid ho
  clear ho
  go_enter Tryz.func46, Tryz.ntmps46
  go_wp2_with fail
  have hg := grow_below ((Below.refl w.heap.size w).alloc (Nat.le_refl _) (.cells #[.int .i64 W, v] 26)) v.ownBlock
  refine (lMarkI base v zs k0 _ hn h0 h1 (HO.out.alloc _)).mono ?_
  rintro e w' ⟨rfl, ho2, hg2⟩
  have HO2 := Lib.hid ho2
  clear ho2
  go_wp2
  go_ret
  exact ⟨rfl, HO2.out, hg.trans hg2⟩
end

section
def rotC (c : Cl) : Cl := (-c.2, c.1)
def rotN : Nat → Cl → Cl
  | 0, c => c
  | n + 1, c => rotC (rotN n c)
def flipC (m : Nat) (c : Cl) : Cl := if 4 ≤ m then (-c.1, c.2) else c
/-- A motion of a cell. -/
def apM (m : Nat) (c : Cl) : Cl := rotN (m % 4) (flipC m c)
def inR (b : Int) (c : Cl) : Prop := -b ≤ c.1 ∧ c.1 ≤ b ∧ -b ≤ c.2 ∧ c.2 ≤ b
theorem rotN_in {b : Int} : ∀ (n : Nat) {c : Cl}, inR b c → inR b (rotN n c)
  | 0, _, h => h
  | n + 1, c, h => by
    have := rotN_in n h
    unfold inR at *
    simp only [rotN, rotC]
    omega
theorem flipC_in {b : Int} (m : Nat) {c : Cl} (h : inR b c) : inR b (flipC m c) := by
  unfold flipC
  split
  · unfold inR at *
    dsimp only
    omega
  · exact h
theorem apM_in {b : Int} (m : Nat) {c : Cl} (h : inR b c) : inR b (apM m c) := rotN_in _ (flipC_in m h)
theorem inR_of_inP {c : Cl} (h : inP c = true) : inR 7 c := by
  have := inP_out h
  unfold inR
  omega
def turnC (m : Nat) (l : List Cl) : List Cl := cornerC (sortU (l.map (apM m)))
def turnS (m : Int) (l : List Cl) : List Cl := if (isShape l && inb m 0 7) = true then turnC m.toNat l else []

/-! ### The order of shapes -/
def cmpL : List Cl → List Cl → Int
  | a :: l, b :: r => if a = b then cmpL l r else if bef a b = true then -1 else 1
  | _, _ => 0
def cmpS (a b : List Cl) : Int := if a.length < b.length then -1 else if b.length < a.length then 1 else cmpL a b
def ltS (a b : List Cl) : Bool := decide (cmpS a b < 0)
theorem cmpL_self : ∀ l : List Cl, cmpL l l = 0
  | [] => rfl
  | a :: l => by unfold cmpL; rw [if_pos rfl]; exact cmpL_self l
theorem cmpL_cases : ∀ l r : List Cl, cmpL l r = -1 ∨ cmpL l r = 0 ∨ cmpL l r = 1
  | [], _ => .inr (.inl (by unfold cmpL; rfl))
  | _ :: _, [] => .inr (.inl (by unfold cmpL; rfl))
  | a :: l, b :: r => by
    unfold cmpL
    split
    · exact cmpL_cases l r
    · split
      · exact .inl rfl
      · exact .inr (.inr rfl)
theorem cmpL_neg : ∀ l r : List Cl, l.length = r.length → cmpL r l = -cmpL l r
  | [], [], _ => rfl
  | a :: l, b :: r, h => by
    unfold cmpL
    by_cases e : a = b
    · rw [if_pos e, if_pos e.symm]
      exact cmpL_neg l r (by simpa using h)
    · rw [if_neg e, if_neg (fun h => e h.symm)]
      cases h1 : bef a b with
      | true => rw [bef_asym h1]; rfl
      | false =>
        cases h2 : bef b a with
        | true => rfl
        | false => exact absurd (bef_total h1 h2) e
theorem cmpL_zero : ∀ l r : List Cl, l.length = r.length → cmpL l r = 0 → l = r
  | [], [], _, _ => rfl
  | a :: l, b :: r, h, h0 => by
    unfold cmpL at h0
    split at h0
    · rename_i e
      rw [e, cmpL_zero l r (by simpa using h) h0]
    · split at h0 <;> cases h0
theorem cmpL_trans : ∀ a b c : List Cl, a.length = b.length → b.length = c.length → cmpL a b = -1 → cmpL b c = -1 → cmpL a c = -1
  | [], [], [], _, _, h, _ => by simp [cmpL] at h
  | x :: a, y :: b, z :: c, h1, h2, h3, h4 => by
    unfold cmpL at h3 h4 ⊢
    by_cases e1 : x = y
    · subst e1
      rw [if_pos rfl] at h3
      by_cases e2 : x = z
      · subst e2
        rw [if_pos rfl] at h4 ⊢
        exact cmpL_trans a b c (by simpa using h1) (by simpa using h2) h3 h4
      · rw [if_neg e2] at h4 ⊢
        exact h4
    · rw [if_neg e1] at h3
      have b1 : bef x y = true := by
        split at h3
        · assumption
        · cases h3
      by_cases e2 : y = z
      · subst e2
        rw [if_neg e1, if_pos b1]
      · rw [if_neg e2] at h4
        have b2 : bef y z = true := by
          split at h4
          · assumption
          · cases h4
        have b3 := bef_trans b1 b2
        have e3 : x ≠ z := fun e => by subst e; rw [bef_irr] at b3; cases b3
        rw [if_neg e3, if_pos b3]
theorem cmpS_cases (a b : List Cl) : cmpS a b = -1 ∨ cmpS a b = 0 ∨ cmpS a b = 1 := by
  unfold cmpS
  split
  · exact .inl rfl
  · split
    · exact .inr (.inr rfl)
    · exact cmpL_cases a b
theorem cmpS_neg (a b : List Cl) : cmpS b a = -cmpS a b := by
  unfold cmpS
  by_cases h1 : a.length < b.length
  · rw [if_neg (by omega), if_pos h1, if_pos h1]; rfl
  · by_cases h2 : b.length < a.length
    · rw [if_pos h2, if_neg h1, if_pos h2]
    · rw [if_neg h2, if_neg h1, if_neg h1, if_neg h2]
      exact cmpL_neg a b (by omega)
theorem cmpS_self (a : List Cl) : cmpS a a = 0 := by
  unfold cmpS
  rw [if_neg (by omega), if_neg (by omega)]
  exact cmpL_self a
theorem cmpS_zero {a b : List Cl} (h : cmpS a b = 0) : a = b := by
  unfold cmpS at h
  split at h
  · cases h
  · split at h
    · cases h
    · exact cmpL_zero a b (by omega) h
theorem ordS : OrdG ltS where
  irr a := by unfold ltS; rw [cmpS_self]; rfl
  trans := by
    intro a b c h1 h2
    unfold ltS at *
    simp only [decide_eq_true_eq] at *
    have k1 : cmpS a b = -1 := by rcases cmpS_cases a b with h | h | h <;> omega
    have k2 : cmpS b c = -1 := by rcases cmpS_cases b c with h | h | h <;> omega
    suffices cmpS a c = -1 by omega
    unfold cmpS at k1 k2 ⊢
    by_cases l1 : a.length < b.length
    · by_cases l2 : b.length < c.length
      · rw [if_pos (by omega)]
      · by_cases l3 : c.length < b.length
        · rw [if_neg l2, if_pos l3] at k2; cases k2
        · rw [if_pos (by omega)]
    · rw [if_neg l1] at k1
      by_cases l2 : b.length < a.length
      · rw [if_pos l2] at k1; cases k1
      · rw [if_neg l2] at k1
        by_cases l3 : b.length < c.length
        · rw [if_pos (by omega)]
        · rw [if_neg l3] at k2
          by_cases l4 : c.length < b.length
          · rw [if_pos l4] at k2; cases k2
          · rw [if_neg l4] at k2
            rw [if_neg (by omega), if_neg (by omega)]
            exact cmpL_trans a b c (by omega) (by omega) k1 k2
  asym := by
    intro a b h
    unfold ltS at *
    rw [cmpS_neg]
    simp only [decide_eq_true_eq, decide_eq_false_iff_not] at *
    omega
  total := by
    intro a b h1 h2
    unfold ltS at *
    rw [cmpS_neg] at h2
    simp only [decide_eq_false_iff_not] at *
    exact cmpS_zero (by omega)
/-- How far two lists agree. -/
theorem cmpL_drop {l r : List Cl} (hl : l.length = r.length) (k : Nat) (hk : k < l.length) : cmpL (l.drop k) (r.drop k) = if l.getD k (0, 0) = r.getD k (0, 0) then cmpL (l.drop (k + 1)) (r.drop (k + 1)) else if bef (l.getD k (0, 0)) (r.getD k (0, 0)) = true then -1 else 1 := by
  have h1 : l.drop k = l.getD k (0, 0) :: l.drop (k + 1) := by rw [List.drop_eq_getElem_cons hk]; simp [List.getD, hk]
  have h2 : r.drop k = r.getD k (0, 0) :: r.drop (k + 1) := by rw [List.drop_eq_getElem_cons (by omega)]; simp [List.getD, show k < r.length by omega]
  rw [h1, h2]
  conv => lhs; unfold cmpL

/-! ### Orientations, symmetries -/
def turnsC (l : List Cl) (k : Nat) : List (List Cl) := (List.range k).map fun m => turnC m l
def orientS (l : List Cl) : List (List Cl) := if isShape l = true then sortG ltS [] (turnsC l 8) else []
def canonS (l : List Cl) : List Cl := (orientS l).getD 0 []
def symTo (l : List Cl) (k : Nat) : List Int := ((List.range k).filter fun m => decide (turnC m l = cornerC l)).map Int.ofNat
def symS (l : List Cl) : List Int := if isShape l = true then symTo l 8 else []
def congS (a b : List Cl) : Bool := isShape a && isShape b && decide (canonS a = canonS b)
def chirS (l : List Cl) : Bool := decide (symS l ≠ []) && (symS l).all fun m => decide (m < 4)
theorem turnsC_succ (l : List Cl) (k : Nat) : turnsC l (k + 1) = turnsC l k ++ [turnC k l] := by simp [turnsC, List.range_succ]
theorem symTo_succ (l : List Cl) (k : Nat) : symTo l (k + 1) = if turnC k l = cornerC l then symTo l k ++ [(k : Int)] else symTo l k := by
  unfold symTo
  rw [List.range_succ, List.filter_append, List.map_append]
  by_cases h : turnC k l = cornerC l
  · rw [if_pos h]; simp [h]
  · rw [if_neg h]; simp [h]
theorem turnC_len (m : Nat) (l : List Cl) : (turnC m l).length ≤ l.length := by
  unfold turnC
  rw [show (cornerC (sortU (l.map (apM m)))).length = (sortU (l.map (apM m))).length by simp [cornerC]]
  exact Nat.le_trans (sortU_len _) (by simp)

/-! ### Motions one after the other -/
def sameM (a b m : Nat) : Bool := decide (apM m (1, 0) = apM b (apM a (1, 0))) && decide (apM m (0, 1) = apM b (apM a (0, 1)))
def compI (a b : Int) : Int := if (inb a 0 7 && inb b 0 7) = true then match (List.range 8).find? (sameM a.toNat b.toNat) with | some m => (m : Int) | none => -1 else -1
def invI (m : Int) : Int := match (List.range 8).find? (fun k : Nat => decide (compI m (k : Int) = 0)) with | some k => (k : Int) | none => -1
end

end Go.Proofs.YtkjlmgkjcmebbaaGreatDoor
