/-
  Are these pieces, in the model and in the program: what each call gives; slices of shapes in memory.
-/
import Derived.Test.YtghpljoccclmkaaGreatSm1
import Derived.Test.YtghpljoccclmkaaGreatIan
import Derived.Test.YtghpljoccclmkaaGreatOwn
import Derived.Test.YtghpljoccclmkaaGreatPma
namespace Go.Proofs.YtghpljoccclmkaaGreat
open Go.RowKit

/-- A slice of slices of cells that reads as a list of shapes of at most M cells, its memory below block B. -/
def PsB (M B : Nat) (w : World) (a : Option Addr) (n : Nat) (L : List (List Cl)) : Prop :=
  L.length = n ∧ (0 < n → ∃ b off, a = some ⟨b, off, none⟩ ∧ b < B ∧ ∀ k, k < n → ∃ ak ck, w.cell? ⟨b, off + k, none⟩ = some (.slice ak (L.getD k []).length ck) ∧ CellsAt B w ak (L.getD k []).length (L.getD k []) ∧ (L.getD k []).length ≤ M)
theorem PsB.on {M B n : Nat} {w w' : World} {a : Option Addr} {L : List (List Cl)} (h : PsB M B w a n L) (hb : Below B w w') : PsB M B w' a n L :=
  ⟨h.1, fun hp => by
    obtain ⟨b, off, e, hlt, hc⟩ := h.2 hp
    refine ⟨b, off, e, hlt, fun k hk => ?_⟩
    obtain ⟨ak, ck, h1, h2, h3⟩ := hc k hk
    exact ⟨ak, ck, (hb.cell (p := ⟨b, off + k, none⟩) hlt).trans h1, h2.on hb, h3⟩⟩
theorem PsB.more {M B B' n : Nat} {w : World} {a : Option Addr} {L : List (List Cl)} (h : PsB M B w a n L) (hB : B ≤ B') : PsB M B' w a n L :=
  ⟨h.1, fun hp => by
    obtain ⟨b, off, e, hlt, hc⟩ := h.2 hp
    refine ⟨b, off, e, by omega, fun k hk => ?_⟩
    obtain ⟨ak, ck, h1, h2, h3⟩ := hc k hk
    exact ⟨ak, ck, h1, h2.more hB, h3⟩⟩
theorem PsB.small {M M' B n : Nat} {w : World} {a : Option Addr} {L : List (List Cl)} (h : PsB M B w a n L) (hm : ∀ k, k < n → (L.getD k []).length ≤ M') : PsB M' B w a n L :=
  ⟨h.1, fun hp => by
    obtain ⟨b, off, e, hlt, hc⟩ := h.2 hp
    refine ⟨b, off, e, hlt, fun k hk => ?_⟩
    obtain ⟨ak, ck, h1, h2, _⟩ := hc k hk
    exact ⟨ak, ck, h1, h2, hm k hk⟩⟩
abbrev PsAt (B : Nat) (w : World) (a : Option Addr) (n : Nat) (L : List (List Cl)) : Prop := PsB 1048576 B w a n L
/-- Shapes of the call's own read so. -/
theorem PsB.of_own {M B : Nat} {w : World} {v : Value} {es : List Ent} (h : OwnS B w v es) (hs : SmallS es) (hm : ∀ e ∈ es, e.2.2.length ≤ M) : ∃ a cap, v = .slice a es.length cap ∧ PsB M w.heap.size w a es.length (es.map kE) := by
  rcases h.row.2 with ⟨rfl, h0⟩ | ⟨g, cap, cur, rfl, hb, hg, _⟩
  · refine ⟨none, 0, by rw [h0], by simp, fun hp => absurd hp (by omega)⟩
  · refine ⟨_, cap, rfl, by simp, fun _ => ⟨g, 0, rfl, (Array.getElem?_eq_some_iff.1 hg).1, fun k hk => ?_⟩⟩
    have he := ent_mem hk
    have c0 := h.row.cellAt k (by omega)
    rw [evs_get hk] at c0
    have e2 : (es.map kE).getD k [] = (es.getD k dE).2.2 := by simp [List.getD, hk, kE]
    rw [e2, Nat.zero_add]
    exact ⟨_, _, c0, h.each.cells hs he, hm _ he⟩
theorem arePc_shape {ps : List (List Cl)} {k : Nat} (h : isShape (ps.getD k []) = false) (hk : k < ps.length) : arePc ps = false := by
  unfold arePc; rw [allPc_false h hk]; rfl
theorem arePc_all {ps : List (List Cl)} (h : allPc ps ps.length = true) : arePc ps = inb ps.length 1 5 := by unfold arePc; rw [h]; rfl

set_option maxHeartbeats 1000000 in
set_option maxRecDepth 100000 in
theorem sArePc (B n cap : Nat) (a : Option Addr) (ps : List (List Cl)) (w : World) (hn : n ≤ 4194304) (hc : PsAt B w a n ps) (hB : B ≤ w.heap.size) :
    Calls Tryz.prog 39 #[.slice a n cap] w fun e w' => e = .returned (.bool (arePc ps)) ∧ Below w.heap.size w w' := by
  have H := Lib.hid hc
  have hl := hc.1
  clear hc
  go_enter Tryz.func39, Tryz.ntmps39
  go_wp2
  go_loopw [3] (fun i wr => ∃ k : Nat, k ≤ n ∧ i = .int .i64 k ∧ Hid (allPc ps k = true) ∧ Below w.heap.size w wr) (fun i _ => n - (intOf i).toNat)
  case atStart => exact ⟨0, by omega, rfl, by simp [Hid, allPc], Below.refl _ _⟩
  case round =>
    obtain ⟨k, hk, rfl, ho, hb⟩ := hrel
    by_cases hlt : k < n
    · have hk1 : (k : Int) < (n : Int) := by omega
      have hk0 : (0 : Int) ≤ (k : Int) := by omega
      obtain ⟨b, off, rfl, hbB, hcell⟩ := H.out.2 (by omega)
      obtain ⟨ak, ck, h1, h2, h3⟩ := hcell k hlt
      have p1 := (hb.cell (p := ⟨b, off + k, none⟩) (Nat.lt_of_lt_of_le hbB hB)).trans h1
      have HC := Lib.hid (h2.on (hb.mono hB))
      have HS := Lib.hid (allPc_step ps k)
      have HF := Lib.hid (fun h => arePc_shape (ps := ps) (k := k) h (by omega))
      obtain ⟨q, hq⟩ : ∃ q, ps.getD k [] = q := ⟨_, rfl⟩
      rw [hq] at p1 HC HS HF h3
      clear hcell h1 h2 hq
      go_wp2_with fail
      refine (sIsShape B q.length ck ak q wr (by omega) HC.out (Nat.le_trans hB hb.size)).mono ?_
      rintro e w2 ⟨rfl, hb2⟩
      have HB := Lib.hid (hb.trans (hb2.mono hb.size))
      clear hb hb2
      cases hs : isShape q with
      | false =>
        have HN := Lib.hid (HF.out hs)
        clear hs
        go_wp2
        go_ret
        exact ⟨by rw [HN.out]; rfl, HB.out⟩
      | true =>
        have HN := Lib.hid (show allPc ps (k + 1) = true from by rw [HS.out, ho.out, hs]; rfl)
        clear hs
        go_wp2
        go_roundw
        case rel => exact ⟨k + 1, by omega, by go_num, HN.out, HB.out⟩
        case measure => simp [intOf]; omega
    · obtain rfl : k = n := by omega
      have HN := Lib.hid (show arePc ps = inb (k : Int) 1 5 from by rw [arePc_all (by rw [hl]; exact ho.out), hl])
      have HB := Lib.hid hb
      clear hb
      go_wp2_with fail
      refine (sIn (k : Int) 1 5 _).mono ?_
      rintro e w' ⟨rfl, rfl⟩
      go_wp2
      go_ret
      exact ⟨by rw [HN.out]; rfl, HB.out⟩

set_option maxHeartbeats 1000000 in
theorem iNoShape (B n cap : Nat) (a : Option Addr) (q : List Cl) (w : World) (hn : n ≤ 4194304) (hc : CellsAt B w a n q) (hB : B ≤ w.heap.size) :
    Calls Tryz.prog 62 #[.slice a n cap] w fun e w' => e = .returned (.bool (!isShape q)) ∧ Below w.heap.size w w' := by
  have H := Lib.hid hc
  clear hc
  go_enter Tryz.func62, Tryz.ntmps62
  go_wp2_with fail
  refine (iIsShape B n cap a q w hn H.out hB).mono ?_
  rintro e w1 ⟨rfl, hb1⟩
  go_wp2
  go_ret
  exact ⟨rfl, hb1⟩

set_option maxHeartbeats 1000000 in
set_option maxRecDepth 100000 in
theorem iIndexPc (B n cap : Nat) (a : Option Addr) (ps : List (List Cl)) (w : World) (hn : n ≤ 4194304) (hc : PsAt B w a n ps) (hB : B ≤ w.heap.size) :
    Calls Tryz.prog 86 #[.slice a n cap, .func (.func 62) #[] #[]] w fun e w' => ∃ r : Int, e = .returned (.int .i64 r) ∧ decide (0 ≤ r) = (!allPc ps n) ∧ Below w.heap.size w w' := by
  have H := Lib.hid hc
  have hl := hc.1
  clear hc
  go_enter Tryz.func86, Tryz.ntmps86
  go_wp2
  go_loopw [8] (fun i wr => ∃ k : Nat, k ≤ n ∧ i = .int .i64 k ∧ Hid (allPc ps k = true) ∧ Below w.heap.size w wr) (fun i _ => n - (intOf i).toNat)
  case atStart => exact ⟨0, by omega, rfl, by simp [Hid, allPc], Below.refl _ _⟩
  case round =>
    obtain ⟨k, hk, rfl, ho, hb⟩ := hrel
    by_cases hlt : k < n
    · have hk1 : (k : Int) < (n : Int) := by omega
      have hk0 : (0 : Int) ≤ (k : Int) := by omega
      obtain ⟨b, off, rfl, hbB, hcell⟩ := H.out.2 (by omega)
      obtain ⟨ak, ck, h1, h2, h3⟩ := hcell k hlt
      have p1 := (hb.cell (p := ⟨b, off + k, none⟩) (Nat.lt_of_lt_of_le hbB hB)).trans h1
      have HC := Lib.hid (h2.on (hb.mono hB))
      have HS := Lib.hid (allPc_step ps k)
      have HF := Lib.hid (fun h => allPc_false (ps := ps) (k := k) (n := n) h (by omega))
      obtain ⟨q, hq⟩ : ∃ q, ps.getD k [] = q := ⟨_, rfl⟩
      rw [hq] at p1 HC HS HF h3
      clear hcell h1 h2 hq
      go_wp2_with fail
      refine (iNoShape B q.length ck ak q wr (by omega) HC.out (Nat.le_trans hB hb.size)).mono ?_
      rintro e w2 ⟨rfl, hb2⟩
      have HB := Lib.hid (hb.trans (hb2.mono hb.size))
      clear hb hb2
      cases hs : isShape q with
      | false =>
        have HN := Lib.hid (HF.out hs)
        clear hs
        go_wp2
        go_ret
        exact ⟨_, rfl, by rw [HN.out]; simp, HB.out⟩
      | true =>
        have HN := Lib.hid (show allPc ps (k + 1) = true from by rw [HS.out, ho.out, hs]; rfl)
        clear hs
        go_wp2
        go_roundw
        case rel => exact ⟨k + 1, by omega, by go_num, HN.out, HB.out⟩
        case measure => simp [intOf]; omega
    · obtain rfl : k = n := by omega
      have HB := Lib.hid hb
      clear hb
      go_wp2
      go_ret
      exact ⟨_, rfl, by rw [ho.out]; rfl, HB.out⟩

set_option maxHeartbeats 1000000 in
theorem iContPc (B n cap : Nat) (a : Option Addr) (ps : List (List Cl)) (w : World) (hn : n ≤ 4194304) (hc : PsAt B w a n ps) (hB : B ≤ w.heap.size) :
    Calls Tryz.prog 63 #[.slice a n cap, .func (.func 62) #[] #[]] w fun e w' => e = .returned (.bool (!allPc ps n)) ∧ Below w.heap.size w w' := by
  have H := Lib.hid hc
  clear hc
  go_enter Tryz.func63, Tryz.ntmps63
  go_wp2_with fail
  refine (iIndexPc B n cap a ps w hn H.out hB).mono ?_
  rintro e w1 ⟨r, rfl, hr, hb1⟩
  have HR := Lib.hid hr
  clear hr
  go_wp2
  go_ret
  exact ⟨by rw [← HR.out]; rfl, hb1⟩

set_option maxHeartbeats 1000000 in
theorem iArePc (B n cap : Nat) (a : Option Addr) (ps : List (List Cl)) (w : World) (hn : n ≤ 4194304) (hc : PsAt B w a n ps) (hB : B ≤ w.heap.size) :
    Calls Tryz.prog 40 #[.slice a n cap] w fun e w' => e = .returned (.bool (arePc ps)) ∧ Below w.heap.size w w' := by
  have H := Lib.hid hc
  have hl := hc.1
  clear hc
  by_cases h1 : 1 ≤ (n : Int)
  · by_cases h5 : (n : Int) ≤ 5
    · have HN := Lib.hid (show arePc ps = allPc ps n from by
        unfold arePc
        rw [hl]
        have : inb (n : Int) 1 5 = true := by unfold inb; simp; omega
        rw [this, Bool.and_true])
      rw [HN.out]
      go_enter Tryz.func40, Tryz.ntmps40
      go_wp2_with fail
      refine (iContPc B n cap a ps w hn H.out hB).mono ?_
      rintro e w1 ⟨rfl, hb1⟩
      cases hq : allPc ps n with
      | true =>
        have HQ := Lib.hid hq
        clear hq
        go_wp2
        go_ret
        exact ⟨by rw [HQ.out]; rfl, hb1⟩
      | false =>
        have HQ := Lib.hid hq
        clear hq
        go_wp2
        go_ret
        exact ⟨by rw [HQ.out]; rfl, hb1⟩
    · have HN := Lib.hid (show arePc ps = false from by
        unfold arePc
        rw [hl]
        have : inb (n : Int) 1 5 = false := by unfold inb; simp; omega
        rw [this, Bool.and_false])
      rw [HN.out]
      go_enter Tryz.func40, Tryz.ntmps40
      go_wp2
      go_ret
      exact ⟨rfl, Below.refl _ _⟩
  · have HN := Lib.hid (show arePc ps = false from by
      unfold arePc
      rw [hl]
      have : inb (n : Int) 1 5 = false := by unfold inb; simp; omega
      rw [this, Bool.and_false])
    rw [HN.out]
    go_enter Tryz.func40, Tryz.ntmps40
    go_wp2
    go_ret
    exact ⟨rfl, Below.refl _ _⟩

end Go.Proofs.YtghpljoccclmkaaGreat
