/-
  Are these pieces, in the model and in the program: what each call gives; slices of shapes in memory.
  Drawn pieces (written by tools/draws7b.py).
-/
import Derived.Test.YtailmmamgnebhaaGreatDoorXap
import Derived.Test.YtailmmamgnebhaaGreatDoorXal
import Derived.Test.YtailmmamgnebhaaGreatDoorXat
import Derived.Test.YtailmmamgnebhaaGreatDoorPm2
import Derived.Test.YtailmmamgnebhaaGreatDoorXaq
import Derived.Maps.AppendAt
namespace Go.Proofs.YtailmmamgnebhaaGreatDoor

section
open Go.RowKit

/-- A slice of slices of cells that reads as a list of shapes of at most M cells, its memory below block B. -/
def PsB (M B : Nat) (w : World) (a : Option Addr) (n : Nat) (L : List (List Cl)) : Prop :=
  L.length = n ∧ (0 < n → ∃ b off, a = some ⟨b, off, none⟩ ∧ b < B ∧ ∀ k, k < n → ∃ ak ck, w.cell? ⟨b, off + k, none⟩ = some (.slice ak (L.getD k []).length ck) ∧ CellsAt B w ak (L.getD k []).length (L.getD k []) ∧ (L.getD k []).length ≤ M)
theorem PsB.on {M B n : Nat} {w w' : World} {a : Option Addr} {L : List (List Cl)} (h : PsB M B w a n L) (hb : Below B w w') : PsB M B w' a n L :=
  ⟨h.1, fun hp => by
    obtain ⟨b, off, e, hlt, hc⟩ := h.2 hp
    refine ⟨b, off, e, hlt, fun k hk => ?_⟩
    obtain ⟨ak, ck, h1, h2, h3⟩ := hc k hk
    exact ⟨ak, ck, (hb.cell (p := ⟨b, off + k, none⟩) hlt).trans h1, h2.on hb, h3⟩⟩
theorem PsB.more {M B B' n : Nat} {w : World} {a : Option Addr} {L : List (List Cl)} (h : PsB M B w a n L) (hB : B ≤ B') : PsB M B' w a n L :=
  ⟨h.1, fun hp => by
    obtain ⟨b, off, e, hlt, hc⟩ := h.2 hp
    refine ⟨b, off, e, by omega, fun k hk => ?_⟩
    obtain ⟨ak, ck, h1, h2, h3⟩ := hc k hk
    exact ⟨ak, ck, h1, h2.more hB, h3⟩⟩
theorem PsB.small {M M' B n : Nat} {w : World} {a : Option Addr} {L : List (List Cl)} (h : PsB M B w a n L) (hm : ∀ k, k < n → (L.getD k []).length ≤ M') : PsB M' B w a n L :=
  ⟨h.1, fun hp => by
    obtain ⟨b, off, e, hlt, hc⟩ := h.2 hp
    refine ⟨b, off, e, hlt, fun k hk => ?_⟩
    obtain ⟨ak, ck, h1, h2, _⟩ := hc k hk
    exact ⟨ak, ck, h1, h2, hm k hk⟩⟩
abbrev PsAt (B : Nat) (w : World) (a : Option Addr) (n : Nat) (L : List (List Cl)) : Prop := PsB 1048576 B w a n L
/-- Shapes of the call's own read so. -/
theorem PsB.of_own {M B : Nat} {w : World} {v : Value} {es : List Ent} (h : OwnS B w v es) (hs : SmallS es) (hm : ∀ e ∈ es, e.2.2.length ≤ M) : ∃ a cap, v = .slice a es.length cap ∧ PsB M w.heap.size w a es.length (es.map kE) := by
  rcases h.row.2 with ⟨rfl, h0⟩ | ⟨g, cap, cur, rfl, hb, hg, _⟩
  · refine ⟨none, 0, by rw [h0], by simp, fun hp => absurd hp (by omega)⟩
  · refine ⟨_, cap, rfl, by simp, fun _ => ⟨g, 0, rfl, (Array.getElem?_eq_some_iff.1 hg).1, fun k hk => ?_⟩⟩
    have he := ent_mem hk
    have c0 := h.row.cellAt k (by omega)
    rw [evs_get hk] at c0
    have e2 : (es.map kE).getD k [] = (es.getD k dE).2.2 := by simp [List.getD, hk, kE]
    rw [e2, Nat.zero_add]
    exact ⟨_, _, c0, h.each.cells hs he, hm _ he⟩
theorem arePc_shape {ps : List (List Cl)} {k : Nat} (h : isShape (ps.getD k []) = false) (hk : k < ps.length) : arePc ps = false := by
  unfold arePc; rw [allPc_false h hk]; rfl
theorem arePc_all {ps : List (List Cl)} (h : allPc ps ps.length = true) : arePc ps = inb ps.length 1 5 := by unfold arePc; rw [h]; rfl

set_option maxHeartbeats 1000000 in
set_option maxRecDepth 100000 in
theorem sArePc (B n cap : Nat) (a : Option Addr) (ps : List (List Cl)) (w : World) (hn : n ≤ 4194304) (hc : PsAt B w a n ps) (hB : B ≤ w.heap.size) :
    Calls Tryz.prog 35 #[.slice a n cap] w fun e w' => e = .returned (.bool (arePc ps)) ∧ Below w.heap.size w w' := by
  have H := Lib.hid hc
  have hl := hc.1
  clear hc
  go_enter Tryz.func35, Tryz.ntmps35
  go_wp2
  go_loopw [3] (fun i wr => ∃ k : Nat, k ≤ n ∧ i = .int .i64 k ∧ Hid (allPc ps k = true) ∧ Below w.heap.size w wr) (fun i _ => n - (intOf i).toNat)
  case atStart => exact ⟨0, by omega, rfl, by simp [Hid, allPc], Below.refl _ _⟩
  case round =>
    obtain ⟨k, hk, rfl, ho, hb⟩ := hrel
    by_cases hlt : k < n
    · have hk1 : (k : Int) < (n : Int) := by omega
      have hk0 : (0 : Int) ≤ (k : Int) := by omega
      obtain ⟨b, off, rfl, hbB, hcell⟩ := H.out.2 (by omega)
      obtain ⟨ak, ck, h1, h2, h3⟩ := hcell k hlt
      have p1 := (hb.cell (p := ⟨b, off + k, none⟩) (Nat.lt_of_lt_of_le hbB hB)).trans h1
      have HC := Lib.hid (h2.on (hb.mono hB))
      have HS := Lib.hid (allPc_step ps k)
      have HF := Lib.hid (fun h => arePc_shape (ps := ps) (k := k) h (by omega))
      obtain ⟨q, hq⟩ : ∃ q, ps.getD k [] = q := ⟨_, rfl⟩
      rw [hq] at p1 HC HS HF h3
      clear hcell h1 h2 hq
      go_wp2_with fail
      refine (sIsShape B q.length ck ak q wr (by omega) HC.out (Nat.le_trans hB hb.size)).mono ?_
      rintro e w2 ⟨rfl, hb2⟩
      have HB := Lib.hid (hb.trans (hb2.mono hb.size))
      clear hb hb2
      cases hs : isShape q with
      | false =>
        have HN := Lib.hid (HF.out hs)
        clear hs
        go_wp2
        go_ret
        exact ⟨by rw [HN.out]; rfl, HB.out⟩
      | true =>
        have HN := Lib.hid (show allPc ps (k + 1) = true from by rw [HS.out, ho.out, hs]; rfl)
        clear hs
        go_wp2
        go_roundw
        case rel => exact ⟨k + 1, by omega, by go_num, HN.out, HB.out⟩
        case measure => simp [intOf]; omega
    · obtain rfl : k = n := by omega
      have HN := Lib.hid (show arePc ps = inb (k : Int) 1 5 from by rw [arePc_all (by rw [hl]; exact ho.out), hl])
      have HB := Lib.hid hb
      clear hb
      go_wp2_with fail
      refine (sIn (k : Int) 1 5 _).mono ?_
      rintro e w' ⟨rfl, rfl⟩
      go_wp2
      go_ret
      exact ⟨by rw [HN.out]; rfl, HB.out⟩

set_option maxHeartbeats 1000000 in
theorem iNoShape (B n cap : Nat) (a : Option Addr) (q : List Cl) (w : World) (hn : n ≤ 4194304) (hc : CellsAt B w a n q) (hB : B ≤ w.heap.size) :
    Calls Tryz.prog 86 #[.slice a n cap] w fun e w' => e = .returned (.bool (!isShape q)) ∧ Below w.heap.size w w' := by
  have H := Lib.hid hc
  clear hc
  go_enter Tryz.func86, Tryz.ntmps86
  go_wp2_with fail
  refine (iIsShape B n cap a q w hn H.out hB).mono ?_
  rintro e w1 ⟨rfl, hb1⟩
  go_wp2
  go_ret
  exact ⟨rfl, hb1⟩

set_option maxHeartbeats 1000000 in
set_option maxRecDepth 100000 in
theorem iIndexPc (B n cap : Nat) (a : Option Addr) (ps : List (List Cl)) (w : World) (hn : n ≤ 4194304) (hc : PsAt B w a n ps) (hB : B ≤ w.heap.size) :
    Calls Tryz.prog 135 #[.slice a n cap, .func (.func 86) #[] #[]] w fun e w' => ∃ r : Int, e = .returned (.int .i64 r) ∧ decide (0 ≤ r) = (!allPc ps n) ∧ Below w.heap.size w w' := by
  have H := Lib.hid hc
  have hl := hc.1
  clear hc
  go_enter Tryz.func135, Tryz.ntmps135
  go_wp2
  go_loopw [8] (fun i wr => ∃ k : Nat, k ≤ n ∧ i = .int .i64 k ∧ Hid (allPc ps k = true) ∧ Below w.heap.size w wr) (fun i _ => n - (intOf i).toNat)
  case atStart => exact ⟨0, by omega, rfl, by simp [Hid, allPc], Below.refl _ _⟩
  case round =>
    obtain ⟨k, hk, rfl, ho, hb⟩ := hrel
    by_cases hlt : k < n
    · have hk1 : (k : Int) < (n : Int) := by omega
      have hk0 : (0 : Int) ≤ (k : Int) := by omega
      obtain ⟨b, off, rfl, hbB, hcell⟩ := H.out.2 (by omega)
      obtain ⟨ak, ck, h1, h2, h3⟩ := hcell k hlt
      have p1 := (hb.cell (p := ⟨b, off + k, none⟩) (Nat.lt_of_lt_of_le hbB hB)).trans h1
      have HC := Lib.hid (h2.on (hb.mono hB))
      have HS := Lib.hid (allPc_step ps k)
      have HF := Lib.hid (fun h => allPc_false (ps := ps) (k := k) (n := n) h (by omega))
      obtain ⟨q, hq⟩ : ∃ q, ps.getD k [] = q := ⟨_, rfl⟩
      rw [hq] at p1 HC HS HF h3
      clear hcell h1 h2 hq
      go_wp2_with fail
      refine (iNoShape B q.length ck ak q wr (by omega) HC.out (Nat.le_trans hB hb.size)).mono ?_
      rintro e w2 ⟨rfl, hb2⟩
      have HB := Lib.hid (hb.trans (hb2.mono hb.size))
      clear hb hb2
      cases hs : isShape q with
      | false =>
        have HN := Lib.hid (HF.out hs)
        clear hs
        go_wp2
        go_ret
        exact ⟨_, rfl, by rw [HN.out]; simp, HB.out⟩
      | true =>
        have HN := Lib.hid (show allPc ps (k + 1) = true from by rw [HS.out, ho.out, hs]; rfl)
        clear hs
        go_wp2
        go_roundw
        case rel => exact ⟨k + 1, by omega, by go_num, HN.out, HB.out⟩
        case measure => simp [intOf]; omega
    · obtain rfl : k = n := by omega
      have HB := Lib.hid hb
      clear hb
      go_wp2
      go_ret
      exact ⟨_, rfl, by rw [ho.out]; rfl, HB.out⟩

set_option maxHeartbeats 1000000 in
theorem iContPc (B n cap : Nat) (a : Option Addr) (ps : List (List Cl)) (w : World) (hn : n ≤ 4194304) (hc : PsAt B w a n ps) (hB : B ≤ w.heap.size) :
    Calls Tryz.prog 88 #[.slice a n cap, .func (.func 86) #[] #[]] w fun e w' => e = .returned (.bool (!allPc ps n)) ∧ Below w.heap.size w w' := by
  have H := Lib.hid hc
  clear hc
  go_enter Tryz.func88, Tryz.ntmps88
  go_wp2_with fail
  refine (iIndexPc B n cap a ps w hn H.out hB).mono ?_
  rintro e w1 ⟨r, rfl, hr, hb1⟩
  have HR := Lib.hid hr
  clear hr
  go_wp2
  go_ret
  exact ⟨by rw [← HR.out]; rfl, hb1⟩

set_option maxHeartbeats 1000000 in
theorem iArePc (B n cap : Nat) (a : Option Addr) (ps : List (List Cl)) (w : World) (hn : n ≤ 4194304) (hc : PsAt B w a n ps) (hB : B ≤ w.heap.size) :
    Calls Tryz.prog 34 #[.slice a n cap] w fun e w' => e = .returned (.bool (arePc ps)) ∧ Below w.heap.size w w' := by
  have H := Lib.hid hc
  have hl := hc.1
  clear hc
  by_cases h1 : 1 ≤ (n : Int)
  · by_cases h5 : (n : Int) ≤ 5
    · have HN := Lib.hid (show arePc ps = allPc ps n from by
        unfold arePc
        rw [hl]
        have : inb (n : Int) 1 5 = true := by unfold inb; simp; omega
        rw [this, Bool.and_true])
      rw [HN.out]
      go_enter Tryz.func34, Tryz.ntmps34
      go_wp2_with fail
      refine (iContPc B n cap a ps w hn H.out hB).mono ?_
      rintro e w1 ⟨rfl, hb1⟩
      cases hq : allPc ps n with
      | true =>
        have HQ := Lib.hid hq
        clear hq
        go_wp2
        go_ret
        exact ⟨by rw [HQ.out]; rfl, hb1⟩
      | false =>
        have HQ := Lib.hid hq
        clear hq
        go_wp2
        go_ret
        exact ⟨by rw [HQ.out]; rfl, hb1⟩
    · have HN := Lib.hid (show arePc ps = false from by
        unfold arePc
        rw [hl]
        have : inb (n : Int) 1 5 = false := by unfold inb; simp; omega
        rw [this, Bool.and_false])
      rw [HN.out]
      go_enter Tryz.func34, Tryz.ntmps34
      go_wp2
      go_ret
      exact ⟨rfl, Below.refl _ _⟩
  · have HN := Lib.hid (show arePc ps = false from by
      unfold arePc
      rw [hl]
      have : inb (n : Int) 1 5 = false := by unfold inb; simp; omega
      rw [this, Bool.and_false])
    rw [HN.out]
    go_enter Tryz.func34, Tryz.ntmps34
    go_wp2
    go_ret
    exact ⟨rfl, Below.refl _ _⟩
end

section
open Go.RowKit

/-- A drawn shape, in memory of its own that is not block r. -/
def PcAt (base r : Nat) (w : World) (u : Value) (l : List Cl) : Prop := ∃ (ad : Addr) (gg off n cap : Nat), u = .slice (some ad) n cap ∧ Came w 2 (some ad) gg off n cap (cvs l) ∧ (0 < cap → base ≤ gg ∧ gg ≠ r) ∧ (∀ c ∈ l, InC c) ∧ l.length = n ∧ n ≤ 9
theorem PcAt.made {base r gg off n cap : Nat} {w : World} {ad : Addr} {l : List Cl} (hcam : Came w 2 (some ad) gg off n cap (cvs l)) (h : 0 < cap → base ≤ gg ∧ gg ≠ r) (hin : ∀ c ∈ l, InC c) (hl : l.length = n) (hn : n ≤ 9) : PcAt base r w (.slice (some ad) n cap) l :=
  ⟨ad, gg, off, n, cap, rfl, hcam, h, hin, hl, hn⟩
theorem PcAt.kept {base r g : Nat} {w w' : World} {u : Value} {l : List Cl} (h : PcAt base r w u l) (hg : w.grownBy w' (some g)) (hb : g < base) : PcAt base r w' u l := by
  obtain ⟨ad, gg, off, n, cap, rfl, h1, h2, h3⟩ := h
  exact ⟨ad, gg, off, n, cap, rfl, Came.kept h1 hg (fun hp e => by have h9 : g = gg := Option.some.inj e; have := (h2 hp).1; omega), h2, h3⟩
theorem PcAt.kept0 {base r : Nat} {w w' : World} {u : Value} {l : List Cl} (h : PcAt base r w u l) (hg : w.grownBy w' none) : PcAt base r w' u l := by
  obtain ⟨ad, gg, off, n, cap, rfl, h1, h2, h3⟩ := h
  exact ⟨ad, gg, off, n, cap, rfl, Came.kept h1 hg (fun _ e => by cases e), h2, h3⟩
theorem PcAt.moved {base r r' : Nat} {w w' : World} {u : Value} {l : List Cl} (h : PcAt base r w u l) (hg : w.grownBy w' (some r)) (hr : r' = r ∨ w.heap.size ≤ r') : PcAt base r' w' u l := by
  obtain ⟨ad, gg, off, n, cap, rfl, h1, h2, h3⟩ := h
  exact ⟨ad, gg, off, n, cap, rfl, Came.kept h1 hg (fun hp e => by have h9 : r = gg := Option.some.inj e; have := (h2 hp).2; omega), fun hp => ⟨(h2 hp).1, by have := (h2 hp).2; have := h1.lt hp; omega⟩, h3⟩
theorem pcs_one {base r : Nat} {w : World} {u : Value} {l : List Cl} (h : PcAt base r w u l) : ∀ j, j < [l].length → PcAt base r w ([u].getD j undef) ([l].getD j []) := fun j hj => by
  obtain rfl : j = 0 := by simpa using hj
  exact h
theorem pcs_snoc {base r : Nat} {w : World} {us : List Value} {ps : List (List Cl)} {u : Value} {l : List Cl} (h1 : us.length = ps.length) (h : ∀ j, j < ps.length → PcAt base r w (us.getD j undef) (ps.getD j [])) (hu : PcAt base r w u l) : ∀ j, j < (ps ++ [l]).length → PcAt base r w ((us ++ [u]).getD j undef) ((ps ++ [l]).getD j []) := fun j hj => by
  rw [List.length_append] at hj
  by_cases hlt : j < ps.length
  · have e1 : (us ++ [u]).getD j undef = us.getD j undef := by simp [List.getD, List.getElem?_append_left (show j < us.length by omega)]
    have e2 : (ps ++ [l]).getD j [] = ps.getD j [] := by simp [List.getD, List.getElem?_append_left hlt]
    rw [e1, e2]
    exact h j hlt
  · have hj2 : j = ps.length := by simp at hj; omega
    have e1 : (us ++ [u]).getD j undef = u := by simp [List.getD, hj2, h1]
    have e2 : (ps ++ [l]).getD j [] = l := by simp [List.getD, hj2]
    rw [e1, e2]
    exact hu
theorem shp_row {w : World} {base k : Nat} {v : Value} {xs : List Value} (h : w.ownsRow base 27 1 v (k + 1) xs) : ∃ g cap, v = .slice (some ⟨g, 0, none⟩) (k + 1) cap := by
  rcases h.2 with ⟨_, h0⟩ | ⟨g, cap, _, rfl, _⟩
  · omega
  · exact ⟨g, cap, rfl⟩
/-- Drawn pieces. -/
def GivesPs (B g : Nat) (w : World) (e : Ending) (w' : World) : Prop := ∃ (gr cap : Nat) (us : List Value) (ps : List (List Cl)), e = .returned (.slice (some ⟨gr, 0, none⟩) ps.length cap) ∧ ps.length ≤ 3 ∧
  w'.ownsRow w.heap.size 27 1 (.slice (some ⟨gr, 0, none⟩) ps.length cap) ps.length us ∧ (∀ j, j < ps.length → PcAt w.heap.size gr w' (us.getD j undef) (ps.getD j [])) ∧ Cur B w' g ∧ w.grownBy w' (some g)

set_option maxHeartbeats 8000000 in
set_option maxRecDepth 100000 in
theorem dPieces7 (B g : Nat) (w : World) (hc : Cur B w g) :
    Calls Tryz.prog 83 #[.pointer (some ⟨g, 0, none⟩)] w (GivesPs B g w) := by
  have hlt := hc.lt
  obtain ⟨i0, hi, hz0, hz1, hz2⟩ := info_parts shps_info
  have HC := Lib.hid hc
  clear hc
  go_enter Tryz.func83, Tryz.ntmps83
  go_wp2_with fail
  refine (dPiece4 B g w HC.out).mono ?_
  rintro e w1 ⟨ad1, gg1, off1, n1, cp1, cs1, rfl, hcam, hgg, hcm, hin, hln, hn9, hc1, hg1⟩
  have hs1 := hg1.size
  obtain ⟨r0, hr0⟩ : ∃ r, w1.heap.size = r := ⟨_, rfl⟩
  have hal := World.grownBy_alloc w1 (.cells #[.slice (some ad1) n1 cp1] 27) none
  have hu := PcAt.kept0 (PcAt.made (r := r0) (base := w.heap.size) hcam (fun h => by have := hgg h; have := hcam.lt h; omega) hin hln hn9) hal
  have hown := World.ownsRow_lit (base := w.heap.size) (e := 27) (size := 1) w1 #[.slice (some ad1) n1 cp1] 1 hs1 (by unfold maxLen; omega) rfl
  have HC_wa := Lib.hid (hc1.alloc (.cells #[.slice (some ad1) n1 cp1] 27))
  have HG_wa := Lib.hid (grow_new hg1 hal (fun j e => by cases e))
  have hsa : (w1.alloc (.cells #[.slice (some ad1) n1 cp1] 27)).heap.size = r0 + 1 := by simp [hr0]
  rw [hr0] at hown
  clear hcam hgg hin hc1 hg1 hal
  go_wp2_with fail
  (try rw [hr0])
  generalize (w1.alloc (.cells #[.slice (some ad1) n1 cp1] 27)) = wa at *
  have HO_wa := Lib.hid (show wa.ownsRow w.heap.size 27 1 (.slice (some ⟨r0, 0, none⟩) 1 1) 1 [.slice (some ad1) n1 cp1] from hown)
  have HP_wa := Lib.hid (pcs_one (base := w.heap.size) (r := r0) hu)
  clear hown hu
  refine (dOnce B g 3 wa HC_wa.out (by omega) (by omega)).mono ?_
  rintro e wo1 ⟨bb1, rfl, hc1, hg1⟩
  have hs1 := hg1.size
  have HO_wo1 := Lib.hid (HO_wa.out.kept hg1 (.inr (by intro e; have h9 : r0 = g := Option.some.inj e; have := (HO_wa.out.lt r0 rfl).1; omega)))
  have HP_wo1 := Lib.hid (fun j hj => (HP_wa.out j hj).kept hg1 (by omega))
  have HC_wo1 := Lib.hid hc1
  have HG_wo1 := Lib.hid (grow_trans HG_wa.out hg1)
  clear hc1 hg1 HO_wa HP_wa HC_wa HG_wa
  cases bb1 with
  | true =>
    go_wp2_with fail
    refine (dPiece4 B g wo1 HC_wo1.out).mono ?_
    rintro e wp2 ⟨ad2, gg2, off2, n2, cp2, cs2, rfl, hcam, hgg, hcm, hin, hln, hn9, hc1, hg1⟩
    have hs1 := hg1.size
    have ho1 := HO_wo1.out.kept hg1 (.inr (by intro e; have h9 : r0 = g := Option.some.inj e; have := (HO_wo1.out.lt r0 rfl).1; omega))
    have hp1 := fun j hj => (HP_wo1.out j hj).kept hg1 (by omega)
    have hu := PcAt.made (r := r0) (base := w.heap.size) hcam (fun h => by have := hgg h; have := (HO_wo1.out.lt r0 rfl).2; omega) hin hln hn9
    have HX1 := Lib.hid (show _ ∧ _ from ⟨ho1, hp1⟩)
    have HU := Lib.hid hu
    have HC1 := Lib.hid hc1
    have HG1 := Lib.hid (grow_trans HG_wo1.out hg1)
    have hsz1 : w.heap.size ≤ wp2.heap.size := HG1.out.size
    clear hcam hgg hin hc1 hg1 ho1 hp1 hu
    go_wp2_with (first | (at_builtin; refine wpList_append_own_at _ rfl _ _ 45 rfl w.heap.size 27 i0 (.slice none 0 0) 1 24 Tryz.underlying45 hi hz0 hz1 hz2 rfl (by decide) _ _ _ rfl (HX1.out.1.alloc _) ⟨wp2.heap.size, 0, none⟩ 1 1 [.slice (some ad2) n2 cp2] rfl rfl (liesV_block (l := [.slice (some ad2) n2 cp2]) (t := 27) (fr := (0, 0)) (heap_alloc_new _ _)) (by simp [Value.oneCell']) ?c3 ?c4 ?c5 ?_) | go_in)
    case c3 => unfold maxLen; omega
    case c4 => omega
    case c5 => simp; omega
    intro v' wq2 hown4 hgrow _ hwhere
    obtain ⟨gr2, cr2, rfl⟩ := shp_row hown4
    have hlt4 := hown4.lt gr2 rfl
    have hal := World.grownBy_alloc wp2 (.cells #[.slice (some ad2) n2 cp2] 27) none
    have HO_wq2 := Lib.hid hown4
    have hwh : gr2 = r0 ∨ (wp2.alloc (.cells #[.slice (some ad2) n2 cp2] 27)).heap.size ≤ gr2 := hwhere.elim (fun h9 => .inl (Option.some.inj h9)) (fun h9 => .inr (by have h8 := Option.some.inj h9; simp at h8 ⊢; omega))
    have HP_wq2 := Lib.hid (pcs_snoc (us := [.slice (some ad1) n1 cp1]) (ps := [cs1]) rfl (fun j hj => ((HX1.out.2 j hj).kept0 hal).moved hgrow hwh) ((HU.out.kept0 hal).moved hgrow hwh))
    have HC_wq2 := Lib.hid ((HC1.out.alloc (.cells #[.slice (some ad2) n2 cp2] 27)).grown hgrow (fun j e => by have h9 : r0 = j := Option.some.inj e; have := (HX1.out.1.lt r0 rfl).1; omega))
    have HG_wq2 := Lib.hid (grow_new (grow_new HG1.out hal (fun j e => by cases e)) hgrow (fun j e => by have h9 : r0 = j := Option.some.inj e; have := (HX1.out.1.lt r0 rfl).1; omega))
    clear HX1 HU HC1 HG1 hown4 hgrow hwhere hwh hal hsz1 hs1
    go_wp2_with fail
    refine (dOnce B g 20 wq2 HC_wq2.out (by omega) (by omega)).mono ?_
    rintro e wo2a ⟨bb2a, rfl, hc1, hg1⟩
    have hs1 := hg1.size
    have HO_wo2a := Lib.hid (HO_wq2.out.kept hg1 (.inr (by intro e; have h9 : gr2 = g := Option.some.inj e; have := (HO_wq2.out.lt gr2 rfl).1; omega)))
    have HP_wo2a := Lib.hid (fun j hj => (HP_wq2.out j hj).kept hg1 (by omega))
    have HC_wo2a := Lib.hid hc1
    have HG_wo2a := Lib.hid (grow_trans HG_wq2.out hg1)
    clear hc1 hg1 HO_wq2 HP_wq2 HC_wq2 HG_wq2
    cases bb2a with
    | true =>
      go_wp2_with fail
      refine (dAny B g wo2a HC_wo2a.out).mono ?_
      rintro e wp3a ⟨ad3a, gg3a, off3a, n3a, cp3a, cs3a, rfl, hcam, hgg, hcm, hin, hln, hn9, hc1, hg1⟩
      have hs1 := hg1.size
      have ho1 := HO_wo2a.out.kept hg1 (.inr (by intro e; have h9 : gr2 = g := Option.some.inj e; have := (HO_wo2a.out.lt gr2 rfl).1; omega))
      have hp1 := fun j hj => (HP_wo2a.out j hj).kept hg1 (by omega)
      have hu := PcAt.made (r := gr2) (base := w.heap.size) hcam (fun h => by have := hgg h; have := (HO_wo2a.out.lt gr2 rfl).2; omega) hin hln hn9
      have HX1 := Lib.hid (show _ ∧ _ from ⟨ho1, hp1⟩)
      have HU := Lib.hid hu
      have HC1 := Lib.hid hc1
      have HG1 := Lib.hid (grow_trans HG_wo2a.out hg1)
      have hsz1 : w.heap.size ≤ wp3a.heap.size := HG1.out.size
      clear hcam hgg hin hc1 hg1 ho1 hp1 hu
      go_wp2_with (first | (at_builtin; refine wpList_append_own_at _ rfl _ _ 45 rfl w.heap.size 27 i0 (.slice none 0 0) 1 24 Tryz.underlying45 hi hz0 hz1 hz2 rfl (by decide) _ _ _ rfl (HX1.out.1.alloc _) ⟨wp3a.heap.size, 0, none⟩ 1 1 [.slice (some ad3a) n3a cp3a] rfl rfl (liesV_block (l := [.slice (some ad3a) n3a cp3a]) (t := 27) (fr := (0, 0)) (heap_alloc_new _ _)) (by simp [Value.oneCell']) ?c3 ?c4 ?c5 ?_) | go_in)
      case c3 => unfold maxLen; omega
      case c4 => omega
      case c5 => simp; omega
      intro v' wq3a hown4 hgrow _ hwhere
      obtain ⟨gr3a, cr3a, rfl⟩ := shp_row hown4
      have hlt4 := hown4.lt gr3a rfl
      have hal := World.grownBy_alloc wp3a (.cells #[.slice (some ad3a) n3a cp3a] 27) none
      have HO_wq3a := Lib.hid hown4
      have hwh : gr3a = gr2 ∨ (wp3a.alloc (.cells #[.slice (some ad3a) n3a cp3a] 27)).heap.size ≤ gr3a := hwhere.elim (fun h9 => .inl (Option.some.inj h9)) (fun h9 => .inr (by have h8 := Option.some.inj h9; simp at h8 ⊢; omega))
      have HP_wq3a := Lib.hid (pcs_snoc (us := [.slice (some ad1) n1 cp1, .slice (some ad2) n2 cp2]) (ps := [cs1, cs2]) rfl (fun j hj => ((HX1.out.2 j hj).kept0 hal).moved hgrow hwh) ((HU.out.kept0 hal).moved hgrow hwh))
      have HC_wq3a := Lib.hid ((HC1.out.alloc (.cells #[.slice (some ad3a) n3a cp3a] 27)).grown hgrow (fun j e => by have h9 : gr2 = j := Option.some.inj e; have := (HX1.out.1.lt gr2 rfl).1; omega))
      have HG_wq3a := Lib.hid (grow_new (grow_new HG1.out hal (fun j e => by cases e)) hgrow (fun j e => by have h9 : gr2 = j := Option.some.inj e; have := (HX1.out.1.lt gr2 rfl).1; omega))
      clear HX1 HU HC1 HG1 hown4 hgrow hwhere hwh hal hsz1 hs1
      have HR := Lib.hid (show GivesPs B g w (.returned (.slice (some ⟨gr3a, 0, none⟩) 3 cr3a)) wq3a from ⟨gr3a, cr3a, [.slice (some ad1) n1 cp1, .slice (some ad2) n2 cp2, .slice (some ad3a) n3a cp3a], [cs1, cs2, cs3a], rfl, by simp, HO_wq3a.out, HP_wq3a.out, HC_wq3a.out, HG_wq3a.out⟩)
      clear HO_wq3a HP_wq3a HC_wq3a HG_wq3a
      go_wp2
      go_ret
      exact HR.out
    | false =>
      have HR := Lib.hid (show GivesPs B g w (.returned (.slice (some ⟨gr2, 0, none⟩) 2 cr2)) wo2a from ⟨gr2, cr2, [.slice (some ad1) n1 cp1, .slice (some ad2) n2 cp2], [cs1, cs2], rfl, by simp, HO_wo2a.out, HP_wo2a.out, HC_wo2a.out, HG_wo2a.out⟩)
      clear HO_wo2a HP_wo2a HC_wo2a HG_wo2a
      go_wp2
      go_ret
      exact HR.out
  | false =>
    go_wp2_with fail
    refine (dOnce B g 20 wo1 HC_wo1.out (by omega) (by omega)).mono ?_
    rintro e wo2b ⟨bb2b, rfl, hc1, hg1⟩
    have hs1 := hg1.size
    have HO_wo2b := Lib.hid (HO_wo1.out.kept hg1 (.inr (by intro e; have h9 : r0 = g := Option.some.inj e; have := (HO_wo1.out.lt r0 rfl).1; omega)))
    have HP_wo2b := Lib.hid (fun j hj => (HP_wo1.out j hj).kept hg1 (by omega))
    have HC_wo2b := Lib.hid hc1
    have HG_wo2b := Lib.hid (grow_trans HG_wo1.out hg1)
    clear hc1 hg1 HO_wo1 HP_wo1 HC_wo1 HG_wo1
    cases bb2b with
    | true =>
      go_wp2_with fail
      refine (dAny B g wo2b HC_wo2b.out).mono ?_
      rintro e wp3b ⟨ad3b, gg3b, off3b, n3b, cp3b, cs3b, rfl, hcam, hgg, hcm, hin, hln, hn9, hc1, hg1⟩
      have hs1 := hg1.size
      have ho1 := HO_wo2b.out.kept hg1 (.inr (by intro e; have h9 : r0 = g := Option.some.inj e; have := (HO_wo2b.out.lt r0 rfl).1; omega))
      have hp1 := fun j hj => (HP_wo2b.out j hj).kept hg1 (by omega)
      have hu := PcAt.made (r := r0) (base := w.heap.size) hcam (fun h => by have := hgg h; have := (HO_wo2b.out.lt r0 rfl).2; omega) hin hln hn9
      have HX1 := Lib.hid (show _ ∧ _ from ⟨ho1, hp1⟩)
      have HU := Lib.hid hu
      have HC1 := Lib.hid hc1
      have HG1 := Lib.hid (grow_trans HG_wo2b.out hg1)
      have hsz1 : w.heap.size ≤ wp3b.heap.size := HG1.out.size
      clear hcam hgg hin hc1 hg1 ho1 hp1 hu
      go_wp2_with (first | (at_builtin; refine wpList_append_own_at _ rfl _ _ 45 rfl w.heap.size 27 i0 (.slice none 0 0) 1 24 Tryz.underlying45 hi hz0 hz1 hz2 rfl (by decide) _ _ _ rfl (HX1.out.1.alloc _) ⟨wp3b.heap.size, 0, none⟩ 1 1 [.slice (some ad3b) n3b cp3b] rfl rfl (liesV_block (l := [.slice (some ad3b) n3b cp3b]) (t := 27) (fr := (0, 0)) (heap_alloc_new _ _)) (by simp [Value.oneCell']) ?c3 ?c4 ?c5 ?_) | go_in)
      case c3 => unfold maxLen; omega
      case c4 => omega
      case c5 => simp; omega
      intro v' wq3b hown4 hgrow _ hwhere
      obtain ⟨gr3b, cr3b, rfl⟩ := shp_row hown4
      have hlt4 := hown4.lt gr3b rfl
      have hal := World.grownBy_alloc wp3b (.cells #[.slice (some ad3b) n3b cp3b] 27) none
      have HO_wq3b := Lib.hid hown4
      have hwh : gr3b = r0 ∨ (wp3b.alloc (.cells #[.slice (some ad3b) n3b cp3b] 27)).heap.size ≤ gr3b := hwhere.elim (fun h9 => .inl (Option.some.inj h9)) (fun h9 => .inr (by have h8 := Option.some.inj h9; simp at h8 ⊢; omega))
      have HP_wq3b := Lib.hid (pcs_snoc (us := [.slice (some ad1) n1 cp1]) (ps := [cs1]) rfl (fun j hj => ((HX1.out.2 j hj).kept0 hal).moved hgrow hwh) ((HU.out.kept0 hal).moved hgrow hwh))
      have HC_wq3b := Lib.hid ((HC1.out.alloc (.cells #[.slice (some ad3b) n3b cp3b] 27)).grown hgrow (fun j e => by have h9 : r0 = j := Option.some.inj e; have := (HX1.out.1.lt r0 rfl).1; omega))
      have HG_wq3b := Lib.hid (grow_new (grow_new HG1.out hal (fun j e => by cases e)) hgrow (fun j e => by have h9 : r0 = j := Option.some.inj e; have := (HX1.out.1.lt r0 rfl).1; omega))
      clear HX1 HU HC1 HG1 hown4 hgrow hwhere hwh hal hsz1 hs1
      have HR := Lib.hid (show GivesPs B g w (.returned (.slice (some ⟨gr3b, 0, none⟩) 2 cr3b)) wq3b from ⟨gr3b, cr3b, [.slice (some ad1) n1 cp1, .slice (some ad3b) n3b cp3b], [cs1, cs3b], rfl, by simp, HO_wq3b.out, HP_wq3b.out, HC_wq3b.out, HG_wq3b.out⟩)
      clear HO_wq3b HP_wq3b HC_wq3b HG_wq3b
      go_wp2
      go_ret
      exact HR.out
    | false =>
      have HR := Lib.hid (show GivesPs B g w (.returned (.slice (some ⟨r0, 0, none⟩) 1 1)) wo2b from ⟨r0, 1, [.slice (some ad1) n1 cp1], [cs1], rfl, by simp, HO_wo2b.out, HP_wo2b.out, HC_wo2b.out, HG_wo2b.out⟩)
      clear HO_wo2b HP_wo2b HC_wo2b HG_wo2b
      go_wp2
      go_ret
      exact HR.out

theorem psAt_of {w : World} {base gr cap : Nat} {us : List Value} {ps : List (List Cl)} (h : w.ownsRow base 27 1 (.slice (some ⟨gr, 0, none⟩) ps.length cap) ps.length us) (hp : ∀ j, j < ps.length → PcAt base gr w (us.getD j undef) (ps.getD j [])) : PsAt w.heap.size w (some ⟨gr, 0, none⟩) ps.length ps :=
  ⟨rfl, fun _ => ⟨gr, 0, rfl, (h.lt gr rfl).2, fun k hk => by
    obtain ⟨ad, gg, off, n, cap, hu, h1, h2, h3, h4, h5⟩ := hp k hk
    have c0 := h.cellAt k (by have := h.1; omega)
    have hl : k < us.length := by have := h.1; omega
    have e : us[k]'hl = us.getD k undef := by simp [List.getD, hl]
    refine ⟨some ad, cap, ?_, by rw [h4]; exact CellsAt.of_came h1 h3, by omega⟩
    rw [Nat.zero_add, h4, ← hu]
    simpa [List.getD, hl] using c0⟩⟩
theorem pcs_len {w : World} {base gr : Nat} {us : List Value} {ps : List (List Cl)} (hp : ∀ j, j < ps.length → PcAt base gr w (us.getD j undef) (ps.getD j [])) {j : Nat} (hj : j < ps.length) : (ps.getD j []).length ≤ 9 := by
  obtain ⟨ad, gg, off, n, cap, hu, h1, h2, h3, h4, h5⟩ := hp j hj
  omega
/-- A drawn region and drawn pieces. -/
def GivesAll7 (w : World) (e : Ending) (w' : World) : Prop := ∃ (W : Int) (M gg cap : Nat) (l : List Int) (gr cp : Nat) (ps : List (List Cl)), e = .returned (.tuple #[.agg #[.int .i64 W, .slice (some ⟨gg, 0, none⟩) M cap], .slice (some ⟨gr, 0, none⟩) ps.length cp]) ∧ M ≤ 8 ∧ (∀ z ∈ l, In64 z) ∧ w'.ownsRow w.heap.size 3 1 (.slice (some ⟨gg, 0, none⟩) M cap) M (iv l) ∧ PsAt w'.heap.size w' (some ⟨gr, 0, none⟩) ps.length ps ∧ ps.length ≤ 3 ∧ (∀ j, j < ps.length → (ps.getD j []).length ≤ 9) ∧ Below w.heap.size w w'

set_option maxHeartbeats 4000000 in
set_option maxRecDepth 100000 in
theorem dAll7 (a : Option Addr) (len cap : Nat) (w : World) (hc : Code w.heap.size w a len cap) (hl : len ≤ 1048576) :
    Calls Tryz.prog 25 #[.slice a len cap] w (GivesAll7 w) := by
  obtain ⟨rb, hrb⟩ : ∃ rb, w.heap.size = rb := ⟨_, rfl⟩
  have hres := RgAt.new (w := w) 0 (.slice none 0 0) hrb
  have hb0 := (Below.refl w.heap.size w).alloc (Nat.le_refl _) (.cells #[.int .i64 0, .slice none 0 0] 26)
  have hsz : (w.alloc (.cells #[.int .i64 0, .slice none 0 0] 26)).heap.size = rb + 1 := by simp [hrb]
  have HC := Lib.hid (hc.on hb0)
  clear hc
  go_enter Tryz.func25, Tryz.ntmps25
  go_wp2_with fail
  generalize (w.alloc (.cells #[.int .i64 0, .slice none 0 0] 26)) = W0 at *
  have HB := Lib.hid hb0
  clear hb0
  refine (dNew w.heap.size a len cap W0 HC.out hl (by omega)).mono ?_
  rintro e w1 ⟨rfl, hc1, hg1⟩
  have hr1 := hres.by hg1 (by intro e; cases e)
  have HB1 := Lib.hid (HB.out.grown hg1 (by omega) (fun k h => by cases h))
  have hs1 := hg1.size
  rw [hsz] at hc1 ⊢
  have hlt1 := hc1.lt
  clear hres HC HB hg1
  obtain ⟨cg, hcg⟩ : ∃ cg, rb + 1 = cg := ⟨_, rfl⟩
  rw [hcg] at hc1 hlt1 ⊢
  go_wp2_with fail
  refine (dAny6 w.heap.size cg w1 hc1).mono ?_
  rintro e w2 ⟨W, M, gg, cp, l, rfl, hM, hin, hown, hc2, hg2⟩
  have hr2 := hr1.by hg2 (by intro e; injection e with e; omega)
  have HC2 := Lib.hid hc2
  have HB2 := Lib.hid (HB1.out.grown hg2 (by omega) (fun k h => by injection h with h; omega))
  have hs2 := hg2.size
  have ht2 := hown.lt gg rfl
  have HIN := Lib.hid hin
  clear hr1 hc1 hg2 hc2 HB1 hin
  obtain ⟨vb, hvb⟩ : ∃ vb, w2.heap.size = vb := ⟨_, rfl⟩
  have HV3 := Lib.hid (RgAt.new (w := w2) W (.slice (some ⟨gg, 0, none⟩) M cp) hvb)
  have HR3 := Lib.hid (hr2.alloc (.cells #[.int .i64 W, .slice (some ⟨gg, 0, none⟩) M cp] 26))
  have HC3 := Lib.hid (HC2.out.alloc (.cells #[.int .i64 W, .slice (some ⟨gg, 0, none⟩) M cp] 26))
  have HB3 := Lib.hid (HB2.out.alloc (by omega) (.cells #[.int .i64 W, .slice (some ⟨gg, 0, none⟩) M cp] 26))
  have HO3 := Lib.hid (own_below (hown.alloc (.cells #[.int .i64 W, .slice (some ⟨gg, 0, none⟩) M cp] 26)) (show cg + 1 ≤ w1.heap.size by omega))
  have hs3 : (w2.alloc (.cells #[.int .i64 W, .slice (some ⟨gg, 0, none⟩) M cp] 26)).heap.size = vb + 1 := by simp [hvb]
  have hgv : gg ≠ vb := by omega
  have hgc : gg ≠ cg := by omega
  have hvc : cg < vb := by omega
  have hrv : rb ≠ vb := by omega
  clear hr2 HC2 HB2 hown
  go_wp2_with fail
  generalize (w2.alloc (.cells #[.int .i64 W, .slice (some ⟨gg, 0, none⟩) M cp] 26)) = w3 at *
  have HVD := Lib.hid (show RgAt w3.drew vb W (.slice (some ⟨gg, 0, none⟩) M cp) from HV3.out)
  have HRD := Lib.hid (show RgAt w3.drew rb 0 (.slice none 0 0) from HR3.out)
  have HOD := Lib.hid (show w3.drew.ownsRow (cg + 1) 3 1 (.slice (some ⟨gg, 0, none⟩) M cp) M (iv l) from HO3.out)
  have HCD := Lib.hid (show Cur w.heap.size w3.drew cg from HC3.out)
  have HBD := Lib.hid (HB3.out.drew)
  have c0 := HV3.out.c0
  have c1 := HV3.out.c1
  have hsD : w3.drew.heap.size = w3.heap.size := rfl
  clear HV3 HR3 HO3 HC3 HB3
  (try go_wp2_with fail)
  go_region_with (go_at_call 83; refine (dPieces7 w.heap.size cg _ HCD.out).mono ?_; rintro e w7 ⟨gr, cp2, us, ps, rfl, hps3, hrow, hpcs, hc7, hg7⟩; have hv7 := RgAt.by (w := w3.drew) HVD.out hg7 (by intro e; injection e with e; omega); have hr7 := RgAt.by (w := w3.drew) HRD.out hg7 (by intro e; injection e with e; omega); have ho7 := World.ownsRow.kept (w := w3.drew) HOD.out hg7 (.inr (by intro e; have h9 : gg = cg := Option.some.inj e; omega)); have d0 := hv7.c0; have d1 := hv7.c1; have d2 := hr7.c0; have d3 := hr7.c1; have d4 := hr7.f 0; have d5 := hr7.f 1)
  all_goals
    have HBE := Lib.hid (HBD.out.grown hg7 (by omega) (fun k h => by injection h with h; omega))
    have HR7 := Lib.hid hr7
    have HO7 := Lib.hid (own_below ho7 (show rb + 1 ≤ cg + 1 by omega))
    have hrb9 : rb < w3.drew.heap.size := by omega
    have HW7 := Lib.hid (own_off (b := rb) (o := 1) (u := .slice (some ⟨gg, 0, none⟩) M cp) (own_off (b := rb) (o := 0) (u := .int .i64 W) hrow hrb9) hrb9)
    have HP7 := Lib.hid (fun j hj => ((hpcs j hj).kept (grownBy_put w7 rb 0 (.int .i64 W)) hrb9).kept (grownBy_put (w7.setCell ⟨rb, 0, none⟩ (.int .i64 W)) rb 1 (.slice (some ⟨gg, 0, none⟩) M cp)) hrb9)
    clear hr7 ho7 hv7 hc7 hg7 hrow hpcs HVD HRD HOD HCD HBD
    try simp only [Exit.then]
    go_wp2
    have R9 := HR7.out.set2 (W) (.slice (some ⟨gg, 0, none⟩) M cp)
    have e0 := R9.c0
    have e1 := R9.c1
    have HA9 := Lib.hid (own_below (own_off (b := rb) (o := 1) (u := .slice (some ⟨gg, 0, none⟩) M cp) (own_off (b := rb) (o := 0) (u := .int .i64 (W)) HO7.out (by omega)) (by omega)) (show w.heap.size ≤ rb + 1 by omega))
    have HB9 := Lib.hid ((HBE.out.setCell (p := ⟨rb, 0, none⟩) (by show w.heap.size ≤ rb; omega) (.int .i64 (W))).setCell (p := ⟨rb, 1, none⟩) (by show w.heap.size ≤ rb; omega) (.slice (some ⟨gg, 0, none⟩) M cp))
    generalize ((w7.setCell ⟨rb, 0, none⟩ (.int .i64 (W))).setCell ⟨rb, 1, none⟩ (.slice (some ⟨gg, 0, none⟩) M cp)) = w9 at *
    exact bodyPost_ret (v := .tuple #[.agg #[.int .i64 W, .slice (some ⟨gg, 0, none⟩) M cp], .slice (some ⟨gr, 0, none⟩) ps.length cp2]) (by simp [results, Tryz.results25, go_sem, e0, e1]) rfl ⟨W, M, gg, cp, l, gr, cp2, ps, rfl, hM.2, HIN.out, HA9.out, psAt_of HW7.out HP7.out, hps3, fun j hj => pcs_len HP7.out hj, HB9.out⟩
end

end Go.Proofs.YtailmmamgnebhaaGreatDoor
