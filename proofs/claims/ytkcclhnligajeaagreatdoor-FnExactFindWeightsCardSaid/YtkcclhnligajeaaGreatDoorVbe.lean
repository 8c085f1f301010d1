/-
  The laws' helpers that write marks into slices of shapes and look whether they stand there.
  Marks written into slices of shapes: what lies elsewhere is as it was.
  What a walk is told of a slice of integers that came in, and what its helpers of one byte are.
  A slice of numbers that came in: its numbers in memory.
  The library's table for the count of trailing zeros, out of the row's condition on the listed variables. Nothing of the program is claimed here.
-/
import Derived.Test.YtkcclhnligajeaaGreatDoorVbd
import Derived.Test.YtkcclhnligajeaaGreatDoorKit
import Derived.OpenShut
import Derived.Test.YtkcclhnligajeaaGreatDoorVac
import Derived.Test.YtkcclhnligajeaaGreatDoorVbc
import Derived.Test.YtkcclhnligajeaaGreatDoorVai
import Derived.LaidMore
import Derived.MakeChecks
import Derived.Stop.LaidErr
import Derived.Lib.LaidTab
import Derived.Test.YtkcclhnligajeaaGreatDoorRows
namespace Go.Proofs.YtkcclhnligajeaaGreatDoor

section
open Go.RowKit

theorem apart_iff (es : List Ent) : ApartS es ↔ (es.map Prod.fst).Pairwise (· ≠ ·) := by unfold ApartS; rw [List.pairwise_map]
theorem mkE_take (es : List Ent) (j : Nat) (h : j < es.length) (k : Int) : mkE k (es.take (j + 1)) = mkE k (es.take j) ++ [((es.getD j dE).1, (es.getD j dE).2.1, marks (k + 2 * totE (es.take j)) (es.getD j dE).2.2.length)] := by
  rw [takeG_snoc dE es j h, mkE_append]
  rfl
theorem drop_cons (es : List Ent) (j : Nat) (h : j < es.length) : es.drop j = es.getD j dE :: es.drop (j + 1) := by
  rw [List.drop_eq_getElem_cons h]
  simp [List.getD, h]
theorem mix_apart {es : List Ent} (h : ApartS es) (k : Int) (j : Nat) : ApartS (mkE k (es.take j) ++ es.drop j) := by
  rw [apart_iff] at *
  rwa [List.map_append, mkE_fst, ← List.map_append, List.take_append_drop]
theorem EachS.marked {B b c : Nat} {A D : List Ent} {x m : List Cl} {w w' : World} (h : EachS B w (A ++ ((b, c, x) :: D))) (ha : ApartS (A ++ ((b, c, x) :: D))) (hg : w.grownBy w' (some b)) (ho : w'.ownsRow B 126 2 (.slice (some ⟨b, 0, none⟩) m.length c) m.length (cvs m)) : EachS B w' (A ++ [(b, c, m)] ++ D) := by
  unfold ApartS at ha
  rw [List.pairwise_append, List.pairwise_cons] at ha
  intro e he
  rw [List.mem_append, List.mem_append, List.mem_singleton] at he
  rcases he with (he | rfl) | he
  · exact (h e (by simp [he])).kept hg (.inr (by rw [ev_block]; intro e2; injection e2 with e2; exact ha.2.2 e he _ (List.mem_cons_self ..) e2))
  · exact ho
  · exact (h e (by simp [he])).kept hg (.inr (by rw [ev_block]; intro e2; injection e2 with e2; exact ha.2.1.1 e he e2.symm))

set_option maxHeartbeats 1000000 in
set_option maxRecDepth 100000 in
theorem lMarkSS (B : Nat) (v : Value) (es : List Ent) (k0 : Int) (w : World) (hn : es.length ≤ 4194304) (h0 : 0 ≤ k0) (h1 : k0 + 2 * totE es ≤ 4194304) (hs : SmallS es) (h : OwnS B w v es) (hB : B ≤ w.heap.size) :
    Calls Tryz.prog 50 #[v, .int .i64 k0] w fun e w' => e = .returned (.int .i64 (k0 + 2 * totE es)) ∧ OwnS B w' v (mkE k0 es) ∧ Below B w w' := by
  cases hes : es with
  | nil =>
    subst hes
    have HO := Lib.hid h
    have hv : ∃ av cv, v = .slice av 0 cv := by
      rcases h.row.2 with ⟨rfl, _⟩ | ⟨g, cv, cur, rfl, _⟩
      · exact ⟨_, _, rfl⟩
      · exact ⟨_, _, rfl⟩
    obtain ⟨av, cv, rfl⟩ := hv
    clear h hs
    go_enter Tryz.func50, Tryz.ntmps50
    go_wp2
    go_loopw [5, 1] (fun i q wr => i = .int .i64 0 ∧ q = .int .i64 k0 ∧ wr = w) (fun i _ _ => 0 - (intOf i).toNat)
    case atStart => exact ⟨rfl, rfl, rfl⟩
    case round =>
      obtain ⟨rfl, rfl, rfl⟩ := hrel
      go_wp2
      go_ret
      exact ⟨by simp [totE], HO.out, Below.refl _ _⟩
  | cons e0 r0 =>
    rw [← hes]
    have hpos : 0 < es.length := by rw [hes]; simp
    clear hes
    obtain ⟨g, cv, rfl⟩ : ∃ g cap, v = .slice (some ⟨g, 0, none⟩) es.length cap := by
      rcases h.row.2 with ⟨_, h9⟩ | ⟨g, cap, cur, rfl, _⟩
      · omega
      · exact ⟨g, cap, rfl⟩
    have hoff : OffS g es := fun e he h2 => h.off e he (by rw [h2]; rfl)
    have HROW := Lib.hid h.row
    have HEA := Lib.hid h.each
    have HAP := Lib.hid h.apart
    have HOFF := Lib.hid hoff
    have HOO := Lib.hid h.off
    have HS := Lib.hid hs
    have hgl := h.row.lt g rfl
    generalize hN : es.length = n at *
    have HN := Lib.hid hN
    clear h hs hoff hN
    go_enter Tryz.func50, Tryz.ntmps50
    go_wp2
    go_loopw [5, 1] (fun i q wr => ∃ j : Nat, j ≤ n ∧ i = .int .i64 j ∧ q = .int .i64 (k0 + 2 * totE (es.take j)) ∧ Hid (EachS B wr (mkE k0 (es.take j) ++ es.drop j)) ∧ Hid (wr.ownsRow B 76 1 (.slice (some ⟨g, 0, none⟩) n cv) n (es.map ev)) ∧ Below B w wr) (fun i _ _ => n - (intOf i).toNat)
    case atStart => exact ⟨0, by omega, rfl, by simp [totE], HEA.out, HROW.out, Below.refl _ _⟩
    case round =>
      obtain ⟨j, hj, rfl, rfl, hea, hrow, hb⟩ := hrel
      have hsz := hb.size
      have htm := totE_mono es j
      by_cases hlt : j < n
      · have hje : j < es.length := by rw [HN.out]; exact hlt
        have hk0 : (0 : Int) ≤ (j : Int) := by omega
        have hk1 : (j : Int) < (n : Int) := by omega
        have htt := totE_take es j hje
        have htm2 := totE_mono es (j + 1)
        have hmk := mkE_take es j hje k0
        have hdr := drop_cons es j hje
        have hmem := ent_mem hje
        have hap := mix_apart HAP.out k0 j
        rw [hdr] at hap
        have hea2 := hea.out
        rw [hdr] at hea2
        have p1 := hrow.out.cellAt j (by omega)
        rw [evs_get hje] at p1
        generalize es.getD j dE = ej at *
        obtain ⟨b, c, x⟩ := ej
        dsimp only at htt hmk
        change _ = some (Value.slice (some ⟨b, 0, none⟩) x.length c) at p1
        have hown := hea2 (b, c, x) (by simp)
        change wr.ownsRow B _ 2 (.slice (some ⟨b, 0, none⟩) x.length c) x.length (cvs x) at hown
        have hxl : x.length ≤ 4194304 := (HS.out _ hmem).1
        have HTT := Lib.hid htt
        have HMK := Lib.hid hmk
        have hne : b ≠ g := HOFF.out _ hmem
        have hbB := (hown.lt b rfl).1
        have HAP2 := Lib.hid hap
        have HEA2 := Lib.hid hea2
        generalize hq : totE (es.take j) = q at *
        have HQ := Lib.hid hq
        have hcall := lMark_at B b x.length c (k0 + 2 * q) x wr hxl (by omega) (by omega) rfl hown
        have hmem9 : 0 < 1 := by omega
        clear hea hea2 hap hown htt hmk hdr hq hmem
        go_wp2_with fail
        refine hcall.mono ?_
        rintro e w2 ⟨rfl, hown2, hg2⟩
        have HE2 := Lib.hid (show EachS B w2 (mkE k0 (es.take (j + 1)) ++ es.drop (j + 1)) from by
          rw [HMK.out]
          exact EachS.marked HEA2.out HAP2.out hg2 (by rw [marks_length]; exact hown2))
        have HR2 := Lib.hid (hrow.out.kept hg2 (.inr (by intro e9; injection e9 with e9; exact hne e9.symm)))
        have HB2 := Lib.hid (hb.grown hg2 (by omega) (fun i hi => by cases hi; exact hbB))
        have hqq : k0 + 2 * (q : Int) + 2 * (x.length : Int) = k0 + 2 * (totE (es.take (j + 1)) : Int) := by rw [HTT.out]; omega
        rw [hqq]
        clear hown2 hg2 hrow hb hqq hcall HMK HTT HAP2 HEA2 HQ
        go_wp2
        go_roundw
        case rel => exact ⟨j + 1, by omega, by go_num, rfl, HE2.out, HR2.out, HB2.out⟩
        case measure => simp [intOf]; omega
      · obtain rfl : j = n := by omega
        have e1 : es.take j = es := List.take_of_length_le (by rw [HN.out]; exact Nat.le_refl _)
        have e2 : es.drop j = [] := List.drop_eq_nil_of_le (by rw [HN.out]; exact Nat.le_refl _)
        rw [e1, e2, List.append_nil] at hea
        rw [e1]
        have hap := mix_apart HAP.out k0 j
        rw [e1, e2, List.append_nil] at hap
        have HR := Lib.hid (show OwnS B wr (.slice (some ⟨g, 0, none⟩) j cv) (mkE k0 es) from ⟨by rw [mkE_length, HN.out, mkE_ev]; exact hrow.out, hea.out, hap, fun e he => by
          have h8 : e.1 ∈ (mkE k0 es).map Prod.fst := List.mem_map_of_mem he
          rw [mkE_fst] at h8
          obtain ⟨f, hf, e9⟩ := List.mem_map.1 h8
          rw [← e9]
          exact HOO.out f hf⟩)
        clear hea hap hrow e1 e2
        go_wp2
        go_ret
        exact ⟨rfl, HR.out, hb⟩

theorem mkE_keys (es : List Ent) (k : Int) (j : Nat) (h : j < es.length) : ((mkE k es).map kE).getD j [] = marks (k + 2 * totE (es.take j)) (es.getD j dE).2.2.length := by
  have e := mkE_get es j h k
  have hl : j < (mkE k es).length := by rw [mkE_length]; exact h
  have e2 : ((mkE k es).map kE).getD j [] = kE ((mkE k es).getD j dE) := by simp [List.getD, hl]
  rw [e2, e]
  rfl
end

section
open Go.RowKit

/-- All is as it was, but for the blocks of some shapes. -/
structure KeptBut (es : List Ent) (w w' : World) : Prop where
  os : w'.os = w.os
  tape : w'.tape = w.tape
  output : w'.output = w.output
  size : w.heap.size ≤ w'.heap.size
  block : ∀ k, k < w.heap.size → OffS k es → w'.heap[k]? = w.heap[k]?
theorem KeptBut.refl (es : List Ent) (w : World) : KeptBut es w w := ⟨rfl, rfl, rfl, Nat.le_refl _, fun _ _ _ => rfl⟩
theorem KeptBut.step {es : List Ent} {w w1 w2 : World} {b c : Nat} {x : List Cl} (h : KeptBut es w w1) (hg : w1.grownBy w2 (some b)) (hm : (b, c, x) ∈ es) : KeptBut es w w2 :=
  ⟨hg.os.trans h.os, hg.tape.trans h.tape, hg.output.trans h.output, Nat.le_trans h.size hg.size, fun k hk ho => (hg.block k (Nat.lt_of_lt_of_le hk h.size) (fun e => ho _ hm (Option.some.inj e).symm)).trans (h.block k hk ho)⟩
theorem RgAt.kp {w w' : World} {g : Nat} {W : Int} {v : Value} {es : List Ent} (h : RgAt w g W v) (hk : KeptBut es w w') (ho : OffS g es) : RgAt w' g W v := (hk.block g h.lt ho).trans h
theorem LgAt.kp {w w' : World} {g : Nat} {W : Int} {v : Value} {es : List Ent} (h : LgAt w g W v) (hk : KeptBut es w w') (ho : OffS g es) : LgAt w' g W v := (hk.block g h.lt ho).trans h
theorem own_kp {es : List Ent} {w w' : World} {B n size : Nat} {t : TypeId} {v : Value} {xs : List Value} (hk : KeptBut es w w') (h : w.ownsRow B t size v n xs) (ho : ∀ k, v.ownBlock = some k → OffS k es) : w'.ownsRow B t size v n xs := by
  refine ⟨h.1, ?_⟩
  rcases h.2 with ⟨e, h0⟩ | ⟨g, cap, cur, rfl, hb, hg, h1, h2, h3, h4⟩
  · exact .inl ⟨e, h0⟩
  · exact .inr ⟨g, cap, cur, rfl, hb, (hk.block g (Array.getElem?_eq_some_iff.1 hg).1 (ho g rfl)).trans hg, h1, h2, h3, h4⟩
theorem off_up {B U g k : Nat} {es : List Ent} (h : (B ≤ g ∧ g < U) ∧ ∀ e ∈ es, B ≤ e.1 ∧ e.1 < U) (hk : k < B ∨ U ≤ k) : OffS k es := fun e he h9 => by
  have := h.2 e he
  omega
theorem OwnS.byLow {B : Nat} {w w' : World} {r : Option Nat} {v : Value} {es : List Ent} (h : OwnS B w v es) (hg : w.grownBy w' r) (hne : ∀ k, r = some k → k < B) : OwnS B w' v es := by
  refine ⟨h.row.kept hg ?_, fun e he => (h.each e he).kept hg (.inr ?_), h.apart, h.off⟩
  · cases hv : v.ownBlock with
    | none => exact .inl rfl
    | some k =>
      refine .inr ?_
      intro e9
      have h1 := (h.row.lt k hv).1
      have h2 := hne k e9.symm
      omega
  · intro e9
    have h1 := (h.each.lt he).1
    have h2 := hne e.1 e9.symm
    omega

set_option maxHeartbeats 1000000 in
set_option maxRecDepth 100000 in
theorem lMarkSS2 (B : Nat) (v : Value) (es : List Ent) (k0 : Int) (w : World) (hn : es.length ≤ 4194304) (h0 : 0 ≤ k0) (h1 : k0 + 2 * totE es ≤ 4194304) (hs : SmallS es) (h : OwnS B w v es) (hB : B ≤ w.heap.size) :
    Calls Tryz.prog 50 #[v, .int .i64 k0] w fun e w' => e = .returned (.int .i64 (k0 + 2 * totE es)) ∧ Below B w w' ∧ KeptBut es w w' := by
  cases hes : es with
  | nil =>
    subst hes
    have hv : ∃ av cv, v = .slice av 0 cv := by
      rcases h.row.2 with ⟨rfl, _⟩ | ⟨g, cv, cur, rfl, _⟩
      · exact ⟨_, _, rfl⟩
      · exact ⟨_, _, rfl⟩
    obtain ⟨av, cv, rfl⟩ := hv
    clear h hs
    go_enter Tryz.func50, Tryz.ntmps50
    go_wp2
    go_loopw [5, 1] (fun i q wr => i = .int .i64 0 ∧ q = .int .i64 k0 ∧ wr = w) (fun i _ _ => 0 - (intOf i).toNat)
    case atStart => exact ⟨rfl, rfl, rfl⟩
    case round =>
      obtain ⟨rfl, rfl, rfl⟩ := hrel
      go_wp2
      go_ret
      exact ⟨by simp [totE], Below.refl _ _, KeptBut.refl _ _⟩
  | cons e0 r0 =>
    rw [← hes]
    have hpos : 0 < es.length := by rw [hes]; simp
    clear hes
    obtain ⟨g, cv, rfl⟩ : ∃ g cap, v = .slice (some ⟨g, 0, none⟩) es.length cap := by
      rcases h.row.2 with ⟨_, h9⟩ | ⟨g, cap, cur, rfl, _⟩
      · omega
      · exact ⟨g, cap, rfl⟩
    have hoff : OffS g es := fun e he h2 => h.off e he (by rw [h2]; rfl)
    have HROW := Lib.hid h.row
    have HEA := Lib.hid h.each
    have HAP := Lib.hid h.apart
    have HOFF := Lib.hid hoff
    have HS := Lib.hid hs
    have hgl := h.row.lt g rfl
    generalize hN : es.length = n at *
    have HN := Lib.hid hN
    clear h hs hoff hN
    go_enter Tryz.func50, Tryz.ntmps50
    go_wp2
    go_loopw [5, 1] (fun i q wr => ∃ j : Nat, j ≤ n ∧ i = .int .i64 j ∧ q = .int .i64 (k0 + 2 * totE (es.take j)) ∧ Hid (EachS B wr (mkE k0 (es.take j) ++ es.drop j)) ∧ Hid (wr.ownsRow B 76 1 (.slice (some ⟨g, 0, none⟩) n cv) n (es.map ev)) ∧ Below B w wr ∧ KeptBut es w wr) (fun i _ _ => n - (intOf i).toNat)
    case atStart => exact ⟨0, by omega, rfl, by simp [totE], HEA.out, HROW.out, Below.refl _ _, KeptBut.refl _ _⟩
    case round =>
      obtain ⟨j, hj, rfl, rfl, hea, hrow, hb, hkb⟩ := hrel
      have hsz := hb.size
      have htm := totE_mono es j
      by_cases hlt : j < n
      · have hje : j < es.length := by rw [HN.out]; exact hlt
        have hk0 : (0 : Int) ≤ (j : Int) := by omega
        have hk1 : (j : Int) < (n : Int) := by omega
        have htt := totE_take es j hje
        have htm2 := totE_mono es (j + 1)
        have hmk := mkE_take es j hje k0
        have hdr := drop_cons es j hje
        have hmem := ent_mem hje
        have hap := mix_apart HAP.out k0 j
        rw [hdr] at hap
        have hea2 := hea.out
        rw [hdr] at hea2
        have p1 := hrow.out.cellAt j (by omega)
        rw [evs_get hje] at p1
        generalize es.getD j dE = ej at *
        obtain ⟨b, c, x⟩ := ej
        dsimp only at htt hmk
        change _ = some (Value.slice (some ⟨b, 0, none⟩) x.length c) at p1
        have hown := hea2 (b, c, x) (by simp)
        change wr.ownsRow B _ 2 (.slice (some ⟨b, 0, none⟩) x.length c) x.length (cvs x) at hown
        have hxl : x.length ≤ 4194304 := (HS.out _ hmem).1
        have HTT := Lib.hid htt
        have HMK := Lib.hid hmk
        have hne : b ≠ g := HOFF.out _ hmem
        have hbB := (hown.lt b rfl).1
        have HAP2 := Lib.hid hap
        have HEA2 := Lib.hid hea2
        generalize hq : totE (es.take j) = q at *
        have HQ := Lib.hid hq
        have hcall := lMark_at B b x.length c (k0 + 2 * q) x wr hxl (by omega) (by omega) rfl hown
        have HMEM := Lib.hid hmem
        clear hea hea2 hap hown htt hmk hdr hq hmem
        go_wp2_with fail
        refine hcall.mono ?_
        rintro e w2 ⟨rfl, hown2, hg2⟩
        have HE2 := Lib.hid (show EachS B w2 (mkE k0 (es.take (j + 1)) ++ es.drop (j + 1)) from by
          rw [HMK.out]
          exact EachS.marked HEA2.out HAP2.out hg2 (by rw [marks_length]; exact hown2))
        have HR2 := Lib.hid (hrow.out.kept hg2 (.inr (by intro e9; injection e9 with e9; exact hne e9.symm)))
        have HB2 := Lib.hid (hb.grown hg2 (by omega) (fun i hi => by cases hi; exact hbB))
        have HK2 := Lib.hid (hkb.step hg2 HMEM.out)
        have hqq : k0 + 2 * (q : Int) + 2 * (x.length : Int) = k0 + 2 * (totE (es.take (j + 1)) : Int) := by rw [HTT.out]; omega
        rw [hqq]
        clear hown2 hg2 hrow hb hkb hqq hcall HMK HTT HAP2 HEA2 HQ
        go_wp2
        go_roundw
        case rel => exact ⟨j + 1, by omega, by go_num, rfl, HE2.out, HR2.out, HB2.out, HK2.out⟩
        case measure => simp [intOf]; omega
      · obtain rfl : j = n := by omega
        have e1 : es.take j = es := List.take_of_length_le (by rw [HN.out]; exact Nat.le_refl _)
        have e2 : es.drop j = [] := List.drop_eq_nil_of_le (by rw [HN.out]; exact Nat.le_refl _)
        rw [e1]
        clear hea hrow e1 e2
        go_wp2
        go_ret
        exact ⟨rfl, hb, hkb⟩
end

section
open Go.RowKit

/-- What the walk is told of a slice of integers that came in. -/
def IsRow (k : IntKind) (w : World) (a : Option Addr) (len cap : Nat) (zs : List Int) : Prop :=
  (a = none ∧ len = 0 ∧ cap = 0 ∧ zs = []) ∨
  ∃ x, a = some x ∧ len ≤ cap ∧ cap ≤ maxLen ∧ zs.length = cap ∧ (∀ i, i < zs.length → w.cell? (x.add i) = some (.int k (zs.getD i 0))) ∧ ∀ n ∈ zs, (Lit.int k n).wf = true
end

section
open Go.RowKit

theorem ints_of_row {w : World} {a : Option Addr} {len cap : Nat} {zs : List Int} (h : IsRow .i64 w a len cap zs) : IntsAt w.heap.size w a len (zs.take len) ∧ len ≤ maxLen := by
  rcases h with ⟨rfl, rfl, rfl, rfl⟩ | ⟨x, rfl, h1, h2, h3, h4, h5⟩
  · exact ⟨⟨rfl, fun z hz => (by cases hz), fun h => absurd h (by omega)⟩, Nat.zero_le _⟩
  · refine ⟨⟨by rw [List.length_take]; omega, fun z hz => ?_, fun hp => ?_⟩, by omega⟩
    · exact wf_i64 (h5 z (List.mem_of_mem_take hz))
    · obtain ⟨b, off, spot⟩ := x
      have hc := h4 0 (by omega)
      have hspot : spot = none := by simpa [Addr.add] using World.cell?_spot hc
      subst hspot
      have hb : b < w.heap.size := World.block_lt_of_cell? w _ (by simpa [Addr.add] using hc)
      refine ⟨b, off, rfl, hb, fun k hk => ?_⟩
      rw [← Addr.add_lit, h4 k (by omega)]
      congr 2
      simp [List.getD, hk, show k < zs.length by omega]
end

section
open Go.RowKit

theorem datumDB : (Rows.laid_math_bits_deBruijn64tab : DataW Unit) = Lib.tabData .u8 (Lib.deBruijn64tab.map fun (x : Nat) => (x : Int)) := by kernel_rfl
theorem nDB : Tryz.prog.globalNamed "math/bits.deBruijn64tab" = some gDB := by kernel_rfl
theorem tDB : (Tryz.prog.globals[gDB]?).map (·.type) = some 182 := by kernel_rfl
theorem tab_of_laid {W : World} (h : laidMetH Tryz.prog [("math/bits.deBruijn32tab", Rows.laid_math_bits_deBruijn32tab), ("math/bits.deBruijn64tab", Rows.laid_math_bits_deBruijn64tab)] W) : Tz W := by
  rw [MakeChecks.laidMetH_plain _ _ _ (by kernel_rfl)] at h
  have h2 := h.tail
  rw [datumDB] at h2
  have h3 := Lib.tabIs_of_head nDB tDB Tryz.underlying182 Tryz.underlying5 (by kernel_rfl) (by kernel_rfl) h2
  have hc : ∀ j, j < Lib.deBruijn64tab.length → W.cell? ⟨gDB, j, none⟩ = some (.int .u8 (Lib.deBruijn64tab.getD j 0)) := fun j hj => by
    have := Lib.TabIs.cell h3 nDB j (by rw [List.length_map]; exact hj)
    rw [this]
    simp [List.getD, hj]
  exact ⟨hc, World.block_lt_of_cell? W ⟨gDB, 0, none⟩ (hc 0 (by decide))⟩
end

end Go.Proofs.YtkcclhnligajeaaGreatDoor
