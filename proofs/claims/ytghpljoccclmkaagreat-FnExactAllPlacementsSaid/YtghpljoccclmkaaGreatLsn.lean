/-
  Marks written into slices of shapes: what lies elsewhere is as it was.
-/
import Derived.Test.YtghpljoccclmkaaGreatLsm
import Derived.Test.YtghpljoccclmkaaGreatLps
import Derived.Test.YtghpljoccclmkaaGreatRar
namespace Go.Proofs.YtghpljoccclmkaaGreat
open Go.RowKit

/-- All is as it was, but for the blocks of some shapes. -/
structure KeptBut (es : List Ent) (w w' : World) : Prop where
  os : w'.os = w.os
  tape : w'.tape = w.tape
  output : w'.output = w.output
  size : w.heap.size ≤ w'.heap.size
  block : ∀ k, k < w.heap.size → OffS k es → w'.heap[k]? = w.heap[k]?
theorem KeptBut.refl (es : List Ent) (w : World) : KeptBut es w w := ⟨rfl, rfl, rfl, Nat.le_refl _, fun _ _ _ => rfl⟩
theorem KeptBut.step {es : List Ent} {w w1 w2 : World} {b c : Nat} {x : List Cl} (h : KeptBut es w w1) (hg : w1.grownBy w2 (some b)) (hm : (b, c, x) ∈ es) : KeptBut es w w2 :=
  ⟨hg.os.trans h.os, hg.tape.trans h.tape, hg.output.trans h.output, Nat.le_trans h.size hg.size, fun k hk ho => (hg.block k (Nat.lt_of_lt_of_le hk h.size) (fun e => ho _ hm (Option.some.inj e).symm)).trans (h.block k hk ho)⟩
theorem RgAt.kp {w w' : World} {g : Nat} {W : Int} {v : Value} {es : List Ent} (h : RgAt w g W v) (hk : KeptBut es w w') (ho : OffS g es) : RgAt w' g W v := (hk.block g h.lt ho).trans h
theorem LgAt.kp {w w' : World} {g : Nat} {W : Int} {v : Value} {es : List Ent} (h : LgAt w g W v) (hk : KeptBut es w w') (ho : OffS g es) : LgAt w' g W v := (hk.block g h.lt ho).trans h
theorem own_kp {es : List Ent} {w w' : World} {B n size : Nat} {t : TypeId} {v : Value} {xs : List Value} (hk : KeptBut es w w') (h : w.ownsRow B t size v n xs) (ho : ∀ k, v.ownBlock = some k → OffS k es) : w'.ownsRow B t size v n xs := by
  refine ⟨h.1, ?_⟩
  rcases h.2 with ⟨e, h0⟩ | ⟨g, cap, cur, rfl, hb, hg, h1, h2, h3, h4⟩
  · exact .inl ⟨e, h0⟩
  · exact .inr ⟨g, cap, cur, rfl, hb, (hk.block g (Array.getElem?_eq_some_iff.1 hg).1 (ho g rfl)).trans hg, h1, h2, h3, h4⟩
theorem off_up {B U g k : Nat} {es : List Ent} (h : (B ≤ g ∧ g < U) ∧ ∀ e ∈ es, B ≤ e.1 ∧ e.1 < U) (hk : k < B ∨ U ≤ k) : OffS k es := fun e he h9 => by
  have := h.2 e he
  omega
theorem OwnS.byLow {B : Nat} {w w' : World} {r : Option Nat} {v : Value} {es : List Ent} (h : OwnS B w v es) (hg : w.grownBy w' r) (hne : ∀ k, r = some k → k < B) : OwnS B w' v es := by
  refine ⟨h.row.kept hg ?_, fun e he => (h.each e he).kept hg (.inr ?_), h.apart, h.off⟩
  · cases hv : v.ownBlock with
    | none => exact .inl rfl
    | some k =>
      refine .inr ?_
      intro e9
      have h1 := (h.row.lt k hv).1
      have h2 := hne k e9.symm
      omega
  · intro e9
    have h1 := (h.each.lt he).1
    have h2 := hne e.1 e9.symm
    omega

set_option maxHeartbeats 1000000 in
set_option maxRecDepth 100000 in
theorem lMarkSS2 (B : Nat) (v : Value) (es : List Ent) (k0 : Int) (w : World) (hn : es.length ≤ 4194304) (h0 : 0 ≤ k0) (h1 : k0 + 2 * totE es ≤ 4194304) (hs : SmallS es) (h : OwnS B w v es) (hB : B ≤ w.heap.size) :
    Calls Tryz.prog 24 #[v, .int .i64 k0] w fun e w' => e = .returned (.int .i64 (k0 + 2 * totE es)) ∧ Below B w w' ∧ KeptBut es w w' := by
  cases hes : es with
  | nil =>
    subst hes
    have hv : ∃ av cv, v = .slice av 0 cv := by
      rcases h.row.2 with ⟨rfl, _⟩ | ⟨g, cv, cur, rfl, _⟩
      · exact ⟨_, _, rfl⟩
      · exact ⟨_, _, rfl⟩
    obtain ⟨av, cv, rfl⟩ := hv
    clear h hs
    go_enter Tryz.func24, Tryz.ntmps24
    go_wp2
    go_loopw [5, 1] (fun i q wr => i = .int .i64 0 ∧ q = .int .i64 k0 ∧ wr = w) (fun i _ _ => 0 - (intOf i).toNat)
    case atStart => exact ⟨rfl, rfl, rfl⟩
    case round =>
      obtain ⟨rfl, rfl, rfl⟩ := hrel
      go_wp2
      go_ret
      exact ⟨by simp [totE], Below.refl _ _, KeptBut.refl _ _⟩
  | cons e0 r0 =>
    rw [← hes]
    have hpos : 0 < es.length := by rw [hes]; simp
    clear hes
    obtain ⟨g, cv, rfl⟩ : ∃ g cap, v = .slice (some ⟨g, 0, none⟩) es.length cap := by
      rcases h.row.2 with ⟨_, h9⟩ | ⟨g, cap, cur, rfl, _⟩
      · omega
      · exact ⟨g, cap, rfl⟩
    have hoff : OffS g es := fun e he h2 => h.off e he (by rw [h2]; rfl)
    have HROW := Lib.hid h.row
    have HEA := Lib.hid h.each
    have HAP := Lib.hid h.apart
    have HOFF := Lib.hid hoff
    have HS := Lib.hid hs
    have hgl := h.row.lt g rfl
    generalize hN : es.length = n at *
    have HN := Lib.hid hN
    clear h hs hoff hN
    go_enter Tryz.func24, Tryz.ntmps24
    go_wp2
    go_loopw [5, 1] (fun i q wr => ∃ j : Nat, j ≤ n ∧ i = .int .i64 j ∧ q = .int .i64 (k0 + 2 * totE (es.take j)) ∧ Hid (EachS B wr (mkE k0 (es.take j) ++ es.drop j)) ∧ Hid (wr.ownsRow B 31 1 (.slice (some ⟨g, 0, none⟩) n cv) n (es.map ev)) ∧ Below B w wr ∧ KeptBut es w wr) (fun i _ _ => n - (intOf i).toNat)
    case atStart => exact ⟨0, by omega, rfl, by simp [totE], HEA.out, HROW.out, Below.refl _ _, KeptBut.refl _ _⟩
    case round =>
      obtain ⟨j, hj, rfl, rfl, hea, hrow, hb, hkb⟩ := hrel
      have hsz := hb.size
      have htm := totE_mono es j
      by_cases hlt : j < n
      · have hje : j < es.length := by rw [HN.out]; exact hlt
        have hk0 : (0 : Int) ≤ (j : Int) := by omega
        have hk1 : (j : Int) < (n : Int) := by omega
        have htt := totE_take es j hje
        have htm2 := totE_mono es (j + 1)
        have hmk := mkE_take es j hje k0
        have hdr := drop_cons es j hje
        have hmem := ent_mem hje
        have hap := mix_apart HAP.out k0 j
        rw [hdr] at hap
        have hea2 := hea.out
        rw [hdr] at hea2
        have p1 := hrow.out.cellAt j (by omega)
        rw [evs_get hje] at p1
        generalize es.getD j dE = ej at *
        obtain ⟨b, c, x⟩ := ej
        dsimp only at htt hmk
        change _ = some (Value.slice (some ⟨b, 0, none⟩) x.length c) at p1
        have hown := hea2 (b, c, x) (by simp)
        change wr.ownsRow B _ 2 (.slice (some ⟨b, 0, none⟩) x.length c) x.length (cvs x) at hown
        have hxl : x.length ≤ 4194304 := (HS.out _ hmem).1
        have HTT := Lib.hid htt
        have HMK := Lib.hid hmk
        have hne : b ≠ g := HOFF.out _ hmem
        have hbB := (hown.lt b rfl).1
        have HAP2 := Lib.hid hap
        have HEA2 := Lib.hid hea2
        generalize hq : totE (es.take j) = q at *
        have HQ := Lib.hid hq
        have hcall := lMark_at B b x.length c (k0 + 2 * q) x wr hxl (by omega) (by omega) rfl hown
        have HMEM := Lib.hid hmem
        clear hea hea2 hap hown htt hmk hdr hq hmem
        go_wp2_with fail
        refine hcall.mono ?_
        rintro e w2 ⟨rfl, hown2, hg2⟩
        have HE2 := Lib.hid (show EachS B w2 (mkE k0 (es.take (j + 1)) ++ es.drop (j + 1)) from by
          rw [HMK.out]
          exact EachS.marked HEA2.out HAP2.out hg2 (by rw [marks_length]; exact hown2))
        have HR2 := Lib.hid (hrow.out.kept hg2 (.inr (by intro e9; injection e9 with e9; exact hne e9.symm)))
        have HB2 := Lib.hid (hb.grown hg2 (by omega) (fun i hi => by cases hi; exact hbB))
        have HK2 := Lib.hid (hkb.step hg2 HMEM.out)
        have hqq : k0 + 2 * (q : Int) + 2 * (x.length : Int) = k0 + 2 * (totE (es.take (j + 1)) : Int) := by rw [HTT.out]; omega
        rw [hqq]
        clear hown2 hg2 hrow hb hkb hqq hcall HMK HTT HAP2 HEA2 HQ
        go_wp2
        go_roundw
        case rel => exact ⟨j + 1, by omega, by go_num, rfl, HE2.out, HR2.out, HB2.out, HK2.out⟩
        case measure => simp [intOf]; omega
      · obtain rfl : j = n := by omega
        have e1 : es.take j = es := List.take_of_length_le (by rw [HN.out]; exact Nat.le_refl _)
        have e2 : es.drop j = [] := List.drop_eq_nil_of_le (by rw [HN.out]; exact Nat.le_refl _)
        rw [e1]
        clear hea hrow e1 e2
        go_wp2
        go_ret
        exact ⟨rfl, hb, hkb⟩


end Go.Proofs.YtghpljoccclmkaaGreat
