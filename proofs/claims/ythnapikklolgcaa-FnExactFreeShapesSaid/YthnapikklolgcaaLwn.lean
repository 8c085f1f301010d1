/-
  The walks of the laws on functions that take a slice of cells and give slices of shapes, out of the two sides' contracts.
  The walks of the laws on functions that take a number and give slices of shapes, out of the two sides' contracts; and on CountFree.
  The walks of the laws on enumeration, each with both sides' contracts.
-/
import Derived.Test.YthnapikklolgcaaLsm
import Derived.Test.YthnapikklolgcaaLw3
import Derived.Test.YthnapikklolgcaaJos
import Derived.Test.YthnapikklolgcaaJen
import Derived.Test.YthnapikklolgcaaSen
namespace Go.Proofs.Ythnapikklolgcaa

section
open Go.RowKit

theorem OwnS.by {B : Nat} {w w' : World} {v : Value} {es : List Ent} {r : Option Nat} (h : OwnS B w v es) (hg : w.grownBy w' r) (hr : ∀ k, r = some k → k < B) : OwnS B w' v es :=
  ⟨h.row.kept hg (by
      cases e : v.ownBlock with
      | none => exact .inl rfl
      | some k => exact .inr fun e2 => by have := hr k e2.symm; have := (h.row.lt k e).1; omega),
    fun e he => (h.each e he).kept hg (.inr fun e2 => by have := hr e.1 (by rw [← e2]; rfl); have := (h.each.lt he).1; omega), h.apart, h.off⟩
theorem tot_le8 : ∀ (es : List Ent), (∀ e ∈ es, (kE e).length ≤ 8) → totE es ≤ 8 * es.length := by
  intro es
  induction es with
  | nil => intro _; simp [totE]
  | cons e r ih =>
    intro h
    have h1 := h e (by simp)
    have h2 := ih fun f hf => h f (by simp [hf])
    simp only [totE, List.map_cons, List.sum_cons, List.length_cons] at *
    change e.2.2.length ≤ 8 at h1
    omega
theorem mkE_small : ∀ {es : List Ent} (k : Int), 0 ≤ k → SmallS es → k + 2 * totE es ≤ 1048576 → SmallS (mkE k es) := by
  intro es
  induction es with
  | nil => intro k _ _ _ e he; cases he
  | cons e r ih =>
    intro k h0 hs ht e9 he
    have ht2 : totE (e :: r) = e.2.2.length + totE r := by simp [totE]
    rw [ht2] at ht
    simp only [mkE, List.mem_cons] at he
    rcases he with rfl | he
    · exact ⟨by rw [marks_length]; exact (hs e (by simp)).1, marks_in k _ h0 (by omega)⟩
    · exact ih (k + 2 * e.2.2.length) (by omega) (fun f hf => hs f (by simp [hf])) (by omega) e9 he

set_option maxHeartbeats 2000000 in
theorem walk_ExtensionsOf (a : Option Addr) (n cap : Nat) (l : List Cl) (w : World) (L : List (List Cl)) (hs8 : L.length ≤ 32) (hLE : ∀ x ∈ L, x.length ≤ 8)
    (hS : ∀ (B n cap : Nat) (a : Option Addr) (w : World), n ≤ 1048576 → CellsAt B w a n l → B ≤ w.heap.size → Calls Try.prog 51 #[.slice a n cap] w (GivesSs w L))
    (hI : ∀ (B n cap : Nat) (a : Option Addr) (w : World), n ≤ 4194304 → CellsAt B w a n l → B ≤ w.heap.size → Calls Try.prog 52 #[.slice a n cap] w (GivesS w L))
    (hc : CellsAt w.heap.size w a n l) (hm : n ≤ maxLen) :
    Calls Try.prog 16 #[.slice a n cap] w fun e w' => e = .returned (.bool true) ∧ Below w.heap.size w w' := by
  have hm2 : n ≤ 9223372036854775807 := by unfold maxLen at hm; omega
  have HC := Lib.hid hc
  have HE := Lib.hid (eqb_refl l)
  have HLE := Lib.hid hLE
  have HSP := Lib.hid hS
  have HIM := Lib.hid hI
  clear hLE hS hI
  clear hc hm
  by_cases hs : (1048576 : Int) < n
  · go_enter Try.func16, Try.ntmps16
    go_wp2_with fail
    refine (lSz_big a n cap 1048576 _ (by omega) hs hm2).mono ?_
    rintro e w' ⟨rfl, rfl⟩
    go_wp2
    go_ret
    exact ⟨rfl, Below.refl _ _⟩
  · have hn : n ≤ 1048576 := by omega
    have hn4 : n ≤ 4194304 := by omega
    have hz4 : L.length ≤ 4194304 := by omega
    have hk1 : ¬ ((1 : Int) + 2 * (n : Int) < 0) := by omega
    go_enter Try.func16, Try.ntmps16
    go_wp2_with fail
    refine (lSz_fits a n cap 1048576 _ (by omega) (by omega)).mono ?_
    rintro e w' ⟨rfl, rfl⟩
    go_wp2_with fail
    refine (lToCellS_any w.heap.size n cap a l w hn HC.out (Nat.le_refl _)).mono ?_
    rintro e w1 ⟨rfl, hown1, hb1⟩
    have HA1 := Lib.hid (CellsAt.of_own hown1 HC.out.2.1)
    clear hown1
    go_wp2_with fail
    refine (HSP.out w1.heap.size n n _ w1 hn HA1.out (Nat.le_refl _)).mono ?_
    rintro e w2 ⟨gw, cw, vs2, rfl, _, hown2, hb2⟩
    have h12 := hb1.trans (hb2.mono hb1.size)
    have HW2 := Lib.hid (SsRd.of_at (cap := cw) hown2)
    clear hown2
    go_wp2_with fail
    refine (lToCellS_any w.heap.size n cap a l w2 hn (HC.out.on h12) h12.size).mono ?_
    rintro e w3 ⟨rfl, hown3, hb3⟩
    have h13 := h12.trans (hb3.mono h12.size)
    have HA3 := Lib.hid (CellsAt.of_own hown3 HC.out.2.1)
    have HX3 := Lib.hid hown3
    clear hown3
    go_wp2_with fail
    refine (HIM.out w3.heap.size n n _ w3 hn4 HA3.out (Nat.le_refl _)).mono ?_
    rintro e w4 ⟨v, es, rfl, hes4, hsm4, hown4, hb4⟩
    have HES := Lib.hid hes4
    have HSM := Lib.hid hsm4
    have hel : es.length ≤ 32 := by have := congrArg List.length hes4; rw [List.length_map] at this; omega
    have htot := tot_le8 es (fun e he => HLE.out _ (by rw [← hes4]; exact List.mem_map_of_mem he))
    have hk2 : ¬ ((1 : Int) + 2 * (totE es : Int) < 0) := by omega
    have hk3 : (((1 : Int) + 2 * (totE es : Int)) != (1 + 2 * (totE es : Int))) = false := by simp
    clear hes4 hsm4
    have h14 := h13.trans (hb4.mono h13.size)
    have b24 : Below w2.heap.size w2 w4 := hb3.trans (hb4.mono hb3.size)
    have HGC4 := Lib.hid (show SsRd w4.heap.size w4 v L from by have := SsRd.of_own hown4 HSM.out; rwa [HES.out] at this)
    have HG4 := Lib.hid hown4
    have HW4 := Lib.hid (HW2.out.on b24)
    clear hown4
    go_wp2_with fail
    refine (lEqSS w4.heap.size v _ L w4 hz4 HGC4.out (HW4.out.more b24.size) (Nat.le_refl _)).mono ?_
    rintro e w5 ⟨rfl, hb5⟩
    have h15 := h14.trans (hb5.mono h14.size)
    go_wp2_with fail
    refine (lToCellS_any w.heap.size n cap a l w5 hn (HC.out.on h15) h15.size).mono ?_
    rintro e w6 ⟨rfl, hown6, hb6⟩
    have h16 := h15.trans (hb6.mono h15.size)
    have b46 : Below w4.heap.size w4 w6 := hb5.trans (hb6.mono hb5.size)
    have b36 : Below w3.heap.size w3 w6 := hb4.trans (b46.mono hb4.size)
    have HA6 := Lib.hid (CellsAt.of_own hown6 HC.out.2.1)
    have HA36 := Lib.hid ((HA3.out.on b36).more b36.size)
    clear hown6
    go_wp2_with fail
    refine (lEqCellS_any w6.heap.size n n n n _ _ l l w6 hn4 HA36.out HA6.out (Nat.le_refl _)).mono ?_
    rintro e w7 ⟨rfl, hb7⟩
    have h17 := h16.trans (hb7.mono h16.size)
    have b47 : Below w4.heap.size w4 w7 := b46.trans (hb7.mono b46.size)
    have b37 : Below w3.heap.size w3 w7 := b36.trans (hb7.mono b36.size)
    have b27 : Below w2.heap.size w2 w7 := b24.trans (b47.mono b24.size)
    have HX7 := Lib.hid (HX3.out.kept (grow_below b37 none) (none_row _))
    have HG7 := Lib.hid (HG4.out.on b47)
    rw [HE.out]
    go_wp2_with fail
    refine (lMark_any w2.heap.size n _ _ 1 l w7 hn4 (by omega) (by omega) HC.out.1 HX7.out).mono ?_
    rintro e w8 ⟨rfl, _, hg8⟩
    have hsz78 := hg8.size
    have b28 : Below w2.heap.size w2 w8 := b27.grown hg8 b27.size (fun k hk => (HX7.out.lt k hk).1)
    have h18 : Below w.heap.size w w8 := h12.trans (b28.mono h12.size)
    have HG8 := Lib.hid (HG7.out.by hg8 (fun k hk => by have := (HX3.out.lt k hk).2; omega))
    have HGC8 := Lib.hid (show SsRd w8.heap.size w8 v L from by have := SsRd.of_own HG8.out HSM.out; rwa [HES.out] at this)
    have HW8 := Lib.hid (HW2.out.on b28)
    clear hg8
    go_wp2_with fail
    refine (lEqSS w8.heap.size v _ L w8 hz4 HGC8.out (HW8.out.more b28.size) (Nat.le_refl _)).mono ?_
    rintro e w9 ⟨rfl, hb9⟩
    have b29 : Below w2.heap.size w2 w9 := b28.trans (hb9.mono b28.size)
    have HG9 := Lib.hid (HG8.out.on hb9)
    go_wp2_with fail
    refine (lMarkSS w3.heap.size v es 1 w9 (by omega) (by omega) (by omega) HSM.out HG9.out (by have := b29.size; have := hb3.size; have := hb4.size; have := h14.size; have := hb9.size; exact Nat.le_trans b37.size (Nat.le_trans hsz78 hb9.size))).mono ?_
    rintro e w10 ⟨rfl, hx10, hg10⟩
    have b210 : Below w2.heap.size w2 w10 := b29.trans (hg10.mono hb3.size)
    have h110 : Below w.heap.size w w10 := h12.trans (b210.mono h12.size)
    have HSMM := Lib.hid (mkE_small 1 (by omega) HSM.out (by omega))
    have HM10 := Lib.hid (SsRd.of_own hx10 HSMM.out)
    clear hg10 hx10
    go_wp2_with fail
    refine (lHeldSS w10.heap.size v es 1 w10 (by omega) (by omega) (by omega) HSM.out HM10.out (Nat.le_refl _)).mono ?_
    rintro e w10' ⟨rfl, hb10⟩
    have b210' := b210.trans (hb10.mono b210.size)
    have h110' := h110.trans (hb10.mono h110.size)
    have HM10' := Lib.hid ((HM10.out.on hb10).more hb10.size)
    go_wp2_with fail
    refine (lToCellS_any w.heap.size n cap a l w10' hn (HC.out.on h110') h110'.size).mono ?_
    rintro e w11 ⟨rfl, hown11, hb11⟩
    have HA11 := Lib.hid (CellsAt.of_own hown11 HC.out.2.1)
    clear hown11
    go_wp2_with fail
    refine (HIM.out w11.heap.size n n _ w11 hn4 HA11.out (Nat.le_refl _)).mono ?_
    rintro e w12 ⟨v2, es2, rfl, hes12, hsm12, hown12, hb12⟩
    have b1012 : Below w10'.heap.size w10' w12 := hb11.trans (hb12.mono hb11.size)
    have b212 : Below w2.heap.size w2 w12 := b210'.trans (b1012.mono b210'.size)
    have HH12 := Lib.hid (show SsRd w12.heap.size w12 v2 L from by have := SsRd.of_own hown12 hsm12; rwa [hes12] at this)
    have HW12 := Lib.hid (HW2.out.on b212)
    clear hown12 hes12 hsm12
    go_wp2_with fail
    refine (lEqSS w12.heap.size v2 _ L w12 hz4 HH12.out (HW12.out.more b212.size) (Nat.le_refl _)).mono ?_
    rintro e w13 ⟨rfl, hb13⟩
    have b1013 : Below w10'.heap.size w10' w13 := b1012.trans (hb13.mono b1012.size)
    have HM13 := Lib.hid ((HM10'.out.on b1013).more b1013.size)
    go_wp2_with fail
    refine (lHeldSS w13.heap.size v es 1 w13 (by omega) (by omega) (by omega) HSM.out HM13.out (Nat.le_refl _)).mono ?_
    rintro e w14 ⟨rfl, hb14⟩
    go_wp2
    go_ret
    exact ⟨rfl, h110'.trans ((b1013.trans (hb14.mono b1013.size)).mono h110'.size)⟩
end

section
open Go.RowKit

set_option maxHeartbeats 2000000 in
theorem walk_FixedShapes (z : Int) (w : World) (L : List (List Cl)) (hs8 : L.length ≤ 6144) (hLE : ∀ x ∈ L, x.length ≤ 8)
    (hS : ∀ w : World, Calls Try.prog 40 #[.int .i64 z] w (GivesSs w L))
    (hI : ∀ w : World, Calls Try.prog 41 #[.int .i64 z] w (GivesS w L)) :
    Calls Try.prog 12 #[.int .i64 z] w fun e w' => e = .returned (.bool true) ∧ Below w.heap.size w w' := by
  have HLE := Lib.hid hLE
  have HSP := Lib.hid hS
  have HIM := Lib.hid hI
  clear hLE hS hI
  have hz4 : L.length ≤ 4194304 := by omega
  go_enter Try.func12, Try.ntmps12
  go_wp2_with fail
  refine (HSP.out w).mono ?_
  rintro e w2 ⟨gw, cw, vs2, rfl, _, hown2, hb2⟩
  have HW2 := Lib.hid (SsRd.of_at (cap := cw) hown2)
  clear hown2
  go_wp2_with fail
  refine (HIM.out w2).mono ?_
  rintro e w4 ⟨v, es, rfl, hes4, hsm4, hown4, hb4⟩
  have HES := Lib.hid hes4
  have HSM := Lib.hid hsm4
  have hel : es.length ≤ 6144 := by have := congrArg List.length hes4; rw [List.length_map] at this; omega
  have htot := tot_le8 es (fun e he => HLE.out _ (by rw [← hes4]; exact List.mem_map_of_mem he))
  have hk2 : ¬ ((1 : Int) + 2 * (totE es : Int) < 0) := by omega
  have hk3 : (((1 : Int) + 2 * (totE es : Int)) != (1 + 2 * (totE es : Int))) = false := by simp
  clear hes4 hsm4
  have HGC4 := Lib.hid (show SsRd w4.heap.size w4 v L from by have := SsRd.of_own hown4 HSM.out; rwa [HES.out] at this)
  have HG4 := Lib.hid hown4
  have HW4 := Lib.hid (HW2.out.on hb4)
  clear hown4
  go_wp2_with fail
  refine (lEqSS w4.heap.size v _ L w4 hz4 HGC4.out (HW4.out.more hb4.size) (Nat.le_refl _)).mono ?_
  rintro e w9 ⟨rfl, hb9⟩
  have b29 : Below w2.heap.size w2 w9 := hb4.trans (hb9.mono hb4.size)
  have HG9 := Lib.hid (HG4.out.on hb9)
  go_wp2_with fail
  refine (lMarkSS w2.heap.size v es 1 w9 (by omega) (by omega) (by omega) HSM.out HG9.out b29.size).mono ?_
  rintro e w10 ⟨rfl, hx10, hb10⟩
  have b210 : Below w2.heap.size w2 w10 := b29.trans hb10
  have h110 : Below w.heap.size w w10 := hb2.trans (b210.mono hb2.size)
  have HSMM := Lib.hid (mkE_small 1 (by omega) HSM.out (by omega))
  have HM10 := Lib.hid (SsRd.of_own hx10 HSMM.out)
  clear hx10
  go_wp2_with fail
  refine (lHeldSS w10.heap.size v es 1 w10 (by omega) (by omega) (by omega) HSM.out HM10.out (Nat.le_refl _)).mono ?_
  rintro e w10' ⟨rfl, hb10'⟩
  have b210' := b210.trans (hb10'.mono b210.size)
  have h110' := h110.trans (hb10'.mono h110.size)
  have HM10' := Lib.hid ((HM10.out.on hb10').more hb10'.size)
  go_wp2_with fail
  refine (HIM.out w10').mono ?_
  rintro e w12 ⟨v2, es2, rfl, hes12, hsm12, hown12, hb12⟩
  have b212 : Below w2.heap.size w2 w12 := b210'.trans (hb12.mono b210'.size)
  have HH12 := Lib.hid (show SsRd w12.heap.size w12 v2 L from by have := SsRd.of_own hown12 hsm12; rwa [hes12] at this)
  have HW12 := Lib.hid (HW2.out.on b212)
  clear hown12 hes12 hsm12
  go_wp2_with fail
  refine (lEqSS w12.heap.size v2 _ L w12 hz4 HH12.out (HW12.out.more b212.size) (Nat.le_refl _)).mono ?_
  rintro e w13 ⟨rfl, hb13⟩
  have b1013 : Below w10'.heap.size w10' w13 := hb12.trans (hb13.mono hb12.size)
  have HM13 := Lib.hid ((HM10'.out.on b1013).more b1013.size)
  go_wp2_with fail
  refine (lHeldSS w13.heap.size v es 1 w13 (by omega) (by omega) (by omega) HSM.out HM13.out (Nat.le_refl _)).mono ?_
  rintro e w14 ⟨rfl, hb14⟩
  go_wp2
  go_ret
  exact ⟨rfl, h110'.trans ((b1013.trans (hb14.mono b1013.size)).mono h110'.size)⟩

set_option maxHeartbeats 2000000 in
theorem walk_OneSidedShapes (z : Int) (w : World) (L : List (List Cl)) (hs8 : L.length ≤ 6144) (hLE : ∀ x ∈ L, x.length ≤ 8)
    (hS : ∀ w : World, Calls Try.prog 45 #[.int .i64 z] w (GivesSs w L))
    (hI : ∀ w : World, Calls Try.prog 46 #[.int .i64 z] w (GivesS w L)) :
    Calls Try.prog 13 #[.int .i64 z] w fun e w' => e = .returned (.bool true) ∧ Below w.heap.size w w' := by
  have HLE := Lib.hid hLE
  have HSP := Lib.hid hS
  have HIM := Lib.hid hI
  clear hLE hS hI
  have hz4 : L.length ≤ 4194304 := by omega
  go_enter Try.func13, Try.ntmps13
  go_wp2_with fail
  refine (HSP.out w).mono ?_
  rintro e w2 ⟨gw, cw, vs2, rfl, _, hown2, hb2⟩
  have HW2 := Lib.hid (SsRd.of_at (cap := cw) hown2)
  clear hown2
  go_wp2_with fail
  refine (HIM.out w2).mono ?_
  rintro e w4 ⟨v, es, rfl, hes4, hsm4, hown4, hb4⟩
  have HES := Lib.hid hes4
  have HSM := Lib.hid hsm4
  have hel : es.length ≤ 6144 := by have := congrArg List.length hes4; rw [List.length_map] at this; omega
  have htot := tot_le8 es (fun e he => HLE.out _ (by rw [← hes4]; exact List.mem_map_of_mem he))
  have hk2 : ¬ ((1 : Int) + 2 * (totE es : Int) < 0) := by omega
  have hk3 : (((1 : Int) + 2 * (totE es : Int)) != (1 + 2 * (totE es : Int))) = false := by simp
  clear hes4 hsm4
  have HGC4 := Lib.hid (show SsRd w4.heap.size w4 v L from by have := SsRd.of_own hown4 HSM.out; rwa [HES.out] at this)
  have HG4 := Lib.hid hown4
  have HW4 := Lib.hid (HW2.out.on hb4)
  clear hown4
  go_wp2_with fail
  refine (lEqSS w4.heap.size v _ L w4 hz4 HGC4.out (HW4.out.more hb4.size) (Nat.le_refl _)).mono ?_
  rintro e w9 ⟨rfl, hb9⟩
  have b29 : Below w2.heap.size w2 w9 := hb4.trans (hb9.mono hb4.size)
  have HG9 := Lib.hid (HG4.out.on hb9)
  go_wp2_with fail
  refine (lMarkSS w2.heap.size v es 1 w9 (by omega) (by omega) (by omega) HSM.out HG9.out b29.size).mono ?_
  rintro e w10 ⟨rfl, hx10, hb10⟩
  have b210 : Below w2.heap.size w2 w10 := b29.trans hb10
  have h110 : Below w.heap.size w w10 := hb2.trans (b210.mono hb2.size)
  have HSMM := Lib.hid (mkE_small 1 (by omega) HSM.out (by omega))
  have HM10 := Lib.hid (SsRd.of_own hx10 HSMM.out)
  clear hx10
  go_wp2_with fail
  refine (lHeldSS w10.heap.size v es 1 w10 (by omega) (by omega) (by omega) HSM.out HM10.out (Nat.le_refl _)).mono ?_
  rintro e w10' ⟨rfl, hb10'⟩
  have b210' := b210.trans (hb10'.mono b210.size)
  have h110' := h110.trans (hb10'.mono h110.size)
  have HM10' := Lib.hid ((HM10.out.on hb10').more hb10'.size)
  go_wp2_with fail
  refine (HIM.out w10').mono ?_
  rintro e w12 ⟨v2, es2, rfl, hes12, hsm12, hown12, hb12⟩
  have b212 : Below w2.heap.size w2 w12 := b210'.trans (hb12.mono b210'.size)
  have HH12 := Lib.hid (show SsRd w12.heap.size w12 v2 L from by have := SsRd.of_own hown12 hsm12; rwa [hes12] at this)
  have HW12 := Lib.hid (HW2.out.on b212)
  clear hown12 hes12 hsm12
  go_wp2_with fail
  refine (lEqSS w12.heap.size v2 _ L w12 hz4 HH12.out (HW12.out.more b212.size) (Nat.le_refl _)).mono ?_
  rintro e w13 ⟨rfl, hb13⟩
  have b1013 : Below w10'.heap.size w10' w13 := hb12.trans (hb13.mono hb12.size)
  have HM13 := Lib.hid ((HM10'.out.on b1013).more b1013.size)
  go_wp2_with fail
  refine (lHeldSS w13.heap.size v es 1 w13 (by omega) (by omega) (by omega) HSM.out HM13.out (Nat.le_refl _)).mono ?_
  rintro e w14 ⟨rfl, hb14⟩
  go_wp2
  go_ret
  exact ⟨rfl, h110'.trans ((b1013.trans (hb14.mono b1013.size)).mono h110'.size)⟩

set_option maxHeartbeats 2000000 in
theorem walk_FreeShapes (z : Int) (w : World) (L : List (List Cl)) (hs8 : L.length ≤ 6144) (hLE : ∀ x ∈ L, x.length ≤ 8)
    (hS : ∀ w : World, Calls Try.prog 47 #[.int .i64 z] w (GivesSs w L))
    (hI : ∀ w : World, Calls Try.prog 48 #[.int .i64 z] w (GivesS w L)) :
    Calls Try.prog 14 #[.int .i64 z] w fun e w' => e = .returned (.bool true) ∧ Below w.heap.size w w' := by
  have HLE := Lib.hid hLE
  have HSP := Lib.hid hS
  have HIM := Lib.hid hI
  clear hLE hS hI
  have hz4 : L.length ≤ 4194304 := by omega
  go_enter Try.func14, Try.ntmps14
  go_wp2_with fail
  refine (HSP.out w).mono ?_
  rintro e w2 ⟨gw, cw, vs2, rfl, _, hown2, hb2⟩
  have HW2 := Lib.hid (SsRd.of_at (cap := cw) hown2)
  clear hown2
  go_wp2_with fail
  refine (HIM.out w2).mono ?_
  rintro e w4 ⟨v, es, rfl, hes4, hsm4, hown4, hb4⟩
  have HES := Lib.hid hes4
  have HSM := Lib.hid hsm4
  have hel : es.length ≤ 6144 := by have := congrArg List.length hes4; rw [List.length_map] at this; omega
  have htot := tot_le8 es (fun e he => HLE.out _ (by rw [← hes4]; exact List.mem_map_of_mem he))
  have hk2 : ¬ ((1 : Int) + 2 * (totE es : Int) < 0) := by omega
  have hk3 : (((1 : Int) + 2 * (totE es : Int)) != (1 + 2 * (totE es : Int))) = false := by simp
  clear hes4 hsm4
  have HGC4 := Lib.hid (show SsRd w4.heap.size w4 v L from by have := SsRd.of_own hown4 HSM.out; rwa [HES.out] at this)
  have HG4 := Lib.hid hown4
  have HW4 := Lib.hid (HW2.out.on hb4)
  clear hown4
  go_wp2_with fail
  refine (lEqSS w4.heap.size v _ L w4 hz4 HGC4.out (HW4.out.more hb4.size) (Nat.le_refl _)).mono ?_
  rintro e w9 ⟨rfl, hb9⟩
  have b29 : Below w2.heap.size w2 w9 := hb4.trans (hb9.mono hb4.size)
  have HG9 := Lib.hid (HG4.out.on hb9)
  go_wp2_with fail
  refine (lMarkSS w2.heap.size v es 1 w9 (by omega) (by omega) (by omega) HSM.out HG9.out b29.size).mono ?_
  rintro e w10 ⟨rfl, hx10, hb10⟩
  have b210 : Below w2.heap.size w2 w10 := b29.trans hb10
  have h110 : Below w.heap.size w w10 := hb2.trans (b210.mono hb2.size)
  have HSMM := Lib.hid (mkE_small 1 (by omega) HSM.out (by omega))
  have HM10 := Lib.hid (SsRd.of_own hx10 HSMM.out)
  clear hx10
  go_wp2_with fail
  refine (lHeldSS w10.heap.size v es 1 w10 (by omega) (by omega) (by omega) HSM.out HM10.out (Nat.le_refl _)).mono ?_
  rintro e w10' ⟨rfl, hb10'⟩
  have b210' := b210.trans (hb10'.mono b210.size)
  have h110' := h110.trans (hb10'.mono h110.size)
  have HM10' := Lib.hid ((HM10.out.on hb10').more hb10'.size)
  go_wp2_with fail
  refine (HIM.out w10').mono ?_
  rintro e w12 ⟨v2, es2, rfl, hes12, hsm12, hown12, hb12⟩
  have b212 : Below w2.heap.size w2 w12 := b210'.trans (hb12.mono b210'.size)
  have HH12 := Lib.hid (show SsRd w12.heap.size w12 v2 L from by have := SsRd.of_own hown12 hsm12; rwa [hes12] at this)
  have HW12 := Lib.hid (HW2.out.on b212)
  clear hown12 hes12 hsm12
  go_wp2_with fail
  refine (lEqSS w12.heap.size v2 _ L w12 hz4 HH12.out (HW12.out.more b212.size) (Nat.le_refl _)).mono ?_
  rintro e w13 ⟨rfl, hb13⟩
  have b1013 : Below w10'.heap.size w10' w13 := hb12.trans (hb13.mono hb12.size)
  have HM13 := Lib.hid ((HM10'.out.on b1013).more b1013.size)
  go_wp2_with fail
  refine (lHeldSS w13.heap.size v es 1 w13 (by omega) (by omega) (by omega) HSM.out HM13.out (Nat.le_refl _)).mono ?_
  rintro e w14 ⟨rfl, hb14⟩
  go_wp2
  go_ret
  exact ⟨rfl, h110'.trans ((b1013.trans (hb14.mono b1013.size)).mono h110'.size)⟩

theorem walk_CountFree (z r : Int) (w : World)
    (hS : ∀ w : World, Calls Try.prog 49 #[.int .i64 z] w fun e w' => e = .returned (.int .i64 r) ∧ Below w.heap.size w w')
    (hI : ∀ w : World, Calls Try.prog 50 #[.int .i64 z] w fun e w' => e = .returned (.int .i64 r) ∧ Below w.heap.size w w') :
    Calls Try.prog 15 #[.int .i64 z] w fun e w' => e = .returned (.bool true) ∧ Below w.heap.size w w' := by
  have HSP := Lib.hid hS
  have HIM := Lib.hid hI
  clear hS hI
  have hrr : (r != r) = false := by simp
  go_enter Try.func15, Try.ntmps15
  go_wp2_with fail
  refine (HSP.out w).mono ?_
  rintro e w2 ⟨rfl, hb2⟩
  go_wp2_with fail
  refine (HIM.out w2).mono ?_
  rintro e w4 ⟨rfl, hb4⟩
  go_wp2
  go_ret
  exact ⟨rfl, hb2.trans (hb4.mono hb2.size)⟩
end

section
open Go.RowKit

theorem shape_le8 {x : List Cl} (h : isShape x = true) : x.length ≤ 8 := ((isShape_iff x).1 h).1.2
theorem first_le (m : Nat) (z : Int) : (firstS m z).length ≤ 6144 := Nat.le_trans (List.length_filter_le _ _) (fixS_bd z)
theorem first_shape {m : Nat} {z : Int} {x : List Cl} (h : x ∈ firstS m z) : isShape x = true := (fixS_shape (List.mem_filter.1 h).1).1

theorem law_ExtensionsOf (a : Option Addr) (n cap : Nat) (l : List Cl) (w : World) (hc : CellsAt w.heap.size w a n l) (hm : n ≤ maxLen) :
    Calls Try.prog 16 #[.slice a n cap] w fun e w' => e = .returned (.bool true) ∧ Below w.heap.size w w' :=
  walk_ExtensionsOf a n cap l w (extS l) (extS_le l) (fun _ h => shape_le8 (extS_shape h)) (fun B n cap a w hn hc hB => sExtend B n cap a l w hn hc hB) (fun B n cap a w hn hc hB => iExtOf B n cap a l w hn hc hB) hc hm
theorem law_FixedShapes (z : Int) (_ : (Lit.int .i64 z).wf = true) (w : World) :
    Calls Try.prog 12 #[.int .i64 z] w fun e w' => e = .returned (.bool true) ∧ Below w.heap.size w w' :=
  walk_FixedShapes z w (fixS z) (fixS_bd z) (fun _ h => shape_le8 (fixS_shape h).1) (fun w => sFixed z w) (fun w => iFixed z w)
theorem law_OneSidedShapes (z : Int) (_ : (Lit.int .i64 z).wf = true) (w : World) :
    Calls Try.prog 13 #[.int .i64 z] w fun e w' => e = .returned (.bool true) ∧ Below w.heap.size w w' :=
  walk_OneSidedShapes z w (firstS 4 z) (first_le 4 z) (fun _ h => shape_le8 (first_shape h)) (fun w => sOneSided z w) (fun w => iOneSided z w)
theorem law_FreeShapes (z : Int) (_ : (Lit.int .i64 z).wf = true) (w : World) :
    Calls Try.prog 14 #[.int .i64 z] w fun e w' => e = .returned (.bool true) ∧ Below w.heap.size w w' :=
  walk_FreeShapes z w (firstS 8 z) (first_le 8 z) (fun _ h => shape_le8 (first_shape h)) (fun w => sFree z w) (fun w => iFree z w)
theorem law_CountFree (z : Int) (_ : (Lit.int .i64 z).wf = true) (w : World) :
    Calls Try.prog 15 #[.int .i64 z] w fun e w' => e = .returned (.bool true) ∧ Below w.heap.size w w' :=
  walk_CountFree z (countS z) w (fun w => sCountFree z w) (fun w => iCountFree z w)
end

end Go.Proofs.Ythnapikklolgcaa
