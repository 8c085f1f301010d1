/-
  A cell taken out of a region, in the model and in the program: what each call gives.
-/
import Derived.Test.YtcfioncnpfoccaaGreatDoorSr5
namespace Go.Proofs.YtcfioncnpfoccaaGreatDoor
open Go.RowKit

def remR (W : Int) (l : List Int) (x y : Int) : List Int := if cellB W l x y = true then clrB l (x, y) else l
theorem remR_yes {W : Int} {l : List Int} {x y : Int} (h : cellB W l x y = true) : remR W l x y = clrB l (x, y) := if_pos h
theorem remR_no {W : Int} {l : List Int} {x y : Int} (h : cellB W l x y = false) : remR W l x y = l := if_neg (by rw [h]; simp)
theorem remR_len (W : Int) (l : List Int) (x y : Int) : (remR W l x y).length = l.length := by
  unfold remR clrB
  split
  · rw [List.length_set]
  · rfl
/-- A cell of a region: where its row lies, which bit. -/
theorem cellB_out {W : Int} {l : List Int} {x y : Int} (h : cellB W l x y = true) : ∃ N u v : Nat, W = N ∧ x = u ∧ y = v ∧ Rg N l.length l ∧ u < N ∧ v < l.length ∧ (rN l v).testBit u = true := by
  unfold cellB at h
  rw [Bool.and_eq_true] at h
  obtain ⟨N, rfl, hr⟩ := isReg_out h.1
  have hb := hr.bt_in h.2
  refine ⟨N, x.toNat, y.toNat, rfl, by omega, by omega, hr, by omega, by omega, ?_⟩
  exact ((bt_iff _ _).1 h.2).2.2
theorem clr_at {l : List Int} {u v : Nat} : clrB l ((u : Int), (v : Int)) = l.set v ((clrN (rN l v) u : Nat) : Int) := by unfold clrB; simp
theorem set_at {l : List Int} {u v : Nat} : setB l ((u : Int), (v : Int)) = l.set v ((rN l v ||| 2 ^ u : Nat) : Int) := by unfold setB; simp
theorem clr_val {n x : Nat} (hn : n < 64) (hx : x < 6) (hb : n.testBit x = true) : wrap64 ((n : Int) - wrap64 ((2 : Int) ^ x)) = ((clrN n x : Nat) : Int) := by
  rw [pw64 x (by omega)]
  obtain ⟨m, hm, e⟩ := pw_nat x
  have h1 : ∀ n, n < 64 → ∀ x, x < 6 → n.testBit x = true → 2 ^ x ≤ n := by decide +kernel
  have h2 := h1 n hn x hx hb
  unfold clrN
  rw [if_pos hb, e]
  rw [hm] at h2 ⊢
  rw [show ((n - m : Nat) : Int) = (n : Int) - m by omega]
  exact IntWalk.wrap64_in _ (by omega)

set_option maxHeartbeats 2000000 in
set_option maxRecDepth 100000 in
theorem sRem (B n cap : Nat) (a : Option Addr) (W : Int) (l : List Int) (x y : Int) (w : World) (hn : n ≤ 1048576) (hc : IntsAt B w a n l) (hB : B ≤ w.heap.size) :
    Calls Tryz.prog 21 #[.agg #[.int .i64 W, .slice a n cap], .int .i64 x, .int .i64 y] w fun e w' => ∃ g cap', e = .returned (.tuple #[.agg #[.int .i64 W, .slice (some ⟨g, 0, none⟩) n cap'], .bool (cellB W l x y)]) ∧
      w'.ownsRow w.heap.size 3 1 (.slice (some ⟨g, 0, none⟩) n cap') n (iv (remR W l x y)) ∧ Below w.heap.size w w' := by
  have H := Lib.hid hc
  have hln := hc.1
  clear hc
  go_enter Tryz.func21, Tryz.ntmps21
  go_wp2_with fail
  have hbox := (RgAt.new (w := w) W (.slice a n cap) rfl).alloc (.cells #[.int .i64 0, .slice none 0 0] 26)
  have hres := RgAt.new (w := w.alloc (.cells #[.int .i64 W, .slice a n cap] 26)) (N := w.heap.size + 1) 0 (.slice none 0 0) (by simp)
  have hb := ((Below.refl w.heap.size w).alloc (Nat.le_refl _) (.cells #[.int .i64 W, .slice a n cap] 26)).alloc (by simp) (.cells #[.int .i64 0, .slice none 0 0] 26)
  have hsz : ((w.alloc (.cells #[.int .i64 W, .slice a n cap] 26)).alloc (.cells #[.int .i64 0, .slice none 0 0] 26)).heap.size = w.heap.size + 1 + 1 := by simp
  generalize ((w.alloc (.cells #[.int .i64 W, .slice a n cap] 26)).alloc (.cells #[.int .i64 0, .slice none 0 0] 26)) = W1 at *
  refine (sCopy B n cap a W l W1 hn (H.out.on (hb.mono hB)) (Nat.le_trans hB hb.size)).mono ?_
  rintro e w2 ⟨g, cp, rfl, hown, hb2⟩
  have hgl := hown.lt g rfl
  rw [hsz] at hown hgl
  have hbx2 := hbox.on hb2 hbox.lt
  have hrs2 := hres.on hb2 hres.lt
  have HB2 := Lib.hid (hb.trans (hb2.mono hb.size))
  have hsz2 := HB2.out.size
  clear hb hb2 hbox hres
  have hv3 := RgAt.new (w := w2) W (.slice (some ⟨g, 0, none⟩) n cp) rfl
  have hbx3 := hbx2.alloc (.cells #[.int .i64 W, .slice (some ⟨g, 0, none⟩) n cp] 26)
  have hrs3 := hrs2.alloc (.cells #[.int .i64 W, .slice (some ⟨g, 0, none⟩) n cp] 26)
  have hown3 := hown.alloc (.cells #[.int .i64 W, .slice (some ⟨g, 0, none⟩) n cp] 26)
  have HB3 := Lib.hid (HB2.out.alloc hsz2 (.cells #[.int .i64 W, .slice (some ⟨g, 0, none⟩) n cp] 26))
  have hsz3 : (w2.alloc (.cells #[.int .i64 W, .slice (some ⟨g, 0, none⟩) n cp] 26)).heap.size = w2.heap.size + 1 := by simp
  clear hbx2 hrs2 hown
  obtain ⟨vb, hvb⟩ : ∃ vb, w2.heap.size = vb := ⟨_, rfl⟩
  rw [hvb] at hv3 hsz3 hgl
  have hc0 := hbx3.c0
  have hc1 := hbx3.c1
  go_wp2_with fail
  generalize (w2.alloc (.cells #[.int .i64 W, .slice (some ⟨g, 0, none⟩) n cp] 26)) = w3 at *
  clear hc0 hc1
  refine (sInReg B n cap a W l x y w3 (by omega) (H.out.on (HB3.out.mono hB)) (Nat.le_trans hB HB3.out.size)).mono ?_
  rintro e w4 ⟨rfl, hb4⟩
  have hv4 := hv3.on hb4 hv3.lt
  have hrs4 := hrs3.on hb4 hrs3.lt
  have hown4 := hown3.kept (grow_below hb4 none) (.inr (by intro e; cases e))
  have HB4 := Lib.hid (HB3.out.trans (hb4.mono HB3.out.size))
  have HR4 := Lib.hid hrs4
  have v0 := hv4.c0
  have v1 := hv4.c1
  have q0 := hrs4.c0
  have q1 := hrs4.c1
  have q2 := hrs4.f 0
  have q3 := hrs4.f 1
  clear hb4 hv3 hrs3 hown3 hbx3 hrs4
  cases h : cellB W l x y with
  | false =>
    have HO4 := Lib.hid (show w4.ownsRow (w.heap.size + 1 + 1) 3 1 (.slice (some ⟨g, 0, none⟩) n cp) n (iv (remR W l x y)) from by rw [remR_no h]; exact hown4)
    have HF := Lib.hid h
    clear hown4 h
    go_wp2
    have R9 := HR4.out.set2 W (.slice (some ⟨g, 0, none⟩) n cp)
    have e0 := R9.c0
    have e1 := R9.c1
    have HO9 := Lib.hid (own_below (own_far (b := w.heap.size + 1) (o := 1) (u := .slice (some ⟨g, 0, none⟩) n cp) (own_far (b := w.heap.size + 1) (o := 0) (u := .int .i64 W) HO4.out (by omega)) (by omega)) (show w.heap.size ≤ w.heap.size + 1 + 1 by omega))
    have HB9 := Lib.hid ((HB4.out.setCell (p := ⟨w.heap.size + 1, 0, none⟩) (by show w.heap.size ≤ w.heap.size + 1; omega) (.int .i64 W)).setCell (p := ⟨w.heap.size + 1, 1, none⟩) (by show w.heap.size ≤ w.heap.size + 1; omega) (.slice (some ⟨g, 0, none⟩) n cp))
    generalize ((w4.setCell ⟨w.heap.size + 1, 0, none⟩ (.int .i64 W)).setCell ⟨w.heap.size + 1, 1, none⟩ (.slice (some ⟨g, 0, none⟩) n cp)) = w9 at *
    exact bodyPost_ret (v := .tuple #[.agg #[.int .i64 W, .slice (some ⟨g, 0, none⟩) n cp], .bool false]) (by simp [results, Tryz.results21, go_sem, e0, e1]) rfl ⟨_, _, by rw [HF.out], HO9.out, HB9.out⟩
  | true =>
    have HM := Lib.hid (remR_yes h)
    obtain ⟨N, u, v, rfl, rfl, rfl, hr, hu, hv, htb⟩ := cellB_out h
    have hnat := hr.nat hv
    have hx6 : u < 6 := by have := hr.w6; omega
    have hcv := clr_val hnat.2.2 hx6 htb
    have HF := Lib.hid h
    rw [hln] at hv
    have p1 := hown4.cellAt v (by omega)
    rw [iv_get _ _ (by rw [hln]; exact hv), hnat.1] at p1
    have p2 := hown4.frozenAt v
    have hs := hown4.stored v (.int .i64 ((clrN (rN l v) u : Nat) : Int))
    rw [iv_set, ← clr_at, ← HM.out] at hs
    have HS := Lib.hid hs
    obtain ⟨z, hz⟩ : ∃ z, rN l v = z := ⟨_, rfl⟩
    rw [hz] at hcv p1 HS
    obtain ⟨c, hcc⟩ : ∃ c, ((clrN z u : Nat) : Int) = c := ⟨_, rfl⟩
    rw [hcc] at hcv HS
    clear hs hown4 hr hnat htb hcc hz h
    have hv0 : (0 : Int) ≤ (v : Int) := by omega
    have hv1 : (v : Int) < (n : Int) := by omega
    have hgv : g ≠ vb := by omega
    go_wp2_with fail
    go_region
    have hv5 : RgAt (w4.setCell ⟨g, v, none⟩ (.int .i64 c)).drew vb N (.slice (some ⟨g, 0, none⟩) n cp) := RgAt.far (w := w4) hv4 hgv
    have hr5 : RgAt (w4.setCell ⟨g, v, none⟩ (.int .i64 c)).drew (w.heap.size + 1) 0 (.slice none 0 0) := RgAt.far (w := w4) HR4.out (by omega)
    have HO5 := Lib.hid (show (w4.setCell ⟨g, v, none⟩ (.int .i64 c)).drew.ownsRow (w.heap.size + 1 + 1) 3 1 (.slice (some ⟨g, 0, none⟩) n cp) n (iv (remR N l u v)) from HS.out.1)
    have HB5 := Lib.hid ((HB4.out.setCell (p := ⟨g, v, none⟩) (by show w.heap.size ≤ g; omega) (.int .i64 c)).drew)
    generalize (w4.setCell ⟨g, v, none⟩ (.int .i64 c)).drew = w5 at *
    have v0 := hv5.c0
    have v1 := hv5.c1
    have q0 := hr5.c0
    have q1 := hr5.c1
    have q2 := hr5.f 0
    have q3 := hr5.f 1
    clear HS HB4 HR4
    simp only [Exit.then]
    go_wp2
    have R9 := hr5.set2 N (.slice (some ⟨g, 0, none⟩) n cp)
    have e0 := R9.c0
    have e1 := R9.c1
    have HO9 := Lib.hid (own_below (own_far (b := w.heap.size + 1) (o := 1) (u := .slice (some ⟨g, 0, none⟩) n cp) (own_far (b := w.heap.size + 1) (o := 0) (u := .int .i64 N) HO5.out (by omega)) (by omega)) (show w.heap.size ≤ w.heap.size + 1 + 1 by omega))
    have HB9 := Lib.hid ((HB5.out.setCell (p := ⟨w.heap.size + 1, 0, none⟩) (by show w.heap.size ≤ w.heap.size + 1; omega) (.int .i64 N)).setCell (p := ⟨w.heap.size + 1, 1, none⟩) (by show w.heap.size ≤ w.heap.size + 1; omega) (.slice (some ⟨g, 0, none⟩) n cp))
    generalize ((w5.setCell ⟨w.heap.size + 1, 0, none⟩ (.int .i64 N)).setCell ⟨w.heap.size + 1, 1, none⟩ (.slice (some ⟨g, 0, none⟩) n cp)) = w9 at *
    exact bodyPost_ret (v := .tuple #[.agg #[.int .i64 N, .slice (some ⟨g, 0, none⟩) n cp], .bool true]) (by simp [results, Tryz.results21, go_sem, e0, e1]) rfl ⟨_, _, by rw [HF.out], HO9.out, HB9.out⟩

set_option maxHeartbeats 2000000 in
set_option maxRecDepth 100000 in
theorem iRem (B n cap : Nat) (a : Option Addr) (W : Int) (l : List Int) (x y : Int) (w : World) (hn : n ≤ 1048576) (hc : IntsAt B w a n l) (hB : B ≤ w.heap.size) :
    Calls Tryz.prog 20 #[.agg #[.int .i64 W, .slice a n cap], .int .i64 x, .int .i64 y] w fun e w' => ∃ g cap', e = .returned (.tuple #[.agg #[.int .i64 W, .slice (some ⟨g, 0, none⟩) n cap'], .bool (cellB W l x y)]) ∧
      w'.ownsRow w.heap.size 3 1 (.slice (some ⟨g, 0, none⟩) n cap') n (iv (remR W l x y)) ∧ Below w.heap.size w w' := by
  have H := Lib.hid hc
  have hln := hc.1
  clear hc
  go_enter Tryz.func20, Tryz.ntmps20
  go_wp2_with fail
  have hbox := (RgAt.new (w := w) W (.slice a n cap) rfl).alloc (.cells #[.int .i64 0, .slice none 0 0] 26)
  have hres := RgAt.new (w := w.alloc (.cells #[.int .i64 W, .slice a n cap] 26)) (N := w.heap.size + 1) 0 (.slice none 0 0) (by simp)
  have hb := ((Below.refl w.heap.size w).alloc (Nat.le_refl _) (.cells #[.int .i64 W, .slice a n cap] 26)).alloc (by simp) (.cells #[.int .i64 0, .slice none 0 0] 26)
  have hsz : ((w.alloc (.cells #[.int .i64 W, .slice a n cap] 26)).alloc (.cells #[.int .i64 0, .slice none 0 0] 26)).heap.size = w.heap.size + 1 + 1 := by simp
  generalize ((w.alloc (.cells #[.int .i64 W, .slice a n cap] 26)).alloc (.cells #[.int .i64 0, .slice none 0 0] 26)) = W1 at *
  refine (iCopy B n cap a W l W1 hn (H.out.on (hb.mono hB)) (Nat.le_trans hB hb.size)).mono ?_
  rintro e w2 ⟨g, rfl, hown, hb2⟩
  have hgl := hown.lt g rfl
  rw [hsz] at hown hgl
  have hbx2 := hbox.on hb2 hbox.lt
  have hrs2 := hres.on hb2 hres.lt
  have HB2 := Lib.hid (hb.trans (hb2.mono hb.size))
  have hsz2 := HB2.out.size
  clear hb hb2 hbox hres
  have hv3 := RgAt.new (w := w2) W (.slice (some ⟨g, 0, none⟩) n n) rfl
  have hbx3 := hbx2.alloc (.cells #[.int .i64 W, .slice (some ⟨g, 0, none⟩) n n] 26)
  have hrs3 := hrs2.alloc (.cells #[.int .i64 W, .slice (some ⟨g, 0, none⟩) n n] 26)
  have hown3 := hown.alloc (.cells #[.int .i64 W, .slice (some ⟨g, 0, none⟩) n n] 26)
  have HB3 := Lib.hid (HB2.out.alloc hsz2 (.cells #[.int .i64 W, .slice (some ⟨g, 0, none⟩) n n] 26))
  have hsz3 : (w2.alloc (.cells #[.int .i64 W, .slice (some ⟨g, 0, none⟩) n n] 26)).heap.size = w2.heap.size + 1 := by simp
  clear hbx2 hrs2 hown
  obtain ⟨vb, hvb⟩ : ∃ vb, w2.heap.size = vb := ⟨_, rfl⟩
  rw [hvb] at hv3 hsz3 hgl
  have hc0 := hbx3.c0
  have hc1 := hbx3.c1
  go_wp2_with fail
  generalize (w2.alloc (.cells #[.int .i64 W, .slice (some ⟨g, 0, none⟩) n n] 26)) = w3 at *
  clear hc0 hc1
  refine (iInReg B n cap a W l x y w3 (by omega) (H.out.on (HB3.out.mono hB)) (Nat.le_trans hB HB3.out.size)).mono ?_
  rintro e w4 ⟨rfl, hb4⟩
  have hv4 := hv3.on hb4 hv3.lt
  have hrs4 := hrs3.on hb4 hrs3.lt
  have hown4 := hown3.kept (grow_below hb4 none) (.inr (by intro e; cases e))
  have HB4 := Lib.hid (HB3.out.trans (hb4.mono HB3.out.size))
  have HR4 := Lib.hid hrs4
  have v0 := hv4.c0
  have v1 := hv4.c1
  have q0 := hrs4.c0
  have q1 := hrs4.c1
  have q2 := hrs4.f 0
  have q3 := hrs4.f 1
  clear hb4 hv3 hrs3 hown3 hbx3 hrs4
  cases h : cellB W l x y with
  | false =>
    have HO4 := Lib.hid (show w4.ownsRow (w.heap.size + 1 + 1) 3 1 (.slice (some ⟨g, 0, none⟩) n n) n (iv (remR W l x y)) from by rw [remR_no h]; exact hown4)
    have HF := Lib.hid h
    clear hown4 h
    go_wp2
    have R9 := HR4.out.set2 W (.slice (some ⟨g, 0, none⟩) n n)
    have e0 := R9.c0
    have e1 := R9.c1
    have HO9 := Lib.hid (own_below (own_far (b := w.heap.size + 1) (o := 1) (u := .slice (some ⟨g, 0, none⟩) n n) (own_far (b := w.heap.size + 1) (o := 0) (u := .int .i64 W) HO4.out (by omega)) (by omega)) (show w.heap.size ≤ w.heap.size + 1 + 1 by omega))
    have HB9 := Lib.hid ((HB4.out.setCell (p := ⟨w.heap.size + 1, 0, none⟩) (by show w.heap.size ≤ w.heap.size + 1; omega) (.int .i64 W)).setCell (p := ⟨w.heap.size + 1, 1, none⟩) (by show w.heap.size ≤ w.heap.size + 1; omega) (.slice (some ⟨g, 0, none⟩) n n))
    generalize ((w4.setCell ⟨w.heap.size + 1, 0, none⟩ (.int .i64 W)).setCell ⟨w.heap.size + 1, 1, none⟩ (.slice (some ⟨g, 0, none⟩) n n)) = w9 at *
    exact bodyPost_ret (v := .tuple #[.agg #[.int .i64 W, .slice (some ⟨g, 0, none⟩) n n], .bool false]) (by simp [results, Tryz.results20, go_sem, e0, e1]) rfl ⟨_, _, by rw [HF.out], HO9.out, HB9.out⟩
  | true =>
    have HM := Lib.hid (remR_yes h)
    obtain ⟨N, u, v, rfl, rfl, rfl, hr, hu, hv, htb⟩ := cellB_out h
    have hnat := hr.nat hv
    have hx6 : u < 6 := by have := hr.w6; omega
    have HF := Lib.hid h
    have hcv := andNot_val hnat.2.2 hx6
    rw [hln] at hv
    have p1 := hown4.cellAt v (by omega)
    rw [iv_get _ _ (by rw [hln]; exact hv), hnat.1] at p1
    have p2 := hown4.frozenAt v
    have hs := hown4.stored v (.int .i64 ((clrN (rN l v) u : Nat) : Int))
    rw [iv_set, ← clr_at, ← HM.out] at hs
    have HS := Lib.hid hs
    obtain ⟨z, hz⟩ : ∃ z, rN l v = z := ⟨_, rfl⟩
    rw [hz] at hcv p1 HS
    obtain ⟨c, hcc⟩ : ∃ c, ((clrN z u : Nat) : Int) = c := ⟨_, rfl⟩
    rw [hcc] at hcv HS
    have HCV := Lib.hid hcv
    clear hs hown4 hr hnat htb hcc hz h hcv
    have hv0 : (0 : Int) ≤ (v : Int) := by omega
    have hv1 : (v : Int) < (n : Int) := by omega
    have hgv : g ≠ vb := by omega
    go_wp2_with fail
    refine (iUnsC g v u z w4 p1 p2).mono ?_
    rintro e w5 ⟨rfl, q, rfl⟩
    rw [HCV.out]
    have hv5 : RgAt ((w4.setCell ⟨g, v, none⟩ (.int .i64 c)).drewN q) vb N (.slice (some ⟨g, 0, none⟩) n n) := RgAt.far (w := w4) hv4 hgv
    have hr5 : RgAt ((w4.setCell ⟨g, v, none⟩ (.int .i64 c)).drewN q) (w.heap.size + 1) 0 (.slice none 0 0) := RgAt.far (w := w4) HR4.out (by omega)
    have HO5 := Lib.hid (show ((w4.setCell ⟨g, v, none⟩ (.int .i64 c)).drewN q).ownsRow (w.heap.size + 1 + 1) 3 1 (.slice (some ⟨g, 0, none⟩) n n) n (iv (remR N l u v)) from HS.out.1)
    have HB5 := Lib.hid (below_drewn (HB4.out.setCell (p := ⟨g, v, none⟩) (by show w.heap.size ≤ g; omega) (.int .i64 c)) q)
    generalize ((w4.setCell ⟨g, v, none⟩ (.int .i64 c)).drewN q) = w5 at *
    have v0 := hv5.c0
    have v1 := hv5.c1
    have q0 := hr5.c0
    have q1 := hr5.c1
    have q2 := hr5.f 0
    have q3 := hr5.f 1
    clear HS HB4 HR4
    go_wp2
    have R9 := hr5.set2 N (.slice (some ⟨g, 0, none⟩) n n)
    have e0 := R9.c0
    have e1 := R9.c1
    have HO9 := Lib.hid (own_below (own_far (b := w.heap.size + 1) (o := 1) (u := .slice (some ⟨g, 0, none⟩) n n) (own_far (b := w.heap.size + 1) (o := 0) (u := .int .i64 N) HO5.out (by omega)) (by omega)) (show w.heap.size ≤ w.heap.size + 1 + 1 by omega))
    have HB9 := Lib.hid ((HB5.out.setCell (p := ⟨w.heap.size + 1, 0, none⟩) (by show w.heap.size ≤ w.heap.size + 1; omega) (.int .i64 N)).setCell (p := ⟨w.heap.size + 1, 1, none⟩) (by show w.heap.size ≤ w.heap.size + 1; omega) (.slice (some ⟨g, 0, none⟩) n n))
    generalize ((w5.setCell ⟨w.heap.size + 1, 0, none⟩ (.int .i64 N)).setCell ⟨w.heap.size + 1, 1, none⟩ (.slice (some ⟨g, 0, none⟩) n n)) = w9 at *
    exact bodyPost_ret (v := .tuple #[.agg #[.int .i64 N, .slice (some ⟨g, 0, none⟩) n n], .bool true]) (by simp [results, Tryz.results20, go_sem, e0, e1]) rfl ⟨_, _, by rw [HF.out], HO9.out, HB9.out⟩

end Go.Proofs.YtcfioncnpfoccaaGreatDoor
