/-
  A shape as a text, in the program: what the call gives.
-/
import Derived.Test.YtecfabhpjihcbaaGreatDoorIan
import Derived.Test.YtecfabhpjihcbaaGreatDoorFmt
import Derived.Test.YtecfabhpjihcbaaGreatDoorShelf
namespace Go.Proofs.YtecfabhpjihcbaaGreatDoor
open Go.RowKit

theorem repeat_one (x : UInt8) (c : Nat) : Lib.repeatL [x] c = List.replicate c x := by
  have := Lib.repeatL_replicate x 1 c
  rw [Nat.mul_one] at this
  exact this
/-- A row of cells stays while a builder writes. -/
theorem own_others {w w' : World} {B n : Nat} {v : Value} {xs : List Value} {b : Nat} (h : w.ownsRow B 34 2 v n xs) (ho : Lib.OthersKept 5 (some b) w w') (hne : v.ownBlock ≠ some b) : w'.ownsRow B 34 2 v n xs := by
  refine ⟨h.1, ?_⟩
  rcases h.2 with h1 | ⟨g, cap, cur, rfl, hb, hg, hr⟩
  · exact .inl h1
  · refine .inr ⟨g, cap, cur, rfl, hb, ?_, hr⟩
    refine ho g _ hg ?_ ?_
    · intro e; exact hne (by simpa [Value.ownBlock] using e)
    · intro c fz e
      injection e with _ e2 _
      cases e2
theorem Two.others {w w' : World} {g : Nat} {x y : Int} {b : Nat} (h : Two w g x y) (ho : Lib.OthersKept 5 (some b) w w') (hne : g ≠ b) : Two w' g x y := by
  refine ho g _ h ?_ ?_
  · intro e; exact hne (Option.some.inj e)
  · intro c fz e
    injection e with _ e2 _
    cases e2
abbrev Bld (B b : Nat) (t : List UInt8) (w : World) : Prop := Lib.IsBuilderF 53 5 B b (Lib.byteCells t) w
theorem Bld.of {B b : Nat} {t u : List UInt8} {w : World} (h : Lib.BuilderAtF 53 5 B b (.pointer (some ⟨b, 0, none⟩)) (Lib.byteCells t ++ Lib.byteCells u) w) : Bld B b (t ++ u) w := by
  unfold Bld
  rw [Lib.byteCells_append]
  exact .inr h

theorem iRep (x : UInt8) (d : Nat) (w : World) (hd : d ≤ 1000) : Calls Tryz.prog 34 #[.string ⟨#[x]⟩, .int .i64 d] w fun e w' => e = .returned (S (List.replicate d x)) ∧ Below w.heap.size w w' := by
  have h := Tryz.strings_Repeat ⟨#[x]⟩ d w (by omega) (by show 1 * d ≤ _; omega)
  have e : Lib.repeatL (ByteArray.mk #[x]).data.toList d = List.replicate d x := repeat_one x d
  rw [e] at h
  exact h
theorem iWrs (B b : Nat) (t u : List UInt8) (w : World) (h : Bld B b t w) (hl : t.length + u.length ≤ 100000) (hB : B ≤ w.heap.size) :
    Calls Tryz.prog 33 #[.pointer (some ⟨b, 0, none⟩), S u] w fun e w' => (∃ r, e = .returned r) ∧ Bld B b (t ++ u) w' ∧ Below B w w' ∧ Lib.OthersKept 5 (some b) w w' :=
  (Tryz.Builder_WriteString_k B b (Lib.byteCells t) ⟨u.toArray⟩ w h (by rw [Lib.byteCells_length]; show t.length + u.toArray.size ≤ _; simp; omega) hB).mono fun _ _ ⟨he, h1, h2, h3⟩ => ⟨⟨_, he⟩, Bld.of (by simpa [Lib.strCells_eq] using h1), h2, h3⟩
theorem iWrb (B b : Nat) (t : List UInt8) (w : World) (h : Bld B b t w) (hl : t.length ≤ 100000) (hB : B ≤ w.heap.size) :
    Calls Tryz.prog 35 #[.pointer (some ⟨b, 0, none⟩), .int .u8 35] w fun e w' => (∃ r, e = .returned r) ∧ Bld B b (t ++ [35]) w' ∧ Below B w w' ∧ Lib.OthersKept 5 (some b) w w' :=
  (Tryz.Builder_WriteByte_k B b (Lib.byteCells t) 35 w h (by rw [Lib.byteCells_length]; omega) hB).mono fun _ _ ⟨he, h1, h2, h3⟩ => ⟨⟨_, he⟩, Bld.of (u := [35]) h1, h2, h3⟩
theorem iStr (B b : Nat) (t : List UInt8) (w : World) (h : Bld B b t w) (hB : B ≤ w.heap.size) :
    Calls Tryz.prog 36 #[.pointer (some ⟨b, 0, none⟩)] w fun e w' => e = .returned (S t) ∧ Below B w w' :=
  (Tryz.Builder_String_any_k B b t w h hB).mono fun _ _ ⟨he, _, h2, _⟩ => ⟨he, h2⟩
theorem bld_new (w : World) : Bld w.heap.size w.heap.size [] (w.alloc (.cells #[.pointer none, .slice none 0 0] 53)) :=
  .inl ⟨Nat.le_refl _, _, heap_alloc_new _ _, ⟨rfl, .inl ⟨rfl, rfl⟩⟩, by intro e; cases e⟩
theorem Bld.on {B b B' : Nat} {t : List UInt8} {w w' : World} (h : Bld B b t w) (hb : Below B' w w') (hlt : B' = w.heap.size) : Bld B b t w' := by
  subst hlt
  have key : ∀ p, Lib.BuilderAtF 53 5 B b p (Lib.byteCells t) w → Lib.BuilderAtF 53 5 B b p (Lib.byteCells t) w' := by
    intro p h1
    have hl := h1.lt
    obtain ⟨k1, v, k2, k3, k4⟩ := h1
    refine ⟨k1, v, (hb.block b hl).trans k2, ⟨k3.1, ?_⟩, k4⟩
    rcases k3.2 with e | ⟨g, cap, cur, fz, e1, e2, e3, e4⟩
    · exact .inl e
    · exact .inr ⟨g, cap, cur, fz, e1, e2, (hb.block g (Array.getElem?_eq_some_iff.1 e3).1).trans e3, e4⟩
  exact h.imp (key _) (key _)
theorem cornS_is {l : List Cl} (h : 0 < (cornS l).length) : isShape (cornS l) = true := by
  cases hs : isShape l with
  | true => exact cornS_shape hs
  | false => rw [cornS_no hs] at h; cases h

set_option maxHeartbeats 2000000 in
set_option maxRecDepth 100000 in
theorem iFmt (B n cap : Nat) (a : Option Addr) (l : List Cl) (w : World) (hn : n ≤ 4194304) (hc : CellsAt B w a n l) (hB : B ≤ w.heap.size) :
    Calls Tryz.prog 22 #[.slice a n cap] w fun e w' => e = .returned (S (fmtC l)) ∧ Below w.heap.size w w' := by
  have H := Lib.hid hc
  clear hc
  have HF := Lib.hid (show fmtC l = (fmtTo (cornS l) (cornS l).length).1 from rfl)
  have HCI := Lib.hid (@cornS_is l)
  have HIN := Lib.hid (fun c hc => inP_in (cornS_in l c hc))
  go_enter Tryz.func22, Tryz.ntmps22
  go_wp2_with fail
  have hb0 := (Below.refl w.heap.size w).alloc (Nat.le_refl _) (.cells #[.pointer none, .slice none 0 0] 53)
  have hbd0 := bld_new w
  refine (iCorner B n cap a l _ hn (H.out.on (hb0.mono hB)) (Nat.le_trans hB hb0.size)).mono ?_
  rintro e w1 ⟨v, rfl, hown, hb1⟩
  have hbd1 := hbd0.on hb1 rfl
  have hbw1 := hb0.trans (hb1.mono hb0.size)
  have HCL := Lib.hid (show cornS l = cornS l from rfl)
  have hm := cornS_len l
  have hob : v.ownBlock ≠ some w.heap.size := by
    rcases hown.2 with ⟨rfl, _⟩ | ⟨g, cc, cur, rfl, hge, _⟩
    · intro e; cases e
    · intro e
      have h9 : g = w.heap.size := Option.some.inj e
      simp at hge
      omega
  obtain ⟨ga, cc, rfl⟩ : ∃ ga cc, v = .slice ga (cornS l).length cc := by
    rcases hown.2 with ⟨rfl, h0⟩ | ⟨g, cc, cur, rfl, _⟩
    · exact ⟨none, 0, by rw [h0]⟩
    · exact ⟨_, cc, rfl⟩
  have hown1 := own_below hown hb0.size
  generalize hcl : cornS l = c at *
  obtain ⟨m, hm'⟩ : ∃ m, c.length = m := ⟨_, rfl⟩
  rw [hm'] at hown1 hm ⊢
  have HM := Lib.hid hm'
  clear hm' hown hb0 hbd0 hb1 hcl
  go_wp2
  go_loopw [4, 5, 11] (fun x y i wr => ∃ k : Nat, k ≤ m ∧ i = .int .i64 k ∧ x = .int .i64 (fmtTo c k).2.1 ∧ y = .int .i64 (fmtTo c k).2.2 ∧ Hid (Bld w.heap.size w.heap.size (fmtTo c k).1 wr) ∧ Hid (wr.ownsRow w.heap.size 34 2 (.slice ga m cc) m (cvs c)) ∧ Below w.heap.size w wr) (fun _ _ i _ => m - (intOf i).toNat)
  case atStart => exact ⟨0, by omega, rfl, rfl, rfl, hbd1, hown1, hbw1⟩
  case round =>
    obtain ⟨k, hk, rfl, rfl, rfl, hbd, hown, hb⟩ := hrel
    have hsz := hb.size
    clear hbd1 hown1 hbw1
    by_cases hlt : k < m
    · have hsh := HCI.out (by rw [HM.out]; omega)
      obtain ⟨x, y, hxy⟩ : ∃ x y, c.getD k (0, 0) = (x, y) := ⟨_, _, rfl⟩
      obtain ⟨⟨t0, x0, y0⟩, h0⟩ : ∃ s, fmtTo c k = s := ⟨_, rfl⟩
      have hnx := fmt_next hsh (by rw [HM.out]; exact hlt) h0 hxy
      rw [h0] at hbd ⊢
      obtain ⟨hbx, hnext⟩ := hnx
      have HNX := Lib.hid hnext
      have hca := CellsAt.of_own hown.out HIN.out
      obtain ⟨b1, o1, he, hb1', hc1⟩ := hca.2.2 (by omega)
      have p1 := (hc1 k hlt).1
      have p2 := (hc1 k hlt).2
      rw [hxy] at p1 p2
      subst he
      have hk0 : (0 : Int) ≤ (k : Int) := by omega
      have hk1 : (k : Int) < (m : Int) := by omega
      have HB := Lib.hid hb
      clear hxy hc1 hca h0 hnext hsh hb
      dsimp only at hbd ⊢
      obtain ⟨xn, rfl⟩ : ∃ n : Nat, x = n := ⟨x.toNat, by omega⟩
      have hobg : (wr.heap.size : Nat) ≠ w.heap.size := by have := hbd.out; rcases this with h | h <;> (have := h.lt; omega)
      have ha := HB.out.alloc hsz (.cells #[.int .i64 xn, .int .i64 y] 34)
      have TA : Two (wr.alloc (.cells #[.int .i64 xn, .int .i64 y] 34)) wr.heap.size xn y := Two.new _ y rfl
      have hbdA : Bld w.heap.size w.heap.size t0 (wr.alloc (.cells #[.int .i64 xn, .int .i64 y] 34)) := Lib.IsBuilderF.alloc hbd.out _
      have hownA := hown.out.alloc (.cells #[.int .i64 xn, .int .i64 y] 34)
      by_cases hy : y0 < y
      · obtain ⟨d, hd⟩ : ∃ d : Nat, y - y0 = d := ⟨(y - y0).toNat, by omega⟩
        go_wp2_with fail
        refine (iRep 47 d _ (by omega)).mono ?_
        rintro e w2 ⟨rfl, hb2⟩
        have T2 := TA.on hb2 TA.lt
        have hbd2 := hbdA.on hb2 rfl
        have hown2 := hownA.kept (grow_below hb2 none) (.inr (by intro e; cases e))
        have hbw2 := ha.trans (hb2.mono ha.size)
        clear TA hbdA hownA hb2 ha
        go_wp2_with fail
        refine (iWrs w.heap.size w.heap.size t0 (List.replicate d 47) _ hbd2 (by simp only [List.length_replicate]; omega) hbw2.size).mono ?_
        rintro e w3 ⟨⟨r3, rfl⟩, hbd3, hb3, ho3⟩
        have T3 := T2.others ho3 hobg
        have hown3 := own_others hown2 ho3 hob
        have hbw3 := hbw2.trans hb3
        have c1 := T3.c1
        clear T2 hbd2 hown2 hb3 ho3 hbw2
        go_wp2_with fail
        go_quiet (fail)
        have TW : Two (w3.drewN nq) wr.heap.size xn y := T3
        have hbdW : Bld w.heap.size w.heap.size (t0 ++ List.replicate d 47) (w3.drewN nq) := hbd3
        have hownW : (w3.drewN nq).ownsRow w.heap.size 34 2 (.slice (some ⟨b1, o1, none⟩) m cc) m (cvs c) := hown3
        have hbwW : Below w.heap.size w (w3.drewN nq) := below_drewn hbw3 nq
        have htl : (t0 ++ List.replicate d 47).length ≤ 1000 := by simp only [List.length_append, List.length_replicate]; omega
        clear T3 hbd3 hown3 hbw3 c1
        generalize w3.drewN nq = wz at *
        have c0 := TW.c0
        go_wp2_with fail
        refine (iRep 46 xn _ (by omega)).mono ?_
        rintro e w4 ⟨rfl, hb4⟩
        have T4 := TW.on hb4 TW.lt
        have hbd4 : Bld w.heap.size w.heap.size (t0 ++ List.replicate d 47) w4 := Bld.on (w := wz) hbdW hb4 rfl
        have hown4 := World.ownsRow.kept (w := wz) hownW (grow_below hb4 none) (.inr (by intro e; cases e))
        have hbw4 := hbwW.trans (hb4.mono hbwW.size)
        go_wp2_with fail
        refine (iWrs w.heap.size w.heap.size (t0 ++ List.replicate d 47) (List.replicate xn 46) _ hbd4 (by simp only [List.length_replicate]; omega) hbw4.size).mono ?_
        rintro e w5 ⟨⟨r5, rfl⟩, hbd5, hb5, ho5⟩
        have T5 := T4.others ho5 (by omega)
        have hown5 := own_others hown4 ho5 hob
        have hbw5 := hbw4.trans hb5
        have ht5 : ((t0 ++ List.replicate d 47) ++ List.replicate xn 46).length ≤ 4000 := by simp only [List.length_append, List.length_replicate]; omega
        clear T4 hbd4 hown4 hb4 hb5 ho5 hbw4
        go_wp2_with fail
        refine (iWrb w.heap.size w.heap.size ((t0 ++ List.replicate d 47) ++ List.replicate xn 46) _ hbd5 (by omega) hbw5.size).mono ?_
        rintro e w6 ⟨⟨r6, rfl⟩, hbd6, hb6, ho6⟩
        have T6 := T5.others ho6 (by omega)
        have hown6 := own_others hown5 ho6 hob
        have hbw6 := hbw5.trans hb6
        have d0 := T6.c0
        have HNE := Lib.hid (HNX.out.trans (by rw [if_pos hy, hd, Int.sub_zero, Int.toNat_natCast, Int.toNat_natCast]))
        have HE := Lib.hid (show _ ∧ _ ∧ _ from ⟨hbd6, hown6, hbw6⟩)
        clear T5 T6 hbd5 hown5 hb6 ho6 hbw5 hbd6 hown6 hbw6
        go_wp2
        go_roundw
        case rel => exact ⟨k + 1, by omega, by go_num, by rw [HNE.out], by rw [HNE.out], by rw [HNE.out]; exact HE.out.1, HE.out.2.1, HE.out.2.2⟩
        case measure => simp [intOf]; omega
      · obtain rfl : y = y0 := by omega
        obtain ⟨d, hd⟩ : ∃ d : Nat, (xn : Int) - x0 = d := ⟨((xn : Int) - x0).toNat, by omega⟩
        have htl : t0.length ≤ 1000 := by omega
        have TW := TA
        have hbdW := hbdA
        have hownW := hownA
        have hbwW := ha
        clear TA hbdA hownA ha
        go_wp2_with fail
        refine (iRep 46 d _ (by omega)).mono ?_
        rintro e w4 ⟨rfl, hb4⟩
        have T4 := TW.on hb4 TW.lt
        have hbd4 : Bld w.heap.size w.heap.size t0 w4 := Bld.on (w := wr.alloc (.cells #[.int .i64 xn, .int .i64 y] 34)) hbdW hb4 rfl
        have hown4 := World.ownsRow.kept (w := wr.alloc (.cells #[.int .i64 xn, .int .i64 y] 34)) hownW (grow_below hb4 none) (.inr (by intro e; cases e))
        have hbw4 := hbwW.trans (hb4.mono hbwW.size)
        go_wp2_with fail
        refine (iWrs w.heap.size w.heap.size t0 (List.replicate d 46) _ hbd4 (by simp only [List.length_replicate]; omega) hbw4.size).mono ?_
        rintro e w5 ⟨⟨r5, rfl⟩, hbd5, hb5, ho5⟩
        have T5 := T4.others ho5 (by omega)
        have hown5 := own_others hown4 ho5 hob
        have hbw5 := hbw4.trans hb5
        have ht5 : (t0 ++ List.replicate d 46).length ≤ 4000 := by simp only [List.length_append, List.length_replicate]; omega
        clear T4 hbd4 hown4 hb4 hb5 ho5 hbw4
        go_wp2_with fail
        refine (iWrb w.heap.size w.heap.size (t0 ++ List.replicate d 46) _ hbd5 (by omega) hbw5.size).mono ?_
        rintro e w6 ⟨⟨r6, rfl⟩, hbd6, hb6, ho6⟩
        have T6 := T5.others ho6 (by omega)
        have hown6 := own_others hown5 ho6 hob
        have hbw6 := hbw5.trans hb6
        have d0 := T6.c0
        have HNE := Lib.hid (show fmtTo c (k + 1) = (t0 ++ List.replicate d 46 ++ [35], (xn : Int) + 1, y) from HNX.out.trans (by rw [if_neg (by omega), hd, Int.sub_self]; simp))
        have HE := Lib.hid (show _ ∧ _ ∧ _ from ⟨hbd6, hown6, hbw6⟩)
        clear T5 T6 hbd5 hown5 hb6 ho6 hbw5 hbd6 hown6 hbw6
        go_wp2
        go_roundw
        case rel => exact ⟨k + 1, by omega, by go_num, by rw [HNE.out], by rw [HNE.out], by rw [HNE.out]; exact HE.out.1, HE.out.2.1, HE.out.2.2⟩
        case measure => simp [intOf]; omega
    · obtain rfl : k = m := by omega
      have e : fmtC l = (fmtTo c k).1 := by rw [HF.out, HM.out]
      have E := Lib.hid e
      clear e
      go_wp2_with fail
      refine (iStr w.heap.size w.heap.size (fmtTo c k).1 _ hbd.out hsz).mono ?_
      rintro e w7 ⟨rfl, hb7⟩
      have hb8 := hb.trans hb7
      go_wp2
      go_ret
      rw [E.out]
      exact ⟨rfl, hb8⟩

end Go.Proofs.YtecfabhpjihcbaaGreatDoor
