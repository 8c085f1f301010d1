/-
  Rectangles, colours: in the model and in the program: what each call gives.
-/
import Derived.Test.YtcfioncnpfoccaaGreatDoorSr5
import Derived.Test.YtcfioncnpfoccaaGreatDoorSr2
import Derived.Test.YtcfioncnpfoccaaGreatDoorLwl
import Derived.Deep.AppendLies
namespace Go.Proofs.YtcfioncnpfoccaaGreatDoor
open Go.RowKit Go.Maps

def rectOk (w h : Int) : Bool := inb w 1 6 && inb h 1 6
def rectW (w h : Int) : Int := if rectOk w h = true then w else 0
def rectL (w h : Int) : List Int := if rectOk w h = true then List.replicate h.toNat ((2 : Int) ^ w.toNat - 1) else []
theorem rect_no {w h : Int} (e : rectOk w h = false) : rectW w h = 0 ∧ rectL w h = [] := ⟨if_neg (by rw [e]; simp), if_neg (by rw [e]; simp)⟩
theorem rect_yes {w h : Int} (e : rectOk w h = true) : rectW w h = w ∧ rectL w h = List.replicate h.toNat ((2 : Int) ^ w.toNat - 1) := ⟨if_pos e, if_pos e⟩
theorem rectL_len (w h : Int) : (rectL w h).length ≤ 6 := by
  cases e : rectOk w h with
  | false => rw [(rect_no e).2]; simp
  | true =>
    rw [(rect_yes e).2, List.length_replicate]
    simp [rectOk, inb] at e
    omega
theorem own_nil_i (w : World) (B : Nat) : w.ownsRow B 3 1 (.slice none 0 0) 0 (iv []) := ⟨rfl, .inl ⟨rfl, rfl⟩⟩
theorem full_w (N : Nat) (h : N ≤ 6) : IntKind.i64.wrap ((2 : Int) ^ N) = (2 : Int) ^ N ∧ IntKind.i64.wrap ((2 : Int) ^ N - 1) = (2 : Int) ^ N - 1 ∧ (2 : Int) ^ N - 1 < 64 ∧ 0 ≤ (2 : Int) ^ N - 1 := by
  have h1 : (2 : Nat) ^ N ≤ 2 ^ 6 := Nat.pow_le_pow_right (by omega) h
  have h2 : 0 < (2 : Nat) ^ N := Nat.pow_pos (by omega)
  obtain ⟨m, hm, e⟩ := pw_nat N
  rw [hm] at h1 h2
  rw [e]
  exact ⟨IntWalk.i64_in _ (by omega), IntWalk.i64_in _ (by omega), by omega, by omega⟩

theorem own_sl_i {w : World} {base n : Nat} {v : Value} {xs : List Value} (h : w.ownsRow base 3 1 v n xs) : ∃ a cap, v = .slice a n cap := by
  rcases h.2 with ⟨rfl, rfl⟩ | ⟨g, cap, cur, rfl, _⟩
  · exact ⟨_, _, rfl⟩
  · exact ⟨_, _, rfl⟩
theorem own_off {w : World} {base size n b o : Nat} {t : TypeId} {v u : Value} {xs : List Value} (h : w.ownsRow base t size v n xs) (hne : b < base) : (w.setCell ⟨b, o, none⟩ u).ownsRow base t size v n xs :=
  h.kept (grown_set1 w b o u) (by
    cases e : v.ownBlock with
    | none => exact .inl rfl
    | some k => exact .inr fun e2 => by have := (h.lt k e).1; injection e2 with e2; omega)
theorem rep_snoc_i (k : Nat) (F : Int) : List.replicate k F ++ [F] = List.replicate (k + 1) F := by rw [← List.replicate_succ']

set_option maxHeartbeats 2000000 in
set_option maxRecDepth 100000 in
theorem sRect (W H : Int) (w : World) :
    Calls Tryz.prog 29 #[.int .i64 W, .int .i64 H] w fun e w' => ∃ v, e = .returned (.tuple #[.agg #[.int .i64 (rectW W H), v], .bool (rectOk W H)]) ∧ w'.ownsRow w.heap.size 3 1 v (rectL W H).length (iv (rectL W H)) ∧ Below w.heap.size w w' := by
  obtain ⟨i0, hi, hz0, hz1, hz2⟩ := info_parts info_int
  have hres := RgAt.new (w := w) 0 (.slice none 0 0) rfl
  have hb := (Below.refl w.heap.size w).alloc (Nat.le_refl _) (.cells #[.int .i64 0, .slice none 0 0] 26)
  have hsz : (w.alloc (.cells #[.int .i64 0, .slice none 0 0] 26)).heap.size = w.heap.size + 1 := by simp
  cases h : rectOk W H with
  | false =>
    have HN := Lib.hid (rect_no h)
    rw [HN.out.1, HN.out.2]
    have h' := h
    unfold rectOk at h'
    go_enter Tryz.func29, Tryz.ntmps29
    go_wp2_with fail
    refine (sIn W 1 6 _).mono ?_
    rintro e w' ⟨rfl, rfl⟩
    have q0 := hres.c0
    have q1 := hres.c1
    have q2 := hres.f 0
    have q3 := hres.f 1
    generalize (w.alloc (.cells #[.int .i64 0, .slice none 0 0] 26)) = W1 at *
    have R9 := hres.set2 0 (.slice none 0 0)
    have e0 := R9.c0
    have e1 := R9.c1
    have HB9 := Lib.hid ((hb.setCell (p := ⟨w.heap.size, 0, none⟩) (Nat.le_refl _) (.int .i64 0)).setCell (p := ⟨w.heap.size, 1, none⟩) (Nat.le_refl _) (.slice none 0 0))
    cases h1 : inb W 1 6 with
    | false =>
      clear h h'
      go_wp2
      generalize ((W1.setCell ⟨w.heap.size, 0, none⟩ (.int .i64 0)).setCell ⟨w.heap.size, 1, none⟩ (.slice none 0 0)) = w9 at *
      exact bodyPost_ret (v := .tuple #[.agg #[.int .i64 0, .slice none 0 0], .bool false]) (by simp [results, Tryz.results29, go_sem, e0, e1]) rfl ⟨_, rfl, own_nil_i _ _, HB9.out⟩
    | true =>
      have h2 : inb H 1 6 = false := by rw [h1] at h'; simpa using h'
      clear h h'
      go_wp2_with fail
      refine (sIn H 1 6 _).mono ?_
      rintro e w' ⟨rfl, rfl⟩
      rw [h2]
      go_wp2
      generalize ((W1.setCell ⟨w.heap.size, 0, none⟩ (.int .i64 0)).setCell ⟨w.heap.size, 1, none⟩ (.slice none 0 0)) = w9 at *
      exact bodyPost_ret (v := .tuple #[.agg #[.int .i64 0, .slice none 0 0], .bool false]) (by simp [results, Tryz.results29, go_sem, e0, e1]) rfl ⟨_, rfl, own_nil_i _ _, HB9.out⟩
  | true =>
    have HN := Lib.hid (rect_yes h)
    rw [HN.out.1, HN.out.2]
    have h' := h
    unfold rectOk at h'
    rw [Bool.and_eq_true] at h'
    obtain ⟨h1, h2⟩ := h'
    have b1 := inb_out h1
    have b2 := inb_out h2
    obtain ⟨N, rfl⟩ : ∃ N : Nat, W = N := ⟨W.toNat, by omega⟩
    obtain ⟨M, rfl⟩ : ∃ M : Nat, H = M := ⟨H.toNat, by omega⟩
    rw [Int.toNat_natCast, Int.toNat_natCast]
    obtain ⟨hf1, hf2, hf3, hf4⟩ := full_w N (by omega)
    obtain ⟨F, hF⟩ : ∃ F, (2 : Int) ^ N - 1 = F := ⟨_, rfl⟩
    have HF := Lib.hid hF
    rw [hF] at hf2 hf3 hf4 ⊢
    clear h
    go_enter Tryz.func29, Tryz.ntmps29
    go_wp2_with fail
    refine (sIn N 1 6 _).mono ?_
    rintro e w' ⟨rfl, rfl⟩
    rw [h1]
    go_wp2_with fail
    refine (sIn M 1 6 _).mono ?_
    rintro e w' ⟨rfl, rfl⟩
    rw [h2]
    have hv1 := RgAt.new (w := w.alloc (.cells #[.int .i64 0, .slice none 0 0] 26)) N (.slice none 0 0) hsz
    have hr1 := hres.alloc (.cells #[.int .i64 N, .slice none 0 0] 26)
    have hb1 := hb.alloc hb.size (.cells #[.int .i64 N, .slice none 0 0] 26)
    have hsz1 : ((w.alloc (.cells #[.int .i64 0, .slice none 0 0] 26)).alloc (.cells #[.int .i64 N, .slice none 0 0] 26)).heap.size = w.heap.size + 1 + 1 := by simp
    go_wp2
    generalize ((w.alloc (.cells #[.int .i64 0, .slice none 0 0] 26)).alloc (.cells #[.int .i64 N, .slice none 0 0] 26)) = W1 at *
    have HB1 := Lib.hid hb1
    have HR1 := Lib.hid hr1
    have HV1 := Lib.hid hv1
    clear hres hb hsz hb1 hr1 hv1 h1 h2
    go_loopw [7] (fun i wr => ∃ (k : Nat) (a : Option Addr) (cp : Nat), k ≤ M ∧ i = .int .i64 k ∧ Hid (RgAt wr (w.heap.size + 1) N (.slice a k cp)) ∧ Hid (wr.ownsRow (w.heap.size + 1 + 1) 3 1 (.slice a k cp) k (iv (List.replicate k F))) ∧ Hid (RgAt wr w.heap.size 0 (.slice none 0 0)) ∧ Below w.heap.size w wr ∧ w.heap.size + 1 + 1 ≤ wr.heap.size) (fun i _ => M - (intOf i).toNat)
    case atStart => exact ⟨0, none, 0, by omega, rfl, HV1.out, own_nil_i _ _, HR1.out, HB1.out, by omega⟩
    case round =>
      obtain ⟨k, a, cp, hk, rfl, hv, hown, hr, hb, hsz⟩ := hrel
      have c1 := hv.out.c1
      have f1 := hv.out.f 1
      by_cases hlt : k < M
      · have hk1 : (k : Int) < (M : Int) := by omega
        have hf5 : IntKind.i64.wrap (IntKind.i64.wrap ((2 : Int) ^ N) - 1) = F := by rw [hf1, HF.out]; exact hf2
        have m0 := (hv.out.alloc (.cells #[.int .i64 F] 3)).c1
        clear hf1 hF
        go_wp2_with fail
        go_region_law (first
          | (refine step_append_lies _ rfl _ _ _ rfl (w.heap.size + 1 + 1) 3 i0 (.int .i64 0) 1 8 Tryz.underlying24 hi hz0 hz1 hz2 rfl (by omega) _ k (iv (List.replicate k F)) rfl ?a1 ⟨wr.heap.size, 0, none⟩ 1 1 (iv [F]) rfl rfl ?a2 (iv_one _) (by omega) ?a3 ?a4 ?a5 (wr.heap.size + 1) ?a6 ?_
             (case a1 => exact hown.out.alloc (.cells #[.int .i64 F] 3))
             (case a2 => exact World.news_of_block (cs := #[.int .i64 F]) (t := 3) (fr := (0, 0)) (heap_alloc_new _ _))
             (case a3 => unfold maxLen; omega)
             (case a4 => omega)
             (case a5 => simp; omega)
             (case a6 => simp)
             intro gg cap' w' hownN hgrN hatN hltN
             have hvN := RgAt.by (w := (wr.alloc (.cells #[.int .i64 F] 3)).drew) (RgAt.alloc hv.out (.cells #[.int .i64 F] 3)) hgrN (fun e => by have := (hown.out.lt _ e).1; omega)
             have m1 := hvN.c1
             have m2 := hvN.f 1))
        all_goals
          have hO2 := hownN
          rw [show iv (List.replicate k F) ++ iv [F] = iv (List.replicate (k + 1) F) from by rw [← rep_snoc_i]; simp [iv]] at hO2
          have hgr : ((wr.alloc (.cells #[.int .i64 F] 3)).drew).grownBy w' (Value.slice a k cp).ownBlock := hgrN
          have hgl := (hO2.lt gg rfl).1
          have hRN := RgAt.by (w := (wr.alloc (.cells #[.int .i64 F] 3)).drew) (RgAt.alloc hr.out (.cells #[.int .i64 F] 3)) hgr (fun e => by have := (hown.out.lt _ e).1; omega)
          have hbN := ((hb.alloc hb.size (.cells #[.int .i64 F] 3)).drew).grown hgr (by show _ ≤ (wr.alloc (.cells #[.int .i64 F] 3)).heap.size; simp; omega) (fun j hj => by have := (hown.out.lt _ hj).1; omega)
          have hszN := hgr.size
          have hszA : ((wr.alloc (.cells #[.int .i64 F] 3)).drew).heap.size = wr.heap.size + 1 := by show (wr.alloc (.cells #[.int .i64 F] 3)).heap.size = _; simp
          have HVV := Lib.hid (hvN.set1 (.slice (some ⟨gg, 0, none⟩) (k + 1) cap'))
          have HRR := Lib.hid (RgAt.far (g' := w.heap.size + 1) (j := 1) (u := .slice (some ⟨gg, 0, none⟩) (k + 1) cap') hRN (by omega))
          have HOO := Lib.hid (own_far (b := w.heap.size + 1) (o := 1) (u := .slice (some ⟨gg, 0, none⟩) (k + 1) cap') hO2 (by omega))
          have HBB := Lib.hid (hbN.setCell (p := ⟨w.heap.size + 1, 1, none⟩) (by show w.heap.size ≤ w.heap.size + 1; omega) (.slice (some ⟨gg, 0, none⟩) (k + 1) cap'))
          have hszz := (grown_set1 w' (w.heap.size + 1) 1 (.slice (some ⟨gg, 0, none⟩) (k + 1) cap')).size
          clear hownN hgrN hatN hO2 hgr hRN hbN hvN m0 m1 m2 c1 f1 hv hown hr hb
          generalize (w'.setCell ⟨w.heap.size + 1, 1, none⟩ (.slice (some ⟨gg, 0, none⟩) (k + 1) cap')) = w5 at *
          go_wp2
          go_roundw
          case rel => first
            | exact ⟨k + 1, some ⟨gg, 0, none⟩, cap', by omega, by go_num, HVV.out, HOO.out, HRR.out, HBB.out, by omega⟩
            | (repeat apply Exists.intro
               exact ⟨⟨k + 1, some ⟨gg, 0, none⟩, cap', by omega, by go_num, HVV.out, HOO.out, HRR.out, HBB.out, by omega⟩, rfl⟩)
          case measure => simp [intOf]; omega
      · obtain rfl : k = M := by omega
        have c0 := hv.out.c0
        have q0 := hr.out.c0
        have q1 := hr.out.c1
        have q2 := hr.out.f 0
        have q3 := hr.out.f 1
        go_wp2
        have R9 := hr.out.set2 N (.slice a k cp)
        have e0 := R9.c0
        have e1 := R9.c1
        have HO9 := Lib.hid (own_below (own_off (b := w.heap.size) (o := 1) (u := .slice a k cp) (own_off (b := w.heap.size) (o := 0) (u := .int .i64 N) hown.out (by omega)) (by omega)) (show w.heap.size ≤ w.heap.size + 1 + 1 by omega))
        have HB9 := Lib.hid ((hb.setCell (p := ⟨w.heap.size, 0, none⟩) (Nat.le_refl _) (.int .i64 N)).setCell (p := ⟨w.heap.size, 1, none⟩) (Nat.le_refl _) (.slice a k cp))
        generalize ((wr.setCell ⟨w.heap.size, 0, none⟩ (.int .i64 N)).setCell ⟨w.heap.size, 1, none⟩ (.slice a k cp)) = w9 at *
        exact bodyPost_ret (v := .tuple #[.agg #[.int .i64 N, .slice a k cp], .bool true]) (by simp [results, Tryz.results29, go_sem, e0, e1]) rfl ⟨_, rfl, by rw [List.length_replicate]; exact HO9.out, HB9.out⟩

theorem rect_fill (k n : Nat) (F : Int) (h : k < n) : (List.replicate k F ++ List.replicate (n - k) 0).set k F = List.replicate (k + 1) F ++ List.replicate (n - (k + 1)) 0 := by
  have e : n - k = (n - (k + 1)) + 1 := by omega
  rw [e, List.replicate_succ, List.set_append_right _ _ (by simp)]
  have e2 : k - (List.replicate k F).length = 0 := by simp
  rw [e2, List.set_cons_zero, ← rep_snoc_i, List.append_assoc]
  rfl
set_option maxHeartbeats 2000000 in
set_option maxRecDepth 100000 in
theorem iRect (W H : Int) (w : World) :
    Calls Tryz.prog 28 #[.int .i64 W, .int .i64 H] w fun e w' => ∃ v, e = .returned (.tuple #[.agg #[.int .i64 (rectW W H), v], .bool (rectOk W H)]) ∧ w'.ownsRow w.heap.size 3 1 v (rectL W H).length (iv (rectL W H)) ∧ Below w.heap.size w w' := by
  have hres := RgAt.new (w := w) 0 (.slice none 0 0) rfl
  have hb := (Below.refl w.heap.size w).alloc (Nat.le_refl _) (.cells #[.int .i64 0, .slice none 0 0] 26)
  have hsz : (w.alloc (.cells #[.int .i64 0, .slice none 0 0] 26)).heap.size = w.heap.size + 1 := by simp
  cases h : rectOk W H with
  | false =>
    have HN := Lib.hid (rect_no h)
    rw [HN.out.1, HN.out.2]
    have h' := h
    unfold rectOk at h'
    go_enter Tryz.func28, Tryz.ntmps28
    go_wp2_with fail
    refine (iSide W _).mono ?_
    rintro e w' ⟨rfl, rfl⟩
    have q0 := hres.c0
    have q1 := hres.c1
    have q2 := hres.f 0
    have q3 := hres.f 1
    generalize (w.alloc (.cells #[.int .i64 0, .slice none 0 0] 26)) = W1 at *
    have R9 := hres.set2 0 (.slice none 0 0)
    have e0 := R9.c0
    have e1 := R9.c1
    have HB9 := Lib.hid ((hb.setCell (p := ⟨w.heap.size, 0, none⟩) (Nat.le_refl _) (.int .i64 0)).setCell (p := ⟨w.heap.size, 1, none⟩) (Nat.le_refl _) (.slice none 0 0))
    cases h1 : inb W 1 6 with
    | false =>
      clear h h'
      go_wp2
      generalize ((W1.setCell ⟨w.heap.size, 0, none⟩ (.int .i64 0)).setCell ⟨w.heap.size, 1, none⟩ (.slice none 0 0)) = w9 at *
      exact bodyPost_ret (v := .tuple #[.agg #[.int .i64 0, .slice none 0 0], .bool false]) (by simp [results, Tryz.results28, go_sem, e0, e1]) rfl ⟨_, rfl, own_nil_i _ _, HB9.out⟩
    | true =>
      have h2 : inb H 1 6 = false := by rw [h1] at h'; simpa using h'
      clear h h'
      go_wp2_with fail
      refine (iSide H _).mono ?_
      rintro e w' ⟨rfl, rfl⟩
      rw [h2]
      go_wp2
      generalize ((W1.setCell ⟨w.heap.size, 0, none⟩ (.int .i64 0)).setCell ⟨w.heap.size, 1, none⟩ (.slice none 0 0)) = w9 at *
      exact bodyPost_ret (v := .tuple #[.agg #[.int .i64 0, .slice none 0 0], .bool false]) (by simp [results, Tryz.results28, go_sem, e0, e1]) rfl ⟨_, rfl, own_nil_i _ _, HB9.out⟩
  | true =>
    have HN := Lib.hid (rect_yes h)
    rw [HN.out.1, HN.out.2]
    have h' := h
    unfold rectOk at h'
    rw [Bool.and_eq_true] at h'
    obtain ⟨h1, h2⟩ := h'
    have b1 := inb_out h1
    have b2 := inb_out h2
    obtain ⟨N, rfl⟩ : ∃ N : Nat, W = N := ⟨W.toNat, by omega⟩
    obtain ⟨M, rfl⟩ : ∃ M : Nat, H = M := ⟨H.toNat, by omega⟩
    rw [Int.toNat_natCast, Int.toNat_natCast]
    obtain ⟨F, hF⟩ : ∃ F, (2 : Int) ^ N - 1 = F := ⟨_, rfl⟩
    have hfull : ∀ w, Calls Tryz.prog 51 #[.int .i64 N] w fun e w' => e = .returned (.int .i64 F) ∧ w = w' := fun w => by rw [← hF]; exact iFull N (by omega) w
    have HF := Lib.hid hF
    rw [hF]
    clear h hF
    go_enter Tryz.func28, Tryz.ntmps28
    go_wp2_with fail
    refine (iSide N _).mono ?_
    rintro e w' ⟨rfl, rfl⟩
    rw [h1]
    go_wp2_with fail
    refine (iSide M _).mono ?_
    rintro e w' ⟨rfl, rfl⟩
    rw [h2]
    go_wp2_with fail
    generalize (w.alloc (.cells #[.int .i64 0, .slice none 0 0] 26)) = W1 at *
    refine (iEmpty N M W1 (by omega)).mono ?_
    rintro e w2 ⟨g, rfl, hown, hb2⟩
    have hgl := hown.lt g rfl
    rw [hsz] at hown hgl
    have hr2 := hres.on hb2 hres.lt
    have hB2 := hb.trans (hb2.mono hb.size)
    have hv3 := RgAt.new (w := w2) N (.slice (some ⟨g, 0, none⟩) M M) rfl
    have hr3 := hr2.alloc (.cells #[.int .i64 N, .slice (some ⟨g, 0, none⟩) M M] 26)
    have hb3 := hB2.alloc hB2.size (.cells #[.int .i64 N, .slice (some ⟨g, 0, none⟩) M M] 26)
    have hown3 := hown.alloc (.cells #[.int .i64 N, .slice (some ⟨g, 0, none⟩) M M] 26)
    obtain ⟨vb, hvb⟩ : ∃ vb, w2.heap.size = vb := ⟨_, rfl⟩
    rw [hvb] at hv3 hgl
    have c1 := hv3.c1
    clear hres hb hown hb2 hr2 hB2
    go_wp2_with fail
    generalize (w2.alloc (.cells #[.int .i64 N, .slice (some ⟨g, 0, none⟩) M M] 26)) = W3 at *
    have HV3 := Lib.hid hv3
    have HR3 := Lib.hid hr3
    have HB3 := Lib.hid hb3
    have HO3 := Lib.hid (show W3.ownsRow (w.heap.size + 1) 3 1 (.slice (some ⟨g, 0, none⟩) M M) M (iv (List.replicate 0 F ++ List.replicate (M - 0) 0)) from hown3)
    have hgv : g ≠ vb := by omega
    have hvs := hv3.lt
    clear hv3 hr3 hb3 hown3 c1 h1 h2
    go_wp2
    go_loopw [23] (fun i wr => ∃ k : Nat, k ≤ M ∧ i = .int .i64 k ∧ Hid (RgAt wr vb N (.slice (some ⟨g, 0, none⟩) M M)) ∧ Hid (wr.ownsRow (w.heap.size + 1) 3 1 (.slice (some ⟨g, 0, none⟩) M M) M (iv (List.replicate k F ++ List.replicate (M - k) 0))) ∧ Hid (RgAt wr w.heap.size 0 (.slice none 0 0)) ∧ Below w.heap.size w wr) (fun i _ => M - (intOf i).toNat)
    case atStart => exact ⟨0, by omega, rfl, HV3.out, HO3.out, HR3.out, HB3.out⟩
    case round =>
      obtain ⟨k, hk, rfl, hv, hown, hr, hb⟩ := hrel
      clear HV3 HO3 HR3 HB3
      have c1 := hv.out.c1
      by_cases hlt : k < M
      · have hk1 : (k : Int) < (M : Int) := by omega
        have hk0 : (0 : Int) ≤ (k : Int) := by omega
        have hlen : k < (List.replicate k F ++ List.replicate (M - k) (0 : Int)).length := by simp; omega
        have p1 := hown.out.cellAt k (by omega)
        rw [iv_get _ _ hlen] at p1
        have p2 := hown.out.frozenAt k
        have hs := hown.out.stored k (.int .i64 F)
        rw [iv_set, rect_fill k M F hlt] at hs
        have HS := Lib.hid hs
        generalize (List.replicate k F ++ List.replicate (M - k) (0 : Int)).getD k 0 = u at p1
        have hBS := hb.setCell (p := ⟨g, k, none⟩) (by show w.heap.size ≤ g; omega) (.int .i64 F)
        have hVS := RgAt.far (g' := g) (j := k) (u := .int .i64 F) hv.out hgv
        have hRS := RgAt.far (g' := g) (j := k) (u := .int .i64 F) hr.out (by omega)
        have HSS := Lib.hid (show _ ∧ _ ∧ _ from ⟨hBS, hVS, hRS⟩)
        clear hs hlen hBS hVS hRS
        go_wp2_with fail
        go_region_with (go_at_call 51; refine (hfull _).mono ?_; rintro e w' ⟨rfl, rfl⟩)
        all_goals
          have HVN := Lib.hid (show RgAt (wr.setCell ⟨g, k, none⟩ (.int .i64 F)).drew vb N (.slice (some ⟨g, 0, none⟩) M M) from HSS.out.2.1)
          have HRN := Lib.hid (show RgAt (wr.setCell ⟨g, k, none⟩ (.int .i64 F)).drew w.heap.size 0 (.slice none 0 0) from HSS.out.2.2)
          have HON := Lib.hid (show (wr.setCell ⟨g, k, none⟩ (.int .i64 F)).drew.ownsRow (w.heap.size + 1) 3 1 (.slice (some ⟨g, 0, none⟩) M M) M (iv (List.replicate (k + 1) F ++ List.replicate (M - (k + 1)) 0)) from HS.out.1)
          have HBN := Lib.hid (HSS.out.1.drew)
          clear HS HSS hv hown hr hb c1 p1 p2
          generalize (wr.setCell ⟨g, k, none⟩ (.int .i64 F)).drew = w5 at *
          go_wp2
          go_roundw
          case rel => first
            | exact ⟨k + 1, by omega, by go_num, HVN.out, HON.out, HRN.out, HBN.out⟩
            | (repeat apply Exists.intro
               exact ⟨⟨k + 1, by omega, by go_num, HVN.out, HON.out, HRN.out, HBN.out⟩, rfl⟩)
          case measure => simp [intOf]; omega
      · obtain rfl : k = M := by omega
        have c0 := hv.out.c0
        have q0 := hr.out.c0
        have q1 := hr.out.c1
        have q2 := hr.out.f 0
        have q3 := hr.out.f 1
        have HO := Lib.hid (show wr.ownsRow (w.heap.size + 1) 3 1 (.slice (some ⟨g, 0, none⟩) k k) k (iv (List.replicate k F)) from by have h9 := hown.out; rw [Nat.sub_self, List.replicate_zero, List.append_nil] at h9; exact h9)
        clear hown
        go_wp2
        have R9 := hr.out.set2 N (.slice (some ⟨g, 0, none⟩) k k)
        have e0 := R9.c0
        have e1 := R9.c1
        have HO9 := Lib.hid (own_below (own_off (b := w.heap.size) (o := 1) (u := .slice (some ⟨g, 0, none⟩) k k) (own_off (b := w.heap.size) (o := 0) (u := .int .i64 N) HO.out (by omega)) (by omega)) (show w.heap.size ≤ w.heap.size + 1 by omega))
        have HB9 := Lib.hid ((hb.setCell (p := ⟨w.heap.size, 0, none⟩) (Nat.le_refl _) (.int .i64 N)).setCell (p := ⟨w.heap.size, 1, none⟩) (Nat.le_refl _) (.slice (some ⟨g, 0, none⟩) k k))
        generalize ((wr.setCell ⟨w.heap.size, 0, none⟩ (.int .i64 N)).setCell ⟨w.heap.size, 1, none⟩ (.slice (some ⟨g, 0, none⟩) k k)) = w9 at *
        exact bodyPost_ret (v := .tuple #[.agg #[.int .i64 N, .slice (some ⟨g, 0, none⟩) k k], .bool true]) (by simp [results, Tryz.results28, go_sem, e0, e1]) rfl ⟨_, rfl, by rw [List.length_replicate]; exact HO9.out, HB9.out⟩

end Go.Proofs.YtcfioncnpfoccaaGreatDoor
