/-
  Rectangles, colours: in the model and in the program: what each call gives.
  Colours: in the model and in the program: what each call gives.
  A cell taken out of a region, in the model and in the program: what each call gives.
  Holes: what the model's queues want: plain facts.
  The region of a shape, in the model and in the program: what each call gives.
  The cells beside one, in the program: what the call gives.
  A part moved from one region to another, in the program: what the call gives.
-/
import Derived.Test.YtkjlmgkjcmebbaaGreatDoorWbb
import Derived.Test.YtkjlmgkjcmebbaaGreatDoorWah
import Derived.Deep.AppendLies
import Derived.Test.YtkjlmgkjcmebbaaGreatDoorPo2
import Derived.Test.YtkjlmgkjcmebbaaGreatDoorWad
import Derived.Test.YtkjlmgkjcmebbaaGreatDoorWaf
namespace Go.Proofs.YtkjlmgkjcmebbaaGreatDoor

section
open Go.RowKit Go.Maps

def rectOk (w h : Int) : Bool := inb w 1 6 && inb h 1 6
def rectW (w h : Int) : Int := if rectOk w h = true then w else 0
def rectL (w h : Int) : List Int := if rectOk w h = true then List.replicate h.toNat ((2 : Int) ^ w.toNat - 1) else []
theorem rect_no {w h : Int} (e : rectOk w h = false) : rectW w h = 0 ∧ rectL w h = [] := ⟨if_neg (by rw [e]; simp), if_neg (by rw [e]; simp)⟩
theorem rect_yes {w h : Int} (e : rectOk w h = true) : rectW w h = w ∧ rectL w h = List.replicate h.toNat ((2 : Int) ^ w.toNat - 1) := ⟨if_pos e, if_pos e⟩
theorem rectL_len (w h : Int) : (rectL w h).length ≤ 6 := by
  cases e : rectOk w h with
  | false => rw [(rect_no e).2]; simp
  | true =>
    rw [(rect_yes e).2, List.length_replicate]
    simp [rectOk, inb] at e
    omega
theorem own_nil_i (w : World) (B : Nat) : w.ownsRow B 3 1 (.slice none 0 0) 0 (iv []) := ⟨rfl, .inl ⟨rfl, rfl⟩⟩
theorem full_w (N : Nat) (h : N ≤ 6) : IntKind.i64.wrap ((2 : Int) ^ N) = (2 : Int) ^ N ∧ IntKind.i64.wrap ((2 : Int) ^ N - 1) = (2 : Int) ^ N - 1 ∧ (2 : Int) ^ N - 1 < 64 ∧ 0 ≤ (2 : Int) ^ N - 1 := by
  have h1 : (2 : Nat) ^ N ≤ 2 ^ 6 := Nat.pow_le_pow_right (by omega) h
  have h2 : 0 < (2 : Nat) ^ N := Nat.pow_pos (by omega)
  obtain ⟨m, hm, e⟩ := pw_nat N
  rw [hm] at h1 h2
  rw [e]
  exact ⟨IntWalk.i64_in _ (by omega), IntWalk.i64_in _ (by omega), by omega, by omega⟩

theorem own_sl_i {w : World} {base n : Nat} {v : Value} {xs : List Value} (h : w.ownsRow base 3 1 v n xs) : ∃ a cap, v = .slice a n cap := by
  rcases h.2 with ⟨rfl, rfl⟩ | ⟨g, cap, cur, rfl, _⟩
  · exact ⟨_, _, rfl⟩
  · exact ⟨_, _, rfl⟩
theorem own_off {w : World} {base size n b o : Nat} {t : TypeId} {v u : Value} {xs : List Value} (h : w.ownsRow base t size v n xs) (hne : b < base) : (w.setCell ⟨b, o, none⟩ u).ownsRow base t size v n xs :=
  h.kept (grown_set1 w b o u) (by
    cases e : v.ownBlock with
    | none => exact .inl rfl
    | some k => exact .inr fun e2 => by have := (h.lt k e).1; injection e2 with e2; omega)
theorem rep_snoc_i (k : Nat) (F : Int) : List.replicate k F ++ [F] = List.replicate (k + 1) F := by rw [← List.replicate_succ']

set_option maxHeartbeats 2000000 in
set_option maxRecDepth 100000 in
theorem sRect (W H : Int) (w : World) :
    Calls Tryz.prog 135 #[.int .i64 W, .int .i64 H] w fun e w' => ∃ v, e = .returned (.tuple #[.agg #[.int .i64 (rectW W H), v], .bool (rectOk W H)]) ∧ w'.ownsRow w.heap.size 3 1 v (rectL W H).length (iv (rectL W H)) ∧ Below w.heap.size w w' := by
  obtain ⟨i0, hi, hz0, hz1, hz2⟩ := info_parts info_int
  have hres := RgAt.new (w := w) 0 (.slice none 0 0) rfl
  have hb := (Below.refl w.heap.size w).alloc (Nat.le_refl _) (.cells #[.int .i64 0, .slice none 0 0] 26)
  have hsz : (w.alloc (.cells #[.int .i64 0, .slice none 0 0] 26)).heap.size = w.heap.size + 1 := by simp
  cases h : rectOk W H with
  | false =>
    have HN := Lib.hid (rect_no h)
    rw [HN.out.1, HN.out.2]
    have h' := h
    unfold rectOk at h'
    go_enter Tryz.func135, Tryz.ntmps135
    go_wp2_with fail
    refine (sIn W 1 6 _).mono ?_
    rintro e w' ⟨rfl, rfl⟩
    have q0 := hres.c0
    have q1 := hres.c1
    have q2 := hres.f 0
    have q3 := hres.f 1
    generalize (w.alloc (.cells #[.int .i64 0, .slice none 0 0] 26)) = W1 at *
    have R9 := hres.set2 0 (.slice none 0 0)
    have e0 := R9.c0
    have e1 := R9.c1
    have HB9 := Lib.hid ((hb.setCell (p := ⟨w.heap.size, 0, none⟩) (Nat.le_refl _) (.int .i64 0)).setCell (p := ⟨w.heap.size, 1, none⟩) (Nat.le_refl _) (.slice none 0 0))
    cases h1 : inb W 1 6 with
    | false =>
      clear h h'
      go_wp2
      generalize ((W1.setCell ⟨w.heap.size, 0, none⟩ (.int .i64 0)).setCell ⟨w.heap.size, 1, none⟩ (.slice none 0 0)) = w9 at *
      exact bodyPost_ret (v := .tuple #[.agg #[.int .i64 0, .slice none 0 0], .bool false]) (by simp [results, Tryz.results135, go_sem, e0, e1]) rfl ⟨_, rfl, own_nil_i _ _, HB9.out⟩
    | true =>
      have h2 : inb H 1 6 = false := by rw [h1] at h'; simpa using h'
      clear h h'
      go_wp2_with fail
      refine (sIn H 1 6 _).mono ?_
      rintro e w' ⟨rfl, rfl⟩
      rw [h2]
      go_wp2
      generalize ((W1.setCell ⟨w.heap.size, 0, none⟩ (.int .i64 0)).setCell ⟨w.heap.size, 1, none⟩ (.slice none 0 0)) = w9 at *
      exact bodyPost_ret (v := .tuple #[.agg #[.int .i64 0, .slice none 0 0], .bool false]) (by simp [results, Tryz.results135, go_sem, e0, e1]) rfl ⟨_, rfl, own_nil_i _ _, HB9.out⟩
  | true =>
    have HN := Lib.hid (rect_yes h)
    rw [HN.out.1, HN.out.2]
    have h' := h
    unfold rectOk at h'
    rw [Bool.and_eq_true] at h'
    obtain ⟨h1, h2⟩ := h'
    have b1 := inb_outS h1
    have b2 := inb_outS h2
    obtain ⟨N, rfl⟩ : ∃ N : Nat, W = N := ⟨W.toNat, by omega⟩
    obtain ⟨M, rfl⟩ : ∃ M : Nat, H = M := ⟨H.toNat, by omega⟩
    rw [Int.toNat_natCast, Int.toNat_natCast]
    obtain ⟨hf1, hf2, hf3, hf4⟩ := full_w N (by omega)
    obtain ⟨F, hF⟩ : ∃ F, (2 : Int) ^ N - 1 = F := ⟨_, rfl⟩
    have HF := Lib.hid hF
    rw [hF] at hf2 hf3 hf4 ⊢
    clear h
    go_enter Tryz.func135, Tryz.ntmps135
    go_wp2_with fail
    refine (sIn N 1 6 _).mono ?_
    rintro e w' ⟨rfl, rfl⟩
    rw [h1]
    go_wp2_with fail
    refine (sIn M 1 6 _).mono ?_
    rintro e w' ⟨rfl, rfl⟩
    rw [h2]
    have hv1 := RgAt.new (w := w.alloc (.cells #[.int .i64 0, .slice none 0 0] 26)) N (.slice none 0 0) hsz
    have hr1 := hres.alloc (.cells #[.int .i64 N, .slice none 0 0] 26)
    have hb1 := hb.alloc hb.size (.cells #[.int .i64 N, .slice none 0 0] 26)
    have hsz1 : ((w.alloc (.cells #[.int .i64 0, .slice none 0 0] 26)).alloc (.cells #[.int .i64 N, .slice none 0 0] 26)).heap.size = w.heap.size + 1 + 1 := by simp
    go_wp2
    generalize ((w.alloc (.cells #[.int .i64 0, .slice none 0 0] 26)).alloc (.cells #[.int .i64 N, .slice none 0 0] 26)) = W1 at *
    have HB1 := Lib.hid hb1
    have HR1 := Lib.hid hr1
    have HV1 := Lib.hid hv1
    clear hres hb hsz hb1 hr1 hv1 h1 h2
    go_loopw [7] (fun i wr => ∃ (k : Nat) (a : Option Addr) (cp : Nat), k ≤ M ∧ i = .int .i64 k ∧ Hid (RgAt wr (w.heap.size + 1) N (.slice a k cp)) ∧ Hid (wr.ownsRow (w.heap.size + 1 + 1) 3 1 (.slice a k cp) k (iv (List.replicate k F))) ∧ Hid (RgAt wr w.heap.size 0 (.slice none 0 0)) ∧ Below w.heap.size w wr ∧ w.heap.size + 1 + 1 ≤ wr.heap.size) (fun i _ => M - (intOf i).toNat)
    case atStart => exact ⟨0, none, 0, by omega, rfl, HV1.out, own_nil_i _ _, HR1.out, HB1.out, by omega⟩
    case round =>
      obtain ⟨k, a, cp, hk, rfl, hv, hown, hr, hb, hsz⟩ := hrel
      have c1 := hv.out.c1
      have f1 := hv.out.f 1
      by_cases hlt : k < M
      · have hk1 : (k : Int) < (M : Int) := by omega
        have hf5 : IntKind.i64.wrap (IntKind.i64.wrap ((2 : Int) ^ N) - 1) = F := by rw [hf1, HF.out]; exact hf2
        have m0 := (hv.out.alloc (.cells #[.int .i64 F] 3)).c1
        clear hf1 hF
        go_wp2_with fail
        go_region_law (first
          | (refine step_append_lies _ rfl _ _ _ rfl (w.heap.size + 1 + 1) 3 i0 (.int .i64 0) 1 8 Tryz.underlying24 hi hz0 hz1 hz2 rfl (by omega) _ k (iv (List.replicate k F)) rfl ?a1 ⟨wr.heap.size, 0, none⟩ 1 1 (iv [F]) rfl rfl ?a2 (iv_one _) (by omega) ?a3 ?a4 ?a5 (wr.heap.size + 1) ?a6 ?_
             (case a1 => exact hown.out.alloc (.cells #[.int .i64 F] 3))
             (case a2 => exact World.news_of_block (cs := #[.int .i64 F]) (t := 3) (fr := (0, 0)) (heap_alloc_new _ _))
             (case a3 => unfold maxLen; omega)
             (case a4 => omega)
             (case a5 => simp; omega)
             (case a6 => simp)
             intro gg cap' w' hownN hgrN hatN hltN
             have hvN := RgAt.by (w := (wr.alloc (.cells #[.int .i64 F] 3)).drew) (RgAt.alloc hv.out (.cells #[.int .i64 F] 3)) hgrN (fun e => by have := (hown.out.lt _ e).1; omega)
             have m1 := hvN.c1
             have m2 := hvN.f 1))
        all_goals
          have hO2 := hownN
          rw [show iv (List.replicate k F) ++ iv [F] = iv (List.replicate (k + 1) F) from by rw [← rep_snoc_i]; simp [iv]] at hO2
          have hgr : ((wr.alloc (.cells #[.int .i64 F] 3)).drew).grownBy w' (Value.slice a k cp).ownBlock := hgrN
          have hgl := (hO2.lt gg rfl).1
          have hRN := RgAt.by (w := (wr.alloc (.cells #[.int .i64 F] 3)).drew) (RgAt.alloc hr.out (.cells #[.int .i64 F] 3)) hgr (fun e => by have := (hown.out.lt _ e).1; omega)
          have hbN := ((hb.alloc hb.size (.cells #[.int .i64 F] 3)).drew).grown hgr (by show _ ≤ (wr.alloc (.cells #[.int .i64 F] 3)).heap.size; simp; omega) (fun j hj => by have := (hown.out.lt _ hj).1; omega)
          have hszN := hgr.size
          have hszA : ((wr.alloc (.cells #[.int .i64 F] 3)).drew).heap.size = wr.heap.size + 1 := by show (wr.alloc (.cells #[.int .i64 F] 3)).heap.size = _; simp
          have HVV := Lib.hid (hvN.set1 (.slice (some ⟨gg, 0, none⟩) (k + 1) cap'))
          have HRR := Lib.hid (RgAt.far (g' := w.heap.size + 1) (j := 1) (u := .slice (some ⟨gg, 0, none⟩) (k + 1) cap') hRN (by omega))
          have HOO := Lib.hid (own_far (b := w.heap.size + 1) (o := 1) (u := .slice (some ⟨gg, 0, none⟩) (k + 1) cap') hO2 (by omega))
          have HBB := Lib.hid (hbN.setCell (p := ⟨w.heap.size + 1, 1, none⟩) (by show w.heap.size ≤ w.heap.size + 1; omega) (.slice (some ⟨gg, 0, none⟩) (k + 1) cap'))
          have hszz := (grown_set1 w' (w.heap.size + 1) 1 (.slice (some ⟨gg, 0, none⟩) (k + 1) cap')).size
          clear hownN hgrN hatN hO2 hgr hRN hbN hvN m0 m1 m2 c1 f1 hv hown hr hb
          generalize (w'.setCell ⟨w.heap.size + 1, 1, none⟩ (.slice (some ⟨gg, 0, none⟩) (k + 1) cap')) = w5 at *
          go_wp2
          go_roundw
          case rel => first
            | exact ⟨k + 1, some ⟨gg, 0, none⟩, cap', by omega, by go_num, HVV.out, HOO.out, HRR.out, HBB.out, by omega⟩
            | (repeat apply Exists.intro
               exact ⟨⟨k + 1, some ⟨gg, 0, none⟩, cap', by omega, by go_num, HVV.out, HOO.out, HRR.out, HBB.out, by omega⟩, rfl⟩)
          case measure => simp [intOf]; omega
      · obtain rfl : k = M := by omega
        have c0 := hv.out.c0
        have q0 := hr.out.c0
        have q1 := hr.out.c1
        have q2 := hr.out.f 0
        have q3 := hr.out.f 1
        go_wp2
        have R9 := hr.out.set2 N (.slice a k cp)
        have e0 := R9.c0
        have e1 := R9.c1
        have HO9 := Lib.hid (own_below (own_off (b := w.heap.size) (o := 1) (u := .slice a k cp) (own_off (b := w.heap.size) (o := 0) (u := .int .i64 N) hown.out (by omega)) (by omega)) (show w.heap.size ≤ w.heap.size + 1 + 1 by omega))
        have HB9 := Lib.hid ((hb.setCell (p := ⟨w.heap.size, 0, none⟩) (Nat.le_refl _) (.int .i64 N)).setCell (p := ⟨w.heap.size, 1, none⟩) (Nat.le_refl _) (.slice a k cp))
        generalize ((wr.setCell ⟨w.heap.size, 0, none⟩ (.int .i64 N)).setCell ⟨w.heap.size, 1, none⟩ (.slice a k cp)) = w9 at *
        exact bodyPost_ret (v := .tuple #[.agg #[.int .i64 N, .slice a k cp], .bool true]) (by simp [results, Tryz.results135, go_sem, e0, e1]) rfl ⟨_, rfl, by rw [List.length_replicate]; exact HO9.out, HB9.out⟩
end

section
open Go.RowKit Go.Maps

theorem colR_no1 {W k : Int} {l : List Int} (h : isReg W l = false) : colR W l k = [] := if_neg (by rw [h]; simp)
theorem colR_no2 {W k : Int} {l : List Int} (h : inb k 1 6 = false) : colR W l k = [] := if_neg (by rw [h]; simp)
theorem colR_yes {W : Int} {k : Nat} {l : List Int} (h : isReg W l = true) (h2 : inb (k : Int) 1 6 = true) : colR W l k = colTo k (cellsR W l) (cellsR W l).length := by
  unfold colR
  rw [if_pos (by rw [h, h2]; rfl)]
  rfl
theorem colR_len (W : Int) (l : List Int) (k : Int) : (colR W l k).length ≤ 6 := by
  unfold colR
  split
  · rename_i h
    rw [colTo_len]
    rw [Bool.and_eq_true] at h
    have := inb_outS h.2
    omega
  · simp
theorem colTo_in (k : Nat) (cs : List Cl) (j : Nat) (h : j ≤ 36) : ∀ z ∈ colTo k cs j, In64 z := by
  intro z hz
  obtain ⟨i, hi, rfl⟩ := List.mem_iff_getElem.1 hz
  have := colTo_bd k cs j i
  rw [show (colTo k cs j).getD i 0 = (colTo k cs j)[i] from by simp [List.getD, hi]] at this
  unfold In64
  omega
theorem colR_in (W : Int) (l : List Int) (k : Int) : ∀ z ∈ colR W l k, In64 z := by
  unfold colR
  split
  · exact colTo_in _ _ _ (cellsR_len W l)
  · intro z hz; cases hz
theorem col_step (k : Nat) (cs : List Cl) (j : Nat) (x y : Nat) (h : cs.getD j (0, 0) = ((x : Int), (y : Int))) : colTo k cs (j + 1) = (colTo k cs j).set ((x + y) % k) ((colTo k cs j).getD ((x + y) % k) 0 + 1) := by
  rw [colTo, h]
  dsimp only
  rw [show ((x : Int) + (y : Int)).toNat = x + y by omega]

theorem cell_far {w : World} {g o b j : Nat} {u : Value} (hne : g ≠ b) : (w.setCell ⟨g, o, none⟩ u).cell? ⟨b, j, none⟩ = w.cell? ⟨b, j, none⟩ := by
  have h := heap_setCell_other w ⟨g, o, none⟩ b u (fun e => hne e.symm)
  unfold World.cell?
  simp only [h]
theorem CellsAt.far {B b off n g o : Nat} {w : World} {l : List Cl} {u : Value} (h : CellsAt B w (some ⟨b, off, none⟩) n l) (hne : g ≠ b) : CellsAt B (w.setCell ⟨g, o, none⟩ u) (some ⟨b, off, none⟩) n l :=
  ⟨h.1, h.2.1, fun hp => by
    obtain ⟨b', off', e, hlt, hc⟩ := h.2.2 hp
    injection e with e
    injection e with e1 e2
    subst e1 e2
    exact ⟨b, off, rfl, hlt, fun k hk => ⟨(cell_far hne).trans (hc k hk).1, (cell_far hne).trans (hc k hk).2⟩⟩⟩
end

section
open Go.RowKit

def remR (W : Int) (l : List Int) (x y : Int) : List Int := if cellB W l x y = true then clrB l (x, y) else l
theorem remR_yes {W : Int} {l : List Int} {x y : Int} (h : cellB W l x y = true) : remR W l x y = clrB l (x, y) := if_pos h
theorem remR_no {W : Int} {l : List Int} {x y : Int} (h : cellB W l x y = false) : remR W l x y = l := if_neg (by rw [h]; simp)
theorem remR_len (W : Int) (l : List Int) (x y : Int) : (remR W l x y).length = l.length := by
  unfold remR clrB
  split
  · rw [List.length_set]
  · rfl
/-- A cell of a region: where its row lies, which bit. -/
theorem cellB_out {W : Int} {l : List Int} {x y : Int} (h : cellB W l x y = true) : ∃ N u v : Nat, W = N ∧ x = u ∧ y = v ∧ Rg N l.length l ∧ u < N ∧ v < l.length ∧ (rN l v).testBit u = true := by
  unfold cellB at h
  rw [Bool.and_eq_true] at h
  obtain ⟨N, rfl, hr⟩ := isReg_out h.1
  have hb := hr.bt_in h.2
  refine ⟨N, x.toNat, y.toNat, rfl, by omega, by omega, hr, by omega, by omega, ?_⟩
  exact ((bt_iff _ _).1 h.2).2.2
theorem clr_at {l : List Int} {u v : Nat} : clrB l ((u : Int), (v : Int)) = l.set v ((clrN (rN l v) u : Nat) : Int) := by unfold clrB; simp
theorem set_at {l : List Int} {u v : Nat} : setB l ((u : Int), (v : Int)) = l.set v ((rN l v ||| 2 ^ u : Nat) : Int) := by unfold setB; simp
theorem clr_val {n x : Nat} (hn : n < 64) (hx : x < 6) (hb : n.testBit x = true) : wrap64 ((n : Int) - wrap64 ((2 : Int) ^ x)) = ((clrN n x : Nat) : Int) := by
  rw [pw64 x (by omega)]
  obtain ⟨m, hm, e⟩ := pw_nat x
  have h1 : ∀ n, n < 64 → ∀ x, x < 6 → n.testBit x = true → 2 ^ x ≤ n := by decide +kernel
  have h2 := h1 n hn x hx hb
  unfold clrN
  rw [if_pos hb, e]
  rw [hm] at h2 ⊢
  rw [show ((n - m : Nat) : Int) = (n : Int) - m by omega]
  exact IntWalk.wrap64_in _ (by omega)

set_option maxHeartbeats 2000000 in
set_option maxRecDepth 100000 in
theorem sRem (B n cap : Nat) (a : Option Addr) (W : Int) (l : List Int) (x y : Int) (w : World) (hn : n ≤ 1048576) (hc : IntsAt B w a n l) (hB : B ≤ w.heap.size) :
    Calls Tryz.prog 136 #[.agg #[.int .i64 W, .slice a n cap], .int .i64 x, .int .i64 y] w fun e w' => ∃ g cap', e = .returned (.tuple #[.agg #[.int .i64 W, .slice (some ⟨g, 0, none⟩) n cap'], .bool (cellB W l x y)]) ∧
      w'.ownsRow w.heap.size 3 1 (.slice (some ⟨g, 0, none⟩) n cap') n (iv (remR W l x y)) ∧ Below w.heap.size w w' := by
  have H := Lib.hid hc
  have hln := hc.1
  clear hc
  go_enter Tryz.func136, Tryz.ntmps136
  go_wp2_with fail
  have hbox := (RgAt.new (w := w) W (.slice a n cap) rfl).alloc (.cells #[.int .i64 0, .slice none 0 0] 26)
  have hres := RgAt.new (w := w.alloc (.cells #[.int .i64 W, .slice a n cap] 26)) (N := w.heap.size + 1) 0 (.slice none 0 0) (by simp)
  have hb := ((Below.refl w.heap.size w).alloc (Nat.le_refl _) (.cells #[.int .i64 W, .slice a n cap] 26)).alloc (by simp) (.cells #[.int .i64 0, .slice none 0 0] 26)
  have hsz : ((w.alloc (.cells #[.int .i64 W, .slice a n cap] 26)).alloc (.cells #[.int .i64 0, .slice none 0 0] 26)).heap.size = w.heap.size + 1 + 1 := by simp
  generalize ((w.alloc (.cells #[.int .i64 W, .slice a n cap] 26)).alloc (.cells #[.int .i64 0, .slice none 0 0] 26)) = W1 at *
  refine (sCopy B n cap a W l W1 hn (H.out.on (hb.mono hB)) (Nat.le_trans hB hb.size)).mono ?_
  rintro e w2 ⟨g, cp, rfl, hown, hb2⟩
  have hgl := hown.lt g rfl
  rw [hsz] at hown hgl
  have hbx2 := hbox.on hb2 hbox.lt
  have hrs2 := hres.on hb2 hres.lt
  have HB2 := Lib.hid (hb.trans (hb2.mono hb.size))
  have hsz2 := HB2.out.size
  clear hb hb2 hbox hres
  have hv3 := RgAt.new (w := w2) W (.slice (some ⟨g, 0, none⟩) n cp) rfl
  have hbx3 := hbx2.alloc (.cells #[.int .i64 W, .slice (some ⟨g, 0, none⟩) n cp] 26)
  have hrs3 := hrs2.alloc (.cells #[.int .i64 W, .slice (some ⟨g, 0, none⟩) n cp] 26)
  have hown3 := hown.alloc (.cells #[.int .i64 W, .slice (some ⟨g, 0, none⟩) n cp] 26)
  have HB3 := Lib.hid (HB2.out.alloc hsz2 (.cells #[.int .i64 W, .slice (some ⟨g, 0, none⟩) n cp] 26))
  have hsz3 : (w2.alloc (.cells #[.int .i64 W, .slice (some ⟨g, 0, none⟩) n cp] 26)).heap.size = w2.heap.size + 1 := by simp
  clear hbx2 hrs2 hown
  obtain ⟨vb, hvb⟩ : ∃ vb, w2.heap.size = vb := ⟨_, rfl⟩
  rw [hvb] at hv3 hsz3 hgl
  have hc0 := hbx3.c0
  have hc1 := hbx3.c1
  go_wp2_with fail
  generalize (w2.alloc (.cells #[.int .i64 W, .slice (some ⟨g, 0, none⟩) n cp] 26)) = w3 at *
  clear hc0 hc1
  refine (sInReg B n cap a W l x y w3 (by omega) (H.out.on (HB3.out.mono hB)) (Nat.le_trans hB HB3.out.size)).mono ?_
  rintro e w4 ⟨rfl, hb4⟩
  have hv4 := hv3.on hb4 hv3.lt
  have hrs4 := hrs3.on hb4 hrs3.lt
  have hown4 := hown3.kept (grow_below hb4 none) (.inr (by intro e; cases e))
  have HB4 := Lib.hid (HB3.out.trans (hb4.mono HB3.out.size))
  have HR4 := Lib.hid hrs4
  have v0 := hv4.c0
  have v1 := hv4.c1
  have q0 := hrs4.c0
  have q1 := hrs4.c1
  have q2 := hrs4.f 0
  have q3 := hrs4.f 1
  clear hb4 hv3 hrs3 hown3 hbx3 hrs4
  cases h : cellB W l x y with
  | false =>
    have HO4 := Lib.hid (show w4.ownsRow (w.heap.size + 1 + 1) 3 1 (.slice (some ⟨g, 0, none⟩) n cp) n (iv (remR W l x y)) from by rw [remR_no h]; exact hown4)
    have HF := Lib.hid h
    clear hown4 h
    go_wp2
    have R9 := HR4.out.set2 W (.slice (some ⟨g, 0, none⟩) n cp)
    have e0 := R9.c0
    have e1 := R9.c1
    have HO9 := Lib.hid (own_below (own_far (b := w.heap.size + 1) (o := 1) (u := .slice (some ⟨g, 0, none⟩) n cp) (own_far (b := w.heap.size + 1) (o := 0) (u := .int .i64 W) HO4.out (by omega)) (by omega)) (show w.heap.size ≤ w.heap.size + 1 + 1 by omega))
    have HB9 := Lib.hid ((HB4.out.setCell (p := ⟨w.heap.size + 1, 0, none⟩) (by show w.heap.size ≤ w.heap.size + 1; omega) (.int .i64 W)).setCell (p := ⟨w.heap.size + 1, 1, none⟩) (by show w.heap.size ≤ w.heap.size + 1; omega) (.slice (some ⟨g, 0, none⟩) n cp))
    generalize ((w4.setCell ⟨w.heap.size + 1, 0, none⟩ (.int .i64 W)).setCell ⟨w.heap.size + 1, 1, none⟩ (.slice (some ⟨g, 0, none⟩) n cp)) = w9 at *
    exact bodyPost_ret (v := .tuple #[.agg #[.int .i64 W, .slice (some ⟨g, 0, none⟩) n cp], .bool false]) (by simp [results, Tryz.results136, go_sem, e0, e1]) rfl ⟨_, _, by rw [HF.out], HO9.out, HB9.out⟩
  | true =>
    have HM := Lib.hid (remR_yes h)
    obtain ⟨N, u, v, rfl, rfl, rfl, hr, hu, hv, htb⟩ := cellB_out h
    have hnat := hr.nat hv
    have hx6 : u < 6 := by have := hr.w6; omega
    have hcv := clr_val hnat.2.2 hx6 htb
    have HF := Lib.hid h
    rw [hln] at hv
    have p1 := hown4.cellAt v (by omega)
    rw [iv_get _ _ (by rw [hln]; exact hv), hnat.1] at p1
    have p2 := hown4.frozenAt v
    have hs := hown4.stored v (.int .i64 ((clrN (rN l v) u : Nat) : Int))
    rw [iv_set, ← clr_at, ← HM.out] at hs
    have HS := Lib.hid hs
    obtain ⟨z, hz⟩ : ∃ z, rN l v = z := ⟨_, rfl⟩
    rw [hz] at hcv p1 HS
    obtain ⟨c, hcc⟩ : ∃ c, ((clrN z u : Nat) : Int) = c := ⟨_, rfl⟩
    rw [hcc] at hcv HS
    clear hs hown4 hr hnat htb hcc hz h
    have hv0 : (0 : Int) ≤ (v : Int) := by omega
    have hv1 : (v : Int) < (n : Int) := by omega
    have hgv : g ≠ vb := by omega
    go_wp2_with fail
    go_region
    have hv5 : RgAt (w4.setCell ⟨g, v, none⟩ (.int .i64 c)).drew vb N (.slice (some ⟨g, 0, none⟩) n cp) := RgAt.far (w := w4) hv4 hgv
    have hr5 : RgAt (w4.setCell ⟨g, v, none⟩ (.int .i64 c)).drew (w.heap.size + 1) 0 (.slice none 0 0) := RgAt.far (w := w4) HR4.out (by omega)
    have HO5 := Lib.hid (show (w4.setCell ⟨g, v, none⟩ (.int .i64 c)).drew.ownsRow (w.heap.size + 1 + 1) 3 1 (.slice (some ⟨g, 0, none⟩) n cp) n (iv (remR N l u v)) from HS.out.1)
    have HB5 := Lib.hid ((HB4.out.setCell (p := ⟨g, v, none⟩) (by show w.heap.size ≤ g; omega) (.int .i64 c)).drew)
    generalize (w4.setCell ⟨g, v, none⟩ (.int .i64 c)).drew = w5 at *
    have v0 := hv5.c0
    have v1 := hv5.c1
    have q0 := hr5.c0
    have q1 := hr5.c1
    have q2 := hr5.f 0
    have q3 := hr5.f 1
    clear HS HB4 HR4
    simp only [Exit.then]
    go_wp2
    have R9 := hr5.set2 N (.slice (some ⟨g, 0, none⟩) n cp)
    have e0 := R9.c0
    have e1 := R9.c1
    have HO9 := Lib.hid (own_below (own_far (b := w.heap.size + 1) (o := 1) (u := .slice (some ⟨g, 0, none⟩) n cp) (own_far (b := w.heap.size + 1) (o := 0) (u := .int .i64 N) HO5.out (by omega)) (by omega)) (show w.heap.size ≤ w.heap.size + 1 + 1 by omega))
    have HB9 := Lib.hid ((HB5.out.setCell (p := ⟨w.heap.size + 1, 0, none⟩) (by show w.heap.size ≤ w.heap.size + 1; omega) (.int .i64 N)).setCell (p := ⟨w.heap.size + 1, 1, none⟩) (by show w.heap.size ≤ w.heap.size + 1; omega) (.slice (some ⟨g, 0, none⟩) n cp))
    generalize ((w5.setCell ⟨w.heap.size + 1, 0, none⟩ (.int .i64 N)).setCell ⟨w.heap.size + 1, 1, none⟩ (.slice (some ⟨g, 0, none⟩) n cp)) = w9 at *
    exact bodyPost_ret (v := .tuple #[.agg #[.int .i64 N, .slice (some ⟨g, 0, none⟩) n cp], .bool true]) (by simp [results, Tryz.results136, go_sem, e0, e1]) rfl ⟨_, _, by rw [HF.out], HO9.out, HB9.out⟩
end

section
theorem maxTo_ge (f : Cl → Int) (l : List Cl) : ∀ (k j : Nat), j < k → f (l.getD j (0, 0)) + 1 ≤ maxTo f l k
  | 0, j, h => by omega
  | k + 1, j, h => by
    rw [maxTo_step]
    by_cases e : j = k
    · subst e; split <;> omega
    · have := maxTo_ge f l k j (by omega)
      split <;> omega
theorem maxTo_le8 (f : Cl → Int) (l : List Cl) (h : ∀ c ∈ l, 0 ≤ f c ∧ f c ≤ 7) : ∀ k, k ≤ l.length → 0 ≤ maxTo f l k ∧ maxTo f l k ≤ 8
  | 0, _ => by simp [maxTo]
  | k + 1, hk => by
    have h1 := maxTo_le8 f l h k (by omega)
    have h2 := h _ (getD_mem (l := l) (j := k) (by omega))
    rw [maxTo_step]
    split <;> omega
/-- The frame of a shape in its corner. -/
theorem corner_frame {l : List Cl} (h : isShape l = true) : ∃ W H : Nat, wideC l = W ∧ highC l = H ∧ W ≤ 8 ∧ H ≤ 8 ∧ InsF (cornerC l) (-1) W (-1) H := by
  have hc : cornS l = cornerC l := if_pos h
  have hs := isShape_corner h
  have hin : ∀ c ∈ cornerC l, 0 ≤ c.1 ∧ c.1 ≤ 7 ∧ 0 ≤ c.2 ∧ c.2 ≤ 7 := fun c hc => inP_out (((isShape_iff _).1 hs).2.1 c hc)
  have h1 := maxTo_le8 Prod.fst (cornerC l) (fun c hc => by have := hin c hc; omega) _ (Nat.le_refl _)
  have h2 := maxTo_le8 Prod.snd (cornerC l) (fun c hc => by have := hin c hc; omega) _ (Nat.le_refl _)
  refine ⟨(wideC l).toNat, (highC l).toNat, ?_, ?_, ?_, ?_, fun c hc9 => ?_⟩
  · unfold wideC; rw [hc]; omega
  · unfold highC; rw [hc]; omega
  · unfold wideC; rw [hc]; omega
  · unfold highC; rw [hc]; omega
  · obtain ⟨j, hj, rfl⟩ := mem_getD hc9
    have h3 := maxTo_ge Prod.fst (cornerC l) _ j hj
    have h4 := maxTo_ge Prod.snd (cornerC l) _ j hj
    have h5 := hin _ (getD_mem hj)
    unfold wideC highC
    rw [hc]
    omega
theorem inb_iff (x lo hi : Int) : inb x lo hi = true ↔ lo ≤ x ∧ x ≤ hi := by unfold inb; rw [Bool.and_eq_true, decide_eq_true_eq, decide_eq_true_eq]
theorem hasC_false {l : List Cl} {p q : Int} (h : hasC l p q = false) : (p, q) ∉ l := by
  have := hasC_iff l (p, q)
  dsimp only at this
  rw [← this, h]
  simp
theorem hasC_true {l : List Cl} {p q : Int} (h : hasC l p q = true) : (p, q) ∈ l := (hasC_iff l (p, q)).1 h
def inBox (W H : Nat) (q : Cl) : Prop := inFr (-1) (W : Int) (-1) (H : Int) q
theorem inBox_out {W H : Nat} {q : Cl} (hW : W ≤ 8) (hH : H ≤ 8) (h : inBox W H q) : (-1 ≤ q.1 ∧ q.1 ≤ 8) ∧ -1 ≤ q.2 ∧ q.2 ≤ 8 := by
  unfold inBox inFr at h
  omega
/-- The queue of all that is outside. -/
abbrev OQ (c : List Cl) (W H : Nat) (sn : List Cl) (i k : Nat) : Prop := Bq (fun q => inBox W H q ∧ q ∉ c) (fun q => inBox W H q ∧ OutP c q) [] sn i k
theorem OQ.skip {c sn : List Cl} {W H i k : Nat} {p q : Int} (h : OQ c W H sn i k) (e : nbC (sn.getD i (0, 0)) k = (p, q)) (hno : inb p (-1) W = false ∨ inb q (-1) H = false ∨ hasC c p q = true ∨ hasC sn p q = true) : OQ c W H sn i (k + 1) := by
  refine Bq.skip h fun ha => ?_
  rw [e] at ha ⊢
  obtain ⟨h1, h2⟩ := ha
  unfold inBox inFr at h1
  dsimp only at h1
  rcases hno with h3 | h3 | h3 | h3
  · rw [(inb_iff p (-1) W).2 ⟨h1.1, h1.2.1⟩] at h3; cases h3
  · rw [(inb_iff q (-1) H).2 ⟨h1.2.2.1, h1.2.2.2⟩] at h3; cases h3
  · exact absurd (hasC_true h3) h2
  · exact hasC_true h3
theorem OQ.add {c sn : List Cl} {W H i k : Nat} {p q : Int} (h : OQ c W H sn i k) (hi : i < sn.length) (hk : k < 4) (e : nbC (sn.getD i (0, 0)) k = (p, q)) (h1 : inb p (-1) W = true) (h2 : inb q (-1) H = true) (h3 : hasC c p q = false) (h4 : hasC sn p q = false) : OQ c W H (sn ++ [(p, q)]) i (k + 1) := by
  refine Bq.add h hi e (hasC_false h4) ?_
  have ha := h.all i (by simp) hi
  have hc := hasC_false h3
  refine ⟨?_, ha.2.pth ?_⟩
  · have := (inb_iff _ _ _).1 h1
    have := (inb_iff _ _ _).1 h2
    unfold inBox inFr
    dsimp only
    omega
  · rw [← e]
    exact .one ha.2.free hk (by rw [e]; exact hc)
theorem OQ.len {c sn : List Cl} {W H i k : Nat} (hW : W ≤ 8) (hH : H ≤ 8) (h : OQ c W H sn i k) : sn.length ≤ 100 :=
  in_grid h.nodup hW hH fun q hq => by
    obtain ⟨j, hj, rfl⟩ := mem_getD hq
    exact (h.all j (by simp) hj).1
theorem OQ.start {c : List Cl} {W H : Nat} (hc : InsF c (-1) W (-1) H) : OQ c W H [(-1, -1)] 0 0 :=
  Bq.start _ _ [] (-1, -1) (by simp) (by simp) ⟨by unfold inBox inFr; dsimp only; omega, out_left fun d hd => by have := hc d hd; dsimp only; omega⟩
/-- The queue of a hole. -/
abbrev HQ (c : List Cl) (x y : Int) (old sn : List Cl) (i k : Nat) : Prop := Bq (fun q => q ∉ c) (Pth c (x, y)) old sn i k
theorem HQ.skip {c old sn : List Cl} {x y : Int} {i k : Nat} {p q : Int} (h : HQ c x y old sn i k) (e : nbC (sn.getD i (0, 0)) k = (p, q)) (hno : hasC c p q = true ∨ hasC sn p q = true) : HQ c x y old sn i (k + 1) := by
  refine Bq.skip h fun ha => ?_
  rw [e] at ha ⊢
  rcases hno with h3 | h3
  · exact absurd (hasC_true h3) ha
  · exact hasC_true h3
theorem HQ.add {c old sn : List Cl} {x y : Int} {i k : Nat} {p q : Int} (h : HQ c x y old sn i k) (ho : old.length ≤ i) (hi : i < sn.length) (hk : k < 4) (e : nbC (sn.getD i (0, 0)) k = (p, q)) (h3 : hasC c p q = false) (h4 : hasC sn p q = false) : HQ c x y old (sn ++ [(p, q)]) i (k + 1) := by
  refine Bq.add h hi e (hasC_false h4) ?_
  have ha := h.all i ho hi
  rw [← e]
  exact .step k ha hk (by rw [e]; exact hasC_false h3)
theorem HQ.box {c old sn : List Cl} {x y : Int} {W H i k : Nat} (hc : InsF c (-1) W (-1) H) (hold : ∀ q, q ∈ old ↔ inBox W H q ∧ Seen c (x, y) q) (hp : Lead c (x, y)) (h : HQ c x y old sn i k) : ∀ q ∈ sn, inBox W H q := fun q hq => by
  obtain ⟨new, hnew⟩ := h.pre
  obtain ⟨j, hj, rfl⟩ := mem_getD hq
  by_cases h1 : j < old.length
  · have : sn.getD j (0, 0) ∈ old := by rw [hnew, getD_app h1]; exact getD_mem h1
    exact ((hold _).1 this).1
  · have h2 := h.all j (by omega) hj
    have := inner_of hc (q := sn.getD j (0, 0)) (fun ho => hp.2.1 (ho.pth h2.symm))
    unfold inBox inFr
    omega
theorem HQ.len {c old sn : List Cl} {x y : Int} {W H i k : Nat} (hc : InsF c (-1) W (-1) H) (hW : W ≤ 8) (hH : H ≤ 8) (hold : ∀ q, q ∈ old ↔ inBox W H q ∧ Seen c (x, y) q) (hp : Lead c (x, y)) (h : HQ c x y old sn i k) : sn.length ≤ 100 := in_grid h.nodup hW hH (h.box hc hold hp)
noncomputable def holP (l : List Cl) : Int := if isShape l = true then (holesN l : Int) else -1
theorem holP_yes {l : List Cl} (h : isShape l = true) : holP l = holesN l := if_pos h
theorem holP_no {l : List Cl} (h : isShape l = false) : holP l = -1 := if_neg (by rw [h]; simp)
theorem insF_shape {l : List Cl} (h : isShape l = true) : InsF l (-1) 8 (-1) 8 := fun c hc => by
  have := inP_out (((isShape_iff l).1 h).2.1 c hc)
  omega
end

section
open Go.RowKit Go.Maps

def shpOk (l : List Cl) : Bool := inb (wideC l) 1 6 && inb (highC l) 1 6
def shpW (l : List Cl) : Int := if shpOk l = true then wideC l else 0
def shpL (l : List Cl) : List Int := if shpOk l = true then rowsOf (highC l).toNat (cornS l) else []
theorem shp_no {l : List Cl} (h : shpOk l = false) : shpW l = 0 ∧ shpL l = [] := ⟨if_neg (by rw [h]; simp), if_neg (by rw [h]; simp)⟩
theorem shp_yes {l : List Cl} (h : shpOk l = true) : shpW l = wideC l ∧ shpL l = rowsOf (highC l).toNat (cornS l) := ⟨if_pos h, if_pos h⟩
/-- A shape that fits: the grid around it. -/
theorem shp_out {l : List Cl} (h : shpOk l = true) : ∃ N M : Nat, wideC l = N ∧ highC l = M ∧ (1 ≤ N ∧ N ≤ 6) ∧ (1 ≤ M ∧ M ≤ 6) ∧ isShape l = true ∧ (∀ c ∈ cornS l, inG N M c) ∧ (cornS l).Nodup ∧ (cornS l).length ≤ 8 := by
  unfold shpOk at h
  rw [Bool.and_eq_true] at h
  have h1 := inb_outS h.1
  have h2 := inb_outS h.2
  cases hs : isShape l with
  | false =>
    have := (size_no hs).1
    omega
  | true =>
    obtain ⟨N, M, e1, e2, _, _, hin⟩ := corner_frame hs
    have hcs : cornS l = cornerC l := if_pos hs
    have hsh := isShape_corner hs
    obtain ⟨hlen, _, hsrt⟩ := (isShape_iff _).1 hsh
    refine ⟨N, M, e1, e2, by omega, by omega, rfl, fun c hc => ?_, by rw [hcs]; exact srt_nodup hsrt, by rw [hcs]; omega⟩
    rw [hcs] at hc
    have := hin c hc
    unfold inG
    omega
theorem rowsOf_len (H : Nat) : ∀ cs : List Cl, (rowsOf H cs).length = H := by
  have key : ∀ (cs : List Cl) (l : List Int), (cs.foldl setB l).length = l.length := by
    intro cs
    induction cs with
    | nil => intro l; rfl
    | cons c cs ih => intro l; rw [List.foldl_cons, ih]; unfold setB; rw [List.length_set]
  intro cs
  unfold rowsOf
  rw [key]
  simp [zerosR]
theorem shpL_len (l : List Cl) : (shpL l).length ≤ 6 := by
  cases h : shpOk l with
  | false => rw [(shp_no h).2]; simp
  | true =>
    obtain ⟨N, M, _, e2, _, hM, _⟩ := shp_out h
    rw [(shp_yes h).2, rowsOf_len, e2]
    omega
/-- One cell more: what is stored. -/
theorem rows_next {N M : Nat} {cs : List Cl} (hN : 1 ≤ N ∧ N ≤ 6) (hM : 1 ≤ M ∧ M ≤ 6) (hin : ∀ c ∈ cs, inG N M c) (hnd : cs.Nodup) {k : Nat} (hk : k < cs.length) {u v : Nat} (he : cs.getD k (0, 0) = ((u : Int), (v : Int))) :
    u < N ∧ v < M ∧ rN (rowsOf M (cs.take k)) v < 64 ∧ (rN (rowsOf M (cs.take k)) v).testBit u = false ∧ (rowsOf M (cs.take k)).getD v 0 = (rN (rowsOf M (cs.take k)) v : Int) ∧
    (rowsOf M (cs.take k)).set v ((rN (rowsOf M (cs.take k)) v ||| 2 ^ u : Nat) : Int) = rowsOf M (cs.take (k + 1)) := by
  have hg := hin _ (getD_mem hk)
  rw [he] at hg
  unfold inG at hg
  dsimp only at hg
  obtain ⟨hr, hb⟩ := rowsOf_facts hN.1 hN.2 hM.1 hM.2 (cs := cs.take k) (fun c hc => hin c (List.mem_of_mem_take hc))
  have hv : v < M := by omega
  have hnat := hr.nat hv
  refine ⟨by omega, hv, hnat.2.2, ?_, hnat.1, ?_⟩
  · cases h : (rN (rowsOf M (cs.take k)) v).testBit u with
    | false => rfl
    | true =>
      have h2 := (hb ((u : Int), (v : Int))).1 (by rw [bt_nat]; exact h)
      rw [← he] at h2
      obtain ⟨j, hj, e⟩ := mem_getD h2
      rw [List.length_take] at hj
      have hj2 : j < k := by omega
      have e2 : (cs.take k).getD j (0, 0) = cs.getD j (0, 0) := by simp [List.getD, hj2]
      rw [e2] at e
      have hjl : j < cs.length := by omega
      have : cs[j] = cs[k] := by simpa [List.getD, hjl, hk] using e
      have := (List.getElem_inj hnd).1 this
      omega
  · rw [List.take_succ_eq_append_getElem hk, rowsOf_snoc]
    have e3 : cs[k] = ((u : Int), (v : Int)) := by simpa [List.getD, hk] using he
    rw [e3, set_at]
theorem add_val {n x : Nat} (hn : n < 64) (hx : x < 6) (hb : n.testBit x = false) : wrap64 ((n : Int) + wrap64 ((2 : Int) ^ x)) = ((n ||| 2 ^ x : Nat) : Int) := by
  rw [pw64 x (by omega)]
  obtain ⟨m, hm, e⟩ := pw_nat x
  have h1 := add_bit n hn x hx hb
  have h2 : (2 : Nat) ^ x ≤ 2 ^ 6 := Nat.pow_le_pow_right (by omega) (by omega)
  rw [← h1, e]
  rw [hm] at h2 ⊢
  rw [show ((n + m : Nat) : Int) = (n : Int) + m by omega]
  exact IntWalk.wrap64_in _ (by omega)
end

section
open Go.RowKit

/-- The four cells beside one, as the program's array. -/
def nbv (c : Cl) : Value := .agg #[.int .i64 (nbC c 0).1, .int .i64 (nbC c 0).2, .int .i64 (nbC c 1).1, .int .i64 (nbC c 1).2, .int .i64 (nbC c 2).1, .int .i64 (nbC c 2).2, .int .i64 (nbC c 3).1, .int .i64 (nbC c 3).2]
theorem row_new (w : World) (t : TypeId) (c : Array Value) (j : Nat) : (w.alloc (.cells c t)).cell? ⟨w.heap.size, j, none⟩ = c[j]? := cell_of_row _ w.heap.size j c t (0, 0) (heap_alloc_new _ _)
end

section
open Go.RowKit

theorem Rg.in64 {W H : Nat} {l : List Int} (h : Rg W H l) : ∀ z ∈ l, In64 z := by
  intro z hz
  obtain ⟨j, hj, rfl⟩ := List.mem_iff_getElem.1 hz
  have h1 := h.nat (y := j) (by rw [← h.len]; exact hj)
  have e : l.getD j 0 = l[j] := by simp [List.getD, hj]
  rw [e] at h1
  unfold In64
  omega
theorem cells_less {W H : Nat} {F G : List Int} (hF : Rg W H F) (hG : Rg W H G) (hs : ∀ q, bt G q = true → bt F q = true) {c : Cl} (hc : bt F c = true) (hn : ¬ bt G c = true) : (cellsB W H G).length < (cellsB W H F).length := by
  have := nodup_sub_len (c :: cellsB W H G) (cellsB W H F) (List.nodup_cons.2 ⟨fun h => hn ((mem_cellsB hG c).1 h), srt_nodup (cellsB_srt _ _ _)⟩) (fun x hx => by
    rcases List.mem_cons.1 hx with rfl | hx
    · exact (mem_cellsB hF _).2 hc
    · exact (mem_cellsB hF x).2 (hs x ((mem_cellsB hG x).1 hx)))
  rw [List.length_cons] at this
  omega
theorem nb_rng {u v : Nat} (hu : u < 6) (hv : v < 6) {d : Nat} (hd : d < 4) : (-1 ≤ (nbC ((u : Int), (v : Int)) d).1 ∧ (nbC ((u : Int), (v : Int)) d).1 ≤ 10) ∧ -1 ≤ (nbC ((u : Int), (v : Int)) d).2 ∧ (nbC ((u : Int), (v : Int)) d).2 ≤ 10 := by
  have : d = 0 ∨ d = 1 ∨ d = 2 ∨ d = 3 := by omega
  rcases this with rfl | rfl | rfl | rfl <;> simp [nbC] <;> omega

/-- Of what was below B nothing has turned but two blocks. -/
structure Bu2 (B f t : Nat) (w w' : World) : Prop where
  os : w'.os = w.os
  tape : w'.tape = w.tape
  output : w'.output = w.output
  size : w.heap.size ≤ w'.heap.size
  block : ∀ k, k < B → k ≠ f → k ≠ t → w'.heap[k]? = w.heap[k]?
theorem Bu2.refl (B f t : Nat) (w : World) : Bu2 B f t w w := ⟨rfl, rfl, rfl, Nat.le_refl _, fun _ _ _ _ => rfl⟩
theorem Bu2.trans {B f t : Nat} {x y z : World} (h : Bu2 B f t x y) (k : Bu2 B f t y z) : Bu2 B f t x z :=
  ⟨k.os.trans h.os, k.tape.trans h.tape, k.output.trans h.output, Nat.le_trans h.size k.size, fun i hi h1 h2 => (k.block i hi h1 h2).trans (h.block i hi h1 h2)⟩
theorem Bu2.mono {B B' f t : Nat} {w w' : World} (h : Bu2 B f t w w') (hB : B' ≤ B) : Bu2 B' f t w w' := ⟨h.os, h.tape, h.output, h.size, fun k hk => h.block k (Nat.lt_of_lt_of_le hk hB)⟩
theorem Bu2.of_below {B f t : Nat} {w w' : World} (h : Below B w w') : Bu2 B f t w w' := ⟨h.os, h.tape, h.output, h.size, fun k hk _ _ => h.block k hk⟩
theorem Bu2.below {B f t : Nat} {w w' : World} (h : Bu2 B f t w w') {B' : Nat} (h1 : B' ≤ B) (h2 : B' ≤ f) (h3 : B' ≤ t) : Below B' w w' := ⟨h.os, h.tape, h.output, h.size, fun k hk => h.block k (by omega) (by omega) (by omega)⟩
theorem Bu2.setF {B f t : Nat} {x w : World} (h : Bu2 B f t x w) (k : Nat) (v : Value) (n : Nat) : Bu2 B f t x ((w.setCell ⟨f, k, none⟩ v).drewN n) :=
  ⟨h.os, h.tape, h.output, by have := h.size; simpa [World.setCell] using this, fun j hj h1 h2 => (heap_setCell_other w ⟨f, k, none⟩ j v h1).trans (h.block j hj h1 h2)⟩
theorem Bu2.setT {B f t : Nat} {x w : World} (h : Bu2 B f t x w) (k : Nat) (v : Value) (n : Nat) : Bu2 B f t x ((w.setCell ⟨t, k, none⟩ v).drewN n) :=
  ⟨h.os, h.tape, h.output, by have := h.size; simpa [World.setCell] using this, fun j hj h1 h2 => (heap_setCell_other w ⟨t, k, none⟩ j v h2).trans (h.block j hj h1 h2)⟩
theorem RgAt.bu {w w' : World} {B f t g : Nat} {W : Int} {v : Value} (h : RgAt w g W v) (hb : Bu2 B f t w w') (hlt : g < B) (h1 : g ≠ f) (h2 : g ≠ t) : RgAt w' g W v := (hb.block g hlt h1 h2).trans h

/-- What a call on two regions of one grid has moved so far. -/
structure MvS (N M b1 b2 f t : Nat) (F T : List Int) (w : World) (G T2 : List Int) (w' : World) : Prop where
  rg : Rg N M G
  rt : Rg N M T2
  all : ∀ q, bt T2 q = true ↔ bt T q = true ∨ (bt F q = true ∧ ¬ bt G q = true)
  of : w'.ownsRow b1 3 1 (.slice (some ⟨f, 0, none⟩) M M) M (iv G)
  ot : w'.ownsRow b2 3 1 (.slice (some ⟨t, 0, none⟩) M M) M (iv T2)
  bu : Bu2 w.heap.size f t w w'
theorem MvS.start {N M b1 b2 f t : Nat} {F T : List Int} {w : World} (h1 : Rg N M F) (h2 : Rg N M T) (h3 : w.ownsRow b1 3 1 (.slice (some ⟨f, 0, none⟩) M M) M (iv F)) (h4 : w.ownsRow b2 3 1 (.slice (some ⟨t, 0, none⟩) M M) M (iv T)) : MvS N M b1 b2 f t F T w F T w :=
  ⟨h1, h2, fun _ => ⟨.inl, fun h => h.elim id fun h => absurd h.1 h.2⟩, h3, h4, Bu2.refl _ _ _ _⟩
theorem MvS.again {N M b1 b2 f t : Nat} {F T G T2 : List Int} {w w' : World} (h : MvS N M b1 b2 f t F T w G T2 w') : MvS N M b1 b2 f t G T2 w' G T2 w' := .start h.rg h.rt h.of h.ot
theorem MvS.on {N M b1 b2 f t : Nat} {F T G T2 : List Int} {w w' w2 : World} (h : MvS N M b1 b2 f t F T w G T2 w') (hb : Below w'.heap.size w' w2) : MvS N M b1 b2 f t F T w G T2 w2 :=
  ⟨h.rg, h.rt, h.all, h.of.kept (grow_below hb none) (.inr (by intro e; cases e)), h.ot.kept (grow_below hb none) (.inr (by intro e; cases e)), h.bu.trans (Bu2.of_below (hb.mono h.bu.size))⟩
theorem MvS.trans {N M b1 b2 f t : Nat} {F T G T2 G' T3 : List Int} {w w1 w2 : World} (h : MvS N M b1 b2 f t F T w G T2 w1) (k : MvS N M b1 b2 f t G T2 w1 G' T3 w2) (h1 : ∀ q, bt G q = true → bt F q = true) (h2 : ∀ q, bt G' q = true → bt G q = true) : MvS N M b1 b2 f t F T w G' T3 w2 :=
  ⟨k.rg, k.rt, fun q => by
    rw [k.all q, h.all q]
    constructor
    · rintro ((a | a) | a)
      · exact .inl a
      · exact .inr ⟨a.1, fun b => a.2 (h2 q b)⟩
      · exact .inr ⟨h1 q a.1, a.2⟩
    · rintro (a | a)
      · exact .inl (.inl a)
      · by_cases b : bt G q = true
        · exact .inr ⟨b, a.2⟩
        · exact .inl (.inr ⟨a.1, b⟩), k.of, k.ot, h.bu.trans (k.bu.mono h.bu.size)⟩
end

end Go.Proofs.YtkjlmgkjcmebbaaGreatDoor
