/-
  The law on all motions (FnMotions): its walk, out of the contracts of the functions that it calls.
-/
import Derived.Test.YtecfabhpjihcbaaGreatDmo
import Derived.Test.YtecfabhpjihcbaaGreatLss
import Derived.Test.YtecfabhpjihcbaaGreatLsi
import Derived.Test.YtecfabhpjihcbaaGreatJsy
import Derived.Test.YtecfabhpjihcbaaGreatJot
import Derived.Test.YtecfabhpjihcbaaGreatJcm
import Derived.Test.YtecfabhpjihcbaaGreatJmo
import Derived.Test.YtecfabhpjihcbaaGreatMo5
import Derived.Test.YtecfabhpjihcbaaGreatMo7
import Derived.Test.YtecfabhpjihcbaaGreatCor
import Derived.OpenShut
namespace Go.Proofs.YtecfabhpjihcbaaGreat
open Go.RowKit

theorem eqb_self (l : List Cl) : eqb l l = true := by simp [eqb]
theorem codeUp {B B' : Nat} {w : World} {a : Option Addr} {len cap : Nat} (h : Code B w a len cap) (hB : B ≤ B') : Code B' w a len cap :=
  ⟨h.1, fun hp => by
    obtain ⟨b, off, e, hlt, hc⟩ := h.2 hp
    exact ⟨b, off, e, Nat.lt_of_lt_of_le hlt hB, hc⟩⟩
/-- What every step of the walk keeps: the memory of before, the bytes that came in. -/
def St3 (W w : World) (a : Option Addr) (n c : Nat) : Prop := Below W.heap.size W w ∧ Code w.heap.size w a n c
theorem St3.go {W w w' : World} {a : Option Addr} {n c : Nat} (h : St3 W w a n c) (hb : Below w.heap.size w w') : St3 W w' a n c :=
  ⟨h.1.trans (hb.mono h.1.size), codeUp (h.2.on hb) hb.size⟩
theorem atGo {w w' : World} {a : Option Addr} {n : Nat} {l : List Cl} (h : CellsAt w.heap.size w a n l) (hb : Below w.heap.size w w') : CellsAt w'.heap.size w' a n l := (h.on hb).more hb.size
theorem own_sl3 {w : World} {base n : Nat} {v : Value} {xs : List Value} (h : w.ownsRow base 55 2 v n xs) : ∃ a cap, v = .slice a n cap := by
  rcases h.2 with ⟨rfl, rfl⟩ | ⟨g, cap, cur, rfl, _⟩
  · exact ⟨_, _, rfl⟩
  · exact ⟨_, _, rfl⟩
theorem shape_inC {l : List Cl} (h : isShape l = true) : ∀ c ∈ l, InC c := fun c hc => inP_in (((isShape_iff l).1 h).2.1 c hc)
theorem turnS_cases (k : Int) (l : List Cl) : turnS k l = [] ∨ (isShape l = true ∧ (0 ≤ k ∧ k ≤ 7) ∧ turnS k l = turnC k.toNat l) := by
  unfold turnS
  split
  · rename_i h
    rw [Bool.and_eq_true] at h
    exact .inr ⟨h.1, inb_out h.2, rfl⟩
  · exact .inl rfl
theorem turnS_inC (k : Int) (l : List Cl) : ∀ c ∈ turnS k l, InC c := by
  rcases turnS_cases k l with h | ⟨h1, h2, h3⟩
  · rw [h]; intro c hc; cases hc
  · rw [h3]; exact shape_inC (isShape_turn (by omega) h1)
theorem turnS_len8 (k : Int) (l : List Cl) : (turnS k l).length ≤ 8 := by
  rcases turnS_cases k l with h | ⟨h1, h2, h3⟩
  · rw [h]; simp
  · rw [h3]; exact ((isShape_iff _).1 (isShape_turn (by omega) h1)).1.2
theorem turn_facts (k : Int) (l : List Cl) : (isShape l && inb k 0 7) = true → turnS (invI k) (turnS k l) = cornS l ∧ congS l (turnS k l) = true ∧ canonS (turnS k l) = canonS l := by
  intro h
  have e : turnS k l = turnC k.toNat l := if_pos h
  rw [Bool.and_eq_true] at h
  have hk := inb_out h.2
  rw [e]
  exact ⟨(turnS_back h.1 hk.1 hk.2).1, congS_turn (by omega) h.1, canonS_turn (by omega) h.1⟩
theorem orient_le (l : List Cl) : (orientS l).length ≤ 8 := by
  cases h : isShape l with
  | true =>
    have := orient_sym h
    have : 0 < (symS l).length := List.length_pos_iff.2 (symS_ne h)
    exact Nat.le_of_dvd (by omega) ⟨_, (orient_sym h).symm⟩
  | false =>
    have : orientS l = [] := if_neg (by rw [h]; simp)
    rw [this]; simp
theorem symS_le (l : List Cl) : (symS l).length ≤ 8 := by
  unfold symS
  split
  · unfold symTo
    rw [List.length_map]
    exact Nat.le_trans (List.length_filter_le _ _) (by simp)
  · simp
theorem cornS_inC (l : List Cl) : ∀ c ∈ cornS l, InC c := by
  cases h : isShape l with
  | true => exact shape_inC (cornS_shape h)
  | false =>
    have : cornS l = [] := if_neg (by rw [h]; simp)
    rw [this]; intro c hc; cases hc
theorem canonS_cases (l : List Cl) : canonS l = [] ∨ ∃ m, m < 8 ∧ isShape l = true ∧ canonS l = turnC m l := by
  cases h : isShape l with
  | false => exact .inl (canonS_no h)
  | true =>
    right
    have h0 := orient_pos h
    have hm : canonS l ∈ orientS l := by unfold canonS; simp [List.getD, h0]
    unfold orientS at hm
    rw [if_pos h, sortG_mem ordS] at hm
    obtain ⟨m, hm1, e⟩ := List.mem_map.1 hm
    exact ⟨m, List.mem_range.1 hm1, rfl, e.symm⟩
theorem canonS_inC8 (l : List Cl) : ∀ c ∈ canonS l, InC c := by
  rcases canonS_cases l with h | ⟨m, h1, h2, h3⟩
  · rw [h]; intro c hc; cases hc
  · rw [h3]; exact shape_inC (isShape_turn h1 h2)
theorem canonS_len8 (l : List Cl) : (canonS l).length ≤ 8 := by
  rcases canonS_cases l with h | ⟨m, h1, h2, h3⟩
  · rw [h]; simp
  · rw [h3]; exact ((isShape_iff _).1 (isShape_turn h1 h2)).1.2

set_option maxHeartbeats 1000000 in
set_option maxRecDepth 100000 in
theorem lSameSs (B : Nat) (v1 v2 : Value) (L : List (List Cl)) (w : World) (hn : L.length ≤ 4194304) (h1 : SsRd B w v1 L) (h2 : SsRd B w v2 L) (hB : B ≤ w.heap.size) :
    Calls Tryz.prog 16 #[v1, v2] w fun e w' => e = .returned (.bool true) ∧ Below w.heap.size w w' := by
  obtain ⟨a1, c1, rfl, hr1⟩ := h1
  obtain ⟨a2, c2, rfl, hr2⟩ := h2
  have H1 := Lib.hid hr1
  have H2 := Lib.hid hr2
  generalize hN : L.length = n at *
  have HN := Lib.hid hN
  have hne : (((n : Nat) : Int) != (n : Int)) = false := by simp
  clear hr1 hr2 hN
  go_enter Tryz.func16, Tryz.ntmps16
  go_wp2
  go_loopw [5] (fun i wr => ∃ k : Nat, k ≤ n ∧ i = .int .i64 k ∧ Below w.heap.size w wr) (fun i _ => n - (intOf i).toNat)
  case atStart => exact ⟨0, by omega, rfl, Below.refl _ _⟩
  case round =>
    obtain ⟨k, hk, rfl, hb⟩ := hrel
    have hsz := hb.size
    by_cases hlt : k < n
    · obtain ⟨g1, vs1, rfl, hs1⟩ := H1.out (by omega)
      obtain ⟨g2, vs2, rfl, hs2⟩ := H2.out (by omega)
      obtain ⟨b1, d1, p1, hc1, hm1⟩ := (hs1.on (hb.mono hB)).get (k := k) (by rw [HN.out]; exact hlt)
      obtain ⟨b2, d2, p2, hc2, _⟩ := (hs2.on (hb.mono hB)).get (k := k) (by rw [HN.out]; exact hlt)
      obtain ⟨x, hx⟩ : ∃ x, L.getD k [] = x := ⟨_, rfl⟩
      rw [hx] at p1 p2 hc1 hc2 hm1
      have hBr := Nat.le_trans hB hsz
      have hgl1 : g1 < wr.heap.size := Nat.lt_of_lt_of_le hs1.1 hBr
      have hgl2 : g2 < wr.heap.size := Nat.lt_of_lt_of_le hs2.1 hBr
      have HC1 := Lib.hid (hc1.more hBr)
      have HC2 := Lib.hid (hc2.more hBr)
      have HQ := Lib.hid (show eqb x x = true from by simp [eqb])
      have hk0 : (0 : Int) ≤ (k : Int) := by omega
      have hk1 : (k : Int) < (n : Int) := by omega
      have HCL := Lib.hid (fun w' (h9 : Below wr.heap.size wr w') => sEqual_any wr.heap.size x.length x.length d1 d2 b1 b2 x x w' hm1 hm1 (HC1.out.on h9) (HC2.out.on h9) h9.size)
      rw [HQ.out] at HCL
      have hb9 := Below.refl wr.heap.size wr
      clear hc1 hc2 hx hs1 hs2
      go_wp2_with fail
      go_region_held3 (fun w' => w'.cell? ⟨g1, k, none⟩ = some (.slice b1 x.length d1) ∧ w'.cell? ⟨g2, k, none⟩ = some (.slice b2 x.length d2))
        (first | go_keep | exact ⟨(hbw.cell (p := ⟨g1, k, none⟩) hgl1).trans p1, (hbw.cell (p := ⟨g2, k, none⟩) hgl2).trans p2⟩)
        (first | (go_at_call 15; refine (HCL.out _ (by first | exact hb9 | exact hb9.drew)).mono ?_; rintro e w1 ⟨rfl, hbe⟩; have hbw : Below wr.heap.size wr w1 := by first | exact hb9.trans hbe | exact hb9.drew.trans hbe))
      all_goals
        have HB := Lib.hid (hb.trans (hbw.mono hsz))
        clear p1 p2 HCL hb9 hbw hbe HC1 HC2 HQ hb
        (try simp only [Exit.then])
        go_wp2
        go_roundw
        case rel => first | exact ⟨k + 1, by omega, by go_num, HB.out⟩ | ((repeat apply Exists.intro); exact ⟨⟨k + 1, by omega, by go_num, HB.out⟩, rfl⟩)
        case measure => simp [intOf]; omega
    · obtain rfl : k = n := by omega
      go_wp2
      go_ret
      exact ⟨rfl, hb⟩

set_option maxHeartbeats 1000000 in
set_option maxRecDepth 100000 in
theorem lSameI (B : Nat) (v1 v2 : Value) (zs : List Int) (w : World) (hn : zs.length ≤ 4194304) (h1 : IsRd B w v1 zs) (h2 : IsRd B w v2 zs) (hB : B ≤ w.heap.size) :
    Calls Tryz.prog 18 #[v1, v2] w fun e w' => e = .returned (.bool true) ∧ Below w.heap.size w w' := by
  obtain ⟨a1, c1, rfl, hr1⟩ := h1
  obtain ⟨a2, c2, rfl, hr2⟩ := h2
  have H1 := Lib.hid hr1
  have H2 := Lib.hid hr2
  generalize zs.length = n at *
  have hne : (((n : Nat) : Int) != (n : Int)) = false := by simp
  clear hr1 hr2
  go_enter Tryz.func18, Tryz.ntmps18
  go_wp2
  go_loopw [5] (fun i wr => ∃ k : Nat, k ≤ n ∧ i = .int .i64 k ∧ Below w.heap.size w wr) (fun i _ => n - (intOf i).toNat)
  case atStart => exact ⟨0, by omega, rfl, Below.refl _ _⟩
  case round =>
    obtain ⟨k, hk, rfl, hb⟩ := hrel
    have hsz := hb.size
    by_cases hlt : k < n
    · obtain ⟨g1, rfl, hg1, hs1⟩ := H1.out (by omega)
      obtain ⟨g2, rfl, hg2, hs2⟩ := H2.out (by omega)
      have p1 := (hb.cell (p := ⟨g1, k, none⟩) (Nat.lt_of_lt_of_le hg1 hB)).trans (hs1 k hlt)
      have p2 := (hb.cell (p := ⟨g2, k, none⟩) (Nat.lt_of_lt_of_le hg2 hB)).trans (hs2 k hlt)
      generalize zs.getD k 0 = z at p1 p2
      have hk0 : (0 : Int) ≤ (k : Int) := by omega
      have hk1 : (k : Int) < (n : Int) := by omega
      have hzz : (z != z) = false := by simp
      clear hs1 hs2
      go_wp2_with fail
      go_quiet (fail)
      go_wp2
      go_roundw
      case rel => exact ⟨k + 1, by omega, by go_num, below_drewn hb _⟩
      case measure => simp [intOf]; omega
    · obtain rfl : k = n := by omega
      go_wp2
      go_ret
      exact ⟨rfl, hb⟩

set_option maxHeartbeats 16000000 in
set_option maxRecDepth 100000 in
theorem law_Motions (a0 : Option Addr) (len0 cap0 : Nat) (z0 : List Int) (w : World) (w0 : IsRow .u8 w a0 len0 cap0 z0) :
    Calls Tryz.prog 3 #[.slice a0 len0 cap0] w fun e w' => e = .returned (.bool true) ∧ Below w.heap.size w w' := by
  have HC := Lib.hid (code_of_row w0)
  clear w0
  by_cases hs : (1048576 : Int) < len0
  · go_enter Tryz.func3, Tryz.ntmps3
    go_wp2_with (first | (go_at_call 4; go_in))
    go_ret
    exact ⟨rfl, Below.refl _ _⟩
  · go_enter Tryz.func3, Tryz.ntmps3
    go_wp2_with (first | (go_at_call 4; go_in))
    have hl0 : len0 ≤ 1048576 := by omega
    clear hs
    have ST0 := Lib.hid (show St3 w w a0 len0 cap0 from ⟨Below.refl _ _, HC.out⟩)
    clear HC
    go_wp2_with fail
    refine (dComp a0 len0 cap0 w ST0.out.2 hl0).mono ?_
    rintro e w1 ⟨x, y, rfl, hx1, hx2, hy1, hy2, hb1⟩
    have ST1 := Lib.hid (ST0.out.go hb1)
    clear hb1 ST0
    have HB := Lib.hid (fun h => @comp_back x y hx1 hx2 hy1 hy2 h)
    clear hx1 hx2 hy1 hy2
    obtain ⟨m, hm⟩ : ∃ m, compI x y = m := ⟨_, rfl⟩
    obtain ⟨i1, hi1⟩ : ∃ m, invI x = m := ⟨_, rfl⟩
    obtain ⟨i2, hi2⟩ : ∃ m, invI y = m := ⟨_, rfl⟩
    have HM := Lib.hid hm
    have HI1 := Lib.hid hi1
    have HI2 := Lib.hid hi2
    rw [hm, hi2] at HB
    clear hm hi1 hi2
    go_wp2_with fail
    refine (iComp x y w1).mono ?_
    rintro e w2 ⟨rfl, hb2⟩
    rw [HM.out]
    have ST2 := Lib.hid (ST1.out.go hb2)
    clear hb2 ST1
    go_wp2_with fail
    refine (sComp x y w2).mono ?_
    rintro e w3 ⟨rfl, hb3⟩
    rw [HM.out]
    have ST3 := Lib.hid (ST2.out.go hb3)
    clear hb3 ST2
    have hmm : (m != m) = false := by simp
    go_wp2_with fail
    refine (iInv x w3).mono ?_
    rintro e w4 ⟨rfl, hb4⟩
    rw [HI1.out]
    have ST4 := Lib.hid (ST3.out.go hb4)
    clear hb4 ST3
    clear hmm
    go_wp2_with fail
    refine (sInv x w4).mono ?_
    rintro e w5 ⟨rfl, hb5⟩
    rw [HI1.out]
    have ST5 := Lib.hid (ST4.out.go hb5)
    clear hb5 ST4
    have hii : (i1 != i1) = false := by simp
    clear HM HI1
    by_cases h0 : 0 ≤ m
    rotate_left
    focus
      obtain ⟨w7, rfl⟩ : ∃ x, x = w5 := ⟨_, rfl⟩
      have ST7 := ST5
      clear ST5 HB HI2
    rotate_left
    focus
      have HB2 := Lib.hid (HB.out h0)
      clear HB
      go_wp2_with fail
      refine (iInv y w5).mono ?_
      rintro e w6 ⟨rfl, hb6⟩
      rw [HI2.out]
      have ST6 := Lib.hid (ST5.out.go hb6)
      clear hb6 ST5
      go_wp2_with fail
      refine (iComp m i2 w6).mono ?_
      rintro e w7 ⟨rfl, hb7⟩
      rw [HB2.out]
      have ST7 := Lib.hid (ST6.out.go hb7)
      clear hb7 ST6
      have hxx : (x != x) = false := by simp
      clear HB2 HI2
    all_goals
      go_wp2_with fail
      refine (dTurnShape a0 len0 cap0 w7 ST7.out.2 hl0).mono ?_
      rintro e w8 ⟨sa, sn, sc, L, k, rfl, hk1, hk2, ha1, hsn, hb8⟩
      have ST8 := Lib.hid (ST7.out.go hb8)
      have HS := Lib.hid (ha1)
      clear hb8 ST7
      clear ha1
      have HXI := Lib.hid (turnS_inC k L)
      have HPF := Lib.hid (turn_facts k L)
      have hxl := turnS_len8 k L
      have h8 := @orient_sym L
      have ho8 := orient_le L
      have hsy8 := symS_le L
      clear hk1 hk2
      obtain ⟨X, hX⟩ : ∃ X, turnS k L = X := ⟨_, rfl⟩
      obtain ⟨t, ht⟩ : ∃ t, (isShape L && inb k 0 7) = t := ⟨_, rfl⟩
      obtain ⟨q, hq⟩ : ∃ t, isShape L = t := ⟨_, rfl⟩
      obtain ⟨O, hO⟩ : ∃ O, orientS L = O := ⟨_, rfl⟩
      obtain ⟨Y, hY⟩ : ∃ O, symS L = O := ⟨_, rfl⟩
      obtain ⟨cc, hcc⟩ : ∃ O, chirS L = O := ⟨_, rfl⟩
      have HX0 := Lib.hid hX
      have HT0 := Lib.hid ht
      have HQ0 := Lib.hid hq
      have HO0 := Lib.hid hO
      have HY0 := Lib.hid hY
      have HCC := Lib.hid hcc
      rw [hX, ht] at HPF
      rw [hX] at HXI hxl
      rw [hq, hO, hY] at h8
      rw [hO] at ho8
      rw [hY] at hsy8
      clear hX ht hq hO hY hcc
      go_wp2_with fail
      refine (iTurn w8.heap.size sn sc (some sa) L k w8 (by omega) HS.out (Nat.le_refl _)).mono ?_
      rintro e w9 ⟨v, rfl, ho, hb9⟩
      rw [HX0.out] at ho
      rw [HT0.out]
      obtain ⟨xa, xc, rfl⟩ := own_sl3 ho
      have ST9 := Lib.hid (ST8.out.go hb9)
      replace HS := Lib.hid (atGo HS.out hb9)
      have HX := Lib.hid (CellsAt.of_own ho HXI.out)
      clear hb9 ST8
      clear ho
      go_wp2_with fail
      refine (sTurnShape w9.heap.size sn sc (some sa) L k w9 (by omega) HS.out (Nat.le_refl _)).mono ?_
      rintro e w10 ⟨yg, yc, rfl, ho, hb10⟩
      rw [HX0.out] at ho ⊢
      rw [HT0.out]
      have ST10 := Lib.hid (ST9.out.go hb10)
      replace HS := Lib.hid (atGo HS.out hb10)
      replace HX := Lib.hid (atGo HX.out hb10)
      have HW := Lib.hid (CellsAt.of_own ho HXI.out)
      clear hb10 ST9
      clear ho
      go_wp2_with fail
      refine (iOrient w10.heap.size sn sc (some sa) L w10 (by omega) HS.out (Nat.le_refl _)).mono ?_
      rintro e w11 ⟨v, es, rfl, hes, hsm, hown, hb11⟩
      have hrd := SsRd.of_own hown hsm
      rw [hes, HO0.out] at hrd
      clear hown hsm hes
      obtain ⟨la, lc, rfl, _⟩ := id hrd
      have ST11 := Lib.hid (ST10.out.go hb11)
      replace HS := Lib.hid (atGo HS.out hb11)
      replace HX := Lib.hid (atGo HX.out hb11)
      replace HW := Lib.hid (atGo HW.out hb11)
      have HL := Lib.hid (hrd)
      clear hb11 ST10
      clear hrd
      go_wp2_with fail
      refine (iSymm w11.heap.size sn sc (some sa) L w11 (by omega) HS.out (Nat.le_refl _)).mono ?_
      rintro e w12 ⟨v, rfl, hown, hb12⟩
      have hrd := IsRd.of_own hown
      rw [HY0.out] at hrd
      clear hown
      obtain ⟨ga, gc, rfl, _⟩ := id hrd
      have ST12 := Lib.hid (ST11.out.go hb12)
      replace HS := Lib.hid (atGo HS.out hb12)
      replace HX := Lib.hid (atGo HX.out hb12)
      replace HW := Lib.hid (atGo HW.out hb12)
      replace HL := Lib.hid ((HL.out.on hb12).more hb12.size)
      have HG := Lib.hid (hrd)
      clear hb12 ST11
      clear hrd
      have htt : (t != t) = false := by simp
      go_wp2_with fail
      refine (sEqual_any w12.heap.size X.length X.length xc yc xa _ X X w12 (by omega) (by omega) HX.out HW.out (Nat.le_refl _)).mono ?_
      rintro e w13 ⟨rfl, hb13⟩
      rw [eqb_self]
      have ST13 := Lib.hid (ST12.out.go hb13)
      replace HS := Lib.hid (atGo HS.out hb13)
      replace HX := Lib.hid (atGo HX.out hb13)
      replace HW := Lib.hid (atGo HW.out hb13)
      replace HL := Lib.hid ((HL.out.on hb13).more hb13.size)
      replace HG := Lib.hid ((HG.out.on hb13).more hb13.size)
      clear hb13 ST12
      clear htt
      clear HX
      go_wp2_with fail
      refine (sOrient w13.heap.size sn sc (some sa) L w13 (by omega) HS.out (Nat.le_refl _)).mono ?_
      rintro e w14 ⟨og, oc, ovs, rfl, _, hat, hb14⟩
      rw [HO0.out] at hat ⊢
      have ST14 := Lib.hid (ST13.out.go hb14)
      replace HS := Lib.hid (atGo HS.out hb14)
      replace HW := Lib.hid (atGo HW.out hb14)
      replace HL := Lib.hid ((HL.out.on hb14).more hb14.size)
      replace HG := Lib.hid ((HG.out.on hb14).more hb14.size)
      have HO := Lib.hid (SsRd.of_at (cap := oc) hat)
      clear hb14 ST13
      clear hat
      go_wp2_with fail
      refine (lSameSs w14.heap.size _ _ O w14 (by omega) HL.out HO.out (Nat.le_refl _)).mono ?_
      rintro e w15 ⟨rfl, hb15⟩
      have ST15 := Lib.hid (ST14.out.go hb15)
      replace HS := Lib.hid (atGo HS.out hb15)
      replace HW := Lib.hid (atGo HW.out hb15)
      replace HL := Lib.hid ((HL.out.on hb15).more hb15.size)
      replace HG := Lib.hid ((HG.out.on hb15).more hb15.size)
      replace HO := Lib.hid ((HO.out.on hb15).more hb15.size)
      clear hb15 ST14
      clear HL HO
      go_wp2_with fail
      refine (sSymm w15.heap.size sn sc (some sa) L w15 (by omega) HS.out (Nat.le_refl _)).mono ?_
      rintro e w16 ⟨yg2, yc2, rfl, hat, hb16⟩
      rw [HY0.out] at hat ⊢
      have ST16 := Lib.hid (ST15.out.go hb16)
      replace HS := Lib.hid (atGo HS.out hb16)
      replace HW := Lib.hid (atGo HW.out hb16)
      replace HG := Lib.hid ((HG.out.on hb16).more hb16.size)
      have HY := Lib.hid (IsRd.of_own hat)
      clear hb16 ST15
      clear hat
      go_wp2_with fail
      refine (lSameI w16.heap.size _ _ Y w16 (by omega) HG.out HY.out (Nat.le_refl _)).mono ?_
      rintro e w17 ⟨rfl, hb17⟩
      have ST17 := Lib.hid (ST16.out.go hb17)
      replace HS := Lib.hid (atGo HS.out hb17)
      replace HW := Lib.hid (atGo HW.out hb17)
      replace HG := Lib.hid ((HG.out.on hb17).more hb17.size)
      replace HY := Lib.hid ((HY.out.on hb17).more hb17.size)
      clear hb17 ST16
      clear HG HY
      obtain ⟨on, hon⟩ : ∃ x, O.length = x := ⟨_, rfl⟩
      obtain ⟨yn, hyn⟩ : ∃ x, Y.length = x := ⟨_, rfl⟩
      rw [hon, hyn] at h8 ⊢
      clear hon hyn HO0 HY0 ho8 hsy8
      go_wp2_with fail
      refine (sIsShape w17.heap.size sn sc (some sa) L w17 (by omega) HS.out (Nat.le_refl _)).mono ?_
      rintro e w18 ⟨rfl, hb18⟩
      rw [HQ0.out]
      have ST18 := Lib.hid (ST17.out.go hb18)
      replace HS := Lib.hid (atGo HS.out hb18)
      replace HW := Lib.hid (atGo HW.out hb18)
      clear hb18 ST17
      cases q
      focus
        clear h8
        obtain ⟨h81, h82⟩ : True ∧ True := ⟨trivial, trivial⟩
      rotate_left
      focus
        have h8 := h8 rfl
        have h81 : ((on : Int) * (yn : Int)) = 8 := by exact_mod_cast h8
        have h82 : IntKind.i64.wrap ((on : Int) * (yn : Int)) = 8 := by rw [h81]; decide
        clear h8
      all_goals
        go_wp2_with fail
        refine (iChiral w18.heap.size sn sc (some sa) L w18 (by omega) HS.out (Nat.le_refl _)).mono ?_
        rintro e w19 ⟨rfl, hb19⟩
        rw [HCC.out]
        have ST19 := Lib.hid (ST18.out.go hb19)
        replace HS := Lib.hid (atGo HS.out hb19)
        replace HW := Lib.hid (atGo HW.out hb19)
        clear hb19 ST18
        clear h81 h82
        go_wp2_with fail
        refine (sChiral w19.heap.size sn sc (some sa) L w19 (by omega) HS.out (Nat.le_refl _)).mono ?_
        rintro e w20 ⟨rfl, hb20⟩
        rw [HCC.out]
        have ST20 := Lib.hid (ST19.out.go hb20)
        replace HS := Lib.hid (atGo HS.out hb20)
        replace HW := Lib.hid (atGo HW.out hb20)
        clear hb20 ST19
        have hch : (cc != cc) = false := by simp
        clear HCC HQ0 HT0 HX0
        cases t
        focus
          obtain ⟨w28, rfl⟩ : ∃ x, x = w20 := ⟨_, rfl⟩
          have ST28 := ST20
          clear ST20 HPF HW
        rotate_left
        focus
          obtain ⟨p1, p3, p4⟩ := HPF.out rfl
          have P1 := Lib.hid p1
          have P3 := Lib.hid p3
          have P4 := Lib.hid p4
          clear p1 p3 p4 HPF
          have HCI := Lib.hid (cornS_inC L)
          have hcl := cornS_len L
          go_wp2_with fail
          refine (iInv k w20).mono ?_
          rintro e w21 ⟨rfl, hb21⟩
          have ST21 := Lib.hid (ST20.out.go hb21)
          replace HS := Lib.hid (atGo HS.out hb21)
          replace HW := Lib.hid (atGo HW.out hb21)
          clear hb21 ST20
          obtain ⟨ik, hik⟩ : ∃ m, invI k = m := ⟨_, rfl⟩
          rw [hik] at P1 ⊢
          clear hik hch
          go_wp2_with fail
          refine (iTurn w21.heap.size X.length yc _ X ik w21 (by omega) HW.out (Nat.le_refl _)).mono ?_
          rintro e w22 ⟨v, rfl, ho, hb22⟩
          rw [P1.out] at ho
          obtain ⟨za, zc, rfl⟩ := own_sl3 ho
          have ST22 := Lib.hid (ST21.out.go hb22)
          replace HS := Lib.hid (atGo HS.out hb22)
          replace HW := Lib.hid (atGo HW.out hb22)
          have HZ := Lib.hid (CellsAt.of_own ho HCI.out)
          clear hb22 ST21
          clear ho
          go_wp2_with fail
          refine (sCornerShape w22.heap.size sn sc (some sa) L w22 (by omega) HS.out (Nat.le_refl _)).mono ?_
          rintro e w23 ⟨cg, cc2, rfl, ho, hb23⟩
          have ST23 := Lib.hid (ST22.out.go hb23)
          replace HS := Lib.hid (atGo HS.out hb23)
          replace HW := Lib.hid (atGo HW.out hb23)
          replace HZ := Lib.hid (atGo HZ.out hb23)
          have HC2 := Lib.hid (CellsAt.of_own ho HCI.out)
          clear hb23 ST22
          clear ho
          go_wp2_with fail
          refine (sEqual_any w23.heap.size (cornS L).length (cornS L).length zc cc2 za _ (cornS L) (cornS L) w23 (by omega) (by omega) HZ.out HC2.out (Nat.le_refl _)).mono ?_
          rintro e w24 ⟨rfl, hb24⟩
          rw [eqb_self]
          have ST24 := Lib.hid (ST23.out.go hb24)
          replace HS := Lib.hid (atGo HS.out hb24)
          replace HW := Lib.hid (atGo HW.out hb24)
          replace HZ := Lib.hid (atGo HZ.out hb24)
          replace HC2 := Lib.hid (atGo HC2.out hb24)
          clear hb24 ST23
          clear HZ HC2
          go_wp2_with fail
          refine (iCongr w24.heap.size sn X.length sc yc (some sa) _ L X w24 (by omega) (by omega) HS.out HW.out (Nat.le_refl _)).mono ?_
          rintro e w25 ⟨rfl, hb25⟩
          rw [P3.out]
          have ST25 := Lib.hid (ST24.out.go hb25)
          replace HS := Lib.hid (atGo HS.out hb25)
          replace HW := Lib.hid (atGo HW.out hb25)
          clear hb25 ST24
          go_wp2_with fail
          refine (iCanon w25.heap.size X.length yc _ X w25 (by omega) HW.out (Nat.le_refl _)).mono ?_
          rintro e w26 ⟨v, rfl, ho, hb26⟩
          rw [P4.out] at ho
          obtain ⟨za, zc, rfl⟩ := own_sl3 ho
          have ST26 := Lib.hid (ST25.out.go hb26)
          replace HS := Lib.hid (atGo HS.out hb26)
          replace HW := Lib.hid (atGo HW.out hb26)
          have HZ := Lib.hid (CellsAt.of_own ho (canonS_inC8 L))
          clear hb26 ST25
          clear ho
          clear HW
          go_wp2_with fail
          refine (iCanon w26.heap.size sn sc (some sa) L w26 (by omega) HS.out (Nat.le_refl _)).mono ?_
          rintro e w27 ⟨v, rfl, ho, hb27⟩
          obtain ⟨za2, zc2, rfl⟩ := own_sl3 ho
          have ST27 := Lib.hid (ST26.out.go hb27)
          replace HS := Lib.hid (atGo HS.out hb27)
          replace HZ := Lib.hid (atGo HZ.out hb27)
          have HC2 := Lib.hid (CellsAt.of_own ho (canonS_inC8 L))
          clear hb27 ST26
          clear ho
          have hcn := canonS_len8 L
          go_wp2_with fail
          refine (sEqual_any w27.heap.size (canonS L).length (canonS L).length zc zc2 za za2 (canonS L) (canonS L) w27 (by omega) (by omega) HZ.out HC2.out (Nat.le_refl _)).mono ?_
          rintro e w28 ⟨rfl, hb28⟩
          rw [eqb_self]
          have ST28 := Lib.hid (ST27.out.go hb28)
          replace HS := Lib.hid (atGo HS.out hb28)
          replace HZ := Lib.hid (atGo HZ.out hb28)
          replace HC2 := Lib.hid (atGo HC2.out hb28)
          clear hb28 ST27
          clear HZ HC2
          clear P1 P3 P4 HCI hcl hcn
        all_goals
          clear HXI hxl
          go_wp2_with fail
          refine (dCongr a0 len0 cap0 w28 ST28.out.2 hl0).mono ?_
          rintro e w29 ⟨ca, cn, cp, C, da, dn, dp, D, rfl, h1, hcn, h2, hdn, hb29⟩
          have ST29 := Lib.hid (ST28.out.go hb29)
          replace HS := Lib.hid (atGo HS.out hb29)
          have HC := Lib.hid (h1)
          have HD := Lib.hid (h2)
          clear hb29 ST28
          clear h1 h2
          go_wp2_with fail
          refine (dCompare a0 len0 cap0 w29 ST29.out.2 hl0).mono ?_
          rintro e w30 ⟨ea, en, ep, E, fa, fn, fp, F, rfl, h1, hen, h2, hfn, hb30⟩
          have ST30 := Lib.hid (ST29.out.go hb30)
          replace HS := Lib.hid (atGo HS.out hb30)
          replace HC := Lib.hid (atGo HC.out hb30)
          replace HD := Lib.hid (atGo HD.out hb30)
          have HE := Lib.hid (h1)
          have HF := Lib.hid (h2)
          clear hb30 ST29
          clear h1 h2
          have HSY := Lib.hid (congS_symm D C)
          have HNG := Lib.hid (cmpS_neg E F)
          have HZC := Lib.hid (cmpS_cases E F)
          obtain ⟨u, hu⟩ : ∃ u, congS C D = u := ⟨_, rfl⟩
          obtain ⟨z, hz⟩ : ∃ u, cmpS E F = u := ⟨_, rfl⟩
          have HU := Lib.hid hu
          have HZ0 := Lib.hid hz
          rw [hu] at HSY
          rw [hz] at HNG HZC
          clear hu hz
          go_wp2_with fail
          refine (iCongr w30.heap.size cn dn cp dp (some ca) (some da) C D w30 (by omega) (by omega) HC.out HD.out (Nat.le_refl _)).mono ?_
          rintro e w31 ⟨rfl, hb31⟩
          rw [HU.out]
          have ST31 := Lib.hid (ST30.out.go hb31)
          replace HS := Lib.hid (atGo HS.out hb31)
          replace HC := Lib.hid (atGo HC.out hb31)
          replace HD := Lib.hid (atGo HD.out hb31)
          replace HE := Lib.hid (atGo HE.out hb31)
          replace HF := Lib.hid (atGo HF.out hb31)
          clear hb31 ST30
          go_wp2_with fail
          refine (sCongr w31.heap.size cn dn cp dp (some ca) (some da) C D w31 (by omega) (by omega) HC.out HD.out (Nat.le_refl _)).mono ?_
          rintro e w32 ⟨rfl, hb32⟩
          rw [HU.out]
          have ST32 := Lib.hid (ST31.out.go hb32)
          replace HS := Lib.hid (atGo HS.out hb32)
          replace HC := Lib.hid (atGo HC.out hb32)
          replace HD := Lib.hid (atGo HD.out hb32)
          replace HE := Lib.hid (atGo HE.out hb32)
          replace HF := Lib.hid (atGo HF.out hb32)
          clear hb32 ST31
          have huu : (u == u) = true := by simp
          go_wp2_with fail
          refine (iCongr w32.heap.size cn dn cp dp (some ca) (some da) C D w32 (by omega) (by omega) HC.out HD.out (Nat.le_refl _)).mono ?_
          rintro e w33 ⟨rfl, hb33⟩
          rw [HU.out]
          have ST33 := Lib.hid (ST32.out.go hb33)
          replace HS := Lib.hid (atGo HS.out hb33)
          replace HC := Lib.hid (atGo HC.out hb33)
          replace HD := Lib.hid (atGo HD.out hb33)
          replace HE := Lib.hid (atGo HE.out hb33)
          replace HF := Lib.hid (atGo HF.out hb33)
          clear hb33 ST32
          go_wp2_with fail
          refine (iCongr w33.heap.size dn cn dp cp (some da) (some ca) D C w33 (by omega) (by omega) HD.out HC.out (Nat.le_refl _)).mono ?_
          rintro e w34 ⟨rfl, hb34⟩
          rw [HSY.out]
          have ST34 := Lib.hid (ST33.out.go hb34)
          replace HS := Lib.hid (atGo HS.out hb34)
          replace HC := Lib.hid (atGo HC.out hb34)
          replace HD := Lib.hid (atGo HD.out hb34)
          replace HE := Lib.hid (atGo HE.out hb34)
          replace HF := Lib.hid (atGo HF.out hb34)
          clear hb34 ST33
          clear HC HD
          go_wp2_with fail
          refine (iCmpShp w34.heap.size en fn ep fp (some ea) (some fa) E F w34 (by omega) (by omega) HE.out HF.out (Nat.le_refl _)).mono ?_
          rintro e w35 ⟨rfl, hgr⟩
          have hb35 := hgr.below
          clear hgr
          rw [HZ0.out]
          have ST35 := Lib.hid (ST34.out.go hb35)
          replace HS := Lib.hid (atGo HS.out hb35)
          replace HE := Lib.hid (atGo HE.out hb35)
          replace HF := Lib.hid (atGo HF.out hb35)
          clear hb35 ST34
          clear huu HU HSY
          go_wp2_with fail
          refine (sCompare w35.heap.size en fn ep fp (some ea) (some fa) E F w35 (by omega) (by omega) HE.out HF.out (Nat.le_refl _)).mono ?_
          rintro e w36 ⟨rfl, hb36⟩
          rw [HZ0.out]
          have ST36 := Lib.hid (ST35.out.go hb36)
          replace HS := Lib.hid (atGo HS.out hb36)
          replace HE := Lib.hid (atGo HE.out hb36)
          replace HF := Lib.hid (atGo HF.out hb36)
          clear hb36 ST35
          have hzz : (z == z) = true := by simp
          go_wp2_with fail
          refine (iCmpShp w36.heap.size en fn ep fp (some ea) (some fa) E F w36 (by omega) (by omega) HE.out HF.out (Nat.le_refl _)).mono ?_
          rintro e w37 ⟨rfl, hgr⟩
          have hb37 := hgr.below
          clear hgr
          rw [HZ0.out]
          have ST37 := Lib.hid (ST36.out.go hb37)
          replace HS := Lib.hid (atGo HS.out hb37)
          replace HE := Lib.hid (atGo HE.out hb37)
          replace HF := Lib.hid (atGo HF.out hb37)
          clear hb37 ST36
          clear hzz
          go_wp2_with fail
          refine (iCmpShp w37.heap.size fn en fp ep (some fa) (some ea) F E w37 (by omega) (by omega) HF.out HE.out (Nat.le_refl _)).mono ?_
          rintro e w38 ⟨rfl, hgr⟩
          have hb38 := hgr.below
          clear hgr
          rw [HNG.out]
          have ST38 := Lib.hid (ST37.out.go hb38)
          replace HS := Lib.hid (atGo HS.out hb38)
          replace HE := Lib.hid (atGo HE.out hb38)
          replace HF := Lib.hid (atGo HF.out hb38)
          clear hb38 ST37
          have hzb : -1 ≤ z ∧ z ≤ 1 := by rcases HZC.out with h | h | h <;> omega
          have hz2 : (z == - -z) = true := by simp
          have hz3 : IntKind.i64.wrap (- -z) = z := IntWalk.i64_in _ (by omega) |>.trans (by omega)
          have hz4 : (z == z) = true := by simp
          clear HZ0 HNG HZC
          clear HE HF
          go_wp2_with fail
          refine (iCanon w38.heap.size sn sc (some sa) L w38 (by omega) HS.out (Nat.le_refl _)).mono ?_
          rintro e w39 ⟨v, rfl, ho, hb39⟩
          obtain ⟨za2, zc2, rfl⟩ := own_sl3 ho
          have ST39 := Lib.hid (ST38.out.go hb39)
          replace HS := Lib.hid (atGo HS.out hb39)
          have HC2 := Lib.hid (CellsAt.of_own ho (canonS_inC8 L))
          clear hb39 ST38
          clear ho
          clear hz2 hz3 hz4
          go_wp2_with fail
          refine (sCanon w39.heap.size sn sc (some sa) L w39 (by omega) HS.out (Nat.le_refl _)).mono ?_
          rintro e w40 ⟨za, zc, rfl, hat, hb40⟩
          have ST40 := Lib.hid (ST39.out.go hb40)
          replace HS := Lib.hid (atGo HS.out hb40)
          replace HC2 := Lib.hid (atGo HC2.out hb40)
          have HZ := Lib.hid (hat)
          clear hb40 ST39
          clear hat
          have hcn := canonS_len8 L
          go_wp2_with fail
          refine (sEqual_any w40.heap.size (canonS L).length (canonS L).length zc2 zc za2 za (canonS L) (canonS L) w40 (by omega) (by omega) HC2.out HZ.out (Nat.le_refl _)).mono ?_
          rintro e w41 ⟨rfl, hb41⟩
          rw [eqb_self]
          have ST41 := Lib.hid (ST40.out.go hb41)
          replace HS := Lib.hid (atGo HS.out hb41)
          replace HC2 := Lib.hid (atGo HC2.out hb41)
          replace HZ := Lib.hid (atGo HZ.out hb41)
          clear hb41 ST40
          go_wp2
          go_ret
          exact ⟨rfl, ST41.out.1⟩

end Go.Proofs.YtecfabhpjihcbaaGreat
