/-
  The number and the depth of parentheses, in the model and in the program: what each call gives.
  RefutationOf, IsRefutation, SearchNodes, in the program: what each call gives.
-/
import Derived.Test.YtkjlmgkjcmebbaaGreatDoorWbf
import Derived.Test.YtkjlmgkjcmebbaaGreatDoorWbg
namespace Go.Proofs.YtkjlmgkjcmebbaaGreatDoor

section
open Go.RowKit

theorem siz_bad {s : List UInt8} {i : Nat} (h : parN s i = none) : sizT s = -1 ∧ depT s = -1 := siz_no (parE_none (parN_none h))
theorem siz_end {s : List UInt8} {n o d : Nat} (h : parN s s.length = some (n, o, d)) : (o ≠ 0 → sizT s = -1 ∧ depT s = -1) ∧ (o = 0 → sizT s = (n : Int) ∧ depT s = (d : Int)) := by
  rw [parN_all] at h
  have e := parE_of h
  refine ⟨fun h0 => siz_no (by rw [e]; exact if_neg h0), fun h0 => ?_⟩
  have e2 : parE s = some (n, d) := by rw [e]; exact if_pos h0
  exact siz_of e2
theorem par_open {s : List UInt8} {i n o d : Nat} (hi : i < s.length) (h : parN s i = some (n, o, d)) (hc : (s.getD i 0 == 40) = true) : parN s (i + 1) = some (n + 1, o + 1, max d (o + 1)) := by
  rw [parN_step hi, h]
  have h1 : s.getD i 0 = 40 := by simpa using hc
  rw [h1]
  rfl
theorem par_close {s : List UInt8} {i n o d : Nat} (hi : i < s.length) (h : parN s i = some (n, o + 1, d)) (hc : (s.getD i 0 == 41) = true) : parN s (i + 1) = some (n, o, d) := by
  rw [parN_step hi, h]
  have h1 : s.getD i 0 = 41 := by simpa using hc
  rw [h1]
  show stP 41 (n, o + 1, d) = _
  unfold stP
  rw [if_neg (by decide), if_pos ⟨rfl, by simp⟩]
  rfl
theorem par_shut {s : List UInt8} {i n d : Nat} (hi : i < s.length) (h : parN s i = some (n, 0, d)) (hc : (s.getD i 0 == 40) = false) : parN s (i + 1) = none := by
  rw [parN_step hi, h]
  show stP _ (n, 0, d) = none
  unfold stP
  rw [if_neg (by simpa using hc), if_neg (by simp)]
theorem par_other {s : List UInt8} {i : Nat} {st : Nat × Nat × Nat} (hi : i < s.length) (h : parN s i = some st) (hc : (s.getD i 0 == 40) = false) (hd : (s.getD i 0 == 41) = false) : parN s (i + 1) = none := by
  rw [parN_step hi, h]
  show stP _ st = none
  unfold stP
  rw [if_neg (by simpa using hc), if_neg]
  rintro ⟨h1, _⟩
  rw [h1] at hd
  exact absurd hd (by decide)
theorem par_bd {s : List UInt8} {i n o d : Nat} (h : parN s i = some (n, o, d)) (hi : i ≤ s.length) : n ≤ i ∧ o ≤ d ∧ d ≤ n := by
  obtain ⟨⟨h1, h2⟩, h3⟩ := parN_ok h hi
  exact ⟨h3, h1, h2⟩

set_option maxHeartbeats 4000000 in
set_option maxRecDepth 100000 in
theorem sRefSize (s : ByteArray) (w : World) (hs : s.size ≤ 4194304) :
    Calls Tryz.prog 32 #[.string s] w fun e w' => e = .returned (.int .i64 (sizT (tbs s))) ∧ Below w.heap.size w w' := by
  have hbl : (tbs s).length = s.size := tbs_len s
  have HP0 := Lib.hid (parN_zero (tbs s))
  go_enter Tryz.func32, Tryz.ntmps32
  go_wp2
  go_loopw [3, 4, 5] (fun nv ov ix wr => ∃ i n o d : Nat, i ≤ s.size ∧ ix = .int .i64 (i : Int) ∧ nv = .int .i64 (n : Int) ∧ ov = .int .i64 (o : Int) ∧ Hid (parN (tbs s) i = some (n, o, d)) ∧ Below w.heap.size w wr) (fun _ _ ix _ => s.size - (intOf ix).toNat)
  case atStart => exact ⟨0, 0, 0, 0, by omega, rfl, rfl, rfl, HP0.out, Below.refl _ _⟩
  case round =>
    clear HP0
    obtain ⟨i, n, o, d, hi, rfl, rfl, rfl, hpn, hb⟩ := hrel
    have hbd := par_bd hpn.out (by omega)
    by_cases hlt : i < s.size
    · have hi1 : (i : Int) < (s.size : Int) := by omega
      have hi0 : (0 : Int) ≤ (i : Int) := by omega
      have hg := tbs_at s i hlt
      cases h40 : (s[i] == 40) with
      | true =>
        have e40 : ((s[i].toNat : Int) == 40) = true := (u8_is (k := 40) h40 (by omega)).1
        have HN := Lib.hid (par_open (by omega) hpn.out (by rw [hg]; exact h40))
        have h9 : ¬ ((o : Int) + 1) < 0 := by omega
        clear h40 hpn hg
        go_wp2
        go_roundw
        case rel => first
          | exact ⟨i + 1, n + 1, o + 1, _, by omega, by go_num, by go_num, by go_num, HN.out, hb⟩
          | (repeat apply Exists.intro
             exact ⟨⟨i + 1, n + 1, o + 1, _, by omega, by go_num, by go_num, by go_num, HN.out, hb⟩, rfl⟩)
        case measure => first | (simp [intOf]; done) | (simp [intOf]; omega)
      | false =>
        have e40 : ((s[i].toNat : Int) == 40) = false := (u8_not (k := 40) h40 (by omega)).1
        cases h41 : (s[i] == 41) with
        | true =>
          have e41 : ((s[i].toNat : Int) == 41) = true := (u8_is (k := 41) h41 (by omega)).1
          by_cases ho : o = 0
          · subst ho
            have HN := Lib.hid (siz_bad (par_shut (by omega) hpn.out (by rw [hg]; exact h40)))
            clear h40 h41 hpn hg
            go_wp2
            go_ret
            exact ⟨by rw [HN.out.1]; rfl, hb⟩
          · obtain ⟨o', rfl⟩ : ∃ o', o = o' + 1 := ⟨o - 1, by omega⟩
            have HN := Lib.hid (par_close (by omega) hpn.out (by rw [hg]; exact h41))
            have h9 : ¬ (o' : Int) < 0 := by omega
            have h8 : ((o' + 1 : Nat) : Int) - 1 = (o' : Int) := by omega
            clear h40 h41 hpn hg
            go_wp2
            go_roundw
            case rel => first
              | exact ⟨i + 1, n, o', d, by omega, by go_num, rfl, by go_num, HN.out, hb⟩
              | (repeat apply Exists.intro
                 exact ⟨⟨i + 1, n, o', d, by omega, by go_num, rfl, by go_num, HN.out, hb⟩, rfl⟩)
            case measure => first | (simp [intOf]; done) | (simp [intOf]; omega)
        | false =>
          have e41 : ((s[i].toNat : Int) == 41) = false := (u8_not (k := 41) h41 (by omega)).1
          have HN := Lib.hid (siz_bad (par_other (by omega) hpn.out (by rw [hg]; exact h40) (by rw [hg]; exact h41)))
          clear h40 h41 hpn hg
          go_wp2
          go_ret
          exact ⟨by rw [HN.out.1]; rfl, hb⟩
    · obtain rfl : i = s.size := by omega
      have HE := Lib.hid (siz_end (s := tbs s) (n := n) (o := o) (d := d) (by rw [hbl]; exact hpn.out))
      clear hpn
      by_cases ho : o = 0
      · subst ho
        have HN := Lib.hid (HE.out.2 rfl)
        go_wp2
        go_ret
        exact ⟨by rw [HN.out.1]; rfl, hb⟩
      · have HN := Lib.hid (HE.out.1 ho)
        have e0 : ((o : Int) != 0) = true := by rw [bne_iff_ne]; omega
        clear ho
        go_wp2
        go_ret
        exact ⟨by rw [HN.out.1]; rfl, hb⟩

set_option maxHeartbeats 4000000 in
set_option maxRecDepth 100000 in
theorem sDeep (s : ByteArray) (w : World) (hs : s.size ≤ 4194304) :
    Calls Tryz.prog 33 #[.string s] w fun e w' => e = .returned (.int .i64 (depT (tbs s))) ∧ Below w.heap.size w w' := by
  have hbl : (tbs s).length = s.size := tbs_len s
  have hbd := siz_bd (tbs s)
  have HR := Lib.hid (sRefSize s w hs)
  cases hpe : parE (tbs s) with
  | none =>
    obtain ⟨h1, h2⟩ := siz_no hpe
    have HO := Lib.hid h2
    rw [h1] at HR
    rw [HO.out]
    clear hbd hpe h1 h2
    go_enter Tryz.func33, Tryz.ntmps33
    go_wp2_with fail
    refine HR.out.mono ?_
    rintro e w1 ⟨rfl, hb⟩
    go_wp2
    go_ret
    exact ⟨rfl, hb⟩
  | some pe =>
    have hso := siz_of hpe
    have hge : 0 ≤ sizT (tbs s) := by rw [hso.1]; omega
    have HAS := Lib.hid (fun i => (show ∃ st, parN (tbs s) i = some st from by
      cases e : runP (tbs s) (0, 0, 0) with
      | none => rw [parE_none e] at hpe; cases hpe
      | some st => exact parN_some e i))
    have HG := Lib.hid hge
    obtain ⟨z, hz⟩ : ∃ z, sizT (tbs s) = z := ⟨_, rfl⟩
    rw [hz] at HR hbd hge
    have HZ := Lib.hid hz
    have hzn : ¬ z < 0 := by omega
    have HP0 := Lib.hid (parN_zero (tbs s))
    clear hpe hso hz
    go_enter Tryz.func33, Tryz.ntmps33
    go_wp2_with fail
    refine HR.out.mono ?_
    rintro e w1 ⟨rfl, hb1⟩
    have HB1 := Lib.hid hb1
    clear hb1
    go_wp2
    go_loopw [3, 4, 5] (fun ov dv ix wr => ∃ i n o d : Nat, i ≤ s.size ∧ ix = .int .i64 (i : Int) ∧ ov = .int .i64 (o : Int) ∧ dv = .int .i64 (d : Int) ∧ Hid (parN (tbs s) i = some (n, o, d)) ∧ Below w.heap.size w wr) (fun _ _ ix _ => s.size - (intOf ix).toNat)
    case atStart => exact ⟨0, 0, 0, 0, by omega, rfl, rfl, rfl, HP0.out, HB1.out⟩
    case round =>
      clear HP0 HB1
      obtain ⟨i, n, o, d, hi, rfl, rfl, rfl, hpn, hb⟩ := hrel
      have hbd := par_bd hpn.out (by omega)
      by_cases hlt : i < s.size
      · have hi1 : (i : Int) < (s.size : Int) := by omega
        have hi0 : (0 : Int) ≤ (i : Int) := by omega
        have hg := tbs_at s i hlt
        cases h40 : (s[i] == 40) with
        | true =>
          have e40 : ((s[i].toNat : Int) == 40) = true := (u8_is (k := 40) h40 (by omega)).1
          have HN := Lib.hid (par_open (by omega) hpn.out (by rw [hg]; exact h40))
          obtain ⟨d2, hd2⟩ : ∃ d2, max d (o + 1) = d2 := ⟨_, rfl⟩
          rw [hd2] at HN
          have hif : (if (d : Int) < (o : Int) + 1 then (o : Int) + 1 else (d : Int)) = (d2 : Int) := by split <;> omega
          clear h40 hpn hg hd2
          go_wp2
          go_roundw
          case rel => first
            | exact ⟨i + 1, n + 1, o + 1, d2, by omega, by go_num, by go_num, by go_num, HN.out, hb⟩
            | (repeat apply Exists.intro
               exact ⟨⟨i + 1, n + 1, o + 1, d2, by omega, by go_num, by go_num, by go_num, HN.out, hb⟩, rfl⟩)
          case measure => first | (simp [intOf]; done) | (simp [intOf]; omega)
        | false =>
          have e40 : ((s[i].toNat : Int) == 40) = false := (u8_not (k := 40) h40 (by omega)).1
          obtain ⟨st, hst⟩ := HAS.out (i + 1)
          have ho : o ≠ 0 := by
            rintro rfl
            rw [par_shut (by omega) hpn.out (by rw [hg]; exact h40)] at hst
            cases hst
          have h41 : (s[i] == 41) = true := by
            cases h41 : (s[i] == 41) with
            | true => rfl
            | false =>
              rw [par_other (by omega) hpn.out (by rw [hg]; exact h40) (by rw [hg]; exact h41)] at hst
              cases hst
          obtain ⟨o', rfl⟩ : ∃ o', o = o' + 1 := ⟨o - 1, by omega⟩
          have HN := Lib.hid (par_close (by omega) hpn.out (by rw [hg]; exact h41))
          have h8 : ((o' + 1 : Nat) : Int) - 1 = (o' : Int) := by omega
          have hif : (if (d : Int) < (o' : Int) then (o' : Int) else (d : Int)) = (d : Int) := by split <;> omega
          clear h40 h41 hpn hg hst ho
          go_wp2
          go_roundw
          case rel => first
            | exact ⟨i + 1, n, o', d, by omega, by go_num, by go_num, by go_num, HN.out, hb⟩
            | (repeat apply Exists.intro
               exact ⟨⟨i + 1, n, o', d, by omega, by go_num, by go_num, by go_num, HN.out, hb⟩, rfl⟩)
          case measure => first | (simp [intOf]; done) | (simp [intOf]; omega)
      · obtain rfl : i = s.size := by omega
        have HE := Lib.hid (siz_end (s := tbs s) (n := n) (o := o) (d := d) (by rw [hbl]; exact hpn.out))
        have ho : o = 0 := by
          by_cases ho : o = 0
          · exact ho
          · have h1 := (HE.out.1 ho).1
            have h2 := HG.out
            omega
        have HN := Lib.hid (HE.out.2 ho)
        clear hpn
        go_wp2
        go_ret
        exact ⟨by rw [HN.out.2]; rfl, hb⟩

set_option maxHeartbeats 4000000 in
set_option maxRecDepth 100000 in
theorem iSizes (s : ByteArray) (w : World) (hs : s.size ≤ 4194304) :
    Calls Tryz.prog 77 #[.string s] w fun e w' => e = .returned (.tuple #[.int .i64 (sizT (tbs s)), .int .i64 (depT (tbs s))]) ∧ Below w.heap.size w w' := by
  have hbl : (tbs s).length = s.size := tbs_len s
  have HP0 := Lib.hid (parN_zero (tbs s))
  go_enter Tryz.func77, Tryz.ntmps77
  go_wp2
  go_loopw [4, 5, 6, 10] (fun nv ov dv ix wr => ∃ i n o d : Nat, i ≤ s.size ∧ ix = .int .i64 (i : Int) ∧ nv = .int .i64 (n : Int) ∧ ov = .int .i64 (o : Int) ∧ dv = .int .i64 (d : Int) ∧ Hid (parN (tbs s) i = some (n, o, d)) ∧ Below w.heap.size w wr) (fun _ _ _ ix _ => s.size - (intOf ix).toNat)
  case atStart => exact ⟨0, 0, 0, 0, by omega, rfl, rfl, rfl, rfl, HP0.out, Below.refl _ _⟩
  case round =>
    clear HP0
    obtain ⟨i, n, o, d, hi, rfl, rfl, rfl, rfl, hpn, hb⟩ := hrel
    have hbd := par_bd hpn.out (by omega)
    by_cases hlt : i < s.size
    · have hi1 : (i : Int) < (s.size : Int) := by omega
      have hi0 : (0 : Int) ≤ (i : Int) := by omega
      have hg := tbs_at s i hlt
      cases h40 : (s[i] == 40) with
      | true =>
        have e40 : ((s[i].toNat : Int) == 40) = true := (u8_is (k := 40) h40 (by omega)).1
        have HN := Lib.hid (par_open (by omega) hpn.out (by rw [hg]; exact h40))
        obtain ⟨d2, hd2⟩ : ∃ d2, max d (o + 1) = d2 := ⟨_, rfl⟩
        rw [hd2] at HN
        have hif : (if (d : Int) < (o : Int) + 1 then (o : Int) + 1 else (d : Int)) = (d2 : Int) := by split <;> omega
        clear h40 hpn hg hd2
        go_wp2
        go_roundw
        case rel => first
          | exact ⟨i + 1, n + 1, o + 1, d2, by omega, by go_num, by go_num, by go_num, by go_num, HN.out, hb⟩
          | (repeat apply Exists.intro
             exact ⟨⟨i + 1, n + 1, o + 1, d2, by omega, by go_num, by go_num, by go_num, by go_num, HN.out, hb⟩, rfl⟩)
        case measure => first | (simp [intOf]; done) | (simp [intOf]; omega)
      | false =>
        have e40 : ((s[i].toNat : Int) == 40) = false := (u8_not (k := 40) h40 (by omega)).1
        cases h41 : (s[i] == 41) with
        | true =>
          have e41 : ((s[i].toNat : Int) == 41) = true := (u8_is (k := 41) h41 (by omega)).1
          by_cases ho : o = 0
          · subst ho
            have HN := Lib.hid (siz_bad (par_shut (by omega) hpn.out (by rw [hg]; exact h40)))
            clear h40 h41 hpn hg
            go_wp2
            go_ret2
            exact ⟨by rw [HN.out.1, HN.out.2]; rfl, hb⟩
          · obtain ⟨o', rfl⟩ : ∃ o', o = o' + 1 := ⟨o - 1, by omega⟩
            have HN := Lib.hid (par_close (by omega) hpn.out (by rw [hg]; exact h41))
            have h9 : (0 : Int) < ((o' + 1 : Nat) : Int) := by omega
            have h8 : ((o' + 1 : Nat) : Int) - 1 = (o' : Int) := by omega
            clear h40 h41 hpn hg
            go_wp2
            go_roundw
            case rel => first
              | exact ⟨i + 1, n, o', d, by omega, by go_num, rfl, by go_num, rfl, HN.out, hb⟩
              | (repeat apply Exists.intro
                 exact ⟨⟨i + 1, n, o', d, by omega, by go_num, rfl, by go_num, rfl, HN.out, hb⟩, rfl⟩)
            case measure => first | (simp [intOf]; done) | (simp [intOf]; omega)
        | false =>
          have e41 : ((s[i].toNat : Int) == 41) = false := (u8_not (k := 41) h41 (by omega)).1
          have HN := Lib.hid (siz_bad (par_other (by omega) hpn.out (by rw [hg]; exact h40) (by rw [hg]; exact h41)))
          clear h40 h41 hpn hg
          go_wp2
          go_ret2
          exact ⟨by rw [HN.out.1, HN.out.2]; rfl, hb⟩
    · obtain rfl : i = s.size := by omega
      have HE := Lib.hid (siz_end (s := tbs s) (n := n) (o := o) (d := d) (by rw [hbl]; exact hpn.out))
      clear hpn
      by_cases ho : o = 0
      · subst ho
        have HN := Lib.hid (HE.out.2 rfl)
        go_wp2
        go_ret2
        exact ⟨by rw [HN.out.1, HN.out.2]; rfl, hb⟩
      · have HN := Lib.hid (HE.out.1 ho)
        have e0 : (0 : Int) < (o : Int) := by omega
        clear ho
        go_wp2
        go_ret2
        exact ⟨by rw [HN.out.1, HN.out.2]; rfl, hb⟩

set_option maxHeartbeats 1000000 in
set_option maxRecDepth 100000 in
theorem iRefSize (s : ByteArray) (w : World) (hs : s.size ≤ 4194304) :
    Calls Tryz.prog 30 #[.string s] w fun e w' => e = .returned (.int .i64 (sizT (tbs s))) ∧ Below w.heap.size w w' := by
  have HR := Lib.hid (iSizes s w hs)
  go_enter Tryz.func30, Tryz.ntmps30
  go_wp2_with fail
  refine HR.out.mono ?_
  rintro e w1 ⟨rfl, hb⟩
  go_wp2
  go_ret
  exact ⟨rfl, hb⟩

set_option maxHeartbeats 1000000 in
set_option maxRecDepth 100000 in
theorem iDeep (s : ByteArray) (w : World) (hs : s.size ≤ 4194304) :
    Calls Tryz.prog 31 #[.string s] w fun e w' => e = .returned (.int .i64 (depT (tbs s))) ∧ Below w.heap.size w w' := by
  have HR := Lib.hid (iSizes s w hs)
  go_enter Tryz.func31, Tryz.ntmps31
  go_wp2_with fail
  refine HR.out.mono ?_
  rintro e w1 ⟨rfl, hb⟩
  go_wp2
  go_ret
  exact ⟨rfl, hb⟩
end

section
open Go.RowKit Go.Shelf

set_option maxHeartbeats 4000000 in
set_option maxRecDepth 100000 in
theorem iRef (B n cap m2 cap2 : Nat) (a a2 : Option Addr) (W : Int) (l : List Int) (ps : List (List Cl)) (w : World) (hn : n ≤ 4194304) (hm : m2 ≤ 1048576) (hc : IntsAt B w a n l) (hd : PsAt B w a2 m2 ps) (hB : B ≤ w.heap.size) (hT : Tz w) :
    Calls Tryz.prog 51 #[.agg #[.int .i64 W, .slice a n cap], .slice a2 m2 cap2] w fun e w' => e = .returned (.tuple #[S ((refT W l ps).getD []), .bool (refT W l ps).isSome]) ∧ Below w.heap.size w w' := by
  have H := Lib.hid hc
  have HD := Lib.hid hd
  have HT := Lib.hid hT
  clear hc hd hT
  have hb0 := (Below.refl w.heap.size w).alloc (Nat.le_refl _) (.cells #[.int .i64 W, .slice a n cap] 26)
  have hbox0 := RgAt.new (w := w) W (.slice a n cap) rfl
  have c0 := hbox0.c0
  have c1 := hbox0.c1
  cases h : okT W l ps with
  | false =>
    have HI := Lib.hid h
    have HO := Lib.hid (refT_no h)
    rw [HO.out]
    clear h
    go_enter Tryz.func51, Tryz.ntmps51
    go_wp2_with fail
    refine (iCanT B n cap m2 cap2 a a2 W l ps _ hn (by omega) (H.out.on (hb0.mono hB)) (HD.out.on (hb0.mono hB)) (Nat.le_trans hB hb0.size)).mono ?_
    rintro e w' ⟨rfl, hb⟩
    rw [HI.out]
    clear c0 c1
    go_wp2
    go_ret2
    exact ⟨rfl, hb0.trans (hb.mono hb0.size)⟩
  | true =>
    have HI := Lib.hid h
    have HO := Lib.hid (refT_yes h)
    obtain ⟨rz, hrz⟩ : ∃ rz, refT W l ps = rz := ⟨_, rfl⟩
    rw [hrz] at HO ⊢
    clear h hrz
    go_enter Tryz.func51, Tryz.ntmps51
    go_wp2_with fail
    refine (iCanT B n cap m2 cap2 a a2 W l ps _ hn (by omega) (H.out.on (hb0.mono hB)) (HD.out.on (hb0.mono hB)) (Nat.le_trans hB hb0.size)).mono ?_
    rintro e w1 ⟨rfl, hb⟩
    rw [HI.out]
    have HB1 := Lib.hid (hb0.trans (hb.mono hb0.size))
    have HX1 := Lib.hid (hbox0.on hb hbox0.lt)
    clear c0 c1 hb hb0 hbox0
    have c0 := HX1.out.c0
    have c1 := HX1.out.c1
    go_wp2_with fail
    refine (iTrace B n cap m2 cap2 a a2 W l ps 1001 w1 (by omega) hn hm (H.out.on (HB1.out.mono hB)) (HD.out.on (HB1.out.mono hB)) (Nat.le_trans hB HB1.out.size) (HT.out.on HB1.out HT.out.2)).mono ?_
    rintro e w2 ⟨⟨s, t', b, rfl, hok⟩, hb2⟩
    have HB2 := Lib.hid (HB1.out.trans (hb2.mono HB1.out.size))
    have hsh := hok.short
    have HS1 := Lib.hid hsh.1
    have HS2 := Lib.hid hsh.2.1
    have hsl := hsh.2.2
    clear c0 c1 hb2 hok hsh
    cases b with
    | true =>
      have HN := Lib.hid (show rz = none from HO.out.trans (if_neg fun h9 => by
        have h8 := HS1.out
        rw [decide_eq_true h9] at h8
        simp at h8))
      go_wp2
      go_ret2
      exact ⟨by rw [HN.out]; rfl, HB2.out⟩
    | false =>
      obtain ⟨sl, hsl9⟩ : ∃ sl, s.length = sl := ⟨_, rfl⟩
      have HSL := Lib.hid hsl9
      by_cases hlt : 2000 < (sl : Int)
      · have HN := Lib.hid (show rz = none from HO.out.trans (if_neg fun h9 => by
          have h8 := HS1.out
          have h7 : 2000 < s.length := by omega
          rw [decide_eq_true h9, decide_eq_true h7] at h8
          simp at h8))
        go_wp2
        go_ret2
        exact ⟨by rw [HN.out]; rfl, HB2.out⟩
      · have HNc := Lib.hid (show cntR (pQ W l ps) (maskR W l) = 0 ∧ (trR (pQ W l ps) (maskR W l)).length ≤ 2000 from by
          have h8 := HS1.out
          have h7 : ¬ 2000 < s.length := by omega
          rw [decide_eq_false h7] at h8
          by_cases h9 : cntR (pQ W l ps) (maskR W l) = 0 ∧ (trR (pQ W l ps) (maskR W l)).length ≤ 2000
          · exact h9
          · rw [decide_eq_false h9] at h8
            simp at h8)
        have HN := Lib.hid (show rz = some s from HO.out.trans ((if_pos HNc.out).trans (by rw [HS2.out HNc.out])))
        go_wp2
        go_ret2
        exact ⟨by rw [HN.out]; rfl, HB2.out⟩

set_option maxHeartbeats 4000000 in
set_option maxRecDepth 100000 in
theorem iIsRef (B n cap m2 cap2 : Nat) (a a2 : Option Addr) (W : Int) (l : List Int) (ps : List (List Cl)) (s : ByteArray) (w : World) (hn : n ≤ 4194304) (hm : m2 ≤ 1048576) (hc : IntsAt B w a n l) (hd : PsAt B w a2 m2 ps) (hB : B ≤ w.heap.size) (hT : Tz w) :
    Calls Tryz.prog 27 #[.agg #[.int .i64 W, .slice a n cap], .slice a2 m2 cap2, .string s] w fun e w' => e = .returned (.bool (isRef W l ps (tbs s))) ∧ Below w.heap.size w w' := by
  have H := Lib.hid hc
  have HD := Lib.hid hd
  have HT := Lib.hid hT
  clear hc hd hT
  have hb0 := (Below.refl w.heap.size w).alloc (Nat.le_refl _) (.cells #[.int .i64 W, .slice a n cap] 26)
  have hbox0 := RgAt.new (w := w) W (.slice a n cap) rfl
  have c0 := hbox0.c0
  have c1 := hbox0.c1
  have HO := Lib.hid (isRef_eq W l ps (tbs s))
  have HR := Lib.hid (iRef B n cap m2 cap2 a a2 W l ps _ hn hm (H.out.on (hb0.mono hB)) (HD.out.on (hb0.mono hB)) (Nat.le_trans hB hb0.size) (HT.out.on hb0 HT.out.2))
  obtain ⟨t, ht⟩ : ∃ t, (refT W l ps).getD [] = t := ⟨_, rfl⟩
  obtain ⟨b, hbq⟩ : ∃ b, (refT W l ps).isSome = b := ⟨_, rfl⟩
  rw [ht, hbq] at HO HR
  rw [HO.out]
  clear ht hbq
  have hse : (s.toList == t) = decide (tbs s = t) := by
    rw [ByteArray.toList_eq, Bool.eq_iff_iff, beq_iff_eq, decide_eq_true_eq]
  obtain ⟨q, hq⟩ : ∃ q, decide (tbs s = t) = q := ⟨_, rfl⟩
  rw [hq] at hse ⊢
  have HB0 := Lib.hid hb0
  clear hq hb0 hbox0
  go_enter Tryz.func27, Tryz.ntmps27
  go_wp2_with fail
  refine HR.out.mono ?_
  rintro e w1 ⟨rfl, hb⟩
  have HB1 := Lib.hid (HB0.out.trans (hb.mono HB0.out.size))
  clear hb c0 c1
  cases b with
  | true =>
    go_wp2
    go_ret
    exact ⟨rfl, HB1.out⟩
  | false =>
    go_wp2
    go_ret
    exact ⟨rfl, HB1.out⟩

set_option maxHeartbeats 4000000 in
set_option maxRecDepth 100000 in
theorem iSrch (B n cap m2 cap2 : Nat) (a a2 : Option Addr) (W : Int) (l : List Int) (ps : List (List Cl)) (w : World) (hn : n ≤ 4194304) (hm : m2 ≤ 1048576) (hc : IntsAt B w a n l) (hd : PsAt B w a2 m2 ps) (hB : B ≤ w.heap.size) (hT : Tz w) :
    Calls Tryz.prog 34 #[.agg #[.int .i64 W, .slice a n cap], .slice a2 m2 cap2] w fun e w' => e = .returned (.int .i64 (srcN W l ps)) ∧ Below w.heap.size w w' := by
  have H := Lib.hid hc
  have HD := Lib.hid hd
  have HT := Lib.hid hT
  clear hc hd hT
  have hb0 := (Below.refl w.heap.size w).alloc (Nat.le_refl _) (.cells #[.int .i64 W, .slice a n cap] 26)
  have hbox0 := RgAt.new (w := w) W (.slice a n cap) rfl
  have c0 := hbox0.c0
  have c1 := hbox0.c1
  cases h : okT W l ps with
  | false =>
    have HI := Lib.hid h
    have HO := Lib.hid (srcN_no h)
    rw [HO.out]
    clear h
    go_enter Tryz.func34, Tryz.ntmps34
    go_wp2_with fail
    refine (iCanT B n cap m2 cap2 a a2 W l ps _ hn (by omega) (H.out.on (hb0.mono hB)) (HD.out.on (hb0.mono hB)) (Nat.le_trans hB hb0.size)).mono ?_
    rintro e w' ⟨rfl, hb⟩
    rw [HI.out]
    clear c0 c1
    go_wp2
    go_ret
    exact ⟨rfl, hb0.trans (hb.mono hb0.size)⟩
  | true =>
    have HI := Lib.hid h
    have HO := Lib.hid (srcN_yes h)
    rw [HO.out]
    clear h
    go_enter Tryz.func34, Tryz.ntmps34
    go_wp2_with fail
    refine (iCanT B n cap m2 cap2 a a2 W l ps _ hn (by omega) (H.out.on (hb0.mono hB)) (HD.out.on (hb0.mono hB)) (Nat.le_trans hB hb0.size)).mono ?_
    rintro e w1 ⟨rfl, hb⟩
    rw [HI.out]
    have HB1 := Lib.hid (hb0.trans (hb.mono hb0.size))
    have HX1 := Lib.hid (hbox0.on hb hbox0.lt)
    clear c0 c1 hb hb0 hbox0
    have c0 := HX1.out.c0
    have c1 := HX1.out.c1
    go_wp2_with fail
    refine (iTrace B n cap m2 cap2 a a2 W l ps 5000 w1 (by omega) hn hm (H.out.on (HB1.out.mono hB)) (HD.out.on (HB1.out.mono hB)) (Nat.le_trans hB HB1.out.size) (HT.out.on HB1.out HT.out.2)).mono ?_
    rintro e w2 ⟨⟨s, t', b, rfl, hok⟩, hb2⟩
    have HB2 := Lib.hid (HB1.out.trans (hb2.mono HB1.out.size))
    have HN := Lib.hid hok.nodes
    have hsl := hok.nodes.2
    clear c0 c1 hb2 hok
    go_wp2_with fail
    refine (iRefSize ⟨s.toArray⟩ w2 (by show s.toArray.size ≤ 4194304; simp; omega)).mono ?_
    rintro e w3 ⟨rfl, hb3⟩
    have HB3 := Lib.hid (HB2.out.trans (hb3.mono HB2.out.size))
    clear hb3
    go_wp2
    go_ret
    exact ⟨by rw [← HN.out.1]; rfl, HB3.out⟩
end

end Go.Proofs.YtkjlmgkjcmebbaaGreatDoor
