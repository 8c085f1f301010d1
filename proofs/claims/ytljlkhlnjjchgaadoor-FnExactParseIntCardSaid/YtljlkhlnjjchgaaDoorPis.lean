/-
  ParseInt of the model: a numeral of at most nine digits is read, and no other string is.
-/
import Derived.Test.YtljlkhlnjjchgaaDoorPin
namespace Go.Proofs.YtljlkhlnjjchgaaDoor
open Go.RowKit

theorem valD_snoc (s : ByteArray) (k : Nat) (h : k < s.size) : (isD s[k] = true → valD ((bs s).take (k + 1)) = valD ((bs s).take k) * 10 + (s[k].toNat - 48) ∧ cntD ((bs s).take (k + 1)) = cntD ((bs s).take k) + 1) ∧
    (isD s[k] = false → valD ((bs s).take (k + 1)) = valD ((bs s).take k) ∧ cntD ((bs s).take (k + 1)) = cntD ((bs s).take k)) := by
  rw [take_snoc s k h]
  unfold valD cntD
  rw [dgs_snoc]
  constructor
  · intro hd
    rw [if_pos hd, numL_snoc]
    exact ⟨rfl, by simp⟩
  · intro hd
    rw [if_neg (by simp [hd])]
    exact ⟨rfl, rfl⟩
theorem valD_bd (s : ByteArray) (k : Nat) (hk : k ≤ 11) : valD ((bs s).take k) < 100000000000 := by
  have h1 := valD_lt ((bs s).take k)
  have h2 := cntD_le ((bs s).take k)
  have h3 : ((bs s).take k).length ≤ 11 := by rw [List.length_take]; omega
  have h4 : 10 ^ cntD ((bs s).take k) ≤ 10 ^ 11 := Nat.pow_le_pow_right (by omega) (by omega)
  omega

theorem take_eq (s : ByteArray) (j : Nat) (h1 : j ≤ 11) (h2 : j ≤ s.size) (h : ¬ (j < s.size ∧ j < 11)) : (bs s).take j = (bs s).take 11 := by
  rcases Nat.lt_or_ge j 11 with h3 | h3
  · rw [List.take_of_length_le (by rw [bs_length]; omega), List.take_of_length_le (by rw [bs_length]; omega)]
  · obtain rfl : j = 11 := by omega
    rfl
/-- What the model's ParseInt gives. -/
def sPI (l : List UInt8) : Int × Bool := if cntD (l.take 11) ≤ 9 ∧ l.length ≤ 10 ∧ Lib.itoa (cand l) = l then (cand l, true) else (0, false)
theorem sPI_yes (m : Int) (h : Small m) : sPI (Lib.itoa m) = (m, true) := by
  have hl := itoa_len m h
  unfold sPI
  rw [cand_itoa m h, List.take_of_length_le (by omega), if_pos ⟨hl.2, hl.1, rfl⟩]
theorem sPI_no (l : List UInt8) (h : ∀ m, Small m → Lib.itoa m ≠ l) : sPI l = (0, false) := by
  unfold sPI
  rw [if_neg]
  rintro ⟨h1, _, h3⟩
  exact h _ (cand_small l h1) h3

theorem ret_IB {a b : Int} {x y : Bool} (h : a = b) (h' : x = y) : Ending.returned (.tuple #[.int .i64 a, .bool x]) = .returned (.tuple #[.int .i64 b, .bool y]) := by rw [h, h']

set_option maxHeartbeats 1000000 in
set_option maxRecDepth 100000 in
theorem sParseInt (s : ByteArray) (w : World) (hs : s.size ≤ 4194304) :
    Calls Tryd.prog 20 #[.string s] w fun e w' => e = .returned (.tuple #[.int .i64 (sPI (bs s)).1, .bool (sPI (bs s)).2]) ∧ Below w.heap.size w w' := by
  go_enter Tryd.func20, Tryd.ntmps20
  go_wp2
  go_loop [4, 5, 6] (fun n k i => ∃ j m c : Nat, j ≤ 11 ∧ j ≤ s.size ∧ i = .int .i64 j ∧ n = .int .i64 m ∧ k = .int .i64 c ∧ m < 100000000000 ∧ c ≤ j ∧ Hid (m = valD ((bs s).take j)) ∧ Hid (c = cntD ((bs s).take j))) (fun _ _ i => 11 - (intOf i).toNat)
  case atStart => exact ⟨0, 0, 0, by omega, by omega, rfl, rfl, rfl, by omega, by omega, by simp [Hid, valD, dgs, numL], by simp [Hid, cntD, dgs]⟩
  case round =>
    obtain ⟨j, m, c, hj, hjs, rfl, rfl, rfl, hm, hc, hmv, hcv⟩ := hrel
    by_cases hlt : j < s.size ∧ j < 11
    · obtain ⟨hlt1, hlt2⟩ := hlt
      have hbt : s[j].toNat < 256 := s[j].toNat_lt
      have HV := Lib.hid (valD_snoc s j hlt1)
      have HB := Lib.hid (valD_bd s (j + 1) (by omega))
      by_cases h1 : 48 ≤ s[j].toNat
      · by_cases h2 : s[j].toNat ≤ 57
        · have hm2 : m * 10 + (s[j].toNat - 48) < 100000000000 := by
            have := HB.out
            rw [(HV.out.1 ((isD_iff _).2 ⟨h1, h2⟩)).1, ← hmv.out] at this
            exact this
          go_wp2
          go_round
          case rel => exact ⟨j + 1, m * 10 + (s[j].toNat - 48), c + 1, by omega, by omega, by go_num, congrArg (Value.int .i64) (by omega), by go_num, hm2, by omega, by rw [(HV.out.1 ((isD_iff _).2 ⟨h1, h2⟩)).1, ← hmv.out]; rfl, by rw [(HV.out.1 ((isD_iff _).2 ⟨h1, h2⟩)).2, ← hcv.out]; rfl⟩
          case measure => simp [intOf]; omega
        · have hnd : isD s[j] = false := by rw [Bool.eq_false_iff]; intro h; exact h2 ((isD_iff _).1 h).2
          have HN := Lib.hid hnd
          clear hnd
          go_wp2
          go_round
          case rel => exact ⟨j + 1, m, c, by omega, by omega, by go_num, rfl, rfl, hm, by omega, by rw [(HV.out.2 HN.out).1, ← hmv.out]; rfl, by rw [(HV.out.2 HN.out).2, ← hcv.out]; rfl⟩
          case measure => simp [intOf]; omega
      · have hnd : isD s[j] = false := by rw [Bool.eq_false_iff]; intro h; exact h1 ((isD_iff _).1 h).1
        have HN := Lib.hid hnd
        clear hnd
        go_wp2
        go_round
        case rel => exact ⟨j + 1, m, c, by omega, by omega, by go_num, rfl, rfl, hm, by omega, by rw [(HV.out.2 HN.out).1, ← hmv.out]; rfl, by rw [(HV.out.2 HN.out).2, ← hcv.out]; rfl⟩
        case measure => simp [intOf]; omega
    · have ht : (bs s).take j = (bs s).take 11 := take_eq s j hj hjs hlt
      rw [ht] at hmv hcv
      have HM11 : Hid (m = valD ((bs s).take 11)) := hmv
      have HC11 : Hid (c = cntD ((bs s).take 11)) := hcv
      clear ht hmv hcv
      by_cases hz : 0 < s.size
      · by_cases h45 : s[0] = 45
        · have hq45 : ((s[0].toNat : Int) == 45) = true := by rw [h45]; rfl
          have hg45 : (bs s).getD 0 0 = 45 := by rw [bs_get s 0 hz]; exact h45
          have HC : Hid (cand (bs s) = -(m : Int)) := by have := hg45; unfold cand; rw [if_pos hg45, ← HM11.out]; rfl
          have HG := Lib.hid hg45
          clear hg45 h45
          by_cases hc9 : 9 < c
          · have HN : Hid (sPI (bs s) = (0, false)) := by rw [sPI, if_neg (by rintro ⟨h, -⟩; rw [← HC11.out] at h; omega)]; rfl
            go_wp2
            all_goals
              go_ret2
              exact ⟨ret_IB (by rw [HN.out]) (by rw [HN.out]), Below.refl _ _⟩
          · by_cases hl10 : 10 < s.size
            · have HN : Hid (sPI (bs s) = (0, false)) := by rw [sPI, if_neg (by rintro ⟨-, h, -⟩; rw [bs_length] at h; omega)]; rfl
              go_wp2
              all_goals
                go_ret2
                exact ⟨ret_IB (by rw [HN.out]) (by rw [HN.out]), Below.refl _ _⟩
            · by_cases he : Lib.itoa (-(m : Int)) = bs s
              · have HN : Hid (sPI (bs s) = (-(m : Int), true)) := by rw [sPI, if_pos ⟨by rw [← HC11.out]; omega, by rw [bs_length]; omega, by rw [HC.out]; exact he⟩, HC.out]; rfl
                have hq : (Lib.itoa (-(m : Int)) == s.toList) = true := by rw [he, ByteArray.toList_eq]; simp
                clear he
                go_wp2_with fail
                all_goals
                  refine (sFormatInt _ (by omega) (by omega) _).mono ?_
                  rintro e w1 ⟨rfl, hb1⟩
                  go_wp2
                  go_ret2
                  exact ⟨ret_IB (by rw [HN.out]) (by rw [HN.out]), hb1⟩
              · have HN : Hid (sPI (bs s) = (0, false)) := by rw [sPI, if_neg (by rintro ⟨-, -, h⟩; rw [HC.out] at h; exact he h)]; rfl
                have hq : (Lib.itoa (-(m : Int)) == s.toList) = false := by rw [beq_eq_false_iff_ne, ByteArray.toList_eq]; exact he
                clear he
                go_wp2_with fail
                all_goals
                  refine (sFormatInt _ (by omega) (by omega) _).mono ?_
                  rintro e w1 ⟨rfl, hb1⟩
                  go_wp2
                  go_ret2
                  exact ⟨ret_IB (by rw [HN.out]) (by rw [HN.out]), hb1⟩
        · have hq45 : ((s[0].toNat : Int) == 45) = false := by
            rw [beq_eq_false_iff_ne]
            intro h
            exact h45 (UInt8.toNat_inj.1 (by simp; omega))
          have hg45 : ¬ (bs s).getD 0 0 = 45 := by rw [bs_get s 0 hz]; exact h45
          have HC : Hid (cand (bs s) = (m : Int)) := by unfold cand; rw [if_neg hg45, ← HM11.out]; rfl
          have HG := Lib.hid hg45
          clear hg45 h45
          by_cases hc9 : 9 < c
          · have HN : Hid (sPI (bs s) = (0, false)) := by rw [sPI, if_neg (by rintro ⟨h, -⟩; rw [← HC11.out] at h; omega)]; rfl
            go_wp2
            all_goals
              go_ret2
              exact ⟨ret_IB (by rw [HN.out]) (by rw [HN.out]), Below.refl _ _⟩
          · by_cases hl10 : 10 < s.size
            · have HN : Hid (sPI (bs s) = (0, false)) := by rw [sPI, if_neg (by rintro ⟨-, h, -⟩; rw [bs_length] at h; omega)]; rfl
              go_wp2
              all_goals
                go_ret2
                exact ⟨ret_IB (by rw [HN.out]) (by rw [HN.out]), Below.refl _ _⟩
            · by_cases he : Lib.itoa ((m : Int)) = bs s
              · have HN : Hid (sPI (bs s) = ((m : Int), true)) := by rw [sPI, if_pos ⟨by rw [← HC11.out]; omega, by rw [bs_length]; omega, by rw [HC.out]; exact he⟩, HC.out]; rfl
                have hq : (Lib.itoa ((m : Int)) == s.toList) = true := by rw [he, ByteArray.toList_eq]; simp
                clear he
                go_wp2_with fail
                all_goals
                  refine (sFormatInt _ (by omega) (by omega) _).mono ?_
                  rintro e w1 ⟨rfl, hb1⟩
                  go_wp2
                  go_ret2
                  exact ⟨ret_IB (by rw [HN.out]) (by rw [HN.out]), hb1⟩
              · have HN : Hid (sPI (bs s) = (0, false)) := by rw [sPI, if_neg (by rintro ⟨-, -, h⟩; rw [HC.out] at h; exact he h)]; rfl
                have hq : (Lib.itoa ((m : Int)) == s.toList) = false := by rw [beq_eq_false_iff_ne, ByteArray.toList_eq]; exact he
                clear he
                go_wp2_with fail
                all_goals
                  refine (sFormatInt _ (by omega) (by omega) _).mono ?_
                  rintro e w1 ⟨rfl, hb1⟩
                  go_wp2
                  go_ret2
                  exact ⟨ret_IB (by rw [HN.out]) (by rw [HN.out]), hb1⟩
      · have hg45 : ¬ (bs s).getD 0 0 = 45 := by
          rw [List.getD_eq_getElem?_getD, List.getElem?_eq_none (by rw [bs_length]; omega)]
          decide
        have HC : Hid (cand (bs s) = (m : Int)) := by unfold cand; rw [if_neg hg45, ← HM11.out]; rfl
        by_cases hc9 : 9 < c
        · have HN : Hid (sPI (bs s) = (0, false)) := by rw [sPI, if_neg (by rintro ⟨h, -⟩; rw [← HC11.out] at h; omega)]; rfl
          go_wp2
          all_goals
            go_ret2
            exact ⟨ret_IB (by rw [HN.out]) (by rw [HN.out]), Below.refl _ _⟩
        · by_cases hl10 : 10 < s.size
          · have HN : Hid (sPI (bs s) = (0, false)) := by rw [sPI, if_neg (by rintro ⟨-, h, -⟩; rw [bs_length] at h; omega)]; rfl
            go_wp2
            all_goals
              go_ret2
              exact ⟨ret_IB (by rw [HN.out]) (by rw [HN.out]), Below.refl _ _⟩
          · by_cases he : Lib.itoa ((m : Int)) = bs s
            · have HN : Hid (sPI (bs s) = ((m : Int), true)) := by rw [sPI, if_pos ⟨by rw [← HC11.out]; omega, by rw [bs_length]; omega, by rw [HC.out]; exact he⟩, HC.out]; rfl
              have hq : (Lib.itoa ((m : Int)) == s.toList) = true := by rw [he, ByteArray.toList_eq]; simp
              clear he
              go_wp2_with fail
              all_goals
                refine (sFormatInt _ (by omega) (by omega) _).mono ?_
                rintro e w1 ⟨rfl, hb1⟩
                go_wp2
                go_ret2
                exact ⟨ret_IB (by rw [HN.out]) (by rw [HN.out]), hb1⟩
            · have HN : Hid (sPI (bs s) = (0, false)) := by rw [sPI, if_neg (by rintro ⟨-, -, h⟩; rw [HC.out] at h; exact he h)]; rfl
              have hq : (Lib.itoa ((m : Int)) == s.toList) = false := by rw [beq_eq_false_iff_ne, ByteArray.toList_eq]; exact he
              clear he
              go_wp2_with fail
              all_goals
                refine (sFormatInt _ (by omega) (by omega) _).mono ?_
                rintro e w1 ⟨rfl, hb1⟩
                go_wp2
                go_ret2
                exact ⟨ret_IB (by rw [HN.out]) (by rw [HN.out]), hb1⟩

end Go.Proofs.YtljlkhlnjjchgaaDoor
