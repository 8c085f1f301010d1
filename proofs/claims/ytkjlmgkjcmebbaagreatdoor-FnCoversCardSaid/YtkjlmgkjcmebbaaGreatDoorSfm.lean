/-
  A tiling as a text, in the model and in the program: what each call gives.
-/
import Derived.Test.YtkjlmgkjcmebbaaGreatDoorWaj
import Derived.Test.YtkjlmgkjcmebbaaGreatDoorPc3
import Derived.Test.YtkjlmgkjcmebbaaGreatDoorWax
namespace Go.Proofs.YtkjlmgkjcmebbaaGreatDoor
open Go.RowKit

theorem hasM_nat (b m : Nat) : hasM b (m : Int) = m.testBit b := by unfold hasM; simp
theorem hasM_neg {b : Nat} {m : Int} (h : m < 0) : hasM b m = false := by unfold hasM; simp; omega
theorem abc_cut (k : Nat) (h : k < 26) : (⟨abc.toArray⟩ : ByteArray).extract k (k + 1) = ⟨#[UInt8.ofNat (97 + k)]⟩ := by
  have : ∀ j, j < 26 → ((⟨abc.toArray⟩ : ByteArray).extract j (j + 1)).data.toList = [UInt8.ofNat (97 + j)] := by decide +kernel
  have h1 := this k h
  have h2 : ((⟨abc.toArray⟩ : ByteArray).extract k (k + 1)).data = #[UInt8.ofNat (97 + k)] := by
    apply Array.toList_inj.1
    rw [h1]
  exact ByteArray.ext h2
theorem ofNat_letter {k : Nat} (h : k < 26) : ((UInt8.ofNat (97 + k)).toNat : Int) = 97 + (k : Int) := by
  rw [UInt8.toNat_ofNat']
  omega

set_option maxHeartbeats 4000000 in
set_option maxRecDepth 100000 in
theorem sFmtM (B n cap n3 cap3 : Nat) (a a3 : Option Addr) (W : Int) (rows l : List Int) (w : World) (hn : n ≤ 4194304) (hn3 : n3 ≤ 4194304) (hc : IntsAt B w a n rows) (hd : IntsAt B w a3 n3 l) (hB : B ≤ w.heap.size) :
    Calls Tryz.prog 25 #[.agg #[.int .i64 W, .slice a n cap], .slice a3 n3 cap3] w fun e w' => e = .returned (S (fmtM W rows l)) ∧ Below w.heap.size w w' := by
  have H := Lib.hid hc
  have HLN := Lib.hid hc.1
  have HD := Lib.hid hd
  have hl3 := hd.1
  clear hc hd
  have hb0 := (Below.refl w.heap.size w).alloc (Nat.le_refl _) (.cells #[.int .i64 W, .slice a n cap] 26)
  have hbox := RgAt.new (w := w) W (.slice a n cap) rfl
  have hsz0 : (w.alloc (.cells #[.int .i64 W, .slice a n cap] 26)).heap.size = w.heap.size + 1 := by simp
  cases h : isReg W rows with
  | false =>
    have HI := Lib.hid h
    have HO := Lib.hid (fmtM_no (W := W) (rows := rows) (l := l) (by unfold tilOk; rw [h]; rfl))
    rw [HO.out]
    clear h
    by_cases h0 : 0 < (n : Int)
    · go_enter Tryz.func25, Tryz.ntmps25
      go_wp2
      refine wp_loop_rounds 1 ?_
      rw [rounds_succ]
      go_wp2_with fail
      refine (sIsReg B n cap a W rows _ hn (H.out.on (hb0.mono hB)) (Nat.le_trans hB hb0.size)).mono ?_
      rintro e w' ⟨rfl, hb⟩
      rw [HI.out]
      go_wp2
      go_ret
      exact ⟨rfl, hb0.trans (hb.mono hb0.size)⟩
    · go_enter Tryz.func25, Tryz.ntmps25
      go_wp2
      refine wp_loop_rounds 1 ?_
      rw [rounds_succ]
      go_wp2
      go_ret
      exact ⟨rfl, hb0⟩
  | true =>
    obtain ⟨N, rfl, hr⟩ := isReg_out h
    have hln := HLN.out
    rw [hln] at hr
    have HR := Lib.hid hr
    have HI := Lib.hid h
    have hN6 := hr.w6
    have hn6 := hr.h6
    by_cases h26 : (n3 : Int) ≤ 26
    · have h26' : n3 ≤ 26 := by omega
      have HO := Lib.hid (fmtM_yes hr (l := l) (by omega))
      rw [HO.out]
      clear h hr hln
      obtain ⟨g, hg⟩ : ∃ g, letG N l = g := ⟨_, rfl⟩
      have HG := Lib.hid hg
      rw [hg]
      clear hg HO
      go_enter Tryz.func25, Tryz.ntmps25
      go_wp2
      generalize w.alloc (.cells #[.int .i64 N, .slice a n cap] 26) = W1 at *
      have HB := Lib.hid hb0
      clear hb0
      go_loopw [5, 6] (fun v i wr => ∃ y : Nat, y ≤ n ∧ i = .int .i64 y ∧ v = S (ltT N g y) ∧ Below (w.heap.size + 1) W1 wr) (fun _ i _ => n - (intOf i).toNat)
      case atStart => exact ⟨0, by omega, rfl, rfl, Below.refl _ _⟩
      case round =>
        obtain ⟨y, hy, rfl, rfl, hb⟩ := hrel
        have hsz := hb.size
        have hbx := hbox.on hb (by omega)
        have c0 := hbx.c0
        have c1 := hbx.c1
        by_cases hlt : y < n
        · have hy1 : (y : Int) < (n : Int) := by omega
          have hbw := HB.out.trans (hb.mono (by omega))
          go_wp2_with fail
          refine (sIsReg B n cap a N rows wr hn (H.out.on (hbw.mono hB)) (Nat.le_trans hB hbw.size)).mono ?_
          rintro e w2 ⟨rfl, hb2⟩
          rw [HI.out]
          have hb2' := hb.trans (hb2.mono (by omega))
          clear hb hb2 hbx c0 c1 hbw hsz
          obtain ⟨tt, ht⟩ : ∃ tt, ltT N g y = tt := ⟨_, rfl⟩
          have htl := (ltA_len N g y 0 hN6 (by omega) (by omega)).2
          rw [ht] at htl ⊢
          by_cases h0 : 0 < y
          · have HS0 := Lib.hid (show tt ++ [47] = ltA N g y 0 from by rw [ltA_next N g y (by omega), ht])
            go_wp2
            go_loopw [5, 7] (fun v i wr => ∃ x : Nat, x ≤ N ∧ i = .int .i64 x ∧ v = S (ltA N g y x) ∧ Below (w.heap.size + 1) W1 wr) (fun _ i _ => N - (intOf i).toNat)
            case atStart => exact ⟨0, by omega, rfl, by rw [← HS0.out, S_append], hb2'⟩
            case round =>
              clear hb2'
              obtain ⟨x, hx, rfl, rfl, hb⟩ := hrel
              have hsz := hb.size
              have hbx := hbox.on hb (by omega)
              have c0 := hbx.c0
              have c1 := hbx.c1
              by_cases hxt : x < N
              · have hx1 : (x : Int) < (N : Int) := by omega
                have hlen := (ltA_len N g y x hN6 (by omega) (by omega)).1
                have hq : y * N + x ≤ 35 := by
                  have := Nat.mul_le_mul (show y ≤ 5 by omega) hN6
                  omega
                obtain ⟨s, hs⟩ : ∃ s : Nat, y * N = s := ⟨_, rfl⟩
                obtain ⟨b, hbq⟩ : ∃ b : Nat, y * N + x = b := ⟨_, rfl⟩
                have hmul : (y : Int) * (N : Int) = (s : Int) := by rw [← hs]; simp
                have hadd : (s : Int) + (x : Int) = (b : Int) := by omega
                have HLT := Lib.hid (show g y x = letR l b from by rw [← HG.out]; unfold letG; rw [hbq])
                have HST := Lib.hid (ltA_step N g y x)
                have hb35 : b ≤ 35 := by omega
                have hb0' : (0 : Int) ≤ (b : Int) := by omega
                clear hs hbq hq
                go_wp2
                go_loopw [8, 9] (fun v i wr => ∃ k : Nat, k ≤ n3 ∧ i = .int .i64 ((k : Int) - 1) ∧ v = .int .i64 (fstI l b k) ∧ Below (w.heap.size + 1) W1 wr) (fun _ i _ => (intOf i + 1).toNat)
                case atStart => exact ⟨n3, Nat.le_refl _, rfl, by rw [← hl3, fstI_end], hb⟩
                case round =>
                  clear hb hbx c0 c1 hsz
                  obtain ⟨k, hk, rfl, rfl, hb⟩ := hrel
                  have hsz := hb.size
                  have hbx := hbox.on hb (by omega)
                  have c0 := hbx.c0
                  have c1 := hbx.c1
                  have hbw := HB.out.trans (hb.mono (by omega))
                  by_cases hk0 : k = 0
                  · subst hk0
                    have hf := fstI_bd l b n3 0 (by omega)
                    obtain ⟨f0, hf0⟩ : ∃ f0, fstI l b 0 = f0 := ⟨_, rfl⟩
                    rw [hf0] at hf ⊢
                    rcases Int.lt_or_le f0 0 with hneg | hpos
                    · have hN2 : (ByteArray.mk (ltA N g y x).toArray ++ ByteArray.mk #[46]) = ByteArray.mk (ltA N g y (x + 1)).toArray := by rw [HST.out, HLT.out, letR_no (by rw [hf0]; exact hneg)]; exact S_append _ [46]
                      have hm1 : f0 = -1 := by omega
                      subst hm1
                      go_wp2
                      go_roundw
                      case rel => first
                        | exact ⟨x + 1, by omega, by go_num, rfl, hb⟩
                        | (repeat apply Exists.intro
                           exact ⟨⟨x + 1, by omega, by go_num, rfl, hb⟩, rfl⟩)
                      case measure => first | (simp [intOf]; done) | (simp [intOf]; omega)
                    · obtain ⟨j, rfl⟩ : ∃ j : Nat, f0 = j := ⟨f0.toNat, by omega⟩
                      have hj26 : j < 26 := by omega
                      have hN2 : (ByteArray.mk (ltA N g y x).toArray ++ ByteArray.mk #[UInt8.ofNat (97 + j)]) = ByteArray.mk (ltA N g y (x + 1)).toArray := by rw [HST.out, HLT.out, letR_yes hf0]; exact S_append _ [UInt8.ofNat (97 + j)]
                      have hCT := abc_cut j hj26
                      unfold abc at hCT
                      have hj0 : (0 : Int) ≤ (j : Int) := by omega
                      obtain ⟨c, hc⟩ : ∃ c, UInt8.ofNat (97 + j) = c := ⟨_, rfl⟩
                      rw [hc] at hCT hN2
                      clear hf0 hc
                      go_wp2
                      go_roundw
                      case rel => exact ⟨x + 1, by omega, by go_num, rfl, hb⟩
                      case measure => first | (simp [intOf]; done) | (simp [intOf]; omega)
                  · obtain ⟨i, rfl⟩ : ∃ i, k = i + 1 := ⟨k - 1, by omega⟩
                    have hik : ((i + 1 : Nat) : Int) - 1 = (i : Int) := by omega
                    rw [hik]
                    obtain ⟨b3, off3, rfl, hbB3, hcell3⟩ := (HD.out.on (hbw.mono hB)).2.2 (by omega)
                    have p1 := hcell3 i (by omega)
                    have hin := HD.out.2.1 (l.getD i 0) (by simp [List.getD, show i < l.length by omega])
                    have HFY := Lib.hid (fstI_yes (l := l) (b := b) (k := i) (by omega))
                    have HFN := Lib.hid (fstI_no (l := l) (b := b) (k := i) (by omega))
                    obtain ⟨z, hz⟩ : ∃ z, l.getD i 0 = z := ⟨_, rfl⟩
                    rw [hz] at p1 hin HFY HFN
                    have hi0 : (0 : Int) ≤ (i : Int) := by omega
                    have hi1 : (i : Int) < (n3 : Int) := by omega
                    obtain ⟨f1, hf1⟩ : ∃ f1, fstI l b (i + 1) = f1 := ⟨_, rfl⟩
                    rw [hf1] at HFN ⊢
                    clear hcell3 hz hf1
                    rcases Int.lt_or_le z 0 with hneg | hpos
                    · have HF := Lib.hid (show fstI l b i = f1 from HFN.out (hasM_neg hneg))
                      clear HFN HFY
                      have hng : decide (0 ≤ z) = false := by simp; omega
                      go_wp2_with fail
                      go_quiet (fail)
                      go_wp2
                      go_roundw
                      case rel => exact ⟨i, by omega, by go_num, by rw [HF.out], below_drewn hb _⟩
                      case measure => first | (simp [intOf]; done) | (simp [intOf]; omega)
                    · obtain ⟨m, rfl⟩ : ∃ m : Nat, z = m := ⟨z.toNat, by omega⟩
                      have hm63 : m < 9223372036854775808 := by unfold In64 at hin; omega
                      obtain ⟨t, ht⟩ : ∃ t : Nat, m / 2 ^ b = t := ⟨_, rfl⟩
                      have hdiv : (m : Int) / (2 : Int) ^ b = (t : Int) := by rw [← ht]; simp
                      have htm : t ≤ m := by rw [← ht]; exact Nat.div_le_self _ _
                      have hand := bit_val (m := m) b (by omega)
                      rw [ht] at hand
                      rw [hasM_nat] at HFY HFN
                      cases htb : m.testBit b with
                      | true =>
                        rw [htb] at hand
                        have hand1 : bits .and .i64 (t : Int) 1 = 1 := hand
                        have HF := Lib.hid (show fstI l b i = (i : Int) from HFY.out htb)
                        clear HFN HFY hand htb
                        go_wp2_with fail
                        go_quiet (fail)
                        go_wp2
                        go_roundw
                        case rel => exact ⟨i, by omega, by go_num, by rw [HF.out], below_drewn hb _⟩
                        case measure => first | (simp [intOf]; done) | (simp [intOf]; omega)
                      | false =>
                        rw [htb] at hand
                        have hand1 : bits .and .i64 (t : Int) 1 = 0 := hand
                        have HF := Lib.hid (show fstI l b i = f1 from HFN.out htb)
                        clear HFN HFY hand htb
                        go_wp2_with fail
                        go_quiet (fail)
                        go_wp2
                        go_roundw
                        case rel => exact ⟨i, by omega, by go_num, by rw [HF.out], below_drewn hb _⟩
                        case measure => first | (simp [intOf]; done) | (simp [intOf]; omega)
              · obtain rfl : x = N := by omega
                have HN := Lib.hid (ltA_row x g y)
                go_wp2
                go_roundw
                case rel => exact ⟨y + 1, by omega, by go_num, by rw [← HN.out], hb⟩
                case measure => first | (simp [intOf]; done) | (simp [intOf]; omega)
          · have HS0 := Lib.hid (show tt = ltA N g y 0 from by
              have hy0 : y = 0 := by omega
              subst hy0
              rw [ltA_first, ht])
            go_wp2
            go_loopw [5, 7] (fun v i wr => ∃ x : Nat, x ≤ N ∧ i = .int .i64 x ∧ v = S (ltA N g y x) ∧ Below (w.heap.size + 1) W1 wr) (fun _ i _ => N - (intOf i).toNat)
            case atStart => exact ⟨0, by omega, rfl, by rw [← HS0.out], hb2'⟩
            case round =>
              clear hb2'
              obtain ⟨x, hx, rfl, rfl, hb⟩ := hrel
              have hsz := hb.size
              have hbx := hbox.on hb (by omega)
              have c0 := hbx.c0
              have c1 := hbx.c1
              by_cases hxt : x < N
              · have hx1 : (x : Int) < (N : Int) := by omega
                have hlen := (ltA_len N g y x hN6 (by omega) (by omega)).1
                have hq : y * N + x ≤ 35 := by
                  have := Nat.mul_le_mul (show y ≤ 5 by omega) hN6
                  omega
                obtain ⟨s, hs⟩ : ∃ s : Nat, y * N = s := ⟨_, rfl⟩
                obtain ⟨b, hbq⟩ : ∃ b : Nat, y * N + x = b := ⟨_, rfl⟩
                have hmul : (y : Int) * (N : Int) = (s : Int) := by rw [← hs]; simp
                have hadd : (s : Int) + (x : Int) = (b : Int) := by omega
                have HLT := Lib.hid (show g y x = letR l b from by rw [← HG.out]; unfold letG; rw [hbq])
                have HST := Lib.hid (ltA_step N g y x)
                have hb35 : b ≤ 35 := by omega
                have hb0' : (0 : Int) ≤ (b : Int) := by omega
                clear hs hbq hq
                go_wp2
                go_loopw [8, 9] (fun v i wr => ∃ k : Nat, k ≤ n3 ∧ i = .int .i64 ((k : Int) - 1) ∧ v = .int .i64 (fstI l b k) ∧ Below (w.heap.size + 1) W1 wr) (fun _ i _ => (intOf i + 1).toNat)
                case atStart => exact ⟨n3, Nat.le_refl _, rfl, by rw [← hl3, fstI_end], hb⟩
                case round =>
                  clear hb hbx c0 c1 hsz
                  obtain ⟨k, hk, rfl, rfl, hb⟩ := hrel
                  have hsz := hb.size
                  have hbx := hbox.on hb (by omega)
                  have c0 := hbx.c0
                  have c1 := hbx.c1
                  have hbw := HB.out.trans (hb.mono (by omega))
                  by_cases hk0 : k = 0
                  · subst hk0
                    have hf := fstI_bd l b n3 0 (by omega)
                    obtain ⟨f0, hf0⟩ : ∃ f0, fstI l b 0 = f0 := ⟨_, rfl⟩
                    rw [hf0] at hf ⊢
                    rcases Int.lt_or_le f0 0 with hneg | hpos
                    · have hN2 : (ByteArray.mk (ltA N g y x).toArray ++ ByteArray.mk #[46]) = ByteArray.mk (ltA N g y (x + 1)).toArray := by rw [HST.out, HLT.out, letR_no (by rw [hf0]; exact hneg)]; exact S_append _ [46]
                      have hm1 : f0 = -1 := by omega
                      subst hm1
                      go_wp2
                      go_roundw
                      case rel => first
                        | exact ⟨x + 1, by omega, by go_num, rfl, hb⟩
                        | (repeat apply Exists.intro
                           exact ⟨⟨x + 1, by omega, by go_num, rfl, hb⟩, rfl⟩)
                      case measure => first | (simp [intOf]; done) | (simp [intOf]; omega)
                    · obtain ⟨j, rfl⟩ : ∃ j : Nat, f0 = j := ⟨f0.toNat, by omega⟩
                      have hj26 : j < 26 := by omega
                      have hN2 : (ByteArray.mk (ltA N g y x).toArray ++ ByteArray.mk #[UInt8.ofNat (97 + j)]) = ByteArray.mk (ltA N g y (x + 1)).toArray := by rw [HST.out, HLT.out, letR_yes hf0]; exact S_append _ [UInt8.ofNat (97 + j)]
                      have hCT := abc_cut j hj26
                      unfold abc at hCT
                      have hj0 : (0 : Int) ≤ (j : Int) := by omega
                      obtain ⟨c, hc⟩ : ∃ c, UInt8.ofNat (97 + j) = c := ⟨_, rfl⟩
                      rw [hc] at hCT hN2
                      clear hf0 hc
                      go_wp2
                      go_roundw
                      case rel => exact ⟨x + 1, by omega, by go_num, rfl, hb⟩
                      case measure => first | (simp [intOf]; done) | (simp [intOf]; omega)
                  · obtain ⟨i, rfl⟩ : ∃ i, k = i + 1 := ⟨k - 1, by omega⟩
                    have hik : ((i + 1 : Nat) : Int) - 1 = (i : Int) := by omega
                    rw [hik]
                    obtain ⟨b3, off3, rfl, hbB3, hcell3⟩ := (HD.out.on (hbw.mono hB)).2.2 (by omega)
                    have p1 := hcell3 i (by omega)
                    have hin := HD.out.2.1 (l.getD i 0) (by simp [List.getD, show i < l.length by omega])
                    have HFY := Lib.hid (fstI_yes (l := l) (b := b) (k := i) (by omega))
                    have HFN := Lib.hid (fstI_no (l := l) (b := b) (k := i) (by omega))
                    obtain ⟨z, hz⟩ : ∃ z, l.getD i 0 = z := ⟨_, rfl⟩
                    rw [hz] at p1 hin HFY HFN
                    have hi0 : (0 : Int) ≤ (i : Int) := by omega
                    have hi1 : (i : Int) < (n3 : Int) := by omega
                    obtain ⟨f1, hf1⟩ : ∃ f1, fstI l b (i + 1) = f1 := ⟨_, rfl⟩
                    rw [hf1] at HFN ⊢
                    clear hcell3 hz hf1
                    rcases Int.lt_or_le z 0 with hneg | hpos
                    · have HF := Lib.hid (show fstI l b i = f1 from HFN.out (hasM_neg hneg))
                      clear HFN HFY
                      have hng : decide (0 ≤ z) = false := by simp; omega
                      go_wp2_with fail
                      go_quiet (fail)
                      go_wp2
                      go_roundw
                      case rel => exact ⟨i, by omega, by go_num, by rw [HF.out], below_drewn hb _⟩
                      case measure => first | (simp [intOf]; done) | (simp [intOf]; omega)
                    · obtain ⟨m, rfl⟩ : ∃ m : Nat, z = m := ⟨z.toNat, by omega⟩
                      have hm63 : m < 9223372036854775808 := by unfold In64 at hin; omega
                      obtain ⟨t, ht⟩ : ∃ t : Nat, m / 2 ^ b = t := ⟨_, rfl⟩
                      have hdiv : (m : Int) / (2 : Int) ^ b = (t : Int) := by rw [← ht]; simp
                      have htm : t ≤ m := by rw [← ht]; exact Nat.div_le_self _ _
                      have hand := bit_val (m := m) b (by omega)
                      rw [ht] at hand
                      rw [hasM_nat] at HFY HFN
                      cases htb : m.testBit b with
                      | true =>
                        rw [htb] at hand
                        have hand1 : bits .and .i64 (t : Int) 1 = 1 := hand
                        have HF := Lib.hid (show fstI l b i = (i : Int) from HFY.out htb)
                        clear HFN HFY hand htb
                        go_wp2_with fail
                        go_quiet (fail)
                        go_wp2
                        go_roundw
                        case rel => exact ⟨i, by omega, by go_num, by rw [HF.out], below_drewn hb _⟩
                        case measure => first | (simp [intOf]; done) | (simp [intOf]; omega)
                      | false =>
                        rw [htb] at hand
                        have hand1 : bits .and .i64 (t : Int) 1 = 0 := hand
                        have HF := Lib.hid (show fstI l b i = f1 from HFN.out htb)
                        clear HFN HFY hand htb
                        go_wp2_with fail
                        go_quiet (fail)
                        go_wp2
                        go_roundw
                        case rel => exact ⟨i, by omega, by go_num, by rw [HF.out], below_drewn hb _⟩
                        case measure => first | (simp [intOf]; done) | (simp [intOf]; omega)
              · obtain rfl : x = N := by omega
                have HN := Lib.hid (ltA_row x g y)
                go_wp2
                go_roundw
                case rel => exact ⟨y + 1, by omega, by go_num, by rw [← HN.out], hb⟩
                case measure => first | (simp [intOf]; done) | (simp [intOf]; omega)
        · obtain rfl : y = n := by omega
          have HBF := Lib.hid (HB.out.trans (hb.mono (by omega)))
          go_wp2
          go_ret
          exact ⟨rfl, HBF.out⟩
    · have HO := Lib.hid (fmtM_no (W := (N : Int)) (rows := rows) (l := l) (by unfold tilOk; rw [h, Bool.true_and, decide_eq_false_iff_not]; omega))
      rw [HO.out]
      clear h hr hln
      by_cases h0 : 0 < (n : Int)
      · go_enter Tryz.func25, Tryz.ntmps25
        go_wp2
        refine wp_loop_rounds 1 ?_
        rw [rounds_succ]
        go_wp2_with fail
        refine (sIsReg B n cap a N rows _ hn (H.out.on (hb0.mono hB)) (Nat.le_trans hB hb0.size)).mono ?_
        rintro e w' ⟨rfl, hb⟩
        rw [HI.out]
        go_wp2
        go_ret
        exact ⟨rfl, hb0.trans (hb.mono hb0.size)⟩
      · go_enter Tryz.func25, Tryz.ntmps25
        go_wp2
        refine wp_loop_rounds 1 ?_
        rw [rounds_succ]
        go_wp2
        go_ret
        exact ⟨rfl, hb0⟩

set_option maxHeartbeats 2000000 in
set_option maxRecDepth 100000 in
theorem iLetter (B n cap b : Nat) (a : Option Addr) (l : List Int) (w : World) (hn : n ≤ 26) (hc : IntsAt B w a n l) (hb : b ≤ 50) (hB : B ≤ w.heap.size) :
    Calls Tryz.prog 72 #[.slice a n cap, .int .i64 ((2 ^ b : Nat) : Int)] w fun e w' => e = .returned (.int .u8 ((letR l b).toNat : Int)) ∧ Below w.heap.size w w' := by
  have H := Lib.hid hc
  have hln := hc.1
  clear hc
  have hp : (2 : Nat) ^ b ≤ 2 ^ 50 := Nat.pow_le_pow_right (by omega) hb
  have HA := Lib.hid (fun m (hm : m < 9223372036854775808) => and_bit (m := m) (b := b) hm hb)
  obtain ⟨g, hg⟩ : ∃ g : Nat, 2 ^ b = g := ⟨_, rfl⟩
  have hg0 : 0 < g := by rw [← hg]; exact Nat.pos_of_ne_zero (by simp)
  rw [hg] at hp HA ⊢
  clear hg
  go_enter Tryz.func72, Tryz.ntmps72
  go_wp2
  go_loopw [9] (fun i wr => ∃ k : Nat, k ≤ n ∧ i = .int .i64 (k : Int) ∧ Hid (fstI l b 0 = fstI l b k) ∧ Below w.heap.size w wr) (fun i _ => n - (intOf i).toNat)
  case atStart => exact ⟨0, by omega, rfl, rfl, Below.refl _ _⟩
  case round =>
    obtain ⟨k, hk, rfl, hf, hbw⟩ := hrel
    by_cases hlt : k < n
    · obtain ⟨bl, off, rfl, hlB, hcell⟩ := (H.out.on (hbw.mono hB)).2.2 (by omega)
      have p1 := hcell k hlt
      have hin := H.out.2.1 (l.getD k 0) (by simp [List.getD, show k < l.length by omega])
      have HFY := Lib.hid (fstI_yes (l := l) (b := b) (k := k) (by omega))
      have HFN := Lib.hid (fstI_no (l := l) (b := b) (k := k) (by omega))
      obtain ⟨z, hz⟩ : ∃ z, l.getD k 0 = z := ⟨_, rfl⟩
      rw [hz] at p1 hin HFY HFN
      have hi0 : (0 : Int) ≤ (k : Int) := by omega
      have hi1 : (k : Int) < (n : Int) := by omega
      clear hcell hz
      rcases Int.lt_or_le 0 z with hpos | hneg
      · obtain ⟨m, rfl⟩ : ∃ m : Nat, z = m := ⟨z.toNat, by omega⟩
        have hm63 : m < 9223372036854775808 := by unfold In64 at hin; omega
        have hand := HA.out m hm63
        rw [hasM_nat] at HFY HFN
        cases htb : m.testBit b with
        | true =>
          rw [htb] at hand
          have hand1 : bits .and .i64 (m : Int) (g : Int) = (g : Int) := hand
          have e3 : ((g : Int) != 0) = true := by rw [bne_iff_ne]; omega
          have HF := Lib.hid (show ((letR l b).toNat : Int) = 97 + (k : Int) from by rw [letR_yes (hf.out.trans (HFY.out htb)), ofNat_letter (by omega)])
          clear HFN HFY hand htb hf
          go_wp2
          go_ret
          exact ⟨by rw [HF.out]; rfl, hbw⟩
        | false =>
          rw [htb] at hand
          have hand1 : bits .and .i64 (m : Int) (g : Int) = 0 := hand
          have HF := Lib.hid (show fstI l b 0 = fstI l b (k + 1) from hf.out.trans (HFN.out htb))
          clear HFN HFY hand htb hf
          go_wp2
          go_roundw
          case rel => exact ⟨k + 1, by omega, by go_num, HF.out, hbw⟩
          case measure => first | (simp [intOf]; done) | (simp [intOf]; omega)
      · have hm0 : hasM b z = false := by
          rcases Int.lt_or_le z 0 with h1 | h1
          · exact hasM_neg h1
          · have : z = ((0 : Nat) : Int) := by omega
            rw [this, hasM_nat]
            simp
        have HF := Lib.hid (show fstI l b 0 = fstI l b (k + 1) from hf.out.trans (HFN.out hm0))
        clear HFN HFY hm0 hf
        go_wp2
        go_roundw
        case rel => exact ⟨k + 1, by omega, by go_num, HF.out, hbw⟩
        case measure => first | (simp [intOf]; done) | (simp [intOf]; omega)
    · obtain rfl : k = n := by omega
      have HF := Lib.hid (show ((letR l b).toNat : Int) = 46 from by rw [letR_no (by rw [hf.out, ← hln, fstI_end]; decide)]; rfl)
      clear hf
      go_wp2
      go_ret
      exact ⟨by rw [HF.out]; rfl, hbw⟩

theorem RgAt.others' {w w' : World} {g : Nat} {W : Int} {v : Value} {b : Nat} (h : RgAt w g W v) (ho : Lib.OthersKept 5 (some b) w w') (hne : g ≠ b) : RgAt w' g W v := by
  refine ho g _ h ?_ ?_
  · intro e; exact hne (Option.some.inj e)
  · intro c fz e
    injection e with _ e2 _
    cases e2

set_option maxHeartbeats 4000000 in
set_option maxRecDepth 100000 in
theorem iFmtM (B n cap n3 cap3 : Nat) (a a3 : Option Addr) (W : Int) (rows l : List Int) (w : World) (hn : n ≤ 4194304) (hn3 : n3 ≤ 4194304) (hc : IntsAt B w a n rows) (hd : IntsAt B w a3 n3 l) (hB : B ≤ w.heap.size) :
    Calls Tryz.prog 24 #[.agg #[.int .i64 W, .slice a n cap], .slice a3 n3 cap3] w fun e w' => e = .returned (S (fmtM W rows l)) ∧ Below w.heap.size w w' := by
  have H := Lib.hid hc
  have HLN := Lib.hid hc.1
  have HD := Lib.hid hd
  have hl3 := hd.1
  clear hc hd
  have hb0 := (Below.refl w.heap.size w).alloc (Nat.le_refl _) (.cells #[.int .i64 W, .slice a n cap] 26)
  have hbox0 := RgAt.new (w := w) W (.slice a n cap) rfl
  have hsz0 : (w.alloc (.cells #[.int .i64 W, .slice a n cap] 26)).heap.size = w.heap.size + 1 := by simp
  cases h : isReg W rows with
  | false =>
    have HI := Lib.hid h
    have HO := Lib.hid (fmtM_no (W := W) (rows := rows) (l := l) (by unfold tilOk; rw [h]; rfl))
    rw [HO.out]
    clear h
    go_enter Tryz.func24, Tryz.ntmps24
    go_wp2_with fail
    refine (iIsReg B n cap a W rows _ hn (H.out.on (hb0.mono hB)) (Nat.le_trans hB hb0.size)).mono ?_
    rintro e w' ⟨rfl, hb⟩
    rw [HI.out]
    go_wp2
    go_ret
    exact ⟨rfl, hb0.trans (hb.mono hb0.size)⟩
  | true =>
    obtain ⟨N, rfl, hr⟩ := isReg_out h
    have hln := HLN.out
    rw [hln] at hr
    have HI := Lib.hid h
    have hN6 := hr.w6
    have hn6 := hr.h6
    by_cases h26 : (n3 : Int) ≤ 26
    · have h26' : n3 ≤ 26 := by omega
      have HO := Lib.hid (fmtM_yes hr (l := l) (by omega))
      rw [HO.out]
      clear h hr hln
      obtain ⟨g, hg⟩ : ∃ g, letG N l = g := ⟨_, rfl⟩
      have HG := Lib.hid hg
      rw [hg]
      clear hg HO
      go_enter Tryz.func24, Tryz.ntmps24
      go_wp2_with fail
      refine (iIsReg B n cap a N rows _ hn (H.out.on (hb0.mono hB)) (Nat.le_trans hB hb0.size)).mono ?_
      rintro e W1 ⟨rfl, hb⟩
      rw [HI.out]
      have HB1 := Lib.hid (hb0.trans (hb.mono hb0.size))
      have hbox1 := hbox0.on hb hbox0.lt
      have hsz1 := hb.size
      rw [hsz0] at hsz1
      clear hb hb0 hbox0 hsz0
      obtain ⟨bb, hbb⟩ : ∃ bb, W1.heap.size = bb := ⟨_, rfl⟩
      have hbd := bl_new W1
      have hbox := hbox1.alloc (.cells #[.pointer none, .slice none 0 0] 79)
      have HB := Lib.hid (HB1.out.alloc HB1.out.size (.cells #[.pointer none, .slice none 0 0] 79))
      have hszb : (W1.alloc (.cells #[.pointer none, .slice none 0 0] 79)).heap.size = bb + 1 := by simp [hbb]
      rw [hbb] at hbd hsz1
      have c1 := hbox.c1
      clear HB1 hbox1
      go_wp2_with fail
      generalize (W1.alloc (.cells #[.pointer none, .slice none 0 0] 79)) = W2 at *
      have HBD := Lib.hid hbd
      have HBX := Lib.hid hbox
      clear hbd hbox
      go_wp2
      clear c1
      go_loopw [19] (fun i wr => ∃ y : Nat, y ≤ n ∧ i = .int .i64 y ∧ Hid (Bl bb bb (ltT N g y) wr) ∧ Hid (RgAt wr w.heap.size N (.slice a n cap)) ∧ Below w.heap.size w wr ∧ bb + 1 ≤ wr.heap.size) (fun i _ => n - (intOf i).toNat)
      case atStart => exact ⟨0, by omega, rfl, HBD.out, HBX.out, HB.out, by omega⟩
      case round =>
        obtain ⟨y, hy, rfl, hbd, hbx, hb, hsz⟩ := hrel
        clear HBD HBX HB
        by_cases hlt : y < n
        · have hy1 : (y : Int) < (n : Int) := by omega
          have htl := (ltA_len N g y 0 hN6 (by omega) (by omega)).2
          by_cases h0 : 0 < y
          · have HS0 := Lib.hid (show ltT N g y ++ [47] = ltA N g y 0 from by rw [ltA_next N g y (by omega)])
            go_wp2_with fail
            refine (bWrite bb bb (ltT N g y) 47 47 rfl wr hbd.out (by omega) (by omega)).mono ?_
            rintro e w2 ⟨⟨r2, rfl⟩, hbd2, hb2, ho2⟩
            rw [HS0.out] at hbd2
            have hbx2 := hbx.out.others' ho2 (by omega)
            have hB2 := hb.trans (hb2.mono (by omega))
            have hsz2 : bb + 1 ≤ w2.heap.size := Nat.le_trans hsz hb2.size
            have HBD2 := Lib.hid hbd2
            have HBX2 := Lib.hid hbx2
            have HB2 := Lib.hid hB2
            have c0 := hbx2.c0
            clear hbd2 hb2 ho2 hbd hbx hb hsz hbx2 hB2
            go_wp2
            clear c0
            go_loopw [27] (fun i wr => ∃ x : Nat, x ≤ N ∧ i = .int .i64 x ∧ Hid (Bl bb bb (ltA N g y x) wr) ∧ Hid (RgAt wr w.heap.size N (.slice a n cap)) ∧ Below w.heap.size w wr ∧ bb + 1 ≤ wr.heap.size) (fun i _ => N - (intOf i).toNat)
            case atStart => exact ⟨0, by omega, rfl, HBD2.out, HBX2.out, HB2.out, hsz2⟩
            case round =>
              clear HBD2 HBX2 HB2 hsz2
              obtain ⟨x, hx, rfl, hbd, hbx, hb, hsz⟩ := hrel
              have c0 := hbx.out.c0
              have c1 := hbx.out.c1
              by_cases hxt : x < N
              · have hx1 : (x : Int) < (N : Int) := by omega
                have hlen := (ltA_len N g y x hN6 (by omega) (by omega)).1
                have hq : y * N + x ≤ 35 := by
                  have := Nat.mul_le_mul (show y ≤ 5 by omega) hN6
                  omega
                obtain ⟨b, hbq⟩ : ∃ b : Nat, y * N + x = b := ⟨_, rfl⟩
                have HLT := Lib.hid (show g y x = letR l b from by rw [← HG.out]; unfold letG; rw [hbq])
                have HST := Lib.hid (ltA_step N g y x)
                go_wp2_with fail
                refine (iBitOf x y N b wr hbq (by omega) (by omega) (by omega) hN6).mono ?_
                rintro e w3 ⟨rfl, hb3⟩
                have hbd3 := Bl.on hbd.out hb3 rfl
                have hbx3 := hbx.out.on hb3 hbx.out.lt
                have hB3 := hb.trans (hb3.mono hb.size)
                have hsz3 : bb + 1 ≤ w3.heap.size := Nat.le_trans hsz hb3.size
                clear hbd hbx hb hb3 c0 c1 hsz
                go_wp2_with fail
                refine (iLetter B n3 cap3 b a3 l w3 h26' (HD.out.on (hB3.mono hB)) (by omega) (Nat.le_trans hB hB3.size)).mono ?_
                rintro e w4 ⟨rfl, hb4⟩
                have hbd4 := Bl.on hbd3 hb4 rfl
                have hbx4 := hbx3.on hb4 hbx3.lt
                have hB4 := hB3.trans (hb4.mono hB3.size)
                have hsz4 : bb + 1 ≤ w4.heap.size := Nat.le_trans hsz3 hb4.size
                clear hbd3 hbx3 hB3 hb4 hsz3
                go_wp2_with fail
                refine (bWrite bb bb (ltA N g y x) (letR l b) _ rfl w4 hbd4 (by omega) (by omega)).mono ?_
                rintro e w5 ⟨⟨r5, rfl⟩, hbd5, hb5, ho5⟩
                have HBD5 := Lib.hid (show Bl bb bb (ltA N g y (x + 1)) w5 from by rw [HST.out, HLT.out]; exact hbd5)
                have HBX5 := Lib.hid (hbx4.others' ho5 (by omega))
                have HB5 := Lib.hid (hB4.trans (hb5.mono (by omega)))
                have hsz5 : bb + 1 ≤ w5.heap.size := Nat.le_trans hsz4 hb5.size
                clear hbd5 hb5 ho5 hbd4 hbx4 hB4
                go_wp2
                go_roundw
                case rel => first
                  | exact ⟨x + 1, by omega, by go_num, HBD5.out, HBX5.out, HB5.out, hsz5⟩
                  | (repeat apply Exists.intro
                     exact ⟨⟨x + 1, by omega, by go_num, HBD5.out, HBX5.out, HB5.out, hsz5⟩, rfl⟩)
                case measure => first | (simp [intOf]; done) | (simp [intOf]; omega)
              · obtain rfl : x = N := by omega
                have HN := Lib.hid (ltA_row x g y)
                have HBD4 := Lib.hid (show Bl bb bb (ltT x g (y + 1)) wr from by rw [← HN.out]; exact hbd.out)
                clear hbd
                go_wp2
                go_roundw
                case rel => first
                  | exact ⟨y + 1, by omega, by go_num, HBD4.out, hbx, hb, hsz⟩
                  | (repeat apply Exists.intro
                     exact ⟨⟨y + 1, by omega, by go_num, HBD4.out, hbx, hb, hsz⟩, rfl⟩)
                case measure => first | (simp [intOf]; done) | (simp [intOf]; omega)
          · have HS0 := Lib.hid (show ltT N g y = ltA N g y 0 from by
              have hy0 : y = 0 := by omega
              subst hy0
              rw [ltA_first])
            have HBD2 := Lib.hid (show Bl bb bb (ltA N g y 0) wr from by rw [← HS0.out]; exact hbd.out)
            have c0 := hbx.out.c0
            have HBX2 := Lib.hid hbx.out
            have HB2 := Lib.hid hb
            have hsz2 := hsz
            clear hbd hbx hb hsz
            go_wp2
            clear c0
            go_loopw [27] (fun i wr => ∃ x : Nat, x ≤ N ∧ i = .int .i64 x ∧ Hid (Bl bb bb (ltA N g y x) wr) ∧ Hid (RgAt wr w.heap.size N (.slice a n cap)) ∧ Below w.heap.size w wr ∧ bb + 1 ≤ wr.heap.size) (fun i _ => N - (intOf i).toNat)
            case atStart => exact ⟨0, by omega, rfl, HBD2.out, HBX2.out, HB2.out, hsz2⟩
            case round =>
              clear HBD2 HBX2 HB2 hsz2
              obtain ⟨x, hx, rfl, hbd, hbx, hb, hsz⟩ := hrel
              have c0 := hbx.out.c0
              have c1 := hbx.out.c1
              by_cases hxt : x < N
              · have hx1 : (x : Int) < (N : Int) := by omega
                have hlen := (ltA_len N g y x hN6 (by omega) (by omega)).1
                have hq : y * N + x ≤ 35 := by
                  have := Nat.mul_le_mul (show y ≤ 5 by omega) hN6
                  omega
                obtain ⟨b, hbq⟩ : ∃ b : Nat, y * N + x = b := ⟨_, rfl⟩
                have HLT := Lib.hid (show g y x = letR l b from by rw [← HG.out]; unfold letG; rw [hbq])
                have HST := Lib.hid (ltA_step N g y x)
                go_wp2_with fail
                refine (iBitOf x y N b wr hbq (by omega) (by omega) (by omega) hN6).mono ?_
                rintro e w3 ⟨rfl, hb3⟩
                have hbd3 := Bl.on hbd.out hb3 rfl
                have hbx3 := hbx.out.on hb3 hbx.out.lt
                have hB3 := hb.trans (hb3.mono hb.size)
                have hsz3 : bb + 1 ≤ w3.heap.size := Nat.le_trans hsz hb3.size
                clear hbd hbx hb hb3 c0 c1 hsz
                go_wp2_with fail
                refine (iLetter B n3 cap3 b a3 l w3 h26' (HD.out.on (hB3.mono hB)) (by omega) (Nat.le_trans hB hB3.size)).mono ?_
                rintro e w4 ⟨rfl, hb4⟩
                have hbd4 := Bl.on hbd3 hb4 rfl
                have hbx4 := hbx3.on hb4 hbx3.lt
                have hB4 := hB3.trans (hb4.mono hB3.size)
                have hsz4 : bb + 1 ≤ w4.heap.size := Nat.le_trans hsz3 hb4.size
                clear hbd3 hbx3 hB3 hb4 hsz3
                go_wp2_with fail
                refine (bWrite bb bb (ltA N g y x) (letR l b) _ rfl w4 hbd4 (by omega) (by omega)).mono ?_
                rintro e w5 ⟨⟨r5, rfl⟩, hbd5, hb5, ho5⟩
                have HBD5 := Lib.hid (show Bl bb bb (ltA N g y (x + 1)) w5 from by rw [HST.out, HLT.out]; exact hbd5)
                have HBX5 := Lib.hid (hbx4.others' ho5 (by omega))
                have HB5 := Lib.hid (hB4.trans (hb5.mono (by omega)))
                have hsz5 : bb + 1 ≤ w5.heap.size := Nat.le_trans hsz4 hb5.size
                clear hbd5 hb5 ho5 hbd4 hbx4 hB4
                go_wp2
                go_roundw
                case rel => first
                  | exact ⟨x + 1, by omega, by go_num, HBD5.out, HBX5.out, HB5.out, hsz5⟩
                  | (repeat apply Exists.intro
                     exact ⟨⟨x + 1, by omega, by go_num, HBD5.out, HBX5.out, HB5.out, hsz5⟩, rfl⟩)
                case measure => first | (simp [intOf]; done) | (simp [intOf]; omega)
              · obtain rfl : x = N := by omega
                have HN := Lib.hid (ltA_row x g y)
                have HBD4 := Lib.hid (show Bl bb bb (ltT x g (y + 1)) wr from by rw [← HN.out]; exact hbd.out)
                clear hbd
                go_wp2
                go_roundw
                case rel => first
                  | exact ⟨y + 1, by omega, by go_num, HBD4.out, hbx, hb, hsz⟩
                  | (repeat apply Exists.intro
                     exact ⟨⟨y + 1, by omega, by go_num, HBD4.out, hbx, hb, hsz⟩, rfl⟩)
                case measure => first | (simp [intOf]; done) | (simp [intOf]; omega)
        · obtain rfl : y = n := by omega
          go_wp2_with fail
          refine (bStr bb bb (ltT N g y) _ hbd.out (by omega)).mono ?_
          rintro e w7 ⟨rfl, hb7⟩
          have hb8 := hb.trans (hb7.mono (by omega))
          go_wp2
          go_ret
          exact ⟨rfl, hb8⟩
    · have HO := Lib.hid (fmtM_no (W := (N : Int)) (rows := rows) (l := l) (by unfold tilOk; rw [h, Bool.true_and, decide_eq_false_iff_not]; omega))
      rw [HO.out]
      clear h hr hln
      go_enter Tryz.func24, Tryz.ntmps24
      go_wp2_with fail
      refine (iIsReg B n cap a N rows _ hn (H.out.on (hb0.mono hB)) (Nat.le_trans hB hb0.size)).mono ?_
      rintro e w' ⟨rfl, hb⟩
      rw [HI.out]
      go_wp2
      go_ret
      exact ⟨rfl, hb0.trans (hb.mono hb0.size)⟩

end Go.Proofs.YtkjlmgkjcmebbaaGreatDoor
