/-
  The varint decoder of the model: what each call gives.
-/
import Derived.Test.YtljlkhlnjjchgaaDvw
import Derived.Deep.RegionWith
namespace Go.Proofs.Ytljlkhlnjjchgaa
open Go.RowKit

theorem bs_length (s : ByteArray) : (bs s).length = s.size := by simp
theorem ext_toList (s : ByteArray) (k : Nat) : (s.extract 0 k).toList = (bs s).take k := by
  rw [ByteArray.toList_eq]
  simp
theorem of_beq_true {a b : List UInt8} (h : (a == b) = true) : a = b := eq_of_beq h
theorem drop_all (s : ByteArray) (k : Nat) (h : 1 ≤ k) : Hid (0 = val (((bs s).take k).drop ((k : Int) - 1 + 1).toNat)) := by
  have e : ((k : Int) - 1 + 1).toNat = k := by omega
  rw [e, List.drop_of_length_le (by rw [List.length_take]; omega)]
  rfl
theorem val_drop_step (s : ByteArray) (k j : Nat) (h : j < k) (hk : k ≤ s.size) : val (((bs s).take k).drop j) = val (((bs s).take k).drop ((j : Int) + 1).toNat) * 128 + (s[j]'(by omega)).toNat % 128 := by
  have e : ((j : Int) + 1).toNat = j + 1 := by omega
  have hl : j < ((bs s).take k).length := by rw [List.length_take]; simp; omega
  rw [e, List.drop_eq_getElem_cons hl, val]
  have : ((bs s).take k)[j] = s[j]'(by omega) := by simp; rfl
  rw [this]
  omega
theorem val_drop_lt (s : ByteArray) (k j : Nat) (h : k ≤ 7) : val (((bs s).take k).drop j) < 562949953421312 := by
  have h1 := val_lt (((bs s).take k).drop j)
  have h2 : (((bs s).take k).drop j).length ≤ 7 := by rw [List.length_drop, List.length_take]; omega
  have h3 : 128 ^ (((bs s).take k).drop j).length ≤ 128 ^ 7 := Nat.pow_le_pow_right (by omega) h2
  have h4 : 128 ^ 7 = 562949953421312 := by decide
  omega

set_option maxHeartbeats 1000000 in
set_option maxRecDepth 100000 in
theorem sDecV_any (s : ByteArray) (w : World) (hs : s.size ≤ 4194304) :
    Calls Try.prog 15 #[.string s] w fun e w' => e = .returned (.tuple #[.int .i64 ((decV (bs s)).1 : Nat), .int .i64 ((decV (bs s)).2 : Nat)]) ∧ Below w.heap.size w w' := by
  go_enter Try.func15, Try.ntmps15
  go_wp2
  go_loopw [4] (fun i wr => ∃ k : Nat, 1 ≤ k ∧ k ≤ 8 ∧ i = .int .i64 k ∧ Hid (∀ j, 1 ≤ j → j < k → j ≤ s.size → vi 7 (val ((bs s).take j)) ≠ (bs s).take j) ∧ Below w.heap.size w wr) (fun i _ => 8 - (intOf i).toNat)
  case atStart => exact ⟨1, by omega, by omega, rfl, (by intro j h1 h2; omega), Below.refl _ _⟩
  case round =>
    obtain ⟨k, hk1, hk8, rfl, hall, hb⟩ := hrel
    by_cases hlt : k ≤ 7 ∧ k ≤ s.size
    · obtain ⟨hlt1, hlt2⟩ := hlt
      go_wp2
      go_loop [5, 6] (fun n i => ∃ (q : Int) (m : Nat), -1 ≤ q ∧ q < k ∧ i = .int .i64 q ∧ n = .int .i64 m ∧ m < 562949953421312 ∧ Hid (m = val (((bs s).take k).drop (q + 1).toNat))) (fun _ i => (intOf i + 1).toNat)
      case atStart => exact ⟨(k : Int) - 1, 0, by omega, by omega, rfl, rfl, by omega, by rw [drop_all s k hk1]; rfl⟩
      case round =>
        obtain ⟨q, m, hq1, hq2, rfl, rfl, hm7, hm⟩ := hrel
        by_cases hq : 0 ≤ q
        · obtain ⟨j, rfl⟩ := Int.eq_ofNat_of_zero_le hq
          have hj : j < s.size := by omega
          have hbt : s[j].toNat < 256 := s[j].toNat_lt
          have HN := Lib.hid (val_drop_step s k j (by omega) hlt2)
          have hm8 : m * 128 + s[j].toNat % 128 < 562949953421312 := by
            have := val_drop_lt s k j hlt1
            rw [HN.out] at this
            rw [hm.out]
            exact this
          go_wp2
          go_round
          case rel => exact ⟨(j : Int) - 1, m * 128 + s[j].toNat % 128, by omega, by omega, rfl, by go_num, hm8, by
            have e : ((j : Int) - 1 + 1).toNat = j := by omega
            rw [e, HN.out, ← hm.out]; rfl⟩
          case measure => simp [intOf]
        · obtain rfl : q = -1 := by omega
          have HM : Hid (m = val ((bs s).take k)) := by have := hm.out; simpa [Hid] using this
          clear hm
          have HE := Lib.hid (encV_yes (N := m) (by omega))
          go_wp2_with fail
          go_region_with (go_at_call 13; refine (sEncV_any _ _).mono ?_; rintro e w' ⟨rfl, hbe⟩)
          go_wp2
          · rename_i heq
            have hv : vi 7 m = (bs s).take k := by
              rw [← HE.out, ← ext_toList]
              exact of_beq_true heq
            go_ret2
            have hd := decV_hit (bs s) k hk1 hlt1 (by rw [bs_length]; exact hlt2) (by rw [← HM.out]; exact hv)
            exact ⟨ret_NN (by rw [hd, HM.out]) (by rw [hd]), hb.drew.trans (hbe.mono hb.size)⟩
          · rename_i heq
            have hv : vi 7 m ≠ (bs s).take k := by
              rw [← HE.out, ← ext_toList]
              exact fun e => by rw [e] at heq; simp at heq
            go_roundw
            case rel => exact ⟨k + 1, by omega, by omega, by go_num, (by
              intro j h1 h2 h3
              rcases Nat.lt_or_ge j k with h | h
              · exact hall.out j h1 h h3
              · obtain rfl : j = k := by omega
                rw [← HM.out]
                exact hv), hb.drew.trans (hbe.mono hb.size)⟩
            case measure => simp [intOf]; omega
    · go_wp2
      all_goals
        go_ret2
        have hd : decV (bs s) = (0, 0) := decV_miss (bs s) fun j h1 h2 h3 => hall.out j h1 (by rw [bs_length] at h3; omega) (by rw [bs_length] at h3; exact h3)
        exact ⟨ret_NN (a := 0) (c := 0) (by rw [hd]) (by rw [hd]), hb⟩

end Go.Proofs.Ytljlkhlnjjchgaa
