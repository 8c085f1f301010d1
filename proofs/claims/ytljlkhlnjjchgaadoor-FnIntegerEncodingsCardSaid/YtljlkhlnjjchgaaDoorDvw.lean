/-
  The varint decoders of the program and of its model: what each call gives.
-/
import Derived.Test.YtljlkhlnjjchgaaDoorDva
import Derived.RegionCalls
namespace Go.Proofs.YtljlkhlnjjchgaaDoor
open Go.RowKit

abbrev bs (s : ByteArray) : List UInt8 := s.data.toList

theorem ret_NN {a b c d : Nat} (h : a = b) (h' : c = d) : Ending.returned (.tuple #[.int .i64 (a : Int), .int .i64 (c : Int)]) = .returned (.tuple #[.int .i64 (b : Int), .int .i64 (d : Int)]) := by rw [h, h']

theorem val_take_succ (s : ByteArray) (k : Nat) (h : k < s.size) : val ((bs s).take (k + 1)) = val ((bs s).take k) + s[k].toNat % 128 * 128 ^ k := by
  rw [take_snoc s k h, val_snoc, List.length_take, Nat.min_eq_left (by simp; omega)]

def rgV (l : List UInt8) : Nat := if grp 7 l = 0 then 0 else val (l.take (grp 7 l))
theorem rgV_no {l : List UInt8} (h : grp 7 l = 0) : rgV l = 0 := by rw [rgV, if_pos h]
theorem rgV_yes {l : List UInt8} (h : grp 7 l ≠ 0) : rgV l = val (l.take (grp 7 l)) := by rw [rgV, if_neg h]

theorem or_step (m k : Nat) (b : UInt8) (hm : m < 128 ^ k) (hk : k < 7) :
    bits BinOp.or .i64 (m : Int) (wrap64 (wrap64 (bits BinOp.and .u8 (b.toNat : Int) 127) * 2 ^ (7 * k))) = ((m + b.toNat % 128 * 128 ^ k : Nat) : Int) := by
  have hb := b.toNat_lt
  have h1 : bits BinOp.and .u8 (b.toNat : Int) 127 = ((b.toNat % 128 : Nat) : Int) := by
    have := u8_and_nat b.toNat 127 (by omega) (by omega)
    rw [Nat.and_two_pow_sub_one_eq_mod b.toNat 7] at this
    exact this
  have hp : (2 : Nat) ^ (7 * k) = 128 ^ k := by rw [Nat.pow_mul]
  have h7 : 128 ^ k ≤ 128 ^ 6 := Nat.pow_le_pow_right (by omega) (by omega)
  have h6 : 128 ^ 6 = 4398046511104 := by decide
  have hc : b.toNat % 128 < 128 := Nat.mod_lt _ (by omega)
  have hx : b.toNat % 128 * 128 ^ k ≤ 127 * 4398046511104 := Nat.mul_le_mul (by omega) (by omega)
  rw [h1, IntWalk.wrap64_in ((b.toNat % 128 : Nat) : Int) (by omega)]
  have e : ((b.toNat % 128 : Nat) : Int) * 2 ^ (7 * k) = ((b.toNat % 128 * 128 ^ k : Nat) : Int) := by
    rw [← hp]; push_cast; rfl
  rw [e, IntWalk.wrap64_in _ (by omega), i64_or_nat _ _ (by omega) (by omega), Nat.or_comm, nat_join (7 * k) _ _ (by rw [hp]; simp) (by rw [hp]; exact hm)]
  congr 1
  omega

theorem hit_at (s : ByteArray) (k : Nat) (h1 : k < 7) (h2 : k < s.size) (hall : ∀ j, j < k → ∀ hs : j < s.size, 128 ≤ s[j].toNat) (hb : s[k].toNat < 128) : grp 7 (bs s) = k + 1 :=
  grp_at (bs s) k 7 h1 (by simpa using h2) (fun j hj => hall j hj (by omega)) hb
theorem miss_at (s : ByteArray) (k : Nat) (h : ¬ (k < 7 ∧ k < s.size)) (hall : ∀ j, j < k → ∀ hs : j < s.size, 128 ≤ s[j].toNat) : grp 7 (bs s) = 0 :=
  grp_none (bs s) 7 fun j hj hj7 => by
    have hj' : j < s.size := by simpa using hj
    exact hall j (by omega) hj'

set_option maxHeartbeats 1000000 in
set_option maxRecDepth 100000 in
theorem iGroups (s : ByteArray) (w : World) (hs : s.size ≤ 4194304) :
    Calls Tryd.prog 24 #[.string s] w fun e w' => e = .returned (.tuple #[.int .i64 (rgV (bs s) : Nat), .int .i64 (grp 7 (bs s) : Nat)]) ∧ w = w' := by
  go_enter Tryd.func24, Tryd.ntmps24
  go_wp2
  all_goals
    go_loop [4, 9] (fun n i => ∃ k m : Nat, k ≤ 7 ∧ k ≤ s.size ∧ i = .int .i64 k ∧ n = .int .i64 m ∧ Hid (m = val ((bs s).take k)) ∧ Hid (∀ j, j < k → ∀ hs : j < s.size, 128 ≤ s[j].toNat)) (fun _ i => 7 - (intOf i).toNat)
    case atStart => exact ⟨0, 0, by omega, by omega, rfl, rfl, by simp [Hid, val], by intro j hj; omega⟩
    case round =>
      obtain ⟨k, m, hk, hk2, rfl, rfl, hm, hall⟩ := hrel
      by_cases hlt : k < 7 ∧ k < s.size
      · obtain ⟨hlt1, hlt2⟩ := hlt
        have hv := val_take_lt (bs s) k hk
        rw [← hm.out] at hv
        have hbt := s[k].toNat_lt
        have HV := Lib.hid (val_take_succ s k hlt2)
        have HO := Lib.hid (or_step m k s[k] (by rw [hm.out]; have := val_lt ((bs s).take k); rwa [List.length_take, Nat.min_eq_left (by simpa using hk2)] at this) hlt1)
        by_cases hb : s[k].toNat < 128
        · have hg := Lib.hid (hit_at s k hlt1 hlt2 hall.out hb)
          go_wp2
          go_ret2
          refine ⟨?_, rfl⟩
          show Ending.returned (.tuple #[.int .i64 (bits BinOp.or .i64 (m : Int) (wrap64 (wrap64 (bits BinOp.and .u8 (s[k].toNat : Int) 127) * 2 ^ (7 * k)))), .int .i64 ((k : Int) + 1)]) = _
          rw [HO.out, rgV_yes (by rw [hg.out]; omega), hg.out, HV.out, hm.out]
          rfl
        · go_wp2
          go_round
          case rel => exact ⟨k + 1, m + s[k].toNat % 128 * 128 ^ k, by omega, by omega, by go_num, by rw [HO.out], by rw [HV.out, ← hm.out]; rfl, by
            intro j hj hjs
            rcases Nat.lt_or_ge j k with h | h
            · exact hall.out j h hjs
            · obtain rfl : j = k := by omega
              omega⟩
          case measure => simp [intOf]; omega
      · have hg := Lib.hid (miss_at s k hlt hall.out)
        go_wp2
        go_ret2
        refine ⟨?_, rfl⟩
        exact ret_NN (a := 0) (c := 0) (rgV_no hg.out).symm hg.out.symm

set_option maxHeartbeats 400000 in
theorem iDecV_any (s : ByteArray) (w : World) (hs : s.size ≤ 4194304) :
    Calls Tryd.prog 10 #[.string s] w fun e w' => e = .returned (.tuple #[.int .i64 ((decV (bs s)).1 : Nat), .int .i64 ((decV (bs s)).2 : Nat)]) ∧ Below w.heap.size w w' := by
  by_cases h0 : grp 7 (bs s) = 0
  · have hd : decV (bs s) = (0, 0) := by rw [decV, if_neg (fun h => h.1 h0)]
    have HD := Lib.hid hd
    have HR := Lib.hid (rgV_no h0)
    have H0 := Lib.hid h0
    clear hd h0
    go_enter Tryd.func10, Tryd.ntmps10
    go_wp2_with fail
    refine (iGroups s _ hs).mono ?_
    rintro e w1 ⟨rfl, rfl⟩
    rw [H0.out, HR.out]
    go_wp2
    go_ret2
    exact ⟨ret_NN (a := 0) (c := 0) (by rw [HD.out]) (by rw [HD.out]), Below.refl _ _⟩
  · have hle := (grp_le 7 (bs s)).1
    have hv := val_take_lt (bs s) _ hle
    have hne : (((grp 7 (bs s) : Nat) : Int) == 0) = false := by simp; exact h0
    rw [← rgV_yes h0] at hv
    have HE := Lib.hid (encV_yes (N := rgV (bs s)) (by omega))
    have HR := Lib.hid (rgV_yes h0)
    have H0 := Lib.hid h0
    clear h0
    go_enter Tryd.func10, Tryd.ntmps10
    go_wp2_with fail
    refine (iGroups s _ hs).mono ?_
    rintro e w1 ⟨rfl, rfl⟩
    go_wp2_with fail
    refine (iEncV_any _ _).mono ?_
    rintro e w2 ⟨rfl, hb⟩
    rw [HE.out]
    go_wp2
    · have ht : (((vi 7 (rgV (bs s))).length : Nat) : Int) ≠ ((grp 7 (bs s) : Nat) : Int) := by
        rename_i h
        simpa using h
      go_ret2
      have hd : decV (bs s) = (0, 0) := by
        rw [decV, if_neg]
        rintro ⟨-, h2⟩
        rw [← HR.out] at h2
        omega
      exact ⟨ret_NN (a := 0) (c := 0) (by rw [hd]) (by rw [hd]), hb⟩
    · have ht : (((vi 7 (rgV (bs s))).length : Nat) : Int) = ((grp 7 (bs s) : Nat) : Int) := by
        rename_i h
        simpa using h
      go_ret2
      have hd : decV (bs s) = (rgV (bs s), grp 7 (bs s)) := by
        rw [decV, if_pos ⟨H0.out, by rw [← HR.out]; omega⟩, ← HR.out]
      exact ⟨ret_NN (by rw [hd]) (by rw [hd]), hb⟩

end Go.Proofs.YtljlkhlnjjchgaaDoor
