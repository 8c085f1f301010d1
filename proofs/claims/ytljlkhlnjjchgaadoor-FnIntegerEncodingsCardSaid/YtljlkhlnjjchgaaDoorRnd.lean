/-
  What is written is read back: plain arithmetic on bytes. Nothing of the program is claimed here.
-/
import Derived.Test.YtljlkhlnjjchgaaDoorNum
import Derived.Test.YtljlkhlnjjchgaaDoorPii
namespace Go.Proofs.YtljlkhlnjjchgaaDoor
open Go.RowKit

theorem val_vi : ∀ (f n : Nat), n < 128 ^ f → val (vi f n) = n := by
  intro f
  induction f with
  | zero => intro n h; simp at h; subst h; rfl
  | succ f ih =>
    intro n h
    by_cases hn : n < 128
    · rw [vi_small hn]
      simp [val]
      omega
    · rw [vi_big hn]
      simp only [val]
      rw [ih (n / 128) (by rw [Nat.pow_succ] at h; exact Nat.div_lt_of_lt_mul (by simpa [Nat.mul_comm] using h))]
      have : (UInt8.ofNat (128 + n % 128)).toNat = 128 + n % 128 := by simp; omega
      rw [this]
      omega
theorem vi_len : ∀ (f n : Nat), (vi f n).length ≤ f := by
  intro f
  induction f with
  | zero => intro n; simp [vi]
  | succ f ih =>
    intro n
    rw [vi]
    split
    · simp
    · have := ih (n / 128)
      simp
      omega
theorem decV_enc (N : Nat) (h : N ≤ 562949953421311) (l : List UInt8) : decV (vi 7 N ++ l) = (N, (vi 7 N).length) := by
  have hv := val_vi 7 N (by omega)
  have hg := grp_vi 7 N [] (by omega) (by omega)
  have ht : (vi 7 N ++ l).take (vi 7 N).length = vi 7 N := by simp
  rw [decV_hit (vi 7 N ++ l) (vi 7 N).length (by omega) (vi_len 7 N) (by simp) (by rw [ht, hv]), ht, hv]
theorem ofBe_be : ∀ (W N : Nat), ofBe (be W N) = N % 256 ^ W := by
  intro W
  have key : ∀ (W N a : Nat), (be W N).foldl (fun a b => a * 256 + b.toNat) a = a * 256 ^ W + N % 256 ^ W := by
    intro W
    induction W with
    | zero => intro N a; simp [be, Nat.mod_one]
    | succ W ih =>
      intro N a
      simp only [be, List.foldl_cons]
      rw [ih]
      have e : (UInt8.ofNat (N / 256 ^ W % 256)).toNat = N / 256 ^ W % 256 := by simp
      rw [e, Nat.pow_succ, Nat.mod_mul, Nat.add_mul, Nat.mul_assoc, Nat.mul_comm 256 (256 ^ W), Nat.mul_comm (256 ^ W) (N / 256 ^ W % 256)]
      omega
  intro N
  have := key W N 0
  simpa [ofBe] using this
theorem bs_app (a b : List UInt8) : bs (ByteArray.mk a.toArray ++ ByteArray.mk b.toArray) = a ++ b := by rw [S_append]
theorem bs_mk (a : List UInt8) : bs (ByteArray.mk a.toArray) = a := by simp
theorem decF_enc (N W : Nat) (l : List UInt8) (h1 : 1 ≤ W) (h2 : W ≤ 7) (h : ¬ 0 < N / 256 ^ W) : decF (ByteArray.mk (be W N).toArray ++ ByteArray.mk l.toArray) (W : Int) = (N, true) := by
  have hs : W ≤ (ByteArray.mk (be W N).toArray ++ ByteArray.mk l.toArray).size := by
    rw [S_append]
    show W ≤ (be W N ++ l).toArray.size
    simp [be_length]
  rw [decF_yes h1 h2 hs]
  have e : ((ByteArray.mk (be W N).toArray ++ ByteArray.mk l.toArray).data.toList.take W) = be W N := by
    show (bs _).take W = _
    rw [bs_app, List.take_left' (be_length W N)]
  rw [e, ofBe_be]
  have hlt : N < 256 ^ W := by
    rcases Nat.lt_or_ge N (256 ^ W) with hl | hl
    · exact hl
    · exact absurd (Nat.div_pos hl (Nat.pos_of_ne_zero (by simp))) h
  rw [Nat.mod_eq_of_lt hlt]
theorem hexd_fh (k : Nat) (h : k < 16) : fh (hexd k) = k := by
  have : ∀ k, k < 16 → fh (hexd k) = k := by decide +kernel
  exact this k h
theorem dh_cons (a b : UInt8) (r : List UInt8) (k : Nat) : dh (a :: b :: r) (k + 1) = UInt8.ofNat (16 * fh a + fh b).toNat :: dh r k := by
  unfold dh
  rw [List.range_succ_eq_map]
  simp only [List.map_cons, List.map_map]
  congr 1
theorem dh_enc : ∀ l : List UInt8, dh (encH l) l.length = l := by
  intro l
  induction l with
  | nil => rfl
  | cons b r ih =>
    have hb := b.toNat_lt
    simp only [encH, List.length_cons]
    rw [dh_cons, ih, hexd_fh _ (by omega), hexd_fh _ (by omega)]
    congr 1
    apply UInt8.toNat_inj.1
    simp
    omega
theorem hexOk_enc (l : List UInt8) : hexOk (encH l) = true := by
  unfold hexOk
  rw [Bool.and_eq_true]
  refine ⟨by rw [encH_length]; simp, ?_⟩
  induction l with
  | nil => rfl
  | cons b r ih =>
    have hb := b.toNat_lt
    simp only [encH, List.all_cons]
    rw [hexd_fh _ (by omega), hexd_fh _ (by omega), ih]
    simp
    omega
theorem dhR_enc (l : List UInt8) : dhR (encH l) = l := by
  rw [dhR_yes (hexOk_enc l), encH_length]
  have : 2 * l.length / 2 = l.length := by omega
  rw [this, dh_enc]

theorem cur_below {B g : Nat} {w w1 w2 : World} (h1 : w.grownBy w1 none) (h2 : w1.grownBy w2 (some g)) (hB : B ≤ w.heap.size) (hg : B ≤ g) : Below B w w2 :=
  ((Below.refl B w).grown h1 hB (fun k e => by cases e)).grown h2 (Nat.le_trans hB h1.size) (fun k e => by cases e; exact hg)

set_option maxHeartbeats 400000 in
theorem drawV (B : Nat) (a : Option Addr) (len cap : Nat) (w : World) (hc : Code B w a len cap) (hl : len ≤ 1048576) (hB : B ≤ w.heap.size) :
    Calls Tryd.prog 7 #[.slice a len cap] w fun e w' => ∃ x : Int, -9223372036854775808 ≤ x ∧ x ≤ 9223372036854775807 ∧ e = .returned (.int .i64 x) ∧ Below B w w' := by
  have HC := Lib.hid hc
  clear hc
  go_enter Tryd.func7, Tryd.ntmps7
  go_wp2_with fail
  refine (dNew B a len cap _ HC.out hl hB).mono ?_
  rintro e w1 ⟨rfl, hc1, hg1⟩
  have HC1 := Lib.hid hc1
  have HG1 := Lib.hid hg1
  clear hc1 hg1
  go_wp2_with fail
  refine (dNum B _ _ HC1.out).mono ?_
  rintro e w2 ⟨x, hx0, hx1, rfl, hc2, hg2⟩
  have HG2 := Lib.hid hg2
  clear hc2 hg2
  go_wp2
  go_ret
  exact ⟨x, hx0, hx1, rfl, cur_below HG1.out HG2.out hB hB⟩

set_option maxHeartbeats 400000 in
theorem drawH (B : Nat) (a : Option Addr) (len cap : Nat) (w : World) (hc : Code B w a len cap) (hl : len ≤ 1048576) (hB : B ≤ w.heap.size) :
    Calls Tryd.prog 8 #[.slice a len cap] w fun e w' => ∃ l : List UInt8, l.length ≤ 40 ∧ e = .returned (S l) ∧ Below B w w' := by
  have HC := Lib.hid hc
  clear hc
  go_enter Tryd.func8, Tryd.ntmps8
  go_wp2_with fail
  refine (dNew B a len cap _ HC.out hl hB).mono ?_
  rintro e w1 ⟨rfl, hc1, hg1⟩
  have HC1 := Lib.hid hc1
  have HG1 := Lib.hid hg1
  clear hc1 hg1
  go_wp2_with fail
  refine (dText B _ 40 _ HC1.out (by omega) (by omega)).mono ?_
  rintro e w2 ⟨l, hl0, rfl, hc2, hg2⟩
  have HG2 := Lib.hid hg2
  clear hc2 hg2
  go_wp2
  go_ret
  exact ⟨l, by omega, rfl, cur_below HG1.out HG2.out hB hB⟩

set_option maxHeartbeats 400000 in
theorem drawF (B : Nat) (a : Option Addr) (len cap : Nat) (w : World) (hc : Code B w a len cap) (hl : len ≤ 1048576) (hB : B ≤ w.heap.size) :
    Calls Tryd.prog 11 #[.slice a len cap] w fun e w' => ∃ x y : Int, (-9223372036854775808 ≤ x ∧ x ≤ 9223372036854775807) ∧ (-1 ≤ y ∧ y ≤ 8) ∧ e = .returned (.tuple #[.int .i64 x, .int .i64 y]) ∧ Below B w w' := by
  have HC := Lib.hid hc
  clear hc
  go_enter Tryd.func11, Tryd.ntmps11
  go_wp2_with fail
  refine (dNew B a len cap _ HC.out hl hB).mono ?_
  rintro e w1 ⟨rfl, hc1, hg1⟩
  have HC1 := Lib.hid hc1
  have HG1 := Lib.hid hg1
  clear hc1 hg1
  go_wp2_with fail
  refine (dNum B _ _ HC1.out).mono ?_
  rintro e w2 ⟨x, hx0, hx1, rfl, hc2, hg2⟩
  have HC2 := Lib.hid hc2
  have HG2 := Lib.hid hg2
  clear hc2 hg2
  go_wp2_with fail
  refine (dBelow B _ 10 _ HC2.out (by omega) (by omega)).mono ?_
  rintro e w3 ⟨y, hy0, hy1, rfl, hc3, hg3⟩
  have HG3 := Lib.hid hg3
  clear hc3 hg3
  go_wp2
  go_ret2
  exact ⟨x, y - 1, ⟨hx0, hx1⟩, ⟨by omega, by omega⟩, rfl, cur_below HG1.out (grow_trans HG2.out HG3.out) hB hB⟩

end Go.Proofs.YtljlkhlnjjchgaaDoor
