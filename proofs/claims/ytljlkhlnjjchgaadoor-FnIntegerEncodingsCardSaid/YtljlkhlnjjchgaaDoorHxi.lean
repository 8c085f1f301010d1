/-
  The hexadecimal encoder of the program: what each call gives.
-/
import Derived.Test.YtljlkhlnjjchgaaDoorHex
namespace Go.Proofs.YtljlkhlnjjchgaaDoor
open Go.RowKit

theorem hexd_at' (n : Nat) (h : n < digits.size) : (⟨#[48, 49, 50, 51, 52, 53, 54, 55, 56, 57, 97, 98, 99, 100, 101, 102]⟩ : ByteArray)[n]'h = hexd n := hexd_at n h
theorem and15 (b : UInt8) : bits BinOp.and .u8 (b.toNat : Int) 15 = (b.toNat : Int) % 16 := by
  have h := u8_and_nat b.toNat 15 b.toNat_lt (by omega)
  rw [Nat.and_two_pow_sub_one_eq_mod b.toNat 4] at h
  rw [show (15 : Int) = ((15 : Nat) : Int) by rfl, h]
  omega

set_option maxHeartbeats 400000 in
set_option maxRecDepth 100000 in
theorem iEncH_any (s : ByteArray) (w : World) (hs : s.size ≤ 4194304) :
    Calls Tryd.prog 15 #[.string s] w fun e w' => e = .returned (S (encH (bs s))) ∧ Below w.heap.size w w' := by
  obtain ⟨i0, hi, hz0, hz1, hz2⟩ := info_parts info_u8
  go_enter Tryd.func15, Tryd.ntmps15
  go_wp2_with (first | (at_make; refine wpList_make_own _ rfl _ _ 22 rfl w.heap.size 5 i0 (.int .u8 0) 1 Tryd.underlying22 hi hz0 hz1 _ _ _ (2 * s.size) rfl rfl ?c1 ?b2 ?b3 (Nat.le_refl _) ?_) | go_in)
  case c1 => omega
  case b2 => rw [hz2]; omega
  case b3 => unfold maxLen; omega
  intro w0 hown0 hgrow0
  go_wp2
  go_loopw [3, 11] (fun v i wr => ∃ k : Nat, k ≤ s.size ∧ i = .int .i64 k ∧ wr.ownsRow w.heap.size 5 1 v (2 * k) ((encH ((bs s).take k)).map B) ∧ Below w.heap.size w wr) (fun _ i _ => s.size - (intOf i).toNat)
  case atStart => exact ⟨0, by omega, rfl, by simpa [encH] using hown0, (Below.refl _ _).grown hgrow0 (Nat.le_refl _) (fun k h => by cases h)⟩
  case round =>
    obtain ⟨k, hk, rfl, hown, hb⟩ := hrel
    by_cases hlt : k < s.size
    · have hbt : s[k].toNat < 256 := s[k].toNat_lt
      have hsz := hb.size
      have ha := and15 s[k]
      have p1 : ((s[k].toNat : Int) / 16).toNat < digits.size := by show _ < 16; omega
      have p2 : ((s[k].toNat : Int) % 16).toNat < digits.size := by show _ < 16; omega
      go_wp2_with fail
      go_region_held3 (fun _ => True) (trivial)
        (first
          | (refine step_append_lies _ (by rfl) _ _ _ (by rfl) w.heap.size 5 i0 _ 1 1 Tryd.underlying22 hi hz0 hz1 hz2 rfl (by omega) _ _ _ (by rfl) ((hown.drew).alloc _) ⟨wr.heap.size, 0, none⟩ 2 2 [.int .u8 (((⟨#[48, 49, 50, 51, 52, 53, 54, 55, 56, 57, 97, 98, 99, 100, 101, 102]⟩ : ByteArray)[((s[k].toNat : Int) / 16).toNat]'p1).toNat : Int), .int .u8 (((⟨#[48, 49, 50, 51, 52, 53, 54, 55, 56, 57, 97, 98, 99, 100, 101, 102]⟩ : ByteArray)[((s[k].toNat : Int) % 16).toNat]'p2).toNat : Int)] (by rfl) (by rfl) (World.news_of_block (cs := #[.int .u8 (((⟨#[48, 49, 50, 51, 52, 53, 54, 55, 56, 57, 97, 98, 99, 100, 101, 102]⟩ : ByteArray)[((s[k].toNat : Int) / 16).toNat]'p1).toNat : Int), .int .u8 (((⟨#[48, 49, 50, 51, 52, 53, 54, 55, 56, 57, 97, 98, 99, 100, 101, 102]⟩ : ByteArray)[((s[k].toNat : Int) % 16).toNat]'p2).toNat : Int)]) (t := 5) (fr := (0, 0)) (heap_alloc_new _ _)) (by simp [Value.oneCell']) (by omega) (by unfold maxLen; omega) (by omega) (by simp; omega) (wr.heap.size + 1) (by simp) ?_; intro gg cap w1 hown1 hgrow _ _))
      all_goals go_wp2
      all_goals
        clear ha
        go_roundw
        case rel => exact ⟨k + 1, by omega, by go_num, (by have h := hown1; rw [hexd_at' _ p1, hexd_at' _ p2, encH_step s k hlt] at h; exact h), (hb.alloc hsz _).drew.grown hgrow (by simp; omega) (fun j hj => (hown.lt j hj).1)⟩
        case measure => simp [intOf]; omega
    · have hcv := conv_own hown
      go_wp2
      go_ret
      obtain rfl : k = s.size := by omega
      exact ⟨ret_S (by rw [List.take_of_length_le (by simp)]), hb⟩

end Go.Proofs.YtljlkhlnjjchgaaDoor
