/-
  A shape as a text, in the model: what the call gives.
-/
import Derived.Test.YthnapikklolgcaaSiz
namespace Go.Proofs.Ythnapikklolgcaa
open Go.RowKit

def xAt (i : Nat) (x0 : Int) : Int := if i = 0 then x0 else 0
theorem rep_snoc (t : List UInt8) (i : Nat) (b : UInt8) : t ++ List.replicate i b ++ [b] = t ++ List.replicate (i + 1) b := by
  rw [List.append_assoc, ← List.replicate_succ']

set_option maxHeartbeats 2000000 in
set_option maxRecDepth 100000 in
theorem sFmt (B n cap : Nat) (a : Option Addr) (l : List Cl) (w : World) (hn : n ≤ 4194304) (hc : CellsAt B w a n l) (hB : B ≤ w.heap.size) :
    Calls Try.prog 116 #[.slice a n cap] w fun e w' => e = .returned (S (fmtC l)) ∧ Below w.heap.size w w' := by
  have H := Lib.hid hc
  clear hc
  go_enter Try.func116, Try.ntmps116
  go_wp2_with fail
  refine (sCornerShape B n cap a l w hn H.out hB).mono ?_
  rintro e w1 ⟨g, cc, rfl, hown, hb1⟩
  have HA := Lib.hid (CellsAt.of_own hown (fun c hc => inP_in (cornS_in l c hc)))
  have HP := Lib.hid (cornS_in l)
  have HF := Lib.hid (show fmtC l = (fmtTo (cornS l) (cornS l).length).1 from rfl)
  have hm := cornS_len l
  obtain ⟨m, hm'⟩ : ∃ m, (cornS l).length = m := ⟨_, rfl⟩
  rw [hm'] at hm hown ⊢
  have HM := Lib.hid hm'
  clear hm' hown
  go_wp2
  go_loopw [4, 5, 6, 7] (fun t x y i wr => ∃ k : Nat, k ≤ m ∧ i = .int .i64 k ∧ t = S (fmtTo (cornS l) k).1 ∧ x = .int .i64 (fmtTo (cornS l) k).2.1 ∧ y = .int .i64 (fmtTo (cornS l) k).2.2 ∧ wr = w1) (fun _ _ _ i _ => m - (intOf i).toNat)
  case atStart => exact ⟨0, by omega, rfl, rfl, rfl, rfl, rfl⟩
  case round =>
    obtain ⟨k, hk, rfl, rfl, rfl, rfl, rfl⟩ := hrel
    have hx1 := fmtTo_bd (cornS l) HP.out k (by rw [HM.out]; exact hk)
    by_cases hlt : k < m
    · obtain ⟨b1, o1, he, hb1', hc1⟩ := HA.out.2.2 (by rw [HM.out]; omega)
      injection he with he
      injection he with he1 he2
      subst he1 he2
      rw [HM.out] at hc1
      obtain ⟨x, y, hxy⟩ : ∃ x y, (cornS l).getD k (0, 0) = (x, y) := ⟨_, _, rfl⟩
      have p1 := (hc1 k hlt).1
      have p2 := (hc1 k hlt).2
      rw [hxy] at p1 p2
      have hpx := inP_out (HP.out _ (getD_mem (l := cornS l) (j := k) (by rw [HM.out]; exact hlt)))
      rw [hxy] at hpx
      dsimp only at hpx
      have hstep := fmtTo_step (cornS l) k
      rw [hxy] at hstep
      obtain ⟨⟨t0, x0, y0⟩, h0⟩ : ∃ s, fmtTo (cornS l) k = s := ⟨_, rfl⟩
      rw [h0] at hstep hx1 ⊢
      dsimp only at hstep hx1 ⊢
      have HS := Lib.hid hstep
      have hk0 : (0 : Int) ≤ (k : Int) := by omega
      have hk1 : (k : Int) < (m : Int) := by omega
      clear hxy hc1 hstep h0
      simp only [Nat.zero_add] at p1 p2
      go_wp2
      go_loop [4, 5, 6] (fun t x' y' => ∃ i : Nat, t = S (t0 ++ List.replicate i 47) ∧ Hid (i ≤ (y - y0).toNat) ∧ x' = .int .i64 (xAt i x0) ∧ y' = .int .i64 (y0 + i)) (fun _ _ y' => (y - intOf y').toNat)
      case atStart => exact ⟨0, by simp, Nat.zero_le _, by simp [xAt], by simp⟩
      case round =>
        obtain ⟨i, rfl, hi, rfl, rfl⟩ := hrel
        have hxx : xAt i x0 = 0 ∨ xAt i x0 = x0 := by unfold xAt; split <;> simp
        by_cases hy : y0 + i < y
        · have HS47 := Lib.hid (rep_snoc t0 i 47)
          have hi7 : i ≤ 7 := by have := hi.out; omega
          have ht7 : t0.length ≤ 120 := by omega
          have HI := Lib.hid (show i + 1 ≤ (y - y0).toNat by omega)
          go_wp2
          go_round
          case rel => exact ⟨i + 1, by rw [S_append, HS47.out], HI.out, by simp [xAt], by go_num⟩
          case measure => simp [intOf]; omega
        · have hi2 : i = (y - y0).toNat ∨ (i = 0 ∧ y ≤ y0) := by have := hi.out; omega
          have hx2 : xAt i x0 = if y0 < y then 0 else x0 := by
            unfold xAt
            rcases hi2 with h | h
            · by_cases h3 : y0 < y
              · rw [if_pos h3, if_neg (by omega)]
              · rw [if_neg h3, if_pos (by omega)]
            · rw [if_pos h.1, if_neg (by omega)]
          have hy2 : y0 + (i : Int) = if y0 < y then y else y0 := by
            split <;> omega
          have hr2 : List.replicate i (47 : UInt8) = List.replicate (y - y0).toNat 47 := by
            congr 1
            omega
          obtain ⟨x1, hx1'⟩ : ∃ x1, xAt i x0 = x1 := ⟨_, rfl⟩
          obtain ⟨y1, hy1'⟩ : ∃ y1, y0 + (i : Int) = y1 := ⟨_, rfl⟩
          obtain ⟨t1, ht1⟩ : ∃ t1, t0 ++ List.replicate (y - y0).toNat 47 = t1 := ⟨_, rfl⟩
          have htl : t1.length ≤ 200 := by rw [← ht1]; simp; omega
          have hy3 : ¬ y1 < y := by omega
          rw [hx1'] at hx2 hxx ⊢
          rw [hy1'] at hy2 ⊢
          rw [ht1] at HS
          have hxb : 0 ≤ x1 ∧ x1 ≤ 8 + k := by omega
          have HX2 := Lib.hid hx2.symm
          have HY2 := Lib.hid hy2.symm
          rw [hr2, ht1]
          clear hi2 hx2 hy2 hr2 hx1' hy1' hy hxx hi ht1
          go_wp2
          go_loop [4, 5] (fun t x' => ∃ i : Nat, t = S (t1 ++ List.replicate i 46) ∧ Hid (i ≤ (x - x1).toNat) ∧ x' = .int .i64 (x1 + i)) (fun _ x' => (x - intOf x').toNat)
          case atStart => exact ⟨0, by simp, Nat.zero_le _, by simp⟩
          case round =>
            obtain ⟨i, rfl, hi, rfl⟩ := hrel
            by_cases hx : x1 + i < x
            · have HS46 := Lib.hid (rep_snoc t1 i 46)
              have hi7 : i ≤ 7 := by have := hi.out; omega
              have HI := Lib.hid (show i + 1 ≤ (x - x1).toNat by omega)
              go_wp2
              go_round
              case rel => exact ⟨i + 1, by rw [S_append, HS46.out], HI.out, by go_num⟩
              case measure => simp [intOf]; omega
            · have hi2 : i = (x - x1).toNat := by have := hi.out; omega
              have hi7 : i ≤ 7 := by omega
              have hx3 : x1 + (i : Int) = if x1 < x then x else x1 := by split <;> omega
              have hE : fmtTo (cornS l) (k + 1) = (t1 ++ List.replicate i 46 ++ [35], x1 + (i : Int) + 1, y1) := by
                rw [HS.out, HX2.out, HY2.out, ← hx3, hi2]
              have HE := Lib.hid hE
              clear hi2 hx3 hE hi
              go_wp2
              go_roundw
              case rel => exact ⟨k + 1, by omega, by go_num, by rw [HE.out, S_append], by rw [HE.out], by rw [HE.out], trivial⟩
              case measure => simp [intOf]; omega
    · obtain rfl : k = m := by omega
      have e : fmtC l = (fmtTo (cornS l) k).1 := by rw [HF.out, HM.out]
      have E := Lib.hid e
      clear e
      go_wp2
      go_ret
      rw [E.out]
      exact ⟨rfl, hb1⟩

end Go.Proofs.Ythnapikklolgcaa
