/-
  The bits of a mask, an inverse: in the model: what each call gives.
-/
import Derived.Test.YtkcclhnligajeaaGreatDoorVan
import Derived.Test.YtkcclhnligajeaaGreatDoorVaq
import Derived.Test.YtkcclhnligajeaaGreatDoorVbb
import Derived.Test.YtkcclhnligajeaaGreatDoorVap
namespace Go.Proofs.YtkcclhnligajeaaGreatDoor
open Go.RowKit

set_option maxHeartbeats 2000000 in
set_option maxRecDepth 100000 in
theorem sBits (m n : Nat) (w : World) (hm : m < 68719476736) (hn : n ≤ 36) :
    Calls Tryz.prog 73 #[.int .i64 m, .int .i64 n] w fun e w' => ∃ v, e = .returned v ∧ w'.ownsRow w.heap.size 3 1 v n (iv (lstI n (bitV m))) ∧ Below w.heap.size w w' := by
  obtain ⟨i0, hi, hz0, hz1, hz2⟩ := info_parts info_int
  go_enter Tryz.func73, Tryz.ntmps73
  go_wp2_with fail
  have HR0 := Lib.hid (own_lit_i w w.heap.size w.heap.size (Nat.le_refl _) rfl)
  have HB0 := Lib.hid ((Below.refl w.heap.size w).alloc (Nat.le_refl _) (.cells #[] 3))
  generalize (w.alloc (.cells #[] 3)) = w1 at *
  go_loopw [5, 6] (fun v i wr => ∃ k : Nat, k ≤ n ∧ i = .int .i64 k ∧ Hid (wr.ownsRow w.heap.size 3 1 v k (iv (lstI k (bitV m)))) ∧ Below w.heap.size w wr) (fun _ i _ => n - (intOf i).toNat)
  case atStart => exact ⟨0, by omega, rfl, HR0.out, HB0.out⟩
  case round =>
    obtain ⟨k, hk, rfl, hrow, hb⟩ := hrel
    by_cases hlt : k < n
    · have hk1 : (k : Int) < (n : Int) := by omega
      have hk0 : (0 : Int) ≤ (k : Int) := by omega
      have hk6 : (k : Int) < 64 := by omega
      obtain ⟨t, t1, t2, t3⟩ := shr_bitW m k hm
      have HE := Lib.hid (show bitV m k = (if m.testBit k = true then 1 else 0) from rfl)
      obtain ⟨z, hz⟩ : ∃ z : Int, (if m.testBit k = true then 1 else 0) = z := ⟨_, rfl⟩
      rw [hz] at t3 HE
      have hrw := hrow.out
      have hszr := hb.size
      clear hz hrow
      go_wp2_with (first | (at_builtin; refine wpList_append_own _ rfl _ _ 24 rfl w.heap.size 3 i0 (.int .i64 0) 1 8 Tryz.underlying24 hi hz0 hz1 hz2 rfl (by decide) _ _ _ rfl (hrw.alloc _) ⟨wr.heap.size, 0, none⟩ 1 1 [.int .i64 z] rfl rfl (liesV_block (t := 3) (fr := (0, 0)) (heap_alloc_new _ _)) (by simp [Value.oneCell']) ?c3 ?c4 ?c5 ?_) | go_in)
      case c3 => unfold maxLen; omega
      case c4 => omega
      case c5 => simp; omega
      intro v' w6 hown6 hgrow _
      have HR6 := Lib.hid (show w6.ownsRow w.heap.size 3 1 v' (k + 1) (iv (lstI (k + 1) (bitV m))) from by
        rw [lstI_snoc, HE.out, ← iv_snoc]
        exact hown6)
      have HB6 := Lib.hid ((hb.alloc hszr (.cells #[.int .i64 z] 3)).grown hgrow (by simp; omega) (fun k hk => (hrw.lt k hk).1))
      clear hown6 hgrow hrw
      go_wp2
      go_roundw
      case rel => first
        | exact ⟨k + 1, by omega, by go_num, HR6.out, HB6.out⟩
        | (repeat apply Exists.intro
           exact ⟨⟨k + 1, by omega, by go_num, HR6.out, HB6.out⟩, rfl⟩)
      case measure => first | (simp [intOf]; done) | (simp [intOf]; omega)
    · obtain rfl : k = n := by omega
      go_wp2
      go_ret
      exact ⟨_, rfl, hrow.out, hb⟩
theorem invM_first {p x : Int} (hp : PrmI p) (hx : 0 < x ∧ x < p) : x * invM p x % p = 1 ∧ ∀ y, 1 ≤ y → y < invM p x → ¬ x * y % p = 1 := by
  rcases hp with rfl | rfl | rfl
  · obtain rfl : x = 1 := by omega
    exact ⟨by decide, fun y h1 h2 => by have : invM 2 1 = 1 := by decide
                                        omega⟩
  · have h : x = 1 ∨ x = 2 := by omega
    rcases h with rfl | rfl
    · exact ⟨by decide, fun y h1 h2 => by have : invM 3 1 = 1 := by decide
                                          omega⟩
    · exact ⟨by decide, fun y h1 h2 => by have : invM 3 2 = 2 := by decide
                                          omega⟩
  · have h : x = 1 ∨ x = 2 ∨ x = 3 ∨ x = 4 := by omega
    rcases h with rfl | rfl | rfl | rfl
    · exact ⟨by decide, fun y h1 h2 => by have : invM 5 1 = 1 := by decide
                                          omega⟩
    · exact ⟨by decide, fun y h1 h2 => by have : invM 5 2 = 3 := by decide
                                          omega⟩
    · exact ⟨by decide, fun y h1 h2 => by have : invM 5 3 = 2 := by decide
                                          omega⟩
    · exact ⟨by decide, fun y h1 h2 => by have : invM 5 4 = 4 := by decide
                                          omega⟩
set_option maxHeartbeats 2000000 in
theorem sInvM (p x : Int) (hp : PrmI p) (h0 : 0 < x) (h1 : x < p) (w : World) : Calls Tryz.prog 119 #[.int .i64 x, .int .i64 p] w fun e w' => e = .returned (.int .i64 (invM p x)) ∧ w' = w := by
  have hp1 := hp.pos
  have hpn : ¬ p = 0 := by omega
  have HI := Lib.hid (invM_first hp ⟨h0, h1⟩)
  obtain ⟨-, i1, i2⟩ := invM_is hp (x := x) ⟨h0, h1⟩
  obtain ⟨t, ht⟩ : ∃ t, invM p x = t := ⟨_, rfl⟩
  rw [ht] at HI i1 i2 ⊢
  clear ht
  go_enter Tryz.func119, Tryz.ntmps119
  go_wp2
  go_loopw [5] (fun v wr => ∃ y : Int, 1 ≤ y ∧ y ≤ t ∧ v = .int .i64 y ∧ Hid (wr = w)) (fun v _ => (t - intOf v).toNat)
  case atStart => exact ⟨1, by omega, by omega, rfl, rfl⟩
  case round =>
    obtain ⟨y, hy1, hy2, rfl, hw⟩ := hrel
    have hm := mul_bdW (x := x) (y := y) (by omega) (by omega)
    by_cases hlt : y < t
    · have hb : ((x * y) % p != 1) = true := by rw [bne_iff_ne]; exact HI.out.2 y hy1 hlt
      go_wp2
      go_roundw
      case rel => first
        | exact ⟨y + 1, by omega, by omega, rfl, hw⟩
        | (repeat apply Exists.intro
           exact ⟨⟨y + 1, by omega, by omega, rfl, hw⟩, rfl⟩)
      case measure => first | (simp [intOf]; done) | (simp [intOf]; omega)
    · obtain rfl : y = t := by omega
      have hb : ((x * y) % p != 1) = false := by rw [HI.out.1]; rfl
      go_wp2
      go_ret
      exact ⟨rfl, hw.out⟩
end Go.Proofs.YtkcclhnligajeaaGreatDoor
