/-
  The least place of a mask, the number of its places, in the program: what each call gives.
  Which numbers of places are sums of sizes, in the program: what the call gives.
  Sets of places as rows of bits, in memory; two of them compared.
-/
import Derived.Test.YtkjlmgkjcmebbaaGreatDoorVao
import Derived.Test.YtkjlmgkjcmebbaaGreatDoorVag
import Derived.Test.YtkjlmgkjcmebbaaGreatDoorVaf
import Derived.Test.YtkjlmgkjcmebbaaGreatDoorRga
import Derived.Deep.WholeRow
import Derived.Laws.CopyOwn
import Derived.Test.YtkjlmgkjcmebbaaGreatDoorVac
namespace Go.Proofs.YtkjlmgkjcmebbaaGreatDoor

section
open Go.RowKit Go.Shelf

theorem ofInt_u64 (a : Nat) (ha : a < 18446744073709551616) : (BitVec.ofInt 64 (a : Int)).toNat = a := by
  rw [BitVec.ofInt_natCast, BitVec.toNat_ofNat]; exact Nat.mod_eq_of_lt (by omega)
theorem u64_and_nat (a b : Nat) (ha : a < 18446744073709551616) (hb : b < 18446744073709551616) : bits .and .u64 (a : Int) (b : Int) = ((a &&& b : Nat) : Int) := by
  have hx : a &&& b < 2 ^ 64 := Nat.and_lt_two_pow _ (by omega)
  show IntKind.u64.wrap ((BitVec.ofInt 64 (a : Int) &&& BitVec.ofInt 64 (b : Int)).toNat : Int) = _
  rw [BitVec.toNat_and, ofInt_u64 a ha, ofInt_u64 b hb, IntKind.wrap_u64]
  omega
theorem and127 (y : Nat) (hy : y < 9223372036854775808) : bits .and .i64 (y : Int) 127 = ((y % 128 : Nat) : Int) := by
  rw [show (127 : Int) = ((127 : Nat) : Int) from rfl, i64_and_nat _ _ hy (by decide)]
  have h : y &&& 127 = y % 128 := Nat.and_two_pow_sub_one_eq_mod y 7
  rw [h]

set_option maxHeartbeats 2000000 in
set_option maxRecDepth 100000 in
theorem ones_core (x x2 a1 a2 y1 y12 b1 b2 y2 y22 y3 y32 y4 y42 y5 y52 z : Nat) (w : World)
    (hx2 : (x : Int) / 2 = (x2 : Int)) (ha1 : bits .and .u64 (x2 : Int) 6148914691236517205 = (a1 : Int)) (ha2 : bits .and .u64 (x : Int) 6148914691236517205 = (a2 : Int)) (hy1 : IntKind.u64.wrap ((a1 : Int) + (a2 : Int)) = (y1 : Int))
    (hy12 : (y1 : Int) / 4 = (y12 : Int)) (hb1 : bits .and .u64 (y12 : Int) 3689348814741910323 = (b1 : Int)) (hb2 : bits .and .u64 (y1 : Int) 3689348814741910323 = (b2 : Int)) (hy2 : IntKind.u64.wrap ((b1 : Int) + (b2 : Int)) = (y2 : Int))
    (hy22 : (y2 : Int) / 16 = (y22 : Int)) (hy3 : bits .and .u64 (IntKind.u64.wrap ((y22 : Int) + (y2 : Int))) 1085102592571150095 = (y3 : Int))
    (hy32 : (y3 : Int) / 256 = (y32 : Int)) (hy4 : IntKind.u64.wrap ((y3 : Int) + (y32 : Int)) = (y4 : Int))
    (hy42 : (y4 : Int) / 65536 = (y42 : Int)) (hy5 : IntKind.u64.wrap ((y4 : Int) + (y42 : Int)) = (y5 : Int))
    (hy52 : (y5 : Int) / 4294967296 = (y52 : Int)) (hz : bits .and .i64 (wrap64 (IntKind.u64.wrap ((y5 : Int) + (y52 : Int)))) 127 = (z : Int)) :
    Calls Tryz.prog 127 #[.int .u64 x] w fun e w' => e = .returned (.int .i64 z) ∧ w' = w := by
  go_enter Tryz.func127, Tryz.ntmps127
  go_wp2_with (simp only [hx2, ha1, ha2, hy1, hy12, hb1, hb2, hy2, hy22, hy3, hy32, hy4, hy42, hy5, hy52, hz])
  go_ret
  exact ⟨rfl, rfl⟩
theorem ones_sums {a b c d e : Nat} (ha : a ≤ 8) (hb : b ≤ 8) (hc : c ≤ 8) (hd : d ≤ 8) (he : e ≤ 8) :
    ∃ y32 y4 y42 y5 y52 : Nat, b5 a b c d e / 256 = y32 ∧ b5 a b c d e + y32 = y4 ∧ y4 / 65536 = y42 ∧ y4 + y42 = y5 ∧ y5 / 4294967296 = y52 ∧ (y5 + y52) % 128 = a + b + c + d + e ∧ y5 + y52 < 1099511627776 ∧ b5 a b c d e < 1099511627776 := by
  have h1 : b5 a b c d e / 256 = b + 256 * c + 65536 * d + 16777216 * e := by unfold b5; omega
  have h2 : b5 a b c d e + (b + 256 * c + 65536 * d + 16777216 * e) = (a + b) + 256 * (b + c) + 65536 * (c + d) + 16777216 * (d + e) + 4294967296 * e := by unfold b5; omega
  have h3 : ((a + b) + 256 * (b + c) + 65536 * (c + d) + 16777216 * (d + e) + 4294967296 * e) / 65536 = (c + d) + 256 * (d + e) + 65536 * e := by omega
  have h4 : ((a + b + c + d) + 256 * (b + c + d + e) + 65536 * (c + d + e) + 16777216 * (d + e) + 4294967296 * e) / 4294967296 = e := by omega
  refine ⟨_, _, _, _, _, h1, h2, h3, ?_, h4, ?_, ?_, ?_⟩
  · omega
  · omega
  · omega
  · unfold b5; omega
theorem ones_last {y5 y52 n : Nat} (h : y5 + y52 < 1099511627776) (hm : (y5 + y52) % 128 = n) : bits .and .i64 (wrap64 (IntKind.u64.wrap ((y5 : Int) + (y52 : Int)))) 127 = (n : Int) := by
  have e5 : wrap64 (IntKind.u64.wrap ((y5 : Int) + (y52 : Int))) = ((y5 + y52 : Nat) : Int) := by rw [IntKind.wrap_u64]; unfold wrap64; omega
  rw [e5, and127 (y5 + y52) (by omega), hm]
theorem ones_add {a b c : Nat} (h : a + b = c) (hc : c < 18446744073709551616) : IntKind.u64.wrap ((a : Int) + (b : Int)) = (c : Int) := by rw [IntKind.wrap_u64]; omega
theorem ones_mid {a y : Nat} (h : (a / 16 + a) &&& 1085102592571150095 = y) (hc : a / 16 + a < 18446744073709551616) : bits .and .u64 (IntKind.u64.wrap (((a / 16 : Nat) : Int) + (a : Int))) 1085102592571150095 = (y : Int) := by
  rw [ones_add rfl hc, ← h]
  exact u64_and_nat _ 1085102592571150095 hc (by decide)
theorem iOnes64 (x : Nat) (hx : x < 1099511627776) (w : World) :
    Calls Tryz.prog 127 #[.int .u64 x] w fun e w' => e = .returned (.int .i64 (pop x : Nat)) ∧ w' = w := by
  obtain ⟨a, b, c, d, e, h1, h2, ha, hb, hc, hd, he, hs⟩ := swar hx
  obtain ⟨y32, y4, y42, y5, y52, k1, k2, k3, k4, k5, k6, k7, k8⟩ := ones_sums ha hb hc hd he
  have m1 : sw1 x < 18446744073709551616 := by omega
  have m2 : x / 2 &&& 6148914691236517205 ≤ sw1 x := by unfold sw1; omega
  have l1 : (sw1 x) / 4 &&& 3689348814741910323 ≤ 3689348814741910323 := Nat.and_le_right
  have l2 : (sw1 x) &&& 3689348814741910323 ≤ 3689348814741910323 := Nat.and_le_right
  have m3 : sw2 (sw1 x) ≤ 7378697629483820646 := by unfold sw2; omega
  have m4 : sw2 (sw1 x) / 16 + sw2 (sw1 x) < 18446744073709551616 := by omega
  have e3 : (sw2 (sw1 x) / 16 + sw2 (sw1 x)) &&& 1085102592571150095 = b5 a b c d e := h2
  refine ones_core x (x / 2) (x / 2 &&& 6148914691236517205) (x &&& 6148914691236517205) (sw1 x) (sw1 x / 4) (sw1 x / 4 &&& 3689348814741910323) (sw1 x &&& 3689348814741910323) (sw2 (sw1 x)) (sw2 (sw1 x) / 16) (b5 a b c d e) y32 y4 y42 y5 y52 (pop x) w
    (by simp) (u64_and_nat _ 6148914691236517205 (by omega) (by decide)) (u64_and_nat _ 6148914691236517205 (by omega) (by decide)) (ones_add rfl m1) (by simp) (u64_and_nat _ 3689348814741910323 (by omega) (by decide)) (u64_and_nat _ 3689348814741910323 (by omega) (by decide)) (ones_add rfl (Nat.lt_of_le_of_lt m3 (by decide))) (by simp) (ones_mid e3 m4)
    (by rw [← k1]; simp) (ones_add k2 (by omega)) (by rw [← k3]; simp) (ones_add k4 (by omega)) (by rw [← k5]; simp) (ones_last k7 (k6.trans hs))
theorem iOnes (x : Nat) (hx : x < 1099511627776) (w : World) :
    Calls Tryz.prog 99 #[.int .u64 x] w fun e w' => e = .returned (.int .i64 (pop x : Nat)) ∧ w' = w := by
  have hw : IntKind.u64.wrap (x : Int) = (x : Int) := by rw [IntKind.wrap_u64]; omega
  go_enter Tryz.func99, Tryz.ntmps99
  go_wp2_with fail
  refine (iOnes64 x hx w).mono ?_
  rintro e w' ⟨rfl, rfl⟩
  go_wp2
  go_ret
  exact ⟨rfl, rfl⟩

theorem lowB_zero : lowB 0 = 64 := by decide
theorem iTz640 (w : World) : Calls Tryz.prog 129 #[.int .u64 0] w fun e w' => e = .returned (.int .i64 64) ∧ w' = w := by
  go_enter Tryz.func129, Tryz.ntmps129
  go_wp2
  go_ret
  exact ⟨rfl, rfl⟩
theorem iTz0 (w : World) : Calls Tryz.prog 100 #[.int .u64 0] w fun e w' => e = .returned (.int .i64 64) ∧ w' = w := by
  go_enter Tryz.func100, Tryz.ntmps100
  go_wp2_with fail
  refine (iTz640 w).mono ?_
  rintro e w' ⟨rfl, rfl⟩
  go_wp2
  go_ret
  exact ⟨rfl, rfl⟩
/-- The least place of a mask, 64 of none. -/
theorem iLow (x : Nat) (hx : x < 9223372036854775808) (w : World) (hT : Tz w) :
    Calls Tryz.prog 66 #[.int .i64 x] w fun e w' => e = .returned (.int .i64 (lowB x : Nat)) ∧ w' = w := by
  have hw : IntKind.u64.wrap (x : Int) = (x : Int) := by rw [IntKind.wrap_u64]; omega
  by_cases h0 : x = 0
  · subst h0
    rw [lowB_zero]
    go_enter Tryz.func66, Tryz.ntmps66
    go_wp2_with fail
    refine (iTz0 w).mono ?_
    rintro e w' ⟨rfl, rfl⟩
    go_wp2
    go_ret
    exact ⟨rfl, rfl⟩
  · have HT := Lib.hid (iTz x h0 hx w hT)
    go_enter Tryz.func66, Tryz.ntmps66
    go_wp2_with fail
    refine HT.out.mono ?_
    rintro e w' ⟨rfl, rfl⟩
    go_wp2
    go_ret
    exact ⟨rfl, rfl⟩
end

section
open Go.RowKit

def smV (f : Nat → Bool) : Array Value := ((List.range 65).map fun k => Value.bool (f k)).toArray
theorem smV_size (f : Nat → Bool) : (smV f).size = 65 := by simp [smV]
theorem smV_get (f : Nat → Bool) {k : Nat} (hk : k < 65) : (smV f)[k]? = some (.bool (f k)) := by simp [smV, hk]
theorem smV_zero : Tryz.zeroCells107 = smV fun _ => false := by kernel_rfl
theorem smV_upd (f : Nat → Bool) {k : Nat} (hk : k < 65) : (smV f).setIfInBounds k (.bool true) = smV (setB1 f k) := by
  apply Array.ext_getElem?
  intro j
  rw [Array.getElem?_setIfInBounds]
  by_cases hj : j < 65
  · rw [smV_get _ hj, smV_get _ hj, smV_size]
    unfold setB1
    by_cases e : k = j
    · subst e; simp [hk]
    · have : ¬ j = k := fun h => e h.symm
      simp [e, this]
  · have h1 : (smV f)[j]? = none := by rw [Array.getElem?_eq_none_iff, smV_size]; omega
    have h2 : (smV (setB1 f k))[j]? = none := by rw [Array.getElem?_eq_none_iff, smV_size]; omega
    rw [h1, h2]
    by_cases e : k = j
    · subst e; omega
    · simp [e]
theorem smV_one (f : Nat → Bool) : (smV f).all (·.oneCell') = true := by
  rw [Array.all_eq_true_iff_forall_mem]
  intro v hv
  simp [smV] at hv
  obtain ⟨k, _, rfl⟩ := hv
  rfl
/-- The sums in memory. -/
def SmAt (w : World) (b : Nat) (f : Nat → Bool) : Prop := w.heap[b]? = some (.cells (smV f) 107 (0, 0))
theorem SmAt.cell {w : World} {b : Nat} {f : Nat → Bool} (h : SmAt w b f) {k : Nat} (hk : k < 65) : w.cell? ⟨b, k, none⟩ = some (.bool (f k)) := (cell_of_row w b k _ _ _ h).trans (smV_get f hk)
theorem SmAt.frozen {w : World} {b : Nat} {f : Nat → Bool} (h : SmAt w b f) (k : Nat) : w.frozen? ⟨b, k, none⟩ = false := frozen_of_row w b k _ _ h
theorem SmAt.lt {w : World} {b : Nat} {f : Nat → Bool} (h : SmAt w b f) : b < w.heap.size := (Array.getElem?_eq_some_iff.1 h).1
theorem SmAt.store {w : World} {b : Nat} {f : Nat → Bool} (h : SmAt w b f) {k : Nat} (hk : k < 65) : SmAt (w.setCell ⟨b, k, none⟩ (.bool true)) b (setB1 f k) := by
  unfold SmAt
  rw [heap_setCell_same w b k _ _ _ h, smV_upd f hk]
theorem SmAt.other {w : World} {b c k : Nat} {v : Value} {f : Nat → Bool} (h : SmAt w b f) (hne : b ≠ c) : SmAt (w.setCell ⟨c, k, none⟩ v) b f := (heap_setCell_other w _ _ _ (by show b ≠ c; exact hne)).trans h
theorem SmAt.below {w w' : World} {B b : Nat} {f : Nat → Bool} (h : SmAt w b f) (hb : Below B w w') (hlt : b < B) : SmAt w' b f := (hb.block b hlt).trans h
theorem SmAt.new (w : World) (f : Nat → Bool) : SmAt (w.alloc (.cells (smV f) 107)) w.heap.size f := heap_alloc_last w _
theorem sm_size : (Tryz.prog.info? 107).map (·.size) = some 65 := by kernel_rfl

set_option maxHeartbeats 4000000 in
set_option maxRecDepth 100000 in
theorem iSums (B n cap : Nat) (a : Option Addr) (Q : List Nat) (w : World) (hn : n ≤ 4194304) (hc : IntsAt B w a n (ints Q)) (hQ : ∀ m ∈ Q, m < 68719476736) (hB : B ≤ w.heap.size) :
    Calls Tryz.prog 92 #[.slice a n cap] w fun e w' => (∃ d, e = .returned (.agg (smV d)) ∧ SumTo Q d 65) ∧ Below w.heap.size w w' := by
  have H := Lib.hid hc
  have hln := hc.1
  rw [ints_len] at hln
  have HQ := Lib.hid hQ
  clear hc hQ
  have hs1 : (w.alloc (.cells (smV fun _ => false) 107)).heap.size = w.heap.size + 1 := by simp
  have HB0 := Lib.hid (SmAt.new (w.alloc (.cells (smV fun _ => false) 107)) fun _ => false)
  have HB2 := Lib.hid (SmAt.new (w.alloc (.cells (smV fun _ => false) 107)) (setB1 (fun _ => false) 0))
  rw [hs1] at HB0 HB2
  have HR2 := Lib.hid ((SmAt.new w fun _ => false).below (B := w.heap.size + 1) ((Below.refl _ (w.alloc (.cells (smV fun _ => false) 107))).alloc (by simp) (.cells (smV (setB1 (fun _ => false) 0)) 107)) (by omega))
  have HW2 := Lib.hid (show Below w.heap.size w ((w.alloc (.cells (smV fun _ => false) 107)).alloc (.cells (smV (setB1 (fun _ => false) 0)) 107)) from ((Below.refl _ _).alloc (Nat.le_refl _) _).alloc (by simp) _)
  have hsz2 : ((w.alloc (.cells (smV fun _ => false) 107)).alloc (.cells (smV (setB1 (fun _ => false) 0)) 107)).heap.size = w.heap.size + 2 := by simp
  have c1 : ((w.alloc (.cells Tryz.zeroCells107 107)).alloc (.cells Tryz.zeroCells107 107)).cell? ⟨w.heap.size + 1, 0, none⟩ = some (.bool false) := by rw [smV_zero]; exact HB0.out.cell (k := 0) (by omega)
  have c2 : ((w.alloc (.cells Tryz.zeroCells107 107)).alloc (.cells Tryz.zeroCells107 107)).frozen? ⟨w.heap.size + 1, 0, none⟩ = false := by rw [smV_zero]; exact HB0.out.frozen 0
  clear hs1 HB0
  go_enter Tryz.func92, Tryz.ntmps92
  go_wp2
  clear c1 c2
  rw [smV_zero, smV_upd _ (by omega)]
  generalize ((w.alloc (.cells (smV fun _ => false) 107)).alloc (.cells (smV (setB1 (fun _ => false) 0)) 107)) = W2 at *
  obtain ⟨rb, hrb⟩ : ∃ rb, w.heap.size = rb := ⟨_, rfl⟩
  have HRB := Lib.hid hrb
  rw [hrb] at HB2 HR2 HW2 hsz2 hB ⊢
  go_loopw [9] (fun i wr => ∃ (p : Nat) (d : Nat → Bool), p ≤ 65 ∧ i = .int .i64 (p : Int) ∧ Hid (SmAt wr (rb + 1) d) ∧ Hid (SmAt wr rb (fun _ => false)) ∧ Hid (SumTo Q d p) ∧ Below rb w wr) (fun i _ => 65 - (intOf i).toNat)
  case atStart => exact ⟨0, _, by omega, rfl, HB2.out, HR2.out, sumTo_start Q, HW2.out⟩
  case round =>
    clear HB2 HR2 HW2 hsz2
    obtain ⟨p, d, hp, rfl, hbd, hr0, hst, hb⟩ := hrel
    by_cases hlt : p < 65
    · have hp1 : (p : Int) < 65 := by omega
      go_wp2
      go_loopw [14] (fun i wr => ∃ (k : Nat) (d : Nat → Bool), k ≤ n ∧ i = .int .i64 (k : Int) ∧ Hid (SmAt wr (rb + 1) d) ∧ Hid (SmAt wr rb (fun _ => false)) ∧ Hid (SumAt Q d p k) ∧ Below rb w wr) (fun i _ => n - (intOf i).toNat)
      case atStart => exact ⟨0, d, by omega, rfl, hbd, hr0, sumAt_start hst.out, hb⟩
      case round =>
        clear hbd hr0 hst hb
        obtain ⟨k, d, hk, rfl, hbd, hr0, hst, hb⟩ := hrel
        by_cases hkt : k < n
        · have hk1 : (k : Int) < (n : Int) := by omega
          have hk0 : (0 : Int) ≤ (k : Int) := by omega
          obtain ⟨b9, o9, rfl, hb9, hc9⟩ := (H.out.on (hb.mono hB)).2.2 (by omega)
          have p1 := hc9 k hkt
          rw [ints_get] at p1
          have hm := HQ.out (Q.getD k 0) (getD_memN (by omega))
          have HY := Lib.hid (sumAt_yes hst.out)
          have HN := Lib.hid (fun h => sumAt_no hst.out h)
          obtain ⟨m, hmm⟩ : ∃ m, Q.getD k 0 = m := ⟨_, rfl⟩
          rw [hmm] at p1 hm HN
          have hwm : IntKind.u64.wrap (m : Int) = (m : Int) := by rw [IntKind.wrap_u64]; omega
          have hpl := pop_le m
          have HO := Lib.hid (iOnes m (by omega))
          obtain ⟨s, hs⟩ : ∃ s, pop m = s := ⟨_, rfl⟩
          rw [hs] at hpl HO HN
          have hlb := hbd.out.lt
          clear hc9 hmm hs
          by_cases hsp : s ≤ p
          · obtain ⟨q, rfl⟩ : ∃ q, p = s + q := ⟨p - s, by omega⟩
            have hsub : ((s + q : Nat) : Int) - (s : Int) = (q : Int) := by omega
            have hq0 : (0 : Int) ≤ (q : Int) := by omega
            have hq1 : (q : Int) < 65 := by omega
            have hsp1 : (s : Int) ≤ ((s + q : Nat) : Int) := by omega
            have c1 := hbd.out.cell (k := q) (by omega)
            have c3 := hbd.out.cell (k := s + q) (by omega)
            have c4 := hbd.out.frozen (s + q)
            have HB4 := Lib.hid (hbd.out.store (k := s + q) (by omega))
            have HR4 := Lib.hid (hr0.out.other (c := rb + 1) (k := s + q) (v := .bool true) (by omega))
            have HW4 := Lib.hid (hb.setCell (p := ⟨rb + 1, s + q, none⟩) (by show rb ≤ rb + 1; omega) (.bool true))
            cases hdq : d q with
            | true =>
              rw [hdq] at c1
              clear HN hdq
              generalize d (s + q) = ob at *
              go_wp2_with fail
              refine (HO.out wr).mono ?_
              rintro e w2 ⟨rfl, rfl⟩
              go_wp2
              go_roundw
              case rel => first
                | exact ⟨k + 1, _, by omega, by go_num, HB4.out, HR4.out, HY.out, HW4.out⟩
                | (repeat apply Exists.intro
                   exact ⟨⟨k + 1, _, by omega, by go_num, HB4.out, HR4.out, HY.out, HW4.out⟩, rfl⟩)
              case measure => simp [intOf]; omega
            | false =>
              rw [hdq] at c1
              have HN2 := Lib.hid (HN.out (fun _ => by rw [show s + q - s = q by omega]; exact hdq))
              clear HN hdq HB4 HR4 HW4 c3 c4 HY
              go_wp2_with fail
              refine (HO.out wr).mono ?_
              rintro e w2 ⟨rfl, rfl⟩
              go_wp2
              go_roundw
              case rel => first
                | exact ⟨k + 1, d, by omega, by go_num, hbd, hr0, HN2.out, hb⟩
                | (repeat apply Exists.intro
                   exact ⟨⟨k + 1, d, by omega, by go_num, hbd, hr0, HN2.out, hb⟩, rfl⟩)
              case measure => simp [intOf]; omega
          · have hsp1 : ¬ (s : Int) ≤ (p : Int) := by omega
            have HN2 := Lib.hid (HN.out (fun h => absurd h hsp))
            clear HN HY
            go_wp2_with fail
            refine (HO.out wr).mono ?_
            rintro e w2 ⟨rfl, rfl⟩
            go_wp2
            go_roundw
            case rel => first
              | exact ⟨k + 1, d, by omega, by go_num, hbd, hr0, HN2.out, hb⟩
              | (repeat apply Exists.intro
                 exact ⟨⟨k + 1, d, by omega, by go_num, hbd, hr0, HN2.out, hb⟩, rfl⟩)
            case measure => simp [intOf]; omega
        · obtain rfl : k = n := by omega
          have HE := Lib.hid (show SumTo Q d (p + 1) from sumAt_end (by rw [hln]; exact hst.out))
          clear hst
          go_wp2
          go_roundw
          case rel => first
            | exact ⟨p + 1, d, by omega, by go_num, hbd, hr0, HE.out, hb⟩
            | (repeat apply Exists.intro
               exact ⟨⟨p + 1, d, by omega, by go_num, hbd, hr0, HE.out, hb⟩, rfl⟩)
          case measure => simp [intOf]; omega
    · obtain rfl : p = 65 := by omega
      have hi1 : (Tryz.prog.info? 107).map (·.size) = some (smV d).size := by rw [smV_size]; exact sm_size
      have HI := Lib.hid hi1
      have HWF := Lib.hid (below_setRow hb (Nat.le_refl _) (smV d))
      have HRF := Lib.hid (setRow_heap wr rb _ (smV d) _ _ hr0.out)
      have HST := Lib.hid hst.out
      clear hi1 hst
      go_wp2_with (first
        | (refine wpList_load_row rfl 107 _ rfl (rb + 1) rfl 107 (smV d) (0, 0) _ hbd.out Tryz.underlying107 rfl HI.out ?_)
        | (refine wpList_store_row rfl 107 _ _ rfl rb (smV d) rfl rfl 107 (smV fun _ => false) hr0.out HI.out (by rw [smV_size, smV_size]) (smV_one _) ?_)
        | go_in)
      exact bodyPost_ret (v := .agg (smV d)) (results_cell_row Tryz.results92 _ _ rb 107 (smV d) (0, 0) _ rfl HRF.out Tryz.underlying107 rfl HI.out) rfl ⟨⟨d, rfl, HST.out⟩, by rw [HRB.out]; exact HWF.out⟩
end

section
open Go.RowKit

theorem int_size : ∀ w, (Go.sizeOf 3).run Tryz.prog w = .ok 1 w := Tryz.sizeOf3
/-- A set of places as a value: rows 0 to 7. -/
def setV (R : Nat → Nat) : Value := .agg #[.int .i64 (R 0), .int .i64 (R 1), .int .i64 (R 2), .int .i64 (R 3), .int .i64 (R 4), .int .i64 (R 5), .int .i64 (R 6), .int .i64 (R 7)]
def sameR (R T : Nat → Nat) : Bool := R 0 == T 0 && (R 1 == T 1 && (R 2 == T 2 && (R 3 == T 3 && (R 4 == T 4 && (R 5 == T 5 && (R 6 == T 6 && R 7 == T 7))))))
theorem sameR_iff (R T : Nat → Nat) : sameR R T = true ↔ ∀ y, y < 8 → R y = T y := by
  unfold sameR
  simp only [Bool.and_eq_true, beq_iff_eq]
  constructor
  · rintro ⟨h0, h1, h2, h3, h4, h5, h6, h7⟩ y hy
    match y, hy with
    | 0, _ => exact h0
    | 1, _ => exact h1
    | 2, _ => exact h2
    | 3, _ => exact h3
    | 4, _ => exact h4
    | 5, _ => exact h5
    | 6, _ => exact h6
    | 7, _ => exact h7
  · intro h
    exact ⟨h 0 (by omega), h 1 (by omega), h 2 (by omega), h 3 (by omega), h 4 (by omega), h 5 (by omega), h 6 (by omega), h 7 (by omega)⟩

theorem eq_nat (a b : Nat) (w : World) : (Op.equalIn 9999 3 (.int .i64 a) (.int .i64 b)).run Tryz.prog w = .ok (a == b) w := by
  rw [run_equalIn_int w 9998 3 .i64 .i64 _ _ int_plain]
  have e : ((a : Int) == (b : Int)) = (a == b) := by
    rw [Bool.eq_iff_iff, beq_iff_eq, beq_iff_eq]
    omega
  rw [e]

def updR (R : Nat → Nat) (y v : Nat) : Nat → Nat := fun t => if t = y then v else R t
theorem new_arr {w : World} {N : Nat} (o : Obj) (h : w.heap.size = N) : (w.alloc o).heap[N]? = some o := by subst h; exact heap_alloc_new _ _
theorem setV_congr {R T : Nat → Nat} (e : ∀ y, y < 8 → R y = T y) : setV R = setV T := by
  unfold setV
  rw [e 0 (by omega), e 1 (by omega), e 2 (by omega), e 3 (by omega), e 4 (by omega), e 5 (by omega), e 6 (by omega), e 7 (by omega)]
/-- All eight rows written. -/
def sets8 (w : World) (g : Nat) (T : Nat → Nat) : World := (((((((w.setCell ⟨g, 0, none⟩ (.int .i64 (T 0))).setCell ⟨g, 1, none⟩ (.int .i64 (T 1))).setCell ⟨g, 2, none⟩ (.int .i64 (T 2))).setCell ⟨g, 3, none⟩ (.int .i64 (T 3))).setCell ⟨g, 4, none⟩ (.int .i64 (T 4))).setCell ⟨g, 5, none⟩ (.int .i64 (T 5))).setCell ⟨g, 6, none⟩ (.int .i64 (T 6))).setCell ⟨g, 7, none⟩ (.int .i64 (T 7))
theorem below_set8 {B g : Nat} {a w : World} (hg : B ≤ g) (T : Nat → Nat) (h : Below B a w) : Below B a (sets8 w g T) :=
  (((((((h.setCell (p := ⟨g, 0, none⟩) hg _).setCell (p := ⟨g, 1, none⟩) hg _).setCell (p := ⟨g, 2, none⟩) hg _).setCell (p := ⟨g, 3, none⟩) hg _).setCell (p := ⟨g, 4, none⟩) hg _).setCell (p := ⟨g, 5, none⟩) hg _).setCell (p := ⟨g, 6, none⟩) hg _).setCell (p := ⟨g, 7, none⟩) hg _
end

end Go.Proofs.YtkjlmgkjcmebbaaGreatDoor
