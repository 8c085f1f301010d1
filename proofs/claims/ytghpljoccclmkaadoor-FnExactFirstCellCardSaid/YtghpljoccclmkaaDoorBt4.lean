/-
  The cells of a mask, in the model.
-/
import Derived.Test.YtghpljoccclmkaaDoorSm2
import Derived.Test.YtghpljoccclmkaaDoorBt2
import Derived.Test.YtghpljoccclmkaaDoorCap
namespace Go.Proofs.YtghpljoccclmkaaDoor
open Go.RowKit

theorem own_lit0b (w : World) (B : Nat) (h : B ≤ w.heap.size) : (w.alloc (.cells #[] 41)).ownsRow B 41 2 (.slice (some ⟨w.heap.size, 0, none⟩) 0 0) 0 (cvs []) := by
  simpa [cvs] using World.ownsRow_lit (base := B) (e := 41) (size := 2) w #[] 0 h (by simp [maxLen]) rfl

set_option maxHeartbeats 8000000 in
set_option maxRecDepth 100000 in
theorem sCellsM (B n cap : Nat) (a : Option Addr) (W : Int) (l : List Int) (m : Int) (w : World) (h1 : -9223372036854775808 ≤ m) (h2 : m ≤ 9223372036854775807) (hn : n ≤ 4194304) (hc : IntsAt B w a n l) (hB : B ≤ w.heap.size) :
    Calls Tryd.prog 6 #[.agg #[.int .i64 W, .slice a n cap], .int .i64 m] w (GivesVC w (cellsM W l m)) := by
  have H := Lib.hid hc
  have HLN := Lib.hid hc.1
  clear hc
  have hb0 := (Below.refl w.heap.size w).alloc (Nat.le_refl _) (.cells #[.int .i64 W, .slice a n cap] 28)
  have hbox0 := RgAt.new (w := w) W (.slice a n cap) rfl
  have hsz0 : (w.alloc (.cells #[.int .i64 W, .slice a n cap] 28)).heap.size = w.heap.size + 1 := by simp
  have hb1 := hb0.alloc hb0.size (.cells #[] 41)
  have hbox1 := hbox0.alloc (.cells #[] 41)
  have hown1 := own_lit0b (w.alloc (.cells #[.int .i64 W, .slice a n cap] 28)) (w.heap.size + 1) (by omega)
  have hsz1 : ((w.alloc (.cells #[.int .i64 W, .slice a n cap] 28)).alloc (.cells #[] 41)).heap.size = w.heap.size + 2 := by simp
  rw [hsz0] at hown1
  go_enter Tryd.func6, Tryd.ntmps6
  go_wp2_with fail
  (try rw [hsz0])
  clear hb0 hbox0
  generalize ((w.alloc (.cells #[.int .i64 W, .slice a n cap] 28)).alloc (.cells #[] 41)) = W1 at *
  clear hsz0
  refine (sIsReg B n cap a W l W1 hn (H.out.on (hb1.mono hB)) (Nat.le_trans hB hb1.size)).mono ?_
  rintro e W2 ⟨rfl, hb2⟩
  have hsz2 := hb2.size
  have HB2 := Lib.hid (hb1.trans (hb2.mono hb1.size))
  have hbox := hbox1.on hb2 hbox1.lt
  have HOW := Lib.hid (hown1.kept (grow_below hb2 none) (.inr (by intro e; cases e)))
  clear hb1 hb2 hbox1 hown1
  cases h : isReg W l with
  | false =>
    have HO := Lib.hid (cellsM_no (okM_no h m))
    clear h
    go_wp2
    go_ret
    rw [HO.out]
    exact ⟨_, rfl, own_base HOW.out (Nat.le_succ _), HB2.out⟩
  | true =>
    by_cases h0 : m < 0
    · have HO := Lib.hid (cellsM_no (okM_neg (W := W) (l := l) (show ¬ 0 ≤ m by omega)))
      clear h
      go_wp2
      go_ret
      rw [HO.out]
      exact ⟨_, rfl, own_base HOW.out (Nat.le_succ _), HB2.out⟩
    · obtain ⟨q, rfl⟩ := Int.eq_ofNat_of_zero_le (show 0 ≤ m by omega)
      have hq : q < 9223372036854775808 := by omega
      have hM := maskR_lt W l
      have hand := i64_and_nat q (maskR W l) hq (by omega)
      have HD := Lib.hid (okM_nat h q)
      have HR := Lib.hid h
      clear h
      obtain ⟨M, hMe⟩ : ∃ M, maskR W l = M := ⟨_, rfl⟩
      have c0 := hbox.c0
      have c1 := hbox.c1
      go_wp2_with fail
      refine (sMask B n cap a W l W2 hn (H.out.on (HB2.out.mono hB)) (Nat.le_trans hB HB2.out.size)).mono ?_
      rintro e W3 ⟨rfl, hb3⟩
      have hsz3 := hb3.size
      have HB3 := Lib.hid (HB2.out.trans (hb3.mono HB2.out.size))
      have hbox3 := hbox.on hb3 hbox.lt
      have HOW3 := Lib.hid (HOW.out.kept (grow_below hb3 none) (.inr (by intro e; cases e)))
      rw [hMe] at hand HD hM ⊢
      clear hb3 hbox c0 c1 HOW HB2
      cases hd : decide (q &&& M = q) with
      | false =>
        have hne : (((q &&& M : Nat) : Int) != (q : Int)) = true := by
          rw [decide_eq_false_iff_not] at hd
          rw [bne_iff_ne]
          omega
        have HO := Lib.hid (cellsM_no (W := W) (l := l) (m := (q : Int)) (by rw [HD.out, hd]))
        clear hd
        generalize q &&& M = u at *
        go_wp2
        go_ret
        rw [HO.out]
        exact ⟨_, rfl, own_base HOW3.out (Nat.le_succ _), HB3.out⟩
      | true =>
        have hqM : q &&& M = q := of_decide_eq_true hd
        rw [hqM] at hand
        obtain ⟨N, rfl, hr⟩ := isReg_out HR.out
        have hln := HLN.out
        rw [hln] at hr
        have hN6 := hr.w6
        have hn6 := hr.h6
        have hN0 := hr.w0
        have hqlt : q < 68719476736 := by
          have h9 : q &&& M ≤ M := Nat.and_le_right
          omega
        have HO := Lib.hid (cellsM_yes hr (show okM (N : Int) l (q : Int) = true from by rw [HD.out, hd]))
        have hT : N * n ≤ 36 := Nat.mul_le_mul hN6 hn6
        obtain ⟨T, hTe⟩ : ∃ T, N * n = T := ⟨_, rfl⟩
        have hmul : (N : Int) * (n : Int) = (T : Int) := by rw [← hTe]; simp
        rw [hTe] at hT HO
        have hNne : ¬ ((N : Int) = 0) := by omega
        have hNz : ¬ (N = 0) := by omega
        clear hr hln hqM hd HR HD hM hTe
        go_wp2
        go_loopw [5, 6] (fun v i wr => ∃ k m g c : Nat, k ≤ T ∧ i = .int .i64 k ∧ v = .slice (some ⟨g, 0, none⟩) m c ∧ Hid (m = (mcells N k q).length) ∧ Hid (wr.ownsRow (w.heap.size + 1) 41 2 (.slice (some ⟨g, 0, none⟩) m c) m (cvs (mcells N k q))) ∧ Below (w.heap.size + 1) W3 wr) (fun _ i _ => T - (intOf i).toNat)
        case atStart => exact ⟨0, 0, w.heap.size + 1, 0, by omega, rfl, rfl, rfl, HOW3.out, Below.refl _ _⟩
        case round =>
          obtain ⟨k, m, g, c, hk, rfl, rfl, hmm, hown, hb⟩ := hrel
          have hsz := hb.size
          have hbx := hbox3.on hb (by omega)
          have c0 := hbx.c0
          have c1 := hbx.c1
          have hml : m ≤ 36 := by rw [hmm.out]; exact Nat.le_trans (mcells_len _ _ _) (by omega)
          by_cases hkt : k < T
          · have hk1 : (k : Int) < (T : Int) := by omega
            have hk0 : (0 : Int) ≤ (k : Int) := by omega
            obtain ⟨t, ht⟩ : ∃ t : Nat, q / 2 ^ k = t := ⟨_, rfl⟩
            have hdiv : (q : Int) / (2 : Int) ^ k = (t : Int) := by rw [← ht]; simp
            have htm : t ≤ q := by rw [← ht]; exact Nat.div_le_self _ _
            have hbit := bit_val (m := q) k (by omega)
            rw [ht] at hbit
            clear ht
            cases htb : q.testBit k with
            | false =>
              rw [htb] at hbit
              have hbit1 : bits .and .i64 (t : Int) 1 = 0 := hbit
              have HN := Lib.hid (mcells_no (W := N) htb)
              clear htb hbit
              go_wp2_with fail
              go_roundw
              case rel => exact ⟨k + 1, m, g, c, by omega, by go_num, rfl, by rw [HN.out]; exact hmm, by rw [HN.out]; exact hown, hb⟩
              case measure => simp [intOf]; omega
            | true =>
              rw [htb] at hbit
              have hbit1 : bits .and .i64 (t : Int) 1 = 1 := hbit
              have HN := Lib.hid (mcells_yes (W := N) htb)
              clear htb hbit
              go_wp2_with fail
              have hgl := hown.out.lt g rfl
              have HO9 := Lib.hid hown.out
              have HM1 := Lib.hid (show m + 1 = (mcells N (k + 1) q).length from by rw [HN.out, List.length_append, ← hmm.out]; rfl)
              have hwq : IntKind.i64.wrap ((k : Int) / (N : Int)) = (k : Int) / (N : Int) := by
                rw [show (k : Int) / (N : Int) = ((k / N : Nat) : Int) from rfl, IntKind.wrap_i64]
                have h9 := Nat.div_le_self k N
                generalize k / N = z at h9 ⊢
                omega
              have hrem : (k : Int).tmod (N : Int) = (k : Int) % (N : Int) := Int.tmod_eq_emod_of_nonneg (by omega)
              have hquo : (k : Int).tdiv (N : Int) = (k : Int) / (N : Int) := Int.tdiv_eq_ediv_of_nonneg (by omega)
              clear hmm hown
              go_region_held3 (fun w' => w'.cell? ⟨w.heap.size, 0, none⟩ = some (.int .i64 (N : Int)))
                (first | exact c0 | go_keep | exact (hgrow.cell_far ⟨w.heap.size, 0, none⟩ (by simp; omega) (by simp; omega)).trans ((World.cell?_alloc_lt _ _ _ (by simp; omega)).trans c0))
                (first | (refine step_cells rfl _ _ rfl (w.heap.size + 1) g m c (mcells N k q) ⟨wr.heap.size, 0, none⟩ 1 1 [cAt N k] rfl rfl ((HO9.out.drew).alloc _) rfl (lies_block (t := 41) (fr := (0, 0)) (heap_alloc_new _ _)) (by omega) (by simp; omega) (wr.heap.size + 1) (by simp) ?_; intro g' cc' w7 hown1 hgrow hat hgb hlt1))
              go_wp2
              clear hwq
              go_roundw
              case rel => exact ⟨k + 1, m + 1, g', cc', by omega, by go_num, rfl, HM1.out, by rw [HN.out]; exact hown1, (hb.drew.alloc (by show w.heap.size + 1 ≤ wr.heap.size; omega) _).grown hgrow (by simp; omega) (fun i hi => by cases hi; exact hgl.1)⟩
              case measure => simp [intOf]; omega
          · obtain rfl : k = T := by omega
            go_wp2
            go_ret
            rw [HO.out]
            have hown9 := hown.out
            rw [hmm.out] at hown9
            exact ⟨_, by rw [hmm.out]; rfl, own_base hown9 (Nat.le_succ _), HB3.out.trans (hb.mono (by omega))⟩
end Go.Proofs.YtghpljoccclmkaaDoor
