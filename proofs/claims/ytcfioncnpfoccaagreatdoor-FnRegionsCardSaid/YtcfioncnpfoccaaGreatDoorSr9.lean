/-
  A region as a text, in the model and in the program: what each call gives.
-/
import Derived.Test.YtcfioncnpfoccaaGreatDoorSr1
import Derived.Test.YtcfioncnpfoccaaGreatDoorBdr
namespace Go.Proofs.YtcfioncnpfoccaaGreatDoor
open Go.RowKit

def fmtA (N : Nat) (l : List Int) (y x : Nat) : List UInt8 := fmtT N l y ++ ((if y = 0 then [] else [47]) ++ rowB l y x)
theorem fmtA_row (N : Nat) (l : List Int) (y : Nat) : fmtA N l y N = fmtT N l (y + 1) := rfl
theorem fmtA_zero (N : Nat) (l : List Int) : fmtA N l 0 0 = [] := by simp [fmtA, fmtT, rowB]
theorem fmtA_first (N : Nat) (l : List Int) : fmtA N l 0 0 = fmtT N l 0 := by simp [fmtA, fmtT, rowB]
theorem fmtA_next (N : Nat) (l : List Int) (y : Nat) (h : 0 < y) : fmtA N l y 0 = fmtT N l y ++ [47] := by
  have : ¬ y = 0 := by omega
  simp [fmtA, rowB, this]
theorem fmtA_yes {N : Nat} {l : List Int} {y x : Nat} (h : bt l ((x : Int), (y : Int)) = true) : fmtA N l y (x + 1) = fmtA N l y x ++ [35] := by
  unfold fmtA
  rw [rowB_step, if_pos h]
  simp
theorem fmtA_no {N : Nat} {l : List Int} {y x : Nat} (h : bt l ((x : Int), (y : Int)) = false) : fmtA N l y (x + 1) = fmtA N l y x ++ [46] := by
  unfold fmtA
  rw [rowB_step, h]
  simp
theorem fmtA_len (N : Nat) (l : List Int) (y x : Nat) (hN : N ≤ 6) (hy : y ≤ 6) (hx : x ≤ 6) : (fmtA N l y x).length ≤ 50 ∧ (fmtT N l y).length ≤ 42 := by
  have h1 := (fmtT_le N l y)
  have h2 := Nat.mul_le_mul (show N + 1 ≤ 7 by omega) hy
  unfold fmtA
  rw [List.length_append, List.length_append, rowB_ln]
  refine ⟨?_, by omega⟩
  split
  · simp; omega
  · simp; omega

set_option maxHeartbeats 2000000 in
set_option maxRecDepth 100000 in
theorem sFmtR (B n cap : Nat) (a : Option Addr) (W : Int) (l : List Int) (w : World) (hn : n ≤ 4194304) (hc : IntsAt B w a n l) (hB : B ≤ w.heap.size) :
    Calls Tryz.prog 10 #[.agg #[.int .i64 W, .slice a n cap]] w fun e w' => e = .returned (S (fmtR W l)) ∧ Below w.heap.size w w' := by
  have H := Lib.hid hc
  have HLN := Lib.hid hc.1
  clear hc
  have hb0 := (Below.refl w.heap.size w).alloc (Nat.le_refl _) (.cells #[.int .i64 W, .slice a n cap] 26)
  have hbox := RgAt.new (w := w) W (.slice a n cap) rfl
  have hsz0 : (w.alloc (.cells #[.int .i64 W, .slice a n cap] 26)).heap.size = w.heap.size + 1 := by simp
  cases h : isReg W l with
  | false =>
    have HI := Lib.hid h
    have HO := Lib.hid (fmtR_no h)
    rw [HO.out]
    clear h
    by_cases h0 : 0 < (n : Int)
    · go_enter Tryz.func10, Tryz.ntmps10
      go_wp2
      refine wp_loop_rounds 1 ?_
      rw [rounds_succ]
      go_wp2_with fail
      refine (sIsReg B n cap a W l _ hn (H.out.on (hb0.mono hB)) (Nat.le_trans hB hb0.size)).mono ?_
      rintro e w' ⟨rfl, hb⟩
      rw [HI.out]
      go_wp2
      go_ret
      exact ⟨rfl, hb0.trans (hb.mono hb0.size)⟩
    · go_enter Tryz.func10, Tryz.ntmps10
      go_wp2
      refine wp_loop_rounds 1 ?_
      rw [rounds_succ]
      go_wp2
      go_ret
      exact ⟨rfl, hb0⟩
  | true =>
    obtain ⟨N, rfl, hr⟩ := isReg_out h
    have hln := HLN.out
    rw [hln] at hr
    have HR := Lib.hid hr
    have HI := Lib.hid h
    have HO := Lib.hid (fmtR_yes hr)
    rw [HO.out]
    have hN6 := hr.w6
    have hn6 := hr.h6
    clear h hr hln
    go_enter Tryz.func10, Tryz.ntmps10
    go_wp2
    generalize w.alloc (.cells #[.int .i64 N, .slice a n cap] 26) = W1 at *
    have HB := Lib.hid hb0
    clear hb0
    go_loopw [3, 4] (fun v i wr => ∃ y : Nat, y ≤ n ∧ i = .int .i64 y ∧ v = S (fmtT N l y) ∧ Below (w.heap.size + 1) W1 wr) (fun _ i _ => n - (intOf i).toNat)
    case atStart => exact ⟨0, by omega, rfl, rfl, Below.refl _ _⟩
    case round =>
      obtain ⟨y, hy, rfl, rfl, hb⟩ := hrel
      have hsz := hb.size
      have hbx := hbox.on hb (by omega)
      have c0 := hbx.c0
      have c1 := hbx.c1
      by_cases hlt : y < n
      · have hy1 : (y : Int) < (n : Int) := by omega
        have hbw := HB.out.trans (hb.mono (by omega))
        go_wp2_with fail
        refine (sIsReg B n cap a N l wr hn (H.out.on (hbw.mono hB)) (Nat.le_trans hB hbw.size)).mono ?_
        rintro e w2 ⟨rfl, hb2⟩
        rw [HI.out]
        have hb2' := hb.trans (hb2.mono (by omega))
        clear hb hb2 hbx c0 c1 hbw hsz
        obtain ⟨tt, ht⟩ : ∃ tt, fmtT N l y = tt := ⟨_, rfl⟩
        have htl := (fmtA_len N l y 0 hN6 (by omega) (by omega)).2
        rw [ht] at htl ⊢
        by_cases h0 : 0 < y
        · have HS0 := Lib.hid (show tt ++ [47] = fmtA N l y 0 from by rw [fmtA_next N l y (by omega), ht])
          go_wp2
          go_loopw [3, 5] (fun v i wr => ∃ x : Nat, x ≤ N ∧ i = .int .i64 x ∧ v = S (fmtA N l y x) ∧ Below (w.heap.size + 1) W1 wr) (fun _ i _ => N - (intOf i).toNat)
          case atStart => exact ⟨0, by omega, rfl, by rw [← HS0.out, S_append], hb2'⟩
          case round =>
            clear hb2'
            obtain ⟨x, hx, rfl, rfl, hb⟩ := hrel
            have hsz := hb.size
            have hbx := hbox.on hb (by omega)
            have c0 := hbx.c0
            have c1 := hbx.c1
            by_cases hxt : x < N
            · have hx1 : (x : Int) < (N : Int) := by omega
              have hbw := HB.out.trans (hb.mono (by omega))
              have hlen := (fmtA_len N l y x hN6 (by omega) (by omega)).1
              go_wp2_with fail
              refine (sL6In B n cap N a l x y wr HR.out (H.out.on (hbw.mono hB)) (Nat.le_trans hB hbw.size)).mono ?_
              rintro e w3 ⟨rfl, hb3⟩
              have HB4 := Lib.hid (hb.trans (hb3.mono (by omega)))
              clear hb hb3 hbx c0 c1 hbw
              cases hbt : bt l ((x : Int), (y : Int)) with
              | true =>
                have hN2 : (ByteArray.mk (fmtA N l y x).toArray ++ ByteArray.mk #[35]) = ByteArray.mk (fmtA N l y (x + 1)).toArray := by rw [fmtA_yes (N := N) hbt]; exact S_append _ [35]
                clear hbt
                go_wp2
                go_roundw
                case rel => first
                  | exact ⟨x + 1, by omega, by go_num, rfl, HB4.out⟩
                  | (repeat apply Exists.intro
                     exact ⟨⟨x + 1, by omega, by go_num, rfl, HB4.out⟩, rfl⟩)
                case measure => simp [intOf]; omega
              | false =>
                have hN2 : (ByteArray.mk (fmtA N l y x).toArray ++ ByteArray.mk #[46]) = ByteArray.mk (fmtA N l y (x + 1)).toArray := by rw [fmtA_no (N := N) hbt]; exact S_append _ [46]
                clear hbt
                go_wp2
                go_roundw
                case rel => first
                  | exact ⟨x + 1, by omega, by go_num, rfl, HB4.out⟩
                  | (repeat apply Exists.intro
                     exact ⟨⟨x + 1, by omega, by go_num, rfl, HB4.out⟩, rfl⟩)
                case measure => simp [intOf]; omega
            · obtain rfl : x = N := by omega
              have HN := Lib.hid (fmtA_row x l y)
              go_wp2
              go_roundw
              case rel => exact ⟨y + 1, by omega, by go_num, by rw [← HN.out], hb⟩
              case measure => simp [intOf]; omega
        · have HS0 := Lib.hid (show tt = fmtA N l y 0 from by
            have hy0 : y = 0 := by omega
            subst hy0
            rw [fmtA_first, ht])
          go_wp2
          go_loopw [3, 5] (fun v i wr => ∃ x : Nat, x ≤ N ∧ i = .int .i64 x ∧ v = S (fmtA N l y x) ∧ Below (w.heap.size + 1) W1 wr) (fun _ i _ => N - (intOf i).toNat)
          case atStart => exact ⟨0, by omega, rfl, by rw [← HS0.out], hb2'⟩
          case round =>
            clear hb2'
            obtain ⟨x, hx, rfl, rfl, hb⟩ := hrel
            have hsz := hb.size
            have hbx := hbox.on hb (by omega)
            have c0 := hbx.c0
            have c1 := hbx.c1
            by_cases hxt : x < N
            · have hx1 : (x : Int) < (N : Int) := by omega
              have hbw := HB.out.trans (hb.mono (by omega))
              have hlen := (fmtA_len N l y x hN6 (by omega) (by omega)).1
              go_wp2_with fail
              refine (sL6In B n cap N a l x y wr HR.out (H.out.on (hbw.mono hB)) (Nat.le_trans hB hbw.size)).mono ?_
              rintro e w3 ⟨rfl, hb3⟩
              have HB4 := Lib.hid (hb.trans (hb3.mono (by omega)))
              clear hb hb3 hbx c0 c1 hbw
              cases hbt : bt l ((x : Int), (y : Int)) with
              | true =>
                have hN2 : (ByteArray.mk (fmtA N l y x).toArray ++ ByteArray.mk #[35]) = ByteArray.mk (fmtA N l y (x + 1)).toArray := by rw [fmtA_yes (N := N) hbt]; exact S_append _ [35]
                clear hbt
                go_wp2
                go_roundw
                case rel => first
                  | exact ⟨x + 1, by omega, by go_num, rfl, HB4.out⟩
                  | (repeat apply Exists.intro
                     exact ⟨⟨x + 1, by omega, by go_num, rfl, HB4.out⟩, rfl⟩)
                case measure => simp [intOf]; omega
              | false =>
                have hN2 : (ByteArray.mk (fmtA N l y x).toArray ++ ByteArray.mk #[46]) = ByteArray.mk (fmtA N l y (x + 1)).toArray := by rw [fmtA_no (N := N) hbt]; exact S_append _ [46]
                clear hbt
                go_wp2
                go_roundw
                case rel => first
                  | exact ⟨x + 1, by omega, by go_num, rfl, HB4.out⟩
                  | (repeat apply Exists.intro
                     exact ⟨⟨x + 1, by omega, by go_num, rfl, HB4.out⟩, rfl⟩)
                case measure => simp [intOf]; omega
            · obtain rfl : x = N := by omega
              have HN := Lib.hid (fmtA_row x l y)
              go_wp2
              go_roundw
              case rel => exact ⟨y + 1, by omega, by go_num, by rw [← HN.out], hb⟩
              case measure => simp [intOf]; omega
      · obtain rfl : y = n := by omega
        have HBF := Lib.hid (HB.out.trans (hb.mono (by omega)))
        go_wp2
        go_ret
        exact ⟨rfl, HBF.out⟩

theorem RgAt.others {w w' : World} {g : Nat} {W : Int} {v : Value} {b : Nat} (h : RgAt w g W v) (ho : Lib.OthersKept 5 (some b) w w') (hne : g ≠ b) : RgAt w' g W v := by
  refine ho g _ h ?_ ?_
  · intro e; exact hne (Option.some.inj e)
  · intro c fz e
    injection e with _ e2 _
    cases e2

set_option maxHeartbeats 2000000 in
set_option maxRecDepth 100000 in
theorem iFmtR (B n cap : Nat) (a : Option Addr) (W : Int) (l : List Int) (w : World) (hn : n ≤ 4194304) (hc : IntsAt B w a n l) (hB : B ≤ w.heap.size) :
    Calls Tryz.prog 6 #[.agg #[.int .i64 W, .slice a n cap]] w fun e w' => e = .returned (S (fmtR W l)) ∧ Below w.heap.size w w' := by
  have H := Lib.hid hc
  have HLN := Lib.hid hc.1
  clear hc
  have hb0 := (Below.refl w.heap.size w).alloc (Nat.le_refl _) (.cells #[.int .i64 W, .slice a n cap] 26)
  have hbox0 := RgAt.new (w := w) W (.slice a n cap) rfl
  have hsz0 : (w.alloc (.cells #[.int .i64 W, .slice a n cap] 26)).heap.size = w.heap.size + 1 := by simp
  cases h : isReg W l with
  | false =>
    have HI := Lib.hid h
    have HO := Lib.hid (fmtR_no h)
    rw [HO.out]
    clear h
    go_enter Tryz.func6, Tryz.ntmps6
    go_wp2_with fail
    refine (iIsReg B n cap a W l _ hn (H.out.on (hb0.mono hB)) (Nat.le_trans hB hb0.size)).mono ?_
    rintro e w' ⟨rfl, hb⟩
    rw [HI.out]
    go_wp2
    go_ret
    exact ⟨rfl, hb0.trans (hb.mono hb0.size)⟩
  | true =>
    obtain ⟨N, rfl, hr⟩ := isReg_out h
    have hln := HLN.out
    rw [hln] at hr
    have HI := Lib.hid h
    have HY := Lib.hid (fun x y => cellB_yes h x y)
    have HO := Lib.hid (fmtR_yes hr)
    rw [HO.out]
    have hN6 := hr.w6
    have hn6 := hr.h6
    clear h hr hln
    go_enter Tryz.func6, Tryz.ntmps6
    go_wp2_with fail
    refine (iIsReg B n cap a N l _ hn (H.out.on (hb0.mono hB)) (Nat.le_trans hB hb0.size)).mono ?_
    rintro e W1 ⟨rfl, hb⟩
    rw [HI.out]
    have HB1 := Lib.hid (hb0.trans (hb.mono hb0.size))
    have hbox1 := hbox0.on hb hbox0.lt
    have hsz1 := hb.size
    rw [hsz0] at hsz1
    clear hb hb0 hbox0 hsz0
    obtain ⟨bb, hbb⟩ : ∃ bb, W1.heap.size = bb := ⟨_, rfl⟩
    have hbd := bl_new W1
    have hbox := hbox1.alloc (.cells #[.pointer none, .slice none 0 0] 60)
    have HB := Lib.hid (HB1.out.alloc HB1.out.size (.cells #[.pointer none, .slice none 0 0] 60))
    have hszb : (W1.alloc (.cells #[.pointer none, .slice none 0 0] 60)).heap.size = bb + 1 := by simp [hbb]
    rw [hbb] at hbd hsz1
    have c1 := hbox.c1
    clear HB1 hbox1
    go_wp2_with fail
    generalize (W1.alloc (.cells #[.pointer none, .slice none 0 0] 60)) = W2 at *
    have HBD := Lib.hid hbd
    have HBX := Lib.hid hbox
    clear hbd hbox
    go_wp2
    clear c1
    go_loopw [12] (fun i wr => ∃ y : Nat, y ≤ n ∧ i = .int .i64 y ∧ Hid (Bl bb bb (fmtT N l y) wr) ∧ Hid (RgAt wr w.heap.size N (.slice a n cap)) ∧ Below w.heap.size w wr ∧ bb + 1 ≤ wr.heap.size) (fun i _ => n - (intOf i).toNat)
    case atStart => exact ⟨0, by omega, rfl, HBD.out, HBX.out, HB.out, by omega⟩
    case round =>
      obtain ⟨y, hy, rfl, hbd, hbx, hb, hsz⟩ := hrel
      clear HBD HBX HB
      by_cases hlt : y < n
      · have hy1 : (y : Int) < (n : Int) := by omega
        have htl := (fmtA_len N l y 0 hN6 (by omega) (by omega)).2
        by_cases h0 : 0 < y
        · have HS0 := Lib.hid (show fmtT N l y ++ [47] = fmtA N l y 0 from by rw [fmtA_next N l y (by omega)])
          go_wp2_with fail
          refine (bWrite bb bb (fmtT N l y) 47 47 rfl wr hbd.out (by omega) (by omega)).mono ?_
          rintro e w2 ⟨⟨r2, rfl⟩, hbd2, hb2, ho2⟩
          rw [HS0.out] at hbd2
          have hbx2 := hbx.out.others ho2 (by omega)
          have hB2 := hb.trans (hb2.mono (by omega))
          have hsz2 : bb + 1 ≤ w2.heap.size := Nat.le_trans hsz hb2.size
          have HBD2 := Lib.hid hbd2
          have HBX2 := Lib.hid hbx2
          have HB2 := Lib.hid hB2
          have c0 := hbx2.c0
          clear hbd2 hb2 ho2 hbd hbx hb hsz hbx2 hB2
          go_wp2
          clear c0
          go_loopw [20] (fun i wr => ∃ x : Nat, x ≤ N ∧ i = .int .i64 x ∧ Hid (Bl bb bb (fmtA N l y x) wr) ∧ Hid (RgAt wr w.heap.size N (.slice a n cap)) ∧ Below w.heap.size w wr ∧ bb + 1 ≤ wr.heap.size) (fun i _ => N - (intOf i).toNat)
          case atStart => exact ⟨0, by omega, rfl, HBD2.out, HBX2.out, HB2.out, hsz2⟩
          case round =>
            clear HBD2 HBX2 HB2 hsz2
            obtain ⟨x, hx, rfl, hbd, hbx, hb, hsz⟩ := hrel
            have c0 := hbx.out.c0
            have c1 := hbx.out.c1
            by_cases hxt : x < N
            · have hx1 : (x : Int) < (N : Int) := by omega
              have hlen := (fmtA_len N l y x hN6 (by omega) (by omega)).1
              go_wp2_with fail
              refine (iInReg B n cap a N l x y wr hn (H.out.on (hb.mono hB)) (Nat.le_trans hB hb.size)).mono ?_
              rintro e w3 ⟨rfl, hb3⟩
              rw [HY.out]
              have hbd3 := Bl.on hbd.out hb3 rfl
              have hbx3 := hbx.out.on hb3 hbx.out.lt
              have hB3 := hb.trans (hb3.mono hb.size)
              have hsz3 : bb + 1 ≤ w3.heap.size := Nat.le_trans hsz hb3.size
              clear hbd hbx hb hb3 c0 c1 hsz
              cases hbt : bt l ((x : Int), (y : Int)) with
              | true =>
                have HN := Lib.hid (fmtA_yes (N := N) hbt)
                clear hbt
                go_wp2_with fail
                refine (bWrite bb bb (fmtA N l y x) 35 35 rfl w3 hbd3 (by omega) (by omega)).mono ?_
                rintro e w4 ⟨⟨r4, rfl⟩, hbd4, hb4, ho4⟩
                have HBD4 := Lib.hid (show Bl bb bb (fmtA N l y (x + 1)) w4 from by rw [HN.out]; exact hbd4)
                have HBX4 := Lib.hid (hbx3.others ho4 (by omega))
                have HB4 := Lib.hid (hB3.trans (hb4.mono (by omega)))
                have hsz4 : bb + 1 ≤ w4.heap.size := Nat.le_trans hsz3 hb4.size
                clear hbd4 hb4 ho4 hbd3 hbx3 hB3
                go_wp2
                go_roundw
                case rel => first
                  | exact ⟨x + 1, by omega, by go_num, HBD4.out, HBX4.out, HB4.out, hsz4⟩
                  | (repeat apply Exists.intro
                     exact ⟨⟨x + 1, by omega, by go_num, HBD4.out, HBX4.out, HB4.out, hsz4⟩, rfl⟩)
                case measure => simp [intOf]; omega
              | false =>
                have HN := Lib.hid (fmtA_no (N := N) hbt)
                clear hbt
                go_wp2_with fail
                refine (bWrite bb bb (fmtA N l y x) 46 46 rfl w3 hbd3 (by omega) (by omega)).mono ?_
                rintro e w4 ⟨⟨r4, rfl⟩, hbd4, hb4, ho4⟩
                have HBD4 := Lib.hid (show Bl bb bb (fmtA N l y (x + 1)) w4 from by rw [HN.out]; exact hbd4)
                have HBX4 := Lib.hid (hbx3.others ho4 (by omega))
                have HB4 := Lib.hid (hB3.trans (hb4.mono (by omega)))
                have hsz4 : bb + 1 ≤ w4.heap.size := Nat.le_trans hsz3 hb4.size
                clear hbd4 hb4 ho4 hbd3 hbx3 hB3
                go_wp2
                go_roundw
                case rel => first
                  | exact ⟨x + 1, by omega, by go_num, HBD4.out, HBX4.out, HB4.out, hsz4⟩
                  | (repeat apply Exists.intro
                     exact ⟨⟨x + 1, by omega, by go_num, HBD4.out, HBX4.out, HB4.out, hsz4⟩, rfl⟩)
                case measure => simp [intOf]; omega
            · obtain rfl : x = N := by omega
              have HN := Lib.hid (fmtA_row x l y)
              have HBD4 := Lib.hid (show Bl bb bb (fmtT x l (y + 1)) wr from by rw [← HN.out]; exact hbd.out)
              clear hbd
              go_wp2
              go_roundw
              case rel => first
                | exact ⟨y + 1, by omega, by go_num, HBD4.out, hbx, hb, hsz⟩
                | (repeat apply Exists.intro
                   exact ⟨⟨y + 1, by omega, by go_num, HBD4.out, hbx, hb, hsz⟩, rfl⟩)
              case measure => simp [intOf]; omega
        · have HS0 := Lib.hid (show fmtT N l y = fmtA N l y 0 from by
            have hy0 : y = 0 := by omega
            subst hy0
            rw [fmtA_first])
          have HBD2 := Lib.hid (show Bl bb bb (fmtA N l y 0) wr from by rw [← HS0.out]; exact hbd.out)
          have c0 := hbx.out.c0
          clear hbd
          go_wp2
          clear c0
          go_loopw [20] (fun i wr => ∃ x : Nat, x ≤ N ∧ i = .int .i64 x ∧ Hid (Bl bb bb (fmtA N l y x) wr) ∧ Hid (RgAt wr w.heap.size N (.slice a n cap)) ∧ Below w.heap.size w wr ∧ bb + 1 ≤ wr.heap.size) (fun i _ => N - (intOf i).toNat)
          case atStart => exact ⟨0, by omega, rfl, HBD2.out, hbx, hb, hsz⟩
          case round =>
            clear HBD2 hbx hb hsz
            obtain ⟨x, hx, rfl, hbd, hbx, hb, hsz⟩ := hrel
            have c0 := hbx.out.c0
            have c1 := hbx.out.c1
            by_cases hxt : x < N
            · have hx1 : (x : Int) < (N : Int) := by omega
              have hlen := (fmtA_len N l y x hN6 (by omega) (by omega)).1
              go_wp2_with fail
              refine (iInReg B n cap a N l x y wr hn (H.out.on (hb.mono hB)) (Nat.le_trans hB hb.size)).mono ?_
              rintro e w3 ⟨rfl, hb3⟩
              rw [HY.out]
              have hbd3 := Bl.on hbd.out hb3 rfl
              have hbx3 := hbx.out.on hb3 hbx.out.lt
              have hB3 := hb.trans (hb3.mono hb.size)
              have hsz3 : bb + 1 ≤ w3.heap.size := Nat.le_trans hsz hb3.size
              clear hbd hbx hb hb3 c0 c1 hsz
              cases hbt : bt l ((x : Int), (y : Int)) with
              | true =>
                have HN := Lib.hid (fmtA_yes (N := N) hbt)
                clear hbt
                go_wp2_with fail
                refine (bWrite bb bb (fmtA N l y x) 35 35 rfl w3 hbd3 (by omega) (by omega)).mono ?_
                rintro e w4 ⟨⟨r4, rfl⟩, hbd4, hb4, ho4⟩
                have HBD4 := Lib.hid (show Bl bb bb (fmtA N l y (x + 1)) w4 from by rw [HN.out]; exact hbd4)
                have HBX4 := Lib.hid (hbx3.others ho4 (by omega))
                have HB4 := Lib.hid (hB3.trans (hb4.mono (by omega)))
                have hsz4 : bb + 1 ≤ w4.heap.size := Nat.le_trans hsz3 hb4.size
                clear hbd4 hb4 ho4 hbd3 hbx3 hB3
                go_wp2
                go_roundw
                case rel => first
                  | exact ⟨x + 1, by omega, by go_num, HBD4.out, HBX4.out, HB4.out, hsz4⟩
                  | (repeat apply Exists.intro
                     exact ⟨⟨x + 1, by omega, by go_num, HBD4.out, HBX4.out, HB4.out, hsz4⟩, rfl⟩)
                case measure => simp [intOf]; omega
              | false =>
                have HN := Lib.hid (fmtA_no (N := N) hbt)
                clear hbt
                go_wp2_with fail
                refine (bWrite bb bb (fmtA N l y x) 46 46 rfl w3 hbd3 (by omega) (by omega)).mono ?_
                rintro e w4 ⟨⟨r4, rfl⟩, hbd4, hb4, ho4⟩
                have HBD4 := Lib.hid (show Bl bb bb (fmtA N l y (x + 1)) w4 from by rw [HN.out]; exact hbd4)
                have HBX4 := Lib.hid (hbx3.others ho4 (by omega))
                have HB4 := Lib.hid (hB3.trans (hb4.mono (by omega)))
                have hsz4 : bb + 1 ≤ w4.heap.size := Nat.le_trans hsz3 hb4.size
                clear hbd4 hb4 ho4 hbd3 hbx3 hB3
                go_wp2
                go_roundw
                case rel => first
                  | exact ⟨x + 1, by omega, by go_num, HBD4.out, HBX4.out, HB4.out, hsz4⟩
                  | (repeat apply Exists.intro
                     exact ⟨⟨x + 1, by omega, by go_num, HBD4.out, HBX4.out, HB4.out, hsz4⟩, rfl⟩)
                case measure => simp [intOf]; omega
            · obtain rfl : x = N := by omega
              have HN := Lib.hid (fmtA_row x l y)
              have HBD4 := Lib.hid (show Bl bb bb (fmtT x l (y + 1)) wr from by rw [← HN.out]; exact hbd.out)
              clear hbd
              go_wp2
              go_roundw
              case rel => first
                | exact ⟨y + 1, by omega, by go_num, HBD4.out, hbx, hb, hsz⟩
                | (repeat apply Exists.intro
                   exact ⟨⟨y + 1, by omega, by go_num, HBD4.out, hbx, hb, hsz⟩, rfl⟩)
              case measure => simp [intOf]; omega
      · obtain rfl : y = n := by omega
        go_wp2_with fail
        refine (bStr bb bb (fmtT N l y) _ hbd.out (by omega)).mono ?_
        rintro e w7 ⟨rfl, hb7⟩
        have hb8 := hb.trans (hb7.mono (by omega))
        go_wp2
        go_ret
        exact ⟨rfl, hb8⟩

end Go.Proofs.YtcfioncnpfoccaaGreatDoor
