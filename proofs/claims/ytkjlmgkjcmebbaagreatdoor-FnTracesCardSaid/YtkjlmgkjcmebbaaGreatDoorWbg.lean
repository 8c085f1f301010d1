/-
  Whether a text is the trace of a search, in the model: what each call gives.
  IsRefutation in the model: what the call gives.
  WriteByte as a deferred call; what the search of a trace keeps in memory.
  The search that writes a trace, in the program: what the closures' calls give.
  traceOf, in the program: what the call gives.
-/
import Derived.Test.YtkjlmgkjcmebbaaGreatDoorWbf
import Derived.Lib.QuietBelow
import Derived.Test.YtkjlmgkjcmebbaaGreatDoorWax
import Derived.Test.YtkjlmgkjcmebbaaGreatDoorWar
import Derived.Defers
import Derived.Tactics2
import Derived.Test.YtkjlmgkjcmebbaaGreatDoorWaw
import Derived.Test.YtkjlmgkjcmebbaaGreatDoorWao
namespace Go.Proofs.YtkjlmgkjcmebbaaGreatDoor

section
open Go.RowKit

set_option maxHeartbeats 8000000 in
set_option maxRecDepth 100000 in
theorem sCheck (n cap : Nat) (a : Option Addr) (Q : List Nat) (s : ByteArray) (hn : n ≤ 100000) (hs : s.size ≤ 100000) (hQ : ∀ m ∈ Q, m ≠ 0 ∧ m < 68719476736) :
    ∀ (F f : Nat), f ≤ F → f < 68719476736 → ∀ k0 : Nat, k0 ≤ s.size → ∀ (B : Nat) (w : World), IntsAt B w a n (ints Q) → B ≤ w.heap.size →
    Calls Tryz.prog 76 #[.slice a n cap, .int .i64 f, .string s, .int .i64 k0] w fun e w' => e = .returned (.int .i64 (ckV Q f (tbs s) k0)) ∧ Below w.heap.size w w' := by
  intro F
  have base : ∀ k0 : Nat, ∀ (w : World),
      Calls Tryz.prog 76 #[.slice a n cap, .int .i64 0, .string s, .int .i64 k0] w fun e w' => e = .returned (.int .i64 (ckV Q 0 (tbs s) k0)) ∧ Below w.heap.size w w' := by
    intro k0 w
    have HC := Lib.hid (ckV_zero Q (tbs s) k0)
    rw [HC.out]
    clear hQ
    go_enter Tryz.func76, Tryz.ntmps76
    go_wp2
    go_ret
    exact ⟨rfl, Below.refl _ _⟩
  induction F with
  | zero =>
    intro f hf0 hf k0 hk0 B w hc hB
    obtain rfl : f = 0 := by omega
    exact base k0 w
  | succ F ih =>
    intro f hfF hf k0 hk0 B w hc hB
    by_cases h0 : f = 0
    · subst h0
      exact base k0 w
    clear base
    have hfz : ((f : Int) == 0) = false := by simp; omega
    have HIH := Lib.hid ih
    have HQ := Lib.hid hQ
    have H := Lib.hid hc
    have hln := hc.1
    rw [ints_len] at hln
    have hbl : (tbs s).length = s.size := tbs_len s
    have HTA := Lib.hid (fun h => ckV_all (Q := Q) (f := f) (l := tbs s) (k := k0) h0 h)
    have HBD := Lib.hid (fun i => ckTo_bad (Q := Q) (f := f) (l := tbs s) (k := k0) (i := i) h0)
    have hlow := lowB_lt h0 (show f < 2 ^ 64 by omega)
    have HSL := Lib.hid (fun W => sLow f h0 (show f < 9223372036854775808 by omega) W)
    obtain ⟨low, hlw⟩ : ∃ low, lowB f = low := ⟨_, rfl⟩
    have HFI := Lib.hid (fun m => fit_is (m := m) hlw)
    rw [hlw] at hlow HSL
    clear ih hc hlw
    have hl0 : (0 : Int) ≤ (low : Int) := by omega
    have HZ0 := Lib.hid (ckTo_zero Q f (tbs s) k0)
    go_enter Tryz.func76, Tryz.ntmps76
    go_wp2_with fail
    refine (HSL.out w).mono ?_
    rintro e w1 ⟨rfl, hb1⟩
    have HB1 := Lib.hid hb1
    clear hb1
    go_wp2
    go_loopw [3, 10] (fun pv ix wr => ∃ i p : Nat, i ≤ n ∧ ix = .int .i64 (i : Int) ∧ pv = .int .i64 (p : Int) ∧ p ≤ s.size ∧ Hid (k0 + (trTo Q Q (fitB f) f i).length = p) ∧ Hid (ckTo Q f (tbs s) k0 i = true) ∧ Below w.heap.size w wr) (fun _ ix _ => n - (intOf ix).toNat)
    case atStart => exact ⟨0, k0, by omega, rfl, rfl, hk0, by rw [trTo_zero]; simp [Hid], HZ0.out, HB1.out⟩
    case round =>
      clear HB1
      obtain ⟨i, p, hi, rfl, rfl, hp, hpk, hok, hb⟩ := hrel
      by_cases hlt : i < n
      · have hi1 : (i : Int) < (n : Int) := by omega
        have hi0 : (0 : Int) ≤ (i : Int) := by omega
        obtain ⟨b9, o9, rfl, hb9, hc9⟩ := (H.out.on (hb.mono hB)).2.2 (by omega)
        have p1 := hc9 i hlt
        rw [ints_get] at p1
        have hm := HQ.out (Q.getD i 0) (getD_memN (by omega))
        have HCY := Lib.hid (fun h => ckTo_yes (Q := Q) (f := f) (l := tbs s) (k := k0) (i := i) (by omega) h hok.out hpk.out)
        have HCN := Lib.hid (ckTo_no (Q := Q) (f := f) (l := tbs s) (k := k0) (i := i) (by omega))
        have HFM := Lib.hid (HFI.out (Q.getD i 0))
        have HFS := Lib.hid (fun h => fit_sub (f := f) (m := Q.getD i 0) h)
        obtain ⟨m, hmm⟩ : ∃ m, Q.getD i 0 = m := ⟨_, rfl⟩
        rw [hmm] at p1 hm HCY HCN HFM HFS
        clear hc9 hmm
        obtain ⟨u, hu⟩ : ∃ u : Nat, m / 2 ^ low = u := ⟨_, rfl⟩
        have hdiv : (m : Int) / (2 : Int) ^ low = (u : Int) := by rw [← hu]; simp
        have hum : u ≤ m := by rw [← hu]; exact Nat.div_le_self _ _
        have hand := bit_val (m := m) low (by omega)
        rw [hu] at hand
        clear hu
        cases htb : m.testBit low with
        | false =>
          rw [htb] at hand
          have hand1 : bits .and .i64 (u : Int) 1 = 0 := hand
          have hnf : fitB f m = false := by rw [HFM.out, htb]; rfl
          have HL5 := Lib.hid (show ckTo Q f (tbs s) k0 (i + 1) = true from by rw [(HCN.out hnf).1]; exact hok.out)
          have HP5 := Lib.hid (show k0 + (trTo Q Q (fitB f) f (i + 1)).length = p from by rw [(HCN.out hnf).2]; exact hpk.out)
          clear HCY HCN HFM HFS hand htb hok hnf hpk
          go_wp2_with fail
          go_quiet (fail)
          go_wp2
          go_roundw
          case rel => first
            | exact ⟨i + 1, p, by omega, by go_num, rfl, hp, HP5.out, HL5.out, below_drewn hb _⟩
            | (repeat apply Exists.intro
               exact ⟨⟨i + 1, p, by omega, by go_num, rfl, hp, HP5.out, HL5.out, below_drewn hb _⟩, rfl⟩)
          case measure => first | (simp [intOf]; done) | (simp [intOf]; omega)
        | true =>
          rw [htb] at hand
          have hand1 : bits .and .i64 (u : Int) 1 = 1 := hand
          have hmf := i64_and_nat m f (by omega) (by omega)
          by_cases hsb : m &&& f = m
          · rw [hsb] at hmf
            have e3 : ((m : Int) != (m : Int)) = false := by simp
            have hfit : fitB f m = true := by rw [HFM.out, htb, hsb]; simp
            have hfs := HFS.out hfit
            have HCS := Lib.hid (HCY.out hfit)
            obtain ⟨fm, hfm⟩ : ∃ fm, f - m = fm := ⟨_, rfl⟩
            have hfm1 : (f : Int) - (m : Int) = (fm : Int) := by omega
            rw [hfm] at HCS hfs
            clear HCY HCN HFM HFS hand htb hfit hsb hok hpk
            by_cases hps : p < s.size
            · have hps1 : ¬ (s.size : Int) ≤ (p : Int) := by omega
              have hp0 : (0 : Int) ≤ (p : Int) := by omega
              have hgp := tbs_at s p hps
              cases h40 : (s[p] == 40) with
              | true =>
                have e40 : ((s[p].toNat : Int) != 40) = false := (u8_is (k := 40) h40 (by omega)).2
                obtain ⟨p', hp'⟩ : ∃ p', p + 1 = p' := ⟨_, rfl⟩
                have hpp : (p : Int) + 1 = (p' : Int) := by omega
                rw [hp'] at HCS
                have HR := Lib.hid (fun v9 (h9 : Below w.heap.size w v9) => HIH.out fm (by omega) (by omega) p' (by omega) B v9 (H.out.on (h9.mono hB)) (Nat.le_trans hB h9.size))
                have hcv := ckV_bd Q fm (l := tbs s) (k := p') (by omega)
                have HCK := Lib.hid (fun h => ckV_ok (Q := Q) (f := fm) (l := tbs s) (k := p') h)
                obtain ⟨z, hz⟩ : ∃ z, ckV Q fm (tbs s) p' = z := ⟨_, rfl⟩
                rw [hz] at HR hcv HCK
                have HG40 := Lib.hid (show (decide (p < (tbs s).length) && ((tbs s).getD p 0 == 40)) = true from by rw [hgp, h40, hbl, decide_eq_true hps]; rfl)
                clear hz h40 hgp hp'
                rcases hcv with hz | ⟨q, hz, hq1, hq2, hq3⟩
                · subst hz
                  have HNO := Lib.hid (show ckV Q f (tbs s) k0 = -1 from HBD.out (i + 1) (by rw [HCS.out.1, HCK.out rfl]; simp))
                  clear HCS HCK HG40
                  go_wp2_with fail
                  go_quiet (fail)
                  go_wp2_with fail
                  refine (HR.out _ (below_drewn hb _)).mono ?_
                  rintro e w5 ⟨rfl, hb5⟩
                  have HB5 := Lib.hid ((below_drewn hb _).trans (hb5.mono (below_drewn hb _).size))
                  clear hb5 HR hb
                  go_wp2
                  go_ret
                  exact ⟨by rw [HNO.out]; rfl, HB5.out⟩
                · subst hz
                  rw [← hq1, hq3, HG40.out, hbl] at HCS
                  clear hq1 hq3
                  have hq9 : (0 : Int) ≤ (q : Int) := by omega
                  have hqn : ¬ (q : Int) < 0 := by omega
                  by_cases hqs : q < s.size
                  · have hqs1 : ¬ (s.size : Int) ≤ (q : Int) := by omega
                    rw [tbs_at s q hqs, decide_eq_true hqs] at HCS
                    cases h41 : (s[q] == 41) with
                    | true =>
                      have e41 : ((s[q].toNat : Int) != 41) = false := (u8_is (k := 41) h41 (by omega)).2
                      rw [h41] at HCS
                      have HL5 := Lib.hid (show ckTo Q f (tbs s) k0 (i + 1) = true from by rw [HCS.out.1]; rfl)
                      have HP5 := Lib.hid (show k0 + (trTo Q Q (fitB f) f (i + 1)).length = q + 1 from HCS.out.2)
                      clear HCS HCK HG40 h41
                      go_wp2_with fail
                      go_quiet (fail)
                      go_wp2_with fail
                      refine (HR.out _ (below_drewn hb _)).mono ?_
                      rintro e w5 ⟨rfl, hb5⟩
                      have HB5 := Lib.hid ((below_drewn hb _).trans (hb5.mono (below_drewn hb _).size))
                      clear hb5 HR hb
                      go_wp2
                      go_roundw
                      case rel => first
                        | exact ⟨i + 1, q + 1, by omega, by go_num, by go_num, by omega, HP5.out, HL5.out, HB5.out⟩
                        | (repeat apply Exists.intro
                           exact ⟨⟨i + 1, q + 1, by omega, by go_num, by go_num, by omega, HP5.out, HL5.out, HB5.out⟩, rfl⟩)
                      case measure => first | (simp [intOf]; done) | (simp [intOf]; omega)
                    | false =>
                      have e41 : ((s[q].toNat : Int) != 41) = true := (u8_not (k := 41) h41 (by omega)).2
                      rw [h41] at HCS
                      have HNO := Lib.hid (show ckV Q f (tbs s) k0 = -1 from HBD.out (i + 1) (by rw [HCS.out.1]; rfl))
                      clear HCS HCK HG40 h41
                      go_wp2_with fail
                      go_quiet (fail)
                      go_wp2_with fail
                      refine (HR.out _ (below_drewn hb _)).mono ?_
                      rintro e w5 ⟨rfl, hb5⟩
                      have HB5 := Lib.hid ((below_drewn hb _).trans (hb5.mono (below_drewn hb _).size))
                      clear hb5 HR hb
                      go_wp2
                      go_ret
                      exact ⟨by rw [HNO.out]; rfl, HB5.out⟩
                  · have hqs1 : (s.size : Int) ≤ (q : Int) := by omega
                    rw [decide_eq_false hqs] at HCS
                    have HNO := Lib.hid (show ckV Q f (tbs s) k0 = -1 from HBD.out (i + 1) (by rw [HCS.out.1]; rfl))
                    clear HCS HCK HG40
                    go_wp2_with fail
                    go_quiet (fail)
                    go_wp2_with fail
                    refine (HR.out _ (below_drewn hb _)).mono ?_
                    rintro e w5 ⟨rfl, hb5⟩
                    have HB5 := Lib.hid ((below_drewn hb _).trans (hb5.mono (below_drewn hb _).size))
                    clear hb5 HR hb
                    go_wp2
                    go_ret
                    exact ⟨by rw [HNO.out]; rfl, HB5.out⟩
              | false =>
                have e40 : ((s[p].toNat : Int) != 40) = true := (u8_not (k := 40) h40 (by omega)).2
                have HNO := Lib.hid (show ckV Q f (tbs s) k0 = -1 from HBD.out (i + 1) (by rw [HCS.out.1, hgp, h40]; simp))
                clear HCS hgp h40
                go_wp2_with fail
                go_quiet (fail)
                go_wp2
                go_ret
                exact ⟨by rw [HNO.out]; rfl, below_drewn hb _⟩
            · have hps1 : (s.size : Int) ≤ (p : Int) := by omega
              have HNO := Lib.hid (show ckV Q f (tbs s) k0 = -1 from HBD.out (i + 1) (by rw [HCS.out.1, hbl, decide_eq_false hps]; simp))
              clear HCS
              go_wp2_with fail
              go_quiet (fail)
              go_wp2
              go_ret
              exact ⟨by rw [HNO.out]; rfl, below_drewn hb _⟩
          · obtain ⟨mf, hmf2⟩ : ∃ mf, m &&& f = mf := ⟨_, rfl⟩
            have hnf : fitB f m = false := by rw [HFM.out, htb, decide_eq_false hsb]; rfl
            have HL5 := Lib.hid (show ckTo Q f (tbs s) k0 (i + 1) = true from by rw [(HCN.out hnf).1]; exact hok.out)
            have HP5 := Lib.hid (show k0 + (trTo Q Q (fitB f) f (i + 1)).length = p from by rw [(HCN.out hnf).2]; exact hpk.out)
            rw [hmf2] at hmf hsb
            have e3 : ((mf : Int) != (m : Int)) = true := by rw [bne_iff_ne]; omega
            clear HCY HCN HFM HFS hand htb hok hnf hpk hsb hmf2
            go_wp2_with fail
            go_quiet (fail)
            go_wp2
            go_roundw
            case rel => first
              | exact ⟨i + 1, p, by omega, by go_num, rfl, hp, HP5.out, HL5.out, below_drewn hb _⟩
              | (repeat apply Exists.intro
                 exact ⟨⟨i + 1, p, by omega, by go_num, rfl, hp, HP5.out, HL5.out, below_drewn hb _⟩, rfl⟩)
            case measure => first | (simp [intOf]; done) | (simp [intOf]; omega)
      · obtain rfl : i = n := by omega
        have HV := Lib.hid (show ckV Q f (tbs s) k0 = (p : Int) from by
          rw [HTA.out (by rw [hln]; exact hok.out), hln, hpk.out])
        clear hok hpk
        go_wp2
        go_ret
        exact ⟨by rw [HV.out]; rfl, hb⟩
theorem sCheckP (W : Int) (l : List Int) (ps : List (List Cl)) (s : ByteArray) (hs : s.size ≤ 100000) (V V1 V2 : World) (v : Value)
    (ho : V1.ownsRow V.heap.size 3 1 v (apR W l ps).length (iv (apR W l ps))) (hb : Below V1.heap.size V1 V2) :
    Calls Tryz.prog 76 #[v, .int .i64 (maskR W l : Nat), .string s, .int .i64 0] V2 fun e w' => e = .returned (.int .i64 (ckV (pQ W l ps) (maskR W l) (tbs s) 0)) ∧ Below V2.heap.size V2 w' := by
  obtain ⟨a, cap, rfl, h1, h2⟩ := own_intsQ ho
  exact sCheck _ cap a (pQ W l ps) s h1 hs (pQ_ok W l ps) (maskR W l) (maskR W l) (Nat.le_refl _) (maskR_lt W l) 0 (Nat.zero_le _) V1.heap.size V2 (h2.on hb) hb.size
end

section
open Go.RowKit

set_option maxHeartbeats 4000000 in
set_option maxRecDepth 100000 in
theorem sIsRef (B n cap m2 cap2 : Nat) (a a2 : Option Addr) (W : Int) (l : List Int) (ps : List (List Cl)) (s : ByteArray) (w : World) (hn : n ≤ 4194304) (hm : m2 ≤ 1048576) (hs : s.size ≤ 4194304) (hc : IntsAt B w a n l) (hd : PsAt B w a2 m2 ps) (hB : B ≤ w.heap.size) :
    Calls Tryz.prog 28 #[.agg #[.int .i64 W, .slice a n cap], .slice a2 m2 cap2, .string s] w fun e w' => e = .returned (.bool (isRef W l ps (tbs s))) ∧ Below w.heap.size w w' := by
  have H := Lib.hid hc
  have HD := Lib.hid hd
  clear hc hd
  have hb0 := (Below.refl w.heap.size w).alloc (Nat.le_refl _) (.cells #[.int .i64 W, .slice a n cap] 26)
  have hbox0 := RgAt.new (w := w) W (.slice a n cap) rfl
  have HB0 := Lib.hid hb0
  have HX0 := Lib.hid hbox0
  have hsz0 : (w.alloc (.cells #[.int .i64 W, .slice a n cap] 26)).heap.size = w.heap.size + 1 := by simp
  have HKI := Lib.hid (fun v9 (h9 : Below (w.heap.size + 1) (w.alloc (.cells #[.int .i64 W, .slice a n cap] 26)) v9) => sIsReg B n cap a W l v9 hn (H.out.on ((HB0.out.trans (h9.mono (by omega))).mono hB)) (by have := h9.size; omega))
  have HKA := Lib.hid (fun v9 (h9 : Below (w.heap.size + 1) (w.alloc (.cells #[.int .i64 W, .slice a n cap] 26)) v9) => sArePc B m2 cap2 a2 ps v9 (by omega) (HD.out.on ((HB0.out.trans (h9.mono (by omega))).mono hB)) (by have := h9.size; omega))
  have HKP := Lib.hid (fun v9 (h9 : Below (w.heap.size + 1) (w.alloc (.cells #[.int .i64 W, .slice a n cap] 26)) v9) => sAp B n cap m2 cap2 a a2 W l ps v9 hn hm (H.out.on ((HB0.out.trans (h9.mono (by omega))).mono hB)) (HD.out.on ((HB0.out.trans (h9.mono (by omega))).mono hB)) (by have := h9.size; omega))
  have HKM := Lib.hid (fun v9 (h9 : Below (w.heap.size + 1) (w.alloc (.cells #[.int .i64 W, .slice a n cap] 26)) v9) => sMask B n cap a W l v9 hn (H.out.on ((HB0.out.trans (h9.mono (by omega))).mono hB)) (by have := h9.size; omega))
  have c0 := HX0.out.c0
  have c1 := HX0.out.c1
  clear hb0 hbox0
  generalize hW1 : (w.alloc (.cells #[.int .i64 W, .slice a n cap] 26)) = W1 at *
  have HW1 := Lib.hid hW1
  clear hW1
  have hbl : (tbs s).length = s.size := tbs_len s
  cases h1 : isReg W l with
  | false =>
    have HO := Lib.hid (isRef_no (ps := ps) (show okT W l ps = false from by unfold okT; rw [h1]; rfl) (tbs s))
    rw [HO.out]
    have kI : ∀ d os, Calls Tryz.prog 58 #[.agg #[.int .i64 W, .slice a n cap]] (Go.Sort.grow (redrawn W1 d) os) fun e w9 => e = .returned (.bool false) ∧ Below (Go.Sort.grow (redrawn W1 d) os).heap.size (Go.Sort.grow (redrawn W1 d) os) w9 := fun d os =>
      (HKI.out _ ((below_regrown W1 d os).mono (by omega))).mono fun e w9 ⟨he, hb⟩ => ⟨by rw [he, h1], hb⟩
    have r0 := cell_regrown c0
    have r1 := cell_regrown c1
    clear c0 c1
    go_enter Tryz.func28, Tryz.ntmps28
    go_wp2_with fail
    rw [HW1.out]
    clear h1
    refine wp_region_quiet_below (by kernel_rfl) (by kernel_rfl) ?_
    repeat (first | (go_big_quiet_step (first | (go_at_call 58; with_reducible refine Calls.regrown_of (kI _ _)))) | (quiet_step (first | (go_at_call 58; with_reducible refine Calls.regrown_of (kI _ _)))))
    refine wpQuiet_nil ?_
    intro _ hw9
    obtain ⟨⟨nq, osq⟩, hw8⟩ := hw9
    subst hw8
    have hbz := HB0.out.trans ((below_regrown W1 nq osq).mono (by omega))
    generalize (Go.Sort.grow (redrawn W1 nq) osq) = w3 at *
    clear r0 r1 kI
    go_wp2
    go_ret
    exact ⟨rfl, hbz⟩
  | true =>
    have kI : ∀ d os, Calls Tryz.prog 58 #[.agg #[.int .i64 W, .slice a n cap]] (Go.Sort.grow (redrawn W1 d) os) fun e w9 => e = .returned (.bool true) ∧ Below (Go.Sort.grow (redrawn W1 d) os).heap.size (Go.Sort.grow (redrawn W1 d) os) w9 := fun d os =>
      (HKI.out _ ((below_regrown W1 d os).mono (by omega))).mono fun e w9 ⟨he, hb⟩ => ⟨by rw [he, h1], hb⟩
    cases h2 : arePc ps with
    | false =>
      have HO := Lib.hid (isRef_no (W := W) (l := l) (show okT W l ps = false from by unfold okT; rw [h1, h2]; rfl) (tbs s))
      rw [HO.out]
      have kA : ∀ d os, Calls Tryz.prog 59 #[.slice a2 m2 cap2] (Go.Sort.grow (redrawn W1 d) os) fun e w9 => e = .returned (.bool false) ∧ Below (Go.Sort.grow (redrawn W1 d) os).heap.size (Go.Sort.grow (redrawn W1 d) os) w9 := fun d os =>
        (HKA.out _ ((below_regrown W1 d os).mono (by omega))).mono fun e w9 ⟨he, hb⟩ => ⟨by rw [he, h2], hb⟩
      have r0 := cell_regrown c0
      have r1 := cell_regrown c1
      clear c0 c1
      go_enter Tryz.func28, Tryz.ntmps28
      go_wp2_with fail
      rw [HW1.out]
      clear h1 h2
      refine wp_region_quiet_below (by kernel_rfl) (by kernel_rfl) ?_
      repeat (first | (go_big_quiet_step (first | (go_at_call 58; with_reducible refine Calls.regrown_of (kI _ _)) | (go_at_call 59; with_reducible refine Calls.regrown_of (kA _ _)))) | (quiet_step (first | (go_at_call 58; with_reducible refine Calls.regrown_of (kI _ _)) | (go_at_call 59; with_reducible refine Calls.regrown_of (kA _ _)))))
      refine wpQuiet_nil ?_
      intro _ hw9
      obtain ⟨⟨nq, osq⟩, hw8⟩ := hw9
      subst hw8
      have hbz := HB0.out.trans ((below_regrown W1 nq osq).mono (by omega))
      generalize (Go.Sort.grow (redrawn W1 nq) osq) = w3 at *
      clear r0 r1 kI kA
      go_wp2
      go_ret
      exact ⟨rfl, hbz⟩
    | true =>
      have kA : ∀ d os, Calls Tryz.prog 59 #[.slice a2 m2 cap2] (Go.Sort.grow (redrawn W1 d) os) fun e w9 => e = .returned (.bool true) ∧ Below (Go.Sort.grow (redrawn W1 d) os).heap.size (Go.Sort.grow (redrawn W1 d) os) w9 := fun d os =>
        (HKA.out _ ((below_regrown W1 d os).mono (by omega))).mono fun e w9 ⟨he, hb⟩ => ⟨by rw [he, h2], hb⟩
      by_cases hl : (s.size : Int) ≤ 2000
      · have HO := Lib.hid (chk_ref (show okT W l ps = true from by unfold okT; rw [h1, h2]; rfl) (show (tbs s).length ≤ 2000 by omega))
        have HKI2 := Lib.hid (fun v9 h9 => (show Calls Tryz.prog 58 #[.agg #[.int .i64 W, .slice a n cap]] v9 fun e w9 => e = .returned (.bool true) ∧ Below v9.heap.size v9 w9 from (HKI.out v9 h9).mono fun e w9 ⟨he, hb⟩ => ⟨by rw [he, h1], hb⟩))
        have HKA2 := Lib.hid (fun v9 h9 => (show Calls Tryz.prog 59 #[.slice a2 m2 cap2] v9 fun e w9 => e = .returned (.bool true) ∧ Below v9.heap.size v9 w9 from (HKA.out v9 h9).mono fun e w9 ⟨he, hb⟩ => ⟨by rw [he, h2], hb⟩))
        have HS := Lib.hid (fun v9 (h9 : Below (w.heap.size + 1) W1 v9) => (show v9.cell? ⟨w.heap.size, 0, none⟩ = some (.int .i64 W) ∧ v9.cell? ⟨w.heap.size, 1, none⟩ = some (.slice a n cap) from by have h8 := HX0.out.on h9 (by omega); exact ⟨h8.c0, h8.c1⟩))
        have HQN := Lib.hid (fun (V V1 V2 : World) (v : Value) ho hb => sCheckP W l ps s (by omega) V V1 V2 v ho hb)
        obtain ⟨z, hz⟩ : ∃ z, ckV (pQ W l ps) (maskR W l) (tbs s) 0 = z := ⟨_, rfl⟩
        rw [hz] at HQN HO
        clear hz h1 h2 kI kA HKI HKA
        go_enter Tryz.func28, Tryz.ntmps28
        go_wp2_with fail
        rw [HW1.out]
        have k0 : Below (w.heap.size + 1) W1 W1.drew := (Below.refl _ W1).drew
        go_region_held3 (fun w' => w'.cell? ⟨w.heap.size, 0, none⟩ = some (.int .i64 W) ∧ w'.cell? ⟨w.heap.size, 1, none⟩ = some (.slice a n cap))
          (first | exact HS.out _ k0 | exact HS.out _ k1 | exact HS.out _ k2 | exact HS.out _ k3 | exact HS.out _ k4 | exact HS.out _ k5)
          (first
            | (go_at_call 58
               refine (HKI2.out _ k0).mono ?_
               rintro e v1 ⟨rfl, hb1⟩
               have k1 : Below (w.heap.size + 1) W1 v1 := Below.trans k0 (hb1.mono (by have := Below.size k0; omega)))
            | (go_at_call 59
               refine (HKA2.out _ k1).mono ?_
               rintro e v2 ⟨rfl, hb2⟩
               have k2 : Below (w.heap.size + 1) W1 v2 := Below.trans k1 (hb2.mono (by have := Below.size k1; omega)))
            | (go_at_call 62
               refine (HKP.out _ k2).mono ?_
               rintro e v3 ⟨av, rfl, ho3, hb3⟩
               have k3 : Below (w.heap.size + 1) W1 v3 := Below.trans k2 (hb3.mono (by have := Below.size k2; omega)))
            | (go_at_call 63
               refine (HKM.out _ k3).mono ?_
               rintro e v4 ⟨rfl, hb4⟩
               have k4 : Below (w.heap.size + 1) W1 v4 := Below.trans k3 (hb4.mono (by have := Below.size k3; omega)))
            | (go_at_call 76
               refine (HQN.out v2 v3 v4 av ho3 hb4).mono ?_
               rintro e v5 ⟨rfl, hb5⟩
               have k5 : Below (w.heap.size + 1) W1 v5 := Below.trans k4 (hb5.mono (by have := Below.size k4; omega))))
        have HB9 := Lib.hid (HB0.out.trans (k5.mono (by omega)))
        clear k0 k1 k2 k3 k4 k5 c0 c1 ho3 hb1 hb2 hb3 hb4 hb5
        (try simp only [Exit.then])
        go_wp2
        go_ret
        exact ⟨by rw [HO.out, hbl]; rfl, HB9.out⟩
      · have hlb : decide ((s.size : Int) ≤ 2000) = false := decide_eq_false hl
        have HO := Lib.hid (isRef_long (W := W) (l := l) (ps := ps) (s := tbs s) (by omega))
        rw [HO.out]
        have r0 := cell_regrown c0
        have r1 := cell_regrown c1
        clear c0 c1
        go_enter Tryz.func28, Tryz.ntmps28
        go_wp2_with fail
        rw [HW1.out]
        clear h1 h2
        refine wp_region_quiet_below (by kernel_rfl) (by kernel_rfl) ?_
        repeat (first | (go_big_quiet_step (first | (go_at_call 58; with_reducible refine Calls.regrown_of (kI _ _)) | (go_at_call 59; with_reducible refine Calls.regrown_of (kA _ _)))) | (quiet_step (first | (go_at_call 58; with_reducible refine Calls.regrown_of (kI _ _)) | (go_at_call 59; with_reducible refine Calls.regrown_of (kA _ _)))))
        refine wpQuiet_nil ?_
        intro _ hw9
        obtain ⟨⟨nq, osq⟩, hw8⟩ := hw9
        subst hw8
        have hbz := HB0.out.trans ((below_regrown W1 nq osq).mono (by omega))
        generalize (Go.Sort.grow (redrawn W1 nq) osq) = w3 at *
        clear r0 r1 kI kA
        go_wp2
        go_ret
        exact ⟨rfl, hbz⟩
end

section
open Go.RowKit Go.Shelf

theorem iCopyCheck (B b : Nat) (bs : List Value) (w : World) (h : Lib.IsBuilderF 79 5 B b bs w) :
    Calls Tryz.prog 104 #[.pointer (some ⟨b, 0, none⟩)] w fun e w' => e = .returned (.tuple #[]) ∧ (Lib.BuilderAtF 79 5 B b (.pointer (some ⟨b, 0, none⟩)) bs w' ∧ Below B w w' ∧ Lib.OthersKept 5 (some b) w w') :=
  Any.Builder_copyCheck_k (P := Tryz.prog) (ρ := ren167) { lays167 with } extra167.toX72 B b bs w h
set_option maxHeartbeats 2000000 in
set_option maxRecDepth 100000 in
theorem dWriteByte (B b : Nat) (bs : List Value) (c : Int) (u : FrameMode) (w : World) (h : Lib.IsBuilderF 79 5 B b bs w) (hlen : bs.length + 1 ≤ 140737488355328) (hBw : B ≤ w.heap.size) :
    CallsD Tryz.prog 71 #[.pointer (some ⟨b, 0, none⟩), .int .u8 c] u w fun e u' w' => u' = u ∧ (e = .returned .nilIface ∧ (Lib.BuilderAtF 79 5 B b (.pointer (some ⟨b, 0, none⟩)) (bs ++ [.int .u8 c]) w' ∧ Below B w w' ∧ Lib.OthersKept 5 (some b) w w')) := by
  obtain ⟨i0, hi, hz0, hz1, hz2⟩ := info_parts extra167.infoByte
  go_enter_d Tryz.func71, Tryz.ntmps71
  go_wp2_with (go_at_call 104; refine (iCopyCheck B b bs _ h).mono ?_)
  rintro e w1 ⟨rfl, h1, hb1, hk1⟩
  obtain ⟨hB, v, hbk, hown, hne⟩ := h1
  have c0 : w1.cell? ⟨b, 0, none⟩ = some (.pointer (some ⟨b, 0, none⟩)) := by rw [Lib.cell_of_heap hbk]; rfl
  have c1 : w1.cell? ⟨b, 1, none⟩ = some v := by rw [Lib.cell_of_heap hbk]; rfl
  go_wp2_with (first | (at_builtin; refine wpList_append_ownF _ rfl _ _ 22 rfl B 5 i0 (.int .u8 0) 1 1 Tryz.underlying22 hi hz0 hz1 hz2 rfl (by decide) _ _ _ rfl (hown.alloc _) ⟨w1.heap.size, 0, none⟩ 1 1 [.int .u8 c] rfl rfl ?c1 ?c2 ?c3 ?c4 ?c5 ?_) | go_in)
  case c1 =>
    intro j u hj
    match j, hj with
    | 0, hj => simp at hj; subst hj; simp [Addr.add]
  case c2 => intro u hu; simp at hu; subst hu; rfl
  case c3 => unfold maxLen; omega
  case c4 => omega
  case c5 => have := hb1.size; simp; omega
  intro v' w2 hown' hgrow _
  have hlt : b < w1.heap.size := by
    rcases Nat.lt_or_ge b w1.heap.size with h' | h'
    · exact h'
    · simp [Array.getElem?_eq_none h'] at hbk
  have hb2 : w2.heap[b]? = some (.cells #[.pointer (some ⟨b, 0, none⟩), v] 79 (0, 0)) := by
    rw [hgrow.block b (by simp; omega) (fun e => hne e.symm), Lib.alloc_old w1 _ b hlt]
    exact hbk
  have d0 : w2.cell? ⟨b, 0, none⟩ = some (.pointer (some ⟨b, 0, none⟩)) := by rw [Lib.cell_of_heap hb2]; rfl
  have d1 : w2.cell? ⟨b, 1, none⟩ = some v := by rw [Lib.cell_of_heap hb2]; rfl
  have f1 : w2.frozen? ⟨b, 1, none⟩ = false := Lib.frozen_of_heap hb2 1
  obtain ⟨g, cap, rfl⟩ : ∃ g cap, v' = .slice (some ⟨g, 0, none⟩) (bs.length + 1) cap := by
    rcases hown'.2 with ⟨_, h0⟩ | ⟨g, cap, cur, fz, hv, _⟩
    · omega
    · exact ⟨g, cap, hv⟩
  go_wp2
  go_ret
  refine ⟨rfl, ?_, ?_, ((hk1.alloc _).grown hgrow (Lib.ownsRowF_kind (hown.alloc _))).setCell ⟨b, 1, none⟩ rfl _⟩
  · exact Lib.BuilderAtF.put (T := 79) (e := 5) hB hb2 (bs' := bs ++ [.int .u8 c]) (by simpa using hown') extra167.neB5
  · exact ((hb1.alloc (by have := hb1.size; omega) _).grown hgrow (by have := hb1.size; simp; omega) (fun k hk => (hown.lt k hk).1)).setCell (p := ⟨b, 1, none⟩) hB _
theorem dWrite (B b : Nat) (t : List UInt8) (c : UInt8) (z : Int) (hz : z = (c.toNat : Int)) (u : FrameMode) (w : World) (h : Bl B b t w) (hl : t.length ≤ 100000) (hB : B ≤ w.heap.size) :
    CallsD Tryz.prog 71 #[.pointer (some ⟨b, 0, none⟩), .int .u8 z] u w fun e u' w' => u' = u ∧ e = .returned .nilIface ∧ Bl B b (t ++ [c]) w' ∧ Below B w w' ∧ Lib.OthersKept 5 (some b) w w' := by
  subst hz
  exact (dWriteByte B b (Lib.byteCells t) (c.toNat : Int) u w h (by rw [Lib.byteCells_length]; omega) hB).mono fun _ _ _ ⟨hu, he, h1, h2, h3⟩ => ⟨hu, he, Bl.of (u := [c]) h1, h2, h3⟩
theorem bStr2 (B b : Nat) (t : List UInt8) (w : World) (h : Bl B b t w) (hB : B ≤ w.heap.size) :
    Calls Tryz.prog 74 #[.pointer (some ⟨b, 0, none⟩)] w fun e w' => e = .returned (S t) ∧ Below B w w' ∧ Lib.OthersKept 5 (some b) w w' :=
  (Tryz.Builder_String_any_k B b t w h hB).mono fun _ _ ⟨he, _, h2, h3⟩ => ⟨he, h2, h3⟩

/-- What the search keeps: the masks by least places, the limit, the text, how many are tried, whether a tiling is reached, and the two closures. -/
structure TrS (B p lb tb tr ir sf tf : Nat) (rows : Nat → Value) (Q : List Nat) (L : Nat) (w : World) (t : Nat) (bz : Bool) (text : List UInt8) : Prop where
  gp : GpAt w p rows
  grp : GrpAt B w p rows Q
  tz : Tz w
  lim : w.heap[lb]? = some (.cells #[.int .i64 (L : Int)] 3 (0, 0))
  bl : Bl tb tb text w
  tri : w.heap[tr]? = some (.cells #[.int .i64 (t : Int)] 3 (0, 0))
  iri : w.heap[ir]? = some (.cells #[.bool bz] 4 (0, 0))
  sfi : w.heap[sf]? = some (.cells #[.func (.func 109) #[] #[.pointer (some ⟨ir, 0, none⟩), .pointer (some ⟨p, 0, none⟩), .pointer (some ⟨tr, 0, none⟩), .pointer (some ⟨lb, 0, none⟩), .pointer (some ⟨tf, 0, none⟩)]] 125 (0, 0))
  tfi : w.heap[tf]? = some (.cells #[.func (.func 108) #[] #[.pointer (some ⟨tr, 0, none⟩), .pointer (some ⟨tb, 0, none⟩), .pointer (some ⟨sf, 0, none⟩)]] 125 (0, 0))
  plt : p < tb
  llt : lb < tb
  glt : gDB < tb
  rlt : ∀ k, k < 64 → ∀ b, (rows k).ownBlock = some b → b < tb
  trl : tb < tr
  irl : tb < ir
  sfl : tb < sf
  tfl : tb < tf
theorem lt_of_heap {w : World} {g : Nat} {o : Obj} (h : w.heap[g]? = some o) : g < w.heap.size := (Array.getElem?_eq_some_iff.1 h).1
theorem bl_lt {B b : Nat} {t : List UInt8} {w : World} (h : Bl B b t w) : b < w.heap.size := by
  rcases h with h | h
  · exact h.lt
  · exact h.lt
section
variable {B p lb tb tr ir sf tf L t t' : Nat} {rows : Nat → Value} {Q : List Nat} {w w' : World} {bz : Bool} {text : List UInt8}
/-- Nothing that was there has turned. -/
theorem TrS.on (h : TrS B p lb tb tr ir sf tf rows Q L w t bz text) (hb : Below w.heap.size w w') : TrS B p lb tb tr ir sf tf rows Q L w' t bz text :=
  ⟨h.gp.on hb h.gp.lt, h.grp.by (grow_below hb none) (fun _ _ _ _ e => by cases e), h.tz.on hb h.tz.2, (hb.block lb (lt_of_heap h.lim)).trans h.lim, Bl.on h.bl hb rfl,
    (hb.block tr (lt_of_heap h.tri)).trans h.tri, (hb.block ir (lt_of_heap h.iri)).trans h.iri, (hb.block sf (lt_of_heap h.sfi)).trans h.sfi, (hb.block tf (lt_of_heap h.tfi)).trans h.tfi,
    h.plt, h.llt, h.glt, h.rlt, h.trl, h.irl, h.sfl, h.tfl⟩
theorem bl_other {B b c : Nat} {t : List UInt8} {w w' : World} (h : Bl B b t w) (hg : w.grownBy w' (some c)) (hbc : b ≠ c) (hk : ∀ cs fz, w.heap[c]? ≠ some (.cells cs 5 fz)) : Bl B b t w' := by
  have key : ∀ p, Lib.BuilderAtF 79 5 B b p (Lib.byteCells t) w → Lib.BuilderAtF 79 5 B b p (Lib.byteCells t) w' := by
    intro p h1
    have hl := h1.lt
    obtain ⟨k1, v, k2, k3, k4⟩ := h1
    refine ⟨k1, v, (hg.block b hl (fun e => hbc (Option.some.inj e))).trans k2, ⟨k3.1, ?_⟩, k4⟩
    rcases k3.2 with e | ⟨g, cap, cur, fz, e1, e2, e3, e4⟩
    · exact .inl e
    · exact .inr ⟨g, cap, cur, fz, e1, e2, (hg.block g (Array.getElem?_eq_some_iff.1 e3).1 (fun e => hk cur fz (by rw [← Option.some.inj e]; exact e3))).trans e3, e4⟩
  exact h.imp (key _) (key _)
theorem grp_other {B c : Nat} {w w' : World} {g : Nat} {rows : Nat → Value} {Q : List Nat} (h : GrpAt B w g rows Q) (hg : w.grownBy w' (some c)) (hk : ∀ k, k < 64 → ∀ b, (rows k).ownBlock = some b → b ≠ c) : GrpAt B w' g rows Q :=
  h.by hg fun k hk2 b hb e => hk k hk2 b hb (Option.some.inj e).symm
theorem tz_other {c : Nat} {w w' : World} (h : Tz w) (hg : w.grownBy w' (some c)) (hne : gDB ≠ c) : Tz w' :=
  ⟨fun j hj => by rw [World.cell?_of_block (a := ⟨gDB, j, none⟩) (hg.block gDB h.2 (fun e => hne (Option.some.inj e)))]; exact h.1 j hj, Nat.lt_of_lt_of_le h.2 hg.size⟩
theorem TrS.ne_ir (h : TrS B p lb tb tr ir sf tf rows Q L w t bz text) : tr ≠ ir := by
  rintro rfl
  have h1 := h.tri
  rw [h.iri] at h1
  injection h1 with h1
  injection h1 with _ h2
  exact absurd h2 (by decide)
theorem TrS.ne_sf (h : TrS B p lb tb tr ir sf tf rows Q L w t bz text) : tr ≠ sf ∧ tr ≠ tf ∧ ir ≠ sf ∧ ir ≠ tf := by
  refine ⟨?_, ?_, ?_, ?_⟩
  · rintro rfl
    have h1 := h.tri
    rw [h.sfi] at h1
    injection h1 with h1
    injection h1 with _ h2
    exact absurd h2 (by decide)
  · rintro rfl
    have h1 := h.tri
    rw [h.tfi] at h1
    injection h1 with h1
    injection h1 with _ h2
    exact absurd h2 (by decide)
  · rintro rfl
    have h1 := h.iri
    rw [h.sfi] at h1
    injection h1 with h1
    injection h1 with _ h2
    exact absurd h2 (by decide)
  · rintro rfl
    have h1 := h.iri
    rw [h.tfi] at h1
    injection h1 with h1
    injection h1 with _ h2
    exact absurd h2 (by decide)
/-- One more is tried. -/
theorem TrS.more (h : TrS B p lb tb tr ir sf tf rows Q L w t bz text) (t' : Nat) : TrS B p lb tb tr ir sf tf rows Q L (w.setCell ⟨tr, 0, none⟩ (.int .i64 (t' : Int))) t' bz text := by
  have hg := grown_set1 w tr 0 (.int .i64 (t' : Int))
  have n1 := h.ne_ir
  obtain ⟨n2, n3, _, _⟩ := h.ne_sf
  have k1 := h.plt
  have k2 := h.llt
  have k3 := h.glt
  have k4 := h.trl
  refine ⟨h.gp.by hg (fun e => by have := Option.some.inj e; omega), grp_other h.grp hg (fun k hk b hb => by have := h.rlt k hk b hb; omega), tz_other h.tz hg (by omega), ?_,
    bl_other h.bl hg (by omega) (fun cs fz e => by rw [h.tri] at e; injection e with e; injection e with _ e2; exact absurd e2 (by decide)), ?_, ?_, ?_, ?_, h.plt, h.llt, h.glt, h.rlt, h.trl, h.irl, h.sfl, h.tfl⟩
  · exact (hg.block lb (lt_of_heap h.lim) (fun e => by have := Option.some.inj e; omega)).trans h.lim
  · rw [heap_setCell_same w tr 0 _ _ _ h.tri]; rfl
  · exact (hg.block ir (lt_of_heap h.iri) (fun e => n1 (Option.some.inj e).symm)).trans h.iri
  · exact (hg.block sf (lt_of_heap h.sfi) (fun e => n2 (Option.some.inj e).symm)).trans h.sfi
  · exact (hg.block tf (lt_of_heap h.tfi) (fun e => n3 (Option.some.inj e).symm)).trans h.tfi
/-- A tiling is reached. -/
theorem TrS.hit (h : TrS B p lb tb tr ir sf tf rows Q L w t bz text) : TrS B p lb tb tr ir sf tf rows Q L (w.setCell ⟨ir, 0, none⟩ (.bool true)) t true text := by
  have hg := grown_set1 w ir 0 (.bool true)
  have n1 := h.ne_ir
  obtain ⟨_, _, n2, n3⟩ := h.ne_sf
  have k1 := h.plt
  have k2 := h.llt
  have k3 := h.glt
  have k4 := h.irl
  refine ⟨h.gp.by hg (fun e => by have := Option.some.inj e; omega), grp_other h.grp hg (fun k hk b hb => by have := h.rlt k hk b hb; omega), tz_other h.tz hg (by omega), ?_,
    bl_other h.bl hg (by omega) (fun cs fz e => by rw [h.iri] at e; injection e with e; injection e with _ e2; exact absurd e2 (by decide)), ?_, ?_, ?_, ?_, h.plt, h.llt, h.glt, h.rlt, h.trl, h.irl, h.sfl, h.tfl⟩
  · exact (hg.block lb (lt_of_heap h.lim) (fun e => by have := Option.some.inj e; omega)).trans h.lim
  · exact (hg.block tr (lt_of_heap h.tri) (fun e => n1 (Option.some.inj e))).trans h.tri
  · rw [heap_setCell_same w ir 0 _ _ _ h.iri]; rfl
  · exact (hg.block sf (lt_of_heap h.sfi) (fun e => n2 (Option.some.inj e).symm)).trans h.sfi
  · exact (hg.block tf (lt_of_heap h.tfi) (fun e => n3 (Option.some.inj e).symm)).trans h.tfi
/-- A byte is written. -/
theorem TrS.put (h : TrS B p lb tb tr ir sf tf rows Q L w t bz text) {text' : List UInt8} (hbl : Bl tb tb text' w') (hb : Below tb w w') (hk : Lib.OthersKept 5 (some tb) w w') : TrS B p lb tb tr ir sf tf rows Q L w' t bz text' := by
  have ok : ∀ (g : Nat) (cs : Array Value) (ty : TypeId), w.heap[g]? = some (.cells cs ty (0, 0)) → ty ≠ 5 → tb ≠ g → w'.heap[g]? = some (.cells cs ty (0, 0)) :=
    fun g cs ty h1 h2 h3 => hk g _ h1 (fun e => h3 (Option.some.inj e).symm) (fun cs2 fz e => by injection e with _ e2; exact h2 e2)
  refine ⟨h.gp.on hb h.plt, ?_, h.tz.on hb h.glt, (hb.block lb h.llt).trans h.lim, hbl, ok _ _ _ h.tri (by decide) (by have := h.trl; omega), ok _ _ _ h.iri (by decide) (by have := h.irl; omega), ok _ _ _ h.sfi (by decide) (by have := h.sfl; omega), ok _ _ _ h.tfi (by decide) (by have := h.tfl; omega), h.plt, h.llt, h.glt, h.rlt, h.trl, h.irl, h.sfl, h.tfl⟩
  refine ⟨fun k hk2 => ?_, h.grp.off, h.grp.apart⟩
  have h1 := h.grp.each k hk2
  refine ⟨h1.1, ?_⟩
  rcases h1.2 with e | ⟨g, cap, cur, e1, e2, e3, e4⟩
  · exact .inl e
  · exact .inr ⟨g, cap, cur, e1, e2, (hb.block g (h.rlt k hk2 g (by rw [e1]; rfl))).trans e3, e4⟩
end
end

section
open Go.RowKit Go.Shelf

/-- What a call of the search does to what it keeps. -/
def SrP (B p lb tb tr ir sf tf : Nat) (rows : Nat → Value) (Q : List Nat) (L f t : Nat) (bz : Bool) (text : List UInt8) (w : World) (e : Ending) (w' : World) : Prop :=
  e = .returned (.tuple #[]) ∧ (∃ s t' b', TrOk Q L f t s t' b' ∧ TrS B p lb tb tr ir sf tf rows Q L w' t' (bz || b') (text ++ s)) ∧ Below tb w w'

set_option maxHeartbeats 4000000 in
set_option maxRecDepth 100000 in
theorem iTry (B p lb tb tr ir sf tf : Nat) (rows : Nat → Value) (Q : List Nat) (L f t : Nat) (bz : Bool) (text : List UInt8) (w : World) (hL : L ≤ 5000) (ht : t < L) (hl : text.length ≤ 2 * t)
    (h : TrS B p lb tb tr ir sf tf rows Q L w t bz text)
    (hS : ∀ (text' : List UInt8) (v : World), text'.length ≤ 2 * (t + 1) → TrS B p lb tb tr ir sf tf rows Q L v (t + 1) bz text' →
      Calls Tryz.prog 109 #[.int .i64 f, .pointer (some ⟨ir, 0, none⟩), .pointer (some ⟨p, 0, none⟩), .pointer (some ⟨tr, 0, none⟩), .pointer (some ⟨lb, 0, none⟩), .pointer (some ⟨tf, 0, none⟩)] v (SrP B p lb tb tr ir sf tf rows Q L f (t + 1) bz text' v)) :
    Calls Tryz.prog 108 #[.int .i64 f, .pointer (some ⟨tr, 0, none⟩), .pointer (some ⟨tb, 0, none⟩), .pointer (some ⟨sf, 0, none⟩)] w fun e w' =>
      e = .returned (.tuple #[]) ∧ (∃ s t' b', TrOk Q L f (t + 1) s t' b' ∧ TrS B p lb tb tr ir sf tf rows Q L w' t' (bz || b') (text ++ 40 :: (s ++ [41]))) ∧ Below tb w w' := by
  have HS := Lib.hid hS
  have H := Lib.hid h
  have eg : ∀ args w, (callFunc 109 args).run Tryz.prog w = .ok (.enter 109 args) w := enters_of Tryz.func109 (by kernel_rfl) rfl
  have c0 : w.cell? ⟨tr, 0, none⟩ = some (.int .i64 (t : Int)) := cell_of_row w tr 0 _ _ _ h.tri
  have f0 : w.frozen? ⟨tr, 0, none⟩ = false := frozen_of_row w tr 0 _ _ h.tri
  obtain ⟨t1, ht1⟩ : ∃ t1, t + 1 = t1 := ⟨_, rfl⟩
  have hti : (t : Int) + 1 = (t1 : Int) := by omega
  have H1 := Lib.hid (h.more t1)
  have HB1 := Lib.hid (show Below tb w (w.setCell ⟨tr, 0, none⟩ (.int .i64 (t1 : Int))) from (Below.refl tb w).setCell (p := ⟨tr, 0, none⟩) (Nat.le_of_lt h.trl) _)
  rw [ht1] at HS ⊢
  clear h hS
  go_enter_defers Tryz.func108, Tryz.ntmps108
  go_wp2_with fail
  generalize (w.setCell ⟨tr, 0, none⟩ (.int .i64 (t1 : Int))) = w1 at *
  clear c0 f0
  refine (bWrite tb tb text 40 40 rfl w1 H1.out.bl (by omega) (Nat.le_of_lt (bl_lt H1.out.bl))).mono ?_
  rintro e w2 ⟨⟨r2, rfl⟩, hbl2, hb2, hk2⟩
  have H2 := Lib.hid (H1.out.put hbl2 hb2 hk2)
  have HB2 := Lib.hid (HB1.out.trans hb2)
  have c2 : w2.cell? ⟨sf, 0, none⟩ = some (.func (.func 109) #[] #[.pointer (some ⟨ir, 0, none⟩), .pointer (some ⟨p, 0, none⟩), .pointer (some ⟨tr, 0, none⟩), .pointer (some ⟨lb, 0, none⟩), .pointer (some ⟨tf, 0, none⟩)]) := cell_of_row w2 sf 0 _ _ _ H2.out.sfi
  clear hbl2 hb2 hk2 H1 HB1
  go_wp2_with fail
  refine (HS.out (text ++ [40]) w2 (by rw [List.length_append]; simp only [List.length_cons, List.length_nil]; omega) H2.out).mono ?_
  rintro e w3 ⟨rfl, ⟨s, t', b', hok, h3⟩, hb3⟩
  have HOK := Lib.hid hok
  have H3 := Lib.hid h3
  have HB3 := Lib.hid (HB2.out.trans hb3)
  clear hok h3 hb3 c2 H2 HB2
  go_wp2
  refine leaves_cons (f := 71) (args := #[.pointer (some ⟨tb, 0, none⟩), .int .u8 41]) (by simp) (by simp [go_sem]) ?_
  have hlt : (text ++ [40] ++ s).length ≤ 100000 := by
    obtain ⟨k, hk, hk2⟩ := HOK.out.bal
    have h1 := hk.1
    have h2 := HOK.out.le
    simp only [List.length_append, List.length_cons, List.length_nil]
    omega
  refine (dWrite tb tb (text ++ [40] ++ s) 41 41 rfl .returning w3 H3.out.bl hlt (Nat.le_of_lt (bl_lt H3.out.bl))).mono ?_
  rintro e u' w4 ⟨rfl, rfl, hbl4, hb4, hk4⟩
  refine ⟨_, results_none rfl _ _ _, rfl, ⟨s, t', b', HOK.out, ?_⟩, HB3.out.trans hb4⟩
  have h4 := H3.out.put hbl4 hb4 hk4
  have e4 : text ++ 40 :: (s ++ [41]) = text ++ [40] ++ s ++ [41] := by simp
  rw [e4]
  exact h4

set_option maxHeartbeats 8000000 in
set_option maxRecDepth 100000 in
theorem iSearch (B p lb tb tr ir sf tf : Nat) (rows : Nat → Value) (Q : List Nat) (L : Nat) (hL : L ≤ 5000) (hQ : ∀ m ∈ Q, m ≠ 0 ∧ m < 68719476736) (hQl : Q.length ≤ 100000) :
    ∀ (F f : Nat), f ≤ F → f < 68719476736 → ∀ (t : Nat) (bz : Bool) (text : List UInt8) (w : World), t ≤ L → text.length ≤ 2 * t → TrS B p lb tb tr ir sf tf rows Q L w t bz text →
    Calls Tryz.prog 109 #[.int .i64 f, .pointer (some ⟨ir, 0, none⟩), .pointer (some ⟨p, 0, none⟩), .pointer (some ⟨tr, 0, none⟩), .pointer (some ⟨lb, 0, none⟩), .pointer (some ⟨tf, 0, none⟩)] w (SrP B p lb tb tr ir sf tf rows Q L f t bz text w) := by
  intro F
  have base : ∀ (t : Nat) (bz : Bool) (text : List UInt8) (w : World), t ≤ L → TrS B p lb tb tr ir sf tf rows Q L w t bz text →
      Calls Tryz.prog 109 #[.int .i64 0, .pointer (some ⟨ir, 0, none⟩), .pointer (some ⟨p, 0, none⟩), .pointer (some ⟨tr, 0, none⟩), .pointer (some ⟨lb, 0, none⟩), .pointer (some ⟨tf, 0, none⟩)] w (SrP B p lb tb tr ir sf tf rows Q L 0 t bz text w) := by
    intro t bz text w htL h
    have c0 : w.cell? ⟨ir, 0, none⟩ = some (.bool bz) := cell_of_row w ir 0 _ _ _ h.iri
    have f0 : w.frozen? ⟨ir, 0, none⟩ = false := frozen_of_row w ir 0 _ _ h.iri
    have H1 := Lib.hid (show TrS B p lb tb tr ir sf tf rows Q L (w.setCell ⟨ir, 0, none⟩ (.bool true)) t (bz || true) (text ++ []) from by rw [Bool.or_true, List.append_nil]; exact h.hit)
    have HB1 := Lib.hid (show Below tb w (w.setCell ⟨ir, 0, none⟩ (.bool true)) from (Below.refl tb w).setCell (p := ⟨ir, 0, none⟩) (Nat.le_of_lt h.irl) _)
    have HOK := Lib.hid (TrOk.zero Q htL)
    clear h hQ
    go_enter Tryz.func109, Tryz.ntmps109
    go_wp2
    exact bodyPost_ret (v := .tuple #[]) (by simp [results, Tryz.results109, go_sem]) rfl ⟨rfl, ⟨[], t, true, HOK.out, H1.out⟩, HB1.out⟩
  induction F with
  | zero =>
    intro f hf0 hf t bz text w htL hl h
    obtain rfl : f = 0 := by omega
    exact base t bz text w htL h
  | succ F ih =>
    intro f hfF hf t bz text w htL hl h
    by_cases h0 : f = 0
    · subst h0
      exact base t bz text w htL h
    clear base
    have hfz : ((f : Int) == 0) = false := by simp; omega
    have HIH := Lib.hid ih
    have HQ := Lib.hid hQ
    have H := Lib.hid h
    have eg : ∀ args w, (callFunc 108 args).run Tryz.prog w = .ok (.enter 108 args) w := enters_of Tryz.func108 (by kernel_rfl) rfl
    have hlow := lowB_lt h0 (show f < 2 ^ 64 by omega)
    have HDN := Lib.hid (fun s t' b' (g : TrTo Q (grpB Q (lowB f)) L f (grpB Q (lowB f)).length t s t' b') => g.done (fun m hm => (hQ m hm).1) h0 (show f < 2 ^ 64 by omega))
    have HC := Lib.hid (iCandsC p f _ w h0 hf h.tz (h.gp.row hlow))
    have HGF := Lib.hid (fun m (hm : m ∈ grpB Q (lowB f)) h => grp_fit (fun m hm => (hQ m hm).1) (f := f) (m := m) (by omega) hm h)
    obtain ⟨low, hlw⟩ : ∃ low, lowB f = low := ⟨_, rfl⟩
    rw [hlw] at hlow HDN HC HGF
    obtain ⟨C, hC⟩ : ∃ C, grpB Q low = C := ⟨_, rfl⟩
    have HCQ := Lib.hid (show ∀ m ∈ C, m ∈ Q ∧ m ≠ 0 ∧ m < 68719476736 from by rw [← hC]; intro m hm; have h9 := (List.mem_filter.1 hm).1; exact ⟨h9, HQ.out m h9⟩)
    have hCl : C.length ≤ 100000 := by rw [← hC]; exact Nat.le_trans (grpB_len Q low) hQl
    have HOW := Lib.hid (fun W t9 b9 x9 (h9 : TrS B p lb tb tr ir sf tf rows Q L W t9 b9 x9) => (show W.ownsRow B 3 1 (rows low) C.length (iv (ints C)) from by rw [← hC]; exact h9.grp.each low hlow))
    rw [hC] at HDN HGF
    obtain ⟨n, hn⟩ : ∃ n, C.length = n := ⟨_, rfl⟩
    have HNC := Lib.hid hn
    rw [hn] at hCl HOW HDN
    obtain ⟨a, cap, hv⟩ := own_sliceI (HOW.out w t bz text H.out)
    rw [hv] at HOW HC
    have HIN := Lib.hid (ints_bd fun m hm => (HCQ.out m hm).2.2)
    have HT0 := Lib.hid (TrTo.start Q C f htL)
    clear ih hQ h hlw hC hv hn
    go_enter Tryz.func109, Tryz.ntmps109
    go_wp2_with fail
    refine HC.out.mono ?_
    rintro e w1 ⟨rfl, hb1⟩
    have H1 := Lib.hid (show TrS B p lb tb tr ir sf tf rows Q L w1 t (bz || false) (text ++ []) from by rw [Bool.or_false, List.append_nil]; exact H.out.on hb1)
    have HB1 := Lib.hid (hb1.mono (Nat.le_of_lt (bl_lt H.out.bl)))
    clear hb1
    go_wp2
    go_loopw [14] (fun ix wr => ∃ (i : Nat) (s : List UInt8) (t' : Nat) (b' : Bool), i ≤ n ∧ ix = .int .i64 (i : Int) ∧ Hid (TrTo Q C L f i t s t' b') ∧ Hid (TrS B p lb tb tr ir sf tf rows Q L wr t' (bz || b') (text ++ s)) ∧ Below tb w wr) (fun ix _ => n - (intOf ix).toNat)
    case atStart => exact ⟨0, [], t, false, by omega, rfl, HT0.out, H1.out, HB1.out⟩
    case round =>
      clear H1 HB1
      obtain ⟨i, s, t', b', hi, rfl, hto, hst, hb⟩ := hrel
      by_cases hlt : i < n
      · have hi1 : (i : Int) < (n : Int) := by omega
        have hi0 : (0 : Int) ≤ (i : Int) := by omega
        obtain ⟨b9, o9, rfl, hb9, hc9⟩ := (IntsAt.of_own (HOW.out wr _ _ _ hst.out) HIN.out).2.2 (by omega)
        have p1 := hc9 i hlt
        rw [ints_get] at p1
        have hiC : i < C.length := by rw [HNC.out]; exact hlt
        have hm := HCQ.out (C.getD i 0) (getD_memN hiC)
        have HGM := Lib.hid (HGF.out (C.getD i 0) (getD_memN hiC))
        have HY := Lib.hid (fun h1 h2 s1 t1 b1 g => hto.out.yes hiC h1 h2 (s1 := s1) (t1 := t1) (b1 := b1) g)
        have HN := Lib.hid (fun h1 => hto.out.no hiC h1)
        obtain ⟨m, hmm⟩ : ∃ m, C.getD i 0 = m := ⟨_, rfl⟩
        rw [hmm] at p1 hm HGM HY HN
        clear hc9 hmm hiC
        have c3 : wr.cell? ⟨tr, 0, none⟩ = some (.int .i64 (t' : Int)) := cell_of_row wr tr 0 _ _ _ hst.out.tri
        have c4 : wr.cell? ⟨lb, 0, none⟩ = some (.int .i64 (L : Int)) := cell_of_row wr lb 0 _ _ _ hst.out.lim
        have c5 : wr.cell? ⟨tf, 0, none⟩ = some (.func (.func 108) #[] #[.pointer (some ⟨tr, 0, none⟩), .pointer (some ⟨tb, 0, none⟩), .pointer (some ⟨sf, 0, none⟩)]) := cell_of_row wr tf 0 _ _ _ hst.out.tfi
        have hlen : (text ++ s).length ≤ 2 * t' := by
          obtain ⟨k, hk, hk2⟩ := hto.out.bal
          have h1 := hk.1
          rw [List.length_append]
          omega
        by_cases htl : t' < L
        · have htl1 : (t' : Int) < (L : Int) := by omega
          cases hsb : subB f m with
          | true =>
            obtain ⟨k1, k2⟩ := andnot_sub hsb (show m < 9223372036854775808 by omega) (show f < 9223372036854775808 by omega)
            have hfs := fit_sub (HGM.out hsb)
            obtain ⟨fm, hfm⟩ : ∃ fm, f - m = fm := ⟨_, rfl⟩
            rw [hfm] at k2 hfs
            have HYY := Lib.hid (fun s1 t1 b1 (g : TrOk Q L fm (t' + 1) s1 t1 b1) => HY.out hsb htl s1 t1 b1 (by rw [hfm]; exact g))
            have HTR := Lib.hid (iTry B p lb tb tr ir sf tf rows Q L fm t' (bz || b') (text ++ s) wr hL htl hlen hst.out (fun text' v h1 h2 => HIH.out fm (by omega) (by omega) (t' + 1) (bz || b') text' v (by omega) h1 h2))
            clear HY HN HGM hsb hfm hto hst hlen
            go_wp2_with fail
            refine HTR.out.mono ?_
            rintro e w5 ⟨rfl, ⟨s1, t1, b1, hok, h5⟩, hb5⟩
            have HT5 := Lib.hid (HYY.out s1 t1 b1 hok)
            have H5 := Lib.hid (show TrS B p lb tb tr ir sf tf rows Q L w5 t1 (bz || (b' || b1)) (text ++ (s ++ 40 :: (s1 ++ [41]))) from by rw [← Bool.or_assoc, ← List.append_assoc]; exact h5)
            have HB5 := Lib.hid (hb.trans hb5)
            clear hok h5 hb5 HTR HYY c3 c4 c5 p1
            go_wp2
            go_roundw
            case rel => first
              | exact ⟨i + 1, _, t1, _, by omega, by go_num, HT5.out, H5.out, HB5.out⟩
              | (repeat apply Exists.intro
                 exact ⟨⟨i + 1, _, t1, _, by omega, by go_num, HT5.out, H5.out, HB5.out⟩, rfl⟩)
            case measure => simp [intOf]; omega
          | false =>
            have k1 := andnot_no hsb (show m < 9223372036854775808 by omega) (show f < 9223372036854775808 by omega)
            have k3 : (bits .andNot .i64 (m : Int) (f : Int) == 0) = false := by simpa using k1
            have HT5 := Lib.hid (HN.out (fun _ => hsb))
            clear HY HN HGM hsb k1 hto hlen
            go_wp2
            go_roundw
            case rel => first
              | exact ⟨i + 1, s, t', b', by omega, by go_num, HT5.out, hst, hb⟩
              | (repeat apply Exists.intro
                 exact ⟨⟨i + 1, s, t', b', by omega, by go_num, HT5.out, hst, hb⟩, rfl⟩)
            case measure => simp [intOf]; omega
        · have htl1 : ¬ (t' : Int) < (L : Int) := by omega
          have HT5 := Lib.hid (HN.out (fun h9 => absurd h9 htl))
          clear HY HN HGM hto hlen
          go_wp2
          go_roundw
          case rel => first
            | exact ⟨i + 1, s, t', b', by omega, by go_num, HT5.out, hst, hb⟩
            | (repeat apply Exists.intro
               exact ⟨⟨i + 1, s, t', b', by omega, by go_num, HT5.out, hst, hb⟩, rfl⟩)
          case measure => simp [intOf]; omega
      · obtain rfl : i = n := by omega
        have HOK := Lib.hid (HDN.out s t' b' hto.out)
        clear hto
        go_wp2
        go_end0
        exact ⟨rfl, ⟨s, t', b', HOK.out, hst.out⟩, hb⟩
end

section
open Go.RowKit Go.Shelf

theorem five_new (w4 : World) (o1 o2 o3 o4 o5 : Obj) :
    (((((w4.alloc o1).alloc o2).alloc o3).alloc o4).alloc o5).heap[w4.heap.size]? = some o1 ∧ (((((w4.alloc o1).alloc o2).alloc o3).alloc o4).alloc o5).heap[w4.heap.size + 1]? = some o2 ∧
    (((((w4.alloc o1).alloc o2).alloc o3).alloc o4).alloc o5).heap[w4.heap.size + 1 + 1]? = some o3 ∧ (((((w4.alloc o1).alloc o2).alloc o3).alloc o4).alloc o5).heap[w4.heap.size + 1 + 1 + 1]? = some o4 ∧
    (((((w4.alloc o1).alloc o2).alloc o3).alloc o4).alloc o5).heap[w4.heap.size + 1 + 1 + 1 + 1]? = some o5 ∧ Below w4.heap.size w4 (((((w4.alloc o1).alloc o2).alloc o3).alloc o4).alloc o5) := by
  have s1 : (w4.alloc o1).heap.size = w4.heap.size + 1 := by simp
  have s2 : ((w4.alloc o1).alloc o2).heap.size = w4.heap.size + 1 + 1 := by simp
  have s3 : (((w4.alloc o1).alloc o2).alloc o3).heap.size = w4.heap.size + 1 + 1 + 1 := by simp
  have s4 : ((((w4.alloc o1).alloc o2).alloc o3).alloc o4).heap.size = w4.heap.size + 1 + 1 + 1 + 1 := by simp
  have l1 := heap_alloc_last w4 o1
  have l2 := heap_alloc_last (w4.alloc o1) o2
  have l3 := heap_alloc_last ((w4.alloc o1).alloc o2) o3
  have l4 := heap_alloc_last (((w4.alloc o1).alloc o2).alloc o3) o4
  have l5 := heap_alloc_last ((((w4.alloc o1).alloc o2).alloc o3).alloc o4) o5
  rw [s1] at l2
  rw [s2] at l3
  rw [s3] at l4
  rw [s4] at l5
  refine ⟨?_, ?_, ?_, ?_, l5, ?_⟩
  · rw [Lib.alloc_old _ o5 _ (by omega), Lib.alloc_old _ o4 _ (by omega), Lib.alloc_old _ o3 _ (by omega), Lib.alloc_old _ o2 _ (by omega)]
    exact l1
  · rw [Lib.alloc_old _ o5 _ (by omega), Lib.alloc_old _ o4 _ (by omega), Lib.alloc_old _ o3 _ (by omega)]
    exact l2
  · rw [Lib.alloc_old _ o5 _ (by omega), Lib.alloc_old _ o4 _ (by omega)]
    exact l3
  · rw [Lib.alloc_old _ o5 _ (by omega)]
    exact l4
  · exact (((((Below.refl _ _).alloc (Nat.le_refl _) _).alloc (by omega) _).alloc (by omega) _).alloc (by omega) _).alloc (by omega) _
theorem st_try (w4 : World) : (store ⟨w4.heap.size + 1 + 1 + 1 + 1, 0, none⟩ (.func (.func 108) #[] #[.pointer (some ⟨w4.heap.size + 1, 0, none⟩), .pointer (some ⟨w4.heap.size, 0, none⟩), .pointer (some ⟨w4.heap.size + 1 + 1 + 1, 0, none⟩)])).run Tryz.prog (((((w4.alloc (.cells #[.pointer none, .slice none 0 0] 79)).alloc (.cells #[.int .i64 0] 3)).alloc (.cells #[.bool false] 4)).alloc (.cells #[.nilFunc] 125)).alloc (.cells #[.nilFunc] 125)) = .ok () (((((w4.alloc (.cells #[.pointer none, .slice none 0 0] 79)).alloc (.cells #[.int .i64 0] 3)).alloc (.cells #[.bool false] 4)).alloc (.cells #[.nilFunc] 125)).alloc (.cells #[(.func (.func 108) #[] #[.pointer (some ⟨w4.heap.size + 1, 0, none⟩), .pointer (some ⟨w4.heap.size, 0, none⟩), .pointer (some ⟨w4.heap.size + 1 + 1 + 1, 0, none⟩)])] 125)) := by
  obtain ⟨_, _, _, _, h5, _⟩ := five_new w4 (.cells #[.pointer none, .slice none 0 0] 79) (.cells #[.int .i64 0] 3) (.cells #[.bool false] 4) (.cells #[.nilFunc] 125) (.cells #[.nilFunc] 125)
  have k1 := cell_of_row _ _ 0 _ _ _ h5
  have k2 := frozen_of_row _ _ 0 _ _ h5
  rw [run_store _ _ _ _ _ rfl, k1]
  simp only [k2]
  show Result.ok () _ = Result.ok () _
  congr 1
  have s4 : ((((w4.alloc (.cells #[.pointer none, .slice none 0 0] 79)).alloc (.cells #[.int .i64 0] 3)).alloc (.cells #[.bool false] 4)).alloc (.cells #[.nilFunc] 125)).heap.size = w4.heap.size + 1 + 1 + 1 + 1 := by simp
  rw [← s4]
  rw [setCell_eq_setRow _ _ 0 #[.nilFunc] 125 (0, 0) _ (heap_alloc_last _ _), World.setRow_alloc_new]
  rfl
theorem st_search (w4 : World) (p lb : Nat) : (store ⟨w4.heap.size + 1 + 1 + 1, 0, none⟩ (.func (.func 109) #[] #[.pointer (some ⟨w4.heap.size + 1 + 1, 0, none⟩), .pointer (some ⟨p, 0, none⟩), .pointer (some ⟨w4.heap.size + 1, 0, none⟩), .pointer (some ⟨lb, 0, none⟩), .pointer (some ⟨w4.heap.size + 1 + 1 + 1 + 1, 0, none⟩)])).run Tryz.prog (((((w4.alloc (.cells #[.pointer none, .slice none 0 0] 79)).alloc (.cells #[.int .i64 0] 3)).alloc (.cells #[.bool false] 4)).alloc (.cells #[.nilFunc] 125)).alloc (.cells #[(.func (.func 108) #[] #[.pointer (some ⟨w4.heap.size + 1, 0, none⟩), .pointer (some ⟨w4.heap.size, 0, none⟩), .pointer (some ⟨w4.heap.size + 1 + 1 + 1, 0, none⟩)])] 125)) = .ok () ((((((w4.alloc (.cells #[.pointer none, .slice none 0 0] 79)).alloc (.cells #[.int .i64 0] 3)).alloc (.cells #[.bool false] 4)).alloc (.cells #[.nilFunc] 125)).alloc (.cells #[(.func (.func 108) #[] #[.pointer (some ⟨w4.heap.size + 1, 0, none⟩), .pointer (some ⟨w4.heap.size, 0, none⟩), .pointer (some ⟨w4.heap.size + 1 + 1 + 1, 0, none⟩)])] 125)).setCell ⟨w4.heap.size + 1 + 1 + 1, 0, none⟩ (.func (.func 109) #[] #[.pointer (some ⟨w4.heap.size + 1 + 1, 0, none⟩), .pointer (some ⟨p, 0, none⟩), .pointer (some ⟨w4.heap.size + 1, 0, none⟩), .pointer (some ⟨lb, 0, none⟩), .pointer (some ⟨w4.heap.size + 1 + 1 + 1 + 1, 0, none⟩)])) := by
  obtain ⟨_, _, _, h4, _, _⟩ := five_new w4 (.cells #[.pointer none, .slice none 0 0] 79) (.cells #[.int .i64 0] 3) (.cells #[.bool false] 4) (.cells #[.nilFunc] 125) (.cells #[(.func (.func 108) #[] #[.pointer (some ⟨w4.heap.size + 1, 0, none⟩), .pointer (some ⟨w4.heap.size, 0, none⟩), .pointer (some ⟨w4.heap.size + 1 + 1 + 1, 0, none⟩)])] 125)
  have k1 := cell_of_row _ _ 0 _ _ _ h4
  have k2 := frozen_of_row _ _ 0 _ _ h4
  rw [run_store _ _ _ _ _ rfl, k1]
  simp only [k2]
  rfl
theorem trs_new {B p lb L : Nat} {rows : Nat → Value} {Q : List Nat} (w4 : World) (hgp : GpAt w4 p rows) (hgrp : GrpAt B w4 p rows Q) (htz : Tz w4) (hlim : w4.heap[lb]? = some (.cells #[.int .i64 (L : Int)] 3 (0, 0))) :
    TrS B p lb (w4.heap.size) (w4.heap.size + 1) (w4.heap.size + 1 + 1) (w4.heap.size + 1 + 1 + 1) (w4.heap.size + 1 + 1 + 1 + 1) rows Q L (((((w4.alloc (.cells #[.pointer none, .slice none 0 0] 79)).alloc (.cells #[.int .i64 0] 3)).alloc (.cells #[.bool false] 4)).alloc (.cells #[(.func (.func 109) #[] #[.pointer (some ⟨w4.heap.size + 1 + 1, 0, none⟩), .pointer (some ⟨p, 0, none⟩), .pointer (some ⟨w4.heap.size + 1, 0, none⟩), .pointer (some ⟨lb, 0, none⟩), .pointer (some ⟨w4.heap.size + 1 + 1 + 1 + 1, 0, none⟩)])] 125)).alloc (.cells #[(.func (.func 108) #[] #[.pointer (some ⟨w4.heap.size + 1, 0, none⟩), .pointer (some ⟨w4.heap.size, 0, none⟩), .pointer (some ⟨w4.heap.size + 1 + 1 + 1, 0, none⟩)])] 125)) 0 false [] ∧ Below w4.heap.size w4 (((((w4.alloc (.cells #[.pointer none, .slice none 0 0] 79)).alloc (.cells #[.int .i64 0] 3)).alloc (.cells #[.bool false] 4)).alloc (.cells #[(.func (.func 109) #[] #[.pointer (some ⟨w4.heap.size + 1 + 1, 0, none⟩), .pointer (some ⟨p, 0, none⟩), .pointer (some ⟨w4.heap.size + 1, 0, none⟩), .pointer (some ⟨lb, 0, none⟩), .pointer (some ⟨w4.heap.size + 1 + 1 + 1 + 1, 0, none⟩)])] 125)).alloc (.cells #[(.func (.func 108) #[] #[.pointer (some ⟨w4.heap.size + 1, 0, none⟩), .pointer (some ⟨w4.heap.size, 0, none⟩), .pointer (some ⟨w4.heap.size + 1 + 1 + 1, 0, none⟩)])] 125)) := by
  obtain ⟨h1, h2, h3, h4, h5, hbz⟩ := five_new w4 (.cells #[.pointer none, .slice none 0 0] 79) (.cells #[.int .i64 0] 3) (.cells #[.bool false] 4) (.cells #[(.func (.func 109) #[] #[.pointer (some ⟨w4.heap.size + 1 + 1, 0, none⟩), .pointer (some ⟨p, 0, none⟩), .pointer (some ⟨w4.heap.size + 1, 0, none⟩), .pointer (some ⟨lb, 0, none⟩), .pointer (some ⟨w4.heap.size + 1 + 1 + 1 + 1, 0, none⟩)])] 125) (.cells #[(.func (.func 108) #[] #[.pointer (some ⟨w4.heap.size + 1, 0, none⟩), .pointer (some ⟨w4.heap.size, 0, none⟩), .pointer (some ⟨w4.heap.size + 1 + 1 + 1, 0, none⟩)])] 125)
  exact ⟨⟨hgp.on hbz hgp.lt, hgrp.by (grow_below hbz none) (fun _ _ _ _ e => by cases e), htz.on hbz htz.2, (hbz.block lb (lt_of_heap hlim)).trans hlim,
    .inl ⟨Nat.le_refl _, _, h1, ⟨rfl, .inl ⟨rfl, rfl⟩⟩, by intro e; cases e⟩, h2, h3, h4, h5,
    hgp.lt, lt_of_heap hlim, htz.2, fun k hk b hb9 => ((hgrp.each k hk).lt b hb9).2, by omega, by omega, by omega, by omega⟩, hbz⟩

set_option maxHeartbeats 4000000 in
set_option maxRecDepth 100000 in
theorem iTrace (B n cap m2 cap2 : Nat) (a a2 : Option Addr) (W : Int) (l : List Int) (ps : List (List Cl)) (L : Nat) (w : World) (hL : L ≤ 5000) (hn : n ≤ 4194304) (hm : m2 ≤ 1048576) (hc : IntsAt B w a n l) (hd : PsAt B w a2 m2 ps) (hB : B ≤ w.heap.size) (hT : Tz w) :
    Calls Tryz.prog 78 #[.agg #[.int .i64 W, .slice a n cap], .slice a2 m2 cap2, .int .i64 L] w fun e w' => (∃ s t' b, e = .returned (.tuple #[S s, .bool b]) ∧ TrOk (pQ W l ps) L (maskR W l) 0 s t' b) ∧ Below w.heap.size w w' := by
  have H := Lib.hid hc
  have HD := Lib.hid hd
  have HT := Lib.hid hT
  clear hc hd hT
  have eg : ∀ args w, (callFunc 109 args).run Tryz.prog w = .ok (.enter 109 args) w := enters_of Tryz.func109 (by kernel_rfl) rfl
  have hmf : ∀ (fn : Fn) (first cap : Array Value) (w : World), (Instr.makeFunc fn first cap).run Tryz.prog w = .ok (.func fn first cap) w := fun _ _ _ _ => rfl
  have hsz1 : ((w.alloc (.cells #[.int .i64 W, .slice a n cap] 26)).alloc (.cells #[.int .i64 (L : Int)] 3)).heap.size = w.heap.size + 2 := by simp
  have HB1 := Lib.hid (show Below w.heap.size w ((w.alloc (.cells #[.int .i64 W, .slice a n cap] 26)).alloc (.cells #[.int .i64 (L : Int)] 3)) from ((Below.refl _ _).alloc (Nat.le_refl _) _).alloc (by simp) _)
  have HX1 := Lib.hid ((RgAt.new (w := w) W (.slice a n cap) rfl).on (B := w.heap.size + 1) ((Below.refl _ (w.alloc (.cells #[.int .i64 W, .slice a n cap] 26))).alloc (by simp) (.cells #[.int .i64 (L : Int)] 3)) (by omega))
  have HL1 := Lib.hid (show ((w.alloc (.cells #[.int .i64 W, .slice a n cap] 26)).alloc (.cells #[.int .i64 (L : Int)] 3)).heap[w.heap.size + 1]? = some (.cells #[.int .i64 (L : Int)] 3 (0, 0)) from by
    have h9 := heap_alloc_last (w.alloc (.cells #[.int .i64 W, .slice a n cap] 26)) (.cells #[.int .i64 (L : Int)] 3)
    simpa using h9)
  have c0 := HX1.out.c0
  have c1 := HX1.out.c1
  go_enter Tryz.func78, Tryz.ntmps78
  go_wp2_with fail
  generalize ((w.alloc (.cells #[.int .i64 W, .slice a n cap] 26)).alloc (.cells #[.int .i64 (L : Int)] 3)) = w1 at *
  refine (iAp B n cap m2 cap2 a a2 W l ps w1 hn hm (H.out.on (HB1.out.mono hB)) (HD.out.on (HB1.out.mono hB)) (by omega)).mono ?_
  rintro e w2 ⟨av, rfl, ho2, hb2⟩
  obtain ⟨a9, cap9, rfl, hq1, hq2⟩ := own_intsQ ho2
  have HB2 := Lib.hid (HB1.out.trans (hb2.mono (by omega)))
  have HX2 := Lib.hid (HX1.out.on hb2 HX1.out.lt)
  have HL2 := Lib.hid ((hb2.block _ (lt_of_heap HL1.out)).trans HL1.out)
  have hs2 := hb2.size
  clear ho2 hb2 HX1 HL1 c0 c1
  go_wp2_with fail
  refine (iGrpB w2.heap.size _ cap9 a9 (pQ W l ps) w2 hq1 hq2 (pQ_ok W l ps) (Nat.le_refl _) (HT.out.on HB2.out HT.out.2)).mono ?_
  rintro e w3 ⟨⟨rows, rfl, hgr⟩, hb3⟩
  have hs3 := hb3.size
  have hi1 : (Tryz.prog.info? 105).map (·.size) = some (gpV rows).size := by rw [gpV_size]; exact gp_size
  have HI := Lib.hid hi1
  have HONE := Lib.hid (gpV_one (hgr _ (Nat.le_refl _)).one)
  have hb4 : Below w3.heap.size w3 (w3.alloc (.cells (gpV rows) 105)) := (Below.refl _ _).alloc (Nat.le_refl _) _
  have HB4 := Lib.hid (HB2.out.trans ((hb3.mono (by omega)).trans (hb4.mono (by omega))))
  have HX4 := Lib.hid ((HX2.out.on hb3 HX2.out.lt).on hb4 (HX2.out.on hb3 HX2.out.lt).lt)
  have HL4 := Lib.hid ((hb4.block _ (lt_of_heap ((hb3.block _ (lt_of_heap HL2.out)).trans HL2.out))).trans ((hb3.block _ (lt_of_heap HL2.out)).trans HL2.out))
  have HP4 := Lib.hid (GpAt.new w3 rows)
  have HG4 := Lib.hid ((hgr w3.heap.size (Nat.le_refl _)).by (grow_below hb4 none) (fun _ _ _ _ e => by cases e))
  clear hgr hb3 hb4 HX2 HL2 HB2 hq1 hq2 hi1
  go_wp2_with (first
    | (refine wpList_store_row rfl 105 _ _ rfl w3.heap.size (gpV rows) rfl rfl 105 _ (heap_alloc_last _ _) HI.out (by rw [gpV_size]; rfl) HONE.out ?_
       rw [World.setRow_alloc_new]
       generalize (w3.alloc (.cells (gpV rows) 105)) = w4 at *
       have HZ := Lib.hid (trs_new w4 HP4.out HG4.out (HT.out.on HB4.out HT.out.2) HL4.out)
       have hst1 := st_try w4
       have hst2 := st_search w4 w3.heap.size (w.heap.size + 1))
    | go_in)
  have HT0 := Lib.hid HZ.out.1
  have HBZ := Lib.hid HZ.out.2
  clear HZ hst1 hst2
  generalize (((((w4.alloc (.cells #[.pointer none, .slice none 0 0] 79)).alloc (.cells #[.int .i64 0] 3)).alloc (.cells #[.bool false] 4)).alloc (.cells #[(.func (.func 109) #[] #[.pointer (some ⟨w4.heap.size + 1 + 1, 0, none⟩), .pointer (some ⟨w3.heap.size, 0, none⟩), .pointer (some ⟨w4.heap.size + 1, 0, none⟩), .pointer (some ⟨w.heap.size + 1, 0, none⟩), .pointer (some ⟨w4.heap.size + 1 + 1 + 1 + 1, 0, none⟩)])] 125)).alloc (.cells #[(.func (.func 108) #[] #[.pointer (some ⟨w4.heap.size + 1, 0, none⟩), .pointer (some ⟨w4.heap.size, 0, none⟩), .pointer (some ⟨w4.heap.size + 1 + 1 + 1, 0, none⟩)])] 125)) = z at *
  have hsw : w.heap.size < w4.heap.size := by have := HX4.out.lt; omega
  have HXZ := Lib.hid (HX4.out.on HBZ.out HX4.out.lt)
  have HBw := Lib.hid (HB4.out.trans (HBZ.out.mono (by omega)))
  obtain ⟨N, hN⟩ : ∃ N, w4.heap.size = N := ⟨_, rfl⟩
  have hszz := HBZ.out.size
  rw [hN] at HT0 HBZ hsw hszz
  simp only [hN] at *
  obtain ⟨pp, hpp⟩ : ∃ pp, w3.heap.size = pp := ⟨_, rfl⟩
  rw [hpp] at HT0
  simp only [hpp] at *
  clear hN hpp HP4 HG4 HX4 HL4
  have HBZ2 := Lib.hid HBZ.out
  have HKM := Lib.hid (fun v9 (h9 : Below z.heap.size z v9) => iMask B n cap a W l v9 hn (H.out.on ((HBw.out.trans (h9.mono (by omega))).mono hB)) (by have := h9.size; omega))
  have HSR := Lib.hid (fun v9 (h9 : Below z.heap.size z v9) => iSearch w2.heap.size pp (w.heap.size + 1) N (N + 1) (N + 1 + 1) (N + 1 + 1 + 1) (N + 1 + 1 + 1 + 1) rows (pQ W l ps) L hL (pQ_ok W l ps) (Nat.le_trans (pQ_len W l ps) (by omega)) (maskR W l) (maskR W l) (Nat.le_refl _) (maskR_lt W l) 0 false [] v9 (Nat.zero_le _) (by simp) (HT0.out.on h9))
  have HS := Lib.hid (fun v9 (h9 : Below z.heap.size z v9) => (show v9.cell? ⟨N + 1 + 1 + 1, 0, none⟩ = some (.func (.func 109) #[] #[.pointer (some ⟨N + 1 + 1, 0, none⟩), .pointer (some ⟨pp, 0, none⟩), .pointer (some ⟨N + 1, 0, none⟩), .pointer (some ⟨w.heap.size + 1, 0, none⟩), .pointer (some ⟨N + 1 + 1 + 1 + 1, 0, none⟩)]) ∧ v9.cell? ⟨w.heap.size, 0, none⟩ = some (.int .i64 W) ∧ v9.cell? ⟨w.heap.size, 1, none⟩ = some (.slice a n cap) from
    ⟨cell_of_row v9 _ 0 _ _ _ (HT0.out.on h9).sfi, (HXZ.out.on h9 HXZ.out.lt).c0, (HXZ.out.on h9 HXZ.out.lt).c1⟩))
  have HS2 := Lib.hid (fun v9 t9 b9 x9 (h9 : TrS w2.heap.size pp (w.heap.size + 1) N (N + 1) (N + 1 + 1) (N + 1 + 1 + 1) (N + 1 + 1 + 1 + 1) rows (pQ W l ps) L v9 t9 b9 x9) (h8 : Below N z v9) => (show v9.cell? ⟨N + 1 + 1 + 1, 0, none⟩ = some (.func (.func 109) #[] #[.pointer (some ⟨N + 1 + 1, 0, none⟩), .pointer (some ⟨pp, 0, none⟩), .pointer (some ⟨N + 1, 0, none⟩), .pointer (some ⟨w.heap.size + 1, 0, none⟩), .pointer (some ⟨N + 1 + 1 + 1 + 1, 0, none⟩)]) ∧ v9.cell? ⟨w.heap.size, 0, none⟩ = some (.int .i64 W) ∧ v9.cell? ⟨w.heap.size, 1, none⟩ = some (.slice a n cap) from
    ⟨cell_of_row v9 _ 0 _ _ _ h9.sfi, (HXZ.out.on h8 hsw).c0, (HXZ.out.on h8 hsw).c1⟩))
  have k0 : Below z.heap.size z z.drew := (Below.refl _ z).drew
  have q1 := HXZ.out.c0
  have q2 := HXZ.out.c1
  have q3 := (HS.out _ (Below.refl _ z)).1
  have HLX := Lib.hid hszz
  go_region_held3 (fun w' => w'.cell? ⟨N + 1 + 1 + 1, 0, none⟩ = some (.func (.func 109) #[] #[.pointer (some ⟨N + 1 + 1, 0, none⟩), .pointer (some ⟨pp, 0, none⟩), .pointer (some ⟨N + 1, 0, none⟩), .pointer (some ⟨w.heap.size + 1, 0, none⟩), .pointer (some ⟨N + 1 + 1 + 1 + 1, 0, none⟩)]) ∧ w'.cell? ⟨w.heap.size, 0, none⟩ = some (.int .i64 W) ∧ w'.cell? ⟨w.heap.size, 1, none⟩ = some (.slice a n cap))
    (first | exact HS.out _ k0 | exact HS.out _ k1 | exact HS2.out _ _ _ _ hst k2)
    (first
      | (go_at_call 57
         refine (HKM.out _ k0).mono ?_
         rintro e v1 ⟨rfl, hb1⟩
         have k1 : Below z.heap.size z v1 := Below.trans k0 (hb1.mono (Below.size k0)))
      | (go_at_call 109
         refine (HSR.out _ k1).mono ?_
         rintro e v2 ⟨rfl, ⟨s, t', b', hok, hst⟩, hb2⟩
         have k2 : Below N z v2 := Below.trans (k1.mono HLX.out) hb2))
  have HOK := Lib.hid hok
  have HST := Lib.hid (show TrS w2.heap.size pp (w.heap.size + 1) N (N + 1) (N + 1 + 1) (N + 1 + 1 + 1) (N + 1 + 1 + 1 + 1) rows (pQ W l ps) L v2 t' b' s from hst)
  have HB2 := Lib.hid (HBw.out.trans (hb2.mono (Nat.le_of_lt hsw) |> fun h9 => (k1.mono (by have := HLX.out; omega)).trans h9))
  clear k0 k1 k2 q1 q2 q3 hok hst hb1 hb2
  (try simp only [Exit.then])
  have c9 : v2.cell? ⟨N + 1 + 1, 0, none⟩ = some (.bool b') := cell_of_row v2 _ 0 _ _ _ HST.out.iri
  have HNv := Lib.hid (Nat.le_of_lt (bl_lt HST.out.bl))
  go_wp2_with fail
  have j0 : v2.drew.cell? ⟨N + 1 + 1, 0, none⟩ = some (.bool b') := c9
  go_region_held3 (fun w' => w'.cell? ⟨N + 1 + 1, 0, none⟩ = some (.bool b'))
    (first | exact j0 | exact j1)
    (first
      | (go_at_call 74
         refine (bStr2 N N s v2.drew HST.out.bl HNv.out).mono ?_
         rintro e v3 ⟨rfl, hb3, hk3⟩
         have j1 : v3.cell? ⟨N + 1 + 1, 0, none⟩ = some (.bool b') := cell_of_row v3 _ 0 _ _ _ (hk3 _ _ HST.out.iri (fun e => by have := Option.some.inj e; omega) (fun c fz e => by injection e with _ e2; exact absurd e2 (by decide)))))
  have HB3 := Lib.hid (HB2.out.drew.trans (hb3.mono (Nat.le_of_lt hsw)))
  clear j0 j1 c9 hb3 hk3
  (try simp only [Exit.then])
  go_wp2
  go_ret2
  exact ⟨⟨s, t', b', rfl, HOK.out⟩, HB3.out⟩
end

end Go.Proofs.YtkjlmgkjcmebbaaGreatDoor
