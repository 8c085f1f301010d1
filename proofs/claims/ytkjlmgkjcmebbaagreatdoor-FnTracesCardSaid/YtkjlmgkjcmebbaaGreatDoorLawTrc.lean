/-
  The law on refutations (FnTraces): its walk (written by tools/lawtrc.py).
-/
import Derived.Test.YtkjlmgkjcmebbaaGreatDoorWbi
import Derived.Test.YtkjlmgkjcmebbaaGreatDoorWbg
import Derived.Test.YtkjlmgkjcmebbaaGreatDoorWbh
import Derived.Test.YtkjlmgkjcmebbaaGreatDoorWaw
import Derived.Test.YtkjlmgkjcmebbaaGreatDoorWax
import Derived.Deep.RegionHeld3
namespace Go.Proofs.YtkjlmgkjcmebbaaGreatDoor
open Go.RowKit

def StT (W w : World) (a : Option Addr) (n c : Nat) : Prop := Below W.heap.size W w ∧ Code w.heap.size w a n c ∧ Tz w
theorem StT.go {W w w' : World} {a : Option Addr} {n c : Nat} (h : StT W w a n c) (hb : Below w.heap.size w w') : StT W w' a n c :=
  ⟨h.1.trans (hb.mono h.1.size), (h.2.1.on hb).more hb.size, h.2.2.on hb h.2.2.2⟩

set_option maxHeartbeats 8000000 in
set_option maxRecDepth 100000 in
theorem law_Traces (a0 : Option Addr) (len0 cap0 : Nat) (z0 : List Int) (w : World) (w0 : IsRow .u8 w a0 len0 cap0 z0) (hT : Tz w) :
    Calls Tryz.prog 4 #[.slice a0 len0 cap0] w fun e w' => e = .returned (.bool true) ∧ Below w.heap.size w w' := by
  have HC := Lib.hid (code_of_row w0)
  by_cases hs : (1048576 : Int) < len0
  · go_enter Tryz.func4, Tryz.ntmps4
    go_wp2_with (first | (go_at_call 12; go_in))
    go_ret
    exact ⟨rfl, Below.refl _ _⟩
  go_enter Tryz.func4, Tryz.ntmps4
  go_wp2_with (first | (go_at_call 12; go_in))
  have hl0 : len0 ≤ 1048576 := by omega
  clear hs
  have ST := Lib.hid (show StT w w a0 len0 cap0 from ⟨Below.refl _ _, HC.out, hT⟩)
  clear HC w0 hT
  go_wp2_with fail
  refine (dIsR9 a0 len0 cap0 w ST.out.2.1 hl0).mono ?_
  rintro e w1 ⟨Wr, Mr, gr, cr, lr, gp, cp, us, ps, t, rfl, hMr, hin, hrp, hps3, ht, hb⟩
  replace ST := Lib.hid (ST.out.go hb)
  have HA := Lib.hid (IntsAt.of_own hrp.row hin)
  have HR := Lib.hid hrp.psAt
  clear hb hrp hin
  obtain ⟨np, hnp⟩ : ∃ n, ps.length = n := ⟨_, rfl⟩
  rw [hnp] at HR hps3 ⊢
  clear hnp
  obtain ⟨br, hbr⟩ : ∃ b, w1.heap.size = b := ⟨_, rfl⟩
  have hb := (Below.refl w1.heap.size w1).alloc (Nat.le_refl _) (.cells #[.int .i64 Wr, .slice (some ⟨gr, 0, none⟩) Mr cr] 26)
  replace ST := Lib.hid (ST.out.go hb)
  replace HA := Lib.hid ((HA.out.on hb).more hb.size)
  replace HR := Lib.hid ((HR.out.on hb).more hb.size)
  clear hb
  have HV := Lib.hid (RgAt.new (w := w1) Wr (.slice (some ⟨gr, 0, none⟩) Mr cr) hbr)
  have qr0 := HV.out.c0
  have qr1 := HV.out.c1
  go_wp2_with fail
  generalize (w1.alloc (.cells #[.int .i64 Wr, .slice (some ⟨gr, 0, none⟩) Mr cr] 26)) = w2 at *
  clear hbr
  refine (iIsRef w2.heap.size Mr cr np cp _ _ Wr lr ps t w2 (by omega) (by omega) HA.out HR.out (Nat.le_refl _) ST.out.2.2).mono ?_
  rintro e w3 ⟨rfl, hb⟩
  replace ST := Lib.hid (ST.out.go hb)
  replace HA := Lib.hid ((HA.out.on hb).more hb.size)
  replace HR := Lib.hid ((HR.out.on hb).more hb.size)
  replace HV := Lib.hid (HV.out.on hb HV.out.lt)
  clear hb qr0 qr1
  have qr0 := HV.out.c0
  have qr1 := HV.out.c1
  obtain ⟨yes, hyes⟩ : ∃ y, isRef Wr lr ps (tbs t) = y := ⟨_, rfl⟩
  have HY := Lib.hid hyes
  rw [hyes]
  have hsb := siz_bd (tbs t)
  have HSY := Lib.hid (fun h => ref_says (W := Wr) (l := lr) (ps := ps) (s := tbs t) h)
  obtain ⟨zn, hzn⟩ : ∃ z, sizT (tbs t) = z := ⟨_, rfl⟩
  obtain ⟨zd, hzd⟩ : ∃ z, depT (tbs t) = z := ⟨_, rfl⟩
  rw [hzn, hzd] at hsb
  rw [hzn] at HSY
  have HZN := Lib.hid hzn
  have HZD := Lib.hid hzd
  have hnn : (zn != zn) = false := by simp
  have hdd : (zd != zd) = false := by simp
  have hyy : (yes != yes) = false := by simp
  have hdn : ¬ zn < zd := by omega
  have hts : t.size ≤ 4194304 := by omega
  clear hyes hzn hzd hsb
  go_wp2_with fail
  refine (sIsRef w3.heap.size Mr cr np cp _ _ Wr lr ps t w3 (by omega) (by omega) hts HA.out HR.out (Nat.le_refl _)).mono ?_
  rintro e w4 ⟨rfl, hb⟩
  rw [HY.out]
  replace ST := Lib.hid (ST.out.go hb)
  replace HA := Lib.hid ((HA.out.on hb).more hb.size)
  replace HR := Lib.hid ((HR.out.on hb).more hb.size)
  replace HV := Lib.hid (HV.out.on hb HV.out.lt)
  clear hb qr0 qr1
  have qr0 := HV.out.c0
  have qr1 := HV.out.c1
  cases yes with
  | true =>
    have HF := Lib.hid (HSY.out HY.out)
    have hn0 : ¬ zn < 0 := by have := HF.out; omega
    have hn5 : ¬ 5000 < zn := by have := HF.out; omega
    go_wp2_with fail
    refine (sHasT w4.heap.size Mr cr np cp _ _ Wr lr ps w4 (by omega) (by omega) HA.out HR.out (Nat.le_refl _)).mono ?_
    rintro e w5 ⟨rfl, hb⟩
    rw [HF.out.1]
    replace ST := Lib.hid (ST.out.go hb)
    replace HA := Lib.hid ((HA.out.on hb).more hb.size)
    replace HR := Lib.hid ((HR.out.on hb).more hb.size)
    replace HV := Lib.hid (HV.out.on hb HV.out.lt)
    clear hb qr0 qr1
    have qr0 := HV.out.c0
    have qr1 := HV.out.c1
    go_wp2_with fail
    refine (iRefSize t w5 hts).mono ?_
    rintro e w6 ⟨rfl, hb⟩
    rw [HZN.out]
    replace ST := Lib.hid (ST.out.go hb)
    replace HA := Lib.hid ((HA.out.on hb).more hb.size)
    replace HR := Lib.hid ((HR.out.on hb).more hb.size)
    replace HV := Lib.hid (HV.out.on hb HV.out.lt)
    clear hb qr0 qr1
    have qr0 := HV.out.c0
    have qr1 := HV.out.c1
    go_wp2_with fail
    refine (iDeep t w6 hts).mono ?_
    rintro e w7 ⟨rfl, hb⟩
    rw [HZD.out]
    replace ST := Lib.hid (ST.out.go hb)
    replace HA := Lib.hid ((HA.out.on hb).more hb.size)
    replace HR := Lib.hid ((HR.out.on hb).more hb.size)
    replace HV := Lib.hid (HV.out.on hb HV.out.lt)
    clear hb qr0 qr1
    have qr0 := HV.out.c0
    have qr1 := HV.out.c1
    go_wp2_with fail
    refine (sRefSize t w7 hts).mono ?_
    rintro e w8 ⟨rfl, hb⟩
    rw [HZN.out]
    replace ST := Lib.hid (ST.out.go hb)
    replace HA := Lib.hid ((HA.out.on hb).more hb.size)
    replace HR := Lib.hid ((HR.out.on hb).more hb.size)
    replace HV := Lib.hid (HV.out.on hb HV.out.lt)
    clear hb qr0 qr1
    have qr0 := HV.out.c0
    have qr1 := HV.out.c1
    go_wp2_with fail
    refine (sDeep t w8 hts).mono ?_
    rintro e w9 ⟨rfl, hb⟩
    rw [HZD.out]
    replace ST := Lib.hid (ST.out.go hb)
    replace HA := Lib.hid ((HA.out.on hb).more hb.size)
    replace HR := Lib.hid ((HR.out.on hb).more hb.size)
    replace HV := Lib.hid (HV.out.on hb HV.out.lt)
    clear hb qr0 qr1
    have qr0 := HV.out.c0
    have qr1 := HV.out.c1
    go_wp2_with fail
    refine (iSrch w9.heap.size Mr cr np cp _ _ Wr lr ps w9 (by omega) (by omega) HA.out HR.out (Nat.le_refl _) ST.out.2.2).mono ?_
    rintro e w10 ⟨rfl, hb⟩
    rw [HF.out.2.2.2]
    replace ST := Lib.hid (ST.out.go hb)
    replace HA := Lib.hid ((HA.out.on hb).more hb.size)
    replace HR := Lib.hid ((HR.out.on hb).more hb.size)
    replace HV := Lib.hid (HV.out.on hb HV.out.lt)
    clear hb qr0 qr1
    have qr0 := HV.out.c0
    have qr1 := HV.out.c1
    go_wp2_with fail
    refine (dSrc9 a0 len0 cap0 w10 ST.out.2.1 hl0).mono ?_
    rintro e w11 ⟨Wq, Mq, gq, cq, lq, gs, cs, us2, ps2, rfl, hMq, hin, hrp, hps4, hb⟩
    replace ST := Lib.hid (ST.out.go hb)
    have HA2 := Lib.hid (IntsAt.of_own hrp.row hin)
    have HR2 := Lib.hid hrp.psAt
    clear hb hrp hin qr0 qr1 HA HR HV
    obtain ⟨nq, hnq⟩ : ∃ n, ps2.length = n := ⟨_, rfl⟩
    rw [hnq] at HR2 hps4 ⊢
    clear hnq
    obtain ⟨bq, hbq⟩ : ∃ b, w11.heap.size = b := ⟨_, rfl⟩
    have hb := (Below.refl w11.heap.size w11).alloc (Nat.le_refl _) (.cells #[.int .i64 Wq, .slice (some ⟨gq, 0, none⟩) Mq cq] 26)
    replace ST := Lib.hid (ST.out.go hb)
    replace HA2 := Lib.hid ((HA2.out.on hb).more hb.size)
    replace HR2 := Lib.hid ((HR2.out.on hb).more hb.size)
    clear hb
    have HV := Lib.hid (RgAt.new (w := w11) Wq (.slice (some ⟨gq, 0, none⟩) Mq cq) hbq)
    have qr0 := HV.out.c0
    have qr1 := HV.out.c1
    go_wp2_with fail
    generalize (w11.alloc (.cells #[.int .i64 Wq, .slice (some ⟨gq, 0, none⟩) Mq cq] 26)) = w12 at *
    clear hbq
    obtain ⟨zs, hzs⟩ : ∃ z, srcN Wq lq ps2 = z := ⟨_, rfl⟩
    have HZS := Lib.hid hzs
    have hss : (zs == zs) = true := by simp
    clear hzs
    have HS := Lib.hid (fun v9 (h9 : Below w12.heap.size w12 v9) => (show v9.cell? ⟨bq, 0, none⟩ = some (.int .i64 Wq) ∧ v9.cell? ⟨bq, 1, none⟩ = some (.slice (some ⟨gq, 0, none⟩) Mq cq) from ⟨(HV.out.on h9 HV.out.lt).c0, (HV.out.on h9 HV.out.lt).c1⟩))
    have HK1 := Lib.hid (fun v9 (h9 : Below w12.heap.size w12 v9) => iSrch v9.heap.size Mq cq nq cs _ _ Wq lq ps2 v9 (by omega) (by omega) ((HA2.out.on h9).more h9.size) ((HR2.out.on h9).more h9.size) (Nat.le_refl _) (ST.out.2.2.on h9 ST.out.2.2.2))
    have HK2 := Lib.hid (fun v9 (h9 : Below w12.heap.size w12 v9) => sSrch v9.heap.size Mq cq nq cs _ _ Wq lq ps2 v9 (by omega) (by omega) ((HA2.out.on h9).more h9.size) ((HR2.out.on h9).more h9.size) (Nat.le_refl _))
    rw [HZS.out] at HK1 HK2
    have k0 : Below w12.heap.size w12 w12.drew := (Below.refl _ w12).drew
    go_region_held3 (fun w' => w'.cell? ⟨bq, 0, none⟩ = some (.int .i64 Wq) ∧ w'.cell? ⟨bq, 1, none⟩ = some (.slice (some ⟨gq, 0, none⟩) Mq cq))
      (first | exact HS.out _ k0 | exact HS.out _ k1 | exact HS.out _ k2)
      (first
        | (go_at_call 34
           refine (HK1.out _ k0).mono ?_
           rintro e v1 ⟨rfl, hb1⟩
           have k1 : Below w12.heap.size w12 v1 := Below.trans k0 (hb1.mono (Below.size k0)))
        | (go_at_call 36
           refine (HK2.out _ k1).mono ?_
           rintro e v2 ⟨rfl, hb2⟩
           have k2 : Below w12.heap.size w12 v2 := Below.trans k1 (hb2.mono (Below.size k1))))
    have HB9 := Lib.hid (ST.out.go k2).1
    clear k0 k1 k2 hb1 hb2 qr0 qr1
    (try simp only [Exit.then])
    go_wp2
    go_ret
    exact ⟨rfl, HB9.out⟩
  | false =>
    go_wp2_with fail
    refine (iRefSize t w4 hts).mono ?_
    rintro e w5 ⟨rfl, hb⟩
    rw [HZN.out]
    replace ST := Lib.hid (ST.out.go hb)
    replace HA := Lib.hid ((HA.out.on hb).more hb.size)
    replace HR := Lib.hid ((HR.out.on hb).more hb.size)
    replace HV := Lib.hid (HV.out.on hb HV.out.lt)
    clear hb qr0 qr1
    have qr0 := HV.out.c0
    have qr1 := HV.out.c1
    go_wp2_with fail
    refine (iDeep t w5 hts).mono ?_
    rintro e w6 ⟨rfl, hb⟩
    rw [HZD.out]
    replace ST := Lib.hid (ST.out.go hb)
    replace HA := Lib.hid ((HA.out.on hb).more hb.size)
    replace HR := Lib.hid ((HR.out.on hb).more hb.size)
    replace HV := Lib.hid (HV.out.on hb HV.out.lt)
    clear hb qr0 qr1
    have qr0 := HV.out.c0
    have qr1 := HV.out.c1
    go_wp2_with fail
    refine (sRefSize t w6 hts).mono ?_
    rintro e w7 ⟨rfl, hb⟩
    rw [HZN.out]
    replace ST := Lib.hid (ST.out.go hb)
    replace HA := Lib.hid ((HA.out.on hb).more hb.size)
    replace HR := Lib.hid ((HR.out.on hb).more hb.size)
    replace HV := Lib.hid (HV.out.on hb HV.out.lt)
    clear hb qr0 qr1
    have qr0 := HV.out.c0
    have qr1 := HV.out.c1
    go_wp2_with fail
    refine (sDeep t w7 hts).mono ?_
    rintro e w8 ⟨rfl, hb⟩
    rw [HZD.out]
    replace ST := Lib.hid (ST.out.go hb)
    replace HA := Lib.hid ((HA.out.on hb).more hb.size)
    replace HR := Lib.hid ((HR.out.on hb).more hb.size)
    replace HV := Lib.hid (HV.out.on hb HV.out.lt)
    clear hb qr0 qr1
    have qr0 := HV.out.c0
    have qr1 := HV.out.c1
    go_wp2_with fail
    refine (dSrc9 a0 len0 cap0 w8 ST.out.2.1 hl0).mono ?_
    rintro e w9 ⟨Wq, Mq, gq, cq, lq, gs, cs, us2, ps2, rfl, hMq, hin, hrp, hps4, hb⟩
    replace ST := Lib.hid (ST.out.go hb)
    have HA2 := Lib.hid (IntsAt.of_own hrp.row hin)
    have HR2 := Lib.hid hrp.psAt
    clear hb hrp hin qr0 qr1 HA HR HV
    obtain ⟨nq, hnq⟩ : ∃ n, ps2.length = n := ⟨_, rfl⟩
    rw [hnq] at HR2 hps4 ⊢
    clear hnq
    obtain ⟨bq, hbq⟩ : ∃ b, w9.heap.size = b := ⟨_, rfl⟩
    have hb := (Below.refl w9.heap.size w9).alloc (Nat.le_refl _) (.cells #[.int .i64 Wq, .slice (some ⟨gq, 0, none⟩) Mq cq] 26)
    replace ST := Lib.hid (ST.out.go hb)
    replace HA2 := Lib.hid ((HA2.out.on hb).more hb.size)
    replace HR2 := Lib.hid ((HR2.out.on hb).more hb.size)
    clear hb
    have HV := Lib.hid (RgAt.new (w := w9) Wq (.slice (some ⟨gq, 0, none⟩) Mq cq) hbq)
    have qr0 := HV.out.c0
    have qr1 := HV.out.c1
    go_wp2_with fail
    generalize (w9.alloc (.cells #[.int .i64 Wq, .slice (some ⟨gq, 0, none⟩) Mq cq] 26)) = w10 at *
    clear hbq
    obtain ⟨zs, hzs⟩ : ∃ z, srcN Wq lq ps2 = z := ⟨_, rfl⟩
    have HZS := Lib.hid hzs
    have hss : (zs == zs) = true := by simp
    clear hzs
    have HS := Lib.hid (fun v9 (h9 : Below w10.heap.size w10 v9) => (show v9.cell? ⟨bq, 0, none⟩ = some (.int .i64 Wq) ∧ v9.cell? ⟨bq, 1, none⟩ = some (.slice (some ⟨gq, 0, none⟩) Mq cq) from ⟨(HV.out.on h9 HV.out.lt).c0, (HV.out.on h9 HV.out.lt).c1⟩))
    have HK1 := Lib.hid (fun v9 (h9 : Below w10.heap.size w10 v9) => iSrch v9.heap.size Mq cq nq cs _ _ Wq lq ps2 v9 (by omega) (by omega) ((HA2.out.on h9).more h9.size) ((HR2.out.on h9).more h9.size) (Nat.le_refl _) (ST.out.2.2.on h9 ST.out.2.2.2))
    have HK2 := Lib.hid (fun v9 (h9 : Below w10.heap.size w10 v9) => sSrch v9.heap.size Mq cq nq cs _ _ Wq lq ps2 v9 (by omega) (by omega) ((HA2.out.on h9).more h9.size) ((HR2.out.on h9).more h9.size) (Nat.le_refl _))
    rw [HZS.out] at HK1 HK2
    have k0 : Below w10.heap.size w10 w10.drew := (Below.refl _ w10).drew
    go_region_held3 (fun w' => w'.cell? ⟨bq, 0, none⟩ = some (.int .i64 Wq) ∧ w'.cell? ⟨bq, 1, none⟩ = some (.slice (some ⟨gq, 0, none⟩) Mq cq))
      (first | exact HS.out _ k0 | exact HS.out _ k1 | exact HS.out _ k2)
      (first
        | (go_at_call 34
           refine (HK1.out _ k0).mono ?_
           rintro e v1 ⟨rfl, hb1⟩
           have k1 : Below w10.heap.size w10 v1 := Below.trans k0 (hb1.mono (Below.size k0)))
        | (go_at_call 36
           refine (HK2.out _ k1).mono ?_
           rintro e v2 ⟨rfl, hb2⟩
           have k2 : Below w10.heap.size w10 v2 := Below.trans k1 (hb2.mono (Below.size k1))))
    have HB9 := Lib.hid (ST.out.go k2).1
    clear k0 k1 k2 hb1 hb2 qr0 qr1
    (try simp only [Exit.then])
    go_wp2
    go_ret
    exact ⟨rfl, HB9.out⟩
end Go.Proofs.YtkjlmgkjcmebbaaGreatDoor
