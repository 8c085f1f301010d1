/-
  Counting the tilings, the tiling with a number, the first one, in the program: what each call gives.
  The first tiling, the tiling with a number, in the model: what each call gives.
-/
import Derived.Test.YtkjlmgkjcmebbaaGreatDoorWas
import Derived.Test.YtkjlmgkjcmebbaaGreatDoorWav
import Derived.Test.YtkjlmgkjcmebbaaGreatDoorWam
import Derived.Test.YtkjlmgkjcmebbaaGreatDoorWap
namespace Go.Proofs.YtkjlmgkjcmebbaaGreatDoor

section
open Go.RowKit Go.Maps Go.ChangeMaps Go.MapKept

theorem iFill (n cap : Nat) (a : Option Addr) (Q : List Nat) (L : Nat) (w : World) (hn : n ≤ 100000) (hc : IntsAt w.heap.size w a n (ints Q)) (hQ : ∀ m ∈ Q, m ≠ 0 ∧ m < 68719476736) (hT : Tz w) :
    Calls Tryz.prog 54 #[.slice a n cap, .int .i64 L] w fun e w' => (∃ g mb rows d, e = .returned (.pointer (some ⟨g, 0, none⟩)) ∧ FilOk w.heap.size w' g mb rows d L Q ∧ SumTo Q d 65 ∧ CntM w' mb (cutC Q L) ∧ w.heap.size ≤ mb) ∧ Below w.heap.size w w' := by
  refine (iNewF w.heap.size n cap a Q L w hn hc hQ (Nat.le_refl _) hT).mono ?_
  rintro e w' ⟨⟨g, mb, rows, d, he, hf, hg, hs, hm, h1, h2⟩, hb⟩
  refine ⟨⟨g, mb, rows, d, he, ⟨hf, hg, hT.on hb hT.2, ?_, ?_, fun k hk => own_map (hg.each k hk) hm⟩, hs, CntM.made hm _, h2⟩, hb⟩
  · rintro rfl
    obtain ⟨es, clock, h3, _⟩ := hm
    have h4 := hf
    unfold FilAt at h4
    rw [h3] at h4
    cases h4
  · have := hT.2
    omega

set_option maxHeartbeats 2000000 in
set_option maxRecDepth 100000 in
theorem iCanT (B n cap m2 cap2 : Nat) (a a2 : Option Addr) (W : Int) (l : List Int) (ps : List (List Cl)) (w : World) (hn : n ≤ 4194304) (hm : m2 ≤ 4194304) (hc : IntsAt B w a n l) (hd : PsAt B w a2 m2 ps) (hB : B ≤ w.heap.size) :
    Calls Tryz.prog 53 #[.agg #[.int .i64 W, .slice a n cap], .slice a2 m2 cap2] w fun e w' => e = .returned (.bool (okT W l ps)) ∧ Below w.heap.size w w' := by
  have H := Lib.hid hc
  have HD := Lib.hid hd
  clear hc hd
  have hb0 := (Below.refl w.heap.size w).alloc (Nat.le_refl _) (.cells #[.int .i64 W, .slice a n cap] 26)
  have HOK := Lib.hid (show okT W l ps = (isReg W l && arePc ps) from rfl)
  rw [HOK.out]
  cases h : isReg W l with
  | false =>
    have HI := Lib.hid h
    clear h
    go_enter Tryz.func53, Tryz.ntmps53
    go_wp2_with fail
    refine (iIsReg B n cap a W l _ hn (H.out.on (hb0.mono hB)) (Nat.le_trans hB hb0.size)).mono ?_
    rintro e w' ⟨rfl, hb⟩
    rw [HI.out]
    go_wp2
    go_ret
    exact ⟨rfl, hb0.trans (hb.mono hb0.size)⟩
  | true =>
    have HI := Lib.hid h
    clear h
    rw [Bool.true_and]
    go_enter Tryz.func53, Tryz.ntmps53
    go_wp2_with fail
    refine (iIsReg B n cap a W l _ hn (H.out.on (hb0.mono hB)) (Nat.le_trans hB hb0.size)).mono ?_
    rintro e w1 ⟨rfl, hb⟩
    rw [HI.out]
    have HB1 := Lib.hid (hb0.trans (hb.mono hb0.size))
    clear hb hb0
    go_wp2_with fail
    refine (iArePc B m2 cap2 a2 ps w1 hm (HD.out.on (HB1.out.mono hB)) (Nat.le_trans hB HB1.out.size)).mono ?_
    rintro e w2 ⟨rfl, hb2⟩
    go_wp2
    go_ret
    exact ⟨rfl, HB1.out.trans (hb2.mono HB1.out.size)⟩

theorem But.low {B b : Nat} {x w w' : World} (h : Below B x w) (hk : But w.heap.size b w w') (h1 : B ≤ w.heap.size) (h2 : B ≤ b) : Below B x w' := h.trans (hk.below h1 h2)
/-- What the program fills with, made in a world V: where it lies. -/
theorem iFillP (_B _n _cap _m2 _cap2 : Nat) (_a _a2 : Option Addr) (W : Int) (l : List Int) (ps : List (List Cl)) (L : Nat) (V V1 : World) (v : Value) (hT : Tz V)
    (ho : V1.ownsRow V.heap.size 3 1 v (apR W l ps).length (iv (apR W l ps))) (hb : Below V.heap.size V V1) :
    Calls Tryz.prog 54 #[v, .int .i64 L] V1 fun e w' => (∃ g mb rows d, e = .returned (.pointer (some ⟨g, 0, none⟩)) ∧ FilOk V1.heap.size w' g mb rows d L (pQ W l ps) ∧ SumTo (pQ W l ps) d 65 ∧ CntM w' mb (cutC (pQ W l ps) L) ∧ V1.heap.size ≤ mb) ∧ Below V1.heap.size V1 w' := by
  obtain ⟨a, cap, rfl⟩ := own_sliceI ho
  have h1 : (apR W l ps).length ≤ 100000 := by rw [← pQ_ints, ints_len]; exact Nat.le_trans (pQ_len W l ps) (by omega)
  refine iFill _ cap a (pQ W l ps) L V1 h1 ?_ (pQ_ok W l ps) (hT.on hb hT.2)
  have h2 := IntsAt.of_own ho (fun z hz => by have := apR_bd W l ps z hz; unfold In64; omega)
  rw [pQ_ints]
  exact h2

set_option maxHeartbeats 4000000 in
set_option maxRecDepth 100000 in
theorem iCntT (B n cap m2 cap2 : Nat) (a a2 : Option Addr) (W : Int) (l : List Int) (ps : List (List Cl)) (w : World) (hn : n ≤ 4194304) (hm : m2 ≤ 1048576) (hc : IntsAt B w a n l) (hd : PsAt B w a2 m2 ps) (hB : B ≤ w.heap.size) (hT : Tz w) :
    Calls Tryz.prog 16 #[.agg #[.int .i64 W, .slice a n cap], .slice a2 m2 cap2] w fun e w' => e = .returned (.int .i64 (cntT W l ps)) ∧ Below w.heap.size w w' := by
  have H := Lib.hid hc
  have HD := Lib.hid hd
  have HT := Lib.hid hT
  clear hc hd hT
  have hb0 := (Below.refl w.heap.size w).alloc (Nat.le_refl _) (.cells #[.int .i64 W, .slice a n cap] 26)
  have hbox0 := RgAt.new (w := w) W (.slice a n cap) rfl
  have hsz0 : (w.alloc (.cells #[.int .i64 W, .slice a n cap] 26)).heap.size = w.heap.size + 1 := by simp
  cases h : okT W l ps with
  | false =>
    have HI := Lib.hid h
    have HO := Lib.hid (cntT_no h)
    rw [HO.out]
    clear h
    go_enter Tryz.func16, Tryz.ntmps16
    go_wp2_with fail
    refine (iCanT B n cap m2 cap2 a a2 W l ps _ hn (by omega) (H.out.on (hb0.mono hB)) (HD.out.on (hb0.mono hB)) (Nat.le_trans hB hb0.size)).mono ?_
    rintro e w' ⟨rfl, hb⟩
    rw [HI.out]
    go_wp2
    go_ret
    exact ⟨rfl, hb0.trans (hb.mono hb0.size)⟩
  | true =>
    have HI := Lib.hid h
    have HO := Lib.hid (cntT_yes h)
    rw [HO.out]
    clear h
    go_enter Tryz.func16, Tryz.ntmps16
    go_wp2_with fail
    refine (iCanT B n cap m2 cap2 a a2 W l ps _ hn (by omega) (H.out.on (hb0.mono hB)) (HD.out.on (hb0.mono hB)) (Nat.le_trans hB hb0.size)).mono ?_
    rintro e vb ⟨rfl, hb⟩
    rw [HI.out]
    have HB := Lib.hid (hb0.trans (hb.mono hb0.size))
    have hbox := hbox0.on hb hbox0.lt
    have HBX := Lib.hid hbox
    clear hb hb0 hbox0 hsz0 hbox
    have hsb := HB.out.size
    have HK1 := Lib.hid (fun v9 (h9 : Below vb.heap.size vb v9) => iAp B n cap m2 cap2 a a2 W l ps v9 hn hm (H.out.on ((HB.out.mono hB).trans (h9.mono (by omega)))) (HD.out.on ((HB.out.mono hB).trans (h9.mono (by omega)))) (by have := h9.size; omega))
    have HK3 := Lib.hid (fun v9 (h9 : Below vb.heap.size vb v9) => iMask B n cap a W l v9 hn (H.out.on ((HB.out.mono hB).trans (h9.mono (by omega)))) (by have := h9.size; omega))
    have HTV := Lib.hid (fun v9 (h9 : Below vb.heap.size vb v9) => (HT.out.on HB.out HT.out.2).on h9 (by have := HT.out.2; omega))
    have HS := Lib.hid (fun v9 (h9 : Below vb.heap.size vb v9) => (show v9.cell? ⟨w.heap.size, 0, none⟩ = some (.int .i64 W) ∧ v9.cell? ⟨w.heap.size, 1, none⟩ = some (.slice a n cap) from by have h8 := HBX.out.on h9 HBX.out.lt; exact ⟨h8.c0, h8.c1⟩))
    have c0 := HBX.out.c0
    have c1 := HBX.out.c1
    go_wp2_with fail
    have k0 : Below vb.heap.size vb vb.drew := (Below.refl _ vb).drew
    go_region_held3 (fun w' => w'.cell? ⟨w.heap.size, 0, none⟩ = some (.int .i64 W) ∧ w'.cell? ⟨w.heap.size, 1, none⟩ = some (.slice a n cap))
      (first | exact HS.out _ k0 | exact HS.out _ k1 | exact HS.out _ k2 | exact HS.out _ k3 | exact HS.out _ k4)
      (first
        | (go_at_call 55
           refine (HK1.out _ k0).mono ?_
           rintro e v1 ⟨av, rfl, ho1, hb1⟩
           have k1 : Below vb.heap.size vb v1 := Below.trans k0 (hb1.mono (Below.size k0)))
        | (go_at_call 54
           refine (iFillP B n cap m2 cap2 a a2 W l ps 2000 vb.drew v1 av (HTV.out _ k0) ho1 hb1).mono ?_
           rintro e v2 ⟨⟨g, mb, rows, d, rfl, hfo, hst, hcm, hmb⟩, hb2⟩
           have k2 : Below vb.heap.size vb v2 := Below.trans k1 (hb2.mono (Below.size k1)))
        | (go_at_call 57
           refine (HK3.out _ k2).mono ?_
           rintro e v3 ⟨rfl, hb3⟩
           have k3 : Below vb.heap.size vb v3 := Below.trans k2 (hb3.mono (Below.size k2)))
        | (go_at_call 64
           refine (iCount v1.heap.size g mb rows d 2000 (pQ W l ps) (by omega) (by omega) (pQ_ok W l ps) (Nat.le_trans (pQ_len W l ps) (by omega)) hst (maskR W l) (maskR W l) (Nat.le_refl _) (maskR_lt W l) v3 (FilOk.on hfo hb3) (CntM.on hcm hb3)).mono ?_
           rintro e v4 ⟨rfl, _, hb4⟩
           have k4 : Below vb.heap.size vb v4 := But.low k3 hb4 (Below.size k3) (Nat.le_trans (Below.size k1) hmb)))
    have HB9 := Lib.hid (HB.out.trans (k4.mono hsb))
    clear k0 k1 k2 k3 k4 c0 c1 hfo hst hcm ho1 hb1 hb2 hb3 hb4
    (try simp only [Exit.then])
    go_wp2
    go_ret
    exact ⟨rfl, HB9.out⟩

/-- What a call gives: a tiling's masks, if there is one. -/
def GivesW (w : World) (t : Option (List Nat)) (e : Ending) (w' : World) : Prop := ∃ v, e = .returned (.tuple #[v, .bool t.isSome]) ∧ w'.ownsRow w.heap.size 3 1 v (wayI t).length (iv (wayI t)) ∧ Below w.heap.size w w'
theorem GivesW.none (w : World) {w' : World} (hb : Below w.heap.size w w') : GivesW w none (.returned (.tuple #[.slice none 0 0, .bool false])) w' := ⟨_, rfl, ⟨rfl, .inl ⟨rfl, rfl⟩⟩, hb⟩

set_option maxHeartbeats 4000000 in
set_option maxRecDepth 100000 in
theorem iTilN (B n cap m2 cap2 : Nat) (a a2 : Option Addr) (W : Int) (l : List Int) (ps : List (List Cl)) (x : Int) (w : World) (hx : In64 x) (hn : n ≤ 4194304) (hm : m2 ≤ 1048576) (hc : IntsAt B w a n l) (hd : PsAt B w a2 m2 ps) (hB : B ≤ w.heap.size) (hT : Tz w) :
    Calls Tryz.prog 14 #[.agg #[.int .i64 W, .slice a n cap], .slice a2 m2 cap2, .int .i64 x] w (GivesW w (tilN W l ps x)) := by
  have H := Lib.hid hc
  have HD := Lib.hid hd
  have HT := Lib.hid hT
  clear hc hd hT
  have hb0 := (Below.refl w.heap.size w).alloc (Nat.le_refl _) (.cells #[.int .i64 W, .slice a n cap] 26)
  have hbox0 := RgAt.new (w := w) W (.slice a n cap) rfl
  have hsz0 : (w.alloc (.cells #[.int .i64 W, .slice a n cap] 26)).heap.size = w.heap.size + 1 := by simp
  by_cases hx0 : 0 ≤ x
  · by_cases hx1 : x ≤ 199
    · obtain ⟨k, rfl⟩ : ∃ k : Nat, x = k := ⟨x.toNat, by omega⟩
      have hk199 : k ≤ 199 := by omega
      cases h : okT W l ps with
      | false =>
        have HI := Lib.hid h
        have HO := Lib.hid (tilN_no (n := (k : Int)) (fun h9 => by rw [h] at h9; exact absurd h9.1 (by simp)))
        rw [HO.out]
        clear h
        go_enter Tryz.func14, Tryz.ntmps14
        go_wp2_with fail
        refine (iCanT B n cap m2 cap2 a a2 W l ps _ hn (by omega) (H.out.on (hb0.mono hB)) (HD.out.on (hb0.mono hB)) (Nat.le_trans hB hb0.size)).mono ?_
        rintro e w' ⟨rfl, hb⟩
        rw [HI.out]
        go_wp2
        go_ret2
        exact GivesW.none w (hb0.trans (hb.mono hb0.size))
      | true =>
        have HI := Lib.hid h
        have HO := Lib.hid (tilN_yes h hk199)
        rw [HO.out]
        clear h
        go_enter Tryz.func14, Tryz.ntmps14
        go_wp2_with fail
        refine (iCanT B n cap m2 cap2 a a2 W l ps _ hn (by omega) (H.out.on (hb0.mono hB)) (HD.out.on (hb0.mono hB)) (Nat.le_trans hB hb0.size)).mono ?_
        rintro e vb ⟨rfl, hb⟩
        rw [HI.out]
        have HB := Lib.hid (hb0.trans (hb.mono hb0.size))
        have hbox := hbox0.on hb hbox0.lt
        have HBX := Lib.hid hbox
        clear hb hb0 hbox0 hsz0 hbox
        have hsb := HB.out.size
        have HK1 := Lib.hid (fun v9 (h9 : Below vb.heap.size vb v9) => iAp B n cap m2 cap2 a a2 W l ps v9 hn hm (H.out.on ((HB.out.mono hB).trans (h9.mono (by omega)))) (HD.out.on ((HB.out.mono hB).trans (h9.mono (by omega)))) (by have := h9.size; omega))
        have HK3 := Lib.hid (fun v9 (h9 : Below vb.heap.size vb v9) => iMask B n cap a W l v9 hn (H.out.on ((HB.out.mono hB).trans (h9.mono (by omega)))) (by have := h9.size; omega))
        have HTV := Lib.hid (fun v9 (h9 : Below vb.heap.size vb v9) => (HT.out.on HB.out HT.out.2).on h9 (by have := HT.out.2; omega))
        have HS := Lib.hid (fun v9 (h9 : Below vb.heap.size vb v9) => (show v9.cell? ⟨w.heap.size, 0, none⟩ = some (.int .i64 W) ∧ v9.cell? ⟨w.heap.size, 1, none⟩ = some (.slice a n cap) from by have h8 := HBX.out.on h9 HBX.out.lt; exact ⟨h8.c0, h8.c1⟩))
        have c0 := HBX.out.c0
        have c1 := HBX.out.c1
        obtain ⟨L, hL⟩ : ∃ L, k + 1 = L := ⟨_, rfl⟩
        have hkL : (k : Int) + 1 = (L : Int) := by omega
        have hkW : IntKind.i64.wrap ((k : Int) + 1) = (L : Int) := by rw [IntKind.wrap_i64]; omega
        have hkW2 : IntKind.i64.wrap (L : Int) = (L : Int) := by rw [IntKind.wrap_i64]; omega
        have hL1 : 1 ≤ L ∧ L ≤ 100000 ∧ k < L := by omega
        clear hL
        go_wp2_with fail
        have k0 : Below vb.heap.size vb vb.drew := (Below.refl _ vb).drew
        go_region_held3 (fun w' => w'.cell? ⟨w.heap.size, 0, none⟩ = some (.int .i64 W) ∧ w'.cell? ⟨w.heap.size, 1, none⟩ = some (.slice a n cap))
          (first | exact HS.out _ k0 | exact HS.out _ k1 | exact HS.out _ k2 | exact HS.out _ k3 | exact HS.out _ k4)
          (first
            | (go_at_call 55
               refine (HK1.out _ k0).mono ?_
               rintro e v1 ⟨av, rfl, ho1, hb1⟩
               have k1 : Below vb.heap.size vb v1 := Below.trans k0 (hb1.mono (Below.size k0)))
            | (go_at_call 54
               refine (iFillP B n cap m2 cap2 a a2 W l ps L vb.drew v1 av (HTV.out _ k0) ho1 hb1).mono ?_
               rintro e v2 ⟨⟨g, mb, rows, d, rfl, hfo, hst, hcm, hmb⟩, hb2⟩
               have k2 : Below vb.heap.size vb v2 := Below.trans k1 (hb2.mono (Below.size k1)))
            | (go_at_call 57
               refine (HK3.out _ k2).mono ?_
               rintro e v3 ⟨rfl, hb3⟩
               have k3 : Below vb.heap.size vb v3 := Below.trans k2 (hb3.mono (Below.size k2)))
            | (go_at_call 56
               refine (iNumber v1.heap.size g mb rows d L (pQ W l ps) hL1.1 hL1.2.1 (pQ_ok W l ps) (Nat.le_trans (pQ_len W l ps) (by omega)) hst (maskR W l) k (maskR_lt W l) hL1.2.2 v3 (FilOk.on hfo hb3) (CntM.on hcm hb3)).mono ?_
               rintro e v4 ⟨rv, rfl, hrow, hb4⟩
               have k4 : Below vb.heap.size vb v4 := But.low k3 hb4 (Below.size k3) (Nat.le_trans (Below.size k1) hmb)))
        have HB9 := Lib.hid (HB.out.trans (k4.mono hsb))
        have HR9 := Lib.hid (own_below hrow (by have := k3.size; omega : w.heap.size ≤ v3.heap.size))
        clear k0 k1 k2 k3 k4 c0 c1 hfo hst hcm ho1 hb1 hb2 hb3 hb4 hrow
        (try simp only [Exit.then])
        go_wp2
        go_ret2
        exact ⟨rv, rfl, HR9.out, HB9.out⟩
    · have HO := Lib.hid (tilN_no (W := W) (l := l) (ps := ps) (n := x) (fun h9 => hx1 h9.2.2))
      rw [HO.out]
      go_enter Tryz.func14, Tryz.ntmps14
      go_wp2
      go_ret2
      exact GivesW.none w hb0
  · have HO := Lib.hid (tilN_no (W := W) (l := l) (ps := ps) (n := x) (fun h9 => hx0 h9.2.1))
    rw [HO.out]
    go_enter Tryz.func14, Tryz.ntmps14
    go_wp2
    go_ret2
    exact GivesW.none w hb0

set_option maxHeartbeats 2000000 in
set_option maxRecDepth 100000 in
theorem iFindT (B n cap m2 cap2 : Nat) (a a2 : Option Addr) (W : Int) (l : List Int) (ps : List (List Cl)) (w : World) (hn : n ≤ 4194304) (hm : m2 ≤ 1048576) (hc : IntsAt B w a n l) (hd : PsAt B w a2 m2 ps) (hB : B ≤ w.heap.size) (hT : Tz w) :
    Calls Tryz.prog 42 #[.agg #[.int .i64 W, .slice a n cap], .slice a2 m2 cap2] w (GivesW w (tilN W l ps 0)) := by
  have H := Lib.hid hc
  have HD := Lib.hid hd
  have HT := Lib.hid hT
  clear hc hd hT
  have hb0 := (Below.refl w.heap.size w).alloc (Nat.le_refl _) (.cells #[.int .i64 W, .slice a n cap] 26)
  go_enter Tryz.func42, Tryz.ntmps42
  go_wp2_with fail
  refine (iTilN B n cap m2 cap2 a a2 W l ps 0 _ (by unfold In64; omega) hn hm (H.out.on (hb0.mono hB)) (HD.out.on (hb0.mono hB)) (Nat.le_trans hB hb0.size) (HT.out.on hb0 HT.out.2)).mono ?_
  rintro e w1 ⟨v, rfl, hrow, hb⟩
  have HR9 := Lib.hid (own_below hrow hb0.size)
  have HB9 := Lib.hid (hb0.trans (hb.mono hb0.size))
  clear hrow hb hb0
  go_wp2
  go_ret2
  exact ⟨v, rfl, HR9.out, HB9.out⟩

set_option maxHeartbeats 2000000 in
set_option maxRecDepth 100000 in
theorem iHasT (B n cap m2 cap2 : Nat) (a a2 : Option Addr) (W : Int) (l : List Int) (ps : List (List Cl)) (w : World) (hn : n ≤ 4194304) (hm : m2 ≤ 1048576) (hc : IntsAt B w a n l) (hd : PsAt B w a2 m2 ps) (hB : B ≤ w.heap.size) (hT : Tz w) :
    Calls Tryz.prog 20 #[.agg #[.int .i64 W, .slice a n cap], .slice a2 m2 cap2] w fun e w' => e = .returned (.bool (tilN W l ps 0).isSome) ∧ Below w.heap.size w w' := by
  have H := Lib.hid hc
  have HD := Lib.hid hd
  have HT := Lib.hid hT
  clear hc hd hT
  have hb0 := (Below.refl w.heap.size w).alloc (Nat.le_refl _) (.cells #[.int .i64 W, .slice a n cap] 26)
  go_enter Tryz.func20, Tryz.ntmps20
  go_wp2_with fail
  refine (iFindT B n cap m2 cap2 a a2 W l ps _ hn hm (H.out.on (hb0.mono hB)) (HD.out.on (hb0.mono hB)) (Nat.le_trans hB hb0.size) (HT.out.on hb0 HT.out.2)).mono ?_
  rintro e w1 ⟨v, rfl, hrow, hb⟩
  have HB9 := Lib.hid (hb0.trans (hb.mono hb0.size))
  clear hrow hb hb0
  go_wp2
  go_ret
  exact ⟨rfl, HB9.out⟩
end

section
open Go.RowKit

theorem lit_empty (w : World) : (w.alloc (.cells #[] 3)).ownsRow w.heap.size 3 1 (.slice (some ⟨w.heap.size, 0, none⟩) 0 0) (wayI none).length (iv (wayI none)) :=
  ⟨rfl, .inr ⟨w.heap.size, 0, #[], rfl, Nat.le_refl _, heap_alloc_new _ _, Nat.le_refl _, Nat.zero_le _, rfl, rfl⟩⟩
theorem got_some {Q : List Nat} {f n : Nat} {es : List IE} (h : es.map kI = (tilR Q f).take (n + 1)) (hn : n < es.length) : (tilR Q f)[n]? = some (es.getD n dIE).2.2 := by
  have h1 := congrArg (fun l => l[n]?) h
  simp only [List.getElem?_map] at h1
  rw [List.getElem?_take_of_lt (by omega)] at h1
  rw [← h1]
  simp [List.getD, hn, kI]
theorem got_none {Q : List Nat} {f n : Nat} {es : List IE} (h : es.map kI = (tilR Q f).take (n + 1)) (hn : es.length ≤ n) : (tilR Q f)[n]? = none := by
  have h1 := congrArg List.length h
  rw [List.length_map, List.length_take] at h1
  rw [List.getElem?_eq_none_iff]
  omega
theorem sSearchP (W : Int) (l : List Int) (ps : List (List Cl)) (M : Nat) (hM1 : 1 ≤ M) (hM2 : M ≤ 100000) (V V1 V2 : World) (v : Value)
    (ho : V1.ownsRow V.heap.size 3 1 v (apR W l ps).length (iv (apR W l ps))) (hb : Below V1.heap.size V1 V2) :
    Calls Tryz.prog 61 #[v, .int .i64 (maskR W l : Nat), .int .i64 M] V2 (GivesT V2 ((tilR (pQ W l ps) (maskR W l)).take M)) := by
  obtain ⟨a, cap, rfl, h1, h2⟩ := own_intsQ ho
  exact sSearch _ cap a (pQ W l ps) h1 (pQ_ok W l ps) (maskR W l) (maskR W l) (Nat.le_refl _) (maskR_lt W l) M hM1 hM2 V1.heap.size V2 (h2.on hb) hb.size

set_option maxHeartbeats 4000000 in
set_option maxRecDepth 100000 in
theorem sFindT (B n cap m2 cap2 : Nat) (a a2 : Option Addr) (W : Int) (l : List Int) (ps : List (List Cl)) (w : World) (hn : n ≤ 4194304) (hm : m2 ≤ 1048576) (hc : IntsAt B w a n l) (hd : PsAt B w a2 m2 ps) (hB : B ≤ w.heap.size) :
    Calls Tryz.prog 39 #[.agg #[.int .i64 W, .slice a n cap], .slice a2 m2 cap2] w (GivesW w (tilN W l ps 0)) := by
  have H := Lib.hid hc
  have HD := Lib.hid hd
  clear hc hd
  have hb0 := (Below.refl w.heap.size w).alloc (Nat.le_refl _) (.cells #[.int .i64 W, .slice a n cap] 26)
  have hbox0 := RgAt.new (w := w) W (.slice a n cap) rfl
  have hsz0 : (w.alloc (.cells #[.int .i64 W, .slice a n cap] 26)).heap.size = w.heap.size + 1 := by simp
  cases h1 : isReg W l with
  | false =>
    have HI := Lib.hid h1
    have HO := Lib.hid (tilN_no (W := W) (l := l) (ps := ps) (n := 0) (fun h9 => by have h8 := h9.1; unfold okT at h8; rw [h1] at h8; exact absurd h8 (by simp)))
    rw [HO.out]
    clear h1
    go_enter Tryz.func39, Tryz.ntmps39
    go_wp2_with fail
    refine (sIsReg B n cap a W l _ hn (H.out.on (hb0.mono hB)) (Nat.le_trans hB hb0.size)).mono ?_
    rintro e w1 ⟨rfl, hb⟩
    rw [HI.out]
    have HBz := Lib.hid (hb0.trans (hb.mono hb0.size))
    have HE0 := Lib.hid (own_below (lit_empty w1) (show w.heap.size ≤ w1.heap.size from by have := HBz.out.size; omega))
    have HB0 := Lib.hid (HBz.out.alloc HBz.out.size (.cells #[] 3))
    clear hb hb0
    go_wp2
    go_ret2
    exact ⟨_, rfl, HE0.out, HB0.out⟩
  | true =>
    have HI := Lib.hid h1
    cases h2 : arePc ps with
    | false =>
      have HP := Lib.hid h2
      have HO := Lib.hid (tilN_no (W := W) (l := l) (ps := ps) (n := 0) (fun h9 => by have h8 := h9.1; unfold okT at h8; rw [h1, h2] at h8; exact absurd h8 (by simp)))
      rw [HO.out]
      clear h1 h2
      go_enter Tryz.func39, Tryz.ntmps39
      go_wp2_with fail
      refine (sIsReg B n cap a W l _ hn (H.out.on (hb0.mono hB)) (Nat.le_trans hB hb0.size)).mono ?_
      rintro e w1 ⟨rfl, hb⟩
      rw [HI.out]
      have HB1 := Lib.hid (hb0.trans (hb.mono hb0.size))
      clear hb hb0
      go_wp2_with fail
      refine (sArePc B m2 cap2 a2 ps w1 (by omega) (HD.out.on (HB1.out.mono hB)) (Nat.le_trans hB HB1.out.size)).mono ?_
      rintro e w2 ⟨rfl, hb2⟩
      rw [HP.out]
      have HBz := Lib.hid (HB1.out.trans (hb2.mono HB1.out.size))
      have HE0 := Lib.hid (own_below (lit_empty w2) (show w.heap.size ≤ w2.heap.size from by have := HBz.out.size; omega))
      have HB0 := Lib.hid (HBz.out.alloc HBz.out.size (.cells #[] 3))
      clear hb2
      go_wp2
      go_ret2
      exact ⟨_, rfl, HE0.out, HB0.out⟩
    | true =>
      have HP := Lib.hid h2
      have HOK := Lib.hid (show okT W l ps = true from by unfold okT; rw [h1, h2]; rfl)
      clear h1 h2
      have HO := Lib.hid (tilN_yes (n := 0) HOK.out (by omega))
      have HZ0 : ((0 : Nat) : Int) = 0 := rfl
      rw [HZ0] at HO
      rw [HO.out]
      obtain ⟨rr, hrr⟩ : ∃ rr, (tilR (pQ W l ps) (maskR W l))[0]? = rr := ⟨_, rfl⟩
      have HRR := Lib.hid hrr
      rw [hrr]
      clear hrr
      go_enter Tryz.func39, Tryz.ntmps39
      go_wp2_with fail
      refine (sIsReg B n cap a W l _ hn (H.out.on (hb0.mono hB)) (Nat.le_trans hB hb0.size)).mono ?_
      rintro e w1 ⟨rfl, hb⟩
      rw [HI.out]
      have HB1 := Lib.hid (hb0.trans (hb.mono hb0.size))
      have HX1 := Lib.hid (hbox0.on hb hbox0.lt)
      clear hb hb0 hbox0 hsz0
      go_wp2_with fail
      refine (sArePc B m2 cap2 a2 ps w1 (by omega) (HD.out.on (HB1.out.mono hB)) (Nat.le_trans hB HB1.out.size)).mono ?_
      rintro e vb ⟨rfl, hb2⟩
      rw [HP.out]
      have HB := Lib.hid (HB1.out.trans (hb2.mono HB1.out.size))
      have HBX := Lib.hid (HX1.out.on hb2 HX1.out.lt)
      clear hb2 HB1 HX1
      have hsb := HB.out.size
      have HK1 := Lib.hid (fun v9 (h9 : Below vb.heap.size vb v9) => sAp B n cap m2 cap2 a a2 W l ps v9 hn hm (H.out.on ((HB.out.mono hB).trans (h9.mono (by omega)))) (HD.out.on ((HB.out.mono hB).trans (h9.mono (by omega)))) (by have := h9.size; omega))
      have HK3 := Lib.hid (fun v9 (h9 : Below vb.heap.size vb v9) => sMask B n cap a W l v9 hn (H.out.on ((HB.out.mono hB).trans (h9.mono (by omega)))) (by have := h9.size; omega))
      have HS := Lib.hid (fun v9 (h9 : Below vb.heap.size vb v9) => (show v9.cell? ⟨w.heap.size, 0, none⟩ = some (.int .i64 W) ∧ v9.cell? ⟨w.heap.size, 1, none⟩ = some (.slice a n cap) from by have h8 := HBX.out.on h9 HBX.out.lt; exact ⟨h8.c0, h8.c1⟩))
      have c0 := HBX.out.c0
      have c1 := HBX.out.c1
      go_wp2_with fail
      have k0 : Below vb.heap.size vb vb.drew := (Below.refl _ vb).drew
      go_region_held3 (fun w' => w'.cell? ⟨w.heap.size, 0, none⟩ = some (.int .i64 W) ∧ w'.cell? ⟨w.heap.size, 1, none⟩ = some (.slice a n cap))
        (first | exact HS.out _ k0 | exact HS.out _ k1 | exact HS.out _ k3 | exact HS.out _ k4)
        (first
          | (go_at_call 62
             refine (HK1.out _ k0).mono ?_
             rintro e v1 ⟨av, rfl, ho1, hb1⟩
             have k1 : Below vb.heap.size vb v1 := Below.trans k0 (hb1.mono (Below.size k0)))
          | (go_at_call 63
             refine (HK3.out _ k1).mono ?_
             rintro e v3 ⟨rfl, hb3⟩
             have k3 : Below vb.heap.size vb v3 := Below.trans k1 (hb3.mono (Below.size k1)))
          | (go_at_call 61
             refine (sSearchP W l ps 1 (by omega) (by omega) vb.drew v1 v3 av ho1 hb3).mono ?_
             rintro e v4 ⟨lv, es, rfl, hol, hml, hb4⟩
             have k4 : Below vb.heap.size vb v4 := Below.trans k3 (hb4.mono (Below.size k3))))
      have HBz := Lib.hid (HB.out.trans (k4.mono hsb))
      have h34 : w.heap.size ≤ v3.heap.size := by have := k3.size; omega
      obtain ⟨la, lc, rfl⟩ := own_sliceR hol.row
      have HOL := Lib.hid (hol.less h34)
      have HML := Lib.hid (show es.map kI = (tilR (pQ W l ps) (maskR W l)).take (0 + 1) from hml)
      have HE0 := Lib.hid (own_below (lit_empty v4) (show w.heap.size ≤ v4.heap.size from by have := HBz.out.size; omega))
      have HB0 := Lib.hid (HBz.out.alloc HBz.out.size (.cells #[] 3))
      clear k0 k1 k3 k4 c0 c1 ho1 hb1 hb3 hb4 hol hml
      (try simp only [Exit.then])
      by_cases hle : es.length ≤ 0
      · have HN := Lib.hid (show rr = none from by rw [← HRR.out]; exact got_none HML.out hle)
        have hle1 : (es.length : Int) = 0 := by omega
        have hle2 : ((es.length : Int) == 0) = true := by simpa using hle1
        go_wp2
        go_ret2
        exact ⟨_, by rw [HN.out]; rfl, by rw [HN.out]; exact HE0.out, HB0.out⟩
      · have HN := Lib.hid (show rr = some (es.getD 0 dIE).2.2 from by rw [← HRR.out]; exact got_some HML.out (by omega))
        have hle1 : ¬ (es.length : Int) = 0 := by omega
        have hle2 : ((es.length : Int) == 0) = false := by simpa using hle1
        have hk9 : (0 : Int) < (es.length : Int) := by omega
        have hge : (es.map ieV)[0]? = some (ieV (es.getD 0 dIE)) := by simp [List.getD, show 0 < es.length by omega]
        have hkm : es.getD 0 dIE ∈ es := by simp [List.getD, show 0 < es.length by omega]
        have HEA := Lib.hid (HOL.out.each _ hkm)
        obtain ⟨gr, hgr⟩ : ∃ gr, la = some ⟨gr, 0, none⟩ := by
          rcases HOL.out.row.2 with ⟨_, h0⟩ | ⟨g8, c8, cur, he8, _⟩
          · omega
          · injection he8 with e1 _ _
            exact ⟨g8, e1⟩
        subst hgr
        have p2 := HOL.out.row.cellAt 0 (by omega)
        rw [hge] at p2
        obtain ⟨⟨eb, ec, el⟩, hek⟩ : ∃ e : IE, es.getD 0 dIE = e := ⟨_, rfl⟩
        rw [hek] at p2 HEA HN
        have p3 : v4.cell? ⟨gr, 0, none⟩ = some (.slice (some ⟨eb, 0, none⟩) el.length ec) := p2
        have HEB := Lib.hid (show v4.ownsRow w.heap.size 3 1 (.slice (some ⟨eb, 0, none⟩) el.length ec) (wayI (some el)).length (iv (wayI (some el))) from by
          have h9 : (wayI (some el)).length = el.length := ints_len el
          rw [h9]
          exact HEA.out)
        clear hge hkm hek p2
        go_wp2
        go_ret2
        exact ⟨_, by rw [HN.out]; rfl, by rw [HN.out]; exact HEB.out, HBz.out⟩

set_option maxHeartbeats 4000000 in
set_option maxRecDepth 100000 in
theorem sTilN (B n cap m2 cap2 : Nat) (a a2 : Option Addr) (W : Int) (l : List Int) (ps : List (List Cl)) (x : Int) (w : World) (hx : In64 x) (hn : n ≤ 4194304) (hm : m2 ≤ 1048576) (hc : IntsAt B w a n l) (hd : PsAt B w a2 m2 ps) (hB : B ≤ w.heap.size) :
    Calls Tryz.prog 15 #[.agg #[.int .i64 W, .slice a n cap], .slice a2 m2 cap2, .int .i64 x] w (GivesW w (tilN W l ps x)) := by
  have H := Lib.hid hc
  have HD := Lib.hid hd
  clear hc hd
  have hb0 := (Below.refl w.heap.size w).alloc (Nat.le_refl _) (.cells #[.int .i64 W, .slice a n cap] 26)
  have hbox0 := RgAt.new (w := w) W (.slice a n cap) rfl
  have hsz0 : (w.alloc (.cells #[.int .i64 W, .slice a n cap] 26)).heap.size = w.heap.size + 1 := by simp
  cases h1 : isReg W l with
  | false =>
    have HI := Lib.hid h1
    have HO := Lib.hid (tilN_no (W := W) (l := l) (ps := ps) (n := x) (fun h9 => by have h8 := h9.1; unfold okT at h8; rw [h1] at h8; exact absurd h8 (by simp)))
    rw [HO.out]
    clear h1
    go_enter Tryz.func15, Tryz.ntmps15
    go_wp2_with fail
    refine (sIsReg B n cap a W l _ hn (H.out.on (hb0.mono hB)) (Nat.le_trans hB hb0.size)).mono ?_
    rintro e w1 ⟨rfl, hb⟩
    rw [HI.out]
    have HBz := Lib.hid (hb0.trans (hb.mono hb0.size))
    have HE0 := Lib.hid (own_below (lit_empty w1) (show w.heap.size ≤ w1.heap.size from by have := HBz.out.size; omega))
    have HB0 := Lib.hid (HBz.out.alloc HBz.out.size (.cells #[] 3))
    clear hb hb0
    go_wp2
    go_ret2
    exact ⟨_, rfl, HE0.out, HB0.out⟩
  | true =>
    have HI := Lib.hid h1
    cases h2 : arePc ps with
    | false =>
      have HP := Lib.hid h2
      have HO := Lib.hid (tilN_no (W := W) (l := l) (ps := ps) (n := x) (fun h9 => by have h8 := h9.1; unfold okT at h8; rw [h1, h2] at h8; exact absurd h8 (by simp)))
      rw [HO.out]
      clear h1 h2
      go_enter Tryz.func15, Tryz.ntmps15
      go_wp2_with fail
      refine (sIsReg B n cap a W l _ hn (H.out.on (hb0.mono hB)) (Nat.le_trans hB hb0.size)).mono ?_
      rintro e w1 ⟨rfl, hb⟩
      rw [HI.out]
      have HB1 := Lib.hid (hb0.trans (hb.mono hb0.size))
      clear hb hb0
      go_wp2_with fail
      refine (sArePc B m2 cap2 a2 ps w1 (by omega) (HD.out.on (HB1.out.mono hB)) (Nat.le_trans hB HB1.out.size)).mono ?_
      rintro e w2 ⟨rfl, hb2⟩
      rw [HP.out]
      have HBz := Lib.hid (HB1.out.trans (hb2.mono HB1.out.size))
      have HE0 := Lib.hid (own_below (lit_empty w2) (show w.heap.size ≤ w2.heap.size from by have := HBz.out.size; omega))
      have HB0 := Lib.hid (HBz.out.alloc HBz.out.size (.cells #[] 3))
      clear hb2
      go_wp2
      go_ret2
      exact ⟨_, rfl, HE0.out, HB0.out⟩
    | true =>
      have HP := Lib.hid h2
      have HOK := Lib.hid (show okT W l ps = true from by unfold okT; rw [h1, h2]; rfl)
      clear h1 h2
      by_cases hxx : 0 ≤ x ∧ x ≤ 199
      · obtain ⟨k, rfl⟩ : ∃ k : Nat, x = k := ⟨x.toNat, by omega⟩
        have hk199 : k ≤ 199 := by omega
        obtain ⟨L, hL2⟩ : ∃ L, L = k + 1 := ⟨_, rfl⟩
        have hkL : (k : Int) + 1 = (L : Int) := by omega
        have hkW : IntKind.i64.wrap ((k : Int) + 1) = (L : Int) := by rw [IntKind.wrap_i64]; omega
        have hkW2 : IntKind.i64.wrap (L : Int) = (L : Int) := by rw [IntKind.wrap_i64]; omega
        have hL1 : 1 ≤ L ∧ L ≤ 100000 ∧ k < L := by omega
        have hL2' := Lib.hid hL2
        clear hL2
        have hin : inb (k : Int) 0 199 = true := by unfold inb; simp; omega
        have HIN := Lib.hid hin
        clear hin
        have HO := Lib.hid (tilN_yes HOK.out hk199)
        rw [HO.out]
        obtain ⟨rr, hrr⟩ : ∃ rr, (tilR (pQ W l ps) (maskR W l))[k]? = rr := ⟨_, rfl⟩
        have HRR := Lib.hid hrr
        rw [hrr]
        clear hrr
        go_enter Tryz.func15, Tryz.ntmps15
        go_wp2_with fail
        refine (sIsReg B n cap a W l _ hn (H.out.on (hb0.mono hB)) (Nat.le_trans hB hb0.size)).mono ?_
        rintro e w1 ⟨rfl, hb⟩
        rw [HI.out]
        have HB1 := Lib.hid (hb0.trans (hb.mono hb0.size))
        have HX1 := Lib.hid (hbox0.on hb hbox0.lt)
        clear hb hb0 hbox0 hsz0
        go_wp2_with fail
        refine (sArePc B m2 cap2 a2 ps w1 (by omega) (HD.out.on (HB1.out.mono hB)) (Nat.le_trans hB HB1.out.size)).mono ?_
        rintro e vb ⟨rfl, hb2⟩
        rw [HP.out]
        have HB := Lib.hid (HB1.out.trans (hb2.mono HB1.out.size))
        have HBX := Lib.hid (HX1.out.on hb2 HX1.out.lt)
        clear hb2 HB1 HX1
        go_wp2_with fail
        refine (sIn (k : Int) 0 199 vb).mono ?_
        rintro e vv ⟨rfl, hvv⟩
        subst hvv
        rw [HIN.out]
        have hsb := HB.out.size
        have HK1 := Lib.hid (fun v9 (h9 : Below vb.heap.size vb v9) => sAp B n cap m2 cap2 a a2 W l ps v9 hn hm (H.out.on ((HB.out.mono hB).trans (h9.mono (by omega)))) (HD.out.on ((HB.out.mono hB).trans (h9.mono (by omega)))) (by have := h9.size; omega))
        have HK3 := Lib.hid (fun v9 (h9 : Below vb.heap.size vb v9) => sMask B n cap a W l v9 hn (H.out.on ((HB.out.mono hB).trans (h9.mono (by omega)))) (by have := h9.size; omega))
        have HS := Lib.hid (fun v9 (h9 : Below vb.heap.size vb v9) => (show v9.cell? ⟨w.heap.size, 0, none⟩ = some (.int .i64 W) ∧ v9.cell? ⟨w.heap.size, 1, none⟩ = some (.slice a n cap) from by have h8 := HBX.out.on h9 HBX.out.lt; exact ⟨h8.c0, h8.c1⟩))
        have c0 := HBX.out.c0
        have c1 := HBX.out.c1
        go_wp2_with fail
        have k0 : Below vb.heap.size vb vb.drew := (Below.refl _ vb).drew
        go_region_held3 (fun w' => w'.cell? ⟨w.heap.size, 0, none⟩ = some (.int .i64 W) ∧ w'.cell? ⟨w.heap.size, 1, none⟩ = some (.slice a n cap))
          (first | exact HS.out _ k0 | exact HS.out _ k1 | exact HS.out _ k3 | exact HS.out _ k4)
          (first
            | (go_at_call 62
               refine (HK1.out _ k0).mono ?_
               rintro e v1 ⟨av, rfl, ho1, hb1⟩
               have k1 : Below vb.heap.size vb v1 := Below.trans k0 (hb1.mono (Below.size k0)))
            | (go_at_call 63
               refine (HK3.out _ k1).mono ?_
               rintro e v3 ⟨rfl, hb3⟩
               have k3 : Below vb.heap.size vb v3 := Below.trans k1 (hb3.mono (Below.size k1)))
            | (go_at_call 61
               refine (sSearchP W l ps L hL1.1 hL1.2.1 vb.drew v1 v3 av ho1 hb3).mono ?_
               rintro e v4 ⟨lv, es, rfl, hol, hml, hb4⟩
               have k4 : Below vb.heap.size vb v4 := Below.trans k3 (hb4.mono (Below.size k3))))
        have HBz := Lib.hid (HB.out.trans (k4.mono hsb))
        have h34 : w.heap.size ≤ v3.heap.size := by have := k3.size; omega
        obtain ⟨la, lc, rfl⟩ := own_sliceR hol.row
        have HOL := Lib.hid (hol.less h34)
        have HML := Lib.hid (show es.map kI = (tilR (pQ W l ps) (maskR W l)).take (k + 1) from by rw [hml, hL2'.out])
        have HE0 := Lib.hid (own_below (lit_empty v4) (show w.heap.size ≤ v4.heap.size from by have := HBz.out.size; omega))
        have HB0 := Lib.hid (HBz.out.alloc HBz.out.size (.cells #[] 3))
        clear k0 k1 k3 k4 c0 c1 ho1 hb1 hb3 hb4 hol hml
        (try simp only [Exit.then])
        by_cases hle : es.length ≤ k
        · have HN := Lib.hid (show rr = none from by rw [← HRR.out]; exact got_none HML.out hle)
          have hle1 : (es.length : Int) ≤ (k : Int) := by omega
          skip
          go_wp2
          go_ret2
          exact ⟨_, by rw [HN.out]; rfl, by rw [HN.out]; exact HE0.out, HB0.out⟩
        · have HN := Lib.hid (show rr = some (es.getD k dIE).2.2 from by rw [← HRR.out]; exact got_some HML.out (by omega))
          have hle1 : ¬ (es.length : Int) ≤ (k : Int) := by omega
          have hk0 : (0 : Int) ≤ (k : Int) := by omega
          have hk9 : (k : Int) < (es.length : Int) := by omega
          have hge : (es.map ieV)[k]? = some (ieV (es.getD k dIE)) := by simp [List.getD, show k < es.length by omega]
          have hkm : es.getD k dIE ∈ es := by simp [List.getD, show k < es.length by omega]
          have HEA := Lib.hid (HOL.out.each _ hkm)
          obtain ⟨gr, hgr⟩ : ∃ gr, la = some ⟨gr, 0, none⟩ := by
            rcases HOL.out.row.2 with ⟨_, h0⟩ | ⟨g8, c8, cur, he8, _⟩
            · omega
            · injection he8 with e1 _ _
              exact ⟨g8, e1⟩
          subst hgr
          have p2 := HOL.out.row.cellAt k (by omega)
          rw [hge] at p2
          obtain ⟨⟨eb, ec, el⟩, hek⟩ : ∃ e : IE, es.getD k dIE = e := ⟨_, rfl⟩
          rw [hek] at p2 HEA HN
          have p3 : v4.cell? ⟨gr, k, none⟩ = some (.slice (some ⟨eb, 0, none⟩) el.length ec) := p2
          have HEB := Lib.hid (show v4.ownsRow w.heap.size 3 1 (.slice (some ⟨eb, 0, none⟩) el.length ec) (wayI (some el)).length (iv (wayI (some el))) from by
            have h9 : (wayI (some el)).length = el.length := ints_len el
            rw [h9]
            exact HEA.out)
          clear hge hkm hek p2
          go_wp2
          go_ret2
          exact ⟨_, by rw [HN.out]; rfl, by rw [HN.out]; exact HEB.out, HBz.out⟩
      · have HO := Lib.hid (tilN_no (W := W) (l := l) (ps := ps) (n := x) (fun h9 => hxx ⟨h9.2.1, h9.2.2⟩))
        rw [HO.out]
        have HIN := Lib.hid (show inb x 0 199 = false from by
          cases e : inb x 0 199 with
          | false => rfl
          | true => unfold inb at e; simp at e; exact absurd e hxx)
        go_enter Tryz.func15, Tryz.ntmps15
        go_wp2_with fail
        refine (sIsReg B n cap a W l _ hn (H.out.on (hb0.mono hB)) (Nat.le_trans hB hb0.size)).mono ?_
        rintro e w1 ⟨rfl, hb⟩
        rw [HI.out]
        have HB1 := Lib.hid (hb0.trans (hb.mono hb0.size))
        clear hb hb0
        go_wp2_with fail
        refine (sArePc B m2 cap2 a2 ps w1 (by omega) (HD.out.on (HB1.out.mono hB)) (Nat.le_trans hB HB1.out.size)).mono ?_
        rintro e w2 ⟨rfl, hb2⟩
        rw [HP.out]
        have HBz := Lib.hid (HB1.out.trans (hb2.mono HB1.out.size))
        clear hb2
        go_wp2_with fail
        refine (sIn x 0 199 w2).mono ?_
        rintro e w3 ⟨rfl, hw3⟩
        subst hw3
        rw [HIN.out]
        have HE0 := Lib.hid (own_below (lit_empty w2) (show w.heap.size ≤ w2.heap.size from by have := HBz.out.size; omega))
        have HB0 := Lib.hid (HBz.out.alloc HBz.out.size (.cells #[] 3))
        go_wp2
        go_ret2
        exact ⟨_, rfl, HE0.out, HB0.out⟩

set_option maxHeartbeats 2000000 in
set_option maxRecDepth 100000 in
theorem sHasT (B n cap m2 cap2 : Nat) (a a2 : Option Addr) (W : Int) (l : List Int) (ps : List (List Cl)) (w : World) (hn : n ≤ 4194304) (hm : m2 ≤ 1048576) (hc : IntsAt B w a n l) (hd : PsAt B w a2 m2 ps) (hB : B ≤ w.heap.size) :
    Calls Tryz.prog 29 #[.agg #[.int .i64 W, .slice a n cap], .slice a2 m2 cap2] w fun e w' => e = .returned (.bool (tilN W l ps 0).isSome) ∧ Below w.heap.size w w' := by
  have H := Lib.hid hc
  have HD := Lib.hid hd
  clear hc hd
  have hb0 := (Below.refl w.heap.size w).alloc (Nat.le_refl _) (.cells #[.int .i64 W, .slice a n cap] 26)
  go_enter Tryz.func29, Tryz.ntmps29
  go_wp2_with fail
  refine (sFindT B n cap m2 cap2 a a2 W l ps _ hn hm (H.out.on (hb0.mono hB)) (HD.out.on (hb0.mono hB)) (Nat.le_trans hB hb0.size)).mono ?_
  rintro e w1 ⟨v, rfl, hrow, hb⟩
  have HB9 := Lib.hid (hb0.trans (hb.mono hb0.size))
  clear hrow hb hb0
  go_wp2
  go_ret
  exact ⟨rfl, HB9.out⟩
end

end Go.Proofs.YtkjlmgkjcmebbaaGreatDoor
