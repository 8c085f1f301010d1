/-
  A row is led: scaled and taken from all others; the first row that is not 0 in a column: in the program: what each call gives.
  The elimination in the program: what the call gives.
  The whole elimination in the program: what the call gives.
-/
import Derived.Test.YtkcclhnligajeaaGreatDoorVan
import Derived.Test.YtkcclhnligajeaaGreatDoorVal
import Derived.StillTailTactics
import Derived.BigRegion
import Derived.Test.YtkcclhnligajeaaGreatDoorVap
import Derived.Test.YtkcclhnligajeaaGreatDoorVaq
import Derived.Maps.AppendAt
namespace Go.Proofs.YtkcclhnligajeaaGreatDoor

section
open Go.RowKit

theorem ints_app1 (Q : List Nat) (k : Nat) : iv (ints Q) ++ [Value.int .i64 (k : Int)] = iv (ints (Q ++ [k])) := by simp [ints, iv]
theorem emod_sub_neg (p x f y : Int) : (x + y * ((p - f) % p)) % p = (x - f * y) % p := by
  have h1 : (p - f) % p = p - f - p * ((p - f) / p) := by
    have := Int.emod_add_mul_ediv (p - f) p
    omega
  rw [h1, show x + y * (p - f - p * ((p - f) / p)) = x - f * y + p * (y * (1 - (p - f) / p)) by
    rw [Int.mul_sub, Int.mul_sub, Int.mul_sub, Int.mul_sub, Int.mul_comm f y, Int.mul_one, Int.mul_comm p y, ← Int.mul_assoc p y, ← Int.mul_assoc y p, Int.mul_comm p y]
    omega]
  exact Int.add_mul_emod_self_left _ _ _
/-- The rows ahead of i are cleared. -/
def clrT (p : Int) (a : Mt) (d k t : Nat) : Mt := fun i j => if i < t then clrI p a d k i j else a i j
set_option maxHeartbeats 4000000 in
set_option maxRecDepth 100000 in
theorem iLead (B g cap m n d k : Nat) (bk cp : Nat → Nat) (a : Mt) (p : Int) (w : World) (hp : PrmI p) (hm : m ≤ 4194304) (hn : n ≤ 4194304) (hd : d < m) (hk : k < n)
    (ha : ∀ i j, i < m → j < n → 0 ≤ a i j ∧ a i j < p) (h0 : a d k ≠ 0) (h : MtAt B w (.slice (some ⟨g, 0, none⟩) m cap) m n bk cp a) :
    Calls Tryz.prog 118 #[.int .i64 p, .slice (some ⟨g, 0, none⟩) m cap, .int .i64 d, .int .i64 k] w fun e w' => e = .returned (.tuple #[]) ∧
      MtAt B w' (.slice (some ⟨g, 0, none⟩) m cap) m n bk cp (clrI p (sclI p a d (invM p (a d k))) d k) ∧ ButP (InR m bk) w w' := by
  have hp1 := hp.pos
  have hd1 : (d : Int) < (m : Int) := by omega
  have hd0 : (0 : Int) ≤ (d : Int) := by omega
  have hk1 : (k : Int) < (n : Int) := by omega
  have hk0 : (0 : Int) ≤ (k : Int) := by omega
  have c1 := h.cell hd
  have c2 := h.num hd hk
  have hx := ha d k hd hk
  obtain ⟨-, i1, i2⟩ := invM_is hp (x := a d k) (by omega)
  have H := Lib.hid h
  have HA := Lib.hid ha
  have HX := Lib.hid (show 0 < a d k from by omega)
  have HI := Lib.hid (fun w9 => iInvM p (a d k) hp (by omega) (by omega) w9)
  generalize hz : a d k = z at c2 hx i1 i2 HX HI
  have HZ := Lib.hid hz
  obtain ⟨s, hs⟩ : ∃ s, sclI p a d (invM p z) = s := ⟨_, rfl⟩
  rw [hs]
  have HSS := Lib.hid hs
  clear h ha h0 hz hs
  go_enter Tryz.func118, Tryz.ntmps118
  go_wp2_with fail
  go_still_tail 14, (by kernel_rfl)
  still_call (HI.out _)
  repeat still_step
  refine wpStill_nil ?_
  change wpList _ _ _ _ _ w.drew
  have H2 := Lib.hid H.out.drew
  have HK2 := Lib.hid (ButP.refl (InR m bk) w).drew
  generalize w.drew = w2 at *
  clear c1 c2
  go_wp2_with fail
  refine (iMulR B (bk d) n (cp d) (a d) p (invM p z) w2 hp ⟨by omega, i2⟩ (fun j hj => HA.out d j hd hj) hn (H2.out.rows d hd)).mono ?_
  rintro e w3 ⟨rfl, hr3, hg3⟩
  have HS := Lib.hid (fun i j (h1 : i < m) (h2 : j < n) => (show 0 ≤ sclI p a d (invM p z) i j ∧ sclI p a d (invM p z) i j < p from by
    unfold sclI
    split
    · exact ⟨Int.emod_nonneg _ (by omega), Int.emod_lt_of_pos _ (by omega)⟩
    · exact HA.out i j h1 h2))
  have H3 := Lib.hid ((H2.out.row hd hg3 hr3).same (a' := sclI p a d (invM p z)) (fun i _ j _ => by
    unfold updM sclI
    by_cases e : i = d
    · subst e; rw [if_pos rfl, if_pos rfl]
    · rw [if_neg e, if_neg e]))
  have HK3 := Lib.hid (HK2.out.trans (ButP.of_grown hg3 ⟨d, hd, rfl⟩))
  rw [HSS.out] at HS H3
  clear hr3 hg3 H2 HK2 HI HX HZ HA H i1 i2 hx
  go_wp2
  go_loopw [27] (fun i wr => ∃ t : Nat, t ≤ m ∧ i = .int .i64 t ∧ Hid (MtAt B wr (.slice (some ⟨g, 0, none⟩) m cap) m n bk cp (clrT p s d k t)) ∧ ButP (InR m bk) w wr) (fun i _ => m - (intOf i).toNat)
  case atStart => exact ⟨0, by omega, rfl, H3.out.same (fun i _ j _ => by unfold clrT; rw [if_neg (by omega)]), HK3.out⟩
  case round =>
    obtain ⟨t, ht, rfl, hM, hK⟩ := hrel
    by_cases hlt : t < m
    · have ht1 : (t : Int) < (m : Int) := by omega
      have ht0 : (0 : Int) ≤ (t : Int) := by omega
      have q1 := hM.out.cell hlt
      by_cases htd : t = d
      · have hb : ((t : Int) != (d : Int)) = false := by simp [htd]
        have HN := Lib.hid (hM.out.same (a' := clrT p s d k (t + 1)) (fun i _ j _ => by
          unfold clrT
          by_cases e : i < t
          · rw [if_pos e, if_pos (by omega)]
          · rw [if_neg e]
            by_cases e2 : i = t
            · rw [if_pos (by omega)]
              unfold clrI
              rw [if_pos (by omega)]
            · rw [if_neg (by omega)]))
        clear hM htd
        go_wp2
        go_roundw
        case rel => first
          | exact ⟨t + 1, by omega, by go_num, HN.out, hK⟩
          | (repeat apply Exists.intro
             exact ⟨⟨t + 1, by omega, by go_num, HN.out, hK⟩, rfl⟩)
        case measure => first | (simp [intOf]; done) | (simp [intOf]; omega)
      · have hb : ((t : Int) != (d : Int)) = true := by
          rw [bne_iff_ne]; omega
        have q2 := hM.out.cell hd
        have et : ∀ j, clrT p s d k t t j = s t j := fun j => by unfold clrT; rw [if_neg (by omega)]
        have ed : ∀ j, clrT p s d k t d j = s d j := fun j => by
          unfold clrT
          split
          · unfold clrI; rw [if_pos rfl]
          · rfl
        have q3 := hM.out.num hlt hk
        rw [et] at q3
        have hst := HS.out t k hlt hk
        have HNG := Lib.hid (fun w9 => iNeg p (s t k) hp hst.1 hst.2 w9)
        have hng : 0 ≤ (p - s t k) % p ∧ (p - s t k) % p < p := ⟨Int.emod_nonneg _ (by omega), Int.emod_lt_of_pos _ (by omega)⟩
        have HE := Lib.hid (show ∀ j, (s t j + s d j * ((p - s t k) % p)) % p = clrI p s d k t j from fun j => by
          unfold clrI
          rw [if_neg htd, emod_sub_neg])
        have R1 := hM.out.rows t hlt
        have R2 := hM.out.rows d hd
        rw [lstI_congr (fun j _ => et j)] at R1
        rw [lstI_congr (fun j _ => ed j)] at R2
        have HR1 := Lib.hid R1
        have HR2 := Lib.hid R2
        have hap : bk d ≠ bk t := fun e => htd (hM.out.apart t d hlt hd e.symm)
        clear R1 R2 et ed
        generalize s t k = y at q3 hst HNG hng HE
        generalize (p - y) % p = x at HNG hng HE
        go_wp2_with fail
        go_still_tail 12, (by kernel_rfl)
        still_call (HNG.out _)
        repeat still_step
        refine wpStill_nil ?_
        change wpList _ _ _ _ _ wr.drew
        have H5 := Lib.hid hM.out.drew
        have HK5 := Lib.hid hK.drew
        have HR3 : Hid (wr.drew.ownsRow B 3 1 (.slice (some ⟨bk t, 0, none⟩) n (cp t)) n (iv (lstI n fun j => s t j))) := HR1.out
        have HR4 : Hid (wr.drew.ownsRow B 3 1 (.slice (some ⟨bk d, 0, none⟩) n (cp d)) n (iv (lstI n fun j => s d j))) := HR2.out
        clear hM hK q1 q2 q3 HR1 HR2
        generalize wr.drew = w5 at *
        go_wp2_with fail
        refine (iAddM B B (bk t) (bk d) n (cp t) (cp d) (fun j => s t j) (fun j => s d j) p x w5 hp hng (fun j hj => HS.out t j hlt hj) (fun j hj => HS.out d j hd hj) hn hap HR3.out HR4.out).mono ?_
        rintro e w6 ⟨rfl, hr6, hg6⟩
        have HN := Lib.hid ((H5.out.row hlt hg6 hr6).same (a' := clrT p s d k (t + 1)) (fun i _ j _ => by
          by_cases e : i = t
          · subst e
            rw [updM_at]
            unfold clrT
            rw [if_pos (by omega)]
            exact HE.out j
          · rw [updM_off _ _ e]
            unfold clrT
            by_cases e2 : i < t
            · rw [if_pos e2, if_pos (by omega)]
            · rw [if_neg e2, if_neg (by omega)]))
        have HKN := Lib.hid (HK5.out.trans (ButP.of_grown hg6 ⟨t, hlt, rfl⟩))
        clear hr6 hg6
        go_wp2
        go_roundw
        case rel => first
          | exact ⟨t + 1, by omega, by go_num, HN.out, HKN.out⟩
          | (repeat apply Exists.intro
             exact ⟨⟨t + 1, by omega, by go_num, HN.out, HKN.out⟩, rfl⟩)
        case measure => first | (simp [intOf]; done) | (simp [intOf]; omega)
    · obtain rfl : t = m := by omega
      have HN := Lib.hid (hM.out.same (a' := clrI p s d k) (fun i hi j _ => by unfold clrT; rw [if_pos hi]))
      clear hM
      go_wp2
      go_end0
      exact ⟨rfl, HN.out, hK⟩
end

section
open Go.RowKit

/-- Where the first row from d on that is not 0 in column k lies, from d on. -/
def pvI (a : Mt) (m d k : Nat) : Int := match pivI a m d k with | some q => ((q - d : Nat) : Int) | none => -1
theorem pvI_some {a : Mt} {m d k q : Nat} (h : pivI a m d k = some q) : pvI a m d k = ((q - d : Nat) : Int) := by unfold pvI; rw [h]
theorem pvI_none {a : Mt} {m d k : Nat} (h : pivI a m d k = none) : pvI a m d k = -1 := by unfold pvI; rw [h]
set_option maxHeartbeats 1000000 in
theorem iNz (n cp b cb k : Nat) (x : Int) (w : World) (hk : k < n) (hc : w.cell? ⟨cb, 0, none⟩ = some (.int .i64 k)) (hx : w.cell? ⟨b, k, none⟩ = some (.int .i64 x)) :
    Calls Tryz.prog 117 #[.slice (some ⟨b, 0, none⟩) n cp, .pointer (some ⟨cb, 0, none⟩)] w fun e w' => e = .returned (.bool (x != 0)) ∧ w' = w := by
  have hk1 : (k : Int) < (n : Int) := by omega
  have hk0 : (0 : Int) ≤ (k : Int) := by omega
  go_enter Tryz.func117, Tryz.ntmps117
  go_wp2
  go_ret
  exact ⟨rfl, rfl⟩
set_option maxHeartbeats 2000000 in
set_option maxRecDepth 100000 in
theorem iIdxRow (g d L c2 n k cb : Nat) (ad : Option Addr) (bk cp : Nat → Nat) (a : Mt) (w : World) (hL : L ≤ 4194304) (hk : k < n) (had : 0 < L → ad = some ⟨g, d, none⟩)
    (hc : ∀ i, i < L → w.cell? ⟨g, d + i, none⟩ = some (.slice (some ⟨bk (d + i), 0, none⟩) n (cp (d + i))) ∧ w.cell? ⟨bk (d + i), k, none⟩ = some (.int .i64 (a (d + i) k)))
    (hcb : w.cell? ⟨cb, 0, none⟩ = some (.int .i64 k)) :
    Calls Tryz.prog 116 #[.slice ad L c2, .func (.func 117) #[] #[.pointer (some ⟨cb, 0, none⟩)]] w fun e w' => e = .returned (.int .i64 (pvI a (d + L) d k)) ∧ w' = w := by
  have HC := Lib.hid hc
  have HAD := Lib.hid had
  have HP := Lib.hid (fun q => pivI_of (a := a) (m := d + L) (d := d) (k := k) (q := q))
  have HP0 := Lib.hid (pivI_no (a := a) (m := d + L) (d := d) (k := k))
  have HV := Lib.hid (fun q (h : pivI a (d + L) d k = some q) => pvI_some h)
  have HV0 := Lib.hid (fun (h : pivI a (d + L) d k = none) => pvI_none h)
  obtain ⟨r, hr⟩ : ∃ r, pvI a (d + L) d k = r := ⟨_, rfl⟩
  rw [hr] at HV HV0 ⊢
  clear hc had hr
  go_enter Tryz.func116, Tryz.ntmps116
  go_wp2
  go_loopw [8] (fun v wr => ∃ i : Nat, i ≤ L ∧ v = .int .i64 i ∧ Hid (∀ j, d ≤ j → j < d + i → a j k = 0) ∧ Hid (wr = w)) (fun v _ => L - (intOf v).toNat)
  case atStart => exact ⟨0, by omega, rfl, fun j h1 h2 => by omega, rfl⟩
  case round =>
    obtain ⟨i, hi, rfl, hz, hw⟩ := hrel
    by_cases hlt : i < L
    · have hi1 : (i : Int) < (L : Int) := by omega
      have hi0 : (0 : Int) ≤ (i : Int) := by omega
      obtain rfl := HAD.out (by omega)
      obtain ⟨h1, h2⟩ := HC.out i hlt
      rw [← hw.out] at h1 h2
      have h3 := hcb
      rw [← hw.out] at h3
      have HX := Lib.hid (fun h9 => HP.out (d + i) (by omega) (by omega) h9 hz.out)
      have HZ := Lib.hid (fun (h9 : a (d + i) k = 0) j (e1 : d ≤ j) (e2 : j < d + (i + 1)) => (show a j k = 0 from by
        by_cases e : j = d + i
        · rw [e]; exact h9
        · exact hz.out j e1 (by omega)))
      have HR := Lib.hid (fun h9 => HV.out (d + i) (HX.out h9))
      generalize a (d + i) k = x at h2 HX HZ HR
      have HNZ := Lib.hid (iNz n (cp (d + i)) (bk (d + i)) cb k x wr hk h3 h2)
      clear h2 h3
      go_wp2_with fail
      refine HNZ.out.mono ?_
      rintro e w2 ⟨rfl, rfl⟩
      by_cases hx : x = 0
      · have hb : (x != 0) = false := by simp [hx]
        have HN := Lib.hid (HZ.out hx)
        clear hx
        go_wp2
        go_roundw
        case rel => first
          | exact ⟨i + 1, by omega, by go_num, HN.out, hw⟩
          | (repeat apply Exists.intro
             exact ⟨⟨i + 1, by omega, by go_num, HN.out, hw⟩, rfl⟩)
        case measure => first | (simp [intOf]; done) | (simp [intOf]; omega)
      · have hb : (x != 0) = true := by rw [bne_iff_ne]; exact hx
        have HN := Lib.hid (HR.out hx)
        clear hx
        go_wp2
        go_ret
        exact ⟨by rw [HN.out, Nat.add_sub_cancel_left]; rfl, hw.out⟩
    · obtain rfl : i = L := by omega
      have HN := Lib.hid (HV0.out (HP0.out (fun j e1 e2 => hz.out j e1 e2)))
      go_wp2
      go_ret
      exact ⟨by rw [HN.out]; rfl, hw.out⟩
end

section
open Go.RowKit

theorem ints_In64 {Q : List Nat} (h : ∀ m ∈ Q, m < 9223372036854775808) : ∀ z ∈ ints Q, In64 z := by
  intro z hz
  unfold ints at hz
  obtain ⟨m, hm, rfl⟩ := List.mem_map.1 hz
  have := h m hm
  unfold In64
  omega
/-- What the elimination gives: the columns of the leading ones, the rows reduced in their place. -/
def GivesRd (B : Nat) (w : World) (v : Value) (p : Int) (m n c : Nat) (bk : Nat → Nat) (P : Mt) (e : Ending) (w' : World) : Prop :=
  ∃ vl bk' cp', e = .returned vl ∧ MtAt B w' v m n bk' cp' (redI p m P c).1 ∧ w'.ownsRow w.heap.size 3 1 vl (redI p m P c).2.length (iv (ints (redI p m P c).2)) ∧
    ButP (fun b => v.ownBlock = some b ∨ InR m bk b) w w' ∧ ∀ b, InR m bk' b → InR m bk b
set_option maxHeartbeats 8000000 in
set_option maxRecDepth 100000 in
theorem iReduce (B m n cap : Nat) (ad : Option Addr) (bk cp : Nat → Nat) (P : Mt) (p : Int) (w : World) (hp : PrmI p) (hm : m ≤ 4194304) (hn : n ≤ 4194304) (h0 : m = 0 → ad = none ∧ cap = 0)
    (hb : ∀ i j, i < m → j < n → 0 ≤ P i j ∧ P i j < p) (h : MtAt B w (.slice ad m cap) m n bk cp P) :
    Calls Tryz.prog 70 #[.int .i64 p, .slice ad m cap, .int .i64 n] w (GivesRd B w (.slice ad m cap) p m n n bk P) := by
  obtain ⟨i0, hi, hz0, hz1, hz2⟩ := info_parts info_int
  have H := Lib.hid h
  have HBP := Lib.hid (fun k (hk : k ≤ n) => redI_is hp hb k hk)
  have HFW := Lib.hid (fun k (hk : k ≤ n) => redI_few hp hb hk)
  have HSK := Lib.hid (fun k => redI_skip (p := p) (m := m) (k := k) (P := P))
  have HST := Lib.hid (fun k q => redI_step (p := p) (m := m) (k := k) (q := q) (P := P))
  have HLOW := Lib.hid (show ∀ i, i < m → B ≤ bk i ∧ bk i < w.heap.size from fun i hi => h.lt hi)
  have HSP := Lib.hid (show ∀ b, (Value.slice ad m cap).ownBlock = some b → b < w.heap.size from fun b hb => (h.spine.lt b hb).2)
  clear h hb
  go_enter Tryz.func70, Tryz.ntmps70
  go_wp2
  go_loopw [7, 12] (fun lv i wr => ∃ (k : Nat) (bk' cp' : Nat → Nat), k ≤ n ∧ i = .int .i64 k ∧ Hid (MtAt B wr (.slice ad m cap) m n bk' cp' (redI p m P k).1) ∧ Hid (wr.ownsRow w.heap.size 3 1 lv (redI p m P k).2.length (iv (ints (redI p m P k).2))) ∧
    Hid (ButP (fun b => (Value.slice ad m cap).ownBlock = some b ∨ InR m bk b) w wr) ∧ Hid (∀ b, InR m bk' b → InR m bk b)) (fun _ i _ => n - (intOf i).toNat)
  case atStart => exact ⟨0, bk, cp, by omega, rfl, H.out, World.ownsRow_nil _ _ _ _, ButP.refl _ _, fun _ h => h⟩
  case round =>
    obtain ⟨k, bk', cp', hk, rfl, hM, hL, hK, hS⟩ := hrel
    by_cases hlt : k < n
    · have hk1 : (k : Int) < (n : Int) := by omega
      have hk0 : (0 : Int) ≤ (k : Int) := by omega
      have hfw := HFW.out k hk
      have hbp := HBP.out k hk
      have HBD := Lib.hid hbp.bnd
      have HN0 := Lib.hid (HSK.out k)
      have HN1 := Lib.hid (fun q => HST.out k q)
      clear hbp
      generalize redI p m P k = st at *
      obtain ⟨A, lead⟩ := st
      dsimp only at *
      obtain ⟨d, hd⟩ : ∃ d, lead.length = d := ⟨_, rfl⟩
      rw [hd] at hL HN0 HN1 hfw
      have HDL := Lib.hid hd
      obtain ⟨la, lc, rfl⟩ := own_form hL.out
      have HB1 := Lib.hid ((Below.refl wr.heap.size wr).alloc (Nat.le_refl _) (.cells #[.int .i64 k] 3))
      have HM1 := Lib.hid (hM.out.on HB1.out)
      have HL1 := Lib.hid (own_on hL.out HB1.out)
      have HK1 := Lib.hid (hK.out.trans (ButP.of_below HB1.out))
      have c1 : (wr.alloc (.cells #[.int .i64 k] 3)).cell? ⟨wr.heap.size, 0, none⟩ = some (.int .i64 k) := World.cell?_alloc_at _ _ _ _ rfl
      have hsz : (wr.alloc (.cells #[.int .i64 k] 3)).heap.size = wr.heap.size + 1 := by simp
      have hwr := hK.out.size
      clear hM hL hK hd
      by_cases hdm : d < m
      · obtain ⟨g, cap9, e9, hg1, hg2, hg3⟩ := HM1.out.form (by omega)
        injection e9 with e1 _ e2
        subst e1 e2
        have hcd : ¬ cap = d := by omega
        have hdm1 : (d : Int) ≤ (m : Int) := by omega
        have hd0 : (0 : Int) ≤ (d : Int) := by omega
        have hdc : (d : Int) ≤ (cap : Int) := by omega
        have hdc2 : (d : Int) < (cap : Int) := by omega
        have HC := Lib.hid (fun i (hi : i < m - d) => And.intro (HM1.out.cell (i := d + i) (by omega)) (HM1.out.num (i := d + i) (j := k) (by omega) hlt))
        go_wp2_with fail
        generalize (wr.alloc (.cells #[.int .i64 k] 3)) = w1 at *
        refine (iIdxRow g d (m - d) (cap - d) n k wr.heap.size (some ⟨g, d, none⟩) bk' cp' A w1 (by omega) hlt (fun _ => rfl) HC.out c1).mono ?_
        rw [show d + (m - d) = m by omega]
        rintro e w2 ⟨rfl, rfl⟩
        clear HC
        cases hq : pivI A m d k with
        | none =>
          have HV := Lib.hid (pvI_none hq)
          have HN := Lib.hid (HN0.out hq)
          have HM2 := Lib.hid (show MtAt B w2 (.slice (some ⟨g, 0, none⟩) m cap) m n bk' cp' (redI p m P (k + 1)).1 from by rw [HN.out]; exact HM1.out)
          have HL2 := Lib.hid (show w2.ownsRow w.heap.size 3 1 (.slice la d lc) (redI p m P (k + 1)).2.length (iv (ints (redI p m P (k + 1)).2)) from by rw [HN.out]; dsimp only; rw [HDL.out]; exact HL1.out)
          clear hq HM1 HL1 HN
          rw [HV.out]
          go_wp2
          go_roundw
          case rel => first
            | exact ⟨k + 1, bk', cp', by omega, by go_num, HM2.out, HL2.out, HK1.out, hS⟩
            | (repeat apply Exists.intro
               exact ⟨⟨k + 1, bk', cp', by omega, by go_num, HM2.out, HL2.out, HK1.out, hS⟩, rfl⟩)
          case measure => first | (simp [intOf]; done) | (simp [intOf]; omega)
        | some q =>
          obtain ⟨f1, f2, f3, f4⟩ := pivI_some hq
          obtain ⟨t, rfl⟩ : ∃ t, q = d + t := ⟨q - d, by omega⟩
          have HV := Lib.hid (show pvI A m d k = (t : Int) from by rw [pvI_some hq, Nat.add_sub_cancel_left])
          have HN := Lib.hid (HN1.out (d + t) hq)
          have s1 := HM1.out.cell (i := d) hdm
          have s2 := HM1.out.cell (i := d + t) f2
          have s3 := HM1.out.fzS d
          have s4 := HM1.out.fzS (d + t)
          have ht1 : (d : Int) + (t : Int) < (m : Int) := by omega
          have ht0 : (0 : Int) ≤ (t : Int) := by omega
          have HSW := Lib.hid (HM1.out.swap hdm f2)
          have HF3 := Lib.hid f3
          have HSY : ∃ y, (w2.setCell ⟨g, d, none⟩ (.slice (some ⟨bk' (d + t), 0, none⟩) n (cp' (d + t)))).cell? ⟨g, d + t, none⟩ = some y := by
            have h9 := ((HM1.out.spine.stored d (.slice (some ⟨bk' (d + t), 0, none⟩) n (cp' (d + t)))).1).cellAt (d + t) (by omega)
            rw [h9]
            exact ⟨_, List.getElem?_eq_getElem (by rw [List.length_set, hdL_len]; exact f2)⟩
          clear hq HM1 f4 f3
          rw [HV.out]
          obtain ⟨y, hy⟩ : ∃ y, (w2.setCell ⟨g, d, none⟩ (.slice (some ⟨bk' (d + t), 0, none⟩) n (cp' (d + t)))).cell? ⟨g, d + t, none⟩ = some y := HSY
          go_wp2_with fail
          go_region
          have hgw := HSP.out g rfl
          have HM5 := Lib.hid HSW.out.1.drew
          have HK5 := Lib.hid ((HK1.out.trans (ButP.of_grown HSW.out.2 (.inl rfl))).drew)
          have c5 : (((w2.setCell ⟨g, d, none⟩ (.slice (some ⟨bk' (d + t), 0, none⟩) n (cp' (d + t)))).setCell ⟨g, d + t, none⟩ (.slice (some ⟨bk' d, 0, none⟩) n (cp' d))).drew).cell? ⟨wr.heap.size, 0, none⟩ = some (.int .i64 k) := HSW.out.2.cell c1 (by intro e; injection e with e; dsimp only at e; omega)
          have HL5 := Lib.hid (show (((w2.setCell ⟨g, d, none⟩ (.slice (some ⟨bk' (d + t), 0, none⟩) n (cp' (d + t)))).setCell ⟨g, d + t, none⟩ (.slice (some ⟨bk' d, 0, none⟩) n (cp' d))).drew).ownsRow w.heap.size 3 1 (.slice la d lc) d (iv (ints lead)) from HL1.out.kept (grown_dr HSW.out.2) (by
            by_cases e : (Value.slice la d lc).ownBlock = some g
            · have := (HL1.out.lt g e).1; omega
            · exact .inr e))
          have hs5 : w2.heap.size ≤ (((w2.setCell ⟨g, d, none⟩ (.slice (some ⟨bk' (d + t), 0, none⟩) n (cp' (d + t)))).setCell ⟨g, d + t, none⟩ (.slice (some ⟨bk' d, 0, none⟩) n (cp' d))).drew).heap.size := HSW.out.2.size
          generalize (((w2.setCell ⟨g, d, none⟩ (.slice (some ⟨bk' (d + t), 0, none⟩) n (cp' (d + t)))).setCell ⟨g, d + t, none⟩ (.slice (some ⟨bk' d, 0, none⟩) n (cp' d))).drew) = w5 at *
          clear hy s1 s2 s3 s4 HSW c1
          go_wp2_with fail
          have HA := Lib.hid (show ∀ i j, i < m → j < n → 0 ≤ swpI A d (d + t) i j ∧ swpI A d (d + t) i j < p from fun i j h1 h2 => by
            rw [swpI_sg]
            exact HBD.out _ _ (sgI_lt hdm f2 h1) h2)
          have e0 : swpI A d (d + t) d k = A (d + t) k := by unfold swpI; rw [if_pos rfl]
          refine (iLead B g cap m n d k _ _ (swpI A d (d + t)) p w5 hp hm hn hdm hlt HA.out (by rw [e0]; exact HF3.out) HM5.out).mono ?_
          rintro e w6 ⟨rfl, hM6, hK6⟩
          rw [e0] at hM6
          have HM6 := Lib.hid (show MtAt B w6 (.slice (some ⟨g, 0, none⟩) m cap) m n (fun i => bk' (sgI d (d + t) i)) (fun i => cp' (sgI d (d + t) i)) (redI p m P (k + 1)).1 from by rw [HN.out]; exact hM6)
          have HS6 := Lib.hid (show ∀ b, InR m (fun i => bk' (sgI d (d + t) i)) b → InR m bk b from fun b hb => by
            obtain ⟨i, h1, h2⟩ := hb
            exact hS.out b ⟨_, sgI_lt hdm f2 h1, h2⟩)
          have hlow : ∀ b, InR m (fun i => bk' (sgI d (d + t) i)) b → b < w.heap.size := fun b hb => by
            obtain ⟨i, h1, rfl⟩ := HS6.out b hb
            exact (HLOW.out i h1).2
          have HK6 := Lib.hid (HK5.out.trans (hK6.mono fun b hb => .inr (HS6.out b hb)))
          have c6 : w6.cell? ⟨wr.heap.size, 0, none⟩ = some (.int .i64 k) := (World.cell?_of_block (hK6.block wr.heap.size (by omega) fun h9 => by have := hlow _ h9; omega)).trans c5
          have HL6 := Lib.hid (hK6.own HL5.out fun b hb h9 => by
            have h8 := (HL5.out.lt b hb).1
            have h7 := hlow b h9
            omega)
          have hs6 : w.heap.size ≤ w6.heap.size := HK6.out.size
          clear hM6 hK6 HK5 HL5 HM5 c5 e0
          go_wp2_with (first | (at_builtin; refine wpList_append_own _ rfl _ _ 24 rfl w.heap.size 3 i0 (.int .i64 0) 1 8 Tryz.underlying24 hi hz0 hz1 hz2 rfl (by decide) _ _ _ rfl (HL6.out.alloc _) ⟨w6.heap.size, 0, none⟩ 1 1 [.int .i64 (k : Int)] rfl rfl (liesV_block (t := 3) (fr := (0, 0)) (heap_alloc_new _ _)) (by simp [Value.oneCell']) ?c3 ?c4 ?c5 ?_) | go_in)
          case c3 => unfold maxLen; omega
          case c4 => omega
          case c5 => simp; omega
          intro v' w7 hown7 hgrow _
          rw [ints_app1] at hown7
          have HB7 := Lib.hid ((World.grownBy_alloc w6 (.cells #[.int .i64 (k : Int)] 3) (Value.slice la d lc).ownBlock).trans hgrow)
          have HL7 := Lib.hid (show w7.ownsRow w.heap.size 3 1 v' (redI p m P (k + 1)).2.length (iv (ints (redI p m P (k + 1)).2)) from by rw [HN.out]; dsimp only; rw [List.length_append, HDL.out]; exact hown7)
          have HLB := Lib.hid (fun b (hb : (Value.slice la d lc).ownBlock = some b) => (HL6.out.lt b hb).1)
          have HM7 := Lib.hid (show MtAt B w7 (.slice (some ⟨g, 0, none⟩) m cap) m n (fun i => bk' (sgI d (d + t) i)) (fun i => cp' (sgI d (d + t) i)) (redI p m P (k + 1)).1 from
            ⟨HM6.out.spine.kept HB7.out (.inr fun e => by have := HLB.out g e.symm; omega), fun i h1 => (HM6.out.rows i h1).kept HB7.out (.inr fun e => by have h9 : w.heap.size ≤ bk' (sgI d (d + t) i) := HLB.out _ e.symm; have h8 : bk' (sgI d (d + t) i) < w.heap.size := hlow _ ⟨i, h1, rfl⟩; omega), HM6.out.apart, HM6.out.off⟩)
          have HK7 := Lib.hid (show ButP (fun b => (Value.slice (some ⟨g, 0, none⟩) m cap).ownBlock = some b ∨ InR m bk b) w w7 from
            ⟨HB7.out.os.trans HK6.out.os, HB7.out.tape.trans HK6.out.tape, HB7.out.output.trans HK6.out.output, Nat.le_trans HK6.out.size HB7.out.size, fun b hb hnb => (HB7.out.block b (Nat.lt_of_lt_of_le hb hs6) fun e => by have := HLB.out b e.symm; omega).trans (HK6.out.block b hb hnb)⟩)
          clear hown7 hgrow HL6 HM6 HK6 HB7 c6 HK1 HL1
          go_wp2
          go_roundw
          case rel => first
            | exact ⟨k + 1, _, _, by omega, by go_num, HM7.out, HL7.out, HK7.out, HS6.out⟩
            | (repeat apply Exists.intro
               exact ⟨⟨k + 1, _, _, by omega, by go_num, HM7.out, HL7.out, HK7.out, HS6.out⟩, rfl⟩)
          case measure => first | (simp [intOf]; done) | (simp [intOf]; omega)
      · have HN := Lib.hid (HN0.out (pivI_no fun i h1 h2 => by omega))
        have HM2 := Lib.hid (show MtAt B (wr.alloc (.cells #[.int .i64 k] 3)) (.slice ad m cap) m n bk' cp' (redI p m P (k + 1)).1 from by rw [HN.out]; exact HM1.out)
        have HL2 := Lib.hid (show (wr.alloc (.cells #[.int .i64 k] 3)).ownsRow w.heap.size 3 1 (.slice la d lc) (redI p m P (k + 1)).2.length (iv (ints (redI p m P (k + 1)).2)) from by rw [HN.out]; dsimp only; rw [HDL.out]; exact HL1.out)
        have HV := Lib.hid (show pvI A (d + 0) d k = -1 from pvI_none (pivI_no fun i h1 h2 => by omega))
        have hdm1 : (d : Int) ≤ (m : Int) := by omega
        have hd0 : (0 : Int) ≤ (d : Int) := by omega
        have hmd : m - d = 0 := by omega
        clear HM1 HL1 HN
        by_cases hm0 : m = 0
        · obtain ⟨rfl, rfl⟩ := h0 hm0
          obtain rfl : d = 0 := by omega
          subst hm0
          go_wp2_with fail
          generalize (wr.alloc (.cells #[.int .i64 k] 3)) = w1 at *
          refine (iIdxRow 0 0 0 _ n k wr.heap.size _ bk' cp' A w1 (by omega) hlt (fun h9 => absurd h9 (by omega)) (fun i h9 => absurd h9 (by omega)) c1).mono ?_
          rintro e w2 ⟨rfl, rfl⟩
          rw [HV.out]
          go_wp2
          go_roundw
          case rel => first
            | exact ⟨k + 1, bk', cp', by omega, by go_num, HM2.out, HL2.out, HK1.out, hS⟩
            | (repeat apply Exists.intro
               exact ⟨⟨k + 1, bk', cp', by omega, by go_num, HM2.out, HL2.out, HK1.out, hS⟩, rfl⟩)
          case measure => first | (simp [intOf]; done) | (simp [intOf]; omega)
        · obtain ⟨g, cap9, e9, hg1, hg2, hg3⟩ := HM2.out.form (by omega)
          injection e9 with e1 _ e2
          subst e1 e2
          obtain rfl : d = m := by omega
          have hdc : (d : Int) ≤ (cap : Int) := by omega
          by_cases hcd : cap = d
          · subst hcd
            go_wp2_with fail
            generalize (wr.alloc (.cells #[.int .i64 k] 3)) = w1 at *
            refine (iIdxRow 0 cap 0 _ n k wr.heap.size _ bk' cp' A w1 (by omega) hlt (fun h9 => absurd h9 (by omega)) (fun i h9 => absurd h9 (by omega)) c1).mono ?_
            rintro e w2 ⟨rfl, rfl⟩
            rw [HV.out]
            go_wp2
            go_roundw
            case rel => first
              | exact ⟨k + 1, bk', cp', by omega, by go_num, HM2.out, HL2.out, HK1.out, hS⟩
              | (repeat apply Exists.intro
                 exact ⟨⟨k + 1, bk', cp', by omega, by go_num, HM2.out, HL2.out, HK1.out, hS⟩, rfl⟩)
            case measure => first | (simp [intOf]; done) | (simp [intOf]; omega)
          · have hdc2 : (d : Int) < (cap : Int) := by omega
            go_wp2_with fail
            generalize (wr.alloc (.cells #[.int .i64 k] 3)) = w1 at *
            refine (iIdxRow 0 d 0 _ n k wr.heap.size _ bk' cp' A w1 (by omega) hlt (fun h9 => absurd h9 (by omega)) (fun i h9 => absurd h9 (by omega)) c1).mono ?_
            rintro e w2 ⟨rfl, rfl⟩
            rw [HV.out]
            go_wp2
            go_roundw
            case rel => first
              | exact ⟨k + 1, bk', cp', by omega, by go_num, HM2.out, HL2.out, HK1.out, hS⟩
              | (repeat apply Exists.intro
                 exact ⟨⟨k + 1, bk', cp', by omega, by go_num, HM2.out, HL2.out, HK1.out, hS⟩, rfl⟩)
            case measure => first | (simp [intOf]; done) | (simp [intOf]; omega)
    · obtain rfl : k = n := by omega
      obtain ⟨la, lc, rfl⟩ := own_form hL.out
      go_wp2
      go_ret
      exact ⟨_, bk', cp', rfl, hM.out, hL.out, hK.out, hS.out⟩
end

end Go.Proofs.YtkcclhnligajeaaGreatDoor
