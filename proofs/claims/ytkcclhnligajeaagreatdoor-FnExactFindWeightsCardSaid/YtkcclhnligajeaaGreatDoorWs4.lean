/-
  The elimination in the model: what the call gives.
-/
import Derived.Test.YtkcclhnligajeaaGreatDoorWs3
import Derived.Test.YtkcclhnligajeaaGreatDoorVbf
import Derived.Test.YtkcclhnligajeaaGreatDoorVal
import Derived.Test.YtkcclhnligajeaaGreatDoorVbg
import Derived.Maps.AppendAt
import Derived.Deep.Cut
namespace Go.Proofs.YtkcclhnligajeaaGreatDoor
open Go.RowKit

theorem own_pos {w : World} {B size k : Nat} {t : TypeId} {v : Value} {xs : List Value} (h : w.ownsRow B t size v k xs) (hk : 0 < k) : ∃ g c, v = .slice (some ⟨g, 0, none⟩) k c ∧ B ≤ g ∧ g < w.heap.size := by
  rcases h.2 with ⟨_, h0⟩ | ⟨g, cap, cur, rfl, hb, hg, _⟩
  · omega
  · exact ⟨g, cap, rfl, hb, (Array.getElem?_eq_some_iff.1 hg).1⟩
theorem own_lit_ss (w : World) (B g : Nat) (h : B ≤ w.heap.size) (hg : w.heap.size = g) : (w.alloc (.cells #[] 24)).ownsRow B 24 1 (.slice (some ⟨g, 0, none⟩) 0 0) 0 [] := by
  subst hg
  simpa using World.ownsRow_lit (base := B) (e := 24) (size := 1) w #[] 0 h (by simp [maxLen]) rfl
theorem tmod_fix (p v : Int) : (v.tmod p + p) % p = v % p := by
  rw [Int.tmod_def, show v - p * v.tdiv p + p = v + p * (1 - v.tdiv p) by rw [Int.mul_sub, Int.mul_one]; omega]
  exact Int.add_mul_emod_self_left _ _ _
theorem updM_updM (a : Mt) (k : Nat) (f g : Nat → Int) : updM (updM a k f) k g = updM a k g := by
  funext i
  unfold updM
  by_cases e : i = k
  · rw [if_pos e, if_pos e]
  · rw [if_neg e, if_neg e, if_neg e]
/-- Where the first row from t on that is not 0 in column k lies; -1 if there is none. -/
def pvA (a : Mt) (m t k : Nat) : Int := match pivI a m t k with | some q => (q : Int) | none => -1
theorem pvA_some {a : Mt} {m t k q : Nat} (h : pivI a m t k = some q) : pvA a m t k = (q : Int) := by unfold pvA; rw [h]
theorem pvA_none {a : Mt} {m t k : Nat} (h : pivI a m t k = none) : pvA a m t k = -1 := by unfold pvA; rw [h]
theorem pvA_hit {a : Mt} {m t k : Nat} (ht : t < m) (h : a t k ≠ 0) : pvA a m t k = (t : Int) := pvA_some (pivI_of (Nat.le_refl _) ht h (fun i h1 h2 => by omega))
theorem pvA_miss {a : Mt} {m t k : Nat} (h : a t k = 0) : pvA a m t k = pvA a m (t + 1) k := by
  cases hq : pivI a m (t + 1) k with
  | some q =>
    obtain ⟨f1, f2, f3, f4⟩ := pivI_some hq
    rw [pvA_some hq]
    exact pvA_some (pivI_of (by omega) f2 f3 (fun i h1 h2 => by
      by_cases e : i = t
      · rw [e]; exact h
      · exact f4 i (by omega) h2))
  | none =>
    have f := pivI_none hq
    rw [pvA_none hq]
    exact pvA_none (pivI_no (fun i h1 h2 => by
      by_cases e : i = t
      · rw [e]; exact h
      · exact f i (by omega) h2))
/-- The numbers of a row ahead of column j are turned. -/
def upT (f g : Nat → Int) (j : Nat) : Nat → Int := fun c => if c < j then g c else f c
theorem upT_zero (f g : Nat → Int) : upT f g 0 = f := by funext c; unfold upT; rw [if_neg (by omega)]
theorem upT_at (f g : Nat → Int) (j : Nat) : upT f g j j = f j := by unfold upT; rw [if_neg (by omega)]
theorem upT_step (f g : Nat → Int) (j : Nat) (n : Nat) : lstI n (fun i => if i = j then g j else upT f g j i) = lstI n (upT f g (j + 1)) := lstI_congr fun i _ => by
  unfold upT
  by_cases e : i = j
  · subst e; rw [if_pos rfl, if_pos (by omega)]
  · rw [if_neg e]
    by_cases e2 : i < j
    · rw [if_pos e2, if_pos (by omega)]
    · rw [if_neg e2, if_neg (by omega)]
theorem upT_end {f g : Nat → Int} {n j : Nat} (h : j < n) : upT f g n j = g j := by unfold upT; rw [if_pos h]
/-- What the model's elimination gives. -/
def GivesRS (w : World) (p : Int) (m n : Nat) (P : Mt) (e : Ending) (w' : World) : Prop :=
  ∃ v vl bk cp, e = .returned (.tuple #[v, vl]) ∧ MtAt w.heap.size w' v m n bk cp (redI p m P n).1 ∧ w'.ownsRow w.heap.size 3 1 vl (redI p m P n).2.length (iv (ints (redI p m P n).2)) ∧ Below w.heap.size w w'
set_option maxHeartbeats 16000000 in
set_option maxRecDepth 100000 in
theorem sReduce (B m n cap : Nat) (ad : Option Addr) (bk cp : Nat → Nat) (P : Mt) (p : Int) (w : World) (hp : PrmI p) (hm : m ≤ 4194304) (hn1 : 1 ≤ n) (hn : n ≤ 4194304)
    (hb : ∀ i j, i < m → j < n → 0 ≤ P i j ∧ P i j < p) (h : MtAt B w (.slice ad m cap) m n bk cp P) :
    Calls Tryz.prog 74 #[.slice ad m cap, .int .i64 n, .int .i64 p] w (GivesRS w p m n P) := by
  obtain ⟨i0, hi, hz0, hz1, hz2⟩ := info_parts info_int
  obtain ⟨j0, hj, hy0, hy1, hy2⟩ := info_parts info_intss
  have H := Lib.hid h
  have HBP := Lib.hid (fun k (hk : k ≤ n) => redI_is hp hb k hk)
  have HFW := Lib.hid (fun k (hk : k ≤ n) => redI_few hp hb hk)
  have HSK := Lib.hid (fun k => redI_skip (p := p) (m := m) (k := k) (P := P))
  have HST := Lib.hid (fun k q => redI_step (p := p) (m := m) (k := k) (q := q) (P := P))
  have HFL := Lib.hid (fun k => redI_full (p := p) (m := m) (k := k) (P := P))
  have hp1 := hp.pos
  have hpn : ¬ p = 0 := by omega
  clear h hb
  go_enter Tryz.func74, Tryz.ntmps74
  go_wp2_with fail
  have HR0 := Lib.hid (own_lit_ss w w.heap.size w.heap.size (Nat.le_refl _) rfl)
  have HB0 := Lib.hid ((Below.refl w.heap.size w).alloc (Nat.le_refl _) (.cells #[] 24))
  generalize (w.alloc (.cells #[] 24)) = w1 at *
  go_loopw [8, 9] (fun v i wr => ∃ (k : Nat) (b1 c1 : Nat → Nat), k ≤ m ∧ i = .int .i64 k ∧ Hid (MtAt w.heap.size wr v k n b1 c1 P) ∧ Hid (Below w.heap.size w wr)) (fun _ i _ => m - (intOf i).toNat)
  case atStart => exact ⟨0, bk, cp, by omega, rfl, ⟨HR0.out, fun i hi => absurd hi (by omega), fun i j hi => absurd hi (by omega), fun i hi => absurd hi (by omega)⟩, HB0.out⟩
  case round =>
    obtain ⟨k, b1, c1, hk, rfl, hM, hB⟩ := hrel
    obtain ⟨sa, sc, rfl⟩ := own_form hM.out.spine
    by_cases hlt : k < m
    · have hk1 : (k : Int) < (m : Int) := by omega
      have hk0 : (0 : Int) ≤ (k : Int) := by omega
      obtain ⟨g0, cap9, e9, hg1, hg2, hg3⟩ := H.out.form (by omega)
      injection e9 with e1 _ e2
      subst e1 e2
      have HBr := Lib.hid ((Below.refl wr.heap.size wr).alloc (Nat.le_refl _) (.cells #[] 3))
      have hHr := (H.out.on hB.out).on HBr.out
      have p1 := hHr.cell hlt
      have HSR := Lib.hid (hHr.rows k hlt)
      have HLT := Lib.hid (own_lit_i wr wr.heap.size wr.heap.size (Nat.le_refl _) rfl)
      have hszr := hB.out.size
      have hsa : (wr.alloc (.cells #[] 3)).heap.size = wr.heap.size + 1 := by simp
      clear hHr
      go_wp2_with (first | (at_builtin; refine wpList_app rfl _ _ rfl wr.heap.size B 0 n _ _ [] (lstI n (P k)) rfl rfl HLT.out HSR.out ?a1 ?a2 ?_) | go_in)
      case a1 => omega
      intro v' w2 hown2 hgrow2
      obtain ⟨b, c, rfl, hb1, hb2⟩ := own_pos hown2 (by omega)
      have HB2 := Lib.hid (show Below wr.heap.size wr w2 from HBr.out.grown hgrow2 (by simp) (fun x hx => by injection hx with hx; dsimp only at hx; omega))
      have HR2 := Lib.hid hown2
      have HB3 := Lib.hid (HB2.out.alloc HB2.out.size (.cells #[.slice (some ⟨b, 0, none⟩) n c] 24))
      have hs2 := HB2.out.size
      have HM2 := Lib.hid (hM.out.on HB2.out)
      have HLW := Lib.hid (fun i (hi : i < k) => (hM.out.lt hi).2)
      have HSP := Lib.hid (fun x (hx : (Value.slice sa k sc).ownBlock = some x) => (hM.out.spine.lt x hx).2)
      clear hown2 hgrow2 hM HLT HSR HBr p1
      go_wp2_with (first | (at_builtin; refine wpList_append_own_at _ rfl _ _ 66 rfl w.heap.size 24 j0 (.slice none 0 0) 1 24 Tryz.underlying66 hj hy0 hy1 hy2 rfl (by decide) _ _ _ rfl (HM2.out.spine.alloc _) ⟨w2.heap.size, 0, none⟩ 1 1 [.slice (some ⟨b, 0, none⟩) n c] rfl rfl (liesV_block (l := [.slice (some ⟨b, 0, none⟩) n c]) (t := 24) (fr := (0, 0)) (heap_alloc_new _ _)) ?d2 ?d3 ?d4 ?d5 ?_) | go_in)
      case d2 => intro u hu; rw [List.mem_singleton] at hu; subst hu; rfl
      case d3 => unfold maxLen; omega
      case d4 => omega
      case d5 => simp; omega
      intro v2 w4 hs4 hg4 hiff hob
      have HM4 := Lib.hid (MtAt.snoc (f := P k) ((HM2.out).on ((Below.refl w2.heap.size w2).alloc (Nat.le_refl _) (.cells #[.slice (some ⟨b, 0, none⟩) n c] 24))) hs4 (own_below (HR2.out.alloc _) hszr) hg4 (fun i hi e => by have := HLW.out i hi; omega) (fun e => by have := HSP.out b e; omega) (by
        rcases hob with h9 | h9
        · exact .inl h9
        · exact .inr ⟨_, h9, by simp⟩))
      have HB4 := Lib.hid (show Below w.heap.size w w4 from (hB.out.trans (HB3.out.mono hszr)).grown hg4 (by simp; omega) (fun x hx => (HM2.out.spine.lt x hx).1))
      have HM5 := Lib.hid (HM4.out.same (a' := P) (fun i hi j _ => by
        by_cases e : i = k
        · subst e; rw [updM_at]
        · rw [updM_off _ _ e]))
      clear hs4 hg4 hiff hob HM4 HM2 HB3 HR2 HB2
      go_wp2
      go_roundw
      case rel => first
        | exact ⟨k + 1, _, _, by omega, by go_num, HM5.out, HB4.out⟩
        | (repeat apply Exists.intro
           exact ⟨⟨k + 1, _, _, by omega, by go_num, HM5.out, HB4.out⟩, rfl⟩)
      case measure => first | (simp [intOf]; done) | (simp [intOf]; omega)
    · obtain rfl : k = m := by omega
      have HB5 := Lib.hid (hB.out.alloc hB.out.size (.cells #[] 3))
      have HM5 := Lib.hid (hM.out.on ((Below.refl wr.heap.size wr).alloc (Nat.le_refl _) (.cells #[] 3)))
      have HLT := Lib.hid (own_lit_i wr wr.heap.size wr.heap.size (Nat.le_refl _) rfl)
      have HLW := Lib.hid (fun i (hi : i < k) => (hM.out.lt hi).2)
      have HSP := Lib.hid (fun x (hx : (Value.slice sa k sc).ownBlock = some x) => (hM.out.spine.lt x hx).2)
      have hLw := hB.out.size
      obtain ⟨L0, hL0⟩ : ∃ L0, wr.heap.size = L0 := ⟨_, rfl⟩
      rw [hL0] at HLT HLW HSP hLw
      have hz5 : L0 ≤ (wr.alloc (.cells #[] 3)).heap.size := by simp; omega
      clear hM hB
      go_wp2_with fail
      generalize (wr.alloc (.cells #[] 3)) = w5 at *
      clear hL0
      go_loopw [10, 11] (fun lv i wq => ∃ (c : Nat) (b2 c2 : Nat → Nat), c ≤ n ∧ L0 ≤ wq.heap.size ∧ i = .int .i64 c ∧ Hid (MtAt w.heap.size wq (.slice sa k sc) k n b2 c2 (redI p k P c).1) ∧ Hid (wq.ownsRow L0 3 1 lv (redI p k P c).2.length (iv (ints (redI p k P c).2))) ∧
        Hid (Below w.heap.size w wq) ∧ Hid (∀ i, i < k → b2 i < L0)) (fun _ i _ => n - (intOf i).toNat)
      case atStart => exact ⟨0, b1, c1, by omega, hz5, rfl, HM5.out, HLT.out, HB5.out, HLW.out⟩
      case round =>
        obtain ⟨c, b2, c2, hc, hz, rfl, hM, hL, hK, hS⟩ := hrel
        generalize wr = wq at *
        obtain ⟨la, lc, rfl⟩ := own_form hL.out
        have hfw := HFW.out c hc
        by_cases hlt : c < n
        · have hc1 : (c : Int) < (n : Int) := by omega
          have hc0 : (0 : Int) ≤ (c : Int) := by omega
          by_cases hdm9 : (redI p k P c).2.length < k
          · have hbp := HBP.out c hc
            have HBD := Lib.hid hbp.bnd
            have HN0 := Lib.hid (HSK.out c)
            have HN1 := Lib.hid (fun q => HST.out c q)
            clear hbp
            generalize redI p k P c = st at *
            obtain ⟨A, lead⟩ := st
            dsimp only at *
            obtain ⟨d, hd⟩ : ∃ d, lead.length = d := ⟨_, rfl⟩
            rw [hd] at hL HN0 HN1 hfw hdm9 ⊢
            have HDL := Lib.hid hd
            have hdm : (d : Int) < (k : Int) := by omega
            have hd0 : (0 : Int) ≤ (d : Int) := by omega
            obtain ⟨g, cap9, e9, hg1, hg2, hg3⟩ := hM.out.form (by omega)
            injection e9 with e1 _ e2
            subst e1 e2
            have hpk : pvA A k k c = -1 := pvA_none (pivI_no fun i h1 h2 => by omega)
            have HPK := Lib.hid hpk
            clear hd hpk
            go_wp2
            go_loopw [13, 14] (fun at9 i wr9 => ∃ t : Nat, d ≤ t ∧ t ≤ k ∧ i = .int .i64 ((t : Int) - 1) ∧ at9 = .int .i64 (pvA A k t c) ∧ Hid (wr9 = wq)) (fun _ i _ => (intOf i + 1 - d).toNat)
            case atStart => exact ⟨k, by omega, by omega, rfl, by rw [HPK.out], rfl⟩
            case round =>
              obtain ⟨t, ht1, ht2, rfl, rfl, hw⟩ := hrel
              by_cases htd : d < t
              · obtain ⟨s, rfl⟩ : ∃ s, t = s + 1 := ⟨t - 1, by omega⟩
                rw [show ((s + 1 : Nat) : Int) - 1 = (s : Int) by omega]
                have hs1 : (d : Int) ≤ (s : Int) := by omega
                have hs2 : (s : Int) < (k : Int) := by omega
                have hs0 : (0 : Int) ≤ (s : Int) := by omega
                have p1 := hM.out.cell (i := s) (by omega)
                have p2 := hM.out.num (i := s) (j := c) (by omega) hlt
                rw [← hw.out] at p1 p2
                have HH := Lib.hid (fun h9 => pvA_hit (a := A) (m := k) (t := s) (k := c) (by omega) h9)
                have HMI := Lib.hid (fun h9 => pvA_miss (a := A) (m := k) (t := s) (k := c) h9)
                by_cases hx : A s c = 0
                · have hb9 : (A s c != 0) = false := by simp [hx]
                  have HN := Lib.hid (HMI.out hx)
                  clear hx
                  generalize A s c = x at p2 hb9
                  go_wp2
                  go_roundw
                  case rel => first
                    | exact ⟨s, by omega, by omega, rfl, by rw [HN.out], hw⟩
                    | (repeat apply Exists.intro
                       exact ⟨⟨s, by omega, by omega, rfl, by rw [HN.out], hw⟩, rfl⟩)
                  case measure => first | (simp [intOf]; done) | (simp [intOf]; omega)
                · have hb9 : (A s c != 0) = true := by rw [bne_iff_ne]; exact hx
                  have HN := Lib.hid (HH.out hx)
                  clear hx
                  generalize A s c = x at p2 hb9
                  go_wp2
                  go_roundw
                  case rel => first
                    | exact ⟨s, by omega, by omega, rfl, by rw [HN.out], hw⟩
                    | (repeat apply Exists.intro
                       exact ⟨⟨s, by omega, by omega, rfl, by rw [HN.out], hw⟩, rfl⟩)
                  case measure => first | (simp [intOf]; done) | (simp [intOf]; omega)
              · obtain rfl : t = d := by omega
                have hw9 : wr = wq := hw.out
                subst hw9
                cases hq : pivI A k t c with
                | none =>
                  have HV := Lib.hid (pvA_none hq)
                  have HN := Lib.hid (HN0.out hq)
                  have HM2 := Lib.hid (show MtAt w.heap.size wr (.slice (some ⟨g, 0, none⟩) k sc) k n b2 c2 (redI p k P (c + 1)).1 from by rw [HN.out]; exact hM.out)
                  have HL2 := Lib.hid (show wr.ownsRow L0 3 1 (.slice la t lc) (redI p k P (c + 1)).2.length (iv (ints (redI p k P (c + 1)).2)) from by rw [HN.out]; dsimp only; rw [HDL.out]; exact hL.out)
                  clear hq hM hL HN
                  rw [HV.out]
                  go_wp2
                  go_roundw
                  case rel => first
                    | exact ⟨c + 1, b2, c2, by omega, hz, by go_num, HM2.out, HL2.out, hK, hS⟩
                    | (repeat apply Exists.intro
                       exact ⟨⟨c + 1, b2, c2, by omega, hz, by go_num, HM2.out, HL2.out, hK, hS⟩, rfl⟩)
                  case measure => first | (simp [intOf]; done) | (simp [intOf]; omega)
                | some q =>
                  obtain ⟨f1, f2, f3, f4⟩ := pivI_some hq
                  have HV := Lib.hid (pvA_some hq)
                  have HN := Lib.hid (HN1.out q hq)
                  have hq0 : (0 : Int) ≤ (q : Int) := by omega
                  have hq1 : (q : Int) < (k : Int) := by omega
                  have htk : t < k := hdm9
                  have s1 := hM.out.cell (i := t) htk
                  have s2 := hM.out.cell (i := q) f2
                  have s3 := hM.out.fzS t
                  have s4 := hM.out.fzS q
                  have HSW := Lib.hid (hM.out.swap htk f2)
                  have HSY : ∃ y, (wr.setCell ⟨g, t, none⟩ (.slice (some ⟨b2 q, 0, none⟩) n (c2 q))).cell? ⟨g, q, none⟩ = some y := by
                    have h9 := ((hM.out.spine.stored t (.slice (some ⟨b2 q, 0, none⟩) n (c2 q))).1).cellAt q (by omega)
                    rw [h9]
                    exact ⟨_, List.getElem?_eq_getElem (by rw [List.length_set, hdL_len]; exact f2)⟩
                  obtain ⟨y9, hy9⟩ := HSY
                  have hAq := HBD.out q c f2 hlt
                  obtain ⟨-, i1, i2⟩ := invM_is hp (x := A q c) (by omega)
                  have HIV := Lib.hid (fun w9 => sInvM p (A q c) hp (by omega) (by omega) w9)
                  have HSB := Lib.hid (show ∀ i, i < k → (fun i => b2 (sgI t q i)) i < L0 from fun i hi => hS.out _ (sgI_lt htk f2 hi))
                  have hgL := HSP.out g rfl
                  have hL0s := Nat.le_trans hz HSW.out.2.size
                  have hLr := (hL.out.lt)
                  have HL6 := Lib.hid (show ((wr.setCell ⟨g, t, none⟩ (.slice (some ⟨b2 q, 0, none⟩) n (c2 q))).setCell ⟨g, q, none⟩ (.slice (some ⟨b2 t, 0, none⟩) n (c2 t))).ownsRow L0 3 1 (.slice la t lc) t (iv (ints lead)) from hL.out.kept HSW.out.2 (by
                    by_cases e : (Value.slice la t lc).ownBlock = some g
                    · have := (hLr g e).1; omega
                    · exact .inr e))
                  have HK6 := Lib.hid ((hK.out.setCell (p := ⟨g, t, none⟩) hg1 (.slice (some ⟨b2 q, 0, none⟩) n (c2 q))).setCell (p := ⟨g, q, none⟩) hg1 (.slice (some ⟨b2 t, 0, none⟩) n (c2 t)))
                  have e0 : swpI A t q t c = A q c := by unfold swpI; rw [if_pos rfl]
                  have HSA := Lib.hid (show ∀ i j, i < k → j < n → 0 ≤ swpI A t q i j ∧ swpI A t q i j < p from fun i j h1 h2 => by
                    rw [swpI_sg]
                    exact HBD.out _ _ (sgI_lt htk f2 h1) h2)
                  have HM6 := Lib.hid HSW.out.1
                  have HND := Lib.hid (show redI p k P (c + 1) = (clrI p (sclI p (swpI A t q) t (invM p (A q c))) t c, lead ++ [c]) from HN.out)
                  clear hq hM hL hK hS f4 f3 HN HSW HN0 HN1 hLr
                  generalize A q c = z at *
                  generalize invM p z = iv9 at *
                  generalize swpI A t q = A6 at *
                  generalize (fun i => b2 (sgI t q i)) = b3 at HM6 HSB
                  generalize (fun i => c2 (sgI t q i)) = c3 at HM6
                  rw [HV.out]
                  go_upto_region 21 with fail
                  generalize ((wr.setCell ⟨g, t, none⟩ (.slice (some ⟨b2 q, 0, none⟩) n (c2 q))).setCell ⟨g, q, none⟩ (.slice (some ⟨b2 t, 0, none⟩) n (c2 t))) = w6 at *
                  clear hy9 s1 s2 s3 s4
                  have q1 := HM6.out.cell htk
                  have q2 := HM6.out.num htk hlt
                  rw [e0] at q2
                  go_wp2_with fail
                  refine (HIV.out w6).mono ?_
                  rintro e w7 ⟨rfl, rfl⟩
                  clear q1 q2
                  have HSC := Lib.hid (show ∀ i, i < k → ∀ j, j < n → updM A6 t (upT (A6 t) (fun x => A6 t x * iv9 % p) n) i j = sclI p A6 t iv9 i j from fun i _ j hj => by
                    unfold sclI
                    by_cases e : i = t
                    · subst e; rw [updM_at, if_pos rfl, upT_end hj]
                    · rw [updM_off _ _ e, if_neg e])
                  have HSN := Lib.hid (show ∀ i j, i < k → j < n → 0 ≤ sclI p A6 t iv9 i j ∧ sclI p A6 t iv9 i j < p from fun i j h1 h2 => by
                    unfold sclI
                    split
                    · exact ⟨Int.emod_nonneg _ (by omega), Int.emod_lt_of_pos _ (by omega)⟩
                    · exact HSA.out i j h1 h2)
                  generalize sclI p A6 t iv9 = s at HSC HSN HND
                  go_wp2
                  go_loopw [17] (fun i wr => ∃ j : Nat, j ≤ n ∧ i = .int .i64 j ∧ Hid (MtAt w.heap.size wr (.slice (some ⟨g, 0, none⟩) k sc) k n b3 c3 (updM A6 t (upT (A6 t) (fun x => A6 t x * iv9 % p) j))) ∧ Hid (ButP (InR k b3) w7 wr)) (fun i _ => n - (intOf i).toNat)
                  case atStart => exact ⟨0, by omega, rfl, HM6.out.same (fun i _ j _ => by
                    rw [upT_zero]
                    by_cases e : i = t
                    · subst e; rw [updM_at]
                    · rw [updM_off _ _ e]), ButP.refl _ _⟩
                  case round =>
                    obtain ⟨j, hj9, rfl, hM, hK⟩ := hrel
                    by_cases hlt9 : j < n
                    · have hj1 : (j : Int) < (n : Int) := by omega
                      have hj0 : (0 : Int) ≤ (j : Int) := by omega
                      have q1 := hM.out.cell htk
                      have q2 := hM.out.num htk hlt9
                      rw [updM_at, upT_at] at q2
                      have hxj := HSA.out t j htk hlt9
                      have hm := mul_bdW (x := A6 t j) (y := iv9) (by omega) (by omega)
                      have hRw := hM.out.rows t htk
                      rw [updM_at] at hRw
                      have q3 := hRw.frozenAt j
                      have HRS := Lib.hid (row_set (j := j) hRw (A6 t j * iv9 % p))
                      have HUS := Lib.hid (upT_step (A6 t) (fun x => A6 t x * iv9 % p) j n)
                      have HG := Lib.hid (show (fun x => A6 t x * iv9 % p) j = A6 t j * iv9 % p from rfl)
                      clear hRw
                      go_wp2_with fail
                      go_still_tail 17, (by kernel_rfl)
                      change wpList _ _ _ _ _ wr.drew
                      have HM8 := Lib.hid hM.out.drew
                      have HK8 := Lib.hid hK.out.drew
                      have HRD : Hid ((wr.drew.setCell ⟨b3 t, j, none⟩ (.int .i64 (A6 t j * iv9 % p))).ownsRow w.heap.size 3 1 (.slice (some ⟨b3 t, 0, none⟩) n (c3 t)) n (iv (lstI n fun i => if i = j then A6 t j * iv9 % p else upT (A6 t) (fun x => A6 t x * iv9 % p) j i))) := HRS.out.1
                      have q4 : wr.drew.cell? ⟨b3 t, j, none⟩ = some (.int .i64 (A6 t j)) := q2
                      have q5 : wr.drew.frozen? ⟨b3 t, j, none⟩ = false := q3
                      have HGR := Lib.hid (grown_set1 wr.drew (b3 t) j (.int .i64 (A6 t j * iv9 % p)))
                      clear q1 q2 q3 hM hK HRS
                      generalize wr.drew = w8 at *
                      go_wp2
                      have HMN := Lib.hid (show MtAt w.heap.size (w8.setCell ⟨b3 t, j, none⟩ (.int .i64 (A6 t j * iv9 % p))) (.slice (some ⟨g, 0, none⟩) k sc) k n b3 c3 (updM A6 t (upT (A6 t) (fun x => A6 t x * iv9 % p) (j + 1))) from by
                        have h9 := HM8.out.row htk HGR.out (by rw [← HUS.out]; exact HRD.out)
                        rwa [updM_updM] at h9)
                      have HKN := Lib.hid (HK8.out.trans (ButP.of_grown HGR.out ⟨t, htk, rfl⟩))
                      go_roundw
                      case rel => first
                        | exact ⟨j + 1, by omega, by go_num, HMN.out, HKN.out⟩
                        | (repeat apply Exists.intro
                           exact ⟨⟨j + 1, by omega, by go_num, HMN.out, HKN.out⟩, rfl⟩)
                      case measure => first | (simp [intOf]; done) | (simp [intOf]; omega)
                    · obtain rfl : j = n := by omega
                      have HM9 := Lib.hid (hM.out.same HSC.out)
                      have HK9 := Lib.hid hK.out
                      clear hM hK HSC HM6 HSA
                      generalize wr = w9 at *
                      go_wp2
                      go_loopw [18] (fun i wr => ∃ r : Nat, r ≤ k ∧ i = .int .i64 r ∧ Hid (MtAt w.heap.size wr (.slice (some ⟨g, 0, none⟩) k sc) k j b3 c3 (clrT p s t c r)) ∧ Hid (ButP (InR k b3) w7 wr)) (fun i _ => k - (intOf i).toNat)
                      case atStart => exact ⟨0, by omega, rfl, HM9.out.same (fun i _ j _ => by unfold clrT; rw [if_neg (by omega)]), HK9.out⟩
                      case round =>
                        obtain ⟨r, hr9, rfl, hM, hK⟩ := hrel
                        generalize wr = wv at *
                        by_cases hltr : r < k
                        · have hr1 : (r : Int) < (k : Int) := by omega
                          have hr0 : (0 : Int) ≤ (r : Int) := by omega
                          have q1 := hM.out.cell hltr
                          have q2 := hM.out.num hltr hlt
                          have er : ∀ x, clrT p s t c r r x = s r x := fun x => by unfold clrT; rw [if_neg (by omega)]
                          rw [er] at q2
                          by_cases hrt : r = t
                          · have hb9 : ((r : Int) != (t : Int)) = false := by simp [hrt]
                            have HMN := Lib.hid (hM.out.same (a' := clrT p s t c (r + 1)) (fun i _ x _ => by
                              unfold clrT
                              by_cases e : i < r
                              · rw [if_pos e, if_pos (by omega)]
                              · rw [if_neg e]
                                by_cases e2 : i = r
                                · rw [if_pos (by omega)]
                                  unfold clrI
                                  rw [if_pos (by omega)]
                                · rw [if_neg (by omega)]))
                            have hn0 : (0 : Int) < (j : Int) := by omega
                            clear hM hrt er
                            go_wp2
                            refine wp_loop_rounds 1 ?_
                            rw [rounds_succ]
                            go_wp2
                            go_roundw
                            case rel => first
                              | exact ⟨r + 1, by omega, by go_num, HMN.out, hK⟩
                              | (repeat apply Exists.intro
                                 exact ⟨⟨r + 1, by omega, by go_num, HMN.out, hK⟩, rfl⟩)
                            case measure => first | (simp [intOf]; done) | (simp [intOf]; omega)
                          · have hb9 : ((r : Int) != (t : Int)) = true := by rw [bne_iff_ne]; omega
                            have ed : ∀ x, clrT p s t c r t x = s t x := fun x => by
                              unfold clrT
                              split
                              · unfold clrI; rw [if_pos rfl]
                              · rfl
                            have hfr := HSN.out r c hltr hlt
                            have HCL := Lib.hid (show ∀ x, clrI p s t c r x = (s r x - s r c * s t x) % p from fun x => by unfold clrI; rw [if_neg hrt])
                            have HMN0 := Lib.hid (show ∀ i, i < k → ∀ x, x < j → clrT p s t c r i x = updM (clrT p s t c r) r (upT (s r) (clrI p s t c r) 0) i x from fun i _ x _ => by
                              rw [upT_zero]
                              by_cases e : i = r
                              · subst e; rw [updM_at, er]
                              · rw [updM_off _ _ e])
                            have HMN1 := Lib.hid (show ∀ i, i < k → ∀ x, x < j → updM (clrT p s t c r) r (upT (s r) (clrI p s t c r) j) i x = clrT p s t c (r + 1) i x from fun i _ x hx => by
                              by_cases e : i = r
                              · subst e; rw [updM_at, upT_end hx]; unfold clrT; rw [if_pos (by omega)]
                              · rw [updM_off _ _ e]
                                unfold clrT
                                by_cases e2 : i < r
                                · rw [if_pos e2, if_pos (by omega)]
                                · rw [if_neg e2, if_neg (by omega)])
                            have HED := Lib.hid ed
                            have hap : b3 t ≠ b3 r := fun e => hrt (hM.out.apart r t hltr htk e.symm)
                            clear er ed
                            obtain ⟨f9, hf9⟩ : ∃ f9, s r c = f9 := ⟨_, rfl⟩
                            rw [hf9] at q2 hfr HCL
                            clear hf9
                            go_wp2
                            clear q1 q2
                            go_loopw [20] (fun i wr => ∃ x : Nat, x ≤ j ∧ i = .int .i64 x ∧ Hid (MtAt w.heap.size wr (.slice (some ⟨g, 0, none⟩) k sc) k j b3 c3 (updM (clrT p s t c r) r (upT (s r) (clrI p s t c r) x))) ∧ Hid (ButP (InR k b3) w7 wr)) (fun i _ => j - (intOf i).toNat)
                            case atStart => exact ⟨0, by omega, rfl, hM.out.same HMN0.out, hK⟩
                            case round =>
                              obtain ⟨x, hx9, rfl, hM, hK⟩ := hrel
                              by_cases hltx : x < j
                              · have hx1 : (x : Int) < (j : Int) := by omega
                                have hx0 : (0 : Int) ≤ (x : Int) := by omega
                                have q1 := hM.out.cell hltr
                                have q2 := hM.out.num hltr hltx
                                rw [updM_at, upT_at] at q2
                                have q6 := hM.out.cell htk
                                have q7 := hM.out.num htk hltx
                                rw [updM_off _ _ (show t ≠ r by omega), HED.out] at q7
                                have hrx := HSN.out r x hltr hltx
                                have htx := HSN.out t x htk hltx
                                have hm := mul_bdW (x := f9) (y := s t x) (by omega) (by omega)
                                have hRw := hM.out.rows r hltr
                                rw [updM_at] at hRw
                                have q3 := hRw.frozenAt x
                                have HUS := Lib.hid (upT_step (s r) (clrI p s t c r) x j)
                                have hcl := HCL.out x
                                obtain ⟨z1, hz1⟩ : ∃ z1, s r x = z1 := ⟨_, rfl⟩
                                obtain ⟨z2, hz2⟩ : ∃ z2, s t x = z2 := ⟨_, rfl⟩
                                rw [hz1] at q2 hrx hcl
                                rw [hz2] at q7 htx hm hcl
                                have hv : -25 ≤ z1 - f9 * z2 ∧ z1 - f9 * z2 ≤ 25 := by omega
                                have t1 := Int.lt_tmod_of_pos (z1 - f9 * z2) (show 0 < p by omega)
                                have t2 := Int.tmod_lt_of_pos (z1 - f9 * z2) (show 0 < p by omega)
                                have t3 := tmod_fix p (z1 - f9 * z2)
                                rw [← hcl] at t3
                                obtain ⟨rr, hrr⟩ : ∃ rr, (z1 - f9 * z2).tmod p = rr := ⟨_, rfl⟩
                                rw [hrr] at t1 t2 t3
                                have t4 : 0 ≤ rr + p ∧ rr + p ≤ 10 := by omega
                                obtain ⟨y8, hy8⟩ : ∃ y8, (rr + p) % p = y8 := ⟨_, rfl⟩
                                have HY8 := Lib.hid (show clrI p s t c r x = y8 from t3.symm.trans hy8)
                                have HRS := Lib.hid (row_set (j := x) hRw y8)
                                clear hRw hcl t3 hz1 hz2
                                go_wp2_with fail
                                go_still_tail 29, (by kernel_rfl)
                                change wpList _ _ _ _ _ wr.drew
                                have HM8 := Lib.hid hM.out.drew
                                have HK8 := Lib.hid hK.out.drew
                                have HRD : Hid ((wr.drew.setCell ⟨b3 r, x, none⟩ (.int .i64 y8)).ownsRow w.heap.size 3 1 (.slice (some ⟨b3 r, 0, none⟩) j (c3 r)) j (iv (lstI j fun i => if i = x then y8 else upT (s r) (clrI p s t c r) x i))) := HRS.out.1
                                have q4 : wr.drew.cell? ⟨b3 r, x, none⟩ = some (.int .i64 z1) := q2
                                have q5 : wr.drew.frozen? ⟨b3 r, x, none⟩ = false := q3
                                have HGR := Lib.hid (grown_set1 wr.drew (b3 r) x (.int .i64 y8))
                                clear q1 q2 q3 q6 q7 hM hK HRS
                                generalize wr.drew = w8 at *
                                go_wp2
                                have HMN := Lib.hid (show MtAt w.heap.size (w8.setCell ⟨b3 r, x, none⟩ (.int .i64 y8)) (.slice (some ⟨g, 0, none⟩) k sc) k j b3 c3 (updM (clrT p s t c r) r (upT (s r) (clrI p s t c r) (x + 1))) from by
                                  have h9 := HM8.out.row hltr HGR.out (by rw [← HUS.out, HY8.out]; exact HRD.out)
                                  rwa [updM_updM] at h9)
                                have HKN := Lib.hid (HK8.out.trans (ButP.of_grown HGR.out ⟨r, hltr, rfl⟩))
                                go_roundw
                                case rel => first
                                  | exact ⟨x + 1, by omega, by go_num, HMN.out, HKN.out⟩
                                  | (repeat apply Exists.intro
                                     exact ⟨⟨x + 1, by omega, by go_num, HMN.out, HKN.out⟩, rfl⟩)
                                case measure => first | (simp [intOf]; done) | (simp [intOf]; omega)
                              · obtain rfl : x = j := by omega
                                have HMN := Lib.hid (hM.out.same HMN1.out)
                                clear hM
                                go_wp2
                                go_roundw
                                case rel => first
                                  | exact ⟨r + 1, by omega, by go_num, HMN.out, hK⟩
                                  | (repeat apply Exists.intro
                                     exact ⟨⟨r + 1, by omega, by go_num, HMN.out, hK⟩, rfl⟩)
                                case measure => first | (simp [intOf]; done) | (simp [intOf]; omega)
                        · obtain rfl : r = k := by omega
                          have HMC := Lib.hid (hM.out.same (a' := clrI p s t c) (fun i hi x _ => by unfold clrT; rw [if_pos hi]))
                          have hlowR := hM.out.low
                          have HLV := Lib.hid (hK.out.own HL6.out fun b hb h9 => by
                            have h8 := (HL6.out.lt b hb).1
                            obtain ⟨i, h7, rfl⟩ := h9
                            have := HSB.out i h7
                            omega)
                          have HKV := Lib.hid (HK6.out.trans (hK.out.below hlowR HK6.out.size))
                          have hLv : L0 ≤ wv.heap.size := by
                            have h9 := hK.out.size
                            have h8 := hL0s
                            omega
                          clear hM hK hlowR
                          go_wp2_with (first | (at_builtin; refine wpList_append_own _ rfl _ _ 24 rfl L0 3 i0 (.int .i64 0) 1 8 Tryz.underlying24 hi hz0 hz1 hz2 rfl (by decide) _ _ _ rfl (HLV.out.alloc _) ⟨wv.heap.size, 0, none⟩ 1 1 [.int .i64 (c : Int)] rfl rfl (liesV_block (t := 3) (fr := (0, 0)) (heap_alloc_new _ _)) (by simp [Value.oneCell']) ?c3 ?c4 ?c5 ?_) | go_in)
                          case c3 => unfold maxLen; omega
                          case c4 => omega
                          case c5 => simp; omega
                          intro v' w10 hown7 hgrow _
                          rw [ints_app1] at hown7
                          have HB7 := Lib.hid ((World.grownBy_alloc wv (.cells #[.int .i64 (c : Int)] 3) (Value.slice la t lc).ownBlock).trans hgrow)
                          have HL7 := Lib.hid (show w10.ownsRow L0 3 1 v' (redI p r P (c + 1)).2.length (iv (ints (redI p r P (c + 1)).2)) from by rw [HND.out]; dsimp only; rw [List.length_append, HDL.out]; exact hown7)
                          have HLB := Lib.hid (fun b (hb : (Value.slice la t lc).ownBlock = some b) => (HLV.out.lt b hb).1)
                          have HM7 := Lib.hid (show MtAt w.heap.size w10 (.slice (some ⟨g, 0, none⟩) r sc) r j b3 c3 (redI p r P (c + 1)).1 from by
                            rw [HND.out]
                            exact ⟨HMC.out.spine.kept HB7.out (.inr fun e => by have := HLB.out g e.symm; omega), fun i h1 => (HMC.out.rows i h1).kept HB7.out (.inr fun e => by have h9 : L0 ≤ b3 i := HLB.out _ e.symm; have h8 := HSB.out i h1; omega), HMC.out.apart, HMC.out.off⟩)
                          have HK7 := Lib.hid (show Below w.heap.size w w10 from HKV.out.trans (⟨HB7.out.os, HB7.out.tape, HB7.out.output, HB7.out.size, fun b hb => HB7.out.block b (by have := HKV.out.size; omega) fun e => by have := HLB.out b e.symm; omega⟩))
                          have hz10 : L0 ≤ w10.heap.size := Nat.le_trans hLv HB7.out.size
                          clear hown7 hgrow HLV HMC HKV HB7
                          go_wp2
                          go_roundw
                          case rel => first
                            | exact ⟨c + 1, b3, c3, by omega, hz10, by go_num, HM7.out, HL7.out, HK7.out, HSB.out⟩
                            | (repeat apply Exists.intro
                               exact ⟨⟨c + 1, b3, c3, by omega, hz10, by go_num, HM7.out, HL7.out, HK7.out, HSB.out⟩, rfl⟩)
                          case measure => first | (simp [intOf]; done) | (simp [intOf]; omega)
          · have HF := Lib.hid (HFL.out c (by omega) (n - c))
            rw [show c + (n - c) = n by omega] at HF
            have hdm1 : ¬ (((redI p k P c).2.length : Nat) : Int) < (k : Int) := by omega
            have HM2 := Lib.hid (show MtAt w.heap.size wq (.slice sa k sc) k n b2 c2 (redI p k P n).1 from by rw [HF.out]; exact hM.out)
            have HL2 := Lib.hid (show wq.ownsRow w.heap.size 3 1 (.slice la (redI p k P c).2.length lc) (redI p k P n).2.length (iv (ints (redI p k P n).2)) from by rw [HF.out]; exact own_below hL.out hLw)
            clear hM hL
            go_wp2
            go_ret2
            exact ⟨_, _, b2, c2, rfl, HM2.out, HL2.out, hK.out⟩
        · obtain rfl : c = n := by omega
          have HL2 := Lib.hid (own_below hL.out hLw)
          go_wp2
          go_ret2
          exact ⟨_, _, b2, c2, rfl, hM.out, HL2.out, hK.out⟩
end Go.Proofs.YtkcclhnligajeaaGreatDoor
