/-
  The search of the model: the ways that it lists, at most so many: what the call gives.
-/
import Derived.Test.YtkjlmgkjcmebbaaGreatDoorSc4
namespace Go.Proofs.YtkjlmgkjcmebbaaGreatDoor
open Go.RowKit

/-- What the search gives. -/
def GivesT (w : World) (T : List (List Nat)) (e : Ending) (w' : World) : Prop := ∃ v es, e = .returned v ∧ OwnI w.heap.size w' v es ∧ es.map kI = T ∧ Below w.heap.size w w'
theorem lit_one (w : World) (m : Int) : (w.alloc (.cells #[.int .i64 m] 3)).ownsRow w.heap.size 3 1 (.slice (some ⟨w.heap.size, 0, none⟩) 1 1) 1 (iv [m]) :=
  ⟨rfl, .inr ⟨w.heap.size, 1, #[.int .i64 m], rfl, Nat.le_refl _, heap_alloc_new _ _, Nat.le_refl _, by unfold maxLen; omega, rfl, rfl⟩⟩
theorem lit_rows (w : World) : OwnI w.heap.size (w.alloc (.cells #[] 24)) (.slice (some ⟨w.heap.size, 0, none⟩) 0 0) [] :=
  ⟨⟨rfl, .inr ⟨w.heap.size, 0, #[], rfl, Nat.le_refl _, heap_alloc_new _ _, Nat.le_refl _, Nat.zero_le _, rfl, rfl⟩⟩, fun e he => (by cases he), fun e he => (by cases he)⟩
theorem lit_nil (w : World) : OwnI w.heap.size ((w.alloc (.cells #[] 3)).alloc (.cells #[.slice (some ⟨w.heap.size, 0, none⟩) 0 0] 24)) (.slice (some ⟨w.heap.size + 1, 0, none⟩) 1 1) [(w.heap.size, 0, [])] := by
  have hs : (w.alloc (.cells #[] 3)).heap.size = w.heap.size + 1 := by simp
  have h0 : (w.alloc (.cells #[] 3)).ownsRow w.heap.size 3 1 (.slice (some ⟨w.heap.size, 0, none⟩) 0 0) 0 (iv (ints [])) := ⟨rfl, .inr ⟨w.heap.size, 0, #[], rfl, Nat.le_refl _, heap_alloc_new _ _, Nat.le_refl _, Nat.zero_le _, rfl, rfl⟩⟩
  have h1 := heap_alloc_new (w.alloc (.cells #[] 3)) (.cells #[.slice (some ⟨w.heap.size, 0, none⟩) 0 0] 24)
  rw [hs] at h1
  refine ⟨⟨rfl, .inr ⟨w.heap.size + 1, 1, _, rfl, by omega, h1, Nat.le_refl _, by unfold maxLen; omega, rfl, rfl⟩⟩, fun e he => ?_, fun e he => ?_⟩
  · rw [List.mem_singleton.1 he]
    exact h0.alloc _
  · rw [List.mem_singleton.1 he]
    intro e2
    have : w.heap.size + 1 = w.heap.size := Option.some.inj e2
    omega
theorem lit_low {s n c j : Nat} (h : (Value.slice (some ⟨s, 0, none⟩) n c).ownBlock = some j) : s ≤ j := by
  have : s = j := Option.some.inj h
  omega
theorem grown_low {A w w' : World} {o : Obj} {r : Option Nat} (h : Below A.heap.size A w) (hg : ((w.alloc o).drew).grownBy w' r) (hr : ∀ j, r = some j → A.heap.size ≤ j) : Below A.heap.size A w' :=
  ((h.alloc h.size o).drew).grown hg (by show A.heap.size ≤ (w.alloc o).heap.size; have := h.size; simp; omega) hr
theorem lit_ne {s n c g g1 : Nat} (h : (Value.slice (some ⟨s, 0, none⟩) n c).ownBlock = some g1) (hg : g < s) : g ≠ g1 := by
  have : s = g1 := Option.some.inj h
  omega
/-- One list more in the list of lists. -/
theorem search_step {B m g g1 g2 q1 c c1 c2 : Nat} {wr w6 w7 : World} {el : List Nat} {es : List IE} (hl : es.length = q1) (h6 : OwnI B w6 (.slice (some ⟨g, 0, none⟩) q1 c) es)
    (hown6 : w6.ownsRow wr.heap.size 3 1 (.slice (some ⟨g1, 0, none⟩) (1 + el.length) c1) (1 + el.length) (iv [(m : Int)] ++ iv (ints el))) (k6 : Below wr.heap.size wr w6)
    (hg7 : (w6.alloc (.cells #[.slice (some ⟨g1, 0, none⟩) (1 + el.length) c1] 24)).grownBy w7 (Value.slice (some ⟨g, 0, none⟩) q1 c).ownBlock)
    (hown7 : w7.ownsRow B 24 1 (.slice (some ⟨g2, 0, none⟩) (q1 + 1) c2) (q1 + 1) (es.map ieV ++ [.slice (some ⟨g1, 0, none⟩) (1 + el.length) c1]))
    (hat : (Value.slice (some ⟨g, 0, none⟩) q1 c).ownBlock = some g2 ∨ g2 = w6.heap.size + 1) (hB : B ≤ wr.heap.size) (hne : g ≠ g1) :
    OwnI B w7 (.slice (some ⟨g2, 0, none⟩) (es ++ [(g1, c1, m :: el)]).length c2) (es ++ [(g1, c1, m :: el)]) := by
  have e1 : (es ++ [(g1, c1, m :: el)]).length = q1 + 1 := by rw [List.length_append, hl]; rfl
  rw [e1]
  have h7 := h6.on ((Below.refl w6.heap.size w6).alloc (Nat.le_refl _) (.cells #[.slice (some ⟨g1, 0, none⟩) (1 + el.length) c1] 24))
  have e2 : iv [(m : Int)] ++ iv (ints el) = iv (ints (m :: el)) := by simp [iv, ints]
  rw [e2, Nat.add_comm 1] at hown6
  rw [Nat.add_comm 1] at hown7
  refine h7.snoc (e := (g1, c1, m :: el)) (by rw [hl]; exact hown7) hg7 ?_ (own_below (hown6.alloc _) hB) (fun e => hne (Option.some.inj e))
  rcases hat with h | h
  · exact .inl h.symm
  · exact .inr ⟨g2, rfl, by rw [h]; simp⟩

set_option maxHeartbeats 8000000 in
set_option maxRecDepth 100000 in
theorem sSearch (n cap : Nat) (a : Option Addr) (Q : List Nat) (hn : n ≤ 100000) (hQ : ∀ m ∈ Q, m ≠ 0 ∧ m < 68719476736) :
    ∀ (F f : Nat), f ≤ F → f < 68719476736 → ∀ M : Nat, 1 ≤ M → M ≤ 100000 → ∀ (B : Nat) (w : World), IntsAt B w a n (ints Q) → B ≤ w.heap.size →
    Calls Tryz.prog 61 #[.slice a n cap, .int .i64 f, .int .i64 M] w (GivesT w ((tilR Q f).take M)) := by
  intro F
  have base : ∀ M : Nat, 1 ≤ M → ∀ w : World, Calls Tryz.prog 61 #[.slice a n cap, .int .i64 (0 : Nat), .int .i64 M] w (GivesT w ((tilR Q 0).take M)) := fun M hM w => by
    have HC := Lib.hid (show (tilR Q 0).take M = [[]] from by
      rw [tilR_zero]
      obtain ⟨k, rfl⟩ : ∃ k, M = k + 1 := ⟨M - 1, by omega⟩
      simp)
    rw [HC.out]
    have HL := Lib.hid (lit_nil w)
    go_enter Tryz.func61, Tryz.ntmps61
    go_wp2
    go_ret
    exact ⟨_, _, rfl, HL.out, rfl, ((Below.refl _ _).alloc (Nat.le_refl _) _).alloc (by simp) _⟩
  induction F with
  | zero =>
    intro f hf0 hf M hM1 hM2 B w hc hB
    obtain rfl : f = 0 := by omega
    exact base M hM1 w
  | succ F ih =>
    intro f hfF hf M hM1 hM2 B w hc hB
    by_cases h0 : f = 0
    · subst h0
      exact base M hM1 w
    clear base
    obtain ⟨i0, hi, hz0, hz1, hz2⟩ := info_parts info_int
    obtain ⟨j0, ji, jz0, jz1, jz2⟩ := info_parts info_rows
    have hfz : ((f : Int) == 0) = false := by simp; omega
    have HIH := Lib.hid ih
    have HQ := Lib.hid hQ
    have H := Lib.hid hc
    have hln := hc.1
    rw [ints_len] at hln
    have HTA := Lib.hid (tilR_all Q h0)
    have hlow := lowB_lt h0 (show f < 2 ^ 64 by omega)
    have HSL := Lib.hid (fun W => sLow f h0 (show f < 9223372036854775808 by omega) W)
    obtain ⟨low, hlw⟩ : ∃ low, lowB f = low := ⟨_, rfl⟩
    have HFI := Lib.hid (fun m => fit_is (m := m) hlw)
    rw [hlw] at hlow HSL
    clear ih hc hlw
    have hl0 : (0 : Int) ≤ (low : Int) := by omega
    have HL0 := Lib.hid (lit_rows w)
    have HB0 := Lib.hid ((Below.refl w.heap.size w).alloc (Nat.le_refl _) (.cells #[] 24))
    go_enter Tryz.func61, Tryz.ntmps61
    go_wp2_with fail
    generalize (w.alloc (.cells #[] 24)) = w0 at *
    refine (HSL.out w0).mono ?_
    rintro e w1 ⟨rfl, hb1⟩
    have HB1 := Lib.hid (HB0.out.trans (hb1.mono HB0.out.size))
    have HL1 := Lib.hid (HL0.out.on hb1)
    clear hb1 HB0 HL0
    go_wp2
    go_loopw [7, 9] (fun ov ix wr => ∃ (i g c : Nat) (es : List IE), i ≤ n ∧ ix = .int .i64 (i : Int) ∧ ov = .slice (some ⟨g, 0, none⟩) es.length c ∧ es.length ≤ M ∧ Hid (OwnI w.heap.size wr (.slice (some ⟨g, 0, none⟩) es.length c) es) ∧ Hid (es.map kI = (segTo Q Q (fitB f) f i).take M) ∧ Below w.heap.size w wr) (fun _ ix _ => n - (intOf ix).toNat)
    case atStart => exact ⟨0, w.heap.size, 0, [], by omega, rfl, rfl, by simp, HL1.out, by rw [segTo_zero]; simp [Hid], HB1.out⟩
    case round =>
      clear HB1 HL1
      obtain ⟨i, g, c, es, hi9, rfl, rfl, hel, hown, hmap, hb⟩ := hrel
      have hsr := hb.size
      have HLM := Lib.hid (show es.length = ((segTo Q Q (fitB f) f i).take M).length from by
        have h1 := hmap.out
        unfold Hid at h1
        rw [← h1, List.length_map])
      obtain ⟨q0, hq0⟩ : ∃ q0, es.length = q0 := ⟨_, rfl⟩
      rw [hq0] at hel HLM hown ⊢
      by_cases hlt : i < n
      · have hi1 : (i : Int) < (n : Int) := by omega
        have hi0 : (0 : Int) ≤ (i : Int) := by omega
        by_cases htM : q0 < M
        · have htM1 : (q0 : Int) < (M : Int) := by omega
          obtain ⟨b9, o9, rfl, hb9, hc9⟩ := (H.out.on (hb.mono hB)).2.2 (by omega)
          have p1 := hc9 i hlt
          rw [ints_get] at p1
          have hm := HQ.out (Q.getD i 0) (getD_memN (by omega))
          have HCY := Lib.hid (segTo_yes Q (C := Q) (p := fitB f) f (i := i) (by omega))
          have HCN := Lib.hid (segTo_no Q (C := Q) (p := fitB f) f (i := i) (by omega))
          have HFM := Lib.hid (HFI.out (Q.getD i 0))
          have HFS := Lib.hid (fun h => fit_sub (f := f) (m := Q.getD i 0) h)
          obtain ⟨m, hmm⟩ : ∃ m, Q.getD i 0 = m := ⟨_, rfl⟩
          have HMM := Lib.hid hmm
          rw [hmm] at p1 hm HCY HCN HFM HFS
          clear hc9 hmm
          obtain ⟨u, hu⟩ : ∃ u : Nat, m / 2 ^ low = u := ⟨_, rfl⟩
          have hdiv : (m : Int) / (2 : Int) ^ low = (u : Int) := by rw [← hu]; simp
          have hum : u ≤ m := by rw [← hu]; exact Nat.div_le_self _ _
          have hand := bit_val (m := m) low (by omega)
          rw [hu] at hand
          clear hu
          cases htb : m.testBit low with
          | false =>
            rw [htb] at hand
            have hand1 : bits .and .i64 (u : Int) 1 = 0 := hand
            have HL5 := Lib.hid (show es.map kI = (segTo Q Q (fitB f) f (i + 1)).take M from by rw [HCN.out (by rw [HFM.out, htb]; rfl)]; exact hmap.out)
            have HB5 := Lib.hid (fun q => below_drewn hb q)
            have HO5 := Lib.hid (fun q => (show OwnI w.heap.size (wr.drewN q) (.slice (some ⟨g, 0, none⟩) es.length c) es from by rw [hq0]; exact ⟨hown.out.row, hown.out.each, hown.out.off⟩))
            clear HCY HCN HFM HFS hand htb
            go_wp2_with fail
            go_quiet (fail)
            go_wp2
            go_roundw
            case rel => first
              | exact ⟨i + 1, g, c, es, by omega, by go_num, by rw [hq0], by omega, HO5.out _, HL5.out, HB5.out _⟩
              | (repeat apply Exists.intro
                 exact ⟨⟨i + 1, g, c, es, by omega, by go_num, by rw [hq0], by omega, HO5.out _, HL5.out, HB5.out _⟩, rfl⟩)
            case measure => first | (simp [intOf]; done) | (simp [intOf]; omega)
          | true =>
            rw [htb] at hand
            have hand1 : bits .and .i64 (u : Int) 1 = 1 := hand
            have hmf := i64_and_nat m f (by omega) (by omega)
            by_cases hsb : m &&& f = m
            · rw [hsb] at hmf
              have e3 : ((m : Int) != (m : Int)) = false := by simp
              have hfit : fitB f m = true := by rw [HFM.out, htb, hsb]; simp
              have hfs := HFS.out hfit
              have HCS := Lib.hid (HCY.out hfit)
              obtain ⟨fm, hfm⟩ : ∃ fm, f - m = fm := ⟨_, rfl⟩
              obtain ⟨r, hr⟩ : ∃ r, M - q0 = r := ⟨_, rfl⟩
              have hfm1 : (f : Int) - (m : Int) = (fm : Int) := by omega
              have hr1 : (M : Int) - (q0 : Int) = (r : Int) := by omega
              rw [hfm] at HCS hfs
              have HR := Lib.hid (fun v9 (h9 : Below w.heap.size w v9) => HIH.out fm (by omega) (by omega) r (by omega) (by omega) B v9 (H.out.on (h9.mono hB)) (Nat.le_trans hB h9.size))
              have HSG := Lib.hid (show (segTo Q Q (fitB f) f (i + 1)).take M = es.map kI ++ (((tilR Q fm).take r).map (m :: ·)) from by
                have h1 := hmap.out
                have h2 := HLM.out
                unfold Hid at h1
                rw [HCS.out, take_seg _ _ (by omega), ← h1, List.map_take, List.length_map, hq0, hr])
              have HRL := Lib.hid (fun t (h : t ∈ (tilR Q fm).take r) => til_len40 (show fm < 68719476736 by omega) (List.mem_of_mem_take h))
              have htr : r + q0 = M := by omega
              have hrn : ((tilR Q fm).take r).length ≤ r := by rw [List.length_take]; exact Nat.min_le_left _ _
              obtain ⟨TT, hTT⟩ : ∃ TT, (tilR Q fm).take r = TT := ⟨_, rfl⟩
              rw [hTT] at HR HSG HRL hrn
              have hbd : ∀ q, Below w.heap.size w (wr.drewN q) := fun q => below_drewn hb q
              have HOd := Lib.hid (fun q => (show OwnI w.heap.size (wr.drewN q) (.slice (some ⟨g, 0, none⟩) q0 c) es from ⟨hown.out.row, hown.out.each, hown.out.off⟩))
              have HBd := Lib.hid hbd
              clear HCY HCN HFM HFS hand htb hfit hsb hTT HCS hbd
              obtain ⟨s4, hs4⟩ : ∃ s4, wr.heap.size = s4 := ⟨_, rfl⟩
              have hgl : g < s4 := by rw [← hs4]; exact (hown.out.row.lt g rfl).2
              have hgw : w.heap.size ≤ g := (hown.out.row.lt g rfl).1
              go_wp2_with fail
              go_quiet (fail)
              go_wp2_with fail
              refine (HR.out _ (HBd.out _)).mono ?_
              rintro e w5 ⟨rv, es2, rfl, ho5, hmap5, hb5⟩
              obtain ⟨ra, rc, rfl⟩ := own_sliceR ho5.row
              have HB5 := Lib.hid ((HBd.out _).trans (hb5.mono (HBd.out _).size))
              have HOU := Lib.hid ((HOd.out _).on hb5)
              have HO5 := Lib.hid (show OwnI s4 w5 (.slice ra es2.length rc) es2 from by rw [← hs4]; exact ho5)
              have HE5 := Lib.hid (fun e (he : e ∈ es2) => (show s4 ≤ e.1 ∧ e.1 < w5.heap.size from by rw [← hs4]; exact ho5.lt he))
              have HG5 := Lib.hid (fun b (hb9 : (Value.slice ra es2.length rc).ownBlock = some b) => (show s4 ≤ b ∧ b < w5.heap.size from by rw [← hs4]; exact ho5.row.lt b hb9))
              have HT5 := Lib.hid hmap5
              have hql : es2.length ≤ r := by have h1 := congrArg List.length hmap5; rw [List.length_map] at h1; omega
              have hs5 : s4 ≤ w5.heap.size := by rw [← hs4]; exact hb5.size
              obtain ⟨q, hq⟩ : ∃ q, es2.length = q := ⟨_, rfl⟩
              rw [hq] at HO5 HG5 hql ⊢
              have HQ2 := Lib.hid hq
              clear ho5 hmap5 hb5 HR HBd HOd hown hb hq hs4 hmap
              go_wp2
              go_loopw [7, 11] (fun ov kx wx => ∃ (k g c : Nat) (es' : List IE), k ≤ q ∧ kx = .int .i64 (k : Int) ∧ ov = .slice (some ⟨g, 0, none⟩) es'.length c ∧ es'.length = q0 + k ∧ Hid (OwnI w.heap.size wx (.slice (some ⟨g, 0, none⟩) es'.length c) es') ∧ Hid (es'.map kI = es.map kI ++ (TT.take k).map (m :: ·)) ∧ Hid (OwnI s4 wx (.slice ra q rc) es2) ∧ (g < s4 ∨ w5.heap.size ≤ g) ∧ w.heap.size ≤ g ∧ Below w.heap.size w wx ∧ w5.heap.size ≤ wx.heap.size) (fun _ kx _ => q - (intOf kx).toNat)
              case atStart => exact ⟨0, g, c, es, by omega, rfl, by rw [hq0], by omega, by rw [hq0]; exact HOU.out, by simp [Hid], HO5.out, .inl hgl, hgw, HB5.out, Nat.le_refl _⟩
              case round =>
                clear HOU HO5 HB5 hgl hgw
                obtain ⟨k, g, c, es', hk, rfl, rfl, hel', hown, hmp, hrest, hgs, hgw, hb, hsx⟩ := hrel
                obtain ⟨q1, hq1⟩ : ∃ q1, es'.length = q1 := ⟨_, rfl⟩
                have HL1 := Lib.hid hq1
                rw [hq1] at hel' hown ⊢
                subst hel'
                have hsr := hb.size
                by_cases hkq : k < q
                · have hk1 : (k : Int) < (q : Int) := by omega
                  have hk0 : (0 : Int) ≤ (k : Int) := by omega
                  have hkm : es2.getD k dIE ∈ es2 := by have := HQ2.out; simp [List.getD, show k < es2.length by omega]
                  have hge : (es2.map ieV)[k]? = some (ieV (es2.getD k dIE)) := by have := HQ2.out; simp [List.getD, show k < es2.length by omega]
                  have hkT : TT.getD k [] = kI (es2.getD k dIE) ∧ k < TT.length := by
                    have h1 := HT5.out
                    have h2 := HQ2.out
                    subst h1
                    rw [List.length_map]
                    exact ⟨by simp [List.getD, show k < es2.length by omega], by omega⟩
                  have hrl := HRL.out (kI (es2.getD k dIE)) (by rw [← HT5.out]; exact List.mem_map_of_mem hkm)
                  have hee := hrest.out.each _ hkm
                  have hel := HE5.out _ hkm
                  obtain ⟨⟨eb, ec, el⟩, hek⟩ : ∃ e : IE, es2.getD k dIE = e := ⟨_, rfl⟩
                  rw [hek] at hge hkT hrl hee hel
                  have hrl2 : el.length ≤ 40 := hrl
                  have hel2 : s4 ≤ eb ∧ eb < w5.heap.size := hel
                  have HEE := Lib.hid (show wr.ownsRow s4 3 1 (.slice (some ⟨eb, 0, none⟩) el.length ec) el.length (iv (ints el)) from hee)
                  have HTK := Lib.hid (show (TT.take (k + 1)).map (m :: ·) = (TT.take k).map (m :: ·) ++ [m :: el] from by
                    rw [take_one hkT.2 [], List.map_append, hkT.1]
                    rfl)
                  obtain ⟨gr, hgr⟩ : ∃ gr, ra = some ⟨gr, 0, none⟩ := by
                    rcases hrest.out.row.2 with ⟨_, h0⟩ | ⟨g8, c8, cur, he8, _⟩
                    · have := HQ2.out; omega
                    · injection he8 with e1 _ _
                      exact ⟨g8, e1⟩
                  subst hgr
                  have hgr5 := HG5.out gr rfl
                  have p2 : wr.cell? ⟨gr, k, none⟩ = some (.slice (some ⟨eb, 0, none⟩) el.length ec) := by
                    have hrow := hrest.out.row
                    rw [HQ2.out] at hrow
                    have h1 := hrow.cellAt k (by omega)
                    rw [hge] at h1
                    exact h1
                  obtain ⟨b9, o9, hb9e, hb9, hc9⟩ := (H.out.on (hb.mono hB)).2.2 (by omega)
                  injection hb9e with hb9e
                  injection hb9e with hb9e ho9e _
                  subst hb9e ho9e
                  have p1 := hc9 i hlt
                  rw [ints_get, HMM.out] at p1
                  have m0 : (wr.alloc (.cells #[.int .i64 (m : Int)] 3)).cell? ⟨gr, k, none⟩ = some (.slice (some ⟨eb, 0, none⟩) el.length ec) := (((Below.refl wr.heap.size wr).alloc (Nat.le_refl _) _).cell (p := ⟨gr, k, none⟩) (by show gr < wr.heap.size; omega)).trans p2
                  have HLIT := Lib.hid (lit_one wr (m : Int))
                  clear hee hrl hel hge hkT hek hkm hc9
                  go_wp2_with fail
                  go_region_law (first
                    | (refine step_append_some _ rfl _ _ _ rfl wr.heap.size 3 i0 (.int .i64 0) 1 8 Tryz.underlying24 hi hz0 hz1 hz2 rfl (by omega) _ 1 (iv [(m : Int)]) rfl ?a1 ⟨eb, 0, none⟩ el.length ec (iv (ints el)) rfl ?a2 ?a3 (iv_one _) (by omega) ?a4 ?a5 ?a6 (wr.heap.size + 1) ?a7 ?_
                       (case a1 => exact HLIT.out)
                       (case a2 => rw [iv_length, ints_len]; omega)
                       (case a3 => have h9 := own_lies (HEE.out.alloc (.cells #[.int .i64 (m : Int)] 3)) 0; rw [List.drop_zero] at h9; exact h9)
                       (case a4 => unfold maxLen; omega)
                       (case a5 => omega)
                       (case a6 => simp)
                       (case a7 => simp)
                       intro g1 c1 w6 hown6 hgr6 hat6 hlt6
                       have k6 : Below wr.heap.size wr w6 := grown_low (Below.refl _ _) hgr6 (fun j hj => lit_low hj)
                       have HOW6 := Lib.hid (hown.out.on k6))
                    | (refine step_append_some _ rfl _ _ _ rfl w.heap.size 24 j0 (.slice none 0 0) 1 24 Tryz.underlying72 ji jz0 jz1 jz2 rfl (by omega) _ (q0 + k) (es'.map ieV) rfl ?b1 ⟨w6.heap.size, 0, none⟩ 1 1 [.slice (some ⟨g1, 0, none⟩) (1 + el.length) c1] rfl ?b2 ?b3 ?b4 (by omega) ?b5 ?b6 ?b7 (w6.heap.size + 1) ?b8 ?_
                       (case b1 => have h9 := (HOW6.out.row).alloc (.cells #[.slice (some ⟨g1, 0, none⟩) (1 + el.length) c1] 24); rw [HL1.out] at h9; exact h9)
                       (case b2 => rfl)
                       (case b3 => exact World.news_of_block (cs := #[.slice (some ⟨g1, 0, none⟩) (1 + el.length) c1]) (t := 24) (fr := (0, 0)) (heap_alloc_new _ _))
                       (case b4 => intro u9 hu9; rw [List.mem_singleton.1 hu9]; rfl)
                       (case b5 => unfold maxLen; omega)
                       (case b6 => omega)
                       (case b7 => have := k6.size; simp; omega)
                       (case b8 => simp)
                       intro g2 c2 w7 hown7 hgr7 hat7 hlt7))
                  all_goals
                    have hgr7' : (w6.alloc (.cells #[.slice (some ⟨g1, 0, none⟩) (1 + el.length) c1] 24)).grownBy w7 (Value.slice (some ⟨g, 0, none⟩) (q0 + k) c).ownBlock := hgr7
                    have hat7' : (Value.slice (some ⟨g, 0, none⟩) (q0 + k) c).ownBlock = some g2 ∨ g2 = w6.heap.size + 1 := hat7
                    have hat6' : (Value.slice (some ⟨wr.heap.size, 0, none⟩) 1 1).ownBlock = some g1 ∨ g1 = wr.heap.size + 1 := hat6
                    have HE9 := Lib.hid (search_step (g := g) (g2 := g2) (q1 := q0 + k) HL1.out HOW6.out hown6 k6 hgr7' hown7 hat7' (by have := hb.size; omega) (by have := (hown.out.row.lt g rfl).2; rcases hat6' with h9 | h9; exact lit_ne h9 this; omega))
                    have HR9 := Lib.hid (((hrest.out.on k6).on ((Below.refl w6.heap.size w6).alloc (Nat.le_refl _) (.cells #[.slice (some ⟨g1, 0, none⟩) (1 + el.length) c1] 24))).by hgr7'
                      (fun b hb9 e9 => by have h8 := HG5.out b hb9; have h7 : g = b := Option.some.inj e9; omega)
                      (fun e he e9 => by have h8 := HE5.out e he; have h7 : g = e.1 := Option.some.inj e9; omega))
                    have HB9 := Lib.hid (((hb.trans (k6.mono hsr)).alloc (by have := k6.size; omega) (.cells #[.slice (some ⟨g1, 0, none⟩) (1 + el.length) c1] 24)).grown hgr7' (by have := k6.size; simp; omega) (fun j hj => by have h7 : g = j := Option.some.inj hj; omega))
                    have HM9 := Lib.hid (show (es' ++ [(g1, c1, m :: el)]).map kI = es.map kI ++ (TT.take (k + 1)).map (m :: ·) from by
                      have h1 := hmp.out
                      unfold Hid at h1
                      rw [HTK.out, List.map_append, h1, List.append_assoc]
                      rfl)
                    have hg9 : g2 < s4 ∨ w5.heap.size ≤ g2 := by
                      rcases hat7' with h9 | h9
                      · have h7 : g = g2 := Option.some.inj h9
                        omega
                      · have := k6.size
                        omega
                    have hg8 : w.heap.size ≤ g2 := by
                      rcases hat7' with h9 | h9
                      · have h7 : g = g2 := Option.some.inj h9
                        omega
                      · have := k6.size
                        omega
                    have hs9 : w5.heap.size ≤ w7.heap.size := by have h7 := hgr7'.size; have h8 := k6.size; simp at h7; omega
                    have hL9 : (es' ++ [(g1, c1, m :: el)]).length = q0 + (k + 1) := by rw [List.length_append, HL1.out]; rfl
                    have HV9 := Lib.hid (show (Value.slice (some ⟨g2, 0, none⟩) (q0 + k + 1) c2) = .slice (some ⟨g2, 0, none⟩) (es' ++ [(g1, c1, m :: el)]).length c2 from by rw [hL9]; rfl)
                    clear hown6 hgr6 hat6 k6 HOW6 hown7 hgr7 hat7 hgr7' hat7' hat6' hown hrest hb hmp p1 p2 m0 HEE HLIT hgs hgw
                    go_wp2
                    go_roundw
                    case rel => first
                      | exact ⟨k + 1, g2, c2, es' ++ [(g1, c1, m :: el)], by omega, by go_num, HV9.out, hL9, HE9.out, HM9.out, HR9.out, hg9, hg8, HB9.out, hs9⟩
                      | (repeat apply Exists.intro
                         exact ⟨⟨k + 1, g2, c2, es' ++ [(g1, c1, m :: el)], by omega, by go_num, HV9.out, hL9, HE9.out, HM9.out, HR9.out, hg9, hg8, HB9.out, hs9⟩, rfl⟩)
                    case measure => first | (simp [intOf]; done) | (simp [intOf]; omega)
                · obtain rfl : k = q := by omega
                  have HM9 := Lib.hid (show es'.map kI = (segTo Q Q (fitB f) f (i + 1)).take M from by
                    have h1 := hmp.out
                    unfold Hid at h1
                    have h2 : TT.length ≤ k := by have h3 := congrArg List.length HT5.out; rw [List.length_map] at h3; have := HQ2.out; omega
                    rw [HSG.out, h1, List.take_of_length_le h2])
                  have HO9 := Lib.hid (show OwnI w.heap.size wr (.slice (some ⟨g, 0, none⟩) es'.length c) es' from by rw [HL1.out]; exact hown.out)
                  have HV9 := Lib.hid (show (Value.slice (some ⟨g, 0, none⟩) (q0 + k) c) = .slice (some ⟨g, 0, none⟩) es'.length c from by rw [HL1.out])
                  have hl9 : es'.length ≤ M := by have := HL1.out; omega
                  clear hmp hown hrest
                  go_wp2
                  go_roundw
                  case rel => first
                    | exact ⟨i + 1, g, c, es', by omega, by go_num, HV9.out, hl9, HO9.out, HM9.out, hb⟩
                    | (repeat apply Exists.intro
                       exact ⟨⟨i + 1, g, c, es', by omega, by go_num, HV9.out, hl9, HO9.out, HM9.out, hb⟩, rfl⟩)
                  case measure => first | (simp [intOf]; done) | (simp [intOf]; omega)
            · obtain ⟨mf, hmf2⟩ : ∃ mf, m &&& f = mf := ⟨_, rfl⟩
              have HL5 := Lib.hid (show es.map kI = (segTo Q Q (fitB f) f (i + 1)).take M from by rw [HCN.out (by rw [HFM.out, htb, decide_eq_false hsb]; rfl)]; exact hmap.out)
              rw [hmf2] at hmf hsb
              have e3 : ((mf : Int) != (m : Int)) = true := by rw [bne_iff_ne]; omega
              have HB5 := Lib.hid (fun q => below_drewn hb q)
              have HO5 := Lib.hid (fun q => (show OwnI w.heap.size (wr.drewN q) (.slice (some ⟨g, 0, none⟩) es.length c) es from by rw [hq0]; exact ⟨hown.out.row, hown.out.each, hown.out.off⟩))
              clear HCY HCN HFM HFS hand htb hsb hmf2
              go_wp2_with fail
              go_quiet (fail)
              go_wp2
              go_roundw
              case rel => first
                | exact ⟨i + 1, g, c, es, by omega, by go_num, by rw [hq0], by omega, HO5.out _, HL5.out, HB5.out _⟩
                | (repeat apply Exists.intro
                   exact ⟨⟨i + 1, g, c, es, by omega, by go_num, by rw [hq0], by omega, HO5.out _, HL5.out, HB5.out _⟩, rfl⟩)
              case measure => first | (simp [intOf]; done) | (simp [intOf]; omega)
        · obtain rfl : q0 = M := by omega
          have HR := Lib.hid (show es.map kI = (tilR Q f).take q0 from by
            have h1 := hmap.out
            have h2 := HLM.out
            unfold Hid at h1
            obtain ⟨t, ht⟩ := segTo_pre Q Q (fitB f) f i
            rw [tilR_step Q h0, ht, take_full _ _ h2.symm]
            exact h1)
          clear hmap HLM
          go_wp2
          go_ret
          exact ⟨_, es, rfl, by rw [← hq0] at hown; rw [← hq0]; exact hown.out, HR.out, hb⟩
      · obtain rfl : i = n := by omega
        have HR := Lib.hid (show es.map kI = (tilR Q f).take M from by
          have h1 := hmap.out
          unfold Hid at h1
          rw [HTA.out, hln]
          exact h1)
        clear hmap HLM
        go_wp2
        go_ret
        exact ⟨_, es, rfl, hown.out, HR.out, hb⟩
end Go.Proofs.YtkjlmgkjcmebbaaGreatDoor
