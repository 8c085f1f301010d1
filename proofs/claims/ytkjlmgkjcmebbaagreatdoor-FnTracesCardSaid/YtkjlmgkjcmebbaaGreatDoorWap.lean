/-
  The search of the model: the ways that it lists, at most so many: what the call gives.
  The bits of a mask one by one: the library's count of trailing zeros, the iterator: what the calls give.
  The least place of a mask, the number of its places, in the program: what each call gives.
-/
import Derived.Test.YtkjlmgkjcmebbaaGreatDoorWao
import Derived.Test.YtkjlmgkjcmebbaaGreatDoorWag
import Derived.Test.YtkjlmgkjcmebbaaGreatDoorWai
import Derived.RangeFuncNested
import Derived.RangeFuncBound
import Derived.RangeFuncBox
import Derived.RangeFuncCalls
import Derived.RangeFuncLeaves
import Derived.Shelf.Abstract
import Derived.Shelf.RegionOpen
import Derived.WalkKit
import Derived.OwnWalkIn
import Derived.TacticsInMore
import Derived.LoopNIn
import Derived.LoopIn
import Derived.Maps.AppendAt
import Derived.Shelf.Spec.TrailingZeros
import Derived.Test.YtkjlmgkjcmebbaaGreatDoorWan
namespace Go.Proofs.YtkjlmgkjcmebbaaGreatDoor

section
open Go.RowKit

/-- What the search gives. -/
def GivesT (w : World) (T : List (List Nat)) (e : Ending) (w' : World) : Prop := ∃ v es, e = .returned v ∧ OwnI w.heap.size w' v es ∧ es.map kI = T ∧ Below w.heap.size w w'
theorem lit_one (w : World) (m : Int) : (w.alloc (.cells #[.int .i64 m] 3)).ownsRow w.heap.size 3 1 (.slice (some ⟨w.heap.size, 0, none⟩) 1 1) 1 (iv [m]) :=
  ⟨rfl, .inr ⟨w.heap.size, 1, #[.int .i64 m], rfl, Nat.le_refl _, heap_alloc_new _ _, Nat.le_refl _, by unfold maxLen; omega, rfl, rfl⟩⟩
theorem lit_rows (w : World) : OwnI w.heap.size (w.alloc (.cells #[] 24)) (.slice (some ⟨w.heap.size, 0, none⟩) 0 0) [] :=
  ⟨⟨rfl, .inr ⟨w.heap.size, 0, #[], rfl, Nat.le_refl _, heap_alloc_new _ _, Nat.le_refl _, Nat.zero_le _, rfl, rfl⟩⟩, fun e he => (by cases he), fun e he => (by cases he)⟩
theorem lit_nil (w : World) : OwnI w.heap.size ((w.alloc (.cells #[] 3)).alloc (.cells #[.slice (some ⟨w.heap.size, 0, none⟩) 0 0] 24)) (.slice (some ⟨w.heap.size + 1, 0, none⟩) 1 1) [(w.heap.size, 0, [])] := by
  have hs : (w.alloc (.cells #[] 3)).heap.size = w.heap.size + 1 := by simp
  have h0 : (w.alloc (.cells #[] 3)).ownsRow w.heap.size 3 1 (.slice (some ⟨w.heap.size, 0, none⟩) 0 0) 0 (iv (ints [])) := ⟨rfl, .inr ⟨w.heap.size, 0, #[], rfl, Nat.le_refl _, heap_alloc_new _ _, Nat.le_refl _, Nat.zero_le _, rfl, rfl⟩⟩
  have h1 := heap_alloc_new (w.alloc (.cells #[] 3)) (.cells #[.slice (some ⟨w.heap.size, 0, none⟩) 0 0] 24)
  rw [hs] at h1
  refine ⟨⟨rfl, .inr ⟨w.heap.size + 1, 1, _, rfl, by omega, h1, Nat.le_refl _, by unfold maxLen; omega, rfl, rfl⟩⟩, fun e he => ?_, fun e he => ?_⟩
  · rw [List.mem_singleton.1 he]
    exact h0.alloc _
  · rw [List.mem_singleton.1 he]
    intro e2
    have : w.heap.size + 1 = w.heap.size := Option.some.inj e2
    omega
theorem lit_low {s n c j : Nat} (h : (Value.slice (some ⟨s, 0, none⟩) n c).ownBlock = some j) : s ≤ j := by
  have : s = j := Option.some.inj h
  omega
theorem grown_low {A w w' : World} {o : Obj} {r : Option Nat} (h : Below A.heap.size A w) (hg : ((w.alloc o).drew).grownBy w' r) (hr : ∀ j, r = some j → A.heap.size ≤ j) : Below A.heap.size A w' :=
  ((h.alloc h.size o).drew).grown hg (by show A.heap.size ≤ (w.alloc o).heap.size; have := h.size; simp; omega) hr
theorem lit_ne {s n c g g1 : Nat} (h : (Value.slice (some ⟨s, 0, none⟩) n c).ownBlock = some g1) (hg : g < s) : g ≠ g1 := by
  have : s = g1 := Option.some.inj h
  omega
/-- One list more in the list of lists. -/
theorem search_step {B m g g1 g2 q1 c c1 c2 : Nat} {wr w6 w7 : World} {el : List Nat} {es : List IE} (hl : es.length = q1) (h6 : OwnI B w6 (.slice (some ⟨g, 0, none⟩) q1 c) es)
    (hown6 : w6.ownsRow wr.heap.size 3 1 (.slice (some ⟨g1, 0, none⟩) (1 + el.length) c1) (1 + el.length) (iv [(m : Int)] ++ iv (ints el))) (_k6 : Below wr.heap.size wr w6)
    (hg7 : (w6.alloc (.cells #[.slice (some ⟨g1, 0, none⟩) (1 + el.length) c1] 24)).grownBy w7 (Value.slice (some ⟨g, 0, none⟩) q1 c).ownBlock)
    (hown7 : w7.ownsRow B 24 1 (.slice (some ⟨g2, 0, none⟩) (q1 + 1) c2) (q1 + 1) (es.map ieV ++ [.slice (some ⟨g1, 0, none⟩) (1 + el.length) c1]))
    (hat : (Value.slice (some ⟨g, 0, none⟩) q1 c).ownBlock = some g2 ∨ g2 = w6.heap.size + 1) (hB : B ≤ wr.heap.size) (hne : g ≠ g1) :
    OwnI B w7 (.slice (some ⟨g2, 0, none⟩) (es ++ [(g1, c1, m :: el)]).length c2) (es ++ [(g1, c1, m :: el)]) := by
  have e1 : (es ++ [(g1, c1, m :: el)]).length = q1 + 1 := by rw [List.length_append, hl]; rfl
  rw [e1]
  have h7 := h6.on ((Below.refl w6.heap.size w6).alloc (Nat.le_refl _) (.cells #[.slice (some ⟨g1, 0, none⟩) (1 + el.length) c1] 24))
  have e2 : iv [(m : Int)] ++ iv (ints el) = iv (ints (m :: el)) := by simp [iv, ints]
  rw [e2, Nat.add_comm 1] at hown6
  rw [Nat.add_comm 1] at hown7
  refine h7.snoc (e := (g1, c1, m :: el)) (by rw [hl]; exact hown7) hg7 ?_ (own_below (hown6.alloc _) hB) (fun e => hne (Option.some.inj e))
  rcases hat with h | h
  · exact .inl h.symm
  · exact .inr ⟨g2, rfl, by rw [h]; simp⟩

set_option maxHeartbeats 8000000 in
set_option maxRecDepth 100000 in
theorem sSearch (n cap : Nat) (a : Option Addr) (Q : List Nat) (hn : n ≤ 100000) (hQ : ∀ m ∈ Q, m ≠ 0 ∧ m < 68719476736) :
    ∀ (F f : Nat), f ≤ F → f < 68719476736 → ∀ M : Nat, 1 ≤ M → M ≤ 100000 → ∀ (B : Nat) (w : World), IntsAt B w a n (ints Q) → B ≤ w.heap.size →
    Calls Tryz.prog 61 #[.slice a n cap, .int .i64 f, .int .i64 M] w (GivesT w ((tilR Q f).take M)) := by
  intro F
  have base : ∀ M : Nat, 1 ≤ M → ∀ w : World, Calls Tryz.prog 61 #[.slice a n cap, .int .i64 (0 : Nat), .int .i64 M] w (GivesT w ((tilR Q 0).take M)) := fun M hM w => by
    have HC := Lib.hid (show (tilR Q 0).take M = [[]] from by
      rw [tilR_zero]
      obtain ⟨k, rfl⟩ : ∃ k, M = k + 1 := ⟨M - 1, by omega⟩
      simp)
    rw [HC.out]
    have HL := Lib.hid (lit_nil w)
    go_enter Tryz.func61, Tryz.ntmps61
    go_wp2
    go_ret
    exact ⟨_, _, rfl, HL.out, rfl, ((Below.refl _ _).alloc (Nat.le_refl _) _).alloc (by simp) _⟩
  induction F with
  | zero =>
    intro f hf0 hf M hM1 hM2 B w hc hB
    obtain rfl : f = 0 := by omega
    exact base M hM1 w
  | succ F ih =>
    intro f hfF hf M hM1 hM2 B w hc hB
    by_cases h0 : f = 0
    · subst h0
      exact base M hM1 w
    clear base
    obtain ⟨i0, hi, hz0, hz1, hz2⟩ := info_parts info_int
    obtain ⟨j0, ji, jz0, jz1, jz2⟩ := info_parts info_rows
    have hfz : ((f : Int) == 0) = false := by simp; omega
    have HIH := Lib.hid ih
    have HQ := Lib.hid hQ
    have H := Lib.hid hc
    have hln := hc.1
    rw [ints_len] at hln
    have HTA := Lib.hid (tilR_all Q h0)
    have hlow := lowB_lt h0 (show f < 2 ^ 64 by omega)
    have HSL := Lib.hid (fun W => sLow f h0 (show f < 9223372036854775808 by omega) W)
    obtain ⟨low, hlw⟩ : ∃ low, lowB f = low := ⟨_, rfl⟩
    have HFI := Lib.hid (fun m => fit_is (m := m) hlw)
    rw [hlw] at hlow HSL
    clear ih hc hlw
    have hl0 : (0 : Int) ≤ (low : Int) := by omega
    have HL0 := Lib.hid (lit_rows w)
    have HB0 := Lib.hid ((Below.refl w.heap.size w).alloc (Nat.le_refl _) (.cells #[] 24))
    go_enter Tryz.func61, Tryz.ntmps61
    go_wp2_with fail
    generalize (w.alloc (.cells #[] 24)) = w0 at *
    refine (HSL.out w0).mono ?_
    rintro e w1 ⟨rfl, hb1⟩
    have HB1 := Lib.hid (HB0.out.trans (hb1.mono HB0.out.size))
    have HL1 := Lib.hid (HL0.out.on hb1)
    clear hb1 HB0 HL0
    go_wp2
    go_loopw [7, 9] (fun ov ix wr => ∃ (i g c : Nat) (es : List IE), i ≤ n ∧ ix = .int .i64 (i : Int) ∧ ov = .slice (some ⟨g, 0, none⟩) es.length c ∧ es.length ≤ M ∧ Hid (OwnI w.heap.size wr (.slice (some ⟨g, 0, none⟩) es.length c) es) ∧ Hid (es.map kI = (segTo Q Q (fitB f) f i).take M) ∧ Below w.heap.size w wr) (fun _ ix _ => n - (intOf ix).toNat)
    case atStart => exact ⟨0, w.heap.size, 0, [], by omega, rfl, rfl, by simp, HL1.out, by rw [segTo_zero]; simp [Hid], HB1.out⟩
    case round =>
      clear HB1 HL1
      obtain ⟨i, g, c, es, hi9, rfl, rfl, hel, hown, hmap, hb⟩ := hrel
      have hsr := hb.size
      have HLM := Lib.hid (show es.length = ((segTo Q Q (fitB f) f i).take M).length from by
        have h1 := hmap.out
        unfold Hid at h1
        rw [← h1, List.length_map])
      obtain ⟨q0, hq0⟩ : ∃ q0, es.length = q0 := ⟨_, rfl⟩
      rw [hq0] at hel HLM hown ⊢
      by_cases hlt : i < n
      · have hi1 : (i : Int) < (n : Int) := by omega
        have hi0 : (0 : Int) ≤ (i : Int) := by omega
        by_cases htM : q0 < M
        · have htM1 : (q0 : Int) < (M : Int) := by omega
          obtain ⟨b9, o9, rfl, hb9, hc9⟩ := (H.out.on (hb.mono hB)).2.2 (by omega)
          have p1 := hc9 i hlt
          rw [ints_get] at p1
          have hm := HQ.out (Q.getD i 0) (getD_memN (by omega))
          have HCY := Lib.hid (segTo_yes Q (C := Q) (p := fitB f) f (i := i) (by omega))
          have HCN := Lib.hid (segTo_no Q (C := Q) (p := fitB f) f (i := i) (by omega))
          have HFM := Lib.hid (HFI.out (Q.getD i 0))
          have HFS := Lib.hid (fun h => fit_sub (f := f) (m := Q.getD i 0) h)
          obtain ⟨m, hmm⟩ : ∃ m, Q.getD i 0 = m := ⟨_, rfl⟩
          have HMM := Lib.hid hmm
          rw [hmm] at p1 hm HCY HCN HFM HFS
          clear hc9 hmm
          obtain ⟨u, hu⟩ : ∃ u : Nat, m / 2 ^ low = u := ⟨_, rfl⟩
          have hdiv : (m : Int) / (2 : Int) ^ low = (u : Int) := by rw [← hu]; simp
          have hum : u ≤ m := by rw [← hu]; exact Nat.div_le_self _ _
          have hand := bit_val (m := m) low (by omega)
          rw [hu] at hand
          clear hu
          cases htb : m.testBit low with
          | false =>
            rw [htb] at hand
            have hand1 : bits .and .i64 (u : Int) 1 = 0 := hand
            have HL5 := Lib.hid (show es.map kI = (segTo Q Q (fitB f) f (i + 1)).take M from by rw [HCN.out (by rw [HFM.out, htb]; rfl)]; exact hmap.out)
            have HB5 := Lib.hid (fun q => below_drewn hb q)
            have HO5 := Lib.hid (fun q => (show OwnI w.heap.size (wr.drewN q) (.slice (some ⟨g, 0, none⟩) es.length c) es from by rw [hq0]; exact ⟨hown.out.row, hown.out.each, hown.out.off⟩))
            clear HCY HCN HFM HFS hand htb
            go_wp2_with fail
            go_quiet (fail)
            go_wp2
            go_roundw
            case rel => first
              | exact ⟨i + 1, g, c, es, by omega, by go_num, by rw [hq0], by omega, HO5.out _, HL5.out, HB5.out _⟩
              | (repeat apply Exists.intro
                 exact ⟨⟨i + 1, g, c, es, by omega, by go_num, by rw [hq0], by omega, HO5.out _, HL5.out, HB5.out _⟩, rfl⟩)
            case measure => first | (simp [intOf]; done) | (simp [intOf]; omega)
          | true =>
            rw [htb] at hand
            have hand1 : bits .and .i64 (u : Int) 1 = 1 := hand
            have hmf := i64_and_nat m f (by omega) (by omega)
            by_cases hsb : m &&& f = m
            · rw [hsb] at hmf
              have e3 : ((m : Int) != (m : Int)) = false := by simp
              have hfit : fitB f m = true := by rw [HFM.out, htb, hsb]; simp
              have hfs := HFS.out hfit
              have HCS := Lib.hid (HCY.out hfit)
              obtain ⟨fm, hfm⟩ : ∃ fm, f - m = fm := ⟨_, rfl⟩
              obtain ⟨r, hr⟩ : ∃ r, M - q0 = r := ⟨_, rfl⟩
              have hfm1 : (f : Int) - (m : Int) = (fm : Int) := by omega
              have hr1 : (M : Int) - (q0 : Int) = (r : Int) := by omega
              rw [hfm] at HCS hfs
              have HR := Lib.hid (fun v9 (h9 : Below w.heap.size w v9) => HIH.out fm (by omega) (by omega) r (by omega) (by omega) B v9 (H.out.on (h9.mono hB)) (Nat.le_trans hB h9.size))
              have HSG := Lib.hid (show (segTo Q Q (fitB f) f (i + 1)).take M = es.map kI ++ (((tilR Q fm).take r).map (m :: ·)) from by
                have h1 := hmap.out
                have h2 := HLM.out
                unfold Hid at h1
                rw [HCS.out, take_seg _ _ (by omega), ← h1, List.map_take, List.length_map, hq0, hr])
              have HRL := Lib.hid (fun t (h : t ∈ (tilR Q fm).take r) => til_len40 (show fm < 68719476736 by omega) (List.mem_of_mem_take h))
              have htr : r + q0 = M := by omega
              have hrn : ((tilR Q fm).take r).length ≤ r := by rw [List.length_take]; exact Nat.min_le_left _ _
              obtain ⟨TT, hTT⟩ : ∃ TT, (tilR Q fm).take r = TT := ⟨_, rfl⟩
              rw [hTT] at HR HSG HRL hrn
              have hbd : ∀ q, Below w.heap.size w (wr.drewN q) := fun q => below_drewn hb q
              have HOd := Lib.hid (fun q => (show OwnI w.heap.size (wr.drewN q) (.slice (some ⟨g, 0, none⟩) q0 c) es from ⟨hown.out.row, hown.out.each, hown.out.off⟩))
              have HBd := Lib.hid hbd
              clear HCY HCN HFM HFS hand htb hfit hsb hTT HCS hbd
              obtain ⟨s4, hs4⟩ : ∃ s4, wr.heap.size = s4 := ⟨_, rfl⟩
              have hgl : g < s4 := by rw [← hs4]; exact (hown.out.row.lt g rfl).2
              have hgw : w.heap.size ≤ g := (hown.out.row.lt g rfl).1
              go_wp2_with fail
              go_quiet (fail)
              go_wp2_with fail
              refine (HR.out _ (HBd.out _)).mono ?_
              rintro e w5 ⟨rv, es2, rfl, ho5, hmap5, hb5⟩
              obtain ⟨ra, rc, rfl⟩ := own_sliceR ho5.row
              have HB5 := Lib.hid ((HBd.out _).trans (hb5.mono (HBd.out _).size))
              have HOU := Lib.hid ((HOd.out _).on hb5)
              have HO5 := Lib.hid (show OwnI s4 w5 (.slice ra es2.length rc) es2 from by rw [← hs4]; exact ho5)
              have HE5 := Lib.hid (fun e (he : e ∈ es2) => (show s4 ≤ e.1 ∧ e.1 < w5.heap.size from by rw [← hs4]; exact ho5.lt he))
              have HG5 := Lib.hid (fun b (hb9 : (Value.slice ra es2.length rc).ownBlock = some b) => (show s4 ≤ b ∧ b < w5.heap.size from by rw [← hs4]; exact ho5.row.lt b hb9))
              have HT5 := Lib.hid hmap5
              have hql : es2.length ≤ r := by have h1 := congrArg List.length hmap5; rw [List.length_map] at h1; omega
              have hs5 : s4 ≤ w5.heap.size := by rw [← hs4]; exact hb5.size
              obtain ⟨q, hq⟩ : ∃ q, es2.length = q := ⟨_, rfl⟩
              rw [hq] at HO5 HG5 hql ⊢
              have HQ2 := Lib.hid hq
              clear ho5 hmap5 hb5 HR HBd HOd hown hb hq hs4 hmap
              go_wp2
              go_loopw [7, 11] (fun ov kx wx => ∃ (k g c : Nat) (es' : List IE), k ≤ q ∧ kx = .int .i64 (k : Int) ∧ ov = .slice (some ⟨g, 0, none⟩) es'.length c ∧ es'.length = q0 + k ∧ Hid (OwnI w.heap.size wx (.slice (some ⟨g, 0, none⟩) es'.length c) es') ∧ Hid (es'.map kI = es.map kI ++ (TT.take k).map (m :: ·)) ∧ Hid (OwnI s4 wx (.slice ra q rc) es2) ∧ (g < s4 ∨ w5.heap.size ≤ g) ∧ w.heap.size ≤ g ∧ Below w.heap.size w wx ∧ w5.heap.size ≤ wx.heap.size) (fun _ kx _ => q - (intOf kx).toNat)
              case atStart => exact ⟨0, g, c, es, by omega, rfl, by rw [hq0], by omega, by rw [hq0]; exact HOU.out, by simp [Hid], HO5.out, .inl hgl, hgw, HB5.out, Nat.le_refl _⟩
              case round =>
                clear HOU HO5 HB5 hgl hgw
                obtain ⟨k, g, c, es', hk, rfl, rfl, hel', hown, hmp, hrest, hgs, hgw, hb, hsx⟩ := hrel
                obtain ⟨q1, hq1⟩ : ∃ q1, es'.length = q1 := ⟨_, rfl⟩
                have HL1 := Lib.hid hq1
                rw [hq1] at hel' hown ⊢
                subst hel'
                have hsr := hb.size
                by_cases hkq : k < q
                · have hk1 : (k : Int) < (q : Int) := by omega
                  have hk0 : (0 : Int) ≤ (k : Int) := by omega
                  have hkm : es2.getD k dIE ∈ es2 := by have := HQ2.out; simp [List.getD, show k < es2.length by omega]
                  have hge : (es2.map ieV)[k]? = some (ieV (es2.getD k dIE)) := by have := HQ2.out; simp [List.getD, show k < es2.length by omega]
                  have hkT : TT.getD k [] = kI (es2.getD k dIE) ∧ k < TT.length := by
                    have h1 := HT5.out
                    have h2 := HQ2.out
                    subst h1
                    rw [List.length_map]
                    exact ⟨by simp [List.getD, show k < es2.length by omega], by omega⟩
                  have hrl := HRL.out (kI (es2.getD k dIE)) (by rw [← HT5.out]; exact List.mem_map_of_mem hkm)
                  have hee := hrest.out.each _ hkm
                  have hel := HE5.out _ hkm
                  obtain ⟨⟨eb, ec, el⟩, hek⟩ : ∃ e : IE, es2.getD k dIE = e := ⟨_, rfl⟩
                  rw [hek] at hge hkT hrl hee hel
                  have hrl2 : el.length ≤ 40 := hrl
                  have hel2 : s4 ≤ eb ∧ eb < w5.heap.size := hel
                  have HEE := Lib.hid (show wr.ownsRow s4 3 1 (.slice (some ⟨eb, 0, none⟩) el.length ec) el.length (iv (ints el)) from hee)
                  have HTK := Lib.hid (show (TT.take (k + 1)).map (m :: ·) = (TT.take k).map (m :: ·) ++ [m :: el] from by
                    rw [take_one hkT.2 [], List.map_append, hkT.1]
                    rfl)
                  obtain ⟨gr, hgr⟩ : ∃ gr, ra = some ⟨gr, 0, none⟩ := by
                    rcases hrest.out.row.2 with ⟨_, h0⟩ | ⟨g8, c8, cur, he8, _⟩
                    · have := HQ2.out; omega
                    · injection he8 with e1 _ _
                      exact ⟨g8, e1⟩
                  subst hgr
                  have hgr5 := HG5.out gr rfl
                  have p2 : wr.cell? ⟨gr, k, none⟩ = some (.slice (some ⟨eb, 0, none⟩) el.length ec) := by
                    have hrow := hrest.out.row
                    rw [HQ2.out] at hrow
                    have h1 := hrow.cellAt k (by omega)
                    rw [hge] at h1
                    exact h1
                  obtain ⟨b9, o9, hb9e, hb9, hc9⟩ := (H.out.on (hb.mono hB)).2.2 (by omega)
                  injection hb9e with hb9e
                  injection hb9e with hb9e ho9e _
                  subst hb9e ho9e
                  have p1 := hc9 i hlt
                  rw [ints_get, HMM.out] at p1
                  have m0 : (wr.alloc (.cells #[.int .i64 (m : Int)] 3)).cell? ⟨gr, k, none⟩ = some (.slice (some ⟨eb, 0, none⟩) el.length ec) := (((Below.refl wr.heap.size wr).alloc (Nat.le_refl _) _).cell (p := ⟨gr, k, none⟩) (by show gr < wr.heap.size; omega)).trans p2
                  have HLIT := Lib.hid (lit_one wr (m : Int))
                  clear hee hrl hel hge hkT hek hkm hc9
                  go_wp2_with fail
                  go_region_law (first
                    | (refine step_append_some _ rfl _ _ _ rfl wr.heap.size 3 i0 (.int .i64 0) 1 8 Tryz.underlying24 hi hz0 hz1 hz2 rfl (by omega) _ 1 (iv [(m : Int)]) rfl ?a1 ⟨eb, 0, none⟩ el.length ec (iv (ints el)) rfl ?a2 ?a3 (iv_one _) (by omega) ?a4 ?a5 ?a6 (wr.heap.size + 1) ?a7 ?_
                       (case a1 => exact HLIT.out)
                       (case a2 => rw [iv_length, ints_len]; omega)
                       (case a3 => have h9 := own_lies (HEE.out.alloc (.cells #[.int .i64 (m : Int)] 3)) 0; rw [List.drop_zero] at h9; exact h9)
                       (case a4 => unfold maxLen; omega)
                       (case a5 => omega)
                       (case a6 => simp)
                       (case a7 => simp)
                       intro g1 c1 w6 hown6 hgr6 hat6 hlt6
                       have k6 : Below wr.heap.size wr w6 := grown_low (Below.refl _ _) hgr6 (fun j hj => lit_low hj)
                       have HOW6 := Lib.hid (hown.out.on k6))
                    | (refine step_append_some _ rfl _ _ _ rfl w.heap.size 24 j0 (.slice none 0 0) 1 24 Tryz.underlying72 ji jz0 jz1 jz2 rfl (by omega) _ (q0 + k) (es'.map ieV) rfl ?b1 ⟨w6.heap.size, 0, none⟩ 1 1 [.slice (some ⟨g1, 0, none⟩) (1 + el.length) c1] rfl ?b2 ?b3 ?b4 (by omega) ?b5 ?b6 ?b7 (w6.heap.size + 1) ?b8 ?_
                       (case b1 => have h9 := (HOW6.out.row).alloc (.cells #[.slice (some ⟨g1, 0, none⟩) (1 + el.length) c1] 24); rw [HL1.out] at h9; exact h9)
                       (case b2 => rfl)
                       (case b3 => exact World.news_of_block (cs := #[.slice (some ⟨g1, 0, none⟩) (1 + el.length) c1]) (t := 24) (fr := (0, 0)) (heap_alloc_new _ _))
                       (case b4 => intro u9 hu9; rw [List.mem_singleton.1 hu9]; rfl)
                       (case b5 => unfold maxLen; omega)
                       (case b6 => omega)
                       (case b7 => have := k6.size; simp; omega)
                       (case b8 => simp)
                       intro g2 c2 w7 hown7 hgr7 hat7 hlt7))
                  all_goals
                    have hgr7' : (w6.alloc (.cells #[.slice (some ⟨g1, 0, none⟩) (1 + el.length) c1] 24)).grownBy w7 (Value.slice (some ⟨g, 0, none⟩) (q0 + k) c).ownBlock := hgr7
                    have hat7' : (Value.slice (some ⟨g, 0, none⟩) (q0 + k) c).ownBlock = some g2 ∨ g2 = w6.heap.size + 1 := hat7
                    have hat6' : (Value.slice (some ⟨wr.heap.size, 0, none⟩) 1 1).ownBlock = some g1 ∨ g1 = wr.heap.size + 1 := hat6
                    have HE9 := Lib.hid (search_step (g := g) (g2 := g2) (q1 := q0 + k) HL1.out HOW6.out hown6 k6 hgr7' hown7 hat7' (by have := hb.size; omega) (by have := (hown.out.row.lt g rfl).2; rcases hat6' with h9 | h9; exact lit_ne h9 this; omega))
                    have HR9 := Lib.hid (((hrest.out.on k6).on ((Below.refl w6.heap.size w6).alloc (Nat.le_refl _) (.cells #[.slice (some ⟨g1, 0, none⟩) (1 + el.length) c1] 24))).by hgr7'
                      (fun b hb9 e9 => by have h8 := HG5.out b hb9; have h7 : g = b := Option.some.inj e9; omega)
                      (fun e he e9 => by have h8 := HE5.out e he; have h7 : g = e.1 := Option.some.inj e9; omega))
                    have HB9 := Lib.hid (((hb.trans (k6.mono hsr)).alloc (by have := k6.size; omega) (.cells #[.slice (some ⟨g1, 0, none⟩) (1 + el.length) c1] 24)).grown hgr7' (by have := k6.size; simp; omega) (fun j hj => by have h7 : g = j := Option.some.inj hj; omega))
                    have HM9 := Lib.hid (show (es' ++ [(g1, c1, m :: el)]).map kI = es.map kI ++ (TT.take (k + 1)).map (m :: ·) from by
                      have h1 := hmp.out
                      unfold Hid at h1
                      rw [HTK.out, List.map_append, h1, List.append_assoc]
                      rfl)
                    have hg9 : g2 < s4 ∨ w5.heap.size ≤ g2 := by
                      rcases hat7' with h9 | h9
                      · have h7 : g = g2 := Option.some.inj h9
                        omega
                      · have := k6.size
                        omega
                    have hg8 : w.heap.size ≤ g2 := by
                      rcases hat7' with h9 | h9
                      · have h7 : g = g2 := Option.some.inj h9
                        omega
                      · have := k6.size
                        omega
                    have hs9 : w5.heap.size ≤ w7.heap.size := by have h7 := hgr7'.size; have h8 := k6.size; simp at h7; omega
                    have hL9 : (es' ++ [(g1, c1, m :: el)]).length = q0 + (k + 1) := by rw [List.length_append, HL1.out]; rfl
                    have HV9 := Lib.hid (show (Value.slice (some ⟨g2, 0, none⟩) (q0 + k + 1) c2) = .slice (some ⟨g2, 0, none⟩) (es' ++ [(g1, c1, m :: el)]).length c2 from by rw [hL9]; rfl)
                    clear hown6 hgr6 hat6 k6 HOW6 hown7 hgr7 hat7 hgr7' hat7' hat6' hown hrest hb hmp p1 p2 m0 HEE HLIT hgs hgw
                    go_wp2
                    go_roundw
                    case rel => first
                      | exact ⟨k + 1, g2, c2, es' ++ [(g1, c1, m :: el)], by omega, by go_num, HV9.out, hL9, HE9.out, HM9.out, HR9.out, hg9, hg8, HB9.out, hs9⟩
                      | (repeat apply Exists.intro
                         exact ⟨⟨k + 1, g2, c2, es' ++ [(g1, c1, m :: el)], by omega, by go_num, HV9.out, hL9, HE9.out, HM9.out, HR9.out, hg9, hg8, HB9.out, hs9⟩, rfl⟩)
                    case measure => first | (simp [intOf]; done) | (simp [intOf]; omega)
                · obtain rfl : k = q := by omega
                  have HM9 := Lib.hid (show es'.map kI = (segTo Q Q (fitB f) f (i + 1)).take M from by
                    have h1 := hmp.out
                    unfold Hid at h1
                    have h2 : TT.length ≤ k := by have h3 := congrArg List.length HT5.out; rw [List.length_map] at h3; have := HQ2.out; omega
                    rw [HSG.out, h1, List.take_of_length_le h2])
                  have HO9 := Lib.hid (show OwnI w.heap.size wr (.slice (some ⟨g, 0, none⟩) es'.length c) es' from by rw [HL1.out]; exact hown.out)
                  have HV9 := Lib.hid (show (Value.slice (some ⟨g, 0, none⟩) (q0 + k) c) = .slice (some ⟨g, 0, none⟩) es'.length c from by rw [HL1.out])
                  have hl9 : es'.length ≤ M := by have := HL1.out; omega
                  clear hmp hown hrest
                  go_wp2
                  go_roundw
                  case rel => first
                    | exact ⟨i + 1, g, c, es', by omega, by go_num, HV9.out, hl9, HO9.out, HM9.out, hb⟩
                    | (repeat apply Exists.intro
                       exact ⟨⟨i + 1, g, c, es', by omega, by go_num, HV9.out, hl9, HO9.out, HM9.out, hb⟩, rfl⟩)
                  case measure => first | (simp [intOf]; done) | (simp [intOf]; omega)
            · obtain ⟨mf, hmf2⟩ : ∃ mf, m &&& f = mf := ⟨_, rfl⟩
              have HL5 := Lib.hid (show es.map kI = (segTo Q Q (fitB f) f (i + 1)).take M from by rw [HCN.out (by rw [HFM.out, htb, decide_eq_false hsb]; rfl)]; exact hmap.out)
              rw [hmf2] at hmf hsb
              have e3 : ((mf : Int) != (m : Int)) = true := by rw [bne_iff_ne]; omega
              have HB5 := Lib.hid (fun q => below_drewn hb q)
              have HO5 := Lib.hid (fun q => (show OwnI w.heap.size (wr.drewN q) (.slice (some ⟨g, 0, none⟩) es.length c) es from by rw [hq0]; exact ⟨hown.out.row, hown.out.each, hown.out.off⟩))
              clear HCY HCN HFM HFS hand htb hsb hmf2
              go_wp2_with fail
              go_quiet (fail)
              go_wp2
              go_roundw
              case rel => first
                | exact ⟨i + 1, g, c, es, by omega, by go_num, by rw [hq0], by omega, HO5.out _, HL5.out, HB5.out _⟩
                | (repeat apply Exists.intro
                   exact ⟨⟨i + 1, g, c, es, by omega, by go_num, by rw [hq0], by omega, HO5.out _, HL5.out, HB5.out _⟩, rfl⟩)
              case measure => first | (simp [intOf]; done) | (simp [intOf]; omega)
        · obtain rfl : q0 = M := by omega
          have HR := Lib.hid (show es.map kI = (tilR Q f).take q0 from by
            have h1 := hmap.out
            have h2 := HLM.out
            unfold Hid at h1
            obtain ⟨t, ht⟩ := segTo_pre Q Q (fitB f) f i
            rw [tilR_step Q h0, ht, take_full _ _ h2.symm]
            exact h1)
          clear hmap HLM
          go_wp2
          go_ret
          exact ⟨_, es, rfl, by rw [← hq0] at hown; rw [← hq0]; exact hown.out, HR.out, hb⟩
      · obtain rfl : i = n := by omega
        have HR := Lib.hid (show es.map kI = (tilR Q f).take M from by
          have h1 := hmap.out
          unfold Hid at h1
          rw [HTA.out, hln]
          exact h1)
        clear hmap HLM
        go_wp2
        go_ret
        exact ⟨_, es, rfl, hown.out, HR.out, hb⟩
end

section
open Go.RowKit Go.Shelf

attribute [local go_sem] Oper.semAt_some

abbrev gDB : Nat := 1
/-- The library's table, where it lies. -/
def Tz (w : World) : Prop := TabAt gDB Lib.deBruijn64tab w ∧ gDB < w.heap.size
theorem Tz.on {B : Nat} {w w' : World} (h : Tz w) (hb : Below B w w') (hB : gDB < B) : Tz w' :=
  ⟨fun j hj => (hb.cell (p := ⟨gDB, j, none⟩) hB).trans (h.1 j hj), Nat.lt_of_lt_of_le h.2 hb.size⟩

set_option maxHeartbeats 1000000 in
set_option maxRecDepth 100000 in
theorem tz_core (x k idx : Nat) (w : World) (hx0 : ((x : Int) == 0) = false)
    (key : IntKind.u64.wrap (bits BinOp.and IntKind.u64 (x : Int) (IntKind.u64.wrap (-(x : Int))) * 285870213051353865) / 288230376151711744 = (idx : Int))
    (hi : idx < 64) (hk : k < 64) (hcell : w.cell? ⟨gDB, idx, none⟩ = some (.int .u8 k)) :
    Calls Tryz.prog 129 #[.int .u64 x] w fun e w' => e = .returned (.int .i64 k) ∧ w' = w := by
  go_enter Tryz.func129, Tryz.ntmps129
  go_wp2_with (simp only [key])
  go_ret
  exact ⟨rfl, rfl⟩
theorem iTz64 (x : Nat) (hx0 : x ≠ 0) (hx : x < 9223372036854775808) (w : World) (hT : Tz w) :
    Calls Tryz.prog 129 #[.int .u64 x] w fun e w' => e = .returned (.int .i64 (Lib.ctz 64 x : Nat)) ∧ w' = w := by
  obtain ⟨hlow, hk⟩ := Lib.lowest_bit 64 x hx0 (by omega)
  obtain ⟨hi, htab⟩ := Lib.deBruijn64_at _ hk
  have hcell := hT.1 _ hi
  rw [htab] at hcell
  exact tz_core x _ _ w (by simp; omega) (tz64_key x _ (by omega) hx0 hlow) hi hk hcell
theorem iTz (x : Nat) (hx0 : x ≠ 0) (hx : x < 9223372036854775808) (w : World) (hT : Tz w) :
    Calls Tryz.prog 100 #[.int .u64 x] w fun e w' => e = .returned (.int .i64 (Lib.ctz 64 x : Nat)) ∧ w' = w := by
  have hw : IntKind.u64.wrap (x : Int) = (x : Int) := by rw [IntKind.wrap_u64]; omega
  go_enter Tryz.func100, Tryz.ntmps100
  go_wp2_with fail
  refine (iTz64 x hx0 hx w hT).mono ?_
  rintro e w' ⟨rfl, rfl⟩
  go_wp2
  go_ret
  exact ⟨rfl, rfl⟩

/-- A number below 64: what a round is handed. -/
abbrev B64 := { x : Nat // x < 64 }
def of64 (x : Nat) : B64 := ⟨x % 64, Nat.mod_lt _ (by decide)⟩
def bitF (m : Nat) : List B64 := (bitL m).map of64
theorem of64_val {x : Nat} (h : x < 64) : (of64 x).1 = x := Nat.mod_eq_of_lt h
theorem bitL_lt {m x : Nat} (h : x ∈ bitL m) : x < 64 := by
  unfold bitL at h
  have := (List.mem_filter.1 h).1
  simpa using this
theorem bitF_val (m : Nat) : (bitF m).map (·.1) = bitL m := by
  unfold bitF
  rw [List.map_map]
  conv => rhs; rw [← List.map_id (bitL m)]
  apply List.map_congr_left
  intro x hx
  exact of64_val (bitL_lt hx)
theorem bitF_zero : bitF 0 = [] := by unfold bitF; rw [bitL_zero]; rfl
theorem bitF_cons {k : Nat} (h0 : k ≠ 0) (h : k < 9223372036854775808) : bitF k = of64 (Lib.ctz 64 k) :: bitF (k &&& (k - 1)) := by
  unfold bitF
  rw [bitL_cons h0 (by omega)]
  rfl
theorem bitF_len (m : Nat) : (bitF m).length ≤ 64 := by
  unfold bitF
  rw [List.length_map]
  unfold bitL
  have := List.length_filter_le m.testBit (List.range 64)
  simpa using this
end

section
open Go.RowKit Go.Shelf

theorem ofInt_u64 (a : Nat) (ha : a < 18446744073709551616) : (BitVec.ofInt 64 (a : Int)).toNat = a := by
  rw [BitVec.ofInt_natCast, BitVec.toNat_ofNat]; exact Nat.mod_eq_of_lt (by omega)
theorem u64_and_nat (a b : Nat) (ha : a < 18446744073709551616) (hb : b < 18446744073709551616) : bits .and .u64 (a : Int) (b : Int) = ((a &&& b : Nat) : Int) := by
  have hx : a &&& b < 2 ^ 64 := Nat.and_lt_two_pow _ (by omega)
  show IntKind.u64.wrap ((BitVec.ofInt 64 (a : Int) &&& BitVec.ofInt 64 (b : Int)).toNat : Int) = _
  rw [BitVec.toNat_and, ofInt_u64 a ha, ofInt_u64 b hb, IntKind.wrap_u64]
  omega
theorem and127 (y : Nat) (hy : y < 9223372036854775808) : bits .and .i64 (y : Int) 127 = ((y % 128 : Nat) : Int) := by
  rw [show (127 : Int) = ((127 : Nat) : Int) from rfl, i64_and_nat _ _ hy (by decide)]
  have h : y &&& 127 = y % 128 := Nat.and_two_pow_sub_one_eq_mod y 7
  rw [h]

set_option maxHeartbeats 2000000 in
set_option maxRecDepth 100000 in
theorem ones_core (x x2 a1 a2 y1 y12 b1 b2 y2 y22 y3 y32 y4 y42 y5 y52 z : Nat) (w : World)
    (hx2 : (x : Int) / 2 = (x2 : Int)) (ha1 : bits .and .u64 (x2 : Int) 6148914691236517205 = (a1 : Int)) (ha2 : bits .and .u64 (x : Int) 6148914691236517205 = (a2 : Int)) (hy1 : IntKind.u64.wrap ((a1 : Int) + (a2 : Int)) = (y1 : Int))
    (hy12 : (y1 : Int) / 4 = (y12 : Int)) (hb1 : bits .and .u64 (y12 : Int) 3689348814741910323 = (b1 : Int)) (hb2 : bits .and .u64 (y1 : Int) 3689348814741910323 = (b2 : Int)) (hy2 : IntKind.u64.wrap ((b1 : Int) + (b2 : Int)) = (y2 : Int))
    (hy22 : (y2 : Int) / 16 = (y22 : Int)) (hy3 : bits .and .u64 (IntKind.u64.wrap ((y22 : Int) + (y2 : Int))) 1085102592571150095 = (y3 : Int))
    (hy32 : (y3 : Int) / 256 = (y32 : Int)) (hy4 : IntKind.u64.wrap ((y3 : Int) + (y32 : Int)) = (y4 : Int))
    (hy42 : (y4 : Int) / 65536 = (y42 : Int)) (hy5 : IntKind.u64.wrap ((y4 : Int) + (y42 : Int)) = (y5 : Int))
    (hy52 : (y5 : Int) / 4294967296 = (y52 : Int)) (hz : bits .and .i64 (wrap64 (IntKind.u64.wrap ((y5 : Int) + (y52 : Int)))) 127 = (z : Int)) :
    Calls Tryz.prog 127 #[.int .u64 x] w fun e w' => e = .returned (.int .i64 z) ∧ w' = w := by
  go_enter Tryz.func127, Tryz.ntmps127
  go_wp2_with (simp only [hx2, ha1, ha2, hy1, hy12, hb1, hb2, hy2, hy22, hy3, hy32, hy4, hy42, hy5, hy52, hz])
  go_ret
  exact ⟨rfl, rfl⟩
theorem ones_sums {a b c d e : Nat} (ha : a ≤ 8) (hb : b ≤ 8) (hc : c ≤ 8) (hd : d ≤ 8) (he : e ≤ 8) :
    ∃ y32 y4 y42 y5 y52 : Nat, b5 a b c d e / 256 = y32 ∧ b5 a b c d e + y32 = y4 ∧ y4 / 65536 = y42 ∧ y4 + y42 = y5 ∧ y5 / 4294967296 = y52 ∧ (y5 + y52) % 128 = a + b + c + d + e ∧ y5 + y52 < 1099511627776 ∧ b5 a b c d e < 1099511627776 := by
  have h1 : b5 a b c d e / 256 = b + 256 * c + 65536 * d + 16777216 * e := by unfold b5; omega
  have h2 : b5 a b c d e + (b + 256 * c + 65536 * d + 16777216 * e) = (a + b) + 256 * (b + c) + 65536 * (c + d) + 16777216 * (d + e) + 4294967296 * e := by unfold b5; omega
  have h3 : ((a + b) + 256 * (b + c) + 65536 * (c + d) + 16777216 * (d + e) + 4294967296 * e) / 65536 = (c + d) + 256 * (d + e) + 65536 * e := by omega
  have h4 : ((a + b + c + d) + 256 * (b + c + d + e) + 65536 * (c + d + e) + 16777216 * (d + e) + 4294967296 * e) / 4294967296 = e := by omega
  refine ⟨_, _, _, _, _, h1, h2, h3, ?_, h4, ?_, ?_, ?_⟩
  · omega
  · omega
  · omega
  · unfold b5; omega
theorem ones_last {y5 y52 n : Nat} (h : y5 + y52 < 1099511627776) (hm : (y5 + y52) % 128 = n) : bits .and .i64 (wrap64 (IntKind.u64.wrap ((y5 : Int) + (y52 : Int)))) 127 = (n : Int) := by
  have e5 : wrap64 (IntKind.u64.wrap ((y5 : Int) + (y52 : Int))) = ((y5 + y52 : Nat) : Int) := by rw [IntKind.wrap_u64]; unfold wrap64; omega
  rw [e5, and127 (y5 + y52) (by omega), hm]
theorem ones_add {a b c : Nat} (h : a + b = c) (hc : c < 18446744073709551616) : IntKind.u64.wrap ((a : Int) + (b : Int)) = (c : Int) := by rw [IntKind.wrap_u64]; omega
theorem ones_mid {a y : Nat} (h : (a / 16 + a) &&& 1085102592571150095 = y) (hc : a / 16 + a < 18446744073709551616) : bits .and .u64 (IntKind.u64.wrap (((a / 16 : Nat) : Int) + (a : Int))) 1085102592571150095 = (y : Int) := by
  rw [ones_add rfl hc, ← h]
  exact u64_and_nat _ 1085102592571150095 hc (by decide)
theorem iOnes64 (x : Nat) (hx : x < 1099511627776) (w : World) :
    Calls Tryz.prog 127 #[.int .u64 x] w fun e w' => e = .returned (.int .i64 (pop x : Nat)) ∧ w' = w := by
  obtain ⟨a, b, c, d, e, h1, h2, ha, hb, hc, hd, he, hs⟩ := swar hx
  obtain ⟨y32, y4, y42, y5, y52, k1, k2, k3, k4, k5, k6, k7, k8⟩ := ones_sums ha hb hc hd he
  have m1 : sw1 x < 18446744073709551616 := by omega
  have m2 : x / 2 &&& 6148914691236517205 ≤ sw1 x := by unfold sw1; omega
  have l1 : (sw1 x) / 4 &&& 3689348814741910323 ≤ 3689348814741910323 := Nat.and_le_right
  have l2 : (sw1 x) &&& 3689348814741910323 ≤ 3689348814741910323 := Nat.and_le_right
  have m3 : sw2 (sw1 x) ≤ 7378697629483820646 := by unfold sw2; omega
  have m4 : sw2 (sw1 x) / 16 + sw2 (sw1 x) < 18446744073709551616 := by omega
  have e3 : (sw2 (sw1 x) / 16 + sw2 (sw1 x)) &&& 1085102592571150095 = b5 a b c d e := h2
  refine ones_core x (x / 2) (x / 2 &&& 6148914691236517205) (x &&& 6148914691236517205) (sw1 x) (sw1 x / 4) (sw1 x / 4 &&& 3689348814741910323) (sw1 x &&& 3689348814741910323) (sw2 (sw1 x)) (sw2 (sw1 x) / 16) (b5 a b c d e) y32 y4 y42 y5 y52 (pop x) w
    (by simp) (u64_and_nat _ 6148914691236517205 (by omega) (by decide)) (u64_and_nat _ 6148914691236517205 (by omega) (by decide)) (ones_add rfl m1) (by simp) (u64_and_nat _ 3689348814741910323 (by omega) (by decide)) (u64_and_nat _ 3689348814741910323 (by omega) (by decide)) (ones_add rfl (Nat.lt_of_le_of_lt m3 (by decide))) (by simp) (ones_mid e3 m4)
    (by rw [← k1]; simp) (ones_add k2 (by omega)) (by rw [← k3]; simp) (ones_add k4 (by omega)) (by rw [← k5]; simp) (ones_last k7 (k6.trans hs))
theorem iOnes (x : Nat) (hx : x < 1099511627776) (w : World) :
    Calls Tryz.prog 99 #[.int .u64 x] w fun e w' => e = .returned (.int .i64 (pop x : Nat)) ∧ w' = w := by
  have hw : IntKind.u64.wrap (x : Int) = (x : Int) := by rw [IntKind.wrap_u64]; omega
  go_enter Tryz.func99, Tryz.ntmps99
  go_wp2_with fail
  refine (iOnes64 x hx w).mono ?_
  rintro e w' ⟨rfl, rfl⟩
  go_wp2
  go_ret
  exact ⟨rfl, rfl⟩

theorem lowB_zero : lowB 0 = 64 := by decide
theorem iTz640 (w : World) : Calls Tryz.prog 129 #[.int .u64 0] w fun e w' => e = .returned (.int .i64 64) ∧ w' = w := by
  go_enter Tryz.func129, Tryz.ntmps129
  go_wp2
  go_ret
  exact ⟨rfl, rfl⟩
theorem iTz0 (w : World) : Calls Tryz.prog 100 #[.int .u64 0] w fun e w' => e = .returned (.int .i64 64) ∧ w' = w := by
  go_enter Tryz.func100, Tryz.ntmps100
  go_wp2_with fail
  refine (iTz640 w).mono ?_
  rintro e w' ⟨rfl, rfl⟩
  go_wp2
  go_ret
  exact ⟨rfl, rfl⟩
/-- The least place of a mask, 64 of none. -/
theorem iLow (x : Nat) (hx : x < 9223372036854775808) (w : World) (hT : Tz w) :
    Calls Tryz.prog 66 #[.int .i64 x] w fun e w' => e = .returned (.int .i64 (lowB x : Nat)) ∧ w' = w := by
  have hw : IntKind.u64.wrap (x : Int) = (x : Int) := by rw [IntKind.wrap_u64]; omega
  by_cases h0 : x = 0
  · subst h0
    rw [lowB_zero]
    go_enter Tryz.func66, Tryz.ntmps66
    go_wp2_with fail
    refine (iTz0 w).mono ?_
    rintro e w' ⟨rfl, rfl⟩
    go_wp2
    go_ret
    exact ⟨rfl, rfl⟩
  · have HT := Lib.hid (iTz x h0 hx w hT)
    go_enter Tryz.func66, Tryz.ntmps66
    go_wp2_with fail
    refine HT.out.mono ?_
    rintro e w' ⟨rfl, rfl⟩
    go_wp2
    go_ret
    exact ⟨rfl, rfl⟩
end

end Go.Proofs.YtkjlmgkjcmebbaaGreatDoor
