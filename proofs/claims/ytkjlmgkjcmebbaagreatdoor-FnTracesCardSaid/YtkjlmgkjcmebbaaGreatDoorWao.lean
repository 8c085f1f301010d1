/-
  The least place, is a mask among some, counts without lists: in the model: what each call gives.
  Placements of several shapes, those that have a cell: in the model: what the calls give.
  Counting the tilings in the model: what each call gives.
  Lists of lists of numbers, each in memory of the call's own.
-/
import Derived.Test.YtkjlmgkjcmebbaaGreatDoorWan
import Derived.Test.YtkjlmgkjcmebbaaGreatDoorWaj
import Derived.Test.YtkjlmgkjcmebbaaGreatDoorWad
import Derived.Test.YtkjlmgkjcmebbaaGreatDoorWam
import Derived.Lib.QuietBelow
import Derived.Deep.AppendLies
import Derived.Maps.AppendAt
namespace Go.Proofs.YtkjlmgkjcmebbaaGreatDoor

section
open Go.RowKit

set_option maxHeartbeats 2000000 in
set_option maxRecDepth 100000 in
theorem sLow (x : Nat) (h0 : x ≠ 0) (hx : x < 9223372036854775808) (w : World) :
    Calls Tryz.prog 69 #[.int .i64 x] w fun e w' => e = .returned (.int .i64 (lowB x : Nat)) ∧ Below w.heap.size w w' := by
  have hlt := lowB_lt h0 (show x < 2 ^ 64 by omega)
  have HB := Lib.hid (lowB_bit h0 (show x < 2 ^ 64 by omega))
  have HL := Lib.hid (fun j (h : x.testBit j = true) => lowB_le (show x < 2 ^ 64 by omega) h)
  obtain ⟨low, hlow⟩ : ∃ low, lowB x = low := ⟨_, rfl⟩
  rw [hlow] at hlt HB HL ⊢
  clear hlow
  have hxp : (0 : Int) < (x : Int) := by omega
  go_enter Tryz.func69, Tryz.ntmps69
  go_wp2
  go_loopw [3] (fun v wr => ∃ i : Nat, i ≤ low ∧ v = .int .i64 (i : Int) ∧ Below w.heap.size w wr) (fun v _ => low - (intOf v).toNat)
  case atStart => exact ⟨0, by omega, rfl, Below.refl _ _⟩
  case round =>
    obtain ⟨i, hi, rfl, hb⟩ := hrel
    have hi0 : (0 : Int) ≤ (i : Int) := by omega
    obtain ⟨t, ht⟩ : ∃ t : Nat, x / 2 ^ i = t := ⟨_, rfl⟩
    have hdiv : (x : Int) / (2 : Int) ^ i = (t : Int) := by rw [← ht]; simp
    have htm : t ≤ x := by rw [← ht]; exact Nat.div_le_self _ _
    have hand := bit_val (m := x) i (by omega)
    rw [ht] at hand
    clear ht
    by_cases hlt2 : i < low
    · have hbt : x.testBit i = false := by
        cases e : x.testBit i with
        | false => rfl
        | true => have := HL.out i e; omega
      rw [hbt] at hand
      have hand1 : bits .and .i64 (t : Int) 1 = 0 := hand
      clear hand hbt
      go_wp2
      go_roundw
      case rel => first
        | exact ⟨i + 1, by omega, by go_num, hb⟩
        | (repeat apply Exists.intro
           exact ⟨⟨i + 1, by omega, by go_num, hb⟩, rfl⟩)
      case measure => first | (simp [intOf]; done) | (simp [intOf]; omega)
    · obtain rfl : i = low := by omega
      rw [HB.out] at hand
      have hand1 : bits .and .i64 (t : Int) 1 = 1 := hand
      clear hand
      go_wp2
      go_ret
      exact ⟨rfl, hb⟩

set_option maxHeartbeats 2000000 in
set_option maxRecDepth 100000 in
theorem sHasI (B n cap : Nat) (a : Option Addr) (l : List Int) (z : Int) (w : World) (hn : n ≤ 4194304) (hc : IntsAt B w a n l) (hB : B ≤ w.heap.size) :
    Calls Tryz.prog 68 #[.slice a n cap, .int .i64 z] w fun e w' => e = .returned (.bool (l.contains z)) ∧ Below w.heap.size w w' := by
  have H := Lib.hid hc
  have hln := hc.1
  clear hc
  go_enter Tryz.func68, Tryz.ntmps68
  go_wp2
  go_loopw [5] (fun v wr => ∃ i : Nat, i ≤ n ∧ v = .int .i64 (i : Int) ∧ Hid ((l.take i).contains z = false) ∧ Below w.heap.size w wr) (fun v _ => n - (intOf v).toNat)
  case atStart => exact ⟨0, by omega, rfl, by simp [Hid], Below.refl _ _⟩
  case round =>
    obtain ⟨i, hi, rfl, hno, hb⟩ := hrel
    by_cases hlt : i < n
    · have hi1 : (i : Int) < (n : Int) := by omega
      have hi0 : (0 : Int) ≤ (i : Int) := by omega
      obtain ⟨b9, o9, rfl, hb9, hc9⟩ := (H.out.on (hb.mono hB)).2.2 (by omega)
      have p1 := hc9 i hlt
      have HTK := Lib.hid (take_one (show i < l.length by omega) (0 : Int))
      have HMM := Lib.hid (show l.getD i 0 ∈ l from by simp [List.getD, show i < l.length by omega])
      obtain ⟨y, hy⟩ : ∃ y, l.getD i 0 = y := ⟨_, rfl⟩
      rw [hy] at p1 HTK HMM
      clear hc9 hy
      by_cases hyz : y = z
      · subst hyz
        have e3 : (y == y) = true := by simp
        have HR := Lib.hid (show l.contains y = true from by rw [List.contains_iff_mem]; exact HMM.out)
        clear HTK HMM hno
        go_wp2
        go_ret
        exact ⟨by rw [HR.out]; rfl, hb⟩
      · have e3 : (y == z) = false := by simpa using hyz
        have HR := Lib.hid (show (l.take (i + 1)).contains z = false from by
          have h1 := hno.out
          rw [HTK.out]
          cases e : (l.take i ++ [y]).contains z with
          | false => rfl
          | true =>
            rw [List.contains_iff_mem, List.mem_append, List.mem_singleton] at e
            rcases e with e | e
            · have : (l.take i).contains z = true := by rw [List.contains_iff_mem]; exact e
              unfold Hid at h1
              rw [this] at h1
              cases h1
            · exact absurd e.symm hyz)
        clear HTK HMM hno hyz
        go_wp2
        go_roundw
        case rel => first
          | exact ⟨i + 1, by omega, by go_num, HR.out, hb⟩
          | (repeat apply Exists.intro
             exact ⟨⟨i + 1, by omega, by go_num, HR.out, hb⟩, rfl⟩)
        case measure => first | (simp [intOf]; done) | (simp [intOf]; omega)
    · obtain rfl : i = n := by omega
      have HR := Lib.hid (show l.contains z = false from by have h1 := hno.out; unfold Hid at h1; rw [List.take_of_length_le (by omega)] at h1; exact h1)
      clear hno
      go_wp2
      go_ret
      exact ⟨by rw [HR.out]; rfl, hb⟩
end

section
open Go.RowKit

theorem own_sl_n {w : World} {B n size : Nat} {t : TypeId} {v : Value} {xs : List Value} (h : w.ownsRow B t size v n xs) : ∃ a c, v = .slice a n c := by
  rcases h.2 with ⟨rfl, h0⟩ | ⟨g, c, cur, rfl, _⟩
  · exact ⟨none, 0, by rw [h0]⟩
  · exact ⟨_, c, rfl⟩
theorem plR_in64 (W : Int) (l : List Int) (cs : List Cl) : ∀ z ∈ plR W l cs, In64 z := fun z hz => by
  have := plR_bd W l cs z hz
  unfold In64
  omega
theorem grow_step {W2 wr w4 : World} {lit g : Nat} (h : W2.grownBy wr (some lit)) (h2 : wr.grownBy w4 (some g)) (hg : g = lit ∨ W2.heap.size ≤ g) : W2.grownBy w4 (some lit) := by
  refine ⟨h2.os.trans h.os, h2.tape.trans h.tape, h2.output.trans h.output, Nat.le_trans h.size h2.size, fun k hk hne => ?_⟩
  refine (h2.block k (Nat.lt_of_lt_of_le hk h.size) ?_).trans (h.block k hk hne)
  rcases hg with rfl | hg
  · exact hne
  · intro e
    have : k = g := Option.some.inj e
    omega
theorem grow_drawn {W2 w3 : World} {r : Option Nat} (h : W2.grownBy w3 r) (q : Nat) : W2.grownBy (w3.drewN q) r := ⟨h.os, h.tape, h.output, h.size, h.block⟩
theorem take_snocI (l : List Int) (k : Nat) (h : k < l.length) : l.take (k + 1) = l.take k ++ [l.getD k 0] := by
  rw [List.take_succ_eq_append_getElem h]
  simp [List.getD, h]

set_option maxHeartbeats 8000000 in
set_option maxRecDepth 100000 in
theorem sAp (B n cap m2 cap2 : Nat) (a a2 : Option Addr) (W : Int) (l : List Int) (ps : List (List Cl)) (w : World) (hn : n ≤ 4194304) (hm : m2 ≤ 1048576) (hc : IntsAt B w a n l) (hd : PsAt B w a2 m2 ps) (hB : B ≤ w.heap.size) :
    Calls Tryz.prog 62 #[.agg #[.int .i64 W, .slice a n cap], .slice a2 m2 cap2] w (GivesV w (apR W l ps)) := by
  have H := Lib.hid hc
  have HD := Lib.hid hd
  have hlp := hd.1
  clear hc hd
  have hb0 := (Below.refl w.heap.size w).alloc (Nat.le_refl _) (.cells #[.int .i64 W, .slice a n cap] 26)
  have hbox0 := RgAt.new (w := w) W (.slice a n cap) rfl
  have hsz0 : (w.alloc (.cells #[.int .i64 W, .slice a n cap] 26)).heap.size = w.heap.size + 1 := by simp
  have hb1 := hb0.alloc hb0.size (.cells #[] 3)
  have hbox1 := hbox0.alloc (.cells #[] 3)
  have hown1 := own_lit_m (w := w.alloc (.cells #[.int .i64 W, .slice a n cap] 26)) (B := w.heap.size) hsz0 (by omega)
  have hsz1 : ((w.alloc (.cells #[.int .i64 W, .slice a n cap] 26)).alloc (.cells #[] 3)).heap.size = w.heap.size + 2 := by simp
  go_enter Tryz.func62, Tryz.ntmps62
  go_wp2
  (try rw [hsz0])
  generalize ((w.alloc (.cells #[.int .i64 W, .slice a n cap] 26)).alloc (.cells #[] 3)) = W1 at *
  clear hsz0 hb0 hbox0
  have HB1 := Lib.hid hb1
  have HOW := Lib.hid hown1
  clear hb1 hown1
  cases h : arePc ps with
  | false =>
    have HF := Lib.hid h
    have HO := Lib.hid (apR_no h W l)
    clear h
    refine wp_loop_rounds 1 ?_
    rw [rounds_succ]
    by_cases h0 : 0 < (m2 : Int)
    · go_wp2_with fail
      refine (sArePc B m2 cap2 a2 ps _ (by omega) (HD.out.on (HB1.out.mono hB)) (Nat.le_trans hB HB1.out.size)).mono ?_
      rintro e w' ⟨rfl, hb⟩
      rw [HF.out]
      have HB3 := Lib.hid (HB1.out.trans (hb.mono HB1.out.size))
      have HOW3 := Lib.hid (HOW.out.kept (grow_below hb none) (.inr (by intro e; cases e)))
      clear hb
      go_wp2
      go_ret
      exact ⟨_, rfl, by rw [HO.out]; exact HOW3.out, HB3.out⟩
    · go_wp2
      go_ret
      exact ⟨_, rfl, by rw [HO.out]; exact HOW.out, HB1.out⟩
  | true =>
    have HF := Lib.hid h
    have hl5 := (arePc_len h).2
    rw [hlp] at hl5
    have HO := Lib.hid (show apR W l ps = ascI (apTo W l ps m2) from by rw [apR_yes h, hlp])
    clear h
    go_loopw [5, 6] (fun v i wr => ∃ k m g c : Nat, k ≤ m2 ∧ i = .int .i64 k ∧ v = .slice (some ⟨g, 0, none⟩) m c ∧ Hid (m = (ascI (apTo W l ps k)).length) ∧ Hid (wr.ownsRow w.heap.size 3 1 (.slice (some ⟨g, 0, none⟩) m c) m (iv (ascI (apTo W l ps k)))) ∧ Below W1.heap.size W1 wr) (fun _ i _ => m2 - (intOf i).toNat)
    case atStart => exact ⟨0, 0, _, 0, by omega, rfl, rfl, rfl, HOW.out, Below.refl _ _⟩
    case round =>
      obtain ⟨k, m, g, c, hk, rfl, rfl, hmm, hown, hb⟩ := hrel
      clear HOW
      have hsz := hb.size
      have hbw := HB1.out.trans (hb.mono HB1.out.size)
      by_cases hlt : k < m2
      · have hk1 : (k : Int) < (m2 : Int) := by omega
        have hk0 : (0 : Int) ≤ (k : Int) := by omega
        go_wp2_with fail
        refine (sArePc B m2 cap2 a2 ps wr (by omega) (HD.out.on (hbw.mono hB)) (Nat.le_trans hB hbw.size)).mono ?_
        rintro e w3 ⟨rfl, hb3⟩
        rw [HF.out]
        have hb3' := hb.trans (hb3.mono hsz)
        have hown3 := Lib.hid (hown.out.kept (grow_below hb3 none) (.inr (by intro e; cases e)))
        have hbw3 := HB1.out.trans (hb3'.mono HB1.out.size)
        have hs3 := hb3'.size
        obtain ⟨b, off, rfl, hbB, hcell⟩ := HD.out.2 (by omega)
        obtain ⟨ak, ck, h1, h2, h3⟩ := hcell k hlt
        have p1 := (hbw3.cell (p := ⟨b, off + k, none⟩) (Nat.lt_of_lt_of_le hbB hB)).trans h1
        have HC := Lib.hid ((h2.on (hbw3.mono hB)).more (Nat.le_trans hB hbw3.size))
        have HST := Lib.hid (apTo_succ (W := W) (l := l) (ps := ps) (i := k) (by omega))
        have hal := apTo_len W l ps k (by omega)
        obtain ⟨o, ho⟩ : ∃ o, ps.getD k [] = o := ⟨_, rfl⟩
        rw [ho] at p1 HC HST h3
        have hbx := hbox1.on hb3' hbox1.lt
        have c0 := hbx.c0
        have c1 := hbx.c1
        have hbl : b < w3.heap.size := by omega
        obtain ⟨A0, hA0⟩ : ∃ r, apTo W l ps k = r := ⟨_, rfl⟩
        rw [hA0] at hmm hown3 HST hal
        have HAT := Lib.hid ((H.out.on (hbw3.mono hB)).more (Nat.le_trans hB hbw3.size))
        have HB3 := Lib.hid hb3'
        clear hcell h1 h2 ho hown hA0 hb hb3 hbw hb3' hbw3
        generalize wr = w0 at *
        go_wp2_with fail
        go_region_held3 (fun w' => w'.cell? ⟨w.heap.size, 0, none⟩ = some (.int .i64 W) ∧ w'.cell? ⟨w.heap.size, 1, none⟩ = some (.slice a n cap) ∧ w'.cell? ⟨b, off + k, none⟩ = some (.slice ak o.length ck))
          (first | exact ⟨c0, c1, p1⟩ | exact ⟨hbx4.c0, hbx4.c1, p4⟩)
          (first | (go_at_call 97
                    refine (sPl w3.heap.size n cap o.length ck a ak W l o w3.drew hn h3 HAT.out HC.out (Nat.le_refl _)).mono ?_
                    rintro e w4 ⟨u, rfl, hou, hb4⟩
                    have hbx4 : RgAt w4 w.heap.size W (.slice a n cap) := RgAt.on (w := w3.drew) hbx hb4 hbx.lt
                    have p4 : w4.cell? ⟨b, off + k, none⟩ = some (.slice ak o.length ck) := (hb4.cell (p := ⟨b, off + k, none⟩) hbl).trans p1))
        all_goals
          have hb34 : Below w3.heap.size w3 w4 := ((Below.refl w3.heap.size w3).drew).trans hb4
          have HB4 := Lib.hid (HB3.out.trans (hb34.mono hs3))
          have HO4 := Lib.hid (hown3.out.kept (grow_below hb34 none) (.inr (by intro e; cases e)))
          have hou2 : w4.ownsRow w3.heap.size 3 1 u (plR W l o).length (iv (plR W l o)) := hou
          obtain ⟨au, cu, rfl⟩ := own_sl_n hou2
          have HU := Lib.hid (IntsAt.of_own hou2 (plR_in64 W l o))
          have hs4 := hb34.size
          have hul := plR_len W l o
          obtain ⟨L, hL⟩ : ∃ L, plR W l o = L := ⟨_, rfl⟩
          rw [hL] at HU HST hul ⊢
          obtain ⟨q, hq⟩ : ∃ q, L.length = q := ⟨_, rfl⟩
          rw [hq] at HU hul ⊢
          have HQ := Lib.hid hq
          clear hb4 hb34 hou hou2 hbx4 p4 c0 c1 p1 hown3 hL hq HB3
          (try simp only [Exit.then])
          go_wp2
          go_loopw [5, 8] (fun v i wr => ∃ j m g c : Nat, j ≤ q ∧ i = .int .i64 j ∧ v = .slice (some ⟨g, 0, none⟩) m c ∧ Hid (m = (ascI (A0 ++ L.take j)).length) ∧ Hid (wr.ownsRow w.heap.size 3 1 (.slice (some ⟨g, 0, none⟩) m c) m (iv (ascI (A0 ++ L.take j)))) ∧ Below w4.heap.size w4 wr) (fun _ i _ => q - (intOf i).toNat)
          case atStart => exact ⟨0, m, g, c, by omega, rfl, rfl, by rw [List.take_zero, List.append_nil]; exact hmm, by rw [List.take_zero, List.append_nil]; exact HO4.out, Below.refl _ _⟩
          case round =>
            clear HO4 hmm
            obtain ⟨j, m, g, c, hj, rfl, rfl, hmm, hown, hb⟩ := hrel
            have hsz := hb.size
            by_cases hjt : j < q
            · have hj1 : (j : Int) < (q : Int) := by omega
              have hj0 : (0 : Int) ≤ (j : Int) := by omega
              obtain ⟨bu, ou, rfl, hbu, hcu⟩ := HU.out.2.2 (by omega)
              have p1 := (hb.cell (p := ⟨bu, ou + j, none⟩) hbu).trans (hcu j hjt)
              have HTK := Lib.hid (show ascI (A0 ++ L.take (j + 1)) = putM (ascI (A0 ++ L.take j)) (L.getD j 0) from by rw [take_snocI L j (by rw [HQ.out]; exact hjt), ← List.append_assoc, ascI_put])
              have hml := ascI_len (A0 ++ L.take j)
              rw [← hmm.out, List.length_append, List.length_take] at hml
              obtain ⟨z, hz⟩ : ∃ z, L.getD j 0 = z := ⟨_, rfl⟩
              rw [hz] at p1 HTK
              obtain ⟨A1, hA1⟩ : ∃ r, ascI (A0 ++ L.take j) = r := ⟨_, rfl⟩
              rw [hA1] at hmm hown HTK
              have hown9 := hown.out
              clear hcu hz hA1 hown
              go_wp2_with fail
              refine (sPutI w.heap.size g m c A1 z wr (by omega) hown9 (by omega)).mono ?_
              rintro e w10 ⟨g2, c2, rfl, hown10, hb10⟩
              have HO10 := Lib.hid hown10
              have HB10 := Lib.hid (hb.trans (hb10.mono hsz))
              rw [← HTK.out] at HO10
              have hlx : (putM A1 z).length = (ascI (A0 ++ L.take (j + 1))).length := by rw [HTK.out]
              rw [hlx]
              clear hown10 hb10 hown9 hlx
              go_wp2
              go_roundw
              case rel => exact ⟨j + 1, _, g2, c2, by omega, by go_num, rfl, rfl, HO10.out, HB10.out⟩
              case measure => simp [intOf]; omega
            · obtain rfl : j = q := by omega
              have e9 : L.take j = L := List.take_of_length_le (by rw [HQ.out]; exact Nat.le_refl _)
              rw [e9, ← HST.out] at hmm hown
              have HBZ := Lib.hid (HB4.out.trans (hb.mono (by omega)))
              clear e9 hb
              go_wp2
              go_roundw
              case rel => exact ⟨k + 1, m, g, c, by omega, by go_num, rfl, hmm, hown.out, HBZ.out⟩
              case measure => simp [intOf]; omega
      · obtain rfl : k = m2 := by omega
        have HO9 := Lib.hid (show wr.ownsRow w.heap.size 3 1 (.slice (some ⟨g, 0, none⟩) m c) (apR W l ps).length (iv (apR W l ps)) from by rw [HO.out, ← hmm.out]; exact hown.out)
        have HBW := Lib.hid hbw
        clear hbw hb hown hmm
        go_wp2
        go_ret
        exact ⟨_, rfl, HO9.out, HBW.out⟩
end

section
open Go.RowKit

theorem fit_is {f m low : Nat} (hl : lowB f = low) : fitB f m = (m.testBit low && decide (m &&& f = m)) := by unfold fitB; rw [hl]

set_option maxHeartbeats 4000000 in
set_option maxRecDepth 100000 in
theorem sCount (n cap : Nat) (a : Option Addr) (Q : List Nat) (hn : n ≤ 100000) (hQ : ∀ m ∈ Q, m ≠ 0 ∧ m < 68719476736) :
    ∀ (F f : Nat), f ≤ F → f < 68719476736 → ∀ M : Nat, 1 ≤ M → M ≤ 100000 → ∀ (B : Nat) (w : World), IntsAt B w a n (ints Q) → B ≤ w.heap.size →
    Calls Tryz.prog 65 #[.slice a n cap, .int .i64 f, .int .i64 M] w fun e w' => e = .returned (.int .i64 (min (cntR Q f) M : Nat)) ∧ Below w.heap.size w w' := by
  intro F
  induction F with
  | zero =>
    intro f hf0 hf M hM1 hM2 B w hc hB
    obtain rfl : f = 0 := by omega
    have HC := Lib.hid (show min (cntR Q 0) M = 1 from by rw [cntR_zero]; omega)
    rw [HC.out]
    go_enter Tryz.func65, Tryz.ntmps65
    go_wp2
    go_ret
    exact ⟨rfl, Below.refl _ _⟩
  | succ F ih =>
    intro f hfF hf M hM1 hM2 B w hc hB
    by_cases h0 : f = 0
    · subst h0
      have HC := Lib.hid (show min (cntR Q 0) M = 1 from by rw [cntR_zero]; omega)
      rw [HC.out]
      go_enter Tryz.func65, Tryz.ntmps65
      go_wp2
      go_ret
      exact ⟨rfl, Below.refl _ _⟩
    have hfz : ((f : Int) == 0) = false := by simp; omega
    have HIH := Lib.hid ih
    have HQ := Lib.hid hQ
    have H := Lib.hid hc
    have hln := hc.1
    rw [ints_len] at hln
    have HTA := Lib.hid (tilR_all Q h0)
    have hlow := lowB_lt h0 (show f < 2 ^ 64 by omega)
    have HSL := Lib.hid (fun W => sLow f h0 (show f < 9223372036854775808 by omega) W)
    obtain ⟨low, hlw⟩ : ∃ low, lowB f = low := ⟨_, rfl⟩
    have HFI := Lib.hid (fun m => fit_is (m := m) hlw)
    rw [hlw] at hlow HSL
    clear ih hc hlw
    have hl0 : (0 : Int) ≤ (low : Int) := by omega
    go_enter Tryz.func65, Tryz.ntmps65
    go_wp2_with fail
    refine (HSL.out w).mono ?_
    rintro e w1 ⟨rfl, hb1⟩
    have HB1 := Lib.hid hb1
    clear hb1
    go_wp2
    go_loopw [7, 9] (fun tv ix wr => ∃ i t : Nat, i ≤ n ∧ ix = .int .i64 (i : Int) ∧ tv = .int .i64 (t : Int) ∧ t ≤ M ∧ Hid (min t M = min (cntTo Q Q (fitB f) f i) M) ∧ Below w.heap.size w wr) (fun _ ix _ => n - (intOf ix).toNat)
    case atStart => exact ⟨0, 0, by omega, rfl, rfl, by omega, rfl, HB1.out⟩
    case round =>
      clear HB1
      obtain ⟨i, t, hi, rfl, rfl, ht, hrl, hb⟩ := hrel
      by_cases hlt : i < n
      · have hi1 : (i : Int) < (n : Int) := by omega
        have hi0 : (0 : Int) ≤ (i : Int) := by omega
        by_cases htM : t < M
        · have htM1 : (t : Int) < (M : Int) := by omega
          obtain ⟨b9, o9, rfl, hb9, hc9⟩ := (H.out.on (hb.mono hB)).2.2 (by omega)
          have p1 := hc9 i hlt
          rw [ints_get] at p1
          have hm := HQ.out (Q.getD i 0) (getD_memN (by omega))
          have HCY := Lib.hid (cntTo_yes Q (C := Q) (p := fitB f) f (i := i) (by omega))
          have HCN := Lib.hid (cntTo_no Q (C := Q) (p := fitB f) f (i := i) (by omega))
          have HFM := Lib.hid (HFI.out (Q.getD i 0))
          have HFS := Lib.hid (fun h => fit_sub (f := f) (m := Q.getD i 0) h)
          obtain ⟨m, hmm⟩ : ∃ m, Q.getD i 0 = m := ⟨_, rfl⟩
          rw [hmm] at p1 hm HCY HCN HFM HFS
          clear hc9 hmm
          obtain ⟨u, hu⟩ : ∃ u : Nat, m / 2 ^ low = u := ⟨_, rfl⟩
          have hdiv : (m : Int) / (2 : Int) ^ low = (u : Int) := by rw [← hu]; simp
          have hum : u ≤ m := by rw [← hu]; exact Nat.div_le_self _ _
          have hand := bit_val (m := m) low (by omega)
          rw [hu] at hand
          clear hu
          cases htb : m.testBit low with
          | false =>
            rw [htb] at hand
            have hand1 : bits .and .i64 (u : Int) 1 = 0 := hand
            have HL5 := Lib.hid (show min t M = min (cntTo Q Q (fitB f) f (i + 1)) M from by rw [HCN.out (by rw [HFM.out, htb]; rfl)]; exact hrl.out)
            clear HCY HCN HFM HFS hand htb hrl
            go_wp2_with fail
            go_quiet (fail)
            go_wp2
            go_roundw
            case rel => first
              | exact ⟨i + 1, t, by omega, by go_num, rfl, ht, HL5.out, below_drewn hb _⟩
              | (repeat apply Exists.intro
                 exact ⟨⟨i + 1, t, by omega, by go_num, rfl, ht, HL5.out, below_drewn hb _⟩, rfl⟩)
            case measure => first | (simp [intOf]; done) | (simp [intOf]; omega)
          | true =>
            rw [htb] at hand
            have hand1 : bits .and .i64 (u : Int) 1 = 1 := hand
            have hmf := i64_and_nat m f (by omega) (by omega)
            by_cases hsb : m &&& f = m
            · rw [hsb] at hmf
              have e3 : ((m : Int) == (m : Int)) = true := by simp
              have hfit : fitB f m = true := by rw [HFM.out, htb, hsb]; simp
              have hfs := HFS.out hfit
              have HCS := Lib.hid (HCY.out hfit)
              obtain ⟨fm, hfm⟩ : ∃ fm, f - m = fm := ⟨_, rfl⟩
              obtain ⟨r, hr⟩ : ∃ r, M - t = r := ⟨_, rfl⟩
              have hfm1 : (f : Int) - (m : Int) = (fm : Int) := by omega
              have hr1 : (M : Int) - (t : Int) = (r : Int) := by omega
              rw [hfm] at HCS hfs
              have HR := Lib.hid (fun v9 (h9 : Below w.heap.size w v9) => HIH.out fm (by omega) (by omega) r (by omega) (by omega) B v9 (H.out.on (h9.mono hB)) (Nat.le_trans hB h9.size))
              obtain ⟨c, hcc⟩ : ∃ c, min (cntR Q fm) r = c := ⟨_, rfl⟩
              rw [hcc] at HR
              have HCC := Lib.hid hcc
              have hcr : c ≤ r := by omega
              have htr : r + t = M := by omega
              clear HCY HCN HFM HFS hand htb hfit hsb hcc
              go_wp2_with fail
              go_quiet (fail)
              go_wp2_with fail
              refine (HR.out _ (below_drewn hb _)).mono ?_
              rintro e w5 ⟨rfl, hb5⟩
              have HB5 := Lib.hid ((below_drewn hb _).trans (hb5.mono (below_drewn hb _).size))
              have HL5 := Lib.hid (show min (t + c) M = min (cntTo Q Q (fitB f) f (i + 1)) M from by
                have h1 := hrl.out
                have h2 := HCS.out
                have h3 := HCC.out
                unfold Hid at *
                rw [h2]
                omega)
              clear hb5 hrl HCS HCC HR hb
              go_wp2
              go_roundw
              case rel => first
                | exact ⟨i + 1, t + c, by omega, by go_num, by go_num, by omega, HL5.out, HB5.out⟩
                | (repeat apply Exists.intro
                   exact ⟨⟨i + 1, t + c, by omega, by go_num, by go_num, by omega, HL5.out, HB5.out⟩, rfl⟩)
              case measure => first | (simp [intOf]; done) | (simp [intOf]; omega)
            · obtain ⟨mf, hmf2⟩ : ∃ mf, m &&& f = mf := ⟨_, rfl⟩
              have HL5 := Lib.hid (show min t M = min (cntTo Q Q (fitB f) f (i + 1)) M from by rw [HCN.out (by rw [HFM.out, htb, decide_eq_false hsb]; rfl)]; exact hrl.out)
              rw [hmf2] at hmf hsb
              have e3 : ((mf : Int) == (m : Int)) = false := by simp; omega
              clear HCY HCN HFM HFS hand htb hrl hsb hmf2
              go_wp2_with fail
              go_quiet (fail)
              go_wp2
              go_roundw
              case rel => first
                | exact ⟨i + 1, t, by omega, by go_num, rfl, ht, HL5.out, below_drewn hb _⟩
                | (repeat apply Exists.intro
                   exact ⟨⟨i + 1, t, by omega, by go_num, rfl, ht, HL5.out, below_drewn hb _⟩, rfl⟩)
              case measure => first | (simp [intOf]; done) | (simp [intOf]; omega)
        · obtain rfl : t = M := by omega
          have HR := Lib.hid (show min (cntR Q f) t = t from by
            have h1 := hrl.out
            unfold Hid at h1
            have h2 := cntTo_le Q Q (fitB f) f i
            have h3 : cntR Q f = (segR Q (Q.filter (fitB f)) f).length := by unfold cntR; rw [tilR_step Q h0]
            omega)
          clear hrl
          go_wp2
          go_ret
          exact ⟨by rw [HR.out]; rfl, hb⟩
      · obtain rfl : i = n := by omega
        have HR := Lib.hid (show min (cntR Q f) M = t from by
          have h1 := hrl.out
          unfold Hid at h1
          have h3 : cntR Q f = cntTo Q Q (fitB f) f i := by unfold cntR cntTo; rw [HTA.out, hln]
          omega)
        clear hrl
        go_wp2
        go_ret
        exact ⟨by rw [HR.out]; rfl, hb⟩

theorem own_intsQ {V V1 : World} {v : Value} {W : Int} {l : List Int} {ps : List (List Cl)} (ho : V1.ownsRow V.heap.size 3 1 v (apR W l ps).length (iv (apR W l ps))) :
    ∃ a cap, v = .slice a (apR W l ps).length cap ∧ (apR W l ps).length ≤ 100000 ∧ IntsAt V1.heap.size V1 a (apR W l ps).length (ints (pQ W l ps)) := by
  have hs : ∃ a cap, v = .slice a (apR W l ps).length cap := by
    rcases ho.2 with ⟨rfl, h0⟩ | ⟨g, cap, cur, rfl, _⟩
    · rw [h0]; exact ⟨none, 0, rfl⟩
    · exact ⟨_, cap, rfl⟩
  obtain ⟨a, cap, rfl⟩ := hs
  refine ⟨a, cap, rfl, by rw [← pQ_ints, ints_len]; exact Nat.le_trans (pQ_len W l ps) (by omega), ?_⟩
  have h2 := IntsAt.of_own ho (fun z hz => by have := apR_bd W l ps z hz; unfold In64; omega)
  rw [pQ_ints]
  exact h2
theorem sCountP (_n _cap _m2 _cap2 : Nat) (W : Int) (l : List Int) (ps : List (List Cl)) (M : Nat) (hM1 : 1 ≤ M) (hM2 : M ≤ 100000) (V V1 V2 : World) (v : Value)
    (ho : V1.ownsRow V.heap.size 3 1 v (apR W l ps).length (iv (apR W l ps))) (hb : Below V1.heap.size V1 V2) :
    Calls Tryz.prog 65 #[v, .int .i64 (maskR W l : Nat), .int .i64 M] V2 fun e w' => e = .returned (.int .i64 (min (cntR (pQ W l ps) (maskR W l)) M : Nat)) ∧ Below V2.heap.size V2 w' := by
  obtain ⟨a, cap, rfl, h1, h2⟩ := own_intsQ ho
  exact sCount _ cap a (pQ W l ps) h1 (pQ_ok W l ps) (maskR W l) (maskR W l) (Nat.le_refl _) (maskR_lt W l) M hM1 hM2 V1.heap.size V2 (h2.on hb) hb.size

set_option maxHeartbeats 4000000 in
set_option maxRecDepth 100000 in
theorem sCntT (B n cap m2 cap2 : Nat) (a a2 : Option Addr) (W : Int) (l : List Int) (ps : List (List Cl)) (w : World) (hn : n ≤ 4194304) (hm : m2 ≤ 1048576) (hc : IntsAt B w a n l) (hd : PsAt B w a2 m2 ps) (hB : B ≤ w.heap.size) :
    Calls Tryz.prog 18 #[.agg #[.int .i64 W, .slice a n cap], .slice a2 m2 cap2] w fun e w' => e = .returned (.int .i64 (cntT W l ps)) ∧ Below w.heap.size w w' := by
  have H := Lib.hid hc
  have HD := Lib.hid hd
  clear hc hd
  have hb0 := (Below.refl w.heap.size w).alloc (Nat.le_refl _) (.cells #[.int .i64 W, .slice a n cap] 26)
  have hbox0 := RgAt.new (w := w) W (.slice a n cap) rfl
  have hsz0 : (w.alloc (.cells #[.int .i64 W, .slice a n cap] 26)).heap.size = w.heap.size + 1 := by simp
  cases h1 : isReg W l with
  | false =>
    have HI := Lib.hid h1
    have HO := Lib.hid (cntT_no (ps := ps) (show okT W l ps = false from by unfold okT; rw [h1]; rfl))
    rw [HO.out]
    clear h1
    go_enter Tryz.func18, Tryz.ntmps18
    go_wp2_with fail
    refine (sIsReg B n cap a W l _ hn (H.out.on (hb0.mono hB)) (Nat.le_trans hB hb0.size)).mono ?_
    rintro e w' ⟨rfl, hb⟩
    rw [HI.out]
    go_wp2
    go_ret
    exact ⟨rfl, hb0.trans (hb.mono hb0.size)⟩
  | true =>
    have HI := Lib.hid h1
    cases h2 : arePc ps with
    | false =>
      have HP := Lib.hid h2
      have HO := Lib.hid (cntT_no (W := W) (l := l) (show okT W l ps = false from by unfold okT; rw [h1, h2]; rfl))
      rw [HO.out]
      clear h1 h2
      go_enter Tryz.func18, Tryz.ntmps18
      go_wp2_with fail
      refine (sIsReg B n cap a W l _ hn (H.out.on (hb0.mono hB)) (Nat.le_trans hB hb0.size)).mono ?_
      rintro e w1 ⟨rfl, hb⟩
      rw [HI.out]
      have HB1 := Lib.hid (hb0.trans (hb.mono hb0.size))
      clear hb hb0
      go_wp2_with fail
      refine (sArePc B m2 cap2 a2 ps w1 (by omega) (HD.out.on (HB1.out.mono hB)) (Nat.le_trans hB HB1.out.size)).mono ?_
      rintro e w2 ⟨rfl, hb2⟩
      rw [HP.out]
      go_wp2
      go_ret
      exact ⟨rfl, HB1.out.trans (hb2.mono HB1.out.size)⟩
    | true =>
      have HP := Lib.hid h2
      have HO := Lib.hid (cntT_yes (show okT W l ps = true from by unfold okT; rw [h1, h2]; rfl))
      rw [HO.out]
      clear h1 h2
      go_enter Tryz.func18, Tryz.ntmps18
      go_wp2_with fail
      refine (sIsReg B n cap a W l _ hn (H.out.on (hb0.mono hB)) (Nat.le_trans hB hb0.size)).mono ?_
      rintro e w1 ⟨rfl, hb⟩
      rw [HI.out]
      have HB1 := Lib.hid (hb0.trans (hb.mono hb0.size))
      have HX1 := Lib.hid (hbox0.on hb hbox0.lt)
      clear hb hb0 hbox0 hsz0
      go_wp2_with fail
      refine (sArePc B m2 cap2 a2 ps w1 (by omega) (HD.out.on (HB1.out.mono hB)) (Nat.le_trans hB HB1.out.size)).mono ?_
      rintro e vb ⟨rfl, hb2⟩
      rw [HP.out]
      have HB := Lib.hid (HB1.out.trans (hb2.mono HB1.out.size))
      have HBX := Lib.hid (HX1.out.on hb2 HX1.out.lt)
      clear hb2 HB1 HX1
      have hsb := HB.out.size
      have HK1 := Lib.hid (fun v9 (h9 : Below vb.heap.size vb v9) => sAp B n cap m2 cap2 a a2 W l ps v9 hn hm (H.out.on ((HB.out.mono hB).trans (h9.mono (by omega)))) (HD.out.on ((HB.out.mono hB).trans (h9.mono (by omega)))) (by have := h9.size; omega))
      have HK3 := Lib.hid (fun v9 (h9 : Below vb.heap.size vb v9) => sMask B n cap a W l v9 hn (H.out.on ((HB.out.mono hB).trans (h9.mono (by omega)))) (by have := h9.size; omega))
      have HS := Lib.hid (fun v9 (h9 : Below vb.heap.size vb v9) => (show v9.cell? ⟨w.heap.size, 0, none⟩ = some (.int .i64 W) ∧ v9.cell? ⟨w.heap.size, 1, none⟩ = some (.slice a n cap) from by have h8 := HBX.out.on h9 HBX.out.lt; exact ⟨h8.c0, h8.c1⟩))
      have c0 := HBX.out.c0
      have c1 := HBX.out.c1
      go_wp2_with fail
      have k0 : Below vb.heap.size vb vb.drew := (Below.refl _ vb).drew
      go_region_held3 (fun w' => w'.cell? ⟨w.heap.size, 0, none⟩ = some (.int .i64 W) ∧ w'.cell? ⟨w.heap.size, 1, none⟩ = some (.slice a n cap))
        (first | exact HS.out _ k0 | exact HS.out _ k1 | exact HS.out _ k3 | exact HS.out _ k4)
        (first
          | (go_at_call 62
             refine (HK1.out _ k0).mono ?_
             rintro e v1 ⟨av, rfl, ho1, hb1⟩
             have k1 : Below vb.heap.size vb v1 := Below.trans k0 (hb1.mono (Below.size k0)))
          | (go_at_call 63
             refine (HK3.out _ k1).mono ?_
             rintro e v3 ⟨rfl, hb3⟩
             have k3 : Below vb.heap.size vb v3 := Below.trans k1 (hb3.mono (Below.size k1)))
          | (go_at_call 65
             refine (sCountP n cap m2 cap2 W l ps 2000 (by omega) (by omega) vb.drew v1 v3 av ho1 hb3).mono ?_
             rintro e v4 ⟨rfl, hb4⟩
             have k4 : Below vb.heap.size vb v4 := Below.trans k3 (hb4.mono (Below.size k3))))
      have HB9 := Lib.hid (HB.out.trans (k4.mono hsb))
      clear k0 k1 k3 k4 c0 c1 ho1 hb1 hb3 hb4
      (try simp only [Exit.then])
      go_wp2
      go_ret
      exact ⟨rfl, HB9.out⟩
end

section
open Go.RowKit

/-- A list of masks in memory: its block, its capacity, its masks. -/
abbrev IE := Nat × Nat × List Nat
def ieV (e : IE) : Value := .slice (some ⟨e.1, 0, none⟩) e.2.2.length e.2.1
def dIE : IE := (0, 0, [])
def kI (e : IE) : List Nat := e.2.2
structure OwnI (B : Nat) (w : World) (v : Value) (es : List IE) : Prop where
  row : w.ownsRow B 24 1 v es.length (es.map ieV)
  each : ∀ e ∈ es, w.ownsRow B 3 1 (ieV e) e.2.2.length (iv (ints e.2.2))
  off : ∀ e ∈ es, v.ownBlock ≠ some e.1
theorem info_rows : (Tryz.prog.info? 24).map (fun i => (i.zero, i.size, i.bytes)) = some (some (.slice none 0 0), 1, 24) := by kernel_rfl
section
variable {B : Nat} {w w' : World} {v : Value} {es : List IE}
theorem OwnI.lt (h : OwnI B w v es) {e : IE} (he : e ∈ es) : B ≤ e.1 ∧ e.1 < w.heap.size := (h.each e he).lt e.1 rfl
theorem OwnI.by {r : Option Nat} (h : OwnI B w v es) (hg : w.grownBy w' r) (h1 : ∀ b, v.ownBlock = some b → r ≠ some b) (h2 : ∀ e ∈ es, r ≠ some e.1) : OwnI B w' v es :=
  ⟨h.row.kept hg (by
    cases e : v.ownBlock with
    | none => exact .inl rfl
    | some b => exact .inr fun e2 => h1 b e e2.symm), fun e he => (h.each e he).kept hg (.inr fun e2 => h2 e he e2.symm), h.off⟩
theorem OwnI.on (h : OwnI B w v es) (hb : Below w.heap.size w w') : OwnI B w' v es := h.by (grow_below hb none) (fun _ _ e => by cases e) (fun _ _ e => by cases e)
theorem OwnI.less {B' : Nat} (h : OwnI B w v es) (hB : B' ≤ B) : OwnI B' w v es := ⟨own_below h.row hB, fun e he => own_below (h.each e he) hB, h.off⟩
theorem own_sliceR {n : Nat} {xs : List Value} (h : w.ownsRow B 24 1 v n xs) : ∃ a cap, v = .slice a n cap := by
  rcases h.2 with ⟨rfl, h0⟩ | ⟨g, cap, cur, rfl, _⟩
  · subst h0; exact ⟨none, 0, rfl⟩
  · exact ⟨_, cap, rfl⟩
/-- One more. -/
theorem OwnI.snoc {v' : Value} {e : IE} (h : OwnI B w v es) (hrow : w'.ownsRow B 24 1 v' (es.length + 1) (es.map ieV ++ [ieV e])) (hg : w.grownBy w' v.ownBlock) (hat : v'.ownBlock = v.ownBlock ∨ ∃ g, v'.ownBlock = some g ∧ w.heap.size ≤ g)
    (he : w.ownsRow B 3 1 (ieV e) e.2.2.length (iv (ints e.2.2))) (hoff : v.ownBlock ≠ some e.1) : OwnI B w' v' (es ++ [e]) := by
  have hlt := he.lt e.1 rfl
  refine ⟨by rw [List.length_append, List.map_append]; exact hrow, fun x hx => ?_, fun x hx => ?_⟩
  · rw [List.mem_append, List.mem_singleton] at hx
    rcases hx with hx | rfl
    · exact (h.each x hx).kept hg (.inr fun e2 => h.off x hx e2.symm)
    · exact he.kept hg (.inr fun e2 => hoff e2.symm)
  · rw [List.mem_append, List.mem_singleton] at hx
    rcases hat with h1 | ⟨g, h1, h2⟩
    · rw [h1]
      rcases hx with hx | rfl
      · exact h.off x hx
      · exact hoff
    · rw [h1]
      intro e3
      have e4 : g = x.1 := Option.some.inj e3
      rcases hx with hx | rfl
      · have := (h.lt hx).2; omega
      · omega
end
theorem ieV_one (es : List IE) : ∀ u ∈ es.map ieV, u.oneCell' = true := by
  intro u hu
  obtain ⟨e, _, rfl⟩ := List.mem_map.1 hu
  rfl

/-- An append, nil or not what is appended, to a slice that holds something afterwards. -/
theorem step_append_some {P : Program} (w : World) {ops : Array Oper} {o : Oper} {a : Act} {K : Act → World → Prop} {Q : Exit → Act → World → Prop} {E : Prop} (hgd : o.guard = none) (s x : Operand) (t : TypeId)
    (ho : o.op = .call { callee := .builtin .append, args := #[s, x], argTypes := #[t, t] })
    (base : Nat) (e : TypeId) (i : TypeInfo) (z : Value) (size bytes : Nat) (ht : P.underlying t = some (.slice e)) (hi : P.info? e = some i) (hz : i.zero = some z)
    (hsize : i.size = size) (hby : i.bytes = bytes) (hzs : z.cells.size = size) (hsz : 0 < size)
    (v : Value) (n : Nat) (xs : List Value) (hs : a.eval s = v) (hown : w.ownsRow base e size v n xs)
    (ad : Addr) (m c : Nat) (news : List Value) (hx : a.eval x = .slice (some ad) m c) (hl : news.length = m * size) (hnews : ∀ j u, news[j]? = some u → w.cell? (ad.add j) = some u) (h1 : ∀ u ∈ news, u.oneCell' = true)
    (hm : 0 < n + m) (h63 : n + m ≤ maxLen) (hbytes : (n + m) * bytes ≤ 140737488355328) (hbase : base ≤ w.heap.size) (H : Nat) (hH : w.heap.size = H)
    (h : ∀ g cap w', w'.ownsRow base e size (.slice (some ⟨g, 0, none⟩) (n + m) cap) (n + m) (xs ++ news) → w.grownBy w' v.ownBlock → (v.ownBlock = some g ∨ g = H) → g < w'.heap.size → K (a.put o.dst (.slice (some ⟨g, 0, none⟩) (n + m) cap)) w') :
    if Region.wanted o (yielded ops a.tmps) = true then Oper.wp P o a w K Q else E := by
  have hw : Region.wanted o (yielded ops a.tmps) = true := by simp [Region.wanted, hgd]
  rw [if_pos hw]
  obtain ⟨v', w', hr, h2, h3, _, h5⟩ := run_append_own_at (P := P) w base t o.type e i z size bytes ht hi hz hsize hby hzs hsz v n xs hown ad m c news hl hnews h1 h63 hbytes hbase
  unfold Oper.wp execOp
  simp only [ho, resolve, invoke, builtin, Sem.run_bind, Sem.run_pure, Result.andThen_ok, List.map_toArray, List.map_cons, List.map_nil, hs, hx, hr]
  rcases h2.2 with ⟨rfl, h0⟩ | ⟨g, cap, cur, rfl, _⟩
  · omega
  · refine h g cap w' h2 h3 ?_ (h2.lt g rfl).2
    rcases h5 with h6 | h6
    · exact .inl h6.symm
    · right
      rw [← hH]
      exact Option.some.inj h6

/-! ### What is reached, at most so many -/
theorem take_seg {α : Type} (A C : List α) {M : Nat} (h : (A.take M).length < M) : (A ++ C).take M = A.take M ++ C.take (M - (A.take M).length) := by
  have h1 : A.length < M := by rw [List.length_take] at h; omega
  rw [List.take_append, List.take_of_length_le (by omega : A.length ≤ M)]
theorem take_full {α : Type} (A C : List α) {M : Nat} (h : (A.take M).length = M) : (A ++ C).take M = A.take M := by
  rw [List.length_take] at h
  rw [List.take_append, show M - A.length = 0 by omega, List.take_zero, List.append_nil]
end

end Go.Proofs.YtkjlmgkjcmebbaaGreatDoor
