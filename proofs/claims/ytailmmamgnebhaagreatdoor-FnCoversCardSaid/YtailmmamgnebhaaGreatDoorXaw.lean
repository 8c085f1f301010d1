/-
  The placements as masks, the counts and the ways of a region: the plain facts.
  The least place, is a mask among some, counts without lists: in the model: what each call gives.
  Placements of several shapes, those that have a cell: in the model: what the calls give.
-/
import Derived.Test.YtailmmamgnebhaaGreatDoorXav
import Derived.Test.YtailmmamgnebhaaGreatDoorXaq
import Derived.Test.YtailmmamgnebhaaGreatDoorXag
import Derived.Test.YtailmmamgnebhaaGreatDoorXau
import Derived.Test.YtailmmamgnebhaaGreatDoorSm6
import Derived.Lib.QuietBelow
namespace Go.Proofs.YtailmmamgnebhaaGreatDoor

section
theorem plR_pos (W : Int) (l : List Int) (s : List Cl) : ∀ m ∈ plR W l s, 0 < m := by
  intro m hm
  cases h : isReg W l with
  | false => rw [plR_no h] at hm; cases hm
  | true =>
    obtain ⟨N, rfl, hr⟩ := isReg_out h
    obtain ⟨o, ho, y, x, _, rfl⟩ := (mem_plR hr).1 hm
    have hs := (orient_mem ho).2.1.shape
    have hl := ((isShape_iff o).1 hs).1.1
    have h1 : (moveC x y o).length = o.length := by unfold moveC; exact List.length_map _
    obtain ⟨c, hc⟩ : ∃ c, c ∈ moveC (x : Int) (y : Int) o := List.exists_mem_of_length_pos (by omega)
    have hb := (orB_bit N (moveC x y o) (bN N c)).2 ⟨c, hc, rfl⟩
    have h0 : orB N (moveC x y o) ≠ 0 := fun e => by rw [e] at hb; simp at hb
    omega
/-- All placements, as masks. -/
def pQ (W : Int) (l : List Int) (ps : List (List Cl)) : List Nat := (apR W l ps).map Int.toNat
theorem apR_bd (W : Int) (l : List Int) (ps : List (List Cl)) : ∀ m ∈ apR W l ps, 0 < m ∧ m < 68719476736 := by
  intro m hm
  cases h : arePc ps with
  | false => rw [apR_no h] at hm; cases hm
  | true =>
    rw [apR_yes h, mem_ascI] at hm
    refine ⟨?_, (apTo_bd W l ps _ m hm).2⟩
    unfold apTo at hm
    obtain ⟨s, _, h2⟩ := List.mem_flatMap.1 hm
    exact plR_pos W l s m h2
theorem pQ_ints (W : Int) (l : List Int) (ps : List (List Cl)) : ints (pQ W l ps) = apR W l ps := by
  unfold ints pQ
  rw [List.map_map]
  conv => rhs; rw [← List.map_id (apR W l ps)]
  apply List.map_congr_left
  intro m hm
  have := apR_bd W l ps m hm
  show ((m.toNat : Nat) : Int) = m
  omega
theorem pQ_ok (W : Int) (l : List Int) (ps : List (List Cl)) : ∀ m ∈ pQ W l ps, m ≠ 0 ∧ m < 68719476736 := by
  intro m hm
  unfold pQ at hm
  obtain ⟨z, hz, rfl⟩ := List.mem_map.1 hm
  have := apR_bd W l ps z hz
  omega
theorem pQ_len (W : Int) (l : List Int) (ps : List (List Cl)) : (pQ W l ps).length ≤ 1440 := by
  unfold pQ
  rw [List.length_map]
  cases h : arePc ps with
  | false => rw [apR_no h]; simp
  | true =>
    rw [apR_yes h]
    have h1 := ascI_len (apTo W l ps ps.length)
    have h2 := apTo_len W l ps ps.length (Nat.le_refl _)
    have h3 := (arePc_len h).2
    omega
/-- Region and pieces are valid. -/
def okT (W : Int) (l : List Int) (ps : List (List Cl)) : Bool := isReg W l && arePc ps
/-- How many tilings, at most so many. -/
def cntT (W : Int) (l : List Int) (ps : List (List Cl)) : Int := if okT W l ps = true then ((min (cntR (pQ W l ps) (maskR W l)) 2000 : Nat) : Int) else -1
theorem cntT_no {W : Int} {l : List Int} {ps : List (List Cl)} (h : okT W l ps = false) : cntT W l ps = -1 := if_neg (by rw [h]; simp)
theorem cntT_yes {W : Int} {l : List Int} {ps : List (List Cl)} (h : okT W l ps = true) : cntT W l ps = ((min (cntR (pQ W l ps) (maskR W l)) 2000 : Nat) : Int) := if_pos h
/-- The tiling with a number. -/
def tilN (W : Int) (l : List Int) (ps : List (List Cl)) (n : Int) : Option (List Nat) := if okT W l ps = true ∧ 0 ≤ n ∧ n ≤ 199 then (tilR (pQ W l ps) (maskR W l))[n.toNat]? else none
theorem tilN_no {W : Int} {l : List Int} {ps : List (List Cl)} {n : Int} (h : ¬ (okT W l ps = true ∧ 0 ≤ n ∧ n ≤ 199)) : tilN W l ps n = none := if_neg h
theorem tilN_yes {W : Int} {l : List Int} {ps : List (List Cl)} {n : Nat} (h : okT W l ps = true) (hn : n ≤ 199) : tilN W l ps n = (tilR (pQ W l ps) (maskR W l))[n]? := by
  unfold tilN
  rw [if_pos ⟨h, by omega, by omega⟩]
  rfl
/-- The tiling's masks, if there is one. -/
def wayI (t : Option (List Nat)) : List Int := ints (t.getD [])
def isTil (W : Int) (l : List Int) (ps : List (List Cl)) (ms : List Int) : Bool := okT W l ps && isTm (apR W l ps) (maskR W l) ms
theorem isTil_no {W : Int} {l : List Int} {ps : List (List Cl)} (h : okT W l ps = false) (ms : List Int) : isTil W l ps ms = false := by unfold isTil; rw [h]; rfl
theorem isTil_m {W : Int} {l : List Int} {ps : List (List Cl)} (h : okT W l ps = true) (ms : List Int) : isTil W l ps ms = isTm (apR W l ps) (maskR W l) ms := by unfold isTil; rw [h]; rfl
theorem isTil_p {W : Int} {l : List Int} {ps : List (List Cl)} (h : okT W l ps = true) (ms : List Int) : isTil W l ps ms = isTp (apR W l ps) (maskR W l) ms := by
  rw [isTil_m h, tiling_eq (apR_bd W l ps) (maskR_lt W l)]
theorem til_len (Q : List Nat) : ∀ n f, f ≤ n → f < 2 ^ 64 → ∀ t ∈ tilR Q f, t.length ≤ pop f ∨ 68719476736 ≤ f
  | n, f, hf, h64, t, ht => by
    by_cases hb : 68719476736 ≤ f
    · exact .inr hb
    left
    by_cases h0 : f = 0
    · subst h0
      rw [tilR_zero] at ht
      rw [List.mem_singleton.1 ht]
      exact Nat.zero_le _
    · obtain ⟨m, r, rfl, hm, hfit, hr⟩ := til_mem h0 ht
      have h1 := fit_sub hfit
      have h2 := pop_sub (fit_parts hfit).2
      have h3 := pop_pos (m := m) (by have := fit_pos hfit; omega) (by omega)
      cases n with
      | zero => omega
      | succ n =>
        rcases til_len Q n (f - m) (by omega) (by omega) r hr with h4 | h4
        · simp only [List.length_cons]; omega
        · omega
theorem til_len40 {Q : List Nat} {f : Nat} (hf : f < 68719476736) {t : List Nat} (h : t ∈ tilR Q f) : t.length ≤ 40 := by
  rcases til_len Q f f (Nat.le_refl _) (by omega) t h with h1 | h1
  · exact Nat.le_trans h1 (pop_le f)
  · omega
end

section
open Go.RowKit

set_option maxHeartbeats 2000000 in
set_option maxRecDepth 100000 in
theorem sLow (x : Nat) (h0 : x ≠ 0) (hx : x < 9223372036854775808) (w : World) :
    Calls Tryz.prog 100 #[.int .i64 x] w fun e w' => e = .returned (.int .i64 (lowB x : Nat)) ∧ Below w.heap.size w w' := by
  have hlt := lowB_lt h0 (show x < 2 ^ 64 by omega)
  have HB := Lib.hid (lowB_bit h0 (show x < 2 ^ 64 by omega))
  have HL := Lib.hid (fun j (h : x.testBit j = true) => lowB_le (show x < 2 ^ 64 by omega) h)
  obtain ⟨low, hlow⟩ : ∃ low, lowB x = low := ⟨_, rfl⟩
  rw [hlow] at hlt HB HL ⊢
  clear hlow
  have hxp : (0 : Int) < (x : Int) := by omega
  go_enter Tryz.func100, Tryz.ntmps100
  go_wp2
  go_loopw [3] (fun v wr => ∃ i : Nat, i ≤ low ∧ v = .int .i64 (i : Int) ∧ Below w.heap.size w wr) (fun v _ => low - (intOf v).toNat)
  case atStart => exact ⟨0, by omega, rfl, Below.refl _ _⟩
  case round =>
    obtain ⟨i, hi, rfl, hb⟩ := hrel
    have hi0 : (0 : Int) ≤ (i : Int) := by omega
    obtain ⟨t, ht⟩ : ∃ t : Nat, x / 2 ^ i = t := ⟨_, rfl⟩
    have hdiv : (x : Int) / (2 : Int) ^ i = (t : Int) := by rw [← ht]; simp
    have htm : t ≤ x := by rw [← ht]; exact Nat.div_le_self _ _
    have hand := bit_val (m := x) i (by omega)
    rw [ht] at hand
    clear ht
    by_cases hlt2 : i < low
    · have hbt : x.testBit i = false := by
        cases e : x.testBit i with
        | false => rfl
        | true => have := HL.out i e; omega
      rw [hbt] at hand
      have hand1 : bits .and .i64 (t : Int) 1 = 0 := hand
      clear hand hbt
      go_wp2
      go_roundw
      case rel => first
        | exact ⟨i + 1, by omega, by go_num, hb⟩
        | (repeat apply Exists.intro
           exact ⟨⟨i + 1, by omega, by go_num, hb⟩, rfl⟩)
      case measure => first | (simp [intOf]; done) | (simp [intOf]; omega)
    · obtain rfl : i = low := by omega
      rw [HB.out] at hand
      have hand1 : bits .and .i64 (t : Int) 1 = 1 := hand
      clear hand
      go_wp2
      go_ret
      exact ⟨rfl, hb⟩

set_option maxHeartbeats 2000000 in
set_option maxRecDepth 100000 in
theorem sHasI (B n cap : Nat) (a : Option Addr) (l : List Int) (z : Int) (w : World) (hn : n ≤ 4194304) (hc : IntsAt B w a n l) (hB : B ≤ w.heap.size) :
    Calls Tryz.prog 99 #[.slice a n cap, .int .i64 z] w fun e w' => e = .returned (.bool (l.contains z)) ∧ Below w.heap.size w w' := by
  have H := Lib.hid hc
  have hln := hc.1
  clear hc
  go_enter Tryz.func99, Tryz.ntmps99
  go_wp2
  go_loopw [5] (fun v wr => ∃ i : Nat, i ≤ n ∧ v = .int .i64 (i : Int) ∧ Hid ((l.take i).contains z = false) ∧ Below w.heap.size w wr) (fun v _ => n - (intOf v).toNat)
  case atStart => exact ⟨0, by omega, rfl, by simp [Hid], Below.refl _ _⟩
  case round =>
    obtain ⟨i, hi, rfl, hno, hb⟩ := hrel
    by_cases hlt : i < n
    · have hi1 : (i : Int) < (n : Int) := by omega
      have hi0 : (0 : Int) ≤ (i : Int) := by omega
      obtain ⟨b9, o9, rfl, hb9, hc9⟩ := (H.out.on (hb.mono hB)).2.2 (by omega)
      have p1 := hc9 i hlt
      have HTK := Lib.hid (take_one (show i < l.length by omega) (0 : Int))
      have HMM := Lib.hid (show l.getD i 0 ∈ l from by simp [List.getD, show i < l.length by omega])
      obtain ⟨y, hy⟩ : ∃ y, l.getD i 0 = y := ⟨_, rfl⟩
      rw [hy] at p1 HTK HMM
      clear hc9 hy
      by_cases hyz : y = z
      · subst hyz
        have e3 : (y == y) = true := by simp
        have HR := Lib.hid (show l.contains y = true from by rw [List.contains_iff_mem]; exact HMM.out)
        clear HTK HMM hno
        go_wp2
        go_ret
        exact ⟨by rw [HR.out]; rfl, hb⟩
      · have e3 : (y == z) = false := by simpa using hyz
        have HR := Lib.hid (show (l.take (i + 1)).contains z = false from by
          have h1 := hno.out
          rw [HTK.out]
          cases e : (l.take i ++ [y]).contains z with
          | false => rfl
          | true =>
            rw [List.contains_iff_mem, List.mem_append, List.mem_singleton] at e
            rcases e with e | e
            · have : (l.take i).contains z = true := by rw [List.contains_iff_mem]; exact e
              unfold Hid at h1
              rw [this] at h1
              cases h1
            · exact absurd e.symm hyz)
        clear HTK HMM hno hyz
        go_wp2
        go_roundw
        case rel => first
          | exact ⟨i + 1, by omega, by go_num, HR.out, hb⟩
          | (repeat apply Exists.intro
             exact ⟨⟨i + 1, by omega, by go_num, HR.out, hb⟩, rfl⟩)
        case measure => first | (simp [intOf]; done) | (simp [intOf]; omega)
    · obtain rfl : i = n := by omega
      have HR := Lib.hid (show l.contains z = false from by have h1 := hno.out; unfold Hid at h1; rw [List.take_of_length_le (by omega)] at h1; exact h1)
      clear hno
      go_wp2
      go_ret
      exact ⟨by rw [HR.out]; rfl, hb⟩
end

section
open Go.RowKit

theorem own_sl_n {w : World} {B n size : Nat} {t : TypeId} {v : Value} {xs : List Value} (h : w.ownsRow B t size v n xs) : ∃ a c, v = .slice a n c := by
  rcases h.2 with ⟨rfl, h0⟩ | ⟨g, c, cur, rfl, _⟩
  · exact ⟨none, 0, by rw [h0]⟩
  · exact ⟨_, c, rfl⟩
theorem plR_in64 (W : Int) (l : List Int) (cs : List Cl) : ∀ z ∈ plR W l cs, In64 z := fun z hz => by
  have := plR_bd W l cs z hz
  unfold In64
  omega
theorem grow_step {W2 wr w4 : World} {lit g : Nat} (h : W2.grownBy wr (some lit)) (h2 : wr.grownBy w4 (some g)) (hg : g = lit ∨ W2.heap.size ≤ g) : W2.grownBy w4 (some lit) := by
  refine ⟨h2.os.trans h.os, h2.tape.trans h.tape, h2.output.trans h.output, Nat.le_trans h.size h2.size, fun k hk hne => ?_⟩
  refine (h2.block k (Nat.lt_of_lt_of_le hk h.size) ?_).trans (h.block k hk hne)
  rcases hg with rfl | hg
  · exact hne
  · intro e
    have : k = g := Option.some.inj e
    omega
theorem grow_drawn {W2 w3 : World} {r : Option Nat} (h : W2.grownBy w3 r) (q : Nat) : W2.grownBy (w3.drewN q) r := ⟨h.os, h.tape, h.output, h.size, h.block⟩
theorem take_snocI (l : List Int) (k : Nat) (h : k < l.length) : l.take (k + 1) = l.take k ++ [l.getD k 0] := by
  rw [List.take_succ_eq_append_getElem h]
  simp [List.getD, h]

set_option maxHeartbeats 8000000 in
set_option maxRecDepth 100000 in
theorem sAp (B n cap m2 cap2 : Nat) (a a2 : Option Addr) (W : Int) (l : List Int) (ps : List (List Cl)) (w : World) (hn : n ≤ 4194304) (hm : m2 ≤ 1048576) (hc : IntsAt B w a n l) (hd : PsAt B w a2 m2 ps) (hB : B ≤ w.heap.size) :
    Calls Tryz.prog 33 #[.agg #[.int .i64 W, .slice a n cap], .slice a2 m2 cap2] w (GivesV w (apR W l ps)) := by
  have H := Lib.hid hc
  have HD := Lib.hid hd
  have hlp := hd.1
  clear hc hd
  have hb0 := (Below.refl w.heap.size w).alloc (Nat.le_refl _) (.cells #[.int .i64 W, .slice a n cap] 26)
  have hbox0 := RgAt.new (w := w) W (.slice a n cap) rfl
  have hsz0 : (w.alloc (.cells #[.int .i64 W, .slice a n cap] 26)).heap.size = w.heap.size + 1 := by simp
  have hb1 := hb0.alloc hb0.size (.cells #[] 3)
  have hbox1 := hbox0.alloc (.cells #[] 3)
  have hown1 := own_lit_m (w := w.alloc (.cells #[.int .i64 W, .slice a n cap] 26)) (B := w.heap.size) hsz0 (by omega)
  have hsz1 : ((w.alloc (.cells #[.int .i64 W, .slice a n cap] 26)).alloc (.cells #[] 3)).heap.size = w.heap.size + 2 := by simp
  go_enter Tryz.func33, Tryz.ntmps33
  go_wp2
  (try rw [hsz0])
  generalize ((w.alloc (.cells #[.int .i64 W, .slice a n cap] 26)).alloc (.cells #[] 3)) = W1 at *
  clear hsz0 hb0 hbox0
  have HB1 := Lib.hid hb1
  have HOW := Lib.hid hown1
  clear hb1 hown1
  cases h : arePc ps with
  | false =>
    have HF := Lib.hid h
    have HO := Lib.hid (apR_no h W l)
    clear h
    refine wp_loop_rounds 1 ?_
    rw [rounds_succ]
    by_cases h0 : 0 < (m2 : Int)
    · go_wp2_with fail
      refine (sArePc B m2 cap2 a2 ps _ (by omega) (HD.out.on (HB1.out.mono hB)) (Nat.le_trans hB HB1.out.size)).mono ?_
      rintro e w' ⟨rfl, hb⟩
      rw [HF.out]
      have HB3 := Lib.hid (HB1.out.trans (hb.mono HB1.out.size))
      have HOW3 := Lib.hid (HOW.out.kept (grow_below hb none) (.inr (by intro e; cases e)))
      clear hb
      go_wp2
      go_ret
      exact ⟨_, rfl, by rw [HO.out]; exact HOW3.out, HB3.out⟩
    · go_wp2
      go_ret
      exact ⟨_, rfl, by rw [HO.out]; exact HOW.out, HB1.out⟩
  | true =>
    have HF := Lib.hid h
    have hl5 := (arePc_len h).2
    rw [hlp] at hl5
    have HO := Lib.hid (show apR W l ps = ascI (apTo W l ps m2) from by rw [apR_yes h, hlp])
    clear h
    go_loopw [5, 6] (fun v i wr => ∃ k m g c : Nat, k ≤ m2 ∧ i = .int .i64 k ∧ v = .slice (some ⟨g, 0, none⟩) m c ∧ Hid (m = (ascI (apTo W l ps k)).length) ∧ Hid (wr.ownsRow w.heap.size 3 1 (.slice (some ⟨g, 0, none⟩) m c) m (iv (ascI (apTo W l ps k)))) ∧ Below W1.heap.size W1 wr) (fun _ i _ => m2 - (intOf i).toNat)
    case atStart => exact ⟨0, 0, _, 0, by omega, rfl, rfl, rfl, HOW.out, Below.refl _ _⟩
    case round =>
      obtain ⟨k, m, g, c, hk, rfl, rfl, hmm, hown, hb⟩ := hrel
      clear HOW
      have hsz := hb.size
      have hbw := HB1.out.trans (hb.mono HB1.out.size)
      by_cases hlt : k < m2
      · have hk1 : (k : Int) < (m2 : Int) := by omega
        have hk0 : (0 : Int) ≤ (k : Int) := by omega
        go_wp2_with fail
        refine (sArePc B m2 cap2 a2 ps wr (by omega) (HD.out.on (hbw.mono hB)) (Nat.le_trans hB hbw.size)).mono ?_
        rintro e w3 ⟨rfl, hb3⟩
        rw [HF.out]
        have hb3' := hb.trans (hb3.mono hsz)
        have hown3 := Lib.hid (hown.out.kept (grow_below hb3 none) (.inr (by intro e; cases e)))
        have hbw3 := HB1.out.trans (hb3'.mono HB1.out.size)
        have hs3 := hb3'.size
        obtain ⟨b, off, rfl, hbB, hcell⟩ := HD.out.2 (by omega)
        obtain ⟨ak, ck, h1, h2, h3⟩ := hcell k hlt
        have p1 := (hbw3.cell (p := ⟨b, off + k, none⟩) (Nat.lt_of_lt_of_le hbB hB)).trans h1
        have HC := Lib.hid ((h2.on (hbw3.mono hB)).more (Nat.le_trans hB hbw3.size))
        have HST := Lib.hid (apTo_succ (W := W) (l := l) (ps := ps) (i := k) (by omega))
        have hal := apTo_len W l ps k (by omega)
        obtain ⟨o, ho⟩ : ∃ o, ps.getD k [] = o := ⟨_, rfl⟩
        rw [ho] at p1 HC HST h3
        have hbx := hbox1.on hb3' hbox1.lt
        have c0 := hbx.c0
        have c1 := hbx.c1
        have hbl : b < w3.heap.size := by omega
        obtain ⟨A0, hA0⟩ : ∃ r, apTo W l ps k = r := ⟨_, rfl⟩
        rw [hA0] at hmm hown3 HST hal
        have HAT := Lib.hid ((H.out.on (hbw3.mono hB)).more (Nat.le_trans hB hbw3.size))
        have HB3 := Lib.hid hb3'
        clear hcell h1 h2 ho hown hA0 hb hb3 hbw hb3' hbw3
        generalize wr = w0 at *
        go_wp2_with fail
        go_region_held3 (fun w' => w'.cell? ⟨w.heap.size, 0, none⟩ = some (.int .i64 W) ∧ w'.cell? ⟨w.heap.size, 1, none⟩ = some (.slice a n cap) ∧ w'.cell? ⟨b, off + k, none⟩ = some (.slice ak o.length ck))
          (first | exact ⟨c0, c1, p1⟩ | exact ⟨hbx4.c0, hbx4.c1, p4⟩)
          (first | (go_at_call 13
                    refine (sPl w3.heap.size n cap o.length ck a ak W l o w3.drew hn h3 HAT.out HC.out (Nat.le_refl _)).mono ?_
                    rintro e w4 ⟨u, rfl, hou, hb4⟩
                    have hbx4 : RgAt w4 w.heap.size W (.slice a n cap) := RgAt.on (w := w3.drew) hbx hb4 hbx.lt
                    have p4 : w4.cell? ⟨b, off + k, none⟩ = some (.slice ak o.length ck) := (hb4.cell (p := ⟨b, off + k, none⟩) hbl).trans p1))
        all_goals
          have hb34 : Below w3.heap.size w3 w4 := ((Below.refl w3.heap.size w3).drew).trans hb4
          have HB4 := Lib.hid (HB3.out.trans (hb34.mono hs3))
          have HO4 := Lib.hid (hown3.out.kept (grow_below hb34 none) (.inr (by intro e; cases e)))
          have hou2 : w4.ownsRow w3.heap.size 3 1 u (plR W l o).length (iv (plR W l o)) := hou
          obtain ⟨au, cu, rfl⟩ := own_sl_n hou2
          have HU := Lib.hid (IntsAt.of_own hou2 (plR_in64 W l o))
          have hs4 := hb34.size
          have hul := plR_len W l o
          obtain ⟨L, hL⟩ : ∃ L, plR W l o = L := ⟨_, rfl⟩
          rw [hL] at HU HST hul ⊢
          obtain ⟨q, hq⟩ : ∃ q, L.length = q := ⟨_, rfl⟩
          rw [hq] at HU hul ⊢
          have HQ := Lib.hid hq
          clear hb4 hb34 hou hou2 hbx4 p4 c0 c1 p1 hown3 hL hq HB3
          (try simp only [Exit.then])
          go_wp2
          go_loopw [5, 8] (fun v i wr => ∃ j m g c : Nat, j ≤ q ∧ i = .int .i64 j ∧ v = .slice (some ⟨g, 0, none⟩) m c ∧ Hid (m = (ascI (A0 ++ L.take j)).length) ∧ Hid (wr.ownsRow w.heap.size 3 1 (.slice (some ⟨g, 0, none⟩) m c) m (iv (ascI (A0 ++ L.take j)))) ∧ Below w4.heap.size w4 wr) (fun _ i _ => q - (intOf i).toNat)
          case atStart => exact ⟨0, m, g, c, by omega, rfl, rfl, by rw [List.take_zero, List.append_nil]; exact hmm, by rw [List.take_zero, List.append_nil]; exact HO4.out, Below.refl _ _⟩
          case round =>
            clear HO4 hmm
            obtain ⟨j, m, g, c, hj, rfl, rfl, hmm, hown, hb⟩ := hrel
            have hsz := hb.size
            by_cases hjt : j < q
            · have hj1 : (j : Int) < (q : Int) := by omega
              have hj0 : (0 : Int) ≤ (j : Int) := by omega
              obtain ⟨bu, ou, rfl, hbu, hcu⟩ := HU.out.2.2 (by omega)
              have p1 := (hb.cell (p := ⟨bu, ou + j, none⟩) hbu).trans (hcu j hjt)
              have HTK := Lib.hid (show ascI (A0 ++ L.take (j + 1)) = putM (ascI (A0 ++ L.take j)) (L.getD j 0) from by rw [take_snocI L j (by rw [HQ.out]; exact hjt), ← List.append_assoc, ascI_put])
              have hml := ascI_len (A0 ++ L.take j)
              rw [← hmm.out, List.length_append, List.length_take] at hml
              obtain ⟨z, hz⟩ : ∃ z, L.getD j 0 = z := ⟨_, rfl⟩
              rw [hz] at p1 HTK
              obtain ⟨A1, hA1⟩ : ∃ r, ascI (A0 ++ L.take j) = r := ⟨_, rfl⟩
              rw [hA1] at hmm hown HTK
              have hown9 := hown.out
              clear hcu hz hA1 hown
              go_wp2_with fail
              refine (sPutI w.heap.size g m c A1 z wr (by omega) hown9 (by omega)).mono ?_
              rintro e w10 ⟨g2, c2, rfl, hown10, hb10⟩
              have HO10 := Lib.hid hown10
              have HB10 := Lib.hid (hb.trans (hb10.mono hsz))
              rw [← HTK.out] at HO10
              have hlx : (putM A1 z).length = (ascI (A0 ++ L.take (j + 1))).length := by rw [HTK.out]
              rw [hlx]
              clear hown10 hb10 hown9 hlx
              go_wp2
              go_roundw
              case rel => exact ⟨j + 1, _, g2, c2, by omega, by go_num, rfl, rfl, HO10.out, HB10.out⟩
              case measure => simp [intOf]; omega
            · obtain rfl : j = q := by omega
              have e9 : L.take j = L := List.take_of_length_le (by rw [HQ.out]; exact Nat.le_refl _)
              rw [e9, ← HST.out] at hmm hown
              have HBZ := Lib.hid (HB4.out.trans (hb.mono (by omega)))
              clear e9 hb
              go_wp2
              go_roundw
              case rel => exact ⟨k + 1, m, g, c, by omega, by go_num, rfl, hmm, hown.out, HBZ.out⟩
              case measure => simp [intOf]; omega
      · obtain rfl : k = m2 := by omega
        have HO9 := Lib.hid (show wr.ownsRow w.heap.size 3 1 (.slice (some ⟨g, 0, none⟩) m c) (apR W l ps).length (iv (apR W l ps)) from by rw [HO.out, ← hmm.out]; exact hown.out)
        have HBW := Lib.hid hbw
        clear hbw hb hown hmm
        go_wp2
        go_ret
        exact ⟨_, rfl, HO9.out, HBW.out⟩

set_option maxHeartbeats 8000000 in
set_option maxRecDepth 100000 in
theorem sAt (B n cap m2 cap2 : Nat) (a a2 : Option Addr) (W : Int) (l : List Int) (cs : List Cl) (x y : Int) (w : World) (hn : n ≤ 4194304) (hm : m2 ≤ 1048576) (hc : IntsAt B w a n l) (hd : CellsAt B w a2 m2 cs) (hB : B ≤ w.heap.size) :
    Calls Tryz.prog 29 #[.agg #[.int .i64 W, .slice a n cap], .slice a2 m2 cap2, .int .i64 x, .int .i64 y] w (GivesV w (atR W l cs x y)) := by
  have H := Lib.hid hc
  have HD := Lib.hid hd
  have hln := hc.1
  clear hc hd
  have hb0 := (Below.refl w.heap.size w).alloc (Nat.le_refl _) (.cells #[.int .i64 W, .slice a n cap] 26)
  have hbox0 := RgAt.new (w := w) W (.slice a n cap) rfl
  have hsz0 : (w.alloc (.cells #[.int .i64 W, .slice a n cap] 26)).heap.size = w.heap.size + 1 := by simp
  have hb1 := hb0.alloc hb0.size (.cells #[] 3)
  have hbox1 := hbox0.alloc (.cells #[] 3)
  have hown1 := own_lit_m (w := w.alloc (.cells #[.int .i64 W, .slice a n cap] 26)) (B := w.heap.size) hsz0 (by omega)
  have hsz1 : ((w.alloc (.cells #[.int .i64 W, .slice a n cap] 26)).alloc (.cells #[] 3)).heap.size = w.heap.size + 2 := by simp
  go_enter Tryz.func29, Tryz.ntmps29
  have d0 := hbox1.c0
  have d1 := hbox1.c1
  go_wp2_with fail
  (try rw [hsz0])
  generalize ((w.alloc (.cells #[.int .i64 W, .slice a n cap] 26)).alloc (.cells #[] 3)) = W1 at *
  clear hsz0 hb0 hbox0 d0 d1
  refine (sPl B n cap m2 cap2 a a2 W l cs W1 hn hm (H.out.on (hb1.mono hB)) (HD.out.on (hb1.mono hB)) (Nat.le_trans hB hb1.size)).mono ?_
  rintro e W2 ⟨u, rfl, hou, hb2⟩
  have hs2 := hb2.size
  have HB2 := Lib.hid (hb1.trans (hb2.mono hb1.size))
  have hbox := hbox1.on hb2 hbox1.lt
  have HOW := Lib.hid (hown1.kept (grow_below hb2 none) (.inr (by intro e; cases e)))
  have HUR := Lib.hid hou
  have HUT := Lib.hid hou.lt
  obtain ⟨au, cu, rfl⟩ := own_sl_n hou
  have HU9 := Lib.hid (plR_in64 W l cs)
  have HBD := Lib.hid (plR_bd W l cs)
  have hul := plR_len W l cs
  have HAT := Lib.hid (show atR W l cs x y = if (isReg W l && bt l (x, y)) = true then (plR W l cs).filter (hasB W x y) else [] from rfl)
  have HCB := Lib.hid (show cellB W l x y = (isReg W l && bt l (x, y)) from rfl)
  obtain ⟨L, hL⟩ : ∃ L, plR W l cs = L := ⟨_, rfl⟩
  rw [hL] at HUR HUT HU9 HBD hul HAT ⊢
  obtain ⟨q, hq⟩ : ∃ q, L.length = q := ⟨_, rfl⟩
  rw [hq] at HUR HUT hul ⊢
  have HQ := Lib.hid hq
  clear hb1 hb2 hbox1 hown1 hou hL hq
  cases h : cellB W l x y with
  | false =>
    have HF := Lib.hid h
    have HO := Lib.hid (show atR W l cs x y = [] from by rw [HAT.out, ← HCB.out, h]; rfl)
    clear h
    go_wp2
    refine wp_loop_rounds 1 ?_
    rw [rounds_succ]
    have c0 := hbox.c0
    have c1 := hbox.c1
    by_cases h0 : 0 < (q : Int)
    · go_wp2_with fail
      refine (sInReg B n cap a W l x y _ hn (H.out.on (HB2.out.mono hB)) (Nat.le_trans hB HB2.out.size)).mono ?_
      rintro e w' ⟨rfl, hb⟩
      rw [HF.out]
      have HB3 := Lib.hid (HB2.out.trans (hb.mono HB2.out.size))
      have HOW3 := Lib.hid (HOW.out.kept (grow_below hb none) (.inr (by intro e; cases e)))
      clear hb
      go_wp2
      go_ret
      exact ⟨_, rfl, by rw [HO.out]; exact HOW3.out, HB3.out⟩
    · go_wp2
      go_ret
      exact ⟨_, rfl, by rw [HO.out]; exact HOW.out, HB2.out⟩
  | true =>
    have HF := Lib.hid h
    rw [HCB.out, Bool.and_eq_true] at h
    obtain ⟨N, rfl, hr⟩ := isReg_out h.1
    obtain ⟨u, v, rfl, rfl, hu, hv, hu6, hv6, hbn, h36⟩ := hr.place h.2
    have hN6 := hr.w6
    have HO := Lib.hid (show atR N l cs u v = L.filter (hasB N u v) from by rw [HAT.out, ← HCB.out, HF.out]; rfl)
    obtain ⟨s, hs⟩ : ∃ s : Nat, v * N = s := ⟨_, rfl⟩
    obtain ⟨b, hbq⟩ : ∃ b : Nat, v * N + u = b := ⟨_, rfl⟩
    have hmul : (v : Int) * (N : Int) = (s : Int) := by rw [← hs]; simp
    have hadd : (s : Int) + (u : Int) = (b : Int) := by omega
    rw [hbq] at hbn h36
    have HBN := Lib.hid hbn
    clear h hr hs hbq hbn HAT
    obtain ⟨lit, hlit⟩ : ∃ k, w.heap.size + 1 = k := ⟨_, rfl⟩
    rw [hlit] at HOW ⊢
    go_wp2
    go_loopw [9, 11] (fun ov i wr => ∃ k m g c : Nat, k ≤ q ∧ i = .int .i64 k ∧ ov = .slice (some ⟨g, 0, none⟩) m c ∧ (g = lit ∨ W2.heap.size ≤ g) ∧ Hid (m = ((L.take k).filter (hasB N u v)).length) ∧ Hid (wr.ownsRow w.heap.size 3 1 (.slice (some ⟨g, 0, none⟩) m c) m (iv ((L.take k).filter (hasB N u v)))) ∧ Hid (W2.grownBy wr (some lit))) (fun _ i _ => q - (intOf i).toNat)
    case atStart => exact ⟨0, 0, lit, 0, by omega, rfl, rfl, .inl rfl, rfl, HOW.out, World.grownBy.refl _ _⟩
    case round =>
      obtain ⟨k, m, g, c, hk, rfl, rfl, hgl, hmm, hown, hg⟩ := hrel
      clear HOW
      have hsz := hg.out.size
      have hbx := hbox.by hg.out (by intro e; injection e with e; omega)
      have hbw := HB2.out.grown hg.out (by omega) (fun j hj => by cases hj; omega)
      by_cases hlt : k < q
      · have hk1 : (k : Int) < (q : Int) := by omega
        have hk0 : (0 : Int) ≤ (k : Int) := by omega
        have c0 := hbx.c0
        have c1 := hbx.c1
        have hur := HUR.out.kept hg.out (ne_rowT HUT.out (v := .slice au q cu) (u := .slice (some ⟨lit, 0, none⟩) 0 0) (c := lit) (d := lit + 1) (fun k h => by cases h; exact ⟨Nat.le_refl _, Nat.lt_succ_self _⟩) (by omega))
        go_wp2_with fail
        refine (sInReg B n cap a N l u v wr hn (H.out.on (hbw.mono hB)) (Nat.le_trans hB hbw.size)).mono ?_
        rintro e w3 ⟨rfl, hb3⟩
        rw [HF.out]
        have hur3 := hur.kept (grow_below hb3 none) (Classical.em _)
        have HG3 := Lib.hid (grow_step hg.out (grow_below hb3 (some lit)) (.inl rfl))
        have hown3 := hown.out.kept (grow_below hb3 none) (.inr (by intro e; cases e))
        have hs3 := hb3.size
        have hbx3 := hbx.on hb3 hbx.lt
        obtain ⟨bu, ou, rfl, hbu, hcu⟩ := (IntsAt.of_own hur3 HU9.out).2.2 (by omega)
        have p1 := hcu k hlt
        have hzb := HBD.out (L.getD k 0) (by have := HQ.out; simp [List.getD, show k < L.length by omega])
        have HTK := Lib.hid (take_snocI L k (by rw [HQ.out]; exact hlt))
        obtain ⟨z, hz⟩ : ∃ z : Nat, L.getD k 0 = z := ⟨(L.getD k 0).toNat, by omega⟩
        rw [hz] at p1 hzb HTK
        obtain ⟨t, ht⟩ : ∃ t : Nat, z / 2 ^ b = t := ⟨_, rfl⟩
        have hdiv : (z : Int) / (2 : Int) ^ b = (t : Int) := by rw [← ht]; simp
        have htm : t ≤ z := by rw [← ht]; exact Nat.div_le_self _ _
        have hand := bit_val (m := z) b (by omega)
        rw [ht] at hand
        have HHB := Lib.hid (show hasB N u v (z : Int) = z.testBit b from by unfold hasB; simp only [Int.toNat_natCast]; rw [HBN.out])
        have hml : m ≤ q := by
          have h1 := List.length_filter_le (hasB N u v) (L.take k)
          rw [← hmm.out, List.length_take] at h1
          omega
        have HMM := Lib.hid hmm.out
        obtain ⟨F0, hF0⟩ : ∃ r, (L.take k).filter (hasB N u v) = r := ⟨_, rfl⟩
        have HF0 := Lib.hid hF0
        rw [hF0] at HMM hown3
        clear hcu hz ht hown hmm hur hur3 hb3 c0 c1 hbx hg hF0
        have c0 := hbx3.c0
        have HBX3 := Lib.hid hbx3
        cases htb : z.testBit b with
        | true =>
          rw [htb] at hand
          have hand1 : bits .and .i64 (t : Int) 1 = 1 := hand
          have HFX := Lib.hid (show (L.take (k + 1)).filter (hasB N u v) = F0 ++ [(z : Int)] from by rw [HTK.out, List.filter_append, HF0.out]; simp [HHB.out, htb])
          have HM1 := Lib.hid (show m + 1 = ((L.take (k + 1)).filter (hasB N u v)).length from by rw [HFX.out, List.length_append, ← HMM.out]; rfl)
          clear hand htb hbx3
          go_wp2_with fail
          go_quiet (fail)
          go_wp2_with (first | (at_builtin; refine wpList_ints rfl _ _ rfl w.heap.size g m c (iv F0) ⟨w3.heap.size, 0, none⟩ 1 1 [.int .i64 z] rfl rfl (hown3.alloc _) rfl (liesV_block (t := 3) (fr := (0, 0)) (heap_alloc_new _ _)) (by simp [Value.oneCell']) (by omega) (by simp; omega) (w3.heap.size + 1) (by simp) ?_) | go_in)
          intro g' c' w4 hown4 hgrow hat hgb hlt4
          have HO4 := Lib.hid (show w4.ownsRow w.heap.size 3 1 (.slice (some ⟨g', 0, none⟩) (m + 1) c') (m + 1) (iv ((L.take (k + 1)).filter (hasB N u v))) from by rw [HFX.out, iv_append]; exact hown4)
          have HG4 := Lib.hid (grow_step (grow_step (grow_drawn HG3.out _) (World.grownBy_alloc _ _ (some lit)) (.inl rfl)) hgrow hgl)
          have hgl4 : g' = lit ∨ W2.heap.size ≤ g' := by
            rcases hat with rfl | rfl
            · exact hgl
            · exact .inr (by omega)
          clear hown4 hgrow hown3 hand1 hdiv
          go_wp2
          go_roundw
          case rel => first
            | exact ⟨k + 1, m + 1, g', c', by omega, by go_num, rfl, hgl4, HM1.out, HO4.out, HG4.out⟩
            | (repeat apply Exists.intro
               exact ⟨⟨k + 1, m + 1, g', c', by omega, by go_num, rfl, hgl4, HM1.out, HO4.out, HG4.out⟩, rfl⟩)
          case measure => simp [intOf]; omega
        | false =>
          rw [htb] at hand
          have hand1 : bits .and .i64 (t : Int) 1 = 0 := hand
          have HFX := Lib.hid (show (L.take (k + 1)).filter (hasB N u v) = F0 from by rw [HTK.out, List.filter_append, HF0.out]; simp [HHB.out, htb])
          have HM1 := Lib.hid (show m = ((L.take (k + 1)).filter (hasB N u v)).length from by rw [HFX.out]; exact HMM.out)
          have HO4 := Lib.hid (show w3.ownsRow w.heap.size 3 1 (.slice (some ⟨g, 0, none⟩) m c) m (iv ((L.take (k + 1)).filter (hasB N u v))) from by rw [HFX.out]; exact hown3)
          clear hand htb hbx3 hown3
          go_wp2_with fail
          go_quiet (fail)
          go_wp2
          go_roundw
          case rel => exact ⟨k + 1, m, g, c, by omega, by go_num, rfl, hgl, HM1.out, HO4.out, grow_drawn HG3.out _⟩
          case measure => simp [intOf]; omega
      · obtain rfl : k = q := by omega
        have e9 : L.take k = L := List.take_of_length_le (by rw [HQ.out]; exact Nat.le_refl _)
        have hown9 := hown.out
        have hmm9 := hmm.out
        rw [e9] at hown9 hmm9
        rw [hmm9] at hown9
        have HO9 := Lib.hid hown9
        have hmr : m = (atR N l cs u v).length := by rw [HO.out]; exact hmm9
        have HBW := Lib.hid hbw
        clear hbw hbx hown hmm hown9 hmm9 e9
        rw [← HO.out, ← hmr] at HO9
        go_wp2
        go_ret
        exact ⟨_, rfl, by rw [← hmr]; exact HO9.out, HBW.out⟩
end

end Go.Proofs.YtailmmamgnebhaaGreatDoor
