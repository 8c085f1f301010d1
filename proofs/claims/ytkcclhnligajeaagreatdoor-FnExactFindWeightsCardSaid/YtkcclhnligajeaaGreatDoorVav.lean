/-
  Orientations, the canonical one, in the model.
  Where a shape can lie, in the model: what the call gives.
-/
import Derived.Test.YtkcclhnligajeaaGreatDoorVau
import Derived.Test.YtkcclhnligajeaaGreatDoorVaq
import Derived.Test.YtkcclhnligajeaaGreatDoorVat
import Derived.Test.YtkcclhnligajeaaGreatDoorVab
namespace Go.Proofs.YtkcclhnligajeaaGreatDoor

section
open Go.RowKit

/-- A list of cells comes back, in whose memory is not said. -/
def GivesAt (w : World) (l : List Cl) (e : Ending) (w' : World) : Prop := ∃ a cap, e = .returned (.slice a l.length cap) ∧ CellsAt w'.heap.size w' a l.length l ∧ Below w.heap.size w w'
theorem sortG_turns (l : List Cl) (k : Nat) : sortG ltS [] (turnsC l (k + 1)) = insG ltS [] (sortG ltS [] (turnsC l k)) (turnC k l) := by
  rw [turnsC_succ]
  unfold sortG
  rw [List.foldl_append]
  rfl
theorem insG_len {α : Type} [DecidableEq α] (lt : α → α → Bool) (d : α) (o : List α) (x : α) : (insG lt d o x).length ≤ o.length + 1 := by
  unfold insG
  split
  · omega
  · simp; omega
theorem sortT_len (l : List Cl) : ∀ k, (sortG ltS [] (turnsC l k)).length ≤ k
  | 0 => by simp [turnsC, sortG]
  | k + 1 => by
    rw [sortG_turns]
    have := insG_len ltS [] (sortG ltS [] (turnsC l k)) (turnC k l)
    have := sortT_len l k
    omega
theorem turnC_inC {l : List Cl} (h : ∀ c ∈ l, inP c = true) (m : Nat) : ∀ c ∈ turnC m l, InC c := by
  have hmi := map_apM_in m l h
  have hsi : ∀ c ∈ sortU (l.map (apM m)), inR 7 c := fun c hc => hmi c ((sortU_mem _ c).1 hc)
  have bx := minTo_bdW Prod.fst (sortU (l.map (apM m))) (fun j hj => by have := hsi _ (getD_mem hj); unfold inR at this; omega) _ (Nat.le_refl _)
  have bY := minTo_bdW Prod.snd (sortU (l.map (apM m))) (fun j hj => by have := hsi _ (getD_mem hj); unfold inR at this; omega) _ (Nat.le_refl _)
  intro c hc
  unfold turnC cornerC at hc
  obtain ⟨d, hd, rfl⟩ := List.mem_map.1 hc
  have := hsi d hd
  unfold inR at this
  unfold minX minY InC
  dsimp only
  omega

set_option maxHeartbeats 2000000 in
set_option maxRecDepth 100000 in
theorem sOrient (B n cap : Nat) (a : Option Addr) (l : List Cl) (w : World) (hn : n ≤ 1048576) (hc : CellsAt B w a n l) (hB : B ≤ w.heap.size) :
    Calls Tryz.prog 136 #[.slice a n cap] w (GivesSs w (orientS l)) := by
  have H := Lib.hid hc
  clear hc
  cases h : isShape l with
  | true =>
    have hp := isShape_in h
    have hlen := ((isShape_iff l).1 h).1.2
    have HP := Lib.hid hp
    have HS := Lib.hid h
    have HO : Hid (orientS l = sortG ltS [] (turnsC l 8)) := if_pos h
    rw [HO.out]
    clear h hp
    go_enter Tryz.func136, Tryz.ntmps136
    go_wp2
    go_loopw [3, 4] (fun v i wr => ∃ (k g cc : Nat) (vs : List Value), k ≤ 8 ∧ i = .int .i64 k ∧ v = .slice (some ⟨g, 0, none⟩) (sortG ltS [] (turnsC l k)).length cc ∧ (sortG ltS [] (turnsC l k)).length ≤ cc ∧ Hid (SsAt wr.heap.size wr g vs (sortG ltS [] (turnsC l k))) ∧ Below w.heap.size w wr) (fun _ i _ => 8 - (intOf i).toNat)
    case atStart => exact ⟨0, w.heap.size, 0, [], by omega, rfl, rfl, Nat.le_refl _, ⟨by simp, rfl, fun k hk => by simp [turnsC, sortG] at hk, fun k v l h1 _ => by simp at h1⟩, (Below.refl _ _).alloc (Nat.le_refl _) _⟩
    case round =>
      obtain ⟨k, g, cc, vs, hk, rfl, rfl, hlc, hss, hb⟩ := hrel
      have hsz := hb.size
      by_cases hlt : k < 8
      · have hk1 : (k : Int) < 8 := by omega
        have hle := sortT_len l k
        go_wp2_with fail
        refine (sIsShape B n cap a l wr (by omega) (H.out.on (hb.mono hB)) (Nat.le_trans hB hsz)).mono ?_
        rintro e w1 ⟨rfl, hb1⟩
        rw [HS.out]
        have HB1 := Lib.hid (hb.trans (hb1.mono hsz))
        have HSS1 := Lib.hid ((hss.out.on hb1).more hb1.size)
        have hsz1 := HB1.out.size
        clear hss hb1 hb
        go_wp2_with fail
        refine (sTurn B n cap k a l w1 (by omega) hn (H.out.on (HB1.out.mono hB)) HP.out (Nat.le_trans hB hsz1)).mono ?_
        rintro e w2 ⟨g2, c2, rfl, hown2, hb2⟩
        have htl := turnC_len k l
        have HA2 := Lib.hid (CellsAt.of_own hown2 (turnC_inC HP.out k))
        have HSS2 := Lib.hid ((HSS1.out.on hb2).more hb2.size)
        have HB2 := Lib.hid (HB1.out.trans (hb2.mono hsz1))
        have hll : l.length = n := H.out.1
        have htn : (turnC k l).length ≤ 4194304 := by omega
        clear hown2 hb2 HSS1 hll htl
        go_wp2_with fail
        refine (sPut w2.heap.size g (sortG ltS [] (turnsC l k)).length cc c2 _ vs (sortG ltS [] (turnsC l k)) (turnC k l) w2 rfl (by omega) hlc HSS2.out htn HA2.out (Nat.le_refl _)).mono ?_
        rintro e w3 ⟨g3, c3, vs3, rfl, hc3, hss3, hb3⟩
        rw [← sortG_turns] at hss3 hc3
        have HSS3 := Lib.hid hss3
        have HB3 := Lib.hid (HB2.out.trans (hb3.mono HB2.out.size))
        have HST := Lib.hid (sortG_turns l k)
        clear hss3 hb3
        rw [← HST.out]
        go_wp2
        go_roundw
        case rel => exact ⟨k + 1, g3, c3, vs3, by omega, by go_num, rfl, hc3, HSS3.out, HB3.out⟩
        case measure => simp [intOf]; omega
      · obtain rfl : k = 8 := by omega
        have HR := Lib.hid (show GivesSs w (sortG ltS [] (turnsC l 8)) (.returned (.slice (some ⟨g, 0, none⟩) (sortG ltS [] (turnsC l 8)).length cc)) wr from ⟨g, cc, vs, rfl, hlc, hss.out, hb⟩)
        clear hss hlc
        go_wp2
        go_ret
        exact HR.out
  | false =>
    have HS := Lib.hid h
    have HO : Hid (orientS l = []) := if_neg (by rw [h]; simp)
    rw [HO.out]
    clear h
    go_enter Tryz.func136, Tryz.ntmps136
    go_wp2
    go_loopw [3, 4] (fun v i wr => i = .int .i64 0 ∧ v = .slice (some ⟨w.heap.size, 0, none⟩) 0 0 ∧ wr = w.alloc (.cells #[] 76)) (fun _ _ _ => 0)
    case atStart => exact ⟨rfl, rfl, rfl⟩
    case round =>
      obtain ⟨rfl, rfl, rfl⟩ := hrel
      go_wp2_with fail
      refine (sIsShape B n cap a l _ (by omega) (H.out.on ((Below.refl _ _).alloc hB _)) (by simp; omega)).mono ?_
      rintro e w1 ⟨rfl, hb1⟩
      rw [HS.out]
      have hb0 : Below w.heap.size w (w.alloc (.cells #[] 76)) := (Below.refl _ _).alloc (Nat.le_refl _) _
      have hbW := hb0.trans (hb1.mono (by simp))
      have hz := hb1.size
      have HR := Lib.hid (show GivesSs w [] (.returned (.slice (some ⟨w.heap.size, 0, none⟩) ([] : List (List Cl)).length 0)) w1 from ⟨w.heap.size, 0, [], rfl, Nat.le_refl _, ⟨by simp at hz; omega, rfl, fun k hk => by simp at hk, fun k v l h1 _ => by simp at h1⟩, hbW⟩)
      clear hb1 hbW hb0 hz
      go_wp2
      go_ret
      exact HR.out

theorem canonS_of (l : List Cl) : canonS l = [] ∨ ∃ m, canonS l = turnC m l := by
  unfold canonS orientS
  split
  · cases hL : sortG ltS [] (turnsC l 8) with
    | nil => exact .inl rfl
    | cons x L =>
      have hx : x ∈ sortG ltS [] (turnsC l 8) := by rw [hL]; simp
      rw [sortG_mem ordS] at hx
      obtain ⟨m, _, rfl⟩ := List.mem_map.1 hx
      exact .inr ⟨m, rfl⟩
  · exact .inl rfl
theorem canonS_len (l : List Cl) : (canonS l).length ≤ l.length := by
  rcases canonS_of l with e | ⟨m, e⟩
  · rw [e]; simp
  · rw [e]; exact turnC_len m l
theorem ret_Bo {a b : Bool} (h : a = b) : Ending.returned (.bool a) = .returned (.bool b) := by rw [h]
end

section
open Go.RowKit

theorem own_lit0m (w : World) (B : Nat) (h : B ≤ w.heap.size) : (w.alloc (.cells #[] 126)).ownsRow B 126 2 (.slice (some ⟨w.heap.size, 0, none⟩) 0 0) 0 (cvs []) := by
  simpa [cvs] using World.ownsRow_lit (base := B) (e := 126) (size := 2) w #[] 0 h (by simp [maxLen]) rfl
/-- Numbers of the call's own. -/
def GivesV (w : World) (L : List Int) (e : Ending) (w' : World) : Prop := ∃ v, e = .returned v ∧ w'.ownsRow w.heap.size 3 1 v L.length (iv L) ∧ Below w.heap.size w w'
theorem st_bd {N H K : Nat} (hN : N ≤ 6) (hH : H ≤ 6) (l : List Int) (os : List (List Cl)) (o : List Cl) {k y x : Nat} (hk : k ≤ K) (hK : K ≤ 8) (hy : y ≤ H) (hx : x ≤ N) : (stX N l o y (stY N l o (stO N H l os k) y) x).length ≤ 1000 ∧ (stY N l o (stO N H l os k) y).length ≤ 1000 ∧ (stO N H l os k).length ≤ 1000 := by
  have h1 := stX_len N l o y (stY N l o (stO N H l os k) y) x
  have h2 := stY_len N l o (stO N H l os k) y
  have h3 := stO_len N H l os k
  have h4 : N * y ≤ 6 * 6 := Nat.mul_le_mul hN (by omega)
  have h5 : N * H ≤ 6 * 6 := Nat.mul_le_mul hN hH
  have h6 : N * H * k ≤ 36 * 8 := Nat.mul_le_mul h5 (by omega)
  omega
theorem moveC_snoc (p q : Int) (l : List Cl) (j : Nat) (h : j < l.length) : moveC p q (l.take (j + 1)) = moveC p q (l.take j) ++ [((l.getD j (0, 0)).1 + p, (l.getD j (0, 0)).2 + q)] := by
  unfold moveC
  rw [List.take_succ_eq_append_getElem h, List.map_append]
  simp [List.getD, h]

set_option maxHeartbeats 8000000 in
set_option maxRecDepth 100000 in
theorem sPl (B n cap m2 cap2 : Nat) (a a2 : Option Addr) (W : Int) (l : List Int) (cs : List Cl) (w : World) (hn : n ≤ 4194304) (hm : m2 ≤ 1048576) (hc : IntsAt B w a n l) (hd : CellsAt B w a2 m2 cs) (hB : B ≤ w.heap.size) :
    Calls Tryz.prog 102 #[.agg #[.int .i64 W, .slice a n cap], .slice a2 m2 cap2] w (GivesV w (plR W l cs)) := by
  have H := Lib.hid hc
  have HD := Lib.hid hd
  have HLN := Lib.hid hc.1
  clear hc hd
  have hb0 := (Below.refl w.heap.size w).alloc (Nat.le_refl _) (.cells #[.int .i64 W, .slice a n cap] 26)
  have hbox0 := RgAt.new (w := w) W (.slice a n cap) rfl
  have hsz0 : (w.alloc (.cells #[.int .i64 W, .slice a n cap] 26)).heap.size = w.heap.size + 1 := by simp
  have hb1 := hb0.alloc hb0.size (.cells #[] 3)
  have hbox1 := hbox0.alloc (.cells #[] 3)
  have hown1 := own_lit_m (w := w.alloc (.cells #[.int .i64 W, .slice a n cap] 26)) (B := w.heap.size) hsz0 (by omega)
  have hsz1 : ((w.alloc (.cells #[.int .i64 W, .slice a n cap] 26)).alloc (.cells #[] 3)).heap.size = w.heap.size + 2 := by simp
  go_enter Tryz.func102, Tryz.ntmps102
  go_wp2_with fail
  (try rw [hsz0])
  generalize ((w.alloc (.cells #[.int .i64 W, .slice a n cap] 26)).alloc (.cells #[] 3)) = W1 at *
  clear hsz0 hb0 hbox0
  refine (sOrient B m2 cap2 a2 cs W1 hm (HD.out.on (hb1.mono hB)) (Nat.le_trans hB hb1.size)).mono ?_
  rintro e W2 ⟨gO, cO, vs, rfl, hcO, hss, hb2⟩
  have hsz2 := hb2.size
  have HB2 := Lib.hid (hb1.trans (hb2.mono hb1.size))
  have hbox := hbox1.on hb2 hbox1.lt
  have HOW := Lib.hid (hown1.kept (grow_below hb2 none) (.inr (by intro e; cases e)))
  obtain ⟨os, hos⟩ : ∃ os, orientS cs = os := ⟨_, rfl⟩
  have HOS := Lib.hid hos
  have hK8 : os.length ≤ 8 := by rw [← hos]; exact orient_le cs
  obtain ⟨K, hK⟩ : ∃ K, os.length = K := ⟨_, rfl⟩
  rw [hos] at hss hcO ⊢
  rw [hK] at hcO hK8 ⊢
  have HK := Lib.hid hK
  have HSS := Lib.hid hss
  have hgO := hss.1
  clear hb1 hb2 hbox1 hown1 hos hK hss
  cases h : isReg W l with
  | false =>
    have HI := Lib.hid h
    have HO := Lib.hid (plR_no h cs)
    clear h
    by_cases h0 : 0 < (K : Int)
    · go_wp2
      refine wp_loop_rounds 1 ?_
      rw [rounds_succ]
      have c0 := hbox.c0
      have c1 := hbox.c1
      go_wp2_with fail
      refine (sIsReg B n cap a W l _ hn (H.out.on (HB2.out.mono hB)) (Nat.le_trans hB HB2.out.size)).mono ?_
      rintro e w' ⟨rfl, hb⟩
      rw [HI.out]
      have HB3 := Lib.hid (HB2.out.trans (hb.mono HB2.out.size))
      have HOW3 := Lib.hid (HOW.out.kept (grow_below hb none) (.inr (by intro e; cases e)))
      clear hb
      go_wp2
      go_ret
      exact ⟨_, rfl, by rw [HO.out]; exact HOW3.out, HB3.out⟩
    · go_wp2
      refine wp_loop_rounds 1 ?_
      rw [rounds_succ]
      have c0 := hbox.c0
      have c1 := hbox.c1
      go_wp2
      go_ret
      exact ⟨_, rfl, by rw [HO.out]; exact HOW.out, HB2.out⟩
  | true =>
    obtain ⟨N, rfl, hr⟩ := isReg_out h
    have hln := HLN.out
    rw [hln] at hr
    have HR := Lib.hid hr
    have HI := Lib.hid h
    have HO := Lib.hid (show plR N l cs = stO N n l os K from by rw [plR_yes hr, HOS.out, HK.out])
    have HMC := Lib.hid (fun cs => mcOk_yes hr cs)
    have HMV := Lib.hid (fun cs (h : mcOk (N : Int) l cs = true) => mcV_yes (l := l) (cs := cs) h)
    have hN6 := hr.w6
    have hn6 := hr.h6
    clear h hr hln
    go_wp2
    go_loopw [5, 7] (fun v i wr => ∃ k m g c : Nat, k ≤ K ∧ i = .int .i64 k ∧ v = .slice (some ⟨g, 0, none⟩) m c ∧ Hid (m = (stO N n l os k).length) ∧ Hid (wr.ownsRow w.heap.size 3 1 (.slice (some ⟨g, 0, none⟩) m c) m (iv (stO N n l os k))) ∧ Below W2.heap.size W2 wr) (fun _ i _ => K - (intOf i).toNat)
    case atStart => exact ⟨0, 0, _, 0, by omega, rfl, rfl, rfl, HOW.out, Below.refl _ _⟩
    case round =>
      obtain ⟨k, m, g, c, hk, rfl, rfl, hmm, hown, hb⟩ := hrel
      clear HOW
      have hsz := hb.size
      have hbx := hbox.on hb hbox.lt
      have c0 := hbx.c0
      have c1 := hbx.c1
      have hbw := HB2.out.trans (hb.mono HB2.out.size)
      by_cases hlt : k < K
      · have hk1 : (k : Int) < (K : Int) := by omega
        have hk0 : (0 : Int) ≤ (k : Int) := by omega
        go_wp2_with fail
        refine (sIsReg B n cap a N l wr hn (H.out.on (hbw.mono hB)) (Nat.le_trans hB hbw.size)).mono ?_
        rintro e w3 ⟨rfl, hb3⟩
        rw [HI.out]
        have hb' := hb.trans (hb3.mono hsz)
        have hown3 := Lib.hid (hown.out.kept (grow_below hb3 none) (.inr (by intro e; cases e)))
        have hsz3 := hb'.size
        have HORN := Lib.hid (orient_mem (l := cs) (o := os.getD k []) (by rw [HOS.out]; simp [List.getD, show k < os.length by have := HK.out; omega])).2.1
        obtain ⟨aO, cc, hcellO, hcellsO, _⟩ := HSS.out.get (k := k) (by rw [HK.out]; exact hlt)
        have HSO := Lib.hid (show stO N n l os (k + 1) = stY N l (os.getD k []) (stO N n l os k) n from rfl)
        have HBD := Lib.hid (fun x y (hy : y ≤ n) (hx : x ≤ N) => st_bd hN6 hn6 l os (os.getD k []) hk hK8 hy hx)
        obtain ⟨o, ho⟩ : ∃ o, os.getD k [] = o := ⟨_, rfl⟩
        rw [ho] at HORN hcellO hcellsO HSO HBD
        have ho8 := ((isShape_iff o).1 HORN.out.shape).1.2
        have HIN := Lib.hid (isShape_in HORN.out.shape)
        have HNE := Lib.hid HORN.out.ne
        obtain ⟨out0, hout0⟩ : ∃ r, stO N n l os k = r := ⟨_, rfl⟩
        rw [hout0] at hmm hown3 HSO HBD
        have HC := Lib.hid hcellsO
        have HCO := Lib.hid hcellO
        clear hb hb3 hbx c0 c1 hbw hsz hown ho hcellO hcellsO hout0
        generalize wr = w0 at *
        clear w0
        go_wp2
        go_loopw [5, 8] (fun v i wr => ∃ y m g c : Nat, y ≤ n ∧ i = .int .i64 y ∧ v = .slice (some ⟨g, 0, none⟩) m c ∧ Hid (m = (stY N l o out0 y).length) ∧ Hid (wr.ownsRow w.heap.size 3 1 (.slice (some ⟨g, 0, none⟩) m c) m (iv (stY N l o out0 y))) ∧ Below W2.heap.size W2 wr) (fun _ i _ => n - (intOf i).toNat)
        case atStart => exact ⟨0, m, g, c, by omega, rfl, rfl, hmm, hown3.out, hb'⟩
        case round =>
          clear hown3 hb' hsz3 hmm
          obtain ⟨y, m, g, c, hy, rfl, rfl, hmm, hown, hb⟩ := hrel
          have hsz := hb.size
          have hbx := hbox.on hb hbox.lt
          have c0 := hbx.c0
          have c1 := hbx.c1
          by_cases hyt : y < n
          · have hy1 : (y : Int) < (n : Int) := by omega
            have HSY := Lib.hid (show stY N l o out0 (y + 1) = stX N l o y (stY N l o out0 y) N from rfl)
            have HBY := Lib.hid (fun x (hx : x ≤ N) => HBD.out x y hy hx)
            obtain ⟨out1, hout1⟩ : ∃ r, stY N l o out0 y = r := ⟨_, rfl⟩
            rw [hout1] at hmm hown HSY HBY
            clear hout1 hbx
            go_wp2
            clear c0 c1
            go_loopw [5, 9] (fun v i wr => ∃ x m g c : Nat, x ≤ N ∧ i = .int .i64 x ∧ v = .slice (some ⟨g, 0, none⟩) m c ∧ Hid (m = (stX N l o y out1 x).length) ∧ Hid (wr.ownsRow w.heap.size 3 1 (.slice (some ⟨g, 0, none⟩) m c) m (iv (stX N l o y out1 x))) ∧ Below W2.heap.size W2 wr) (fun _ i _ => N - (intOf i).toNat)
            case atStart => exact ⟨0, m, g, c, by omega, rfl, rfl, hmm, hown.out, hb⟩
            case round =>
              clear hown hb hsz hmm
              obtain ⟨x, m, g, c, hx, rfl, rfl, hmm, hown, hb⟩ := hrel
              have hsz := hb.size
              have hbx := hbox.on hb hbox.lt
              have c0 := hbx.c0
              by_cases hxt : x < N
              · have hx1 : (x : Int) < (N : Int) := by omega
                have hm1 : m ≤ 1000 := by rw [hmm.out]; exact (HBY.out x hx).1
                have HYES := Lib.hid (fun h => stX_yes (W := N) (l := l) (o := o) (y := y) (out := out1) (x := x) h)
                have HNO := Lib.hid (fun h => stX_no (W := N) (l := l) (o := o) (y := y) (out := out1) (x := x) h)
                have HMM := Lib.hid hmm.out
                obtain ⟨out2, hout2⟩ : ∃ r, stX N l o y out1 x = r := ⟨_, rfl⟩
                rw [hout2] at HMM hown HYES HNO
                clear hbx hout2 hmm
                go_wp2
                clear c0
                generalize wr = w5 at *
                obtain ⟨mb, hmb⟩ : ∃ b, w5.heap.size = b := ⟨_, rfl⟩
                have hlit := own_lit0m w5 mb (by omega)
                have hbl := (Below.refl w5.heap.size w5).alloc (Nat.le_refl _) (.cells #[] 126)
                have hsl : (w5.alloc (.cells #[] 126)).heap.size = mb + 1 := by simp [hmb]
                rw [hmb] at hlit hsz
                (try rw [hmb])
                generalize (w5.alloc (.cells #[] 126)) = w6 at *
                have HLT := Lib.hid hlit
                have HBL := Lib.hid hbl
                clear hlit hbl
                go_loopw [10, 11] (fun v i wr => ∃ j g c : Nat, j ≤ o.length ∧ i = .int .i64 j ∧ v = .slice (some ⟨g, 0, none⟩) j c ∧ Hid (wr.ownsRow mb 126 2 (.slice (some ⟨g, 0, none⟩) j c) j (cvs (moveC x y (o.take j)))) ∧ Below mb w5 wr ∧ mb < wr.heap.size) (fun _ i _ => o.length - (intOf i).toNat)
                case atStart => exact ⟨0, mb, 0, by omega, rfl, rfl, HLT.out, by rw [← hmb]; exact HBL.out, by omega⟩
                case round =>
                  obtain ⟨j, gm, cm, hj, rfl, rfl, hmov, hb6, hmbl⟩ := hrel
                  clear HLT HBL hsl
                  have hsz6 := hb6.size
                  have hb7 := hb.trans (hb6.mono (by omega))
                  have hq0 := (hb7.cell (p := ⟨gO, k, none⟩) hgO).trans HCO.out
                  by_cases hjt : j < o.length
                  · obtain ⟨b1, o1, rfl, hb1', hc1⟩ := HC.out.2.2 (by omega)
                    obtain ⟨p, q, hpq⟩ : ∃ p q, o.getD j (0, 0) = (p, q) := ⟨_, _, rfl⟩
                    have p1 := (hb7.cell (p := ⟨b1, o1 + j * 2, none⟩) hb1').trans (hc1 j hjt).1
                    have p2 := (hb7.cell (p := ⟨b1, o1 + j * 2 + 1, none⟩) hb1').trans (hc1 j hjt).2
                    rw [hpq] at p1 p2
                    have hpx := inP_out (HIN.out _ (getD_mem (l := o) (j := j) hjt))
                    rw [hpq] at hpx
                    dsimp only at hpx
                    have HST := Lib.hid (moveC_snoc x y o j hjt)
                    rw [hpq] at HST
                    have hj1 : (j : Int) < (o.length : Int) := by omega
                    have hj0 : (0 : Int) ≤ (j : Int) := by omega
                    have hgl := hmov.out.lt gm rfl
                    have hbl1 : b1 < wr.heap.size := by omega
                    have hgO1 : gO < wr.heap.size := by omega
                    have hx1' : IntKind.i64.wrap (p + x) = p + x := IntWalk.i64_in _ (by omega)
                    have hy1' : IntKind.i64.wrap (q + y) = q + y := IntWalk.i64_in _ (by omega)
                    have hne : gm ≠ b1 := by omega
                    have hne2 : gm ≠ gO := by omega
                    have HMV9 := Lib.hid hmov.out
                    clear hpq hc1 hmov
                    go_wp2_with fail
                    go_region_held3 (fun w' => w'.cell? ⟨b1, o1 + j * 2, none⟩ = some (.int .i64 p) ∧ w'.cell? ⟨b1, o1 + j * 2 + 1, none⟩ = some (.int .i64 q) ∧ w'.cell? ⟨gO, k, none⟩ = some (.slice (some ⟨b1, o1, none⟩) o.length cc))
                      (first | exact ⟨p1, p2, hq0⟩ | go_keep | exact ⟨(hgrow.cell_far ⟨b1, o1 + j * 2, none⟩ (by simp; omega) (by simp; omega)).trans ((World.cell?_alloc_lt _ _ _ hbl1).trans p1), (hgrow.cell_far ⟨b1, o1 + j * 2 + 1, none⟩ (by simp; omega) (by simp; omega)).trans ((World.cell?_alloc_lt _ _ _ hbl1).trans p2), (hgrow.cell_far ⟨gO, k, none⟩ (by simp; omega) (by simp; omega)).trans ((World.cell?_alloc_lt _ _ _ hgO1).trans hq0)⟩)
                      (first | (refine step_cells rfl _ _ rfl mb gm j cm (moveC x y (o.take j)) ⟨wr.heap.size, 0, none⟩ 1 1 [(p + x, q + y)] rfl rfl ((HMV9.out.drew).alloc _) rfl (lies_block (t := 126) (fr := (0, 0)) (heap_alloc_new _ _)) (by omega) (by simp; omega) (wr.heap.size + 1) (by simp) ?_; intro g' cc' w7 hown1 hgrow hat hgb hlt1))
                    go_wp2
                    clear hx1' hy1'
                    go_roundw
                    case rel => exact ⟨j + 1, g', cc', by omega, by go_num, rfl, by rw [HST.out]; exact hown1, (hb6.drew.alloc (by show mb ≤ wr.heap.size; omega) _).grown hgrow (by simp; omega) (fun i hi => by cases hi; exact hgl.1), by have := hgrow.size; simp at this; omega⟩
                    case measure => simp [intOf]; omega
                  · obtain rfl : j = o.length := by omega
                    have e9 : o.take o.length = o := List.take_length
                    rw [e9] at hmov
                    have HMINC := Lib.hid (show ∀ c ∈ moveC (x : Int) (y : Int) o, InC c from by
                      intro c hc
                      unfold moveC at hc
                      obtain ⟨d, hd, rfl⟩ := List.mem_map.1 hc
                      have := inP_out (HIN.out d hd)
                      unfold InC
                      dsimp only
                      omega)
                    have hlm : (moveC (x : Int) (y : Int) o).length = o.length := by unfold moveC; rw [List.length_map]
                    have HCM := Lib.hid (CellsAt.of_own hmov.out HMINC.out)
                    have HMO := Lib.hid (HMC.out (moveC x y o))
                    have HMW := Lib.hid (HMV.out (moveC x y o))
                    have hbx7 := hbox.on hb7 hbox.lt
                    have c0 := hbx7.c0
                    have c1 := hbx7.c1
                    have hsz7 := hb7.size
                    have hbw7 := HB2.out.trans (hb7.mono HB2.out.size)
                    have HB6 := Lib.hid hb6
                    have HB7 := Lib.hid hb7
                    clear hmov e9 hb6 hb7
                    go_wp2_with fail
                    refine (sMaskC wr.heap.size n cap o.length cm a _ N l (moveC x y o) wr hn (by omega) ((H.out.on (hbw7.mono hB)).more (Nat.le_trans hB hbw7.size)) HCM.out (Nat.le_refl _)).mono ?_
                    rintro e w8 ⟨rfl, hb8⟩
                    have hown8 := hown.out.kept (grow_below (show Below w5.heap.size w5 wr from by rw [hmb]; exact HB6.out) none) (.inr (by intro e; cases e))
                    have hown9 := hown8.kept (grow_below hb8 none) (.inr (by intro e; cases e))
                    have HB9 := Lib.hid (HB7.out.trans (hb8.mono hsz7))
                    have hw8 := HB2.out.trans (HB9.out.mono HB2.out.size)
                    have hws8 := hw8.size
                    clear hb8 hown8 hbw7 hbx7 c0 c1 hq0
                    cases hok : mcOk N l (moveC x y o) with
                    | true =>
                      have hoc := HMO.out.symm.trans hok
                      have HX := Lib.hid (HYES.out hoc)
                      have hv := HMW.out hok
                      rw [hv]
                      generalize orB N (moveC x y o) = om at *
                      clear hok hoc hv
                      go_wp2_with fail
                      refine (sPutI w.heap.size g m c out2 om w8 (by omega) hown9 (by omega)).mono ?_
                      rintro e w10 ⟨g2, c2, rfl, hown10, hb10⟩
                      have HO10 := Lib.hid hown10
                      have HB10 := Lib.hid (HB9.out.trans (hb10.mono HB9.out.size))
                      rw [← HX.out] at HO10
                      have hlx : (putM out2 (om : Int)).length = (stX N l o y out1 (x + 1)).length := by rw [HX.out]
                      rw [hlx]
                      clear hown10 hb10 hown9 hlx
                      go_wp2
                      go_roundw
                      case rel => exact ⟨x + 1, _, g2, c2, by omega, by go_num, rfl, rfl, HO10.out, HB10.out⟩
                      case measure => simp [intOf]; omega
                    | false =>
                      have hoc := HMO.out.symm.trans hok
                      have HX := Lib.hid (HNO.out hoc)
                      have HM9 := Lib.hid (show m = (stX N l o y out1 (x + 1)).length from by rw [HX.out, ← HMM.out])
                      have HO9 := Lib.hid (show w8.ownsRow w.heap.size 3 1 (.slice (some ⟨g, 0, none⟩) m c) m (iv (stX N l o y out1 (x + 1))) from by rw [HX.out]; exact hown9)
                      clear hok hoc hown9
                      go_wp2
                      go_roundw
                      case rel => exact ⟨x + 1, m, g, c, by omega, by go_num, rfl, HM9.out, HO9.out, HB9.out⟩
                      case measure => simp [intOf]; omega
              · obtain rfl : x = N := by omega
                have HM9 := Lib.hid (show m = (stY x l o out0 (y + 1)).length from by rw [HSY.out]; exact hmm.out)
                have HO9 := Lib.hid (show wr.ownsRow w.heap.size 3 1 (.slice (some ⟨g, 0, none⟩) m c) m (iv (stY x l o out0 (y + 1))) from by rw [HSY.out]; exact hown.out)
                clear hmm hown hbx
                go_wp2
                go_roundw
                case rel => exact ⟨y + 1, m, g, c, by omega, by go_num, rfl, HM9.out, HO9.out, hb⟩
                case measure => simp [intOf]; omega
          · obtain rfl : y = n := by omega
            have HM9 := Lib.hid (show m = (stO N y l os (k + 1)).length from by rw [HSO.out]; exact hmm.out)
            have HO9 := Lib.hid (show wr.ownsRow w.heap.size 3 1 (.slice (some ⟨g, 0, none⟩) m c) m (iv (stO N y l os (k + 1))) from by rw [HSO.out]; exact hown.out)
            clear hmm hown hbx
            go_wp2
            go_roundw
            case rel => exact ⟨k + 1, m, g, c, by omega, by go_num, rfl, HM9.out, HO9.out, hb⟩
            case measure => simp [intOf]; omega
      · obtain rfl : k = K := by omega
        have HO9 := Lib.hid (show wr.ownsRow w.heap.size 3 1 (.slice (some ⟨g, 0, none⟩) m c) (plR N l cs).length (iv (plR N l cs)) from by rw [HO.out, ← hmm.out]; exact hown.out)
        have HBW := Lib.hid hbw
        clear hbw hb hbx hown hmm
        go_wp2
        go_ret
        exact ⟨_, rfl, HO9.out, HBW.out⟩
end

end Go.Proofs.YtkcclhnligajeaaGreatDoor
