/-
  Orientations, the canonical one, in the model.
-/
import Derived.Test.YtailmmamgnebhaaGreatDoorMo3
namespace Go.Proofs.YtailmmamgnebhaaGreatDoor
open Go.RowKit

/-- A list of cells comes back, in whose memory is not said. -/
def GivesAt (w : World) (l : List Cl) (e : Ending) (w' : World) : Prop := ∃ a cap, e = .returned (.slice a l.length cap) ∧ CellsAt w'.heap.size w' a l.length l ∧ Below w.heap.size w w'
theorem sortG_turns (l : List Cl) (k : Nat) : sortG ltS [] (turnsC l (k + 1)) = insG ltS [] (sortG ltS [] (turnsC l k)) (turnC k l) := by
  rw [turnsC_succ]
  unfold sortG
  rw [List.foldl_append]
  rfl
theorem insG_len {α : Type} [DecidableEq α] (lt : α → α → Bool) (d : α) (o : List α) (x : α) : (insG lt d o x).length ≤ o.length + 1 := by
  unfold insG
  split
  · omega
  · simp; omega
theorem sortT_len (l : List Cl) : ∀ k, (sortG ltS [] (turnsC l k)).length ≤ k
  | 0 => by simp [turnsC, sortG]
  | k + 1 => by
    rw [sortG_turns]
    have := insG_len ltS [] (sortG ltS [] (turnsC l k)) (turnC k l)
    have := sortT_len l k
    omega
theorem turnC_inC {l : List Cl} (h : ∀ c ∈ l, inP c = true) (m : Nat) : ∀ c ∈ turnC m l, InC c := by
  have hmi := map_apM_in m l h
  have hsi : ∀ c ∈ sortU (l.map (apM m)), inR 7 c := fun c hc => hmi c ((sortU_mem _ c).1 hc)
  have bx := minTo_bdW Prod.fst (sortU (l.map (apM m))) (fun j hj => by have := hsi _ (getD_mem hj); unfold inR at this; omega) _ (Nat.le_refl _)
  have bY := minTo_bdW Prod.snd (sortU (l.map (apM m))) (fun j hj => by have := hsi _ (getD_mem hj); unfold inR at this; omega) _ (Nat.le_refl _)
  intro c hc
  unfold turnC cornerC at hc
  obtain ⟨d, hd, rfl⟩ := List.mem_map.1 hc
  have := hsi d hd
  unfold inR at this
  unfold minX minY InC
  dsimp only
  omega

set_option maxHeartbeats 2000000 in
set_option maxRecDepth 100000 in
theorem sOrient (B n cap : Nat) (a : Option Addr) (l : List Cl) (w : World) (hn : n ≤ 1048576) (hc : CellsAt B w a n l) (hB : B ≤ w.heap.size) :
    Calls Tryz.prog 68 #[.slice a n cap] w (GivesSs w (orientS l)) := by
  have H := Lib.hid hc
  clear hc
  cases h : isShape l with
  | true =>
    have hp := isShape_in h
    have hlen := ((isShape_iff l).1 h).1.2
    have HP := Lib.hid hp
    have HS := Lib.hid h
    have HO : Hid (orientS l = sortG ltS [] (turnsC l 8)) := if_pos h
    rw [HO.out]
    clear h hp
    go_enter Tryz.func68, Tryz.ntmps68
    go_wp2
    go_loopw [3, 4] (fun v i wr => ∃ (k g cc : Nat) (vs : List Value), k ≤ 8 ∧ i = .int .i64 k ∧ v = .slice (some ⟨g, 0, none⟩) (sortG ltS [] (turnsC l k)).length cc ∧ (sortG ltS [] (turnsC l k)).length ≤ cc ∧ Hid (SsAt wr.heap.size wr g vs (sortG ltS [] (turnsC l k))) ∧ Below w.heap.size w wr) (fun _ i _ => 8 - (intOf i).toNat)
    case atStart => exact ⟨0, w.heap.size, 0, [], by omega, rfl, rfl, Nat.le_refl _, ⟨by simp, rfl, fun k hk => by simp [turnsC, sortG] at hk, fun k v l h1 _ => by simp at h1⟩, (Below.refl _ _).alloc (Nat.le_refl _) _⟩
    case round =>
      obtain ⟨k, g, cc, vs, hk, rfl, rfl, hlc, hss, hb⟩ := hrel
      have hsz := hb.size
      by_cases hlt : k < 8
      · have hk1 : (k : Int) < 8 := by omega
        have hle := sortT_len l k
        go_wp2_with fail
        refine (sIsShape B n cap a l wr (by omega) (H.out.on (hb.mono hB)) (Nat.le_trans hB hsz)).mono ?_
        rintro e w1 ⟨rfl, hb1⟩
        rw [HS.out]
        have HB1 := Lib.hid (hb.trans (hb1.mono hsz))
        have HSS1 := Lib.hid ((hss.out.on hb1).more hb1.size)
        have hsz1 := HB1.out.size
        clear hss hb1 hb
        go_wp2_with fail
        refine (sTurn B n cap k a l w1 (by omega) hn (H.out.on (HB1.out.mono hB)) HP.out (Nat.le_trans hB hsz1)).mono ?_
        rintro e w2 ⟨g2, c2, rfl, hown2, hb2⟩
        have htl := turnC_len k l
        have HA2 := Lib.hid (CellsAt.of_own hown2 (turnC_inC HP.out k))
        have HSS2 := Lib.hid ((HSS1.out.on hb2).more hb2.size)
        have HB2 := Lib.hid (HB1.out.trans (hb2.mono hsz1))
        have hll : l.length = n := H.out.1
        have htn : (turnC k l).length ≤ 4194304 := by omega
        clear hown2 hb2 HSS1 hll htl
        go_wp2_with fail
        refine (sPut w2.heap.size g (sortG ltS [] (turnsC l k)).length cc c2 _ vs (sortG ltS [] (turnsC l k)) (turnC k l) w2 rfl (by omega) hlc HSS2.out htn HA2.out (Nat.le_refl _)).mono ?_
        rintro e w3 ⟨g3, c3, vs3, rfl, hc3, hss3, hb3⟩
        rw [← sortG_turns] at hss3 hc3
        have HSS3 := Lib.hid hss3
        have HB3 := Lib.hid (HB2.out.trans (hb3.mono HB2.out.size))
        have HST := Lib.hid (sortG_turns l k)
        clear hss3 hb3
        rw [← HST.out]
        go_wp2
        go_roundw
        case rel => exact ⟨k + 1, g3, c3, vs3, by omega, by go_num, rfl, hc3, HSS3.out, HB3.out⟩
        case measure => simp [intOf]; omega
      · obtain rfl : k = 8 := by omega
        have HR := Lib.hid (show GivesSs w (sortG ltS [] (turnsC l 8)) (.returned (.slice (some ⟨g, 0, none⟩) (sortG ltS [] (turnsC l 8)).length cc)) wr from ⟨g, cc, vs, rfl, hlc, hss.out, hb⟩)
        clear hss hlc
        go_wp2
        go_ret
        exact HR.out
  | false =>
    have HS := Lib.hid h
    have HO : Hid (orientS l = []) := if_neg (by rw [h]; simp)
    rw [HO.out]
    clear h
    go_enter Tryz.func68, Tryz.ntmps68
    go_wp2
    go_loopw [3, 4] (fun v i wr => i = .int .i64 0 ∧ v = .slice (some ⟨w.heap.size, 0, none⟩) 0 0 ∧ wr = w.alloc (.cells #[] 27)) (fun _ _ _ => 0)
    case atStart => exact ⟨rfl, rfl, rfl⟩
    case round =>
      obtain ⟨rfl, rfl, rfl⟩ := hrel
      go_wp2_with fail
      refine (sIsShape B n cap a l _ (by omega) (H.out.on ((Below.refl _ _).alloc hB _)) (by simp; omega)).mono ?_
      rintro e w1 ⟨rfl, hb1⟩
      rw [HS.out]
      have hb0 : Below w.heap.size w (w.alloc (.cells #[] 27)) := (Below.refl _ _).alloc (Nat.le_refl _) _
      have hbW := hb0.trans (hb1.mono (by simp))
      have hz := hb1.size
      have HR := Lib.hid (show GivesSs w [] (.returned (.slice (some ⟨w.heap.size, 0, none⟩) ([] : List (List Cl)).length 0)) w1 from ⟨w.heap.size, 0, [], rfl, Nat.le_refl _, ⟨by simp at hz; omega, rfl, fun k hk => by simp at hk, fun k v l h1 _ => by simp at h1⟩, hbW⟩)
      clear hb1 hbW hb0 hz
      go_wp2
      go_ret
      exact HR.out

set_option maxHeartbeats 1000000 in
set_option maxRecDepth 100000 in
theorem sCanon (B n cap : Nat) (a : Option Addr) (l : List Cl) (w : World) (hn : n ≤ 1048576) (hc : CellsAt B w a n l) (hB : B ≤ w.heap.size) :
    Calls Tryz.prog 76 #[.slice a n cap] w (GivesAt w (canonS l)) := by
  have H := Lib.hid hc
  clear hc
  go_enter Tryz.func76, Tryz.ntmps76
  go_wp2_with fail
  refine (sOrient B n cap a l w hn H.out hB).mono ?_
  rintro e w1 ⟨g, cc, vs, rfl, hcc, hss, hb1⟩
  have HSS := Lib.hid hss
  have HB1 := Lib.hid hb1
  have HCN : Hid (canonS l = (orientS l).getD 0 []) := rfl
  obtain ⟨O, hO⟩ : ∃ O, orientS l = O := ⟨_, rfl⟩
  rw [hO] at HSS HCN hcc ⊢
  clear hss hb1 hO
  by_cases h0 : O.length = 0
  · have hb0 : ((O.length : Int) == 0) = true := by simp [h0]
    have e0 : O = [] := List.eq_nil_of_length_eq_zero h0
    have HR : Hid (GivesAt w (canonS l) (.returned (.slice (some ⟨w1.heap.size, 0, none⟩) 0 0)) (w1.alloc (.cells #[] 40))) := by
      rw [HCN.out, e0]
      exact ⟨_, _, rfl, CellsAt.of_own (World.ownsRow_lit (base := w1.heap.size) (e := 40) (size := 2) w1 #[] 0 (Nat.le_refl _) (by simp [maxLen]) rfl) (by simp), HB1.out.alloc HB1.out.size _⟩
    clear HCN h0 e0
    go_wp2
    go_ret
    exact HR.out
  · have hb0 : ((O.length : Int) == 0) = false := beq_eq_false_iff_ne.2 (by omega)
    obtain ⟨a3, c3, hcell, hc3, hn3⟩ := HSS.out.get (k := 0) (by omega)
    have HR : Hid (GivesAt w (canonS l) (.returned (.slice a3 (O.getD 0 []).length c3)) w1) := by
      rw [HCN.out]
      exact ⟨a3, c3, rfl, hc3, HB1.out⟩
    have hlt : (0 : Int) < (O.length : Int) := by omega
    clear HCN hc3
    go_wp2
    go_ret
    exact HR.out

theorem canonS_of (l : List Cl) : canonS l = [] ∨ ∃ m, canonS l = turnC m l := by
  unfold canonS orientS
  split
  · cases hL : sortG ltS [] (turnsC l 8) with
    | nil => exact .inl rfl
    | cons x L =>
      have hx : x ∈ sortG ltS [] (turnsC l 8) := by rw [hL]; simp
      rw [sortG_mem ordS] at hx
      obtain ⟨m, _, rfl⟩ := List.mem_map.1 hx
      exact .inr ⟨m, rfl⟩
  · exact .inl rfl
theorem canonS_len (l : List Cl) : (canonS l).length ≤ l.length := by
  rcases canonS_of l with e | ⟨m, e⟩
  · rw [e]; simp
  · rw [e]; exact turnC_len m l
theorem ret_Bo {a b : Bool} (h : a = b) : Ending.returned (.bool a) = .returned (.bool b) := by rw [h]

set_option maxHeartbeats 1000000 in
set_option maxRecDepth 100000 in
theorem sCongr (B n m c1 c2 : Nat) (a1 a2 : Option Addr) (l r : List Cl) (w : World) (hn : n ≤ 1048576) (hm : m ≤ 1048576) (h1 : CellsAt B w a1 n l) (h2 : CellsAt B w a2 m r) (hB : B ≤ w.heap.size) :
    Calls Tryz.prog 19 #[.slice a1 n c1, .slice a2 m c2] w fun e w' => e = .returned (.bool (congS l r)) ∧ Below w.heap.size w w' := by
  have H1 := Lib.hid h1
  have H2 := Lib.hid h2
  clear h1 h2
  have HG : Hid (congS l r = (isShape l && isShape r && decide (canonS l = canonS r))) := rfl
  rw [HG.out]
  clear HG
  go_enter Tryz.func19, Tryz.ntmps19
  go_wp2_with fail
  refine (sIsShape B n c1 a1 l w (by omega) H1.out hB).mono ?_
  rintro e w1 ⟨rfl, hb1⟩
  have hz1 := hb1.size
  cases h : isShape l with
  | false =>
    have e9 : (isShape l && isShape r && decide (canonS l = canonS r)) = false := by rw [h]; rfl
    have E9 := Lib.hid e9.symm
    clear e9 h
    go_wp2
    go_ret
    exact ⟨ret_Bo E9.out, hb1⟩
  | true =>
    go_wp2_with fail
    refine (sIsShape B m c2 a2 r w1 (by omega) (H2.out.on (hb1.mono hB)) (Nat.le_trans hB hz1)).mono ?_
    rintro e w2 ⟨rfl, hb2⟩
    have HB2 := Lib.hid (hb1.trans (hb2.mono hz1))
    cases h2 : isShape r with
    | false =>
      have e9 : (isShape l && isShape r && decide (canonS l = canonS r)) = false := by rw [h, h2]; rfl
      have E9 := Lib.hid e9.symm
      clear e9 h h2
      go_wp2
      go_ret
      exact ⟨ret_Bo E9.out, HB2.out⟩
    | true =>
      have E9 := Lib.hid (show eqb (canonS l) (canonS r) = (isShape l && isShape r && decide (canonS l = canonS r)) from by rw [h, h2]; rfl)
      have l1 : (canonS l).length ≤ 4194304 := by have := canonS_len l; have := H1.out.1; omega
      have l2 : (canonS r).length ≤ 4194304 := by have := canonS_len r; have := H2.out.1; omega
      clear h h2
      go_wp2_with fail
      refine (sCanon B n c1 a1 l w2 hn (H1.out.on (HB2.out.mono hB)) (Nat.le_trans hB HB2.out.size)).mono ?_
      rintro e w3 ⟨ca, cc, rfl, hca, hb3⟩
      have HB3 := Lib.hid (HB2.out.trans (hb3.mono HB2.out.size))
      have HCA := Lib.hid hca
      clear hca hb3
      go_wp2_with fail
      refine (sCanon B m c2 a2 r w3 hm (H2.out.on (HB3.out.mono hB)) (Nat.le_trans hB HB3.out.size)).mono ?_
      rintro e w4 ⟨da, dc, rfl, hda, hb4⟩
      have HB4 := Lib.hid (HB3.out.trans (hb4.mono HB3.out.size))
      have HCA4 := Lib.hid ((HCA.out.on hb4).more hb4.size)
      have HDA := Lib.hid hda
      clear hda hb4 HCA
      go_wp2_with fail
      refine (sEqual_any w4.heap.size (canonS l).length (canonS r).length cc dc ca da (canonS l) (canonS r) w4 l1 l2 HCA4.out HDA.out (Nat.le_refl _)).mono ?_
      rintro e w5 ⟨rfl, hb5⟩
      go_wp2
      go_ret
      exact ⟨ret_Bo E9.out, HB4.out.trans (hb5.mono HB4.out.size)⟩

end Go.Proofs.YtailmmamgnebhaaGreatDoor
