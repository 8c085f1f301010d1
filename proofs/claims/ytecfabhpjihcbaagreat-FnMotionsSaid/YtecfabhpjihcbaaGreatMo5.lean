/-
  Symmetries, motions one after the other, in the model.
-/
import Derived.Test.YtecfabhpjihcbaaGreatMo4
namespace Go.Proofs.YtecfabhpjihcbaaGreat
open Go.RowKit

/-- A new slice of the call's own that reads as the numbers zs. -/
def GivesI (w : World) (zs : List Int) (e : Ending) (w' : World) : Prop := ∃ g cap, e = .returned (.slice (some ⟨g, 0, none⟩) zs.length cap) ∧ w'.ownsRow w.heap.size 3 1 (.slice (some ⟨g, 0, none⟩) zs.length cap) zs.length (zs.map (Value.int .i64)) ∧ Below w.heap.size w w'
theorem symTo_len (l : List Cl) : ∀ k, (symTo l k).length ≤ k
  | 0 => by simp [symTo]
  | k + 1 => by
    rw [symTo_succ]
    have := symTo_len l k
    split
    · simp; omega
    · omega
theorem ints_one (zs : List Int) : ∀ u ∈ zs.map (Value.int .i64), u.oneCell' = true := by
  intro u hu
  obtain ⟨z, _, rfl⟩ := List.mem_map.1 hu
  rfl

theorem cornerC_inC {l : List Cl} (h : ∀ c ∈ l, inP c = true) : ∀ c ∈ cornerC l, InC c := by
  have bx := minTo_bdW Prod.fst l (fun j hj => by have := inP_out (h _ (getD_mem hj)); omega) _ (Nat.le_refl _)
  have bY := minTo_bdW Prod.snd l (fun j hj => by have := inP_out (h _ (getD_mem hj)); omega) _ (Nat.le_refl _)
  intro c hc
  unfold cornerC at hc
  obtain ⟨d, hd, rfl⟩ := List.mem_map.1 hc
  have := inP_out (h d hd)
  unfold minX minY InC
  dsimp only
  omega

set_option maxHeartbeats 2000000 in
set_option maxRecDepth 100000 in
theorem sSymm (B n cap : Nat) (a : Option Addr) (l : List Cl) (w : World) (hn : n ≤ 1048576) (hc : CellsAt B w a n l) (hB : B ≤ w.heap.size) :
    Calls Tryz.prog 19 #[.slice a n cap] w (GivesI w (symS l)) := by
  have H := Lib.hid hc
  clear hc
  cases h : isShape l with
  | true =>
    have hp := isShape_in h
    have hlen := ((isShape_iff l).1 h).1.2
    have HP := Lib.hid hp
    have HS := Lib.hid h
    have HO : Hid (symS l = symTo l 8) := if_pos h
    rw [HO.out]
    clear h hp
    go_enter Tryz.func19, Tryz.ntmps19
    go_wp2
    go_loopw [3, 4] (fun v i wr => ∃ (k g cc : Nat), k ≤ 8 ∧ i = .int .i64 k ∧ v = .slice (some ⟨g, 0, none⟩) (symTo l k).length cc ∧ Hid (wr.ownsRow w.heap.size 3 1 (.slice (some ⟨g, 0, none⟩) (symTo l k).length cc) (symTo l k).length ((symTo l k).map (Value.int .i64))) ∧ Below w.heap.size w wr) (fun _ i _ => 8 - (intOf i).toNat)
    case atStart => exact ⟨0, w.heap.size, 0, by omega, rfl, rfl, World.ownsRow_lit (base := w.heap.size) (e := 3) (size := 1) w #[] 0 (Nat.le_refl _) (by simp [maxLen]) rfl, (Below.refl _ _).alloc (Nat.le_refl _) _⟩
    case round =>
      obtain ⟨k, g, cc, hk, rfl, rfl, hown, hb⟩ := hrel
      have hsz := hb.size
      by_cases hlt : k < 8
      · have hk1 : (k : Int) < 8 := by omega
        have hle := symTo_len l k
        have hlln := H.out.1
        have htl := turnC_len k l
        have hcl : (cornerC l).length ≤ 4194304 := by simp [cornerC]; omega
        have htn : (turnC k l).length ≤ 4194304 := by omega
        clear hlln htl
        go_wp2_with fail
        refine (sIsShape B n cap a l wr (by omega) (H.out.on (hb.mono hB)) (Nat.le_trans hB hsz)).mono ?_
        rintro e w1 ⟨rfl, hb1⟩
        rw [HS.out]
        have HB1 := Lib.hid (hb.trans (hb1.mono hsz))
        have HO1 := Lib.hid (hown.out.kept (grow_below hb1 none) (.inr (by intro e; cases e)))
        have hsz1 := HB1.out.size
        clear hown hb1 hb
        go_wp2_with fail
        refine (sTurn B n cap k a l w1 (by omega) hn (H.out.on (HB1.out.mono hB)) HP.out (Nat.le_trans hB hsz1)).mono ?_
        rintro e w2 ⟨g2, c2, rfl, hown2, hb2⟩
        have HA2 := Lib.hid (CellsAt.of_own hown2 (turnC_inC HP.out k))
        have HO2 := Lib.hid (HO1.out.kept (grow_below hb2 none) (.inr (by intro e; cases e)))
        have HB2 := Lib.hid (HB1.out.trans (hb2.mono hsz1))
        clear hown2 hb2 HO1
        go_wp2_with fail
        refine (sCorner B n cap a l w2 (by omega) (H.out.on (HB2.out.mono hB)) HP.out (Nat.le_trans hB HB2.out.size)).mono ?_
        rintro e w3 ⟨g3, c3, rfl, hown3, hb3⟩
        have HA3 := Lib.hid (CellsAt.of_own hown3 (cornerC_inC HP.out))
        have HA2' := Lib.hid ((HA2.out.on hb3).more hb3.size)
        have HO3 := Lib.hid (HO2.out.kept (grow_below hb3 none) (.inr (by intro e; cases e)))
        have HB3 := Lib.hid (HB2.out.trans (hb3.mono HB2.out.size))
        clear hown3 hb3 HO2 HA2
        go_wp2_with fail
        refine (sEqual_any w3.heap.size (turnC k l).length (cornerC l).length c2 c3 _ _ (turnC k l) (cornerC l) w3 htn hcl HA2'.out HA3.out (Nat.le_refl _)).mono ?_
        rintro e w4 ⟨rfl, hb4⟩
        have HO4 := Lib.hid (HO3.out.kept (grow_below hb4 none) (.inr (by intro e; cases e)))
        have HB4 := Lib.hid (HB3.out.trans (hb4.mono HB3.out.size))
        have hst := symTo_succ l k
        clear hb4 HO3 HA2' HA3
        by_cases heq : turnC k l = cornerC l
        · have hq : eqb (turnC k l) (cornerC l) = true := by simp [eqb, heq]
          rw [if_pos heq] at hst
          have HST := Lib.hid hst
          rw [hq]
          have hgl := HO4.out.lt g rfl
          clear hst heq hq
          go_wp2_with (first | (at_builtin; refine wpList_ints rfl _ _ rfl w.heap.size g (symTo l k).length cc ((symTo l k).map (Value.int .i64)) ⟨w4.heap.size, 0, none⟩ 1 1 [.int .i64 (k : Int)] rfl rfl (HO4.out.alloc _) rfl (liesV_block (t := 3) (fr := (0, 0)) (heap_alloc_new _ _)) (ints_one [(k : Int)]) ?c4 ?c5 (w4.heap.size + 1) ?c6 ?_) | go_in)
          case c4 => omega
          case c5 => have := HB4.out.size; simp; omega
          case c6 => simp
          intro g' cc' w5 hown5 hgrow5 hat5 hgb5 hlt5
          have hl5 : (symTo l k).length + 1 = (symTo l (k + 1)).length := by rw [HST.out]; simp
          have hm5 : (symTo l k).map (Value.int .i64) ++ [.int .i64 (k : Int)] = (symTo l (k + 1)).map (Value.int .i64) := by rw [HST.out]; simp
          rw [hm5, hl5] at hown5
          rw [hl5]
          have HO5 := Lib.hid hown5
          have HB5 := Lib.hid ((HB4.out.alloc HB4.out.size (.cells #[.int .i64 (k : Int)] 3)).grown hgrow5 (by have := HB4.out.size; simp; omega) (fun i hi => by cases hi; exact hgl.1))
          clear hown5 hgrow5 hat5 hl5 hm5
          go_wp2
          go_roundw
          case rel => exact ⟨k + 1, g', cc', by omega, by go_num, rfl, HO5.out, HB5.out⟩
          case measure => simp [intOf]; omega
        · have hq : eqb (turnC k l) (cornerC l) = false := by simp [eqb, heq]
          rw [if_neg heq] at hst
          have HST := Lib.hid hst
          rw [hq]
          clear hst heq hq
          rw [← HST.out] at HO4 ⊢
          go_wp2
          go_roundw
          case rel => exact ⟨k + 1, g, cc, by omega, by go_num, rfl, HO4.out, HB4.out⟩
          case measure => simp [intOf]; omega
      · obtain rfl : k = 8 := by omega
        have HR := Lib.hid (show GivesI w (symTo l 8) (.returned (.slice (some ⟨g, 0, none⟩) (symTo l 8).length cc)) wr from ⟨g, cc, rfl, hown.out, hb⟩)
        clear hown
        go_wp2
        go_ret
        exact HR.out
  | false =>
    have HS := Lib.hid h
    have HO : Hid (symS l = []) := if_neg (by rw [h]; simp)
    rw [HO.out]
    clear h
    go_enter Tryz.func19, Tryz.ntmps19
    go_wp2
    go_loopw [3, 4] (fun v i wr => i = .int .i64 0 ∧ v = .slice (some ⟨w.heap.size, 0, none⟩) 0 0 ∧ wr = w.alloc (.cells #[] 3)) (fun _ _ _ => 0)
    case atStart => exact ⟨rfl, rfl, rfl⟩
    case round =>
      obtain ⟨rfl, rfl, rfl⟩ := hrel
      go_wp2_with fail
      refine (sIsShape B n cap a l _ (by omega) (H.out.on ((Below.refl _ _).alloc hB _)) (by simp; omega)).mono ?_
      rintro e w1 ⟨rfl, hb1⟩
      rw [HS.out]
      have hb0 : Below w.heap.size w (w.alloc (.cells #[] 3)) := (Below.refl _ _).alloc (Nat.le_refl _) _
      have hbW := hb0.trans (hb1.mono (by simp))
      have ho := (World.ownsRow_lit (base := w.heap.size) (e := 3) (size := 1) w #[] 0 (Nat.le_refl _) (by simp [maxLen]) rfl).kept (grow_below hb1 none) (.inr (by intro e; cases e))
      have HR := Lib.hid (show GivesI w [] (.returned (.slice (some ⟨w.heap.size, 0, none⟩) ([] : List Int).length 0)) w1 from ⟨w.heap.size, 0, rfl, ho, hbW⟩)
      clear hb1 hbW hb0 ho
      go_wp2
      go_ret
      exact HR.out

end Go.Proofs.YtecfabhpjihcbaaGreat
