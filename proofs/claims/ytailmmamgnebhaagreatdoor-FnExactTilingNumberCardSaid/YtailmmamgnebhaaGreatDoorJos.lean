/-
  Orientations, the canonical one, congruence, in the program: what the calls give.
-/
import Derived.Test.YtailmmamgnebhaaGreatDoorVas
import Derived.Test.YtailmmamgnebhaaGreatDoorVav
import Derived.Test.YtailmmamgnebhaaGreatDoorVad
import Derived.Test.YtailmmamgnebhaaGreatDoorMo4
namespace Go.Proofs.YtailmmamgnebhaaGreatDoor
open Go.RowKit

theorem made_shps (n : Nat) : (madeCells #[Value.slice none 0 0] (n * 1)).toList = List.replicate n (.slice none 0 0) := by
  apply List.ext_getElem?
  intro j
  by_cases hj : j < n
  · simp [madeCells, hj, Nat.mod_one]
  · rw [List.getElem?_eq_none (by simp [madeCells]; omega), List.getElem?_eq_none (by simp; omega)]
theorem ss_fill (es : List Ent) (e : Ent) (k n : Nat) (hl : es.length = k) (h : k < n) : (es.map ev ++ List.replicate (n - k) (Value.slice none 0 0)).set k (ev e) = (es ++ [e]).map ev ++ List.replicate (n - (k + 1)) (.slice none 0 0) := by
  have e1 : n - k = (n - (k + 1)) + 1 := by omega
  rw [e1, List.replicate_succ, List.set_append_right _ _ (by simp; omega), List.length_map, hl, Nat.sub_self, List.set_cons_zero, List.map_append, List.append_assoc]
  rfl
/-- A slice of the call's own, not empty, written out. -/
theorem own_some {w : World} {B n : Nat} {t : TypeId} {size : Nat} {v : Value} {xs : List Value} (h : w.ownsRow B t size v n xs) (hn : 0 < n) : ∃ g cap, v = .slice (some ⟨g, 0, none⟩) n cap := by
  rcases h.2 with ⟨_, h0⟩ | ⟨g, cap, cur, rfl, _⟩
  · omega
  · exact ⟨g, cap, rfl⟩
/-- Shapes of the call's own. -/
def GivesS (w : World) (L : List (List Cl)) (e : Ending) (w' : World) : Prop := ∃ v es, e = .returned v ∧ es.map kE = L ∧ SmallS es ∧ OwnS w.heap.size w' v es ∧ Below w.heap.size w w'
theorem ownS_nil (B : Nat) (w : World) : OwnS B w (.slice none 0 0) [] := ⟨World.ownsRow_nil w B _ _, fun e he => (by cases he), List.Pairwise.nil, fun e he => (by cases he)⟩

set_option maxHeartbeats 2000000 in
set_option maxRecDepth 100000 in
theorem iOrient (B n cap : Nat) (a : Option Addr) (l : List Cl) (w : World) (hn : n ≤ 4194304) (hc : CellsAt B w a n l) (hB : B ≤ w.heap.size) :
    Calls Tryz.prog 65 #[.slice a n cap] w (GivesS w (orientS l)) := by
  have H := Lib.hid hc
  clear hc
  cases h : isShape l with
  | false =>
    have HO : Hid (orientS l = []) := if_neg (by rw [h]; simp)
    have HS := Lib.hid h
    clear h
    rw [HO.out]
    go_enter Tryz.func65, Tryz.ntmps65
    go_wp2_with fail
    refine (iIsShape B n cap a l w hn H.out hB).mono ?_
    rintro e w1 ⟨rfl, hb1⟩
    rw [HS.out]
    have HR := Lib.hid (show GivesS w [] (.returned (.slice none 0 0)) w1 from ⟨_, [], rfl, rfl, fun e he => (by cases he), ownS_nil _ _, hb1⟩)
    go_wp2
    go_ret
    exact HR.out
  | true =>
    have hl := ((isShape_iff l).1 h).1
    have hpos : ∀ k, 0 < (turnC k l).length := fun k => turnC_pos k (by omega)
    have hsmall : ∀ k, (turnC k l).length ≤ 8 := fun k => Nat.le_trans (turnC_len k l) hl.2
    have HIN := Lib.hid (fun k => turnC_inC (isShape_in h) k)
    have HO : Hid (orientS l = sortG ltS [] (turnsC l 8)) := if_pos h
    have HTS := Lib.hid (fun (k : Nat) (hk : k ≤ 7) => (turnS_yes h hk).1)
    have HS := Lib.hid h
    obtain ⟨i0, hi, hz0, hz1, hz2⟩ := shps_size
    clear h
    rw [HO.out]
    go_enter Tryz.func65, Tryz.ntmps65
    go_wp2_with fail
    refine (iIsShape B n cap a l w hn H.out hB).mono ?_
    rintro e w1 ⟨rfl, hb1⟩
    rw [HS.out]
    go_wp2_with (first | (at_make; refine wpList_make_full _ rfl _ _ 45 rfl w1.heap.size 27 i0 (.slice none 0 0) 1 Tryz.underlying45 hi hz0 hz1 _ _ _ _ 8 rfl rfl rfl rfl ?b2 ?b3 (Nat.le_refl _) ?_) | go_in)
    case b2 => rw [hz2]; omega
    case b3 => unfold maxLen; omega
    intro w0 hown0 hgrow0
    have HB0 := Lib.hid (hb1.grown hgrow0 hb1.size (fun k h => by cases h))
    have hlt0 : w1.heap.size < w0.heap.size := (hown0.lt w1.heap.size rfl).2
    have hb1s := hb1.size
    obtain ⟨G, hG⟩ : ∃ G, w1.heap.size = G := ⟨_, rfl⟩
    have hG' := hG
    have HRW0 : Hid (w0.ownsRow G 27 1 (.slice (some ⟨G, 0, none⟩) 8 8) 8 (List.replicate 8 (.slice none 0 0))) := by
      rw [← hG']
      have h9 := made_shps 8
      change (madeCells #[Value.slice none 0 0] 8).toList = _ at h9
      rw [h9] at hown0
      exact hown0
    rw [hG] at hlt0 hb1s
    clear hown0 hgrow0 hb1
    go_wp2
    (try rw [hG])
    clear hG hG'
    go_loopw [11] (fun i wr => ∃ (k : Nat) (es : List Ent), k ≤ 8 ∧ i = .int .i64 k ∧ Hid (es.map kE = turnsC l k) ∧ Hid (wr.ownsRow G 27 1 (.slice (some ⟨G, 0, none⟩) 8 8) 8 (es.map ev ++ List.replicate (8 - k) (.slice none 0 0))) ∧ Hid (EachS (G + 1) wr es) ∧ Hid (ApartS es) ∧ G < wr.heap.size ∧ Below w.heap.size w wr) (fun i _ => 8 - (intOf i).toNat)
    case atStart => exact ⟨0, [], by omega, rfl, by exact rfl, HRW0.out, fun e he => (by cases he), List.Pairwise.nil, hlt0, HB0.out⟩
    case round =>
      obtain ⟨k, es, hk, rfl, hm, hrow, hea, hap, hGl, hb⟩ := hrel
      have hsz := hb.size
      have hel : es.length = k := by have := congrArg List.length hm.out; rwa [List.length_map, turnsC_len] at this
      clear HRW0 HB0
      by_cases hlt : k < 8
      · have hk0 : (0 : Int) ≤ (k : Int) := by omega
        have hk1 : (k : Int) < 8 := by omega
        go_wp2_with fail
        refine (iTurn B n cap a l (k : Int) wr hn (H.out.on (hb.mono hB)) (Nat.le_trans hB hsz)).mono ?_
        rintro e w2 ⟨v, rfl, hown2, hb2⟩
        rw [HTS.out k (by omega)] at hown2
        obtain ⟨b, c, rfl⟩ := own_some hown2 (hpos k)
        have hbl := hown2.lt b rfl
        have hGw2 : G < w2.heap.size := by omega
        have HE2 := Lib.hid (show EachS (G + 1) w2 (es ++ [(b, c, turnC k l)]) from fun e he => by
          rw [List.mem_append] at he
          rcases he with he | he
          · exact (hea.out.on hb2) e he
          · rw [List.mem_singleton] at he
            subst he
            exact own_below hown2 (by omega))
        have HA2 := Lib.hid (show ApartS (es ++ [(b, c, turnC k l)]) from by
          unfold ApartS
          rw [List.pairwise_append]
          refine ⟨hap.out, by simp, fun e he f hf => ?_⟩
          rw [List.mem_singleton] at hf
          subst hf
          have := (hea.out.lt he).2
          show e.1 ≠ b
          omega)
        have HM2 := Lib.hid (show (es ++ [(b, c, turnC k l)]).map kE = turnsC l (k + 1) from by rw [List.map_append, hm.out, turnsC_succ]; rfl)
        have hr2 := hrow.out.kept (grow_below hb2 none) (.inr (by intro e; cases e))
        have hs := hr2.stored k (.slice (some ⟨b, 0, none⟩) (turnC k l).length c)
        have hO := hs.1
        have hfill := ss_fill es (b, c, turnC k l) k 8 hel hlt
        change _ = _ at hfill
        rw [show (Value.slice (some ⟨b, 0, none⟩) (turnC k l).length c) = ev (b, c, turnC k l) from rfl, hfill] at hO
        have HOO := Lib.hid hO
        have hc0 := hr2.cellAt k (by omega)
        have hlen : k < (es.map ev ++ List.replicate (8 - k) (Value.slice none 0 0)).length := by simp; omega
        obtain ⟨u, hu⟩ : ∃ u, (es.map ev ++ List.replicate (8 - k) (Value.slice none 0 0))[k]? = some u := ⟨_, List.getElem?_eq_getElem hlen⟩
        rw [hu] at hc0
        have hf0 := hr2.frozenAt k
        have hoff : OffS G (es ++ [(b, c, turnC k l)]) := fun e he => by have := (HE2.out.lt he).1; omega
        have HEE := Lib.hid (HE2.out.by hs.2 hoff)
        have HBB := Lib.hid ((hb.trans (hb2.mono hsz)).setCell (p := ⟨G, k, none⟩) (by show w.heap.size ≤ G; omega) (.slice (some ⟨b, 0, none⟩) (turnC k l).length c))
        have hGn : G < (w2.setCell ⟨G, k, none⟩ (.slice (some ⟨b, 0, none⟩) (turnC k l).length c)).heap.size := by simp [World.setCell]; exact hGw2
        clear hown2 hr2 hs hO hfill hu hlen hrow hea hap hm hb hb2 hoff
        go_wp2
        go_roundw
        case rel => exact ⟨k + 1, _, by omega, by go_num, HM2.out, HOO.out, HEE.out, HA2.out, hGn, HBB.out⟩
        case measure => simp [intOf]; omega
      · obtain rfl : k = 8 := by omega
        have hrow8 : wr.ownsRow G 27 1 (.slice (some ⟨G, 0, none⟩) 8 8) 8 (es.map ev) := by have := hrow.out; simpa using this
        have hoff : OffS G es := fun e he => by have := (hea.out.lt he).1; omega
        have hown : OwnS G wr (.slice (some ⟨G, 0, none⟩) 8 8) es := ⟨by rw [hel]; exact hrow8, hea.out.less (by omega), hap.out, fun e he h9 => by injection h9 with h9; exact hoff e he h9.symm⟩
        have hsm : SmallS es := fun e he => by
          have h9 : kE e ∈ turnsC l 8 := by rw [← hm.out]; exact List.mem_map_of_mem he
          obtain ⟨q, _, e9⟩ := List.mem_map.1 h9
          change turnC q l = e.2.2 at e9
          rw [← e9]
          exact ⟨by have := hsmall q; omega, HIN.out q⟩
        have HSM := Lib.hid hsm
        have HOW := Lib.hid hown
        have HM := Lib.hid hm.out
        clear hrow8 hoff hown hsm hrow hea hap hm
        go_wp2_with fail
        refine (iSortS G 8 G 8 es wr (by omega) hel HOW.out HSM.out).mono ?_
        rintro e w3 ⟨rfl, fs, hperm, hpair, hown3, hg3⟩
        have hfl : fs.length = 8 := by rw [hperm.length_eq, hel]
        have hsm3 : SmallS fs := fun e he => HSM.out e (hperm.mem_iff.1 he)
        have HB3 := Lib.hid (hb.grown hg3 hsz (fun k hk => by cases hk; exact hb1s))
        have hkey : (dedE fs).map kE = sortG ltS [] (turnsC l 8) := dedK_sortG ordS [] hpair (fun x => by rw [← HM.out]; exact (hperm.map kE).mem_iff)
        have hsub : (dedE fs).Sublist fs := by
          have := dedK_sub (key := kE) (d := dE) fs fs.length (Nat.le_refl _)
          rwa [List.take_length] at this
        have HSM4 := Lib.hid (show SmallS (dedE fs) from fun e he => hsm3 e (hsub.subset he))
        have HK := Lib.hid hkey
        have HO3 := Lib.hid hown3
        have HS3 := Lib.hid hsm3
        have hG3 : G ≤ w3.heap.size := by have := hg3.size; omega
        clear hkey hsub hperm hpair hown3 hg3 hsm3 HOW HSM HM
        go_wp2_with fail
        refine (iCompactS G 8 G 8 fs w3 (by omega) hG3 hfl HO3.out HS3.out).mono ?_
        rintro e w4 ⟨q, rfl, hq, hown4, hb4⟩
        have HR := Lib.hid (show GivesS w (sortG ltS [] (turnsC l 8)) (.returned (.slice (some ⟨G, 0, none⟩) q 8)) w4 from ⟨_, dedE fs, rfl, HK.out, HSM4.out, hown4.less hb1s, HB3.out.trans (hb4.mono hb1s)⟩)
        clear hown4 hb4 hq
        go_wp2
        go_ret
        exact HR.out

end Go.Proofs.YtailmmamgnebhaaGreatDoor
