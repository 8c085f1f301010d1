/-
  The model's ExtensionsOf.
  The model's FixedShapes.
  The model's OneSidedShapes, FreeShapes and CountFree.
  The model's ParentsOf.
-/
import Derived.Test.YthnapikklolgcaaMon
import Derived.Test.YthnapikklolgcaaPall
import Derived.Test.YthnapikklolgcaaCon
import Derived.ArgAppend
import Derived.Test.YthnapikklolgcaaPen
namespace Go.Proofs.Ythnapikklolgcaa

section
open Go.RowKit

theorem nb_bd (d : Nat) (hd : d < 4) : -1 ≤ (1 - (d : Int)).tmod 2 ∧ (1 - (d : Int)).tmod 2 ≤ 1 ∧ -1 ≤ (2 - (d : Int)).tmod 2 ∧ (2 - (d : Int)).tmod 2 ≤ 1 := by
  have : d = 0 ∨ d = 1 ∨ d = 2 ∨ d = 3 := by omega
  rcases this with rfl | rfl | rfl | rfl <;> decide

theorem own_lit_c {w : World} {B N : Nat} (h : w.heap.size = N) (hB : B ≤ N) : (w.alloc (.cells #[] 53)).ownsRow B 53 2 (.slice (some ⟨N, 0, none⟩) 0 0) 0 (cvs []) := by subst h; exact World.ownsRow_lit (base := B) (e := 53) (size := 2) w #[] 0 hB (by simp [maxLen]) rfl
/-- A small variable of the call's own keeps its two cells while memory below is kept. -/
theorem hold_xy {W w' : World} {xb : Nat} {p q : Int} (h1 : W.cell? ⟨xb, 0, none⟩ = some (.int .i64 p)) (h2 : W.cell? ⟨xb, 1, none⟩ = some (.int .i64 q)) (hx : xb < W.heap.size) (hb : Below W.heap.size W w') :
    w'.cell? ⟨xb, 0, none⟩ = some (.int .i64 p) ∧ w'.cell? ⟨xb, 1, none⟩ = some (.int .i64 q) :=
  ⟨(hb.cell (p := ⟨xb, 0, none⟩) hx).trans h1, (hb.cell (p := ⟨xb, 1, none⟩) hx).trans h2⟩
theorem nb_in {l : List Cl} {p q : Int} (h : ∀ c ∈ l, inP c = true) (hp : -1 ≤ p ∧ p ≤ 8) (hq : -1 ≤ q ∧ q ≤ 8) : ∀ c ∈ sortU (l ++ [(p, q)]), inW c := by
  intro c hc
  rw [sortU_mem, List.mem_append, List.mem_singleton] at hc
  rcases hc with hc | rfl
  · exact inW_of_inP (h c hc)
  · unfold inW
    dsimp only
    omega

theorem corn_inC {L : List Cl} (h : ∀ c ∈ L, inW c) : ∀ c ∈ cornerC L, InC c := by
  have bx := minTo_bdW Prod.fst L (fun j hj => by have := h _ (getD_mem hj); unfold inW at this; omega) _ (Nat.le_refl _)
  have bY := minTo_bdW Prod.snd L (fun j hj => by have := h _ (getD_mem hj); unfold inW at this; omega) _ (Nat.le_refl _)
  intro c hc
  unfold cornerC at hc
  obtain ⟨d, hd, rfl⟩ := List.mem_map.1 hc
  have := h d hd
  unfold inW at this
  unfold minX minY InC
  dsimp only
  omega

set_option maxHeartbeats 4000000 in
set_option maxRecDepth 100000 in
theorem sExtend (B n cap : Nat) (a : Option Addr) (l : List Cl) (w : World) (hn : n ≤ 1048576) (hc : CellsAt B w a n l) (hB : B ≤ w.heap.size) :
    Calls Try.prog 51 #[.slice a n cap] w (GivesSs w (extS l)) := by
  have H := Lib.hid hc
  have hln := hc.1
  clear hc
  cases h : isShape l with
  | false =>
    have HS := Lib.hid h
    have HO : Hid (extS l = []) := if_neg (by rw [h]; simp)
    rw [HO.out]
    clear h
    go_enter Try.func51, Try.ntmps51
    go_wp2_with fail
    refine (sIsShape B n cap a l _ (by omega) (H.out.on ((Below.refl _ _).alloc hB _)) (by simp; omega)).mono ?_
    rintro e w1 ⟨rfl, hb1⟩
    rw [HS.out]
    have hb0 : Below w.heap.size w (w.alloc (.cells #[] 24)) := (Below.refl _ _).alloc (Nat.le_refl _) _
    have hbW := hb0.trans (hb1.mono (by simp))
    have hz := hb1.size
    have HR := Lib.hid (show GivesSs w [] (.returned (.slice (some ⟨w.heap.size, 0, none⟩) ([] : List (List Cl)).length 0)) w1 from ⟨w.heap.size, 0, [], rfl, Nat.le_refl _, ⟨by simp at hz; omega, rfl, fun k hk => by simp at hk, fun k v l h1 _ => by simp at h1⟩, hbW⟩)
    clear hb1 hbW hb0 hz
    go_wp2
    go_ret
    exact HR.out
  | true =>
    by_cases h8 : n = 8
    · have HS := Lib.hid h
      subst h8
      have HO : Hid (extS l = []) := if_neg (by rw [h, hln]; simp)
      rw [HO.out]
      clear h hln
      go_enter Try.func51, Try.ntmps51
      go_wp2_with fail
      refine (sIsShape B 8 cap a l _ (by omega) (H.out.on ((Below.refl _ _).alloc hB _)) (by simp; omega)).mono ?_
      rintro e w1 ⟨rfl, hb1⟩
      rw [HS.out]
      have hb0 : Below w.heap.size w (w.alloc (.cells #[] 24)) := (Below.refl _ _).alloc (Nat.le_refl _) _
      have hbW := hb0.trans (hb1.mono (by simp))
      have hz := hb1.size
      have HR := Lib.hid (show GivesSs w [] (.returned (.slice (some ⟨w.heap.size, 0, none⟩) ([] : List (List Cl)).length 0)) w1 from ⟨w.heap.size, 0, [], rfl, Nat.le_refl _, ⟨by simp at hz; omega, rfl, fun k hk => by simp at hk, fun k v l h1 _ => by simp at h1⟩, hbW⟩)
      clear hb1 hbW hb0 hz
      go_wp2
      go_ret
      exact HR.out
    · have hp := isShape_in h
      have hlen := ((isShape_iff l).1 h).1
      have HP := Lib.hid hp
      have HS := Lib.hid h
      have HO : Hid (extS l = sortG ltS [] (extTo l l.length)) := if_pos (by rw [h, hln]; simp [h8])
      have h88 : ((n : Int) == 8) = false := by simp; omega
      rw [HO.out, hln]
      rw [hln] at hlen
      clear h hp
      obtain ⟨b0, o0, rfl, hb0, hcell⟩ := H.out.2.2 (by omega)
      have HCELL := Lib.hid hcell
      clear hcell
      go_enter Try.func51, Try.ntmps51
      go_wp2_with fail
      refine (sIsShape B n cap _ l _ (by omega) (H.out.on ((Below.refl _ _).alloc hB _)) (by simp; omega)).mono ?_
      rintro e w1 ⟨rfl, hb1⟩
      rw [HS.out]
      have hbA : Below w.heap.size w (w.alloc (.cells #[] 24)) := (Below.refl _ _).alloc (Nat.le_refl _) _
      have hbW := hbA.trans (hb1.mono (by simp))
      have hz := hb1.size
      simp only [World.size_alloc] at hz
      have HB1 := Lib.hid hbW
      clear hb1 hbW hbA
      go_wp2_with fail
      go_loopw [3, 4] (fun v i wr => ∃ (k g cc : Nat) (vs : List Value), k ≤ n ∧ i = .int .i64 k ∧ v = .slice (some ⟨g, 0, none⟩) (sortG ltS [] (extTo l k)).length cc ∧ (sortG ltS [] (extTo l k)).length ≤ cc ∧ Hid (SsAt wr.heap.size wr g vs (sortG ltS [] (extTo l k))) ∧ Below w.heap.size w wr) (fun _ i _ => n - (intOf i).toNat)
      case atStart => exact ⟨0, w.heap.size, 0, [], by omega, rfl, rfl, Nat.le_refl _, ⟨by omega, rfl, fun k hk => by simp [extTo, sortG] at hk, fun k v l h1 _ => by simp at h1⟩, HB1.out⟩
      case round =>
        obtain ⟨k, g, cc, vs, hk, rfl, rfl, hlc, hss, hb⟩ := hrel
        have hsz := hb.size
        by_cases hlt : k < n
        · have hk1 : (k : Int) < (n : Int) := by omega
          have hk0 : (0 : Int) ≤ (k : Int) := by omega
          clear HB1
          go_wp2_with fail
          go_loopw [3, 5] (fun v i wq => ∃ (d g cc : Nat) (vs : List Value), d ≤ 4 ∧ i = .int .i64 d ∧ v = .slice (some ⟨g, 0, none⟩) (sortG ltS [] (extTo l k ++ extRow l k d)).length cc ∧ (sortG ltS [] (extTo l k ++ extRow l k d)).length ≤ cc ∧ Hid (SsAt wq.heap.size wq g vs (sortG ltS [] (extTo l k ++ extRow l k d))) ∧ Below w.heap.size w wq) (fun _ i _ => 4 - (intOf i).toNat)
          case atStart => exact ⟨0, g, cc, vs, by omega, rfl, by simp [extRow], by simpa [extRow] using hlc, by simpa [extRow] using hss, hb⟩
          case round =>
            obtain ⟨d, g1, cc1, vs1, hd, rfl, rfl, hlc1, hss1, hb1⟩ := hrel
            have hsz1 := hb1.size
            by_cases hdt : d < 4
            · have hd1 : (d : Int) < 4 := by omega
              have hd0 : (0 : Int) ≤ (d : Int) := by omega
              obtain ⟨x, y, hxy⟩ : ∃ x y, l.getD k (0, 0) = (x, y) := ⟨_, _, rfl⟩
              have p1 := (hb1.cell (p := ⟨b0, o0 + k * 2, none⟩) (by show b0 < _; omega)).trans (HCELL.out k hlt).1
              have p2 := (hb1.cell (p := ⟨b0, o0 + k * 2 + 1, none⟩) (by show b0 < _; omega)).trans (HCELL.out k hlt).2
              rw [hxy] at p1 p2
              dsimp only at p1 p2
              have hpx := inP_out (HP.out _ (getD_mem (l := l) (j := k) (by omega)))
              rw [hxy] at hpx
              dsimp only at hpx
              have HXY := Lib.hid hxy
              have hnb := nb_bd d hdt
              have HSS1 := Lib.hid hss1.out
              have hbl : b0 < wr.heap.size := by omega
              have hx1 : IntKind.i64.wrap (x + (1 - (d : Int)).tmod 2) = x + (1 - (d : Int)).tmod 2 := IntWalk.i64_in _ (by omega)
              have hy1 : IntKind.i64.wrap (y + (2 - (d : Int)).tmod 2) = y + (2 - (d : Int)).tmod 2 := IntWalk.i64_in _ (by omega)
              have hd3 : IntKind.i64.wrap (1 - (d : Int)) = 1 - (d : Int) := IntWalk.i64_in _ (by omega)
              have hd4 : IntKind.i64.wrap (2 - (d : Int)) = 2 - (d : Int) := IntWalk.i64_in _ (by omega)
              clear hxy hss1 hss
              go_wp2_with fail
              go_region_held3 (fun w' => w'.cell? ⟨b0, o0 + k * 2, none⟩ = some (.int .i64 x) ∧ w'.cell? ⟨b0, o0 + k * 2 + 1, none⟩ = some (.int .i64 y)) (first | exact ⟨p1, p2⟩ | go_keep) (fail)
              obtain ⟨p, hp⟩ : ∃ p, x + (1 - (d : Int)).tmod 2 = p := ⟨_, rfl⟩
              obtain ⟨q, hq⟩ : ∃ q, y + (2 - (d : Int)).tmod 2 = q := ⟨_, rfl⟩
              have HNB := Lib.hid (show nbC (l.getD k (0, 0)) d = (p, q) from by rw [HXY.out]; unfold nbC; rw [← hp, ← hq])
              have hpb : -1 ≤ p ∧ p ≤ 8 := by omega
              have hqb : -1 ≤ q ∧ q ≤ 8 := by omega
              rw [hp, hq]
              have q1 : (wr.alloc (.cells #[.int .i64 p, .int .i64 q] 53)).drew.cell? ⟨wr.heap.size, 0, none⟩ = some (.int .i64 p) := cell_of_row _ wr.heap.size 0 _ _ _ (heap_alloc_new wr _)
              have q2 : (wr.alloc (.cells #[.int .i64 p, .int .i64 q] 53)).drew.cell? ⟨wr.heap.size, 1, none⟩ = some (.int .i64 q) := cell_of_row _ wr.heap.size 1 _ _ _ (heap_alloc_new wr _)
              have hb2 : Below wr.heap.size wr (wr.alloc (.cells #[.int .i64 p, .int .i64 q] 53)).drew := ((Below.refl _ _).alloc (Nat.le_refl _) _).drew
              have hxb : wr.heap.size < (wr.alloc (.cells #[.int .i64 p, .int .i64 q] 53)).drew.heap.size := by simp
              have HB2 := Lib.hid (hb1.trans (hb2.mono hsz1))
              have HSS2 := Lib.hid ((HSS1.out.on hb2).more hb2.size)
              clear hb2 HSS1 hx1 hy1 hd3 hd4 hp hq p1 p2 hnb hpx hb1 hbl
              generalize (wr.alloc (.cells #[.int .i64 p, .int .i64 q] 53)).drew = W at *
              generalize wr.heap.size = xb at *
              have hszW := HB2.out.size
              go_wp2_with fail
              refine (sHasCell B n cap _ l p q W (by omega) (H.out.on (HB2.out.mono hB))).mono ?_
              rintro e w' ⟨rfl, rfl⟩
              cases hh : hasC l p q with
              | true =>
                have he : extAt l k d = [] := extAt_has HXY.out (by have := HNB.out; rw [HXY.out] at this; rw [this]; exact hh)
                have he2 : extTo l k ++ extRow l k (d + 1) = extTo l k ++ extRow l k d := by rw [show extRow l k (d + 1) = extRow l k d ++ extAt l k d from rfl, he, List.append_nil]
                have HE := Lib.hid he2
                clear he he2 q1 q2
                go_wp2
                go_roundw
                case rel => exact ⟨d + 1, g1, cc1, vs1, by omega, by go_num, by rw [HE.out], by rw [HE.out]; exact hlc1, by rw [HE.out]; exact HSS2.out, HB2.out⟩
                case measure => simp [intOf]; omega
              | false =>
                go_wp2_with fail
                have hblW : b0 < W.heap.size := by omega
                have HLI := Lib.hid (show Lies W ⟨b0, o0, none⟩ l from by
                  have h9 := (H.out.on (HB2.out.mono hB)).lies (k := 0) (m := n) (by omega)
                  rw [List.drop_zero, List.take_of_length_le (by omega), Nat.zero_mul, Nat.add_zero] at h9
                  exact h9)
                have HINC := Lib.hid (show ∀ c ∈ l ++ [(p, q)], InC c from fun c hc => by
                  rcases List.mem_append.1 hc with h9 | h9
                  · exact H.out.2.1 c h9
                  · obtain rfl := List.mem_singleton.1 h9
                    unfold InC
                    dsimp only
                    omega)
                have HINW := Lib.hid (nb_in HP.out hpb hqb)
                have hse := sortG_le ltS [] (extTo l k ++ extRow l k d)
                have hs1 := extTo_le l k
                have hs2 := extRow_le l k d
                rw [List.length_append] at hse
                have hsn : (sortG ltS [] (extTo l k ++ extRow l k d)).length ≤ 1000000 := by omega
                have HSN := Lib.hid hsn
                clear hse hs1 hs2 hsn
                have hsl : (sortU (l ++ [(p, q)])).length ≤ 4194304 := by have h9 := sortU_len (l ++ [(p, q)]); simp at h9; omega
                go_region_held3 (fun w' => w'.cell? ⟨xb, 0, none⟩ = some (.int .i64 p) ∧ w'.cell? ⟨xb, 1, none⟩ = some (.int .i64 q))
                  (first | (refine hold_xy q1 q2 hxb ?_; (repeat' (first | exact Below.refl _ _ | exact hbS4 | exact hbS3 | exact hbS2 | exact hbS1 | refine Below.drew ?_ | refine Below.alloc ?_ ?_ _ | exact Nat.le_refl _ | exact hbS3.size | exact hbS2.size | exact hbS1.size | (have h9 := hbS1.size; simp; omega) | (simp; omega) | (simp; done)))))
                  (first | (refine step_cells rfl _ _ rfl W.heap.size _ 0 0 [] ⟨b0, o0, none⟩ n cap l rfl rfl ?a1 hln ?a3 (by omega) ?a5 _ rfl ?_; (case a1 => (first | exact own_lit_c (w := W) rfl (Nat.le_refl _) | exact (own_lit_c (w := W) rfl (Nat.le_refl _)).alloc _ | exact own_lit_c (w := W.alloc _) (by simp) (by simp))); (case a3 => (refine Lies.on HLI.out ?_ hblW; (repeat' (first | exact Below.refl _ _ | exact hbS4 | exact hbS3 | exact hbS2 | exact hbS1 | refine Below.drew ?_ | refine Below.alloc ?_ ?_ _ | exact Nat.le_refl _ | exact hbS3.size | exact hbS2.size | exact hbS1.size | (have h9 := hbS1.size; simp; omega) | (simp; omega) | (simp; done))))); (case a5 => (first | (simp; done) | (simp; omega))); intro g1' c1' w1' hown1 hgrow1 hat1 hgb1 hlt1; (simp only [Nat.zero_add, List.nil_append] at hown1); have hbS1 : Below W.heap.size W w1' := by (refine Below.grown (w := _) ?_ hgrow1 ?_ (fun k hk => by cases hk; first | exact Nat.le_refl _ | (simp; done) | (simp; omega)) <;> (repeat' (first | exact Below.refl _ _ | exact hbS4 | exact hbS3 | exact hbS2 | exact hbS1 | refine Below.drew ?_ | refine Below.alloc ?_ ?_ _ | exact Nat.le_refl _ | exact hbS3.size | exact hbS2.size | exact hbS1.size | (have h9 := hbS1.size; simp; omega) | (simp; omega) | (simp; done))))) | (refine step_cells rfl _ _ rfl W.heap.size g1' _ c1' l _ 1 1 [(p, q)] rfl rfl ?a1 rfl ?a3 ?a4 ?a5 _ rfl ?_; (case a1 => ((try simp only [Nat.zero_add]); first | exact hown1 | exact hown1.alloc _)); (case a4 => omega); (case a3 => (refine lies_block (t := 53) (fr := (0, 0)) ?_; first | exact heap_alloc_new _ _ | (refine (hgrow1.block _ ?_ ?_).trans ?_ <;> first | (simp; done) | (simp; omega) | exact new_at (w := W.alloc _) _ (by simp) | exact (Below.heap_alloc (W.alloc _) _ _ (by simp)).trans (new_at _ rfl)))); (case a5 => (first | exact hbS1.size | (simp; omega) | (simp; have := hbS1.size; omega))); intro g2' c2' w2' hown2 hgrow2 hat2 hgb2 hlt2; (try simp only [Nat.zero_add] at hown2); have hbS2 : Below W.heap.size W w2' := by (refine Below.grown (w := _) ?_ hgrow2 ?_ (fun k hk => by cases hk; exact hgb1) <;> (repeat' (first | exact Below.refl _ _ | exact hbS4 | exact hbS3 | exact hbS2 | exact hbS1 | refine Below.drew ?_ | refine Below.alloc ?_ ?_ _ | exact Nat.le_refl _ | exact hbS3.size | exact hbS2.size | exact hbS1.size | (have h9 := hbS1.size; simp; omega) | (simp; omega) | (simp; done))))) | (go_at_call 90; refine (sSort _ (n + 1) c2' _ (l ++ [(p, q)]) _ (by omega) (CellsAt.of_own hown2 HINC.out) (Nat.le_refl _)).mono ?_; rintro e w3 ⟨g3, c3, rfl, hown3, hb3⟩; have hbS3 : Below W.heap.size W w3 := hbS2.trans (hb3.mono hbS2.size)) | (go_at_call 89; refine (sCornerW _ (sortU (l ++ [(p, q)])).length c3 _ (sortU (l ++ [(p, q)])) _ hsl (CellsAt.of_own hown3 (fun c hc => HINC.out c ((sortU_mem _ c).1 hc))) HINW.out (Nat.le_refl _)).mono ?_; rintro e w4 ⟨g4, c4, rfl, hown4, hb4⟩; have hbS4 : Below W.heap.size W w4 := hbS3.trans (hb4.mono hbS3.size)))
                all_goals
                  obtain ⟨N, hN⟩ : ∃ N, cornerC (sortU (l ++ [(p, q)])) = N := ⟨_, rfl⟩
                  have hni := corn_inC HINW.out
                  have hnl : N.length ≤ 4194304 := by rw [← hN]; simp [cornerC]; omega
                  have HNN := Lib.hid (show moreC l (p, q) = N from hN)
                  rw [hN] at hown4 hni ⊢
                  have HB4 := Lib.hid (HB2.out.trans (hbS4.mono hszW))
                  have HN4 := Lib.hid (CellsAt.of_own hown4 hni)
                  have HSS4 := Lib.hid ((HSS2.out.on hbS4).more hbS4.size)
                  clear hown1 hown2 hown3 hown4 hbS1 hbS2 hbS3 hbS4 hgrow1 hgrow2 hni hN hb3 hb4
                  have hsz4 := HB4.out.size
                  simp only [Exit.then]
                  go_wp2_with fail
                  refine (sIsShape w4.heap.size N.length c4 _ N w4 (by omega) HN4.out (Nat.le_refl _)).mono ?_
                  rintro e w5 ⟨rfl, hb5⟩
                  have HB5 := Lib.hid (HB4.out.trans (hb5.mono hsz4))
                  have HN5 := Lib.hid ((HN4.out.on hb5).more hb5.size)
                  have HSS5 := Lib.hid ((HSS4.out.on hb5).more hb5.size)
                  have hsz5 := HB5.out.size
                  clear hb5
                  cases hnn : isShape N with
                  | false =>
                    have he : extAt l k d = [] := extAt_no HXY.out (by have := HNB.out; rw [HXY.out] at this; rw [this]; exact hh) (by have := HNB.out; rw [HXY.out] at this; rw [this, HNN.out]; exact hnn)
                    have he2 : extTo l k ++ extRow l k (d + 1) = extTo l k ++ extRow l k d := by rw [show extRow l k (d + 1) = extRow l k d ++ extAt l k d from rfl, he, List.append_nil]
                    have HE := Lib.hid he2
                    clear he he2
                    go_wp2
                    go_roundw
                    case rel => exact ⟨d + 1, g1, cc1, vs1, by omega, by go_num, by rw [HE.out], by rw [HE.out]; exact hlc1, by rw [HE.out]; exact HSS5.out, HB5.out⟩
                    case measure => simp [intOf]; omega
                  | true =>
                    have he : extAt l k d = [N] := by rw [← HNN.out]; have h9 := HNB.out; rw [HXY.out] at h9; rw [← h9]; exact extAt_yes HXY.out (by rw [h9]; exact hh) (by rw [h9, HNN.out]; exact hnn)
                    have he2 : sortG ltS [] (extTo l k ++ extRow l k (d + 1)) = insG ltS [] (sortG ltS [] (extTo l k ++ extRow l k d)) N := by rw [show extRow l k (d + 1) = extRow l k d ++ extAt l k d from rfl, he, ← List.append_assoc, sortG_snoc]
                    have HE := Lib.hid he2
                    clear he he2
                    go_wp2_with fail
                    refine (sPut w5.heap.size g1 (sortG ltS [] (extTo l k ++ extRow l k d)).length cc1 c4 _ vs1 (sortG ltS [] (extTo l k ++ extRow l k d)) N w5 rfl HSN.out hlc1 HSS5.out hnl HN5.out (Nat.le_refl _)).mono ?_
                    rintro e w6 ⟨g6, c6, vs6, rfl, hc6, hss6, hb6⟩
                    rw [← HE.out] at hss6 hc6 ⊢
                    have HSS6 := Lib.hid hss6
                    have HB6 := Lib.hid (HB5.out.trans (hb6.mono hsz5))
                    clear hss6 hb6
                    go_wp2
                    go_roundw
                    case rel => exact ⟨d + 1, g6, c6, vs6, by omega, by go_num, rfl, hc6, HSS6.out, HB6.out⟩
                    case measure => simp [intOf]; omega
            · obtain rfl : d = 4 := by omega
              have he : extTo l k ++ extRow l k 4 = extTo l (k + 1) := rfl
              have HE := Lib.hid he
              clear he
              go_wp2
              go_roundw
              case rel => exact ⟨k + 1, g1, cc1, vs1, by omega, by go_num, by rw [← HE.out], by rw [← HE.out]; exact hlc1, by rw [← HE.out]; exact hss1.out, hb1⟩
              case measure => simp [intOf]; omega
        · obtain rfl : k = n := by omega
          have HR := Lib.hid (show GivesSs w (sortG ltS [] (extTo l k)) (.returned (.slice (some ⟨g, 0, none⟩) (sortG ltS [] (extTo l k)).length cc)) wr from ⟨g, cc, vs, rfl, hlc, hss.out, hb⟩)
          clear hss hlc
          go_wp2
          go_ret
          exact HR.out
end

section
open Go.RowKit

theorem inb_out5 {x lo hi : Int} (h : inb x lo hi = true) : lo ≤ x ∧ x ≤ hi := by
  unfold inb at h
  simpa using h
theorem flat_take (L : List (List Cl)) (i : Nat) (h : i < L.length) : (L.take (i + 1)).flatMap extS = (L.take i).flatMap extS ++ extS (L.getD i []) := by
  rw [List.take_succ_eq_append_getElem h, List.flatMap_append]
  simp [List.getD, h]
theorem take_get (L : List (List Cl)) (j : Nat) (h : j < L.length) : L.take (j + 1) = L.take j ++ [L.getD j []] := by
  rw [List.take_succ_eq_append_getElem h]
  simp [List.getD, h]
theorem flat_bd (L : List (List Cl)) (i : Nat) (h : L.length ≤ 6144) : ((L.take i).flatMap extS).length ≤ 196608 := by
  have h1 := flat_le (L.take i) 32 fun x _ => extS_le x
  have h2 : (L.take i).length ≤ L.length := by rw [List.length_take]; omega
  omega

set_option maxHeartbeats 4000000 in
set_option maxRecDepth 100000 in
theorem sFixed (z : Int) (w : World) : Calls Try.prog 40 #[.int .i64 z] w (GivesSs w (fixS z)) := by
  cases hin : inb z 1 5 with
  | false =>
    have HO : Hid (fixS z = []) := if_neg (by rw [hin]; simp)
    rw [HO.out]
    go_enter Try.func40, Try.ntmps40
    go_wp2_with fail
    refine (sIn _ _ _ _).mono ?_
    rintro e w' ⟨rfl, rfl⟩
    have HR := Lib.hid (show GivesSs w [] (.returned (.slice (some ⟨w.heap.size, 0, none⟩) ([] : List (List Cl)).length 0)) (w.alloc (.cells #[] 24)) from ⟨w.heap.size, 0, [], rfl, Nat.le_refl _, ⟨by simp, rfl, fun k hk => by simp at hk, fun k v l h1 _ => by simp at h1⟩, (Below.refl _ _).alloc (Nat.le_refl _) _⟩)
    go_wp2
    go_ret
    exact HR.out
  | true =>
    have hz := inb_out5 hin
    obtain ⟨N, rfl⟩ := Int.eq_ofNat_of_zero_le (show 0 ≤ z by omega)
    have HO : Hid (fixS (N : Int) = fixT (N - 1)) := by unfold fixS; rw [if_pos hin, Int.toNat_natCast]; exact rfl
    rw [HO.out]
    have HIN := Lib.hid hin
    go_enter Try.func40, Try.ntmps40
    go_wp2_with fail
    refine (sIn _ _ _ _).mono ?_
    rintro e w' ⟨rfl, rfl⟩
    rw [HIN.out]
    clear hin
    go_wp2_with (first | (at_builtin; refine wpList_shps rfl _ _ rfl w.heap.size w.heap.size 0 0 [] ⟨w.heap.size + 1 + 1, 0, none⟩ 1 1 [.slice (some ⟨w.heap.size + 1, 0, none⟩) 1 1] rfl rfl (((own_lit_s (w := w) rfl (Nat.le_refl _)).alloc _).alloc _) rfl ?c3 ?c4 (by omega) ?c5 (w.heap.size + 1 + 1 + 1) ?c6 ?_) | go_in)
    case c3 => exact liesV_block (t := 24) (fr := (0, 0)) (new_at _ (by simp))
    case c4 => intro u hu; simp at hu; subst hu; rfl
    case c5 => simp; omega
    case c6 => simp
    intro g0 c0 w0 hown0 hgrow0 hat0 hgb0 hlt0
    have hc1 : w0.cell? ⟨w.heap.size + 1, 0, none⟩ = some (.int .i64 0) ∧ w0.cell? ⟨w.heap.size + 1, 1, none⟩ = some (.int .i64 0) := by
      have hv : ∀ j v, (#[.int .i64 0, .int .i64 0] : Array Value)[j]? = some v → (((w.alloc (.cells #[] 24)).alloc (.cells #[.int .i64 0, .int .i64 0] 53)).alloc (.cells #[.slice (some ⟨w.heap.size + 1, 0, none⟩) 1 1] 24)).cell? ⟨w.heap.size + 1, j, none⟩ = some v := fun j v h => by
        rw [World.cell?_alloc_lt _ _ _ (by simp)]
        have h9 := cell_of_row ((w.alloc (.cells #[] 24)).alloc (.cells #[.int .i64 0, .int .i64 0] 53)) (w.heap.size + 1) j #[.int .i64 0, .int .i64 0] 53 (0, 0) (by have := heap_alloc_new (w.alloc (.cells #[] 24)) (.cells #[.int .i64 0, .int .i64 0] 53); simpa using this)
        rw [h9, h]
      exact ⟨hgrow0.cell (hv 0 _ rfl) (by simp), hgrow0.cell (hv 1 _ rfl) (by simp)⟩
    have hss0 : SsAt w0.heap.size w0 g0 [.slice (some ⟨w.heap.size + 1, 0, none⟩) 1 1] (fixT 0) := by
      have hsz := hgrow0.size
      simp at hsz
      refine ⟨hlt0, rfl, fun k hk => hown0.cellAt k (by simp [fixT] at hk; omega), fun k v l hv hl => ?_⟩
      have hk0 : k = 0 := by
        have := (List.getElem?_eq_some_iff.1 hv).1
        simp at this
        exact this
      subst hk0
      simp [fixT] at hv hl
      subst hv hl
      refine ⟨_, 1, rfl, ⟨rfl, fun c hc => ?_, fun _ => ⟨w.heap.size + 1, 0, rfl, by omega, fun k hk => ?_⟩⟩, by simp⟩
      · obtain rfl := List.mem_singleton.1 hc
        unfold InC
        decide
      · obtain rfl : k = 0 := by simp at hk; exact hk
        exact hc1
    have hb0 : Below w.heap.size w w0 := ((((Below.refl _ _).alloc (Nat.le_refl _) _).alloc (by simp) _).alloc (by simp; omega) _).grown hgrow0 (by simp; omega) (fun k hk => by cases hk; exact Nat.le_refl _)
    have HSS0 := Lib.hid hss0
    have HB0 := Lib.hid hb0
    have hcc0 := own_cap_s hown0
    clear hc1 hss0 hb0 hown0 hgrow0 hat0 HIN
    go_wp2_with fail
    go_loopw [3, 4] (fun v i wr => ∃ (k g cc : Nat) (vs : List Value), k + 1 ≤ N ∧ i = .int .i64 ((k : Int) + 1) ∧ v = .slice (some ⟨g, 0, none⟩) (fixT k).length cc ∧ (fixT k).length ≤ cc ∧ Hid (SsAt wr.heap.size wr g vs (fixT k)) ∧ Below w.heap.size w wr) (fun _ i _ => N - (intOf i).toNat)
    case atStart => exact ⟨0, g0, c0, _, by omega, rfl, rfl, hcc0, HSS0.out, HB0.out⟩
    case round =>
      obtain ⟨k, g, cc, vs, hk, rfl, rfl, hlc, hss, hb⟩ := hrel
      have hsz := hb.size
      by_cases hlt : k + 1 < N
      · have hk1 : (k : Int) + 1 < (N : Int) := by omega
        have hfb := fixT_bd k (by omega)
        have HSS := Lib.hid hss.out
        have HFS := Lib.hid (fun x hx => fixT_shape k (x := x) hx)
        clear HSS0 HB0 hss
        obtain ⟨L, hL⟩ : ∃ L, fixT k = L := ⟨_, rfl⟩
        have HL := Lib.hid hL
        rw [hL] at HSS hfb hlc HFS ⊢
        clear hL
        go_wp2_with fail
        go_loopw [5, 6] (fun v i wq => ∃ (m g1 cc1 : Nat) (vs1 : List Value), m ≤ L.length ∧ i = .int .i64 m ∧ v = .slice (some ⟨g1, 0, none⟩) (sortG ltS [] ((L.take m).flatMap extS)).length cc1 ∧ (sortG ltS [] ((L.take m).flatMap extS)).length ≤ cc1 ∧ Hid (SsAt wq.heap.size wq g1 vs1 (sortG ltS [] ((L.take m).flatMap extS))) ∧ Hid (SsAt wq.heap.size wq g vs L) ∧ Below w.heap.size w wq) (fun _ i _ => L.length - (intOf i).toNat)
        case atStart => exact ⟨0, wr.heap.size, 0, [], by omega, rfl, rfl, Nat.le_refl _, ⟨by simp, rfl, fun k hk => by simp [sortG] at hk, fun k v l h1 _ => by simp at h1⟩, (HSS.out.on ((Below.refl _ _).alloc (Nat.le_refl _) _)).more (by simp), hb.alloc hsz _⟩
        case round =>
          obtain ⟨m, g1, cc1, vs1, hm, rfl, rfl, hlc1, hss1, hssL, hb1⟩ := hrel
          have hsz1 := hb1.size
          by_cases hmt : m < L.length
          · have hm1 : (m : Int) < (L.length : Int) := by omega
            have hm0 : (0 : Int) ≤ (m : Int) := by omega
            obtain ⟨a3, c3, hcell, hc3, hn3⟩ := hssL.out.get (k := m) hmt
            obtain ⟨x, hx⟩ : ∃ x, L.getD m [] = x := ⟨_, rfl⟩
            rw [hx] at hcell hc3 hn3
            have hxs := HFS.out x (by rw [← hx]; simp [List.getD, hmt])
            have hx8 := ((isShape_iff x).1 hxs.1).1.2
            have HX := Lib.hid hx
            have HC3 := Lib.hid hc3
            have HSSL := Lib.hid hssL.out
            have HSS1 := Lib.hid hss1.out
            clear hx hc3 hssL hss1 hxs HSS
            go_wp2_with fail
            refine (sExtend wr.heap.size x.length c3 a3 x wr (by omega) HC3.out (Nat.le_refl _)).mono ?_
            rintro e w2 ⟨gE, cE, vsE, rfl, hcE, hssE, hbE⟩
            have HB2 := Lib.hid (hb1.trans (hbE.mono hsz1))
            have HSSE := Lib.hid hssE
            have HS2 := Lib.hid ((HSS1.out.on hbE).more hbE.size)
            have HL2 := Lib.hid ((HSSL.out.on hbE).more hbE.size)
            have hxe := extS_le x
            have HES := Lib.hid (fun y hy => ((isShape_iff y).1 (extS_shape (l := x) (x := y) hy)).1.2)
            have hfl := flat_bd L m (by omega)
            have HFT := Lib.hid (flat_take L m hmt)
            rw [HX.out] at HFT
            obtain ⟨E, hE⟩ : ∃ E, extS x = E := ⟨_, rfl⟩
            obtain ⟨A, hA⟩ : ∃ A, (L.take m).flatMap extS = A := ⟨_, rfl⟩
            rw [hE, hA] at HFT
            rw [hE] at HSSE hxe HES hcE ⊢
            rw [hA] at HS2 hfl hlc1 ⊢
            clear hssE hbE HSS1 HSSL HC3 hcell hb1 hE hA HX
            have hsz2 := HB2.out.size
            go_wp2_with fail
            go_loopw [5, 8] (fun v i wq => ∃ (j g2 cc2 : Nat) (vs2 : List Value), j ≤ E.length ∧ i = .int .i64 j ∧ v = .slice (some ⟨g2, 0, none⟩) (sortG ltS [] (A ++ E.take j)).length cc2 ∧ (sortG ltS [] (A ++ E.take j)).length ≤ cc2 ∧ Hid (SsAt wq.heap.size wq g2 vs2 (sortG ltS [] (A ++ E.take j))) ∧ Hid (SsAt wq.heap.size wq gE vsE E) ∧ Hid (SsAt wq.heap.size wq g vs L) ∧ Below w.heap.size w wq) (fun _ i _ => E.length - (intOf i).toNat)
            case atStart => exact ⟨0, g1, cc1, vs1, by omega, rfl, by simp, by simpa using hlc1, by rw [List.take_zero, List.append_nil]; exact HS2.out, HSSE.out, HL2.out, HB2.out⟩
            case round =>
              obtain ⟨j, g2, cc2, vs2, hj, rfl, rfl, hlc2, hss2, hssE, hssL, hb2⟩ := hrel
              have hszr := hb2.size
              by_cases hjt : j < E.length
              · have hj1 : (j : Int) < (E.length : Int) := by omega
                have hj0 : (0 : Int) ≤ (j : Int) := by omega
                obtain ⟨a4, c4, hcell, hc4, hn4⟩ := hssE.out.get (k := j) hjt
                have HTG := Lib.hid (take_get E j hjt)
                obtain ⟨y, hy⟩ : ∃ y, E.getD j [] = y := ⟨_, rfl⟩
                rw [hy] at hcell hc4 hn4 HTG
                have hnl := sortG_le ltS [] (A ++ E.take j)
                have htl : (E.take j).length ≤ E.length := by rw [List.length_take]; omega
                rw [List.length_append] at hnl
                have HE2 := Lib.hid hssE.out
                have HL3 := Lib.hid hssL.out
                have HS3 := Lib.hid hss2.out
                have HC4 := Lib.hid hc4
                clear hssE hssL hss2 hc4 hy
                go_wp2_with fail
                refine (sPut wr.heap.size g2 (sortG ltS [] (A ++ E.take j)).length cc2 c4 a4 vs2 (sortG ltS [] (A ++ E.take j)) y wr rfl (by omega) hlc2 HS3.out hn4 HC4.out (Nat.le_refl _)).mono ?_
                rintro e w3 ⟨g3, c3', vs3, rfl, hc3', hss3, hb3⟩
                have he : insG ltS [] (sortG ltS [] (A ++ E.take j)) y = sortG ltS [] (A ++ E.take (j + 1)) := by rw [← sortG_snoc, List.append_assoc, HTG.out]
                rw [he] at hss3 hc3' ⊢
                have HS4 := Lib.hid hss3
                have HE4 := Lib.hid ((HE2.out.on hb3).more hb3.size)
                have HL4 := Lib.hid ((HL3.out.on hb3).more hb3.size)
                have HB4 := Lib.hid (hb2.trans (hb3.mono hszr))
                clear hss3 hb3 he hcell hnl htl
                go_wp2
                go_roundw
                case rel => exact ⟨j + 1, g3, c3', vs3, by omega, by go_num, rfl, hc3', HS4.out, HE4.out, HL4.out, HB4.out⟩
                case measure => simp [intOf]; omega
              · obtain rfl : j = E.length := by omega
                rw [List.take_length] at hlc2 hss2 ⊢
                rw [← HFT.out] at hlc2 hss2 ⊢
                go_wp2
                go_roundw
                case rel => exact ⟨m + 1, g2, cc2, vs2, by omega, by go_num, rfl, hlc2, hss2, hssL, hb2⟩
                case measure => simp [intOf]; omega
          · obtain rfl : m = L.length := by omega
            rw [List.take_length] at hlc1 hss1 ⊢
            have he : sortG ltS [] (L.flatMap extS) = fixT (k + 1) := by rw [← HL.out]; rfl
            rw [he] at hlc1 hss1 ⊢
            clear he
            go_wp2
            go_roundw
            case rel => exact ⟨k + 1, g1, cc1, vs1, by omega, by go_num, rfl, hlc1, hss1, hb1⟩
            case measure => simp [intOf]; omega
      · obtain rfl : N = k + 1 := by omega
        have HR := Lib.hid (show GivesSs w (fixT (k + 1 - 1)) (.returned (.slice (some ⟨g, 0, none⟩) (fixT k).length cc)) wr from ⟨g, cc, vs, rfl, hlc, hss.out, hb⟩)
        clear hss hlc
        go_wp2
        go_ret
        exact HR.out
end

section
open Go.RowKit

set_option maxHeartbeats 1000000 in
set_option maxRecDepth 100000 in
theorem sLeast (B n cap m : Nat) (a : Option Addr) (l : List Cl) (w : World) (hm : m ≤ 8) (hn : n ≤ 8) (hc : CellsAt B w a n l) (hp : ∀ c ∈ l, inP c = true) (hB : B ≤ w.heap.size) :
    Calls Try.prog 87 #[.slice a n cap, .int .i64 m] w fun e w' => e = .returned (.bool (leastS m l)) ∧ Below w.heap.size w w' := by
  have H := Lib.hid hc
  have HP := Lib.hid hp
  have hln := hc.1
  clear hc hp
  go_enter Try.func87, Try.ntmps87
  go_wp2
  go_loopw [5] (fun i wr => ∃ k : Nat, k ≤ m ∧ i = .int .i64 k ∧ Hid (leastS k l = true) ∧ Below w.heap.size w wr) (fun i _ => m - (intOf i).toNat)
  case atStart => exact ⟨0, by omega, rfl, rfl, Below.refl _ _⟩
  case round =>
    obtain ⟨k, hk, rfl, hle, hb⟩ := hrel
    have hsz := hb.size
    by_cases hlt : k < m
    · have hk1 : (k : Int) < (m : Int) := by omega
      go_wp2_with fail
      refine (sTurn B n cap k a l wr (by omega) (by omega) (H.out.on (hb.mono hB)) HP.out (Nat.le_trans hB hsz)).mono ?_
      rintro e w2 ⟨g2, c2, rfl, hown2, hb2⟩
      have htl := turnC_len k l
      have HA2 := Lib.hid (CellsAt.of_own hown2 (turnC_inC HP.out k))
      have HB2 := Lib.hid (hb.trans (hb2.mono hsz))
      have hsz2 := HB2.out.size
      clear hown2 hb2
      go_wp2_with fail
      refine (sCompare w2.heap.size (turnC k l).length n c2 cap _ a (turnC k l) l w2 (by omega) (by omega) HA2.out ((H.out.on (HB2.out.mono hB)).more (Nat.le_trans hB hsz2)) (Nat.le_refl _)).mono ?_
      rintro e w3 ⟨rfl, hb3⟩
      have HB3 := Lib.hid (HB2.out.trans (hb3.mono hsz2))
      clear hb3
      by_cases hcmp : cmpS (turnC k l) l < 0
      · have hr : leastS m l = false := leastS_false hcmp hlt
        have HR := Lib.hid hr
        clear hr
        go_wp2
        go_ret
        exact ⟨by rw [HR.out]; rfl, HB3.out⟩
      · have hr : leastS (k + 1) l = true := by rw [leastS_succ, hle.out]; simp; omega
        have HR := Lib.hid hr
        clear hr
        go_wp2
        go_roundw
        case rel => exact ⟨k + 1, by omega, by go_num, HR.out, HB3.out⟩
        case measure => simp [intOf]; omega
    · obtain rfl : k = m := by omega
      go_wp2
      go_ret
      exact ⟨by rw [hle.out]; rfl, hb⟩

/-- A slice of shapes that grows by appends: what it holds lies below hi; its own block is the first, empty one, or lies above. -/
def FOwn (hi b0 : Nat) (w : World) (g cc : Nat) (vs : List Value) (F : List (List Cl)) : Prop :=
  ((F = [] ∧ vs = [] ∧ cc = 0 ∧ g = b0 ∧ b0 < w.heap.size) ∨ w.ownsRow hi 24 1 (.slice (some ⟨g, 0, none⟩) F.length cc) F.length vs) ∧ hi ≤ w.heap.size ∧
  ∀ (k : Nat) (v : Value) (l : List Cl), vs[k]? = some v → F[k]? = some l → SlAt hi w v l
theorem FOwn.nil {hi b0 : Nat} {w : World} (h : b0 < w.heap.size) (hh : hi ≤ w.heap.size) : FOwn hi b0 w b0 0 [] [] := ⟨.inl ⟨rfl, rfl, rfl, rfl, h⟩, hh, fun k v l h1 _ => by simp at h1⟩
theorem FOwn.on {hi b0 g cc : Nat} {w w' : World} {vs : List Value} {F : List (List Cl)} (h : FOwn hi b0 w g cc vs F) (hb : Below w.heap.size w w') : FOwn hi b0 w' g cc vs F := by
  have hs := hb.size
  refine ⟨?_, Nat.le_trans h.2.1 hs, fun k v l hv hl => (h.2.2 k v l hv hl).on (hb.mono h.2.1)⟩
  rcases h.1 with ⟨h1, h2, h3, h4, h5⟩ | h1
  · exact .inl ⟨h1, h2, h3, h4, by omega⟩
  · exact .inr (h1.kept (grow_below hb none) (by
      cases e : (Value.slice (some ⟨g, 0, none⟩) F.length cc).ownBlock with
      | none => exact .inl rfl
      | some k => exact .inr (by simp)))
theorem FOwn.cap {hi b0 g cc : Nat} {w : World} {vs : List Value} {F : List (List Cl)} (h : FOwn hi b0 w g cc vs F) : F.length ≤ cc := by
  rcases h.1 with ⟨h1, _, h3, _⟩ | h1
  · rw [h1, h3]; simp
  · exact own_cap_s h1
theorem FOwn.at {hi b0 g cc : Nat} {w : World} {vs : List Value} {F : List (List Cl)} (h : FOwn hi b0 w g cc vs F) (h1 : hi ≤ w.heap.size) (_h2 : b0 < w.heap.size) : SsAt w.heap.size w g vs F := by
  refine ⟨?_, ?_, ?_, fun k v l hv hl => (h.2.2 k v l hv hl).more h1⟩
  · rcases h.1 with ⟨_, _, _, rfl, h5⟩ | h9
    · exact h5
    · exact (h9.lt g rfl).2
  · rcases h.1 with ⟨rfl, rfl, _⟩ | h9
    · rfl
    · have := h9.1; omega
  · rcases h.1 with ⟨rfl, rfl, _⟩ | h9
    · intro k hk; simp at hk
    · exact fun k hk => h9.cellAt k (by omega)
theorem append_fown (hi b0 g cc : Nat) (vs : List Value) (F : List (List Cl)) (ad c : Nat) (x : List Cl) (v : Value) (w : World) (hf : FOwn hi b0 w g cc vs F) (hv : SlAt hi w v x) (hnews : LiesV w ⟨ad, 0, none⟩ [v]) (h63 : F.length ≤ 1000000) (ty : TypeId) :
    ∃ g' cap' vs' w', (Builtin.append_ #[35, 35] ty #[.slice (some ⟨g, 0, none⟩) F.length cc, .slice (some ⟨ad, 0, none⟩) 1 c]).run Try.prog w = .ok (.slice (some ⟨g', 0, none⟩) (F.length + 1) cap') w' ∧
      FOwn hi b0 w' g' cap' vs' (F ++ [x]) ∧ Below hi w w' := by
  obtain ⟨i, h1, h2, h3, h4⟩ := shps_size
  have hone : v.oneCell' = true := by obtain ⟨_, _, rfl, _⟩ := hv; rfl
  have hvl : vs.length = F.length := by
    rcases hf.1 with ⟨rfl, rfl, _⟩ | h9
    · rfl
    · have := h9.1; omega
  have key : ∀ g' cap' w', w'.ownsRow hi 24 1 (.slice (some ⟨g', 0, none⟩) (F.length + 1) cap') (F.length + 1) (vs ++ [v]) → Below hi w w' → hi ≤ w'.heap.size → FOwn hi b0 w' g' cap' (vs ++ [v]) (F ++ [x]) := fun g' cap' w' ho hb hs =>
    ⟨.inr (by rw [List.length_append]; exact ho), hs, fun k u l hu hl => by
      by_cases hk : k < F.length
      · rw [List.getElem?_append_left (by omega)] at hu hl
        exact (hf.2.2 k u l hu hl).on hb
      · have hk2 : k = F.length := by
          have := (List.getElem?_eq_some_iff.1 hl).1
          simp at this
          omega
        subst hk2
        rw [List.getElem?_append_right (by omega), hvl, Nat.sub_self] at hu
        rw [List.getElem?_append_right (by omega), Nat.sub_self] at hl
        simp at hu hl
        subst hu hl
        exact hv.on hb⟩
  rcases hf.1 with ⟨rfl, rfl, rfl, rfl, h5⟩ | hown
  · obtain ⟨v', w', hrun, hown, hg⟩ := run_append_arg_grows (P := Try.prog) (w := w) 35 ty 24 i _ 1 24 Try.underlying35 h1 h2 h3 h4 rfl (by omega)
      ⟨g, 0, none⟩ 0 0 [] rfl (fun j u hj => by simp at hj) ⟨ad, 0, none⟩ 1 c [v] rfl hnews (by omega) (by unfold maxLen; omega) (by omega)
    obtain ⟨g', cap', rfl, hb, hgl⟩ := hown.form (by omega)
    have hbl : Below hi w w' := (Below.refl _ w).grown hg hf.2.1 (fun k e => by cases e)
    exact ⟨g', cap', _, w', hrun, key g' cap' w' (own_below hown hf.2.1) hbl (Nat.le_trans hf.2.1 hbl.size), hbl⟩
  · obtain ⟨g', cap', w', hr, hown', hg, hat, hb, hlt⟩ := append_shps hi g F.length cc vs ⟨ad, 0, none⟩ 1 c [v] w hown rfl hnews (by simpa using hone) (by omega) hf.2.1 ty w.heap.size rfl
    have hbl : Below hi w w' := (Below.refl _ w).grown hg hf.2.1 (fun k e => by cases e; exact (hown.lt g rfl).1)
    exact ⟨g', cap', _, w', hr, key g' cap' w' hown' hbl (Nat.le_trans hf.2.1 hbl.size), hbl⟩
theorem wpList_fown {ops : Array Oper} {rest : List Oper} {o : Oper} {a : Act} {w : World} {Q : Exit → Act → World → Prop} (hgd : o.guard = none) (s x : Operand)
    (ho : o.op = .call { callee := .builtin .append, args := #[s, x], argTypes := #[35, 35] })
    (hi b0 g cc : Nat) (vs : List Value) (F : List (List Cl)) (ad c : Nat) (l : List Cl) (v : Value) (hs : a.eval s = .slice (some ⟨g, 0, none⟩) F.length cc) (hx : a.eval x = .slice (some ⟨ad, 0, none⟩) 1 c)
    (hf : FOwn hi b0 w g cc vs F) (hv : SlAt hi w v l) (hnews : LiesV w ⟨ad, 0, none⟩ [v]) (h63 : F.length ≤ 1000000) (_hh : hi ≤ w.heap.size)
    (h : ∀ g' cap' vs' w', FOwn hi b0 w' g' cap' vs' (F ++ [l]) → Below hi w w' → wpList Try.prog ops Q rest (a.put o.dst (.slice (some ⟨g', 0, none⟩) (F.length + 1) cap')) w') : wpList Try.prog ops Q (o :: rest) a w := by
  refine wpList_plain hgd fun K hK => ?_
  obtain ⟨g', cap', vs', w', hr, h2, h3⟩ := append_fown hi b0 g cc vs F ad c l v w hf hv hnews h63 o.type
  unfold Oper.wp execOp
  simp only [ho, resolve, invoke, builtin, Sem.run_bind, Sem.run_pure, Result.andThen_ok, List.map_toArray, List.map_cons, List.map_nil, hs, hx, hr]
  exact hK _ _ (h g' cap' vs' w' h2 h3)

set_option maxHeartbeats 4000000 in
set_option maxRecDepth 100000 in
theorem sOneSided (z : Int) (w : World) : Calls Try.prog 45 #[.int .i64 z] w (GivesSs w (firstS 4 z)) := by
  have hfb := fixS_bd z
  have HFS := Lib.hid (fun x hx => fixS_shape (n := z) (x := x) hx)
  have HO : Hid (firstS 4 z = (fixS z).filter (leastS 4)) := rfl
  rw [HO.out]
  go_enter Try.func45, Try.ntmps45
  go_wp2_with fail
  refine (sFixed z _).mono ?_
  rintro e w2 ⟨g, cc, vs, rfl, hcc, hss, hb⟩
  have hz := hb.size
  simp only [World.size_alloc] at hz
  have hb0 : Below w.heap.size w (w.alloc (.cells #[] 24)) := (Below.refl _ _).alloc (Nat.le_refl _) _
  have HB2 := Lib.hid (hb0.trans (hb.mono (by simp)))
  have HSS := Lib.hid hss
  obtain ⟨L, hL⟩ : ∃ L, fixS z = L := ⟨_, rfl⟩
  have HL := Lib.hid hL
  rw [hL] at HSS hfb HFS hcc ⊢
  clear hss hb hb0 HO hL
  go_wp2_with fail
  go_loopw [3, 5] (fun v i wr => ∃ (k g1 cc1 : Nat) (vs1 : List Value), k ≤ L.length ∧ i = .int .i64 k ∧ v = .slice (some ⟨g1, 0, none⟩) ((L.take k).filter (leastS 4)).length cc1 ∧ Hid (FOwn w2.heap.size w.heap.size wr g1 cc1 vs1 ((L.take k).filter (leastS 4))) ∧ Below w2.heap.size w2 wr) (fun _ i _ => L.length - (intOf i).toNat)
  case atStart => exact ⟨0, w.heap.size, 0, [], by omega, rfl, by simp, FOwn.nil (by omega) (Nat.le_refl _), Below.refl _ _⟩
  case round =>
    obtain ⟨k, g1, cc1, vs1, hk, rfl, rfl, hf, hb1⟩ := hrel
    have hsz1 := hb1.size
    by_cases hlt : k < L.length
    · have hk1 : (k : Int) < (L.length : Int) := by omega
      have hk0 : (0 : Int) ≤ (k : Int) := by omega
      obtain ⟨a3, c3, hcell, hc3, hn3⟩ := (HSS.out.on hb1).get (k := k) hlt
      have HFN := Lib.hid (filter_snoc (leastS 4) [] L k hlt)
      obtain ⟨x, hx⟩ : ∃ x, L.getD k [] = x := ⟨_, rfl⟩
      rw [hx] at hcell hc3 hn3 HFN
      have hxs := HFS.out x (by rw [← hx]; simp [List.getD, hlt])
      have hx8 := ((isShape_iff x).1 hxs.1).1.2
      have HXP := Lib.hid (isShape_in hxs.1)
      have HC3 := Lib.hid hc3
      have HF := Lib.hid hf.out
      clear hx hc3 hf hxs
      go_wp2_with fail
      refine (sLeast w2.heap.size x.length c3 4 a3 x wr (by omega) hx8 HC3.out HXP.out hsz1).mono ?_
      rintro e w3 ⟨rfl, hb3⟩
      have hsz3 := hb3.size
      have HB3 := Lib.hid (hb1.trans (hb3.mono hsz1))
      have HF3 := Lib.hid (HF.out.on hb3)
      have hcell3 := (hb3.cell (p := ⟨g, k, none⟩) (by have := HSS.out.1; show g < _; omega)).trans hcell
      have HV := Lib.hid (show SlAt w2.heap.size w3 (.slice a3 x.length c3) x from ⟨a3, c3, rfl, HC3.out.on (hb3.mono hsz1), hn3⟩)
      clear hb3 HF hcell HC3 hb1
      cases hlx : leastS 4 x with
      | false =>
        have he : (L.take (k + 1)).filter (leastS 4) = (L.take k).filter (leastS 4) := by rw [HFN.out, hlx]; simp
        have HE := Lib.hid he
        clear he
        go_wp2
        go_roundw
        case rel => exact ⟨k + 1, g1, cc1, vs1, by omega, by go_num, by rw [HE.out], by rw [HE.out]; exact HF3.out, HB3.out⟩
        case measure => simp [intOf]; omega
      | true =>
        have he : (L.take (k + 1)).filter (leastS 4) = (L.take k).filter (leastS 4) ++ [x] := by rw [HFN.out, hlx]; simp
        have HE := Lib.hid he
        have hfl := filter_le (leastS 4) (L.take k)
        have htl : (L.take k).length ≤ L.length := by rw [List.length_take]; omega
        have HV4 := Lib.hid (HV.out.on ((Below.refl _ w3).alloc (by omega) (.cells #[.slice a3 x.length c3] 24)))
        have HF4 := Lib.hid (HF3.out.on ((Below.refl _ w3).alloc (Nat.le_refl _) (.cells #[.slice a3 x.length c3] 24)))
        clear he
        obtain ⟨Fl, hFl⟩ : ∃ Fl, (L.take k).filter (leastS 4) = Fl := ⟨_, rfl⟩
        rw [hFl] at HE HF4 HF3 hfl ⊢
        clear hFl
        go_wp2_with (first | (at_builtin; refine wpList_fown rfl _ _ rfl w2.heap.size w.heap.size g1 cc1 vs1 Fl w3.heap.size 1 x (.slice a3 x.length c3) rfl rfl HF4.out HV4.out (liesV_block (t := 24) (fr := (0, 0)) (heap_alloc_new _ _)) (by omega) ?c5 ?_) | go_in)
        case c5 => simp; omega
        intro g5 c5 vs5 w5 hf5 hb5
        have HF5 := Lib.hid hf5
        have HB5 := Lib.hid ((HB3.out.alloc (by omega) (.cells #[.slice a3 x.length c3] 24)).trans hb5)
        clear hf5 hb5
        go_wp2
        go_roundw
        case rel => exact ⟨k + 1, g5, c5, vs5, by omega, by go_num, by rw [HE.out, List.length_append]; rfl, by rw [HE.out]; exact HF5.out, HB5.out⟩
        case measure => simp [intOf]; omega
    · obtain rfl : k = L.length := by omega
      rw [List.take_length] at hf ⊢
      have hbW := HB2.out.trans (hb1.mono HB2.out.size)
      have HR := Lib.hid (show GivesSs w ((fixS z).filter (leastS 4)) (.returned (.slice (some ⟨g1, 0, none⟩) (L.filter (leastS 4)).length cc1)) wr from by
        rw [HL.out]
        exact ⟨g1, cc1, vs1, rfl, hf.out.cap, hf.out.at hsz1 (by have := HB2.out.size; omega), hbW⟩)
      clear hf hbW
      go_wp2
      go_ret
      exact HR.out

set_option maxHeartbeats 4000000 in
set_option maxRecDepth 100000 in
theorem sFree (z : Int) (w : World) : Calls Try.prog 47 #[.int .i64 z] w (GivesSs w (firstS 8 z)) := by
  have hfb := fixS_bd z
  have HFS := Lib.hid (fun x hx => fixS_shape (n := z) (x := x) hx)
  have HO : Hid (firstS 8 z = (fixS z).filter (leastS 8)) := rfl
  rw [HO.out]
  go_enter Try.func47, Try.ntmps47
  go_wp2_with fail
  refine (sFixed z _).mono ?_
  rintro e w2 ⟨g, cc, vs, rfl, hcc, hss, hb⟩
  have hz := hb.size
  simp only [World.size_alloc] at hz
  have hb0 : Below w.heap.size w (w.alloc (.cells #[] 24)) := (Below.refl _ _).alloc (Nat.le_refl _) _
  have HB2 := Lib.hid (hb0.trans (hb.mono (by simp)))
  have HSS := Lib.hid hss
  obtain ⟨L, hL⟩ : ∃ L, fixS z = L := ⟨_, rfl⟩
  have HL := Lib.hid hL
  rw [hL] at HSS hfb HFS hcc ⊢
  clear hss hb hb0 HO hL
  go_wp2_with fail
  go_loopw [3, 5] (fun v i wr => ∃ (k g1 cc1 : Nat) (vs1 : List Value), k ≤ L.length ∧ i = .int .i64 k ∧ v = .slice (some ⟨g1, 0, none⟩) ((L.take k).filter (leastS 8)).length cc1 ∧ Hid (FOwn w2.heap.size w.heap.size wr g1 cc1 vs1 ((L.take k).filter (leastS 8))) ∧ Below w2.heap.size w2 wr) (fun _ i _ => L.length - (intOf i).toNat)
  case atStart => exact ⟨0, w.heap.size, 0, [], by omega, rfl, by simp, FOwn.nil (by omega) (Nat.le_refl _), Below.refl _ _⟩
  case round =>
    obtain ⟨k, g1, cc1, vs1, hk, rfl, rfl, hf, hb1⟩ := hrel
    have hsz1 := hb1.size
    by_cases hlt : k < L.length
    · have hk1 : (k : Int) < (L.length : Int) := by omega
      have hk0 : (0 : Int) ≤ (k : Int) := by omega
      obtain ⟨a3, c3, hcell, hc3, hn3⟩ := (HSS.out.on hb1).get (k := k) hlt
      have HFN := Lib.hid (filter_snoc (leastS 8) [] L k hlt)
      obtain ⟨x, hx⟩ : ∃ x, L.getD k [] = x := ⟨_, rfl⟩
      rw [hx] at hcell hc3 hn3 HFN
      have hxs := HFS.out x (by rw [← hx]; simp [List.getD, hlt])
      have hx8 := ((isShape_iff x).1 hxs.1).1.2
      have HXP := Lib.hid (isShape_in hxs.1)
      have HC3 := Lib.hid hc3
      have HF := Lib.hid hf.out
      clear hx hc3 hf hxs
      go_wp2_with fail
      refine (sLeast w2.heap.size x.length c3 8 a3 x wr (by omega) hx8 HC3.out HXP.out hsz1).mono ?_
      rintro e w3 ⟨rfl, hb3⟩
      have hsz3 := hb3.size
      have HB3 := Lib.hid (hb1.trans (hb3.mono hsz1))
      have HF3 := Lib.hid (HF.out.on hb3)
      have hcell3 := (hb3.cell (p := ⟨g, k, none⟩) (by have := HSS.out.1; show g < _; omega)).trans hcell
      have HV := Lib.hid (show SlAt w2.heap.size w3 (.slice a3 x.length c3) x from ⟨a3, c3, rfl, HC3.out.on (hb3.mono hsz1), hn3⟩)
      clear hb3 HF hcell HC3 hb1
      cases hlx : leastS 8 x with
      | false =>
        have he : (L.take (k + 1)).filter (leastS 8) = (L.take k).filter (leastS 8) := by rw [HFN.out, hlx]; simp
        have HE := Lib.hid he
        clear he
        go_wp2
        go_roundw
        case rel => exact ⟨k + 1, g1, cc1, vs1, by omega, by go_num, by rw [HE.out], by rw [HE.out]; exact HF3.out, HB3.out⟩
        case measure => simp [intOf]; omega
      | true =>
        have he : (L.take (k + 1)).filter (leastS 8) = (L.take k).filter (leastS 8) ++ [x] := by rw [HFN.out, hlx]; simp
        have HE := Lib.hid he
        have hfl := filter_le (leastS 8) (L.take k)
        have htl : (L.take k).length ≤ L.length := by rw [List.length_take]; omega
        have HV4 := Lib.hid (HV.out.on ((Below.refl _ w3).alloc (by omega) (.cells #[.slice a3 x.length c3] 24)))
        have HF4 := Lib.hid (HF3.out.on ((Below.refl _ w3).alloc (Nat.le_refl _) (.cells #[.slice a3 x.length c3] 24)))
        clear he
        obtain ⟨Fl, hFl⟩ : ∃ Fl, (L.take k).filter (leastS 8) = Fl := ⟨_, rfl⟩
        rw [hFl] at HE HF4 HF3 hfl ⊢
        clear hFl
        go_wp2_with (first | (at_builtin; refine wpList_fown rfl _ _ rfl w2.heap.size w.heap.size g1 cc1 vs1 Fl w3.heap.size 1 x (.slice a3 x.length c3) rfl rfl HF4.out HV4.out (liesV_block (t := 24) (fr := (0, 0)) (heap_alloc_new _ _)) (by omega) ?c5 ?_) | go_in)
        case c5 => simp; omega
        intro g5 c5 vs5 w5 hf5 hb5
        have HF5 := Lib.hid hf5
        have HB5 := Lib.hid ((HB3.out.alloc (by omega) (.cells #[.slice a3 x.length c3] 24)).trans hb5)
        clear hf5 hb5
        go_wp2
        go_roundw
        case rel => exact ⟨k + 1, g5, c5, vs5, by omega, by go_num, by rw [HE.out, List.length_append]; rfl, by rw [HE.out]; exact HF5.out, HB5.out⟩
        case measure => simp [intOf]; omega
    · obtain rfl : k = L.length := by omega
      rw [List.take_length] at hf ⊢
      have hbW := HB2.out.trans (hb1.mono HB2.out.size)
      have HR := Lib.hid (show GivesSs w ((fixS z).filter (leastS 8)) (.returned (.slice (some ⟨g1, 0, none⟩) (L.filter (leastS 8)).length cc1)) wr from by
        rw [HL.out]
        exact ⟨g1, cc1, vs1, rfl, hf.out.cap, hf.out.at hsz1 (by have := HB2.out.size; omega), hbW⟩)
      clear hf hbW
      go_wp2
      go_ret
      exact HR.out

set_option maxHeartbeats 1000000 in
set_option maxRecDepth 100000 in
theorem sCountFree (z : Int) (w : World) : Calls Try.prog 49 #[.int .i64 z] w fun e w' => e = .returned (.int .i64 (countS z)) ∧ Below w.heap.size w w' := by
  cases hin : inb z 1 5 with
  | false =>
    have HC : Hid (countS z = -1) := if_neg (by rw [hin]; simp)
    have HIN := Lib.hid hin
    clear hin
    rw [HC.out]
    go_enter Try.func49, Try.ntmps49
    go_wp2_with fail
    refine (sIn _ _ _ _).mono ?_
    rintro e w' ⟨rfl, rfl⟩
    rw [HIN.out]
    go_wp2
    go_ret
    exact ⟨rfl, Below.refl _ _⟩
  | true =>
    have HC : Hid (countS z = ((firstS 8 z).length : Int)) := if_pos hin
    have HIN := Lib.hid hin
    clear hin
    rw [HC.out]
    go_enter Try.func49, Try.ntmps49
    go_wp2_with fail
    refine (sIn _ _ _ _).mono ?_
    rintro e w' ⟨rfl, rfl⟩
    rw [HIN.out]
    go_wp2_with fail
    refine (sFree z _).mono ?_
    rintro e w2 ⟨g, cc, vs, rfl, hcc, hss, hb⟩
    have HB := Lib.hid hb
    clear hss hb
    go_wp2
    go_ret
    exact ⟨rfl, HB.out⟩
end

section
open Go.RowKit

theorem GivesSs.nil0 {w w1 : World} {g : Nat} (h : w.heap.size = g) (hl : g < w1.heap.size) (hb : Below w.heap.size w w1) : GivesSs w [] (.returned (.slice (some ⟨g, 0, none⟩) ([] : List (List Cl)).length 0)) w1 := by
  subst h
  exact ⟨w.heap.size, 0, [], rfl, Nat.le_refl _, ⟨hl, rfl, fun k hk => by simp at hk, fun k v l h1 _ => by simp at h1⟩, hb⟩
theorem isPar_eq {l : List Cl} {L : List (List Cl)} (hs : isShape l = true) (h : ParTo l l.length L) {M : List (List Cl)} (hM : IsPar l M) : L = M := isPar_unique (parTo_all hs h) hM
theorem delC_in {l : List Cl} (h : ∀ c ∈ l, inP c = true) (i : Nat) : ∀ c ∈ delC l i, inP c = true := fun c hc => by
  unfold delC at hc
  rcases List.mem_append.1 hc with h1 | h1
  · exact h c (List.mem_of_mem_take h1)
  · exact h c (List.mem_of_mem_drop h1)
end

end Go.Proofs.Ythnapikklolgcaa
