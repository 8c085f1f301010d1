/-
  The shapes with one cell more put into a set, in the program: what the call gives.
  The shapes of a set in order, in the program: what the call gives.
  One cell taken out of a slice of cells of the call's own, in the library's slices.Delete: what the call gives.
  ExtensionsOf and ParentsOf, in the program: what the calls give.
  FixedShapes, in the program: what the call gives.
  The first among the results of motions: OneSidedShapes, FreeShapes, CountFree, in the program: what the calls give.
-/
import Derived.Test.YthnapikklolgcaaJsi
import Derived.Test.YthnapikklolgcaaJpr
import Derived.Test.YthnapikklolgcaaIan
import Derived.Test.YthnapikklolgcaaLw3
import Derived.Test.YthnapikklolgcaaJos
import Derived.Test.YthnapikklolgcaaApv
import Derived.Test.YthnapikklolgcaaIcp
import Derived.Test.YthnapikklolgcaaPen
import Derived.Deep.RegionLaw
import Derived.Deep.RegionHeld3
import Derived.ArgAppend
import Derived.Test.YthnapikklolgcaaSen
import Derived.Test.YthnapikklolgcaaIcn
import Derived.Carry
import Derived.Test.YthnapikklolgcaaJtv
namespace Go.Proofs.Ythnapikklolgcaa

section
open Go.RowKit Go.Maps

theorem iClone (B n cap b off : Nat) (l : List Cl) (w : World) (hn : n ≤ 1048576) (hn0 : 0 < n) (hB : B ≤ w.heap.size) (hc : CellsAt B w (some ⟨b, off, none⟩) n l) :
    Calls Try.prog 98 #[.slice (some ⟨b, off, none⟩) n cap] w fun e w' => ∃ g cc, e = .returned (.slice (some ⟨g, 0, none⟩) n cc) ∧ w'.ownsRow w.heap.size 53 2 (.slice (some ⟨g, 0, none⟩) n cc) n (cvs l) ∧ Below w.heap.size w w' := by
  obtain ⟨i0, hi, hz0, hz1, hz2⟩ := info_parts info_cell
  obtain ⟨hl, _, hcc⟩ := hc
  obtain ⟨b', off', e, _, hcell⟩ := hcc hn0
  injection e with e
  injection e with e1 e2 _
  subst e1 e2
  have hclone := AnyE.slices_Clone Try.cloneCells i0 (.agg #[.int .i64 0, .int .i64 0]) 2 16 hi hz0 hz1 hz2 rfl (by omega) sizeOf_cell b off n cap (cvs l) w (by rw [cvs_length, hl]) (by unfold maxLen; omega) (by omega)
    (fun j u hj => by
      have hjl : j < n * 2 := by
        have := (List.getElem?_eq_some_iff.1 hj).1
        rw [cvs_length, hl] at this
        exact this
      have hcc := hcell (j / 2) (by omega)
      have hg := cvs_get l (j / 2) (by omega)
      rcases Nat.mod_two_eq_zero_or_one j with h2 | h2
      · have e4 : j / 2 * 2 = j := by omega
        rw [e4] at hg hcc
        rw [hcc.1, ← hg.1, hj]
      · have e4 : j / 2 * 2 + 1 = j := by omega
        have e5 : off + j / 2 * 2 + 1 = off + j := by omega
        rw [e4] at hg
        rw [e5] at hcc
        rw [hcc.2, ← hg.2, hj])
    (cvs_oneCell _)
  change Calls Try.prog 98 _ _ _ at hclone
  refine hclone.mono ?_
  rintro e w1 ⟨v, rfl, hown, hnn, hb1⟩
  obtain ⟨g, cc, rfl⟩ : ∃ g cc, v = .slice (some ⟨g, 0, none⟩) n cc := by
    rcases hown.2 with ⟨rfl, _⟩ | ⟨g, cc, cur, rfl, _⟩
    · exact absurd rfl hnn
    · exact ⟨g, cc, rfl⟩
  exact ⟨g, cc, rfl, hown, hb1⟩

theorem moreC_bd {l : List Cl} {p q : Int} (h : ∀ c ∈ l, inP c = true) (hp : -1 ≤ p ∧ p ≤ 8) (hq : -1 ≤ q ∧ q ≤ 8) : (∀ c ∈ l ++ [(p, q)], InC c) ∧ (∀ c ∈ l ++ [(p, q)], inW c) ∧ (∀ c ∈ sortU (cornerC (l ++ [(p, q)])), InC c) ∧ (sortU (cornerC (l ++ [(p, q)]))).length ≤ l.length + 1 := by
  have h2 : ∀ c ∈ l ++ [(p, q)], inW c := fun c hc => by
    rcases List.mem_append.1 hc with h9 | h9
    · exact inW_of_inP (h c h9)
    · obtain rfl := List.mem_singleton.1 h9
      unfold inW
      dsimp only
      omega
  refine ⟨fun c hc => ?_, h2, fun c hc => corn_inC h2 c ((sortU_mem _ c).1 hc), ?_⟩
  · have := h2 c hc
    unfold inW at this
    unfold InC
    omega
  · have := sortU_len (cornerC (l ++ [(p, q)]))
    simp [cornerC] at this ⊢
    omega
set_option maxHeartbeats 4000000 in
set_option maxRecDepth 100000 in
theorem iExtend (B b m n cap : Nat) (a : Option Addr) (S : List (List Cl)) (l : List Cl) (w : World) (hS : SetM w b m S) (hm : m ≤ 4194304) (hl : isShape l = true) (hc : CellsAt B w a n l) (hoff : ∀ q, a = some q → q.block ≠ b) (hB : B ≤ w.heap.size) :
    Calls Try.prog 84 #[.map (some b), .slice a n cap] w fun e w' => e = .returned (.tuple #[]) ∧ (∃ m', m' ≤ m + 32 ∧ SetM w' b m' (S ++ extTo l n)) ∧ But w.heap.size b w w' := by
  have H := Lib.hid hc
  have hln := hc.1
  have hlen := ((isShape_iff l).1 hl).1
  rw [hln] at hlen
  have HP := Lib.hid (isShape_in hl)
  have HSH := Lib.hid hl
  have HOFF := Lib.hid hoff
  have HS0 := Lib.hid hS
  have hblt := hS.lt
  have HLN := Lib.hid hln
  have hal := arTo_le l n
  have HM4 := Lib.hid (show ∀ q ∈ arTo l n, (-1 ≤ q.1 ∧ q.1 ≤ 8) ∧ -1 ≤ q.2 ∧ q.2 ≤ 8 from fun q hq => by
    obtain ⟨c, hcl, d, hd, rfl, _⟩ := mem_arTo l q n (by omega) hq
    have hx := inP_out (isShape_in hl c hcl)
    obtain ⟨x, y⟩ := c
    exact nbC_bd d hd (by dsimp only at hx; omega) rfl)
  have HOV := Lib.hid (extTo_ov l n)
  obtain ⟨b0, o0, rfl, hb0, hcell⟩ := hc.2.2 (by omega)
  clear hc hl hoff hS hln hcell
  go_enter Try.func84, Try.ntmps84
  go_wp2_with fail
  refine (iAround B n cap _ l w HSH.out H.out hB).mono ?_
  rintro e w1 ⟨v1, rfl, hown, hb1⟩
  obtain ⟨a1, c1, rfl⟩ := own_slice hown
  obtain ⟨ps, hps⟩ : ∃ ps, arTo l n = ps := ⟨_, rfl⟩
  rw [hps] at hown hal HM4 HOV ⊢
  have HPS := Lib.hid (CellsAt.of_own hown (fun c hc => by have := HM4.out c hc; unfold InC; omega))
  have HPO := Lib.hid (show ∀ q, a1 = some q → q.block ≠ b from fun q e => by
    subst e
    have := (hown.lt q.block rfl).1
    omega)
  have HB0 := Lib.hid hb1
  have HS1 := Lib.hid (HS0.out.on hb1)
  have HC1 := Lib.hid ((H.out.on (hb1.mono hB)).more (Nat.le_trans hB hb1.size))
  have hsz1 := hb1.size
  have hps2 : ps.length ≤ 32 := by omega
  clear hown hb1 H HS0 hps hal
  obtain ⟨M, hM⟩ : ∃ M, ps.length = M := ⟨_, rfl⟩
  rw [hM] at hps2 HPS ⊢
  have HML := Lib.hid hM
  clear hM
  go_wp2
  go_loopw [10] (fun i wr => ∃ k q : Nat, k ≤ M ∧ i = .int .i64 k ∧ q ≤ m + k ∧ Hid (SetM wr b q (S ++ extOv (ps.take k) l)) ∧ But w1.heap.size b w1 wr) (fun i _ => M - (intOf i).toNat)
  case atStart => exact ⟨0, m, by omega, rfl, by omega, HS1.out.same (by simp [extOv]), But.refl _ _ _⟩
  case round =>
    obtain ⟨k, q1, hk, rfl, hq1, hset1, hb1⟩ := hrel
    have hsz := hb1.size
    clear HS1
    by_cases hlt : k < M
    · have hk1 : (k : Int) < (M : Int) := by omega
      have hk0 : (0 : Int) ≤ (k : Int) := by omega
      obtain ⟨p, r, hpr⟩ : ∃ p r, ps.getD k (0, 0) = (p, r) := ⟨_, _, rfl⟩
      have HCW := Lib.hid (HPS.out.but hb1 HPO.out)
      obtain ⟨b9, o9, rfl, hb9, hc9⟩ := HCW.out.2.2 (by omega)
      have p1 := (hc9 k hlt).1
      have p2 := (hc9 k hlt).2
      rw [hpr] at p1 p2
      dsimp only at p1 p2
      have hpb := HM4.out _ (getD_mem (l := ps) (j := k) (by have := HML.out; omega))
      rw [hpr] at hpb
      dsimp only at hpb
      have HKL := Lib.hid (show k < ps.length from by have := HML.out; omega)
      have HNB := Lib.hid hpr
      have q1' : (wr.alloc (.cells #[.int .i64 p, .int .i64 r] 53)).cell? ⟨wr.heap.size, 0, none⟩ = some (.int .i64 p) := row_new _ _ _ 0
      have q2' : (wr.alloc (.cells #[.int .i64 p, .int .i64 r] 53)).cell? ⟨wr.heap.size, 1, none⟩ = some (.int .i64 r) := row_new _ _ _ 1
      have hxb : wr.heap.size < (wr.alloc (.cells #[.int .i64 p, .int .i64 r] 53)).heap.size := by simp
      have HB3 := Lib.hid (hb1.alloc hsz (.cells #[.int .i64 p, .int .i64 r] 53))
      have HS3 := Lib.hid (hset1.out.on ((Below.refl _ _).alloc (Nat.le_refl _) (.cells #[.int .i64 p, .int .i64 r] 53)))
      have HC2 := Lib.hid (((HC1.out.but hb1 HOFF.out).more (show w1.heap.size ≤ wr.heap.size by omega)).on ((Below.refl _ _).alloc (Nat.le_refl _) (.cells #[.int .i64 p, .int .i64 r] 53)))
      have HC3 := Lib.hid (HC2.out.more (Nat.le_of_lt hxb))
      clear HC2
      have hmb := moreC_bd HP.out hpb.1 hpb.2
      have HINC := Lib.hid hmb.1
      have HINW := Lib.hid hmb.2.1
      have HNC := Lib.hid hmb.2.2.1
      have HNL := Lib.hid hmb.2.2.2
      have HMC := Lib.hid (moreC_prog l (p, r))
      have HL9 := Lib.hid (show (l ++ [(p, r)]).length = n + 1 from by have := HLN.out; simp; omega)
      clear hpr hset1 hc9 HCW hmb hb1
      go_wp2_with fail
      generalize (wr.alloc (.cells #[.int .i64 p, .int .i64 r] 53)) = w3 at *
      generalize wr.heap.size = xb at *
      have r1 := q1'
      have r2 := q2'
      have hx3 := hxb
      have hsz3 := HB3.out.size
      clear q1' q2' p1 p2
      go_region_held3 (fun w' => w'.cell? ⟨xb, 0, none⟩ = some (.int .i64 p) ∧ w'.cell? ⟨xb, 1, none⟩ = some (.int .i64 r))
        (first | (refine hold_xy r1 r2 hx3 ?_; (repeat' (first | exact Below.refl _ _ | exact hbS3 | exact hbS2 | exact hbS1 | refine Below.drew ?_ | refine Below.alloc ?_ ?_ _ | exact Nat.le_refl _ | exact hbS2.size | exact hbS1.size | (have h9 := hbS1.size; simp; omega) | (simp; omega) | (simp; done)))))
        (first | (go_at_call 98; refine (iClone w3.heap.size n cap _ _ l _ (by omega) (by omega) ?c1 ?c2).mono ?_; (case c1 => (first | exact Nat.le_refl _ | (simp; done) | (simp; omega))); (case c2 => (refine HC3.out.on ?_; (repeat' (first | exact Below.refl _ _ | exact hbS3 | exact hbS2 | exact hbS1 | refine Below.drew ?_ | refine Below.alloc ?_ ?_ _ | exact Nat.le_refl _ | exact hbS2.size | exact hbS1.size | (have h9 := hbS1.size; simp; omega) | (simp; omega) | (simp; done))))); rintro e w1' ⟨g1', c1', rfl, hown1, hb1'⟩; have hbS1 : Below w3.heap.size w3 w1' := (by (refine Below.trans (b := _) ?_ (hb1'.mono ?_) <;> (repeat' (first | exact Below.refl _ _ | exact hbS3 | exact hbS2 | exact hbS1 | refine Below.drew ?_ | refine Below.alloc ?_ ?_ _ | exact Nat.le_refl _ | exact hbS2.size | exact hbS1.size | (have h9 := hbS1.size; simp; omega) | (simp; omega) | (simp; done))))); have hs1' := hb1'.size)
                | (refine step_cells rfl _ _ rfl w3.heap.size g1' n c1' l ⟨_, 0, none⟩ 1 1 [(p, r)] rfl rfl ?a1 rfl ?a3 (by omega) ?a5 _ rfl ?_; (case a1 => (first | exact own_below hown1 (by simp) | exact own_below hown1 (Nat.le_refl _) | exact own_below (hown1.alloc _) (by simp) | exact own_below (hown1.alloc _) (Nat.le_refl _))); (case a3 => (first | exact lies_block (t := 53) (fr := (0, 0)) (heap_alloc_new _ _) | (refine Lies.on (lies_block (t := 53) (fr := (0, 0)) ?_) hb1' ?_ <;> first | exact heap_alloc_new _ _ | (simp; done) | (simp; omega)))); (case a5 => (first | exact hbS1.size | (have h9 := hbS1.size; simp; omega))); intro g2' c2' w2' hown2 hgrow2 hat2 hgb2 hlt2; have hbS2 : Below w3.heap.size w3 w2' := (by (refine Below.grown (w := _) ?_ hgrow2 ?_ (fun k hk => by cases hk; first | exact (hown1.lt _ rfl).1 | (have h9 := (hown1.lt _ rfl).1; simp at h9; omega)) <;> (repeat' (first | exact Below.refl _ _ | exact hbS3 | exact hbS2 | exact hbS1 | refine Below.drew ?_ | refine Below.alloc ?_ ?_ _ | exact Nat.le_refl _ | exact hbS2.size | exact hbS1.size | (have h9 := hbS1.size; simp; omega) | (simp; omega) | (simp; done))))))
                | (go_at_call 109; refine (iSortedIn _ (n + 1) c2' _ (l ++ [(p, r)]) _ (by omega) (by omega) (CellsAt.of_own hown2 HINC.out) HINW.out (Nat.le_refl _)).mono ?_; rintro e w4 ⟨v4, rfl, hown4, hb4⟩; obtain ⟨a4, c4, rfl⟩ := own_slice hown4; have hbS3 : Below w3.heap.size w3 w4 := hbS2.trans (hb4.mono hbS2.size)))
      all_goals
        obtain ⟨N, hN⟩ : ∃ N, sortU (cornerC (l ++ [(p, r)])) = N := ⟨_, rfl⟩
        have HNN := Lib.hid (show moreC l (p, r) = N from by rw [HMC.out]; exact hN)
        have hni := HNC.out
        have hnl := HNL.out
        rw [hN] at hown4 hni hnl ⊢
        have hnl2 : N.length ≤ 4194304 := by have := HLN.out; omega
        have HN4 := Lib.hid (CellsAt.of_own hown4 hni)
        have HB4 := Lib.hid (HB3.out.trans (But.of_below (hbS3.mono hsz3)))
        have HS4 := Lib.hid (HS3.out.on hbS3)
        clear hown1 hown2 hown4 hbS1 hbS2 hbS3 hgrow2 hni hnl hN hb4 hb1' hs1' HS3 HB3
        have hsz4 := HB4.out.size
        simp only [Exit.then]
        go_wp2_with fail
        refine (iIsShape w4.heap.size N.length c4 a4 N w4 hnl2 HN4.out (Nat.le_refl _)).mono ?_
        rintro e w5 ⟨rfl, hb5⟩
        have HB5 := Lib.hid (HB4.out.trans (But.of_below (hb5.mono hsz4)))
        have HN5 := Lib.hid ((HN4.out.on hb5).more hb5.size)
        have HS5 := Lib.hid (HS4.out.on hb5)
        have hsz5 := HB5.out.size
        clear hb5
        cases hnn : isShape N with
        | false =>
          have he : extOv (ps.take (k + 1)) l = extOv (ps.take k) l := extOv_no HKL.out HNB.out (by rw [HNN.out]; exact hnn)
          have HS6 := Lib.hid (HS5.out.same (show S ++ extOv (ps.take k) l = S ++ extOv (ps.take (k + 1)) l from by rw [he]))
          clear he
          go_wp2
          go_roundw
          case rel => exact ⟨k + 1, q1, by omega, by go_num, by omega, HS6.out, HB5.out⟩
          case measure => simp [intOf]; omega
        | true =>
          have he : extOv (ps.take (k + 1)) l = extOv (ps.take k) l ++ [N] := by rw [← HNN.out]; exact extOv_yes HKL.out HNB.out (by rw [HNN.out]; exact hnn)
          have HE2 := Lib.hid (show (S ++ extOv (ps.take k) l) ++ [N] = S ++ extOv (ps.take (k + 1)) l from by rw [he, List.append_assoc])
          have HNN2 := Lib.hid hnn
          clear he hnn
          go_wp2_with fail
          refine (iAdd w5.heap.size b q1 N.length c4 a4 _ N w5 HS5.out (by omega) HNN2.out hnl2 HN5.out (Nat.le_refl _)).mono ?_
          rintro e w6 ⟨rfl, hs6, hg6⟩
          have HS6 := Lib.hid (hs6.same HE2.out)
          have HB6 := Lib.hid (HB5.out.trans (But.of_grown hg6 hsz5))
          clear hs6 hg6
          go_wp2
          go_roundw
          case rel => exact ⟨k + 1, q1 + 1, by omega, by go_num, by omega, HS6.out, HB6.out⟩
          case measure => simp [intOf]; omega
    · obtain rfl : k = M := by omega
      have HS9 := Lib.hid (hset1.out.same (show S ++ extOv (ps.take k) l = S ++ extTo l n from by rw [HOV.out, List.take_of_length_le (by rw [HML.out]; exact Nat.le_refl _)]))
      have HB9 := Lib.hid ((But.of_below HB0.out).trans (hb1.mono hsz1))
      clear hset1 hb1
      go_wp2
      go_end0
      exact ⟨rfl, ⟨q1, by omega, HS9.out⟩, HB9.out⟩
end

section
open Go.RowKit Go.Maps

theorem nodup_le {α : Type} [DecidableEq α] : ∀ (a b : List α), a.Nodup → (∀ x ∈ a, x ∈ b) → a.length ≤ b.length
  | [], _, _, _ => by simp
  | x :: r, b, hn, hs => by
    have hx : x ∈ b := hs x (by simp)
    have hn2 := List.nodup_cons.1 hn
    have := nodup_le r (b.erase x) hn2.2 fun y hy => (List.mem_erase_of_ne (fun (e : y = x) => hn2.1 (e ▸ hy))).2 (hs y (by simp [hy]))
    rw [List.length_erase_of_mem hx] at this
    have := List.length_pos_of_mem hx
    simp only [List.length_cons]
    omega
theorem OwnS.grow {B : Nat} {w w' : World} {g n cap g' cap' : Nat} {es : List Ent} {e : Ent} (h : OwnS B w (.slice (some ⟨g, 0, none⟩) n cap) es) (hrow : w'.ownsRow B 24 1 (.slice (some ⟨g', 0, none⟩) (n + 1) cap') (n + 1) ((es ++ [e]).map ev)) (hn : es.length = n)
    (hg : w.grownBy w' (some g)) (hg' : g' = g ∨ g' = w.heap.size) (he : w.ownsRow B 53 2 (ev e) e.2.2.length (cvs e.2.2)) (hfar : ∀ f ∈ es, f.1 ≠ e.1) (heg : e.1 ≠ g) : OwnS B w' (.slice (some ⟨g', 0, none⟩) (n + 1) cap') (es ++ [e]) := by
  have hoffe : ∀ f ∈ es, f.1 ≠ g := fun f hf h9 => h.off f hf (by rw [h9]; rfl)
  refine ⟨?_, fun f hf => ?_, ?_, fun f hf h9 => ?_⟩
  · rw [List.length_append, hn]
    exact hrow
  · rw [List.mem_append, List.mem_singleton] at hf
    rcases hf with hf | rfl
    · exact (h.each f hf).kept hg (.inr (by rw [ev_block]; intro e2; injection e2 with e2; exact hoffe f hf e2))
    · exact he.kept hg (.inr (by rw [ev_block]; intro e2; injection e2 with e2; exact heg e2))
  · unfold ApartS
    rw [List.pairwise_append]
    refine ⟨h.apart, by simp, fun f hf f2 hf2 => ?_⟩
    rw [List.mem_singleton] at hf2
    subst hf2
    exact hfar f hf
  · have e9 : g' = f.1 := by injection h9
    rw [List.mem_append, List.mem_singleton] at hf
    rcases hf with hf | rfl
    · have h1 := (h.each.lt hf).2
      have h2 := hoffe f hf
      rcases hg' with h3 | h3 <;> omega
    · have h1 := (he.lt f.1 rfl).2
      rcases hg' with h3 | h3 <;> omega

theorem OwnS.alloc2 {B : Nat} {w : World} {v : Value} {es : List Ent} (h : OwnS B w v es) (o : Obj) : OwnS B (w.alloc o) v es := h.on ((Below.refl _ _).alloc (Nat.le_refl _) o)

set_option maxHeartbeats 4000000 in
set_option maxRecDepth 100000 in
theorem iShapes (b m : Nat) (S : List (List Cl)) (w : World) (hS : SetM w b m S) (hm : m ≤ 4194304) (hSl : S.length ≤ 4194304) :
    Calls Try.prog 85 #[.map (some b)] w (GivesS w (sortG ltS [] S)) := by
  obtain ⟨i0, hi, hz0, hz1, hz2⟩ := shps_size
  have HS0 := Lib.hid hS
  have hblt := hS.lt
  have HSH := Lib.hid (show ∀ s ∈ S, isShape s = true from by obtain ⟨D, _, h2⟩ := hS; exact h2.2)
  clear hS
  go_enter Try.func85, Try.ntmps85
  go_wp2_with (first | (refine wp_len rfl _ rfl b m S rfl HS0.out ?_; intro z hz) | (at_make; refine wpList_make_own _ rfl _ _ 35 rfl w.heap.size 24 i0 (.slice none 0 0) 1 Try.underlying35 hi hz0 hz1 _ _ _ z rfl rfl rfl ?b2 ?b3 (Nat.le_refl _) ?_) | go_in)
  case b2 => rw [hz2]; omega
  case b3 => unfold maxLen; omega
  intro w0 hown0 hgrow0
  have hb0 : Below w.heap.size w w0 := (Below.refl _ _).grown hgrow0 (Nat.le_refl _) (fun k h => by cases h)
  have HS1 := Lib.hid (HS0.out.on hb0)
  have hG0 := (hown0.lt w.heap.size rfl).2
  have HO0 := Lib.hid hown0
  clear hown0 hgrow0
  go_wp2_with (first | (at_range; refine wp_range rfl _ rfl b m S rfl HS1.out ?_; intro w1 cnt0 hrg0 hg1 hs1) | go_in)
  go_frame
  have hb1 : Below w0.heap.size w0 w1 := (Below.refl _ _).grown hg1 (Nat.le_refl _) (fun k h => by cases h)
  have HB1 := Lib.hid (hb0.trans (hb1.mono hb0.size))
  have HO1 := Lib.hid (HO0.out.kept hg1 (.inr (by intro e; cases e)))
  have hrb : w0.heap.size ≠ b := by omega
  have hrG : w0.heap.size ≠ w.heap.size := by omega
  have hrw : w.heap.size ≤ w0.heap.size := by omega
  clear hs1 hg1 hb1 hb0 HO0 HS1 HS0
  generalize w0.heap.size = r at *
  generalize hGG : w.heap.size = G at *
  have HRG0 := Lib.hid hrg0
  clear hrg0
  go_loopw [3] (fun v wr => ∃ (es : List Ent) (dn : List (List Cl)) (cnt n g cap : Nat), v = .slice (some ⟨g, 0, none⟩) n cap ∧ es.length = n ∧ n ≤ 4194304 ∧ g ≠ r ∧ Hid (RngM wr b r m S dn cnt) ∧ Hid (es.map kE = dn) ∧ Hid (SmallS es) ∧ Hid (OwnS G wr (.slice (some ⟨g, 0, none⟩) n cap) es) ∧ Below G w wr) (fun _ wr => wr.rangeLeft b r)
  case atStart => exact ⟨[], [], cnt0, 0, G, z, rfl, rfl, by omega, fun e => hrG e.symm, HRG0.out, rfl, fun e he => (by cases he), ⟨HO1.out, fun e he => (by cases he), List.Pairwise.nil, fun e he => (by cases he)⟩, HB1.out⟩
  case round =>
    obtain ⟨es, dn, cnt, n, g, cap, rfl, hel, hn, hgr, hrg, hmap, hsm, hown, hb⟩ := hrel
    have hsz : G ≤ wr.heap.size := by have := hb.size; omega
    clear HRG0 HO1 HB1
    go_wp2_with (first | (at_next; refine wp_next rfl _ rfl b r m S dn cnt rfl hrg.out ?_ ?_) | go_in)
    · intro hall
      have hgG := (hown.out.row.lt g rfl).1
      have hnd := hrg.out.nodup.1
      have HALL := Lib.hid hall
      have HND := Lib.hid hnd
      clear hall hnd hrg
      go_wp2_with fail
      refine (iSortS G n g cap es wr hn hel hown.out hsm.out).mono ?_
      rintro e w3 ⟨rfl, fs, hperm, hpair, hown3, hg3⟩
      have hm3 : (fs.map kE).Perm dn := by rw [← hmap.out]; exact hperm.map kE
      have hkey : fs.map kE = sortG ltS [] S := sortG_unique ordS [] (srt_of_sorted ordS kE hpair (hm3.nodup_iff.2 HND.out)) fun x => hm3.mem_iff.trans (HALL.out x)
      have hsm3 : SmallS fs := fun e he => hsm.out e (hperm.mem_iff.1 he)
      have hb3 : Below G w w3 := hb.grown hg3 hsz (fun k hk => by cases hk; exact hgG)
      have HR := Lib.hid (show GivesS w (sortG ltS [] S) (.returned (.slice (some ⟨g, 0, none⟩) n cap)) w3 from ⟨_, fs, rfl, hkey, hsm3, by rw [hGG]; exact hown3, by rw [hGG]; exact hb3⟩)
      clear hperm hpair hown3 hg3 hm3 hkey hsm3 hb3 hown hsm hmap
      go_wp2
      go_ret
      exact HR.out
    · intro l x w2 cnt2 hsh hlS hnew hrg2 hlt hg2 hs2 hen
      have hap := hrg.out.apart hown.out.row
      have hoffr : OffS r es := fun e he e9 => (hrg.out.apart (hown.out.each e he)).1 (by rw [ev_block, e9])
      have hown2 := hown.out.by2 hg2 hap.1 hoffr
      have hb2 : Below G w w2 := hb.grown hg2 hsz (fun k hk => by cases hk; exact hrw)
      have hnn : n + 1 ≤ 4194304 := by
        have h1 := nodup_le _ _ hrg2.nodup.1 hrg2.nodup.2
        have h2 := congrArg List.length hmap.out
        rw [List.length_map] at h2
        simp only [List.length_append, List.length_cons, List.length_nil] at h1
        omega
      have hl0 := ((isShape_iff l).1 hsh).1
      have hmeas : w2.rangeLeft b r < wr.rangeLeft b r := by rw [hrg2.left, hrg.out.left]; exact hlt
      have HMEAS := Lib.hid hrg.out.left
      have HCM := Lib.hid (cells_marks hsh)
      have HA := Lib.hid (show ∀ y, y < 8 → allR l y < 256 from fun y _ => allR_lt (shape_in hsh) y)
      have HIN := Lib.hid (shape_in hsh)
      have hgl := hown2.row.lt g rfl
      have hgb : g ≠ b := fun e => hap.2 (by rw [e]; rfl)
      have HO2 := Lib.hid hown2
      have HRG2 := Lib.hid hrg2
      have HB2 := Lib.hid hb2
      have hsz2 : G ≤ w2.heap.size := by have := hb2.size; omega
      clear hap hoffr hown2 hb2 hrg2 hrg hown hg2 hs2 hb hsz hmeas
      obtain ⟨A, hA⟩ : ∃ A, allR l = A := ⟨_, rfl⟩
      rw [hA] at HCM HA hen ⊢
      unfold setV at hen ⊢
      clear hA
      have hba : Below w2.heap.size w2 (w2.alloc (.cells #[.int .i64 (A 0), .int .i64 (A 1), .int .i64 (A 2), .int .i64 (A 3), .int .i64 (A 4), .int .i64 (A 5), .int .i64 (A 6), .int .i64 (A 7)] 93)) := (Below.refl _ _).alloc (Nat.le_refl _) _
      have HBA := Lib.hid hba
      clear hba
      go_wp2_with fail
      refine (iCellsOf A _ HA.out).mono ?_
      rintro e w4 ⟨v4, rfl, hown4, hb4⟩
      rw [HCM.out] at hown4
      obtain ⟨gb, c4, rfl⟩ := own_some hown4 (by omega)
      have hgb4 := hown4.lt gb rfl
      simp only [World.size_alloc] at hgb4
      have hb24 : Below w2.heap.size w2 w4 := HBA.out.trans (hb4.mono HBA.out.size)
      have HO4 := Lib.hid (HO2.out.on hb24)
      have HRG4 := Lib.hid (HRG2.out.on hb24)
      have HB4 := Lib.hid (HB2.out.trans (hb24.mono hsz2))
      have HE4 := Lib.hid (own_below hown4 (show G ≤ _ by simp; omega))
      have hsz4 : G ≤ w4.heap.size := by have := HB4.out.size; omega
      have HFAR := Lib.hid (show ∀ f ∈ es, f.1 ≠ gb from fun f hf => by have := (HO2.out.each.lt hf).2; omega)
      clear hown4 hb4 hb24 HO2 HRG2 HB2 HBA hen
      go_wp2_with (first | (at_builtin; refine wpList_shps rfl _ _ rfl G g n cap (es.map ev) ⟨w4.heap.size, 0, none⟩ 1 1 [ev (gb, c4, l)] rfl rfl ?row rfl ?lies ?one ?bd ?base (w4.heap.size + 1) ?hh ?_) | go_in)
      case row => have h9 := (HO4.out.alloc2 (.cells #[ev (gb, c4, l)] 24)).row; rw [hel] at h9; exact h9
      case lies => exact liesV_block (l := [ev (gb, c4, l)]) (t := 24) (fr := (0, 0)) (heap_alloc_new _ _)
      case one => intro u hu; rw [List.mem_singleton] at hu; subst hu; rfl
      case bd => omega
      case base => simp; omega
      case hh => simp
      intro g5 c5 w5 hown5 hgrow5 hat5 hgb5 hlt5
      have HO4' := HO4.out.alloc2 (.cells #[ev (gb, c4, l)] 24)
      have hown5' : w5.ownsRow G 24 1 (.slice (some ⟨g5, 0, none⟩) (n + 1) c5) (n + 1) ((es ++ [(gb, c4, l)]).map ev) := by rw [List.map_append]; exact hown5
      have HO5 := Lib.hid (HO4'.grow hown5' hel hgrow5 (by simpa using hat5) (HE4.out.alloc _) HFAR.out (by show gb ≠ g; omega))
      have hba4 : Below w4.heap.size w4 (w4.alloc (.cells #[ev (gb, c4, l)] 24)) := (Below.refl _ _).alloc (Nat.le_refl _) _
      have hap4 := HRG4.out.apart HO4.out.row
      have HRG5 := Lib.hid ((HRG4.out.on hba4).kept hgrow5 (fun e => hap4.2 (by rw [e]; rfl)) (fun e => hap4.1 (by rw [e]; rfl)))
      have hg5r : g5 ≠ r := fun e => (HRG5.out.apart hown5').1 (by rw [e]; rfl)
      have HB5 := Lib.hid ((HB4.out.alloc hsz4 (.cells #[ev (gb, c4, l)] 24)).grown hgrow5 (by simp; omega) (fun k hk => by cases hk; exact (HO4.out.row.lt g rfl).1))
      have HSM5 := Lib.hid (show SmallS (es ++ [(gb, c4, l)]) from fun e he => by
        rw [List.mem_append, List.mem_singleton] at he
        rcases he with he | rfl
        · exact hsm.out e he
        · exact ⟨by show l.length ≤ _; omega, fun c hc => inP_in (HIN.out c hc)⟩)
      have HM5 := Lib.hid (show (es ++ [(gb, c4, l)]).map kE = dn ++ [l] from by rw [List.map_append, hmap.out]; rfl)
      have hel5 : (es ++ [(gb, c4, l)]).length = n + 1 := by rw [List.length_append, hel]; rfl
      have HEL5 := Lib.hid hel5
      have hm5 := HRG5.out.left
      clear hown5 hown5' hgrow5 HO4' hba4 hap4 hel5
      go_wp2
      go_roundw
      case rel => first
        | exact ⟨_, _, cnt2, n + 1, g5, c5, rfl, HEL5.out, hnn, hg5r, HRG5.out, HM5.out, HSM5.out, HO5.out, HB5.out⟩
        | (repeat apply Exists.intro
           exact ⟨⟨_, _, cnt2, n + 1, g5, c5, rfl, HEL5.out, hnn, hg5r, HRG5.out, HM5.out, HSM5.out, HO5.out, HB5.out⟩, rfl⟩)
      case measure => rw [hm5, HMEAS.out]; exact hlt
end

section
open Go.RowKit

theorem row_sets {B n g cap : Nat} : ∀ (vs : List Value) (o : Nat) (w : World) (xs : List Value), w.ownsRow B 53 2 (.slice (some ⟨g, 0, none⟩) n cap) n xs → o + vs.length ≤ xs.length →
    (w.setCells g o vs).ownsRow B 53 2 (.slice (some ⟨g, 0, none⟩) n cap) n (xs.take o ++ vs ++ xs.drop (o + vs.length)) ∧ w.grownBy (w.setCells g o vs) (some g)
  | [], o, w, xs, h, _ => ⟨by rw [List.append_nil, List.length_nil, Nat.add_zero, List.take_append_drop]; exact h, World.grownBy.refl _ _⟩
  | v :: r, o, w, xs, h, hl => by
    have hl2 : o + (r.length + 1) ≤ xs.length := by simpa using hl
    have hs := h.stored o v
    have hr := row_sets r (o + 1) _ _ hs.1 (by rw [List.length_set]; omega)
    have e : (xs.set o v).take (o + 1) ++ r ++ (xs.set o v).drop (o + 1 + r.length) = xs.take o ++ (v :: r) ++ xs.drop (o + (v :: r).length) := by
      rw [List.drop_set_of_lt (by omega)]
      have e1 : (xs.set o v).take (o + 1) = xs.take o ++ [v] := by
        rw [List.take_succ_eq_append_getElem (by rw [List.length_set]; omega), List.take_set_of_le (Nat.le_refl _), List.getElem_set_self]
      rw [e1]
      have e2 : o + 1 + r.length = o + (v :: r).length := by simp; omega
      rw [e2]
      simp
    rw [e] at hr
    exact ⟨hr.1, hs.2.trans hr.2⟩

theorem delC_rows (l : List Cl) (i : Nat) (hi : i < l.length) : (cvs l).take (i * 2) ++ cvs (l.drop (i + 1)) ++ (cvs l).drop (i * 2 + (cvs (l.drop (i + 1))).length) = cvs (delC l i ++ l.drop (l.length - 1)) := by
  have hsplit : ∀ k, k ≤ l.length → (cvs l).take (k * 2) = cvs (l.take k) ∧ (cvs l).drop (k * 2) = cvs (l.drop k) := by
    intro k hk
    have e : cvs l = cvs (l.take k) ++ cvs (l.drop k) := by rw [← cvs_append, List.take_append_drop]
    have hlen : (cvs (l.take k)).length = k * 2 := by rw [cvs_length, List.length_take, Nat.min_eq_left hk]
    rw [e]
    exact ⟨by rw [← hlen, List.take_left], by rw [← hlen, List.drop_left]⟩
  have e3 : i * 2 + (cvs (l.drop (i + 1))).length = (l.length - 1) * 2 := by rw [cvs_length, List.length_drop]; omega
  rw [e3, (hsplit i (by omega)).1, (hsplit (l.length - 1) (by omega)).2, ← cvs_append, ← cvs_append]
  rfl
end

section
open Go.RowKit Go.Maps

theorem GivesS.nil (w : World) {w1 : World} (hb : Below w.heap.size w w1) : GivesS w [] (.returned (.slice none 0 0)) w1 := ⟨_, [], rfl, rfl, fun e he => (by cases he), ownS_nil _ _, hb⟩
theorem GivesS.up {w w1 w2 : World} {L : List (List Cl)} {e : Ending} (h : GivesS w1 L e w2) (hb : Below w.heap.size w w1) : GivesS w L e w2 := by
  obtain ⟨v, es, h1, h2, h3, h4, h5⟩ := h
  exact ⟨v, es, h1, h2, h3, h4.less hb.size, hb.trans (h5.mono hb.size)⟩
theorem addr_ne {B n b : Nat} {w : World} {a : Option Addr} {l : List Cl} (h : CellsAt B w a n l) (hn : 0 < n) (hb : B ≤ b) : ∀ q, a = some q → q.block ≠ b := by
  obtain ⟨b0, o0, rfl, hlt, _⟩ := h.2.2 hn
  intro q e
  injection e with e
  subst e
  show b0 ≠ b
  omega

theorem SetM.low {w w' : World} {b n B : Nat} {S : List (List Cl)} (h : SetM w b n S) (hb : Below B w w') (hlt : b < B) : SetM w' b n S := by
  obtain ⟨D, ⟨es, clock, h1, h2⟩, h3⟩ := h
  exact ⟨D, ⟨es, clock, (hb.block b hlt).trans h1, h2⟩, h3⟩

set_option maxHeartbeats 2000000 in
set_option maxRecDepth 100000 in
theorem iExtOf (B n cap : Nat) (a : Option Addr) (l : List Cl) (w : World) (hn : n ≤ 4194304) (hc : CellsAt B w a n l) (hB : B ≤ w.heap.size) :
    Calls Try.prog 52 #[.slice a n cap] w (GivesS w (extS l)) := by
  have H := Lib.hid hc
  have hln := hc.1
  clear hc
  have hmm := @run_makeMap Try.prog
  cases h : isShape l with
  | false =>
    have HS := Lib.hid h
    have HO := Lib.hid (extS_not h)
    rw [HO.out]
    clear h
    go_enter Try.func52, Try.ntmps52
    go_wp2_with fail
    refine (iIsShape B n cap a l w hn H.out hB).mono ?_
    rintro e w1 ⟨rfl, hb1⟩
    rw [HS.out]
    have HR := Lib.hid (GivesS.nil w hb1)
    go_wp2
    go_ret
    exact HR.out
  | true =>
    by_cases h8 : n = 8
    · subst h8
      have HS := Lib.hid h
      have HO := Lib.hid (extS_full hln)
      rw [HO.out]
      clear h hln
      go_enter Try.func52, Try.ntmps52
      go_wp2_with fail
      refine (iIsShape B 8 cap a l w hn H.out hB).mono ?_
      rintro e w1 ⟨rfl, hb1⟩
      rw [HS.out]
      have HR := Lib.hid (GivesS.nil w hb1)
      go_wp2
      go_ret
      exact HR.out
    · have HS := Lib.hid h
      have hlen := ((isShape_iff l).1 h).1
      rw [hln] at hlen
      have HO := Lib.hid (extS_of h (by omega))
      have h88 : ((n : Int) == 8) = false := by rw [beq_eq_false_iff_ne]; omega
      rw [HO.out, hln]
      have hxl := extTo_le l n
      clear h hln
      go_enter Try.func52, Try.ntmps52
      go_wp2_with fail
      refine (iIsShape B n cap a l w hn H.out hB).mono ?_
      rintro e w1 ⟨rfl, hb1⟩
      rw [HS.out]
      have hsz1 := hb1.size
      have HM := Lib.hid (SetM.made w1)
      have HBW := Lib.hid (hb1.alloc hsz1 (.map #[] 0))
      have HC := Lib.hid (H.out.on (HBW.out.mono hB))
      have HNE := Lib.hid (addr_ne H.out (by omega) (show B ≤ w1.heap.size by omega))
      clear hb1
      go_wp2_with fail
      refine (iExtend B w1.heap.size 0 n cap a [] l _ HM.out (by omega) HS.out HC.out HNE.out (by simp; omega)).mono ?_
      rintro e w3 ⟨rfl, ⟨m3, hm3, hset3⟩, hbut⟩
      have HB3 := Lib.hid (HBW.out.trans (hbut.below (by simp; omega) hsz1))
      have HS3 := Lib.hid hset3
      rw [List.nil_append] at HS3
      clear hset3 hbut
      go_wp2_with fail
      refine (iShapes w1.heap.size m3 (extTo l n) w3 HS3.out (by omega) (by omega)).mono ?_
      rintro e w4 hg
      have HR := Lib.hid (hg.up HB3.out)
      obtain ⟨v, es, rfl, -⟩ := hg
      go_wp2
      go_ret
      exact HR.out
end

section
open Go.RowKit Go.Maps

theorem SetM.apart {w : World} {b n : Nat} {S : List (List Cl)} (h : SetM w b n S) {B size k : Nat} {t : TypeId} {v : Value} {xs : List Value} (ho : w.ownsRow B t size v k xs) : v.ownBlock ≠ some b := by
  obtain ⟨D, ⟨es, clock, hb, _⟩, _⟩ := h
  rcases ho.2 with ⟨rfl, _⟩ | ⟨g, cap, cur, rfl, _, hg, _⟩
  · intro e; cases e
  · intro e
    have e2 : g = b := by injection e
    rw [e2, hb] at hg
    cases hg
theorem SetM.offs {w : World} {b n : Nat} {S : List (List Cl)} (h : SetM w b n S) {B : Nat} {v : Value} {es : List Ent} (ho : OwnS B w v es) : OffS b es := fun e he e9 => h.apart (ho.each e he) (by rw [ev_block, e9])
theorem ownS_slice {B : Nat} {w : World} {v : Value} {es : List Ent} (h : OwnS B w v es) : ∃ a cap, v = .slice a es.length cap := by
  rcases h.row.2 with ⟨rfl, h0⟩ | ⟨g, cap, cur, rfl, _⟩
  · exact ⟨none, 0, by rw [h0]⟩
  · exact ⟨_, _, rfl⟩
/-- The start: one shape of one cell. -/
theorem ownS_one (w : World) {b1 b2 G : Nat} (h1 : w.heap.size = b1) (h2 : b1 + 1 = b2) (hG : G ≤ b1) :
    OwnS G ((w.alloc (.cells #[.int .i64 0, .int .i64 0] 53)).alloc (.cells #[.slice (some ⟨b1, 0, none⟩) 1 1] 24)) (.slice (some ⟨b2, 0, none⟩) 1 1) [(b1, 1, [((0 : Int), (0 : Int))])] := by
  subst h1
  subst h2
  have r1 := World.ownsRow_lit (base := G) (e := 53) (size := 2) w #[.int .i64 0, .int .i64 0] 1 hG (by simp [maxLen]) rfl
  have r2 := World.ownsRow_lit (base := G) (e := 24) (size := 1) (w.alloc (.cells #[.int .i64 0, .int .i64 0] 53)) #[.slice (some ⟨w.heap.size, 0, none⟩) 1 1] 1 (by simp; omega) (by simp [maxLen]) rfl
  rw [World.size_alloc] at r2
  refine ⟨r2, fun e he => ?_, by simp [ApartS], fun e he h9 => ?_⟩
  · rw [List.mem_singleton] at he
    subst he
    exact r1.alloc _
  · rw [List.mem_singleton] at he
    subst he
    have h10 : w.heap.size + 1 = w.heap.size := by injection h9
    omega
theorem small_one (g : Nat) : SmallS [(g, 1, [((0 : Int), (0 : Int))])] := fun e he => by
  rw [List.mem_singleton] at he
  subst he
  refine ⟨by show 1 ≤ 4194304; omega, fun c hc => ?_⟩
  have : c = (0, 0) := List.mem_singleton.1 hc
  subst this
  unfold InC
  decide
theorem fixS_at {z : Int} (h : inb z 1 5 = true) : fixS z = fixT (z - 1).toNat := by
  unfold fixS
  rw [if_pos h]
  congr 1
  unfold inb at h
  simp at h
  omega

set_option maxHeartbeats 4000000 in
set_option maxRecDepth 100000 in
theorem iFixed (z : Int) (w : World) : Calls Try.prog 41 #[.int .i64 z] w (GivesS w (fixS z)) := by
  have hmm := @run_makeMap Try.prog
  cases hin : inb z 1 5 with
  | false =>
    have HO : Hid (fixS z = []) := if_neg (by rw [hin]; simp)
    rw [HO.out]
    have HIN := Lib.hid hin
    clear hin
    go_enter Try.func41, Try.ntmps41
    go_wp2_with fail
    refine (iCount z w).mono ?_
    rintro e w' ⟨rfl, rfl⟩
    rw [HIN.out]
    have HR := Lib.hid (GivesS.nil w (Below.refl _ w))
    go_wp2
    go_ret
    exact HR.out
  | true =>
    have hz : 1 ≤ z ∧ z ≤ 5 := by unfold inb at hin; simpa using hin
    have HO := Lib.hid (fixS_at hin)
    have HIN := Lib.hid hin
    rw [HO.out]
    obtain ⟨M, hM⟩ : ∃ M, (z - 1).toNat = M := ⟨_, rfl⟩
    have hMb : M ≤ 4 := by omega
    have hzw : IntKind.i64.wrap (z - 1) = (M : Int) := by rw [IntWalk.i64_in _ (by omega)]; omega
    rw [hM]
    clear hin hM
    go_enter Try.func41, Try.ntmps41
    go_wp2_with fail
    refine (iCount z w).mono ?_
    rintro e w' ⟨rfl, rfl⟩
    rw [HIN.out]
    have HO1 := Lib.hid ((ownS_one w rfl rfl (Nat.le_refl _)).alloc2 (.map #[] 0))
    have HM1 := Lib.hid (SetM.made ((w.alloc (.cells #[.int .i64 0, .int .i64 0] 53)).alloc (.cells #[.slice (some ⟨w.heap.size, 0, none⟩) 1 1] 24)))
    have HB1 := Lib.hid ((((Below.refl w.heap.size w).alloc (Nat.le_refl _) (.cells #[.int .i64 0, .int .i64 0] 53)).alloc (by simp) (.cells #[.slice (some ⟨w.heap.size, 0, none⟩) 1 1] 24)).alloc (by simp; omega) (.map #[] 0))
    have hbb : ((w.alloc (.cells #[.int .i64 0, .int .i64 0] 53)).alloc (.cells #[.slice (some ⟨w.heap.size, 0, none⟩) 1 1] 24)).heap.size = w.heap.size + 1 + 1 := by simp
    rw [hbb] at HM1
    clear hbb
    go_wp2
    generalize hW : ((w.alloc (.cells #[.int .i64 0, .int .i64 0] 53)).alloc (.cells #[.slice (some ⟨w.heap.size, 0, none⟩) 1 1] 24)).alloc (.map #[] 0) = W at *
    generalize hb : w.heap.size + 1 + 1 = b at *
    clear hmm hW
    go_loopw [3, 16] (fun v i wr => ∃ (k q n cap : Nat) (a : Option Addr) (es : List Ent) (S : List (List Cl)), k ≤ M ∧ i = .int .i64 k ∧ v = .slice a n cap ∧ es.length = n ∧ Hid (es.map kE = fixT k) ∧ Hid (SmallS es) ∧ Hid (OwnS w.heap.size wr (.slice a n cap) es) ∧ Hid (SetM wr b q S) ∧ Below w.heap.size w wr) (fun _ i _ => M - (intOf i).toNat)
    case atStart => exact ⟨0, 0, 1, 1, _, [(w.heap.size, 1, [((0 : Int), (0 : Int))])], [], by omega, rfl, rfl, rfl, Lib.hid rfl, small_one _, HO1.out, HM1.out, HB1.out⟩
    case round =>
      obtain ⟨k, q, n, cap, a, es, S, hk, rfl, rfl, hel, hmap, hsm, hown, hset, hbw⟩ := hrel
      have hsz := hbw.size
      clear HO1 HM1 HB1
      by_cases hlt : k < M
      · have hk1 : (k : Int) < (M : Int) := by omega
        have hfb := fixT_bd k (by omega)
        have hnn : n = (fixT k).length := by rw [← hel, ← hmap.out, List.length_map]
        have hn6 : n ≤ 6144 := by omega
        have HNN := Lib.hid hnn
        clear hnn hfb
        go_wp2_with (first | (refine wp_clear rfl _ rfl b q S rfl hset.out ?_; intro w1 hset1 hg1) | go_in)
        have HO1 := Lib.hid (hown.out.by2 hg1 (hset.out.apart hown.out.row) (hset.out.offs hown.out))
        have HS1 := Lib.hid hset1
        have HB1 := Lib.hid (hbw.grown hg1 hsz (fun k hk => by cases hk; omega))
        clear hset1 hg1 hown hset hbw
        go_wp2
        go_loopw [21] (fun i wq => ∃ j q2 : Nat, j ≤ n ∧ i = .int .i64 j ∧ q2 ≤ 32 * j ∧ Hid (SetM wq b q2 (extAll (fixT k) j)) ∧ Hid (OwnS w.heap.size wq (.slice a n cap) es) ∧ Below w.heap.size w wq) (fun i _ => n - (intOf i).toNat)
        case atStart => exact ⟨0, 0, by omega, rfl, by omega, HS1.out.same (by simp [extAll]), HO1.out, HB1.out⟩
        case round =>
          obtain ⟨j, q2, hj, rfl, hq2, hset, hown, hbq⟩ := hrel
          have hszq := hbq.size
          clear HO1 HS1 HB1
          by_cases hjt : j < n
          · have hj1 : (j : Int) < (n : Int) := by omega
            have hj0 : (0 : Int) ≤ (j : Int) := by omega
            have hje : j < es.length := by omega
            obtain ⟨g, cap', ea⟩ := own_some hown.out.row (by omega)
            rw [hel] at ea
            injection ea with ea _ ec
            subst ea ec
            have hmem := ent_mem hje
            have hrow : wr.ownsRow w.heap.size 24 1 (.slice (some ⟨g, 0, none⟩) n cap) n (es.map ev) := by have := hown.out.row; rwa [hel] at this
            have hcell := hrow.cellAt j (by omega)
            rw [evs_get hje] at hcell
            obtain ⟨eb, ecp, el, hE⟩ : ∃ eb ecp el, es.getD j dE = (eb, ecp, el) := ⟨_, _, _, rfl⟩
            rw [hE] at hmem hcell
            have hgetk : (fixT k).getD j [] = el := by
              rw [← hmap.out, List.getD_eq_getElem?_getD, List.getElem?_map, List.getElem?_eq_getElem hje]
              have h9 : es[j] = (eb, ecp, el) := by rw [← hE]; simp [List.getD, hje]
              rw [h9]
              rfl
            have hjf : j < (fixT k).length := by rw [← HNN.out]; exact hjt
            have helk : el ∈ fixT k := by rw [← hgetk]; simp [List.getD, hjf]
            have hshp := (fixT_shape k helk).1
            have hxs := extAll_succ (fixT k) j hjf
            rw [hgetk] at hxs
            have HXS := Lib.hid hxs
            have HSH := Lib.hid hshp
            have HCE := Lib.hid (hown.out.each.cells hsm.out hmem)
            have heb : eb ≠ b := hset.out.offs hown.out (eb, ecp, el) hmem
            have HAP := Lib.hid (hset.out.apart hown.out.row)
            have HOF := Lib.hid (hset.out.offs hown.out)
            change wr.cell? _ = some (.slice (some ⟨eb, 0, none⟩) el.length ecp) at hcell
            clear hxs hshp helk hgetk hE hmem hrow
            go_wp2_with fail
            refine (iExtend wr.heap.size b q2 el.length ecp (some ⟨eb, 0, none⟩) (extAll (fixT k) j) el wr hset.out (by omega) HSH.out HCE.out (fun q e => by injection e with e; subst e; exact heb) (Nat.le_refl _)).mono ?_
            rintro e w4 ⟨rfl, ⟨m4, hm4, hset4⟩, hbut⟩
            have HS4 := Lib.hid (hset4.same HXS.out.symm)
            have HO4 := Lib.hid (hown.out.by2 hbut.grown HAP.out HOF.out)
            have HB4 := Lib.hid (hbq.grown hbut.grown hszq (fun k hk => by cases hk; omega))
            clear hset4 hbut hown hset hcell
            go_wp2
            go_roundw
            case rel => exact ⟨j + 1, m4, by omega, by go_num, by omega, HS4.out, HO4.out, HB4.out⟩
            case measure => simp [intOf]; omega
          · obtain rfl : j = n := by omega
            have hxl := extAll_le (fixT k) (fun x hx => ((isShape_iff x).1 (fixT_shape k hx).1).1.2) j (by rw [← HNN.out]; exact Nat.le_refl _)
            have HNX := Lib.hid (fixT_next k (by omega))
            rw [← HNN.out] at HNX
            go_wp2_with fail
            refine (iShapes b q2 (extAll (fixT k) j) wr hset.out (by omega) (by omega)).mono ?_
            rintro e w5 ⟨v5, es5, rfl, hes5, hsm5, hown5, hb5⟩
            obtain ⟨a5, c5, rfl⟩ := ownS_slice hown5
            rw [← HNX.out] at hes5
            obtain ⟨n5, hn5⟩ : ∃ n5, es5.length = n5 := ⟨_, rfl⟩
            rw [hn5] at hown5 ⊢
            have HN5 := Lib.hid hn5
            have HS5 := Lib.hid (hset.out.on hb5)
            have HO5 := Lib.hid (hown5.less hszq)
            have HB5 := Lib.hid (hbq.trans (hb5.mono hszq))
            have HE5 := Lib.hid hes5
            have HSM5 := Lib.hid hsm5
            clear hown hset hown5 hb5 hes5 hsm5 hn5
            go_wp2
            go_roundw
            case rel => exact ⟨k + 1, q2, n5, c5, a5, es5, _, by omega, by go_num, rfl, HN5.out, HE5.out, HSM5.out, HO5.out, HS5.out, HB5.out⟩
            case measure => simp [intOf]; omega
      · obtain rfl : k = M := by omega
        have HR := Lib.hid (show GivesS w (fixT k) (.returned (.slice a n cap)) wr from ⟨_, es, rfl, hmap.out, hsm.out, hown.out, hbw⟩)
        clear hown hset hmap hsm
        go_wp2
        go_ret
        exact HR.out
end

section
open Go.RowKit Go.Maps

theorem rows_apart {w : World} {B1 B2 s1 s2 k1 k2 : Nat} {t1 t2 : TypeId} {v1 v2 : Value} {xs ys : List Value} (h1 : w.ownsRow B1 t1 s1 v1 k1 xs) (h2 : w.ownsRow B2 t2 s2 v2 k2 ys) (hne : t1 ≠ t2) {x : Nat} (e2 : v2.ownBlock = some x) : v1.ownBlock ≠ some x := by
  rcases h1.2 with ⟨rfl, _⟩ | ⟨g, cap, cur, rfl, _, hg, _⟩
  · intro e; cases e
  · rcases h2.2 with ⟨rfl, _⟩ | ⟨g', cap', cur', rfl, _, hg', _⟩
    · cases e2
    · intro e1
      have e3 : g = x := by injection e1
      have e4 : g' = x := by injection e2
      rw [e3] at hg
      rw [e4, hg] at hg'
      injection hg' with h9
      injection h9 with _ h10
      exact hne h10

set_option maxHeartbeats 1000000 in
set_option maxRecDepth 100000 in
theorem iFirst (B n cap m : Nat) (a : Option Addr) (l : List Cl) (w : World) (hm : m ≤ 8) (hl : isShape l = true) (hc : CellsAt B w a n l) (hB : B ≤ w.heap.size) :
    Calls Try.prog 114 #[.slice a n cap, .int .i64 m] w fun e w' => e = .returned (.bool (leastS m l)) ∧ Below w.heap.size w w' := by
  have H := Lib.hid hc
  have hln := hc.1
  have hlen := ((isShape_iff l).1 hl).1
  rw [hln] at hlen
  have HSH := Lib.hid hl
  have HLN := Lib.hid hln
  clear hc hl hln
  go_enter Try.func114, Try.ntmps114
  go_wp2
  go_loopw [9] (fun i wr => ∃ k : Nat, k ≤ m ∧ i = .int .i64 k ∧ Hid (leastS k l = true) ∧ Below w.heap.size w wr) (fun i _ => m - (intOf i).toNat)
  case atStart => exact ⟨0, by omega, rfl, Lib.hid rfl, Below.refl _ _⟩
  case round =>
    obtain ⟨k, hk, rfl, hle, hb⟩ := hrel
    have hsz := hb.size
    by_cases hlt : k < m
    · have hk1 : (k : Int) < (m : Int) := by omega
      have hk0 : (0 : Int) ≤ (k : Int) := by omega
      have HT := Lib.hid (turnS_yes HSH.out (show k ≤ 7 by omega)).1
      go_wp2_with fail
      refine (iTurn B n cap a l (k : Int) wr (by omega) (H.out.on (hb.mono hB)) (Nat.le_trans hB hsz)).mono ?_
      rintro e w2 ⟨v, rfl, hown2, hb2⟩
      rw [HT.out] at hown2
      obtain ⟨a2, c2, rfl⟩ := own_slice hown2
      have htl := turnC_len k l
      have HA2 := Lib.hid (CellsAt.of_own hown2 (turnC_inC (shape_in HSH.out) k))
      have HB2 := Lib.hid (hb.trans (hb2.mono hsz))
      have hsz2 := HB2.out.size
      have hln2 : (turnC k l).length ≤ 4194304 := by have := HLN.out; omega
      clear hown2 hb2 HT
      go_wp2_with fail
      refine (iCmpShp w2.heap.size (turnC k l).length n c2 cap a2 a (turnC k l) l w2 hln2 (by omega) HA2.out ((H.out.on (HB2.out.mono hB)).more (Nat.le_trans hB hsz2)) (Nat.le_refl _)).mono ?_
      rintro e w3 ⟨rfl, hg3⟩
      have HB3 := Lib.hid (HB2.out.trans (hg3.below.mono hsz2))
      clear hg3
      by_cases hcmp : cmpS (turnC k l) l < 0
      · have HR := Lib.hid (leastS_false hcmp hlt)
        go_wp2
        go_ret
        exact ⟨by rw [HR.out]; rfl, HB3.out⟩
      · have hr : leastS (k + 1) l = true := by rw [leastS_succ, hle.out]; simp; omega
        have HR := Lib.hid hr
        clear hr
        go_wp2
        go_roundw
        case rel => exact ⟨k + 1, by omega, by go_num, HR.out, HB3.out⟩
        case measure => simp [intOf]; omega
    · obtain rfl : k = m := by omega
      go_wp2
      go_ret
      exact ⟨by rw [hle.out]; rfl, hb⟩

def fsTo (m : Nat) (es : List Ent) (k : Nat) : List Ent := (es.take k).filter fun e => leastS m (kE e)
theorem fsTo_all {m : Nat} {es : List Ent} {L : List (List Cl)} (h : es.map kE = L) : (fsTo m es es.length).map kE = L.filter (leastS m) := by
  subst h
  unfold fsTo
  rw [List.take_length, List.filter_map]
  rfl
theorem fsTo_succ (m : Nat) (es : List Ent) (k : Nat) (h : k < es.length) : fsTo m es (k + 1) = fsTo m es k ++ (if leastS m (kE (es.getD k dE)) = true then [es.getD k dE] else []) := filter_snoc _ dE es k h
theorem fsTo_sub (m : Nat) (es : List Ent) (k : Nat) : (fsTo m es k).Sublist es := List.filter_sublist.trans (List.take_sublist _ _)

set_option maxHeartbeats 2000000 in
set_option maxRecDepth 100000 in
theorem iFirsts (z : Int) (m : Nat) (w : World) (hm : m ≤ 8) : Calls Try.prog 88 #[.int .i64 z, .int .i64 m] w (GivesS w (firstS m z)) := by
  obtain ⟨i0, hi, hz0, hz1, hz2⟩ := shps_size
  go_enter Try.func88, Try.ntmps88
  go_wp2_with fail
  refine (iFixed z w).mono ?_
  rintro e w1 ⟨v1, es, rfl, hes, hsm, hown, hb1⟩
  have hne : es.length ≤ 6144 := by have h9 := congrArg List.length hes; have := fixS_bd z; rw [List.length_map] at h9; omega
  have HALL := Lib.hid (show (fsTo m es es.length).map kE = firstS m z from fsTo_all hes)
  have HSHP := Lib.hid (show ∀ e ∈ es, isShape (kE e) = true from fun e he => (fixS_shape (n := z) (by rw [← hes]; exact List.mem_map_of_mem he)).1)
  obtain ⟨a, cap, rfl⟩ := ownS_slice hown
  obtain ⟨n, hn⟩ : ∃ n, es.length = n := ⟨_, rfl⟩
  have HSUC := Lib.hid (fun k hk => fsTo_succ m es k hk)
  have HLEN := Lib.hid (fun k => (fsTo_sub m es k).length_le)
  rw [hn] at hown hne HALL ⊢
  have HN := Lib.hid hn
  have HOW := Lib.hid hown
  have HSM := Lib.hid hsm
  have hsz1 := hb1.size
  have HB1 := Lib.hid hb1
  clear hown hsm hes hn hb1
  go_wp2
  go_loopw [5, 11] (fun v i wr => ∃ k q : Nat, k ≤ n ∧ i = .int .i64 k ∧ q ≤ n ∧ Hid (q = (fsTo m es k).length) ∧ wr.ownsRow w1.heap.size 24 1 v q ((fsTo m es k).map ev) ∧ Below w1.heap.size w1 wr) (fun _ i _ => n - (intOf i).toNat)
  case atStart => exact ⟨0, 0, by omega, rfl, by omega, Lib.hid rfl, World.ownsRow_nil _ _ _ _, Below.refl _ _⟩
  case round =>
    obtain ⟨k, q, hk, rfl, hq, hqq, hout, hb⟩ := hrel
    have hsz := hb.size
    by_cases hlt : k < n
    · have hk1 : (k : Int) < (n : Int) := by omega
      have hk0 : (0 : Int) ≤ (k : Int) := by omega
      have hke : k < es.length := by have := HN.out; omega
      have hOW := HOW.out.on hb
      obtain ⟨g, cap', ea⟩ := own_some hOW.row (by have := HN.out; omega)
      rw [HN.out] at ea
      injection ea with ea _ ec
      subst ea ec
      have hmem := ent_mem hke
      have hrow : wr.ownsRow w.heap.size 24 1 (.slice (some ⟨g, 0, none⟩) n cap) n (es.map ev) := by have := hOW.row; rwa [HN.out] at this
      have hcell := hrow.cellAt k (by omega)
      rw [evs_get hke] at hcell
      have hsuc := HSUC.out k hke
      obtain ⟨E, hE⟩ : ∃ E, es.getD k dE = E := ⟨_, rfl⟩
      rw [hE] at hmem hcell hsuc
      have HCE := Lib.hid (hOW.each.cells HSM.out hmem)
      have HSE := Lib.hid (HSHP.out E hmem)
      obtain ⟨eb, ecp, el⟩ := E
      change wr.cell? _ = some (.slice (some ⟨eb, 0, none⟩) el.length ecp) at hcell
      change Hid (CellsAt _ _ (some ⟨eb, 0, none⟩) el.length el) at HCE
      change Hid (isShape el = true) at HSE
      change _ = _ ++ (if leastS m el = true then _ else _) at hsuc
      have HSU := Lib.hid hsuc
      clear hrow hOW hE hmem hsuc
      go_wp2_with fail
      refine (iFirst wr.heap.size el.length ecp m (some ⟨eb, 0, none⟩) el wr hm HSE.out HCE.out (Nat.le_refl _)).mono ?_
      rintro e w2 ⟨rfl, hb2⟩
      have HO2 := Lib.hid (hout.kept (grow_below hb2 none) (none_row _))
      have HB2 := Lib.hid (hb.trans (hb2.mono hsz))
      have hsz2 := HB2.out.size
      clear hb2 hcell hout hb HCE
      cases hle : leastS m el with
      | false =>
        have hsu := HSU.out
        rw [hle] at hsu
        simp only [Bool.false_eq_true, if_false, List.append_nil] at hsu
        have HO3 := Lib.hid (show w2.ownsRow w1.heap.size 24 1 _ q ((fsTo m es (k + 1)).map ev) from by rw [hsu]; exact HO2.out)
        have HQ := Lib.hid (show q = (fsTo m es (k + 1)).length from by rw [hsu]; exact hqq.out)
        clear hsu HO2
        go_wp2
        go_roundw
        case rel => exact ⟨k + 1, q, by omega, by go_num, hq, HQ.out, HO3.out, HB2.out⟩
        case measure => simp [intOf]; omega
      | true =>
        have hsu := HSU.out
        rw [hle, if_pos rfl] at hsu
        have hq1 : q + 1 = (fsTo m es (k + 1)).length := by rw [hsu, List.length_append, ← hqq.out]; rfl
        have hqn : q + 1 ≤ n := by have := HLEN.out (k + 1); have := HN.out; omega
        have HQ := Lib.hid hq1
        have HSV := Lib.hid (show (fsTo m es (k + 1)).map ev = (fsTo m es k).map ev ++ [ev (eb, ecp, el)] from by rw [hsu, List.map_append]; rfl)
        clear hsu hq1
        go_wp2_with (first | (at_builtin; refine wpList_append_own _ rfl _ _ 35 rfl w1.heap.size 24 i0 (.slice none 0 0) 1 24 Try.underlying35 hi hz0 hz1 hz2 rfl (by decide) _ _ _ rfl (HO2.out.alloc _) ⟨w2.heap.size, 0, none⟩ 1 1 [ev (eb, ecp, el)] rfl rfl (liesV_block (l := [ev (eb, ecp, el)]) (t := 24) (fr := (0, 0)) (heap_alloc_new _ _)) ?c2 ?c3 ?c4 ?c5 ?_) | go_in)
        case c2 => intro u hu; rw [List.mem_singleton] at hu; subst hu; rfl
        case c3 => unfold maxLen; omega
        case c4 => omega
        case c5 => simp; omega
        intro v' w3 hown3 hgrow _
        rw [← HSV.out] at hown3
        have hb3 := Lib.hid ((HB2.out.alloc hsz2 (.cells #[ev (eb, ecp, el)] 24)).grown hgrow (HB2.out.alloc hsz2 (.cells #[ev (eb, ecp, el)] 24)).size (fun x hx => (HO2.out.lt x hx).1))
        have HO3 := Lib.hid hown3
        clear hown3 hgrow
        go_wp2
        go_roundw
        case rel => first
          | exact ⟨k + 1, q + 1, by omega, by go_num, hqn, HQ.out, HO3.out, hb3.out⟩
          | (repeat apply Exists.intro
             exact ⟨⟨k + 1, q + 1, by omega, by go_num, hqn, HQ.out, HO3.out, hb3.out⟩, rfl⟩)
        case measure => simp [intOf]; omega
    · obtain rfl : k = n := by omega
      have hsub := fsTo_sub m es k
      have hOW := HOW.out.on hb
      have hrw := hout
      rw [hqq.out] at hrw
      have hOS : OwnS w.heap.size wr _ (fsTo m es k) := ⟨own_below hrw hsz1, hOW.each.sub (fun e he => hsub.subset he), hOW.apart.sublist hsub, fun e he h9 => rows_apart hout (hOW.each e (hsub.subset he)) (by decide) (ev_block e) h9⟩
      have HR := Lib.hid (show GivesS w (firstS m z) (.returned _) wr from ⟨_, _, rfl, HALL.out, fun e he => HSM.out e (hsub.subset he), hOS, HB1.out.trans (hb.mono hsz1)⟩)
      clear hrw hOS hOW hsub hout
      go_wp2
      go_ret
      exact HR.out

theorem iOneSided (z : Int) (w : World) : Calls Try.prog 46 #[.int .i64 z] w (GivesS w (firstS 4 z)) := by
  go_enter Try.func46, Try.ntmps46
  go_wp2_with fail
  refine (iFirsts z 4 w (by omega)).mono ?_
  rintro e w1 hg
  have HR := Lib.hid hg
  obtain ⟨v, es, rfl, -⟩ := hg
  go_wp2
  go_ret
  exact HR.out
theorem iFree (z : Int) (w : World) : Calls Try.prog 48 #[.int .i64 z] w (GivesS w (firstS 8 z)) := by
  go_enter Try.func48, Try.ntmps48
  go_wp2_with fail
  refine (iFirsts z 8 w (by omega)).mono ?_
  rintro e w1 hg
  have HR := Lib.hid hg
  obtain ⟨v, es, rfl, -⟩ := hg
  go_wp2
  go_ret
  exact HR.out
theorem iCountFree (z : Int) (w : World) : Calls Try.prog 50 #[.int .i64 z] w fun e w' => e = .returned (.int .i64 (countS z)) ∧ Below w.heap.size w w' := by
  cases hin : inb z 1 5 with
  | false =>
    have HO : Hid (countS z = -1) := if_neg (by rw [hin]; simp)
    have HIN := Lib.hid hin
    clear hin
    go_enter Try.func50, Try.ntmps50
    go_wp2_with fail
    refine (iCount z w).mono ?_
    rintro e w' ⟨rfl, rfl⟩
    rw [HIN.out]
    go_wp2
    go_ret
    exact ⟨by rw [HO.out]; rfl, Below.refl _ _⟩
  | true =>
    have HO : Hid (countS z = ((firstS 8 z).length : Int)) := if_pos hin
    have HIN := Lib.hid hin
    clear hin
    go_enter Try.func50, Try.ntmps50
    go_wp2_with fail
    refine (iCount z w).mono ?_
    rintro e w' ⟨rfl, rfl⟩
    rw [HIN.out]
    go_wp2_with fail
    refine (iFree z w).mono ?_
    rintro e w1 ⟨v, es, rfl, hes, _, hown, hb1⟩
    obtain ⟨a, cap, rfl⟩ := ownS_slice hown
    have HL := Lib.hid (show (es.length : Int) = ((firstS 8 z).length : Int) from by rw [← hes, List.length_map])
    clear hes hown
    go_wp2
    go_ret
    exact ⟨by rw [HO.out, ← HL.out]; rfl, hb1⟩
end

end Go.Proofs.Ythnapikklolgcaa
