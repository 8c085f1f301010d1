/-
  A part moved from one region to another, in the program: what the call gives.
-/
import Derived.Test.YtcfioncnpfoccaaGreatDoorSra
import Derived.Test.YtcfioncnpfoccaaGreatDoorJbs
namespace Go.Proofs.YtcfioncnpfoccaaGreatDoor
open Go.RowKit

theorem Rg.in64 {W H : Nat} {l : List Int} (h : Rg W H l) : ∀ z ∈ l, In64 z := by
  intro z hz
  obtain ⟨j, hj, rfl⟩ := List.mem_iff_getElem.1 hz
  have h1 := h.nat (y := j) (by rw [← h.len]; exact hj)
  have e : l.getD j 0 = l[j] := by simp [List.getD, hj]
  rw [e] at h1
  unfold In64
  omega
theorem cells_less {W H : Nat} {F G : List Int} (hF : Rg W H F) (hG : Rg W H G) (hs : ∀ q, bt G q = true → bt F q = true) {c : Cl} (hc : bt F c = true) (hn : ¬ bt G c = true) : (cellsB W H G).length < (cellsB W H F).length := by
  have := nodup_sub_len (c :: cellsB W H G) (cellsB W H F) (List.nodup_cons.2 ⟨fun h => hn ((mem_cellsB hG c).1 h), srt_nodup (cellsB_srt _ _ _)⟩) (fun x hx => by
    rcases List.mem_cons.1 hx with rfl | hx
    · exact (mem_cellsB hF _).2 hc
    · exact (mem_cellsB hF x).2 (hs x ((mem_cellsB hG x).1 hx)))
  rw [List.length_cons] at this
  omega
theorem nb_rng {u v : Nat} (hu : u < 6) (hv : v < 6) {d : Nat} (hd : d < 4) : (-1 ≤ (nbC ((u : Int), (v : Int)) d).1 ∧ (nbC ((u : Int), (v : Int)) d).1 ≤ 10) ∧ -1 ≤ (nbC ((u : Int), (v : Int)) d).2 ∧ (nbC ((u : Int), (v : Int)) d).2 ≤ 10 := by
  have : d = 0 ∨ d = 1 ∨ d = 2 ∨ d = 3 := by omega
  rcases this with rfl | rfl | rfl | rfl <;> simp [nbC] <;> omega

/-- Of what was below B nothing has turned but two blocks. -/
structure Bu2 (B f t : Nat) (w w' : World) : Prop where
  os : w'.os = w.os
  tape : w'.tape = w.tape
  output : w'.output = w.output
  size : w.heap.size ≤ w'.heap.size
  block : ∀ k, k < B → k ≠ f → k ≠ t → w'.heap[k]? = w.heap[k]?
theorem Bu2.refl (B f t : Nat) (w : World) : Bu2 B f t w w := ⟨rfl, rfl, rfl, Nat.le_refl _, fun _ _ _ _ => rfl⟩
theorem Bu2.trans {B f t : Nat} {x y z : World} (h : Bu2 B f t x y) (k : Bu2 B f t y z) : Bu2 B f t x z :=
  ⟨k.os.trans h.os, k.tape.trans h.tape, k.output.trans h.output, Nat.le_trans h.size k.size, fun i hi h1 h2 => (k.block i hi h1 h2).trans (h.block i hi h1 h2)⟩
theorem Bu2.mono {B B' f t : Nat} {w w' : World} (h : Bu2 B f t w w') (hB : B' ≤ B) : Bu2 B' f t w w' := ⟨h.os, h.tape, h.output, h.size, fun k hk => h.block k (Nat.lt_of_lt_of_le hk hB)⟩
theorem Bu2.of_below {B f t : Nat} {w w' : World} (h : Below B w w') : Bu2 B f t w w' := ⟨h.os, h.tape, h.output, h.size, fun k hk _ _ => h.block k hk⟩
theorem Bu2.below {B f t : Nat} {w w' : World} (h : Bu2 B f t w w') {B' : Nat} (h1 : B' ≤ B) (h2 : B' ≤ f) (h3 : B' ≤ t) : Below B' w w' := ⟨h.os, h.tape, h.output, h.size, fun k hk => h.block k (by omega) (by omega) (by omega)⟩
theorem Bu2.setF {B f t : Nat} {x w : World} (h : Bu2 B f t x w) (k : Nat) (v : Value) (n : Nat) : Bu2 B f t x ((w.setCell ⟨f, k, none⟩ v).drewN n) :=
  ⟨h.os, h.tape, h.output, by have := h.size; simpa [World.setCell] using this, fun j hj h1 h2 => (heap_setCell_other w ⟨f, k, none⟩ j v h1).trans (h.block j hj h1 h2)⟩
theorem Bu2.setT {B f t : Nat} {x w : World} (h : Bu2 B f t x w) (k : Nat) (v : Value) (n : Nat) : Bu2 B f t x ((w.setCell ⟨t, k, none⟩ v).drewN n) :=
  ⟨h.os, h.tape, h.output, by have := h.size; simpa [World.setCell] using this, fun j hj h1 h2 => (heap_setCell_other w ⟨t, k, none⟩ j v h2).trans (h.block j hj h1 h2)⟩
theorem RgAt.bu {w w' : World} {B f t g : Nat} {W : Int} {v : Value} (h : RgAt w g W v) (hb : Bu2 B f t w w') (hlt : g < B) (h1 : g ≠ f) (h2 : g ≠ t) : RgAt w' g W v := (hb.block g hlt h1 h2).trans h

/-- What a call on two regions of one grid has moved so far. -/
structure MvS (N M b1 b2 f t : Nat) (F T : List Int) (w : World) (G T2 : List Int) (w' : World) : Prop where
  rg : Rg N M G
  rt : Rg N M T2
  all : ∀ q, bt T2 q = true ↔ bt T q = true ∨ (bt F q = true ∧ ¬ bt G q = true)
  of : w'.ownsRow b1 3 1 (.slice (some ⟨f, 0, none⟩) M M) M (iv G)
  ot : w'.ownsRow b2 3 1 (.slice (some ⟨t, 0, none⟩) M M) M (iv T2)
  bu : Bu2 w.heap.size f t w w'
theorem MvS.start {N M b1 b2 f t : Nat} {F T : List Int} {w : World} (h1 : Rg N M F) (h2 : Rg N M T) (h3 : w.ownsRow b1 3 1 (.slice (some ⟨f, 0, none⟩) M M) M (iv F)) (h4 : w.ownsRow b2 3 1 (.slice (some ⟨t, 0, none⟩) M M) M (iv T)) : MvS N M b1 b2 f t F T w F T w :=
  ⟨h1, h2, fun _ => ⟨.inl, fun h => h.elim id fun h => absurd h.1 h.2⟩, h3, h4, Bu2.refl _ _ _ _⟩
theorem MvS.again {N M b1 b2 f t : Nat} {F T G T2 : List Int} {w w' : World} (h : MvS N M b1 b2 f t F T w G T2 w') : MvS N M b1 b2 f t G T2 w' G T2 w' := .start h.rg h.rt h.of h.ot
theorem MvS.on {N M b1 b2 f t : Nat} {F T G T2 : List Int} {w w' w2 : World} (h : MvS N M b1 b2 f t F T w G T2 w') (hb : Below w'.heap.size w' w2) : MvS N M b1 b2 f t F T w G T2 w2 :=
  ⟨h.rg, h.rt, h.all, h.of.kept (grow_below hb none) (.inr (by intro e; cases e)), h.ot.kept (grow_below hb none) (.inr (by intro e; cases e)), h.bu.trans (Bu2.of_below (hb.mono h.bu.size))⟩
theorem MvS.trans {N M b1 b2 f t : Nat} {F T G T2 G' T3 : List Int} {w w1 w2 : World} (h : MvS N M b1 b2 f t F T w G T2 w1) (k : MvS N M b1 b2 f t G T2 w1 G' T3 w2) (h1 : ∀ q, bt G q = true → bt F q = true) (h2 : ∀ q, bt G' q = true → bt G q = true) : MvS N M b1 b2 f t F T w G' T3 w2 :=
  ⟨k.rg, k.rt, fun q => by
    rw [k.all q, h.all q]
    constructor
    · rintro ((a | a) | a)
      · exact .inl a
      · exact .inr ⟨a.1, fun b => a.2 (h2 q b)⟩
      · exact .inr ⟨h1 q a.1, a.2⟩
    · rintro (a | a)
      · exact .inl (.inl a)
      · by_cases b : bt G q = true
        · exact .inr ⟨b, a.2⟩
        · exact .inl (.inr ⟨a.1, b⟩), k.of, k.ot, h.bu.trans (k.bu.mono h.bu.size)⟩

set_option maxHeartbeats 8000000 in
set_option maxRecDepth 100000 in
theorem iMovePart (N M b1 b2 f t : Nat) (hft : f ≠ t) : ∀ (m : Nat) (F T : List Int) (x y : Int) (w : World), (cellsB N M F).length < m → MvS N M b1 b2 f t F T w F T w → (-1 ≤ x ∧ x ≤ 10) → (-1 ≤ y ∧ y ≤ 10) →
    Calls Tryz.prog 54 #[.agg #[.int .i64 N, .slice (some ⟨f, 0, none⟩) M M], .agg #[.int .i64 N, .slice (some ⟨t, 0, none⟩) M M], .agg #[.int .i64 x, .int .i64 y]] w fun e w' => e = .returned (.tuple #[]) ∧ ∃ G T2, Mv (InP F) (InP G) (x, y) ∧ MvS N M b1 b2 f t F T w G T2 w' := by
  intro m
  induction m with
  | zero => intro F T x y w h; omega
  | succ m ih =>
    intro F T x y w hm hS hx hy
    have HIH := Lib.hid ih
    have hM6 := hS.rg.h6
    have eg : ∀ args w, (callFunc 54 args).run Tryz.prog w = .ok (.enter 54 args) w := enters_of Tryz.func54 (by kernel_rfl) rfl
    have hfl := (hS.of.lt f rfl).2
    have htl := (hS.ot.lt t rfl).2
    have hbA := (((Below.refl w.heap.size w).alloc (Nat.le_refl _) (.cells #[.int .i64 N, .slice (some ⟨f, 0, none⟩) M M] 26)).alloc (by simp) (.cells #[.int .i64 N, .slice (some ⟨t, 0, none⟩) M M] 26)).alloc (by simp; omega) (.cells #[.int .i64 x, .int .i64 y] 79)
    have r1 : RgAt (((w.alloc (.cells #[.int .i64 N, .slice (some ⟨f, 0, none⟩) M M] 26)).alloc (.cells #[.int .i64 N, .slice (some ⟨t, 0, none⟩) M M] 26)).alloc (.cells #[.int .i64 x, .int .i64 y] 79)) w.heap.size N (.slice (some ⟨f, 0, none⟩) M M) := ((RgAt.new (w := w) N _ rfl).alloc _).alloc _
    have r2 : RgAt (((w.alloc (.cells #[.int .i64 N, .slice (some ⟨f, 0, none⟩) M M] 26)).alloc (.cells #[.int .i64 N, .slice (some ⟨t, 0, none⟩) M M] 26)).alloc (.cells #[.int .i64 x, .int .i64 y] 79)) (w.heap.size + 1) N (.slice (some ⟨t, 0, none⟩) M M) := (RgAt.new (w := w.alloc _) N _ (by simp)).alloc _
    have r3 : Two (((w.alloc (.cells #[.int .i64 N, .slice (some ⟨f, 0, none⟩) M M] 26)).alloc (.cells #[.int .i64 N, .slice (some ⟨t, 0, none⟩) M M] 26)).alloc (.cells #[.int .i64 x, .int .i64 y] 79)) (w.heap.size + 1 + 1) x y := Two.at2 _ _ x y
    have HSA := Lib.hid (hS.on hbA)
    have c0 := r1.c0
    have c1 := r1.c1
    have d0 := r3.c0
    have d1 := r3.c1
    clear ih hbA hS
    go_enter Tryz.func54, Tryz.ntmps54
    go_wp2_with fail
    generalize (((w.alloc (.cells #[.int .i64 N, .slice (some ⟨f, 0, none⟩) M M] 26)).alloc (.cells #[.int .i64 N, .slice (some ⟨t, 0, none⟩) M M] 26)).alloc (.cells #[.int .i64 x, .int .i64 y] 79)) = W1 at *
    refine (iInReg W1.heap.size M M (some ⟨f, 0, none⟩) N F x y W1 (by omega) (IntsAt.of_own HSA.out.of HSA.out.rg.in64) (Nat.le_refl _)).mono ?_
    rintro e w2 ⟨rfl, hb2⟩
    have HS2 := Lib.hid (HSA.out.on hb2)
    have k1 := r1.on hb2 r1.lt
    have k2 := r2.on hb2 r2.lt
    have k3 := r3.on hb2 r3.lt
    clear c0 c1 d0 d1 r1 r2 r3 hb2 HSA
    cases hin : cellB N F x y with
    | false =>
      have HM := Lib.hid (show Mv (InP F) (InP F) (x, y) from Mv.off fun h => by
        unfold cellB at hin
        rw [isReg_of HS2.out.rg] at hin
        unfold InP at h
        rw [h] at hin
        cases hin)
      clear hin k1 k2 k3
      go_wp2
      exact bodyPost_ret (v := .tuple #[]) (by simp [results, Tryz.results54, go_sem]) rfl ⟨rfl, F, T, HM.out, HS2.out⟩
    | true =>
      obtain ⟨N', u, v, eN, rfl, rfl, hr, hu, hv, htb⟩ := cellB_out hin
      obtain rfl : N = N' := by omega
      clear eN
      have hcell : bt F ((u : Int), (v : Int)) = true := by rw [bt_nat]; exact htb
      have hlen := HS2.out.rg.len
      have hN6 := HS2.out.rg.w6
      have huN : u < N := by omega
      have hvM : v < M := by omega
      have hG : inG N M ((u : Int), (v : Int)) := by unfold inG; dsimp only; omega
      have HC := Lib.hid hcell
      have hn1 := HS2.out.rg.nat hvM
      have hn2 := HS2.out.rt.nat hvM
      have hcv := andNot_val hn1.2.2 (show u < 6 by omega)
      have hcw := or_val hn2.2.2 (show u < 6 by omega)
      have p1 := HS2.out.of.cellAt v (by omega)
      rw [iv_get _ _ (by omega), hn1.1] at p1
      have p2 := HS2.out.of.frozenAt v
      have hs := HS2.out.of.stored v (.int .i64 ((clrN (rN F v) u : Nat) : Int))
      rw [iv_set, ← clr_at] at hs
      have HF := Lib.hid hs.1
      have hlt2 := HS2.out.rt.len
      have q1 := HS2.out.ot.cellAt v (by omega)
      rw [iv_get _ _ (by omega), hn2.1] at q1
      have q2 := HS2.out.ot.frozenAt v
      obtain ⟨z1, hz1⟩ : ∃ z, rN F v = z := ⟨_, rfl⟩
      rw [hz1] at hcv p1 HF
      obtain ⟨a1, ha1⟩ : ∃ c, ((clrN z1 u : Nat) : Int) = c := ⟨_, rfl⟩
      rw [ha1] at hcv HF
      have HCV := Lib.hid hcv
      have HT0 := Lib.hid (own_far (b := f) (o := v) (u := .int .i64 a1) HS2.out.ot hft)
      have q1f : (w2.setCell ⟨f, v, none⟩ (.int .i64 a1)).cell? ⟨t, v, none⟩ = some (.int .i64 ((rN T v : Nat) : Int)) := (cell_far (by omega)).trans q1
      have q2f : (w2.setCell ⟨f, v, none⟩ (.int .i64 a1)).frozen? ⟨t, v, none⟩ = false := HT0.out.frozenAt v
      have ht : (iv T).set v (.int .i64 ((rN T v ||| 2 ^ u : Nat) : Int)) = iv (setB T ((u : Int), (v : Int))) := by rw [iv_set, ← set_at]
      have HT := Lib.hid ht
      have HBA := Lib.hid HS2.out.bu
      have HPT := Lib.hid (show Mp (InP F) (InP (clrB F ((u : Int), (v : Int)))) ((u : Int), (v : Int)) 0 from Mp.start hcell fun q => HS2.out.rg.bt_clr hG q)
      have HALL := Lib.hid (show ∀ q, bt (setB T ((u : Int), (v : Int))) q = true ↔ bt T q = true ∨ (bt F q = true ∧ ¬ bt (clrB F ((u : Int), (v : Int))) q = true) from fun q => by
        rw [HS2.out.rt.bt_set hG q, HS2.out.rg.bt_clr hG q]
        constructor
        · rintro (h | rfl)
          · exact .inl h
          · exact .inr ⟨hcell, fun h => h.2 rfl⟩
        · rintro (h | h)
          · exact .inl h
          · exact .inr (Classical.byContradiction fun h9 => h.2 ⟨h.1, h9⟩))
      have HRF := Lib.hid HS2.out.rg
      have HGF := Lib.hid (HS2.out.rg.clr hG)
      have HGT := Lib.hid (HS2.out.rt.set hG)
      obtain ⟨z2, hz2⟩ : ∃ z, rN T v = z := ⟨_, rfl⟩
      rw [hz2] at hcw q1f HT
      obtain ⟨a2, ha2⟩ : ∃ c, ((z2 ||| 2 ^ u : Nat) : Int) = c := ⟨_, rfl⟩
      rw [ha2] at hcw HT
      have HCW := Lib.hid hcw
      have HS2N := Lib.hid (show w.heap.size + 1 + 1 < w2.heap.size from k3.lt)
      clear hs ht hcv hcw hz1 hz2 ha1 ha2 hn1 hn2 hin hr htb hlt2 q1 q2 hcell HS2 hlen hv hu
      have hv0 : (0 : Int) ≤ (v : Int) := by omega
      have hv1 : (v : Int) < (M : Int) := by omega
      have y1 := k1.c1
      have x0 := k3.c0
      have x1 := k3.c1
      go_wp2_with fail
      go_region_held3 (fun w' => w'.cell? ⟨w.heap.size, 1, none⟩ = some (.slice (some ⟨f, 0, none⟩) M M) ∧ w'.cell? ⟨w.heap.size + 1 + 1, 0, none⟩ = some (.int .i64 (u : Int)) ∧ w'.cell? ⟨w.heap.size + 1 + 1, 1, none⟩ = some (.int .i64 (v : Int)))
        (first
          | exact ⟨y1, x0, x1⟩
          | exact ⟨(cell_far (w := w2.drew) (g := f) (o := v) (by omega)).trans y1, (cell_far (w := w2.drew) (g := f) (o := v) (by omega)).trans x0, (cell_far (w := w2.drew) (g := f) (o := v) (by omega)).trans x1⟩)
        (first
          | (go_at_call 60
             refine (iUnsC f v u z1 w2.drew p1 p2).mono ?_
             rintro e w' ⟨rfl, q, rfl⟩))
      all_goals
        rw [HCV.out]
        have K1 := Lib.hid (show RgAt ((w2.setCell ⟨f, v, none⟩ (.int .i64 a1)).drewN (1 + q)) w.heap.size N (.slice (some ⟨f, 0, none⟩) M M) from RgAt.far (w := w2) k1 (by omega))
        have K2 : RgAt ((w2.setCell ⟨f, v, none⟩ (.int .i64 a1)).drewN (1 + q)) (w.heap.size + 1) N (.slice (some ⟨t, 0, none⟩) M M) := RgAt.far (w := w2) k2 (by omega)
        have K3 : Two ((w2.setCell ⟨f, v, none⟩ (.int .i64 a1)).drewN (1 + q)) (w.heap.size + 1 + 1) u v := Two.far (w := w2) k3 (by omega)
        have HT3 := Lib.hid (show ((w2.setCell ⟨f, v, none⟩ (.int .i64 a1)).drewN (1 + q)).ownsRow b2 3 1 (.slice (some ⟨t, 0, none⟩) M M) M (iv T) from HT0.out)
        have HF3 := Lib.hid (show ((w2.setCell ⟨f, v, none⟩ (.int .i64 a1)).drewN (1 + q)).ownsRow b1 3 1 (.slice (some ⟨f, 0, none⟩) M M) M (iv (clrB F ((u : Int), (v : Int)))) from HF.out)
        have HB3 := Lib.hid (HBA.out.setF v (.int .i64 a1) (1 + q))
        have t1 : ((w2.setCell ⟨f, v, none⟩ (.int .i64 a1)).drewN (1 + q)).cell? ⟨t, v, none⟩ = some (.int .i64 ((z2 : Nat) : Int)) := q1f
        have t2 : ((w2.setCell ⟨f, v, none⟩ (.int .i64 a1)).drewN (1 + q)).frozen? ⟨t, v, none⟩ = false := q2f
        have hsz3 : w.heap.size + 1 + 1 < ((w2.setCell ⟨f, v, none⟩ (.int .i64 a1)).drewN (1 + q)).heap.size := by have := HS2N.out; have h9 := (grown_set1 w2 f v (.int .i64 a1)).size; exact Nat.lt_of_lt_of_le this h9
        generalize ((w2.setCell ⟨f, v, none⟩ (.int .i64 a1)).drewN (1 + q)) = W3 at *
        clear y1 x0 x1 p1 p2 q1f q2f k1 k2 k3 HT0 HF HBA HCV
        have y1 := K2.c1
        have x0 := K3.c0
        have x1 := K3.c1
        go_wp2_with fail
        go_region_held3 (fun w' => w'.cell? ⟨w.heap.size + 1, 1, none⟩ = some (.slice (some ⟨t, 0, none⟩) M M) ∧ w'.cell? ⟨w.heap.size + 1 + 1, 0, none⟩ = some (.int .i64 (u : Int)) ∧ w'.cell? ⟨w.heap.size + 1 + 1, 1, none⟩ = some (.int .i64 (v : Int)))
          (first
            | exact ⟨y1, x0, x1⟩
            | exact ⟨(cell_far (w := W3.drew) (g := t) (o := v) (by omega)).trans y1, (cell_far (w := W3.drew) (g := t) (o := v) (by omega)).trans x0, (cell_far (w := W3.drew) (g := t) (o := v) (by omega)).trans x1⟩)
          (first
            | (go_at_call 44
               refine (iSetC t v u z2 W3.drew t1 t2).mono ?_
               rintro e w' ⟨rfl, q, rfl⟩))
        all_goals
          rw [HCW.out]
          have hs4 := HT3.out.stored v (.int .i64 a2)
          rw [HT.out] at hs4
          have K4 := Lib.hid (show RgAt ((W3.setCell ⟨t, v, none⟩ (.int .i64 a2)).drewN (1 + q)) w.heap.size N (.slice (some ⟨f, 0, none⟩) M M) from RgAt.far (w := W3) K1.out (by omega))
          have K5 := Lib.hid (show RgAt ((W3.setCell ⟨t, v, none⟩ (.int .i64 a2)).drewN (1 + q)) (w.heap.size + 1) N (.slice (some ⟨t, 0, none⟩) M M) from RgAt.far (w := W3) K2 (by omega))
          have K6 : Two ((W3.setCell ⟨t, v, none⟩ (.int .i64 a2)).drewN (1 + q)) (w.heap.size + 1 + 1) u v := Two.far (w := W3) K3 (by omega)
          have HO4 := Lib.hid (show MvS N M b1 b2 f t F T w (clrB F ((u : Int), (v : Int))) (setB T ((u : Int), (v : Int))) ((W3.setCell ⟨t, v, none⟩ (.int .i64 a2)).drewN (1 + q)) from
            ⟨HGF.out, HGT.out, HALL.out, own_far (b := t) (o := v) (u := .int .i64 a2) HF3.out (by omega), hs4.1, HB3.out.setT v (.int .i64 a2) (1 + q)⟩)
          have hsz4 : w.heap.size + 1 + 1 < ((W3.setCell ⟨t, v, none⟩ (.int .i64 a2)).drewN (1 + q)).heap.size := Nat.lt_of_lt_of_le hsz3 (grown_set1 W3 t v (.int .i64 a2)).size
          clear hs4 K1 K2 K3 HT3 HF3 HB3 t1 t2 y1 x0 x1
          generalize ((W3.setCell ⟨t, v, none⟩ (.int .i64 a2)).drewN (1 + q)) = W4 at *
          have x0 := K6.c0
          have x1 := K6.c1
          clear K6
          go_wp2_with fail
          refine (iBeside (u : Int) (v : Int) W4 (by omega) (by omega)).mono ?_
          rintro e w5 ⟨rfl, hb5⟩
          have HO5 := Lib.hid (HO4.out.on hb5)
          have K7 := Lib.hid (K4.out.on hb5 K4.out.lt)
          have K8 := Lib.hid (K5.out.on hb5 K5.out.lt)
          have hsz5 : w.heap.size + 1 + 1 < w5.heap.size := Nat.lt_of_lt_of_le hsz4 hb5.size
          clear hb5 HO4 K4 K5 x0 x1
          have HNX := Lib.hid (fun d hd w => nbv_index ((u : Int), (v : Int)) d hd w)
          obtain ⟨NB, hNB⟩ : ∃ NB, nbv ((u : Int), (v : Int)) = NB := ⟨_, rfl⟩
          rw [hNB] at HNX ⊢
          clear hNB
          go_wp2
          go_loopw [33] (fun i wr => ∃ (d : Nat) (G T2 : List Int), d ≤ 4 ∧ i = .int .i64 d ∧ Hid (Mp (InP F) (InP G) ((u : Int), (v : Int)) d) ∧ Hid (MvS N M b1 b2 f t F T w G T2 wr) ∧ Hid (RgAt wr w.heap.size N (.slice (some ⟨f, 0, none⟩) M M)) ∧ Hid (RgAt wr (w.heap.size + 1) N (.slice (some ⟨t, 0, none⟩) M M))) (fun i _ => 4 - (intOf i).toNat)
          case atStart => exact ⟨0, _, _, by omega, rfl, HPT.out, HO5.out, K7.out, K8.out⟩
          case round =>
            obtain ⟨d, G, T2, hd, rfl, hp, ho, h1, h2⟩ := hrel
            clear HO5 K7 K8
            by_cases hdt : d < 4
            · have hd1 : (d : Int) < 4 := by omega
              have hd0 : (0 : Int) ≤ (d : Int) := by omega
              have hix := HNX.out d hdt
              have hpb := nb_rng (show u < 6 by omega) (show v < 6 by omega) hdt
              obtain ⟨p, r, hpr⟩ : ∃ p r, nbC ((u : Int), (v : Int)) d = (p, r) := ⟨_, _, rfl⟩
              rw [hpr] at hix hpb
              dsimp only at hix hpb
              have HPR := Lib.hid hpr
              have hl1 := cells_less HRF.out ho.out.rg (fun q hq => hp.out.sub q hq) HC.out hp.out.self
              have hbN := (Below.refl wr.heap.size wr).alloc (Nat.le_refl _) (.cells #[.int .i64 p, .int .i64 r] 79)
              have ho6 := Lib.hid (ho.out.on hbN)
              have m1 := h1.out.alloc (.cells #[.int .i64 p, .int .i64 r] 79)
              have m2 := h2.out.alloc (.cells #[.int .i64 p, .int .i64 r] 79)
              have m3 := Two.new (w := wr) p r rfl
              have M1 := Lib.hid m1
              have M2 := Lib.hid m2
              have n0 := m1.c0
              have n1 := m1.c1
              have n2 := m2.c0
              have n3 := m2.c1
              have n4 := m3.c0
              have n5 := m3.c1
              have hszw := h2.out.lt
              have hszN := hbN.size
              clear hpr hbN ho h1 h2 m1 m2 m3
              go_wp2_with fail
              generalize (wr.alloc (.cells #[.int .i64 p, .int .i64 r] 79)) = W6 at *
              refine (HIH.out G T2 p r W6 (by omega) ho6.out.again hpb.1 hpb.2).mono ?_
              rintro e w7 ⟨rfl, G', T3, hmv, hs7⟩
              have HP7 := Lib.hid (hp.out.step HC.out hdt (by rw [HPR.out]; exact hmv))
              have HS7 := Lib.hid (ho6.out.trans hs7 (fun q hq => hp.out.sub q hq) (fun q hq => hmv.sub q hq))
              have M3 := Lib.hid (M1.out.bu hs7.bu M1.out.lt (by omega) (by omega))
              have M4 := Lib.hid (M2.out.bu hs7.bu M2.out.lt (by omega) (by omega))
              clear hmv hs7 n0 n1 n2 n3 n4 n5 M1 M2 ho6 hp
              go_wp2
              go_roundw
              case rel => first
                | exact ⟨d + 1, G', T3, by omega, by go_num, HP7.out, HS7.out, M3.out, M4.out⟩
                | (repeat apply Exists.intro
                   exact ⟨⟨d + 1, G', T3, by omega, by go_num, HP7.out, HS7.out, M3.out, M4.out⟩, rfl⟩)
              case measure => simp [intOf]; omega
            · obtain rfl : d = 4 := by omega
              have HR := Lib.hid hp.out.done
              clear hp
              go_wp2
              go_end0
              exact ⟨rfl, G, T2, HR.out, ho.out⟩

end Go.Proofs.YtcfioncnpfoccaaGreatDoor
