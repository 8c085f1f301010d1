/-
  A part moved from one region to another, in the program: what the call gives.
  Lists of regions that the call owns; the parts of a region, in the program: what the call gives.
-/
import Derived.Test.YtbfopdflkkcfaaaSra
import Derived.Test.YtbfopdflkkcfaaaJbs
import Derived.Maps.AppendAt
namespace Go.Proofs.Ytbfopdflkkcfaaa

section
open Go.RowKit

theorem Rg.in64 {W H : Nat} {l : List Int} (h : Rg W H l) : ∀ z ∈ l, In64 z := by
  intro z hz
  obtain ⟨j, hj, rfl⟩ := List.mem_iff_getElem.1 hz
  have h1 := h.nat (y := j) (by rw [← h.len]; exact hj)
  have e : l.getD j 0 = l[j] := by simp [List.getD, hj]
  rw [e] at h1
  unfold In64
  omega
theorem cells_less {W H : Nat} {F G : List Int} (hF : Rg W H F) (hG : Rg W H G) (hs : ∀ q, bt G q = true → bt F q = true) {c : Cl} (hc : bt F c = true) (hn : ¬ bt G c = true) : (cellsB W H G).length < (cellsB W H F).length := by
  have := nodup_sub_len (c :: cellsB W H G) (cellsB W H F) (List.nodup_cons.2 ⟨fun h => hn ((mem_cellsB hG c).1 h), srt_nodup (cellsB_srt _ _ _)⟩) (fun x hx => by
    rcases List.mem_cons.1 hx with rfl | hx
    · exact (mem_cellsB hF _).2 hc
    · exact (mem_cellsB hF x).2 (hs x ((mem_cellsB hG x).1 hx)))
  rw [List.length_cons] at this
  omega
theorem nb_rng {u v : Nat} (hu : u < 6) (hv : v < 6) {d : Nat} (hd : d < 4) : (-1 ≤ (nbC ((u : Int), (v : Int)) d).1 ∧ (nbC ((u : Int), (v : Int)) d).1 ≤ 10) ∧ -1 ≤ (nbC ((u : Int), (v : Int)) d).2 ∧ (nbC ((u : Int), (v : Int)) d).2 ≤ 10 := by
  have : d = 0 ∨ d = 1 ∨ d = 2 ∨ d = 3 := by omega
  rcases this with rfl | rfl | rfl | rfl <;> simp [nbC] <;> omega

/-- Of what was below B nothing has turned but two blocks. -/
structure Bu2 (B f t : Nat) (w w' : World) : Prop where
  os : w'.os = w.os
  tape : w'.tape = w.tape
  output : w'.output = w.output
  size : w.heap.size ≤ w'.heap.size
  block : ∀ k, k < B → k ≠ f → k ≠ t → w'.heap[k]? = w.heap[k]?
theorem Bu2.refl (B f t : Nat) (w : World) : Bu2 B f t w w := ⟨rfl, rfl, rfl, Nat.le_refl _, fun _ _ _ _ => rfl⟩
theorem Bu2.trans {B f t : Nat} {x y z : World} (h : Bu2 B f t x y) (k : Bu2 B f t y z) : Bu2 B f t x z :=
  ⟨k.os.trans h.os, k.tape.trans h.tape, k.output.trans h.output, Nat.le_trans h.size k.size, fun i hi h1 h2 => (k.block i hi h1 h2).trans (h.block i hi h1 h2)⟩
theorem Bu2.mono {B B' f t : Nat} {w w' : World} (h : Bu2 B f t w w') (hB : B' ≤ B) : Bu2 B' f t w w' := ⟨h.os, h.tape, h.output, h.size, fun k hk => h.block k (Nat.lt_of_lt_of_le hk hB)⟩
theorem Bu2.of_below {B f t : Nat} {w w' : World} (h : Below B w w') : Bu2 B f t w w' := ⟨h.os, h.tape, h.output, h.size, fun k hk _ _ => h.block k hk⟩
theorem Bu2.below {B f t : Nat} {w w' : World} (h : Bu2 B f t w w') {B' : Nat} (h1 : B' ≤ B) (h2 : B' ≤ f) (h3 : B' ≤ t) : Below B' w w' := ⟨h.os, h.tape, h.output, h.size, fun k hk => h.block k (by omega) (by omega) (by omega)⟩
theorem Bu2.setF {B f t : Nat} {x w : World} (h : Bu2 B f t x w) (k : Nat) (v : Value) (n : Nat) : Bu2 B f t x ((w.setCell ⟨f, k, none⟩ v).drewN n) :=
  ⟨h.os, h.tape, h.output, by have := h.size; simpa [World.setCell] using this, fun j hj h1 h2 => (heap_setCell_other w ⟨f, k, none⟩ j v h1).trans (h.block j hj h1 h2)⟩
theorem Bu2.setT {B f t : Nat} {x w : World} (h : Bu2 B f t x w) (k : Nat) (v : Value) (n : Nat) : Bu2 B f t x ((w.setCell ⟨t, k, none⟩ v).drewN n) :=
  ⟨h.os, h.tape, h.output, by have := h.size; simpa [World.setCell] using this, fun j hj h1 h2 => (heap_setCell_other w ⟨t, k, none⟩ j v h2).trans (h.block j hj h1 h2)⟩
theorem RgAt.bu {w w' : World} {B f t g : Nat} {W : Int} {v : Value} (h : RgAt w g W v) (hb : Bu2 B f t w w') (hlt : g < B) (h1 : g ≠ f) (h2 : g ≠ t) : RgAt w' g W v := (hb.block g hlt h1 h2).trans h

/-- What a call on two regions of one grid has moved so far. -/
structure MvS (N M b1 b2 f t : Nat) (F T : List Int) (w : World) (G T2 : List Int) (w' : World) : Prop where
  rg : Rg N M G
  rt : Rg N M T2
  all : ∀ q, bt T2 q = true ↔ bt T q = true ∨ (bt F q = true ∧ ¬ bt G q = true)
  of : w'.ownsRow b1 3 1 (.slice (some ⟨f, 0, none⟩) M M) M (iv G)
  ot : w'.ownsRow b2 3 1 (.slice (some ⟨t, 0, none⟩) M M) M (iv T2)
  bu : Bu2 w.heap.size f t w w'
theorem MvS.start {N M b1 b2 f t : Nat} {F T : List Int} {w : World} (h1 : Rg N M F) (h2 : Rg N M T) (h3 : w.ownsRow b1 3 1 (.slice (some ⟨f, 0, none⟩) M M) M (iv F)) (h4 : w.ownsRow b2 3 1 (.slice (some ⟨t, 0, none⟩) M M) M (iv T)) : MvS N M b1 b2 f t F T w F T w :=
  ⟨h1, h2, fun _ => ⟨.inl, fun h => h.elim id fun h => absurd h.1 h.2⟩, h3, h4, Bu2.refl _ _ _ _⟩
theorem MvS.again {N M b1 b2 f t : Nat} {F T G T2 : List Int} {w w' : World} (h : MvS N M b1 b2 f t F T w G T2 w') : MvS N M b1 b2 f t G T2 w' G T2 w' := .start h.rg h.rt h.of h.ot
theorem MvS.on {N M b1 b2 f t : Nat} {F T G T2 : List Int} {w w' w2 : World} (h : MvS N M b1 b2 f t F T w G T2 w') (hb : Below w'.heap.size w' w2) : MvS N M b1 b2 f t F T w G T2 w2 :=
  ⟨h.rg, h.rt, h.all, h.of.kept (grow_below hb none) (.inr (by intro e; cases e)), h.ot.kept (grow_below hb none) (.inr (by intro e; cases e)), h.bu.trans (Bu2.of_below (hb.mono h.bu.size))⟩
theorem MvS.trans {N M b1 b2 f t : Nat} {F T G T2 G' T3 : List Int} {w w1 w2 : World} (h : MvS N M b1 b2 f t F T w G T2 w1) (k : MvS N M b1 b2 f t G T2 w1 G' T3 w2) (h1 : ∀ q, bt G q = true → bt F q = true) (h2 : ∀ q, bt G' q = true → bt G q = true) : MvS N M b1 b2 f t F T w G' T3 w2 :=
  ⟨k.rg, k.rt, fun q => by
    rw [k.all q, h.all q]
    constructor
    · rintro ((a | a) | a)
      · exact .inl a
      · exact .inr ⟨a.1, fun b => a.2 (h2 q b)⟩
      · exact .inr ⟨h1 q a.1, a.2⟩
    · rintro (a | a)
      · exact .inl (.inl a)
      · by_cases b : bt G q = true
        · exact .inr ⟨b, a.2⟩
        · exact .inl (.inr ⟨a.1, b⟩), k.of, k.ot, h.bu.trans (k.bu.mono h.bu.size)⟩

set_option maxHeartbeats 8000000 in
set_option maxRecDepth 100000 in
theorem iMovePart (N M b1 b2 f t : Nat) (hft : f ≠ t) : ∀ (m : Nat) (F T : List Int) (x y : Int) (w : World), (cellsB N M F).length < m → MvS N M b1 b2 f t F T w F T w → (-1 ≤ x ∧ x ≤ 10) → (-1 ≤ y ∧ y ≤ 10) →
    Calls Try.prog 73 #[.agg #[.int .i64 N, .slice (some ⟨f, 0, none⟩) M M], .agg #[.int .i64 N, .slice (some ⟨t, 0, none⟩) M M], .agg #[.int .i64 x, .int .i64 y]] w fun e w' => e = .returned (.tuple #[]) ∧ ∃ G T2, Mv (InP F) (InP G) (x, y) ∧ MvS N M b1 b2 f t F T w G T2 w' := by
  intro m
  induction m with
  | zero => intro F T x y w h; omega
  | succ m ih =>
    intro F T x y w hm hS hx hy
    have HIH := Lib.hid ih
    have hM6 := hS.rg.h6
    have eg : ∀ args w, (callFunc 73 args).run Try.prog w = .ok (.enter 73 args) w := enters_of Try.func73 (by kernel_rfl) rfl
    have hfl := (hS.of.lt f rfl).2
    have htl := (hS.ot.lt t rfl).2
    have hbA := (((Below.refl w.heap.size w).alloc (Nat.le_refl _) (.cells #[.int .i64 N, .slice (some ⟨f, 0, none⟩) M M] 27)).alloc (by simp) (.cells #[.int .i64 N, .slice (some ⟨t, 0, none⟩) M M] 27)).alloc (by simp; omega) (.cells #[.int .i64 x, .int .i64 y] 69)
    have r1 : RgAt (((w.alloc (.cells #[.int .i64 N, .slice (some ⟨f, 0, none⟩) M M] 27)).alloc (.cells #[.int .i64 N, .slice (some ⟨t, 0, none⟩) M M] 27)).alloc (.cells #[.int .i64 x, .int .i64 y] 69)) w.heap.size N (.slice (some ⟨f, 0, none⟩) M M) := ((RgAt.new (w := w) N _ rfl).alloc _).alloc _
    have r2 : RgAt (((w.alloc (.cells #[.int .i64 N, .slice (some ⟨f, 0, none⟩) M M] 27)).alloc (.cells #[.int .i64 N, .slice (some ⟨t, 0, none⟩) M M] 27)).alloc (.cells #[.int .i64 x, .int .i64 y] 69)) (w.heap.size + 1) N (.slice (some ⟨t, 0, none⟩) M M) := (RgAt.new (w := w.alloc _) N _ (by simp)).alloc _
    have r3 : Two (((w.alloc (.cells #[.int .i64 N, .slice (some ⟨f, 0, none⟩) M M] 27)).alloc (.cells #[.int .i64 N, .slice (some ⟨t, 0, none⟩) M M] 27)).alloc (.cells #[.int .i64 x, .int .i64 y] 69)) (w.heap.size + 1 + 1) x y := Two.at2 _ _ x y
    have HSA := Lib.hid (hS.on hbA)
    have c0 := r1.c0
    have c1 := r1.c1
    have d0 := r3.c0
    have d1 := r3.c1
    clear ih hbA hS
    go_enter Try.func73, Try.ntmps73
    go_wp2_with fail
    generalize (((w.alloc (.cells #[.int .i64 N, .slice (some ⟨f, 0, none⟩) M M] 27)).alloc (.cells #[.int .i64 N, .slice (some ⟨t, 0, none⟩) M M] 27)).alloc (.cells #[.int .i64 x, .int .i64 y] 69)) = W1 at *
    refine (iInReg W1.heap.size M M (some ⟨f, 0, none⟩) N F x y W1 (by omega) (IntsAt.of_own HSA.out.of HSA.out.rg.in64) (Nat.le_refl _)).mono ?_
    rintro e w2 ⟨rfl, hb2⟩
    have HS2 := Lib.hid (HSA.out.on hb2)
    have k1 := r1.on hb2 r1.lt
    have k2 := r2.on hb2 r2.lt
    have k3 := r3.on hb2 r3.lt
    clear c0 c1 d0 d1 r1 r2 r3 hb2 HSA
    cases hin : cellB N F x y with
    | false =>
      have HM := Lib.hid (show Mv (InP F) (InP F) (x, y) from Mv.off fun h => by
        unfold cellB at hin
        rw [isReg_of HS2.out.rg] at hin
        unfold InP at h
        rw [h] at hin
        cases hin)
      clear hin k1 k2 k3
      go_wp2
      exact bodyPost_ret (v := .tuple #[]) (by simp [results, Try.results73, go_sem]) rfl ⟨rfl, F, T, HM.out, HS2.out⟩
    | true =>
      obtain ⟨N', u, v, eN, rfl, rfl, hr, hu, hv, htb⟩ := cellB_out hin
      obtain rfl : N = N' := by omega
      clear eN
      have hcell : bt F ((u : Int), (v : Int)) = true := by rw [bt_nat]; exact htb
      have hlen := HS2.out.rg.len
      have hN6 := HS2.out.rg.w6
      have huN : u < N := by omega
      have hvM : v < M := by omega
      have hG : inG N M ((u : Int), (v : Int)) := by unfold inG; dsimp only; omega
      have HC := Lib.hid hcell
      have hn1 := HS2.out.rg.nat hvM
      have hn2 := HS2.out.rt.nat hvM
      have hcv := andNot_val hn1.2.2 (show u < 6 by omega)
      have hcw := or_val hn2.2.2 (show u < 6 by omega)
      have p1 := HS2.out.of.cellAt v (by omega)
      rw [iv_get _ _ (by omega), hn1.1] at p1
      have p2 := HS2.out.of.frozenAt v
      have hs := HS2.out.of.stored v (.int .i64 ((clrN (rN F v) u : Nat) : Int))
      rw [iv_set, ← clr_at] at hs
      have HF := Lib.hid hs.1
      have hlt2 := HS2.out.rt.len
      have q1 := HS2.out.ot.cellAt v (by omega)
      rw [iv_get _ _ (by omega), hn2.1] at q1
      have q2 := HS2.out.ot.frozenAt v
      obtain ⟨z1, hz1⟩ : ∃ z, rN F v = z := ⟨_, rfl⟩
      rw [hz1] at hcv p1 HF
      obtain ⟨a1, ha1⟩ : ∃ c, ((clrN z1 u : Nat) : Int) = c := ⟨_, rfl⟩
      rw [ha1] at hcv HF
      have HCV := Lib.hid hcv
      have HT0 := Lib.hid (own_far (b := f) (o := v) (u := .int .i64 a1) HS2.out.ot hft)
      have q1f : (w2.setCell ⟨f, v, none⟩ (.int .i64 a1)).cell? ⟨t, v, none⟩ = some (.int .i64 ((rN T v : Nat) : Int)) := (cell_far (by omega)).trans q1
      have q2f : (w2.setCell ⟨f, v, none⟩ (.int .i64 a1)).frozen? ⟨t, v, none⟩ = false := HT0.out.frozenAt v
      have ht : (iv T).set v (.int .i64 ((rN T v ||| 2 ^ u : Nat) : Int)) = iv (setB T ((u : Int), (v : Int))) := by rw [iv_set, ← set_at]
      have HT := Lib.hid ht
      have HBA := Lib.hid HS2.out.bu
      have HPT := Lib.hid (show Mp (InP F) (InP (clrB F ((u : Int), (v : Int)))) ((u : Int), (v : Int)) 0 from Mp.start hcell fun q => HS2.out.rg.bt_clr hG q)
      have HALL := Lib.hid (show ∀ q, bt (setB T ((u : Int), (v : Int))) q = true ↔ bt T q = true ∨ (bt F q = true ∧ ¬ bt (clrB F ((u : Int), (v : Int))) q = true) from fun q => by
        rw [HS2.out.rt.bt_set hG q, HS2.out.rg.bt_clr hG q]
        constructor
        · rintro (h | rfl)
          · exact .inl h
          · exact .inr ⟨hcell, fun h => h.2 rfl⟩
        · rintro (h | h)
          · exact .inl h
          · exact .inr (Classical.byContradiction fun h9 => h.2 ⟨h.1, h9⟩))
      have HRF := Lib.hid HS2.out.rg
      have HGF := Lib.hid (HS2.out.rg.clr hG)
      have HGT := Lib.hid (HS2.out.rt.set hG)
      obtain ⟨z2, hz2⟩ : ∃ z, rN T v = z := ⟨_, rfl⟩
      rw [hz2] at hcw q1f HT
      obtain ⟨a2, ha2⟩ : ∃ c, ((z2 ||| 2 ^ u : Nat) : Int) = c := ⟨_, rfl⟩
      rw [ha2] at hcw HT
      have HCW := Lib.hid hcw
      have HS2N := Lib.hid (show w.heap.size + 1 + 1 < w2.heap.size from k3.lt)
      clear hs ht hcv hcw hz1 hz2 ha1 ha2 hn1 hn2 hin hr htb hlt2 q1 q2 hcell HS2 hlen hv hu
      have hv0 : (0 : Int) ≤ (v : Int) := by omega
      have hv1 : (v : Int) < (M : Int) := by omega
      have y1 := k1.c1
      have x0 := k3.c0
      have x1 := k3.c1
      go_wp2_with fail
      go_region_held3 (fun w' => w'.cell? ⟨w.heap.size, 1, none⟩ = some (.slice (some ⟨f, 0, none⟩) M M) ∧ w'.cell? ⟨w.heap.size + 1 + 1, 0, none⟩ = some (.int .i64 (u : Int)) ∧ w'.cell? ⟨w.heap.size + 1 + 1, 1, none⟩ = some (.int .i64 (v : Int)))
        (first
          | exact ⟨y1, x0, x1⟩
          | exact ⟨(cell_far (w := w2.drew) (g := f) (o := v) (by omega)).trans y1, (cell_far (w := w2.drew) (g := f) (o := v) (by omega)).trans x0, (cell_far (w := w2.drew) (g := f) (o := v) (by omega)).trans x1⟩)
        (first
          | (go_at_call 69
             refine (iUnsC f v u z1 w2.drew p1 p2).mono ?_
             rintro e w' ⟨rfl, q, rfl⟩))
      all_goals
        rw [HCV.out]
        have K1 := Lib.hid (show RgAt ((w2.setCell ⟨f, v, none⟩ (.int .i64 a1)).drewN (1 + q)) w.heap.size N (.slice (some ⟨f, 0, none⟩) M M) from RgAt.far (w := w2) k1 (by omega))
        have K2 : RgAt ((w2.setCell ⟨f, v, none⟩ (.int .i64 a1)).drewN (1 + q)) (w.heap.size + 1) N (.slice (some ⟨t, 0, none⟩) M M) := RgAt.far (w := w2) k2 (by omega)
        have K3 : Two ((w2.setCell ⟨f, v, none⟩ (.int .i64 a1)).drewN (1 + q)) (w.heap.size + 1 + 1) u v := Two.far (w := w2) k3 (by omega)
        have HT3 := Lib.hid (show ((w2.setCell ⟨f, v, none⟩ (.int .i64 a1)).drewN (1 + q)).ownsRow b2 3 1 (.slice (some ⟨t, 0, none⟩) M M) M (iv T) from HT0.out)
        have HF3 := Lib.hid (show ((w2.setCell ⟨f, v, none⟩ (.int .i64 a1)).drewN (1 + q)).ownsRow b1 3 1 (.slice (some ⟨f, 0, none⟩) M M) M (iv (clrB F ((u : Int), (v : Int)))) from HF.out)
        have HB3 := Lib.hid (HBA.out.setF v (.int .i64 a1) (1 + q))
        have t1 : ((w2.setCell ⟨f, v, none⟩ (.int .i64 a1)).drewN (1 + q)).cell? ⟨t, v, none⟩ = some (.int .i64 ((z2 : Nat) : Int)) := q1f
        have t2 : ((w2.setCell ⟨f, v, none⟩ (.int .i64 a1)).drewN (1 + q)).frozen? ⟨t, v, none⟩ = false := q2f
        have hsz3 : w.heap.size + 1 + 1 < ((w2.setCell ⟨f, v, none⟩ (.int .i64 a1)).drewN (1 + q)).heap.size := by have := HS2N.out; have h9 := (grown_set1 w2 f v (.int .i64 a1)).size; exact Nat.lt_of_lt_of_le this h9
        generalize ((w2.setCell ⟨f, v, none⟩ (.int .i64 a1)).drewN (1 + q)) = W3 at *
        clear y1 x0 x1 p1 p2 q1f q2f k1 k2 k3 HT0 HF HBA HCV
        have y1 := K2.c1
        have x0 := K3.c0
        have x1 := K3.c1
        go_wp2_with fail
        go_region_held3 (fun w' => w'.cell? ⟨w.heap.size + 1, 1, none⟩ = some (.slice (some ⟨t, 0, none⟩) M M) ∧ w'.cell? ⟨w.heap.size + 1 + 1, 0, none⟩ = some (.int .i64 (u : Int)) ∧ w'.cell? ⟨w.heap.size + 1 + 1, 1, none⟩ = some (.int .i64 (v : Int)))
          (first
            | exact ⟨y1, x0, x1⟩
            | exact ⟨(cell_far (w := W3.drew) (g := t) (o := v) (by omega)).trans y1, (cell_far (w := W3.drew) (g := t) (o := v) (by omega)).trans x0, (cell_far (w := W3.drew) (g := t) (o := v) (by omega)).trans x1⟩)
          (first
            | (go_at_call 65
               refine (iSetC t v u z2 W3.drew t1 t2).mono ?_
               rintro e w' ⟨rfl, q, rfl⟩))
        all_goals
          rw [HCW.out]
          have hs4 := HT3.out.stored v (.int .i64 a2)
          rw [HT.out] at hs4
          have K4 := Lib.hid (show RgAt ((W3.setCell ⟨t, v, none⟩ (.int .i64 a2)).drewN (1 + q)) w.heap.size N (.slice (some ⟨f, 0, none⟩) M M) from RgAt.far (w := W3) K1.out (by omega))
          have K5 := Lib.hid (show RgAt ((W3.setCell ⟨t, v, none⟩ (.int .i64 a2)).drewN (1 + q)) (w.heap.size + 1) N (.slice (some ⟨t, 0, none⟩) M M) from RgAt.far (w := W3) K2 (by omega))
          have K6 : Two ((W3.setCell ⟨t, v, none⟩ (.int .i64 a2)).drewN (1 + q)) (w.heap.size + 1 + 1) u v := Two.far (w := W3) K3 (by omega)
          have HO4 := Lib.hid (show MvS N M b1 b2 f t F T w (clrB F ((u : Int), (v : Int))) (setB T ((u : Int), (v : Int))) ((W3.setCell ⟨t, v, none⟩ (.int .i64 a2)).drewN (1 + q)) from
            ⟨HGF.out, HGT.out, HALL.out, own_far (b := t) (o := v) (u := .int .i64 a2) HF3.out (by omega), hs4.1, HB3.out.setT v (.int .i64 a2) (1 + q)⟩)
          have hsz4 : w.heap.size + 1 + 1 < ((W3.setCell ⟨t, v, none⟩ (.int .i64 a2)).drewN (1 + q)).heap.size := Nat.lt_of_lt_of_le hsz3 (grown_set1 W3 t v (.int .i64 a2)).size
          clear hs4 K1 K2 K3 HT3 HF3 HB3 t1 t2 y1 x0 x1
          generalize ((W3.setCell ⟨t, v, none⟩ (.int .i64 a2)).drewN (1 + q)) = W4 at *
          have x0 := K6.c0
          have x1 := K6.c1
          clear K6
          go_wp2_with fail
          refine (iBeside (u : Int) (v : Int) W4 (by omega) (by omega)).mono ?_
          rintro e w5 ⟨rfl, hb5⟩
          have HO5 := Lib.hid (HO4.out.on hb5)
          have K7 := Lib.hid (K4.out.on hb5 K4.out.lt)
          have K8 := Lib.hid (K5.out.on hb5 K5.out.lt)
          have hsz5 : w.heap.size + 1 + 1 < w5.heap.size := Nat.lt_of_lt_of_le hsz4 hb5.size
          clear hb5 HO4 K4 K5 x0 x1
          have HNX := Lib.hid (fun d hd w => nbv_index ((u : Int), (v : Int)) d hd w)
          obtain ⟨NB, hNB⟩ : ∃ NB, nbv ((u : Int), (v : Int)) = NB := ⟨_, rfl⟩
          rw [hNB] at HNX ⊢
          clear hNB
          go_wp2
          go_loopw [33] (fun i wr => ∃ (d : Nat) (G T2 : List Int), d ≤ 4 ∧ i = .int .i64 d ∧ Hid (Mp (InP F) (InP G) ((u : Int), (v : Int)) d) ∧ Hid (MvS N M b1 b2 f t F T w G T2 wr) ∧ Hid (RgAt wr w.heap.size N (.slice (some ⟨f, 0, none⟩) M M)) ∧ Hid (RgAt wr (w.heap.size + 1) N (.slice (some ⟨t, 0, none⟩) M M))) (fun i _ => 4 - (intOf i).toNat)
          case atStart => exact ⟨0, _, _, by omega, rfl, HPT.out, HO5.out, K7.out, K8.out⟩
          case round =>
            obtain ⟨d, G, T2, hd, rfl, hp, ho, h1, h2⟩ := hrel
            clear HO5 K7 K8
            by_cases hdt : d < 4
            · have hd1 : (d : Int) < 4 := by omega
              have hd0 : (0 : Int) ≤ (d : Int) := by omega
              have hix := HNX.out d hdt
              have hpb := nb_rng (show u < 6 by omega) (show v < 6 by omega) hdt
              obtain ⟨p, r, hpr⟩ : ∃ p r, nbC ((u : Int), (v : Int)) d = (p, r) := ⟨_, _, rfl⟩
              rw [hpr] at hix hpb
              dsimp only at hix hpb
              have HPR := Lib.hid hpr
              have hl1 := cells_less HRF.out ho.out.rg (fun q hq => hp.out.sub q hq) HC.out hp.out.self
              have hbN := (Below.refl wr.heap.size wr).alloc (Nat.le_refl _) (.cells #[.int .i64 p, .int .i64 r] 69)
              have ho6 := Lib.hid (ho.out.on hbN)
              have m1 := h1.out.alloc (.cells #[.int .i64 p, .int .i64 r] 69)
              have m2 := h2.out.alloc (.cells #[.int .i64 p, .int .i64 r] 69)
              have m3 := Two.new (w := wr) p r rfl
              have M1 := Lib.hid m1
              have M2 := Lib.hid m2
              have n0 := m1.c0
              have n1 := m1.c1
              have n2 := m2.c0
              have n3 := m2.c1
              have n4 := m3.c0
              have n5 := m3.c1
              have hszw := h2.out.lt
              have hszN := hbN.size
              clear hpr hbN ho h1 h2 m1 m2 m3
              go_wp2_with fail
              generalize (wr.alloc (.cells #[.int .i64 p, .int .i64 r] 69)) = W6 at *
              refine (HIH.out G T2 p r W6 (by omega) ho6.out.again hpb.1 hpb.2).mono ?_
              rintro e w7 ⟨rfl, G', T3, hmv, hs7⟩
              have HP7 := Lib.hid (hp.out.step HC.out hdt (by rw [HPR.out]; exact hmv))
              have HS7 := Lib.hid (ho6.out.trans hs7 (fun q hq => hp.out.sub q hq) (fun q hq => hmv.sub q hq))
              have M3 := Lib.hid (M1.out.bu hs7.bu M1.out.lt (by omega) (by omega))
              have M4 := Lib.hid (M2.out.bu hs7.bu M2.out.lt (by omega) (by omega))
              clear hmv hs7 n0 n1 n2 n3 n4 n5 M1 M2 ho6 hp
              go_wp2
              go_roundw
              case rel => first
                | exact ⟨d + 1, G', T3, by omega, by go_num, HP7.out, HS7.out, M3.out, M4.out⟩
                | (repeat apply Exists.intro
                   exact ⟨⟨d + 1, G', T3, by omega, by go_num, HP7.out, HS7.out, M3.out, M4.out⟩, rfl⟩)
              case measure => simp [intOf]; omega
            · obtain rfl : d = 4 := by omega
              have HR := Lib.hid hp.out.done
              clear hp
              go_wp2
              go_end0
              exact ⟨rfl, G, T2, HR.out, ho.out⟩
end

section
open Go.RowKit Go.Maps

/-- A region in a list: its rows' block, their capacity, its width, its rows. -/
abbrev REnt := Nat × Nat × Int × List Int
def kR (e : REnt) : List Int := e.2.2.2
def rvE (e : REnt) : Value := .slice (some ⟨e.1, 0, none⟩) e.2.2.2.length e.2.1
def rvs (es : List REnt) : List Value := es.flatMap fun e => [.int .i64 e.2.2.1, rvE e]
theorem rvE_block (e : REnt) : (rvE e).ownBlock = some e.1 := rfl
theorem rvs_snoc (es : List REnt) (e : REnt) : rvs (es ++ [e]) = rvs es ++ [.int .i64 e.2.2.1, rvE e] := by simp [rvs]
structure OwnRs (B : Nat) (w : World) (v : Value) (es : List REnt) : Prop where
  row : w.ownsRow B 27 2 v es.length (rvs es)
  each : ∀ e ∈ es, w.ownsRow B 3 1 (rvE e) e.2.2.2.length (iv e.2.2.2)
  apart : es.Pairwise fun e f => e.1 ≠ f.1
  off : ∀ e ∈ es, v.ownBlock ≠ some e.1
theorem OwnRs.nil (B : Nat) (w : World) : OwnRs B w (.slice none 0 0) [] := ⟨⟨rfl, .inl ⟨rfl, rfl⟩⟩, fun e he => (by cases he), List.Pairwise.nil, fun e he => by cases he⟩
theorem OwnRs.lt {B : Nat} {w : World} {v : Value} {es : List REnt} (h : OwnRs B w v es) {e : REnt} (he : e ∈ es) : B ≤ e.1 ∧ e.1 < w.heap.size := (h.each e he).lt e.1 rfl
theorem OwnRs.on {B : Nat} {w w' : World} {v : Value} {es : List REnt} (h : OwnRs B w v es) (hb : Below w.heap.size w w') : OwnRs B w' v es :=
  ⟨h.row.kept (grow_below hb none) (by cases v.ownBlock with | none => exact .inl rfl | some k => exact .inr (by simp)), fun e he => (h.each e he).kept (grow_below hb none) (.inr (by rw [rvE_block]; intro e; cases e)), h.apart, h.off⟩
theorem OwnRs.less {B B' : Nat} {w : World} {v : Value} {es : List REnt} (h : OwnRs B w v es) (hB : B' ≤ B) : OwnRs B' w v es := ⟨own_below h.row hB, fun e he => own_below (h.each e he) hB, h.apart, h.off⟩
theorem own_bu {w w' : World} {base f t size n : Nat} {e : TypeId} {v : Value} {xs : List Value} (h : w.ownsRow base e size v n xs) (hb : Bu2 w.heap.size f t w w') (h1 : v.ownBlock ≠ some f) (h2 : v.ownBlock ≠ some t) : w'.ownsRow base e size v n xs := by
  have hl := h.lt
  refine ⟨h.1, ?_⟩
  rcases h.2 with h3 | ⟨g, cap, cur, rfl, hg, hh, r⟩
  · exact .inl h3
  · refine .inr ⟨g, cap, cur, rfl, hg, (hb.block g (hl g rfl).2 ?_ ?_).trans hh, r⟩
    · intro e; subst e; exact h1 rfl
    · intro e; subst e; exact h2 rfl
theorem OwnRs.bu {B f t : Nat} {w w' : World} {v : Value} {es : List REnt} (h : OwnRs B w v es) (hb : Bu2 w.heap.size f t w w') (hf : f < B) (h1 : v.ownBlock ≠ some t) (h2 : ∀ e ∈ es, e.1 ≠ t) : OwnRs B w' v es :=
  ⟨own_bu h.row hb (fun e => by have := (h.row.lt f e).1; omega) h1, fun e he => own_bu (h.each e he) hb (by rw [rvE_block]; intro e9; injection e9 with e9; have := (h.lt he).1; omega) (by rw [rvE_block]; intro e9; injection e9 with e9; exact h2 e he e9), h.apart, h.off⟩
theorem OwnRs.grow {B : Nat} {w w' : World} {v v' : Value} {es : List REnt} {e : REnt} (h : OwnRs B w v es) (hrow : w'.ownsRow B 27 2 v' (es.length + 1) (rvs es ++ [.int .i64 e.2.2.1, rvE e])) (hg : w.grownBy w' v.ownBlock) (hv : v'.ownBlock = v.ownBlock ∨ v'.ownBlock = some w.heap.size)
    (he : w.ownsRow B 3 1 (rvE e) e.2.2.2.length (iv e.2.2.2)) (hfar : ∀ f ∈ es, f.1 ≠ e.1) (heg : v.ownBlock ≠ some e.1) : OwnRs B w' v' (es ++ [e]) := by
  refine ⟨?_, fun f hf => ?_, ?_, fun f hf h9 => ?_⟩
  · rw [List.length_append, rvs_snoc]
    exact hrow
  · rw [List.mem_append, List.mem_singleton] at hf
    rcases hf with hf | rfl
    · exact (h.each f hf).kept hg (.inr (by rw [rvE_block]; exact fun e2 => h.off f hf e2.symm))
    · exact he.kept hg (.inr (by rw [rvE_block]; exact fun e2 => heg e2.symm))
  · rw [List.pairwise_append]
    refine ⟨h.apart, by simp, fun f hf f2 hf2 => ?_⟩
    rw [List.mem_singleton] at hf2
    subst hf2
    exact hfar f hf
  · rw [List.mem_append, List.mem_singleton] at hf
    rcases hf with hf | rfl
    · have h1 := (h.lt hf).2
      rcases hv with h3 | h3
      · exact h.off f hf (by rw [← h3]; exact h9)
      · rw [h3] at h9; injection h9 with h9; omega
    · have h1 := (he.lt f.1 rfl).2
      rcases hv with h3 | h3
      · exact heg (by rw [← h3]; exact h9)
      · rw [h3] at h9; injection h9 with h9; omega
theorem Bu2.one {B B' f t : Nat} {w w' : World} (h : Bu2 B' f t w w') (hB : B ≤ B') (ht : B ≤ t) : Bu2 B f f w w' := ⟨h.os, h.tape, h.output, h.size, fun k hk h1 _ => h.block k (by omega) h1 (by omega)⟩
theorem Bu2.of_grown {B f t : Nat} {w w' : World} {r : Option Nat} (h : w.grownBy w' r) (hB : B ≤ w.heap.size) (hr : ∀ k, r = some k → B ≤ k) : Bu2 B f t w w' :=
  ⟨h.os, h.tape, h.output, h.size, fun k hk _ _ => h.block k (by omega) fun e => by have := hr k e.symm; omega⟩
theorem info_region : (Try.prog.info? 27).map (fun i => (i.zero, i.size, i.bytes)) = some (some (.agg #[.int .i64 0, .slice none 0 0]), 2, 32) := by kernel_rfl

set_option maxHeartbeats 4000000 in
set_option maxRecDepth 100000 in
theorem iParts (B n cap : Nat) (a : Option Addr) (W : Int) (l : List Int) (w : World) (hn : n ≤ 1048576) (hc : IntsAt B w a n l) (hB : B ≤ w.heap.size) :
    Calls Try.prog 39 #[.agg #[.int .i64 W, .slice a n cap]] w fun e w' => ∃ v es, e = .returned v ∧ OwnRs w.heap.size w' v es ∧ es.map kR = partsR W l ∧ (∀ e ∈ es, e.2.2.1 = W) ∧ Below w.heap.size w w' := by
  obtain ⟨i0, hi, hz0, hz1, hz2⟩ := info_parts info_region
  have H := Lib.hid hc
  have hln := hc.1
  clear hc
  have hbox := RgAt.new (w := w) W (.slice a n cap) rfl
  have hb0 := (Below.refl w.heap.size w).alloc (Nat.le_refl _) (.cells #[.int .i64 W, .slice a n cap] 27)
  have c0 := hbox.c0
  have c1 := hbox.c1
  have HL1 := Lib.hid (cellsR_len W l)
  have HCC := Lib.hid (cellsR_inC W l)
  go_enter Try.func39, Try.ntmps39
  go_wp2_with fail
  refine (iCopy B n cap a W l _ hn (H.out.on (hb0.mono hB)) (Nat.le_trans hB hb0.size)).mono ?_
  rintro e w2 ⟨f, rfl, hown, hb2⟩
  have hsz0 : (w.alloc (.cells #[.int .i64 W, .slice a n cap] 27)).heap.size = w.heap.size + 1 := by simp
  rw [hsz0] at hown
  have hfl := hown.lt f rfl
  have hbx2 := (hbox.on hb2 hbox.lt).alloc (.cells #[.int .i64 W, .slice (some ⟨f, 0, none⟩) n n] 27)
  have hrb2 := RgAt.new (w := w2) W (.slice (some ⟨f, 0, none⟩) n n) rfl
  have hB2 := (hb0.trans (hb2.mono hb0.size))
  have HB3 := Lib.hid (hB2.alloc hB2.size (.cells #[.int .i64 W, .slice (some ⟨f, 0, none⟩) n n] 27))
  have hown3 := hown.alloc (.cells #[.int .i64 W, .slice (some ⟨f, 0, none⟩) n n] 27)
  have hsz3 : (w2.alloc (.cells #[.int .i64 W, .slice (some ⟨f, 0, none⟩) n n] 27)).heap.size = w2.heap.size + 1 := by simp
  have e0 := hbx2.c0
  have e1 := hbx2.c1
  clear c0 c1 hb0 hb2 hbox hown hsz0 hB2
  go_wp2_with fail
  generalize (w2.alloc (.cells #[.int .i64 W, .slice (some ⟨f, 0, none⟩) n n] 27)) = w3 at *
  refine (iCells B n cap a W l w3 (by omega) (H.out.on (HB3.out.mono hB)) (Nat.le_trans hB HB3.out.size)).mono ?_
  rintro e w4 ⟨v, rfl, hownc, hb4⟩
  obtain ⟨rb, hrb⟩ : ∃ rb, w2.heap.size = rb := ⟨_, rfl⟩
  rw [hrb] at hrb2 hsz3 hfl ⊢
  obtain ⟨a4, c4, rfl⟩ := own_slice hownc
  have HA := Lib.hid (CellsAt.of_own hownc HCC.out)
  have hO4 := hown3.kept (grow_below hb4 none) (.inr (by intro e; cases e))
  have hbx4 := hbx2.on hb4 hbx2.lt
  have hrb4 := hrb2.on hb4 hrb2.lt
  have HB4 := Lib.hid (HB3.out.trans (hb4.mono HB3.out.size))
  have hcb : ∀ b off, a4 = some ⟨b, off, none⟩ → b ≠ f ∨ (cellsR W l).length = 0 := fun b off e => by
    subst e
    rcases hownc.2 with ⟨e, _⟩ | ⟨g, cp, cur, e, hb, _⟩
    · cases e
    · injection e with e1 _ _
      injection e1 with e1
      injection e1 with e1 _ _
      subst e1
      exact .inl (by omega)
  have HCB := Lib.hid hcb
  have hsz4 := hb4.size
  clear hownc hb4 hcb e0 e1 hbx2 hrb2 hown3 hrb
  cases hreg : isReg W l with
  | false =>
    have hm0 : (cellsR W l).length = 0 := by rw [cellsR_no hreg]; rfl
    have HP := Lib.hid (partsR_no hreg)
    rw [hm0]
    clear hreg HA hbx4 hrb4 hO4
    go_wp2
    go_loopw [3, 13] (fun v i wr => v = .slice none 0 0 ∧ i = .int .i64 0 ∧ wr = w4) (fun _ i _ => 0 - (intOf i).toNat)
    case atStart => exact ⟨rfl, rfl, rfl⟩
    case round =>
      obtain ⟨rfl, rfl, rfl⟩ := hrel
      go_wp2
      go_ret
      exact ⟨_, [], rfl, OwnRs.nil _ _, by rw [HP.out]; rfl, fun e he => (by cases he), HB4.out⟩
  | true =>
    obtain ⟨N, rfl, hr⟩ := isReg_out hreg
    rw [hln] at hr
    have HR := Lib.hid hr
    have HPR := Lib.hid (partsR_yes hr)
    have hcs := cellsR_yes hr
    rw [hcs] at HL1 HCB HA ⊢
    have HCM := Lib.hid (fun q => mem_cellsB hr q)
    have HIN := Lib.hid (cellsB_in (W := N) (H := n) (l := l) hr.w6 hr.h6)
    obtain ⟨cs, hcsd⟩ : ∃ cs, cellsB N n l = cs := ⟨_, rfl⟩
    rw [hcsd] at HL1 HCB HA HCM HIN ⊢
    obtain ⟨m, hm⟩ : ∃ m, cs.length = m := ⟨_, rfl⟩
    have HM := Lib.hid hm
    have HCS := Lib.hid hcsd
    have hm36 := HL1.out
    rw [hm] at hm36 HA ⊢
    have hN6 := hr.w6
    have hn6 := hr.h6
    have HO4 := Lib.hid hO4
    have HBX := Lib.hid hbx4
    have HRB := Lib.hid hrb4
    clear hreg hr hcs hcsd hm HCC HL1 hO4 hbx4 hrb4
    go_wp2
    go_loopw [3, 13] (fun v i wr => ∃ (k : Nat) (es : List REnt) (rest : List Int), k ≤ m ∧ i = .int .i64 k ∧ Hid (es.map kR = partsTo N n l k) ∧ Hid (∀ e ∈ es, e.2.2.1 = N) ∧ Hid (OwnRs w4.heap.size wr v es) ∧ Hid (Lft l cs k rest) ∧ Hid (Rg N n rest) ∧ Hid (wr.ownsRow (w.heap.size + 1) 3 1 (.slice (some ⟨f, 0, none⟩) n n) n (iv rest)) ∧ Hid (Bu2 w4.heap.size f f w4 wr)) (fun _ i _ => m - (intOf i).toNat)
    case atStart => exact ⟨0, [], l, by omega, rfl, rfl, fun e he => (by cases he), OwnRs.nil _ _, Lft.start _ _, HR.out, HO4.out, Bu2.refl _ _ _ _⟩
    case round =>
      obtain ⟨k, es, rest, hk, rfl, hmap, hwid, ho, hlf, hrg, hof, hbu⟩ := hrel
      by_cases hlt : k < m
      · obtain ⟨b, off, rfl, hbB, hcell⟩ := HA.out.2.2 (by omega)
        have hbne := (HCB.out b off rfl).resolve_right (by rw [HM.out]; omega)
        have hmem := getD_mem (l := cs) (j := k) (by rw [HM.out]; exact hlt)
        have hq := HIN.out _ hmem
        have hbt := (HCM.out _).1 hmem
        obtain ⟨x, y, hxy⟩ : ∃ x y : Nat, cs.getD k (0, 0) = ((x : Int), (y : Int)) := ⟨(cs.getD k (0, 0)).1.toNat, (cs.getD k (0, 0)).2.toNat, by
          have e1 : (((cs.getD k (0, 0)).1.toNat : Nat) : Int) = (cs.getD k (0, 0)).1 := by omega
          have e2 : (((cs.getD k (0, 0)).2.toNat : Nat) : Int) = (cs.getD k (0, 0)).2 := by omega
          rw [e1, e2]⟩
        have p1 := (World.cell?_of_block (a := ⟨b, off + k * 2, none⟩) (hbu.out.block b hbB hbne hbne)).trans (hcell k hlt).1
        have p2 := (World.cell?_of_block (a := ⟨b, off + k * 2 + 1, none⟩) (hbu.out.block b hbB hbne hbne)).trans (hcell k hlt).2
        rw [hxy] at p1 p2 hq hbt
        dsimp only at p1 p2 hq
        have HXY := Lib.hid hxy
        have HBT := Lib.hid hbt
        have hszr := hbu.out.size
        have hbxr := HBX.out.bu hbu.out HBX.out.lt (by omega) (by omega)
        have hrbr := HRB.out.bu hbu.out HRB.out.lt (by omega) (by omega)
        have hbA := (Below.refl wr.heap.size wr).alloc (Nat.le_refl _) (.cells #[.int .i64 (x : Int), .int .i64 (y : Int)] 69)
        have hbx5 := hbxr.alloc (.cells #[.int .i64 (x : Int), .int .i64 (y : Int)] 69)
        have hrb5 := hrbr.alloc (.cells #[.int .i64 (x : Int), .int .i64 (y : Int)] 69)
        have hxb5 := Two.new (w := wr) x y rfl
        have HOF5 := Lib.hid (hof.out.alloc (.cells #[.int .i64 (x : Int), .int .i64 (y : Int)] 69))
        have HO5 := Lib.hid (ho.out.on hbA)
        have HBU5 := Lib.hid (hbu.out.trans (Bu2.of_below (f := f) (t := f) (hbA.mono hszr)))
        have hsz5 : (wr.alloc (.cells #[.int .i64 (x : Int), .int .i64 (y : Int)] 69)).heap.size = wr.heap.size + 1 := by simp
        have d0 := hrb5.c0
        have d1 := hrb5.c1
        have x0 := hxb5.c0
        have x1 := hxb5.c1
        have hk0 : (0 : Int) ≤ (k : Int) := by omega
        have hk1 : (k : Int) < (m : Int) := by omega
        have hvlt := ho.out.row.lt
        have HES := Lib.hid (fun e (he : e ∈ es) => (ho.out.lt he).2)
        have hlen : es.length ≤ k := by have := congrArg List.length hmap.out; rw [List.length_map] at this; rw [this]; exact partsTo_le N n l k
        clear hcell hxy hbt hmem hbu hbxr hrbr hbA hof ho
        go_wp2_with fail
        generalize (wr.alloc (.cells #[.int .i64 (x : Int), .int .i64 (y : Int)] 69)) = w5 at *
        refine (iInReg w5.heap.size n n (some ⟨f, 0, none⟩) N rest x y w5 (by omega) (IntsAt.of_own HOF5.out hrg.out.in64) (Nat.le_refl _)).mono ?_
        rintro e w6 ⟨rfl, hb6⟩
        have hbx6 := hbx5.on hb6 hbx5.lt
        have hrb6 := hrb5.on hb6 hrb5.lt
        have hxb6 := hxb5.on hb6 hxb5.lt
        have HOF6 := Lib.hid (HOF5.out.kept (grow_below hb6 none) (.inr (by intro e; cases e)))
        have HO6 := Lib.hid (HO5.out.on hb6)
        have HBU6 := Lib.hid (HBU5.out.trans (Bu2.of_below (f := f) (t := f) (hb6.mono (by omega))))
        have hsz6 := hb6.size
        clear d0 d1 x0 x1 hb6 hbx5 hrb5 hxb5 HOF5 HO5 HBU5 p1 p2
        cases hin : cellB N rest x y with
        | false =>
          have hnb : ¬ bt rest ((x : Int), (y : Int)) = true := fun h9 => by
            unfold cellB at hin
            rw [isReg_of hrg.out, h9] at hin
            cases hin
          have hnu : ¬ Un l cs k (cs.getD k (0, 0)) := fun h9 => hnb (by have := (hlf.out.un (c := cs.getD k (0, 0)) (by rw [HXY.out]; exact HBT.out)).2 h9; rw [HXY.out] at this; exact this)
          have HL := Lib.hid (hlf.out.skip hnu)
          have HMP := Lib.hid (show es.map kR = partsTo N n l (k + 1) from by rw [partsTo_no (by rw [HCS.out]; exact hnu)]; exact hmap.out)
          clear hin hnb hnu hlf hmap hbx6 hrb6 hxb6
          go_wp2
          go_roundw
          case rel => exact ⟨k + 1, es, rest, by omega, by go_num, HMP.out, hwid.out, HO6.out, HL.out, hrg.out, HOF6.out, HBU6.out⟩
          case measure => simp [intOf]; omega
        | true =>
          have hyb : bt rest ((x : Int), (y : Int)) = true := by
            unfold cellB at hin
            rw [Bool.and_eq_true] at hin
            exact hin.2
          have HYB := Lib.hid (show bt rest (cs.getD k (0, 0)) = true from by rw [HXY.out]; exact hyb)
          have hun : Un l cs k (cs.getD k (0, 0)) := (hlf.out.un (c := cs.getD k (0, 0)) (by rw [HXY.out]; exact HBT.out)).1 HYB.out
          have HPY := Lib.hid (partsTo_yes (W := N) (H := n) (l := l) (k := k) (by rw [HCS.out]; exact hun))
          have f0 := hbx6.c0
          have f1 := hbx6.c1
          clear hin hyb hun
          go_wp2_with fail
          refine (iEmpty N n w6 (by omega)).mono ?_
          rintro e w7 ⟨g, rfl, hown7, hb7⟩
          have hgl := hown7.lt g rfl
          have hrb7 := (hrb6.on hb7 hrb6.lt).alloc (.cells #[.int .i64 N, .slice (some ⟨g, 0, none⟩) n n] 27)
          have hxb7 := (hxb6.on hb7 hxb6.lt).alloc (.cells #[.int .i64 N, .slice (some ⟨g, 0, none⟩) n n] 27)
          have hpb7 := RgAt.new (w := w7) N (.slice (some ⟨g, 0, none⟩) n n) rfl
          have hbA7 := (Below.refl w7.heap.size w7).alloc (Nat.le_refl _) (.cells #[.int .i64 N, .slice (some ⟨g, 0, none⟩) n n] 27)
          have HOF7 := Lib.hid ((HOF6.out.kept (grow_below hb7 none) (.inr (by intro e; cases e))).alloc (.cells #[.int .i64 N, .slice (some ⟨g, 0, none⟩) n n] 27))
          have HO7 := Lib.hid ((HO6.out.on hb7).on hbA7)
          have HT7 := Lib.hid (hown7.alloc (.cells #[.int .i64 N, .slice (some ⟨g, 0, none⟩) n n] 27))
          have hsz7 := hb7.size
          have HBU7 := Lib.hid ((HBU6.out.trans (Bu2.of_below (f := f) (t := f) (hb7.mono (by omega)))).trans (Bu2.of_below (f := f) (t := f) (hbA7.mono (by omega))))
          have hsz8 : (w7.alloc (.cells #[.int .i64 N, .slice (some ⟨g, 0, none⟩) n n] 27)).heap.size = w7.heap.size + 1 := by simp
          have d0 := hrb7.c0
          have d1 := hrb7.c1
          have x0 := hxb7.c0
          have x1 := hxb7.c1
          have y0 := hpb7.c0
          have y1 := hpb7.c1
          have HPB := Lib.hid hpb7
          clear f0 f1 hb7 hown7 hbx6 hrb6 hxb6 HOF6 HO6 HBU6 hbA7 hpb7
          go_wp2_with fail
          generalize (w7.alloc (.cells #[.int .i64 N, .slice (some ⟨g, 0, none⟩) n n] 27)) = w8 at *
          have hfg : f ≠ g := by omega
          have HRG := Lib.hid HR.out
          refine (iMovePart N n (w.heap.size + 1) w6.heap.size f g hfg ((cellsB N n rest).length + 1) rest (zerosR n) x y w8 (by omega) (MvS.start hrg.out (Rg.zeros HR.out.w0 HR.out.w6 HR.out.h0 HR.out.h6) HOF7.out HT7.out) (by omega) (by omega)).mono ?_
          rintro e w9 ⟨rfl, G, T, hmv, hS⟩
          rw [← HXY.out] at hmv
          have HL := Lib.hid (hlf.out.take HYB.out hmv)
          have hTP := hlf.out.part HR.out HYB.out hmv hS.rt (fun q => by
            rw [hS.all q, bt_zeros]
            simp)
          have HPB9 := HPB.out.bu hS.bu HPB.out.lt (by omega) (by omega)
          have HO9 := Lib.hid (HO7.out.bu hS.bu (by omega) (fun e9 => by have := (hvlt g e9).2; omega) (fun e he e9 => by have := HES.out e he; omega))
          have HVG := Lib.hid (show u3.ownBlock ≠ some g from fun e9 => by have := (hvlt g e9).2; omega)
          have HVF := Lib.hid (show some f ≠ u3.ownBlock from fun e9 => by have := (hvlt f e9.symm).1; omega)
          have HVB := Lib.hid (show ∀ k, u3.ownBlock = some k → w4.heap.size ≤ k from fun k e9 => (hvlt k e9).1)
          have HGE := Lib.hid (show ∀ e ∈ es, e.1 ≠ g from fun e he e9 => by have := HES.out e he; omega)
          have hwg : w4.heap.size ≤ g := by omega
          have HBU9 := Lib.hid (HBU7.out.trans (hS.bu.one (by omega) hwg))
          have HRG9 := Lib.hid hS.rg
          have hTl := hS.rt.len
          have HTO := Lib.hid (own_below hS.ot (show w4.heap.size ≤ w6.heap.size by omega))
          have HFO := Lib.hid hS.of
          have hsz9 := hS.bu.size
          have y0 := HPB9.c0
          have y1 := HPB9.c1
          clear d0 d1 x0 x1 hS hmv HO7 HT7 HOF7 HBU7 HPB hrb7 hxb7 HPB9 hvlt
          go_wp2_with (first | (at_builtin; refine wpList_append_own_at _ rfl _ _ 48 rfl w4.heap.size 27 i0 (.agg #[.int .i64 0, .slice none 0 0]) 2 32 Try.underlying48 hi hz0 hz1 hz2 rfl (by decide) _ _ _ rfl ((HO9.out.on ((Below.refl _ _).alloc (Nat.le_refl _) _)).row) ⟨w9.heap.size, 0, none⟩ 1 1 [.int .i64 (N : Int), .slice (some ⟨g, 0, none⟩) n n] rfl rfl (World.news_of_block (cs := #[.int .i64 (N : Int), .slice (some ⟨g, 0, none⟩) n n]) (heap_alloc_new _ _)) ?c2 ?c3 ?c4 ?c5 ?_) | go_in)
          case c2 =>
            intro u hu
            simp only [List.mem_cons, List.not_mem_nil, or_false] at hu
            rcases hu with rfl | rfl <;> rfl
          case c3 => unfold maxLen; omega
          case c4 => omega
          case c5 => simp; omega
          intro v' w10 hown10 hgrow _ hblk
          have hbB9 := (Below.refl w9.heap.size w9).alloc (Nat.le_refl _) (.cells #[.int .i64 (N : Int), .slice (some ⟨g, 0, none⟩) n n] 27)
          have hO10 := HO9.out.on hbB9
          have hT10 := HTO.out.alloc (.cells #[.int .i64 (N : Int), .slice (some ⟨g, 0, none⟩) n n] 27)
          have hF10 := (HFO.out.alloc (.cells #[.int .i64 (N : Int), .slice (some ⟨g, 0, none⟩) n n] 27)).kept hgrow (.inr HVF.out)
          have HF10 := Lib.hid hF10
          have eT : rvE (g, n, (N : Int), T) = .slice (some ⟨g, 0, none⟩) n n := by unfold rvE; dsimp only; rw [hTl]
          have HO10 := Lib.hid (hO10.grow (e := (g, n, (N : Int), T)) (by rw [eT]; exact hown10) hgrow (by simpa using hblk) (by dsimp only; rw [eT, hTl]; exact hT10) HGE.out HVG.out)
          have HMP := Lib.hid (show (es ++ [(g, n, (N : Int), T)]).map kR = partsTo N n l (k + 1) from by
            rw [HPY.out, List.map_append, hmap.out]
            show _ ++ [T] = _
            rw [hTP, HCS.out])
          have HWD := Lib.hid (show ∀ e ∈ es ++ [(g, n, (N : Int), T)], e.2.2.1 = (N : Int) from fun e he => by
            rw [List.mem_append, List.mem_singleton] at he
            rcases he with he | rfl
            · exact hwid.out e he
            · rfl)
          have HBU10 := Lib.hid ((HBU9.out.trans (Bu2.of_below (f := f) (t := f) (hbB9.mono (by omega)))).trans (Bu2.of_grown hgrow (by simp; omega) HVB.out))
          clear hbB9 hO10 hT10 hF10 hown10 hgrow hblk HO9 HTO HFO HBU9 y0 y1 eT hTP
          go_wp2
          go_roundw
          case rel => first
            | exact ⟨k + 1, _, G, by omega, by go_num, HMP.out, HWD.out, HO10.out, HL.out, HRG9.out, HF10.out, HBU10.out⟩
            | (repeat apply Exists.intro
               exact ⟨⟨k + 1, _, G, by omega, by go_num, HMP.out, HWD.out, HO10.out, HL.out, HRG9.out, HF10.out, HBU10.out⟩, rfl⟩)
          case measure => simp [intOf]; omega
      · obtain rfl : k = m := by omega
        have HP := Lib.hid (show es.map kR = partsR N l from by rw [HPR.out]; unfold partsB; rw [HCS.out, HM.out]; exact hmap.out)
        have HO := Lib.hid (ho.out.less (B' := w.heap.size) (Nat.le_trans HB3.out.size hsz4))
        have HBF := Lib.hid (HB4.out.trans (hbu.out.below (B' := w.heap.size) (Nat.le_trans HB3.out.size hsz4) (by omega) (by omega)))
        clear ho hmap hlf hrg hof hbu
        go_wp2
        go_ret
        exact ⟨_, es, rfl, HO.out, HP.out, hwid.out, HBF.out⟩
end

end Go.Proofs.Ytbfopdflkkcfaaa
