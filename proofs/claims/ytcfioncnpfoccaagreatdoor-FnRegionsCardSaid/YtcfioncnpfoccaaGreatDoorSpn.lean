/-
  Lists of regions that the call owns; the parts of a region, in the program: what the call gives.
  The parts of a region, in the model: what the call gives.
  The laws' helpers that compare, mark and look at slices of regions.
-/
import Derived.Test.YtcfioncnpfoccaaGreatDoorSp1
import Derived.Maps.AppendAt
import Derived.Test.YtcfioncnpfoccaaGreatDoorCon
namespace Go.Proofs.YtcfioncnpfoccaaGreatDoor

section
open Go.RowKit Go.Maps

/-- A region in a list: its rows' block, their capacity, its width, its rows. -/
abbrev REnt := Nat × Nat × Int × List Int
def kR (e : REnt) : List Int := e.2.2.2
def rvE (e : REnt) : Value := .slice (some ⟨e.1, 0, none⟩) e.2.2.2.length e.2.1
def rvs (es : List REnt) : List Value := es.flatMap fun e => [.int .i64 e.2.2.1, rvE e]
theorem rvE_block (e : REnt) : (rvE e).ownBlock = some e.1 := rfl
theorem rvs_snoc (es : List REnt) (e : REnt) : rvs (es ++ [e]) = rvs es ++ [.int .i64 e.2.2.1, rvE e] := by simp [rvs]
structure OwnRs (B : Nat) (w : World) (v : Value) (es : List REnt) : Prop where
  row : w.ownsRow B 26 2 v es.length (rvs es)
  each : ∀ e ∈ es, w.ownsRow B 3 1 (rvE e) e.2.2.2.length (iv e.2.2.2)
  apart : es.Pairwise fun e f => e.1 ≠ f.1
  off : ∀ e ∈ es, v.ownBlock ≠ some e.1
theorem OwnRs.nil (B : Nat) (w : World) : OwnRs B w (.slice none 0 0) [] := ⟨⟨rfl, .inl ⟨rfl, rfl⟩⟩, fun e he => (by cases he), List.Pairwise.nil, fun e he => by cases he⟩
theorem OwnRs.lt {B : Nat} {w : World} {v : Value} {es : List REnt} (h : OwnRs B w v es) {e : REnt} (he : e ∈ es) : B ≤ e.1 ∧ e.1 < w.heap.size := (h.each e he).lt e.1 rfl
theorem OwnRs.on {B : Nat} {w w' : World} {v : Value} {es : List REnt} (h : OwnRs B w v es) (hb : Below w.heap.size w w') : OwnRs B w' v es :=
  ⟨h.row.kept (grow_below hb none) (by cases v.ownBlock with | none => exact .inl rfl | some k => exact .inr (by simp)), fun e he => (h.each e he).kept (grow_below hb none) (.inr (by rw [rvE_block]; intro e; cases e)), h.apart, h.off⟩
theorem OwnRs.less {B B' : Nat} {w : World} {v : Value} {es : List REnt} (h : OwnRs B w v es) (hB : B' ≤ B) : OwnRs B' w v es := ⟨own_below h.row hB, fun e he => own_below (h.each e he) hB, h.apart, h.off⟩
theorem own_bu {w w' : World} {base f t size n : Nat} {e : TypeId} {v : Value} {xs : List Value} (h : w.ownsRow base e size v n xs) (hb : Bu2 w.heap.size f t w w') (h1 : v.ownBlock ≠ some f) (h2 : v.ownBlock ≠ some t) : w'.ownsRow base e size v n xs := by
  have hl := h.lt
  refine ⟨h.1, ?_⟩
  rcases h.2 with h3 | ⟨g, cap, cur, rfl, hg, hh, r⟩
  · exact .inl h3
  · refine .inr ⟨g, cap, cur, rfl, hg, (hb.block g (hl g rfl).2 ?_ ?_).trans hh, r⟩
    · intro e; subst e; exact h1 rfl
    · intro e; subst e; exact h2 rfl
theorem OwnRs.bu {B f t : Nat} {w w' : World} {v : Value} {es : List REnt} (h : OwnRs B w v es) (hb : Bu2 w.heap.size f t w w') (hf : f < B) (h1 : v.ownBlock ≠ some t) (h2 : ∀ e ∈ es, e.1 ≠ t) : OwnRs B w' v es :=
  ⟨own_bu h.row hb (fun e => by have := (h.row.lt f e).1; omega) h1, fun e he => own_bu (h.each e he) hb (by rw [rvE_block]; intro e9; injection e9 with e9; have := (h.lt he).1; omega) (by rw [rvE_block]; intro e9; injection e9 with e9; exact h2 e he e9), h.apart, h.off⟩
theorem OwnRs.grow {B : Nat} {w w' : World} {v v' : Value} {es : List REnt} {e : REnt} (h : OwnRs B w v es) (hrow : w'.ownsRow B 26 2 v' (es.length + 1) (rvs es ++ [.int .i64 e.2.2.1, rvE e])) (hg : w.grownBy w' v.ownBlock) (hv : v'.ownBlock = v.ownBlock ∨ v'.ownBlock = some w.heap.size)
    (he : w.ownsRow B 3 1 (rvE e) e.2.2.2.length (iv e.2.2.2)) (hfar : ∀ f ∈ es, f.1 ≠ e.1) (heg : v.ownBlock ≠ some e.1) : OwnRs B w' v' (es ++ [e]) := by
  refine ⟨?_, fun f hf => ?_, ?_, fun f hf h9 => ?_⟩
  · rw [List.length_append, rvs_snoc]
    exact hrow
  · rw [List.mem_append, List.mem_singleton] at hf
    rcases hf with hf | rfl
    · exact (h.each f hf).kept hg (.inr (by rw [rvE_block]; exact fun e2 => h.off f hf e2.symm))
    · exact he.kept hg (.inr (by rw [rvE_block]; exact fun e2 => heg e2.symm))
  · rw [List.pairwise_append]
    refine ⟨h.apart, by simp, fun f hf f2 hf2 => ?_⟩
    rw [List.mem_singleton] at hf2
    subst hf2
    exact hfar f hf
  · rw [List.mem_append, List.mem_singleton] at hf
    rcases hf with hf | rfl
    · have h1 := (h.lt hf).2
      rcases hv with h3 | h3
      · exact h.off f hf (by rw [← h3]; exact h9)
      · rw [h3] at h9; injection h9 with h9; omega
    · have h1 := (he.lt f.1 rfl).2
      rcases hv with h3 | h3
      · exact heg (by rw [← h3]; exact h9)
      · rw [h3] at h9; injection h9 with h9; omega
theorem Bu2.one {B B' f t : Nat} {w w' : World} (h : Bu2 B' f t w w') (hB : B ≤ B') (ht : B ≤ t) : Bu2 B f f w w' := ⟨h.os, h.tape, h.output, h.size, fun k hk h1 _ => h.block k (by omega) h1 (by omega)⟩
theorem Bu2.of_grown {B f t : Nat} {w w' : World} {r : Option Nat} (h : w.grownBy w' r) (hB : B ≤ w.heap.size) (hr : ∀ k, r = some k → B ≤ k) : Bu2 B f t w w' :=
  ⟨h.os, h.tape, h.output, h.size, fun k hk _ _ => h.block k (by omega) fun e => by have := hr k e.symm; omega⟩
theorem info_region : (Tryz.prog.info? 26).map (fun i => (i.zero, i.size, i.bytes)) = some (some (.agg #[.int .i64 0, .slice none 0 0]), 2, 32) := by kernel_rfl

set_option maxHeartbeats 4000000 in
set_option maxRecDepth 100000 in
theorem iParts (B n cap : Nat) (a : Option Addr) (W : Int) (l : List Int) (w : World) (hn : n ≤ 1048576) (hc : IntsAt B w a n l) (hB : B ≤ w.heap.size) :
    Calls Tryz.prog 15 #[.agg #[.int .i64 W, .slice a n cap]] w fun e w' => ∃ v es, e = .returned v ∧ OwnRs w.heap.size w' v es ∧ es.map kR = partsR W l ∧ (∀ e ∈ es, e.2.2.1 = W) ∧ Below w.heap.size w w' := by
  obtain ⟨i0, hi, hz0, hz1, hz2⟩ := info_parts info_region
  have H := Lib.hid hc
  have hln := hc.1
  clear hc
  have hbox := RgAt.new (w := w) W (.slice a n cap) rfl
  have hb0 := (Below.refl w.heap.size w).alloc (Nat.le_refl _) (.cells #[.int .i64 W, .slice a n cap] 26)
  have c0 := hbox.c0
  have c1 := hbox.c1
  have HL1 := Lib.hid (cellsR_len W l)
  have HCC := Lib.hid (cellsR_inC W l)
  go_enter Tryz.func15, Tryz.ntmps15
  go_wp2_with fail
  refine (iCopy B n cap a W l _ hn (H.out.on (hb0.mono hB)) (Nat.le_trans hB hb0.size)).mono ?_
  rintro e w2 ⟨f, rfl, hown, hb2⟩
  have hsz0 : (w.alloc (.cells #[.int .i64 W, .slice a n cap] 26)).heap.size = w.heap.size + 1 := by simp
  rw [hsz0] at hown
  have hfl := hown.lt f rfl
  have hbx2 := (hbox.on hb2 hbox.lt).alloc (.cells #[.int .i64 W, .slice (some ⟨f, 0, none⟩) n n] 26)
  have hrb2 := RgAt.new (w := w2) W (.slice (some ⟨f, 0, none⟩) n n) rfl
  have hB2 := (hb0.trans (hb2.mono hb0.size))
  have HB3 := Lib.hid (hB2.alloc hB2.size (.cells #[.int .i64 W, .slice (some ⟨f, 0, none⟩) n n] 26))
  have hown3 := hown.alloc (.cells #[.int .i64 W, .slice (some ⟨f, 0, none⟩) n n] 26)
  have hsz3 : (w2.alloc (.cells #[.int .i64 W, .slice (some ⟨f, 0, none⟩) n n] 26)).heap.size = w2.heap.size + 1 := by simp
  have e0 := hbx2.c0
  have e1 := hbx2.c1
  clear c0 c1 hb0 hb2 hbox hown hsz0 hB2
  go_wp2_with fail
  generalize (w2.alloc (.cells #[.int .i64 W, .slice (some ⟨f, 0, none⟩) n n] 26)) = w3 at *
  refine (iCells B n cap a W l w3 (by omega) (H.out.on (HB3.out.mono hB)) (Nat.le_trans hB HB3.out.size)).mono ?_
  rintro e w4 ⟨v, rfl, hownc, hb4⟩
  obtain ⟨rb, hrb⟩ : ∃ rb, w2.heap.size = rb := ⟨_, rfl⟩
  rw [hrb] at hrb2 hsz3 hfl ⊢
  obtain ⟨a4, c4, rfl⟩ := own_slice hownc
  have HA := Lib.hid (CellsAt.of_own hownc HCC.out)
  have hO4 := hown3.kept (grow_below hb4 none) (.inr (by intro e; cases e))
  have hbx4 := hbx2.on hb4 hbx2.lt
  have hrb4 := hrb2.on hb4 hrb2.lt
  have HB4 := Lib.hid (HB3.out.trans (hb4.mono HB3.out.size))
  have hcb : ∀ b off, a4 = some ⟨b, off, none⟩ → b ≠ f ∨ (cellsR W l).length = 0 := fun b off e => by
    subst e
    rcases hownc.2 with ⟨e, _⟩ | ⟨g, cp, cur, e, hb, _⟩
    · cases e
    · injection e with e1 _ _
      injection e1 with e1
      injection e1 with e1 _ _
      subst e1
      exact .inl (by omega)
  have HCB := Lib.hid hcb
  have hsz4 := hb4.size
  clear hownc hb4 hcb e0 e1 hbx2 hrb2 hown3 hrb
  cases hreg : isReg W l with
  | false =>
    have hm0 : (cellsR W l).length = 0 := by rw [cellsR_no hreg]; rfl
    have HP := Lib.hid (partsR_no hreg)
    rw [hm0]
    clear hreg HA hbx4 hrb4 hO4
    go_wp2
    go_loopw [3, 13] (fun v i wr => v = .slice none 0 0 ∧ i = .int .i64 0 ∧ wr = w4) (fun _ i _ => 0 - (intOf i).toNat)
    case atStart => exact ⟨rfl, rfl, rfl⟩
    case round =>
      obtain ⟨rfl, rfl, rfl⟩ := hrel
      go_wp2
      go_ret
      exact ⟨_, [], rfl, OwnRs.nil _ _, by rw [HP.out]; rfl, fun e he => (by cases he), HB4.out⟩
  | true =>
    obtain ⟨N, rfl, hr⟩ := isReg_out hreg
    rw [hln] at hr
    have HR := Lib.hid hr
    have HPR := Lib.hid (partsR_yes hr)
    have hcs := cellsR_yes hr
    rw [hcs] at HL1 HCB HA ⊢
    have HCM := Lib.hid (fun q => mem_cellsB hr q)
    have HIN := Lib.hid (cellsB_in (W := N) (H := n) (l := l) hr.w6 hr.h6)
    obtain ⟨cs, hcsd⟩ : ∃ cs, cellsB N n l = cs := ⟨_, rfl⟩
    rw [hcsd] at HL1 HCB HA HCM HIN ⊢
    obtain ⟨m, hm⟩ : ∃ m, cs.length = m := ⟨_, rfl⟩
    have HM := Lib.hid hm
    have HCS := Lib.hid hcsd
    have hm36 := HL1.out
    rw [hm] at hm36 HA ⊢
    have hN6 := hr.w6
    have hn6 := hr.h6
    have HO4 := Lib.hid hO4
    have HBX := Lib.hid hbx4
    have HRB := Lib.hid hrb4
    clear hreg hr hcs hcsd hm HCC HL1 hO4 hbx4 hrb4
    go_wp2
    go_loopw [3, 13] (fun v i wr => ∃ (k : Nat) (es : List REnt) (rest : List Int), k ≤ m ∧ i = .int .i64 k ∧ Hid (es.map kR = partsTo N n l k) ∧ Hid (∀ e ∈ es, e.2.2.1 = N) ∧ Hid (OwnRs w4.heap.size wr v es) ∧ Hid (Lft l cs k rest) ∧ Hid (Rg N n rest) ∧ Hid (wr.ownsRow (w.heap.size + 1) 3 1 (.slice (some ⟨f, 0, none⟩) n n) n (iv rest)) ∧ Hid (Bu2 w4.heap.size f f w4 wr)) (fun _ i _ => m - (intOf i).toNat)
    case atStart => exact ⟨0, [], l, by omega, rfl, rfl, fun e he => (by cases he), OwnRs.nil _ _, Lft.start _ _, HR.out, HO4.out, Bu2.refl _ _ _ _⟩
    case round =>
      obtain ⟨k, es, rest, hk, rfl, hmap, hwid, ho, hlf, hrg, hof, hbu⟩ := hrel
      by_cases hlt : k < m
      · obtain ⟨b, off, rfl, hbB, hcell⟩ := HA.out.2.2 (by omega)
        have hbne := (HCB.out b off rfl).resolve_right (by rw [HM.out]; omega)
        have hmem := getD_mem (l := cs) (j := k) (by rw [HM.out]; exact hlt)
        have hq := HIN.out _ hmem
        have hbt := (HCM.out _).1 hmem
        obtain ⟨x, y, hxy⟩ : ∃ x y : Nat, cs.getD k (0, 0) = ((x : Int), (y : Int)) := ⟨(cs.getD k (0, 0)).1.toNat, (cs.getD k (0, 0)).2.toNat, by
          have e1 : (((cs.getD k (0, 0)).1.toNat : Nat) : Int) = (cs.getD k (0, 0)).1 := by omega
          have e2 : (((cs.getD k (0, 0)).2.toNat : Nat) : Int) = (cs.getD k (0, 0)).2 := by omega
          rw [e1, e2]⟩
        have p1 := (World.cell?_of_block (a := ⟨b, off + k * 2, none⟩) (hbu.out.block b hbB hbne hbne)).trans (hcell k hlt).1
        have p2 := (World.cell?_of_block (a := ⟨b, off + k * 2 + 1, none⟩) (hbu.out.block b hbB hbne hbne)).trans (hcell k hlt).2
        rw [hxy] at p1 p2 hq hbt
        dsimp only at p1 p2 hq
        have HXY := Lib.hid hxy
        have HBT := Lib.hid hbt
        have hszr := hbu.out.size
        have hbxr := HBX.out.bu hbu.out HBX.out.lt (by omega) (by omega)
        have hrbr := HRB.out.bu hbu.out HRB.out.lt (by omega) (by omega)
        have hbA := (Below.refl wr.heap.size wr).alloc (Nat.le_refl _) (.cells #[.int .i64 (x : Int), .int .i64 (y : Int)] 79)
        have hbx5 := hbxr.alloc (.cells #[.int .i64 (x : Int), .int .i64 (y : Int)] 79)
        have hrb5 := hrbr.alloc (.cells #[.int .i64 (x : Int), .int .i64 (y : Int)] 79)
        have hxb5 := Two.new (w := wr) x y rfl
        have HOF5 := Lib.hid (hof.out.alloc (.cells #[.int .i64 (x : Int), .int .i64 (y : Int)] 79))
        have HO5 := Lib.hid (ho.out.on hbA)
        have HBU5 := Lib.hid (hbu.out.trans (Bu2.of_below (f := f) (t := f) (hbA.mono hszr)))
        have hsz5 : (wr.alloc (.cells #[.int .i64 (x : Int), .int .i64 (y : Int)] 79)).heap.size = wr.heap.size + 1 := by simp
        have d0 := hrb5.c0
        have d1 := hrb5.c1
        have x0 := hxb5.c0
        have x1 := hxb5.c1
        have hk0 : (0 : Int) ≤ (k : Int) := by omega
        have hk1 : (k : Int) < (m : Int) := by omega
        have hvlt := ho.out.row.lt
        have HES := Lib.hid (fun e (he : e ∈ es) => (ho.out.lt he).2)
        have hlen : es.length ≤ k := by have := congrArg List.length hmap.out; rw [List.length_map] at this; rw [this]; exact partsTo_le N n l k
        clear hcell hxy hbt hmem hbu hbxr hrbr hbA hof ho
        go_wp2_with fail
        generalize (wr.alloc (.cells #[.int .i64 (x : Int), .int .i64 (y : Int)] 79)) = w5 at *
        refine (iInReg w5.heap.size n n (some ⟨f, 0, none⟩) N rest x y w5 (by omega) (IntsAt.of_own HOF5.out hrg.out.in64) (Nat.le_refl _)).mono ?_
        rintro e w6 ⟨rfl, hb6⟩
        have hbx6 := hbx5.on hb6 hbx5.lt
        have hrb6 := hrb5.on hb6 hrb5.lt
        have hxb6 := hxb5.on hb6 hxb5.lt
        have HOF6 := Lib.hid (HOF5.out.kept (grow_below hb6 none) (.inr (by intro e; cases e)))
        have HO6 := Lib.hid (HO5.out.on hb6)
        have HBU6 := Lib.hid (HBU5.out.trans (Bu2.of_below (f := f) (t := f) (hb6.mono (by omega))))
        have hsz6 := hb6.size
        clear d0 d1 x0 x1 hb6 hbx5 hrb5 hxb5 HOF5 HO5 HBU5 p1 p2
        cases hin : cellB N rest x y with
        | false =>
          have hnb : ¬ bt rest ((x : Int), (y : Int)) = true := fun h9 => by
            unfold cellB at hin
            rw [isReg_of hrg.out, h9] at hin
            cases hin
          have hnu : ¬ Un l cs k (cs.getD k (0, 0)) := fun h9 => hnb (by have := (hlf.out.un (c := cs.getD k (0, 0)) (by rw [HXY.out]; exact HBT.out)).2 h9; rw [HXY.out] at this; exact this)
          have HL := Lib.hid (hlf.out.skip hnu)
          have HMP := Lib.hid (show es.map kR = partsTo N n l (k + 1) from by rw [partsTo_no (by rw [HCS.out]; exact hnu)]; exact hmap.out)
          clear hin hnb hnu hlf hmap hbx6 hrb6 hxb6
          go_wp2
          go_roundw
          case rel => exact ⟨k + 1, es, rest, by omega, by go_num, HMP.out, hwid.out, HO6.out, HL.out, hrg.out, HOF6.out, HBU6.out⟩
          case measure => simp [intOf]; omega
        | true =>
          have hyb : bt rest ((x : Int), (y : Int)) = true := by
            unfold cellB at hin
            rw [Bool.and_eq_true] at hin
            exact hin.2
          have HYB := Lib.hid (show bt rest (cs.getD k (0, 0)) = true from by rw [HXY.out]; exact hyb)
          have hun : Un l cs k (cs.getD k (0, 0)) := (hlf.out.un (c := cs.getD k (0, 0)) (by rw [HXY.out]; exact HBT.out)).1 HYB.out
          have HPY := Lib.hid (partsTo_yes (W := N) (H := n) (l := l) (k := k) (by rw [HCS.out]; exact hun))
          have f0 := hbx6.c0
          have f1 := hbx6.c1
          clear hin hyb hun
          go_wp2_with fail
          refine (iEmpty N n w6 (by omega)).mono ?_
          rintro e w7 ⟨g, rfl, hown7, hb7⟩
          have hgl := hown7.lt g rfl
          have hrb7 := (hrb6.on hb7 hrb6.lt).alloc (.cells #[.int .i64 N, .slice (some ⟨g, 0, none⟩) n n] 26)
          have hxb7 := (hxb6.on hb7 hxb6.lt).alloc (.cells #[.int .i64 N, .slice (some ⟨g, 0, none⟩) n n] 26)
          have hpb7 := RgAt.new (w := w7) N (.slice (some ⟨g, 0, none⟩) n n) rfl
          have hbA7 := (Below.refl w7.heap.size w7).alloc (Nat.le_refl _) (.cells #[.int .i64 N, .slice (some ⟨g, 0, none⟩) n n] 26)
          have HOF7 := Lib.hid ((HOF6.out.kept (grow_below hb7 none) (.inr (by intro e; cases e))).alloc (.cells #[.int .i64 N, .slice (some ⟨g, 0, none⟩) n n] 26))
          have HO7 := Lib.hid ((HO6.out.on hb7).on hbA7)
          have HT7 := Lib.hid (hown7.alloc (.cells #[.int .i64 N, .slice (some ⟨g, 0, none⟩) n n] 26))
          have hsz7 := hb7.size
          have HBU7 := Lib.hid ((HBU6.out.trans (Bu2.of_below (f := f) (t := f) (hb7.mono (by omega)))).trans (Bu2.of_below (f := f) (t := f) (hbA7.mono (by omega))))
          have hsz8 : (w7.alloc (.cells #[.int .i64 N, .slice (some ⟨g, 0, none⟩) n n] 26)).heap.size = w7.heap.size + 1 := by simp
          have d0 := hrb7.c0
          have d1 := hrb7.c1
          have x0 := hxb7.c0
          have x1 := hxb7.c1
          have y0 := hpb7.c0
          have y1 := hpb7.c1
          have HPB := Lib.hid hpb7
          clear f0 f1 hb7 hown7 hbx6 hrb6 hxb6 HOF6 HO6 HBU6 hbA7 hpb7
          go_wp2_with fail
          generalize (w7.alloc (.cells #[.int .i64 N, .slice (some ⟨g, 0, none⟩) n n] 26)) = w8 at *
          have hfg : f ≠ g := by omega
          have HRG := Lib.hid HR.out
          refine (iMovePart N n (w.heap.size + 1) w6.heap.size f g hfg ((cellsB N n rest).length + 1) rest (zerosR n) x y w8 (by omega) (MvS.start hrg.out (Rg.zeros HR.out.w0 HR.out.w6 HR.out.h0 HR.out.h6) HOF7.out HT7.out) (by omega) (by omega)).mono ?_
          rintro e w9 ⟨rfl, G, T, hmv, hS⟩
          rw [← HXY.out] at hmv
          have HL := Lib.hid (hlf.out.take HYB.out hmv)
          have hTP := hlf.out.part HR.out HYB.out hmv hS.rt (fun q => by
            rw [hS.all q, bt_zeros]
            simp)
          have HPB9 := HPB.out.bu hS.bu HPB.out.lt (by omega) (by omega)
          have HO9 := Lib.hid (HO7.out.bu hS.bu (by omega) (fun e9 => by have := (hvlt g e9).2; omega) (fun e he e9 => by have := HES.out e he; omega))
          have HVG := Lib.hid (show u3.ownBlock ≠ some g from fun e9 => by have := (hvlt g e9).2; omega)
          have HVF := Lib.hid (show some f ≠ u3.ownBlock from fun e9 => by have := (hvlt f e9.symm).1; omega)
          have HVB := Lib.hid (show ∀ k, u3.ownBlock = some k → w4.heap.size ≤ k from fun k e9 => (hvlt k e9).1)
          have HGE := Lib.hid (show ∀ e ∈ es, e.1 ≠ g from fun e he e9 => by have := HES.out e he; omega)
          have hwg : w4.heap.size ≤ g := by omega
          have HBU9 := Lib.hid (HBU7.out.trans (hS.bu.one (by omega) hwg))
          have HRG9 := Lib.hid hS.rg
          have hTl := hS.rt.len
          have HTO := Lib.hid (own_below hS.ot (show w4.heap.size ≤ w6.heap.size by omega))
          have HFO := Lib.hid hS.of
          have hsz9 := hS.bu.size
          have y0 := HPB9.c0
          have y1 := HPB9.c1
          clear d0 d1 x0 x1 hS hmv HO7 HT7 HOF7 HBU7 HPB hrb7 hxb7 HPB9 hvlt
          go_wp2_with (first | (at_builtin; refine wpList_append_own_at _ rfl _ _ 34 rfl w4.heap.size 26 i0 (.agg #[.int .i64 0, .slice none 0 0]) 2 32 Tryz.underlying34 hi hz0 hz1 hz2 rfl (by decide) _ _ _ rfl ((HO9.out.on ((Below.refl _ _).alloc (Nat.le_refl _) _)).row) ⟨w9.heap.size, 0, none⟩ 1 1 [.int .i64 (N : Int), .slice (some ⟨g, 0, none⟩) n n] rfl rfl (World.news_of_block (cs := #[.int .i64 (N : Int), .slice (some ⟨g, 0, none⟩) n n]) (heap_alloc_new _ _)) ?c2 ?c3 ?c4 ?c5 ?_) | go_in)
          case c2 =>
            intro u hu
            simp only [List.mem_cons, List.not_mem_nil, or_false] at hu
            rcases hu with rfl | rfl <;> rfl
          case c3 => unfold maxLen; omega
          case c4 => omega
          case c5 => simp; omega
          intro v' w10 hown10 hgrow _ hblk
          have hbB9 := (Below.refl w9.heap.size w9).alloc (Nat.le_refl _) (.cells #[.int .i64 (N : Int), .slice (some ⟨g, 0, none⟩) n n] 26)
          have hO10 := HO9.out.on hbB9
          have hT10 := HTO.out.alloc (.cells #[.int .i64 (N : Int), .slice (some ⟨g, 0, none⟩) n n] 26)
          have hF10 := (HFO.out.alloc (.cells #[.int .i64 (N : Int), .slice (some ⟨g, 0, none⟩) n n] 26)).kept hgrow (.inr HVF.out)
          have HF10 := Lib.hid hF10
          have eT : rvE (g, n, (N : Int), T) = .slice (some ⟨g, 0, none⟩) n n := by unfold rvE; dsimp only; rw [hTl]
          have HO10 := Lib.hid (hO10.grow (e := (g, n, (N : Int), T)) (by rw [eT]; exact hown10) hgrow (by simpa using hblk) (by dsimp only; rw [eT, hTl]; exact hT10) HGE.out HVG.out)
          have HMP := Lib.hid (show (es ++ [(g, n, (N : Int), T)]).map kR = partsTo N n l (k + 1) from by
            rw [HPY.out, List.map_append, hmap.out]
            show _ ++ [T] = _
            rw [hTP, HCS.out])
          have HWD := Lib.hid (show ∀ e ∈ es ++ [(g, n, (N : Int), T)], e.2.2.1 = (N : Int) from fun e he => by
            rw [List.mem_append, List.mem_singleton] at he
            rcases he with he | rfl
            · exact hwid.out e he
            · rfl)
          have HBU10 := Lib.hid ((HBU9.out.trans (Bu2.of_below (f := f) (t := f) (hbB9.mono (by omega)))).trans (Bu2.of_grown hgrow (by simp; omega) HVB.out))
          clear hbB9 hO10 hT10 hF10 hown10 hgrow hblk HO9 HTO HFO HBU9 y0 y1 eT hTP
          go_wp2
          go_roundw
          case rel => first
            | exact ⟨k + 1, _, G, by omega, by go_num, HMP.out, HWD.out, HO10.out, HL.out, HRG9.out, HF10.out, HBU10.out⟩
            | (repeat apply Exists.intro
               exact ⟨⟨k + 1, _, G, by omega, by go_num, HMP.out, HWD.out, HO10.out, HL.out, HRG9.out, HF10.out, HBU10.out⟩, rfl⟩)
          case measure => simp [intOf]; omega
      · obtain rfl : k = m := by omega
        have HP := Lib.hid (show es.map kR = partsR N l from by rw [HPR.out]; unfold partsB; rw [HCS.out, HM.out]; exact hmap.out)
        have HO := Lib.hid (ho.out.less (B' := w.heap.size) (Nat.le_trans HB3.out.size hsz4))
        have HBF := Lib.hid (HB4.out.trans (hbu.out.below (B' := w.heap.size) (Nat.le_trans HB3.out.size hsz4) (by omega) (by omega)))
        clear ho hmap hlf hrg hof hbu
        go_wp2
        go_ret
        exact ⟨_, es, rfl, HO.out, HP.out, hwid.out, HBF.out⟩
end

section
open Go.RowKit Go.Maps

theorem inG_inP {W H : Nat} (h1 : W ≤ 6) (h2 : H ≤ 6) {c : Cl} (h : inG W H c) : inP c = true := by
  unfold inG at h
  simp [inP, inb]
  omega
theorem CellsAt.by {B b off n : Nat} {w w' : World} {l : List Cl} {r : Option Nat} (h : CellsAt B w (some ⟨b, off, none⟩) n l) (hg : w.grownBy w' r) (hB : B ≤ w.heap.size) (hr : r ≠ some b) : CellsAt B w' (some ⟨b, off, none⟩) n l :=
  ⟨h.1, h.2.1, fun hp => by
    obtain ⟨b', off', e, hlt, hc⟩ := h.2.2 hp
    injection e with e
    injection e with e1 e2
    subst e1 e2
    have hb := hg.block b (by omega) (fun e => hr e.symm)
    exact ⟨b, off, rfl, hlt, fun k hk => ⟨(World.cell?_of_block (a := ⟨b, off + k * 2, none⟩) hb).trans (hc k hk).1, (World.cell?_of_block (a := ⟨b, off + k * 2 + 1, none⟩) hb).trans (hc k hk).2⟩⟩⟩
def sLen : Value → Nat
  | .slice _ n _ => n
  | _ => 0
theorem left_round {W H : Nat} {l : List Int} (hl : Rg W H l) {k : Nat} (hk : k ≤ (cellsB W H l).length) (h0 : 0 < (leftL l (cellsB W H l) k).length) {sn : List Cl} (hb : Bfs (leftL l (cellsB W H l) k) sn sn.length 0) :
    ∃ i, i + 1 ≤ (cellsB W H l).length ∧ partsTo W H l (i + 1) = partsTo W H l k ++ [rowsOf H sn] ∧ (leftL l (cellsB W H l) k).filter (fun q => !hasC sn q.1 q.2) = leftL l (cellsB W H l) (i + 1) ∧ (leftL l (cellsB W H l) (i + 1)).length < (leftL l (cellsB W H l) k).length := by
  obtain ⟨i, _, hi, hp, hr, hm⟩ := left_step hl hk h0
  have hin : ∀ c ∈ sn, inG W H c := fun c hc => cellsB_inG c ((mem_leftL _ _ _ _).1 (hb.sub c hc)).1
  obtain ⟨f1, f2⟩ := rowsOf_facts hl.w0 hl.w6 hl.h0 hl.h6 hin
  have hm2 : ∀ q, q ∈ leftL l (cellsB W H l) (i + 1) ↔ q ∈ leftL l (cellsB W H l) k ∧ q ∉ sn := fun q => by rw [hm q, ← hb.full q]
  refine ⟨i, hi, ?_, filter_left hm2, ?_⟩
  · rw [hp, partR_eq hl _ f1 fun q => (f2 q).trans ((hb.full q).trans (hr q))]
  · have hs : ∀ k, (leftL l (cellsB W H l) k).Nodup := fun k => srt_nodup (List.Pairwise.sublist List.filter_sublist (cellsB_srt W H l))
    have := nodup_sub_len ((leftL l (cellsB W H l) k).getD 0 (0, 0) :: leftL l (cellsB W H l) (i + 1)) (leftL l (cellsB W H l) k) (List.nodup_cons.2 ⟨fun h => ((hm2 _).1 h).2 hb.first, hs _⟩) (fun x hx => by
      rcases List.mem_cons.1 hx with rfl | hx
      · exact getD_mem h0
      · exact ((hm2 x).1 hx).1)
    rw [List.length_cons] at this
    omega
theorem own_lit_rg (w : World) (B g : Nat) (h : B ≤ w.heap.size) (hg : w.heap.size = g) : OwnRs B (w.alloc (.cells #[] 26)) (.slice (some ⟨g, 0, none⟩) 0 0) [] := by
  subst hg
  exact ⟨World.ownsRow_lit (base := B) (e := 26) (size := 2) w #[] 0 h (by simp [maxLen]) rfl, fun e he => (by cases he), List.Pairwise.nil, fun e he => (by cases he)⟩

set_option maxHeartbeats 8000000 in
set_option maxRecDepth 100000 in
theorem sParts (B n cap : Nat) (a : Option Addr) (W : Int) (l : List Int) (w : World) (hn : n ≤ 1048576) (hc : IntsAt B w a n l) (hB : B ≤ w.heap.size) :
    Calls Tryz.prog 16 #[.agg #[.int .i64 W, .slice a n cap]] w fun e w' => ∃ v es, e = .returned v ∧ OwnRs w.heap.size w' v es ∧ es.map kR = partsR W l ∧ (∀ e ∈ es, e.2.2.1 = W) ∧ Below w.heap.size w w' := by
  obtain ⟨i0, hi, hz0, hz1, hz2⟩ := info_parts info_region
  obtain ⟨j0, hj, hy0, hy1, hy2⟩ := info_parts info_cell
  have H := Lib.hid hc
  have hln := hc.1
  clear hc
  have hbox := (RgAt.new (w := w) W (.slice a n cap) rfl).alloc (.cells #[] 26)
  have hb0 := ((Below.refl w.heap.size w).alloc (Nat.le_refl _) (.cells #[.int .i64 W, .slice a n cap] 26)).alloc (by simp) (.cells #[] 26)
  have ho0 := own_lit_rg (w.alloc (.cells #[.int .i64 W, .slice a n cap] 26)) (w.heap.size + 1) (w.heap.size + 1) (by simp) (by simp)
  have hsz0 : ((w.alloc (.cells #[.int .i64 W, .slice a n cap] 26)).alloc (.cells #[] 26)).heap.size = w.heap.size + 1 + 1 := by simp
  have c0 := hbox.c0
  have c1 := hbox.c1
  have HCC := Lib.hid (cellsR_inC W l)
  go_enter Tryz.func16, Tryz.ntmps16
  go_wp2_with fail
  generalize ((w.alloc (.cells #[.int .i64 W, .slice a n cap] 26)).alloc (.cells #[] 26)) = w1 at *
  refine (sCells B n cap a W l w1 (by omega) (H.out.on (hb0.mono hB)) (Nat.le_trans hB hb0.size)).mono ?_
  rintro e w2 ⟨v, rfl, hownc, hb2⟩
  obtain ⟨a2, c2, rfl⟩ := own_slice hownc
  have HB2 := Lib.hid (hb0.trans (hb2.mono hb0.size))
  have HBX := Lib.hid (hbox.on hb2 hbox.lt)
  have HO2 := Lib.hid (ho0.on hb2)
  have HA := Lib.hid (CellsAt.of_own hownc HCC.out)
  have HNE := Lib.hid (show ∀ b off, a2 = some ⟨b, off, none⟩ → b ≠ w.heap.size + 1 ∨ (cellsR W l).length = 0 from fun b off e => by
    subst e
    rcases hownc.2 with ⟨e, _⟩ | ⟨g, cp, cur, e, hb, _⟩
    · cases e
    · injection e with e1 _ _
      injection e1 with e1
      injection e1 with e1 _ _
      subst e1
      exact .inl (by omega))
  have hsz2 := hb2.size
  clear hbox hb0 hb2 ho0 c0 c1 hownc
  cases hreg : isReg W l with
  | false =>
    have hm0 : (cellsR W l).length = 0 := by rw [cellsR_no hreg]; rfl
    have HP := Lib.hid (partsR_no hreg)
    have HO := Lib.hid (HO2.out.less (B' := w.heap.size) (by omega))
    rw [hm0]
    clear hreg HA HNE HO2
    go_wp2
    go_loopw [3, 4] (fun v lv wr => v = .slice (some ⟨w.heap.size + 1, 0, none⟩) 0 0 ∧ lv = .slice a2 0 c2 ∧ wr = w2) (fun _ _ _ => 0)
    case atStart => exact ⟨rfl, rfl, rfl⟩
    case round =>
      obtain ⟨rfl, rfl, rfl⟩ := hrel
      go_wp2
      go_ret
      exact ⟨_, [], rfl, HO.out, by rw [HP.out]; rfl, fun e he => (by cases he), HB2.out⟩
  | true =>
    obtain ⟨N, rfl, hr⟩ := isReg_out hreg
    rw [hln] at hr
    have HR := Lib.hid hr
    have HPR := Lib.hid (partsR_yes hr)
    have hcs := cellsR_yes hr
    rw [hcs] at HNE HA ⊢
    have HIN := Lib.hid (cellsB_in (W := N) (H := n) (l := l) hr.w6 hr.h6)
    have HL36 := Lib.hid (cellsB_len N n l hr.w6 hr.h6)
    have hN6 := hr.w6
    have hn6 := hr.h6
    have hm2 := leftL_zero l (cellsB N n l)
    rw [← hm2] at HA HNE ⊢
    have HLK := Lib.hid (show ∀ k, ∀ c ∈ leftL l (cellsB N n l) k, c ∈ cellsB N n l from fun k c hc => ((mem_leftL _ _ _ _).1 hc).1)
    have HLE := Lib.hid (show ∀ k, (leftL l (cellsB N n l) k).length ≤ 36 from fun k => Nat.le_trans (List.length_filter_le _ _) HL36.out)
    clear hreg hr hcs HCC hm2
    go_wp2
    go_loopw [3, 4] (fun v lv wr => ∃ (k m cl : Nat) (al : Option Addr) (es : List REnt), lv = .slice al m cl ∧ Hid (k ≤ (cellsB N n l).length) ∧ Hid (CellsAt wr.heap.size wr al m (leftL l (cellsB N n l) k)) ∧ Hid (es.map kR = partsTo N n l k) ∧ Hid (∀ e ∈ es, e.2.2.1 = (N : Int)) ∧ Hid (OwnRs (w.heap.size + 1) wr v es) ∧ Hid (∀ b off, al = some ⟨b, off, none⟩ → v.ownBlock ≠ some b ∨ m = 0) ∧ Hid (RgAt wr w.heap.size N (.slice a n cap)) ∧ Hid (Below w.heap.size w wr)) (fun _ lv _ => sLen lv)
    case atStart =>
      refine ⟨0, _, _, _, [], rfl, Nat.zero_le _, HA.out, rfl, fun e he => (by cases he), HO2.out, fun b off e => ?_, HBX.out, HB2.out⟩
      rcases HNE.out b off e with h9 | h9
      · exact .inl (fun e9 => by injection e9 with e9; exact h9 e9.symm)
      · exact .inr h9
    case round =>
      obtain ⟨k, m, cl, al, es, rfl, hk, hca, hmap, hwid, ho, hne, hbx, hbw⟩ := hrel
      clear HA HNE HO2 HBX
      have hLm := hca.out.1
      have hm36 := HLE.out k
      rw [hLm] at hm36
      by_cases hm0 : 0 < m
      · have HBF := Lib.hid (show ∀ sn, Bfs (leftL l (cellsB N n l) k) sn sn.length 0 → ∃ i, i + 1 ≤ (cellsB N n l).length ∧ partsTo N n l (i + 1) = partsTo N n l k ++ [rowsOf n sn] ∧ (leftL l (cellsB N n l) k).filter (fun q => !hasC sn q.1 q.2) = leftL l (cellsB N n l) (i + 1) ∧ (leftL l (cellsB N n l) (i + 1)).length < (leftL l (cellsB N n l) k).length from fun sn hb => left_round HR.out hk.out (by omega) hb)
        have HING := Lib.hid (show ∀ c ∈ leftL l (cellsB N n l) k, inG N n c from fun c hc => cellsB_inG c (HLK.out k c hc))
        obtain ⟨L, hL⟩ : ∃ L, leftL l (cellsB N n l) k = L := ⟨_, rfl⟩
        rw [hL] at hca hLm HBF HING
        obtain ⟨b1, o1, rfl, hb1, hc1⟩ := hca.out.2.2 hm0
        have hvb := (hne.out b1 o1 rfl).resolve_right (by omega)
        obtain ⟨x0, y0, hxy0⟩ : ∃ x y, L.getD 0 (0, 0) = (x, y) := ⟨_, _, rfl⟩
        have y1 := (hc1 0 hm0).1
        have y2 := (hc1 0 hm0).2
        rw [hxy0] at y1 y2
        simp only [Nat.zero_mul, Nat.add_zero] at y1 y2
        have HX0 := Lib.hid hxy0
        have HC1 := Lib.hid hc1
        have HLM := Lib.hid hLm
        have HLL := Lib.hid hL
        have hm00 : (0 : Int) < (m : Int) := by omega
        generalize wr = w0 at *
        have hwlt := hbx.out.lt
        clear hc1 hL hLm hxy0 hne
        go_wp2
        go_loopw [5, 6] (fun v i WR9 => ∃ (k g cc q : Nat) (sn : List Cl), i = .int .i64 k ∧ v = .slice (some ⟨g, 0, none⟩) q cc ∧ k ≤ q ∧ q ≤ m ∧ Hid (WR9.ownsRow w0.heap.size 79 2 (.slice (some ⟨g, 0, none⟩) q cc) q (cvs sn)) ∧ Hid (Bfs L sn k 0) ∧ Below w0.heap.size w0 WR9) (fun _ i _ => m - (intOf i).toNat)
        case atStart =>
          have h9 := World.ownsRow_lit (base := w0.heap.size) (e := 79) (size := 2) w0 #[.int .i64 x0, .int .i64 y0] 1 (Nat.le_refl _) (by simp [maxLen]) rfl
          refine ⟨0, w0.heap.size, 1, 1, [L.getD 0 (0, 0)], rfl, rfl, by omega, by omega, ?_, Bfs.start L (by have := HLM.out; omega), (Below.refl _ _).alloc (Nat.le_refl _) _⟩
          rw [HX0.out]
          exact h9
        case round =>
          obtain ⟨i, g, cc, q, sn, rfl, rfl, hiq, hqm, hown, hbfs, hbo⟩ := hrel
          have hszo := hbo.size
          clear y1 y2
          have hq := hown.out.1
          rw [cvs_length] at hq
          by_cases hlt : i < q
          · have hi1 : (i : Int) < (q : Int) := by omega
            go_wp2
            go_loopw [5, 7] (fun v z WR9 => ∃ (k g cc q : Nat) (sn : List Cl), z = .int .i64 k ∧ k ≤ m ∧ v = .slice (some ⟨g, 0, none⟩) q cc ∧ i < q ∧ q ≤ m ∧ Hid (WR9.ownsRow w0.heap.size 79 2 (.slice (some ⟨g, 0, none⟩) q cc) q (cvs sn)) ∧ Hid (Bfs L sn i k) ∧ Below w0.heap.size w0 WR9) (fun _ z _ => m - (intOf z).toNat)
            case atStart => exact ⟨0, g, cc, q, sn, rfl, by omega, rfl, hlt, hqm, hown, hbfs, hbo⟩
            case round =>
              clear hown hbfs hbo hq hiq hqm hlt hi1 hszo
              obtain ⟨j, g, cc, q, sn, rfl, hjm, rfl, hiq, hqm, hown, hbfs, hbo⟩ := hrel
              have hszo := hbo.size
              have hq := hown.out.1
              rw [cvs_length] at hq
              have hqq : sn.length = q := by omega
              by_cases hlt : j < m
              · obtain ⟨x, y, hxy⟩ : ∃ x y, sn.getD i (0, 0) = (x, y) := ⟨_, _, rfl⟩
                obtain ⟨u, v, huv⟩ : ∃ u v, L.getD j (0, 0) = (u, v) := ⟨_, _, rfl⟩
                have hcv := cvs_get sn i (by omega)
                rw [hxy] at hcv
                have p1 := hown.out.cellAt (i * 2) (by omega)
                have p2 := hown.out.cellAt (i * 2 + 1) (by omega)
                rw [hcv.1] at p1
                rw [hcv.2] at p2
                have q1 := (hbo.cell (p := ⟨b1, o1 + j * 2, none⟩) hb1).trans (HC1.out j hlt).1
                have q2 := (hbo.cell (p := ⟨b1, o1 + j * 2 + 1, none⟩) hb1).trans (HC1.out j hlt).2
                rw [huv] at q1 q2
                have hx := inG_inP hN6 hn6 (HING.out _ (hbfs.out.sub _ (getD_mem (l := sn) (j := i) (by omega))))
                have hu := inG_inP hN6 hn6 (HING.out _ (getD_mem (l := L) (j := j) (by rw [HLM.out]; exact hlt)))
                rw [hxy] at hx
                rw [huv] at hu
                have HX := Lib.hid hxy
                have HU := Lib.hid huv
                have hk0 : (0 : Int) ≤ (j : Int) := by omega
                have hk1 : (j : Int) < (m : Int) := by omega
                have hi0 : (0 : Int) ≤ (i : Int) := by omega
                have hi1 : (i : Int) < (q : Int) := by omega
                have hgl := hown.out.lt g rfl
                have hbl : b1 < wr.heap.size := by omega
                have hne : g ≠ b1 := by omega
                have HA := Lib.hid (CellsAt.of_own hown.out (fun c hc => inP_in (inG_inP hN6 hn6 (HING.out c (hbfs.out.sub c hc)))))
                clear hxy huv hcv hq
                have hN : ∀ w', Calls Tryz.prog 55 #[.agg #[.int .i64 x, .int .i64 y], .agg #[.int .i64 u, .int .i64 v]] w' fun e w'' => e = .returned (.bool (nearC (x, y) (u, v))) ∧ Below w'.heap.size w' w'' := fun w' => sNear x y u v w' hx hu
                cases hnr : nearC (x, y) (u, v) with
                | false =>
                  have hNG : ∀ n os, Calls Tryz.prog 55 #[.agg #[.int .i64 x, .int .i64 y], .agg #[.int .i64 u, .int .i64 v]] (Go.Sort.grow (wr.drewN n) os) fun e w'' => e = .returned (.bool false) ∧ ∃ n9 os', w'' = Go.Sort.grow ((Go.Sort.grow (wr.drewN n) os).drewN n9) os' := fun n os => by have h9 := sNearG x y u v (Go.Sort.grow (wr.drewN n) os) hx hu; rw [hnr] at h9; exact h9
                  have hb2 : Bfs L sn i (j + 1) := hbfs.out.skip (by rw [HX.out, HU.out, hnr]; intro h; cases h)
                  have HB2 := Lib.hid hb2
                  have g1 := cell_grown hgl.2 p1
                  have g2 := cell_grown hgl.2 p2
                  have g3 := cell_grown hbl q1
                  have g4 := cell_grown hbl q2
                  have hmix : Tryz.prog.follows .mixedOrders = true := by kernel_rfl
                  clear hb2 hnr hN hx hu p1 p2 q1 q2
                  go_wp2_with fail
                  refine wp_region_quiet_grown hmix (by kernel_rfl) ?_
                  repeat (first | (go_big_quiet_step (first | (go_at_call 55; refine Calls.grown_of (hNG _ _)))) | (quiet_step (first | (go_at_call 55; refine Calls.grown_of (hNG _ _)))))
                  refine wpQuiet_nil ?_
                  intro _ hw'
                  obtain ⟨⟨nq, osq⟩, hw''⟩ := hw'
                  subst hw''
                  have hbw : Below wr.heap.size wr (Go.Sort.grow (wr.drewN nq) osq) := ⟨rfl, rfl, rfl, by simp, fun j hk => Go.Sort.heap_grow_old _ _ hk⟩
                  have HO := Lib.hid (hown.out.kept (grow_below hbw none) (.inr (by intro e; cases e)))
                  have HBB := Lib.hid (hbo.trans (hbw.mono hszo))
                  clear hbw g1 g2 g3 g4 hNG
                  go_wp2
                  go_roundw
                  case rel => exact ⟨j + 1, g, cc, q, sn, by go_num, by omega, rfl, hiq, hqm, HO.out, HB2.out, HBB.out⟩
                  case measure => simp [intOf]; omega
                | true =>
                  simp only [hnr] at hN
                  have hH : ∀ w' w'', Below wr.drew.heap.size wr.drew w' → w' = w'' → Calls Tryz.prog 56 #[.slice (some ⟨g, 0, none⟩) q cc, .int .i64 u, .int .i64 v] w'' fun e w3 => e = .returned (.bool (hasC sn u v)) ∧ w'' = w3 := fun w' w'' hb e => by
                    subst e
                    exact sHasCell wr.heap.size q cc _ sn u v _ (by omega) (CellsAt.on (w := wr.drew) HA.out hb)
                  have hasi := hasC_iff sn (u, v)
                  dsimp only at hasi
                  have HAS := Lib.hid hasi
                  clear hasi
                  generalize hasC sn u v = hb at hH HAS
                  cases hb with
                  | true =>
                    have hb2 : Bfs L sn i (j + 1) := hbfs.out.skip (by rw [HX.out, HU.out]; exact fun _ => HAS.out.1 rfl)
                    have HB2 := Lib.hid hb2
                    clear hb2
                    go_wp2_with fail
                    go_region_held3 (fun w' => w'.cell? ⟨g, i * 2, none⟩ = some (.int .i64 x) ∧ w'.cell? ⟨g, i * 2 + 1, none⟩ = some (.int .i64 y) ∧ w'.cell? ⟨b1, o1 + j * 2, none⟩ = some (.int .i64 u) ∧ w'.cell? ⟨b1, o1 + j * 2 + 1, none⟩ = some (.int .i64 v))
                      (first | exact ⟨p1, p2, q1, q2⟩ | exact ⟨(hbe.cell (p := ⟨g, i * 2, none⟩) hgl.2).trans p1, (hbe.cell (p := ⟨g, i * 2 + 1, none⟩) hgl.2).trans p2, (hbe.cell (p := ⟨b1, o1 + j * 2, none⟩) hbl).trans q1, (hbe.cell (p := ⟨b1, o1 + j * 2 + 1, none⟩) hbl).trans q2⟩)
                      (first | (go_at_call 55; refine (hN _).mono ?_; rintro e w' ⟨rfl, hbe⟩) | (go_at_call 56; refine (hH _ _ hbe rfl).mono ?_; rintro e w'' ⟨rfl, rfl⟩))
                    go_wp2
                    have HO := Lib.hid (World.ownsRow.kept (w := wr.drew) hown.out (grow_below hbe none) (.inr (by intro e; cases e)))
                    have HBB := Lib.hid (hbo.drew.trans (hbe.mono hszo))
                    go_roundw
                    case rel => exact ⟨j + 1, g, cc, q, sn, by go_num, by omega, rfl, hiq, hqm, HO.out, HB2.out, HBB.out⟩
                    case measure => simp [intOf]; omega
                  | false =>
                    have hb2 : Bfs L (sn ++ [(u, v)]) i (j + 1) := by
                      have h9 := hbfs.out.add (by omega) (by rw [HLM.out]; exact hlt) (by rw [HX.out, HU.out]; exact hnr) (by rw [HU.out]; intro h; have := HAS.out.2 h; cases this)
                      rw [HU.out] at h9
                      exact h9
                    have HB2 := Lib.hid hb2
                    have HHM1 := hb2.len
                    rw [List.length_append, List.length_singleton, hqq, HLM.out] at HHM1
                    clear hb2
                    go_wp2_with fail
                    go_region_held3 (fun w' => w'.cell? ⟨g, i * 2, none⟩ = some (.int .i64 x) ∧ w'.cell? ⟨g, i * 2 + 1, none⟩ = some (.int .i64 y) ∧ w'.cell? ⟨b1, o1 + j * 2, none⟩ = some (.int .i64 u) ∧ w'.cell? ⟨b1, o1 + j * 2 + 1, none⟩ = some (.int .i64 v))
                      (first | exact ⟨p1, p2, q1, q2⟩ | exact ⟨(hbe.cell (p := ⟨g, i * 2, none⟩) hgl.2).trans p1, (hbe.cell (p := ⟨g, i * 2 + 1, none⟩) hgl.2).trans p2, (hbe.cell (p := ⟨b1, o1 + j * 2, none⟩) hbl).trans q1, (hbe.cell (p := ⟨b1, o1 + j * 2 + 1, none⟩) hbl).trans q2⟩)
                      (first | (go_at_call 55; refine (hN _).mono ?_; rintro e w' ⟨rfl, hbe⟩) | (go_at_call 56; refine (hH _ _ hbe rfl).mono ?_; rintro e w'' ⟨rfl, rfl⟩))
                    have hownB := World.ownsRow.kept (w := wr.drew) hown.out (grow_below hbe none) (.inr (by intro e; cases e))
                    have hbB := hbo.drew.trans (hbe.mono hszo)
                    have r1 := (hbe.cell (p := ⟨b1, o1 + j * 2, none⟩) hbl).trans q1
                    have r2 := (hbe.cell (p := ⟨b1, o1 + j * 2 + 1, none⟩) hbl).trans q2
                    clear hH hN p1 p2 q1 q2 HA
                    go_wp2_with (first | (at_builtin; refine wpList_cells rfl _ _ rfl w0.heap.size g q cc sn ⟨w'.heap.size, 0, none⟩ 1 1 [(u, v)] rfl rfl (hownB.alloc _) rfl (lies_block (t := 79) (fr := (0, 0)) (heap_alloc_new _ _)) (by omega) ?c5 (w'.heap.size + 1) ?c6 ?_) | go_in)
                    case c5 => simp; exact Nat.le_trans hbB.size (Nat.le_succ _)
                    case c6 => simp
                    intro g' cc' w2 hown2 hgrow2 hat2 hgb2 hlt2
                    have hgo := (hownB.lt g rfl).1
                    have hb3 := (hbB.alloc hbB.size (.cells #[.int .i64 u, .int .i64 v] 79)).grown hgrow2 (hbB.alloc hbB.size (.cells #[.int .i64 u, .int .i64 v] 79)).size (fun j hj => by cases hj; exact hgo)
                    have HO := Lib.hid hown2
                    have HBB := Lib.hid hb3
                    clear hownB hbB r1 r2 hown2 hgrow2 hb3
                    go_wp2
                    go_roundw
                    case rel => exact ⟨j + 1, g', cc', q + 1, sn ++ [(u, v)], by go_num, by omega, rfl, by omega, HHM1, HO.out, HB2.out, HBB.out⟩
                    case measure => simp [intOf]; omega
              · obtain rfl : j = m := by omega
                have hnx : Bfs L sn (i + 1) 0 := Bfs.next (by have h9 := hbfs.out; rw [← HLM.out] at h9; exact h9) (by omega)
                have HNX := Lib.hid hnx
                clear hnx
                go_wp2
                go_roundw
                case rel => exact ⟨i + 1, g, cc, q, sn, by go_num, rfl, by omega, hqm, hown, HNX.out, hbo⟩
                case measure => simp [intOf]; omega
          · obtain rfl : i = q := by omega
            have HFU := Lib.hid (HBF.out sn (by have h9 := hbfs.out; rw [show i = sn.length by omega] at h9; exact h9))
            have HSUB := Lib.hid hbfs.out.sub
            have HND := Lib.hid hbfs.out.nodup
            clear hbfs HBF
            have hsl : sn.length = i := by omega
            have HSL := Lib.hid hsl
            have HPA := Lib.hid (CellsAt.of_own hown.out (fun c hc => inP_in (inG_inP hN6 hn6 (HING.out c (HSUB.out c hc)))))
            have hgl := hown.out.lt g rfl
            generalize wr = wA at *
            have hi36 : i ≤ 36 := by omega
            have hbx9 := hbx.out.on hbo hbx.out.lt
            have c0 := hbx9.c0
            have c1 := hbx9.c1
            clear hq hown hsl
            go_wp2_with fail
            refine (sEmpty n cap a N wA hn).mono ?_
            rintro e w3 ⟨gx, rfl, hownx, hb3⟩
            obtain ⟨vb, hvbd⟩ : ∃ vb, w3.heap.size = vb := ⟨_, rfl⟩
            have hgx := hownx.lt gx rfl
            rw [hvbd] at hgx
            have hv4 := RgAt.new (w := w3) N (.slice (some ⟨gx, 0, none⟩) n n) hvbd
            have ho4 := hownx.alloc (.cells #[.int .i64 N, .slice (some ⟨gx, 0, none⟩) n n] 26)
            have hB4 := hb3.alloc hb3.size (.cells #[.int .i64 N, .slice (some ⟨gx, 0, none⟩) n n] 26)
            clear c0 c1 hbx9 hownx hb3
            go_wp2_with fail
            generalize (w3.alloc (.cells #[.int .i64 N, .slice (some ⟨gx, 0, none⟩) n n] 26)) = w4 at *
            have HV4 := Lib.hid hv4
            have HO4 := Lib.hid (show w4.ownsRow wA.heap.size 3 1 (.slice (some ⟨gx, 0, none⟩) n n) n (iv (rowsOf n (sn.take 0))) from ho4)
            have HB4 := Lib.hid hB4
            have HPA4 := Lib.hid (HPA.out.on hB4)
            clear hv4 ho4 hB4 HPA
            go_wp2
            go_loopw [9] (fun z WR9 => ∃ j : Nat, j ≤ i ∧ z = .int .i64 j ∧ Hid (RgAt WR9 vb N (.slice (some ⟨gx, 0, none⟩) n n)) ∧ Hid (WR9.ownsRow wA.heap.size 3 1 (.slice (some ⟨gx, 0, none⟩) n n) n (iv (rowsOf n (sn.take j)))) ∧ Hid (CellsAt wA.heap.size WR9 (some ⟨g, 0, none⟩) i sn) ∧ Hid (Below wA.heap.size wA WR9)) (fun z _ => i - (intOf z).toNat)
            case atStart => exact ⟨0, by omega, rfl, HV4.out, HO4.out, HPA4.out, HB4.out⟩
            case round =>
              obtain ⟨j, hj, rfl, hv, hox, hpa, hbb⟩ := hrel
              clear HV4 HO4 HPA4 HB4
              have c1 := hv.out.c1
              by_cases hlt : j < i
              · obtain ⟨b, off, he, hbB, hcell⟩ := hpa.out.2.2 (by omega)
                injection he with he
                injection he with he1 he2
                subst he1 he2
                have p1 := (hcell j hlt).1
                have p2 := (hcell j hlt).2
                have hq := HING.out _ (HSUB.out _ (getD_mem (l := sn) (j := j) (by rw [HSL.out]; exact hlt)))
                unfold inG at hq
                obtain ⟨u, v, huv⟩ : ∃ u v : Nat, sn.getD j (0, 0) = ((u : Int), (v : Int)) := ⟨(sn.getD j (0, 0)).1.toNat, (sn.getD j (0, 0)).2.toNat, by
                  have e1 : (((sn.getD j (0, 0)).1.toNat : Nat) : Int) = (sn.getD j (0, 0)).1 := by omega
                  have e2 : (((sn.getD j (0, 0)).2.toNat : Nat) : Int) = (sn.getD j (0, 0)).2 := by omega
                  rw [e1, e2]⟩
                rw [huv] at p1 p2
                simp only [Nat.zero_add] at p1 p2
                obtain ⟨hu, hvM, h64, htb, hget, hset⟩ := rows_next ⟨HR.out.w0, HR.out.w6⟩ ⟨HR.out.h0, HR.out.h6⟩ (fun c hc => HING.out c (HSUB.out c hc)) HND.out (by rw [HSL.out]; exact hlt) huv
                have hcv := add_val h64 (show u < 6 by omega) htb
                have t1 := hox.out.cellAt v (by omega)
                rw [iv_get _ _ (by rw [rowsOf_len]; exact hvM), hget] at t1
                have t2 := hox.out.frozenAt v
                have hs := hox.out.stored v (.int .i64 ((rN (rowsOf n (sn.take j)) v ||| 2 ^ u : Nat) : Int))
                rw [iv_set, hset] at hs
                have HS := Lib.hid hs
                obtain ⟨z, hz⟩ : ∃ z, rN (rowsOf n (sn.take j)) v = z := ⟨_, rfl⟩
                rw [hz] at hcv t1 HS
                obtain ⟨c, hcc⟩ : ∃ c, ((z ||| 2 ^ u : Nat) : Int) = c := ⟨_, rfl⟩
                rw [hcc] at hcv HS
                have hk0 : (0 : Int) ≤ (j : Int) := by omega
                have hk1 : (j : Int) < (i : Int) := by omega
                have hv0 : (0 : Int) ≤ (v : Int) := by omega
                have hv1 : (v : Int) < (n : Int) := by omega
                clear hs hcell huv hq hset hget h64 htb hz hcc
                go_wp2_with fail
                go_region
                all_goals
                  have HVN := Lib.hid (show RgAt (wr.setCell ⟨gx, v, none⟩ (.int .i64 c)).drew vb N (.slice (some ⟨gx, 0, none⟩) n n) from RgAt.far (w := wr) hv.out (by omega))
                  have HON := Lib.hid (show (wr.setCell ⟨gx, v, none⟩ (.int .i64 c)).drew.ownsRow wA.heap.size 3 1 (.slice (some ⟨gx, 0, none⟩) n n) n (iv (rowsOf n (sn.take (j + 1)))) from HS.out.1)
                  have HCN := Lib.hid (show CellsAt wA.heap.size (wr.setCell ⟨gx, v, none⟩ (.int .i64 c)).drew (some ⟨g, 0, none⟩) i sn from CellsAt.far (w := wr) hpa.out (by omega))
                  have HBN := Lib.hid ((hbb.out.setCell (p := ⟨gx, v, none⟩) hgx.1 (.int .i64 c)).drew)
                  clear HS hv hox hpa hbb c1 p1 p2 t1 t2
                  generalize (wr.setCell ⟨gx, v, none⟩ (.int .i64 c)).drew = w6 at *
                  go_wp2
                  go_roundw
                  case rel => first
                    | exact ⟨j + 1, by omega, by go_num, HVN.out, HON.out, HCN.out, HBN.out⟩
                    | (repeat apply Exists.intro
                       exact ⟨⟨j + 1, by omega, by go_num, HVN.out, HON.out, HCN.out, HBN.out⟩, rfl⟩)
                  case measure => simp [intOf]; omega
              · obtain rfl : j = i := by omega
                have HOX := Lib.hid (show wr.ownsRow wA.heap.size 3 1 (.slice (some ⟨gx, 0, none⟩) n n) n (iv (rowsOf n sn)) from by have h9 := hox.out; rw [List.take_of_length_le (by rw [HSL.out]; exact Nat.le_refl _)] at h9; exact h9)
                generalize wr = wC at *
                have c0 := hv.out.c0
                have hbC := hbo.trans (hbb.out.mono hszo)
                have hszC := hbb.out.size
                have HOC := Lib.hid (ho.out.on hbC)
                have hvlt := ho.out.row.lt
                have hesl : ∀ e ∈ es, e.1 < w0.heap.size := fun e he => (ho.out.lt he).2
                have HVG := Lib.hid (show u3.ownBlock ≠ some gx from fun e9 => by have := (hvlt gx e9).2; omega)
                have HVP := Lib.hid (show u3.ownBlock ≠ some g from fun e9 => by have := (hvlt g e9).2; omega)
                have HVW := Lib.hid (show ∀ k, u3.ownBlock = some k → w.heap.size ≤ k from fun k e9 => by have := (hvlt k e9).1; omega)
                have HVX := Lib.hid (show u3.ownBlock ≠ some w.heap.size from fun e9 => by have := (hvlt _ e9).1; omega)
                have HGE := Lib.hid (show ∀ e ∈ es, e.1 ≠ gx from fun e he e9 => by have := hesl e he; omega)
                have HCL := Lib.hid (hca.out.on hbC)
                have HWC := Lib.hid (hbw.out.trans (hbC.mono hbw.out.size))
                have HBXC := Lib.hid (hbx.out.on hbC hbx.out.lt)
                have hes36 : es.length ≤ 36 := by
                  have h9 := congrArg List.length hmap.out
                  rw [List.length_map] at h9
                  rw [h9]
                  exact Nat.le_trans (partsTo_le N n l k) (Nat.le_trans hk.out HL36.out)
                clear hox hbb hbC hvlt hesl ho hca hbo
                go_wp2_with (first | (at_builtin; refine wpList_append_own_at _ rfl _ _ 34 rfl (w.heap.size + 1) 26 i0 (.agg #[.int .i64 0, .slice none 0 0]) 2 32 Tryz.underlying34 hi hz0 hz1 hz2 rfl (by decide) _ _ _ rfl ((HOC.out.on ((Below.refl _ _).alloc (Nat.le_refl _) _)).row) ⟨wC.heap.size, 0, none⟩ 1 1 [.int .i64 (N : Int), .slice (some ⟨gx, 0, none⟩) n n] rfl rfl (World.news_of_block (cs := #[.int .i64 (N : Int), .slice (some ⟨gx, 0, none⟩) n n]) (heap_alloc_new _ _)) ?d2 ?d3 ?d4 ?d5 ?_) | fail)
                case d2 =>
                  intro u hu
                  simp only [List.mem_cons, List.not_mem_nil, or_false] at hu
                  rcases hu with rfl | rfl <;> rfl
                case d3 => unfold maxLen; omega
                case d4 => omega
                case d5 => simp; omega
                intro v' w5 hown5 hgrow _ hblk
                have hbB9 := (Below.refl wC.heap.size wC).alloc (Nat.le_refl _) (.cells #[.int .i64 (N : Int), .slice (some ⟨gx, 0, none⟩) n n] 26)
                have hO5 := HOC.out.on hbB9
                have hT5 := (own_below HOX.out (show w.heap.size + 1 ≤ wA.heap.size by omega)).alloc (.cells #[.int .i64 (N : Int), .slice (some ⟨gx, 0, none⟩) n n] 26)
                have hTl : (rowsOf n sn).length = n := rowsOf_len n sn
                have eT : rvE (gx, n, (N : Int), rowsOf n sn) = .slice (some ⟨gx, 0, none⟩) n n := by unfold rvE; dsimp only; rw [hTl]
                have HO5 := Lib.hid (hO5.grow (e := (gx, n, (N : Int), rowsOf n sn)) (by rw [eT]; exact hown5) hgrow (by simpa using hblk) (by dsimp only; rw [eT, hTl]; exact hT5) HGE.out HVG.out)
                have hbA5 : Below w.heap.size w w5 := (HWC.out.trans (hbB9.mono (by omega))).grown hgrow (by simp; omega) (fun k hk => HVW.out k hk)
                have hL5 := CellsAt.by (HCL.out.on (hbB9.mono (by omega))) hgrow (by simp; omega) hvb
                have hP5 := CellsAt.by (hpa.out.on (hbB9.mono (by omega))) hgrow (by simp; omega) HVP.out
                have hBX5 := RgAt.by (HBXC.out.alloc _) hgrow HVX.out
                have hlt5 : w0.heap.size ≤ w5.heap.size := by have := hgrow.size; simp at this; omega
                have hltA : wA.heap.size ≤ w5.heap.size := by have := hgrow.size; simp at this; omega
                obtain ⟨i9, hi9, hpt, hfil, hless⟩ := HFU.out
                have HMP := Lib.hid (show (es ++ [(gx, n, (N : Int), rowsOf n sn)]).map kR = partsTo N n l (i9 + 1) from by
                  rw [hpt, List.map_append, hmap.out]
                  rfl)
                have HWD := Lib.hid (show ∀ e ∈ es ++ [(gx, n, (N : Int), rowsOf n sn)], e.2.2.1 = (N : Int) from fun e he => by
                  rw [List.mem_append, List.mem_singleton] at he
                  rcases he with he | rfl
                  · exact hwid.out e he
                  · rfl)
                have HFI := Lib.hid hfil
                have HLS := Lib.hid hless
                have HI9 := Lib.hid hi9
                have hbE := (Below.refl w5.heap.size w5).alloc (Nat.le_refl _) (.cells #[] 79)
                have HO6 := Lib.hid (HO5.out.on hbE)
                have HL6 := Lib.hid ((hL5.more hlt5).on hbE)
                have HP6 := Lib.hid ((hP5.more hltA).on hbE)
                have HBX6 := Lib.hid (hBX5.on hbE hBX5.lt)
                have HW6 := Lib.hid (hbA5.trans (hbE.mono hbA5.size))
                have HR6 := Lib.hid (World.ownsRow_lit (base := w5.heap.size) (e := 79) (size := 2) w5 #[] 0 (Nat.le_refl _) (by simp [maxLen]) rfl)
                have HV5 := Lib.hid HO5.out.row.lt
                have HBE := Lib.hid hbE
                have HX5 := Lib.hid hBX5
                have HA5 := Lib.hid hbA5
                have hb1L : b1 < w5.heap.size := by omega
                have hgL : g < w5.heap.size := by omega
                clear hbB9 hO5 hT5 eT hown5 hgrow hblk hL5 hP5 hBX5 hpt hfil hless hi9 HFU HOC HCL HWC HBXC hbA5 c0 c1 hv hpa hbE
                go_wp2
                go_loopw [10, 11] (fun v z WR9 => ∃ (j gr r cr : Nat), j ≤ m ∧ z = .int .i64 j ∧ v = .slice (some ⟨gr, 0, none⟩) r cr ∧ Hid (WR9.ownsRow w5.heap.size 79 2 (.slice (some ⟨gr, 0, none⟩) r cr) r (cvs ((L.take j).filter fun q => !hasC sn q.1 q.2))) ∧ Hid (Below w5.heap.size (w5.alloc (.cells #[] 79)) WR9)) (fun _ z _ => m - (intOf z).toNat)
                case atStart => exact ⟨0, w5.heap.size, 0, 0, by omega, rfl, rfl, HR6.out, Below.refl _ _⟩
                case round =>
                  obtain ⟨t, gr, r, cr, ht, rfl, rfl, hor, hbr⟩ := hrel
                  clear HR6
                  have hszr := hbr.out.size
                  have hsz5 : (w5.alloc (.cells #[] 79)).heap.size = w5.heap.size + 1 := by simp
                  by_cases hlt : t < m
                  · obtain ⟨u, v, huv⟩ : ∃ u v, L.getD t (0, 0) = (u, v) := ⟨_, _, rfl⟩
                    obtain ⟨b', off', he, _, hcl⟩ := HL6.out.2.2 (by omega)
                    injection he with he
                    injection he with he1 he2
                    subst he1 he2
                    have q1 := (hbr.out.cell (p := ⟨b1, o1 + t * 2, none⟩) hb1L).trans (hcl t hlt).1
                    have q2 := (hbr.out.cell (p := ⟨b1, o1 + t * 2 + 1, none⟩) hb1L).trans (hcl t hlt).2
                    rw [huv] at q1 q2
                    have HPT2 := Lib.hid (show CellsAt w5.heap.size wr.drew (some ⟨g, 0, none⟩) j sn from HP6.out.on hbr.out.drew)
                    have hfs := filter_snoc (fun q => !hasC sn q.1 q.2) (0, 0) L t (by rw [HLM.out]; exact hlt)
                    rw [huv] at hfs
                    dsimp only at hfs
                    have hrl := hor.out.1
                    rw [cvs_length] at hrl
                    have hr36 : r ≤ 36 := by
                      have h9 : ((L.take t).filter fun q => !hasC sn q.1 q.2).length ≤ (L.take t).length := List.length_filter_le _ _
                      rw [List.length_take] at h9
                      omega
                    have hk0 : (0 : Int) ≤ (t : Int) := by omega
                    have hk1 : (t : Int) < (m : Int) := by omega
                    obtain ⟨hb9, hh9⟩ : ∃ b, hasC sn u v = b := ⟨_, rfl⟩
                    have HHV := Lib.hid hh9
                    rw [hh9] at hfs
                    have HCA := Lib.hid (show Calls Tryz.prog 56 #[.slice (some ⟨g, 0, none⟩) j cc, .int .i64 u, .int .i64 v] wr.drew fun e w3 => e = .returned (.bool hb9) ∧ wr.drew = w3 from by
                      have h9 := sHasCell w5.heap.size j cc _ sn u v wr.drew (by omega) HPT2.out
                      rw [HHV.out] at h9
                      exact h9)
                    clear hcl huv hh9 hrl
                    cases hb9 with
                    | true =>
                      have HN := Lib.hid (show wr.drew.ownsRow w5.heap.size 79 2 (.slice (some ⟨gr, 0, none⟩) r cr) r (cvs ((L.take (t + 1)).filter fun q => !hasC sn q.1 q.2)) from by
                        rw [hfs]
                        have h9 : wr.drew.ownsRow w5.heap.size 79 2 (.slice (some ⟨gr, 0, none⟩) r cr) r (cvs ((L.take t).filter fun q => !hasC sn q.1 q.2)) := hor.out
                        simpa using h9)
                      have HBN := Lib.hid hbr.out.drew
                      clear hfs hor hbr
                      go_wp2_with fail
                      go_region_held3 (fun w' => w'.cell? ⟨b1, o1 + t * 2, none⟩ = some (.int .i64 u) ∧ w'.cell? ⟨b1, o1 + t * 2 + 1, none⟩ = some (.int .i64 v))
                        (exact ⟨q1, q2⟩)
                        (first | (go_at_call 56; refine HCA.out.mono ?_; rintro e w' ⟨rfl, rfl⟩))
                      all_goals
                        clear q1 q2 HCA
                        go_wp2
                        go_roundw
                        case rel => first
                          | exact ⟨t + 1, gr, r, cr, by omega, by go_num, rfl, HN.out, HBN.out⟩
                          | (repeat apply Exists.intro
                             exact ⟨⟨t + 1, gr, r, cr, by omega, by go_num, rfl, HN.out, HBN.out⟩, rfl⟩)
                        case measure => simp [intOf]; omega
                    | false =>
                      have HFS := Lib.hid hfs
                      have hownB : wr.drew.ownsRow w5.heap.size 79 2 (.slice (some ⟨gr, 0, none⟩) r cr) r (cvs ((L.take t).filter fun q => !hasC sn q.1 q.2)) := hor.out
                      have hgo := (hor.out.lt gr rfl).1
                      have hbB := hbr.out.drew
                      clear hfs hor hbr
                      go_wp2_with fail
                      go_region_held3 (fun w' => w'.cell? ⟨b1, o1 + t * 2, none⟩ = some (.int .i64 u) ∧ w'.cell? ⟨b1, o1 + t * 2 + 1, none⟩ = some (.int .i64 v))
                        (exact ⟨q1, q2⟩)
                        (first | (go_at_call 56; refine HCA.out.mono ?_; rintro e w' ⟨rfl, rfl⟩))
                      all_goals
                        have q1' : wr.drew.cell? ⟨b1, o1 + t * 2, none⟩ = some (.int .i64 u) := q1
                        have q2' : wr.drew.cell? ⟨b1, o1 + t * 2 + 1, none⟩ = some (.int .i64 v) := q2
                        have hszd : w5.heap.size ≤ wr.drew.heap.size := by show w5.heap.size ≤ wr.heap.size; omega
                        generalize wr.drew = wd at *
                        clear q1 q2 HCA
                        go_wp2_with (first | (at_builtin; refine wpList_cells rfl _ _ rfl w5.heap.size gr r cr ((L.take t).filter fun q => !hasC sn q.1 q.2) ⟨wd.heap.size, 0, none⟩ 1 1 [(u, v)] rfl rfl (hownB.alloc _) rfl (lies_block (t := 79) (fr := (0, 0)) (heap_alloc_new _ _)) (by omega) ?f5 (wd.heap.size + 1) ?f6 ?_) | go_in)
                        case f5 => simp; omega
                        case f6 => simp
                        intro g' cc' w7 hown7 hgrow7 _ hgb7 _
                        have HN := Lib.hid (show w7.ownsRow w5.heap.size 79 2 (.slice (some ⟨g', 0, none⟩) (r + 1) cc') (r + 1) (cvs ((L.take (t + 1)).filter fun q => !hasC sn q.1 q.2)) from by rw [HFS.out]; simpa using hown7)
                        have HBN := Lib.hid ((hbB.alloc hszd (.cells #[.int .i64 u, .int .i64 v] 79)).grown hgrow7 (by simp; omega) (fun k hk => by cases hk; exact hgo))
                        clear hown7 hgrow7 hownB hbB q1' q2' HFS
                        go_wp2
                        go_roundw
                        case rel => first
                          | exact ⟨t + 1, g', r + 1, cc', by omega, by go_num, rfl, HN.out, HBN.out⟩
                          | (repeat apply Exists.intro
                             exact ⟨⟨t + 1, g', r + 1, cc', by omega, by go_num, rfl, HN.out, HBN.out⟩, rfl⟩)
                        case measure => simp [intOf]; omega
                  · obtain rfl : t = m := by omega
                    have hfa : (L.take t).filter (fun q => !hasC sn q.1 q.2) = leftL l (cellsB N n l) (i9 + 1) := by rw [List.take_of_length_le (by rw [HLM.out]; exact Nat.le_refl _)]; exact HFI.out
                    have hor2 := hor.out
                    rw [hfa] at hor2
                    have hrl := hor2.1
                    rw [cvs_length] at hrl
                    have hrt : r < t := by have := HLS.out; have := HLM.out; omega
                    have HCN := Lib.hid (CellsAt.of_own hor2 (fun c hc => by have := HIN.out c (HLK.out _ c hc); unfold InC; omega))
                    have hbT := HBE.out.trans hbr.out
                    have HON := Lib.hid (HO5.out.on hbT)
                    have HXN := Lib.hid (HX5.out.on hbT HX5.out.lt)
                    have HWN := Lib.hid (HA5.out.trans (hbT.mono HA5.out.size))
                    have hgr := (hor2.lt gr rfl).1
                    have HNN := Lib.hid (show ∀ b off, some (⟨gr, 0, none⟩ : Addr) = some ⟨b, off, none⟩ → v'.ownBlock ≠ some b ∨ r = 0 from fun b off e => .inl fun e9 => by
                      injection e with e
                      injection e with e1 e2
                      have := (HV5.out b e9).2
                      omega)
                    clear hfa hor2 hor hbr hbT hrl HO6 HL6 HP6 HBX6 HW6 HV5 HBE HX5 HA5
                    go_wp2
                    go_roundw
                    case rel => first
                      | exact ⟨i9 + 1, r, cr, _, _, rfl, HI9.out, HCN.out, HMP.out, HWD.out, HON.out, HNN.out, HXN.out, HWN.out⟩
                      | (repeat apply Exists.intro
                         exact ⟨⟨i9 + 1, r, cr, _, _, rfl, HI9.out, HCN.out, HMP.out, HWD.out, HON.out, HNN.out, HXN.out, HWN.out⟩, rfl⟩)
                    case measure => simp [sLen]; omega
      · obtain rfl : m = 0 := by omega
        have hdn := left_done hk.out (List.eq_nil_of_length_eq_zero (by rw [hLm]))
        have HP := Lib.hid (show es.map kR = partsR N l from by rw [HPR.out, ← hdn]; exact hmap.out)
        have HO := Lib.hid (ho.out.less (B' := w.heap.size) (by omega))
        clear hdn hmap ho hk hca hLm
        go_wp2
        go_ret
        first
          | exact ⟨_, es, rfl, HO.out, HP.out, hwid.out, hbw.out⟩
          | exact ⟨_, rfl, es, HO.out, HP.out, (fun _ _ _ _ h => hwid.out _ h), hbw.out⟩
end

section
open Go.RowKit

def wR (e : REnt) : Int := e.2.2.1
/-- A value that reads as a list of regions. -/
def RsRd (B : Nat) (w : World) (v : Value) (Ws : List Int) (L : List (List Int)) : Prop := Ws.length = L.length ∧ ∃ a cap, v = .slice a L.length cap ∧ (0 < L.length → ∃ g, a = some ⟨g, 0, none⟩ ∧ g < B ∧ ∀ k, k < L.length → w.cell? ⟨g, k * 2, none⟩ = some (.int .i64 (Ws.getD k 0)) ∧ ∃ u, w.cell? ⟨g, k * 2 + 1, none⟩ = some u ∧ IsRd B w u (L.getD k []))
theorem RsRd.on {B : Nat} {w w' : World} {v : Value} {Ws : List Int} {L : List (List Int)} (h : RsRd B w v Ws L) (hb : Below B w w') : RsRd B w' v Ws L := by
  obtain ⟨hw, a, cap, e, h1⟩ := h
  refine ⟨hw, a, cap, e, fun h0 => ?_⟩
  obtain ⟨g, e1, hlt, h2⟩ := h1 h0
  refine ⟨g, e1, hlt, fun k hk => ?_⟩
  obtain ⟨h3, u, h4, h5⟩ := h2 k hk
  exact ⟨(hb.cell (p := ⟨g, k * 2, none⟩) hlt).trans h3, u, (hb.cell (p := ⟨g, k * 2 + 1, none⟩) hlt).trans h4, h5.on hb⟩
theorem RsRd.more {B B' : Nat} {w : World} {v : Value} {Ws : List Int} {L : List (List Int)} (h : RsRd B w v Ws L) (hB : B ≤ B') : RsRd B' w v Ws L := by
  obtain ⟨hw, a, cap, e, h1⟩ := h
  refine ⟨hw, a, cap, e, fun h0 => ?_⟩
  obtain ⟨g, e1, hlt, h2⟩ := h1 h0
  refine ⟨g, e1, by omega, fun k hk => ?_⟩
  obtain ⟨h3, u, h4, h5⟩ := h2 k hk
  exact ⟨h3, u, h4, h5.more hB⟩
theorem rvs_get : ∀ (es : List REnt) (k : Nat), k < es.length → (rvs es)[k * 2]? = some (.int .i64 ((es.map wR).getD k 0)) ∧ ∃ e ∈ es, (rvs es)[k * 2 + 1]? = some (rvE e) ∧ (es.map kR).getD k [] = kR e
  | [], k, h => by simp at h
  | e :: r, 0, _ => ⟨rfl, e, by simp, rfl, rfl⟩
  | e :: r, k + 1, h => by
    obtain ⟨h1, e2, h2, h3, h4⟩ := rvs_get r k (by simpa using h)
    have e9 : rvs (e :: r) = .int .i64 e.2.2.1 :: rvE e :: rvs r := by simp [rvs]
    rw [e9, show (k + 1) * 2 = k * 2 + 1 + 1 by omega]
    refine ⟨?_, e2, by simp [h2], ?_, ?_⟩
    · simpa using h1
    · simpa using h3
    · simpa using h4
theorem RsRd.of_own {B : Nat} {w : World} {v : Value} {es : List REnt} (h : OwnRs B w v es) : RsRd w.heap.size w v (es.map wR) (es.map kR) := by
  refine ⟨by simp, ?_⟩
  rcases h.row.2 with ⟨rfl, h0⟩ | ⟨g, cap, cur, rfl, hb, hg, _⟩
  · have : es = [] := List.eq_nil_of_length_eq_zero h0
    subst this
    exact ⟨none, 0, rfl, fun h9 => absurd h9 (Nat.lt_irrefl 0)⟩
  · refine ⟨_, cap, by rw [List.length_map], fun _ => ⟨g, rfl, (Array.getElem?_eq_some_iff.1 hg).1, fun k hk => ?_⟩⟩
    rw [List.length_map] at hk
    obtain ⟨h1, e, he, h2, h3⟩ := rvs_get es k hk
    have c1 := h.row.cellAt (k * 2) (by omega)
    have c2 := h.row.cellAt (k * 2 + 1) (by omega)
    rw [h1] at c1
    rw [h2] at c2
    refine ⟨c1, _, c2, ?_⟩
    rw [h3]
    exact IsRd.of_own2 (h.each e he)
end

end Go.Proofs.YtcfioncnpfoccaaGreatDoor
