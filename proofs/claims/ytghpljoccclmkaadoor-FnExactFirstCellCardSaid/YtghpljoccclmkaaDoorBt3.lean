/-
  The cells of a mask, in the program: a loop over an iterator that appends.
-/
import Derived.Test.YtghpljoccclmkaaDoorBt2
import Derived.Test.YtghpljoccclmkaaDoorRin
namespace Go.Proofs.YtghpljoccclmkaaDoor
open Go.RowKit Go.Shelf

attribute [local go_sem] Oper.semAt_some

def cF (N : Nat) (pre : List B64) : List Cl := pre.map fun x => cAt N x.1
theorem cF_snoc (N : Nat) (pre : List B64) (x : B64) : cF N (pre ++ [x]) = cF N pre ++ [cAt N x.1] := by simp [cF]
theorem cF_bits (N m : Nat) : cF N (bitF m) = (bitL m).map (cAt N) := by
  rw [← bitF_val, List.map_map]
  rfl

theorem step_cellsV {ops : Array Oper} {o : Oper} {a : Act} {w : World} {K : Act → World → Prop} {Q : Exit → Act → World → Prop} {E : Prop} (hgd : o.guard = none) (s x : Operand)
    (ho : o.op = .call { callee := .builtin .append, args := #[s, x], argTypes := #[26, 26] })
    (base n : Nat) (v : Value) (xs : List Cl) (ad : Addr) (m c : Nat) (ys : List Cl) (hs : a.eval s = v) (hx : a.eval x = .slice (some ad) m c)
    (hown : w.ownsRow base 41 2 v n (cvs xs)) (hl : ys.length = m) (hnews : Lies w ad ys) (h63 : n + m ≤ 8388608) (hbase : base ≤ w.heap.size)
    (h : ∀ v' w', w'.ownsRow base 41 2 v' (n + m) (cvs (xs ++ ys)) → w.grownBy w' v.ownBlock → K (a.put o.dst v') w') :
    if Region.wanted o (yielded ops a.tmps) = true then Oper.wp Tryd.prog o a w K Q else E := by
  have hw : Region.wanted o (yielded ops a.tmps) = true := by simp [Region.wanted, hgd]
  rw [if_pos hw]
  obtain ⟨i, hi, hz, hsz, hby⟩ := cell_size
  obtain ⟨v', w', hr, h2, h3, _⟩ := run_append_own_at (P := Tryd.prog) w base 26 o.type 41 i _ 2 16 Tryd.underlying26 hi hz hsz hby rfl (by omega) v n (cvs xs) hown ad m c (cvs ys) (by rw [cvs_length, hl]) hnews (cvs_oneCell _) (by unfold maxLen; omega) (by omega) hbase
  rw [← cvs_append] at h2
  unfold Oper.wp execOp
  simp only [ho, resolve, invoke, builtin, Sem.run_bind, Sem.run_pure, Result.andThen_ok, List.map_toArray, List.map_cons, List.map_nil, hs, hx, hr]
  exact h v' w' h2 h3

set_option maxHeartbeats 4000000 in
set_option maxRecDepth 100000 in
theorem iCellsM_in (k : Nat) (hk : 3 ≤ k) (B n cap : Nat) (a : Option Addr) (N q : Nat) (l : List Int) (w : World) (h : okM N l q = true) (hr : Rg N n l) (hn : n ≤ 4194304) (hc : IntsAt B w a n l) (hB : B ≤ w.heap.size) (hT : Tz w) :
    CallsIn Fence.wide k Tryd.prog 8 #[.agg #[.int .i64 N, .slice a n cap], .int .i64 q] w (GivesVC w (cellsM N l q)) := by
  have H := Lib.hid hc
  clear hc
  have hk1 : 1 ≤ k := by omega
  have hb0 := (Below.refl w.heap.size w).alloc (Nat.le_refl _) (.cells #[.int .i64 N, .slice a n cap] 28)
  have hbox0 := RgAt.new (w := w) N (.slice a n cap) rfl
  obtain ⟨i0, hi, hz0, hz1, hz2⟩ := cell_size
  have HI := Lib.hid h
  have hqlt := okM_lt h
  have hN0 := hr.w0
  have hN6 := hr.w6
  have HO := Lib.hid (show cellsM N l q = cF N (bitF q) from by rw [cellsM_yes hr h, mcells_bits hr h, cF_bits])
  clear h hr
  refine callsIn_of_wp_marks Tryd.func8 rfl trivial ?_ rfl
  simp only [Tryd.ntmps8, List.size_toArray, List.length_cons, List.length_nil, Nat.reduceAdd, Nat.reduceSub, Array.replicate_succ, Array.replicate_zero, List.push_toArray, List.append_toArray, List.nil_append, List.cons_append]
  gi_wp2
  refine ⟨trivial, (callsIn_wide.2 (iIsMask B n cap a N l q _ (by omega) (by omega) hn (H.out.on (hb0.mono hB)) (Nat.le_trans hB hb0.size))).mono ?_⟩
  rintro e W1 ⟨rfl, hb⟩
  rw [HI.out]
  have hbox1 := hbox0.on hb hbox0.lt
  have hb1 := hb0.trans (hb.mono hb0.size)
  have hsz1 := hb.size
  rw [World.size_alloc] at hsz1
  have hT1 := hT.on hb1 hT.2
  clear hb hb0 hbox0
  gi_wp2
  refine ⟨trivial, (callsIn_wide.2 (iBitsOf q _)).mono ?_⟩
  rintro e W2 ⟨rfl, rfl⟩
  gi_wp2
  have bO := Boxed.new W1 26 (.slice none 0 0)
  have bN := Boxed.new (W1.alloc (.cells #[.slice none 0 0] 26)) 3 (.int .i64 (q : Int))
  rw [World.size_alloc] at bN
  have hB1 : Below W1.heap.size W1 ((W1.alloc (.cells #[.slice none 0 0] 26)).alloc (.cells #[.int .i64 (q : Int)] 3)) := ((Below.refl _ W1).alloc (Nat.le_refl _) _).alloc (by simp) _
  have hgt : gDB < W1.heap.size := hT1.2
  (try simp only [World.size_alloc])
  refine wpIn_rangeFunc_ownG rfl hk1 (gf := 28) (lb := #[.pointer (some ⟨W1.heap.size + 1, 0, none⟩)]) rfl trivial (enters_of Tryd.func28 (by kernel_rfl) rfl)
    (iBits_stops (k - 1) (by omega) (W1.heap.size + 1) W1.heap.size q (by omega) _ (by simp) (by simp; omega) bN.cell (hT1.on hB1 hgt) hgt) belowK_t (belowK_b (by simp; omega)) (Below.refl _ _) (fun _ => rfl)
    (fun pre W => (∃ v, Boxed W W1.heap.size 26 v ∧ W.ownsRow W1.heap.size 41 2 v pre.length (cvs (cF N pre)) ∧ True) ∧ Below W1.heap.size W1 W)
    (fun _ _ _ => False)
    (OwnFrom.and (Own.from (holdsRow_own W1.heap.size W1.heap.size 26 41 2 (fun pre => pre.length) (fun pre => cvs (cF N pre)) (fun _ _ => True)) _) (ownFrom_below (Nat.le_refl _) (by simp; omega)))
    (fun _ _ _ _ _ hs _ _ => hs)
    ⟨⟨_, bO.alloc _, World.ownsRow_nil _ _ _ _, trivial⟩, hB1⟩
    (fun x => { tmps := #[.agg #[.int .i64 N, .slice a n cap], .int .i64 q, .pointer (some ⟨w.heap.size, 0, none⟩), undef, .slice none 0 0, .pointer (some ⟨W1.heap.size, 0, none⟩), .int .i64 (x.1 : Int), .agg #[.int .i64 N, .slice a n cap], .int .i64 q, .bool true, .bool false, .int .i64 q, .func (.func 28) #[] #[.pointer (some ⟨W1.heap.size + 1, 0, none⟩)], .int .i64 (x.1 : Int), undef, undef, undef, undef, undef, undef, undef, undef, undef, undef, undef, undef, undef], defers := [] }) ?assign ?body ?done ?stop
  case assign =>
    intro l x W K hK
    gi_wp2
    exact hK
  case body =>
    rintro l pre ⟨b, hb64⟩ W ⟨⟨v, hv, hrow, -⟩, hB2⟩ hlt
    have hc := hv.cell
    have hpl := bitF_len q
    have hbx := hbox1.on hB2 hbox1.lt
    have c0 := hbx.c0
    have hNne : ¬ ((N : Int) = 0) := by omega
    have hNz : ¬ (N = 0) := by omega
    have hcA : (W.alloc (.cells #[.int .i64 ((b : Int) % (N : Int)), .int .i64 ((b : Int) / (N : Int))] 41)).cell? ⟨W1.heap.size, 0, none⟩ = some v := (hv.alloc _).cell
    have HWR := Lib.hid (show IntKind.i64.wrap ((b : Int) / (N : Int)) = (b : Int) / (N : Int) from by
      rw [show (b : Int) / (N : Int) = ((b / N : Nat) : Int) from rfl, IntKind.wrap_i64]
      have h9 := Nat.div_le_self b N
      generalize b / N = z at h9 ⊢
      omega)
    have HR2 := Lib.hid (show ((b : Int)).tmod (N : Int) = ((b % N : Nat) : Int) from by rw [Int.tmod_eq_emod_of_nonneg (by omega)]; simp)
    have HQ := Lib.hid (show ((b : Int)).tdiv (N : Int) = ((b / N : Nat) : Int) from by rw [Int.tdiv_eq_ediv_of_nonneg (by omega)]; simp)
    have HSC := Lib.hid (show ∀ w9, Below W1.heap.size W w9 → w9.cell? ⟨w.heap.size, 0, none⟩ = some (.int .i64 (N : Int)) from fun w9 h9 => (h9.cell (p := ⟨w.heap.size, 0, none⟩) hbox1.lt).trans c0)
    have HBK := Lib.hid (show ∀ (o : Obj) (w9 : World), (W.drew.alloc o).grownBy w9 v.ownBlock → Below W1.heap.size W w9 from fun o w9 h9 => ((Below.refl _ W).drew.alloc hB2.size o).grown h9 (by simp; have := hB2.size; omega) (fun k hk => (hrow.lt k hk).1))
    refine wpIn_block ?_
    refine wpIn_region_heldP (S := fun w9 => w9.cell? ⟨w.heap.size, 0, none⟩ = some (.int .i64 (N : Int))) (by rintro ⟨_, _, h9⟩; exact h9) (fun _ => trivial) (by kernel_rfl) (by kernel_rfl) (HSC.out _ (Below.refl _ W).drew) (fun hH0 => ?_)
    refine wpAnyH_take (i := 1) (oi := { dst := some 15, op := Op.move (Operand.tmp 6), type := 3, pos := "l07_place.go:49", after := #[], guard := none }) (v := .int .i64 (b : Int)) rfl (by kernel_rfl) (by kernel_rfl) (by kernel_rfl) (fun _ _ _ h => h) (Or.inl ⟨by kernel_rfl, ?_⟩) (by exact hH0) ?_
    focus
      intro w9 hSw
      (try dsimp only at hSw)
      go_simp
      (try rw [HQ.out])
      (try rw [HR2.out])
      (try with_reducible rfl)
      (try (rw [if_neg hNz]; simp))
      (try rfl)
      (try exact HWR.out)
      done
    try dsimp only [Act.put, List.setIfInBounds_toArray, List.set_cons_zero, List.set_cons_succ]
    refine wpAnyH_take (i := 2) (oi := { dst := some 16, op := Op.fieldAddr 28 (Operand.tmp 2) 0, type := 0, pos := "l07_place.go:49", after := #[], guard := none }) (v := ?_) rfl (by kernel_rfl) (by kernel_rfl) (by kernel_rfl) (fun _ _ _ h => h) (Or.inl ⟨by kernel_rfl, ?_⟩) (by exact hH0) ?_
    rotate_left
    focus
      intro w9 hSw
      (try dsimp only at hSw)
      go_simp
      (try rw [HQ.out])
      (try rw [HR2.out])
      (try with_reducible rfl)
      (try (rw [if_neg hNz]; simp))
      (try rfl)
      (try exact HWR.out)
      done
    try dsimp only [Act.put, List.setIfInBounds_toArray, List.set_cons_zero, List.set_cons_succ]
    refine wpAnyH_take (i := 3) (oi := { dst := some 17, op := Op.load 3 (Operand.tmp 16), type := 3, pos := "l07_place.go:49", after := #[{ on := 2, ground := Ground.data }], guard := none }) (v := ?_) rfl (by kernel_rfl) (by kernel_rfl) (by kernel_rfl) (fun _ _ _ h => h) (Or.inl ⟨by kernel_rfl, ?_⟩) (by exact hH0) ?_
    rotate_left
    focus
      intro w9 hSw
      (try dsimp only at hSw)
      go_simp
      (try rw [HQ.out])
      (try rw [HR2.out])
      (try with_reducible rfl)
      (try (rw [if_neg hNz]; simp))
      (try rfl)
      (try exact HWR.out)
      done
    try dsimp only [Act.put, List.setIfInBounds_toArray, List.set_cons_zero, List.set_cons_succ]
    refine wpAnyH_take (i := 4) (oi := { dst := some 18, op := Op.binOp BinOp.rem 3 (Operand.tmp 15) (Operand.tmp 17) 3, type := 3, pos := "l07_place.go:49", after := #[{ on := 1, ground := Ground.data }, { on := 3, ground := Ground.data }], guard := none }) (v := .int .i64 ((b % N : Nat) : Int)) rfl (by kernel_rfl) (by kernel_rfl) (by kernel_rfl) (fun _ _ _ h => h) (Or.inl ⟨by kernel_rfl, ?_⟩) (by exact hH0) ?_
    focus
      intro w9 hSw
      (try dsimp only at hSw)
      go_simp
      (try rw [HQ.out])
      (try rw [HR2.out])
      (try with_reducible rfl)
      (try (rw [if_neg hNz]; simp))
      (try rfl)
      (try exact HWR.out)
      done
    try dsimp only [Act.put, List.setIfInBounds_toArray, List.set_cons_zero, List.set_cons_succ]
    refine wpAnyH_take (i := 5) (oi := { dst := some 19, op := Op.move (Operand.tmp 6), type := 3, pos := "l07_place.go:49", after := #[], guard := none }) (v := ?_) rfl (by kernel_rfl) (by kernel_rfl) (by kernel_rfl) (fun _ _ _ h => h) (Or.inl ⟨by kernel_rfl, ?_⟩) (by exact hH0) ?_
    rotate_left
    focus
      intro w9 hSw
      (try dsimp only at hSw)
      go_simp
      (try rw [HQ.out])
      (try rw [HR2.out])
      (try with_reducible rfl)
      (try (rw [if_neg hNz]; simp))
      (try rfl)
      (try exact HWR.out)
      done
    try dsimp only [Act.put, List.setIfInBounds_toArray, List.set_cons_zero, List.set_cons_succ]
    refine wpAnyH_take (i := 6) (oi := { dst := some 20, op := Op.fieldAddr 28 (Operand.tmp 2) 0, type := 0, pos := "l07_place.go:49", after := #[], guard := none }) (v := ?_) rfl (by kernel_rfl) (by kernel_rfl) (by kernel_rfl) (fun _ _ _ h => h) (Or.inl ⟨by kernel_rfl, ?_⟩) (by exact hH0) ?_
    rotate_left
    focus
      intro w9 hSw
      (try dsimp only at hSw)
      go_simp
      (try rw [HQ.out])
      (try rw [HR2.out])
      (try with_reducible rfl)
      (try (rw [if_neg hNz]; simp))
      (try rfl)
      (try exact HWR.out)
      done
    try dsimp only [Act.put, List.setIfInBounds_toArray, List.set_cons_zero, List.set_cons_succ]
    refine wpAnyH_take (i := 7) (oi := { dst := some 21, op := Op.load 3 (Operand.tmp 20), type := 3, pos := "l07_place.go:49", after := #[{ on := 6, ground := Ground.data }], guard := none }) (v := ?_) rfl (by kernel_rfl) (by kernel_rfl) (by kernel_rfl) (fun _ _ _ h => h) (Or.inl ⟨by kernel_rfl, ?_⟩) (by exact hH0) ?_
    rotate_left
    focus
      intro w9 hSw
      (try dsimp only at hSw)
      go_simp
      (try rw [HQ.out])
      (try rw [HR2.out])
      (try with_reducible rfl)
      (try (rw [if_neg hNz]; simp))
      (try rfl)
      (try exact HWR.out)
      done
    try dsimp only [Act.put, List.setIfInBounds_toArray, List.set_cons_zero, List.set_cons_succ]
    refine wpAnyH_take (i := 8) (oi := { dst := some 22, op := Op.binOp BinOp.quo 3 (Operand.tmp 19) (Operand.tmp 21) 3, type := 3, pos := "l07_place.go:49", after := #[{ on := 5, ground := Ground.data }, { on := 7, ground := Ground.data }], guard := none }) (v := .int .i64 ((b / N : Nat) : Int)) rfl (by kernel_rfl) (by kernel_rfl) (by kernel_rfl) (fun _ _ _ h => h) (Or.inl ⟨by kernel_rfl, ?_⟩) (by exact hH0) ?_
    focus
      intro w9 hSw
      (try dsimp only at hSw)
      go_simp
      (try rw [HQ.out])
      (try rw [HR2.out])
      (try with_reducible rfl)
      (try (rw [if_neg hNz]; simp))
      (try rfl)
      (try exact HWR.out)
      done
    try dsimp only [Act.put, List.setIfInBounds_toArray, List.set_cons_zero, List.set_cons_succ]
    refine wpAnyH_take (i := 9) (oi := { dst := some 23, op := Op.build 41 #[(0, Operand.tmp 18), (1, Operand.tmp 22)], type := 41, pos := "l07_place.go:49", after := #[{ on := 4, ground := Ground.data }, { on := 8, ground := Ground.data }], guard := none }) (v := .agg #[.int .i64 ((b % N : Nat) : Int), .int .i64 ((b / N : Nat) : Int)]) rfl (by kernel_rfl) (by kernel_rfl) (by kernel_rfl) (fun _ _ _ h => h) (Or.inl ⟨by kernel_rfl, ?_⟩) (by exact hH0) ?_
    focus
      intro w9 hSw
      (try dsimp only at hSw)
      go_simp
      (try rw [HQ.out])
      (try rw [HR2.out])
      (try with_reducible rfl)
      (try (rw [if_neg hNz]; simp))
      (try rfl)
      (try exact HWR.out)
      done
    try dsimp only [Act.put, List.setIfInBounds_toArray, List.set_cons_zero, List.set_cons_succ]
    refine wpAnyH_ready (rs := [0, 10]) (by kernel_rfl) (by simp) ?_
    refine AllReadyH.cons (o := { dst := some 14, op := Op.load 26 (Operand.tmp 5), type := 26, pos := "l07_place.go:49", after := #[], guard := none }) rfl (fun K hK => ?_) ?_
    rotate_left
    refine AllReadyH.cons (o := { dst := some 24, op := Op.buildSlice 26 1 #[(0, Operand.tmp 23)], type := 26, pos := "l07_place.go:49", after := #[{ on := 9, ground := Ground.data }], guard := none }) rfl (fun K hK => ?_) AllReadyH.nil
    go_simp
    refine hK.out _ _ (HSC.out _ ((Below.refl _ W).drew.alloc hB2.size _)) (fun hH1 => ?_)
    try dsimp only [Act.put, List.setIfInBounds_toArray, List.set_cons_zero, List.set_cons_succ]
    refine wpAnyH_ready (rs := [0]) (by kernel_rfl) (by simp) ?_
    refine AllReadyH.cons (o := { dst := some 14, op := Op.load 26 (Operand.tmp 5), type := 26, pos := "l07_place.go:49", after := #[], guard := none }) rfl (fun K hK => ?_) AllReadyH.nil
    go_simp
    refine hK.out _ _ hH1 (fun hH2 => ?_)
    try dsimp only [Act.put, List.setIfInBounds_toArray, List.set_cons_zero, List.set_cons_succ]
    refine wpAnyH_ready (rs := [11]) (by kernel_rfl) (by simp) ?_
    refine AllReadyH.cons (o := { dst := some 25, op := Op.call { callee := Callee.builtin Builtin.append, args := #[Operand.tmp 14, Operand.tmp 24], argTypes := #[26, 26] }, type := 26, pos := "l07_place.go:49", after := #[{ on := 0, ground := Ground.data }, { on := 10, ground := Ground.data }], guard := none }) rfl (fun K hK => ?_) AllReadyH.nil
    refine step_cellsV rfl (.tmp 14) (.tmp 24) rfl W1.heap.size pre.length v (cF N pre) ⟨W.heap.size, 0, none⟩ 1 1 [cAt N b] rfl rfl (hrow.drew.alloc _) rfl (lies_block (t := 41) (fr := (0, 0)) (heap_alloc_new _ _)) (by omega) (by have := hB2.size; simp; omega) ?_
    intro v2 w3 hown2 hgrow
    obtain ⟨g2, cap2, rfl⟩ := ownsRow_succ hown2
    obtain ⟨hv1, hv2, hr2, hk2, hb2⟩ := Boxed.appended (W := W.drew) hv (by decide) hrow.drew hB2.size (Nat.le_refl _) hown2 hgrow
    have hc1 := hv1.cell
    have hf1 := hv1.frozen
    have hbk := HBK.out _ _ hgrow
    refine hK.out _ _ (HSC.out _ hbk) (fun hH3 => ?_)
    try dsimp only [Act.put, List.setIfInBounds_toArray, List.set_cons_zero, List.set_cons_succ]
    refine wpAnyH_ready (rs := [12]) (by kernel_rfl) (by simp) ?_
    refine AllReadyH.cons (o := { dst := none, op := Op.store 26 (Operand.tmp 5) (Operand.tmp 25), type := 0, pos := "l07_place.go:49", after := #[{ on := 11, ground := Ground.data }, { on := 11, ground := Ground.chain }, { on := 0, ground := Ground.phase }, { on := 1, ground := Ground.phase }, { on := 2, ground := Ground.phase }, { on := 3, ground := Ground.phase }, { on := 4, ground := Ground.phase }, { on := 5, ground := Ground.phase }, { on := 6, ground := Ground.phase }, { on := 7, ground := Ground.phase }, { on := 8, ground := Ground.phase }, { on := 9, ground := Ground.phase }, { on := 10, ground := Ground.phase }, { on := 11, ground := Ground.phase }], guard := none }) rfl (fun K hK => ?_) AllReadyH.nil
    go_simp
    refine hK.out _ _ (HSC.out _ ((Below.refl _ W).drew.trans hb2)) (fun hH4 => ?_)
    try dsimp only [Act.put, List.setIfInBounds_toArray, List.set_cons_zero, List.set_cons_succ]
    refine wpAnyH_done (by kernel_rfl) ?_ _
    refine ⟨((KeepsOthers.drew W).trans hk2).from _, (Below.refl _ W).drew.trans hb2, ⟨_, hv2, ?_, trivial⟩, hB2.trans ((Below.refl _ W).drew.trans hb2)⟩
    rw [cF_snoc, List.length_append]
    exact hr2
    --PATHA
    go_simp
    refine hK.out _ _ hH0 (fun hH1 => ?_)
    try dsimp only [Act.put, List.setIfInBounds_toArray, List.set_cons_zero, List.set_cons_succ]
    refine wpAnyH_ready (rs := [10]) (by kernel_rfl) (by simp) ?_
    refine AllReadyH.cons (o := { dst := some 24, op := Op.buildSlice 26 1 #[(0, Operand.tmp 23)], type := 26, pos := "l07_place.go:49", after := #[{ on := 9, ground := Ground.data }], guard := none }) rfl (fun K hK => ?_) AllReadyH.nil
    go_simp
    refine hK.out _ _ (HSC.out _ ((Below.refl _ W).drew.alloc hB2.size _)) (fun hH2 => ?_)
    try dsimp only [Act.put, List.setIfInBounds_toArray, List.set_cons_zero, List.set_cons_succ]
    refine wpAnyH_ready (rs := [11]) (by kernel_rfl) (by simp) ?_
    refine AllReadyH.cons (o := { dst := some 25, op := Op.call { callee := Callee.builtin Builtin.append, args := #[Operand.tmp 14, Operand.tmp 24], argTypes := #[26, 26] }, type := 26, pos := "l07_place.go:49", after := #[{ on := 0, ground := Ground.data }, { on := 10, ground := Ground.data }], guard := none }) rfl (fun K hK => ?_) AllReadyH.nil
    refine step_cellsV rfl (.tmp 14) (.tmp 24) rfl W1.heap.size pre.length v (cF N pre) ⟨W.heap.size, 0, none⟩ 1 1 [cAt N b] rfl rfl (hrow.drew.alloc _) rfl (lies_block (t := 41) (fr := (0, 0)) (heap_alloc_new _ _)) (by omega) (by have := hB2.size; simp; omega) ?_
    intro v2 w3 hown2 hgrow
    obtain ⟨g2, cap2, rfl⟩ := ownsRow_succ hown2
    obtain ⟨hv1, hv2, hr2, hk2, hb2⟩ := Boxed.appended (W := W.drew) hv (by decide) hrow.drew hB2.size (Nat.le_refl _) hown2 hgrow
    have hc1 := hv1.cell
    have hf1 := hv1.frozen
    have hbk := HBK.out _ _ hgrow
    refine hK.out _ _ (HSC.out _ hbk) (fun hH3 => ?_)
    try dsimp only [Act.put, List.setIfInBounds_toArray, List.set_cons_zero, List.set_cons_succ]
    refine wpAnyH_ready (rs := [12]) (by kernel_rfl) (by simp) ?_
    refine AllReadyH.cons (o := { dst := none, op := Op.store 26 (Operand.tmp 5) (Operand.tmp 25), type := 0, pos := "l07_place.go:49", after := #[{ on := 11, ground := Ground.data }, { on := 11, ground := Ground.chain }, { on := 0, ground := Ground.phase }, { on := 1, ground := Ground.phase }, { on := 2, ground := Ground.phase }, { on := 3, ground := Ground.phase }, { on := 4, ground := Ground.phase }, { on := 5, ground := Ground.phase }, { on := 6, ground := Ground.phase }, { on := 7, ground := Ground.phase }, { on := 8, ground := Ground.phase }, { on := 9, ground := Ground.phase }, { on := 10, ground := Ground.phase }, { on := 11, ground := Ground.phase }], guard := none }) rfl (fun K hK => ?_) AllReadyH.nil
    go_simp
    refine hK.out _ _ (HSC.out _ ((Below.refl _ W).drew.trans hb2)) (fun hH4 => ?_)
    try dsimp only [Act.put, List.setIfInBounds_toArray, List.set_cons_zero, List.set_cons_succ]
    refine wpAnyH_done (by kernel_rfl) ?_ _
    refine ⟨((KeepsOthers.drew W).trans hk2).from _, (Below.refl _ W).drew.trans hb2, ⟨_, hv2, ?_, trivial⟩, hB2.trans ((Below.refl _ W).drew.trans hb2)⟩
    rw [cF_snoc, List.length_append]
    exact hr2
  case done =>
    rintro D ys W hD rfl ⟨⟨v, hv, hrow, -⟩, hB2⟩ hK
    have hc := hv.cell
    gi_wp2
    refine ⟨by simp, .inl ⟨_, _, rfl, run_takeDeferred hK, ?_⟩⟩
    rw [HO.out]
    refine ⟨_, results_tmp rfl _ _ _, v, rfl, ?_, ?_⟩
    · have := ownsRow_putObj hrow (.deferred none) hK rfl
      rw [show (cF N (bitF q)).length = (bitF q).length from by simp [cF]]
      exact own_base this hb1.size
    · exact hb1.trans ((hB2.trans (belowK_b (w := W1) (Nat.le_refl _) W D _ _ (by simp at hD; omega) hK rfl rfl)).mono hb1.size)
  case stop =>
    rintro D c pre W _ _ h _
    exact h.elim

set_option maxHeartbeats 1000000 in
theorem iCellsM (B n cap : Nat) (a : Option Addr) (W : Int) (l : List Int) (m : Int) (w : World) (h1 : -9223372036854775808 ≤ m) (h2 : m ≤ 9223372036854775807) (hn : n ≤ 4194304) (hc : IntsAt B w a n l) (hB : B ≤ w.heap.size) (hT : Tz w) :
    Calls Tryd.prog 8 #[.agg #[.int .i64 W, .slice a n cap], .int .i64 m] w (GivesVC w (cellsM W l m)) := by
  cases h : okM W l m with
  | false =>
    have HI := Lib.hid h
    have HO := Lib.hid (cellsM_no h)
    have H := Lib.hid hc
    have hb0 := (Below.refl w.heap.size w).alloc (Nat.le_refl _) (.cells #[.int .i64 W, .slice a n cap] 28)
    clear h hc
    go_enter Tryd.func8, Tryd.ntmps8
    go_wp2_with fail
    refine (iIsMask B n cap a W l m _ h1 h2 hn (H.out.on (hb0.mono hB)) (Nat.le_trans hB hb0.size)).mono ?_
    rintro e w' ⟨rfl, hb⟩
    rw [HI.out]
    go_wp2
    go_ret
    rw [HO.out]
    exact ⟨_, rfl, World.ownsRow_nil _ _ _ _, hb0.trans (hb.mono hb0.size)⟩
  | true =>
    obtain ⟨N, M, q, rfl, rfl, hr⟩ := okM_reg h
    have hM : M = n := by rw [← hr.len, hc.1]
    subst hM
    exact callsIn_wide.1 (iCellsM_in 3 (Nat.le_refl _) B M cap a N q l w h hr hn hc hB hT)

end Go.Proofs.YtghpljoccclmkaaDoor
