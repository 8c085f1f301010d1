/-
  Symmetries in the program: what the call gives.
-/
import Derived.Test.YtecfabhpjihcbaaGreatJtv
import Derived.Test.YtecfabhpjihcbaaGreatJcm
import Derived.Test.YtecfabhpjihcbaaGreatPall
import Derived.Test.YtecfabhpjihcbaaGreatMo5
import Derived.Test.YtecfabhpjihcbaaGreatJos
import Derived.Test.YtecfabhpjihcbaaGreatLw3
namespace Go.Proofs.YtecfabhpjihcbaaGreat
open Go.RowKit

/-- Numbers of the call's own. -/
def OwnI (w : World) (zs : List Int) (v : Value) (w' : World) : Prop := w'.ownsRow w.heap.size 3 1 v zs.length (zs.map (Value.int .i64)) ∧ Below w.heap.size w w'
theorem wp_intsV {o : Oper} {a : Act} {w : World} {K : Act → World → Prop} {Q : Exit → Act → World → Prop} (s x : Operand)
    (ho : o.op = .call { callee := .builtin .append, args := #[s, x], argTypes := #[35, 35] })
    (base n : Nat) (v : Value) (xs : List Value) (ad : Addr) (m c : Nat) (ys : List Value) (hs : a.eval s = v) (hx : a.eval x = .slice (some ad) m c)
    (hown : w.ownsRow base 3 1 v n xs) (hl : ys.length = m) (hm : 0 < m) (hnews : LiesV w ad ys) (hone : ∀ u ∈ ys, u.oneCell' = true) (h63 : n + m ≤ 8388608) (hbase : base ≤ w.heap.size)
    (h : ∀ g' cap' w', w'.ownsRow base 3 1 (.slice (some ⟨g', 0, none⟩) (n + m) cap') (n + m) (xs ++ ys) → w.grownBy w' v.ownBlock → base ≤ g' → g' < w'.heap.size → K (a.put o.dst (.slice (some ⟨g', 0, none⟩) (n + m) cap')) w') : o.wp Tryz.prog a w K Q := by
  obtain ⟨i, hi, hz, hsz, hby⟩ := ints_size
  obtain ⟨v', w', hr, h2, h3, h4, h5⟩ := run_append_own_at (P := Tryz.prog) w base 35 o.type 3 i _ 1 8 Tryz.underlying35 hi hz hsz hby rfl (by omega) v n xs hown ad m c ys (by omega) hnews hone (by unfold maxLen; omega) (by omega) hbase
  rcases h2.2 with ⟨rfl, _⟩ | ⟨g', cap', cur, rfl, hb, hg, _⟩
  · have := (h4.1 rfl).2; omega
  · unfold Oper.wp execOp
    simp only [ho, resolve, invoke, builtin, Sem.run_bind, Sem.run_pure, Result.andThen_ok, List.map_toArray, List.map_cons, List.map_nil, hs, hx, hr]
    exact h g' cap' w' h2 h3 hb (Array.getElem?_eq_some_iff.1 hg).1
theorem wpList_intsV {ops : Array Oper} {rest : List Oper} {o : Oper} {a : Act} {w : World} {Q : Exit → Act → World → Prop} (hgd : o.guard = none) (s x : Operand)
    (ho : o.op = .call { callee := .builtin .append, args := #[s, x], argTypes := #[35, 35] })
    (base n : Nat) (v : Value) (xs : List Value) (ad : Addr) (m c : Nat) (ys : List Value) (hs : a.eval s = v) (hx : a.eval x = .slice (some ad) m c)
    (hown : w.ownsRow base 3 1 v n xs) (hl : ys.length = m) (hm : 0 < m) (hnews : LiesV w ad ys) (hone : ∀ u ∈ ys, u.oneCell' = true) (h63 : n + m ≤ 8388608) (hbase : base ≤ w.heap.size)
    (h : ∀ g' cap' w', w'.ownsRow base 3 1 (.slice (some ⟨g', 0, none⟩) (n + m) cap') (n + m) (xs ++ ys) → w.grownBy w' v.ownBlock → base ≤ g' → g' < w'.heap.size → wpList Tryz.prog ops Q rest (a.put o.dst (.slice (some ⟨g', 0, none⟩) (n + m) cap')) w') : wpList Tryz.prog ops Q (o :: rest) a w :=
  wpList_plain hgd fun _ hK => wp_intsV s x ho base n v xs ad m c ys hs hx hown hl hm hnews hone h63 hbase fun g' cap' w' h2 h3 h4 h5 => hK _ _ (h g' cap' w' h2 h3 h4 h5)

set_option maxHeartbeats 2000000 in
set_option maxRecDepth 100000 in
theorem iSymm (B n cap : Nat) (a : Option Addr) (l : List Cl) (w : World) (hn : n ≤ 4194304) (hc : CellsAt B w a n l) (hB : B ≤ w.heap.size) :
    Calls Tryz.prog 14 #[.slice a n cap] w fun e w' => ∃ v, e = .returned v ∧ OwnI w (symS l) v w' := by
  have H := Lib.hid hc
  clear hc
  cases h : isShape l with
  | false =>
    have HO : Hid (symS l = []) := if_neg (by rw [h]; simp)
    have HS := Lib.hid h
    clear h
    rw [HO.out]
    go_enter Tryz.func14, Tryz.ntmps14
    go_wp2_with fail
    refine (iIsShape B n cap a l w hn H.out hB).mono ?_
    rintro e w1 ⟨rfl, hb1⟩
    rw [HS.out]
    go_wp2
    go_ret
    exact ⟨_, rfl, World.ownsRow_nil _ _ _ _, hb1⟩
  | true =>
    have hl := ((isShape_iff l).1 h).1
    have hsmall : ∀ k, (turnC k l).length ≤ 8 := fun k => Nat.le_trans (turnC_len k l) hl.2
    have HIN := Lib.hid (fun k => turnC_inC (isShape_in h) k)
    have HCI := Lib.hid (cornerC_inC (isShape_in h))
    have hcl : (cornerC l).length ≤ 4194304 := by simp [cornerC]; omega
    have HO : Hid (symS l = symTo l 8) := if_pos h
    have HTS := Lib.hid (fun (k : Nat) (hk : k ≤ 7) => (turnS_yes h hk).1)
    have HCS : Hid (cornS l = cornerC l) := if_pos h
    have HS := Lib.hid h
    clear h
    rw [HO.out]
    go_enter Tryz.func14, Tryz.ntmps14
    go_wp2_with fail
    refine (iIsShape B n cap a l w hn H.out hB).mono ?_
    rintro e w1 ⟨rfl, hb1⟩
    rw [HS.out]
    go_wp2_with fail
    refine (iCorner B n cap a l w1 hn (H.out.on (hb1.mono hB)) (Nat.le_trans hB hb1.size)).mono ?_
    rintro e w2 ⟨v, rfl, hown2, hb2⟩
    rw [HCS.out] at hown2
    obtain ⟨ag, cg, rfl⟩ := own_slice hown2
    have HB2 := Lib.hid (hb1.trans (hb2.mono hb1.size))
    have HA2 := Lib.hid (CellsAt.of_own hown2 HCI.out)
    clear hown2 hb2 hb1
    go_wp2
    go_loopw [4, 13] (fun v i wr => ∃ k : Nat, k ≤ 8 ∧ i = .int .i64 k ∧ Hid (wr.ownsRow w2.heap.size 3 1 v (symTo l k).length ((symTo l k).map (Value.int .i64))) ∧ Below w.heap.size w wr ∧ Below w2.heap.size w2 wr) (fun _ i _ => 8 - (intOf i).toNat)
    case atStart => exact ⟨0, by omega, rfl, World.ownsRow_nil _ _ _ _, HB2.out, Below.refl _ _⟩
    case round =>
      obtain ⟨k, hk, rfl, hown, hb, hbc⟩ := hrel
      have hsz := hb.size
      have hszc := hbc.size
      by_cases hlt : k < 8
      · have hk1 : (k : Int) < 8 := by omega
        have hle := symTo_len l k
        have hnone : ∀ u : Value, u.ownBlock = none ∨ u.ownBlock ≠ none := fun u => none_row u
        go_wp2_with fail
        refine (iTurn B n cap a l (k : Int) wr hn (H.out.on (hb.mono hB)) (Nat.le_trans hB hsz)).mono ?_
        rintro e w3 ⟨v3, rfl, hown3, hb3⟩
        rw [HTS.out k (by omega)] at hown3
        obtain ⟨at3, ct3, rfl⟩ := own_slice hown3
        have HA3 := Lib.hid (CellsAt.of_own hown3 (HIN.out k))
        have HO3 := Lib.hid (hown.out.kept (grow_below hb3 none) (hnone _))
        have HB3 := Lib.hid (hb.trans (hb3.mono hsz))
        have HBC3 := Lib.hid (hbc.trans (hb3.mono hszc))
        have HC3 := Lib.hid ((HA2.out.on HBC3.out).more HBC3.out.size)
        have htn : (turnC k l).length ≤ 4194304 := by have := hsmall k; omega
        clear hown3 hown hb hbc hb3
        go_wp2_with fail
        refine (iEqual_any w3.heap.size (turnC k l).length (cornerC l).length ct3 cg at3 ag (turnC k l) (cornerC l) w3 htn hcl HA3.out HC3.out (Nat.le_refl _)).mono ?_
        rintro e w4 ⟨rfl, hb4⟩
        have HO4 := Lib.hid (HO3.out.kept (grow_below hb4 none) (hnone _))
        have HB4 := Lib.hid (HB3.out.trans (hb4.mono HB3.out.size))
        have HBC4 := Lib.hid (HBC3.out.trans (hb4.mono HBC3.out.size))
        have hst := symTo_succ l k
        clear hb4 HO3 HA3 HC3 HB3 HBC3 hnone
        by_cases heq : turnC k l = cornerC l
        · have hq : eqb (turnC k l) (cornerC l) = true := by simp [eqb, heq]
          rw [if_pos heq] at hst
          have HST := Lib.hid hst
          rw [hq]
          have HLT := Lib.hid HO4.out.lt
          clear hst heq hq
          go_wp2_with (first | (at_builtin; refine wpList_intsV rfl _ _ rfl w2.heap.size (symTo l k).length _ ((symTo l k).map (Value.int .i64)) ⟨w4.heap.size, 0, none⟩ 1 1 [.int .i64 (k : Int)] rfl rfl (HO4.out.alloc _) rfl (by omega) (liesV_block (t := 3) (fr := (0, 0)) (heap_alloc_new _ _)) (ints_one [(k : Int)]) ?c4 ?c5 ?_) | go_in)
          case c4 => omega
          case c5 => have := HBC4.out.size; simp; omega
          intro g' cc' w5 hown5 hgrow5 hgb5 hlt5
          have hl5 : (symTo l k).length + 1 = (symTo l (k + 1)).length := by rw [HST.out]; simp
          have hm5 : (symTo l k).map (Value.int .i64) ++ [.int .i64 (k : Int)] = (symTo l (k + 1)).map (Value.int .i64) := by rw [HST.out]; simp
          rw [hm5, hl5] at hown5
          rw [hl5]
          have HO5 := Lib.hid hown5
          have HB5 := Lib.hid ((HB4.out.alloc HB4.out.size (.cells #[.int .i64 (k : Int)] 3)).grown hgrow5 (by have := HB4.out.size; simp; omega) (fun i hi => Nat.le_trans HB2.out.size (HLT.out i hi).1))
          have HBC5 := Lib.hid ((HBC4.out.alloc HBC4.out.size (.cells #[.int .i64 (k : Int)] 3)).grown hgrow5 (by have := HBC4.out.size; simp; omega) (fun i hi => (HLT.out i hi).1))
          clear hown5 hl5 hm5
          go_wp2
          go_roundw
          case rel => exact ⟨k + 1, by omega, by go_num, HO5.out, HB5.out, HBC5.out⟩
          case measure => simp [intOf]; omega
        · have hq : eqb (turnC k l) (cornerC l) = false := by simp [eqb, heq]
          rw [if_neg heq] at hst
          have HST := Lib.hid hst
          rw [hq]
          clear hst heq hq
          rw [← HST.out] at HO4
          go_wp2
          go_roundw
          case rel => exact ⟨k + 1, by omega, by go_num, HO4.out, HB4.out, HBC4.out⟩
          case measure => simp [intOf]; omega
      · obtain rfl : k = 8 := by omega
        have HR := Lib.hid (show OwnI w (symTo l 8) _ wr from ⟨own_below hown.out HB2.out.size, hb⟩)
        clear hown
        go_wp2
        go_ret
        exact ⟨_, rfl, HR.out⟩

theorem ints_get (zs : List Int) (k : Nat) (h : k < zs.length) : (zs.map (Value.int .i64))[k]? = some (.int .i64 (zs.getD k 0)) := by simp [List.getD, h]
theorem any_takeI (p : Int → Bool) (zs : List Int) (k : Nat) (h : k < zs.length) : (zs.take (k + 1)).any p = ((zs.take k).any p || p (zs.getD k 0)) := by
  rw [takeG_snoc 0 zs k h, List.any_append]
  simp

set_option maxHeartbeats 1000000 in
set_option maxRecDepth 100000 in
theorem iRefl (m : Int) (w : World) : Calls Tryz.prog 52 #[.int .i64 m] w fun e w' => e = .returned (.bool (decide (4 ≤ m))) ∧ w = w' := by
  go_enter Tryz.func52, Tryz.ntmps52
  go_wp2_with fail
  refine (iReflects m w).mono ?_
  rintro e w' ⟨rfl, rfl⟩
  go_wp2
  go_ret
  exact ⟨rfl, rfl⟩

set_option maxHeartbeats 1000000 in
set_option maxRecDepth 100000 in
theorem iIdxI (B : Nat) (v : Value) (zs : List Int) (w : World) (hn : zs.length ≤ 4194304) (hown : w.ownsRow B 3 1 v zs.length (zs.map (Value.int .i64))) :
    Calls Tryz.prog 69 #[v, .func (.func 52) #[] #[]] w fun e w' => ∃ j : Int, e = .returned (.int .i64 j) ∧ decide (0 ≤ j) = (zs.any fun m => decide (4 ≤ m)) ∧ Below w.heap.size w w' := by
  have eg : ∀ args w, (callFunc 52 args).run Tryz.prog w = .ok (.enter 52 args) w := enters_of Tryz.func52 (by kernel_rfl) rfl
  by_cases h0 : zs.length = 0
  · have e0 : zs = [] := List.eq_nil_of_length_eq_zero h0
    subst e0
    have hv : ∃ av cv, v = .slice av 0 cv := by
      rcases hown.2 with ⟨rfl, _⟩ | ⟨g, cv, cur, rfl, _⟩
      · exact ⟨_, _, rfl⟩
      · exact ⟨_, _, rfl⟩
    obtain ⟨av, cv, rfl⟩ := hv
    clear hown
    go_enter Tryz.func69, Tryz.ntmps69
    go_wp2
    refine wp_loop_rounds 1 ?_
    rw [rounds_succ]
    go_wp2
    go_ret
    exact ⟨_, rfl, rfl, Below.refl _ _⟩
  · obtain ⟨g, cv, rfl⟩ := own_some hown (by omega)
    have HO := Lib.hid hown
    have hgl := (hown.lt g rfl).2
    clear hown
    generalize hN : zs.length = n at *
    have HN := Lib.hid hN
    clear hN
    go_enter Tryz.func69, Tryz.ntmps69
    go_wp2
    go_loopw [8] (fun i wr => ∃ k : Nat, k ≤ n ∧ i = .int .i64 k ∧ Hid ((zs.take k).any (fun m => decide (4 ≤ m)) = false) ∧ Below w.heap.size w wr) (fun i _ => n - (intOf i).toNat)
    case atStart => exact ⟨0, by omega, rfl, by simp [Hid], Below.refl _ _⟩
    case round =>
      obtain ⟨k, hk, rfl, hno, hb⟩ := hrel
      by_cases hlt : k < n
      · have hk0 : (0 : Int) ≤ (k : Int) := by omega
        have hk1 : (k : Int) < (n : Int) := by omega
        have hc := HO.out.cellAt k (by omega)
        rw [ints_get zs k (by rw [HN.out]; exact hlt)] at hc
        have p1 := (hb.cell (p := ⟨g, k, none⟩) hgl).trans hc
        have hst := any_takeI (fun m => decide (4 ≤ m)) zs k (by rw [HN.out]; exact hlt)
        rw [hno.out, Bool.false_or] at hst
        generalize hz : zs.getD k 0 = z at p1 hst
        have HZ := Lib.hid hz
        have HST := Lib.hid hst
        clear hc hst hz
        have hcall := iRefl z
        by_cases h4 : 4 ≤ z
        · have d4 : decide (4 ≤ z) = true := decide_eq_true h4
          rw [d4] at hcall
          have hyes : (zs.any fun m => decide (4 ≤ m)) = true := by
            rw [List.any_eq_true]
            refine ⟨z, ?_, d4⟩
            rw [← HZ.out]
            simp [List.getD, show k < zs.length by rw [HN.out]; exact hlt]
          have HY := Lib.hid hyes
          clear d4 hyes
          go_wp2_with (go_at_fn 52; refine (hcall _).mono ?_; rintro e w' ⟨rfl, rfl⟩)
          go_ret
          exact ⟨_, rfl, by rw [HY.out]; simp, hb⟩
        · have d4 : decide (4 ≤ z) = false := decide_eq_false h4
          rw [d4] at hcall
          have HNX := Lib.hid (HST.out.trans d4)
          clear d4
          go_wp2_with (go_at_fn 52; refine (hcall _).mono ?_; rintro e w' ⟨rfl, rfl⟩)
          go_roundw
          case rel => exact ⟨k + 1, by omega, by go_num, HNX.out, hb⟩
          case measure => simp [intOf]; omega
      · obtain rfl : k = n := by omega
        have hno2 := hno.out
        rw [List.take_of_length_le (by rw [HN.out]; exact Nat.le_refl _)] at hno2
        have HY := Lib.hid hno2
        clear hno2
        go_wp2
        go_ret
        exact ⟨_, rfl, by rw [HY.out]; rfl, hb⟩

theorem iHasI (B : Nat) (v : Value) (zs : List Int) (w : World) (hn : zs.length ≤ 4194304) (hown : w.ownsRow B 3 1 v zs.length (zs.map (Value.int .i64))) :
    Calls Tryz.prog 53 #[v, .func (.func 52) #[] #[]] w fun e w' => e = .returned (.bool (zs.any fun m => decide (4 ≤ m))) ∧ Below w.heap.size w w' := by
  go_enter Tryz.func53, Tryz.ntmps53
  go_wp2_with fail
  refine (iIdxI B v zs w hn hown).mono ?_
  rintro e w' ⟨j, rfl, hj, hb⟩
  have HJ := Lib.hid hj
  clear hj hown
  go_wp2
  go_ret
  exact ⟨ret_Bo HJ.out, hb⟩

set_option maxHeartbeats 1000000 in
theorem iChiral (B n cap : Nat) (a : Option Addr) (l : List Cl) (w : World) (hn : n ≤ 4194304) (hc : CellsAt B w a n l) (hB : B ≤ w.heap.size) :
    Calls Tryz.prog 21 #[.slice a n cap] w fun e w' => e = .returned (.bool (chirS l)) ∧ Below w.heap.size w w' := by
  have H := Lib.hid hc
  rw [chirS_prog l]
  clear hc
  cases h : isShape l with
  | false =>
    have HS := Lib.hid h
    clear h
    rw [Bool.false_and]
    go_enter Tryz.func21, Tryz.ntmps21
    go_wp2_with fail
    refine (iIsShape B n cap a l w hn H.out hB).mono ?_
    rintro e w1 ⟨rfl, hb1⟩
    rw [HS.out]
    go_wp2
    go_ret
    exact ⟨rfl, hb1⟩
  | true =>
    have HS := Lib.hid h
    have hsl : (symS l).length ≤ 8 := by unfold symS; rw [if_pos h]; exact symTo_len l 8
    clear h
    rw [Bool.true_and]
    obtain ⟨zs, hzs⟩ : ∃ zs, symS l = zs := ⟨_, rfl⟩
    have HZ := Lib.hid hzs
    rw [hzs] at hsl ⊢
    clear hzs
    go_enter Tryz.func21, Tryz.ntmps21
    go_wp2_with fail
    refine (iIsShape B n cap a l w hn H.out hB).mono ?_
    rintro e w1 ⟨rfl, hb1⟩
    rw [HS.out]
    go_wp2_with fail
    refine (iSymm B n cap a l w1 hn (H.out.on (hb1.mono hB)) (Nat.le_trans hB hb1.size)).mono ?_
    rintro e w2 ⟨v, rfl, hown2, hb2⟩
    rw [HZ.out] at hown2
    have HB2 := Lib.hid (hb1.trans (hb2.mono hb1.size))
    go_wp2_with fail
    refine (iHasI w1.heap.size v zs w2 (by omega) hown2).mono ?_
    rintro e w3 ⟨rfl, hb3⟩
    clear hown2
    go_wp2
    go_ret
    exact ⟨rfl, HB2.out.trans (hb3.mono HB2.out.size)⟩

end Go.Proofs.YtecfabhpjihcbaaGreat
