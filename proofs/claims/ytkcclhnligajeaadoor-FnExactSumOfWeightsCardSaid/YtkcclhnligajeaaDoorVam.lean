/-
  The sum of weights: in the program: what the call gives.
  The small functions under the program's shapes: bounds of a place and of a move, the order of two cells.
  What a shape is, in the program: what the call gives.
  The bounds of a list of cells, in the program: what the call gives.
  The mask of some cells, in the program: what the call gives.
-/
import Derived.Test.YtkcclhnligajeaaDoorVaj
import Derived.Test.YtkcclhnligajeaaDoorVal
import Derived.Test.YtkcclhnligajeaaDoorWs1
import Derived.Test.YtkcclhnligajeaaDoorRin
import Derived.Test.YtkcclhnligajeaaDoorVaa
import Derived.Sort.Grow
import Derived.BigQuiet
import Derived.Test.YtkcclhnligajeaaDoorVad
import Derived.Test.YtkcclhnligajeaaDoorVak
namespace Go.Proofs.YtkcclhnligajeaaDoor

section
open Go.RowKit Go.Shelf

attribute [local go_sem] Oper.semAt_some

def vlM {m : Nat} (pre : List (MB m)) : List Nat := pre.map (·.1)
theorem vlM_snoc {m : Nat} (pre : List (MB m)) (x : MB m) : vlM (pre ++ [x]) = vlM pre ++ [x.1] := by simp [vlM]
theorem boxed_own {β : Type} (B : Nat) (t : TypeId) (f : β → Value) : Own (fun s W => Boxed W B t (f s)) := fun s W W' row hs hg hr => hs.kept hg fun e => by
  obtain ⟨o, ho, hc⟩ := hr B e.symm
  rw [show W.heap[B]? = some (.cells #[f s] t (0, 0)) from hs] at ho
  injection ho with ho
  rw [← ho] at hc
  cases hc
set_option maxHeartbeats 4000000 in
set_option maxRecDepth 100000 in
theorem iSumW_in (k : Nat) (hk : 3 ≤ k) (B n cap m3 cap3 : Nat) (a a3 : Option Addr) (W : Int) (l ws : List Int) (m : Nat) (p : Int) (w : World) (h1 : areW W l ws p = true) (h2 : okM W l (m : Int) = true) (hn : n ≤ 4194304) (hm3 : m3 ≤ 4194304) (hc : IntsAt B w a n l) (hw : IntsAt B w a3 m3 ws) (hB : B ≤ w.heap.size) (hT : Tz w) :
    CallsIn Fence.wide k Tryd.prog 8 #[.agg #[.int .i64 W, .slice a n cap], .int .i64 m, .slice a3 m3 cap3, .int .i64 p] w fun e w' => e = .returned (.int .i64 (sumW W l (m : Int) ws p)) ∧ Below w.heap.size w w' := by
  have H := Lib.hid hc
  have HW := Lib.hid hw
  have hlw := hw.1
  clear hc hw
  have hk1 : 1 ≤ k := by omega
  obtain ⟨hr0, hp, hlen0, hin⟩ := areW_parts h1
  have hp5 := hp.pos
  have hpn : ¬ p = 0 := by omega
  have hlen := areW_len h1
  have hmlt := okM_lt h2
  obtain ⟨N, rfl, hr⟩ := isReg_out hr0
  have HBT := Lib.hid (show ∀ i, m.testBit i = true → i < m3 from fun i hi => by
    have h9 := (hr.mask_out (okM_bits h2 hi)).1
    rw [← hlw, hlen0, plcN_rg hr]
    exact h9)
  have hm36 : m3 ≤ 36 := by omega
  have HSB := Lib.hid (fun pre => smL_bd hin ⟨by omega, hp5.2⟩ pre)
  have HIN := Lib.hid (fun k => inPW_get hin (by omega) k)
  have HO := Lib.hid (show ∀ ys : List (MB m), vlM ys = bitL m → sumW N l (m : Int) ws p = smL ws (vlM ys) % p from fun ys hys => by
    rw [hys, sumW_yes h1 h2, hlw, smL_bitL ws (fun i hi => HBT.out i hi) (by omega)])
  have HA := Lib.hid h1
  have HK := Lib.hid h2
  have hb0 : Below w.heap.size w ((w.alloc (.cells #[.int .i64 N, .slice a n cap] 27)).alloc (.cells #[.slice a3 m3 cap3] 22)) := ((Below.refl w.heap.size w).alloc (Nat.le_refl _) _).alloc (by simp) _
  have hbox0 := (RgAt.new (w := w) N (.slice a n cap) rfl).alloc (.cells #[.slice a3 m3 cap3] 22)
  have bW0 := Boxed.new (w.alloc (.cells #[.int .i64 N, .slice a n cap] 27)) 22 (.slice a3 m3 cap3)
  rw [World.size_alloc] at bW0
  have hs0 : ((w.alloc (.cells #[.int .i64 N, .slice a n cap] 27)).alloc (.cells #[.slice a3 m3 cap3] 22)).heap.size = w.heap.size + 1 + 1 := by simp
  clear h1 h2 hr hin hp hr0 hlen0
  refine callsIn_of_wp_marks Tryd.func8 rfl trivial ?_ rfl
  simp only [Tryd.ntmps8, List.size_toArray, List.length_cons, List.length_nil, Nat.reduceAdd, Nat.reduceSub, Array.replicate_succ, Array.replicate_zero, List.push_toArray, List.append_toArray, List.nil_append, List.cons_append]
  have c0 := hbox0.c0
  have c1 := hbox0.c1
  have c2 := bW0.cell
  gi_wp2_with fail
  (try simp only [World.size_alloc])
  generalize ((w.alloc (.cells #[.int .i64 N, .slice a n cap] 27)).alloc (.cells #[.slice a3 m3 cap3] 22)) = w0 at *
  refine ⟨trivial, (callsIn_wide.2 (iAreW B n cap m3 cap3 a a3 N l ws p w0 hn hm3 (H.out.on (hb0.mono hB)) (HW.out.on (hb0.mono hB)) (Nat.le_trans hB hb0.size))).mono ?_⟩
  rintro e w1 ⟨rfl, hb⟩
  rw [HA.out]
  have hb1 := hb0.trans (hb.mono hb0.size)
  have hbox1 := hbox0.on hb (by omega)
  have bW1 := bW0.kept (grow_below hb none) (by simp)
  have hs1 : w.heap.size + 1 + 1 ≤ w1.heap.size := by have := hb.size; omega
  clear hb hb0 hbox0 bW0 c0 c1 c2
  have c0 := hbox1.c0
  have c1 := hbox1.c1
  have c2 := bW1.cell
  gi_wp2_with fail
  refine ⟨trivial, (callsIn_wide.2 (iIsMask B n cap a N l m w1 (by omega) (by omega) hn (H.out.on (hb1.mono hB)) (Nat.le_trans hB hb1.size))).mono ?_⟩
  rintro e w2 ⟨rfl, hb⟩
  rw [HK.out]
  have hb2 := hb1.trans (hb.mono hb1.size)
  have hbox2 := hbox1.on hb hbox1.lt
  have bW2 := bW1.kept (grow_below hb none) (by simp)
  have hs2 : w.heap.size + 1 + 1 ≤ w2.heap.size := by have := hb.size; omega
  clear hb hb1 hbox1 bW1 c0 c1 c2
  have c0 := hbox2.c0
  have c1 := hbox2.c1
  have c2 := bW2.cell
  gi_wp2_with fail
  refine ⟨trivial, (callsIn_wide.2 (iBitsOf m _)).mono ?_⟩
  rintro e w3 ⟨rfl, rfl⟩
  gi_wp2
  obtain ⟨bs, hbs⟩ : ∃ bs, w2.heap.size = bs := ⟨_, rfl⟩
  have bO := (Boxed.new w2 3 (.int .i64 0)).alloc (.cells #[.int .i64 (m : Int)] 3)
  have bN := Boxed.new (w2.alloc (.cells #[.int .i64 0] 3)) 3 (.int .i64 (m : Int))
  rw [World.size_alloc, hbs] at bN
  rw [hbs] at bO
  have hB3 : Below bs w2 ((w2.alloc (.cells #[.int .i64 0] 3)).alloc (.cells #[.int .i64 (m : Int)] 3)) := ((Below.refl _ w2).alloc (by omega) _).alloc (by simp; omega) _
  have hs3 : ((w2.alloc (.cells #[.int .i64 0] 3)).alloc (.cells #[.int .i64 (m : Int)] 3)).heap.size = bs + 1 + 1 := by simp [hbs]
  have hgt : gDB < bs := by have := hT.2; omega
  have hT3 := (hT.on hb2 hT.2).on hB3 hgt
  have HX := Lib.hid hbox2
  have HWB := Lib.hid bW2
  have HB2 := Lib.hid hb2
  have hs2' : w.heap.size + 1 + 1 ≤ bs := by omega
  clear hbox2 bW2 hb2 c0 c1 c2
  rw [hbs]
  generalize ((w2.alloc (.cells #[.int .i64 0] 3)).alloc (.cells #[.int .i64 (m : Int)] 3)) = W3 at *
  refine wpIn_rangeFunc_ownG rfl hk1 (gf := 25) (lb := #[.pointer (some ⟨bs + 1, 0, none⟩)]) rfl trivial (enters_of Tryd.func25 (by kernel_rfl) rfl)
    (iBitsM_stops (k - 1) (by omega) (bs + 1) bs m (by omega) W3 (by omega) (by omega) bN.cell hT3 hgt) belowK_t (belowK_b (by omega)) (Below.refl _ _) (fun _ => rfl)
    (fun pre W => Boxed W bs 3 (.int .i64 (smL ws (vlM pre))) ∧ Below bs w2 W)
    (fun _ _ _ => False)
    (OwnFrom.and (Own.from (boxed_own bs 3 (fun pre : List (MB m) => .int .i64 (smL ws (vlM pre)))) _) (ownFrom_below (by omega) (by omega)))
    (fun _ _ _ _ _ hs _ _ => hs)
    ⟨bO, hB3⟩
    (fun x => { tmps := #[.agg #[.int .i64 N, .slice a n cap], .int .i64 m, .slice a3 m3 cap3, .int .i64 p, .pointer (some ⟨w.heap.size, 0, none⟩), undef, .pointer (some ⟨w.heap.size + 1, 0, none⟩), undef, .int .i64 0, .pointer (some ⟨bs, 0, none⟩), .int .i64 (x.1 : Int), .agg #[.int .i64 N, .slice a n cap], .slice a3 m3 cap3, .int .i64 p, .bool true, .bool false, .bool false, .agg #[.int .i64 N, .slice a n cap], .int .i64 m, .bool true, .bool false, .bool false, .int .i64 m, .func (.func 25) #[] #[.pointer (some ⟨bs + 1, 0, none⟩)], .int .i64 (x.1 : Int), undef, undef, undef, undef, undef, undef, undef, undef, undef], defers := [] }) ?assign ?body ?done ?stop
  case assign =>
    intro l x W K hK
    gi_wp2
    exact hK
  case body =>
    rintro l pre ⟨b, hbm, hb64⟩ V ⟨hv, hB⟩ hlt
    have q0 := hv.cell
    have q1 := hv.frozen
    have q2 := (show Boxed V (w.heap.size + 1) 22 (.slice a3 m3 cap3) from (hB.block (w.heap.size + 1) (by omega)).trans HWB.out).cell
    have hbn : b < m3 := HBT.out b hbm
    have hb1 : (b : Int) < (m3 : Int) := by omega
    have hb0 : (0 : Int) ≤ (b : Int) := by omega
    obtain ⟨b9, o9, rfl, hb9, hc9⟩ := HW.out.2.2 (by omega)
    have q3 := (hB.cell (p := ⟨b9, o9 + b, none⟩) (by show b9 < bs; omega)).trans ((HB2.out.cell (p := ⟨b9, o9 + b, none⟩) (by show b9 < w.heap.size; omega)).trans (hc9 b hbn))
    have hin := HIN.out b
    have hsb := HSB.out (vlM pre)
    have hpl : (vlM pre).length ≤ 64 := by
      unfold vlM
      rw [List.length_map]
      have h9 : (bitL m).length ≤ 64 := by
        unfold bitL
        have := List.length_filter_le m.testBit (List.range 64)
        simpa using this
      omega
    have HE := Lib.hid (show smL ws (vlM (pre ++ [⟨b, hbm, hb64⟩])) = smL ws (vlM pre) + ws.getD b 0 from by rw [vlM_snoc, smL_snoc])
    generalize smL ws (vlM pre) = y at *
    generalize ws.getD b 0 = z at *
    refine wpIn_block ?_
    have hwz : IntKind.i64.wrap (y + z) = y + z := by rw [IntKind.wrap_i64]; omega
    have HWZ := Lib.hid hwz
    have HEND := Lib.hid (show KeepsFrom W3.heap.size V (V.setCell ⟨bs, 0, none⟩ (.int .i64 (IntKind.i64.wrap (y + z)))).drew ∧ Below bs V (V.setCell ⟨bs, 0, none⟩ (.int .i64 (IntKind.i64.wrap (y + z)))).drew ∧
        Boxed (V.setCell ⟨bs, 0, none⟩ (.int .i64 (IntKind.i64.wrap (y + z)))).drew bs 3 (.int .i64 (smL ws (vlM (pre ++ [⟨b, hbm, hb64⟩])))) ∧ Below bs w2 (V.setCell ⟨bs, 0, none⟩ (.int .i64 (IntKind.i64.wrap (y + z)))).drew from
      ⟨((KeepsOthers.setCell V _ _).trans (KeepsOthers.drew _)).from _, ((Below.refl _ V).setCell (p := ⟨bs, 0, none⟩) (Nat.le_refl _) _).drew, by rw [HE.out, hwz]; exact hv.set _, (hB.setCell (p := ⟨bs, 0, none⟩) (Nat.le_refl _) _).drew⟩)
    clear hwz
    gi_region
    all_goals exact HEND.out
  case done =>
    rintro D ys V hD hys ⟨hv, hB⟩ hK
    have q0 := hv.cell
    have hsb := HSB.out (vlM ys)
    have HY := Lib.hid (HO.out ys hys)
    clear hys
    gi_wp2
    refine ⟨by simp, .inl ⟨_, _, rfl, run_takeDeferred hK, ?_⟩⟩
    refine ⟨_, results_tmp rfl _ _ _, by rw [HY.out]; rfl, ?_⟩
    exact HB2.out.trans ((hB.trans (belowK_b (w := W3) (by omega) V D _ _ (by omega) hK rfl rfl)).mono (by omega))
  case stop =>
    rintro D c pre V _ _ h _
    exact h.elim
set_option maxHeartbeats 4000000 in
set_option maxRecDepth 100000 in
theorem iSumW (B n cap m3 cap3 : Nat) (a a3 : Option Addr) (W : Int) (l ws : List Int) (m p : Int) (w : World) (hm : In64 m) (hn : n ≤ 4194304) (hm3 : m3 ≤ 4194304) (hc : IntsAt B w a n l) (hw : IntsAt B w a3 m3 ws) (hB : B ≤ w.heap.size) (hT : Tz w) :
    Calls Tryd.prog 8 #[.agg #[.int .i64 W, .slice a n cap], .int .i64 m, .slice a3 m3 cap3, .int .i64 p] w fun e w' => e = .returned (.int .i64 (sumW W l m ws p)) ∧ Below w.heap.size w w' := by
  have hb0 := ((Below.refl w.heap.size w).alloc (Nat.le_refl _) (.cells #[.int .i64 W, .slice a n cap] 27)).alloc (by simp) (.cells #[.slice a3 m3 cap3] 22)
  have hbox0 := (RgAt.new (w := w) W (.slice a n cap) rfl).alloc (.cells #[.slice a3 m3 cap3] 22)
  have bW0 := Boxed.new (w.alloc (.cells #[.int .i64 W, .slice a n cap] 27)) 22 (.slice a3 m3 cap3)
  rw [World.size_alloc] at bW0
  have c0 := hbox0.c0
  have c1 := hbox0.c1
  have c2 := bW0.cell
  unfold In64 at hm
  cases h1 : areW W l ws p with
  | false =>
    have HO := Lib.hid (sumW_no (m := m) (fun h9 => by rw [h1] at h9; cases h9.1))
    have HI := Lib.hid h1
    have H := Lib.hid hc
    have HW := Lib.hid hw
    rw [HO.out]
    clear h1 hc hw
    go_enter Tryd.func8, Tryd.ntmps8
    go_wp2_with fail
    generalize ((w.alloc (.cells #[.int .i64 W, .slice a n cap] 27)).alloc (.cells #[.slice a3 m3 cap3] 22)) = w0 at *
    refine (iAreW B n cap m3 cap3 a a3 W l ws p w0 hn hm3 (H.out.on (hb0.mono hB)) (HW.out.on (hb0.mono hB)) (Nat.le_trans hB hb0.size)).mono ?_
    rintro e w1 ⟨rfl, hb⟩
    rw [HI.out]
    go_wp2
    go_ret
    exact ⟨rfl, hb0.trans (hb.mono hb0.size)⟩
  | true =>
    cases h2 : okM W l m with
    | false =>
      have HO := Lib.hid (sumW_no (p := p) (ws := ws) (fun h9 => by rw [h2] at h9; cases h9.2))
      have HI := Lib.hid h1
      have HK := Lib.hid h2
      have H := Lib.hid hc
      have HW := Lib.hid hw
      rw [HO.out]
      clear h1 h2 hc hw
      go_enter Tryd.func8, Tryd.ntmps8
      go_wp2_with fail
      generalize ((w.alloc (.cells #[.int .i64 W, .slice a n cap] 27)).alloc (.cells #[.slice a3 m3 cap3] 22)) = w0 at *
      refine (iAreW B n cap m3 cap3 a a3 W l ws p w0 hn hm3 (H.out.on (hb0.mono hB)) (HW.out.on (hb0.mono hB)) (Nat.le_trans hB hb0.size)).mono ?_
      rintro e w1 ⟨rfl, hb⟩
      rw [HI.out]
      have hb1 := hb0.trans (hb.mono hb0.size)
      have hbox1 := hbox0.on hb hbox0.lt
      clear hb hb0 hbox0 bW0 c0 c1 c2
      have c0 := hbox1.c0
      have c1 := hbox1.c1
      go_wp2_with fail
      refine (iIsMask B n cap a W l m w1 hm.1 hm.2 hn (H.out.on (hb1.mono hB)) (Nat.le_trans hB hb1.size)).mono ?_
      rintro e w2 ⟨rfl, hb⟩
      rw [HK.out]
      go_wp2
      go_ret
      exact ⟨rfl, hb1.trans (hb.mono hb1.size)⟩
    | true =>
      obtain ⟨N, H, k, rfl, rfl, hr⟩ := okM_reg h2
      exact callsIn_wide.1 (iSumW_in 3 (Nat.le_refl _) B n cap m3 cap3 a a3 N l ws k p w h1 h2 hn hm3 hc hw hB hT)
end

section
open Go.RowKit

/-- Two numbers compared: -1, 0 or 1. -/
def cmpI (x y : Int) : Int := if x < y then -1 else if y < x then 1 else 0
/-- The first of two numbers that is not 0. -/
def orI (x y : Int) : Int := if x = 0 then y else x
/-- Two cells compared: by rows, then from left to right. -/
def cmpC (a b : Cl) : Int := orI (cmpI a.2 b.2) (cmpI a.1 b.1)
theorem cmpC_neg (a b : Cl) : decide (cmpC a b < 0) = bef a b := by
  unfold cmpC orI cmpI bef
  rw [Bool.eq_iff_iff]
  simp only [decide_eq_true_eq, Bool.or_eq_true, Bool.and_eq_true]
  constructor
  · intro h
    repeat' split at h
    all_goals omega
  · intro h
    repeat' split
    all_goals omega
theorem cmpC_geq (a b : Cl) : decide (cmpC a b ≥ 0) = !bef a b := by
  rw [← cmpC_neg, Bool.eq_iff_iff]
  simp only [Bool.not_eq_true', decide_eq_true_eq, decide_eq_false_iff_not]
  omega

theorem two_new {w : World} {t : TypeId} {p q : Value} {N : Nat} (hN : w.heap.size = N) : (w.alloc (.cells #[p, q] t)).drew.cell? ⟨N, 0, none⟩ = some p ∧ (w.alloc (.cells #[p, q] t)).drew.cell? ⟨N, 1, none⟩ = some q := by
  subst hN
  exact ⟨cell_of_row (w.alloc (.cells #[p, q] t)) _ 0 _ _ _ (heap_alloc_new _ _), cell_of_row (w.alloc (.cells #[p, q] t)) _ 1 _ _ _ (heap_alloc_new _ _)⟩
end

section
open Go.RowKit

theorem isShape_few {l : List Cl} (h : l.length = 0 ∨ 8 < l.length) : isShape l = false := by
  unfold isShape inb
  rw [Bool.and_eq_false_iff]
  right
  rw [Bool.and_eq_false_iff, decide_eq_false_iff_not, decide_eq_false_iff_not]
  omega
end

section
open Go.RowKit

def lstX (l : List Cl) : Int := lstTo Prod.fst l l.length
def lstY (l : List Cl) : Int := lstTo Prod.snd l l.length
def grtX (l : List Cl) : Int := grtTo Prod.fst l l.length
def grtY (l : List Cl) : Int := grtTo Prod.snd l l.length
end

section
open Go.RowKit
end

end Go.Proofs.YtkcclhnligajeaaDoor
