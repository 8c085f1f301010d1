/-
  A number for each place of a mask: in the program: a loop over an iterator that stores.
  Is it a prime, are numbers in range, how many places: in the program and in the model: what each call gives.
  Numbers modulo a prime, one row and two rows of numbers, in the program: what each call gives.
-/
import Derived.Test.YtkcclhnligajeaaGreatDoorVai
import Derived.Test.YtkcclhnligajeaaGreatDoorVak
import Derived.Test.YtkcclhnligajeaaGreatDoorVam
import Derived.Test.YtkcclhnligajeaaGreatDoorVac
import Derived.Test.YtkcclhnligajeaaGreatDoorVag
import Derived.BigQuiet
namespace Go.Proofs.YtkcclhnligajeaaGreatDoor

section
open Go.RowKit Go.Shelf

attribute [local go_sem] Oper.semAt_some

theorem wpListIn_make_full {F : Fence} {k : Nat} {P : Program} (w : World) {ops : Array Oper} {rest : List Oper} {o : Oper} {a : Act} {Q : Exit → Act → World → Prop}
    (hg : o.guard = none) (l c : Operand) (t : TypeId) (hop : o.op = Op.makeSlice t l c)
    (base : Nat) (e : TypeId) (i : TypeInfo) (z : Value) (size : Nat) (h1 : P.underlying t = some (.slice e)) (h2 : P.info? e = some i) (h3 : i.zero = some z) (h4 : i.size = size)
    (kl kc : IntKind) (L C : Int) (n : Nat) (hl : a.eval l = .int kl L) (hc : a.eval c = .int kc C) (hL : L = (n : Int)) (hC : C = (n : Int)) (b2 : i.bytes * n ≤ 281474976710656) (b3 : n ≤ maxLen) (b4 : base ≤ w.heap.size)
    (hK : ∀ w', w'.ownsRow base e size (.slice (some ⟨w.heap.size, 0, none⟩) n n) n (madeCells z.cells (n * size)).toList → w.grownBy w' none → wpListIn F k P ops Q rest (a.put o.dst (.slice (some ⟨w.heap.size, 0, none⟩) n n)) w') :
    wpListIn F k P ops Q (o :: rest) a w := by
  refine wpListIn_plain hg fun K hK' => ?_
  obtain ⟨w', hrun, r1, r2⟩ := run_make_full (P := P) w base t e i z size h1 h2 h3 h4 kl kc n b2 b3 b4
  subst hL
  subst hC
  unfold Oper.wpIn
  refine ⟨?_, ?_⟩
  · simp [Oper.about, hop]
  · rw [Oper.semAt_plain F _ _ (by rw [hop]; intro c hc'; cases hc')]
    simp [execOp, hop, hl, hc, hrun, Result.andThen]
    exact hK' _ _ (hK w' r1 r2)

/-! ### The bits of a mask, one by one: what comes is a bit of it -/
abbrev MB (m : Nat) := { x : Nat // m.testBit x = true ∧ x < 64 }
theorem bitL_mem {m x : Nat} : x ∈ bitL m ↔ m.testBit x = true ∧ x < 64 := by
  unfold bitL
  rw [List.mem_filter, List.mem_range]
  exact And.comm
set_option maxRecDepth 100000 in
set_option maxHeartbeats 1000000 in
theorem iBitsM (n : Nat) (hn : 1 ≤ n) (l Bn n₀ m : Nat) (hm : m < 9223372036854775808) (J Jx : List (MB m) → World → Prop)
    (hY : ∀ pre x W, J pre W → pre.length < (bitL m).length → YieldAt Fence.wide (n - 1) Tryz.prog l #[.int .i64 (x.1 : Int)] W fun e W' =>
      (e = .returned (.bool true) ∧ J (pre ++ [x]) W' ∧ Below n₀ W W') ∨ (e = .returned (.bool false) ∧ Jx (pre ++ [x]) W'))
    (W : World) (hBn : W.cell? ⟨Bn, 0, none⟩ = some (.int .i64 m)) (hT : Tz W) (hTn : gDB < n₀) (h0 : J [] W) :
    CallsIn Fence.wide n Tryz.prog 120 #[.func (.yield l) #[] #[], .pointer (some ⟨Bn, 0, none⟩)] W fun e W' => (∃ v, e = .returned v) ∧
      ((∃ ys, ys.map (·.1) = bitL m ∧ J ys W') ∨ (∃ pre, pre.map (·.1) <+: bitL m ∧ Jx pre W')) := by
  refine callsIn_of_wp Tryz.func120 rfl trivial ?_ rfl
  simp only [Tryz.ntmps120, List.size_toArray, List.length_cons, List.length_nil, Nat.reduceAdd, Nat.reduceSub, Array.replicate_succ, Array.replicate_zero, List.push_toArray, List.append_toArray, List.nil_append, List.cons_append]
  gi_wp2
  gi_loopw [3] (fun p wr => ∃ (pre : List (MB m)) (k : Nat), p = .int .i64 (k : Int) ∧ k ≤ m ∧ bitL m = pre.map (·.1) ++ bitL k ∧ J pre wr ∧ Tz wr) (fun p _ => (bitL (intOf p).toNat).length)
  case atStart => exact ⟨[], m, rfl, Nat.le_refl _, rfl, h0, hT⟩
  case round =>
    obtain ⟨pre, k, rfl, hk, hx, hJs, hTr⟩ := hrel
    by_cases hk0 : k = 0
    · subst hk0
      rw [bitL_zero, List.append_nil] at hx
      gi_wp2
      go_end0
      exact ⟨⟨_, rfl⟩, .inl ⟨pre, hx.symm, hJs⟩⟩
    · have hne : ((k : Int) != 0) = true := by rw [bne_iff_ne]; omega
      have hcons := bitL_cons (m := k) hk0 (by omega)
      rw [hcons] at hx
      have hmem : m.testBit (Lib.ctz 64 k) = true ∧ Lib.ctz 64 k < 64 := bitL_mem.1 (by rw [hx]; simp)
      obtain ⟨fn, tmps, assign, body, hy, hR⟩ := hY pre ⟨Lib.ctz 64 k, hmem⟩ wr hJs (by rw [hx]; simp)
      have hw : IntKind.u64.wrap (k : Int) = (k : Int) := by rw [IntKind.wrap_u64]; omega
      have hand : bits .and .i64 (k : Int) ((k : Int) - 1) = ((k &&& (k - 1) : Nat) : Int) := by
        rw [show (k : Int) - 1 = ((k - 1 : Nat) : Int) by omega]
        exact i64_and_nat _ _ (by omega) (by omega)
      have hle : k &&& (k - 1) ≤ k := Nat.and_le_left
      have hcall := iTz k hk0 (by omega) wr hTr
      have HX := Lib.hid hx
      have HC := Lib.hid hcons
      have HMM := Lib.hid hmem
      clear hx hcons
      generalize Lib.ctz 64 k = t at *
      generalize k &&& (k - 1) = k2 at *
      gi_wp2
      refine ⟨trivial, (callsIn_wide.2 hcall).mono ?_⟩
      rintro e w' ⟨rfl, rfl⟩
      gi_wp2
      refine hR.mono ?_
      rintro e W3 (⟨rfl, hJ3, hk3⟩ | ⟨rfl, hJx3⟩)
      · have hT3 := hTr.on hk3 hTn
        gi_wp2
        go_roundw
        case rel => exact ⟨pre ++ [⟨t, hmem⟩], k2, rfl, by omega, by rw [HX.out]; simp, hJ3, hT3⟩
        case measure => simp only [intOf]; rw [Int.toNat_natCast, Int.toNat_natCast, HC.out]; simp
      · gi_wp2
        refine bodyPost_ret (results_none rfl _ _ _) rfl ?_
        exact ⟨⟨_, rfl⟩, .inr ⟨pre ++ [⟨t, hmem⟩], ⟨bitL k2, by rw [HX.out]; simp⟩, hJx3⟩⟩
theorem iBitsM_stops (n : Nat) (hn : 1 ≤ n) (Bn n₀ m : Nat) (hm : m < 9223372036854775808) (w : World) (hBn : Bn < w.heap.size) (hn₀ : n₀ ≤ w.heap.size)
    (hc : w.cell? ⟨Bn, 0, none⟩ = some (.int .i64 m)) (hT : Tz w) (hTn : gDB < n₀) :
    SeqStopsK Fence.wide n Tryz.prog 120 #[.pointer (some ⟨Bn, 0, none⟩)] (fun x : MB m => #[Value.int .i64 (x.1 : Int)]) (Below n₀) (fun ys => ys.map (·.1) = bitL m) (fun pre => pre.map (·.1) <+: bitL m) (bitL m).length w := fun l J Jx W hW _ _ hY h0 =>
  iBitsM n hn l Bn n₀ m hm J Jx hY W ((hW.cell (p := ⟨Bn, 0, none⟩) hBn).trans hc) (hT.on hW (by omega)) hTn h0

/-- A one for each place that has come. -/
def oneF {m : Nat} (pre : List (MB m)) : Nat → Int := fun j => if (pre.map (·.1)).contains j = true then 1 else 0
theorem oneF_nil (m n : Nat) : lstI n (oneF (m := m) []) = List.replicate n 0 := by
  apply List.ext_getElem
  · simp [lstI]
  · intro i h1 h2
    simp [lstI, oneF]
theorem oneF_snoc {m : Nat} (n : Nat) (pre : List (MB m)) (x : MB m) : lstI n (fun i => if i = x.1 then 1 else oneF pre i) = lstI n (oneF (pre ++ [x])) := lstI_congr fun j _ => by
  unfold oneF
  rw [List.map_append, List.map_cons, List.map_nil]
  by_cases e : j = x.1
  · rw [if_pos e, if_pos]
    rw [List.contains_iff_mem, e]
    simp
  · rw [if_neg e]
    congr 1
    rw [eq_iff_iff, List.contains_iff_mem, List.contains_iff_mem, List.mem_append, List.mem_singleton]
    constructor
    · exact .inl
    · rintro (h | h)
      · exact h
      · exact absurd h e
theorem oneF_bits {m n : Nat} {ys : List (MB m)} (h : ys.map (·.1) = bitL m) (hn : n ≤ 64) : lstI n (oneF ys) = lstI n (bitV m) := lstI_congr fun j hj => by
  unfold oneF bitV
  rw [h]
  congr 1
  rw [eq_iff_iff, List.contains_iff_mem, bitL_mem]
  constructor
  · exact fun h => h.1
  · exact fun h => ⟨h, by omega⟩

set_option maxHeartbeats 4000000 in
set_option maxRecDepth 100000 in
theorem iDigOf_in (k : Nat) (hk : 3 ≤ k) (m n : Nat) (w : World) (hm : m < 68719476736) (hb : ∀ i, m.testBit i = true → i < n) (hn : n ≤ 36) (hT : Tz w) :
    CallsIn Fence.wide k Tryz.prog 69 #[.int .i64 m, .int .i64 n] w fun e w' => ∃ g, e = .returned (.slice (some ⟨g, 0, none⟩) n n) ∧ w'.ownsRow w.heap.size 3 1 (.slice (some ⟨g, 0, none⟩) n n) n (iv (lstI n (bitV m))) ∧ Below w.heap.size w w' := by
  obtain ⟨i0, hi, hz0, hz1, hz2⟩ := info_parts info_int
  have hk1 : 1 ≤ k := by omega
  have HBT := Lib.hid hb
  clear hb
  refine callsIn_of_wp_marks Tryz.func69 rfl trivial ?_ rfl
  simp only [Tryz.ntmps69, List.size_toArray, List.length_cons, List.length_nil, Nat.reduceAdd, Nat.reduceSub, Array.replicate_succ, Array.replicate_zero, List.push_toArray, List.append_toArray, List.nil_append, List.cons_append]
  gi_wp2_with (first | (gi_at_make; refine wpListIn_make_full _ rfl _ _ 24 rfl w.heap.size 3 i0 (.int .i64 0) 1 Tryz.underlying24 hi hz0 hz1 _ _ _ _ n rfl rfl rfl rfl ?b2 ?b3 ?b4 ?_))
  case b2 => rw [hz2]; omega
  case b3 => unfold maxLen; omega
  case b4 => exact Nat.le_refl _
  intro w0 hown0 hgrow0
  rw [made_ints n] at hown0
  have hb0 : Below w.heap.size w w0 := (Below.refl _ w).grown hgrow0 (Nat.le_refl _) (fun k h => by cases h)
  have hT0 := hT.on hb0 hT.2
  gi_wp2
  refine ⟨trivial, (callsIn_wide.2 (iBitsOf m _)).mono ?_⟩
  rintro e W2 ⟨rfl, rfl⟩
  gi_wp2
  have hR0 : w0.ownsRow w.heap.size 3 1 (.slice (some ⟨w.heap.size, 0, none⟩) n n) n (iv (lstI n (oneF (m := m) []))) := by rw [oneF_nil]; exact hown0
  have hlw : w.heap.size < w0.heap.size := (hR0.lt _ rfl).2
  obtain ⟨bx, hbx⟩ : ∃ bx, w0.heap.size = bx := ⟨_, rfl⟩
  have bO := Boxed.new w0 24 (.slice (some ⟨w.heap.size, 0, none⟩) n n)
  have bN := Boxed.new (w0.alloc (.cells #[.slice (some ⟨w.heap.size, 0, none⟩) n n] 24)) 3 (.int .i64 (m : Int))
  rw [World.size_alloc, hbx] at bN
  rw [hbx] at bO hlw
  have hB1 : Below w.heap.size w ((w0.alloc (.cells #[.slice (some ⟨w.heap.size, 0, none⟩) n n] 24)).alloc (.cells #[.int .i64 (m : Int)] 3)) := (hb0.alloc hb0.size _).alloc (by simp; omega) _
  have hs3 : ((w0.alloc (.cells #[.slice (some ⟨w.heap.size, 0, none⟩) n n] 24)).alloc (.cells #[.int .i64 (m : Int)] 3)).heap.size = bx + 1 + 1 := by simp [hbx]
  have hgt : gDB < w.heap.size := hT.2
  have hT3 := hT.on hB1 hgt
  have hR3 := (hR0.alloc (.cells #[.slice (some ⟨w.heap.size, 0, none⟩) n n] 24)).alloc (.cells #[.int .i64 (m : Int)] 3)
  have bO3 := bO.alloc (.cells #[.int .i64 (m : Int)] 3)
  (try rw [hbx])
  clear hown0 hgrow0 hb0 hT0 hR0 hbx bO
  generalize ((w0.alloc (.cells #[.slice (some ⟨w.heap.size, 0, none⟩) n n] 24)).alloc (.cells #[.int .i64 (m : Int)] 3)) = W3 at *
  refine wpIn_rangeFunc_ownG rfl hk1 (gf := 120) (lb := #[.pointer (some ⟨bx + 1, 0, none⟩)]) rfl trivial (enters_of Tryz.func120 (by kernel_rfl) rfl)
    (iBitsM_stops (k - 1) (by omega) (bx + 1) w.heap.size m (by omega) W3 (by omega) (by omega) bN.cell hT3 hgt) belowK_t (belowK_b (by omega)) (Below.refl _ _) (fun _ => rfl)
    (fun pre W => (∃ v, Boxed W bx 24 v ∧ W.ownsRow w.heap.size 3 1 v n (iv (lstI n (oneF pre))) ∧ v = .slice (some ⟨w.heap.size, 0, none⟩) n n) ∧ Below w.heap.size w W)
    (fun _ _ _ => False)
    (OwnFrom.and (Own.from (holdsRow_own w.heap.size bx 24 3 1 (fun _ => n) (fun pre => iv (lstI n (oneF pre))) (fun _ v => v = .slice (some ⟨w.heap.size, 0, none⟩) n n)) _) (ownFrom_below (Nat.le_refl _) (by omega)))
    (fun _ _ _ _ _ hs _ _ => hs)
    ⟨⟨_, bO3, hR3, rfl⟩, hB1⟩
    (fun x => { tmps := #[.int .i64 m, .int .i64 n, undef, undef, .slice none 0 0, .pointer (some ⟨bx, 0, none⟩), .int .i64 (x.1 : Int), .int .i64 n, .slice (some ⟨w.heap.size, 0, none⟩) n n, .int .i64 m, .func (.func 120) #[] #[.pointer (some ⟨bx + 1, 0, none⟩)], .int .i64 (x.1 : Int), undef, undef, undef, undef], defers := [] }) ?assign ?body ?done ?stop
  case assign =>
    intro l x W K hK
    gi_wp2
    exact hK
  case body =>
    rintro l pre ⟨b, hbm, hb64⟩ W ⟨⟨v, hv, hrow, rfl⟩, hB2⟩ hlt
    have hc := hv.cell
    have hbn : b < n := HBT.out b hbm
    have hb1 : (b : Int) < (n : Int) := by omega
    have hb0 : (0 : Int) ≤ (b : Int) := by omega
    have p2 := row_num hrow hbn
    have p3 := hrow.frozenAt b
    have HS := Lib.hid (row_set (j := b) hrow 1)
    have HE := Lib.hid (oneF_snoc n pre ⟨b, hbm, hb64⟩)
    refine wpIn_block ?_
    gi_wp2
    have hne : some bx ≠ some w.heap.size := by intro e; injection e with e; omega
    exact ⟨(KeepsOthers.setCell W _ _).from _, (Below.refl _ W).setCell (p := ⟨w.heap.size, b, none⟩) (Nat.le_refl _) _, ⟨hv.kept HS.out.2 hne, by rw [← HE.out]; exact HS.out.1⟩, hB2.setCell (p := ⟨w.heap.size, b, none⟩) (Nat.le_refl _) _⟩
  case done =>
    rintro D ys W hD hys ⟨⟨v, hv, hrow, rfl⟩, hB2⟩ hK
    have hc := hv.cell
    have HY := Lib.hid (oneF_bits hys (show n ≤ 64 by omega))
    rw [HY.out] at hrow
    clear hys
    gi_wp2
    refine ⟨by simp, .inl ⟨_, _, rfl, run_takeDeferred hK, ?_⟩⟩
    refine ⟨_, results_tmp rfl _ _ _, w.heap.size, rfl, ?_, ?_⟩
    · exact ownsRow_putObj hrow (.deferred none) hK rfl
    · exact hB2.trans (belowK_b (w := W3) (by omega) W D _ _ (by omega) hK rfl rfl)
  case stop =>
    rintro D c pre W _ _ h _
    exact h.elim
theorem iDigOf (m n : Nat) (w : World) (hm : m < 68719476736) (hb : ∀ i, m.testBit i = true → i < n) (hn : n ≤ 36) (hT : Tz w) :
    Calls Tryz.prog 69 #[.int .i64 m, .int .i64 n] w fun e w' => ∃ g, e = .returned (.slice (some ⟨g, 0, none⟩) n n) ∧ w'.ownsRow w.heap.size 3 1 (.slice (some ⟨g, 0, none⟩) n n) n (iv (lstI n (bitV m))) ∧ Below w.heap.size w w' :=
  callsIn_wide.1 (iDigOf_in 3 (Nat.le_refl _) m n w hm hb hn hT)
end

section
open Go.RowKit

set_option maxHeartbeats 1000000 in
theorem iPrm (p : Int) (w : World) : Calls Tryz.prog 39 #[.int .i64 p] w fun e w' => e = .returned (.bool (prmB p)) ∧ w' = w := by
  by_cases h2 : p = 2
  · subst h2
    go_enter Tryz.func39, Tryz.ntmps39
    go_wp2
    go_ret
    exact ⟨rfl, rfl⟩
  · by_cases h3 : p = 3
    · subst h3
      go_enter Tryz.func39, Tryz.ntmps39
      go_wp2
      go_ret
      exact ⟨rfl, rfl⟩
    · have e2 : (p == 2) = false := by simpa using h2
      have e3 : (p == 3) = false := by simpa using h3
      have HP := Lib.hid (show prmB p = (p == 5) from by unfold prmB; rw [e2, e3]; rfl)
      rw [HP.out]
      go_enter Tryz.func39, Tryz.ntmps39
      go_wp2
      go_ret
      exact ⟨rfl, rfl⟩
set_option maxHeartbeats 1000000 in
theorem sPrm (p : Int) (w : World) : Calls Tryz.prog 40 #[.int .i64 p] w fun e w' => e = .returned (.bool (prmB p)) ∧ w' = w := by
  by_cases h2 : p = 2
  · subst h2
    go_enter Tryz.func40, Tryz.ntmps40
    go_wp2
    go_ret
    exact ⟨rfl, rfl⟩
  · by_cases h3 : p = 3
    · subst h3
      go_enter Tryz.func40, Tryz.ntmps40
      go_wp2
      go_ret
      exact ⟨rfl, rfl⟩
    · have e2 : (p == 2) = false := by simpa using h2
      have e3 : (p == 3) = false := by simpa using h3
      have HP := Lib.hid (show prmB p = (p == 5) from by unfold prmB; rw [e2, e3]; rfl)
      rw [HP.out]
      go_enter Tryz.func40, Tryz.ntmps40
      go_wp2
      go_ret
      exact ⟨rfl, rfl⟩

/-! ### Numbers in range -/
def inZ (p z : Int) : Bool := decide (0 ≤ z) && decide (z < p)
set_option maxHeartbeats 1000000 in
theorem iLacks (p z : Int) (w : World) : Calls Tryz.prog 122 #[.int .i64 p, .int .i64 z] w fun e w' => e = .returned (.bool (!inZ p z)) ∧ w' = w := by
  by_cases h : z < 0
  · have HP := Lib.hid (show inZ p z = false from by unfold inZ; rw [decide_eq_false (by omega)]; rfl)
    rw [HP.out]
    go_enter Tryz.func122, Tryz.ntmps122
    go_wp2
    go_ret
    exact ⟨rfl, rfl⟩
  · by_cases h2 : p ≤ z
    · have HP := Lib.hid (show inZ p z = false from by unfold inZ; rw [decide_eq_false (show ¬ z < p by omega), Bool.and_false])
      rw [HP.out]
      go_enter Tryz.func122, Tryz.ntmps122
      go_wp2
      go_ret
      refine ⟨?_, rfl⟩
      simp
    · have HP := Lib.hid (show inZ p z = true from by unfold inZ; rw [decide_eq_true (show 0 ≤ z by omega), decide_eq_true (show z < p by omega)]; rfl)
      rw [HP.out]
      go_enter Tryz.func122, Tryz.ntmps122
      go_wp2
      go_ret
      refine ⟨?_, rfl⟩
      simp

set_option maxHeartbeats 1000000 in
set_option maxRecDepth 100000 in
theorem iIdxLk (B n cap : Nat) (a : Option Addr) (ws : List Int) (p : Int) (w : World) (hn : n ≤ 4194304) (hc : IntsAt B w a n ws) (hB : B ≤ w.heap.size) :
    Calls Tryz.prog 121 #[.slice a n cap, .func (.func 122) #[.int .i64 p] #[]] w fun e w' => ∃ r : Int, e = .returned (.int .i64 r) ∧ decide (0 ≤ r) = (!inTo p ws n) ∧ Below w.heap.size w w' := by
  have H := Lib.hid hc
  clear hc
  go_enter Tryz.func121, Tryz.ntmps121
  go_wp2
  go_loopw [8] (fun i wr => ∃ k : Nat, k ≤ n ∧ i = .int .i64 k ∧ Hid (inTo p ws k = true) ∧ Below w.heap.size w wr) (fun i _ => n - (intOf i).toNat)
  case atStart => exact ⟨0, by omega, rfl, by simp [Hid, inTo, allN], Below.refl _ _⟩
  case round =>
    obtain ⟨k, hk, rfl, ho, hb⟩ := hrel
    by_cases hlt : k < n
    · have hk1 : (k : Int) < (n : Int) := by omega
      have hk0 : (0 : Int) ≤ (k : Int) := by omega
      obtain ⟨b, off, rfl, hbB, hcell⟩ := H.out.2.2 (by omega)
      have p1 := (hb.cell (p := ⟨b, off + k, none⟩) (Nat.lt_of_lt_of_le hbB hB)).trans (hcell k hlt)
      have HS := Lib.hid (inTo_step p ws k)
      have HF := Lib.hid (fun h => inTo_bad (p := p) (ws := ws) (k := k) (n := n) h (by omega))
      obtain ⟨q, hq⟩ : ∃ q, ws.getD k 0 = q := ⟨_, rfl⟩
      rw [hq] at p1 HS HF
      clear hcell hq
      go_wp2_with fail
      refine (iLacks p q wr).mono ?_
      rintro e w2 ⟨rfl, rfl⟩
      cases hs : inZ p q with
      | false =>
        have HN := Lib.hid (HF.out (fun h9 => by unfold inZ at hs; rw [decide_eq_true h9.1, decide_eq_true h9.2] at hs; cases hs))
        clear hs
        go_wp2
        go_ret
        exact ⟨_, rfl, by rw [HN.out]; simp, hb⟩
      | true =>
        have HN := Lib.hid (show inTo p ws (k + 1) = true from by rw [HS.out, ho.out]; exact hs)
        clear hs
        go_wp2
        go_roundw
        case rel => exact ⟨k + 1, by omega, by go_num, HN.out, hb⟩
        case measure => simp [intOf]; omega
    · obtain rfl : k = n := by omega
      go_wp2
      go_ret
      exact ⟨_, rfl, by rw [ho.out]; rfl, hb⟩

set_option maxHeartbeats 1000000 in
theorem iHasAll (B n cap : Nat) (a : Option Addr) (ws : List Int) (p : Int) (w : World) (hn : n ≤ 4194304) (hc : IntsAt B w a n ws) (hB : B ≤ w.heap.size) :
    Calls Tryz.prog 80 #[.int .i64 p, .slice a n cap] w fun e w' => e = .returned (.bool (inPW p ws)) ∧ Below w.heap.size w w' := by
  have H := Lib.hid hc
  have HL := Lib.hid (show inPW p ws = inTo p ws n from by unfold inPW; rw [hc.1])
  clear hc
  rw [HL.out]
  go_enter Tryz.func80, Tryz.ntmps80
  go_wp2_with (first | (go_at_call 79; go_in))
  refine (iIdxLk B n cap a ws p w hn H.out hB).mono ?_
  rintro e w1 ⟨r, rfl, hr, hb1⟩
  have HR := Lib.hid hr
  clear hr
  go_wp2
  go_ret
  refine ⟨?_, hb1⟩
  have h9 := HR.out
  cases hi : inTo p ws n <;> rw [hi] at h9 <;> simp at h9 <;> simp [h9]
end

section
open Go.RowKit

set_option maxHeartbeats 1000000 in
theorem iNeg (p z : Int) (hp : PrmI p) (h0 : 0 ≤ z) (h1 : z < p) (w : World) : Calls Tryz.prog 71 #[.int .i64 p, .int .i64 z] w fun e w' => e = .returned (.int .i64 ((p - z) % p)) ∧ w' = w := by
  have hp1 := hp.pos
  have hpn : ¬ p = 0 := by omega
  go_enter Tryz.func71, Tryz.ntmps71
  go_wp2
  go_ret
  exact ⟨rfl, rfl⟩
def powI (p x : Int) : Nat → Int
  | 0 => 1
  | k + 1 => powI p x k * x % p
theorem powI_bd {p x : Int} (hp : 1 < p) : ∀ k, 0 ≤ powI p x k ∧ powI p x k < p
  | 0 => by show 0 ≤ (1 : Int) ∧ (1 : Int) < p; omega
  | k + 1 => ⟨Int.emod_nonneg _ (by omega), Int.emod_lt_of_pos _ (by omega)⟩
theorem powI_inv {p x : Int} (hp : PrmI p) (hx : 0 < x ∧ x < p) : powI p x (p - 2).toNat = invM p x := by
  rcases hp with rfl | rfl | rfl
  · obtain rfl : x = 1 := by omega
    decide
  · have h : x = 1 ∨ x = 2 := by omega
    rcases h with rfl | rfl <;> decide
  · have h : x = 1 ∨ x = 2 ∨ x = 3 ∨ x = 4 := by omega
    rcases h with rfl | rfl | rfl | rfl <;> decide
theorem grown_dr {w w' : World} {r : Option Nat} (h : w.grownBy w' r) : w.grownBy w'.drew r := ⟨h.os, h.tape, h.output, h.size, h.block⟩
theorem mul_bdW {x y : Int} (hx : 0 ≤ x ∧ x ≤ 5) (hy : 0 ≤ y ∧ y ≤ 5) : 0 ≤ x * y ∧ x * y ≤ 25 := by
  have h1 := Int.mul_nonneg hx.1 hy.1
  have h2 : x * y ≤ 5 * y := Int.mul_le_mul_of_nonneg_right hx.2 hy.1
  omega
set_option maxHeartbeats 1000000 in
set_option maxRecDepth 100000 in
theorem iInvM (p x : Int) (hp : PrmI p) (h0 : 0 < x) (h1 : x < p) (w : World) : Calls Tryz.prog 149 #[.int .i64 p, .int .i64 x] w fun e w' => e = .returned (.int .i64 (invM p x)) ∧ w' = w := by
  have hp1 := hp.pos
  have hpn : ¬ p = 0 := by omega
  have HI := Lib.hid (powI_inv hp ⟨h0, h1⟩)
  have HB := Lib.hid (fun k => powI_bd (p := p) (x := x) (by omega) k)
  obtain ⟨t, ht⟩ : ∃ t : Nat, p - 2 = t := ⟨(p - 2).toNat, by omega⟩
  rw [show (p - 2).toNat = t by omega] at HI
  have ht3 : t ≤ 3 := by omega
  go_enter Tryz.func149, Tryz.ntmps149
  go_wp2
  go_loopw [5, 8] (fun v i wr => ∃ k : Nat, k ≤ t ∧ i = .int .i64 k ∧ v = .int .i64 (powI p x k) ∧ Hid (wr = w)) (fun _ i _ => t - (intOf i).toNat)
  case atStart => exact ⟨0, by omega, rfl, rfl, rfl⟩
  case round =>
    obtain ⟨k, hk, rfl, rfl, hw⟩ := hrel
    by_cases hlt : k < t
    · have hk1 : (k : Int) < (t : Int) := by omega
      have hk0 : (0 : Int) ≤ (k : Int) := by omega
      have hbk := HB.out k
      have hm := mul_bdW (x := powI p x k) (y := x) (by omega) (by omega)
      have HE := Lib.hid (show powI p x (k + 1) = powI p x k * x % p from rfl)
      generalize powI p x k = y at *
      go_wp2
      go_roundw
      case rel => first
        | exact ⟨k + 1, by omega, by go_num, by rw [HE.out], hw⟩
        | (repeat apply Exists.intro
           exact ⟨⟨k + 1, by omega, by go_num, by rw [HE.out], hw⟩, rfl⟩)
      case measure => first | (simp [intOf]; done) | (simp [intOf]; omega)
    · obtain rfl : k = t := by omega
      go_wp2
      go_ret
      exact ⟨by rw [HI.out]; rfl, hw.out⟩

set_option maxHeartbeats 1000000 in
set_option maxRecDepth 100000 in
theorem iMulR (B b n c : Nat) (f : Nat → Int) (p x : Int) (w : World) (hp : PrmI p) (hx : 0 ≤ x ∧ x < p) (hf : ∀ j, j < n → 0 ≤ f j ∧ f j < p) (hn : n ≤ 4194304)
    (hr : w.ownsRow B 3 1 (.slice (some ⟨b, 0, none⟩) n c) n (iv (lstI n f))) :
    Calls Tryz.prog 148 #[.int .i64 p, .slice (some ⟨b, 0, none⟩) n c, .int .i64 x] w fun e w' => e = .returned (.tuple #[]) ∧
      w'.ownsRow B 3 1 (.slice (some ⟨b, 0, none⟩) n c) n (iv (lstI n fun j => f j * x % p)) ∧ w.grownBy w' (some b) := by
  have hp1 := hp.pos
  have hpn : ¬ p = 0 := by omega
  have HR := Lib.hid hr
  have HF := Lib.hid hf
  clear hr hf
  go_enter Tryz.func148, Tryz.ntmps148
  go_wp2
  go_loopw [9] (fun i wr => ∃ k : Nat, k ≤ n ∧ i = .int .i64 k ∧ Hid (wr.ownsRow B 3 1 (.slice (some ⟨b, 0, none⟩) n c) n (iv (lstI n fun j => if j < k then f j * x % p else f j))) ∧ w.grownBy wr (some b)) (fun i _ => n - (intOf i).toNat)
  case atStart => exact ⟨0, by omega, rfl, by simpa [Hid] using HR.out, World.grownBy.refl _ _⟩
  case round =>
    obtain ⟨k, hk, rfl, hrow, hg⟩ := hrel
    by_cases hlt : k < n
    · have hk1 : (k : Int) < (n : Int) := by omega
      have hk0 : (0 : Int) ≤ (k : Int) := by omega
      have p1 := row_num hrow.out hlt
      rw [if_neg (by omega)] at p1
      have p2 := hrow.out.frozenAt k
      have hfk := HF.out k hlt
      have HS := Lib.hid (row_set (j := k) hrow.out (f k * x % p))
      have HE := Lib.hid (show lstI n (fun i => if i = k then f k * x % p else if i < k then f i * x % p else f i) = lstI n (fun j => if j < k + 1 then f j * x % p else f j) from lstI_congr fun j _ => by
        by_cases e : j = k
        · subst e; rw [if_pos rfl, if_pos (by omega)]
        · rw [if_neg e]
          by_cases e2 : j < k
          · rw [if_pos e2, if_pos (by omega)]
          · rw [if_neg e2, if_neg (by omega)])
      have hm := mul_bdW (x := f k) (y := x) (by omega) (by omega)
      generalize f k = y at p1 hfk hm HS HE
      clear hrow
      go_wp2
      go_roundw
      case rel => first
        | exact ⟨k + 1, by omega, by go_num, by rw [← HE.out]; exact HS.out.1, hg.trans HS.out.2⟩
        | (repeat apply Exists.intro
           exact ⟨⟨k + 1, by omega, by go_num, by rw [← HE.out]; exact HS.out.1, hg.trans HS.out.2⟩, rfl⟩)
      case measure => first | (simp [intOf]; done) | (simp [intOf]; omega)
    · obtain rfl : k = n := by omega
      have HE := Lib.hid (show lstI k (fun j => if j < k then f j * x % p else f j) = lstI k (fun j => f j * x % p) from lstI_congr fun j hj => if_pos hj)
      rw [HE.out] at hrow
      go_wp2
      go_end0
      exact ⟨rfl, hrow.out, hg⟩

set_option maxHeartbeats 2000000 in
set_option maxRecDepth 100000 in
theorem iAddM (B B2 b b2 n c c2 : Nat) (f g : Nat → Int) (p x : Int) (w : World) (hp : PrmI p) (hx : 0 ≤ x ∧ x < p) (hf : ∀ j, j < n → 0 ≤ f j ∧ f j < p) (hg2 : ∀ j, j < n → 0 ≤ g j ∧ g j < p) (hn : n ≤ 4194304) (hne : b2 ≠ b)
    (hr : w.ownsRow B 3 1 (.slice (some ⟨b, 0, none⟩) n c) n (iv (lstI n f))) (hr2 : w.ownsRow B2 3 1 (.slice (some ⟨b2, 0, none⟩) n c2) n (iv (lstI n g))) :
    Calls Tryz.prog 150 #[.int .i64 p, .slice (some ⟨b, 0, none⟩) n c, .slice (some ⟨b2, 0, none⟩) n c2, .int .i64 x] w fun e w' => e = .returned (.tuple #[]) ∧
      w'.ownsRow B 3 1 (.slice (some ⟨b, 0, none⟩) n c) n (iv (lstI n fun j => (f j + g j * x) % p)) ∧ w.grownBy w' (some b) := by
  have hp1 := hp.pos
  have hpn : ¬ p = 0 := by omega
  have HR := Lib.hid hr
  have HR2 := Lib.hid hr2
  have HF := Lib.hid hf
  have HG := Lib.hid hg2
  clear hr hf hr2 hg2
  go_enter Tryz.func150, Tryz.ntmps150
  go_wp2
  go_loopw [11] (fun i wr => ∃ k : Nat, k ≤ n ∧ i = .int .i64 k ∧ Hid (wr.ownsRow B 3 1 (.slice (some ⟨b, 0, none⟩) n c) n (iv (lstI n fun j => if j < k then (f j + g j * x) % p else f j))) ∧ w.grownBy wr (some b)) (fun i _ => n - (intOf i).toNat)
  case atStart => exact ⟨0, by omega, rfl, by simpa [Hid] using HR.out, World.grownBy.refl _ _⟩
  case round =>
    obtain ⟨k, hk, rfl, hrow, hg⟩ := hrel
    by_cases hlt : k < n
    · have hk1 : (k : Int) < (n : Int) := by omega
      have hk0 : (0 : Int) ≤ (k : Int) := by omega
      have p1 := row_num hrow.out hlt
      rw [if_neg (by omega)] at p1
      have p2 := hrow.out.frozenAt k
      have p3 := row_num (HR2.out.kept hg (.inr fun e => hne (by injection e))) hlt
      have hfk := HF.out k hlt
      have hgk := HG.out k hlt
      have HS := Lib.hid (row_set (j := k) hrow.out ((f k + g k * x) % p))
      have HE := Lib.hid (show lstI n (fun i => if i = k then (f k + g k * x) % p else if i < k then (f i + g i * x) % p else f i) = lstI n (fun j => if j < k + 1 then (f j + g j * x) % p else f j) from lstI_congr fun j _ => by
        by_cases e : j = k
        · subst e; rw [if_pos rfl, if_pos (by omega)]
        · rw [if_neg e]
          by_cases e2 : j < k
          · rw [if_pos e2, if_pos (by omega)]
          · rw [if_neg e2, if_neg (by omega)])
      have hm := mul_bdW (x := g k) (y := x) (by omega) (by omega)
      generalize f k = y at p1 hfk HS HE
      generalize g k = z at p3 hgk hm HS HE
      have hm2 : 0 ≤ y + z * x ∧ y + z * x ≤ 30 := by omega
      clear hrow
      go_wp2_with fail
      go_region
      go_wp2
      go_roundw
      case rel => first
        | exact ⟨k + 1, by omega, by go_num, by rw [← HE.out]; exact HS.out.1, grown_dr (hg.trans HS.out.2)⟩
        | (repeat apply Exists.intro
           exact ⟨⟨k + 1, by omega, by go_num, by rw [← HE.out]; exact HS.out.1, grown_dr (hg.trans HS.out.2)⟩, rfl⟩)
      case measure => first | (simp [intOf]; done) | (simp [intOf]; omega)
    · obtain rfl : k = n := by omega
      have HE := Lib.hid (show lstI k (fun j => if j < k then (f j + g j * x) % p else f j) = lstI k (fun j => (f j + g j * x) % p) from lstI_congr fun j hj => if_pos hj)
      rw [HE.out] at hrow
      go_wp2
      go_end0
      exact ⟨rfl, hrow.out, hg⟩
end

end Go.Proofs.YtkcclhnligajeaaGreatDoor
