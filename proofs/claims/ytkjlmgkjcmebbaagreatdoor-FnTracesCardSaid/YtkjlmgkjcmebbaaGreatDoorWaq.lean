/-
  Which numbers of places are sums of sizes, in the program: what the call gives.
  Sets of places as rows of bits, in memory; two of them compared.
  The places of a list of cells as a set, in the program: what the call gives.
  A set of shapes that a map keeps, keyed by their places: what it holds, and the laws at the operations.
  What the program keeps while it fills (masks by least places, sums of sizes, a limit, counts): made by newFilling.
-/
import Derived.Test.YtkjlmgkjcmebbaaGreatDoorWap
import Derived.Test.YtkjlmgkjcmebbaaGreatDoorWan
import Derived.Test.YtkjlmgkjcmebbaaGreatDoorWad
import Derived.Deep.WholeRow
import Derived.Laws.CopyOwn
import Derived.Test.YtkjlmgkjcmebbaaGreatDoorWab
import Derived.Test.YtkjlmgkjcmebbaaGreatDoorWah
import Derived.Test.YtkjlmgkjcmebbaaGreatDoorWaf
import Derived.Test.YtkjlmgkjcmebbaaGreatDoorWam
import Derived.Maps.OwnSet
import Derived.Maps.RangeWalk
import Derived.DeepKeys4
import Derived.WideKeyPair
import Derived.Test.YtkjlmgkjcmebbaaGreatDoorWak
namespace Go.Proofs.YtkjlmgkjcmebbaaGreatDoor

section
open Go.RowKit

def smV (f : Nat → Bool) : Array Value := ((List.range 65).map fun k => Value.bool (f k)).toArray
theorem smV_size (f : Nat → Bool) : (smV f).size = 65 := by simp [smV]
theorem smV_get (f : Nat → Bool) {k : Nat} (hk : k < 65) : (smV f)[k]? = some (.bool (f k)) := by simp [smV, hk]
theorem smV_zero : Tryz.zeroCells107 = smV fun _ => false := by kernel_rfl
theorem smV_upd (f : Nat → Bool) {k : Nat} (hk : k < 65) : (smV f).setIfInBounds k (.bool true) = smV (setB1 f k) := by
  apply Array.ext_getElem?
  intro j
  rw [Array.getElem?_setIfInBounds]
  by_cases hj : j < 65
  · rw [smV_get _ hj, smV_get _ hj, smV_size]
    unfold setB1
    by_cases e : k = j
    · subst e; simp [hk]
    · have : ¬ j = k := fun h => e h.symm
      simp [e, this]
  · have h1 : (smV f)[j]? = none := by rw [Array.getElem?_eq_none_iff, smV_size]; omega
    have h2 : (smV (setB1 f k))[j]? = none := by rw [Array.getElem?_eq_none_iff, smV_size]; omega
    rw [h1, h2]
    by_cases e : k = j
    · subst e; omega
    · simp [e]
theorem smV_one (f : Nat → Bool) : (smV f).all (·.oneCell') = true := by
  rw [Array.all_eq_true_iff_forall_mem]
  intro v hv
  simp [smV] at hv
  obtain ⟨k, _, rfl⟩ := hv
  rfl
/-- The sums in memory. -/
def SmAt (w : World) (b : Nat) (f : Nat → Bool) : Prop := w.heap[b]? = some (.cells (smV f) 107 (0, 0))
theorem SmAt.cell {w : World} {b : Nat} {f : Nat → Bool} (h : SmAt w b f) {k : Nat} (hk : k < 65) : w.cell? ⟨b, k, none⟩ = some (.bool (f k)) := (cell_of_row w b k _ _ _ h).trans (smV_get f hk)
theorem SmAt.frozen {w : World} {b : Nat} {f : Nat → Bool} (h : SmAt w b f) (k : Nat) : w.frozen? ⟨b, k, none⟩ = false := frozen_of_row w b k _ _ h
theorem SmAt.lt {w : World} {b : Nat} {f : Nat → Bool} (h : SmAt w b f) : b < w.heap.size := (Array.getElem?_eq_some_iff.1 h).1
theorem SmAt.store {w : World} {b : Nat} {f : Nat → Bool} (h : SmAt w b f) {k : Nat} (hk : k < 65) : SmAt (w.setCell ⟨b, k, none⟩ (.bool true)) b (setB1 f k) := by
  unfold SmAt
  rw [heap_setCell_same w b k _ _ _ h, smV_upd f hk]
theorem SmAt.other {w : World} {b c k : Nat} {v : Value} {f : Nat → Bool} (h : SmAt w b f) (hne : b ≠ c) : SmAt (w.setCell ⟨c, k, none⟩ v) b f := (heap_setCell_other w _ _ _ (by show b ≠ c; exact hne)).trans h
theorem SmAt.below {w w' : World} {B b : Nat} {f : Nat → Bool} (h : SmAt w b f) (hb : Below B w w') (hlt : b < B) : SmAt w' b f := (hb.block b hlt).trans h
theorem SmAt.new (w : World) (f : Nat → Bool) : SmAt (w.alloc (.cells (smV f) 107)) w.heap.size f := heap_alloc_last w _
theorem sm_size : (Tryz.prog.info? 107).map (·.size) = some 65 := by kernel_rfl

set_option maxHeartbeats 4000000 in
set_option maxRecDepth 100000 in
theorem iSums (B n cap : Nat) (a : Option Addr) (Q : List Nat) (w : World) (hn : n ≤ 4194304) (hc : IntsAt B w a n (ints Q)) (hQ : ∀ m ∈ Q, m < 68719476736) (hB : B ≤ w.heap.size) :
    Calls Tryz.prog 92 #[.slice a n cap] w fun e w' => (∃ d, e = .returned (.agg (smV d)) ∧ SumTo Q d 65) ∧ Below w.heap.size w w' := by
  have H := Lib.hid hc
  have hln := hc.1
  rw [ints_len] at hln
  have HQ := Lib.hid hQ
  clear hc hQ
  have hs1 : (w.alloc (.cells (smV fun _ => false) 107)).heap.size = w.heap.size + 1 := by simp
  have HB0 := Lib.hid (SmAt.new (w.alloc (.cells (smV fun _ => false) 107)) fun _ => false)
  have HB2 := Lib.hid (SmAt.new (w.alloc (.cells (smV fun _ => false) 107)) (setB1 (fun _ => false) 0))
  rw [hs1] at HB0 HB2
  have HR2 := Lib.hid ((SmAt.new w fun _ => false).below (B := w.heap.size + 1) ((Below.refl _ (w.alloc (.cells (smV fun _ => false) 107))).alloc (by simp) (.cells (smV (setB1 (fun _ => false) 0)) 107)) (by omega))
  have HW2 := Lib.hid (show Below w.heap.size w ((w.alloc (.cells (smV fun _ => false) 107)).alloc (.cells (smV (setB1 (fun _ => false) 0)) 107)) from ((Below.refl _ _).alloc (Nat.le_refl _) _).alloc (by simp) _)
  have hsz2 : ((w.alloc (.cells (smV fun _ => false) 107)).alloc (.cells (smV (setB1 (fun _ => false) 0)) 107)).heap.size = w.heap.size + 2 := by simp
  have c1 : ((w.alloc (.cells Tryz.zeroCells107 107)).alloc (.cells Tryz.zeroCells107 107)).cell? ⟨w.heap.size + 1, 0, none⟩ = some (.bool false) := by rw [smV_zero]; exact HB0.out.cell (k := 0) (by omega)
  have c2 : ((w.alloc (.cells Tryz.zeroCells107 107)).alloc (.cells Tryz.zeroCells107 107)).frozen? ⟨w.heap.size + 1, 0, none⟩ = false := by rw [smV_zero]; exact HB0.out.frozen 0
  clear hs1 HB0
  go_enter Tryz.func92, Tryz.ntmps92
  go_wp2
  clear c1 c2
  rw [smV_zero, smV_upd _ (by omega)]
  generalize ((w.alloc (.cells (smV fun _ => false) 107)).alloc (.cells (smV (setB1 (fun _ => false) 0)) 107)) = W2 at *
  obtain ⟨rb, hrb⟩ : ∃ rb, w.heap.size = rb := ⟨_, rfl⟩
  have HRB := Lib.hid hrb
  rw [hrb] at HB2 HR2 HW2 hsz2 hB ⊢
  go_loopw [9] (fun i wr => ∃ (p : Nat) (d : Nat → Bool), p ≤ 65 ∧ i = .int .i64 (p : Int) ∧ Hid (SmAt wr (rb + 1) d) ∧ Hid (SmAt wr rb (fun _ => false)) ∧ Hid (SumTo Q d p) ∧ Below rb w wr) (fun i _ => 65 - (intOf i).toNat)
  case atStart => exact ⟨0, _, by omega, rfl, HB2.out, HR2.out, sumTo_start Q, HW2.out⟩
  case round =>
    clear HB2 HR2 HW2 hsz2
    obtain ⟨p, d, hp, rfl, hbd, hr0, hst, hb⟩ := hrel
    by_cases hlt : p < 65
    · have hp1 : (p : Int) < 65 := by omega
      go_wp2
      go_loopw [14] (fun i wr => ∃ (k : Nat) (d : Nat → Bool), k ≤ n ∧ i = .int .i64 (k : Int) ∧ Hid (SmAt wr (rb + 1) d) ∧ Hid (SmAt wr rb (fun _ => false)) ∧ Hid (SumAt Q d p k) ∧ Below rb w wr) (fun i _ => n - (intOf i).toNat)
      case atStart => exact ⟨0, d, by omega, rfl, hbd, hr0, sumAt_start hst.out, hb⟩
      case round =>
        clear hbd hr0 hst hb
        obtain ⟨k, d, hk, rfl, hbd, hr0, hst, hb⟩ := hrel
        by_cases hkt : k < n
        · have hk1 : (k : Int) < (n : Int) := by omega
          have hk0 : (0 : Int) ≤ (k : Int) := by omega
          obtain ⟨b9, o9, rfl, hb9, hc9⟩ := (H.out.on (hb.mono hB)).2.2 (by omega)
          have p1 := hc9 k hkt
          rw [ints_get] at p1
          have hm := HQ.out (Q.getD k 0) (getD_memN (by omega))
          have HY := Lib.hid (sumAt_yes hst.out)
          have HN := Lib.hid (fun h => sumAt_no hst.out h)
          obtain ⟨m, hmm⟩ : ∃ m, Q.getD k 0 = m := ⟨_, rfl⟩
          rw [hmm] at p1 hm HN
          have hwm : IntKind.u64.wrap (m : Int) = (m : Int) := by rw [IntKind.wrap_u64]; omega
          have hpl := pop_le m
          have HO := Lib.hid (iOnes m (by omega))
          obtain ⟨s, hs⟩ : ∃ s, pop m = s := ⟨_, rfl⟩
          rw [hs] at hpl HO HN
          have hlb := hbd.out.lt
          clear hc9 hmm hs
          by_cases hsp : s ≤ p
          · obtain ⟨q, rfl⟩ : ∃ q, p = s + q := ⟨p - s, by omega⟩
            have hsub : ((s + q : Nat) : Int) - (s : Int) = (q : Int) := by omega
            have hq0 : (0 : Int) ≤ (q : Int) := by omega
            have hq1 : (q : Int) < 65 := by omega
            have hsp1 : (s : Int) ≤ ((s + q : Nat) : Int) := by omega
            have c1 := hbd.out.cell (k := q) (by omega)
            have c3 := hbd.out.cell (k := s + q) (by omega)
            have c4 := hbd.out.frozen (s + q)
            have HB4 := Lib.hid (hbd.out.store (k := s + q) (by omega))
            have HR4 := Lib.hid (hr0.out.other (c := rb + 1) (k := s + q) (v := .bool true) (by omega))
            have HW4 := Lib.hid (hb.setCell (p := ⟨rb + 1, s + q, none⟩) (by show rb ≤ rb + 1; omega) (.bool true))
            cases hdq : d q with
            | true =>
              rw [hdq] at c1
              clear HN hdq
              generalize d (s + q) = ob at *
              go_wp2_with fail
              refine (HO.out wr).mono ?_
              rintro e w2 ⟨rfl, rfl⟩
              go_wp2
              go_roundw
              case rel => first
                | exact ⟨k + 1, _, by omega, by go_num, HB4.out, HR4.out, HY.out, HW4.out⟩
                | (repeat apply Exists.intro
                   exact ⟨⟨k + 1, _, by omega, by go_num, HB4.out, HR4.out, HY.out, HW4.out⟩, rfl⟩)
              case measure => simp [intOf]; omega
            | false =>
              rw [hdq] at c1
              have HN2 := Lib.hid (HN.out (fun _ => by rw [show s + q - s = q by omega]; exact hdq))
              clear HN hdq HB4 HR4 HW4 c3 c4 HY
              go_wp2_with fail
              refine (HO.out wr).mono ?_
              rintro e w2 ⟨rfl, rfl⟩
              go_wp2
              go_roundw
              case rel => first
                | exact ⟨k + 1, d, by omega, by go_num, hbd, hr0, HN2.out, hb⟩
                | (repeat apply Exists.intro
                   exact ⟨⟨k + 1, d, by omega, by go_num, hbd, hr0, HN2.out, hb⟩, rfl⟩)
              case measure => simp [intOf]; omega
          · have hsp1 : ¬ (s : Int) ≤ (p : Int) := by omega
            have HN2 := Lib.hid (HN.out (fun h => absurd h hsp))
            clear HN HY
            go_wp2_with fail
            refine (HO.out wr).mono ?_
            rintro e w2 ⟨rfl, rfl⟩
            go_wp2
            go_roundw
            case rel => first
              | exact ⟨k + 1, d, by omega, by go_num, hbd, hr0, HN2.out, hb⟩
              | (repeat apply Exists.intro
                 exact ⟨⟨k + 1, d, by omega, by go_num, hbd, hr0, HN2.out, hb⟩, rfl⟩)
            case measure => simp [intOf]; omega
        · obtain rfl : k = n := by omega
          have HE := Lib.hid (show SumTo Q d (p + 1) from sumAt_end (by rw [hln]; exact hst.out))
          clear hst
          go_wp2
          go_roundw
          case rel => first
            | exact ⟨p + 1, d, by omega, by go_num, hbd, hr0, HE.out, hb⟩
            | (repeat apply Exists.intro
               exact ⟨⟨p + 1, d, by omega, by go_num, hbd, hr0, HE.out, hb⟩, rfl⟩)
          case measure => simp [intOf]; omega
    · obtain rfl : p = 65 := by omega
      have hi1 : (Tryz.prog.info? 107).map (·.size) = some (smV d).size := by rw [smV_size]; exact sm_size
      have HI := Lib.hid hi1
      have HWF := Lib.hid (below_setRow hb (Nat.le_refl _) (smV d))
      have HRF := Lib.hid (setRow_heap wr rb _ (smV d) _ _ hr0.out)
      have HST := Lib.hid hst.out
      clear hi1 hst
      go_wp2_with (first
        | (refine wpList_load_row rfl 107 _ rfl (rb + 1) rfl 107 (smV d) (0, 0) _ hbd.out Tryz.underlying107 rfl HI.out ?_)
        | (refine wpList_store_row rfl 107 _ _ rfl rb (smV d) rfl rfl 107 (smV fun _ => false) hr0.out HI.out (by rw [smV_size, smV_size]) (smV_one _) ?_)
        | go_in)
      exact bodyPost_ret (v := .agg (smV d)) (results_cell_row Tryz.results92 _ _ rb 107 (smV d) (0, 0) _ rfl HRF.out Tryz.underlying107 rfl HI.out) rfl ⟨⟨d, rfl, HST.out⟩, by rw [HRB.out]; exact HWF.out⟩
end

section
open Go.RowKit

theorem int_size : ∀ w, (Go.sizeOf 3).run Tryz.prog w = .ok 1 w := Tryz.sizeOf3
/-- A set of places as a value: rows 0 to 7. -/
def setV (R : Nat → Nat) : Value := .agg #[.int .i64 (R 0), .int .i64 (R 1), .int .i64 (R 2), .int .i64 (R 3), .int .i64 (R 4), .int .i64 (R 5), .int .i64 (R 6), .int .i64 (R 7)]
def sameR (R T : Nat → Nat) : Bool := R 0 == T 0 && (R 1 == T 1 && (R 2 == T 2 && (R 3 == T 3 && (R 4 == T 4 && (R 5 == T 5 && (R 6 == T 6 && R 7 == T 7))))))
theorem sameR_iff (R T : Nat → Nat) : sameR R T = true ↔ ∀ y, y < 8 → R y = T y := by
  unfold sameR
  simp only [Bool.and_eq_true, beq_iff_eq]
  constructor
  · rintro ⟨h0, h1, h2, h3, h4, h5, h6, h7⟩ y hy
    match y, hy with
    | 0, _ => exact h0
    | 1, _ => exact h1
    | 2, _ => exact h2
    | 3, _ => exact h3
    | 4, _ => exact h4
    | 5, _ => exact h5
    | 6, _ => exact h6
    | 7, _ => exact h7
  · intro h
    exact ⟨h 0 (by omega), h 1 (by omega), h 2 (by omega), h 3 (by omega), h 4 (by omega), h 5 (by omega), h 6 (by omega), h 7 (by omega)⟩

theorem eq_nat (a b : Nat) (w : World) : (Op.equalIn 9999 3 (.int .i64 a) (.int .i64 b)).run Tryz.prog w = .ok (a == b) w := by
  rw [run_equalIn_int w 9998 3 .i64 .i64 _ _ int_plain]
  have e : ((a : Int) == (b : Int)) = (a == b) := by
    rw [Bool.eq_iff_iff, beq_iff_eq, beq_iff_eq]
    omega
  rw [e]

def updR (R : Nat → Nat) (y v : Nat) : Nat → Nat := fun t => if t = y then v else R t
theorem new_arr {w : World} {N : Nat} (o : Obj) (h : w.heap.size = N) : (w.alloc o).heap[N]? = some o := by subst h; exact heap_alloc_new _ _
theorem setV_congr {R T : Nat → Nat} (e : ∀ y, y < 8 → R y = T y) : setV R = setV T := by
  unfold setV
  rw [e 0 (by omega), e 1 (by omega), e 2 (by omega), e 3 (by omega), e 4 (by omega), e 5 (by omega), e 6 (by omega), e 7 (by omega)]
/-- All eight rows written. -/
def sets8 (w : World) (g : Nat) (T : Nat → Nat) : World := (((((((w.setCell ⟨g, 0, none⟩ (.int .i64 (T 0))).setCell ⟨g, 1, none⟩ (.int .i64 (T 1))).setCell ⟨g, 2, none⟩ (.int .i64 (T 2))).setCell ⟨g, 3, none⟩ (.int .i64 (T 3))).setCell ⟨g, 4, none⟩ (.int .i64 (T 4))).setCell ⟨g, 5, none⟩ (.int .i64 (T 5))).setCell ⟨g, 6, none⟩ (.int .i64 (T 6))).setCell ⟨g, 7, none⟩ (.int .i64 (T 7))
theorem below_set8 {B g : Nat} {a w : World} (hg : B ≤ g) (T : Nat → Nat) (h : Below B a w) : Below B a (sets8 w g T) :=
  (((((((h.setCell (p := ⟨g, 0, none⟩) hg _).setCell (p := ⟨g, 1, none⟩) hg _).setCell (p := ⟨g, 2, none⟩) hg _).setCell (p := ⟨g, 3, none⟩) hg _).setCell (p := ⟨g, 4, none⟩) hg _).setCell (p := ⟨g, 5, none⟩) hg _).setCell (p := ⟨g, 6, none⟩) hg _).setCell (p := ⟨g, 7, none⟩) hg _
end

section
open Go.RowKit

theorem two_pow_int (x : Nat) : (2 : Int) ^ x = ((2 ^ x : Nat) : Int) := by rw [Int.natCast_pow]; rfl
theorem or_bit (r x : Nat) (hr : r < 256) (hx : x ≤ 7) : bits .or .i64 (r : Int) (wrap64 (2 ^ x)) = ((r ||| 2 ^ x : Nat) : Int) := by
  have h1 : 2 ^ x ≤ 2 ^ 7 := Nat.pow_le_pow_right (by omega) hx
  rw [two_pow_int]
  generalize 2 ^ x = p at h1 ⊢
  rw [IntWalk.wrap64_in _ (by omega), i64_or_nat _ _ (by omega) (by omega)]
end

section
open Go.RowKit Go.Maps Go.ChangeMaps Go.MapKept
open Go.WideElems (Fit rd rg pl rd_val)

theorem ps_laid : laidOutB Tryz.prog = true := by kernel_rfl
theorem keyOf_eight {P : Program} {k e : TypeId} {q : IntKind} (A : WideMaps.ArrKey P k e 8) (he : P.underlying e = some (.int q)) (hsz : ∃ m, P.types.size = m + 1) {a b c d a' b' c' d' : Int}
    (h1 : (Lit.int q a).wf = true) (h2 : (Lit.int q b).wf = true) (h3 : (Lit.int q c).wf = true) (h4 : (Lit.int q d).wf = true) (h5 : (Lit.int q a').wf = true) (h6 : (Lit.int q b').wf = true) (h7 : (Lit.int q c').wf = true) (h8 : (Lit.int q d').wf = true) :
    keyOf P k (.agg #[.int q a, .int q b, .int q c, .int q d, .int q a', .int q b', .int q c', .int q d']) = some (.string (keyBytes [.int q a, .int q b, .int q c, .int q d, .int q a', .int q b', .int q c', .int q d'])) := by
  have hkt := A.keyType hsz
  obtain ⟨m, hm⟩ := hsz
  unfold keyOf
  simp only [A.hu]
  rw [if_pos (by simp [hkt, Value.formed, A.hu, A.size]), hm]
  unfold Program.keyLits
  simp only [A.hu, Value.cells]
  rw [if_pos (by rw [A.size]; rfl), show List.range 8 = [0, 1, 2, 3, 4, 5, 6, 7] from rfl]
  simp only [List.mapM_cons, List.mapM_nil]
  simp [A.one, Program.keyLits, he, h1, h2, h3, h4, h5, h6, h7, h8]
theorem wf_row {r : Nat} (h : r < 256) : (Lit.int .i64 (r : Int)).wf = true := by
  simp only [Lit.wf, Bool.and_eq_true, decide_eq_true_eq]
  constructor
  · have : (IntKind.i64.min : Int) ≤ 0 := by decide
    omega
  · have : (256 : Int) ≤ IntKind.i64.max := by decide
    omega
theorem setV_inj {R T : Nat → Nat} (h : setV R = setV T) : ∀ y, y < 8 → R y = T y := by
  unfold setV at h
  simp at h
  obtain ⟨h0, h1, h2, h3, h4, h5, h6, h7⟩ := h
  intro y hy
  have : y = 0 ∨ y = 1 ∨ y = 2 ∨ y = 3 ∨ y = 4 ∨ y = 5 ∨ y = 6 ∨ y = 7 := by omega
  rcases this with rfl | rfl | rfl | rfl | rfl | rfl | rfl | rfl <;> omega
/-- How the map's elements read. -/
noncomputable abbrev RB : Value → Option (DataW Nat × List MemPlace) := plainElem Tryz.prog 4

/-- Of what was below B nothing has turned but block b. -/
structure But (B b : Nat) (w w' : World) : Prop where
  os : w'.os = w.os
  tape : w'.tape = w.tape
  output : w'.output = w.output
  size : w.heap.size ≤ w'.heap.size
  block : ∀ k, k < B → k ≠ b → w'.heap[k]? = w.heap[k]?
theorem But.refl (B b : Nat) (w : World) : But B b w w := ⟨rfl, rfl, rfl, Nat.le_refl _, fun _ _ _ => rfl⟩
theorem But.trans {B b : Nat} {x y z : World} (h : But B b x y) (k : But B b y z) : But B b x z :=
  ⟨k.os.trans h.os, k.tape.trans h.tape, k.output.trans h.output, Nat.le_trans h.size k.size, fun i hi hne => (k.block i hi hne).trans (h.block i hi hne)⟩
theorem But.mono {B B' b : Nat} {w w' : World} (h : But B b w w') (hB : B' ≤ B) : But B' b w w' := ⟨h.os, h.tape, h.output, h.size, fun k hk => h.block k (Nat.lt_of_lt_of_le hk hB)⟩
theorem But.of_below {B b : Nat} {w w' : World} (h : Below B w w') : But B b w w' := ⟨h.os, h.tape, h.output, h.size, fun k hk _ => h.block k hk⟩
theorem But.below {B b : Nat} {w w' : World} (h : But B b w w') {B' : Nat} (h1 : B' ≤ B) (h2 : B' ≤ b) : Below B' w w' := ⟨h.os, h.tape, h.output, h.size, fun k hk => h.block k (by omega) (by omega)⟩
theorem But.grown {b : Nat} {w w' : World} (h : But w.heap.size b w w') : w.grownBy w' (some b) := ⟨h.os, h.tape, h.output, h.size, fun k hk hne => h.block k hk fun e => hne (by rw [e])⟩
theorem But.of_grown {B b : Nat} {w w' : World} (h : w.grownBy w' (some b)) (hB : B ≤ w.heap.size) : But B b w w' := ⟨h.os, h.tape, h.output, h.size, fun k hk hne => h.block k (by omega) fun e => hne (by injection e)⟩
theorem But.alloc {B b : Nat} {x w : World} (h : But B b x w) (hB : B ≤ w.heap.size) (o : Obj) : But B b x (w.alloc o) := h.trans (.of_below ((Below.refl B w).alloc hB o))
theorem But.setCell {B b : Nat} {x w : World} (h : But B b x w) {p : Addr} (hp : B ≤ p.block) (v : Value) : But B b x (w.setCell p v) := h.trans (.of_below ((Below.refl B w).setCell hp v))
theorem But.drew {B b : Nat} {x w : World} (h : But B b x w) : But B b x w.drew := ⟨h.os, h.tape, h.output, h.size, h.block⟩
theorem CellsAt.but {B b n : Nat} {w w' : World} {a : Option Addr} {l : List Cl} (h : CellsAt B w a n l) (hk : But B b w w') (hoff : ∀ q, a = some q → q.block ≠ b) : CellsAt B w' a n l := by
  obtain ⟨h1, h2, h3⟩ := h
  refine ⟨h1, h2, fun hn => ?_⟩
  obtain ⟨g, off, e, hlt, hc⟩ := h3 hn
  refine ⟨g, off, e, hlt, fun k hk2 => ?_⟩
  have hb : w'.heap[g]? = w.heap[g]? := hk.block g hlt (hoff _ e)
  rw [World.cell?_of_block (a := ⟨g, off + k * 2, none⟩) hb, World.cell?_of_block (a := ⟨g, off + k * 2 + 1, none⟩) hb]
  exact hc k hk2
theorem OwnS.but {B b : Nat} {w w' : World} {v : Value} {es : List Ent} (h : OwnS B w v es) (hk : But w.heap.size b w w') (h1 : v.ownBlock ≠ some b) (h2 : OffS b es) : OwnS B w' v es :=
  ⟨h.row.kept hk.grown (.inr h1), h.each.by hk.grown h2, h.apart, h.off⟩

/-! ### At the operations -/
theorem OwnS.by2 {B q : Nat} {w w' : World} {v : Value} {es : List Ent} (h : OwnS B w v es) (hg : w.grownBy w' (some q)) (h1 : v.ownBlock ≠ some q) (h2 : OffS q es) : OwnS B w' v es :=
  ⟨h.row.kept hg (.inr h1), h.each.by hg h2, h.apart, h.off⟩

theorem bool_inv {P : Program} {e : TypeId} (he : P.underlying e = some .bool) {v : Value} {z : DataW Nat × List MemPlace} (h : plainElem P e v = some z) : ∃ c, v = .bool c := by
  unfold plainElem at h
  rw [he] at h
  cases v <;> simp at h
  exact ⟨_, rfl⟩
end

section
open Go.RowKit Go.Maps Go.ChangeMaps Go.MapKept

def filL (rows : Nat → Value) (d : Nat → Bool) (L : Int) (mb : Nat) : List Value :=
  (List.range 64).map rows ++ ((List.range 65).map (fun k => Value.bool (d k)) ++ [.int .i64 L, .map (some mb)])
def filV (rows : Nat → Value) (d : Nat → Bool) (L : Int) (mb : Nat) : Array Value := (filL rows d L mb).toArray
theorem filV_size (rows : Nat → Value) (d : Nat → Bool) (L : Int) (mb : Nat) : (filV rows d L mb).size = 131 := by simp [filV, filL]
theorem filV_get (rows : Nat → Value) (d : Nat → Bool) (L : Int) (mb : Nat) (k : Nat) : (filV rows d L mb)[k]? = if k < 64 then some (rows k) else if k < 129 then some (.bool (d (k - 64))) else if k = 129 then some (.int .i64 L) else if k = 130 then some (.map (some mb)) else none := by
  unfold filV filL
  rw [List.getElem?_toArray]
  by_cases h1 : k < 64
  · rw [if_pos h1, List.getElem?_append_left (by simp; omega)]
    simp [h1]
  · rw [if_neg h1, List.getElem?_append_right (by simp; omega)]
    by_cases h2 : k < 129
    · rw [if_pos h2, List.getElem?_append_left (by simp; omega), List.getElem?_map, List.length_map, List.length_range, List.getElem?_range (by omega)]
      rfl
    · rw [if_neg h2, List.getElem?_append_right (by simp; omega)]
      simp only [List.length_map, List.length_range]
      by_cases h3 : k = 129
      · subst h3; simp
      · rw [if_neg h3]
        by_cases h4 : k = 130
        · subst h4; simp
        · rw [if_neg h4]
          obtain ⟨j, rfl⟩ : ∃ j, k = j + 131 := ⟨k - 131, by omega⟩
          rw [show j + 131 - 64 - 65 = j + 2 by omega]
          rfl
def setV1 (rows : Nat → Value) (k : Nat) (v : Value) : Nat → Value := fun j => if j = k then v else rows j
theorem filV_upd (rows : Nat → Value) (d : Nat → Bool) (L : Int) (mb : Nat) {k : Nat} (hk : k < 64) (v : Value) : (filV rows d L mb).setIfInBounds k v = filV (setV1 rows k v) d L mb := by
  apply Array.ext_getElem?
  intro j
  rw [Array.getElem?_setIfInBounds, filV_get, filV_get, filV_size]
  unfold setV1
  by_cases e : k = j
  · subst e
    rw [if_pos rfl, if_pos (by omega), if_pos hk, if_pos rfl]
  · rw [if_neg e]
    by_cases hj : j < 64
    · rw [if_pos hj, if_pos hj, if_neg (fun h => e h.symm)]
    · rw [if_neg hj, if_neg hj]
/-- The masks by their least places, as a value: 64 rows. -/
def gpV (rows : Nat → Value) : Array Value := ((List.range 64).map rows).toArray
theorem gpV_size (rows : Nat → Value) : (gpV rows).size = 64 := by simp [gpV]
theorem gpV_get (rows : Nat → Value) {k : Nat} (hk : k < 64) : (gpV rows)[k]? = some (rows k) := by simp [gpV, hk]
theorem gpV_zero : (#[.slice none 0 0, .slice none 0 0, .slice none 0 0, .slice none 0 0, .slice none 0 0, .slice none 0 0, .slice none 0 0, .slice none 0 0, .slice none 0 0, .slice none 0 0, .slice none 0 0, .slice none 0 0, .slice none 0 0, .slice none 0 0, .slice none 0 0, .slice none 0 0, .slice none 0 0, .slice none 0 0, .slice none 0 0, .slice none 0 0, .slice none 0 0, .slice none 0 0, .slice none 0 0, .slice none 0 0, .slice none 0 0, .slice none 0 0, .slice none 0 0, .slice none 0 0, .slice none 0 0, .slice none 0 0, .slice none 0 0, .slice none 0 0, .slice none 0 0, .slice none 0 0, .slice none 0 0, .slice none 0 0, .slice none 0 0, .slice none 0 0, .slice none 0 0, .slice none 0 0, .slice none 0 0, .slice none 0 0, .slice none 0 0, .slice none 0 0, .slice none 0 0, .slice none 0 0, .slice none 0 0, .slice none 0 0, .slice none 0 0, .slice none 0 0, .slice none 0 0, .slice none 0 0, .slice none 0 0, .slice none 0 0, .slice none 0 0, .slice none 0 0, .slice none 0 0, .slice none 0 0, .slice none 0 0, .slice none 0 0, .slice none 0 0, .slice none 0 0, .slice none 0 0, .slice none 0 0] : Array Value) = gpV fun _ => .slice none 0 0 := by kernel_rfl
theorem gpV_upd (rows : Nat → Value) {k : Nat} (hk : k < 64) (v : Value) : (gpV rows).setIfInBounds k v = gpV (setV1 rows k v) := by
  apply Array.ext_getElem?
  intro j
  rw [Array.getElem?_setIfInBounds]
  by_cases hj : j < 64
  · rw [gpV_get _ hj, gpV_get _ hj, gpV_size]
    unfold setV1
    by_cases e : k = j
    · subst e; simp [hk]
    · have : ¬ j = k := fun h => e h.symm
      simp [e, this]
  · have h1 : (gpV rows)[j]? = none := by rw [Array.getElem?_eq_none_iff, gpV_size]; omega
    have h2 : (gpV (setV1 rows k v))[j]? = none := by rw [Array.getElem?_eq_none_iff, gpV_size]; omega
    rw [h1, h2]
    by_cases e : k = j
    · subst e; omega
    · simp [e]
theorem gpV_one {rows : Nat → Value} (h : ∀ k, k < 64 → (rows k).oneCell' = true) : (gpV rows).all (·.oneCell') = true := by
  rw [Array.all_eq_true_iff_forall_mem]
  intro v hv
  simp [gpV] at hv
  obtain ⟨k, hk, rfl⟩ := hv
  exact h k hk
/-- A block that holds them. -/
def GpAt (w : World) (b : Nat) (rows : Nat → Value) : Prop := w.heap[b]? = some (.cells (gpV rows) 105 (0, 0))
section
variable {w w' : World} {B b c k : Nat} {rows : Nat → Value} {v : Value}
theorem GpAt.row (h : GpAt w b rows) (hk : k < 64) : w.cell? ⟨b, k, none⟩ = some (rows k) := (cell_of_row w b k _ _ _ h).trans (gpV_get rows hk)
theorem GpAt.frozen (h : GpAt w b rows) (k : Nat) : w.frozen? ⟨b, k, none⟩ = false := frozen_of_row w b k _ _ h
theorem GpAt.lt (h : GpAt w b rows) : b < w.heap.size := (Array.getElem?_eq_some_iff.1 h).1
theorem GpAt.same (h : GpAt w b rows) (e : w'.heap[b]? = w.heap[b]?) : GpAt w' b rows := e.trans h
theorem GpAt.by {r : Option Nat} (h : GpAt w b rows) (hg : w.grownBy w' r) (hne : some b ≠ r) : GpAt w' b rows := h.same (hg.block b h.lt hne)
theorem GpAt.on (h : GpAt w b rows) (hb : Below B w w') (hlt : b < B) : GpAt w' b rows := h.same (hb.block b hlt)
theorem GpAt.set (h : GpAt w b rows) (hk : k < 64) (v : Value) : GpAt (w.setCell ⟨b, k, none⟩ v) b (setV1 rows k v) := by
  unfold GpAt
  rw [heap_setCell_same w b k _ _ _ h, gpV_upd _ hk]
theorem GpAt.other (h : GpAt w b rows) (hne : b ≠ c) : GpAt (w.setCell ⟨c, k, none⟩ v) b rows := (heap_setCell_other w _ _ _ (by show b ≠ c; exact hne)).trans h
theorem GpAt.new (w : World) (rows : Nat → Value) : GpAt (w.alloc (.cells (gpV rows) 105)) w.heap.size rows := heap_alloc_last w _
end
theorem gp_size : (Tryz.prog.info? 105).map (·.size) = some 64 := by kernel_rfl
theorem grown_setRow (w : World) (g : Nat) (cs : Array Value) : w.grownBy (w.setRow g cs) (some g) := ⟨rfl, rfl, rfl, by simp [World.setRow], fun k _ hne => setRow_other w g k cs (fun e => hne (by rw [e]))⟩
theorem fil_built (rows : Nat → Value) (d : Nat → Bool) (L : Int) (mb : Nat) : Tryz.prog.built 111 [(0, .agg (gpV rows)), (1, .agg (smV d)), (2, .int .i64 L), (3, .map (some mb))] = some (filV rows d L mb) := by kernel_rfl
/-- The filling's block. -/
def FilAt (w : World) (g : Nat) (rows : Nat → Value) (d : Nat → Bool) (L : Int) (mb : Nat) : Prop := w.heap[g]? = some (.cells (filV rows d L mb) 111 (0, 0))
section
variable {w w' : World} {B g k mb : Nat} {rows : Nat → Value} {d : Nat → Bool} {L : Int}
theorem FilAt.row (h : FilAt w g rows d L mb) (hk : k < 64) : w.cell? ⟨g, k, none⟩ = some (rows k) := by
  rw [cell_of_row w g k _ _ _ h, filV_get, if_pos hk]
theorem FilAt.sum (h : FilAt w g rows d L mb) (hk : k < 65) : w.cell? ⟨g, 64 + k, none⟩ = some (.bool (d k)) := by
  rw [cell_of_row w g _ _ _ _ h, filV_get, if_neg (by omega), if_pos (by omega), show 64 + k - 64 = k by omega]
theorem FilAt.limit (h : FilAt w g rows d L mb) : w.cell? ⟨g, 129, none⟩ = some (.int .i64 L) := by
  rw [cell_of_row w g _ _ _ _ h, filV_get]
  rfl
theorem FilAt.map (h : FilAt w g rows d L mb) : w.cell? ⟨g, 130, none⟩ = some (.map (some mb)) := by
  rw [cell_of_row w g _ _ _ _ h, filV_get]
  rfl
theorem FilAt.frozen (h : FilAt w g rows d L mb) (k : Nat) : w.frozen? ⟨g, k, none⟩ = false := frozen_of_row w g k _ _ h
theorem FilAt.lt (h : FilAt w g rows d L mb) : g < w.heap.size := (Array.getElem?_eq_some_iff.1 h).1
theorem FilAt.same (h : FilAt w g rows d L mb) (e : w'.heap[g]? = w.heap[g]?) : FilAt w' g rows d L mb := e.trans h
theorem FilAt.by {r : Option Nat} (h : FilAt w g rows d L mb) (hg : w.grownBy w' r) (hne : some g ≠ r) : FilAt w' g rows d L mb := h.same (hg.block g h.lt hne)
theorem FilAt.on (h : FilAt w g rows d L mb) (hb : Below B w w') (hlt : g < B) : FilAt w' g rows d L mb := h.same (hb.block g hlt)
theorem FilAt.set (h : FilAt w g rows d L mb) (hk : k < 64) (v : Value) : FilAt (w.setCell ⟨g, k, none⟩ v) g (setV1 rows k v) d L mb := by
  unfold FilAt
  rw [heap_setCell_same w g k _ _ _ h, filV_upd _ _ _ _ hk]
end
/-- The masks, by their least places: each place has a row of the call's own. -/
structure GrpAt (B : Nat) (w : World) (g : Nat) (rows : Nat → Value) (Q : List Nat) : Prop where
  each : ∀ k, k < 64 → w.ownsRow B 3 1 (rows k) (grpB Q k).length (iv (ints (grpB Q k)))
  off : ∀ k, k < 64 → (rows k).ownBlock ≠ some g
  apart : ∀ k j, k < 64 → j < 64 → k ≠ j → ∀ b, (rows k).ownBlock = some b → (rows j).ownBlock ≠ some b
theorem GrpAt.by {B : Nat} {w w' : World} {g : Nat} {rows : Nat → Value} {Q : List Nat} {r : Option Nat} (h : GrpAt B w g rows Q) (hg : w.grownBy w' r) (hne : ∀ k, k < 64 → ∀ b, (rows k).ownBlock = some b → r ≠ some b) : GrpAt B w' g rows Q :=
  ⟨fun k hk => (h.each k hk).kept hg (by
    cases e : (rows k).ownBlock with
    | none => exact .inl rfl
    | some b => exact .inr fun e2 => hne k hk b e e2.symm), h.off, h.apart⟩
theorem grpB_snoc (Q : List Nat) (i k : Nat) (h : i < Q.length) : grpB (Q.take (i + 1)) k = grpB (Q.take i) k ++ (if lowB (Q.getD i 0) = k then [Q.getD i 0] else []) := by
  unfold grpB
  rw [take_one h 0, List.filter_append, List.filter_cons]
  by_cases e : lowB (Q.getD i 0) = k
  · rw [if_pos e, if_pos (by simpa using e)]
    rfl
  · rw [if_neg e, if_neg (by simpa using e)]
    rfl
theorem grpB_len (Q : List Nat) (k : Nat) : (grpB Q k).length ≤ Q.length := List.length_filter_le _ _
theorem ints_snoc (Q : List Nat) (m : Nat) : iv (ints (Q ++ [m])) = iv (ints Q) ++ iv [(m : Int)] := by simp [iv, ints]
/-- One mask more in its row. -/
theorem GrpAt.put {B : Nat} {w w' : World} {g gg c : Nat} {rows : Nat → Value} {Q Q' : List Nat} {k m : Nat} (h : GrpAt B w g rows Q) (hk : k < 64) (hQ : ∀ j, grpB Q' j = grpB Q j ++ (if k = j then [m] else []))
    (hnew : w'.ownsRow B 3 1 (.slice (some ⟨gg, 0, none⟩) ((grpB Q k).length + 1) c) ((grpB Q k).length + 1) (iv (ints (grpB Q k)) ++ iv [(m : Int)]))
    (hg : w.grownBy w' (rows k).ownBlock) (hat : (rows k).ownBlock = some gg ∨ w.heap.size ≤ gg) (hgl : g < w.heap.size) :
    GrpAt B w' g (setV1 rows k (.slice (some ⟨gg, 0, none⟩) ((grpB Q k).length + 1) c)) Q' := by
  have hlt : ∀ j, j < 64 → ∀ b, (rows j).ownBlock = some b → b < w.heap.size := fun j hj b hb => ((h.each j hj).lt b hb).2
  refine ⟨fun j hj => ?_, fun j hj => ?_, fun i j hi hj hij b hb => ?_⟩
  · unfold setV1
    rw [hQ j]
    by_cases e : j = k
    · subst e
      rw [if_pos rfl, if_pos rfl, List.length_append, ints_snoc]
      exact hnew
    · rw [if_neg e, if_neg (fun h => e h.symm), List.append_nil]
      refine (h.each j hj).kept hg ?_
      cases e2 : (rows j).ownBlock with
      | none => exact .inl rfl
      | some b => exact .inr fun e3 => h.apart j k hj hk e b e2 e3.symm
  · unfold setV1
    split
    · intro e
      have e2 : gg = g := by injection e
      subst e2
      rcases hat with h1 | h1
      · exact h.off k hk h1
      · omega
    · exact h.off j hj
  · unfold setV1 at hb ⊢
    by_cases e1 : i = k
    · subst e1
      rw [if_pos rfl] at hb
      have e3 : gg = b := by injection hb
      subst e3
      rw [if_neg (fun h => hij h.symm)]
      intro e4
      rcases hat with h1 | h1
      · exact h.apart i j hi hj hij gg h1 e4
      · have := hlt j hj gg e4
        omega
    · rw [if_neg e1] at hb
      by_cases e2 : j = k
      · subst e2
        rw [if_pos rfl]
        intro e4
        have e3 : gg = b := by injection e4
        subst e3
        rcases hat with h1 | h1
        · exact h.apart i j hi hj hij gg hb h1
        · have := hlt i hi gg hb
          omega
      · rw [if_neg e2]
        exact h.apart i j hi hj hij b hb
theorem GrpAt.to {B : Nat} {w : World} {g g2 : Nat} {rows : Nat → Value} {Q : List Nat} (h : GrpAt B w g rows Q) (h2 : ∀ k, k < 64 → (rows k).ownBlock ≠ some g2) : GrpAt B w g2 rows Q := ⟨h.each, h2, h.apart⟩
theorem GrpAt.to_new {B : Nat} {w : World} {g g2 : Nat} {rows : Nat → Value} {Q : List Nat} (h : GrpAt B w g rows Q) (h2 : w.heap.size ≤ g2) : GrpAt B w g2 rows Q :=
  h.to fun k hk e => by have := ((h.each k hk).lt g2 e).2; omega
theorem GrpAt.one {B : Nat} {w : World} {g : Nat} {rows : Nat → Value} {Q : List Nat} (h : GrpAt B w g rows Q) : ∀ k, k < 64 → (rows k).oneCell' = true := by
  intro k hk
  rcases (h.each k hk).2 with ⟨e, _⟩ | ⟨g9, c9, cur, e, _⟩ <;> (rw [e]; rfl)
theorem GrpAt.nil (B : Nat) (w : World) (g : Nat) : GrpAt B w g (fun _ => .slice none 0 0) [] :=
  ⟨fun k _ => ⟨rfl, .inl ⟨rfl, rfl⟩⟩, fun k _ e => (by cases e), fun k j _ _ _ b e => (by cases e)⟩
end

end Go.Proofs.YtkjlmgkjcmebbaaGreatDoor
