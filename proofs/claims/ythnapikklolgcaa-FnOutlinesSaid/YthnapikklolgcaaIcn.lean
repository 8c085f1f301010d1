/-
  Do the cells of a shape hang together, in the program: what the call gives.
-/
import Derived.Test.YthnapikklolgcaaIrc
import Derived.Test.YthnapikklolgcaaIan
namespace Go.Proofs.Ythnapikklolgcaa
open Go.RowKit

theorem ends_one {l : List Cl} (h : ∀ c ∈ l, inP c = true) {R T : Nat → Nat} (g1 : Got l R) (f1 : ∀ y, y < 8 → nextR R (allR l) y = R y) (g2 : Got l T) (f2 : ∀ y, y < 8 → nextR T (allR l) y = T y) : ∀ y, y < 8 → R y = T y := by
  intro y hy
  apply Nat.eq_of_testBit_eq
  intro x
  rw [Bool.eq_iff_iff]
  constructor
  · intro hb
    have := (g2.closed h f2 _ (g1.sound x y hy hb).1).2.2.2
    simpa using this
  · intro hb
    have := (g1.closed h f1 _ (g2.sound x y hy hb).1).2.2.2
    simpa using this
/-- The set that has been got in the end. -/
noncomputable def endR (l : List Cl) : Nat → Nat :=
  @dite _ (∃ R : Nat → Nat, Got l R ∧ ∀ y, y < 8 → nextR R (allR l) y = R y) (Classical.propDecidable _) (fun h => Classical.choose h) (fun _ _ => 0)
theorem endR_spec {l : List Cl} (h : ∃ R : Nat → Nat, Got l R ∧ ∀ y, y < 8 → nextR R (allR l) y = R y) : Got l (endR l) ∧ ∀ y, y < 8 → nextR (endR l) (allR l) y = endR l y := by
  unfold endR
  rw [dif_pos h]
  exact Classical.choose_spec h
/-- What the call gives, and what it says. -/
theorem iReach2 (l : List Cl) (hin : ∀ c ∈ l, inP c = true) (hl : 0 < l.length) (R A : Nat → Nat) (hA : allR l = A) (hg : Got l R) (w : World) :
    Calls Try.prog 105 #[setV R, setV A] w fun e w' => e = .returned (setV (endR l)) ∧ (sameR (endR l) A = true ↔ AllRch l) ∧ Below w.heap.size w w' := by
  subst hA
  refine (iReach l hin hl R hg w).mono ?_
  rintro e w' ⟨⟨T, rfl, hgT, hfT⟩, hb⟩
  have hs := endR_spec ⟨T, hgT, hfT⟩
  refine ⟨?_, ?_, hb⟩
  · rw [setV_congr (ends_one hin hgT hfT hs.1 hs.2)]
  · rw [sameR_iff]
    exact hs.1.done hin hs.2

theorem CellsAt.take1 {B n : Nat} {w : World} {a : Option Addr} {l : List Cl} (h : CellsAt B w a n l) (hn : 1 ≤ n) : CellsAt B w a 1 (l.take 1) := by
  obtain ⟨h1, h2, h3⟩ := h
  refine ⟨by rw [List.length_take]; omega, fun c hc => h2 c (List.mem_of_mem_take hc), fun _ => ?_⟩
  obtain ⟨b, off, e, hlt, hc⟩ := h3 (by omega)
  refine ⟨b, off, e, hlt, fun k hk => ?_⟩
  obtain rfl : k = 0 := by omega
  have e0 : (l.take 1).getD 0 (0, 0) = l.getD 0 (0, 0) := by cases l <;> rfl
  rw [e0]
  exact hc 0 (by omega)
theorem keepA {WW w' : World} {g : Nat} {A : Nat → Nat} (h : Arr WW g A) (hb : Below WW.heap.size WW w') :
    w'.cell? ⟨g, 0, none⟩ = some (.int .i64 (A 0)) ∧ w'.cell? ⟨g, 1, none⟩ = some (.int .i64 (A 1)) ∧ w'.cell? ⟨g, 2, none⟩ = some (.int .i64 (A 2)) ∧ w'.cell? ⟨g, 3, none⟩ = some (.int .i64 (A 3)) ∧ w'.cell? ⟨g, 4, none⟩ = some (.int .i64 (A 4)) ∧ w'.cell? ⟨g, 5, none⟩ = some (.int .i64 (A 5)) ∧ w'.cell? ⟨g, 6, none⟩ = some (.int .i64 (A 6)) ∧ w'.cell? ⟨g, 7, none⟩ = some (.int .i64 (A 7)) := by
  have k := h.on hb h.lt
  exact ⟨k.cell 0 (by omega), k.cell 1 (by omega), k.cell 2 (by omega), k.cell 3 (by omega), k.cell 4 (by omega), k.cell 5 (by omega), k.cell 6 (by omega), k.cell 7 (by omega)⟩

set_option maxHeartbeats 1000000 in
set_option maxRecDepth 100000 in
theorem iConn (B n cap : Nat) (a : Option Addr) (l : List Cl) (w : World) (hn : n ≤ 4194304) (hcap : n ≤ cap) (hc : CellsAt B w a n l) (hB : B ≤ w.heap.size) :
    Calls Try.prog 72 #[.slice a n cap] w fun e w' => ∃ b : Bool, e = .returned (.bool b) ∧ (b = true ↔ Conn l) ∧ Below w.heap.size w w' := by
  have H := Lib.hid hc
  clear hc
  by_cases hs : isShape l = true
  · obtain ⟨hlen, hin, hsrt⟩ := (isShape_iff l).1 hs
    have HIN := Lib.hid hin
    have HL := Lib.hid (show 0 < l.length by omega)
    have HC := Lib.hid (show Conn l ↔ AllRch l from ⟨fun h => h.2, fun h => ⟨hs, h⟩⟩)
    have HST := Lib.hid (Got.start hin (by omega))
    rw [H.out.1] at hlen
    have hn1 : 1 ≤ n := by omega
    clear hsrt hin
    obtain ⟨b1, o1, rfl, hb1, hc1⟩ := H.out.2.2 (by omega)
    clear hc1
    obtain ⟨A, hA⟩ : ∃ A, allR l = A := ⟨_, rfl⟩
    have HAE := Lib.hid hA
    obtain ⟨R1, hR1⟩ : ∃ R1, allR (l.take 1) = R1 := ⟨_, rfl⟩
    have HR1 := Lib.hid hR1
    have HG1 := Lib.hid (show Got l R1 from by
      rw [← hR1]
      have h := HST.out
      have e : (allR (l.take 1)) = fun y => rowTo l y 1 := by
        funext y
        unfold allR
        have h1 : (l.take 1).length = 1 := by rw [List.length_take, H.out.1]; omega
        rw [h1]
        unfold rowTo
        have e0 : (l.take 1).getD 0 (0, 0) = l.getD 0 (0, 0) := by
          match l, HL.out with
          | c :: m, _ => rfl
        rw [e0]
        rfl
      rw [e]
      exact h)
    clear hR1
    go_enter Try.func72, Try.ntmps72
    go_wp2_with fail
    refine (iIsShape B n cap _ l w hn H.out hB).mono ?_
    rintro e w1 ⟨rfl, hbs⟩
    rw [hs]
    have hsz1 := hbs.size
    go_wp2_with fail
    refine (iPlaces B n cap _ l w1 hn (H.out.on (hbs.mono hB)) HIN.out (by omega)).mono ?_
    rintro e w2 ⟨rfl, hb2⟩
    rw [hA]
    clear hA
    have hb02 := hbs.trans (hb2.mono hsz1)
    have hsz2 := hb02.size
    unfold setV
    go_wp2_with fail
    have hAr := Arr.new w2 A w2.heap.size rfl
    have hbW := hb02.alloc hsz2 (.cells #[.int .i64 (A 0), .int .i64 (A 1), .int .i64 (A 2), .int .i64 (A 3), .int .i64 (A 4), .int .i64 (A 5), .int .i64 (A 6), .int .i64 (A 7)] 93)
    generalize hg : w2.heap.size = g at *
    generalize (w2.alloc (.cells #[.int .i64 (A 0), .int .i64 (A 1), .int .i64 (A 2), .int .i64 (A 3), .int .i64 (A 4), .int .i64 (A 5), .int .i64 (A 6), .int .i64 (A 7)] 93)) = WW at *
    have HAR := Lib.hid hAr
    have HBW := Lib.hid hbW
    clear hAr hbW hbs hb2 hb02
    have hk1 : (1 : Int) ≤ (cap : Int) := by omega
    have hk2 : ¬ cap = 0 := by omega
    have heq : ∀ w, (binOp .eql 93 (.agg #[.int .i64 (endR l 0), .int .i64 (endR l 1), .int .i64 (endR l 2), .int .i64 (endR l 3), .int .i64 (endR l 4), .int .i64 (endR l 5), .int .i64 (endR l 6), .int .i64 (endR l 7)]) (.agg #[.int .i64 (A 0), .int .i64 (A 1), .int .i64 (A 2), .int .i64 (A 3), .int .i64 (A 4), .int .i64 (A 5), .int .i64 (A 6), .int .i64 (A 7)])).run Try.prog w = .ok (.bool (sameR (endR l) A)) w := fun w => eql_set (endR l) A w
    have hgd := set_guard
    have HSW := Lib.hid HBW.out.size
    have HT1 := Lib.hid (H.out.take1 hn1)
    have HIN1 := Lib.hid (fun c hc => HIN.out c (List.mem_of_mem_take (i := 1) hc))
    go_region_held3 (fun w' => w'.cell? ⟨g, 0, none⟩ = some (.int .i64 (A 0)) ∧ w'.cell? ⟨g, 1, none⟩ = some (.int .i64 (A 1)) ∧ w'.cell? ⟨g, 2, none⟩ = some (.int .i64 (A 2)) ∧ w'.cell? ⟨g, 3, none⟩ = some (.int .i64 (A 3)) ∧ w'.cell? ⟨g, 4, none⟩ = some (.int .i64 (A 4)) ∧ w'.cell? ⟨g, 5, none⟩ = some (.int .i64 (A 5)) ∧ w'.cell? ⟨g, 6, none⟩ = some (.int .i64 (A 6)) ∧ w'.cell? ⟨g, 7, none⟩ = some (.int .i64 (A 7)))
      (first | exact keepA HAR.out ((Below.refl _ _).drew) | exact keepA HAR.out hq2 | exact keepA HAR.out hq1)
      (first | (go_at_call 104; refine (iPlaces B 1 cap _ (l.take 1) _ (by omega) (HT1.out.on (HBW.out.drew.mono hB)) HIN1.out (Nat.le_trans hB HSW.out)).mono ?_; rintro e w5 ⟨rfl, hbe⟩; rw [HR1.out]; have hq1 : Below WW.heap.size WW w5 := (Below.refl _ _).drew.trans hbe) | (go_at_call 105; refine (iReach2 l HIN.out HL.out R1 A HAE.out HG1.out _).mono ?_; rintro e w6 ⟨rfl, hiff, hbf⟩; unfold setV; have hq2 : Below WW.heap.size WW w6 := hq1.trans (hbf.mono hq1.size)))
    all_goals
      have HBB := Lib.hid (HBW.out.trans (hq2.mono HBW.out.size))
      go_wp2
      go_ret
      exact ⟨_, rfl, by rw [HC.out]; exact hiff, HBB.out⟩
  · have HC := Lib.hid (show ¬ Conn l from fun h => hs h.1)
    have hs2 : isShape l = false := by simpa using hs
    clear hs
    go_enter Try.func72, Try.ntmps72
    go_wp2_with fail
    refine (iIsShape B n cap _ l w hn H.out hB).mono ?_
    rintro e w1 ⟨rfl, hbs⟩
    rw [hs2]
    go_wp2
    go_ret
    exact ⟨false, rfl, ⟨(fun h => by cases h), fun h => absurd h HC.out⟩, hbs⟩

end Go.Proofs.Ythnapikklolgcaa
