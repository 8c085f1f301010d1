/-
  What a shape is, in the program: what the call gives.
  Slices of shapes that the call owns, each shape's memory the call's own and apart from the others'.
  Are these pieces, in the model and in the program: what each call gives; slices of shapes in memory.
-/
import Derived.Test.YtkjlmgkjcmebbaaGreatDoorVaj
import Derived.BigQuiet
import Derived.Test.YtkjlmgkjcmebbaaGreatDoorVab
import Derived.Test.YtkjlmgkjcmebbaaGreatDoorVaa
import Derived.Test.YtkjlmgkjcmebbaaGreatDoorVad
import Derived.Test.YtkjlmgkjcmebbaaGreatDoorVai
import Derived.Test.YtkjlmgkjcmebbaaGreatDoorPm2
namespace Go.Proofs.YtkjlmgkjcmebbaaGreatDoor

section
open Go.RowKit

theorem isShape_few {l : List Cl} (h : l.length = 0 ∨ 8 < l.length) : isShape l = false := by
  unfold isShape inb
  rw [Bool.and_eq_false_iff]
  right
  rw [Bool.and_eq_false_iff, decide_eq_false_iff_not, decide_eq_false_iff_not]
  omega

set_option maxHeartbeats 2000000 in
set_option maxRecDepth 100000 in
theorem iIsShape (B n cap : Nat) (a : Option Addr) (l : List Cl) (w : World) (hn : n ≤ 4194304) (hc : CellsAt B w a n l) (hB : B ≤ w.heap.size) :
    Calls Tryz.prog 117 #[.slice a n cap] w fun e w' => e = .returned (.bool (isShape l)) ∧ Below w.heap.size w w' := by
  have H := Lib.hid hc
  clear hc
  by_cases h0 : n = 0 ∨ 8 < n
  · have hno : isShape l = false := isShape_few (by rw [H.out.1]; exact h0)
    rw [hno]
    rcases h0 with h0 | h0
    · subst h0
      go_enter Tryz.func117, Tryz.ntmps117
      go_wp2
      go_ret
      exact ⟨rfl, Below.refl _ _⟩
    · have h1 : ((n : Int) == 0) = false := by simp; omega
      go_enter Tryz.func117, Tryz.ntmps117
      go_wp2
      go_ret
      exact ⟨rfl, Below.refl _ _⟩
  have h1 : ((n : Int) == 0) = false := by simp; omega
  have h8 : n ≤ 8 := by omega
  have h00 : 0 < n := by omega
  clear h0
  go_enter Tryz.func117, Tryz.ntmps117
  go_wp2
  go_loopw [15] (fun i wr => ∃ k : Nat, k ≤ n ∧ i = .int .i64 k ∧ Hid (okTo l k = true) ∧ Below w.heap.size w wr) (fun i _ => n - (intOf i).toNat)
  case atStart => exact ⟨0, by omega, rfl, by simp [Hid, okTo], Below.refl _ _⟩
  case round =>
    obtain ⟨k, hk, rfl, hok, hb⟩ := hrel
    have hsz := hb.size
    clear h1
    by_cases hlt : k < n
    · obtain ⟨b1, o1, rfl, hb1, hc1⟩ := H.out.2.2 (by omega)
      obtain ⟨x, y, hxy⟩ : ∃ x y, l.getD k (0, 0) = (x, y) := ⟨_, _, rfl⟩
      have p1 := (hb.cell (p := ⟨b1, o1 + k * 2, none⟩) (Nat.lt_of_lt_of_le hb1 hB)).trans (hc1 k hlt).1
      have p2 := (hb.cell (p := ⟨b1, o1 + k * 2 + 1, none⟩) (Nat.lt_of_lt_of_le hb1 hB)).trans (hc1 k hlt).2
      rw [hxy] at p1 p2
      have HX := Lib.hid hxy
      have hkz : (0 : Int) ≤ (k : Int) := by omega
      have hk1 : (k : Int) < (n : Int) := by omega
      have hbl : b1 < wr.heap.size := by omega
      clear hxy
      by_cases hA : inb x 0 7 = true
      · by_cases hA2 : inb y 0 7 = true
        · by_cases hk0 : 0 < k
          · obtain ⟨u, v, huv⟩ : ∃ u v, l.getD (k - 1) (0, 0) = (u, v) := ⟨_, _, rfl⟩
            have q1 := (hb.cell (p := ⟨b1, o1 + (k - 1) * 2, none⟩) (Nat.lt_of_lt_of_le hb1 hB)).trans (hc1 (k - 1) (by omega)).1
            have q2 := (hb.cell (p := ⟨b1, o1 + (k - 1) * 2 + 1, none⟩) (Nat.lt_of_lt_of_le hb1 hB)).trans (hc1 (k - 1) (by omega)).2
            rw [huv] at q1 q2
            have HU := Lib.hid huv
            have hj0 : (1 : Int) ≤ (k : Int) := by omega
            have hj2 : (k : Int) - 1 < (n : Int) := by omega
            have hj3 : (0 : Int) ≤ (k : Int) - 1 := by omega
            have hj4 : ((k : Int) - 1).toNat = k - 1 := by omega
            have hj : IntKind.i64.wrap ((k : Int) - 1) = (k : Int) - 1 := IntWalk.i64_in _ (by omega)
            have hcmp : ∀ w', Calls Tryz.prog 142 #[.agg #[.int .i64 u, .int .i64 v], .agg #[.int .i64 x, .int .i64 y]] w' _ := fun w' => iCompare u v x y w'
            obtain ⟨r, hr⟩ : ∃ r, cmpC (u, v) (x, y) = r := ⟨_, rfl⟩
            rw [hr] at hcmp
            have HR := Lib.hid hr
            clear huv hc1 hr
            go_wp2_with fail
            go_region_held3 (fun w' => w'.cell? ⟨wr.heap.size, 0, none⟩ = some (.int .i64 x) ∧ w'.cell? ⟨wr.heap.size, 1, none⟩ = some (.int .i64 y) ∧ w'.cell? ⟨b1, o1 + (k - 1) * 2, none⟩ = some (.int .i64 u) ∧ w'.cell? ⟨b1, o1 + (k - 1) * 2 + 1, none⟩ = some (.int .i64 v))
              (first | go_keep | exact ⟨(hbe.cell (p := ⟨wr.heap.size, 0, none⟩) (by simp)).trans (by go_keep), (hbe.cell (p := ⟨wr.heap.size, 1, none⟩) (by simp)).trans (by go_keep), (hbe.cell (p := ⟨b1, o1 + (k - 1) * 2, none⟩) (by simp; omega)).trans (by go_keep), (hbe.cell (p := ⟨b1, o1 + (k - 1) * 2 + 1, none⟩) (by simp; omega)).trans (by go_keep)⟩)
              (first | (go_at_call 141; refine (iPlace _ _).mono ?_; rintro e w' ⟨rfl, rfl⟩) | (go_at_call 142; refine (hcmp _).mono ?_; rintro e w' ⟨rfl, _, hbe⟩))
            all_goals go_wp2
            all_goals
              rename_i hcase
              have hbb := (hb.alloc hsz (.cells #[.int .i64 x, .int .i64 y] 86)).drew.trans (hbe.mono (by simp; omega))
              have HBB := Lib.hid hbb
              have hbf := cmpC_neg (u, v) (x, y)
              rw [HR.out] at hbf
              clear hbb hcmp
              first
                | (have e : okAt l k = false := by
                     unfold okAt
                     rw [HX.out, HU.out, ← hbf]
                     simp
                     omega
                   have hno : isShape l = false := by
                     unfold isShape
                     rw [okTo_no (by rw [H.out.1]; exact hlt) e]
                     rfl
                   go_ret
                   exact ⟨by rw [hno]; rfl, HBB.out⟩)
                | (have e : okTo l (k + 1) = true := by
                     have e : okAt l k = true := by
                       unfold okAt inP
                       rw [HX.out, HU.out, ← hbf]
                       simp [hA, hA2]
                       omega
                     rw [okTo_succ, e, hok.out]
                     rfl
                   have HE := Lib.hid e
                   clear e hbf
                   go_roundw
                   case rel => exact ⟨k + 1, by omega, by go_num, HE.out, HBB.out⟩
                   case measure => simp [intOf]; omega)
          · have hyes : okTo l (k + 1) = true := by
              have e : okAt l k = true := by unfold okAt inP; rw [HX.out]; simp [hA, hA2]; omega
              rw [okTo_succ, e, hok.out]; rfl
            have hd : decide ((0 : Int) < (k : Int)) = false := by simp; omega
            go_wp2_with fail
            go_quiet (first | (go_at_call 141; refine quiet_same (iPlace _ _)))
            go_wp2
            clear hd
            go_roundw
            case rel => exact ⟨k + 1, by omega, by go_num, hyes, below_drewn (hb.alloc hsz _) _⟩
            case measure => simp [intOf]; omega
        · have hA' : inb y 0 7 = false := by simpa using hA2
          clear hA2
          have hno : isShape l = false := by
            have e : okAt l k = false := by unfold okAt inP; rw [HX.out]; simp [hA']
            unfold isShape
            rw [okTo_no (by rw [H.out.1]; exact hlt) e]
            rfl
          go_wp2_with fail
          go_quiet (first | (go_at_call 141; refine quiet_same (iPlace _ _)))
          go_wp2
          go_ret
          exact ⟨by rw [hno]; rfl, below_drewn (hb.alloc hsz _) _⟩
      · have hA' : inb x 0 7 = false := by simpa using hA
        clear hA
        have hno : isShape l = false := by
          have e : okAt l k = false := by unfold okAt inP; rw [HX.out]; simp [hA']
          unfold isShape
          rw [okTo_no (by rw [H.out.1]; exact hlt) e]
          rfl
        go_wp2_with fail
        go_quiet (first | (go_at_call 141; refine quiet_same (iPlace _ _)))
        go_wp2
        go_ret
        exact ⟨by rw [hno]; rfl, below_drewn (hb.alloc hsz _) _⟩
    · obtain rfl : k = n := by omega
      have he : isShape l = true := by
        have := hok.out
        unfold isShape
        rw [H.out.1, this]
        simp [inb]
        omega
      go_wp2
      go_ret
      exact ⟨by rw [he]; rfl, hb⟩
end

section
open Go.RowKit

/-- A shape in memory: its block, its capacity, its cells. -/
abbrev Ent := Nat × Nat × List Cl
def ev (e : Ent) : Value := .slice (some ⟨e.1, 0, none⟩) e.2.2.length e.2.1
def dE : Ent := (0, 0, [])
def kE (e : Ent) : List Cl := e.2.2
def EachS (B : Nat) (w : World) (es : List Ent) : Prop := ∀ e ∈ es, w.ownsRow B 86 2 (ev e) e.2.2.length (cvs e.2.2)
def SmallS (es : List Ent) : Prop := ∀ e ∈ es, e.2.2.length ≤ 4194304 ∧ ∀ c ∈ e.2.2, InC c
def ApartS (es : List Ent) : Prop := es.Pairwise fun e f => e.1 ≠ f.1
def OffS (g : Nat) (es : List Ent) : Prop := ∀ e ∈ es, e.1 ≠ g
theorem ev_block (e : Ent) : (ev e).ownBlock = some e.1 := rfl
theorem EachS.on {B : Nat} {w w' : World} {es : List Ent} (h : EachS B w es) (hb : Below w.heap.size w w') : EachS B w' es := fun e he => (h e he).kept (grow_below hb none) (.inr (by rw [ev_block]; intro e; cases e))
theorem EachS.by {B g : Nat} {w w' : World} {es : List Ent} (h : EachS B w es) (hg : w.grownBy w' (some g)) (hne : OffS g es) : EachS B w' es := fun e he => (h e he).kept hg (.inr (by rw [ev_block]; intro e2; injection e2 with e2; exact hne e he e2))
theorem EachS.sub {B : Nat} {w : World} {es fs : List Ent} (h : EachS B w es) (hs : ∀ e ∈ fs, e ∈ es) : EachS B w fs := fun e he => h e (hs e he)
theorem EachS.less {B B' : Nat} {w : World} {es : List Ent} (h : EachS B w es) (hB : B' ≤ B) : EachS B' w es := fun e he => own_below (h e he) hB
theorem EachS.cells {B : Nat} {w : World} {es : List Ent} (h : EachS B w es) (hs : SmallS es) {e : Ent} (he : e ∈ es) : CellsAt w.heap.size w (some ⟨e.1, 0, none⟩) e.2.2.length e.2.2 := CellsAt.of_own (h e he) (hs e he).2
theorem EachS.lt {B : Nat} {w : World} {es : List Ent} (h : EachS B w es) {e : Ent} (he : e ∈ es) : B ≤ e.1 ∧ e.1 < w.heap.size := (h e he).lt e.1 rfl
theorem ev_one (e : Ent) : (ev e).oneCell' = true := rfl
theorem evs_one (es : List Ent) : ∀ u ∈ es.map ev, u.oneCell' = true := by
  intro u hu
  obtain ⟨e, _, rfl⟩ := List.mem_map.1 hu
  exact ev_one e
theorem evs_get {es : List Ent} {k : Nat} (h : k < es.length) : (es.map ev)[k]? = some (ev (es.getD k dE)) := by simp [List.getD, h]
theorem ent_mem {es : List Ent} {k : Nat} (h : k < es.length) : es.getD k dE ∈ es := by simp [List.getD, h]

/-! ### Rows of values of one cell -/
theorem row1_le {w : World} {B n g cap : Nat} {t : TypeId} {xs : List Value} (h : w.ownsRow B t 1 (.slice (some ⟨g, 0, none⟩) n cap) n xs) : n ≤ cap := by
  rcases h.2 with ⟨e, _⟩ | ⟨g', cap', cur, e, _, _, h1, _⟩
  · cases e
  · injection e with _ _ e3
    omega
theorem row1_take {w : World} {B n g cap k : Nat} {t : TypeId} {xs : List Value} (h : w.ownsRow B t 1 (.slice (some ⟨g, 0, none⟩) n cap) n xs) (hk : k ≤ n) : w.ownsRow B t 1 (.slice (some ⟨g, 0, none⟩) k cap) k (xs.take k) := by
  have hl : xs.length = n := by have := h.1; omega
  rcases h.2 with ⟨e, _⟩ | ⟨g', cap', cur, e, hb, hg, h1, h2, h3, h4⟩
  · cases e
  · injection e with e1 e2 e3
    injection e1 with e1
    injection e1 with e1 _
    subst e1 e3
    refine ⟨by rw [List.length_take]; omega, .inr ⟨g, cap, cur, rfl, hb, hg, by omega, h2, h3, ?_⟩⟩
    rw [← h4, List.take_take]
    congr 1
    omega
theorem row1_far {w : World} {B n g cap o : Nat} {t : TypeId} {xs : List Value} {v : Value} (h : w.ownsRow B t 1 (.slice (some ⟨g, 0, none⟩) n cap) n xs) (ho : n ≤ o) : (w.setCell ⟨g, o, none⟩ v).ownsRow B t 1 (.slice (some ⟨g, 0, none⟩) n cap) n xs := by
  rcases h.2 with ⟨e, _⟩ | ⟨g', cap', cur, e, hb, hg, h1, h2, h3, h4⟩
  · cases e
  · injection e with e1 e2 e3
    injection e1 with e1
    injection e1 with e1 _
    subst e1 e3
    refine ⟨h.1, .inr ⟨g, cap, cur.setIfInBounds o v, rfl, hb, set_row hg o v, h1, h2, by simpa using h3, ?_⟩⟩
    rw [← h4]
    apply List.ext_getElem?
    intro j
    by_cases hj : j < n * 1
    · rw [List.getElem?_take_of_lt hj, List.getElem?_take_of_lt hj, Array.getElem?_toList, Array.getElem?_toList, Array.getElem?_setIfInBounds]
      rw [if_neg (by omega)]
    · rw [List.getElem?_take_eq_none (by omega), List.getElem?_take_eq_none (by omega)]
theorem row1_fars {B n g cap : Nat} {t : TypeId} {xs : List Value} : ∀ (vs : List Value) (o : Nat) (w : World), w.ownsRow B t 1 (.slice (some ⟨g, 0, none⟩) n cap) n xs → n ≤ o → (w.setCells g o vs).ownsRow B t 1 (.slice (some ⟨g, 0, none⟩) n cap) n xs
  | [], _, _, h, _ => h
  | v :: r, o, w, h, ho => row1_fars r (o + 1) _ (row1_far (v := v) h ho) (by omega)
theorem below_sets1 {B g : Nat} {a : World} (hg : B ≤ g) : ∀ (vs : List Value) (o : Nat) (w : World), Below B a w → Below B a (w.setCells g o vs)
  | [], _, _, h => h
  | v :: r, o, _, h => below_sets1 hg r (o + 1) _ (h.setCell (p := ⟨g, o, none⟩) hg v)
theorem grown_sets1 {g : Nat} : ∀ (vs : List Value) (o : Nat) (w : World), w.grownBy (w.setCells g o vs) (some g)
  | [], _, w => World.grownBy.refl _ _
  | v :: r, o, w => by
    have h1 : w.grownBy (w.setCell ⟨g, o, none⟩ v) (some g) := ⟨rfl, rfl, rfl, by simp [World.setCell], fun k hk hne => by
      have : g ≠ k := fun e => hne (by rw [e])
      simp [World.setCell, Array.getElem?_modify, this]⟩
    exact h1.trans (grown_sets1 r (o + 1) _)

/-- A slice of shapes of the call's own. -/
structure OwnS (B : Nat) (w : World) (v : Value) (es : List Ent) : Prop where
  row : w.ownsRow B 95 1 v es.length (es.map ev)
  each : EachS B w es
  apart : ApartS es
  off : ∀ e ∈ es, v.ownBlock ≠ some e.1
theorem OwnS.on {B : Nat} {w w' : World} {v : Value} {es : List Ent} (h : OwnS B w v es) (hb : Below w.heap.size w w') : OwnS B w' v es :=
  ⟨h.row.kept (grow_below hb none) (by cases v.ownBlock with | none => exact .inl rfl | some k => exact .inr (by simp)), h.each.on hb, h.apart, h.off⟩
theorem OwnS.less {B B' : Nat} {w : World} {v : Value} {es : List Ent} (h : OwnS B w v es) (hB : B' ≤ B) : OwnS B' w v es := ⟨own_below h.row hB, h.each.less hB, h.apart, h.off⟩
end

section
open Go.RowKit

/-- A slice of slices of cells that reads as a list of shapes of at most M cells, its memory below block B. -/
def PsB (M B : Nat) (w : World) (a : Option Addr) (n : Nat) (L : List (List Cl)) : Prop :=
  L.length = n ∧ (0 < n → ∃ b off, a = some ⟨b, off, none⟩ ∧ b < B ∧ ∀ k, k < n → ∃ ak ck, w.cell? ⟨b, off + k, none⟩ = some (.slice ak (L.getD k []).length ck) ∧ CellsAt B w ak (L.getD k []).length (L.getD k []) ∧ (L.getD k []).length ≤ M)
theorem PsB.on {M B n : Nat} {w w' : World} {a : Option Addr} {L : List (List Cl)} (h : PsB M B w a n L) (hb : Below B w w') : PsB M B w' a n L :=
  ⟨h.1, fun hp => by
    obtain ⟨b, off, e, hlt, hc⟩ := h.2 hp
    refine ⟨b, off, e, hlt, fun k hk => ?_⟩
    obtain ⟨ak, ck, h1, h2, h3⟩ := hc k hk
    exact ⟨ak, ck, (hb.cell (p := ⟨b, off + k, none⟩) hlt).trans h1, h2.on hb, h3⟩⟩
theorem PsB.more {M B B' n : Nat} {w : World} {a : Option Addr} {L : List (List Cl)} (h : PsB M B w a n L) (hB : B ≤ B') : PsB M B' w a n L :=
  ⟨h.1, fun hp => by
    obtain ⟨b, off, e, hlt, hc⟩ := h.2 hp
    refine ⟨b, off, e, by omega, fun k hk => ?_⟩
    obtain ⟨ak, ck, h1, h2, h3⟩ := hc k hk
    exact ⟨ak, ck, h1, h2.more hB, h3⟩⟩
theorem PsB.small {M M' B n : Nat} {w : World} {a : Option Addr} {L : List (List Cl)} (h : PsB M B w a n L) (hm : ∀ k, k < n → (L.getD k []).length ≤ M') : PsB M' B w a n L :=
  ⟨h.1, fun hp => by
    obtain ⟨b, off, e, hlt, hc⟩ := h.2 hp
    refine ⟨b, off, e, hlt, fun k hk => ?_⟩
    obtain ⟨ak, ck, h1, h2, _⟩ := hc k hk
    exact ⟨ak, ck, h1, h2, hm k hk⟩⟩
abbrev PsAt (B : Nat) (w : World) (a : Option Addr) (n : Nat) (L : List (List Cl)) : Prop := PsB 1048576 B w a n L
/-- Shapes of the call's own read so. -/
theorem PsB.of_own {M B : Nat} {w : World} {v : Value} {es : List Ent} (h : OwnS B w v es) (hs : SmallS es) (hm : ∀ e ∈ es, e.2.2.length ≤ M) : ∃ a cap, v = .slice a es.length cap ∧ PsB M w.heap.size w a es.length (es.map kE) := by
  rcases h.row.2 with ⟨rfl, h0⟩ | ⟨g, cap, cur, rfl, hb, hg, _⟩
  · refine ⟨none, 0, by rw [h0], by simp, fun hp => absurd hp (by omega)⟩
  · refine ⟨_, cap, rfl, by simp, fun _ => ⟨g, 0, rfl, (Array.getElem?_eq_some_iff.1 hg).1, fun k hk => ?_⟩⟩
    have he := ent_mem hk
    have c0 := h.row.cellAt k (by omega)
    rw [evs_get hk] at c0
    have e2 : (es.map kE).getD k [] = (es.getD k dE).2.2 := by simp [List.getD, hk, kE]
    rw [e2, Nat.zero_add]
    exact ⟨_, _, c0, h.each.cells hs he, hm _ he⟩
theorem arePc_shape {ps : List (List Cl)} {k : Nat} (h : isShape (ps.getD k []) = false) (hk : k < ps.length) : arePc ps = false := by
  unfold arePc; rw [allPc_false h hk]; rfl
theorem arePc_all {ps : List (List Cl)} (h : allPc ps ps.length = true) : arePc ps = inb ps.length 1 5 := by unfold arePc; rw [h]; rfl

set_option maxHeartbeats 1000000 in
set_option maxRecDepth 100000 in
theorem sArePc (B n cap : Nat) (a : Option Addr) (ps : List (List Cl)) (w : World) (hn : n ≤ 4194304) (hc : PsAt B w a n ps) (hB : B ≤ w.heap.size) :
    Calls Tryz.prog 59 #[.slice a n cap] w fun e w' => e = .returned (.bool (arePc ps)) ∧ Below w.heap.size w w' := by
  have H := Lib.hid hc
  have hl := hc.1
  clear hc
  go_enter Tryz.func59, Tryz.ntmps59
  go_wp2
  go_loopw [3] (fun i wr => ∃ k : Nat, k ≤ n ∧ i = .int .i64 k ∧ Hid (allPc ps k = true) ∧ Below w.heap.size w wr) (fun i _ => n - (intOf i).toNat)
  case atStart => exact ⟨0, by omega, rfl, by simp [Hid, allPc], Below.refl _ _⟩
  case round =>
    obtain ⟨k, hk, rfl, ho, hb⟩ := hrel
    by_cases hlt : k < n
    · have hk1 : (k : Int) < (n : Int) := by omega
      have hk0 : (0 : Int) ≤ (k : Int) := by omega
      obtain ⟨b, off, rfl, hbB, hcell⟩ := H.out.2 (by omega)
      obtain ⟨ak, ck, h1, h2, h3⟩ := hcell k hlt
      have p1 := (hb.cell (p := ⟨b, off + k, none⟩) (Nat.lt_of_lt_of_le hbB hB)).trans h1
      have HC := Lib.hid (h2.on (hb.mono hB))
      have HS := Lib.hid (allPc_step ps k)
      have HF := Lib.hid (fun h => arePc_shape (ps := ps) (k := k) h (by omega))
      obtain ⟨q, hq⟩ : ∃ q, ps.getD k [] = q := ⟨_, rfl⟩
      rw [hq] at p1 HC HS HF h3
      clear hcell h1 h2 hq
      go_wp2_with fail
      refine (sIsShape B q.length ck ak q wr (by omega) HC.out (Nat.le_trans hB hb.size)).mono ?_
      rintro e w2 ⟨rfl, hb2⟩
      have HB := Lib.hid (hb.trans (hb2.mono hb.size))
      clear hb hb2
      cases hs : isShape q with
      | false =>
        have HN := Lib.hid (HF.out hs)
        clear hs
        go_wp2
        go_ret
        exact ⟨by rw [HN.out]; rfl, HB.out⟩
      | true =>
        have HN := Lib.hid (show allPc ps (k + 1) = true from by rw [HS.out, ho.out, hs]; rfl)
        clear hs
        go_wp2
        go_roundw
        case rel => exact ⟨k + 1, by omega, by go_num, HN.out, HB.out⟩
        case measure => simp [intOf]; omega
    · obtain rfl : k = n := by omega
      have HN := Lib.hid (show arePc ps = inb (k : Int) 1 5 from by rw [arePc_all (by rw [hl]; exact ho.out), hl])
      have HB := Lib.hid hb
      clear hb
      go_wp2_with fail
      refine (sIn (k : Int) 1 5 _).mono ?_
      rintro e w' ⟨rfl, rfl⟩
      go_wp2
      go_ret
      exact ⟨by rw [HN.out]; rfl, HB.out⟩

set_option maxHeartbeats 1000000 in
theorem iNoShape (B n cap : Nat) (a : Option Addr) (q : List Cl) (w : World) (hn : n ≤ 4194304) (hc : CellsAt B w a n q) (hB : B ≤ w.heap.size) :
    Calls Tryz.prog 116 #[.slice a n cap] w fun e w' => e = .returned (.bool (!isShape q)) ∧ Below w.heap.size w w' := by
  have H := Lib.hid hc
  clear hc
  go_enter Tryz.func116, Tryz.ntmps116
  go_wp2_with fail
  refine (iIsShape B n cap a q w hn H.out hB).mono ?_
  rintro e w1 ⟨rfl, hb1⟩
  go_wp2
  go_ret
  exact ⟨rfl, hb1⟩

set_option maxHeartbeats 1000000 in
set_option maxRecDepth 100000 in
theorem iIndexPc (B n cap : Nat) (a : Option Addr) (ps : List (List Cl)) (w : World) (hn : n ≤ 4194304) (hc : PsAt B w a n ps) (hB : B ≤ w.heap.size) :
    Calls Tryz.prog 143 #[.slice a n cap, .func (.func 116) #[] #[]] w fun e w' => ∃ r : Int, e = .returned (.int .i64 r) ∧ decide (0 ≤ r) = (!allPc ps n) ∧ Below w.heap.size w w' := by
  have H := Lib.hid hc
  have hl := hc.1
  clear hc
  go_enter Tryz.func143, Tryz.ntmps143
  go_wp2
  go_loopw [8] (fun i wr => ∃ k : Nat, k ≤ n ∧ i = .int .i64 k ∧ Hid (allPc ps k = true) ∧ Below w.heap.size w wr) (fun i _ => n - (intOf i).toNat)
  case atStart => exact ⟨0, by omega, rfl, by simp [Hid, allPc], Below.refl _ _⟩
  case round =>
    obtain ⟨k, hk, rfl, ho, hb⟩ := hrel
    by_cases hlt : k < n
    · have hk1 : (k : Int) < (n : Int) := by omega
      have hk0 : (0 : Int) ≤ (k : Int) := by omega
      obtain ⟨b, off, rfl, hbB, hcell⟩ := H.out.2 (by omega)
      obtain ⟨ak, ck, h1, h2, h3⟩ := hcell k hlt
      have p1 := (hb.cell (p := ⟨b, off + k, none⟩) (Nat.lt_of_lt_of_le hbB hB)).trans h1
      have HC := Lib.hid (h2.on (hb.mono hB))
      have HS := Lib.hid (allPc_step ps k)
      have HF := Lib.hid (fun h => allPc_false (ps := ps) (k := k) (n := n) h (by omega))
      obtain ⟨q, hq⟩ : ∃ q, ps.getD k [] = q := ⟨_, rfl⟩
      rw [hq] at p1 HC HS HF h3
      clear hcell h1 h2 hq
      go_wp2_with fail
      refine (iNoShape B q.length ck ak q wr (by omega) HC.out (Nat.le_trans hB hb.size)).mono ?_
      rintro e w2 ⟨rfl, hb2⟩
      have HB := Lib.hid (hb.trans (hb2.mono hb.size))
      clear hb hb2
      cases hs : isShape q with
      | false =>
        have HN := Lib.hid (HF.out hs)
        clear hs
        go_wp2
        go_ret
        exact ⟨_, rfl, by rw [HN.out]; simp, HB.out⟩
      | true =>
        have HN := Lib.hid (show allPc ps (k + 1) = true from by rw [HS.out, ho.out, hs]; rfl)
        clear hs
        go_wp2
        go_roundw
        case rel => exact ⟨k + 1, by omega, by go_num, HN.out, HB.out⟩
        case measure => simp [intOf]; omega
    · obtain rfl : k = n := by omega
      have HB := Lib.hid hb
      clear hb
      go_wp2
      go_ret
      exact ⟨_, rfl, by rw [ho.out]; rfl, HB.out⟩

set_option maxHeartbeats 1000000 in
theorem iContPc (B n cap : Nat) (a : Option Addr) (ps : List (List Cl)) (w : World) (hn : n ≤ 4194304) (hc : PsAt B w a n ps) (hB : B ≤ w.heap.size) :
    Calls Tryz.prog 118 #[.slice a n cap, .func (.func 116) #[] #[]] w fun e w' => e = .returned (.bool (!allPc ps n)) ∧ Below w.heap.size w w' := by
  have H := Lib.hid hc
  clear hc
  go_enter Tryz.func118, Tryz.ntmps118
  go_wp2_with fail
  refine (iIndexPc B n cap a ps w hn H.out hB).mono ?_
  rintro e w1 ⟨r, rfl, hr, hb1⟩
  have HR := Lib.hid hr
  clear hr
  go_wp2
  go_ret
  exact ⟨by rw [← HR.out]; rfl, hb1⟩

set_option maxHeartbeats 1000000 in
theorem iArePc (B n cap : Nat) (a : Option Addr) (ps : List (List Cl)) (w : World) (hn : n ≤ 4194304) (hc : PsAt B w a n ps) (hB : B ≤ w.heap.size) :
    Calls Tryz.prog 90 #[.slice a n cap] w fun e w' => e = .returned (.bool (arePc ps)) ∧ Below w.heap.size w w' := by
  have H := Lib.hid hc
  have hl := hc.1
  clear hc
  by_cases h1 : 1 ≤ (n : Int)
  · by_cases h5 : (n : Int) ≤ 5
    · have HN := Lib.hid (show arePc ps = allPc ps n from by
        unfold arePc
        rw [hl]
        have : inb (n : Int) 1 5 = true := by unfold inb; simp; omega
        rw [this, Bool.and_true])
      rw [HN.out]
      go_enter Tryz.func90, Tryz.ntmps90
      go_wp2_with fail
      refine (iContPc B n cap a ps w hn H.out hB).mono ?_
      rintro e w1 ⟨rfl, hb1⟩
      cases hq : allPc ps n with
      | true =>
        have HQ := Lib.hid hq
        clear hq
        go_wp2
        go_ret
        exact ⟨by rw [HQ.out]; rfl, hb1⟩
      | false =>
        have HQ := Lib.hid hq
        clear hq
        go_wp2
        go_ret
        exact ⟨by rw [HQ.out]; rfl, hb1⟩
    · have HN := Lib.hid (show arePc ps = false from by
        unfold arePc
        rw [hl]
        have : inb (n : Int) 1 5 = false := by unfold inb; simp; omega
        rw [this, Bool.and_false])
      rw [HN.out]
      go_enter Tryz.func90, Tryz.ntmps90
      go_wp2
      go_ret
      exact ⟨rfl, Below.refl _ _⟩
  · have HN := Lib.hid (show arePc ps = false from by
      unfold arePc
      rw [hl]
      have : inb (n : Int) 1 5 = false := by unfold inb; simp; omega
      rw [this, Bool.and_false])
    rw [HN.out]
    go_enter Tryz.func90, Tryz.ntmps90
    go_wp2
    go_ret
    exact ⟨rfl, Below.refl _ _⟩
end

end Go.Proofs.YtkjlmgkjcmebbaaGreatDoor
