/-
  Drawn pieces (written by tools/draws7b.py).
  What is listed is a tiling, no two are the same, numbers and counts agree: the plain facts.
  What the law on tilings draws: a region, pieces, a number, a list of masks: what each call gives.
-/
import Derived.Test.YtkjlmgkjcmebbaaGreatDoorWbd
import Derived.Test.YtkjlmgkjcmebbaaGreatDoorWaj
import Derived.Test.YtkjlmgkjcmebbaaGreatDoorWam
import Derived.Maps.AppendAt
import Derived.Test.YtkjlmgkjcmebbaaGreatDoorWan
import Derived.Test.YtkjlmgkjcmebbaaGreatDoorWaw
namespace Go.Proofs.YtkjlmgkjcmebbaaGreatDoor

section
open Go.RowKit

/-- A drawn shape, in memory of its own that is not block r. -/
def PcAt (base r : Nat) (w : World) (u : Value) (l : List Cl) : Prop := ∃ (ad : Addr) (gg off n cap : Nat), u = .slice (some ad) n cap ∧ Came w 2 (some ad) gg off n cap (cvs l) ∧ (0 < cap → base ≤ gg ∧ gg ≠ r) ∧ (∀ c ∈ l, InC c) ∧ l.length = n ∧ n ≤ 9
theorem PcAt.made {base r gg off n cap : Nat} {w : World} {ad : Addr} {l : List Cl} (hcam : Came w 2 (some ad) gg off n cap (cvs l)) (h : 0 < cap → base ≤ gg ∧ gg ≠ r) (hin : ∀ c ∈ l, InC c) (hl : l.length = n) (hn : n ≤ 9) : PcAt base r w (.slice (some ad) n cap) l :=
  ⟨ad, gg, off, n, cap, rfl, hcam, h, hin, hl, hn⟩
theorem PcAt.kept {base r g : Nat} {w w' : World} {u : Value} {l : List Cl} (h : PcAt base r w u l) (hg : w.grownBy w' (some g)) (hb : g < base) : PcAt base r w' u l := by
  obtain ⟨ad, gg, off, n, cap, rfl, h1, h2, h3⟩ := h
  exact ⟨ad, gg, off, n, cap, rfl, Came.kept h1 hg (fun hp e => by have h9 : g = gg := Option.some.inj e; have := (h2 hp).1; omega), h2, h3⟩
theorem PcAt.kept0 {base r : Nat} {w w' : World} {u : Value} {l : List Cl} (h : PcAt base r w u l) (hg : w.grownBy w' none) : PcAt base r w' u l := by
  obtain ⟨ad, gg, off, n, cap, rfl, h1, h2, h3⟩ := h
  exact ⟨ad, gg, off, n, cap, rfl, Came.kept h1 hg (fun _ e => by cases e), h2, h3⟩
theorem PcAt.moved {base r r' : Nat} {w w' : World} {u : Value} {l : List Cl} (h : PcAt base r w u l) (hg : w.grownBy w' (some r)) (hr : r' = r ∨ w.heap.size ≤ r') : PcAt base r' w' u l := by
  obtain ⟨ad, gg, off, n, cap, rfl, h1, h2, h3⟩ := h
  exact ⟨ad, gg, off, n, cap, rfl, Came.kept h1 hg (fun hp e => by have h9 : r = gg := Option.some.inj e; have := (h2 hp).2; omega), fun hp => ⟨(h2 hp).1, by have := (h2 hp).2; have := h1.lt hp; omega⟩, h3⟩
theorem pcs_one {base r : Nat} {w : World} {u : Value} {l : List Cl} (h : PcAt base r w u l) : ∀ j, j < [l].length → PcAt base r w ([u].getD j undef) ([l].getD j []) := fun j hj => by
  obtain rfl : j = 0 := by simpa using hj
  exact h
theorem pcs_snoc {base r : Nat} {w : World} {us : List Value} {ps : List (List Cl)} {u : Value} {l : List Cl} (h1 : us.length = ps.length) (h : ∀ j, j < ps.length → PcAt base r w (us.getD j undef) (ps.getD j [])) (hu : PcAt base r w u l) : ∀ j, j < (ps ++ [l]).length → PcAt base r w ((us ++ [u]).getD j undef) ((ps ++ [l]).getD j []) := fun j hj => by
  rw [List.length_append] at hj
  by_cases hlt : j < ps.length
  · have e1 : (us ++ [u]).getD j undef = us.getD j undef := by simp [List.getD, List.getElem?_append_left (show j < us.length by omega)]
    have e2 : (ps ++ [l]).getD j [] = ps.getD j [] := by simp [List.getD, List.getElem?_append_left hlt]
    rw [e1, e2]
    exact h j hlt
  · have hj2 : j = ps.length := by simp at hj; omega
    have e1 : (us ++ [u]).getD j undef = u := by simp [List.getD, hj2, h1]
    have e2 : (ps ++ [l]).getD j [] = l := by simp [List.getD, hj2]
    rw [e1, e2]
    exact hu
theorem shp_row {w : World} {base k : Nat} {v : Value} {xs : List Value} (h : w.ownsRow base 95 1 v (k + 1) xs) : ∃ g cap, v = .slice (some ⟨g, 0, none⟩) (k + 1) cap := by
  rcases h.2 with ⟨_, h0⟩ | ⟨g, cap, _, rfl, _⟩
  · omega
  · exact ⟨g, cap, rfl⟩
/-- Drawn pieces. -/
def GivesPs (B g : Nat) (w : World) (e : Ending) (w' : World) : Prop := ∃ (gr cap : Nat) (us : List Value) (ps : List (List Cl)), e = .returned (.slice (some ⟨gr, 0, none⟩) ps.length cap) ∧ ps.length ≤ 3 ∧
  w'.ownsRow w.heap.size 95 1 (.slice (some ⟨gr, 0, none⟩) ps.length cap) ps.length us ∧ (∀ j, j < ps.length → PcAt w.heap.size gr w' (us.getD j undef) (ps.getD j [])) ∧ Cur B w' g ∧ w.grownBy w' (some g)

set_option maxHeartbeats 8000000 in
set_option maxRecDepth 100000 in
theorem dPieces7 (B g : Nat) (w : World) (hc : Cur B w g) :
    Calls Tryz.prog 89 #[.pointer (some ⟨g, 0, none⟩)] w (GivesPs B g w) := by
  have hlt := hc.lt
  obtain ⟨i0, hi, hz0, hz1, hz2⟩ := info_parts shps_info
  have HC := Lib.hid hc
  clear hc
  go_enter Tryz.func89, Tryz.ntmps89
  go_wp2_with fail
  refine (dPiece4 B g w HC.out).mono ?_
  rintro e w1 ⟨ad1, gg1, off1, n1, cp1, cs1, rfl, hcam, hgg, hcm, hin, hln, hn9, hc1, hg1⟩
  have hs1 := hg1.size
  obtain ⟨r0, hr0⟩ : ∃ r, w1.heap.size = r := ⟨_, rfl⟩
  have hal := World.grownBy_alloc w1 (.cells #[.slice (some ad1) n1 cp1] 95) none
  have hu := PcAt.kept0 (PcAt.made (r := r0) (base := w.heap.size) hcam (fun h => by have := hgg h; have := hcam.lt h; omega) hin hln hn9) hal
  have hown := World.ownsRow_lit (base := w.heap.size) (e := 95) (size := 1) w1 #[.slice (some ad1) n1 cp1] 1 hs1 (by unfold maxLen; omega) rfl
  have HC_wa := Lib.hid (hc1.alloc (.cells #[.slice (some ad1) n1 cp1] 95))
  have HG_wa := Lib.hid (grow_new hg1 hal (fun j e => by cases e))
  have hsa : (w1.alloc (.cells #[.slice (some ad1) n1 cp1] 95)).heap.size = r0 + 1 := by simp [hr0]
  rw [hr0] at hown
  clear hcam hgg hin hc1 hg1 hal
  go_wp2_with fail
  (try rw [hr0])
  generalize (w1.alloc (.cells #[.slice (some ad1) n1 cp1] 95)) = wa at *
  have HO_wa := Lib.hid (show wa.ownsRow w.heap.size 95 1 (.slice (some ⟨r0, 0, none⟩) 1 1) 1 [.slice (some ad1) n1 cp1] from hown)
  have HP_wa := Lib.hid (pcs_one (base := w.heap.size) (r := r0) hu)
  clear hown hu
  refine (dOnce B g 3 wa HC_wa.out (by omega) (by omega)).mono ?_
  rintro e wo1 ⟨bb1, rfl, hc1, hg1⟩
  have hs1 := hg1.size
  have HO_wo1 := Lib.hid (HO_wa.out.kept hg1 (.inr (by intro e; have h9 : r0 = g := Option.some.inj e; have := (HO_wa.out.lt r0 rfl).1; omega)))
  have HP_wo1 := Lib.hid (fun j hj => (HP_wa.out j hj).kept hg1 (by omega))
  have HC_wo1 := Lib.hid hc1
  have HG_wo1 := Lib.hid (grow_trans HG_wa.out hg1)
  clear hc1 hg1 HO_wa HP_wa HC_wa HG_wa
  cases bb1 with
  | true =>
    go_wp2_with fail
    refine (dPiece4 B g wo1 HC_wo1.out).mono ?_
    rintro e wp2 ⟨ad2, gg2, off2, n2, cp2, cs2, rfl, hcam, hgg, hcm, hin, hln, hn9, hc1, hg1⟩
    have hs1 := hg1.size
    have ho1 := HO_wo1.out.kept hg1 (.inr (by intro e; have h9 : r0 = g := Option.some.inj e; have := (HO_wo1.out.lt r0 rfl).1; omega))
    have hp1 := fun j hj => (HP_wo1.out j hj).kept hg1 (by omega)
    have hu := PcAt.made (r := r0) (base := w.heap.size) hcam (fun h => by have := hgg h; have := (HO_wo1.out.lt r0 rfl).2; omega) hin hln hn9
    have HX1 := Lib.hid (show _ ∧ _ from ⟨ho1, hp1⟩)
    have HU := Lib.hid hu
    have HC1 := Lib.hid hc1
    have HG1 := Lib.hid (grow_trans HG_wo1.out hg1)
    have hsz1 : w.heap.size ≤ wp2.heap.size := HG1.out.size
    clear hcam hgg hin hc1 hg1 ho1 hp1 hu
    go_wp2_with (first | (at_builtin; refine wpList_append_own_at _ rfl _ _ 27 rfl w.heap.size 95 i0 (.slice none 0 0) 1 24 Tryz.underlying27 hi hz0 hz1 hz2 rfl (by decide) _ _ _ rfl (HX1.out.1.alloc _) ⟨wp2.heap.size, 0, none⟩ 1 1 [.slice (some ad2) n2 cp2] rfl rfl (liesV_block (l := [.slice (some ad2) n2 cp2]) (t := 95) (fr := (0, 0)) (heap_alloc_new _ _)) (by simp [Value.oneCell']) ?c3 ?c4 ?c5 ?_) | go_in)
    case c3 => unfold maxLen; omega
    case c4 => omega
    case c5 => simp; omega
    intro v' wq2 hown4 hgrow _ hwhere
    obtain ⟨gr2, cr2, rfl⟩ := shp_row hown4
    have hlt4 := hown4.lt gr2 rfl
    have hal := World.grownBy_alloc wp2 (.cells #[.slice (some ad2) n2 cp2] 95) none
    have HO_wq2 := Lib.hid hown4
    have hwh : gr2 = r0 ∨ (wp2.alloc (.cells #[.slice (some ad2) n2 cp2] 95)).heap.size ≤ gr2 := hwhere.elim (fun h9 => .inl (Option.some.inj h9)) (fun h9 => .inr (by have h8 := Option.some.inj h9; simp at h8 ⊢; omega))
    have HP_wq2 := Lib.hid (pcs_snoc (us := [.slice (some ad1) n1 cp1]) (ps := [cs1]) rfl (fun j hj => ((HX1.out.2 j hj).kept0 hal).moved hgrow hwh) ((HU.out.kept0 hal).moved hgrow hwh))
    have HC_wq2 := Lib.hid ((HC1.out.alloc (.cells #[.slice (some ad2) n2 cp2] 95)).grown hgrow (fun j e => by have h9 : r0 = j := Option.some.inj e; have := (HX1.out.1.lt r0 rfl).1; omega))
    have HG_wq2 := Lib.hid (grow_new (grow_new HG1.out hal (fun j e => by cases e)) hgrow (fun j e => by have h9 : r0 = j := Option.some.inj e; have := (HX1.out.1.lt r0 rfl).1; omega))
    clear HX1 HU HC1 HG1 hown4 hgrow hwhere hwh hal hsz1 hs1
    go_wp2_with fail
    refine (dOnce B g 20 wq2 HC_wq2.out (by omega) (by omega)).mono ?_
    rintro e wo2a ⟨bb2a, rfl, hc1, hg1⟩
    have hs1 := hg1.size
    have HO_wo2a := Lib.hid (HO_wq2.out.kept hg1 (.inr (by intro e; have h9 : gr2 = g := Option.some.inj e; have := (HO_wq2.out.lt gr2 rfl).1; omega)))
    have HP_wo2a := Lib.hid (fun j hj => (HP_wq2.out j hj).kept hg1 (by omega))
    have HC_wo2a := Lib.hid hc1
    have HG_wo2a := Lib.hid (grow_trans HG_wq2.out hg1)
    clear hc1 hg1 HO_wq2 HP_wq2 HC_wq2 HG_wq2
    cases bb2a with
    | true =>
      go_wp2_with fail
      refine (dAny B g wo2a HC_wo2a.out).mono ?_
      rintro e wp3a ⟨ad3a, gg3a, off3a, n3a, cp3a, cs3a, rfl, hcam, hgg, hcm, hin, hln, hn9, hc1, hg1⟩
      have hs1 := hg1.size
      have ho1 := HO_wo2a.out.kept hg1 (.inr (by intro e; have h9 : gr2 = g := Option.some.inj e; have := (HO_wo2a.out.lt gr2 rfl).1; omega))
      have hp1 := fun j hj => (HP_wo2a.out j hj).kept hg1 (by omega)
      have hu := PcAt.made (r := gr2) (base := w.heap.size) hcam (fun h => by have := hgg h; have := (HO_wo2a.out.lt gr2 rfl).2; omega) hin hln hn9
      have HX1 := Lib.hid (show _ ∧ _ from ⟨ho1, hp1⟩)
      have HU := Lib.hid hu
      have HC1 := Lib.hid hc1
      have HG1 := Lib.hid (grow_trans HG_wo2a.out hg1)
      have hsz1 : w.heap.size ≤ wp3a.heap.size := HG1.out.size
      clear hcam hgg hin hc1 hg1 ho1 hp1 hu
      go_wp2_with (first | (at_builtin; refine wpList_append_own_at _ rfl _ _ 27 rfl w.heap.size 95 i0 (.slice none 0 0) 1 24 Tryz.underlying27 hi hz0 hz1 hz2 rfl (by decide) _ _ _ rfl (HX1.out.1.alloc _) ⟨wp3a.heap.size, 0, none⟩ 1 1 [.slice (some ad3a) n3a cp3a] rfl rfl (liesV_block (l := [.slice (some ad3a) n3a cp3a]) (t := 95) (fr := (0, 0)) (heap_alloc_new _ _)) (by simp [Value.oneCell']) ?c3 ?c4 ?c5 ?_) | go_in)
      case c3 => unfold maxLen; omega
      case c4 => omega
      case c5 => simp; omega
      intro v' wq3a hown4 hgrow _ hwhere
      obtain ⟨gr3a, cr3a, rfl⟩ := shp_row hown4
      have hlt4 := hown4.lt gr3a rfl
      have hal := World.grownBy_alloc wp3a (.cells #[.slice (some ad3a) n3a cp3a] 95) none
      have HO_wq3a := Lib.hid hown4
      have hwh : gr3a = gr2 ∨ (wp3a.alloc (.cells #[.slice (some ad3a) n3a cp3a] 95)).heap.size ≤ gr3a := hwhere.elim (fun h9 => .inl (Option.some.inj h9)) (fun h9 => .inr (by have h8 := Option.some.inj h9; simp at h8 ⊢; omega))
      have HP_wq3a := Lib.hid (pcs_snoc (us := [.slice (some ad1) n1 cp1, .slice (some ad2) n2 cp2]) (ps := [cs1, cs2]) rfl (fun j hj => ((HX1.out.2 j hj).kept0 hal).moved hgrow hwh) ((HU.out.kept0 hal).moved hgrow hwh))
      have HC_wq3a := Lib.hid ((HC1.out.alloc (.cells #[.slice (some ad3a) n3a cp3a] 95)).grown hgrow (fun j e => by have h9 : gr2 = j := Option.some.inj e; have := (HX1.out.1.lt gr2 rfl).1; omega))
      have HG_wq3a := Lib.hid (grow_new (grow_new HG1.out hal (fun j e => by cases e)) hgrow (fun j e => by have h9 : gr2 = j := Option.some.inj e; have := (HX1.out.1.lt gr2 rfl).1; omega))
      clear HX1 HU HC1 HG1 hown4 hgrow hwhere hwh hal hsz1 hs1
      have HR := Lib.hid (show GivesPs B g w (.returned (.slice (some ⟨gr3a, 0, none⟩) 3 cr3a)) wq3a from ⟨gr3a, cr3a, [.slice (some ad1) n1 cp1, .slice (some ad2) n2 cp2, .slice (some ad3a) n3a cp3a], [cs1, cs2, cs3a], rfl, by simp, HO_wq3a.out, HP_wq3a.out, HC_wq3a.out, HG_wq3a.out⟩)
      clear HO_wq3a HP_wq3a HC_wq3a HG_wq3a
      go_wp2
      go_ret
      exact HR.out
    | false =>
      have HR := Lib.hid (show GivesPs B g w (.returned (.slice (some ⟨gr2, 0, none⟩) 2 cr2)) wo2a from ⟨gr2, cr2, [.slice (some ad1) n1 cp1, .slice (some ad2) n2 cp2], [cs1, cs2], rfl, by simp, HO_wo2a.out, HP_wo2a.out, HC_wo2a.out, HG_wo2a.out⟩)
      clear HO_wo2a HP_wo2a HC_wo2a HG_wo2a
      go_wp2
      go_ret
      exact HR.out
  | false =>
    go_wp2_with fail
    refine (dOnce B g 20 wo1 HC_wo1.out (by omega) (by omega)).mono ?_
    rintro e wo2b ⟨bb2b, rfl, hc1, hg1⟩
    have hs1 := hg1.size
    have HO_wo2b := Lib.hid (HO_wo1.out.kept hg1 (.inr (by intro e; have h9 : r0 = g := Option.some.inj e; have := (HO_wo1.out.lt r0 rfl).1; omega)))
    have HP_wo2b := Lib.hid (fun j hj => (HP_wo1.out j hj).kept hg1 (by omega))
    have HC_wo2b := Lib.hid hc1
    have HG_wo2b := Lib.hid (grow_trans HG_wo1.out hg1)
    clear hc1 hg1 HO_wo1 HP_wo1 HC_wo1 HG_wo1
    cases bb2b with
    | true =>
      go_wp2_with fail
      refine (dAny B g wo2b HC_wo2b.out).mono ?_
      rintro e wp3b ⟨ad3b, gg3b, off3b, n3b, cp3b, cs3b, rfl, hcam, hgg, hcm, hin, hln, hn9, hc1, hg1⟩
      have hs1 := hg1.size
      have ho1 := HO_wo2b.out.kept hg1 (.inr (by intro e; have h9 : r0 = g := Option.some.inj e; have := (HO_wo2b.out.lt r0 rfl).1; omega))
      have hp1 := fun j hj => (HP_wo2b.out j hj).kept hg1 (by omega)
      have hu := PcAt.made (r := r0) (base := w.heap.size) hcam (fun h => by have := hgg h; have := (HO_wo2b.out.lt r0 rfl).2; omega) hin hln hn9
      have HX1 := Lib.hid (show _ ∧ _ from ⟨ho1, hp1⟩)
      have HU := Lib.hid hu
      have HC1 := Lib.hid hc1
      have HG1 := Lib.hid (grow_trans HG_wo2b.out hg1)
      have hsz1 : w.heap.size ≤ wp3b.heap.size := HG1.out.size
      clear hcam hgg hin hc1 hg1 ho1 hp1 hu
      go_wp2_with (first | (at_builtin; refine wpList_append_own_at _ rfl _ _ 27 rfl w.heap.size 95 i0 (.slice none 0 0) 1 24 Tryz.underlying27 hi hz0 hz1 hz2 rfl (by decide) _ _ _ rfl (HX1.out.1.alloc _) ⟨wp3b.heap.size, 0, none⟩ 1 1 [.slice (some ad3b) n3b cp3b] rfl rfl (liesV_block (l := [.slice (some ad3b) n3b cp3b]) (t := 95) (fr := (0, 0)) (heap_alloc_new _ _)) (by simp [Value.oneCell']) ?c3 ?c4 ?c5 ?_) | go_in)
      case c3 => unfold maxLen; omega
      case c4 => omega
      case c5 => simp; omega
      intro v' wq3b hown4 hgrow _ hwhere
      obtain ⟨gr3b, cr3b, rfl⟩ := shp_row hown4
      have hlt4 := hown4.lt gr3b rfl
      have hal := World.grownBy_alloc wp3b (.cells #[.slice (some ad3b) n3b cp3b] 95) none
      have HO_wq3b := Lib.hid hown4
      have hwh : gr3b = r0 ∨ (wp3b.alloc (.cells #[.slice (some ad3b) n3b cp3b] 95)).heap.size ≤ gr3b := hwhere.elim (fun h9 => .inl (Option.some.inj h9)) (fun h9 => .inr (by have h8 := Option.some.inj h9; simp at h8 ⊢; omega))
      have HP_wq3b := Lib.hid (pcs_snoc (us := [.slice (some ad1) n1 cp1]) (ps := [cs1]) rfl (fun j hj => ((HX1.out.2 j hj).kept0 hal).moved hgrow hwh) ((HU.out.kept0 hal).moved hgrow hwh))
      have HC_wq3b := Lib.hid ((HC1.out.alloc (.cells #[.slice (some ad3b) n3b cp3b] 95)).grown hgrow (fun j e => by have h9 : r0 = j := Option.some.inj e; have := (HX1.out.1.lt r0 rfl).1; omega))
      have HG_wq3b := Lib.hid (grow_new (grow_new HG1.out hal (fun j e => by cases e)) hgrow (fun j e => by have h9 : r0 = j := Option.some.inj e; have := (HX1.out.1.lt r0 rfl).1; omega))
      clear HX1 HU HC1 HG1 hown4 hgrow hwhere hwh hal hsz1 hs1
      have HR := Lib.hid (show GivesPs B g w (.returned (.slice (some ⟨gr3b, 0, none⟩) 2 cr3b)) wq3b from ⟨gr3b, cr3b, [.slice (some ad1) n1 cp1, .slice (some ad3b) n3b cp3b], [cs1, cs3b], rfl, by simp, HO_wq3b.out, HP_wq3b.out, HC_wq3b.out, HG_wq3b.out⟩)
      clear HO_wq3b HP_wq3b HC_wq3b HG_wq3b
      go_wp2
      go_ret
      exact HR.out
    | false =>
      have HR := Lib.hid (show GivesPs B g w (.returned (.slice (some ⟨r0, 0, none⟩) 1 1)) wo2b from ⟨r0, 1, [.slice (some ad1) n1 cp1], [cs1], rfl, by simp, HO_wo2b.out, HP_wo2b.out, HC_wo2b.out, HG_wo2b.out⟩)
      clear HO_wo2b HP_wo2b HC_wo2b HG_wo2b
      go_wp2
      go_ret
      exact HR.out

theorem psAt_of {w : World} {base gr cap : Nat} {us : List Value} {ps : List (List Cl)} (h : w.ownsRow base 95 1 (.slice (some ⟨gr, 0, none⟩) ps.length cap) ps.length us) (hp : ∀ j, j < ps.length → PcAt base gr w (us.getD j undef) (ps.getD j [])) : PsAt w.heap.size w (some ⟨gr, 0, none⟩) ps.length ps :=
  ⟨rfl, fun _ => ⟨gr, 0, rfl, (h.lt gr rfl).2, fun k hk => by
    obtain ⟨ad, gg, off, n, cap, hu, h1, h2, h3, h4, h5⟩ := hp k hk
    have c0 := h.cellAt k (by have := h.1; omega)
    have hl : k < us.length := by have := h.1; omega
    have e : us[k]'hl = us.getD k undef := by simp [List.getD, hl]
    refine ⟨some ad, cap, ?_, by rw [h4]; exact CellsAt.of_came h1 h3, by omega⟩
    rw [Nat.zero_add, h4, ← hu]
    simpa [List.getD, hl] using c0⟩⟩
theorem pcs_len {w : World} {base gr : Nat} {us : List Value} {ps : List (List Cl)} (hp : ∀ j, j < ps.length → PcAt base gr w (us.getD j undef) (ps.getD j [])) {j : Nat} (hj : j < ps.length) : (ps.getD j []).length ≤ 9 := by
  obtain ⟨ad, gg, off, n, cap, hu, h1, h2, h3, h4, h5⟩ := hp j hj
  omega
/-- A drawn region and drawn pieces. -/
def GivesAll7 (w : World) (e : Ending) (w' : World) : Prop := ∃ (W : Int) (M gg cap : Nat) (l : List Int) (gr cp : Nat) (ps : List (List Cl)), e = .returned (.tuple #[.agg #[.int .i64 W, .slice (some ⟨gg, 0, none⟩) M cap], .slice (some ⟨gr, 0, none⟩) ps.length cp]) ∧ M ≤ 8 ∧ (∀ z ∈ l, In64 z) ∧ w'.ownsRow w.heap.size 3 1 (.slice (some ⟨gg, 0, none⟩) M cap) M (iv l) ∧ PsAt w'.heap.size w' (some ⟨gr, 0, none⟩) ps.length ps ∧ ps.length ≤ 3 ∧ (∀ j, j < ps.length → (ps.getD j []).length ≤ 9) ∧ Below w.heap.size w w'
end

section
theorem fre_cons (F : Nat) (z : Int) (l : List Int) : ∀ k, fre F (z :: l) (k + 1) = fre (F - z.toNat) l k
  | 0 => rfl
  | k + 1 => by
    show fre F (z :: l) (k + 1) - atI (z :: l) (k + 1) = fre (F - z.toNat) l k - atI l k
    rw [fre_cons F z l k]
    rfl
theorem pT_cons (P : List Int) (F : Nat) (z : Int) (l : List Int) (j : Nat) : pT P F (z :: l) (j + 1) = pT P (F - z.toNat) l j := by
  unfold pT
  rw [fre_cons]
  rfl
theorem til_isTp {Q : List Nat} (hQ : ∀ m ∈ Q, m ≠ 0 ∧ m < 68719476736) : ∀ n f, f ≤ n → f < 68719476736 → ∀ t ∈ tilR Q f, isTp (ints Q) f (ints t) = true
  | n, f, hf, h36, t, ht => by
    by_cases h0 : f = 0
    · subst h0
      rw [tilR_zero] at ht
      rw [List.mem_singleton.1 ht]
      rfl
    · obtain ⟨m, r, rfl, hm, hfit, hr⟩ := til_mem h0 ht
      have h1 := fit_sub hfit
      cases n with
      | zero => omega
      | succ n =>
        have ih := til_isTp hQ n (f - m) (by omega) (by omega) r hr
        unfold isTp at ih ⊢
        rw [Bool.and_eq_true, decide_eq_true_eq] at ih ⊢
        have e1 : ints (m :: r) = (m : Int) :: ints r := rfl
        have e2 : ((m : Int)).toNat = m := by omega
        rw [e1]
        constructor
        · rw [allN_iff]
          intro j hj
          cases j with
          | zero =>
            refine pT_of (by show (0 : Int) ≤ (m : Int); omega) ?_ ?_ ?_
            · show subN ((m : Int)).toNat f
              rw [e2]
              exact (fit_parts hfit).2
            · show lowB ((m : Int)).toNat = lowB f
              rw [e2]
              exact fit_low hfit (by omega)
            · show (m : Int) ∈ ints Q
              exact List.mem_map_of_mem hm
          | succ j =>
            rw [pT_cons, e2]
            exact (allN_iff _ _).1 ih.1 j (by simp only [List.length_cons] at hj; omega)
        · show fre f ((m : Int) :: ints r) ((ints r).length + 1) = 0
          rw [fre_cons, e2]
          exact ih.2
theorem seg_nodup {Q : List Nat} {f : Nat} : ∀ C : List Nat, C.Nodup → (∀ m ∈ C, (tilR Q (f - m)).Nodup) → (segR Q C f).Nodup
  | [], _, _ => List.nodup_nil
  | m :: C, h, hC => by
    have e : segR Q (m :: C) f = (tilR Q (f - m)).map (m :: ·) ++ segR Q C f := by
      unfold segR
      rw [List.flatMap_cons]
    obtain ⟨h1, h2⟩ := List.nodup_cons.1 h
    rw [e, List.nodup_append]
    refine ⟨?_, seg_nodup C h2 (fun x hx => hC x (by simp [hx])), fun a ha b hb hab => ?_⟩
    · exact List.Pairwise.map _ (fun x y hxy h9 => hxy (List.cons.inj h9).2) (hC m (by simp))
    · subst hab
      obtain ⟨s, _, rfl⟩ := List.mem_map.1 ha
      unfold segR at hb
      obtain ⟨m', hm', hb⟩ := List.mem_flatMap.1 hb
      obtain ⟨s', _, e2⟩ := List.mem_map.1 hb
      have e3 : m' = m := (List.cons.inj e2).1
      subst e3
      exact h1 hm'
theorem til_nodup {Q : List Nat} (hQ : Q.Nodup) : ∀ n f, f ≤ n → (tilR Q f).Nodup
  | n, f, hf => by
    by_cases h0 : f = 0
    · subst h0
      rw [tilR_zero]
      simp
    · rw [tilR_step Q h0]
      refine seg_nodup _ (hQ.filter _) fun m hm => ?_
      have h1 := fit_sub (List.mem_filter.1 hm).2
      cases n with
      | zero => omega
      | succ n => exact til_nodup hQ n (f - m) (by omega)
theorem til_apart {Q : List Nat} (hQ : Q.Nodup) {f n : Nat} {s t : List Nat} (hn : 0 < n) (hs : (tilR Q f)[n - 1]? = some s) (ht : (tilR Q f)[n]? = some t) : s ≠ t := by
  intro e
  subst e
  have h1 := til_nodup hQ f f (Nat.le_refl _)
  obtain ⟨a1, a2⟩ := List.getElem?_eq_some_iff.1 hs
  obtain ⟨b1, b2⟩ := List.getElem?_eq_some_iff.1 ht
  have h2 := List.pairwise_iff_getElem.1 h1 (n - 1) n a1 b1 (by omega)
  exact h2 (by rw [a2, b2])
theorem ints_inj {a b : List Nat} (h : ints a = ints b) : a = b := by
  have h1 := congrArg (List.map Int.toNat) h
  unfold ints at h1
  rw [List.map_map, List.map_map] at h1
  have e : ∀ l : List Nat, l.map (Int.toNat ∘ fun (m : Nat) => (m : Int)) = l := fun l => by
    conv => rhs; rw [← List.map_id l]
    apply List.map_congr_left
    intro x _
    show ((x : Int)).toNat = x
    omega
  rw [e, e] at h1
  exact h1
theorem pQ_nodup (W : Int) (l : List Int) (ps : List (List Cl)) : (pQ W l ps).Nodup := by
  have h : SrtG ltI (apR W l ps) := by
    cases h : arePc ps with
    | false => rw [apR_no h]; exact List.Pairwise.nil
    | true => rw [apR_yes h]; exact ascI_srt _
  rw [← pQ_ints] at h
  unfold ints at h
  have h2 := List.pairwise_map.1 h
  exact h2.imp (fun {a b} hab e => by
    subst e
    unfold ltI at hab
    simp at hab)
/-! ### What the law says -/
theorem tilN_some {W : Int} {l : List Int} {ps : List (List Cl)} {n : Int} {t : List Nat} (h : tilN W l ps n = some t) : okT W l ps = true ∧ 0 ≤ n ∧ n ≤ 199 ∧ (tilR (pQ W l ps) (maskR W l))[n.toNat]? = some t := by
  unfold tilN at h
  split at h
  · rename_i h1
    exact ⟨h1.1, h1.2.1, h1.2.2, h⟩
  · cases h
theorem cov_is {W : Int} {l : List Int} {ps : List (List Cl)} {n : Int} {t : List Nat} (h : tilN W l ps n = some t) : isTil W l ps (ints t) = true := by
  obtain ⟨h1, _, _, h2⟩ := tilN_some h
  rw [isTil_p h1, ← pQ_ints]
  exact til_isTp (pQ_ok W l ps) _ _ (Nat.le_refl _) (maskR_lt W l) t (List.mem_of_getElem? h2)
theorem cov_more {W : Int} {l : List Int} {ps : List (List Cl)} {n : Int} {t : List Nat} (h : tilN W l ps n = some t) : n < cntT W l ps := by
  obtain ⟨h1, h2, h3, h4⟩ := tilN_some h
  obtain ⟨h5, _⟩ := List.getElem?_eq_some_iff.1 h4
  rw [cntT_yes h1]
  unfold cntR
  omega
theorem cov_none {W : Int} {l : List Int} {ps : List (List Cl)} {n : Int} (h : tilN W l ps n = none) (h0 : 0 ≤ n) (h1 : n ≤ 199) : cntT W l ps ≤ n := by
  cases h2 : okT W l ps with
  | false => rw [cntT_no h2]; omega
  | true =>
    obtain ⟨k, rfl⟩ : ∃ k : Nat, n = k := ⟨n.toNat, by omega⟩
    rw [tilN_yes h2 (by omega), List.getElem?_eq_none_iff] at h
    rw [cntT_yes h2]
    unfold cntR
    omega
theorem cov_has (W : Int) (l : List Int) (ps : List (List Cl)) : decide (0 < cntT W l ps) = (tilN W l ps 0).isSome := by
  cases h : tilN W l ps 0 with
  | none =>
    have := cov_none h (by omega) (by omega)
    rw [decide_eq_false (by omega)]
    rfl
  | some t =>
    have := cov_more h
    rw [decide_eq_true this]
    rfl
end

section
open Go.RowKit

set_option maxHeartbeats 4000000 in
set_option maxRecDepth 100000 in
theorem dReg8 (B g : Nat) (w : World) (hc : Cur B w g) :
    Calls Tryz.prog 88 #[.pointer (some ⟨g, 0, none⟩)] w (GivesR B g w) := by
  have hlt := hc.lt
  obtain ⟨hl1, hl2⟩ := hlt
  obtain ⟨rb, hrb⟩ : ∃ rb, w.heap.size = rb := ⟨_, rfl⟩
  have hres := RgAt.new (w := w) 0 (.slice none 0 0) hrb
  have HC := Lib.hid (hc.alloc (.cells #[.int .i64 0, .slice none 0 0] 26))
  have HG := Lib.hid (World.grownBy_alloc w (.cells #[.int .i64 0, .slice none 0 0] 26) (some g))
  have hsz : (w.alloc (.cells #[.int .i64 0, .slice none 0 0] 26)).heap.size = rb + 1 := by simp [hrb]
  clear hc
  go_enter Tryz.func88, Tryz.ntmps88
  go_wp2_with fail
  generalize (w.alloc (.cells #[.int .i64 0, .slice none 0 0] 26)) = W0 at *
  refine (dOnce B g 14 _ HC.out (by omega) (by omega)).mono ?_
  rintro e w1 ⟨b, rfl, hc1, hg1⟩
  have hr1 := hres.by hg1 (by intro e; injection e with e; omega)
  have HC1 := Lib.hid hc1
  have HG1 := Lib.hid (grow_trans HG.out hg1)
  have hs1 := hg1.size
  clear hc1 hg1 HC HG hres
  cases b with
  | true =>
    go_wp2_with fail
    refine (dAny6 B g w1 HC1.out).mono ?_
    rintro e w2 ⟨W, M, gg, cap, l, rfl, hM, hin, hown, hc2, hg2⟩
    have hr2 := hr1.by hg2 (by intro e; injection e with e; omega)
    have HG2 := Lib.hid (grow_trans HG1.out hg2)
    have HIN := Lib.hid hin
    have HC2 := Lib.hid hc2
    have HO2 := Lib.hid hown
    have hgl := hown.lt gg rfl
    have q0 := hr2.c0
    have q1 := hr2.c1
    have q2 := hr2.f 0
    have q3 := hr2.f 1
    clear hr1 hc2 hg2 HC1 HG1 hin hown
    go_wp2
    have R9 := hr2.set2 W (.slice (some ⟨gg, 0, none⟩) M cap)
    have e0 := R9.c0
    have e1 := R9.c1
    have HO9 := Lib.hid (own_below (own_off (b := rb) (o := 1) (u := .slice (some ⟨gg, 0, none⟩) M cap) (own_off (b := rb) (o := 0) (u := .int .i64 W) HO2.out (by omega)) (by omega)) (show w.heap.size ≤ w1.heap.size by omega))
    have HC9 := Lib.hid ((HC2.out.grown (grown_set1 w2 rb 0 (.int .i64 W)) (fun k h => by injection h with h; omega)).grown (grown_set1 _ rb 1 (.slice (some ⟨gg, 0, none⟩) M cap)) (fun k h => by injection h with h; omega))
    have HG9 := Lib.hid (grow_new (grow_new HG2.out (grown_set1 w2 rb 0 (.int .i64 W)) (fun k h => by injection h with h; omega)) (grown_set1 _ rb 1 (.slice (some ⟨gg, 0, none⟩) M cap)) (fun k h => by injection h with h; omega))
    generalize ((w2.setCell ⟨rb, 0, none⟩ (.int .i64 W)).setCell ⟨rb, 1, none⟩ (.slice (some ⟨gg, 0, none⟩) M cap)) = w9 at *
    exact bodyPost_ret (v := .agg #[.int .i64 W, .slice (some ⟨gg, 0, none⟩) M cap]) (by simp [results, Tryz.results88, go_sem, e0, e1]) rfl ⟨W, M, gg, cap, l, rfl, hM, HIN.out, HO9.out, HC9.out, HG9.out⟩
  | false =>
    go_wp2_with fail
    refine (dDrawK B g 4 (by omega) (by omega) w1 HC1.out).mono ?_
    rintro e w2 ⟨N, M, gg, cap, l, rfl, hM5, hrg, hown, hc2, hg2⟩
    have hM : 1 ≤ M ∧ M ≤ 8 := ⟨hM5.1, by omega⟩
    have hin : ∀ z ∈ l, In64 z := hrg.in64
    have hr2 := hr1.by hg2 (by intro e; injection e with e; omega)
    have HG2 := Lib.hid (grow_trans HG1.out hg2)
    have HIN := Lib.hid hin
    have HC2 := Lib.hid hc2
    have HO2 := Lib.hid hown
    have hgl := hown.lt gg rfl
    have q0 := hr2.c0
    have q1 := hr2.c1
    have q2 := hr2.f 0
    have q3 := hr2.f 1
    clear hr1 hc2 hg2 HC1 HG1 hin hown hrg
    obtain ⟨W, hW⟩ : ∃ W : Int, (N : Int) = W := ⟨_, rfl⟩
    rw [hW] at *
    clear hW
    go_wp2
    have R9 := hr2.set2 W (.slice (some ⟨gg, 0, none⟩) M cap)
    have e0 := R9.c0
    have e1 := R9.c1
    have HO9 := Lib.hid (own_below (own_off (b := rb) (o := 1) (u := .slice (some ⟨gg, 0, none⟩) M cap) (own_off (b := rb) (o := 0) (u := .int .i64 W) HO2.out (by omega)) (by omega)) (show w.heap.size ≤ w1.heap.size by omega))
    have HC9 := Lib.hid ((HC2.out.grown (grown_set1 w2 rb 0 (.int .i64 W)) (fun k h => by injection h with h; omega)).grown (grown_set1 _ rb 1 (.slice (some ⟨gg, 0, none⟩) M cap)) (fun k h => by injection h with h; omega))
    have HG9 := Lib.hid (grow_new (grow_new HG2.out (grown_set1 w2 rb 0 (.int .i64 W)) (fun k h => by injection h with h; omega)) (grown_set1 _ rb 1 (.slice (some ⟨gg, 0, none⟩) M cap)) (fun k h => by injection h with h; omega))
    generalize ((w2.setCell ⟨rb, 0, none⟩ (.int .i64 W)).setCell ⟨rb, 1, none⟩ (.slice (some ⟨gg, 0, none⟩) M cap)) = w9 at *
    exact bodyPost_ret (v := .agg #[.int .i64 W, .slice (some ⟨gg, 0, none⟩) M cap]) (by simp [results, Tryz.results88, go_sem, e0, e1]) rfl ⟨W, M, gg, cap, l, rfl, hM, HIN.out, HO9.out, HC9.out, HG9.out⟩

theorem PcAt.less {base base' r : Nat} {w : World} {u : Value} {l : List Cl} (h : PcAt base r w u l) (hb : base' ≤ base) : PcAt base' r w u l := by
  obtain ⟨ad, gg, off, n, cap, h1, h2, h3, h4⟩ := h
  exact ⟨ad, gg, off, n, cap, h1, h2, fun hc => ⟨Nat.le_trans hb (h3 hc).1, (h3 hc).2⟩, h4⟩
/-- A drawn region and drawn pieces. -/
def GivesRP (w : World) (e : Ending) (w' : World) : Prop := ∃ (W : Int) (M gg cap : Nat) (l : List Int) (gr cp : Nat) (us : List Value) (ps : List (List Cl)), e = .returned (.tuple #[.agg #[.int .i64 W, .slice (some ⟨gg, 0, none⟩) M cap], .slice (some ⟨gr, 0, none⟩) ps.length cp]) ∧ M ≤ 8 ∧ (∀ z ∈ l, In64 z) ∧ w'.ownsRow w.heap.size 3 1 (.slice (some ⟨gg, 0, none⟩) M cap) M (iv l) ∧ w'.ownsRow w.heap.size 95 1 (.slice (some ⟨gr, 0, none⟩) ps.length cp) ps.length us ∧ (∀ j, j < ps.length → PcAt w.heap.size gr w' (us.getD j undef) (ps.getD j [])) ∧ ps.length ≤ 3 ∧ Below w.heap.size w w'

set_option maxHeartbeats 4000000 in
set_option maxRecDepth 100000 in
theorem dBoth8 (a : Option Addr) (len cap : Nat) (w : World) (hc : Code w.heap.size w a len cap) (hl : len ≤ 1048576) :
    Calls Tryz.prog 52 #[.slice a len cap] w (GivesRP w) := by
  obtain ⟨rb, hrb⟩ : ∃ rb, w.heap.size = rb := ⟨_, rfl⟩
  have hres := RgAt.new (w := w) 0 (.slice none 0 0) hrb
  have hb0 := (Below.refl w.heap.size w).alloc (Nat.le_refl _) (.cells #[.int .i64 0, .slice none 0 0] 26)
  have hsz : (w.alloc (.cells #[.int .i64 0, .slice none 0 0] 26)).heap.size = rb + 1 := by simp [hrb]
  have HC := Lib.hid (hc.on hb0)
  clear hc
  go_enter Tryz.func52, Tryz.ntmps52
  go_wp2_with fail
  generalize (w.alloc (.cells #[.int .i64 0, .slice none 0 0] 26)) = W0 at *
  have HB := Lib.hid hb0
  clear hb0
  refine (dNew w.heap.size a len cap W0 HC.out hl (by omega)).mono ?_
  rintro e w1 ⟨rfl, hc1, hg1⟩
  have hr1 := hres.by hg1 (by intro e; cases e)
  have HB1 := Lib.hid (HB.out.grown hg1 (by omega) (fun k h => by cases h))
  have hs1 := hg1.size
  rw [hsz] at hc1 ⊢
  have hlt1 := hc1.lt
  clear hres HC HB hg1
  obtain ⟨cg, hcg⟩ : ∃ cg, rb + 1 = cg := ⟨_, rfl⟩
  rw [hcg] at hc1 hlt1 ⊢
  go_wp2_with fail
  refine (dReg8 w.heap.size cg w1 hc1).mono ?_
  rintro e w2 ⟨W, M, gg, cp, l, rfl, hM, hin, hown, hc2, hg2⟩
  have hr2 := hr1.by hg2 (by intro e; injection e with e; omega)
  have HC2 := Lib.hid hc2
  have HB2 := Lib.hid (HB1.out.grown hg2 (by omega) (fun k h => by injection h with h; omega))
  have hs2 := hg2.size
  have ht2 := hown.lt gg rfl
  have HIN := Lib.hid hin
  clear hr1 hc1 hg2 hc2 HB1 hin
  obtain ⟨vb, hvb⟩ : ∃ vb, w2.heap.size = vb := ⟨_, rfl⟩
  have HV3 := Lib.hid (RgAt.new (w := w2) W (.slice (some ⟨gg, 0, none⟩) M cp) hvb)
  have HR3 := Lib.hid (hr2.alloc (.cells #[.int .i64 W, .slice (some ⟨gg, 0, none⟩) M cp] 26))
  have HC3 := Lib.hid (HC2.out.alloc (.cells #[.int .i64 W, .slice (some ⟨gg, 0, none⟩) M cp] 26))
  have HB3 := Lib.hid (HB2.out.alloc (by omega) (.cells #[.int .i64 W, .slice (some ⟨gg, 0, none⟩) M cp] 26))
  have HO3 := Lib.hid (own_below (hown.alloc (.cells #[.int .i64 W, .slice (some ⟨gg, 0, none⟩) M cp] 26)) (show cg + 1 ≤ w1.heap.size by omega))
  have hs3 : (w2.alloc (.cells #[.int .i64 W, .slice (some ⟨gg, 0, none⟩) M cp] 26)).heap.size = vb + 1 := by simp [hvb]
  have hgv : gg ≠ vb := by omega
  have hgc : gg ≠ cg := by omega
  have hvc : cg < vb := by omega
  have hrv : rb ≠ vb := by omega
  clear hr2 HC2 HB2 hown
  go_wp2_with fail
  generalize (w2.alloc (.cells #[.int .i64 W, .slice (some ⟨gg, 0, none⟩) M cp] 26)) = w3 at *
  have HVD := Lib.hid (show RgAt w3.drew vb W (.slice (some ⟨gg, 0, none⟩) M cp) from HV3.out)
  have HRD := Lib.hid (show RgAt w3.drew rb 0 (.slice none 0 0) from HR3.out)
  have HOD := Lib.hid (show w3.drew.ownsRow (cg + 1) 3 1 (.slice (some ⟨gg, 0, none⟩) M cp) M (iv l) from HO3.out)
  have HCD := Lib.hid (show Cur w.heap.size w3.drew cg from HC3.out)
  have HBD := Lib.hid (HB3.out.drew)
  have c0 := HV3.out.c0
  have c1 := HV3.out.c1
  have hsD : w3.drew.heap.size = w3.heap.size := rfl
  clear HV3 HR3 HO3 HC3 HB3
  (try go_wp2_with fail)
  go_region_with (go_at_call 89; refine (dPieces7 w.heap.size cg _ HCD.out).mono ?_; rintro e w7 ⟨gr, cp2, us, ps, rfl, hps3, hrow, hpcs, hc7, hg7⟩; have hv7 := RgAt.by (w := w3.drew) HVD.out hg7 (by intro e; injection e with e; omega); have hr7 := RgAt.by (w := w3.drew) HRD.out hg7 (by intro e; injection e with e; omega); have ho7 := World.ownsRow.kept (w := w3.drew) HOD.out hg7 (.inr (by intro e; have h9 : gg = cg := Option.some.inj e; omega)); have d0 := hv7.c0; have d1 := hv7.c1; have d2 := hr7.c0; have d3 := hr7.c1; have d4 := hr7.f 0; have d5 := hr7.f 1)
  all_goals
    have HBE := Lib.hid (HBD.out.grown hg7 (by omega) (fun k h => by injection h with h; omega))
    have HR7 := Lib.hid hr7
    have HO7 := Lib.hid (own_below ho7 (show rb + 1 ≤ cg + 1 by omega))
    have hrb9 : rb < w3.drew.heap.size := by omega
    have HW7 := Lib.hid (own_off (b := rb) (o := 1) (u := .slice (some ⟨gg, 0, none⟩) M cp) (own_off (b := rb) (o := 0) (u := .int .i64 W) hrow hrb9) hrb9)
    have HP7 := Lib.hid (fun j hj => ((hpcs j hj).kept (grownBy_put w7 rb 0 (.int .i64 W)) hrb9).kept (grownBy_put (w7.setCell ⟨rb, 0, none⟩ (.int .i64 W)) rb 1 (.slice (some ⟨gg, 0, none⟩) M cp)) hrb9)
    clear hr7 ho7 hv7 hc7 hg7 hrow hpcs HVD HRD HOD HCD HBD
    try simp only [Exit.then]
    go_wp2
    have R9 := HR7.out.set2 (W) (.slice (some ⟨gg, 0, none⟩) M cp)
    have e0 := R9.c0
    have e1 := R9.c1
    have HA9 := Lib.hid (own_below (own_off (b := rb) (o := 1) (u := .slice (some ⟨gg, 0, none⟩) M cp) (own_off (b := rb) (o := 0) (u := .int .i64 (W)) HO7.out (by omega)) (by omega)) (show w.heap.size ≤ rb + 1 by omega))
    have HB9 := Lib.hid ((HBE.out.setCell (p := ⟨rb, 0, none⟩) (by show w.heap.size ≤ rb; omega) (.int .i64 (W))).setCell (p := ⟨rb, 1, none⟩) (by show w.heap.size ≤ rb; omega) (.slice (some ⟨gg, 0, none⟩) M cp))
    generalize ((w7.setCell ⟨rb, 0, none⟩ (.int .i64 (W))).setCell ⟨rb, 1, none⟩ (.slice (some ⟨gg, 0, none⟩) M cp)) = w9 at *
    exact bodyPost_ret (v := .tuple #[.agg #[.int .i64 W, .slice (some ⟨gg, 0, none⟩) M cp], .slice (some ⟨gr, 0, none⟩) ps.length cp2]) (by simp [results, Tryz.results52, go_sem, e0, e1]) rfl ⟨W, M, gg, cp, l, gr, cp2, us, ps, rfl, hM.2, HIN.out, HA9.out, own_below HW7.out (show w.heap.size ≤ w3.drew.heap.size by omega), fun j hj => (HP7.out j hj).less (show w.heap.size ≤ w3.drew.heap.size by omega), hps3, HB9.out⟩
end

end Go.Proofs.YtkjlmgkjcmebbaaGreatDoor
