/-
  Neighbouring shapes that are equal taken out of a slice of shapes, in the library's slices.CompactFunc: what the call gives.
  Shapes compared, in the program: what the call gives, and that memory only grows.
-/
import Derived.Test.YtkcclhnligajeaaGreatDoorVab
import Derived.Test.YtkcclhnligajeaaGreatDoorVai
import Derived.Test.YtkcclhnligajeaaGreatDoorVax
import Derived.Shelf.Abstract
import Derived.BigQuiet
import Derived.Test.YtkcclhnligajeaaGreatDoorVas
import Derived.Test.YtkcclhnligajeaaGreatDoorVad
namespace Go.Proofs.YtkcclhnligajeaaGreatDoor

section
open Go.RowKit

def dedE (es : List Ent) : List Ent := dedK kE dE es es.length
theorem ev_map_set (L : List Ent) (k : Nat) (e : Ent) : (L.map ev).set k (ev e) = (L.set k e).map ev := by rw [List.map_set]
theorem zero_shps (n : Nat) : (Builtin.zeroCells (Value.slice none 0 0).cells n).toList = List.replicate n (.slice none 0 0) := by
  unfold Builtin.zeroCells
  apply List.ext_getElem?
  intro j
  by_cases hj : j < n
  · simp [Value.cells, hj, Nat.mod_one]
  · rw [List.getElem?_eq_none (by simp [Value.cells]; omega), List.getElem?_eq_none (by simp; omega)]
theorem run_clear_shps {w : World} {B n g cap kk c : Nat} {xs : List Value} (ty : TypeId) (h : w.ownsRow B 76 1 (.slice (some ⟨g, 0, none⟩) n cap) n xs) (hk : kk < n) :
    (Builtin.clear_ #[27] ty #[.slice (some ⟨g, kk, none⟩) (n - kk) c]).run Tryz.prog w = .ok (.tuple #[]) (w.setCells g kk (List.replicate (n - kk) (.slice none 0 0))) := by
  have hl : xs.length = n := by have := h.1; omega
  have hst := run_storeCells_cells (P := Tryz.prog) g kk (List.replicate (n - kk) (.slice none 0 0)) 0 w
    (fun j hj => by
      rw [List.length_replicate] at hj
      rw [Nat.add_zero, h.cellAt (kk + j) (by omega)]
      have : kk + j < xs.length := by omega
      simp [this])
    (fun j hj => by rw [Nat.add_zero]; exact h.frozenAt _) (fun u hu => by rw [List.eq_of_mem_replicate hu]; rfl)
  simp only [Nat.add_zero] at hst
  obtain ⟨m, hm⟩ : ∃ m, n - kk = m + 1 := ⟨n - kk - 1, by omega⟩
  rw [hm] at hst ⊢
  simp [Builtin.clear_, run_underlying Tryz.underlying27, Tryz.zeroValue76, zero_shps, hst]

theorem run_store_ev {w : World} {g kk : Nat} {u : Value} (e : Ent) (q2 : w.cell? ⟨g, kk, none⟩ = some u) (q3 : w.frozen? ⟨g, kk, none⟩ = false) :
    (storeCells ⟨g, kk, none⟩ [ev e]).run Tryz.prog w = .ok () (w.setCell ⟨g, kk, none⟩ (ev e)) := by
  have hst := run_storeCells_cells (P := Tryz.prog) g kk [ev e] 0 w
    (fun j hj => by
      have h0 : j = 0 := by simpa using hj
      subst h0
      simp [q2])
    (fun j hj => by
      have h0 : j = 0 := by simpa using hj
      subst h0
      simpa using q3) (fun u hu => by rw [List.mem_singleton] at hu; subst hu; rfl)
  simp only [Nat.add_zero] at hst
  exact hst
theorem iEqE (w : World) {B : Nat} {es : List Ent} (h : EachS B w es) (hs : SmallS es) {e f : Ent} (he : e ∈ es) (hf : f ∈ es) :
    Calls Tryz.prog 168 #[ev e, ev f] w fun x w' => x = .returned (.bool (decide (kE e = kE f))) ∧ Below w.heap.size w w' :=
  iEqual_any w.heap.size e.2.2.length f.2.2.length e.2.1 f.2.1 (some ⟨e.1, 0, none⟩) (some ⟨f.1, 0, none⟩) e.2.2 f.2.2 w (hs e he).1 (hs f hf).1 (h.cells hs he) (h.cells hs hf) (Nat.le_refl _)

set_option maxHeartbeats 1500000 in
set_option maxRecDepth 100000 in
theorem iCompactS (B n g cap : Nat) (es : List Ent) (w : World) (hn : n ≤ 4194304) (hB : B ≤ w.heap.size) (hl : es.length = n) (hown : OwnS B w (.slice (some ⟨g, 0, none⟩) n cap) es) (hsm : SmallS es) :
    Calls Tryz.prog 167 #[.slice (some ⟨g, 0, none⟩) n cap, .func (.func 168) #[] #[]] w fun e w' => ∃ k, e = .returned (.slice (some ⟨g, 0, none⟩) k cap) ∧ k = (dedE es).length ∧ OwnS B w' (.slice (some ⟨g, 0, none⟩) k cap) (dedE es) ∧ Below B w w' := by
  have eg : ∀ args w, (callFunc 168 args).run Tryz.prog w = .ok (.enter 168 args) w := enters_of Tryz.func168 (by kernel_rfl) rfl
  have hgB := hown.row.lt g rfl
  have hrow : w.ownsRow B 76 1 (.slice (some ⟨g, 0, none⟩) n cap) n (es.map ev) := by have := hown.row; rwa [hl] at this
  have hcapn := row1_le hrow
  have hoff : OffS g es := fun e he h2 => hown.off e he (by rw [h2]; rfl)
  have HL := Lib.hid hl
  have HSM := Lib.hid hsm
  have HOFF := Lib.hid hoff
  have HAP := Lib.hid hown.apart
  have HO := Lib.hid hown
  have HR := Lib.hid hrow
  clear hown hl hsm hoff hrow
  by_cases h2 : n < 2
  · have hd : dedE es = es := by
      unfold dedE
      rw [dedK_upto (Nat.le_refl _) (fun j h3 h4 => by have := HL.out; omega) es.length (Nat.le_refl _), List.take_length]
    have HD := Lib.hid hd
    have h2i : (n : Int) < 2 := by omega
    clear hd
    go_enter Tryz.func167, Tryz.ntmps167
    go_wp2
    go_ret
    rw [HD.out]
    exact ⟨n, rfl, HL.out.symm, HO.out, Below.refl _ _⟩
  · have h2i : ¬ (n : Int) < 2 := by omega
    go_enter Tryz.func167, Tryz.ntmps167
    go_wp2
    go_loopw [5] (fun i wr => ∃ k : Nat, 1 ≤ k ∧ k ≤ n ∧ i = .int .i64 k ∧ Hid (∀ j, 0 < j → j < k → kE (es.getD j dE) ≠ kE (es.getD (j - 1) dE)) ∧ Below w.heap.size w wr) (fun i _ => n - (intOf i).toNat)
    case atStart => exact ⟨1, by omega, by omega, rfl, fun j h3 h4 => by omega, Below.refl _ _⟩
    case round =>
      obtain ⟨k, hk1, hk, rfl, hall, hb⟩ := hrel
      have hsz := hb.size
      have HEA := Lib.hid (HO.out.each.on hb)
      have HRW := Lib.hid (HR.out.kept (grow_below hb none) (.inr (by intro e; cases e)))
      by_cases hlt : k < n
      · have hm1 : es.getD k dE ∈ es := ent_mem (by rw [HL.out]; exact hlt)
        have hm2 : es.getD (k - 1) dE ∈ es := ent_mem (by rw [HL.out]; omega)
        have p1 := HRW.out.cellAt k (by omega)
        have p2 := HRW.out.cellAt (k - 1) (by omega)
        rw [evs_get (by rw [HL.out]; exact hlt)] at p1
        rw [evs_get (by rw [HL.out]; omega)] at p2
        generalize hX : es.getD k dE = X at hm1 p1
        generalize hY : es.getD (k - 1) dE = Y at hm2 p2
        have HX := Lib.hid hX
        have HY := Lib.hid hY
        have HEQ := Lib.hid (fun w' (h9 : Below wr.heap.size wr w') => iEqE w' (HEA.out.on h9) HSM.out hm1 hm2)
        have hb9 := Below.refl wr.heap.size wr
        have hk0 : (0 : Int) ≤ (k : Int) := by omega
        have hk1i : (k : Int) < (n : Int) := by omega
        have hj0 : (1 : Int) ≤ (k : Int) := by omega
        have hj2 : (k : Int) - 1 < (n : Int) := by omega
        have hj3 : (0 : Int) ≤ (k : Int) - 1 := by omega
        have hj4 : ((k : Int) - 1).toNat = k - 1 := by omega
        have hjw : IntKind.i64.wrap ((k : Int) - 1) = (k : Int) - 1 := IntWalk.i64_in _ (by omega)
        have hkc : (k : Int) ≤ (cap : Int) := by omega
        have hck : ¬ cap = k := by omega
        clear hX hY hm1 hm2
        have hgW : g < wr.heap.size := by omega
        cases hcs : decide (kE X = kE Y) with
        | true =>
          have HCS := Lib.hid hcs
          rw [hcs] at HEQ
          clear hcs
          go_wp2_with fail
          go_region_held3 (fun w' => w'.cell? ⟨g, k, none⟩ = some (ev X) ∧ w'.cell? ⟨g, k - 1, none⟩ = some (ev Y))
            (first | go_keep | exact ⟨(hbw.cell (p := ⟨g, k, none⟩) hgW).trans p1, (hbw.cell (p := ⟨g, k - 1, none⟩) hgW).trans p2⟩)
            (first | (go_at_fn 168; refine (HEQ.out _ (by first | exact hb9 | exact hb9.drew)).mono ?_; rintro e w1 ⟨rfl, hbe⟩; have hbw : Below wr.heap.size wr w1 := by first | exact hb9.trans hbe | exact hb9.drew.trans hbe))
          all_goals
            have hdup : kE (es.getD k dE) = kE (es.getD (k - 1) dE) := by rw [HX.out, HY.out]; exact of_decide_eq_true HCS.out
            have hstart : CptK kE dE es es (k + 1) k := by
              have e1 : dedK kE dE es (k + 1) = es.take k := by
                rw [dedK_skip ⟨by omega, hdup⟩]
                exact dedK_upto (by rw [HL.out]; omega) hall.out k (Nat.le_refl _)
              exact ⟨rfl, e1.symm, by rw [e1, List.length_take, HL.out]; omega, by omega, fun j _ => rfl⟩
            have HST := Lib.hid hstart
            have HB1 := Lib.hid (hb.trans (hbw.mono hsz))
            have HR1 := Lib.hid (HRW.out.kept (grow_below hbw none) (.inr (by intro e; cases e)))
            have HE1 := Lib.hid (HEA.out.on hbw)
            clear hdup hstart p1 p2 hall hj0 hj2 hj3 hj4 hjw HX HY HEQ HCS hb9 hbw hbe hgW HRW HEA hb hsz
            (try simp only [Exit.then])
            go_wp2
            go_loopw [5, 7] (fun s3 s5 wr => ∃ (kk k2 : Nat) (L : List Ent), s3 = .int .i64 kk ∧ s5 = .int .i64 k2 ∧ 1 ≤ k2 ∧ k + k2 ≤ n ∧ Hid (CptK kE dE es L (k + k2) kk) ∧ Hid (wr.ownsRow B 76 1 (.slice (some ⟨g, 0, none⟩) n cap) n (L.map ev)) ∧ Hid (EachS B wr es) ∧ B ≤ wr.heap.size ∧ Below B w wr) (fun _ s5 _ => n - (k + (intOf s5).toNat))
            case atStart => exact ⟨k, 1, es, rfl, rfl, by omega, by omega, HST.out, HR1.out, HE1.out, Nat.le_trans hB HB1.out.size, HB1.out.mono hB⟩
            case round =>
              obtain ⟨kk, k2, L, rfl, rfl, h1, hle, hcp, hrow, hea, hBz, hb⟩ := hrel
              have hkk := hcp.out.lt
              have hLl : L.length = n := by rw [hcp.out.len]; exact HL.out
              have hgW : g < wr.heap.size := (hrow.out.lt g rfl).2
              by_cases hlt2 : k + k2 < n
              · have r1 := hcp.out.rest (k + k2) (by omega)
                have r2 := hcp.out.rest (k + (k2 - 1)) (by omega)
                have hm1 : es.getD (k + k2) dE ∈ es := ent_mem (by rw [HL.out]; exact hlt2)
                have hm2 : es.getD (k + (k2 - 1)) dE ∈ es := ent_mem (by rw [HL.out]; omega)
                have p1 := hrow.out.cellAt (k + k2) (by omega)
                have p2 := hrow.out.cellAt (k + (k2 - 1)) (by omega)
                have o1 := hrow.out.cellAt kk (by omega)
                rw [evs_get (by omega), r1] at p1
                rw [evs_get (by omega), r2] at p2
                rw [evs_get (by omega)] at o1
                have hpe : k + (k2 - 1) = k + k2 - 1 := by omega
                have HPE := Lib.hid hpe
                generalize hX : es.getD (k + k2) dE = X at hm1 p1
                generalize hY : es.getD (k + (k2 - 1)) dE = Y at hm2 p2
                generalize hZ : L.getD kk dE = Z at o1
                obtain ⟨bx, cx, lx⟩ := X
                change _ = some (Value.slice (some ⟨bx, 0, none⟩) lx.length cx) at p1
                have HX := Lib.hid hX
                have HY := Lib.hid hY
                have HEQ := Lib.hid (fun w' (h9 : Below wr.heap.size wr w') => show Calls Tryz.prog 168 #[.slice (some ⟨bx, 0, none⟩) lx.length cx, ev Y] w' (fun x w2 => x = .returned (.bool (decide (kE (bx, cx, lx) = kE Y))) ∧ Below w'.heap.size w' w2) from iEqE w' (hea.out.on h9) HSM.out hm1 hm2)
                have hb9 := Below.refl wr.heap.size wr
                have hj0 : (1 : Int) ≤ (k2 : Int) := by omega
                have hj1 : (k2 : Int) < ((n - k : Nat) : Int) := by omega
                have hj2 : (k2 : Int) - 1 < ((n - k : Nat) : Int) := by omega
                have hj3 : (0 : Int) ≤ (k2 : Int) - 1 := by omega
                have hj4 : ((k2 : Int) - 1).toNat = k2 - 1 := by omega
                have hj5 : (0 : Int) ≤ (k2 : Int) := by omega
                have hjw : IntKind.i64.wrap ((k2 : Int) - 1) = (k2 : Int) - 1 := IntWalk.i64_in _ (by omega)
                have hk20 : (0 : Int) ≤ (kk : Int) := by omega
                have hk2n : (kk : Int) < (n : Int) := by omega
                have f1 := hrow.out.frozenAt kk
                clear hX hY hZ hm1 hm2 r1 r2 hpe
                cases hcs2 : decide (kE (bx, cx, lx) = kE Y) with
                | true =>
                  have HCS := Lib.hid hcs2
                  rw [hcs2] at HEQ
                  clear hcs2
                  go_wp2_with fail
                  go_region_held3 (fun w' => w'.cell? ⟨g, k + k2, none⟩ = some (.slice (some ⟨bx, 0, none⟩) lx.length cx) ∧ w'.cell? ⟨g, k + (k2 - 1), none⟩ = some (ev Y))
                    (first | go_keep | exact ⟨(hbw.cell (p := ⟨g, k + k2, none⟩) hgW).trans p1, (hbw.cell (p := ⟨g, k + (k2 - 1), none⟩) hgW).trans p2⟩)
                    (first | (go_at_fn 168; refine (HEQ.out _ (by first | exact hb9 | exact hb9.drew)).mono ?_; rintro e w1 ⟨rfl, hbe⟩; have hbw : Below wr.heap.size wr w1 := by first | exact hb9.trans hbe | exact hb9.drew.trans hbe))
                  all_goals
                    have he : 0 < k + k2 ∧ kE (es.getD (k + k2) dE) = kE (es.getD (k + k2 - 1) dE) := ⟨by omega, by rw [← HPE.out, HX.out, HY.out]; exact of_decide_eq_true HCS.out⟩
                    have HK := Lib.hid (hcp.out.skip he)
                    have HBN := Lib.hid (hb.trans (hbw.mono hBz))
                    have HRN := Lib.hid (hrow.out.kept (grow_below hbw none) (.inr (by intro e; cases e)))
                    have HEN := Lib.hid (hea.out.on hbw)
                    have hBz2 : B ≤ w1.heap.size := Nat.le_trans hBz hbw.size
                    clear he p1 p2 o1 f1 HEQ hb9 hbw hbe hj0 hj1 hj2 hj3 hj4 hj5 hjw hk20 hk2n hrow hea hcp hb HX HY HCS HPE
                    (try simp only [Exit.then])
                    go_wp2
                    go_roundw
                    case rel => first | exact ⟨kk, k2 + 1, L, rfl, by go_num, by omega, by omega, HK.out, HRN.out, HEN.out, hBz2, HBN.out⟩ | ((repeat apply Exists.intro); exact ⟨⟨kk, k2 + 1, L, rfl, by go_num, by omega, by omega, HK.out, HRN.out, HEN.out, hBz2, HBN.out⟩, rfl⟩)
                    case measure => simp [intOf]; omega
                | false =>
                  have HCS := Lib.hid hcs2
                  rw [hcs2] at HEQ
                  clear hcs2
                  go_wp2_with fail
                  go_region_held3 (fun w' => w'.cell? ⟨g, k + k2, none⟩ = some (.slice (some ⟨bx, 0, none⟩) lx.length cx) ∧ w'.cell? ⟨g, k + (k2 - 1), none⟩ = some (ev Y))
                    (first | go_keep | exact ⟨(hbw.cell (p := ⟨g, k + k2, none⟩) hgW).trans p1, (hbw.cell (p := ⟨g, k + (k2 - 1), none⟩) hgW).trans p2⟩)
                    (first | (go_at_fn 168; refine (HEQ.out _ (by first | exact hb9 | exact hb9.drew)).mono ?_; rintro e w1 ⟨rfl, hbe⟩; have hbw : Below wr.heap.size wr w1 := by first | exact hb9.trans hbe | exact hb9.drew.trans hbe))
                  all_goals
                    have hne : ¬ (0 < k + k2 ∧ kE (es.getD (k + k2) dE) = kE (es.getD (k + k2 - 1) dE)) := by
                      rintro ⟨_, h9⟩
                      rw [← HPE.out, HX.out, HY.out] at h9
                      exact of_decide_eq_false HCS.out h9
                    have hkeep := hcp.out.keep (by rw [HL.out]; exact hlt2) hne
                    rw [HX.out] at hkeep
                    have HK := Lib.hid hkeep
                    have hrn := hrow.out.kept (grow_below hbw none) (.inr (by intro e; cases e))
                    have hs1 := hrn.stored kk (ev (bx, cx, lx))
                    have hO := hs1.1
                    rw [ev_map_set] at hO
                    have HOO := Lib.hid hO
                    have HEN := Lib.hid ((hea.out.on hbw).by hs1.2 HOFF.out)
                    have HBN := Lib.hid ((hb.trans (hbw.mono hBz)).setCell (p := ⟨g, kk, none⟩) hgB.1 (ev (bx, cx, lx)))
                    have hBz2 : B ≤ (w1.setCell ⟨g, kk, none⟩ (ev (bx, cx, lx))).heap.size := Nat.le_trans (Nat.le_trans hBz hbw.size) (by simp [World.setCell])
                    have q1 := (hbw.cell (p := ⟨g, k + k2, none⟩) hgW).trans p1
                    have q2 := (hbw.cell (p := ⟨g, kk, none⟩) hgW).trans o1
                    have q3 := hrn.frozenAt kk
                    clear hne hkeep hrn hs1 hO p1 p2 o1 f1 HEQ hb9 hbw hbe hrow hea hcp hb HX HY HCS HPE
                    (try simp only [Exit.then])
                    go_wp2
                    go_roundw
                    case rel => first | exact ⟨kk + 1, k2 + 1, _, by go_num, by go_num, by omega, by omega, HK.out, HOO.out, HEN.out, hBz2, HBN.out⟩ | ((repeat apply Exists.intro); exact ⟨⟨kk + 1, k2 + 1, _, by go_num, by go_num, by omega, by omega, HK.out, HOO.out, HEN.out, hBz2, HBN.out⟩, rfl⟩)
                    case measure => simp [intOf]; omega
              · have hend : k + k2 = n := by omega
                have hcl : ∀ ty, (Builtin.clear_ #[27] ty #[.slice (some ⟨g, kk, none⟩) (n - kk) (cap - kk)]).run Tryz.prog wr = .ok (.tuple #[]) (wr.setCells g kk (List.replicate (n - kk) (.slice none 0 0))) := fun ty => run_clear_shps ty hrow.out (by omega)
                have hck : ¬ cap = kk := by omega
                have hkn : (kk : Int) ≤ (n : Int) := by omega
                have hkc2 : (kk : Int) ≤ (cap : Int) := by omega
                have hkk0 : (0 : Int) ≤ (kk : Int) := by omega
                have hd : dedE es = L.take kk := by
                  rw [hcp.out.kept, hend, ← HL.out]
                  rfl
                have hks : kk = (dedE es).length := by
                  rw [hd, List.length_take]
                  omega
                have hsub : (dedE es).Sublist es := by
                  have := dedK_sub (key := kE) (d := dE) es es.length (Nat.le_refl _)
                  rwa [List.take_length] at this
                have hO := row1_fars (List.replicate (n - kk) (Value.slice none 0 0)) kk wr (row1_take hrow.out (k := kk) (by omega)) (Nat.le_refl _)
                rw [← List.map_take, ← hd] at hO
                have hfin : OwnS B (wr.setCells g kk (List.replicate (n - kk) (.slice none 0 0))) (.slice (some ⟨g, 0, none⟩) kk cap) (dedE es) :=
                  ⟨by rw [← hks]; exact hO, (hea.out.by (grown_sets1 _ _ _) HOFF.out).sub (fun e he => hsub.subset he), HAP.out.sublist hsub, fun e he h9 => by injection h9 with h9; exact HOFF.out e (hsub.subset he) h9.symm⟩
                have HOO := Lib.hid hfin
                have HKS := Lib.hid hks
                have HBB := Lib.hid (below_sets1 hgB.1 (List.replicate (n - kk) (Value.slice none 0 0)) kk wr hb)
                clear hO hks hd hend hsub hfin hrow hea hcp
                go_wp2
                go_ret
                exact ⟨kk, rfl, HKS.out, HOO.out, HBB.out⟩
        | false =>
          have HCS := Lib.hid hcs
          rw [hcs] at HEQ
          clear hcs
          go_wp2_with fail
          go_region_held3 (fun w' => w'.cell? ⟨g, k, none⟩ = some (ev X) ∧ w'.cell? ⟨g, k - 1, none⟩ = some (ev Y))
            (first | go_keep | exact ⟨(hbw.cell (p := ⟨g, k, none⟩) hgW).trans p1, (hbw.cell (p := ⟨g, k - 1, none⟩) hgW).trans p2⟩)
            (first | (go_at_fn 168; refine (HEQ.out _ (by first | exact hb9 | exact hb9.drew)).mono ?_; rintro e w1 ⟨rfl, hbe⟩; have hbw : Below wr.heap.size wr w1 := by first | exact hb9.trans hbe | exact hb9.drew.trans hbe))
          all_goals
            have hnd : kE (es.getD k dE) ≠ kE (es.getD (k - 1) dE) := by rw [HX.out, HY.out]; exact of_decide_eq_false HCS.out
            have HND := Lib.hid (show ∀ j, 0 < j → j < k + 1 → kE (es.getD j dE) ≠ kE (es.getD (j - 1) dE) from fun j h3 h4 => by
              by_cases e : j = k
              · rw [e]; exact hnd
              · exact hall.out j h3 (by omega))
            have HB1 := Lib.hid (hb.trans (hbw.mono hsz))
            clear hnd p1 p2 hall hj0 hj2 hj3 hj4 hjw HX HY HEQ HCS hb9 hbw hbe hgW HRW HEA hb hsz
            (try simp only [Exit.then])
            go_wp2
            go_roundw
            case rel => first | exact ⟨k + 1, by omega, by omega, by go_num, HND.out, HB1.out⟩ | ((repeat apply Exists.intro); exact ⟨⟨k + 1, by omega, by omega, by go_num, HND.out, HB1.out⟩, rfl⟩)
            case measure => simp [intOf]; omega
      · obtain rfl : k = n := by omega
        have hd : dedE es = es := by
          unfold dedE
          rw [dedK_upto (Nat.le_refl _) (fun j h3 h4 => hall.out j h3 (by rw [← HL.out]; exact h4)) es.length (Nat.le_refl _), List.take_length]
        have HD := Lib.hid hd
        have HOW := Lib.hid (HO.out.on hb)
        clear hd
        go_wp2
        go_ret
        rw [HD.out]
        exact ⟨k, rfl, HL.out.symm, HOW.out, hb.mono hB⟩
end

section
open Go.RowKit

/-- Memory has grown, choices have been drawn, and nothing else. -/
structure Grn (w w' : World) : Prop where
  below : Below w.heap.size w w'
  drawn : w.drawn ≤ w'.drawn
theorem Grn.refl (w : World) : Grn w w := ⟨Below.refl _ _, Nat.le_refl _⟩
theorem Grn.trans {a b c : World} (h : Grn a b) (k : Grn b c) : Grn a c := ⟨h.below.trans (k.below.mono h.below.size), Nat.le_trans h.drawn k.drawn⟩
theorem Grn.alloc {a b : World} (h : Grn a b) (o : Obj) : Grn a (b.alloc o) := ⟨h.below.alloc h.below.size _, h.drawn⟩
theorem Grn.drew {a b : World} (h : Grn a b) : Grn a b.drew := ⟨h.below.drew, Nat.le_succ_of_le h.drawn⟩
theorem Grn.drewN {a b : World} (h : Grn a b) (q : Nat) : Grn a (b.drewN q) := ⟨below_drewn h.below q, Nat.le_trans h.drawn (Nat.le_add_right _ _)⟩
theorem Grn.grow {a b : World} (h : Grn a b) (os : Array Obj) : Grn a (Go.Sort.grow b os) := h.trans ⟨⟨rfl, rfl, rfl, by simp, fun k hk => Go.Sort.heap_grow_old _ _ hk⟩, Nat.le_refl _⟩
theorem Grn.of {a b : World} (h : Grn a b) {c : World} (k : ∃ q os', c = Go.Sort.grow (b.drewN q) os') : Grn a c := by
  obtain ⟨q, os, rfl⟩ := k
  exact (h.drewN q).grow os
theorem Grn.out {w w' : World} (h : Grn w w') : ∃ q os', w' = Go.Sort.grow (w.drewN q) os' := by
  refine ⟨w'.drawn - w.drawn, w'.heap.extract w.heap.size w'.heap.size, ?_⟩
  obtain ⟨⟨h1, h2, h3, h4, h5⟩, h6⟩ := h
  obtain ⟨hp, tp, dr, os, ou⟩ := w
  obtain ⟨hp', tp', dr', os', ou'⟩ := w'
  dsimp only at *
  subst h1 h2 h3
  unfold Go.Sort.grow World.drewN
  dsimp only
  congr 1
  · apply Array.ext_getElem?
    intro i
    by_cases hi : i < hp.size
    · rw [h5 i hi, Array.getElem?_append_left hi]
    · rw [Array.getElem?_append_right (by omega), Array.getElem?_extract]
      by_cases h7 : i < hp'.size
      · rw [if_pos (by omega)]
        congr 1
        omega
      · rw [if_neg (by omega), Array.getElem?_eq_none (by omega)]
  · omega

theorem cmpI_cases (x y : Int) : (x < y ∧ cmpI x y = -1) ∨ (x = y ∧ cmpI x y = 0) ∨ (y < x ∧ cmpI x y = 1) := by
  unfold cmpI
  by_cases h : x < y
  · exact .inl ⟨h, if_pos h⟩
  · rw [if_neg h]
    by_cases h2 : y < x
    · exact .inr (.inr ⟨h2, if_pos h2⟩)
    · exact .inr (.inl ⟨by omega, if_neg h2⟩)
theorem cmpC_cases (a b : Cl) : (bef a b = true ∧ cmpC a b = -1) ∨ (a = b ∧ cmpC a b = 0) ∨ (bef a b = false ∧ a ≠ b ∧ cmpC a b = 1) := by
  obtain ⟨x, y⟩ := a
  obtain ⟨u, v⟩ := b
  unfold cmpC
  dsimp only
  rcases cmpI_cases y v with ⟨h, e⟩ | ⟨h, e⟩ | ⟨h, e⟩ <;> rw [e] <;> rcases cmpI_cases x u with ⟨k, e2⟩ | ⟨k, e2⟩ | ⟨k, e2⟩ <;> rw [e2]
  · exact .inl ⟨by simp [bef, h], rfl⟩
  · exact .inl ⟨by simp [bef, h], rfl⟩
  · exact .inl ⟨by simp [bef, h], rfl⟩
  · exact .inl ⟨by simp [bef, h, k], rfl⟩
  · exact .inr (.inl ⟨by rw [h, k], rfl⟩)
  · refine .inr (.inr ⟨by rw [bef_not]; dsimp only; omega, fun e => by injection e; omega, rfl⟩)
  · refine .inr (.inr ⟨by rw [bef_not]; dsimp only; omega, fun e => by injection e; omega, rfl⟩)
  · refine .inr (.inr ⟨by rw [bef_not]; dsimp only; omega, fun e => by injection e; omega, rfl⟩)
  · refine .inr (.inr ⟨by rw [bef_not]; dsimp only; omega, fun e => by injection e; omega, rfl⟩)

/-- Two lists of cells compared cell by cell; the shorter one is less. -/
def cmpF : List Cl → List Cl → Int
  | a :: l, b :: r => if cmpC a b = 0 then cmpF l r else cmpC a b
  | [], _ :: _ => -1
  | _ :: _, [] => 1
  | [], [] => 0
theorem cmpF_cmpL : ∀ l r : List Cl, l.length = r.length → cmpF l r = cmpL l r
  | [], [], _ => by unfold cmpF cmpL; rfl
  | a :: l, b :: r, h => by
    unfold cmpF cmpL
    rcases cmpC_cases a b with ⟨h1, e⟩ | ⟨h1, e⟩ | ⟨h1, h2, e⟩
    · rw [e, if_neg (by decide), if_neg (fun k => by subst k; rw [bef_irr] at h1; cases h1), if_pos h1]
    · rw [e, if_pos rfl, if_pos h1]
      exact cmpF_cmpL l r (by simpa using h)
    · rw [e, if_neg (by decide), if_neg h2, if_neg (by rw [h1]; simp)]
theorem cmpS_or (l r : List Cl) : orI (cmpI l.length r.length) (cmpF l r) = cmpS l r := by
  unfold cmpS orI
  rcases cmpI_cases l.length r.length with ⟨h, e⟩ | ⟨h, e⟩ | ⟨h, e⟩
  · rw [e, if_neg (by decide), if_pos (by omega)]
  · rw [e, if_pos rfl, if_neg (by omega), if_neg (by omega)]
    exact cmpF_cmpL l r (by omega)
  · rw [e, if_neg (by decide), if_neg (by omega), if_pos (by omega)]
theorem drop_at {l : List Cl} {k : Nat} (h : k < l.length) : l.drop k = l.getD k (0, 0) :: l.drop (k + 1) := by rw [List.drop_eq_getElem_cons h]; simp [List.getD, h]
theorem cmpF_step {l r : List Cl} {k : Nat} (hl : k < l.length) (hr : k < r.length) : cmpF (l.drop k) (r.drop k) = if cmpC (l.getD k (0, 0)) (r.getD k (0, 0)) = 0 then cmpF (l.drop (k + 1)) (r.drop (k + 1)) else cmpC (l.getD k (0, 0)) (r.getD k (0, 0)) := by
  rw [drop_at hl, drop_at hr]
  conv => lhs; unfold cmpF

theorem ret_Ik {a b : Int} (h : a = b) : Ending.returned (.int .i64 a) = .returned (.int .i64 b) := by rw [h]

set_option maxHeartbeats 2000000 in
set_option maxRecDepth 100000 in
theorem iCmpFn (B n m c1 c2 : Nat) (a1 a2 : Option Addr) (l r : List Cl) (w : World) (hn : n ≤ 4194304) (hm : m ≤ 4194304) (h1 : CellsAt B w a1 n l) (h2 : CellsAt B w a2 m r) (hB : B ≤ w.heap.size) :
    Calls Tryz.prog 190 #[.slice a1 n c1, .slice a2 m c2, .func (.func 162) #[] #[]] w fun e w' => e = .returned (.int .i64 (cmpF l r)) ∧ Grn w w' := by
  have eg : ∀ args w, (callFunc 162 args).run Tryz.prog w = .ok (.enter 162 args) w := enters_of Tryz.func162 (by kernel_rfl) rfl
  have H1 := Lib.hid h1
  have H2 := Lib.hid h2
  have HZ : Hid (cmpF l r = cmpF (l.drop 0) (r.drop 0)) := rfl
  clear h1 h2
  go_enter Tryz.func190, Tryz.ntmps190
  go_wp2
  go_loopw [13] (fun i wr => ∃ k : Nat, k ≤ n ∧ k ≤ m ∧ i = .int .i64 k ∧ Hid (cmpF l r = cmpF (l.drop k) (r.drop k)) ∧ Grn w wr) (fun i _ => n - (intOf i).toNat)
  case atStart => exact ⟨0, by omega, by omega, rfl, HZ, Grn.refl _⟩
  case round =>
    obtain ⟨k, hk, hkm, rfl, hsame, hg⟩ := hrel
    have hb := hg.below
    have hsz := hb.size
    have HG := Lib.hid hg
    clear hg
    by_cases hlt : k < n
    · obtain ⟨b1, o1, rfl, hb1, hc1⟩ := H1.out.2.2 (by omega)
      obtain ⟨x, y, hxy⟩ : ∃ x y, l.getD k (0, 0) = (x, y) := ⟨_, _, rfl⟩
      have p1 := (hb.cell (p := ⟨b1, o1 + k * 2, none⟩) (Nat.lt_of_lt_of_le hb1 hB)).trans (hc1 k hlt).1
      have p2 := (hb.cell (p := ⟨b1, o1 + k * 2 + 1, none⟩) (Nat.lt_of_lt_of_le hb1 hB)).trans (hc1 k hlt).2
      rw [hxy] at p1 p2
      have hbl1 : b1 < wr.heap.size := by omega
      have hk0 : (0 : Int) ≤ (k : Int) := by omega
      have hk1 : (k : Int) < (n : Int) := by omega
      by_cases hlm : k < m
      · obtain ⟨b2, o2, rfl, hb2, hc2⟩ := H2.out.2.2 (by omega)
        obtain ⟨u, v, huv⟩ : ∃ u v, r.getD k (0, 0) = (u, v) := ⟨_, _, rfl⟩
        have q1 := (hb.cell (p := ⟨b2, o2 + k * 2, none⟩) (Nat.lt_of_lt_of_le hb2 hB)).trans (hc2 k hlm).1
        have q2 := (hb.cell (p := ⟨b2, o2 + k * 2 + 1, none⟩) (Nat.lt_of_lt_of_le hb2 hB)).trans (hc2 k hlm).2
        rw [huv] at q1 q2
        have hbl2 : b2 < wr.heap.size := by omega
        have hk2 : (k : Int) < (m : Int) := by omega
        have hst := cmpF_step (l := l) (r := r) (k := k) (by rw [H1.out.1]; exact hlt) (by rw [H2.out.1]; exact hlm)
        rw [hxy, huv] at hst
        have hcmp : ∀ w', Calls Tryz.prog 162 #[.agg #[.int .i64 x, .int .i64 y], .agg #[.int .i64 u, .int .i64 v]] w' _ := fun w' => iCompare x y u v w'
        generalize hr : cmpC (x, y) (u, v) = c at hst hcmp
        have HST := Lib.hid (hsame.out.trans hst)
        clear hst hsame hxy huv hr hc1 hc2 hb
        by_cases h0 : c = 0
        · subst h0
          rw [if_pos rfl] at HST
          go_wp2_with (go_at_fn 162; refine (hcmp _).mono ?_; rintro e w' ⟨rfl, hgr, _⟩)
          have HN := Lib.hid (((HG.out.alloc _).alloc _).of hgr)
          clear hgr
          go_roundw
          case rel => exact ⟨k + 1, by omega, by omega, by go_num, HST, HN.out⟩
          case measure => simp [intOf]; omega
        · have hc0 : (c != 0) = true := by rw [bne_iff_ne]; exact h0
          rw [if_neg h0] at HST
          go_wp2_with (go_at_fn 162; refine (hcmp _).mono ?_; rintro e w' ⟨rfl, hgr, _⟩)
          have HN := Lib.hid (((HG.out.alloc _).alloc _).of hgr)
          clear hgr
          go_ret
          exact ⟨ret_Ik HST.out.symm, HN.out⟩
      · obtain rfl : k = m := by omega
        have e : cmpF (l.drop k) (r.drop k) = 1 := by
          have e2 : r.drop k = [] := List.drop_eq_nil_of_le (by rw [H2.out.1]; exact Nat.le_refl _)
          rw [drop_at (by rw [H1.out.1]; exact hlt), e2]
          unfold cmpF
          rfl
        have HE := Lib.hid (hsame.out.trans e)
        clear e hsame hxy hc1 hb
        go_wp2
        go_ret
        exact ⟨ret_Ik HE.out.symm, HG.out.alloc _⟩
    · obtain rfl : k = n := by omega
      have e1 : l.drop k = [] := List.drop_eq_nil_of_le (by rw [H1.out.1]; exact Nat.le_refl _)
      by_cases hlm : k < m
      · have e : cmpF (l.drop k) (r.drop k) = -1 := by
          rw [e1, drop_at (by rw [H2.out.1]; exact hlm)]
          unfold cmpF
          rfl
        have HE := Lib.hid (hsame.out.trans e)
        clear e e1 hsame hb
        go_wp2
        go_ret
        exact ⟨ret_Ik HE.out.symm, HG.out⟩
      · have e : cmpF (l.drop k) (r.drop k) = 0 := by
          have e2 : r.drop k = [] := List.drop_eq_nil_of_le (by rw [H2.out.1]; omega)
          rw [e1, e2]
          unfold cmpF
          rfl
        have HE := Lib.hid (hsame.out.trans e)
        clear e e1 hsame hb
        go_wp2
        go_ret
        exact ⟨ret_Ik HE.out.symm, HG.out⟩

set_option maxHeartbeats 1000000 in
set_option maxRecDepth 100000 in
theorem iCmpShp (B n m c1 c2 : Nat) (a1 a2 : Option Addr) (l r : List Cl) (w : World) (hn : n ≤ 4194304) (hm : m ≤ 4194304) (h1 : CellsAt B w a1 n l) (h2 : CellsAt B w a2 m r) (hB : B ≤ w.heap.size) :
    Calls Tryz.prog 166 #[.slice a1 n c1, .slice a2 m c2] w fun e w' => e = .returned (.int .i64 (cmpS l r)) ∧ Grn w w' := by
  have hs := cmpS_or l r
  rw [h1.1, h2.1] at hs
  rw [← hs]
  have hf : ∀ w', Grn w w' → Calls Tryz.prog 190 #[.slice a1 n c1, .slice a2 m c2, .func (.func 162) #[] #[]] w' _ := fun w' hg => iCmpFn B n m c1 c2 a1 a2 l r w' hn hm (h1.on (hg.below.mono hB)) (h2.on (hg.below.mono hB)) (Nat.le_trans hB hg.below.size)
  have hc : ∀ w', Calls Tryz.prog 185 #[.int .i64 n, .int .i64 m] w' _ := fun w' => iCmpI n m w'
  generalize cmpI (n : Int) (m : Int) = p at hc ⊢
  generalize cmpF l r = q at hf ⊢
  have hg0 := Grn.refl w
  have HF := Lib.hid hf
  clear hs h1 h2 hf
  go_enter Tryz.func166, Tryz.ntmps166
  go_wp2_with fail
  refine (hc _).mono ?_
  rintro e w' ⟨rfl, rfl⟩
  go_wp2_with fail
  refine (HF.out _ hg0).mono ?_
  rintro e w1 ⟨rfl, hg1⟩
  go_wp2_with fail
  refine (iOr _ p q _ (World.cell?_alloc_at _ _ _ _ rfl) (World.cell?_alloc_at _ _ _ _ rfl)).mono ?_
  rintro e w' ⟨rfl, rfl⟩
  go_wp2
  go_ret
  exact ⟨rfl, hg1.alloc _⟩
end

end Go.Proofs.YtkcclhnligajeaaGreatDoor
