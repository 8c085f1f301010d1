/-
  Where a shape can lie, in the model: what the call gives.
  Slices of shapes that the call owns, each shape's memory the call's own and apart from the others'.
  Are these pieces, in the model and in the program: what each call gives; slices of shapes in memory.
-/
import Derived.Test.YtkjlmgkjcmebbaaGreatDoorWaj
import Derived.Test.YtkjlmgkjcmebbaaGreatDoorWak
import Derived.Test.YtkjlmgkjcmebbaaGreatDoorWal
import Derived.Test.YtkjlmgkjcmebbaaGreatDoorWaa
import Derived.Test.YtkjlmgkjcmebbaaGreatDoorWac
import Derived.Test.YtkjlmgkjcmebbaaGreatDoorWab
import Derived.Test.YtkjlmgkjcmebbaaGreatDoorWai
import Derived.Test.YtkjlmgkjcmebbaaGreatDoorWah
import Derived.Test.YtkjlmgkjcmebbaaGreatDoorPm2
namespace Go.Proofs.YtkjlmgkjcmebbaaGreatDoor

section
open Go.RowKit

theorem own_lit0m (w : World) (B : Nat) (h : B ≤ w.heap.size) : (w.alloc (.cells #[] 86)).ownsRow B 86 2 (.slice (some ⟨w.heap.size, 0, none⟩) 0 0) 0 (cvs []) := by
  simpa [cvs] using World.ownsRow_lit (base := B) (e := 86) (size := 2) w #[] 0 h (by simp [maxLen]) rfl
/-- Numbers of the call's own. -/
def GivesV (w : World) (L : List Int) (e : Ending) (w' : World) : Prop := ∃ v, e = .returned v ∧ w'.ownsRow w.heap.size 3 1 v L.length (iv L) ∧ Below w.heap.size w w'
theorem st_bd {N H K : Nat} (hN : N ≤ 6) (hH : H ≤ 6) (l : List Int) (os : List (List Cl)) (o : List Cl) {k y x : Nat} (hk : k ≤ K) (hK : K ≤ 8) (hy : y ≤ H) (hx : x ≤ N) : (stX N l o y (stY N l o (stO N H l os k) y) x).length ≤ 1000 ∧ (stY N l o (stO N H l os k) y).length ≤ 1000 ∧ (stO N H l os k).length ≤ 1000 := by
  have h1 := stX_len N l o y (stY N l o (stO N H l os k) y) x
  have h2 := stY_len N l o (stO N H l os k) y
  have h3 := stO_len N H l os k
  have h4 : N * y ≤ 6 * 6 := Nat.mul_le_mul hN (by omega)
  have h5 : N * H ≤ 6 * 6 := Nat.mul_le_mul hN hH
  have h6 : N * H * k ≤ 36 * 8 := Nat.mul_le_mul h5 (by omega)
  omega
theorem moveC_snoc (p q : Int) (l : List Cl) (j : Nat) (h : j < l.length) : moveC p q (l.take (j + 1)) = moveC p q (l.take j) ++ [((l.getD j (0, 0)).1 + p, (l.getD j (0, 0)).2 + q)] := by
  unfold moveC
  rw [List.take_succ_eq_append_getElem h, List.map_append]
  simp [List.getD, h]

set_option maxHeartbeats 8000000 in
set_option maxRecDepth 100000 in
theorem sPl (B n cap m2 cap2 : Nat) (a a2 : Option Addr) (W : Int) (l : List Int) (cs : List Cl) (w : World) (hn : n ≤ 4194304) (hm : m2 ≤ 1048576) (hc : IntsAt B w a n l) (hd : CellsAt B w a2 m2 cs) (hB : B ≤ w.heap.size) :
    Calls Tryz.prog 97 #[.agg #[.int .i64 W, .slice a n cap], .slice a2 m2 cap2] w (GivesV w (plR W l cs)) := by
  have H := Lib.hid hc
  have HD := Lib.hid hd
  have HLN := Lib.hid hc.1
  clear hc hd
  have hb0 := (Below.refl w.heap.size w).alloc (Nat.le_refl _) (.cells #[.int .i64 W, .slice a n cap] 26)
  have hbox0 := RgAt.new (w := w) W (.slice a n cap) rfl
  have hsz0 : (w.alloc (.cells #[.int .i64 W, .slice a n cap] 26)).heap.size = w.heap.size + 1 := by simp
  have hb1 := hb0.alloc hb0.size (.cells #[] 3)
  have hbox1 := hbox0.alloc (.cells #[] 3)
  have hown1 := own_lit_m (w := w.alloc (.cells #[.int .i64 W, .slice a n cap] 26)) (B := w.heap.size) hsz0 (by omega)
  have hsz1 : ((w.alloc (.cells #[.int .i64 W, .slice a n cap] 26)).alloc (.cells #[] 3)).heap.size = w.heap.size + 2 := by simp
  go_enter Tryz.func97, Tryz.ntmps97
  go_wp2_with fail
  (try rw [hsz0])
  generalize ((w.alloc (.cells #[.int .i64 W, .slice a n cap] 26)).alloc (.cells #[] 3)) = W1 at *
  clear hsz0 hb0 hbox0
  refine (sOrient B m2 cap2 a2 cs W1 hm (HD.out.on (hb1.mono hB)) (Nat.le_trans hB hb1.size)).mono ?_
  rintro e W2 ⟨gO, cO, vs, rfl, hcO, hss, hb2⟩
  have hsz2 := hb2.size
  have HB2 := Lib.hid (hb1.trans (hb2.mono hb1.size))
  have hbox := hbox1.on hb2 hbox1.lt
  have HOW := Lib.hid (hown1.kept (grow_below hb2 none) (.inr (by intro e; cases e)))
  obtain ⟨os, hos⟩ : ∃ os, orientS cs = os := ⟨_, rfl⟩
  have HOS := Lib.hid hos
  have hK8 : os.length ≤ 8 := by rw [← hos]; exact orient_le cs
  obtain ⟨K, hK⟩ : ∃ K, os.length = K := ⟨_, rfl⟩
  rw [hos] at hss hcO ⊢
  rw [hK] at hcO hK8 ⊢
  have HK := Lib.hid hK
  have HSS := Lib.hid hss
  have hgO := hss.1
  clear hb1 hb2 hbox1 hown1 hos hK hss
  cases h : isReg W l with
  | false =>
    have HI := Lib.hid h
    have HO := Lib.hid (plR_no h cs)
    clear h
    by_cases h0 : 0 < (K : Int)
    · go_wp2
      refine wp_loop_rounds 1 ?_
      rw [rounds_succ]
      have c0 := hbox.c0
      have c1 := hbox.c1
      go_wp2_with fail
      refine (sIsReg B n cap a W l _ hn (H.out.on (HB2.out.mono hB)) (Nat.le_trans hB HB2.out.size)).mono ?_
      rintro e w' ⟨rfl, hb⟩
      rw [HI.out]
      have HB3 := Lib.hid (HB2.out.trans (hb.mono HB2.out.size))
      have HOW3 := Lib.hid (HOW.out.kept (grow_below hb none) (.inr (by intro e; cases e)))
      clear hb
      go_wp2
      go_ret
      exact ⟨_, rfl, by rw [HO.out]; exact HOW3.out, HB3.out⟩
    · go_wp2
      refine wp_loop_rounds 1 ?_
      rw [rounds_succ]
      have c0 := hbox.c0
      have c1 := hbox.c1
      go_wp2
      go_ret
      exact ⟨_, rfl, by rw [HO.out]; exact HOW.out, HB2.out⟩
  | true =>
    obtain ⟨N, rfl, hr⟩ := isReg_out h
    have hln := HLN.out
    rw [hln] at hr
    have HR := Lib.hid hr
    have HI := Lib.hid h
    have HO := Lib.hid (show plR N l cs = stO N n l os K from by rw [plR_yes hr, HOS.out, HK.out])
    have HMC := Lib.hid (fun cs => mcOk_yes hr cs)
    have HMV := Lib.hid (fun cs (h : mcOk (N : Int) l cs = true) => mcV_yes (l := l) (cs := cs) h)
    have hN6 := hr.w6
    have hn6 := hr.h6
    clear h hr hln
    go_wp2
    go_loopw [5, 7] (fun v i wr => ∃ k m g c : Nat, k ≤ K ∧ i = .int .i64 k ∧ v = .slice (some ⟨g, 0, none⟩) m c ∧ Hid (m = (stO N n l os k).length) ∧ Hid (wr.ownsRow w.heap.size 3 1 (.slice (some ⟨g, 0, none⟩) m c) m (iv (stO N n l os k))) ∧ Below W2.heap.size W2 wr) (fun _ i _ => K - (intOf i).toNat)
    case atStart => exact ⟨0, 0, _, 0, by omega, rfl, rfl, rfl, HOW.out, Below.refl _ _⟩
    case round =>
      obtain ⟨k, m, g, c, hk, rfl, rfl, hmm, hown, hb⟩ := hrel
      clear HOW
      have hsz := hb.size
      have hbx := hbox.on hb hbox.lt
      have c0 := hbx.c0
      have c1 := hbx.c1
      have hbw := HB2.out.trans (hb.mono HB2.out.size)
      by_cases hlt : k < K
      · have hk1 : (k : Int) < (K : Int) := by omega
        have hk0 : (0 : Int) ≤ (k : Int) := by omega
        go_wp2_with fail
        refine (sIsReg B n cap a N l wr hn (H.out.on (hbw.mono hB)) (Nat.le_trans hB hbw.size)).mono ?_
        rintro e w3 ⟨rfl, hb3⟩
        rw [HI.out]
        have hb' := hb.trans (hb3.mono hsz)
        have hown3 := Lib.hid (hown.out.kept (grow_below hb3 none) (.inr (by intro e; cases e)))
        have hsz3 := hb'.size
        have HORN := Lib.hid (orient_mem (l := cs) (o := os.getD k []) (by rw [HOS.out]; simp [List.getD, show k < os.length by have := HK.out; omega])).2.1
        obtain ⟨aO, cc, hcellO, hcellsO, _⟩ := HSS.out.get (k := k) (by rw [HK.out]; exact hlt)
        have HSO := Lib.hid (show stO N n l os (k + 1) = stY N l (os.getD k []) (stO N n l os k) n from rfl)
        have HBD := Lib.hid (fun x y (hy : y ≤ n) (hx : x ≤ N) => st_bd hN6 hn6 l os (os.getD k []) hk hK8 hy hx)
        obtain ⟨o, ho⟩ : ∃ o, os.getD k [] = o := ⟨_, rfl⟩
        rw [ho] at HORN hcellO hcellsO HSO HBD
        have ho8 := ((isShape_iff o).1 HORN.out.shape).1.2
        have HIN := Lib.hid (isShape_in HORN.out.shape)
        have HNE := Lib.hid HORN.out.ne
        obtain ⟨out0, hout0⟩ : ∃ r, stO N n l os k = r := ⟨_, rfl⟩
        rw [hout0] at hmm hown3 HSO HBD
        have HC := Lib.hid hcellsO
        have HCO := Lib.hid hcellO
        clear hb hb3 hbx c0 c1 hbw hsz hown ho hcellO hcellsO hout0
        generalize wr = w0 at *
        clear w0
        go_wp2
        go_loopw [5, 8] (fun v i wr => ∃ y m g c : Nat, y ≤ n ∧ i = .int .i64 y ∧ v = .slice (some ⟨g, 0, none⟩) m c ∧ Hid (m = (stY N l o out0 y).length) ∧ Hid (wr.ownsRow w.heap.size 3 1 (.slice (some ⟨g, 0, none⟩) m c) m (iv (stY N l o out0 y))) ∧ Below W2.heap.size W2 wr) (fun _ i _ => n - (intOf i).toNat)
        case atStart => exact ⟨0, m, g, c, by omega, rfl, rfl, hmm, hown3.out, hb'⟩
        case round =>
          clear hown3 hb' hsz3 hmm
          obtain ⟨y, m, g, c, hy, rfl, rfl, hmm, hown, hb⟩ := hrel
          have hsz := hb.size
          have hbx := hbox.on hb hbox.lt
          have c0 := hbx.c0
          have c1 := hbx.c1
          by_cases hyt : y < n
          · have hy1 : (y : Int) < (n : Int) := by omega
            have HSY := Lib.hid (show stY N l o out0 (y + 1) = stX N l o y (stY N l o out0 y) N from rfl)
            have HBY := Lib.hid (fun x (hx : x ≤ N) => HBD.out x y hy hx)
            obtain ⟨out1, hout1⟩ : ∃ r, stY N l o out0 y = r := ⟨_, rfl⟩
            rw [hout1] at hmm hown HSY HBY
            clear hout1 hbx
            go_wp2
            clear c0 c1
            go_loopw [5, 9] (fun v i wr => ∃ x m g c : Nat, x ≤ N ∧ i = .int .i64 x ∧ v = .slice (some ⟨g, 0, none⟩) m c ∧ Hid (m = (stX N l o y out1 x).length) ∧ Hid (wr.ownsRow w.heap.size 3 1 (.slice (some ⟨g, 0, none⟩) m c) m (iv (stX N l o y out1 x))) ∧ Below W2.heap.size W2 wr) (fun _ i _ => N - (intOf i).toNat)
            case atStart => exact ⟨0, m, g, c, by omega, rfl, rfl, hmm, hown.out, hb⟩
            case round =>
              clear hown hb hsz hmm
              obtain ⟨x, m, g, c, hx, rfl, rfl, hmm, hown, hb⟩ := hrel
              have hsz := hb.size
              have hbx := hbox.on hb hbox.lt
              have c0 := hbx.c0
              by_cases hxt : x < N
              · have hx1 : (x : Int) < (N : Int) := by omega
                have hm1 : m ≤ 1000 := by rw [hmm.out]; exact (HBY.out x hx).1
                have HYES := Lib.hid (fun h => stX_yes (W := N) (l := l) (o := o) (y := y) (out := out1) (x := x) h)
                have HNO := Lib.hid (fun h => stX_no (W := N) (l := l) (o := o) (y := y) (out := out1) (x := x) h)
                have HMM := Lib.hid hmm.out
                obtain ⟨out2, hout2⟩ : ∃ r, stX N l o y out1 x = r := ⟨_, rfl⟩
                rw [hout2] at HMM hown HYES HNO
                clear hbx hout2 hmm
                go_wp2
                clear c0
                generalize wr = w5 at *
                obtain ⟨mb, hmb⟩ : ∃ b, w5.heap.size = b := ⟨_, rfl⟩
                have hlit := own_lit0m w5 mb (by omega)
                have hbl := (Below.refl w5.heap.size w5).alloc (Nat.le_refl _) (.cells #[] 86)
                have hsl : (w5.alloc (.cells #[] 86)).heap.size = mb + 1 := by simp [hmb]
                rw [hmb] at hlit hsz
                (try rw [hmb])
                generalize (w5.alloc (.cells #[] 86)) = w6 at *
                have HLT := Lib.hid hlit
                have HBL := Lib.hid hbl
                clear hlit hbl
                go_loopw [10, 11] (fun v i wr => ∃ j g c : Nat, j ≤ o.length ∧ i = .int .i64 j ∧ v = .slice (some ⟨g, 0, none⟩) j c ∧ Hid (wr.ownsRow mb 86 2 (.slice (some ⟨g, 0, none⟩) j c) j (cvs (moveC x y (o.take j)))) ∧ Below mb w5 wr ∧ mb < wr.heap.size) (fun _ i _ => o.length - (intOf i).toNat)
                case atStart => exact ⟨0, mb, 0, by omega, rfl, rfl, HLT.out, by rw [← hmb]; exact HBL.out, by omega⟩
                case round =>
                  obtain ⟨j, gm, cm, hj, rfl, rfl, hmov, hb6, hmbl⟩ := hrel
                  clear HLT HBL hsl
                  have hsz6 := hb6.size
                  have hb7 := hb.trans (hb6.mono (by omega))
                  have hq0 := (hb7.cell (p := ⟨gO, k, none⟩) hgO).trans HCO.out
                  by_cases hjt : j < o.length
                  · obtain ⟨b1, o1, rfl, hb1', hc1⟩ := HC.out.2.2 (by omega)
                    obtain ⟨p, q, hpq⟩ : ∃ p q, o.getD j (0, 0) = (p, q) := ⟨_, _, rfl⟩
                    have p1 := (hb7.cell (p := ⟨b1, o1 + j * 2, none⟩) hb1').trans (hc1 j hjt).1
                    have p2 := (hb7.cell (p := ⟨b1, o1 + j * 2 + 1, none⟩) hb1').trans (hc1 j hjt).2
                    rw [hpq] at p1 p2
                    have hpx := inP_out (HIN.out _ (getD_mem (l := o) (j := j) hjt))
                    rw [hpq] at hpx
                    dsimp only at hpx
                    have HST := Lib.hid (moveC_snoc x y o j hjt)
                    rw [hpq] at HST
                    have hj1 : (j : Int) < (o.length : Int) := by omega
                    have hj0 : (0 : Int) ≤ (j : Int) := by omega
                    have hgl := hmov.out.lt gm rfl
                    have hbl1 : b1 < wr.heap.size := by omega
                    have hgO1 : gO < wr.heap.size := by omega
                    have hx1' : IntKind.i64.wrap (p + x) = p + x := IntWalk.i64_in _ (by omega)
                    have hy1' : IntKind.i64.wrap (q + y) = q + y := IntWalk.i64_in _ (by omega)
                    have hne : gm ≠ b1 := by omega
                    have hne2 : gm ≠ gO := by omega
                    have HMV9 := Lib.hid hmov.out
                    clear hpq hc1 hmov
                    go_wp2_with fail
                    go_region_held3 (fun w' => w'.cell? ⟨b1, o1 + j * 2, none⟩ = some (.int .i64 p) ∧ w'.cell? ⟨b1, o1 + j * 2 + 1, none⟩ = some (.int .i64 q) ∧ w'.cell? ⟨gO, k, none⟩ = some (.slice (some ⟨b1, o1, none⟩) o.length cc))
                      (first | exact ⟨p1, p2, hq0⟩ | go_keep | exact ⟨(hgrow.cell_far ⟨b1, o1 + j * 2, none⟩ (by simp; omega) (by simp; omega)).trans ((World.cell?_alloc_lt _ _ _ hbl1).trans p1), (hgrow.cell_far ⟨b1, o1 + j * 2 + 1, none⟩ (by simp; omega) (by simp; omega)).trans ((World.cell?_alloc_lt _ _ _ hbl1).trans p2), (hgrow.cell_far ⟨gO, k, none⟩ (by simp; omega) (by simp; omega)).trans ((World.cell?_alloc_lt _ _ _ hgO1).trans hq0)⟩)
                      (first | (refine step_cells rfl _ _ rfl mb gm j cm (moveC x y (o.take j)) ⟨wr.heap.size, 0, none⟩ 1 1 [(p + x, q + y)] rfl rfl ((HMV9.out.drew).alloc _) rfl (lies_block (t := 86) (fr := (0, 0)) (heap_alloc_new _ _)) (by omega) (by simp; omega) (wr.heap.size + 1) (by simp) ?_; intro g' cc' w7 hown1 hgrow hat hgb hlt1))
                    go_wp2
                    clear hx1' hy1'
                    go_roundw
                    case rel => exact ⟨j + 1, g', cc', by omega, by go_num, rfl, by rw [HST.out]; exact hown1, (hb6.drew.alloc (by show mb ≤ wr.heap.size; omega) _).grown hgrow (by simp; omega) (fun i hi => by cases hi; exact hgl.1), by have := hgrow.size; simp at this; omega⟩
                    case measure => simp [intOf]; omega
                  · obtain rfl : j = o.length := by omega
                    have e9 : o.take o.length = o := List.take_length
                    rw [e9] at hmov
                    have HMINC := Lib.hid (show ∀ c ∈ moveC (x : Int) (y : Int) o, InC c from by
                      intro c hc
                      unfold moveC at hc
                      obtain ⟨d, hd, rfl⟩ := List.mem_map.1 hc
                      have := inP_out (HIN.out d hd)
                      unfold InC
                      dsimp only
                      omega)
                    have hlm : (moveC (x : Int) (y : Int) o).length = o.length := by unfold moveC; rw [List.length_map]
                    have HCM := Lib.hid (CellsAt.of_own hmov.out HMINC.out)
                    have HMO := Lib.hid (HMC.out (moveC x y o))
                    have HMW := Lib.hid (HMV.out (moveC x y o))
                    have hbx7 := hbox.on hb7 hbox.lt
                    have c0 := hbx7.c0
                    have c1 := hbx7.c1
                    have hsz7 := hb7.size
                    have hbw7 := HB2.out.trans (hb7.mono HB2.out.size)
                    have HB6 := Lib.hid hb6
                    have HB7 := Lib.hid hb7
                    clear hmov e9 hb6 hb7
                    go_wp2_with fail
                    refine (sMaskC wr.heap.size n cap o.length cm a _ N l (moveC x y o) wr hn (by omega) ((H.out.on (hbw7.mono hB)).more (Nat.le_trans hB hbw7.size)) HCM.out (Nat.le_refl _)).mono ?_
                    rintro e w8 ⟨rfl, hb8⟩
                    have hown8 := hown.out.kept (grow_below (show Below w5.heap.size w5 wr from by rw [hmb]; exact HB6.out) none) (.inr (by intro e; cases e))
                    have hown9 := hown8.kept (grow_below hb8 none) (.inr (by intro e; cases e))
                    have HB9 := Lib.hid (HB7.out.trans (hb8.mono hsz7))
                    have hw8 := HB2.out.trans (HB9.out.mono HB2.out.size)
                    have hws8 := hw8.size
                    clear hb8 hown8 hbw7 hbx7 c0 c1 hq0
                    cases hok : mcOk N l (moveC x y o) with
                    | true =>
                      have hoc := HMO.out.symm.trans hok
                      have HX := Lib.hid (HYES.out hoc)
                      have hv := HMW.out hok
                      rw [hv]
                      generalize orB N (moveC x y o) = om at *
                      clear hok hoc hv
                      go_wp2_with fail
                      refine (sPutI w.heap.size g m c out2 om w8 (by omega) hown9 (by omega)).mono ?_
                      rintro e w10 ⟨g2, c2, rfl, hown10, hb10⟩
                      have HO10 := Lib.hid hown10
                      have HB10 := Lib.hid (HB9.out.trans (hb10.mono HB9.out.size))
                      rw [← HX.out] at HO10
                      have hlx : (putM out2 (om : Int)).length = (stX N l o y out1 (x + 1)).length := by rw [HX.out]
                      rw [hlx]
                      clear hown10 hb10 hown9 hlx
                      go_wp2
                      go_roundw
                      case rel => exact ⟨x + 1, _, g2, c2, by omega, by go_num, rfl, rfl, HO10.out, HB10.out⟩
                      case measure => simp [intOf]; omega
                    | false =>
                      have hoc := HMO.out.symm.trans hok
                      have HX := Lib.hid (HNO.out hoc)
                      have HM9 := Lib.hid (show m = (stX N l o y out1 (x + 1)).length from by rw [HX.out, ← HMM.out])
                      have HO9 := Lib.hid (show w8.ownsRow w.heap.size 3 1 (.slice (some ⟨g, 0, none⟩) m c) m (iv (stX N l o y out1 (x + 1))) from by rw [HX.out]; exact hown9)
                      clear hok hoc hown9
                      go_wp2
                      go_roundw
                      case rel => exact ⟨x + 1, m, g, c, by omega, by go_num, rfl, HM9.out, HO9.out, HB9.out⟩
                      case measure => simp [intOf]; omega
              · obtain rfl : x = N := by omega
                have HM9 := Lib.hid (show m = (stY x l o out0 (y + 1)).length from by rw [HSY.out]; exact hmm.out)
                have HO9 := Lib.hid (show wr.ownsRow w.heap.size 3 1 (.slice (some ⟨g, 0, none⟩) m c) m (iv (stY x l o out0 (y + 1))) from by rw [HSY.out]; exact hown.out)
                clear hmm hown hbx
                go_wp2
                go_roundw
                case rel => exact ⟨y + 1, m, g, c, by omega, by go_num, rfl, HM9.out, HO9.out, hb⟩
                case measure => simp [intOf]; omega
          · obtain rfl : y = n := by omega
            have HM9 := Lib.hid (show m = (stO N y l os (k + 1)).length from by rw [HSO.out]; exact hmm.out)
            have HO9 := Lib.hid (show wr.ownsRow w.heap.size 3 1 (.slice (some ⟨g, 0, none⟩) m c) m (iv (stO N y l os (k + 1))) from by rw [HSO.out]; exact hown.out)
            clear hmm hown hbx
            go_wp2
            go_roundw
            case rel => exact ⟨k + 1, m, g, c, by omega, by go_num, rfl, HM9.out, HO9.out, hb⟩
            case measure => simp [intOf]; omega
      · obtain rfl : k = K := by omega
        have HO9 := Lib.hid (show wr.ownsRow w.heap.size 3 1 (.slice (some ⟨g, 0, none⟩) m c) (plR N l cs).length (iv (plR N l cs)) from by rw [HO.out, ← hmm.out]; exact hown.out)
        have HBW := Lib.hid hbw
        clear hbw hb hbx hown hmm
        go_wp2
        go_ret
        exact ⟨_, rfl, HO9.out, HBW.out⟩
end

section
open Go.RowKit

/-- A shape in memory: its block, its capacity, its cells. -/
abbrev Ent := Nat × Nat × List Cl
def ev (e : Ent) : Value := .slice (some ⟨e.1, 0, none⟩) e.2.2.length e.2.1
def dE : Ent := (0, 0, [])
def kE (e : Ent) : List Cl := e.2.2
def EachS (B : Nat) (w : World) (es : List Ent) : Prop := ∀ e ∈ es, w.ownsRow B 86 2 (ev e) e.2.2.length (cvs e.2.2)
def SmallS (es : List Ent) : Prop := ∀ e ∈ es, e.2.2.length ≤ 4194304 ∧ ∀ c ∈ e.2.2, InC c
def ApartS (es : List Ent) : Prop := es.Pairwise fun e f => e.1 ≠ f.1
def OffS (g : Nat) (es : List Ent) : Prop := ∀ e ∈ es, e.1 ≠ g
theorem ev_block (e : Ent) : (ev e).ownBlock = some e.1 := rfl
theorem EachS.on {B : Nat} {w w' : World} {es : List Ent} (h : EachS B w es) (hb : Below w.heap.size w w') : EachS B w' es := fun e he => (h e he).kept (grow_below hb none) (.inr (by rw [ev_block]; intro e; cases e))
theorem EachS.by {B g : Nat} {w w' : World} {es : List Ent} (h : EachS B w es) (hg : w.grownBy w' (some g)) (hne : OffS g es) : EachS B w' es := fun e he => (h e he).kept hg (.inr (by rw [ev_block]; intro e2; injection e2 with e2; exact hne e he e2))
theorem EachS.sub {B : Nat} {w : World} {es fs : List Ent} (h : EachS B w es) (hs : ∀ e ∈ fs, e ∈ es) : EachS B w fs := fun e he => h e (hs e he)
theorem EachS.less {B B' : Nat} {w : World} {es : List Ent} (h : EachS B w es) (hB : B' ≤ B) : EachS B' w es := fun e he => own_below (h e he) hB
theorem EachS.cells {B : Nat} {w : World} {es : List Ent} (h : EachS B w es) (hs : SmallS es) {e : Ent} (he : e ∈ es) : CellsAt w.heap.size w (some ⟨e.1, 0, none⟩) e.2.2.length e.2.2 := CellsAt.of_own (h e he) (hs e he).2
theorem EachS.lt {B : Nat} {w : World} {es : List Ent} (h : EachS B w es) {e : Ent} (he : e ∈ es) : B ≤ e.1 ∧ e.1 < w.heap.size := (h e he).lt e.1 rfl
theorem ev_one (e : Ent) : (ev e).oneCell' = true := rfl
theorem evs_one (es : List Ent) : ∀ u ∈ es.map ev, u.oneCell' = true := by
  intro u hu
  obtain ⟨e, _, rfl⟩ := List.mem_map.1 hu
  exact ev_one e
theorem evs_get {es : List Ent} {k : Nat} (h : k < es.length) : (es.map ev)[k]? = some (ev (es.getD k dE)) := by simp [List.getD, h]
theorem ent_mem {es : List Ent} {k : Nat} (h : k < es.length) : es.getD k dE ∈ es := by simp [List.getD, h]

/-! ### Rows of values of one cell -/
theorem row1_le {w : World} {B n g cap : Nat} {t : TypeId} {xs : List Value} (h : w.ownsRow B t 1 (.slice (some ⟨g, 0, none⟩) n cap) n xs) : n ≤ cap := by
  rcases h.2 with ⟨e, _⟩ | ⟨g', cap', cur, e, _, _, h1, _⟩
  · cases e
  · injection e with _ _ e3
    omega
theorem row1_take {w : World} {B n g cap k : Nat} {t : TypeId} {xs : List Value} (h : w.ownsRow B t 1 (.slice (some ⟨g, 0, none⟩) n cap) n xs) (hk : k ≤ n) : w.ownsRow B t 1 (.slice (some ⟨g, 0, none⟩) k cap) k (xs.take k) := by
  have hl : xs.length = n := by have := h.1; omega
  rcases h.2 with ⟨e, _⟩ | ⟨g', cap', cur, e, hb, hg, h1, h2, h3, h4⟩
  · cases e
  · injection e with e1 e2 e3
    injection e1 with e1
    injection e1 with e1 _
    subst e1 e3
    refine ⟨by rw [List.length_take]; omega, .inr ⟨g, cap, cur, rfl, hb, hg, by omega, h2, h3, ?_⟩⟩
    rw [← h4, List.take_take]
    congr 1
    omega
theorem row1_far {w : World} {B n g cap o : Nat} {t : TypeId} {xs : List Value} {v : Value} (h : w.ownsRow B t 1 (.slice (some ⟨g, 0, none⟩) n cap) n xs) (ho : n ≤ o) : (w.setCell ⟨g, o, none⟩ v).ownsRow B t 1 (.slice (some ⟨g, 0, none⟩) n cap) n xs := by
  rcases h.2 with ⟨e, _⟩ | ⟨g', cap', cur, e, hb, hg, h1, h2, h3, h4⟩
  · cases e
  · injection e with e1 e2 e3
    injection e1 with e1
    injection e1 with e1 _
    subst e1 e3
    refine ⟨h.1, .inr ⟨g, cap, cur.setIfInBounds o v, rfl, hb, set_row hg o v, h1, h2, by simpa using h3, ?_⟩⟩
    rw [← h4]
    apply List.ext_getElem?
    intro j
    by_cases hj : j < n * 1
    · rw [List.getElem?_take_of_lt hj, List.getElem?_take_of_lt hj, Array.getElem?_toList, Array.getElem?_toList, Array.getElem?_setIfInBounds]
      rw [if_neg (by omega)]
    · rw [List.getElem?_take_eq_none (by omega), List.getElem?_take_eq_none (by omega)]
theorem row1_fars {B n g cap : Nat} {t : TypeId} {xs : List Value} : ∀ (vs : List Value) (o : Nat) (w : World), w.ownsRow B t 1 (.slice (some ⟨g, 0, none⟩) n cap) n xs → n ≤ o → (w.setCells g o vs).ownsRow B t 1 (.slice (some ⟨g, 0, none⟩) n cap) n xs
  | [], _, _, h, _ => h
  | v :: r, o, w, h, ho => row1_fars r (o + 1) _ (row1_far (v := v) h ho) (by omega)
theorem below_sets1 {B g : Nat} {a : World} (hg : B ≤ g) : ∀ (vs : List Value) (o : Nat) (w : World), Below B a w → Below B a (w.setCells g o vs)
  | [], _, _, h => h
  | v :: r, o, _, h => below_sets1 hg r (o + 1) _ (h.setCell (p := ⟨g, o, none⟩) hg v)
theorem grown_sets1 {g : Nat} : ∀ (vs : List Value) (o : Nat) (w : World), w.grownBy (w.setCells g o vs) (some g)
  | [], _, w => World.grownBy.refl _ _
  | v :: r, o, w => by
    have h1 : w.grownBy (w.setCell ⟨g, o, none⟩ v) (some g) := ⟨rfl, rfl, rfl, by simp [World.setCell], fun k hk hne => by
      have : g ≠ k := fun e => hne (by rw [e])
      simp [World.setCell, Array.getElem?_modify, this]⟩
    exact h1.trans (grown_sets1 r (o + 1) _)

/-- A slice of shapes of the call's own. -/
structure OwnS (B : Nat) (w : World) (v : Value) (es : List Ent) : Prop where
  row : w.ownsRow B 95 1 v es.length (es.map ev)
  each : EachS B w es
  apart : ApartS es
  off : ∀ e ∈ es, v.ownBlock ≠ some e.1
theorem OwnS.on {B : Nat} {w w' : World} {v : Value} {es : List Ent} (h : OwnS B w v es) (hb : Below w.heap.size w w') : OwnS B w' v es :=
  ⟨h.row.kept (grow_below hb none) (by cases v.ownBlock with | none => exact .inl rfl | some k => exact .inr (by simp)), h.each.on hb, h.apart, h.off⟩
theorem OwnS.less {B B' : Nat} {w : World} {v : Value} {es : List Ent} (h : OwnS B w v es) (hB : B' ≤ B) : OwnS B' w v es := ⟨own_below h.row hB, h.each.less hB, h.apart, h.off⟩
end

section
open Go.RowKit

/-- A slice of slices of cells that reads as a list of shapes of at most M cells, its memory below block B. -/
def PsB (M B : Nat) (w : World) (a : Option Addr) (n : Nat) (L : List (List Cl)) : Prop :=
  L.length = n ∧ (0 < n → ∃ b off, a = some ⟨b, off, none⟩ ∧ b < B ∧ ∀ k, k < n → ∃ ak ck, w.cell? ⟨b, off + k, none⟩ = some (.slice ak (L.getD k []).length ck) ∧ CellsAt B w ak (L.getD k []).length (L.getD k []) ∧ (L.getD k []).length ≤ M)
theorem PsB.on {M B n : Nat} {w w' : World} {a : Option Addr} {L : List (List Cl)} (h : PsB M B w a n L) (hb : Below B w w') : PsB M B w' a n L :=
  ⟨h.1, fun hp => by
    obtain ⟨b, off, e, hlt, hc⟩ := h.2 hp
    refine ⟨b, off, e, hlt, fun k hk => ?_⟩
    obtain ⟨ak, ck, h1, h2, h3⟩ := hc k hk
    exact ⟨ak, ck, (hb.cell (p := ⟨b, off + k, none⟩) hlt).trans h1, h2.on hb, h3⟩⟩
theorem PsB.more {M B B' n : Nat} {w : World} {a : Option Addr} {L : List (List Cl)} (h : PsB M B w a n L) (hB : B ≤ B') : PsB M B' w a n L :=
  ⟨h.1, fun hp => by
    obtain ⟨b, off, e, hlt, hc⟩ := h.2 hp
    refine ⟨b, off, e, by omega, fun k hk => ?_⟩
    obtain ⟨ak, ck, h1, h2, h3⟩ := hc k hk
    exact ⟨ak, ck, h1, h2.more hB, h3⟩⟩
theorem PsB.small {M M' B n : Nat} {w : World} {a : Option Addr} {L : List (List Cl)} (h : PsB M B w a n L) (hm : ∀ k, k < n → (L.getD k []).length ≤ M') : PsB M' B w a n L :=
  ⟨h.1, fun hp => by
    obtain ⟨b, off, e, hlt, hc⟩ := h.2 hp
    refine ⟨b, off, e, hlt, fun k hk => ?_⟩
    obtain ⟨ak, ck, h1, h2, _⟩ := hc k hk
    exact ⟨ak, ck, h1, h2, hm k hk⟩⟩
abbrev PsAt (B : Nat) (w : World) (a : Option Addr) (n : Nat) (L : List (List Cl)) : Prop := PsB 1048576 B w a n L
/-- Shapes of the call's own read so. -/
theorem PsB.of_own {M B : Nat} {w : World} {v : Value} {es : List Ent} (h : OwnS B w v es) (hs : SmallS es) (hm : ∀ e ∈ es, e.2.2.length ≤ M) : ∃ a cap, v = .slice a es.length cap ∧ PsB M w.heap.size w a es.length (es.map kE) := by
  rcases h.row.2 with ⟨rfl, h0⟩ | ⟨g, cap, cur, rfl, hb, hg, _⟩
  · refine ⟨none, 0, by rw [h0], by simp, fun hp => absurd hp (by omega)⟩
  · refine ⟨_, cap, rfl, by simp, fun _ => ⟨g, 0, rfl, (Array.getElem?_eq_some_iff.1 hg).1, fun k hk => ?_⟩⟩
    have he := ent_mem hk
    have c0 := h.row.cellAt k (by omega)
    rw [evs_get hk] at c0
    have e2 : (es.map kE).getD k [] = (es.getD k dE).2.2 := by simp [List.getD, hk, kE]
    rw [e2, Nat.zero_add]
    exact ⟨_, _, c0, h.each.cells hs he, hm _ he⟩
theorem arePc_shape {ps : List (List Cl)} {k : Nat} (h : isShape (ps.getD k []) = false) (hk : k < ps.length) : arePc ps = false := by
  unfold arePc; rw [allPc_false h hk]; rfl
theorem arePc_all {ps : List (List Cl)} (h : allPc ps ps.length = true) : arePc ps = inb ps.length 1 5 := by unfold arePc; rw [h]; rfl

set_option maxHeartbeats 1000000 in
set_option maxRecDepth 100000 in
theorem sArePc (B n cap : Nat) (a : Option Addr) (ps : List (List Cl)) (w : World) (hn : n ≤ 4194304) (hc : PsAt B w a n ps) (hB : B ≤ w.heap.size) :
    Calls Tryz.prog 59 #[.slice a n cap] w fun e w' => e = .returned (.bool (arePc ps)) ∧ Below w.heap.size w w' := by
  have H := Lib.hid hc
  have hl := hc.1
  clear hc
  go_enter Tryz.func59, Tryz.ntmps59
  go_wp2
  go_loopw [3] (fun i wr => ∃ k : Nat, k ≤ n ∧ i = .int .i64 k ∧ Hid (allPc ps k = true) ∧ Below w.heap.size w wr) (fun i _ => n - (intOf i).toNat)
  case atStart => exact ⟨0, by omega, rfl, by simp [Hid, allPc], Below.refl _ _⟩
  case round =>
    obtain ⟨k, hk, rfl, ho, hb⟩ := hrel
    by_cases hlt : k < n
    · have hk1 : (k : Int) < (n : Int) := by omega
      have hk0 : (0 : Int) ≤ (k : Int) := by omega
      obtain ⟨b, off, rfl, hbB, hcell⟩ := H.out.2 (by omega)
      obtain ⟨ak, ck, h1, h2, h3⟩ := hcell k hlt
      have p1 := (hb.cell (p := ⟨b, off + k, none⟩) (Nat.lt_of_lt_of_le hbB hB)).trans h1
      have HC := Lib.hid (h2.on (hb.mono hB))
      have HS := Lib.hid (allPc_step ps k)
      have HF := Lib.hid (fun h => arePc_shape (ps := ps) (k := k) h (by omega))
      obtain ⟨q, hq⟩ : ∃ q, ps.getD k [] = q := ⟨_, rfl⟩
      rw [hq] at p1 HC HS HF h3
      clear hcell h1 h2 hq
      go_wp2_with fail
      refine (sIsShape B q.length ck ak q wr (by omega) HC.out (Nat.le_trans hB hb.size)).mono ?_
      rintro e w2 ⟨rfl, hb2⟩
      have HB := Lib.hid (hb.trans (hb2.mono hb.size))
      clear hb hb2
      cases hs : isShape q with
      | false =>
        have HN := Lib.hid (HF.out hs)
        clear hs
        go_wp2
        go_ret
        exact ⟨by rw [HN.out]; rfl, HB.out⟩
      | true =>
        have HN := Lib.hid (show allPc ps (k + 1) = true from by rw [HS.out, ho.out, hs]; rfl)
        clear hs
        go_wp2
        go_roundw
        case rel => exact ⟨k + 1, by omega, by go_num, HN.out, HB.out⟩
        case measure => simp [intOf]; omega
    · obtain rfl : k = n := by omega
      have HN := Lib.hid (show arePc ps = inb (k : Int) 1 5 from by rw [arePc_all (by rw [hl]; exact ho.out), hl])
      have HB := Lib.hid hb
      clear hb
      go_wp2_with fail
      refine (sIn (k : Int) 1 5 _).mono ?_
      rintro e w' ⟨rfl, rfl⟩
      go_wp2
      go_ret
      exact ⟨by rw [HN.out]; rfl, HB.out⟩

set_option maxHeartbeats 1000000 in
theorem iNoShape (B n cap : Nat) (a : Option Addr) (q : List Cl) (w : World) (hn : n ≤ 4194304) (hc : CellsAt B w a n q) (hB : B ≤ w.heap.size) :
    Calls Tryz.prog 116 #[.slice a n cap] w fun e w' => e = .returned (.bool (!isShape q)) ∧ Below w.heap.size w w' := by
  have H := Lib.hid hc
  clear hc
  go_enter Tryz.func116, Tryz.ntmps116
  go_wp2_with fail
  refine (iIsShape B n cap a q w hn H.out hB).mono ?_
  rintro e w1 ⟨rfl, hb1⟩
  go_wp2
  go_ret
  exact ⟨rfl, hb1⟩

set_option maxHeartbeats 1000000 in
set_option maxRecDepth 100000 in
theorem iIndexPc (B n cap : Nat) (a : Option Addr) (ps : List (List Cl)) (w : World) (hn : n ≤ 4194304) (hc : PsAt B w a n ps) (hB : B ≤ w.heap.size) :
    Calls Tryz.prog 143 #[.slice a n cap, .func (.func 116) #[] #[]] w fun e w' => ∃ r : Int, e = .returned (.int .i64 r) ∧ decide (0 ≤ r) = (!allPc ps n) ∧ Below w.heap.size w w' := by
  have H := Lib.hid hc
  have hl := hc.1
  clear hc
  go_enter Tryz.func143, Tryz.ntmps143
  go_wp2
  go_loopw [8] (fun i wr => ∃ k : Nat, k ≤ n ∧ i = .int .i64 k ∧ Hid (allPc ps k = true) ∧ Below w.heap.size w wr) (fun i _ => n - (intOf i).toNat)
  case atStart => exact ⟨0, by omega, rfl, by simp [Hid, allPc], Below.refl _ _⟩
  case round =>
    obtain ⟨k, hk, rfl, ho, hb⟩ := hrel
    by_cases hlt : k < n
    · have hk1 : (k : Int) < (n : Int) := by omega
      have hk0 : (0 : Int) ≤ (k : Int) := by omega
      obtain ⟨b, off, rfl, hbB, hcell⟩ := H.out.2 (by omega)
      obtain ⟨ak, ck, h1, h2, h3⟩ := hcell k hlt
      have p1 := (hb.cell (p := ⟨b, off + k, none⟩) (Nat.lt_of_lt_of_le hbB hB)).trans h1
      have HC := Lib.hid (h2.on (hb.mono hB))
      have HS := Lib.hid (allPc_step ps k)
      have HF := Lib.hid (fun h => allPc_false (ps := ps) (k := k) (n := n) h (by omega))
      obtain ⟨q, hq⟩ : ∃ q, ps.getD k [] = q := ⟨_, rfl⟩
      rw [hq] at p1 HC HS HF h3
      clear hcell h1 h2 hq
      go_wp2_with fail
      refine (iNoShape B q.length ck ak q wr (by omega) HC.out (Nat.le_trans hB hb.size)).mono ?_
      rintro e w2 ⟨rfl, hb2⟩
      have HB := Lib.hid (hb.trans (hb2.mono hb.size))
      clear hb hb2
      cases hs : isShape q with
      | false =>
        have HN := Lib.hid (HF.out hs)
        clear hs
        go_wp2
        go_ret
        exact ⟨_, rfl, by rw [HN.out]; simp, HB.out⟩
      | true =>
        have HN := Lib.hid (show allPc ps (k + 1) = true from by rw [HS.out, ho.out, hs]; rfl)
        clear hs
        go_wp2
        go_roundw
        case rel => exact ⟨k + 1, by omega, by go_num, HN.out, HB.out⟩
        case measure => simp [intOf]; omega
    · obtain rfl : k = n := by omega
      have HB := Lib.hid hb
      clear hb
      go_wp2
      go_ret
      exact ⟨_, rfl, by rw [ho.out]; rfl, HB.out⟩

set_option maxHeartbeats 1000000 in
theorem iContPc (B n cap : Nat) (a : Option Addr) (ps : List (List Cl)) (w : World) (hn : n ≤ 4194304) (hc : PsAt B w a n ps) (hB : B ≤ w.heap.size) :
    Calls Tryz.prog 118 #[.slice a n cap, .func (.func 116) #[] #[]] w fun e w' => e = .returned (.bool (!allPc ps n)) ∧ Below w.heap.size w w' := by
  have H := Lib.hid hc
  clear hc
  go_enter Tryz.func118, Tryz.ntmps118
  go_wp2_with fail
  refine (iIndexPc B n cap a ps w hn H.out hB).mono ?_
  rintro e w1 ⟨r, rfl, hr, hb1⟩
  have HR := Lib.hid hr
  clear hr
  go_wp2
  go_ret
  exact ⟨by rw [← HR.out]; rfl, hb1⟩

set_option maxHeartbeats 1000000 in
theorem iArePc (B n cap : Nat) (a : Option Addr) (ps : List (List Cl)) (w : World) (hn : n ≤ 4194304) (hc : PsAt B w a n ps) (hB : B ≤ w.heap.size) :
    Calls Tryz.prog 90 #[.slice a n cap] w fun e w' => e = .returned (.bool (arePc ps)) ∧ Below w.heap.size w w' := by
  have H := Lib.hid hc
  have hl := hc.1
  clear hc
  by_cases h1 : 1 ≤ (n : Int)
  · by_cases h5 : (n : Int) ≤ 5
    · have HN := Lib.hid (show arePc ps = allPc ps n from by
        unfold arePc
        rw [hl]
        have : inb (n : Int) 1 5 = true := by unfold inb; simp; omega
        rw [this, Bool.and_true])
      rw [HN.out]
      go_enter Tryz.func90, Tryz.ntmps90
      go_wp2_with fail
      refine (iContPc B n cap a ps w hn H.out hB).mono ?_
      rintro e w1 ⟨rfl, hb1⟩
      cases hq : allPc ps n with
      | true =>
        have HQ := Lib.hid hq
        clear hq
        go_wp2
        go_ret
        exact ⟨by rw [HQ.out]; rfl, hb1⟩
      | false =>
        have HQ := Lib.hid hq
        clear hq
        go_wp2
        go_ret
        exact ⟨by rw [HQ.out]; rfl, hb1⟩
    · have HN := Lib.hid (show arePc ps = false from by
        unfold arePc
        rw [hl]
        have : inb (n : Int) 1 5 = false := by unfold inb; simp; omega
        rw [this, Bool.and_false])
      rw [HN.out]
      go_enter Tryz.func90, Tryz.ntmps90
      go_wp2
      go_ret
      exact ⟨rfl, Below.refl _ _⟩
  · have HN := Lib.hid (show arePc ps = false from by
      unfold arePc
      rw [hl]
      have : inb (n : Int) 1 5 = false := by unfold inb; simp; omega
      rw [this, Bool.and_false])
    rw [HN.out]
    go_enter Tryz.func90, Tryz.ntmps90
    go_wp2
    go_ret
    exact ⟨rfl, Below.refl _ _⟩
end

end Go.Proofs.YtkjlmgkjcmebbaaGreatDoor
