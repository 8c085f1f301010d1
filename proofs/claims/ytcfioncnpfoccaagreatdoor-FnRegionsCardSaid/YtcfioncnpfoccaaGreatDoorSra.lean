/-
  The region of a shape, in the model and in the program: what each call gives.
-/
import Derived.Test.YtcfioncnpfoccaaGreatDoorSr8
import Derived.Test.YtcfioncnpfoccaaGreatDoorSr6
import Derived.Test.YtcfioncnpfoccaaGreatDoorPen
import Derived.Test.YtcfioncnpfoccaaGreatDoorIan
namespace Go.Proofs.YtcfioncnpfoccaaGreatDoor
open Go.RowKit Go.Maps

def shpOk (l : List Cl) : Bool := inb (wideC l) 1 6 && inb (highC l) 1 6
def shpW (l : List Cl) : Int := if shpOk l = true then wideC l else 0
def shpL (l : List Cl) : List Int := if shpOk l = true then rowsOf (highC l).toNat (cornS l) else []
theorem shp_no {l : List Cl} (h : shpOk l = false) : shpW l = 0 ∧ shpL l = [] := ⟨if_neg (by rw [h]; simp), if_neg (by rw [h]; simp)⟩
theorem shp_yes {l : List Cl} (h : shpOk l = true) : shpW l = wideC l ∧ shpL l = rowsOf (highC l).toNat (cornS l) := ⟨if_pos h, if_pos h⟩
/-- A shape that fits: the grid around it. -/
theorem shp_out {l : List Cl} (h : shpOk l = true) : ∃ N M : Nat, wideC l = N ∧ highC l = M ∧ (1 ≤ N ∧ N ≤ 6) ∧ (1 ≤ M ∧ M ≤ 6) ∧ isShape l = true ∧ (∀ c ∈ cornS l, inG N M c) ∧ (cornS l).Nodup ∧ (cornS l).length ≤ 8 := by
  unfold shpOk at h
  rw [Bool.and_eq_true] at h
  have h1 := inb_out h.1
  have h2 := inb_out h.2
  cases hs : isShape l with
  | false =>
    have := (size_no hs).1
    omega
  | true =>
    obtain ⟨N, M, e1, e2, _, _, hin⟩ := corner_frame hs
    have hcs : cornS l = cornerC l := if_pos hs
    have hsh := isShape_corner hs
    obtain ⟨hlen, _, hsrt⟩ := (isShape_iff _).1 hsh
    refine ⟨N, M, e1, e2, by omega, by omega, rfl, fun c hc => ?_, by rw [hcs]; exact srt_nodup hsrt, by rw [hcs]; omega⟩
    rw [hcs] at hc
    have := hin c hc
    unfold inG
    omega
theorem rowsOf_len (H : Nat) : ∀ cs : List Cl, (rowsOf H cs).length = H := by
  have key : ∀ (cs : List Cl) (l : List Int), (cs.foldl setB l).length = l.length := by
    intro cs
    induction cs with
    | nil => intro l; rfl
    | cons c cs ih => intro l; rw [List.foldl_cons, ih]; unfold setB; rw [List.length_set]
  intro cs
  unfold rowsOf
  rw [key]
  simp [zerosR]
theorem shpL_len (l : List Cl) : (shpL l).length ≤ 6 := by
  cases h : shpOk l with
  | false => rw [(shp_no h).2]; simp
  | true =>
    obtain ⟨N, M, _, e2, _, hM, _⟩ := shp_out h
    rw [(shp_yes h).2, rowsOf_len, e2]
    omega
/-- One cell more: what is stored. -/
theorem rows_next {N M : Nat} {cs : List Cl} (hN : 1 ≤ N ∧ N ≤ 6) (hM : 1 ≤ M ∧ M ≤ 6) (hin : ∀ c ∈ cs, inG N M c) (hnd : cs.Nodup) {k : Nat} (hk : k < cs.length) {u v : Nat} (he : cs.getD k (0, 0) = ((u : Int), (v : Int))) :
    u < N ∧ v < M ∧ rN (rowsOf M (cs.take k)) v < 64 ∧ (rN (rowsOf M (cs.take k)) v).testBit u = false ∧ (rowsOf M (cs.take k)).getD v 0 = (rN (rowsOf M (cs.take k)) v : Int) ∧
    (rowsOf M (cs.take k)).set v ((rN (rowsOf M (cs.take k)) v ||| 2 ^ u : Nat) : Int) = rowsOf M (cs.take (k + 1)) := by
  have hg := hin _ (getD_mem hk)
  rw [he] at hg
  unfold inG at hg
  dsimp only at hg
  obtain ⟨hr, hb⟩ := rowsOf_facts hN.1 hN.2 hM.1 hM.2 (cs := cs.take k) (fun c hc => hin c (List.mem_of_mem_take hc))
  have hv : v < M := by omega
  have hnat := hr.nat hv
  refine ⟨by omega, hv, hnat.2.2, ?_, hnat.1, ?_⟩
  · cases h : (rN (rowsOf M (cs.take k)) v).testBit u with
    | false => rfl
    | true =>
      have h2 := (hb ((u : Int), (v : Int))).1 (by rw [bt_nat]; exact h)
      rw [← he] at h2
      obtain ⟨j, hj, e⟩ := mem_getD h2
      rw [List.length_take] at hj
      have hj2 : j < k := by omega
      have e2 : (cs.take k).getD j (0, 0) = cs.getD j (0, 0) := by simp [List.getD, hj2]
      rw [e2] at e
      have hjl : j < cs.length := by omega
      have : cs[j] = cs[k] := by simpa [List.getD, hjl, hk] using e
      have := (List.getElem_inj hnd).1 this
      omega
  · rw [List.take_succ_eq_append_getElem hk, rowsOf_snoc]
    have e3 : cs[k] = ((u : Int), (v : Int)) := by simpa [List.getD, hk] using he
    rw [e3, set_at]
theorem add_val {n x : Nat} (hn : n < 64) (hx : x < 6) (hb : n.testBit x = false) : wrap64 ((n : Int) + wrap64 ((2 : Int) ^ x)) = ((n ||| 2 ^ x : Nat) : Int) := by
  rw [pw64 x (by omega)]
  obtain ⟨m, hm, e⟩ := pw_nat x
  have h1 := add_bit n hn x hx hb
  have h2 : (2 : Nat) ^ x ≤ 2 ^ 6 := Nat.pow_le_pow_right (by omega) (by omega)
  rw [← h1, e]
  rw [hm] at h2 ⊢
  rw [show ((n + m : Nat) : Int) = (n : Int) + m by omega]
  exact IntWalk.wrap64_in _ (by omega)

set_option maxHeartbeats 2000000 in
set_option maxRecDepth 100000 in
theorem sShp (B n cap : Nat) (a : Option Addr) (l : List Cl) (w : World) (hn : n ≤ 4194304) (hc : CellsAt B w a n l) (hB : B ≤ w.heap.size) :
    Calls Tryz.prog 25 #[.slice a n cap] w fun e w' => ∃ v, e = .returned (.tuple #[.agg #[.int .i64 (shpW l), v], .bool (shpOk l)]) ∧ w'.ownsRow w.heap.size 3 1 v (shpL l).length (iv (shpL l)) ∧ Below w.heap.size w w' := by
  obtain ⟨i0, hi, hz0, hz1, hz2⟩ := info_parts info_int
  have H := Lib.hid hc
  clear hc
  have hres := RgAt.new (w := w) 0 (.slice none 0 0) rfl
  have hb := (Below.refl w.heap.size w).alloc (Nat.le_refl _) (.cells #[.int .i64 0, .slice none 0 0] 26)
  cases h : shpOk l with
  | false =>
    have HN := Lib.hid (shp_no h)
    rw [HN.out.1, HN.out.2]
    have h' := h
    unfold shpOk at h'
    go_enter Tryz.func25, Tryz.ntmps25
    go_wp2_with fail
    refine (sSize B n cap a l _ hn (H.out.on (hb.mono hB)) (Nat.le_trans hB hb.size)).mono ?_
    rintro e w2 ⟨rfl, hb2⟩
    have hr2 := hres.on hb2 hres.lt
    have hB2 := hb.trans (hb2.mono hb.size)
    clear hres hb hb2
    go_wp2_with fail
    refine (sIn (wideC l) 1 6 _).mono ?_
    rintro e w' ⟨rfl, rfl⟩
    have q0 := hr2.c0
    have q1 := hr2.c1
    have q2 := hr2.f 0
    have q3 := hr2.f 1
    have R9 := hr2.set2 0 (.slice none 0 0)
    have e0 := R9.c0
    have e1 := R9.c1
    have HB9 := Lib.hid ((hB2.setCell (p := ⟨w.heap.size, 0, none⟩) (Nat.le_refl _) (.int .i64 0)).setCell (p := ⟨w.heap.size, 1, none⟩) (Nat.le_refl _) (.slice none 0 0))
    cases h1 : inb (wideC l) 1 6 with
    | false =>
      clear h h'
      go_wp2
      generalize ((w2.setCell ⟨w.heap.size, 0, none⟩ (.int .i64 0)).setCell ⟨w.heap.size, 1, none⟩ (.slice none 0 0)) = w9 at *
      exact bodyPost_ret (v := .tuple #[.agg #[.int .i64 0, .slice none 0 0], .bool false]) (by simp [results, Tryz.results25, go_sem, e0, e1]) rfl ⟨_, rfl, own_nil_i _ _, HB9.out⟩
    | true =>
      have h2 : inb (highC l) 1 6 = false := by rw [h1] at h'; simpa using h'
      clear h h'
      go_wp2_with fail
      refine (sIn (highC l) 1 6 _).mono ?_
      rintro e w' ⟨rfl, rfl⟩
      rw [h2]
      go_wp2
      generalize ((w2.setCell ⟨w.heap.size, 0, none⟩ (.int .i64 0)).setCell ⟨w.heap.size, 1, none⟩ (.slice none 0 0)) = w9 at *
      exact bodyPost_ret (v := .tuple #[.agg #[.int .i64 0, .slice none 0 0], .bool false]) (by simp [results, Tryz.results25, go_sem, e0, e1]) rfl ⟨_, rfl, own_nil_i _ _, HB9.out⟩
  | true =>
    have hN := shp_yes h
    obtain ⟨N, M, e1, e2, bN, bM, hsh, hin, hnd, hlen⟩ := shp_out h
    have HN := Lib.hid hN
    rw [HN.out.1, HN.out.2]
    unfold shpOk at h
    rw [Bool.and_eq_true] at h
    obtain ⟨h1, h2⟩ := h
    have HE := Lib.hid (show wideC l = N ∧ highC l = M from ⟨e1, e2⟩)
    rw [e1] at h1
    rw [e2] at h2
    rw [HE.out.1, HE.out.2, Int.toNat_natCast]
    obtain ⟨cs, hcs⟩ : ∃ cs, cornS l = cs := ⟨_, rfl⟩
    have HCS := Lib.hid hcs
    rw [hcs] at hin hnd hlen ⊢
    obtain ⟨m, hm⟩ : ∃ m, cs.length = m := ⟨_, rfl⟩
    have HM := Lib.hid hm
    rw [hm] at hlen
    have HIN := Lib.hid hin
    have HND := Lib.hid hnd
    clear hcs hin hnd hm e1 e2 hN hsh
    go_enter Tryz.func25, Tryz.ntmps25
    go_wp2_with fail
    refine (sSize B n cap a l _ hn (H.out.on (hb.mono hB)) (Nat.le_trans hB hb.size)).mono ?_
    rintro e w2 ⟨rfl, hb2⟩
    rw [HE.out.1, HE.out.2]
    have hr2 := hres.on hb2 hres.lt
    have hB2 := hb.trans (hb2.mono hb.size)
    have hs2 := hb2.size
    have hs1 : w.heap.size + 1 ≤ w2.heap.size := by have : (w.alloc (.cells #[.int .i64 0, .slice none 0 0] 26)).heap.size = w.heap.size + 1 := by simp
                                                    omega
    clear hres hb hb2 hs2
    go_wp2_with fail
    refine (sIn N 1 6 _).mono ?_
    rintro e w' ⟨rfl, rfl⟩
    rw [h1]
    go_wp2_with fail
    refine (sIn M 1 6 _).mono ?_
    rintro e w' ⟨rfl, rfl⟩
    rw [h2]
    go_wp2_with (first | (at_make; refine wpList_make_full _ rfl _ _ 24 rfl w2.heap.size 3 i0 (.int .i64 0) 1 Tryz.underlying24 hi hz0 hz1 _ _ _ _ M rfl rfl rfl rfl ?b2 ?b3 (Nat.le_refl _) ?_) | fail)
    case b2 => rw [hz2]; omega
    case b3 => unfold maxLen; omega
    intro w3 hown3 hgr3
    rw [made_ints M] at hown3
    obtain ⟨g, hg⟩ : ∃ g, w2.heap.size = g := ⟨_, rfl⟩
    have hlt3 := (hown3.lt _ rfl).2
    rw [hg] at hown3 hlt3 hs1
    have hr3 := RgAt.by hr2 hgr3 (by intro e; cases e)
    have hB3 := hB2.grown hgr3 hB2.size (fun j hj => by cases hj)
    clear hr2 hB2 hgr3
    obtain ⟨vb, hvb⟩ : ∃ vb, w3.heap.size = vb := ⟨_, rfl⟩
    rw [hvb] at hlt3
    have hv4 := RgAt.new (w := w3) N (.slice (some ⟨g, 0, none⟩) M M) hvb
    have hr4 := hr3.alloc (.cells #[.int .i64 N, .slice (some ⟨g, 0, none⟩) M M] 26)
    have ho4 := hown3.alloc (.cells #[.int .i64 N, .slice (some ⟨g, 0, none⟩) M M] 26)
    have hB4 := hB3.alloc hB3.size (.cells #[.int .i64 N, .slice (some ⟨g, 0, none⟩) M M] 26)
    have hs4 : (w3.alloc (.cells #[.int .i64 N, .slice (some ⟨g, 0, none⟩) M M] 26)).heap.size = vb + 1 := by simp [hvb]
    clear hr3 hown3 hB3
    go_wp2_with fail
    generalize (w3.alloc (.cells #[.int .i64 N, .slice (some ⟨g, 0, none⟩) M M] 26)) = w4 at *
    refine (sCornerShape B n cap a l w4 hn (H.out.on (hB4.mono hB)) (Nat.le_trans hB hB4.size)).mono ?_
    rintro e w5 ⟨gc, cp, rfl, hownc, hb5⟩
    rw [HCS.out, HM.out] at hownc ⊢
    have HV := Lib.hid (hv4.on hb5 hv4.lt)
    have HR := Lib.hid (hr4.on hb5 hr4.lt)
    have HO := Lib.hid (show w5.ownsRow g 3 1 (.slice (some ⟨g, 0, none⟩) M M) M (iv (rowsOf M (cs.take 0))) from ho4.kept (grow_below hb5 none) (.inr (by intro e; cases e)))
    have HB := Lib.hid (hB4.trans (hb5.mono hB4.size))
    have hgc := (hownc.lt gc rfl).1
    have HA := Lib.hid (CellsAt.of_own hownc (fun q hq => by have := HIN.out q hq; unfold inG at this; unfold InC; omega))
    have hwg : w.heap.size ≤ g := by omega
    clear hv4 hr4 ho4 hB4 hownc hb5 h1 h2
    go_wp2
    go_loopw [8] (fun i wr => ∃ k : Nat, k ≤ m ∧ i = .int .i64 k ∧ Hid (RgAt wr vb N (.slice (some ⟨g, 0, none⟩) M M)) ∧ Hid (wr.ownsRow g 3 1 (.slice (some ⟨g, 0, none⟩) M M) M (iv (rowsOf M (cs.take k)))) ∧ Hid (RgAt wr w.heap.size 0 (.slice none 0 0)) ∧ Hid (CellsAt w5.heap.size wr (some ⟨gc, 0, none⟩) m cs) ∧ Below w.heap.size w wr) (fun i _ => m - (intOf i).toNat)
    case atStart => exact ⟨0, by omega, rfl, HV.out, HO.out, HR.out, HA.out, HB.out⟩
    case round =>
      obtain ⟨k, hk, rfl, hv, hown, hr, hca, hb⟩ := hrel
      clear HV HO HR HA HB
      have c1 := hv.out.c1
      by_cases hlt : k < m
      · obtain ⟨b, off, he, hbB, hcell⟩ := hca.out.2.2 (by omega)
        injection he with he
        injection he with he1 he2
        subst he1 he2
        have p1 := (hcell k hlt).1
        have p2 := (hcell k hlt).2
        have hq := HIN.out _ (getD_mem (l := cs) (j := k) (by rw [HM.out]; exact hlt))
        unfold inG at hq
        obtain ⟨u, v, huv⟩ : ∃ u v : Nat, cs.getD k (0, 0) = ((u : Int), (v : Int)) := ⟨(cs.getD k (0, 0)).1.toNat, (cs.getD k (0, 0)).2.toNat, by
          have e1 : (((cs.getD k (0, 0)).1.toNat : Nat) : Int) = (cs.getD k (0, 0)).1 := by omega
          have e2 : (((cs.getD k (0, 0)).2.toNat : Nat) : Int) = (cs.getD k (0, 0)).2 := by omega
          rw [e1, e2]⟩
        rw [huv] at p1 p2
        simp only [Nat.zero_add] at p1 p2
        obtain ⟨hu, hvM, h64, htb, hget, hset⟩ := rows_next bN bM HIN.out HND.out (by rw [HM.out]; exact hlt) huv
        have hcv := add_val h64 (show u < 6 by omega) htb
        have t1 := hown.out.cellAt v (by omega)
        rw [iv_get _ _ (by rw [rowsOf_len]; exact hvM), hget] at t1
        have t2 := hown.out.frozenAt v
        have hs := hown.out.stored v (.int .i64 ((rN (rowsOf M (cs.take k)) v ||| 2 ^ u : Nat) : Int))
        rw [iv_set, hset] at hs
        have HS := Lib.hid hs
        obtain ⟨z, hz⟩ : ∃ z, rN (rowsOf M (cs.take k)) v = z := ⟨_, rfl⟩
        rw [hz] at hcv t1 HS
        obtain ⟨c, hcc⟩ : ∃ c, ((z ||| 2 ^ u : Nat) : Int) = c := ⟨_, rfl⟩
        rw [hcc] at hcv HS
        have hk0 : (0 : Int) ≤ (k : Int) := by omega
        have hk1 : (k : Int) < (m : Int) := by omega
        have hv0 : (0 : Int) ≤ (v : Int) := by omega
        have hv1 : (v : Int) < (M : Int) := by omega
        clear hs hcell huv hq hset hget h64 htb hz hcc
        go_wp2_with fail
        go_region
        all_goals
          have HVN := Lib.hid (show RgAt (wr.setCell ⟨g, v, none⟩ (.int .i64 c)).drew vb N (.slice (some ⟨g, 0, none⟩) M M) from RgAt.far (w := wr) hv.out (by omega))
          have HRN := Lib.hid (show RgAt (wr.setCell ⟨g, v, none⟩ (.int .i64 c)).drew w.heap.size 0 (.slice none 0 0) from RgAt.far (w := wr) hr.out (by omega))
          have HON := Lib.hid (show (wr.setCell ⟨g, v, none⟩ (.int .i64 c)).drew.ownsRow g 3 1 (.slice (some ⟨g, 0, none⟩) M M) M (iv (rowsOf M (cs.take (k + 1)))) from HS.out.1)
          have HCN := Lib.hid (show CellsAt w5.heap.size (wr.setCell ⟨g, v, none⟩ (.int .i64 c)).drew (some ⟨gc, 0, none⟩) m cs from CellsAt.far (w := wr) hca.out (by omega))
          have HBN := Lib.hid ((hb.setCell (p := ⟨g, v, none⟩) hwg (.int .i64 c)).drew)
          clear HS hv hown hr hca hb c1 p1 p2 t1 t2
          generalize (wr.setCell ⟨g, v, none⟩ (.int .i64 c)).drew = w6 at *
          go_wp2
          go_roundw
          case rel => first
            | exact ⟨k + 1, by omega, by go_num, HVN.out, HON.out, HRN.out, HCN.out, HBN.out⟩
            | (repeat apply Exists.intro
               exact ⟨⟨k + 1, by omega, by go_num, HVN.out, HON.out, HRN.out, HCN.out, HBN.out⟩, rfl⟩)
          case measure => simp [intOf]; omega
      · obtain rfl : k = m := by omega
        have c0 := hv.out.c0
        have q0 := hr.out.c0
        have q1 := hr.out.c1
        have q2 := hr.out.f 0
        have q3 := hr.out.f 1
        have HO := Lib.hid (show wr.ownsRow g 3 1 (.slice (some ⟨g, 0, none⟩) M M) M (iv (rowsOf M cs)) from by have h9 := hown.out; rw [List.take_of_length_le (by rw [HM.out]; exact Nat.le_refl _)] at h9; exact h9)
        clear hown
        go_wp2
        have R9 := hr.out.set2 N (.slice (some ⟨g, 0, none⟩) M M)
        have e0 := R9.c0
        have e1 := R9.c1
        have HO9 := Lib.hid (own_below (own_off (b := w.heap.size) (o := 1) (u := .slice (some ⟨g, 0, none⟩) M M) (own_off (b := w.heap.size) (o := 0) (u := .int .i64 N) HO.out (by omega)) (by omega)) hwg)
        have HB9 := Lib.hid ((hb.setCell (p := ⟨w.heap.size, 0, none⟩) (Nat.le_refl _) (.int .i64 N)).setCell (p := ⟨w.heap.size, 1, none⟩) (Nat.le_refl _) (.slice (some ⟨g, 0, none⟩) M M))
        generalize ((wr.setCell ⟨w.heap.size, 0, none⟩ (.int .i64 N)).setCell ⟨w.heap.size, 1, none⟩ (.slice (some ⟨g, 0, none⟩) M M)) = w9 at *
        exact bodyPost_ret (v := .tuple #[.agg #[.int .i64 N, .slice (some ⟨g, 0, none⟩) M M], .bool true]) (by simp [results, Tryz.results25, go_sem, e0, e1]) rfl ⟨_, rfl, by rw [rowsOf_len]; exact HO9.out, HB9.out⟩

set_option maxHeartbeats 2000000 in
set_option maxRecDepth 100000 in
theorem iShp (B n cap : Nat) (a : Option Addr) (l : List Cl) (w : World) (hn : n ≤ 4194304) (hc : CellsAt B w a n l) (hB : B ≤ w.heap.size) :
    Calls Tryz.prog 24 #[.slice a n cap] w fun e w' => ∃ v, e = .returned (.tuple #[.agg #[.int .i64 (shpW l), v], .bool (shpOk l)]) ∧ w'.ownsRow w.heap.size 3 1 v (shpL l).length (iv (shpL l)) ∧ Below w.heap.size w w' := by
  have H := Lib.hid hc
  clear hc
  have hres := RgAt.new (w := w) 0 (.slice none 0 0) rfl
  have hb := (Below.refl w.heap.size w).alloc (Nat.le_refl _) (.cells #[.int .i64 0, .slice none 0 0] 26)
  cases h : shpOk l with
  | false =>
    have HN := Lib.hid (shp_no h)
    rw [HN.out.1, HN.out.2]
    have h' := h
    unfold shpOk at h'
    go_enter Tryz.func24, Tryz.ntmps24
    go_wp2_with fail
    refine (iSize B n cap a l _ hn (H.out.on (hb.mono hB)) (Nat.le_trans hB hb.size)).mono ?_
    rintro e w2 ⟨rfl, hb2⟩
    have hr2 := hres.on hb2 hres.lt
    have hB2 := hb.trans (hb2.mono hb.size)
    clear hres hb hb2
    go_wp2_with fail
    refine (iSide (wideC l) _).mono ?_
    rintro e w' ⟨rfl, rfl⟩
    have q0 := hr2.c0
    have q1 := hr2.c1
    have q2 := hr2.f 0
    have q3 := hr2.f 1
    have R9 := hr2.set2 0 (.slice none 0 0)
    have e0 := R9.c0
    have e1 := R9.c1
    have HB9 := Lib.hid ((hB2.setCell (p := ⟨w.heap.size, 0, none⟩) (Nat.le_refl _) (.int .i64 0)).setCell (p := ⟨w.heap.size, 1, none⟩) (Nat.le_refl _) (.slice none 0 0))
    cases h1 : inb (wideC l) 1 6 with
    | false =>
      clear h h'
      go_wp2
      generalize ((w2.setCell ⟨w.heap.size, 0, none⟩ (.int .i64 0)).setCell ⟨w.heap.size, 1, none⟩ (.slice none 0 0)) = w9 at *
      exact bodyPost_ret (v := .tuple #[.agg #[.int .i64 0, .slice none 0 0], .bool false]) (by simp [results, Tryz.results24, go_sem, e0, e1]) rfl ⟨_, rfl, own_nil_i _ _, HB9.out⟩
    | true =>
      have h2 : inb (highC l) 1 6 = false := by rw [h1] at h'; simpa using h'
      clear h h'
      go_wp2_with fail
      refine (iSide (highC l) _).mono ?_
      rintro e w' ⟨rfl, rfl⟩
      rw [h2]
      go_wp2
      generalize ((w2.setCell ⟨w.heap.size, 0, none⟩ (.int .i64 0)).setCell ⟨w.heap.size, 1, none⟩ (.slice none 0 0)) = w9 at *
      exact bodyPost_ret (v := .tuple #[.agg #[.int .i64 0, .slice none 0 0], .bool false]) (by simp [results, Tryz.results24, go_sem, e0, e1]) rfl ⟨_, rfl, own_nil_i _ _, HB9.out⟩
  | true =>
    have hN := shp_yes h
    obtain ⟨N, M, e1, e2, bN, bM, hsh, hin, hnd, hlen⟩ := shp_out h
    have HN := Lib.hid hN
    rw [HN.out.1, HN.out.2]
    unfold shpOk at h
    rw [Bool.and_eq_true] at h
    obtain ⟨h1, h2⟩ := h
    have HE := Lib.hid (show wideC l = N ∧ highC l = M from ⟨e1, e2⟩)
    rw [e1] at h1
    rw [e2] at h2
    rw [HE.out.1, HE.out.2, Int.toNat_natCast]
    obtain ⟨cs, hcs⟩ : ∃ cs, cornS l = cs := ⟨_, rfl⟩
    have HCS := Lib.hid hcs
    rw [hcs] at hin hnd hlen ⊢
    obtain ⟨m, hm⟩ : ∃ m, cs.length = m := ⟨_, rfl⟩
    have HM := Lib.hid hm
    rw [hm] at hlen
    have HIN := Lib.hid hin
    have HND := Lib.hid hnd
    clear hcs hin hnd hm e1 e2 hN hsh
    go_enter Tryz.func24, Tryz.ntmps24
    go_wp2_with fail
    refine (iSize B n cap a l _ hn (H.out.on (hb.mono hB)) (Nat.le_trans hB hb.size)).mono ?_
    rintro e w2 ⟨rfl, hb2⟩
    rw [HE.out.1, HE.out.2]
    have hr2 := hres.on hb2 hres.lt
    have hB2 := hb.trans (hb2.mono hb.size)
    have hs2 := hb2.size
    have hs1 : w.heap.size + 1 ≤ w2.heap.size := by have : (w.alloc (.cells #[.int .i64 0, .slice none 0 0] 26)).heap.size = w.heap.size + 1 := by simp
                                                    omega
    clear hres hb hb2 hs2
    go_wp2_with fail
    refine (iSide N _).mono ?_
    rintro e w' ⟨rfl, rfl⟩
    rw [h1]
    go_wp2_with fail
    refine (iSide M _).mono ?_
    rintro e w' ⟨rfl, rfl⟩
    rw [h2]
    go_wp2_with fail
    refine (iEmpty N M w2 (by omega)).mono ?_
    rintro e w3 ⟨g, rfl, hown3, hb3⟩
    have hgl := hown3.lt g rfl
    have hr3 := hr2.on hb3 hr2.lt
    have hB3 := hB2.trans (hb3.mono hB2.size)
    have hown3 := own_below hown3 hs1
    clear hr2 hB2 hb3
    obtain ⟨vb, hvb⟩ : ∃ vb, w3.heap.size = vb := ⟨_, rfl⟩
    rw [hvb] at hgl
    have hgl1 : w.heap.size + 1 ≤ g := by omega
    have hlt3 := hgl.2
    have hv4 := RgAt.new (w := w3) N (.slice (some ⟨g, 0, none⟩) M M) hvb
    have hr4 := hr3.alloc (.cells #[.int .i64 N, .slice (some ⟨g, 0, none⟩) M M] 26)
    have ho4 := hown3.alloc (.cells #[.int .i64 N, .slice (some ⟨g, 0, none⟩) M M] 26)
    have hB4 := hB3.alloc hB3.size (.cells #[.int .i64 N, .slice (some ⟨g, 0, none⟩) M M] 26)
    have hs4 : (w3.alloc (.cells #[.int .i64 N, .slice (some ⟨g, 0, none⟩) M M] 26)).heap.size = vb + 1 := by simp [hvb]
    clear hr3 hown3 hB3
    go_wp2_with fail
    generalize (w3.alloc (.cells #[.int .i64 N, .slice (some ⟨g, 0, none⟩) M M] 26)) = w4 at *
    refine (iCorner B n cap a l w4 hn (H.out.on (hB4.mono hB)) (Nat.le_trans hB hB4.size)).mono ?_
    rintro e w5 ⟨vc, rfl, hownc, hb5⟩
    rw [HCS.out, HM.out] at hownc
    obtain ⟨ac, cp, rfl⟩ := own_slice hownc
    have HV := Lib.hid (hv4.on hb5 hv4.lt)
    have HR := Lib.hid (hr4.on hb5 hr4.lt)
    have HO := Lib.hid (show w5.ownsRow (w.heap.size + 1) 3 1 (.slice (some ⟨g, 0, none⟩) M M) M (iv (rowsOf M (cs.take 0))) from ho4.kept (grow_below hb5 none) (.inr (by intro e; cases e)))
    have HB := Lib.hid (hB4.trans (hb5.mono hB4.size))
    have HGC := Lib.hid (show ∀ b off, ac = some ⟨b, off, none⟩ → vb + 1 ≤ b from fun b off e => by have := (hownc.lt b (by rw [e]; rfl)).1; omega)
    have hsz5 := hb5.size
    have HA := Lib.hid (CellsAt.of_own hownc (fun q hq => by have := HIN.out q hq; unfold inG at this; unfold InC; omega))
    have hwg : w.heap.size ≤ g := by omega
    clear hv4 hr4 ho4 hB4 hownc hb5 h1 h2
    go_wp2
    go_loopw [29] (fun i wr => ∃ k : Nat, k ≤ m ∧ i = .int .i64 k ∧ Hid (RgAt wr vb N (.slice (some ⟨g, 0, none⟩) M M)) ∧ Hid (wr.ownsRow (w.heap.size + 1) 3 1 (.slice (some ⟨g, 0, none⟩) M M) M (iv (rowsOf M (cs.take k)))) ∧ Hid (RgAt wr w.heap.size 0 (.slice none 0 0)) ∧ Hid (CellsAt w5.heap.size wr ac m cs) ∧ Below w.heap.size w wr ∧ w5.heap.size ≤ wr.heap.size) (fun i _ => m - (intOf i).toNat)
    case atStart => exact ⟨0, by omega, rfl, HV.out, HO.out, HR.out, HA.out, HB.out, Nat.le_refl _⟩
    case round =>
      obtain ⟨k, hk, rfl, hv, hown, hr, hca, hb, hszr⟩ := hrel
      clear HV HO HR HA HB
      have c1 := hv.out.c1
      by_cases hlt : k < m
      · obtain ⟨b, off, rfl, hbB, hcell⟩ := hca.out.2.2 (by omega)
        have hbg := HGC.out b off rfl
        have p1 := (hcell k hlt).1
        have p2 := (hcell k hlt).2
        have hq := HIN.out _ (getD_mem (l := cs) (j := k) (by rw [HM.out]; exact hlt))
        unfold inG at hq
        obtain ⟨u, v, huv⟩ : ∃ u v : Nat, cs.getD k (0, 0) = ((u : Int), (v : Int)) := ⟨(cs.getD k (0, 0)).1.toNat, (cs.getD k (0, 0)).2.toNat, by
          have e1 : (((cs.getD k (0, 0)).1.toNat : Nat) : Int) = (cs.getD k (0, 0)).1 := by omega
          have e2 : (((cs.getD k (0, 0)).2.toNat : Nat) : Int) = (cs.getD k (0, 0)).2 := by omega
          rw [e1, e2]⟩
        rw [huv] at p1 p2
        obtain ⟨hu, hvM, h64, htb, hget, hset⟩ := rows_next bN bM HIN.out HND.out (by rw [HM.out]; exact hlt) huv
        obtain ⟨xb, hxb⟩ : ∃ xb, wr.heap.size = xb := ⟨_, rfl⟩
        have hbA := (Below.refl wr.heap.size wr).alloc (Nat.le_refl _) (.cells #[.int .i64 (u : Int), .int .i64 (v : Int)] 79)
        have hownA := hown.out.alloc (.cells #[.int .i64 (u : Int), .int .i64 (v : Int)] 79)
        have hvA := hv.out.alloc (.cells #[.int .i64 (u : Int), .int .i64 (v : Int)] 79)
        have hrA := hr.out.alloc (.cells #[.int .i64 (u : Int), .int .i64 (v : Int)] 79)
        have hcA := hca.out.on (hbA.mono hszr)
        have hBA := hb.alloc hb.size (.cells #[.int .i64 (u : Int), .int .i64 (v : Int)] 79)
        have TA : Two (wr.alloc (.cells #[.int .i64 (u : Int), .int .i64 (v : Int)] 79)) xb u v := Two.new _ _ hxb
        have x0 := TA.c0
        have x1 := TA.c1
        have y1 := hvA.c1
        have hsA := hbA.size
        clear hcell huv hq
        have hk0 : (0 : Int) ≤ (k : Int) := by omega
        have hk1 : (k : Int) < (m : Int) := by omega
        have hv0 : (0 : Int) ≤ (v : Int) := by omega
        have hv1 : (v : Int) < (M : Int) := by omega
        go_wp2_with fail
        generalize (wr.alloc (.cells #[.int .i64 (u : Int), .int .i64 (v : Int)] 79)) = wA at *
        have t1 := hownA.cellAt v (by omega)
        rw [iv_get _ _ (by rw [rowsOf_len]; exact hvM), hget] at t1
        have t2 := hownA.frozenAt v
        have hs := hownA.stored v (.int .i64 ((rN (rowsOf M (cs.take k)) v ||| 2 ^ u : Nat) : Int))
        rw [iv_set, hset] at hs
        have HS := Lib.hid hs
        have hcv := or_val h64 (show u < 6 by omega)
        obtain ⟨z, hz⟩ : ∃ z, rN (rowsOf M (cs.take k)) v = z := ⟨_, rfl⟩
        rw [hz] at hcv t1 HS
        obtain ⟨c, hcc⟩ : ∃ c, ((z ||| 2 ^ u : Nat) : Int) = c := ⟨_, rfl⟩
        rw [hcc] at hcv HS
        have HCV := Lib.hid hcv
        have HVA := Lib.hid hvA
        have HRA := Lib.hid hrA
        have HCA := Lib.hid hcA
        have HBA := Lib.hid hBA
        clear hs hset hget h64 htb hz hcc hcv hvA hrA hcA hBA hv hr hca hown hownA hbA p1 p2 c1 TA
        go_region_held3 (fun w' => w'.cell? ⟨vb, 1, none⟩ = some (.slice (some ⟨g, 0, none⟩) M M) ∧ w'.cell? ⟨xb, 0, none⟩ = some (.int .i64 (u : Int)) ∧ w'.cell? ⟨xb, 1, none⟩ = some (.int .i64 (v : Int)))
          (first
            | exact ⟨y1, x0, x1⟩
            | exact ⟨(cell_far (w := wA.drew) (g := g) (o := v) (by omega)).trans y1, (cell_far (w := wA.drew) (g := g) (o := v) (by omega)).trans x0, (cell_far (w := wA.drew) (g := g) (o := v) (by omega)).trans x1⟩)
          (first
            | (go_at_call 44
               refine (iSetC g v u z wA.drew t1 t2).mono ?_
               rintro e w' ⟨rfl, q, rfl⟩))
        all_goals
          rw [HCV.out]
          have HVN := Lib.hid (show RgAt ((wA.setCell ⟨g, v, none⟩ (.int .i64 c)).drewN (1 + q)) vb N (.slice (some ⟨g, 0, none⟩) M M) from RgAt.far (w := wA) HVA.out (by omega))
          have HRN := Lib.hid (show RgAt ((wA.setCell ⟨g, v, none⟩ (.int .i64 c)).drewN (1 + q)) w.heap.size 0 (.slice none 0 0) from RgAt.far (w := wA) HRA.out (by omega))
          have HON := Lib.hid (show ((wA.setCell ⟨g, v, none⟩ (.int .i64 c)).drewN (1 + q)).ownsRow (w.heap.size + 1) 3 1 (.slice (some ⟨g, 0, none⟩) M M) M (iv (rowsOf M (cs.take (k + 1)))) from HS.out.1)
          have HCN := Lib.hid (show CellsAt w5.heap.size ((wA.setCell ⟨g, v, none⟩ (.int .i64 c)).drewN (1 + q)) (some ⟨b, off, none⟩) m cs from CellsAt.far (w := wA) HCA.out (by omega))
          have HBN := Lib.hid (below_drewn (HBA.out.setCell (p := ⟨g, v, none⟩) hwg (.int .i64 c)) (1 + q))
          have hszN : w5.heap.size ≤ ((wA.setCell ⟨g, v, none⟩ (.int .i64 c)).drewN (1 + q)).heap.size := Nat.le_trans (Nat.le_trans hszr hsA) (grown_set1 wA g v (.int .i64 c)).size
          clear HS HVA HRA HCA HBA t1 t2
          generalize ((wA.setCell ⟨g, v, none⟩ (.int .i64 c)).drewN (1 + q)) = w6 at *
          go_wp2
          go_roundw
          case rel => first
            | exact ⟨k + 1, by omega, by go_num, HVN.out, HON.out, HRN.out, HCN.out, HBN.out, hszN⟩
            | (repeat apply Exists.intro
               exact ⟨⟨k + 1, by omega, by go_num, HVN.out, HON.out, HRN.out, HCN.out, HBN.out, hszN⟩, rfl⟩)
          case measure => simp [intOf]; omega
      · obtain rfl : k = m := by omega
        have c0 := hv.out.c0
        have q0 := hr.out.c0
        have q1 := hr.out.c1
        have q2 := hr.out.f 0
        have q3 := hr.out.f 1
        have HO := Lib.hid (show wr.ownsRow (w.heap.size + 1) 3 1 (.slice (some ⟨g, 0, none⟩) M M) M (iv (rowsOf M cs)) from by have h9 := hown.out; rw [List.take_of_length_le (by rw [HM.out]; exact Nat.le_refl _)] at h9; exact h9)
        clear hown
        go_wp2
        have R9 := hr.out.set2 N (.slice (some ⟨g, 0, none⟩) M M)
        have e0 := R9.c0
        have e1 := R9.c1
        have HO9 := Lib.hid (own_below (own_off (b := w.heap.size) (o := 1) (u := .slice (some ⟨g, 0, none⟩) M M) (own_off (b := w.heap.size) (o := 0) (u := .int .i64 N) HO.out (by omega)) (by omega)) (show w.heap.size ≤ w.heap.size + 1 by omega))
        have HB9 := Lib.hid ((hb.setCell (p := ⟨w.heap.size, 0, none⟩) (Nat.le_refl _) (.int .i64 N)).setCell (p := ⟨w.heap.size, 1, none⟩) (Nat.le_refl _) (.slice (some ⟨g, 0, none⟩) M M))
        generalize ((wr.setCell ⟨w.heap.size, 0, none⟩ (.int .i64 N)).setCell ⟨w.heap.size, 1, none⟩ (.slice (some ⟨g, 0, none⟩) M M)) = w9 at *
        exact bodyPost_ret (v := .tuple #[.agg #[.int .i64 N, .slice (some ⟨g, 0, none⟩) M M], .bool true]) (by simp [results, Tryz.results24, go_sem, e0, e1]) rfl ⟨_, rfl, by rw [rowsOf_len]; exact HO9.out, HB9.out⟩

end Go.Proofs.YtcfioncnpfoccaaGreatDoor
