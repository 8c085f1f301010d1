/-
  Placements of a shape, of several shapes, those that have a cell: in the program: what the calls give.
-/
import Derived.Test.YtailmmamgnebhaaGreatDoorXbd
import Derived.Test.YtailmmamgnebhaaGreatDoorXbf
import Derived.Test.YtailmmamgnebhaaGreatDoorXau
import Derived.Test.YtailmmamgnebhaaGreatDoorSm6
namespace Go.Proofs.YtailmmamgnebhaaGreatDoor
open Go.RowKit Go.Sort

/-- Numbers of the call's own appended to numbers of the call's own, either of them nil or not. -/
theorem wpList_app {ops : Array Oper} {rest : List Oper} {o : Oper} {a : Act} {w : World} {Q : Exit → Act → World → Prop} (hgd : o.guard = none) (s x : Operand)
    (ho : o.op = .call { callee := .builtin .append, args := #[s, x], argTypes := #[24, 24] })
    (base bs n m : Nat) (v u : Value) (xs ys : List Int) (hs : a.eval s = v) (hx : a.eval x = u) (hown : w.ownsRow base 3 1 v n (iv xs)) (hsrc : w.ownsRow bs 3 1 u m (iv ys)) (h63 : n + m ≤ 8388608) (hbase : base ≤ w.heap.size)
    (h : ∀ v' w', w'.ownsRow base 3 1 v' (n + m) (iv (xs ++ ys)) → w.grownBy w' v.ownBlock → wpList Tryz.prog ops Q rest (a.put o.dst v') w') : wpList Tryz.prog ops Q (o :: rest) a w := by
  obtain ⟨i0, hi, hz0, hz1, hz2⟩ := info_parts info_int
  have hl : ys.length = m := by have := hsrc.1; rw [iv_length] at this; omega
  rcases hsrc.2 with ⟨rfl, h0⟩ | ⟨g, cap, cur, rfl, _⟩
  · subst h0
    have : ys = [] := List.eq_nil_of_length_eq_zero hl
    subst this
    refine wpList_append_own_none hgd s x _ ho base 3 i0 1 Tryz.underlying24 hi v n (iv xs) hs hown hx ?_
    exact h v w (by rw [List.append_nil]; exact hown) (World.grownBy.refl _ _)
  · have hli := own_lies hsrc 0
    rw [List.drop_zero] at hli
    refine wpList_append_own _ hgd s x _ ho base 3 i0 (.int .i64 0) 1 8 Tryz.underlying24 hi hz0 hz1 hz2 rfl (by decide) v n (iv xs) hs hown ⟨g, 0, none⟩ m cap (iv ys) hx (by rw [iv_length, hl]; omega) hli (iv_one ys) (by unfold maxLen; omega) (by omega) hbase ?_
    intro v' w' h2 h3 _
    exact h v' w' (by rw [iv_append]; exact h2) h3

set_option maxHeartbeats 4000000 in
set_option maxRecDepth 100000 in
theorem iPl (B n cap m2 cap2 : Nat) (a a2 : Option Addr) (W : Int) (l : List Int) (cs : List Cl) (w : World) (hn : n ≤ 4194304) (hm : m2 ≤ 1048576) (hc : IntsAt B w a n l) (hd : CellsAt B w a2 m2 cs) (hB : B ≤ w.heap.size) :
    Calls Tryz.prog 12 #[.agg #[.int .i64 W, .slice a n cap], .slice a2 m2 cap2] w (GivesV w (plR W l cs)) := by
  have H := Lib.hid hc
  have HD := Lib.hid hd
  have HLN := Lib.hid hc.1
  clear hc hd
  have hb0 := (Below.refl w.heap.size w).alloc (Nat.le_refl _) (.cells #[.int .i64 W, .slice a n cap] 26)
  have hbox0 := RgAt.new (w := w) W (.slice a n cap) rfl
  have hsz0 : (w.alloc (.cells #[.int .i64 W, .slice a n cap] 26)).heap.size = w.heap.size + 1 := by simp
  cases h : isReg W l with
  | false =>
    have HI := Lib.hid h
    have HO := Lib.hid (plR_no h cs)
    clear h
    go_enter Tryz.func12, Tryz.ntmps12
    go_wp2_with fail
    refine (iIsReg B n cap a W l _ hn (H.out.on (hb0.mono hB)) (Nat.le_trans hB hb0.size)).mono ?_
    rintro e w' ⟨rfl, hb⟩
    rw [HI.out]
    have HB2 := Lib.hid (hb0.trans (hb.mono hb0.size))
    clear hb hb0
    go_wp2
    go_ret
    exact ⟨_, rfl, by rw [HO.out]; exact World.ownsRow_nil _ _ _ _, HB2.out⟩
  | true =>
    obtain ⟨N, rfl, hr⟩ := isReg_out h
    have hln := HLN.out
    rw [hln] at hr
    have HR := Lib.hid hr
    have HI := Lib.hid h
    have HO := Lib.hid (plR_prog hr cs)
    have hN6 := hr.w6
    have hn6 := hr.h6
    have HML := Lib.hid (fun i hi => mvTo_len hr.w6 hr.h6 l cs i hi)
    have HORN := Lib.hid (fun (o : List Cl) (h : o ∈ orientS cs) => (orient_mem h).2.1)
    clear h hr hln
    go_enter Tryz.func12, Tryz.ntmps12
    go_wp2_with fail
    refine (iIsReg B n cap a N l _ hn (H.out.on (hb0.mono hB)) (Nat.le_trans hB hb0.size)).mono ?_
    rintro e W1 ⟨rfl, hb⟩
    rw [HI.out]
    have hb1 := hb0.trans (hb.mono hb0.size)
    have hbox1 := hbox0.on hb hbox0.lt
    clear hb hb0 hbox0 hsz0
    go_wp2_with fail
    refine (iOrient B m2 cap2 a2 cs W1 (by omega) (HD.out.on (hb1.mono hB)) (Nat.le_trans hB hb1.size)).mono ?_
    rintro e W2 ⟨v, es, rfl, hk, hsm, hos, hb2⟩
    have HB2 := Lib.hid (hb1.trans (hb2.mono hb1.size))
    have hbox := hbox1.on hb2 hbox1.lt
    obtain ⟨aO, cO, rfl, hps⟩ := PsB.of_own (M := 4194304) hos hsm (fun e he => (hsm e he).1)
    rw [hk] at hps
    have HPS := Lib.hid hps
    have hKe : es.length = (orientS cs).length := by rw [← hk, List.length_map]
    obtain ⟨os, hos9⟩ : ∃ os, orientS cs = os := ⟨_, rfl⟩
    have hK8 : os.length ≤ 8 := by rw [← hos9]; exact orient_le cs
    rw [hos9] at HO HML HORN HPS hKe
    obtain ⟨K, hK⟩ : ∃ K, es.length = K := ⟨_, rfl⟩
    rw [hK] at HPS hKe ⊢
    have HMS := Lib.hid (fun i (h : i < os.length) => mvTo_succ (W := N) (H := n) (l := l) (os := os) (i := i) h)
    clear hb1 hb2 hbox1 hos hsm hk hps hK hos9
    go_wp2
    go_loopw [5, 14] (fun v i wr => ∃ k m : Nat, k ≤ K ∧ i = .int .i64 k ∧ Hid (m = (mvTo N n l os k).length) ∧ Hid (wr.ownsRow W2.heap.size 3 1 v m (iv (mvTo N n l os k))) ∧ Below W2.heap.size W2 wr) (fun _ i _ => K - (intOf i).toNat)
    case atStart => exact ⟨0, 0, by omega, rfl, rfl, World.ownsRow_nil _ _ _ _, Below.refl _ _⟩
    case round =>
      obtain ⟨k, m, hk, rfl, hmm, hown, hb⟩ := hrel
      have hsz := hb.size
      have hbx := hbox.on hb hbox.lt
      have hbw := HB2.out.trans (hb.mono HB2.out.size)
      by_cases hlt : k < K
      · have hk1 : (k : Int) < (K : Int) := by omega
        have hk0 : (0 : Int) ≤ (k : Int) := by omega
        obtain ⟨b, off, rfl, hbB, hcell⟩ := HPS.out.2 (by omega)
        obtain ⟨ak, ck, h1, h2, h3⟩ := hcell k hlt
        have p1 := (hb.cell (p := ⟨b, off + k, none⟩) hbB).trans h1
        have HC := Lib.hid ((h2.on hb).more hsz)
        have HST := Lib.hid (HMS.out k (by omega))
        have hml := HML.out k (by omega)
        rw [← hmm.out] at hml
        have HOK := Lib.hid (HORN.out (os.getD k []) (by simp [List.getD, show k < os.length by omega]))
        obtain ⟨o, ho⟩ : ∃ o, os.getD k [] = o := ⟨_, rfl⟩
        rw [ho] at p1 HC HST HOK h3
        have hol := mvO_len hN6 hn6 l HOK.out
        have c0 := hbx.c0
        have c1 := hbx.c1
        have hown9 := hown.out
        have HMM := Lib.hid hmm.out
        obtain ⟨out1, hout1⟩ : ∃ r, mvTo N n l os k = r := ⟨_, rfl⟩
        rw [hout1] at hown9 HST HMM
        clear hcell h1 h2 ho hown hmm hout1
        go_wp2_with fail
        refine (iMoved wr.heap.size n cap o.length ck N a ak l o wr hn h3 HR.out HOK.out ((H.out.on (hbw.mono hB)).more (Nat.le_trans hB hbw.size)) HC.out (Nat.le_refl _)).mono ?_
        rintro e w3 ⟨u, rfl, hou, hb3⟩
        have hown3 := hown9.kept (grow_below hb3 none) (Classical.em _)
        have hb3' := hb.trans (hb3.mono hsz)
        have hs3 := hb3'.size
        have HMM1 := Lib.hid (show m + (mvO N n l o).length = (mvTo N n l os (k + 1)).length from by rw [HST.out, List.length_append, ← HMM.out])
        clear hown9 hb3 c0 c1
        go_wp2_with (first | (at_builtin; refine wpList_app rfl _ _ rfl W2.heap.size wr.heap.size _ _ _ _ _ _ rfl rfl hown3 hou ?c1 ?c2 ?_) | go_in)
        case c1 => omega
        case c2 => omega
        intro v' w4 hown4 hgrow
        rw [← HST.out] at hown4
        have HB4 := Lib.hid (hb3'.grown hgrow hs3 (fun j hj => (hown3.lt j hj).1))
        have HO4 := Lib.hid hown4
        clear hown4 hgrow hown3 hb3' hou
        go_wp2
        go_roundw
        case rel => first
          | exact ⟨k + 1, m + (mvO N n l o).length, by omega, by go_num, HMM1.out, HO4.out, HB4.out⟩
          | (repeat apply Exists.intro
             exact ⟨⟨k + 1, m + (mvO N n l o).length, by omega, by go_num, HMM1.out, HO4.out, HB4.out⟩, rfl⟩)
        case measure => simp [intOf]; omega
      · obtain rfl : k = K := by omega
        have hml := HML.out k (by omega)
        rw [hKe] at hown hmm
        have hown8 := hown.out
        rw [hmm.out] at hown8
        rw [hKe] at hml
        have HBW := Lib.hid hbw
        have HB := Lib.hid hb
        have hs2 := HB2.out.size
        clear hown hbw hbx hb hmm
        go_wp2_with fail
        refine (iAsc W2.heap.size _ (mvTo N n l os os.length) wr (by omega) hown8).mono ?_
        rintro e w3 ⟨v', rfl, hou, hb3⟩
        have HR9 := Lib.hid (show w3.ownsRow w.heap.size 3 1 v' (plR N l cs).length (iv (plR N l cs)) from by rw [HO.out]; exact own_below hou hs2)
        have HB9 := Lib.hid (HBW.out.trans (hb3.mono hs2))
        clear hou hb3 hown8
        go_wp2
        go_ret
        exact ⟨_, rfl, HR9.out, HB9.out⟩

set_option maxHeartbeats 4000000 in
set_option maxRecDepth 100000 in
theorem iAp (B n cap m2 cap2 : Nat) (a a2 : Option Addr) (W : Int) (l : List Int) (ps : List (List Cl)) (w : World) (hn : n ≤ 4194304) (hm : m2 ≤ 1048576) (hc : IntsAt B w a n l) (hd : PsAt B w a2 m2 ps) (hB : B ≤ w.heap.size) :
    Calls Tryz.prog 32 #[.agg #[.int .i64 W, .slice a n cap], .slice a2 m2 cap2] w (GivesV w (apR W l ps)) := by
  have H := Lib.hid hc
  have HD := Lib.hid hd
  have hlp := hd.1
  clear hc hd
  have hb0 := (Below.refl w.heap.size w).alloc (Nat.le_refl _) (.cells #[.int .i64 W, .slice a n cap] 26)
  have hbox0 := RgAt.new (w := w) W (.slice a n cap) rfl
  have hsz0 : (w.alloc (.cells #[.int .i64 W, .slice a n cap] 26)).heap.size = w.heap.size + 1 := by simp
  go_enter Tryz.func32, Tryz.ntmps32
  go_wp2_with fail
  generalize (w.alloc (.cells #[.int .i64 W, .slice a n cap] 26)) = W1 at *
  refine (iArePc B m2 cap2 a2 ps W1 (by omega) (HD.out.on (hb0.mono hB)) (Nat.le_trans hB hb0.size)).mono ?_
  rintro e W2 ⟨rfl, hb2⟩
  have HB2 := Lib.hid (hb0.trans (hb2.mono hb0.size))
  have hbox := hbox0.on hb2 hbox0.lt
  clear hb2 hb0 hbox0 hsz0
  cases h : arePc ps with
  | false =>
    have HO := Lib.hid (apR_no h W l)
    clear h
    go_wp2
    go_ret
    exact ⟨_, rfl, by rw [HO.out]; exact World.ownsRow_nil _ _ _ _, HB2.out⟩
  | true =>
    have hl5 := (arePc_len h).2
    rw [hlp] at hl5
    have HO := Lib.hid (show apR W l ps = ascI (apTo W l ps m2) from by rw [apR_yes h, hlp])
    have HML := Lib.hid (fun i hi => apTo_len W l ps i hi)
    have HMS := Lib.hid (fun i (h : i < ps.length) => apTo_succ (W := W) (l := l) (ps := ps) (i := i) h)
    clear h
    go_wp2
    go_loopw [5, 13] (fun v i wr => ∃ k m : Nat, k ≤ m2 ∧ i = .int .i64 k ∧ Hid (m = (apTo W l ps k).length) ∧ Hid (wr.ownsRow W2.heap.size 3 1 v m (iv (apTo W l ps k))) ∧ Below W2.heap.size W2 wr) (fun _ i _ => m2 - (intOf i).toNat)
    case atStart => exact ⟨0, 0, by omega, rfl, rfl, World.ownsRow_nil _ _ _ _, Below.refl _ _⟩
    case round =>
      obtain ⟨k, m, hk, rfl, hmm, hown, hb⟩ := hrel
      have hsz := hb.size
      have hbx := hbox.on hb hbox.lt
      have hbw := HB2.out.trans (hb.mono HB2.out.size)
      by_cases hlt : k < m2
      · have hk1 : (k : Int) < (m2 : Int) := by omega
        have hk0 : (0 : Int) ≤ (k : Int) := by omega
        obtain ⟨b, off, rfl, hbB, hcell⟩ := HD.out.2 (by omega)
        obtain ⟨ak, ck, h1, h2, h3⟩ := hcell k hlt
        have p1 := (hbw.cell (p := ⟨b, off + k, none⟩) (Nat.lt_of_lt_of_le hbB hB)).trans h1
        have HC := Lib.hid ((h2.on (hbw.mono hB)).more (Nat.le_trans hB hbw.size))
        have HST := Lib.hid (HMS.out k (by omega))
        have hml := HML.out k (by omega)
        rw [← hmm.out] at hml
        obtain ⟨o, ho⟩ : ∃ o, ps.getD k [] = o := ⟨_, rfl⟩
        rw [ho] at p1 HC HST h3
        have hol := plR_len W l o
        have c0 := hbx.c0
        have c1 := hbx.c1
        have hown9 := hown.out
        have HMM := Lib.hid hmm.out
        obtain ⟨out1, hout1⟩ : ∃ r, apTo W l ps k = r := ⟨_, rfl⟩
        rw [hout1] at hown9 HST HMM
        clear hcell h1 h2 ho hown hmm hout1
        go_wp2_with fail
        refine (iPl wr.heap.size n cap o.length ck a ak W l o wr hn h3 ((H.out.on (hbw.mono hB)).more (Nat.le_trans hB hbw.size)) HC.out (Nat.le_refl _)).mono ?_
        rintro e w3 ⟨u, rfl, hou, hb3⟩
        have hown3 := hown9.kept (grow_below hb3 none) (Classical.em _)
        have hb3' := hb.trans (hb3.mono hsz)
        have hs3 := hb3'.size
        have HMM1 := Lib.hid (show m + (plR W l o).length = (apTo W l ps (k + 1)).length from by rw [HST.out, List.length_append, ← HMM.out])
        clear hown9 hb3 c0 c1
        go_wp2_with (first | (at_builtin; refine wpList_app rfl _ _ rfl W2.heap.size wr.heap.size _ _ _ _ _ _ rfl rfl hown3 hou ?c1 ?c2 ?_) | go_in)
        case c1 => omega
        case c2 => omega
        intro v' w4 hown4 hgrow
        rw [← HST.out] at hown4
        have HB4 := Lib.hid (hb3'.grown hgrow hs3 (fun j hj => (hown3.lt j hj).1))
        have HO4 := Lib.hid hown4
        clear hown4 hgrow hown3 hb3' hou
        go_wp2
        go_roundw
        case rel => first
          | exact ⟨k + 1, m + (plR W l o).length, by omega, by go_num, HMM1.out, HO4.out, HB4.out⟩
          | (repeat apply Exists.intro
             exact ⟨⟨k + 1, m + (plR W l o).length, by omega, by go_num, HMM1.out, HO4.out, HB4.out⟩, rfl⟩)
        case measure => simp [intOf]; omega
      · obtain rfl : k = m2 := by omega
        have hml := HML.out k (by omega)
        have hown8 := hown.out
        rw [hmm.out] at hown8
        have HBW := Lib.hid hbw
        have hs2 := HB2.out.size
        clear hown hbw hbx hb hmm
        go_wp2_with fail
        refine (iAsc W2.heap.size _ (apTo W l ps k) wr (by omega) hown8).mono ?_
        rintro e w3 ⟨v', rfl, hou, hb3⟩
        have HR9 := Lib.hid (show w3.ownsRow w.heap.size 3 1 v' (apR W l ps).length (iv (apR W l ps)) from by rw [HO.out]; exact own_below hou hs2)
        have HB9 := Lib.hid (HBW.out.trans (hb3.mono hs2))
        clear hou hb3 hown8
        go_wp2
        go_ret
        exact ⟨_, rfl, HR9.out, HB9.out⟩

def lacksP (m : Int) (x : Int) : Bool := bits .and .i64 x m == 0
theorem gives_lacks (m x : Int) (B : Nat) (W : World) (hc : W.cell? ⟨B, 0, none⟩ = some (.int .i64 m)) :
    FnGives Tryz.prog 84 #[.pointer (some ⟨B, 0, none⟩)] #[.int .i64 x] (.bool (lacksP m x)) W := by
  show Calls Tryz.prog 84 #[.int .i64 x, .pointer (some ⟨B, 0, none⟩)] W _
  unfold lacksP
  go_enter Tryz.func84, Tryz.ntmps84
  go_wp2
  go_ret
  exact ⟨rfl, 0, rfl⟩
theorem pred_lacks (m : Int) (B : Nat) (w : World) (hB : B < w.heap.size) (hcell : w.cell? ⟨B, 0, none⟩ = some (.int .i64 m)) :
    PredAt Tryz.prog 84 #[.pointer (some ⟨B, 0, none⟩)] (Value.int .i64) (lacksP m) w :=
  fun W x hb => gives_lacks m x B W ((hb.cell (p := ⟨B, 0, none⟩) hB).trans hcell)
theorem over_lacks (m : Int) (B blk off size : Nat) (w : World) (hB : B < w.heap.size) (hne : B ≠ blk) (hcell : w.cell? ⟨B, 0, none⟩ = some (.int .i64 m)) :
    PredOver Tryz.prog 84 #[.pointer (some ⟨B, 0, none⟩)] (Value.int .i64) (lacksP m) blk off size w :=
  fun n os dk x _ => gives_lacks m x B _ (by
    unfold sortWorld
    rw [cell?_grow _ _ _ (by show B < (putRow _ _ _ _ _).heap.size; rw [size_putRow]; exact hB), cell?_putRow_other _ _ blk off _ _ (Or.inl hne)]
    exact hcell)
theorem lacks_has {W : Nat} {x y : Int} {b : Nat} (hb : bN W (x, y) = b) (h50 : b ≤ 50) {m : Int} (h0 : 0 ≤ m) (h1 : m < 68719476736) : (!lacksP ((2 ^ b : Nat) : Int) m) = hasB W x y m := by
  obtain ⟨k, rfl⟩ := Int.eq_ofNat_of_zero_le h0
  unfold lacksP hasB
  rw [and_bit (m := k) (b := b) (by omega) h50]
  simp only [Int.toNat_natCast]
  rw [hb]
  cases k.testBit b with
  | true =>
    have : 0 < 2 ^ b := Nat.pos_of_ne_zero (by simp)
    rw [if_pos rfl]
    generalize 2 ^ b = g at this
    have h9 : ((g : Int) == 0) = false := by simp; omega
    rw [h9]
    rfl
  | false => rfl
theorem iDelNone (cap : Nat) (m : Int) (B : Nat) (w : World) :
    Calls Tryz.prog 85 #[.slice none 0 cap, .func (.func 84) #[] #[.pointer (some ⟨B, 0, none⟩)]] w fun e w' => e = .returned (.slice none 0 cap) ∧ w' = w := by
  go_enter Tryz.func85, Tryz.ntmps85
  go_wp2_with fail
  refine (Tryz.slices_IndexFunc_empty (α := Int) none cap _ w).mono ?_
  rintro e w' ⟨rfl, rfl⟩
  go_wp2
  go_ret
  exact ⟨rfl, rfl⟩

set_option maxHeartbeats 4000000 in
set_option maxRecDepth 100000 in
theorem iAt (B n cap m2 cap2 : Nat) (a a2 : Option Addr) (W : Int) (l : List Int) (cs : List Cl) (x y : Int) (w : World) (hx : In64 x) (hy : In64 y) (hn : n ≤ 4194304) (hm : m2 ≤ 1048576) (hc : IntsAt B w a n l) (hd : CellsAt B w a2 m2 cs) (hB : B ≤ w.heap.size) :
    Calls Tryz.prog 28 #[.agg #[.int .i64 W, .slice a n cap], .slice a2 m2 cap2, .int .i64 x, .int .i64 y] w (GivesV w (atR W l cs x y)) := by
  have H := Lib.hid hc
  have HD := Lib.hid hd
  have HIX := Lib.hid (show InC (x, y) from ⟨hx.1, hx.2, hy.1, hy.2⟩)
  clear hc hd hx hy
  have hb0 := (Below.refl w.heap.size w).alloc (Nat.le_refl _) (.cells #[.int .i64 W, .slice a n cap] 26)
  have hbox0 := RgAt.new (w := w) W (.slice a n cap) rfl
  have hsz0 : (w.alloc (.cells #[.int .i64 W, .slice a n cap] 26)).heap.size = w.heap.size + 1 := by simp
  have hb1 := hb0.alloc hb0.size (.cells #[.int .i64 x, .int .i64 y] 40)
  have hbox1 := hbox0.alloc (.cells #[.int .i64 x, .int .i64 y] 40)
  have ht1 := Two.new (w := w.alloc (.cells #[.int .i64 W, .slice a n cap] 26)) x y hsz0
  have hsz1 : ((w.alloc (.cells #[.int .i64 W, .slice a n cap] 26)).alloc (.cells #[.int .i64 x, .int .i64 y] 40)).heap.size = w.heap.size + 2 := by simp
  go_enter Tryz.func28, Tryz.ntmps28
  go_wp2_with fail
  (try rw [hsz0])
  generalize ((w.alloc (.cells #[.int .i64 W, .slice a n cap] 26)).alloc (.cells #[.int .i64 x, .int .i64 y] 40)) = W1 at *
  clear hsz0 hb0 hbox0
  have hcs : CellsAt W1.heap.size W1 (some ⟨w.heap.size + 1, 0, none⟩) 1 [(x, y)] := ⟨rfl, fun c hc => by rw [List.mem_singleton] at hc; subst hc; exact HIX.out, fun _ => ⟨w.heap.size + 1, 0, rfl, by omega, fun k hk => by
    obtain rfl : k = 0 := by omega
    exact ⟨ht1.c0, ht1.c1⟩⟩⟩
  refine (iMaskC W1.heap.size n cap 1 1 a _ W l [(x, y)] W1 hn (by omega) ((H.out.on (hb1.mono hB)).more (Nat.le_trans hB hb1.size)) hcs (Nat.le_refl _)).mono ?_
  rintro e W2 ⟨rfl, hb2⟩
  have hb12 := hb1.trans (hb2.mono hb1.size)
  have hbox2 := hbox1.on hb2 hbox1.lt
  have hs2 := hb2.size
  have hcell : mcOk W l [(x, y)] = (isReg W l && bt l (x, y)) := by
    cases h : isReg W l with
    | false => rw [mcOk_no h]; rfl
    | true =>
      obtain ⟨N, rfl, hr⟩ := isReg_out h
      rw [mcOk_yes hr]
      unfold okC
      simp [orB]
  clear hb1 hb2 hbox1 ht1 hcs
  cases h : mcOk W l [(x, y)] with
  | false =>
    have HO := Lib.hid (show atR W l cs x y = [] from by unfold atR; rw [← hcell, h]; rfl)
    have HV := Lib.hid (mcV_no h)
    rw [HV.out]
    clear h hcell
    go_wp2
    go_ret
    exact ⟨_, rfl, by rw [HO.out]; exact World.ownsRow_nil _ _ _ _, hb12.alloc (by omega) _⟩
  | true =>
    have hcell2 := hcell.symm.trans h
    rw [Bool.and_eq_true] at hcell2
    obtain ⟨N, rfl, hr⟩ := isReg_out hcell2.1
    obtain ⟨u, v, rfl, rfl, hu, hv, hu6, hv6, hbn, h36⟩ := hr.place hcell2.2
    have HO := Lib.hid (show atR N l cs u v = (plR N l cs).filter (hasB N u v) from by
      unfold atR
      rw [← hcell, h]
      rfl)
    obtain ⟨b, hbq⟩ : ∃ b : Nat, v * N + u = b := ⟨_, rfl⟩
    rw [hbq] at hbn h36
    have HMV := Lib.hid (show mcV N l [((u : Int), (v : Int))] = 2 ^ b from by rw [mcV_yes h]; unfold orB; simp [hbn])
    rw [HMV.out]
    have HFL := Lib.hid (show (plR N l cs).filter (fun m => !lacksP ((2 ^ b : Nat) : Int) m) = (plR N l cs).filter (hasB N u v) from
      List.filter_congr fun m hm => by
        have := plR_bd N l cs m hm
        rw [lacks_has (W := N) hbn (by omega) this.1 this.2])
    have hp2 : (2 : Nat) ^ b ≤ 2 ^ 36 := Nat.pow_le_pow_right (by omega) (by omega)
    have HPL := Lib.hid (plR_len N l cs)
    clear h hcell hcell2 hr hbq hbn hu hv
    generalize 2 ^ b = mk at *
    obtain ⟨bk, hbk⟩ : ∃ k, W2.heap.size = k := ⟨_, rfl⟩
    have hcm : (W2.alloc (.cells #[.int .i64 mk] 3)).cell? ⟨bk, 0, none⟩ = some (.int .i64 mk) := by subst hbk; exact World.cell?_alloc_at _ _ _ _ rfl
    have hb3 := hb12.alloc (show w.heap.size ≤ W2.heap.size by omega) (.cells #[.int .i64 mk] 3)
    have hbox3 := hbox2.alloc (.cells #[.int .i64 mk] 3)
    have hs3 : (W2.alloc (.cells #[.int .i64 mk] 3)).heap.size = bk + 1 := by simp [hbk]
    have c0 := hbox3.c0
    have c1 := hbox3.c1
    go_wp2_with fail
    (try rw [hbk])
    generalize (W2.alloc (.cells #[.int .i64 mk] 3)) = W3 at *
    refine (iPl B n cap m2 cap2 a a2 N l cs W3 hn hm (H.out.on (hb3.mono hB)) (HD.out.on (hb3.mono hB)) (Nat.le_trans hB hb3.size)).mono ?_
    rintro e W4 ⟨pv, rfl, hown, hb4⟩
    have hcm4 := (hb4.cell (p := ⟨bk, 0, none⟩) (by show bk < W3.heap.size; omega)).trans hcm
    have HB4 := Lib.hid (hb3.trans (hb4.mono hb3.size))
    have hs4 := hb4.size
    obtain ⟨L, hL⟩ : ∃ L, plR N l cs = L := ⟨_, rfl⟩
    rw [hL] at hown HFL HO HPL
    have HR9 := Lib.hid (show HEq (atR N l cs u v) (L.filter fun m => !lacksP ((mk : Nat) : Int) m) from by rw [HFL.out, HO.out])
    have HAT := Lib.hid (show L.filter (fun m => !lacksP ((mk : Nat) : Int) m) = atR N l cs u v from by rw [HFL.out, HO.out])
    have hpl := HPL.out
    clear HR9 hL hb3 hb4 hbox3 hbox2 hb12 hcm c0 c1 HFL HO HPL HMV
    rcases hown.2 with ⟨rfl, h0⟩ | ⟨g, cc, cur, rfl, hgb, hg, _⟩
    · have : L = [] := List.eq_nil_of_length_eq_zero h0
      subst this
      have HA := Lib.hid (show atR N l cs u v = [] from HAT.out.symm)
      clear hown HAT
      go_wp2_with fail
      refine (iDelNone 0 mk bk W4).mono ?_
      rintro e w5 ⟨rfl, rfl⟩
      go_wp2
      go_ret
      exact ⟨_, rfl, by rw [HA.out]; exact World.ownsRow_nil _ _ _ _, HB4.out⟩
    · have hgl : g < W4.heap.size := (Array.getElem?_eq_some_iff.1 hg).1
      have hcap := own_cap_m hown
      have eg : ∀ args w, (callFunc 84 args).run Tryz.prog w = .ok (.enter 84 args) w := enters_of Tryz.func84 (by kernel_rfl) rfl
      have hz : ∀ w, (zeroValue 3).run Tryz.prog w = .ok (.int .i64 0) w := Tryz.zeroValue3
      have hcon := Tryz.slices_DeleteFunc (Value.int .i64) (fun _ => rfl) (lacksP mk) 84 #[.pointer (some ⟨bk, 0, none⟩)] eg 0 hz g 0 cc L.toArray W4 (pred_lacks mk bk W4 (by omega) hcm4) (over_lacks mk bk g 0 _ W4 (by omega) (by omega) hcm4) (holds_row (Value.int .i64) hown) (by simp; omega) (by simpa using hcap)
      rw [show L.toArray.size = L.length by simp] at hcon
      simp only [show L.toArray.toList = L from rfl] at hcon
      rw [HAT.out] at hcon
      have hfl : (atR N l cs u v).length ≤ L.length := by rw [← HAT.out]; exact List.length_filter_le _ _
      have HRS := Lib.hid (fun (q : Nat) (d : List Int) (hd : d.length = L.length) => row_sorted (m := q) (os := #[]) (Value.int .i64) hown hd)
      have HCON := Lib.hid hcon
      generalize atR N l cs u v = R at *
      clear hcon hown HAT eg hz
      go_wp2_with fail
      refine HCON.out.mono ?_
      rintro e w5 ⟨rfl, q, hw5⟩
      have hr3 := HRS.out q (R ++ List.replicate (L.length - R.length) 0) (by simp; omega)
      unfold sortWorld at hr3
      rw [grow_empty, ← hw5] at hr3
      have hr4 := row1_take hr3.1 hfl
      have e4 : ((R ++ List.replicate (L.length - R.length) 0).map (Value.int .i64)).take R.length = iv R := by
        rw [List.map_append, List.take_append_of_le_length (by simp), List.take_of_length_le (by simp)]
        rfl
      rw [e4] at hr4
      have HR4 := Lib.hid (own_below hr4 (show w.heap.size ≤ W3.heap.size by omega))
      have HB5 := Lib.hid (HB4.out.grown hr3.2 (by omega) (fun k hk => by cases hk; omega))
      clear hw5 hr3 hr4 e4
      go_wp2
      go_ret
      exact ⟨_, rfl, HR4.out, HB5.out⟩

end Go.Proofs.YtailmmamgnebhaaGreatDoor
