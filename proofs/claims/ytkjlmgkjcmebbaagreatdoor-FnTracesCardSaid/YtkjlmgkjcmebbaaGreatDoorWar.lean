/-
  groupByLeast, newFilling, in the program: what the calls give.
  The counts that the program keeps: a map from sets of free places to numbers.
  The masks to try next, in the program: what the call gives; the operator &^.
  How many ways there are, counted by the program: what the call gives.
-/
import Derived.Test.YtkjlmgkjcmebbaaGreatDoorWaq
import Derived.Maps.Ext
import Derived.Maps.OwnSet
import Derived.Lib.QuietBelow
namespace Go.Proofs.YtkjlmgkjcmebbaaGreatDoor

section
open Go.RowKit Go.Maps Go.ChangeMaps Go.MapKept

/-- How the counts' elements read. -/
noncomputable abbrev RI : Value → Option (DataW Nat × List MemPlace) := plainElem Tryz.prog 3

theorem own_map {w : World} {B size n b q : Nat} {t : TypeId} {v : Value} {xs : List Value} {k : TypeId} {R : Value → Option (DataW Nat × List MemPlace)} {D : DataW Nat} (h : w.ownsRow B t size v n xs) (hm : w.ownsMap Tryz.prog k R b q D) : v.ownBlock ≠ some b := by
  obtain ⟨es, clock, hb, _⟩ := hm
  rcases h.2 with ⟨rfl, _⟩ | ⟨g, cap, cur, rfl, _, hg, _⟩
  · exact fun e => (by cases e)
  · intro e
    have e2 : g = b := by injection e
    rw [e2, hb] at hg
    cases hg
theorem gp_after {w w' : World} {g : Nat} {rows : Nat → Value} {o : Obj} {r : Option Nat} (h : GpAt w g rows) (hg : ((w.alloc o).drew).grownBy w' r) (hne : some g ≠ r) : GpAt w' g rows := by
  have h1 : GpAt (w.alloc o) g rows := h.by (World.grownBy_alloc w o none) (by simp)
  have h2 : GpAt (w.alloc o).drew g rows := h1
  exact h2.by hg hne
theorem gp_after2 {w w' : World} {g : Nat} {rows : Nat → Value} {o : Obj} {r : Option Nat} (h : GpAt w g rows) (hg : (w.alloc o).grownBy w' r) (hne : some g ≠ r) : GpAt w' g rows := (h.by (World.grownBy_alloc w o none) (by simp)).by hg hne
theorem own_gp {w : World} {B size n b : Nat} {v : Value} {xs : List Value} {rows : Nat → Value} (h : w.ownsRow B 3 size v n xs) (hm : GpAt w b rows) : v.ownBlock ≠ some b := by
  rcases h.2 with ⟨rfl, _⟩ | ⟨g, cap, cur, rfl, _, hg, _⟩
  · exact fun e => (by cases e)
  · intro e
    have e2 : g = b := by injection e
    unfold GpAt at hm
    rw [e2, hm] at hg
    injection hg with hg
    injection hg with _ h2
    exact absurd h2 (by decide)

set_option maxHeartbeats 4000000 in
set_option maxRecDepth 100000 in
theorem iGrpB (B n cap : Nat) (a : Option Addr) (Q : List Nat) (w : World) (hn : n ≤ 100000) (hc : IntsAt B w a n (ints Q)) (hQ : ∀ m ∈ Q, m ≠ 0 ∧ m < 68719476736) (hB : B ≤ w.heap.size) (hT : Tz w) :
    Calls Tryz.prog 91 #[.slice a n cap] w fun e w' => (∃ rows, e = .returned (.agg (gpV rows)) ∧ ∀ g, w'.heap.size ≤ g → GrpAt w.heap.size w' g rows Q) ∧ Below w.heap.size w w' := by
  obtain ⟨i0, hi, hz0, hz1, hz2⟩ := info_parts info_int
  have H := Lib.hid hc
  have hln := hc.1
  rw [ints_len] at hln
  have HQ := Lib.hid hQ
  have HT := Lib.hid hT
  clear hc hQ hT
  have hs1 : (w.alloc (.cells (gpV fun _ => .slice none 0 0) 105)).heap.size = w.heap.size + 1 := by simp
  have HF0 := Lib.hid (GpAt.new (w.alloc (.cells (gpV fun _ => .slice none 0 0) 105)) fun _ => .slice none 0 0)
  rw [hs1] at HF0
  have HR0 := Lib.hid ((GpAt.new w fun _ => .slice none 0 0).on (B := w.heap.size + 1) ((Below.refl _ (w.alloc (.cells (gpV fun _ => .slice none 0 0) 105))).alloc (by simp) (.cells (gpV fun _ => .slice none 0 0) 105)) (by omega))
  have HW0 := Lib.hid (show Below w.heap.size w ((w.alloc (.cells (gpV fun _ => .slice none 0 0) 105)).alloc (.cells (gpV fun _ => .slice none 0 0) 105)) from ((Below.refl _ _).alloc (Nat.le_refl _) _).alloc (by simp) _)
  have hsz2 : ((w.alloc (.cells (gpV fun _ => .slice none 0 0) 105)).alloc (.cells (gpV fun _ => .slice none 0 0) 105)).heap.size = w.heap.size + 2 := by simp
  clear hs1
  go_enter Tryz.func91, Tryz.ntmps91
  go_wp2
  rw [gpV_zero]
  generalize ((w.alloc (.cells (gpV fun _ => .slice none 0 0) 105)).alloc (.cells (gpV fun _ => .slice none 0 0) 105)) = W2 at *
  obtain ⟨rb, hrb⟩ : ∃ rb, w.heap.size = rb := ⟨_, rfl⟩
  have HRB := Lib.hid hrb
  rw [hrb] at HF0 HR0 HW0 hsz2 hB ⊢
  go_loopw [9] (fun i wr => ∃ (k : Nat) (rows : Nat → Value), k ≤ n ∧ i = .int .i64 (k : Int) ∧ Hid (GpAt wr (rb + 1) rows) ∧ Hid (GpAt wr rb (fun _ => .slice none 0 0)) ∧ Hid (GrpAt rb wr (rb + 1) rows (Q.take k)) ∧ Below rb w wr ∧ rb + 2 ≤ wr.heap.size) (fun i _ => n - (intOf i).toNat)
  case atStart => exact ⟨0, _, by omega, rfl, HF0.out, HR0.out, GrpAt.nil _ _ _, HW0.out, by omega⟩
  case round =>
    clear HF0 HR0 HW0 hsz2
    obtain ⟨k, rows, hk, rfl, hf, hr0, hgr, hb, hsz⟩ := hrel
    by_cases hkt : k < n
    · have hk1 : (k : Int) < (n : Int) := by omega
      have hk0 : (0 : Int) ≤ (k : Int) := by omega
      obtain ⟨b9, o9, rfl, hb9, hc9⟩ := (H.out.on (hb.mono hB)).2.2 (by omega)
      have p1 := hc9 k hkt
      rw [ints_get] at p1
      have hm := HQ.out (Q.getD k 0) (getD_memN (by omega))
      have HSN := Lib.hid (fun j => grpB_snoc Q k j (by omega))
      obtain ⟨m, hmm⟩ : ∃ m, Q.getD k 0 = m := ⟨_, rfl⟩
      rw [hmm] at p1 hm HSN
      have hlw := lowB_lt hm.1 (by omega)
      have HL := Lib.hid (iLow m (by omega) wr (HT.out.on hb (by have := HT.out.2; have := HRB.out; omega)))
      obtain ⟨low, hlow⟩ : ∃ low, lowB m = low := ⟨_, rfl⟩
      rw [hlow] at hlw HL HSN
      clear hc9 hmm hlow hm
      have hl0 : (0 : Int) ≤ (low : Int) := by omega
      have hl1 : (low : Int) < 64 := by omega
      have c0 := hf.out.row (k := low) hlw
      have f0 := hf.out.frozen low
      have hown := hgr.out.each low hlw
      have hlen := grpB_len (Q.take k) low
      rw [List.length_take] at hlen
      have hoff := hgr.out.off low hlw
      obtain ⟨v, hv⟩ : ∃ v, rows low = v := ⟨_, rfl⟩
      rw [hv] at c0 hown hoff
      have HV := Lib.hid hv
      have hoff2 := own_gp hown hr0.out
      obtain ⟨q, hq⟩ : ∃ q, (grpB (Q.take k) low).length = q := ⟨_, rfl⟩
      rw [hq] at hown hlen
      have hlen' : q ≤ 100000 := Nat.le_trans hlen (Nat.le_trans (Nat.min_le_left _ _) (by omega))
      clear hlen
      have HQL := Lib.hid hq
      have HOW := Lib.hid hown
      have hglt := hf.out.lt
      have m0 : (wr.alloc (.cells #[.int .i64 (m : Int)] 3)).cell? ⟨rb + 1, low, none⟩ = some v := (hf.out.by (World.grownBy_alloc wr _ none) (by simp)).row hlw |>.trans (by rw [HV.out])
      clear hv hq hown
      go_wp2_with fail
      refine HL.out.mono ?_
      rintro e w2 ⟨rfl, hw2⟩
      have hw2' := hw2.symm
      subst hw2'
      have hOWa := HOW.out.alloc (.cells #[.int .i64 (m : Int)] 3)
      go_wp2_with (first | (at_builtin; refine wpList_append_lies _ rfl _ _ _ rfl rb 3 i0 (.int .i64 0) 1 8 Tryz.underlying24 hi hz0 hz1 hz2 rfl (by omega) _ q (iv (ints (grpB (Q.take k) low))) rfl hOWa ⟨wr.heap.size, 0, none⟩ 1 1 (iv [(m : Int)]) rfl rfl ?a2 (iv_one _) (by omega) ?a3 ?a4 ?a5 (wr.heap.size + 1) ?a6 ?_) | go_in)
      case a2 => exact World.news_of_block (cs := #[.int .i64 (m : Int)]) (t := 3) (fr := (0, 0)) (heap_alloc_new _ _)
      case a3 => unfold maxLen; omega
      case a4 => omega
      case a5 => have := hb.size; simp; omega
      case a6 => simp
      intro gg cap' w' hownN hgrN hatN hltN
      have hfN := gp_after2 hf.out hgrN (fun e => hoff e.symm)
      have m1 : w'.cell? ⟨rb + 1, low, none⟩ = some v := (hfN.row hlw).trans (by rw [HV.out])
      have m2 := hfN.frozen low
      have hgr2 : (wr.alloc (.cells #[.int .i64 (m : Int)] 3)).grownBy w' v.ownBlock := hgrN
      have hat2 : v.ownBlock = some gg ∨ gg = wr.heap.size + 1 := hatN
      have hszA : (wr.alloc (.cells #[.int .i64 (m : Int)] 3)).heap.size = wr.heap.size + 1 := by simp
      have hszB : wr.heap.size + 1 ≤ w'.heap.size := by rw [← hszA]; exact hgr2.size
      have hG1 := hgr.out.by (World.grownBy_alloc wr (.cells #[.int .i64 (m : Int)] 3) none) (fun _ _ _ _ h => by cases h)
      have hG2 := hG1.put (Q' := Q.take (k + 1)) (k := low) (m := m) (gg := gg) (c := cap') (w' := w') hlw HSN.out (by rw [HQL.out]; exact hownN) (by rw [HV.out]; exact hgr2)
        (by rw [HV.out]; rcases hat2 with h1 | h1; exact .inl h1; exact .inr (by rw [hszA]; omega)) (by rw [hszA]; omega)
      rw [HQL.out] at hG2
      have HR2 := Lib.hid ((gp_after2 hr0.out hgrN (fun e => hoff2 e.symm)).other (c := rb + 1) (k := low) (v := .slice (some ⟨gg, 0, none⟩) (q + 1) cap') (by omega))
      have hb2 := (hb.alloc (by omega) (.cells #[.int .i64 (m : Int)] 3)).grown hgr2 (by show _ ≤ (wr.alloc (.cells #[.int .i64 (m : Int)] 3)).heap.size; simp; omega) (fun j hj => (HOW.out.lt _ hj).1)
      have HB2 := Lib.hid (hb2.setCell (p := ⟨rb + 1, low, none⟩) (by show rb ≤ rb + 1; omega) (.slice (some ⟨gg, 0, none⟩) (q + 1) cap'))
      have HF2 := Lib.hid (hfN.set hlw (.slice (some ⟨gg, 0, none⟩) (q + 1) cap'))
      have HG3 := Lib.hid (hG2.by (grown_set1 w' (rb + 1) low (.slice (some ⟨gg, 0, none⟩) (q + 1) cap')) (fun j hj b hb9 e => hG2.off j hj (by rw [hb9]; exact e.symm)))
      have HS2 := Lib.hid (show rb + 2 ≤ (w'.setCell ⟨rb + 1, low, none⟩ (.slice (some ⟨gg, 0, none⟩) (q + 1) cap')).heap.size from by have h7 := (grown_set1 w' (rb + 1) low (.slice (some ⟨gg, 0, none⟩) (q + 1) cap')).size; omega)
      clear hownN hgrN hatN hfN m0 c0 f0 hgr2 hat2 hG1 hG2 hb2 hf hgr hr0 hb HOW hszB hszA hOWa p1
      go_wp2
      go_roundw
      case rel => first
        | exact ⟨k + 1, _, by omega, by go_num, HF2.out, HR2.out, HG3.out, HB2.out, HS2.out⟩
        | (repeat apply Exists.intro
           exact ⟨⟨k + 1, _, by omega, by go_num, HF2.out, HR2.out, HG3.out, HB2.out, HS2.out⟩, rfl⟩)
      case measure => simp [intOf]; omega
    · obtain rfl : k = n := by omega
      have hgr9 := hgr.out
      rw [List.take_of_length_le (by omega)] at hgr9
      have hi1 : (Tryz.prog.info? 105).map (·.size) = some (gpV rows).size := by rw [gpV_size]; exact gp_size
      have HI := Lib.hid hi1
      have HONE := Lib.hid (gpV_one hgr9.one)
      have HWF := Lib.hid (below_setRow hb (Nat.le_refl _) (gpV rows))
      have HRF := Lib.hid (setRow_heap wr rb _ (gpV rows) _ _ hr0.out)
      have HSZ := Lib.hid (show (wr.setRow rb (gpV rows)).heap.size = wr.heap.size from by simp [World.setRow])
      have HG9 := Lib.hid (hgr9.by (grown_setRow wr rb (gpV rows)) (fun j hj b hb9 e => own_gp (hgr9.each j hj) hr0.out (by rw [hb9]; exact e.symm)))
      have HF9 := hf.out
      unfold GpAt at HF9
      have hr9 := hr0.out
      unfold GpAt at hr9
      clear hi1 hgr9 hgr hf hr0
      go_wp2_with (first
        | (refine wpList_load_row rfl 105 _ rfl (rb + 1) rfl 105 (gpV rows) (0, 0) _ HF9 Tryz.underlying105 rfl HI.out ?_)
        | (refine wpList_store_row rfl 105 _ _ rfl rb (gpV rows) rfl rfl 105 (gpV fun _ => .slice none 0 0) hr9 HI.out (by rw [gpV_size, gpV_size]) HONE.out ?_)
        | go_in)
      exact bodyPost_ret (v := .agg (gpV rows)) (results_cell_row Tryz.results91 _ _ rb 105 (gpV rows) (0, 0) _ rfl HRF.out Tryz.underlying105 rfl HI.out) rfl ⟨⟨rows, rfl, fun g hg => by rw [HRB.out]; exact HG9.out.to_new hg⟩, by rw [HRB.out]; exact HWF.out⟩

set_option maxHeartbeats 4000000 in
set_option maxRecDepth 100000 in
theorem iNewF (B n cap : Nat) (a : Option Addr) (Q : List Nat) (L : Int) (w : World) (hn : n ≤ 100000) (hc : IntsAt B w a n (ints Q)) (hQ : ∀ m ∈ Q, m ≠ 0 ∧ m < 68719476736) (hB : B ≤ w.heap.size) (hT : Tz w) :
    Calls Tryz.prog 54 #[.slice a n cap, .int .i64 L] w fun e w' => (∃ g mb rows d, e = .returned (.pointer (some ⟨g, 0, none⟩)) ∧ FilAt w' g rows d L mb ∧ GrpAt w.heap.size w' g rows Q ∧ SumTo Q d 65 ∧ w'.ownsMap Tryz.prog 3 RI mb 0 (.map []) ∧ w.heap.size ≤ g ∧ w.heap.size ≤ mb) ∧ Below w.heap.size w w' := by
  have H := Lib.hid hc
  have HQ := Lib.hid hQ
  have HT := Lib.hid hT
  have hmm := @run_makeMap Tryz.prog
  clear hc hQ hT
  go_enter Tryz.func54, Tryz.ntmps54
  go_wp2_with fail
  refine (iGrpB B n cap a Q w hn H.out HQ.out hB HT.out).mono ?_
  rintro e w0 ⟨⟨rows, rfl, hgr⟩, hb0⟩
  have HG := Lib.hid hgr
  have HB0 := Lib.hid hb0
  clear hgr hb0
  go_wp2_with fail
  refine (iSums B n cap a Q w0 (by omega) (H.out.on (HB0.out.mono hB)) (fun m hm => (HQ.out m hm).2) (Nat.le_trans hB HB0.out.size)).mono ?_
  rintro e w1 ⟨⟨d, rfl, hd⟩, hb1⟩
  have HD := Lib.hid hd
  have HB1 := Lib.hid (HB0.out.trans (hb1.mono HB0.out.size))
  have HG1 := Lib.hid (fun g (hg : w1.heap.size ≤ g) => (HG.out g (Nat.le_trans hb1.size hg)).by (grow_below hb1 none) (fun _ _ _ _ h => by cases h))
  clear hd hb1
  have hbt := fil_built rows d L w1.heap.size
  go_wp2_with (first | (refine wpList_build rfl 111 _ rfl ?iss ?_) | go_in)
  obtain ⟨mb, hmb⟩ : ∃ mb, w1.heap.size = mb := ⟨_, rfl⟩
  have hs1 := HB1.out.size
  have hs2 : (w1.alloc (.map #[] 0)).heap.size = mb + 1 := by simp [hmb]
  have HF0 := Lib.hid (show FilAt ((w1.alloc (.map #[] 0)).alloc (.cells (filV rows d L mb) 111)) (mb + 1) rows d L mb from by rw [← hs2]; exact heap_alloc_last _ _)
  have HM0 := Lib.hid (show ((w1.alloc (.map #[] 0)).alloc (.cells (filV rows d L mb) 111)).ownsMap Tryz.prog 3 RI mb 0 (.map []) from by rw [← hmb]; exact (World.ownsMap_made w1 _ _ _).alloc _)
  have HW0 := Lib.hid (show Below w.heap.size w ((w1.alloc (.map #[] 0)).alloc (.cells (filV rows d L mb) 111)) from (HB1.out.alloc hs1 _).alloc (by rw [hs2]; omega) _)
  have HG2 := Lib.hid (show GrpAt w.heap.size ((w1.alloc (.map #[] 0)).alloc (.cells (filV rows d L mb) 111)) (mb + 1) rows Q from
    ((HG1.out (mb + 1) (by omega)).by (World.grownBy_alloc w1 (.map #[] 0) none) (fun _ _ _ _ h => by cases h)).by (World.grownBy_alloc _ _ none) (fun _ _ _ _ h => by cases h))
  rw [hmb] at hs1 ⊢
  clear hbt hmm hs2
  generalize ((w1.alloc (.map #[] 0)).alloc (.cells (filV rows d L mb) 111)) = W2 at *
  go_wp2
  go_ret
  exact ⟨⟨mb + 1, mb, rows, d, rfl, HF0.out, HG2.out, HD.out, HM0.out, by omega, by omega⟩, HW0.out⟩
end

section
open Go.RowKit Go.Maps Go.ChangeMaps Go.MapKept

theorem int_law : Keyed Tryz.prog 3 := int_keyed Tryz.underlying3
def litN (f : Nat) : Lit := .int .i64 (f : Int)
def dN (c : Nat) : DataW Nat := .lit (.int .i64 (c : Int))
theorem lit_inj {a b : Int} (h : (DataW.lit (.int .i64 a) : DataW Nat) = .lit (.int .i64 b)) : a = b := by cases h; rfl
theorem litN_inj {a b : Nat} (h : litN a = litN b) : a = b := by
  unfold litN at h
  injection h with _ h
  omega
theorem wf_N {c : Nat} (h : c < 9223372036854775808) : (Lit.int .i64 (c : Int)).wf = true := by
  simp only [Lit.wf, Bool.and_eq_true, decide_eq_true_eq]
  constructor
  · have : (IntKind.i64.min : Int) ≤ 0 := by decide
    omega
  · have : IntKind.i64.max = (9223372036854775807 : Int) := by decide
    omega
theorem litN_key {f : Nat} (h : f < 9223372036854775808) : keyOf Tryz.prog 3 (.int .i64 (f : Int)) = some (litN f) := keyOf_int_mk Tryz.underlying3 (wf_N h)
theorem zero_int (w : World) : (zeroValue 3).run Tryz.prog w = .ok (.int .i64 0) w := by
  obtain ⟨i0, hi, hz0, hz1, hz2⟩ := info_parts info_int
  simp [zeroValue, typeInfo, hi, hz0]
/-- What is in the map as read: for sets of places, v of them. -/
def HasC (D : DataW Nat) (v : Nat → Nat) : Prop := ∀ k, has D k = true → ∃ f : Nat, k = litN f ∧ f < 68719476736 ∧ D.atKey k (.lit (.int .i64 0)) = dN (v f)
/-- Block mb is a map of counts. -/
def CntM (w : World) (mb : Nat) (v : Nat → Nat) : Prop := ∃ D : DataW Nat, w.ownsMap Tryz.prog 3 RI mb 68719476736 D ∧ HasC D v
theorem CntM.made {w : World} {mb : Nat} (h : w.ownsMap Tryz.prog 3 RI mb 0 (.map [])) (v : Nat → Nat) : CntM w mb v := ⟨_, h.mono (by omega), fun k hk => by simp [Maps.has] at hk⟩
theorem CntM.kept {w w' : World} {mb : Nat} {v : Nat → Nat} {row : Option Nat} (h : CntM w mb v) (hg : w.grownBy w' row) (hne : some mb ≠ row) : CntM w' mb v := by
  obtain ⟨D, h1, h2⟩ := h
  exact ⟨D, h1.kept hg hne, h2⟩
theorem CntM.on {w w' : World} {mb : Nat} {v : Nat → Nat} (h : CntM w mb v) (hb : Below w.heap.size w w') : CntM w' mb v := h.kept (grow_below hb none) (by simp)
theorem CntM.drew {w : World} {mb : Nat} {v : Nat → Nat} (h : CntM w mb v) : CntM w.drew mb v := h
theorem CntM.lt {w : World} {mb : Nat} {v : Nat → Nat} (h : CntM w mb v) : mb < w.heap.size := by
  obtain ⟨D, h1, h2⟩ := h
  exact h1.lt
theorem rise_len (N : Nat) : ∀ (es : List (Lit × DataW Nat)) (lo : Nat), es.Pairwise (fun p q => p.1.before q.1 = true) → (∀ p ∈ es, ∃ f : Nat, p.1 = litN f ∧ lo ≤ f ∧ f < N) → lo ≤ N → es.length + lo ≤ N
  | [], lo, _, _, h => by simpa using h
  | p :: r, lo, hp, hk, h => by
    obtain ⟨h1, h2⟩ := List.pairwise_cons.1 hp
    obtain ⟨f, e, hf, hN⟩ := hk p (by simp)
    have := rise_len N r (f + 1) h2 (fun q hq => by
      obtain ⟨g, e2, _, hg⟩ := hk q (by simp [hq])
      have hb := h1 q hq
      rw [e, e2] at hb
      unfold litN Lit.before at hb
      have hb2 : (f : Int) < (g : Int) := by simpa using hb
      exact ⟨g, e2, by omega, hg⟩) (by omega)
    simp only [List.length_cons]
    omega
theorem own_tight {w : World} {b n : Nat} {D : DataW Nat} (h : w.ownsMap Tryz.prog 3 RI b n D) {v : Nat → Nat} (hc : HasC D v) : w.ownsMap Tryz.prog 3 RI b 68719476736 D := by
  obtain ⟨es0, e0, hr, hk⟩ := h.canon int_law
  have hl : es0.length ≤ 68719476736 := by
    have := rise_len 68719476736 es0 0 hr (fun p hp => by
      have hh : has D p.1 = true := by rw [e0, has_eq]; exact List.any_eq_true.2 ⟨p, hp, WideAt.sameKey_self (hk p hp)⟩
      obtain ⟨f, e1, h1, _⟩ := hc p.1 hh
      exact ⟨f, e1, Nat.zero_le _, h1⟩) (by omega)
    simpa using this
  obtain ⟨es, clock, hb, F, hs, hD⟩ := h
  refine ⟨es, clock, hb, F, ?_, hD⟩
  rw [e0] at hD
  injection hD with hD
  rw [hD, length_sorted] at hl
  simpa using hl
/-- One count more. -/
theorem CntM.store {w : World} {mb : Nat} {v : Nat → Nat} (h : CntM w mb v) {f : Nat} (hf : f < 68719476736) (hv : v f < 9223372036854775808) :
    ∃ w', (Instr.mapUpdate 109 (.map (some mb)) (.int .i64 (f : Int)) (.int .i64 (v f : Nat))).run Tryz.prog w = .ok () w' ∧ CntM w' mb v ∧ w.grownBy w' (some mb) ∧
      (Instr.lookup 109 (.map (some mb)) (.int .i64 (f : Int)) false).run Tryz.prog w' = .ok (.int .i64 (v f : Nat)) w' := by
  obtain ⟨D, h1, h2⟩ := h
  have hkey := litN_key (show f < 9223372036854775808 by omega)
  obtain ⟨w', hrun, ho, hg⟩ := h1.update int_law Tryz.underlying109 (by unfold maxLen; omega) hkey (plainElem_int (H := Nat) Tryz.underlying3 (wf_N hv))
  have hc : HasC (D.put (litN f) (.lit (.int .i64 ((v f : Nat) : Int)))) v := by
    intro k hk
    by_cases e : k = litN f
    · subst e
      exact ⟨f, rfl, hf, atKey_put_same h1.isMap (int_law.key hkey) _ _⟩
    · rw [has_put_other e] at hk
      obtain ⟨g, e1, hg2, e2⟩ := h2 k hk
      exact ⟨g, e1, hg2, by rw [atKey_put_other e]; exact e2⟩
  refine ⟨w', hrun, ⟨_, own_tight ho hc, hc⟩, hg, ?_⟩
  obtain ⟨c, hrun2, hat, _⟩ := ho.lookup_int int_law Tryz.underlying109 Tryz.underlying3 (zero_int w') hkey
  rw [atKey_put_same h1.isMap (int_law.key hkey)] at hat
  rw [hrun2, ← lit_inj hat]
/-- A count looked up. -/
theorem CntM.look {w : World} {mb : Nat} {v : Nat → Nat} (h : CntM w mb v) {f : Nat} (hf : f < 68719476736) :
    (Instr.lookup 109 (.map (some mb)) (.int .i64 (f : Int)) true).run Tryz.prog w = .ok (.tuple #[.int .i64 (v f : Nat), .bool true]) w ∨
    ∃ c : Int, (Instr.lookup 109 (.map (some mb)) (.int .i64 (f : Int)) true).run Tryz.prog w = .ok (.tuple #[.int .i64 c, .bool false]) w := by
  obtain ⟨D, h1, h2⟩ := h
  have hkey := litN_key (show f < 9223372036854775808 by omega)
  have hw0 : (Lit.int .i64 0).wf = true := by decide
  obtain ⟨x, ps, hrun, hx⟩ := h1.look_ok int_law Tryz.underlying109 (zero_int w) (plainElem_int (H := Nat) Tryz.underlying3 hw0) hkey
  obtain ⟨c, rfl, hc, hwc⟩ := plainElem_int_inv Tryz.underlying3 hx
  cases hh : has D (litN f) with
  | false => exact .inr ⟨c, by rw [hrun, hh]⟩
  | true =>
    left
    obtain ⟨g, e, hg, hat⟩ := h2 _ hh
    have e2 := litN_inj e
    subst e2
    have hc1 := congrArg Prod.fst hc
    simp only at hc1
    rw [hat] at hc1
    rw [hrun, hh, lit_inj hc1]
end

section
open Go.RowKit Go.Maps Go.ChangeMaps Go.MapKept

theorem and_self_sub (a b : Nat) : subN (a &&& b) a := subN_of fun i hi => by
  rw [Nat.testBit_and, Bool.and_eq_true] at hi
  exact hi.1
theorem i64_andnot (a b : Nat) (ha : a < 9223372036854775808) (_hb : b < 9223372036854775808) : bits .andNot .i64 (a : Int) (b : Int) = ((a - (a &&& b) : Nat) : Int) := by
  have key : (BitVec.ofInt 64 (a : Int) &&& ~~~ BitVec.ofInt 64 (b : Int)).toNat = a - (a &&& b) := by
    apply Nat.eq_of_testBit_eq
    intro i
    rw [sub_bit (and_self_sub a b), Nat.testBit_and]
    rw [BitVec.testBit_toNat, BitVec.getLsbD_and, BitVec.getLsbD_not, BitVec.ofInt_natCast, BitVec.ofInt_natCast, BitVec.getLsbD_ofNat, BitVec.getLsbD_ofNat]
    by_cases hi : i < 64
    · simp only [hi, decide_true, Bool.true_and]
      cases a.testBit i <;> cases b.testBit i <;> rfl
    · have h1 : a.testBit i = false := Nat.testBit_lt_two_pow (Nat.lt_of_lt_of_le ha (Nat.le_trans (by decide) (Nat.pow_le_pow_right (n := 2) (by decide) (show 63 ≤ i by omega))))
      simp [hi, h1]
  show IntKind.i64.wrap ((BitVec.ofInt 64 (a : Int) &&& ~~~ BitVec.ofInt 64 (b : Int)).toNat : Int) = _
  rw [key, IntKind.wrap_i64]
  omega
theorem andnot_sub {m f : Nat} (h : subB f m = true) (hm : m < 9223372036854775808) (hf : f < 9223372036854775808) : bits .andNot .i64 (m : Int) (f : Int) = 0 ∧ bits .andNot .i64 (f : Int) (m : Int) = ((f - m : Nat) : Int) := by
  have hs : m &&& f = m := by unfold subB at h; exact of_decide_eq_true h
  refine ⟨?_, ?_⟩
  · rw [i64_andnot _ _ hm hf, hs]
    simp
  · rw [i64_andnot _ _ hf hm, Nat.and_comm, hs]
theorem andnot_no {m f : Nat} (h : subB f m = false) (hm : m < 9223372036854775808) (hf : f < 9223372036854775808) : bits .andNot .i64 (m : Int) (f : Int) ≠ 0 := by
  have hs : m &&& f ≠ m := by unfold subB at h; exact of_decide_eq_false h
  rw [i64_andnot _ _ hm hf]
  have := @Nat.and_le_left m f
  omega

/-- All that the program keeps while it fills, in a world at hand. -/
structure FilOk (B : Nat) (w : World) (g mb : Nat) (rows : Nat → Value) (d : Nat → Bool) (L : Int) (Q : List Nat) : Prop where
  fil : FilAt w g rows d L mb
  grp : GrpAt B w g rows Q
  tz : Tz w
  ne : g ≠ mb
  tne : gDB ≠ mb
  off : ∀ k, k < 64 → (rows k).ownBlock ≠ some mb
theorem FilOk.but {B g mb : Nat} {w w' : World} {rows : Nat → Value} {d : Nat → Bool} {L : Int} {Q : List Nat} (h : FilOk B w g mb rows d L Q) (hk : But w.heap.size mb w w') : FilOk B w' g mb rows d L Q := by
  have hg := hk.grown
  refine ⟨h.fil.by hg (fun e => h.ne (Option.some.inj e)), h.grp.by hg (fun k hk2 b hb e => h.off k hk2 (by rw [hb]; exact e.symm)), ⟨fun j hj => ?_, Nat.lt_of_lt_of_le h.tz.2 hk.size⟩, h.ne, h.tne, h.off⟩
  rw [World.cell?_of_block (a := ⟨gDB, j, none⟩) (hk.block gDB h.tz.2 h.tne)]
  exact h.tz.1 j hj
theorem FilOk.on {B g mb : Nat} {w w' : World} {rows : Nat → Value} {d : Nat → Bool} {L : Int} {Q : List Nat} (h : FilOk B w g mb rows d L Q) (hk : Below w.heap.size w w') : FilOk B w' g mb rows d L Q := h.but (But.of_below hk)

set_option maxHeartbeats 2000000 in
set_option maxRecDepth 100000 in
theorem iCandsC (g f : Nat) (v : Value) (w : World) (h0 : f ≠ 0) (hf : f < 68719476736) (hT : Tz w) (hc : w.cell? ⟨g, lowB f, none⟩ = some v) :
    Calls Tryz.prog 95 #[.pointer (some ⟨g, 0, none⟩), .int .i64 f] w fun e w' => e = .returned v ∧ Below w.heap.size w w' := by
  have hlt := lowB_lt h0 (show f < 2 ^ 64 by omega)
  have HL := Lib.hid (fun W hT => iLow f (by omega) W hT)
  have HT := Lib.hid hT
  obtain ⟨low, hlow⟩ : ∃ low, lowB f = low := ⟨_, rfl⟩
  rw [hlow] at hlt hc HL
  have hl0 : (0 : Int) ≤ (low : Int) := by omega
  have hl1 : (low : Int) < 64 := by omega
  have r0 := cell_regrown hc
  have kI : ∀ d os, Calls Tryz.prog 66 #[.int .i64 f] (Go.Sort.grow (redrawn w d) os) fun e w9 => e = .returned (.int .i64 low) ∧ Below (Go.Sort.grow (redrawn w d) os).heap.size (Go.Sort.grow (redrawn w d) os) w9 := fun d os =>
    (HL.out _ (HT.out.on (below_regrown w d os) HT.out.2)).mono fun e w9 ⟨he, hw⟩ => ⟨he, by rw [hw]; exact Below.refl _ _⟩
  clear hlow hT
  go_enter Tryz.func95, Tryz.ntmps95
  go_wp2_with fail
  refine wp_region_quiet_below (by kernel_rfl) (by kernel_rfl) ?_
  repeat (first | (go_big_quiet_step (first | (go_at_call 66; with_reducible refine Calls.regrown_of (kI _ _)))) | (quiet_step (first | (go_at_call 66; with_reducible refine Calls.regrown_of (kI _ _)))))
  refine wpQuiet_nil ?_
  intro _ hw9
  obtain ⟨⟨nq, osq⟩, hw8⟩ := hw9
  subst hw8
  have hbz := below_regrown w nq osq
  generalize (Go.Sort.grow (redrawn w nq) osq) = w3 at *
  clear r0 kI hc
  go_wp2
  go_ret
  exact ⟨rfl, hbz⟩
theorem iCands (B g mb f : Nat) (rows : Nat → Value) (d : Nat → Bool) (L : Int) (Q : List Nat) (w : World) (h0 : f ≠ 0) (hf : f < 68719476736) (h : FilOk B w g mb rows d L Q) :
    Calls Tryz.prog 95 #[.pointer (some ⟨g, 0, none⟩), .int .i64 f] w fun e w' => e = .returned (rows (lowB f)) ∧ Below w.heap.size w w' :=
  iCandsC g f _ w h0 hf h.tz (h.fil.row (lowB_lt h0 (by omega)))
end

section
open Go.RowKit Go.Maps Go.ChangeMaps Go.MapKept

/-- What the program counts: no further than its limit. -/
def cutC (Q : List Nat) (L f : Nat) : Nat := min (cntR Q f) L
theorem cutC_zero (Q : List Nat) {L : Nat} (h : 1 ≤ L) : cutC Q L 0 = 1 := by unfold cutC; rw [cntR_zero]; omega
theorem cutC_le (Q : List Nat) (L f : Nat) : cutC Q L f ≤ L := Nat.min_le_right _ _
theorem own_sliceI {w : World} {base n : Nat} {v : Value} {xs : List Value} (h : w.ownsRow base 3 1 v n xs) : ∃ a cap, v = .slice a n cap := by
  rcases h.2 with ⟨rfl, h0⟩ | ⟨g, cap, cur, rfl, _⟩
  · subst h0; exact ⟨none, 0, rfl⟩
  · exact ⟨_, cap, rfl⟩
theorem ints_bd {Q : List Nat} (h : ∀ m ∈ Q, m < 68719476736) : ∀ z ∈ ints Q, In64 z := by
  intro z hz
  unfold ints at hz
  obtain ⟨m, hm, rfl⟩ := List.mem_map.1 hz
  have := h m hm
  unfold In64
  omega


set_option maxHeartbeats 8000000 in
set_option maxRecDepth 100000 in
theorem iCount (B g mb : Nat) (rows : Nat → Value) (d : Nat → Bool) (L : Nat) (Q : List Nat) (hL : 1 ≤ L) (hL2 : L ≤ 100000) (hQ : ∀ m ∈ Q, m ≠ 0 ∧ m < 68719476736) (hQl : Q.length ≤ 100000) (hd : SumTo Q d 65) :
    ∀ (F f : Nat), f ≤ F → f < 68719476736 → ∀ w, FilOk B w g mb rows d L Q → CntM w mb (cutC Q L) →
    Calls Tryz.prog 64 #[.pointer (some ⟨g, 0, none⟩), .int .i64 f] w fun e w' => e = .returned (.int .i64 (cutC Q L f : Nat)) ∧ CntM w' mb (cutC Q L) ∧ But w.heap.size mb w w' := by
  intro F
  induction F with
  | zero =>
    intro f hf0 hf w hF hM
    obtain rfl : f = 0 := by omega
    have HC := Lib.hid (cutC_zero Q hL)
    rw [HC.out]
    go_enter Tryz.func64, Tryz.ntmps64
    go_wp2
    go_ret
    exact ⟨rfl, hM, But.refl _ _ _⟩
  | succ F ih =>
    intro f hfF hf w hF hM
    by_cases h0 : f = 0
    · subst h0
      have HC := Lib.hid (cutC_zero Q hL)
      rw [HC.out]
      go_enter Tryz.func64, Tryz.ntmps64
      go_wp2
      go_ret
      exact ⟨rfl, hM, But.refl _ _ _⟩
    have hfz : ((f : Int) == 0) = false := by simp; omega
    have HIH := Lib.hid ih
    have HQ := Lib.hid hQ
    have HF := Lib.hid hF
    have HM := Lib.hid hM
    have HTG := Lib.hid (tilR_grp (fun m hm => (hQ m hm).1) h0 (show f < 2 ^ 64 by omega))
    clear ih
    have hp64 := pop_le f
    have HP := Lib.hid (fun W => iOnes f (by omega) W)
    have HSN := Lib.hid (fun h => sum_no hd (f := f) h)
    have c0 := hF.fil.sum (k := pop f) (by omega)
    obtain ⟨s, hs⟩ : ∃ s, pop f = s := ⟨_, rfl⟩
    rw [hs] at hp64 HP HSN c0
    have hs0 : (0 : Int) ≤ (s : Int) := by omega
    have hs1 : (s : Int) < 65 := by omega
    have hwf : IntKind.u64.wrap (f : Int) = (f : Int) := by rw [IntKind.wrap_u64]; omega
    have r0 := cell_regrown c0
    have kI : ∀ d os, Calls Tryz.prog 99 #[.int .u64 f] (Go.Sort.grow (redrawn w d) os) fun e w9 => e = .returned (.int .i64 s) ∧ Below (Go.Sort.grow (redrawn w d) os).heap.size (Go.Sort.grow (redrawn w d) os) w9 := fun d os =>
      (HP.out _).mono fun e w9 ⟨he, hw⟩ => ⟨he, by rw [hw]; exact Below.refl _ _⟩
    clear hs
    cases hds : d s with
    | false =>
      rw [hds] at r0
      have HZ := Lib.hid (show cutC Q L f = 0 from by unfold cutC; rw [HSN.out hds]; omega)
      rw [HZ.out]
      clear HSN hds
      go_enter Tryz.func64, Tryz.ntmps64
      go_wp2_with fail
      refine wp_region_quiet_below (by kernel_rfl) (by kernel_rfl) ?_
      repeat (first | (go_big_quiet_step (first | (go_at_call 99; with_reducible refine Calls.regrown_of (kI _ _)))) | (quiet_step (first | (go_at_call 99; with_reducible refine Calls.regrown_of (kI _ _)))))
      refine wpQuiet_nil ?_
      intro _ hw9
      obtain ⟨⟨nq, osq⟩, hw8⟩ := hw9
      subst hw8
      have hbz := below_regrown w nq osq
      generalize (Go.Sort.grow (redrawn w nq) osq) = w3 at *
      clear r0 kI c0
      go_wp2
      go_ret
      exact ⟨rfl, HM.out.on hbz, But.of_below hbz⟩
    | true =>
      rw [hds] at r0
      clear HSN hds
      go_enter Tryz.func64, Tryz.ntmps64
      go_wp2_with fail
      refine wp_region_quiet_below (by kernel_rfl) (by kernel_rfl) ?_
      repeat (first | (go_big_quiet_step (first | (go_at_call 99; with_reducible refine Calls.regrown_of (kI _ _)))) | (quiet_step (first | (go_at_call 99; with_reducible refine Calls.regrown_of (kI _ _)))))
      refine wpQuiet_nil ?_
      intro _ hw9
      obtain ⟨⟨nq, osq⟩, hw8⟩ := hw9
      subst hw8
      have hbz := below_regrown w nq osq
      generalize (Go.Sort.grow (redrawn w nq) osq) = w3 at *
      clear r0 kI c0
      have HB3 := Lib.hid (But.of_below (b := mb) hbz)
      have HF3 := Lib.hid (HF.out.on hbz)
      have HM3 := Lib.hid (HM.out.on hbz)
      have c3 := HF3.out.fil.map
      have hsz3 := hbz.size
      clear HM hbz
      rcases HM3.out.look hf with hlk | ⟨c, hlk⟩
      · go_wp2
        go_ret
        exact ⟨rfl, HM3.out, HB3.out⟩
      · go_wp2_with fail
        refine (iCands B g mb f rows d L Q w3 h0 hf HF3.out).mono ?_
        rintro e w4 ⟨rfl, hb4⟩
        have HB4 := Lib.hid (HB3.out.trans ((But.of_below (b := mb) hb4).mono hsz3))
        have HF4 := Lib.hid (HF3.out.on hb4)
        have HM4 := Lib.hid (HM3.out.on hb4)
        have hlow := lowB_lt h0 (show f < 2 ^ 64 by omega)
        obtain ⟨low, hlw⟩ : ∃ low, lowB f = low := ⟨_, rfl⟩
        rw [hlw] at hlow HTG ⊢
        have HLW := Lib.hid hlw
        obtain ⟨C, hC⟩ : ∃ C, grpB Q low = C := ⟨_, rfl⟩
        have HCQ := Lib.hid (show ∀ m ∈ C, m ∈ Q ∧ m ≠ 0 ∧ m < 68719476736 from by rw [← hC]; intro m hm; have h9 := (List.mem_filter.1 hm).1; exact ⟨h9, HQ.out m h9⟩)
        have hCl : C.length ≤ 100000 := by rw [← hC]; exact Nat.le_trans (grpB_len Q low) hQl
        have HOW := Lib.hid (fun W (h9 : FilOk B W g mb rows d L Q) => (show W.ownsRow B 3 1 (rows low) C.length (iv (ints C)) from by rw [← hC]; exact h9.grp.each low hlow))
        rw [hC] at HTG
        obtain ⟨n, hn⟩ : ∃ n, C.length = n := ⟨_, rfl⟩
        rw [hn] at hCl HTG HOW
        obtain ⟨a, cap, hv⟩ := own_sliceI (HOW.out w4 HF4.out)
        rw [hv] at HOW ⊢
        have HIN := Lib.hid (ints_bd fun m hm => (HCQ.out m hm).2.2)
        have hsz4 := HB4.out.size
        have HCE := Lib.hid hC
        have HFw := HF
        clear HB3 HF3 HM3 hb4 c3 hlk hlw hC hv
        go_wp2
        go_loopw [7, 38] (fun sv ix wr => ∃ i t : Nat, i ≤ n ∧ ix = .int .i64 (i : Int) ∧ sv = .int .i64 (t : Int) ∧ t ≤ 2 * L ∧ Hid (min t L = min (cntTo Q C (subB f) f i) L) ∧ Hid (CntM wr mb (cutC Q L)) ∧ But w.heap.size mb w wr) (fun _ ix _ => n - (intOf ix).toNat)
        case atStart => exact ⟨0, 0, by omega, rfl, rfl, by omega, rfl, HM4.out, HB4.out⟩
        case round =>
          clear HM4 HB4 HF4
          obtain ⟨i, t, hi, rfl, rfl, ht2, hrl, hcm, hbt⟩ := hrel
          have HFr := Lib.hid (FilOk.but HFw.out hbt)
          have c2 := HFr.out.fil.limit
          have c3 := HFr.out.fil.map
          by_cases hlt : i < n
          · have hi1 : (i : Int) < (n : Int) := by omega
            have hi0 : (0 : Int) ≤ (i : Int) := by omega
            obtain ⟨b9, o9, rfl, hb9, hc9⟩ := (IntsAt.of_own (HOW.out wr HFr.out) HIN.out).2.2 (by omega)
            have p1 := hc9 i hlt
            rw [ints_get] at p1
            have hm := HCQ.out (C.getD i 0) (getD_memN (by omega))
            have HCY := Lib.hid (cntTo_yes Q (C := C) (p := subB f) f (i := i) (by omega))
            have HCN := Lib.hid (cntTo_no Q (C := C) (p := subB f) f (i := i) (by omega))
            have HGF := Lib.hid (fun h => grp_fit (fun m hm => (HQ.out m hm).1) (f := f) (m := C.getD i 0) (by omega) (by rw [HLW.out, HCE.out]; exact getD_memN (by omega)) h)
            obtain ⟨m, hmm⟩ : ∃ m, C.getD i 0 = m := ⟨_, rfl⟩
            rw [hmm] at p1 hm HCY HCN HGF
            clear hc9 hmm
            by_cases htl : t < L
            · have htl1 : (t : Int) < (L : Int) := by omega
              cases hsb : subB f m with
              | true =>
                obtain ⟨k1, k2⟩ := andnot_sub hsb (show m < 9223372036854775808 by omega) (show f < 9223372036854775808 by omega)
                have hfs := fit_sub (HGF.out hsb)
                have HCS := Lib.hid (HCY.out hsb)
                have HR := Lib.hid (HIH.out (f - m) (by omega) (by omega) wr HFr.out hcm.out)
                have hcl := cutC_le Q L (f - m)
                have HCD := Lib.hid (show cutC Q L (f - m) = min (cntR Q (f - m)) L from rfl)
                obtain ⟨c, hcc⟩ : ∃ c, cutC Q L (f - m) = c := ⟨_, rfl⟩
                rw [hcc] at HR hcl HCD
                obtain ⟨fm, hfm⟩ : ∃ fm, f - m = fm := ⟨_, rfl⟩
                rw [hfm] at HR HCD HCS k2
                clear HCY HCN HGF hsb hcc hfm
                go_wp2_with fail
                refine HR.out.mono ?_
                rintro e w5 ⟨rfl, hcm5, hb5⟩
                have HB5 := Lib.hid (hbt.trans (hb5.mono hbt.size))
                have HM5 := Lib.hid hcm5
                have HL5 := Lib.hid (show min (t + c) L = min (cntTo Q C (subB f) f (i + 1)) L from by
                  have h1 := hrl.out
                  have h2 := HCS.out
                  have h3 := HCD.out
                  unfold Hid at *
                  rw [h2]
                  omega)
                clear hcm5 hb5 hrl HCS HCD HR hcm hbt c2 c3
                go_wp2
                go_roundw
                case rel => first
                  | exact ⟨i + 1, t + c, by omega, by go_num, by go_num, by omega, HL5.out, HM5.out, HB5.out⟩
                  | (repeat apply Exists.intro
                     exact ⟨⟨i + 1, t + c, by omega, by go_num, by go_num, by omega, HL5.out, HM5.out, HB5.out⟩, rfl⟩)
                case measure => simp [intOf]; omega
              | false =>
                have k1 := andnot_no hsb (show m < 9223372036854775808 by omega) (show f < 9223372036854775808 by omega)
                have k3 : (bits .andNot .i64 (m : Int) (f : Int) == 0) = false := by simpa using k1
                have HL5 := Lib.hid (show min t L = min (cntTo Q C (subB f) f (i + 1)) L from by rw [HCN.out hsb]; exact hrl.out)
                clear HCY HCN HGF hsb k1 hrl
                go_wp2
                go_roundw
                case rel => first
                  | exact ⟨i + 1, t, by omega, by go_num, rfl, ht2, HL5.out, hcm, hbt⟩
                  | (repeat apply Exists.intro
                     exact ⟨⟨i + 1, t, by omega, by go_num, rfl, ht2, HL5.out, hcm, hbt⟩, rfl⟩)
                case measure => simp [intOf]; omega
            · have htl1 : ¬ (t : Int) < (L : Int) := by omega
              have HL5 := Lib.hid (show min t L = min (cntTo Q C (subB f) f (i + 1)) L from by
                have h1 := hrl.out
                cases hsb : subB f m with
                | true => rw [HCY.out hsb]; omega
                | false => rw [HCN.out hsb]; exact h1)
              clear HCY HCN HGF hrl
              go_wp2
              go_roundw
              case rel => first
                | exact ⟨i + 1, t, by omega, by go_num, rfl, ht2, HL5.out, hcm, hbt⟩
                | (repeat apply Exists.intro
                   exact ⟨⟨i + 1, t, by omega, by go_num, rfl, ht2, HL5.out, hcm, hbt⟩, rfl⟩)
              case measure => simp [intOf]; omega
          · obtain rfl : i = n := by omega
            have HVF := Lib.hid (show min t L = cutC Q L f from by
              have h1 := hrl.out
              rw [h1]
              unfold cutC cntR cntTo
              rw [HTG.out])
            have hv63 : cutC Q L f < 9223372036854775808 := by have := cutC_le Q L f; omega
            obtain ⟨w7, hrun, hM7, hg7, hlk7⟩ := CntM.store (w := wr.drew) hcm.out hf hv63
            have HB7 := Lib.hid (hbt.drew.trans ((But.of_grown hg7 (Nat.le_refl _)).mono (by show _ ≤ wr.drew.heap.size; exact hbt.size)))
            have HF7 := Lib.hid (FilOk.but HFw.out HB7.out)
            have HM7 := Lib.hid hM7
            have c7 := HF7.out.fil.map
            obtain ⟨c, hcc⟩ : ∃ c, cutC Q L f = c := ⟨_, rfl⟩
            have HCF := Lib.hid hcc
            rw [hcc] at HVF hrun hlk7
            have hmn := HVF.out
            have hif : (if L < t then (L : Int) else (t : Int)) = (c : Int) := by split <;> omega
            clear hrl hv63 hM7 hcc HTG HIH hg7
            go_wp2_with fail
            go_region
            go_wp2
            go_ret
            exact ⟨by rw [HCF.out]; rfl, HM7.out, HB7.out⟩
end

end Go.Proofs.YtkjlmgkjcmebbaaGreatDoor
