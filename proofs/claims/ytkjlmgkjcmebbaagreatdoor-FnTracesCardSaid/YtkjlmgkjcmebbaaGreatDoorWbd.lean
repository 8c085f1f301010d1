/-
  Drawn regions: what the draws of the law on all regions give.
  The draws of the law on all regions, one by one (written by tools/draws.py).
  The draws of the law on placements, one by one (written by tools/draws7.py).
  The draws of the law on placements: a region and a number; a region and pieces (written by tools/draws7.py).
-/
import Derived.Deep.RegionWith
import Derived.Deep.RegionHeld3
import Derived.Test.YtkjlmgkjcmebbaaGreatDoorWbc
import Derived.Test.YtkjlmgkjcmebbaaGreatDoorWba
import Derived.RangeFuncBox
import Derived.Test.YtkjlmgkjcmebbaaGreatDoorWam
namespace Go.Proofs.YtkjlmgkjcmebbaaGreatDoor

section
open Go.RowKit

theorem full_all : ∀ W, 1 ≤ W → W ≤ 6 → ∀ H, 1 ≤ H → H ≤ 6 → isReg ((W : Nat) : Int) (List.replicate H ((2 : Int) ^ W - 1)) = true := by
  intro W h1 h2 H h3 h4
  have : W = 1 ∨ W = 2 ∨ W = 3 ∨ W = 4 ∨ W = 5 ∨ W = 6 := by omega
  have : H = 1 ∨ H = 2 ∨ H = 3 ∨ H = 4 ∨ H = 5 ∨ H = 6 := by omega
  rcases ‹W = 1 ∨ _› with rfl | rfl | rfl | rfl | rfl | rfl <;> rcases ‹H = 1 ∨ _› with rfl | rfl | rfl | rfl | rfl | rfl <;> decide +kernel
/-- A rectangle that is one, of the model. -/
theorem sRect_in (N M : Nat) (w : World) (hN : 1 ≤ N ∧ N ≤ 6) (hM : 1 ≤ M ∧ M ≤ 6) :
    Calls Tryz.prog 135 #[.int .i64 N, .int .i64 M] w fun e w' => ∃ gg cap l, e = .returned (.tuple #[.agg #[.int .i64 N, .slice (some ⟨gg, 0, none⟩) M cap], .bool true]) ∧ Rg N M l ∧ w'.ownsRow w.heap.size 3 1 (.slice (some ⟨gg, 0, none⟩) M cap) M (iv l) ∧ Below w.heap.size w w' := by
  have hok : rectOk (N : Int) (M : Int) = true := by simp [rectOk, inb]; omega
  obtain ⟨e1, e2⟩ := rect_yes hok
  refine (sRect N M w).mono ?_
  rintro e w' ⟨v, rfl, hown, hb⟩
  rw [e1, e2, hok] at *
  rw [Int.toNat_natCast, Int.toNat_natCast, List.length_replicate] at hown
  obtain ⟨a, cap, rfl⟩ := own_sl_i hown
  have hg : ∃ gg, a = some ⟨gg, 0, none⟩ := by
    rcases hown.2 with ⟨_, h0⟩ | ⟨g, c, cur, e, _⟩
    · omega
    · injection e with e1; exact ⟨g, e1⟩
  obtain ⟨gg, rfl⟩ := hg
  obtain ⟨n, hn, hr⟩ := isReg_out (full_all N hN.1 hN.2 M hM.1 hM.2)
  rw [List.length_replicate] at hr
  obtain rfl : N = n := by omega
  exact ⟨gg, cap, _, rfl, hr, hown, hb⟩
theorem remR_rg {N M : Nat} {l : List Int} (h : Rg N M l) (x y : Int) : Rg N M (remR N l x y) := by
  cases hc : cellB N l x y with
  | false => rw [remR_no hc]; exact h
  | true =>
    rw [remR_yes hc]
    obtain ⟨N', u, v, e, rfl, rfl, hr, hu, hv, _⟩ := cellB_out hc
    obtain rfl : N = N' := by omega
    rw [h.len] at hv
    exact h.clr (by unfold inG; dsimp only; omega)

/-- A region that is one, drawn. -/
def GivesG (B g : Nat) (w : World) (e : Ending) (w' : World) : Prop := ∃ (N M gg cap : Nat) (l : List Int), e = .returned (.agg #[.int .i64 N, .slice (some ⟨gg, 0, none⟩) M cap]) ∧ (1 ≤ M ∧ M ≤ 5) ∧ Rg N M l ∧
  w'.ownsRow w.heap.size 3 1 (.slice (some ⟨gg, 0, none⟩) M cap) M (iv l) ∧ Cur B w' g ∧ w.grownBy w' (some g)

set_option maxHeartbeats 4000000 in
set_option maxRecDepth 100000 in
theorem dDrawK (B g : Nat) (K : Int) (hK1 : 1 ≤ K) (hK5 : K ≤ 5) (w : World) (hc : Cur B w g) :
    Calls Tryz.prog 113 #[.pointer (some ⟨g, 0, none⟩), .int .i64 K] w (GivesG B g w) := by
  have hlt := hc.lt
  obtain ⟨hl1, hl2⟩ := hlt
  obtain ⟨rb, hrb⟩ : ∃ rb, w.heap.size = rb := ⟨_, rfl⟩
  have hres := RgAt.new (w := w) 0 (.slice none 0 0) hrb
  have HC := Lib.hid (hc.alloc (.cells #[.int .i64 0, .slice none 0 0] 26))
  have HG := Lib.hid (World.grownBy_alloc w (.cells #[.int .i64 0, .slice none 0 0] 26) (some g))
  have hsz : (w.alloc (.cells #[.int .i64 0, .slice none 0 0] 26)).heap.size = rb + 1 := by simp [hrb]
  clear hc
  go_enter Tryz.func113, Tryz.ntmps113
  go_wp2_with fail
  generalize (w.alloc (.cells #[.int .i64 0, .slice none 0 0] 26)) = W0 at *
  refine (dBelow B g K _ HC.out (by omega) (by omega)).mono ?_
  rintro e w1 ⟨x, hx0, hx1, rfl, hc1, hg1⟩
  obtain ⟨j, rfl⟩ := Int.eq_ofNat_of_zero_le hx0
  have hr1 := hres.by hg1 (by intro e; injection e with e; omega)
  have HC1 := Lib.hid hc1
  have HG1 := Lib.hid (grow_trans HG.out hg1)
  have hs1 := hg1.size
  clear hc1 hg1 HC HG hres
  go_wp2_with fail
  refine (dBelow B g K _ HC1.out (by omega) (by omega)).mono ?_
  rintro e w2 ⟨y, hy0, hy1, rfl, hc2, hg2⟩
  obtain ⟨i, rfl⟩ := Int.eq_ofNat_of_zero_le hy0
  have hr2 := hr1.by hg2 (by intro e; injection e with e; omega)
  have HC2 := Lib.hid hc2
  have HG2 := Lib.hid (grow_trans HG1.out hg2)
  have hs2 := hg2.size
  clear hc2 hg2 HC1 HG1 hr1
  go_wp2_with fail
  have ej : (1 : Int) + (j : Int) = ((1 + j : Nat) : Int) := by omega
  have ei : (1 : Int) + (i : Int) = ((1 + i : Nat) : Int) := by omega
  simp only [ej, ei]
  clear ej ei
  obtain ⟨N, hN⟩ : ∃ N, 1 + j = N := ⟨_, rfl⟩
  obtain ⟨M, hM⟩ : ∃ M, 1 + i = M := ⟨_, rfl⟩
  rw [hN, hM]
  refine (sRect_in N M w2 (by omega) (by omega)).mono ?_
  rintro e w3 ⟨gg, cap, l, rfl, hrg, hown, hb3⟩
  have hN1 : 1 ≤ N := by omega
  have hN5 : N ≤ 5 := by omega
  have hM1 : 1 ≤ M := by omega
  have hM5 : M ≤ 5 := by omega
  clear hx0 hx1 hy0 hy1 hN hM
  have hr3 := hr2.on hb3 hr2.lt
  have hc3 := HC2.out.grown (grow_below hb3 none) (fun k h => by cases h)
  have hg3 := grow_trans HG2.out (grow_below hb3 (some g))
  have hs3 := hb3.size
  have ht3 := hown.lt gg rfl
  obtain ⟨vb, hvb⟩ : ∃ vb, w3.heap.size = vb := ⟨_, rfl⟩
  have HV4 := Lib.hid (RgAt.new (w := w3) N (.slice (some ⟨gg, 0, none⟩) M cap) hvb)
  have HR4 := Lib.hid (hr3.alloc (.cells #[.int .i64 N, .slice (some ⟨gg, 0, none⟩) M cap] 26))
  have HC4 := Lib.hid (hc3.alloc (.cells #[.int .i64 N, .slice (some ⟨gg, 0, none⟩) M cap] 26))
  have HG4 := Lib.hid (grow_trans hg3 (World.grownBy_alloc w3 (.cells #[.int .i64 N, .slice (some ⟨gg, 0, none⟩) M cap] 26) (some g)))
  have HO4 := Lib.hid (own_below (hown.alloc (.cells #[.int .i64 N, .slice (some ⟨gg, 0, none⟩) M cap] 26)) (show rb + 1 ≤ w2.heap.size by omega))
  have hs4 : (w3.alloc (.cells #[.int .i64 N, .slice (some ⟨gg, 0, none⟩) M cap] 26)).heap.size = vb + 1 := by simp [hvb]
  have HRG := Lib.hid hrg
  clear hr2 hr3 hc3 hg3 HC2 HG2 hown hb3 hrg
  go_wp2_with fail
  generalize (w3.alloc (.cells #[.int .i64 N, .slice (some ⟨gg, 0, none⟩) M cap] 26)) = w4 at *
  refine (dBelow B g 3 _ HC4.out (by omega) (by omega)).mono ?_
  rintro e w5 ⟨z, hz0, hz1, rfl, hc5, hg5⟩
  obtain ⟨m, rfl⟩ := Int.eq_ofNat_of_zero_le hz0
  have hgg : gg ≠ g := by
    intro e
    have := HC4.out.lt
    have h9 := (HO4.out.lt gg rfl).1
    omega
  have HV5 := Lib.hid (HV4.out.by hg5 (by intro e; injection e with e; omega))
  have HR5 := Lib.hid (HR4.out.by hg5 (by intro e; injection e with e; omega))
  have HO5 := Lib.hid (HO4.out.kept hg5 (.inr (by intro e; have h9 : gg = g := Option.some.inj e; omega)))
  have HC5 := Lib.hid hc5
  have HG5 := Lib.hid (grow_trans HG4.out hg5)
  have hs5 := hg5.size
  clear hc5 hg5 HV4 HR4 HO4 HC4 HG4
  have hgv : gg ≠ vb := by omega
  have hmm : m ≤ 2 := by omega
  have hvg : g < vb := by omega
  have hrv : rb < vb := by omega
  have hrg0 : g < rb := by omega
  clear hz0 hz1 hs1 hs2 hs3
  go_wp2
  go_loopw [8, 9] (fun n _ wr => ∃ (k gg cap : Nat) (l : List Int), k ≤ 2 ∧ n = .int .i64 k ∧ Hid (Rg N M l) ∧ Hid (RgAt wr vb N (.slice (some ⟨gg, 0, none⟩) M cap)) ∧ Hid (wr.ownsRow (rb + 1) 3 1 (.slice (some ⟨gg, 0, none⟩) M cap) M (iv l)) ∧ Hid (RgAt wr rb 0 (.slice none 0 0)) ∧ Hid (Cur B wr g) ∧ Hid (w.grownBy wr (some g)) ∧ gg ≠ vb ∧ gg ≠ g ∧ vb < wr.heap.size) (fun n _ _ => (intOf n).toNat)
  case atStart => exact ⟨m, gg, cap, l, hmm, rfl, HRG.out, HV5.out, HO5.out, HR5.out, HC5.out, HG5.out, hgv, hgg, by omega⟩
  case round =>
    obtain ⟨k, gg, cap, l, hk, rfl, hrg, hv, hown, hr, hcr, hgr, hgv, hgg, hvs⟩ := hrel
    clear HRG HV5 HR5 HO5 HC5 HG5
    by_cases hpos : 0 < k
    · have c0 := hv.out.c0
      go_wp2_with fail
      refine (dBelow B g N _ hcr.out (by omega) (by omega)).mono ?_
      rintro e w6 ⟨x, hx0, hx1, rfl, hc6, hg6⟩
      have hv6 := hv.out.by hg6 (by intro e; injection e with e; omega)
      have HR6 := Lib.hid (hr.out.by hg6 (by intro e; injection e with e; omega))
      have hown6 := hown.out.kept hg6 (.inr (by intro e; have h9 : gg = g := Option.some.inj e; omega))
      have HO6 := Lib.hid hown6
      have HC6 := Lib.hid hc6
      have HG6 := Lib.hid (grow_trans hgr.out hg6)
      have hs6 := hg6.size
      clear hc6 hg6 hv hr hown hcr hgr c0
      have c0 := hv6.c0
      have c1 := hv6.c1
      have f0 := hv6.f 0
      have f1 := hv6.f 1
      have HV6 := Lib.hid hv6
      clear hv6
      go_wp2_with fail
      have HVD := Lib.hid (show RgAt w6.drew vb N (.slice (some ⟨gg, 0, none⟩) M cap) from HV6.out)
      have HRD := Lib.hid (show RgAt w6.drew rb 0 (.slice none 0 0) from HR6.out)
      have HOD := Lib.hid (show w6.drew.ownsRow (rb + 1) 3 1 (.slice (some ⟨gg, 0, none⟩) M cap) M (iv l) from HO6.out)
      have HCD := Lib.hid (show Cur B w6.drew g from HC6.out)
      have HGD := Lib.hid (show w.grownBy w6.drew (some g) from grow_drewN HG6.out 1)
      have hsd : w6.drew.heap.size = w6.heap.size := rfl
      have HIN := Lib.hid hrg.out.in64
      have hgl := hown6.lt gg rfl
      clear hown6 HV6 HR6 HO6 HC6 HG6
      go_region_with (first
        | (go_at_call 131
           refine (dBelow B g M _ HCD.out (by omega) (by omega)).mono ?_
           rintro e w7 ⟨y, hy0, hy1, rfl, hc7, hg7⟩
           have hv7 := RgAt.by (w := w6.drew) HVD.out hg7 (by intro e; injection e with e; omega)
           have hr7 := RgAt.by (w := w6.drew) HRD.out hg7 (by intro e; injection e with e; omega)
           have ho7 := World.ownsRow.kept (w := w6.drew) HOD.out hg7 (.inr (by intro e; have h9 : gg = g := Option.some.inj e; omega))
           have hG7 := grow_trans HGD.out hg7
           have hs7 := hg7.size
           have d0 := hv7.c0
           have d1 := hv7.c1)
        | (go_at_call 136
           refine (sRem w7.heap.size M cap _ N l x y w7 (by omega) (IntsAt.of_own ho7 HIN.out) (Nat.le_refl _)).mono ?_
           rintro e w8 ⟨g8, cp8, rfl, hown8, hb8⟩
           have hv8 := hv7.on hb8 hv7.lt
           have hr8 := hr7.on hb8 hr7.lt
           have hc8 := hc7.grown (grow_below hb8 none) (fun k h => by cases h)
           have hG8 := grow_trans hG7 (grow_below hb8 (some g))
           have hs8 := hb8.size
           have k0 := hv8.c0
           have k1 := hv8.c1
           have k2 := hv8.f 0
           have k3 := hv8.f 1))
      all_goals
        have hgl8 := hown8.lt g8 rfl
        have HV9 := Lib.hid (hv8.set2 N (.slice (some ⟨g8, 0, none⟩) M cp8))
        have HR9 := Lib.hid (RgAt.far (g' := vb) (j := 1) (u := .slice (some ⟨g8, 0, none⟩) M cp8) (RgAt.far (g' := vb) (j := 0) (u := .int .i64 N) hr8 (by omega)) (by omega))
        have HO9 := Lib.hid (own_below (own_far (b := vb) (o := 1) (u := .slice (some ⟨g8, 0, none⟩) M cp8) (own_far (b := vb) (o := 0) (u := .int .i64 N) hown8 (by omega)) (by omega)) (show rb + 1 ≤ w7.heap.size by omega))
        have HC9 := Lib.hid ((hc8.grown (grown_set1 w8 vb 0 (.int .i64 N)) (fun k h => by injection h with h; omega)).grown (grown_set1 _ vb 1 (.slice (some ⟨g8, 0, none⟩) M cp8)) (fun k h => by injection h with h; omega))
        have HG9 := Lib.hid (grow_new (grow_new hG8 (grown_set1 w8 vb 0 (.int .i64 N)) (fun k h => by injection h with h; omega)) (grown_set1 _ vb 1 (.slice (some ⟨g8, 0, none⟩) M cp8)) (fun k h => by injection h with h; omega))
        have HRG9 := Lib.hid (remR_rg hrg.out x y)
        have hs9 : w8.heap.size ≤ ((w8.setCell ⟨vb, 0, none⟩ (.int .i64 N)).setCell ⟨vb, 1, none⟩ (.slice (some ⟨g8, 0, none⟩) M cp8)).heap.size := Nat.le_trans (grown_set1 w8 vb 0 (.int .i64 N)).size (grown_set1 _ vb 1 (.slice (some ⟨g8, 0, none⟩) M cp8)).size
        have hgv8 : g8 ≠ vb := by omega
        have hgg8 : g8 ≠ g := by omega
        clear hown8 hb8 hv8 hr8 hc8 hG8 k0 k1 k2 k3 hv7 hr7 ho7 hG7 hc7 hg7 d0 d1 HVD HRD HOD HCD HGD HIN hrg c0 c1 f0 f1
        generalize ((w8.setCell ⟨vb, 0, none⟩ (.int .i64 N)).setCell ⟨vb, 1, none⟩ (.slice (some ⟨g8, 0, none⟩) M cp8)) = w9 at *
        go_wp2
        go_roundw
        case rel => first
          | exact ⟨k - 1, g8, cp8, remR N l x y, by omega, by go_num, HRG9.out, HV9.out, HO9.out, HR9.out, HC9.out, HG9.out, hgv8, hgg8, by omega⟩
          | (repeat apply Exists.intro
             exact ⟨⟨k - 1, g8, cp8, remR N l x y, by omega, by go_num, HRG9.out, HV9.out, HO9.out, HR9.out, HC9.out, HG9.out, hgv8, hgg8, by omega⟩, rfl⟩)
        case measure => simp [intOf]; omega
    · obtain rfl : k = 0 := by omega
      have c0 := hv.out.c0
      have c1 := hv.out.c1
      have q0 := hr.out.c0
      have q1 := hr.out.c1
      have q2 := hr.out.f 0
      have q3 := hr.out.f 1
      go_wp2
      have R9 := hr.out.set2 N (.slice (some ⟨gg, 0, none⟩) M cap)
      have e0 := R9.c0
      have e1 := R9.c1
      have hgl := hown.out.lt gg rfl
      have HO9 := Lib.hid (own_below (own_off (b := rb) (o := 1) (u := .slice (some ⟨gg, 0, none⟩) M cap) (own_off (b := rb) (o := 0) (u := .int .i64 N) hown.out (by omega)) (by omega)) (show w.heap.size ≤ rb + 1 by omega))
      have HC9 := Lib.hid ((hcr.out.grown (grown_set1 wr rb 0 (.int .i64 N)) (fun k h => by injection h with h; omega)).grown (grown_set1 _ rb 1 (.slice (some ⟨gg, 0, none⟩) M cap)) (fun k h => by injection h with h; omega))
      have HG9 := Lib.hid (grow_new (grow_new hgr.out (grown_set1 wr rb 0 (.int .i64 N)) (fun k h => by injection h with h; omega)) (grown_set1 _ rb 1 (.slice (some ⟨gg, 0, none⟩) M cap)) (fun k h => by injection h with h; omega))
      generalize ((wr.setCell ⟨rb, 0, none⟩ (.int .i64 N)).setCell ⟨rb, 1, none⟩ (.slice (some ⟨gg, 0, none⟩) M cap)) = w9 at *
      exact bodyPost_ret (v := .agg #[.int .i64 N, .slice (some ⟨gg, 0, none⟩) M cap]) (by simp [results, Tryz.results113, go_sem, e0, e1]) rfl ⟨N, M, gg, cap, l, rfl, ⟨hM1, hM5⟩, hrg.out, HO9.out, HC9.out, HG9.out⟩

theorem intsAt_block {w : World} {b : Nat} {l : List Int} (h : w.heap[b]? = some (.cells (iv l).toArray 3 (0, 0))) (hi : ∀ z ∈ l, In64 z) : IntsAt w.heap.size w (some ⟨b, 0, none⟩) l.length l :=
  ⟨rfl, hi, fun _ => ⟨b, 0, rfl, (Array.getElem?_eq_some_iff.1 h).1, fun k hk => by
    rw [cell_of_row w b (0 + k) _ _ _ h, Nat.zero_add]
    simpa using iv_get l k hk⟩⟩
theorem wpList_intsA {ops : Array Oper} {rest : List Oper} {o : Oper} {a : Act} {w : World} {Q : Exit → Act → World → Prop} (hgd : o.guard = none) (s x : Operand)
    (ho : o.op = .call { callee := .builtin .append, args := #[s, x], argTypes := #[24, 24] })
    (base g n cap B : Nat) (xs : List Int) (ad : Option Addr) (m c : Nat) (ys : List Int) (hs : a.eval s = .slice (some ⟨g, 0, none⟩) n cap) (hx : a.eval x = .slice ad m c)
    (hown : w.ownsRow base 3 1 (.slice (some ⟨g, 0, none⟩) n cap) n (iv xs)) (hsrc : IntsAt B w ad m ys) (h63 : n + m ≤ 8388608) (hbase : base ≤ w.heap.size)
    (h : ∀ g' cap' w', w'.ownsRow base 3 1 (.slice (some ⟨g', 0, none⟩) (n + m) cap') (n + m) (iv (xs ++ ys)) → w.grownBy w' (some g) → base ≤ g' → wpList Tryz.prog ops Q rest (a.put o.dst (.slice (some ⟨g', 0, none⟩) (n + m) cap')) w') : wpList Tryz.prog ops Q (o :: rest) a w :=
  wpList_plain hgd fun _ hK => wp_intsR s x ho base g n cap B xs ad m c ys hs hx hown hsrc h63 hbase fun g' cap' w' h2 h3 h4 => hK _ _ (h g' cap' w' h2 h3 h4)

theorem RgAt.set0' {w : World} {g : Nat} {W : Int} {v : Value} (h : RgAt w g W v) (x : Int) : RgAt (w.setCell ⟨g, 0, none⟩ (.int .i64 x)) g x v := by
  have := set_row h 0 (.int .i64 x)
  unfold RgAt
  simpa using this
/-- A row of numbers does not lie in a region's block. -/
theorem rg_own {w : World} {g : Nat} {W : Int} {v : Value} {base n cap : Nat} {xs : List Value} (h : RgAt w g W v) (ho : w.ownsRow base 3 1 (.slice (some ⟨g, 0, none⟩) n cap) n xs) (_hn : 0 < n) : False := by
  rcases ho.2 with ⟨e, _⟩ | ⟨g1, c1, cur, e, _, hg, _⟩
  · cases e
  · injection e with e1
    injection e1 with e1
    injection e1 with e1
    subst e1
    unfold RgAt at h
    rw [h] at hg
    injection hg with hg
    injection hg with _ ht
    exact absurd ht (by decide)
theorem in64_ones : ∀ z ∈ ([1, 1, 1] : List Int), In64 z := fun z hz => by
  obtain rfl : z = 1 := by simpa using hz
  unfold In64
  omega
/-- A drawn region, spoilt or not. -/
theorem dDraw6 (B g : Nat) (w : World) (hc : Cur B w g) :
    Calls Tryz.prog 113 #[.pointer (some ⟨g, 0, none⟩), .int .i64 5] w (GivesG B g w) := dDrawK B g 5 (by omega) (by omega) w hc
def GivesR (B g : Nat) (w : World) (e : Ending) (w' : World) : Prop := ∃ (W : Int) (M gg cap : Nat) (l : List Int), e = .returned (.agg #[.int .i64 W, .slice (some ⟨gg, 0, none⟩) M cap]) ∧ (1 ≤ M ∧ M ≤ 8) ∧ (∀ z ∈ l, In64 z) ∧
  w'.ownsRow w.heap.size 3 1 (.slice (some ⟨gg, 0, none⟩) M cap) M (iv l) ∧ Cur B w' g ∧ w.grownBy w' (some g)
theorem in64_set {l : List Int} (h : ∀ z ∈ l, In64 z) (k : Nat) {x : Int} (hx : In64 x) : ∀ z ∈ l.set k x, In64 z := fun z hz => by
  rcases List.mem_or_eq_of_mem_set hz with h1 | h1
  · exact h z h1
  · rw [h1]; exact hx

set_option maxHeartbeats 4000000 in
set_option maxRecDepth 100000 in
theorem dAny6 (B g : Nat) (w : World) (hc : Cur B w g) :
    Calls Tryz.prog 112 #[.pointer (some ⟨g, 0, none⟩)] w (GivesR B g w) := by
  have hlt := hc.lt
  obtain ⟨hl1, hl2⟩ := hlt
  obtain ⟨rb, hrb⟩ : ∃ rb, w.heap.size = rb := ⟨_, rfl⟩
  have hres := RgAt.new (w := w) 0 (.slice none 0 0) hrb
  have HC := Lib.hid (hc.alloc (.cells #[.int .i64 0, .slice none 0 0] 26))
  have HG := Lib.hid (World.grownBy_alloc w (.cells #[.int .i64 0, .slice none 0 0] 26) (some g))
  have hsz : (w.alloc (.cells #[.int .i64 0, .slice none 0 0] 26)).heap.size = rb + 1 := by simp [hrb]
  clear hc
  go_enter Tryz.func112, Tryz.ntmps112
  go_wp2_with fail
  generalize (w.alloc (.cells #[.int .i64 0, .slice none 0 0] 26)) = W0 at *
  refine (dDraw6 B g _ HC.out).mono ?_
  rintro e w1 ⟨N, M, gg, cap, l, rfl, hM, hrg, hown, hc1, hg1⟩
  have hr1 := hres.by hg1 (by intro e; injection e with e; omega)
  have hg1' := grow_trans HG.out hg1
  have hs1 := hg1.size
  have ht1 := hown.lt gg rfl
  have HIN := Lib.hid hrg.in64
  have HLN := Lib.hid hrg.len
  have hN6 := hrg.w6
  obtain ⟨vb, hvb⟩ : ∃ vb, w1.heap.size = vb := ⟨_, rfl⟩
  have HV2 := Lib.hid (RgAt.new (w := w1) N (.slice (some ⟨gg, 0, none⟩) M cap) hvb)
  have HR2 := Lib.hid (hr1.alloc (.cells #[.int .i64 N, .slice (some ⟨gg, 0, none⟩) M cap] 26))
  have HC2 := Lib.hid (hc1.alloc (.cells #[.int .i64 N, .slice (some ⟨gg, 0, none⟩) M cap] 26))
  have HG2 := Lib.hid (grow_trans hg1' (World.grownBy_alloc w1 (.cells #[.int .i64 N, .slice (some ⟨gg, 0, none⟩) M cap] 26) (some g)))
  have HO2 := Lib.hid (own_below (hown.alloc (.cells #[.int .i64 N, .slice (some ⟨gg, 0, none⟩) M cap] 26)) (show rb + 1 ≤ W0.heap.size by omega))
  have hs2 : (w1.alloc (.cells #[.int .i64 N, .slice (some ⟨gg, 0, none⟩) M cap] 26)).heap.size = vb + 1 := by simp [hvb]
  clear hr1 hc1 hg1 hg1' hown hres HC HG hrg
  go_wp2_with fail
  generalize (w1.alloc (.cells #[.int .i64 N, .slice (some ⟨gg, 0, none⟩) M cap] 26)) = w2 at *
  refine (dBelow B g 14 _ HC2.out (by omega) (by omega)).mono ?_
  rintro e w3 ⟨d, hd0, hd1, rfl, hc3, hg3⟩
  have hgg : gg ≠ g := by omega
  have hgv : gg ≠ vb := by omega
  have hrv : rb < vb := by omega
  have HV3 := Lib.hid (HV2.out.by hg3 (by intro e; injection e with e; omega))
  have HR3 := Lib.hid (HR2.out.by hg3 (by intro e; injection e with e; omega))
  have HO3 := Lib.hid (HO2.out.kept hg3 (.inr (by intro e; have h9 : gg = g := Option.some.inj e; omega)))
  have HC3 := Lib.hid hc3
  have HG3 := Lib.hid (grow_trans HG2.out hg3)
  have hs3 := hg3.size
  have hgb : rb + 1 ≤ gg := by omega
  have hv3s : vb < w3.heap.size := by omega
  clear hc3 hg3 HV2 HR2 HO2 HC2 HG2 hs1 hs2 hs3 ht1
  have hd : d = 0 ∨ d = 1 ∨ d = 2 ∨ 3 ≤ d := by omega
  rcases hd with rfl | rfl | rfl | hd
  · go_wp2_with fail
    refine (dPick B g w3.heap.size 4 [0, 7, -1, 2] _ (HC3.out.alloc _) (by omega) (by omega) rfl (heap_alloc_new _ _) (by omega) (by decide)).mono ?_
    rintro e w4 ⟨x, hx0, hx1, rfl, hc4, hg4⟩
    have hg4' := grow_trans (World.grownBy_alloc w3 (.cells #[.int .i64 0, .int .i64 7, .int .i64 (-1), .int .i64 2] 3) (some g)) hg4
    have hv4 := HV3.out.by hg4' (by intro e; injection e with e; omega)
    have hr4 := HR3.out.by hg4' (by intro e; injection e with e; omega)
    have ho4 := HO3.out.kept hg4' (.inr (by intro e; have h9 : gg = g := Option.some.inj e; omega))
    have hG4 := grow_trans HG3.out hg4'
    have hs4 := hg4'.size
    have v0 := hv4.c0
    have v1 := hv4.f 0
    have HV5 := Lib.hid (hv4.set0' x)
    have HR5 := Lib.hid (RgAt.far (g' := vb) (j := 0) (u := .int .i64 x) hr4 (by omega))
    have HO5 := Lib.hid (own_far (b := vb) (o := 0) (u := .int .i64 x) ho4 (by omega))
    have HC5 := Lib.hid (hc4.grown (grown_set1 w4 vb 0 (.int .i64 x)) (fun k h => by injection h with h; omega))
    have HG5 := Lib.hid (grow_new hG4 (grown_set1 w4 vb 0 (.int .i64 x)) (fun k h => by injection h with h; omega))
    have v2 := hv4.c1
    have q0 := hr4.c0
    have q1 := hr4.c1
    have q2 := hr4.f 0
    have q3 := hr4.f 1
    have hne : rb ≠ vb := by omega
    clear hc4 hg4 hg4' hv4 hr4 ho4 hG4 HV3 HR3 HO3 HC3 HG3
    have HI9 := Lib.hid HIN.out
    go_wp2
    have R9 := HR5.out.set2 x (.slice (some ⟨gg, 0, none⟩) M cap)
    have e0 := R9.c0
    have e1 := R9.c1
    have HOO := Lib.hid (own_below (own_off (b := rb) (o := 1) (u := .slice (some ⟨gg, 0, none⟩) M cap) (own_off (b := rb) (o := 0) (u := .int .i64 (x)) HO5.out (by omega)) (by omega)) (show w.heap.size ≤ rb + 1 by omega))
    have HCC := Lib.hid ((HC5.out.grown (grown_set1 (w4.setCell ⟨vb, 0, none⟩ (.int .i64 x)) rb 0 (.int .i64 (x))) (fun k h => by injection h with h; omega)).grown (grown_set1 _ rb 1 (.slice (some ⟨gg, 0, none⟩) M cap)) (fun k h => by injection h with h; omega))
    have HGG := Lib.hid (grow_new (grow_new HG5.out (grown_set1 (w4.setCell ⟨vb, 0, none⟩ (.int .i64 x)) rb 0 (.int .i64 (x))) (fun k h => by injection h with h; omega)) (grown_set1 _ rb 1 (.slice (some ⟨gg, 0, none⟩) M cap)) (fun k h => by injection h with h; omega))
    generalize (((w4.setCell ⟨vb, 0, none⟩ (.int .i64 x)).setCell ⟨rb, 0, none⟩ (.int .i64 (x))).setCell ⟨rb, 1, none⟩ (.slice (some ⟨gg, 0, none⟩) M cap)) = w9 at *
    exact bodyPost_ret (v := .agg #[.int .i64 (x), .slice (some ⟨gg, 0, none⟩) M cap]) (by simp [results, Tryz.results112, go_sem, e0, e1]) rfl ⟨x, M, gg, cap, _, rfl, by omega, HI9.out, HOO.out, HCC.out, HGG.out⟩
  · have HCD := Lib.hid (show Cur B w3.drew g from HC3.out)
    have HVD := Lib.hid (show RgAt w3.drew vb N (.slice (some ⟨gg, 0, none⟩) M cap) from HV3.out)
    have HRD := Lib.hid (show RgAt w3.drew rb 0 (.slice none 0 0) from HR3.out)
    have HOD := Lib.hid (show w3.drew.ownsRow (rb + 1) 3 1 (.slice (some ⟨gg, 0, none⟩) M cap) M (iv l) from HO3.out)
    have HGD := Lib.hid (show w.grownBy w3.drew (some g) from grow_drewN HG3.out 1)
    have c0 := HV3.out.c0
    have c1 := HV3.out.c1
    have hm0 : (0 : Int) < (M : Int) := by omega
    clear HV3 HR3 HO3 HC3 HG3
    go_wp2_with fail
    go_region_with (first
      | (go_at_call 134
         refine (dPick B g w3.drew.heap.size 3 [-1, 64, 9223372036854775807] _ (HCD.out.alloc _) (by omega) (by omega) rfl (heap_alloc_new _ _) (by show w3.heap.size ≠ g; omega) (by decide)).mono ?_
         rintro e w4 ⟨x, hx0, hx1, rfl, hc4, hg4⟩
         have hg4' := grow_trans (World.grownBy_alloc w3.drew (.cells #[.int .i64 (-1), .int .i64 64, .int .i64 9223372036854775807] 3) (some g)) hg4
         have hv4 := RgAt.by (w := w3.drew) HVD.out hg4' (by intro e; injection e with e; omega)
         have hr4 := RgAt.by (w := w3.drew) HRD.out hg4' (by intro e; injection e with e; omega)
         have ho4 := World.ownsRow.kept (w := w3.drew) HOD.out hg4' (.inr (by intro e; have h9 : gg = g := Option.some.inj e; omega))
         have d0 := hv4.c0
         have d1 := hv4.c1
         have p1 := ho4.cellAt 0 (by omega)
         have p2 := ho4.frozenAt 0
         rw [iv_get l 0 (by rw [HLN.out]; omega)] at p1))
    all_goals
      have hst := ho4.stored 0 (.int .i64 x)
      rw [iv_set] at hst
      have hs4 := hg4'.size
      have hG4 := grow_trans HGD.out hg4'
      have hv9 := RgAt.far (g' := gg) (j := 0) (u := .int .i64 x) hv4 (by omega)
      have hr9 := RgAt.far (g' := gg) (j := 0) (u := .int .i64 x) hr4 (by omega)
      have ho9 := hst.1
      have hc9 := hc4.grown (grown_set1 w4 gg 0 (.int .i64 x)) (fun k h => by injection h with h; omega)
      have hg9 := grow_new hG4 (grown_set1 w4 gg 0 (.int .i64 x)) (fun k h => by injection h with h; omega)
      clear hst hc4 hg4 hg4' hv4 hr4 ho4 d0 d1 p1 p2 hG4 c0 c1 HCD HVD HRD HOD HGD
      generalize (w4.setCell ⟨gg, 0, none⟩ (.int .i64 x)) = w5 at *
      have c0 := hv9.c0
      have c1 := hv9.c1
      have q0 := hr9.c0
      have q1 := hr9.c1
      have q2 := hr9.f 0
      have q3 := hr9.f 1
      have HR9 := Lib.hid hr9
      have HO9 := Lib.hid ho9
      have HC9 := Lib.hid hc9
      have HG9 := Lib.hid hg9
      have HI9 := Lib.hid (in64_set HIN.out 0 ⟨hx0, hx1⟩)
      clear hr9 ho9 hc9 hg9 hv9
      go_wp2
      have R9 := HR9.out.set2 N (.slice (some ⟨gg, 0, none⟩) M cap)
      have e0 := R9.c0
      have e1 := R9.c1
      have HOO := Lib.hid (own_below (own_off (b := rb) (o := 1) (u := .slice (some ⟨gg, 0, none⟩) M cap) (own_off (b := rb) (o := 0) (u := .int .i64 (N)) HO9.out (by omega)) (by omega)) (show w.heap.size ≤ rb + 1 by omega))
      have HCC := Lib.hid ((HC9.out.grown (grown_set1 w5 rb 0 (.int .i64 (N))) (fun k h => by injection h with h; omega)).grown (grown_set1 _ rb 1 (.slice (some ⟨gg, 0, none⟩) M cap)) (fun k h => by injection h with h; omega))
      have HGG := Lib.hid (grow_new (grow_new HG9.out (grown_set1 w5 rb 0 (.int .i64 (N))) (fun k h => by injection h with h; omega)) (grown_set1 _ rb 1 (.slice (some ⟨gg, 0, none⟩) M cap)) (fun k h => by injection h with h; omega))
      generalize ((w5.setCell ⟨rb, 0, none⟩ (.int .i64 (N))).setCell ⟨rb, 1, none⟩ (.slice (some ⟨gg, 0, none⟩) M cap)) = w9 at *
      exact bodyPost_ret (v := .agg #[.int .i64 (N), .slice (some ⟨gg, 0, none⟩) M cap]) (by simp [results, Tryz.results112, go_sem, e0, e1]) rfl ⟨N, M, gg, cap, _, rfl, by omega, HI9.out, HOO.out, HCC.out, HGG.out⟩
  · have c1 := HV3.out.c1
    have HOA := Lib.hid (HO3.out.alloc (.cells #[.int .i64 1, .int .i64 1, .int .i64 1] 3))
    have HGA := Lib.hid (World.grownBy_alloc w3 (.cells #[.int .i64 1, .int .i64 1, .int .i64 1] 3) (some g))
    have HSA := Lib.hid (intsAt_block (l := [1, 1, 1]) (heap_alloc_new w3 (.cells #[.int .i64 1, .int .i64 1, .int .i64 1] 3)) in64_ones)
    have hsA : (w3.alloc (.cells #[.int .i64 1, .int .i64 1, .int .i64 1] 3)).heap.size = w3.heap.size + 1 := by simp
    go_wp2_with (first | (at_builtin; refine wpList_intsA rfl _ _ rfl (rb + 1) gg M cap _ l (some ⟨w3.heap.size, 0, none⟩) 3 3 [1, 1, 1] rfl rfl HOA.out HSA.out (by omega) (by omega) ?_) | go_in)
    intro g' cap' w4 hown4 hgr4 hgb4
    have hv4 := (HV3.out.alloc (.cells #[.int .i64 1, .int .i64 1, .int .i64 1] 3)).by hgr4 (by intro e; injection e with e; omega)
    have hr4 := (HR3.out.alloc (.cells #[.int .i64 1, .int .i64 1, .int .i64 1] 3)).by hgr4 (by intro e; injection e with e; omega)
    have hc4 := (HC3.out.alloc (.cells #[.int .i64 1, .int .i64 1, .int .i64 1] 3)).grown hgr4 (fun k h => by injection h with h; omega)
    have hG4 := grow_new (grow_trans HG3.out HGA.out) hgr4 (fun k h => by injection h with h; omega)
    have hs4 := hgr4.size
    have hgl4 := hown4.lt g' rfl
    have hgv4 : g' ≠ vb := by
      intro e
      subst e
      exact rg_own hv4 hown4 (by omega)
    have v0 := hv4.c1
    have v1 := hv4.f 1
    have HV5 := Lib.hid (hv4.set1 (.slice (some ⟨g', 0, none⟩) (M + 3) cap'))
    have HR5 := Lib.hid (RgAt.far (g' := vb) (j := 1) (u := .slice (some ⟨g', 0, none⟩) (M + 3) cap') hr4 (by omega))
    have HO5 := Lib.hid (own_far (b := vb) (o := 1) (u := .slice (some ⟨g', 0, none⟩) (M + 3) cap') hown4 (by omega))
    have HC5 := Lib.hid (hc4.grown (grown_set1 w4 vb 1 (.slice (some ⟨g', 0, none⟩) (M + 3) cap')) (fun k h => by injection h with h; omega))
    have HG5 := Lib.hid (grow_new hG4 (grown_set1 w4 vb 1 (.slice (some ⟨g', 0, none⟩) (M + 3) cap')) (fun k h => by injection h with h; omega))
    have HI5 := Lib.hid (show ∀ z ∈ l ++ [1, 1, 1], In64 z from fun z hz => by
      rcases List.mem_append.1 hz with h | h
      · exact HIN.out z h
      · exact in64_ones z h)
    have v2 := hv4.c0
    have q0 := hr4.c0
    have q1 := hr4.c1
    have q2 := hr4.f 0
    have q3 := hr4.f 1
    have hne : rb ≠ vb := by omega
    clear c1 HOA HGA HSA hown4 hgr4 hv4 hr4 hc4 hG4 HV3 HR3 HO3 HC3 HG3
    have HI9 := Lib.hid HI5.out
    go_wp2
    have R9 := HR5.out.set2 N (.slice (some ⟨g', 0, none⟩) (M + 3) cap')
    have e0 := R9.c0
    have e1 := R9.c1
    have HOO := Lib.hid (own_below (own_off (b := rb) (o := 1) (u := .slice (some ⟨g', 0, none⟩) (M + 3) cap') (own_off (b := rb) (o := 0) (u := .int .i64 (N)) HO5.out (by omega)) (by omega)) (show w.heap.size ≤ rb + 1 by omega))
    have HCC := Lib.hid ((HC5.out.grown (grown_set1 (w4.setCell ⟨vb, 1, none⟩ (.slice (some ⟨g', 0, none⟩) (M + 3) cap')) rb 0 (.int .i64 (N))) (fun k h => by injection h with h; omega)).grown (grown_set1 _ rb 1 (.slice (some ⟨g', 0, none⟩) (M + 3) cap')) (fun k h => by injection h with h; omega))
    have HGG := Lib.hid (grow_new (grow_new HG5.out (grown_set1 (w4.setCell ⟨vb, 1, none⟩ (.slice (some ⟨g', 0, none⟩) (M + 3) cap')) rb 0 (.int .i64 (N))) (fun k h => by injection h with h; omega)) (grown_set1 _ rb 1 (.slice (some ⟨g', 0, none⟩) (M + 3) cap')) (fun k h => by injection h with h; omega))
    generalize (((w4.setCell ⟨vb, 1, none⟩ (.slice (some ⟨g', 0, none⟩) (M + 3) cap')).setCell ⟨rb, 0, none⟩ (.int .i64 (N))).setCell ⟨rb, 1, none⟩ (.slice (some ⟨g', 0, none⟩) (M + 3) cap')) = w9 at *
    exact bodyPost_ret (v := .agg #[.int .i64 (N), .slice (some ⟨g', 0, none⟩) (M + 3) cap']) (by simp [results, Tryz.results112, go_sem, e0, e1]) rfl ⟨N, (M + 3), g', cap', _, rfl, by omega, HI9.out, HOO.out, HCC.out, HGG.out⟩
  · have t0 : ((d : Int) == 0) = false := by simp; omega
    have t1 : ((d : Int) == 1) = false := by simp; omega
    have t2 : ((d : Int) == 2) = false := by simp; omega
    have hv9 := HV3.out
    have hr9 := HR3.out
    have ho9 := HO3.out
    have hc9 := HC3.out
    have hg9 := HG3.out
    clear HV3 HR3 HO3 HC3 HG3
    have c0 := hv9.c0
    have c1 := hv9.c1
    have q0 := hr9.c0
    have q1 := hr9.c1
    have q2 := hr9.f 0
    have q3 := hr9.f 1
    have HR9 := Lib.hid hr9
    have HO9 := Lib.hid ho9
    have HC9 := Lib.hid hc9
    have HG9 := Lib.hid hg9
    have HI9 := Lib.hid HIN.out
    clear hr9 ho9 hc9 hg9 hv9
    go_wp2
    have R9 := HR9.out.set2 N (.slice (some ⟨gg, 0, none⟩) M cap)
    have e0 := R9.c0
    have e1 := R9.c1
    have HOO := Lib.hid (own_below (own_off (b := rb) (o := 1) (u := .slice (some ⟨gg, 0, none⟩) M cap) (own_off (b := rb) (o := 0) (u := .int .i64 (N)) HO9.out (by omega)) (by omega)) (show w.heap.size ≤ rb + 1 by omega))
    have HCC := Lib.hid ((HC9.out.grown (grown_set1 w3 rb 0 (.int .i64 (N))) (fun k h => by injection h with h; omega)).grown (grown_set1 _ rb 1 (.slice (some ⟨gg, 0, none⟩) M cap)) (fun k h => by injection h with h; omega))
    have HGG := Lib.hid (grow_new (grow_new HG9.out (grown_set1 w3 rb 0 (.int .i64 (N))) (fun k h => by injection h with h; omega)) (grown_set1 _ rb 1 (.slice (some ⟨gg, 0, none⟩) M cap)) (fun k h => by injection h with h; omega))
    generalize ((w3.setCell ⟨rb, 0, none⟩ (.int .i64 (N))).setCell ⟨rb, 1, none⟩ (.slice (some ⟨gg, 0, none⟩) M cap)) = w9 at *
    exact bodyPost_ret (v := .agg #[.int .i64 (N), .slice (some ⟨gg, 0, none⟩) M cap]) (by simp [results, Tryz.results112, go_sem, e0, e1]) rfl ⟨N, M, gg, cap, _, rfl, by omega, HI9.out, HOO.out, HCC.out, HGG.out⟩
end

section
open Go.RowKit

theorem Code.more {B B' : Nat} {w : World} {a : Option Addr} {len cap : Nat} (h : Code B w a len cap) (hB : B ≤ B') : Code B' w a len cap :=
  ⟨h.1, fun hp => by
    obtain ⟨b, off, e, hlt, hc⟩ := h.2 hp
    exact ⟨b, off, e, Nat.lt_of_lt_of_le hlt hB, hc⟩⟩
/-- A drawn region; with one number; with two. -/
def GivesRg (w : World) (e : Ending) (w' : World) : Prop := ∃ (W : Int) (M gg cap : Nat) (l : List Int), e = .returned (.agg #[.int .i64 W, .slice (some ⟨gg, 0, none⟩) M cap]) ∧ M ≤ 8 ∧ (∀ z ∈ l, In64 z) ∧ w'.ownsRow w.heap.size 3 1 (.slice (some ⟨gg, 0, none⟩) M cap) M (iv l) ∧ Below w.heap.size w w'
def GivesRg1 (w : World) (e : Ending) (w' : World) : Prop := ∃ (W : Int) (M gg cap : Nat) (l : List Int) (x : Int), e = .returned (.tuple #[.agg #[.int .i64 W, .slice (some ⟨gg, 0, none⟩) M cap], .int .i64 x]) ∧ -1 ≤ x ∧ x ≤ 7 ∧ M ≤ 8 ∧ (∀ z ∈ l, In64 z) ∧ w'.ownsRow w.heap.size 3 1 (.slice (some ⟨gg, 0, none⟩) M cap) M (iv l) ∧ Below w.heap.size w w'
def GivesRg2 (w : World) (e : Ending) (w' : World) : Prop := ∃ (W : Int) (M gg cap : Nat) (l : List Int) (x y : Int), e = .returned (.tuple #[.agg #[.int .i64 W, .slice (some ⟨gg, 0, none⟩) M cap], .int .i64 x, .int .i64 y]) ∧ (-1 ≤ x ∧ x ≤ 5) ∧ (0 ≤ y ∧ y ≤ 5) ∧ M ≤ 8 ∧ (∀ z ∈ l, In64 z) ∧ w'.ownsRow w.heap.size 3 1 (.slice (some ⟨gg, 0, none⟩) M cap) M (iv l) ∧ Below w.heap.size w w'
end

section
open Go.RowKit

theorem grownBy_put (W : World) (b o : Nat) (v : Value) : W.grownBy (W.setCell ⟨b, o, none⟩ v) (some b) :=
  ⟨rfl, rfl, rfl, (KeepsWalks.setCell W _ v).size, fun k _ hk => Below.heap_setCell _ _ _ k (fun e => hk (by rw [e]))⟩
/-- A drawn region and drawn cells. -/
def GivesBoth (w : World) (e : Ending) (w' : World) : Prop := ∃ (W : Int) (M gg cap : Nat) (l : List Int) (ad : Addr) (gk off n cp : Nat) (cs : List Cl), e = .returned (.tuple #[.agg #[.int .i64 W, .slice (some ⟨gg, 0, none⟩) M cap], .slice (some ad) n cp]) ∧ M ≤ 8 ∧ (∀ z ∈ l, In64 z) ∧ w'.ownsRow w.heap.size 3 1 (.slice (some ⟨gg, 0, none⟩) M cap) M (iv l) ∧ (Came w' 2 (some ad) gk off n cp (cvs cs) ∧ (0 < cp → w.heap.size ≤ gk)) ∧ (∀ c ∈ cs, InC c) ∧ n ≤ 9 ∧ n ≤ cp ∧ Below w.heap.size w w'
def GivesRgM (w : World) (e : Ending) (w' : World) : Prop := ∃ (W : Int) (M gg cap : Nat) (l : List Int) (x : Int), e = .returned (.tuple #[.agg #[.int .i64 W, .slice (some ⟨gg, 0, none⟩) M cap], .int .i64 x]) ∧ M ≤ 8 ∧ (∀ z ∈ l, In64 z) ∧ w'.ownsRow w.heap.size 3 1 (.slice (some ⟨gg, 0, none⟩) M cap) M (iv l) ∧ In64 x ∧ Below w.heap.size w w'
/-- The same and a place. -/
def GivesAt7 (w : World) (e : Ending) (w' : World) : Prop := ∃ (W : Int) (M gg cap : Nat) (l : List Int) (ad : Addr) (gk off n cp : Nat) (cs : List Cl) (x y : Int), e = .returned (.tuple #[.agg #[.int .i64 W, .slice (some ⟨gg, 0, none⟩) M cap], .slice (some ad) n cp, .int .i64 x, .int .i64 y]) ∧ M ≤ 8 ∧ (∀ z ∈ l, In64 z) ∧ w'.ownsRow w.heap.size 3 1 (.slice (some ⟨gg, 0, none⟩) M cap) M (iv l) ∧ (Came w' 2 (some ad) gk off n cp (cvs cs) ∧ (0 < cp → w.heap.size ≤ gk)) ∧ (∀ c ∈ cs, InC c) ∧ n ≤ 9 ∧ n ≤ cp ∧ (-1 ≤ x ∧ x ≤ 5) ∧ (0 ≤ y ∧ y ≤ 5) ∧ Below w.heap.size w w'
end

section
open Go.RowKit
end

end Go.Proofs.YtkjlmgkjcmebbaaGreatDoor
