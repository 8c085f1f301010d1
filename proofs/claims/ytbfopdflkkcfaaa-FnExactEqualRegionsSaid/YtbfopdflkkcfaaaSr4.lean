/-
  Are two regions alike, a region as a text: in the model and in the program: what each call gives.
-/
import Derived.Test.YtbfopdflkkcfaaaSr3
namespace Go.Proofs.Ytbfopdflkkcfaaa
open Go.RowKit

def eqTo (l r : List Int) (k : Nat) : Bool := (List.range k).all fun j => decide (l.getD j 0 = r.getD j 0)
theorem eqTo_step (l r : List Int) (k : Nat) : eqTo l r (k + 1) = (eqTo l r k && decide (l.getD k 0 = r.getD k 0)) := by
  unfold eqTo; rw [List.range_succ, List.all_append]; simp
theorem eqTo_iff (l r : List Int) (k : Nat) : eqTo l r k = true ↔ ∀ j, j < k → l.getD j 0 = r.getD j 0 := by
  unfold eqTo; rw [List.all_eq_true]; simp
theorem eqTo_all {l r : List Int} (h : l.length = r.length) : eqTo l r l.length = decide (l = r) := by
  rw [Bool.eq_iff_iff, eqTo_iff, decide_eq_true_eq]
  constructor
  · intro h2
    apply List.ext_getElem h
    intro j h3 h4
    have := h2 j h3
    simpa [List.getD, h3, h4] using this
  · rintro rfl j _; rfl
def eqR (W : Int) (l : List Int) (U : Int) (r : List Int) : Bool := decide (W = U) && decide (l = r)
theorem eqR_w {W U : Int} {l r : List Int} (h : ¬ W = U) : eqR W l U r = false := by unfold eqR; simp [h]
theorem eqR_n {W U : Int} {l r : List Int} (h : ¬ l.length = r.length) : eqR W l U r = false := by
  unfold eqR
  have : ¬ l = r := fun e => h (by rw [e])
  simp [this]
theorem eqR_at {W U : Int} {l r : List Int} {k : Nat} (h : ¬ l.getD k 0 = r.getD k 0) : eqR W l U r = false := by
  unfold eqR
  have : ¬ l = r := fun e => h (by rw [e])
  simp [this]
theorem eqI_at {l r : List Int} {k : Nat} (h : ¬ l.getD k 0 = r.getD k 0) : decide (l = r) = false := by
  have : ¬ l = r := fun e => h (by rw [e])
  simp [this]

set_option maxHeartbeats 2000000 in
set_option maxRecDepth 100000 in
theorem sEqR (B n cap m cap2 : Nat) (a a2 : Option Addr) (W U : Int) (l r : List Int) (w : World) (hn : n ≤ 4194304) (hm : m ≤ 4194304) (hc : IntsAt B w a n l) (hc2 : IntsAt B w a2 m r) (hB : B ≤ w.heap.size) :
    Calls Try.prog 50 #[.agg #[.int .i64 W, .slice a n cap], .agg #[.int .i64 U, .slice a2 m cap2]] w fun e w' => e = .returned (.bool (eqR W l U r)) ∧ Below w.heap.size w w' := by
  have H := Lib.hid hc
  have H2 := Lib.hid hc2
  have hl1 := hc.1
  have hl2 := hc2.1
  clear hc hc2
  have hb0 := ((Below.refl w.heap.size w).alloc (Nat.le_refl _) (.cells #[.int .i64 W, .slice a n cap] 27)).alloc (by simp) (.cells #[.int .i64 U, .slice a2 m cap2] 27)
  by_cases h1 : W = U
  · subst h1
    by_cases h2 : n = m
    · subst h2
      have HO := Lib.hid (show eqR W l W r = eqTo l r n from by unfold eqR; rw [← hl1, eqTo_all (by omega)]; simp)
      rw [HO.out]
      have hbox := (RgAt.new (w := w) W (.slice a n cap) rfl).alloc (.cells #[.int .i64 W, .slice a2 n cap2] 27)
      have hbox2 := RgAt.new (w := w.alloc (.cells #[.int .i64 W, .slice a n cap] 27)) (N := w.heap.size + 1) W (.slice a2 n cap2) (by simp)
      have e1 : (W != W) = false := by simp
      have e2 : ((n : Int) != (n : Int)) = false := by simp
      go_enter Try.func50, Try.ntmps50
      go_wp2
      have hsz0 : ((w.alloc (.cells #[.int .i64 W, .slice a n cap] 27)).alloc (.cells #[.int .i64 W, .slice a2 n cap2] 27)).heap.size = w.heap.size + 1 + 1 := by simp
      generalize ((w.alloc (.cells #[.int .i64 W, .slice a n cap] 27)).alloc (.cells #[.int .i64 W, .slice a2 n cap2] 27)) = W1 at *
      have HB := Lib.hid hb0
      clear hb0
      go_loopw [5] (fun i wr => ∃ k : Nat, k ≤ n ∧ i = .int .i64 k ∧ Hid (eqTo l r k = true) ∧ Below (w.heap.size + 1 + 1) W1 wr) (fun i _ => n - (intOf i).toNat)
      case atStart => exact ⟨0, by omega, rfl, by simp [Hid, eqTo], Below.refl _ _⟩
      case round =>
        obtain ⟨k, hk, rfl, he, hb⟩ := hrel
        have hsz := hb.size
        have hbw := HB.out.trans (hb.mono (by omega))
        have hbx := hbox.on hb (by omega)
        have hbx2 := hbox2.on hb (by omega)
        have c1 := hbx.c1
        have d1 := hbx2.c1
        by_cases hlt : k < n
        · obtain ⟨b, off, rfl, hbB, hcell⟩ := H.out.2.2 (by omega)
          obtain ⟨b2, off2, rfl, hbB2, hcell2⟩ := H2.out.2.2 (by omega)
          have p1 := (hbw.cell (p := ⟨b, off + k, none⟩) (Nat.lt_of_lt_of_le hbB hB)).trans (hcell k hlt)
          have p2 := (hbw.cell (p := ⟨b2, off2 + k, none⟩) (Nat.lt_of_lt_of_le hbB2 hB)).trans (hcell2 k hlt)
          have hk0 : (0 : Int) ≤ (k : Int) := by omega
          have hk1 : (k : Int) < (n : Int) := by omega
          have HS := Lib.hid (eqTo_step l r k)
          have HA := Lib.hid (eqI_at (l := l) (r := r) (k := k))
          have HL := Lib.hid (show eqTo l r n = decide (l = r) from by rw [← hl1, eqTo_all (by omega)])
          obtain ⟨x, hx⟩ : ∃ x, l.getD k 0 = x := ⟨_, rfl⟩
          obtain ⟨y, hy⟩ : ∃ y, r.getD k 0 = y := ⟨_, rfl⟩
          rw [hx] at p1 HS HA
          rw [hy] at p2 HS HA
          clear hcell hcell2 hx hy
          by_cases hxy : x = y
          · subst hxy
            have e3 : (x != x) = false := by simp
            have HR := Lib.hid (show eqTo l r (k + 1) = true from by rw [HS.out, he.out]; simp)
            clear HA
            go_wp2_with fail
            go_quiet (fail)
            go_wp2
            go_roundw
            case rel => exact ⟨k + 1, by omega, by go_num, HR.out, below_drewn hb _⟩
            case measure => simp [intOf]; omega
          · have e3 : (x != y) = true := by rw [bne_iff_ne]; exact hxy
            have HR := Lib.hid (show eqTo l r n = false from by rw [HL.out]; exact HA.out hxy)
            clear HA hxy
            go_wp2_with fail
            go_quiet (fail)
            go_wp2
            go_ret
            exact ⟨by rw [HR.out]; rfl, below_drewn hbw _⟩
        · obtain rfl : k = n := by omega
          go_wp2
          go_ret
          exact ⟨by rw [he.out]; rfl, hbw⟩
    · have HO := Lib.hid (eqR_n (W := W) (U := W) (l := l) (r := r) (by rw [hl1, hl2]; exact h2))
      rw [HO.out]
      have e1 : (W != W) = false := by simp
      have e2 : ((n : Int) != (m : Int)) = true := by rw [bne_iff_ne]; omega
      go_enter Try.func50, Try.ntmps50
      go_wp2
      go_ret
      exact ⟨rfl, hb0⟩
  · have HO := Lib.hid (eqR_w (l := l) (r := r) h1)
    rw [HO.out]
    have e1 : (W != U) = true := by rw [bne_iff_ne]; exact h1
    go_enter Try.func50, Try.ntmps50
    go_wp2
    go_ret
    exact ⟨rfl, hb0⟩

set_option maxHeartbeats 2000000 in
set_option maxRecDepth 100000 in
theorem iEqI (B n cap m cap2 : Nat) (a a2 : Option Addr) (l r : List Int) (w : World) (hn : n ≤ 4194304) (hm : m ≤ 4194304) (hc : IntsAt B w a n l) (hc2 : IntsAt B w a2 m r) (hB : B ≤ w.heap.size) :
    Calls Try.prog 76 #[.slice a n cap, .slice a2 m cap2] w fun e w' => e = .returned (.bool (decide (l = r))) ∧ Below w.heap.size w w' := by
  have H := Lib.hid hc
  have H2 := Lib.hid hc2
  have hl1 := hc.1
  have hl2 := hc2.1
  clear hc hc2
  by_cases h2 : n = m
  · subst h2
    have HL := Lib.hid (show eqTo l r n = decide (l = r) from by rw [← hl1, eqTo_all (by omega)])
    rw [← HL.out]
    have e2 : ((n : Int) != (n : Int)) = false := by simp
    go_enter Try.func76, Try.ntmps76
    go_wp2
    go_loopw [13] (fun i wr => ∃ k : Nat, k ≤ n ∧ i = .int .i64 k ∧ Hid (eqTo l r k = true) ∧ Below w.heap.size w wr) (fun i _ => n - (intOf i).toNat)
    case atStart => exact ⟨0, by omega, rfl, by simp [Hid, eqTo], Below.refl _ _⟩
    case round =>
      obtain ⟨k, hk, rfl, he, hbw⟩ := hrel
      by_cases hlt : k < n
      · obtain ⟨b, off, rfl, hbB, hcell⟩ := H.out.2.2 (by omega)
        obtain ⟨b2, off2, rfl, hbB2, hcell2⟩ := H2.out.2.2 (by omega)
        have p1 := (hbw.cell (p := ⟨b, off + k, none⟩) (Nat.lt_of_lt_of_le hbB hB)).trans (hcell k hlt)
        have p2 := (hbw.cell (p := ⟨b2, off2 + k, none⟩) (Nat.lt_of_lt_of_le hbB2 hB)).trans (hcell2 k hlt)
        have hk0 : (0 : Int) ≤ (k : Int) := by omega
        have hk1 : (k : Int) < (n : Int) := by omega
        have HS := Lib.hid (eqTo_step l r k)
        have HA := Lib.hid (eqI_at (l := l) (r := r) (k := k))
        obtain ⟨x, hx⟩ : ∃ x, l.getD k 0 = x := ⟨_, rfl⟩
        obtain ⟨y, hy⟩ : ∃ y, r.getD k 0 = y := ⟨_, rfl⟩
        rw [hx] at p1 HS HA
        rw [hy] at p2 HS HA
        clear hcell hcell2 hx hy
        by_cases hxy : x = y
        · subst hxy
          have e3 : (x != x) = false := by simp
          have HR := Lib.hid (show eqTo l r (k + 1) = true from by rw [HS.out, he.out]; simp)
          clear HA
          go_wp2_with fail
          go_quiet (fail)
          go_wp2
          go_roundw
          case rel => exact ⟨k + 1, by omega, by go_num, HR.out, below_drewn hbw _⟩
          case measure => simp [intOf]; omega
        · have e3 : (x != y) = true := by rw [bne_iff_ne]; exact hxy
          have HR := Lib.hid (show eqTo l r n = false from by rw [HL.out]; exact HA.out hxy)
          clear HA hxy
          go_wp2_with fail
          go_quiet (fail)
          go_wp2
          go_ret
          exact ⟨by rw [HR.out]; rfl, below_drewn hbw _⟩
      · obtain rfl : k = n := by omega
        go_wp2
        go_ret
        exact ⟨by rw [he.out]; rfl, hbw⟩
  · have HO := Lib.hid (show decide (l = r) = false from by
      have : ¬ l = r := fun e => h2 (by rw [← hl1, ← hl2, e])
      simp [this])
    rw [HO.out]
    have e2 : ((n : Int) != (m : Int)) = true := by rw [bne_iff_ne]; omega
    go_enter Try.func76, Try.ntmps76
    go_wp2
    go_ret
    exact ⟨rfl, Below.refl _ _⟩

set_option maxHeartbeats 1000000 in
theorem iEqR (B n cap m cap2 : Nat) (a a2 : Option Addr) (W U : Int) (l r : List Int) (w : World) (hn : n ≤ 4194304) (hm : m ≤ 4194304) (hc : IntsAt B w a n l) (hc2 : IntsAt B w a2 m r) (hB : B ≤ w.heap.size) :
    Calls Try.prog 51 #[.agg #[.int .i64 W, .slice a n cap], .agg #[.int .i64 U, .slice a2 m cap2]] w fun e w' => e = .returned (.bool (eqR W l U r)) ∧ Below w.heap.size w w' := by
  have H := Lib.hid hc
  have H2 := Lib.hid hc2
  clear hc hc2
  have hb0 := ((Below.refl w.heap.size w).alloc (Nat.le_refl _) (.cells #[.int .i64 W, .slice a n cap] 27)).alloc (by simp) (.cells #[.int .i64 U, .slice a2 m cap2] 27)
  by_cases h1 : W = U
  · subst h1
    have HO := Lib.hid (show eqR W l W r = decide (l = r) from by unfold eqR; simp)
    rw [HO.out]
    have e1 : (W == W) = true := by simp
    go_enter Try.func51, Try.ntmps51
    go_wp2_with fail
    refine (iEqI B n cap m cap2 a a2 l r _ hn hm (H.out.on (hb0.mono hB)) (H2.out.on (hb0.mono hB)) (Nat.le_trans hB hb0.size)).mono ?_
    rintro e w' ⟨rfl, hb⟩
    go_wp2
    go_ret
    exact ⟨rfl, hb0.trans (hb.mono hb0.size)⟩
  · have HO := Lib.hid (eqR_w (l := l) (r := r) h1)
    rw [HO.out]
    have e1 : (W == U) = false := by rw [beq_eq_false_iff_ne]; exact h1
    go_enter Try.func51, Try.ntmps51
    go_wp2
    go_ret
    exact ⟨rfl, hb0⟩

end Go.Proofs.Ytbfopdflkkcfaaa
