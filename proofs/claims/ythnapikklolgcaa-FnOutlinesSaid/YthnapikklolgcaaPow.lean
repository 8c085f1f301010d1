/-
  The way around a shape: what it is, moved, and by marks in one number: plain facts.
  The way around all shapes of at most eight cells that hang together, decided. (Written by tools/rounds.py.)
  Shapes that hang together by as few sides as possible have no square (decided); convex shapes have no hole: plain facts. (Written by tools/trees.py.)
-/
import Derived.Test.YthnapikklolgcaaPe7
import Derived.Test.YthnapikklolgcaaPen
namespace Go.Proofs.Ythnapikklolgcaa

section
def edC (l : List Cl) (x y : Int) : Nat → Bool
  | 0 => hasC l x y && !hasC l x (y - 1)
  | 1 => hasC l (x - 1) y && !hasC l x y
  | 2 => hasC l (x - 1) (y - 1) && !hasC l (x - 1) y
  | _ => hasC l x (y - 1) && !hasC l (x - 1) (y - 1)
/-- The next direction behind a step: the first of three that has the shape at its right hand only. -/
def trC (l : List Cl) (c : Cl) (d : Nat) : Nat :=
  if edC l c.1 c.2 ((d + 3) % 4) = true then (d + 3) % 4 else if edC l c.1 c.2 ((d + 4) % 4) = true then (d + 4) % 4 else if edC l c.1 c.2 ((d + 5) % 4) = true then (d + 5) % 4 else d
def trAt (l : List Cl) : Nat → Cl × Nat
  | 0 => (l.getD 0 (0, 0), 0)
  | k + 1 => (nbC (trAt l k).1 (trAt l k).2, trC l (nbC (trAt l k).1 (trAt l k).2) (trAt l k).2)
/-- The way comes back after p steps, and not before. -/
def RoundP (l : List Cl) (p : Nat) : Prop := trAt l p = (l.getD 0 (0, 0), 0) ∧ ∀ k, 0 < k → k < p → trAt l k ≠ (l.getD 0 (0, 0), 0)
theorem trC_lt (l : List Cl) (c : Cl) (d : Nat) (h : d < 4) : trC l c d < 4 := by
  unfold trC
  split
  · omega
  · split
    · omega
    · split <;> omega
theorem trAt_lt (l : List Cl) : ∀ k, (trAt l k).2 < 4
  | 0 => by simp [trAt]
  | k + 1 => trC_lt _ _ _ (trAt_lt l k)
def pinAt (l : List Cl) (c : Cl) : Bool := hasC l (c.1 + 1) (c.2 + 1) && !hasC l (c.1 + 1) c.2 && !hasC l c.1 (c.2 + 1) || hasC l (c.1 - 1) (c.2 + 1) && !hasC l (c.1 - 1) c.2 && !hasC l c.1 (c.2 + 1)
def pinC (l : List Cl) : Bool := l.any (pinAt l)
def EyeC (l : List Cl) : Prop := ∃ q, q ∉ l ∧ ∀ d, d < 4 → nbC q d ∈ l

/-! ### Moved -/
theorem hasC_moved (l : List Cl) (a b x y : Int) : hasC (moveC a b l) (x + a) (y + b) = hasC l x y := by
  have h1 := hasC_iff (moveC a b l) (x + a, y + b)
  have h2 := hasC_iff l (x, y)
  have h3 := mem_moved l a b (x, y)
  rw [Bool.eq_iff_iff]
  exact h1.trans (h3.trans h2.symm)
theorem edC_moved (l : List Cl) (a b x y : Int) : (d : Nat) → edC (moveC a b l) (x + a) (y + b) d = edC l x y d := by
  have e1 : x + a - 1 = (x - 1) + a := by omega
  have e2 : y + b - 1 = (y - 1) + b := by omega
  intro d
  match d with
  | 0 => simp only [edC, e2, hasC_moved]
  | 1 => simp only [edC, e1, hasC_moved]
  | 2 => simp only [edC, e1, e2, hasC_moved]
  | n + 3 => simp only [edC, e1, e2, hasC_moved]
theorem trC_moved (l : List Cl) (a b : Int) (c : Cl) (d : Nat) : trC (moveC a b l) (c.1 + a, c.2 + b) d = trC l c d := by
  unfold trC
  dsimp only
  rw [edC_moved, edC_moved, edC_moved]
theorem trAt_moved {l : List Cl} (hl : 0 < l.length) (a b : Int) : ∀ k, trAt (moveC a b l) k = (((trAt l k).1.1 + a, (trAt l k).1.2 + b), (trAt l k).2)
  | 0 => by
    unfold trAt
    rw [moveC_getD a b l 0 hl]
  | k + 1 => by
    unfold trAt
    rw [trAt_moved hl a b k]
    dsimp only
    rw [nb_shift, trC_moved]
theorem RoundP.moved {l : List Cl} {p : Nat} (hl : 0 < l.length) (a b : Int) (h : RoundP l p) : RoundP (moveC a b l) p := by
  have key : ∀ k, trAt (moveC a b l) k = ((moveC a b l).getD 0 (0, 0), 0) ↔ trAt l k = (l.getD 0 (0, 0), 0) := fun k => by
    rw [trAt_moved hl a b k, moveC_getD a b l 0 hl]
    obtain ⟨⟨x, y⟩, d⟩ := trAt l k
    obtain ⟨u, v⟩ := l.getD 0 (0, 0)
    dsimp only
    constructor
    · intro e
      injection e with e1 e2
      injection e1 with e3 e4
      rw [show x = u by omega, show y = v by omega, e2]
    · intro e
      injection e with e1 e2
      injection e1 with e3 e4
      rw [e3, e4, e2]
  exact ⟨(key p).2 h.1, fun k h1 h2 h3 => h.2 k h1 h2 ((key k).1 h3)⟩
theorem pinC_moved (l : List Cl) (a b : Int) : pinC (moveC a b l) = pinC l := by
  have key : ∀ c : Cl, pinAt (moveC a b l) (c.1 + a, c.2 + b) = pinAt l c := fun c => by
    unfold pinAt
    dsimp only
    rw [show c.1 + a + 1 = (c.1 + 1) + a by omega, show c.2 + b + 1 = (c.2 + 1) + b by omega, show c.1 + a - 1 = (c.1 - 1) + a by omega]
    simp only [hasC_moved]
  unfold pinC
  have e : moveC a b l = l.map fun c => (c.1 + a, c.2 + b) := rfl
  rw [e, List.any_map, ← e]
  congr 1
  funext c
  exact key c
theorem EyeC.moved {l : List Cl} (a b : Int) (h : EyeC l) : EyeC (moveC a b l) := by
  obtain ⟨q, h1, h2⟩ := h
  exact ⟨(q.1 + a, q.2 + b), by rw [mem_moved]; exact h1, fun d hd => by rw [nb_shift, mem_moved]; exact h2 d hd⟩
/-- A place with cells at all four sides is a hole. -/
theorem eye_holes {l : List Cl} (hl : isShape l = true) (h : EyeC l) : holesN l ≠ 0 := by
  have hm := h.moved 1 1
  have hin : InsF (moveC 1 1 l) 0 9 0 9 := fun c hc => by
    obtain ⟨d, hd, rfl⟩ := List.mem_map.1 hc
    have := inP_out (((isShape_iff l).1 hl).2.1 d hd)
    dsimp only
    omega
  obtain ⟨q, h1, h2⟩ := hm
  have hself : ∀ p, Pth (moveC 1 1 l) q p → p = q := fun p hp => by
    induction hp with
    | base _ => rfl
    | step d _ hd hn ih => rw [ih] at hn; exact absurd (h2 d hd) hn
  have hlead : Lead (moveC 1 1 l) q := ⟨h1, fun ho => by
    obtain ⟨p, hp, hpq⟩ := ho
    have := hself p hpq.symm
    subst this
    have h3 := hp _ (h2 2 (by omega))
    obtain ⟨x, y⟩ := p
    rw [nb2] at h3
    dsimp only at h3
    omega, fun p hp => by rw [hself p hp.symm]; exact bef_irr q⟩
  have hg := lead_in hin hlead
  unfold holesN cntL
  intro h0
  have : q ∈ (gTo 10 10).filter (leadB (moveC 1 1 l)) := by
    rw [List.mem_filter, leadB_iff, mem_gTo]
    exact ⟨by omega, hlead⟩
  rw [List.eq_nil_of_length_eq_zero h0] at this
  cases this

/-! ### By marks -/
def cN (m X Y : Nat) : Bool := Nat.ble 1 X && (Nat.ble X 8 && (Nat.ble 1 Y && (Nat.ble Y 8 && m.testBit (16 * (Y - 1) + (X - 1)))))
theorem row_bit (m x y : Nat) : (rowM m y).testBit x = true ↔ x < 16 ∧ m.testBit (16 * y + x) = true := by
  unfold rowM
  rw [show (65536 : Nat) = 2 ^ 16 from rfl, Nat.testBit_mod_two_pow, Nat.testBit_shiftRight, Bool.and_eq_true, decide_eq_true_eq]
theorem mem_decM (m x y : Nat) (hx : x < 8) (hy : y < 8) : ((x : Int), (y : Int)) ∈ decM m ↔ m.testBit (16 * y + x) = true := by
  unfold decM
  rw [mem_cellsTo]
  constructor
  · rintro ⟨v, hv, u, hu, hb, e⟩
    injection e with e1 e2
    obtain rfl : x = u := by omega
    obtain rfl : y = v := by omega
    exact ((row_bit m x y).1 hb).2
  · intro h
    exact ⟨y, hy, x, hx, (row_bit m x y).2 ⟨by omega, h⟩, rfl⟩
theorem decM_in {m : Nat} {c : Cl} (h : c ∈ decM m) : ∃ x y : Nat, x < 8 ∧ y < 8 ∧ c = ((x : Int), (y : Int)) := by
  unfold decM at h
  rw [mem_cellsTo] at h
  obtain ⟨y, hy, x, hx, _, e⟩ := h
  exact ⟨x, y, hx, hy, e⟩
theorem cN_has (m X Y : Nat) : hasC (decM m) ((X : Int) - 1) ((Y : Int) - 1) = cN m X Y := by
  have h := hasC_iff (decM m) ((X : Int) - 1, (Y : Int) - 1)
  dsimp only at h
  rw [Bool.eq_iff_iff, h]
  unfold cN
  rw [Bool.and_eq_true, Bool.and_eq_true, Bool.and_eq_true, Bool.and_eq_true, Nat.ble_eq, Nat.ble_eq, Nat.ble_eq, Nat.ble_eq]
  constructor
  · intro hm
    obtain ⟨x, y, hx, hy, e⟩ := decM_in hm
    have hm2 := hm
    rw [e] at hm2
    injection e with e1 e2
    rw [mem_decM m x y hx hy] at hm2
    refine ⟨by omega, by omega, by omega, by omega, ?_⟩
    rw [show Y - 1 = y by omega, show X - 1 = x by omega]
    exact hm2
  · rintro ⟨h1, h2, h3, h4, h5⟩
    rw [← mem_decM m (X - 1) (Y - 1) (by omega) (by omega)] at h5
    rw [show (X : Int) - 1 = ((X - 1 : Nat) : Int) by omega, show (Y : Int) - 1 = ((Y - 1 : Nat) : Int) by omega]
    exact h5
def edN (m X Y : Nat) : Nat → Bool
  | 0 => cN m X Y && !cN m X (Y - 1)
  | 1 => cN m (X - 1) Y && !cN m X Y
  | 2 => cN m (X - 1) (Y - 1) && !cN m (X - 1) Y
  | _ => cN m X (Y - 1) && !cN m (X - 1) (Y - 1)
theorem edN_ed {m X Y : Nat} (hX : 1 ≤ X) (hY : 1 ≤ Y) (d : Nat) : edC (decM m) ((X : Int) - 1) ((Y : Int) - 1) d = edN m X Y d := by
  have e1 : (X : Int) - 1 - 1 = ((X - 1 : Nat) : Int) - 1 := by omega
  have e2 : (Y : Int) - 1 - 1 = ((Y - 1 : Nat) : Int) - 1 := by omega
  match d with
  | 0 => simp only [edC, edN, e2, cN_has]
  | 1 => simp only [edC, edN, e1, cN_has]
  | 2 => simp only [edC, edN, e1, e2, cN_has]
  | n + 3 => simp only [edC, edN, e1, e2, cN_has]
def trN (m X Y d : Nat) : Nat := bif edN m X Y ((d + 3) % 4) then (d + 3) % 4 else bif edN m X Y ((d + 4) % 4) then (d + 4) % 4 else bif edN m X Y ((d + 5) % 4) then (d + 5) % 4 else d
theorem trN_tr {m X Y : Nat} (hX : 1 ≤ X) (hY : 1 ≤ Y) (d : Nat) : trC (decM m) ((X : Int) - 1, (Y : Int) - 1) d = trN m X Y d := by
  unfold trC trN
  dsimp only
  rw [edN_ed hX hY, edN_ed hX hY, edN_ed hX hY]
  simp only [cond_eq_ite]
def atN (X0 Y0 X Y d : Nat) : Bool := Nat.beq X X0 && (Nat.beq Y Y0 && Nat.beq d 0)
theorem atN_iff (X0 Y0 X Y d : Nat) : atN X0 Y0 X Y d = true ↔ X = X0 ∧ Y = Y0 ∧ d = 0 := by
  unfold atN
  rw [Bool.and_eq_true, Bool.and_eq_true, Nat.beq_eq, Nat.beq_eq, Nat.beq_eq]
def rnN (m X0 Y0 : Nat) : Nat → Nat → Nat → Nat → Bool
  | 0, X, Y, d => atN X0 Y0 X Y d
  | k + 1, X, Y, 0 => (Nat.beq k 0 || !atN X0 Y0 (X + 1) Y (trN m (X + 1) Y 0)) && rnN m X0 Y0 k (X + 1) Y (trN m (X + 1) Y 0)
  | k + 1, X, Y, 1 => (Nat.beq k 0 || !atN X0 Y0 X (Y + 1) (trN m X (Y + 1) 1)) && rnN m X0 Y0 k X (Y + 1) (trN m X (Y + 1) 1)
  | k + 1, X, Y, 2 => Nat.ble 2 X && ((Nat.beq k 0 || !atN X0 Y0 (X - 1) Y (trN m (X - 1) Y 2)) && rnN m X0 Y0 k (X - 1) Y (trN m (X - 1) Y 2))
  | k + 1, X, Y, _ => Nat.ble 2 Y && ((Nat.beq k 0 || !atN X0 Y0 X (Y - 1) (trN m X (Y - 1) 3)) && rnN m X0 Y0 k X (Y - 1) (trN m X (Y - 1) 3))
theorem rnN_ok {m X0 Y0 : Nat} (hX0 : 1 ≤ X0) (hY0 : 1 ≤ Y0) : ∀ (k j X Y d : Nat), 1 ≤ X → 1 ≤ Y → d < 4 → trAt (decM m) j = (((X : Int) - 1, (Y : Int) - 1), d) → rnN m X0 Y0 k X Y d = true →
    trAt (decM m) (j + k) = (((X0 : Int) - 1, (Y0 : Int) - 1), 0) ∧ ∀ i, 0 < i → i < k → trAt (decM m) (j + i) ≠ (((X0 : Int) - 1, (Y0 : Int) - 1), 0) := by
  intro k
  induction k with
  | zero =>
    intro j X Y d _ _ _ ht hr
    obtain ⟨rfl, rfl, rfl⟩ := (atN_iff _ _ _ _ _).1 hr
    exact ⟨ht, fun i h1 h2 => by omega⟩
  | succ k ih =>
    intro j X Y d hX hY hd ht hr
    have go : ∀ X' Y' : Nat, 1 ≤ X' → 1 ≤ Y' → nbC ((X : Int) - 1, (Y : Int) - 1) d = ((X' : Int) - 1, (Y' : Int) - 1) → ((Nat.beq k 0 || !atN X0 Y0 X' Y' (trN m X' Y' d)) && rnN m X0 Y0 k X' Y' (trN m X' Y' d)) = true →
        trAt (decM m) (j + (k + 1)) = (((X0 : Int) - 1, (Y0 : Int) - 1), 0) ∧ ∀ i, 0 < i → i < k + 1 → trAt (decM m) (j + i) ≠ (((X0 : Int) - 1, (Y0 : Int) - 1), 0) := by
      intro X' Y' hX' hY' hnb hr
      rw [Bool.and_eq_true] at hr
      have hs : trAt (decM m) (j + 1) = (((X' : Int) - 1, (Y' : Int) - 1), trN m X' Y' d) := by
        rw [trAt, ht]
        dsimp only
        rw [hnb, trN_tr hX' hY']
      have hlt : trN m X' Y' d < 4 := by rw [← trN_tr hX' hY']; exact trC_lt _ _ _ hd
      have h2 := ih (j + 1) X' Y' _ hX' hY' hlt hs hr.2
      refine ⟨by rw [show j + (k + 1) = j + 1 + k by omega]; exact h2.1, fun i h3 h4 => ?_⟩
      by_cases h1 : i = 1
      · subst h1
        rw [hs]
        intro e
        injection e with e1 e2
        injection e1 with e3 e4
        have hk : ¬ k = 0 := by omega
        have hr1 := hr.1
        rw [Bool.or_eq_true, Nat.beq_eq] at hr1
        rcases hr1 with h5 | h5
        · exact hk h5
        · have : atN X0 Y0 X' Y' (trN m X' Y' d) = true := (atN_iff _ _ _ _ _).2 ⟨by omega, by omega, e2⟩
          rw [this] at h5
          cases h5
      · rw [show j + i = j + 1 + (i - 1) by omega]
        exact h2.2 (i - 1) (by omega) (by omega)
    have hdd : d = 0 ∨ d = 1 ∨ d = 2 ∨ d = 3 := by omega
    rcases hdd with rfl | rfl | rfl | rfl
    · exact go (X + 1) Y (by omega) hY (by rw [nb0]; congr 1; omega) hr
    · exact go X (Y + 1) hX (by omega) (by rw [nb1]; congr 1; omega) hr
    · have hr : (Nat.ble 2 X && ((Nat.beq k 0 || !atN X0 Y0 (X - 1) Y (trN m (X - 1) Y 2)) && rnN m X0 Y0 k (X - 1) Y (trN m (X - 1) Y 2))) = true := hr
      rw [Bool.and_eq_true, Nat.ble_eq] at hr
      exact go (X - 1) Y (by omega) hY (by rw [nb2]; congr 1; omega) hr.2
    · have hr : (Nat.ble 2 Y && ((Nat.beq k 0 || !atN X0 Y0 X (Y - 1) (trN m X (Y - 1) 3)) && rnN m X0 Y0 k X (Y - 1) (trN m X (Y - 1) 3))) = true := hr
      rw [Bool.and_eq_true, Nat.ble_eq] at hr
      exact go X (Y - 1) hX (by omega) (by rw [nb3]; congr 1; omega) hr.2
def eRow (m y : Nat) : Nat → Nat
  | 0 => 0
  | x + 1 => eRow m y x + (bif m.testBit (16 * y + x) then (cN m (x + 2) (y + 1)).toNat + (cN m (x + 1) (y + 2)).toNat else 0)
def eTo (m : Nat) : Nat → Nat
  | 0 => 0
  | y + 1 => eTo m y + eRow m y 8
def sumL (g : Cl → Nat) : List Cl → Nat
  | [] => 0
  | c :: l => g c + sumL g l
theorem sumL_append (g : Cl → Nat) : ∀ a b, sumL g (a ++ b) = sumL g a + sumL g b
  | [], b => by simp [sumL]
  | c :: a, b => by rw [List.cons_append, sumL, sumL, sumL_append g a b]; omega
theorem sumF_sumL (g : Cl → Nat) (l : List Cl) : ∀ k, k ≤ l.length → sumF (fun j => g (l.getD j (0, 0))) k = sumL g (l.take k)
  | 0, _ => by simp [sumF, sumL]
  | k + 1, h => by rw [sumF, sumF_sumL g l k (by omega), take_snoc l k (by omega), sumL_append]; simp [sumL]
theorem inn_sumL (l : List Cl) : innI l l.length = sumL (fun c => (hasC l (nbC c 0).1 (nbC c 0).2).toNat + (hasC l (nbC c 1).1 (nbC c 1).2).toNat) l := by
  have := sumF_sumL (fun c => (hasC l (nbC c 0).1 (nbC c 0).2).toNat + (hasC l (nbC c 1).1 (nbC c 1).2).toNat) l l.length (Nat.le_refl _)
  rw [List.take_of_length_le (Nat.le_refl _)] at this
  exact this
attribute [local irreducible] decM rnN
theorem inn_eTo (m : Nat) : innI (decM m) (decM m).length = eTo m 8 := by
  have e1 := inn_sumL (decM m)
  rw [e1]
  generalize hg : (fun c => (hasC (decM m) (nbC c 0).1 (nbC c 0).2).toNat + (hasC (decM m) (nbC c 1).1 (nbC c 1).2).toNat) = g
  have hgx : ∀ x y : Nat, g ((x : Int), (y : Int)) = (cN m (x + 2) (y + 1)).toNat + (cN m (x + 1) (y + 2)).toNat := fun x y => by
    rw [← hg]
    dsimp only
    rw [nb0, nb1]
    dsimp only
    rw [← cN_has, ← cN_has]
    congr 2
    · congr 1 <;> omega
    · congr 1 <;> omega
  have hrow : ∀ y n, n ≤ 8 → sumL g (cellsRow (rowM m y) y n) = eRow m y n := by
    intro y n
    induction n with
    | zero => intro _; rfl
    | succ n ih =>
      intro hn
      rw [eRow, ← ih (by omega)]
      cases h : (rowM m y).testBit n with
      | true =>
        have := ((row_bit m n y).1 h).2
        rw [cellsRow_yes h, sumL_append, this, ← hgx]
        rfl
      | false =>
        have : m.testBit (16 * y + n) = false := by
          rw [← Bool.not_eq_true]
          intro h2
          rw [(row_bit m n y).2 ⟨by omega, h2⟩] at h
          cases h
        rw [cellsRow_no h, this]
        rfl
  have hto : ∀ k, sumL g (cellsTo (rowM m) k) = eTo m k := by
    intro k
    induction k with
    | zero => rfl
    | succ k ih => rw [cellsTo, eTo, sumL_append, ih, hrow k 8 (by omega)]
  have h8 := hto 8
  have hd : cellsTo (rowM m) 8 = decM m := by unfold decM; rfl
  rw [hd] at h8
  exact h8
def fstN (m x : Nat) : Bool := m.testBit x && (List.range x).all fun j => !m.testBit j
def pinN (m : Nat) : Bool := (List.range 8).any fun y => (List.range 8).any fun x => cN m (x + 1) (y + 1) && ((cN m (x + 2) (y + 2) && (!cN m (x + 2) (y + 1) && !cN m (x + 1) (y + 2))) || (cN m x (y + 2) && (!cN m x (y + 1) && !cN m (x + 1) (y + 2))))
def eyeN (m : Nat) : Bool := (List.range 8).any fun y => (List.range 8).any fun x => !cN m (x + 1) (y + 1) && (cN m (x + 2) (y + 1) && (cN m (x + 1) (y + 2) && (cN m x (y + 1) && cN m (x + 1) y)))
def okN (n m : Nat) : Bool := ((List.range 8).all fun x => !fstN m x || rnN m (x + 1) 1 (4 * n - 2 * eTo m 8) (x + 1) 1 0) || (pinN m || eyeN m)
theorem pinN_pin {m : Nat} (h : pinN m = true) : pinC (decM m) = true := by
  unfold pinN at h
  obtain ⟨y, hy, h⟩ := List.any_eq_true.1 h
  obtain ⟨x, hx, h⟩ := List.any_eq_true.1 h
  rw [Bool.and_eq_true] at h
  unfold pinC
  rw [List.any_eq_true]
  have hc := h.1
  rw [← cN_has] at hc
  refine ⟨_, hasC_true hc, ?_⟩
  have h2 := h.2
  unfold pinAt
  dsimp only
  have e1 : ((x + 1 : Nat) : Int) - 1 + 1 = ((x + 2 : Nat) : Int) - 1 := by omega
  have e2 : ((y + 1 : Nat) : Int) - 1 + 1 = ((y + 2 : Nat) : Int) - 1 := by omega
  have e3 : ((x + 1 : Nat) : Int) - 1 - 1 = (x : Int) - 1 := by omega
  rw [e1, e2, e3]
  simp only [cN_has]
  rw [Bool.or_eq_true] at h2 ⊢
  rcases h2 with h2 | h2
  · left; rw [← Bool.and_assoc] at h2; exact h2
  · right; rw [← Bool.and_assoc] at h2; exact h2
theorem eyeN_eye {m : Nat} (h : eyeN m = true) : EyeC (decM m) := by
  unfold eyeN at h
  obtain ⟨y, hy, h⟩ := List.any_eq_true.1 h
  obtain ⟨x, hx, h⟩ := List.any_eq_true.1 h
  simp only [Bool.and_eq_true, Bool.not_eq_true'] at h
  obtain ⟨h0, h1, h2, h3, h4⟩ := h
  rw [← cN_has] at h0 h1 h2 h3 h4
  refine ⟨(((x + 1 : Nat) : Int) - 1, ((y + 1 : Nat) : Int) - 1), hasC_false h0, fun d hd => ?_⟩
  have : d = 0 ∨ d = 1 ∨ d = 2 ∨ d = 3 := by omega
  rcases this with rfl | rfl | rfl | rfl
  · rw [nb0, show ((x + 1 : Nat) : Int) - 1 + 1 = ((x + 2 : Nat) : Int) - 1 by omega]; exact hasC_true h1
  · rw [nb1, show ((y + 1 : Nat) : Int) - 1 + 1 = ((y + 2 : Nat) : Int) - 1 by omega]; exact hasC_true h2
  · rw [nb2, show ((x + 1 : Nat) : Int) - 1 - 1 = (x : Int) - 1 by omega]; exact hasC_true h3
  · rw [nb3, show ((y + 1 : Nat) : Int) - 1 - 1 = (y : Int) - 1 by omega]; exact hasC_true h4
theorem okN_out {m : Nat} (h : okN (decM m).length m = true) (hs : Srt (decM m)) (h0 : ∃ c ∈ decM m, c.2 = 0) : RoundP (decM m) (4 * (decM m).length - 2 * innI (decM m) (decM m).length) ∨ pinC (decM m) = true ∨ EyeC (decM m) := by
  unfold okN at h
  rw [Bool.or_eq_true, Bool.or_eq_true] at h
  rcases h with h | h | h
  · refine .inl ?_
    obtain ⟨c, hc, hc0⟩ := h0
    obtain ⟨j, hj, rfl⟩ := mem_getD hc
    have hhead := getD_mem (l := decM m) (j := 0) (by omega)
    obtain ⟨x, y, hx, hy, e⟩ := decM_in hhead
    have hy0 : y = 0 := by
      by_cases hj0 : j = 0
      · subst hj0; rw [e] at hc0; dsimp only at hc0; omega
      · have := srt_getD hs (i := 0) (j := j) (by omega) hj
        rw [bef_iff, e] at this
        dsimp only at this
        omega
    subst hy0
    have hbit : m.testBit x = true := by
      have h1 := hhead
      rw [e, mem_decM m x 0 hx (by omega)] at h1
      simpa using h1
    have hfst : fstN m x = true := by
      unfold fstN
      rw [hbit, Bool.true_and, List.all_eq_true]
      intro i hi
      rw [List.mem_range] at hi
      rw [Bool.not_eq_true', ← Bool.not_eq_true]
      intro hb
      have hm : ((i : Int), ((0 : Nat) : Int)) ∈ decM m := (mem_decM m i 0 (by omega) (by omega)).2 (by simpa using hb)
      obtain ⟨k, hk, e2⟩ := mem_getD hm
      by_cases hk0 : k = 0
      · subst hk0; rw [e] at e2; injection e2 with e3 _; omega
      · have := srt_getD hs (i := 0) (j := k) (by omega) hk
        rw [bef_iff, e, e2] at this
        dsimp only at this
        omega
    have h1 := List.all_eq_true.1 h x (List.mem_range.2 hx)
    rw [hfst, Bool.not_true, Bool.false_or] at h1
    rw [inn_eTo]
    generalize 4 * (decM m).length - 2 * eTo m 8 = p at h1 ⊢
    have h2 := rnN_ok (m := m) (X0 := x + 1) (Y0 := 1) (by omega) (by omega) p 0 (x + 1) 1 0 (by omega) (by omega) (by omega) (by
      rw [trAt, e]
      congr 1
      congr 1 <;> omega) h1
    have e9 : ((((x + 1 : Nat) : Int) - 1, ((1 : Nat) : Int) - 1) : Cl) = (decM m).getD 0 (0, 0) := by rw [e]; congr 1 <;> omega
    rw [e9] at h2
    simp only [Nat.zero_add] at h2
    exact h2
  · exact .inr (.inl (pinN_pin h))
  · exact .inr (.inr (eyeN_eye h))
end

section
theorem opT1 : TN.all (okN 1) pT1 = true := by decide +kernel
theorem opT2 : TN.all (okN 2) pT2 = true := by decide +kernel
theorem opT3 : TN.all (okN 3) pT3 = true := by decide +kernel
theorem opT4 : TN.all (okN 4) pT4 = true := by decide +kernel
theorem opT5 : TN.all (okN 5) pT5 = true := by decide +kernel
theorem opT6a : TN.all (okN 6) pT6a = true := by decide +kernel
theorem opT6b : TN.all (okN 6) pT6b = true := by decide +kernel
theorem opT6 : TN.all (okN 6) pT6 = true := by
  have h : okN 6 30065164290 = true := by decide +kernel
  show (okN 6 30065164290 && (TN.all (okN 6) pT6a && TN.all (okN 6) pT6b)) = true
  rw [h, opT6a, opT6b]
  rfl
theorem opT7aa : TN.all (okN 7) pT7aa = true := by decide +kernel
theorem opT7ab : TN.all (okN 7) pT7ab = true := by decide +kernel
theorem opT7a : TN.all (okN 7) pT7a = true := by
  have h : okN 7 25770786820 = true := by decide +kernel
  show (okN 7 25770786820 && (TN.all (okN 7) pT7aa && TN.all (okN 7) pT7ab)) = true
  rw [h, opT7aa, opT7ab]
  rfl
theorem opT7ba : TN.all (okN 7) pT7ba = true := by decide +kernel
theorem opT7bb : TN.all (okN 7) pT7bb = true := by decide +kernel
theorem opT7b : TN.all (okN 7) pT7b = true := by
  have h : okN 7 1970342017236996 = true := by decide +kernel
  show (okN 7 1970342017236996 && (TN.all (okN 7) pT7ba && TN.all (okN 7) pT7bb)) = true
  rw [h, opT7ba, opT7bb]
  rfl
theorem opT7 : TN.all (okN 7) pT7 = true := by
  have h : okN 7 281539401482244 = true := by decide +kernel
  show (okN 7 281539401482244 && (TN.all (okN 7) pT7a && TN.all (okN 7) pT7b)) = true
  rw [h, opT7a, opT7b]
  rfl
theorem opT8aaaa : TN.all (okN 8) pT8aaaa = true := by decide +kernel
theorem opT8aaab : TN.all (okN 8) pT8aaab = true := by decide +kernel
theorem opT8aaa : TN.all (okN 8) pT8aaa = true := by
  have h : okN 8 8590327839 = true := by decide +kernel
  show (okN 8 8590327839 && (TN.all (okN 8) pT8aaaa && TN.all (okN 8) pT8aaab)) = true
  rw [h, opT8aaaa, opT8aaab]
  rfl
theorem opT8aaba : TN.all (okN 8) pT8aaba = true := by decide +kernel
theorem opT8aabb : TN.all (okN 8) pT8aabb = true := by decide +kernel
theorem opT8aab : TN.all (okN 8) pT8aab = true := by
  have h : okN 8 51539935247 = true := by decide +kernel
  show (okN 8 51539935247 && (TN.all (okN 8) pT8aaba && TN.all (okN 8) pT8aabb)) = true
  rw [h, opT8aaba, opT8aabb]
  rfl
theorem opT8aa : TN.all (okN 8) pT8aa = true := by
  have h : okN 8 25770459151 = true := by decide +kernel
  show (okN 8 25770459151 && (TN.all (okN 8) pT8aaa && TN.all (okN 8) pT8aab)) = true
  rw [h, opT8aaa, opT8aab]
  rfl
theorem opT8abaa : TN.all (okN 8) pT8abaa = true := by decide +kernel
theorem opT8abab : TN.all (okN 8) pT8abab = true := by decide +kernel
theorem opT8aba : TN.all (okN 8) pT8aba = true := by
  have h : okN 8 281479272136732 = true := by decide +kernel
  show (okN 8 281479272136732 && (TN.all (okN 8) pT8abaa && TN.all (okN 8) pT8abab)) = true
  rw [h, opT8abaa, opT8abab]
  rfl
theorem opT8abba : TN.all (okN 8) pT8abba = true := by decide +kernel
theorem opT8abbb : TN.all (okN 8) pT8abbb = true := by decide +kernel
theorem opT8abb : TN.all (okN 8) pT8abb = true := by
  have h : okN 8 844450701770768 = true := by decide +kernel
  show (okN 8 844450701770768 && (TN.all (okN 8) pT8abba && TN.all (okN 8) pT8abbb)) = true
  rw [h, opT8abba, opT8abbb]
  rfl
theorem opT8ab : TN.all (okN 8) pT8ab = true := by
  have h : okN 8 562975723356175 = true := by decide +kernel
  show (okN 8 562975723356175 && (TN.all (okN 8) pT8aba && TN.all (okN 8) pT8abb)) = true
  rw [h, opT8aba, opT8abb]
  rfl
theorem opT8a : TN.all (okN 8) pT8a = true := by
  have h : okN 8 77311442948 = true := by decide +kernel
  show (okN 8 77311442948 && (TN.all (okN 8) pT8aa && TN.all (okN 8) pT8ab)) = true
  rw [h, opT8aa, opT8ab]
  rfl
theorem opT8baaa : TN.all (okN 8) pT8baaa = true := by decide +kernel
theorem opT8baab : TN.all (okN 8) pT8baab = true := by decide +kernel
theorem opT8baa : TN.all (okN 8) pT8baa = true := by
  have h : okN 8 1970350607171586 = true := by decide +kernel
  show (okN 8 1970350607171586 && (TN.all (okN 8) pT8baaa && TN.all (okN 8) pT8baab)) = true
  rw [h, opT8baaa, opT8baab]
  rfl
theorem opT8baba : TN.all (okN 8) pT8baba = true := by decide +kernel
theorem opT8babb : TN.all (okN 8) pT8babb = true := by decide +kernel
theorem opT8bab : TN.all (okN 8) pT8bab = true := by
  have h : okN 8 18447025552981426190 = true := by decide +kernel
  show (okN 8 18447025552981426190 && (TN.all (okN 8) pT8baba && TN.all (okN 8) pT8babb)) = true
  rw [h, opT8baba, opT8babb]
  rfl
theorem opT8ba : TN.all (okN 8) pT8ba = true := by
  have h : okN 8 3377729785430019 = true := by decide +kernel
  show (okN 8 3377729785430019 && (TN.all (okN 8) pT8baa && TN.all (okN 8) pT8bab)) = true
  rw [h, opT8baa, opT8bab]
  rfl
theorem opT8bbaa : TN.all (okN 8) pT8bbaa = true := by decide +kernel
theorem opT8bbab : TN.all (okN 8) pT8bbab = true := by decide +kernel
theorem opT8bba : TN.all (okN 8) pT8bba = true := by
  have h : okN 8 55341921083873886209 = true := by decide +kernel
  show (okN 8 55341921083873886209 && (TN.all (okN 8) pT8bbaa && TN.all (okN 8) pT8bbab)) = true
  rw [h, opT8bbaa, opT8bbab]
  rfl
theorem opT8bbba : TN.all (okN 8) pT8bbba = true := by decide +kernel
theorem opT8bbbb : TN.all (okN 8) pT8bbbb = true := by decide +kernel
theorem opT8bbb : TN.all (okN 8) pT8bbb = true := by
  have h : okN 8 1208981160409826026717186 = true := by decide +kernel
  show (okN 8 1208981160409826026717186 && (TN.all (okN 8) pT8bbba && TN.all (okN 8) pT8bbbb)) = true
  rw [h, opT8bbba, opT8bbbb]
  rfl
theorem opT8bb : TN.all (okN 8) pT8bb = true := by
  have h : okN 8 110681308880072409089 = true := by decide +kernel
  show (okN 8 110681308880072409089 && (TN.all (okN 8) pT8bba && TN.all (okN 8) pT8bbb)) = true
  rw [h, opT8bba, opT8bbb]
  rfl
theorem opT8b : TN.all (okN 8) pT8b = true := by
  have h : okN 8 36894051161797558280 = true := by decide +kernel
  show (okN 8 36894051161797558280 && (TN.all (okN 8) pT8ba && TN.all (okN 8) pT8bb)) = true
  rw [h, opT8ba, opT8bb]
  rfl
theorem opT8 : TN.all (okN 8) pT8 = true := by
  have h : okN 8 1125964332924944 = true := by decide +kernel
  show (okN 8 1125964332924944 && (TN.all (okN 8) pT8a && TN.all (okN 8) pT8b)) = true
  rw [h, opT8a, opT8b]
  rfl

theorem okN_all (n : Nat) (h1 : 1 ≤ n) (h8 : n ≤ 8) (m : Nat) (hm : m ∈ pLv n) : okN n m = true := by
  have : n = 1 ∨ n = 2 ∨ n = 3 ∨ n = 4 ∨ n = 5 ∨ n = 6 ∨ n = 7 ∨ n = 8 := by omega
  rcases this with rfl | rfl | rfl | rfl | rfl | rfl | rfl | rfl
  · exact TN.all_mem opT1 m hm
  · exact TN.all_mem opT2 m hm
  · exact TN.all_mem opT3 m hm
  · exact TN.all_mem opT4 m hm
  · exact TN.all_mem opT5 m hm
  · exact TN.all_mem opT6 m hm
  · exact TN.all_mem opT7 m hm
  · exact TN.all_mem opT8 m hm
/-- A shape that hangs together, has no holes and is not pinched: the way around has as many steps as the perimeter. -/
theorem round_ok {l : List Cl} (h : Conn l) (hh : holesN l = 0) (hp : pinC l = false) : RoundP l (4 * l.length - 2 * innI l l.length) := by
  obtain ⟨hlen, hin, hs⟩ := (isShape_iff l).1 h.1
  obtain ⟨m, hm, hd⟩ := conn_pLv h
  have hcl : (cornerC l).length = l.length := by simp [cornerC]
  have hok := okN_all l.length hlen.1 hlen.2 m hm
  rw [← hcl, ← hd] at hok
  have hsc := isShape_corner h.1
  obtain ⟨_, _, hsr⟩ := (isShape_iff _).1 hsc
  have h0 : ∃ c ∈ decM m, c.2 = 0 := by
    rw [hd]
    obtain ⟨j, hj, e⟩ := minTo_mem Prod.snd l l.length (by omega)
    refine ⟨_, List.mem_map.2 ⟨_, getD_mem hj, rfl⟩, ?_⟩
    dsimp only
    unfold minY
    omega
  have e1 : cornerC l = moveC (-minX l) (-minY l) l := cornerC_move l
  have hback : moveC (minX l) (minY l) (cornerC l) = l := by
    have := moveC_back (-minX l) (-minY l) l
    rw [← e1, Int.neg_neg, Int.neg_neg] at this
    exact this
  rcases okN_out hok (by rw [hd]; exact hsr) h0 with h1 | h1 | h1
  · have h2 := h1.moved (by rw [hd, hcl]; omega) (minX l) (minY l)
    rw [hd, hback] at h2
    have e3 : (cornerC l).length = l.length := hcl
    have e4 : innI (cornerC l) (cornerC l).length = innI l l.length := by
      have p1 := inn_sumL (cornerC l)
      have p2 := inn_sumL l
      rw [p1, p2, e1]
      have key : ∀ (r : List Cl), sumL (fun c => (hasC (moveC (-minX l) (-minY l) l) (nbC c 0).1 (nbC c 0).2).toNat + (hasC (moveC (-minX l) (-minY l) l) (nbC c 1).1 (nbC c 1).2).toNat) (moveC (-minX l) (-minY l) r) = sumL (fun c => (hasC l (nbC c 0).1 (nbC c 0).2).toNat + (hasC l (nbC c 1).1 (nbC c 1).2).toNat) r := by
        intro r
        induction r with
        | nil => rfl
        | cons c r ih =>
          have : moveC (-minX l) (-minY l) (c :: r) = (c.1 + -minX l, c.2 + -minY l) :: moveC (-minX l) (-minY l) r := rfl
          rw [this, sumL, sumL, ih, nb_shift, nb_shift, hasC_moved, hasC_moved]
      exact key l
    rw [e3, ← e3, e4, e3] at h2
    exact h2
  · rw [hd, e1, pinC_moved, hp] at h1
    cases h1
  · rw [hd] at h1
    have h2 := h1.moved (minX l) (minY l)
    rw [hback] at h2
    exact absurd hh (eye_holes h.1 h2)
end

section
def sqN (m : Nat) : Bool := (List.range 8).any fun y => (List.range 8).any fun x => cN m (x + 1) (y + 1) && (cN m (x + 2) (y + 1) && (cN m (x + 1) (y + 2) && cN m (x + 2) (y + 2)))
def okS (n m : Nat) : Bool := !(Nat.beq (eTo m 8 + 1) n) || !sqN m

theorem spT1 : TN.all (okS 1) pT1 = true := by decide +kernel
theorem spT2 : TN.all (okS 2) pT2 = true := by decide +kernel
theorem spT3 : TN.all (okS 3) pT3 = true := by decide +kernel
theorem spT4 : TN.all (okS 4) pT4 = true := by decide +kernel
theorem spT5 : TN.all (okS 5) pT5 = true := by decide +kernel
theorem spT6a : TN.all (okS 6) pT6a = true := by decide +kernel
theorem spT6b : TN.all (okS 6) pT6b = true := by decide +kernel
theorem spT6 : TN.all (okS 6) pT6 = true := by
  have h : okS 6 30065164290 = true := by decide +kernel
  show (okS 6 30065164290 && (TN.all (okS 6) pT6a && TN.all (okS 6) pT6b)) = true
  rw [h, spT6a, spT6b]
  rfl
theorem spT7aa : TN.all (okS 7) pT7aa = true := by decide +kernel
theorem spT7ab : TN.all (okS 7) pT7ab = true := by decide +kernel
theorem spT7a : TN.all (okS 7) pT7a = true := by
  have h : okS 7 25770786820 = true := by decide +kernel
  show (okS 7 25770786820 && (TN.all (okS 7) pT7aa && TN.all (okS 7) pT7ab)) = true
  rw [h, spT7aa, spT7ab]
  rfl
theorem spT7ba : TN.all (okS 7) pT7ba = true := by decide +kernel
theorem spT7bb : TN.all (okS 7) pT7bb = true := by decide +kernel
theorem spT7b : TN.all (okS 7) pT7b = true := by
  have h : okS 7 1970342017236996 = true := by decide +kernel
  show (okS 7 1970342017236996 && (TN.all (okS 7) pT7ba && TN.all (okS 7) pT7bb)) = true
  rw [h, spT7ba, spT7bb]
  rfl
theorem spT7 : TN.all (okS 7) pT7 = true := by
  have h : okS 7 281539401482244 = true := by decide +kernel
  show (okS 7 281539401482244 && (TN.all (okS 7) pT7a && TN.all (okS 7) pT7b)) = true
  rw [h, spT7a, spT7b]
  rfl
theorem spT8aaaa : TN.all (okS 8) pT8aaaa = true := by decide +kernel
theorem spT8aaab : TN.all (okS 8) pT8aaab = true := by decide +kernel
theorem spT8aaa : TN.all (okS 8) pT8aaa = true := by
  have h : okS 8 8590327839 = true := by decide +kernel
  show (okS 8 8590327839 && (TN.all (okS 8) pT8aaaa && TN.all (okS 8) pT8aaab)) = true
  rw [h, spT8aaaa, spT8aaab]
  rfl
theorem spT8aaba : TN.all (okS 8) pT8aaba = true := by decide +kernel
theorem spT8aabb : TN.all (okS 8) pT8aabb = true := by decide +kernel
theorem spT8aab : TN.all (okS 8) pT8aab = true := by
  have h : okS 8 51539935247 = true := by decide +kernel
  show (okS 8 51539935247 && (TN.all (okS 8) pT8aaba && TN.all (okS 8) pT8aabb)) = true
  rw [h, spT8aaba, spT8aabb]
  rfl
theorem spT8aa : TN.all (okS 8) pT8aa = true := by
  have h : okS 8 25770459151 = true := by decide +kernel
  show (okS 8 25770459151 && (TN.all (okS 8) pT8aaa && TN.all (okS 8) pT8aab)) = true
  rw [h, spT8aaa, spT8aab]
  rfl
theorem spT8abaa : TN.all (okS 8) pT8abaa = true := by decide +kernel
theorem spT8abab : TN.all (okS 8) pT8abab = true := by decide +kernel
theorem spT8aba : TN.all (okS 8) pT8aba = true := by
  have h : okS 8 281479272136732 = true := by decide +kernel
  show (okS 8 281479272136732 && (TN.all (okS 8) pT8abaa && TN.all (okS 8) pT8abab)) = true
  rw [h, spT8abaa, spT8abab]
  rfl
theorem spT8abba : TN.all (okS 8) pT8abba = true := by decide +kernel
theorem spT8abbb : TN.all (okS 8) pT8abbb = true := by decide +kernel
theorem spT8abb : TN.all (okS 8) pT8abb = true := by
  have h : okS 8 844450701770768 = true := by decide +kernel
  show (okS 8 844450701770768 && (TN.all (okS 8) pT8abba && TN.all (okS 8) pT8abbb)) = true
  rw [h, spT8abba, spT8abbb]
  rfl
theorem spT8ab : TN.all (okS 8) pT8ab = true := by
  have h : okS 8 562975723356175 = true := by decide +kernel
  show (okS 8 562975723356175 && (TN.all (okS 8) pT8aba && TN.all (okS 8) pT8abb)) = true
  rw [h, spT8aba, spT8abb]
  rfl
theorem spT8a : TN.all (okS 8) pT8a = true := by
  have h : okS 8 77311442948 = true := by decide +kernel
  show (okS 8 77311442948 && (TN.all (okS 8) pT8aa && TN.all (okS 8) pT8ab)) = true
  rw [h, spT8aa, spT8ab]
  rfl
theorem spT8baaa : TN.all (okS 8) pT8baaa = true := by decide +kernel
theorem spT8baab : TN.all (okS 8) pT8baab = true := by decide +kernel
theorem spT8baa : TN.all (okS 8) pT8baa = true := by
  have h : okS 8 1970350607171586 = true := by decide +kernel
  show (okS 8 1970350607171586 && (TN.all (okS 8) pT8baaa && TN.all (okS 8) pT8baab)) = true
  rw [h, spT8baaa, spT8baab]
  rfl
theorem spT8baba : TN.all (okS 8) pT8baba = true := by decide +kernel
theorem spT8babb : TN.all (okS 8) pT8babb = true := by decide +kernel
theorem spT8bab : TN.all (okS 8) pT8bab = true := by
  have h : okS 8 18447025552981426190 = true := by decide +kernel
  show (okS 8 18447025552981426190 && (TN.all (okS 8) pT8baba && TN.all (okS 8) pT8babb)) = true
  rw [h, spT8baba, spT8babb]
  rfl
theorem spT8ba : TN.all (okS 8) pT8ba = true := by
  have h : okS 8 3377729785430019 = true := by decide +kernel
  show (okS 8 3377729785430019 && (TN.all (okS 8) pT8baa && TN.all (okS 8) pT8bab)) = true
  rw [h, spT8baa, spT8bab]
  rfl
theorem spT8bbaa : TN.all (okS 8) pT8bbaa = true := by decide +kernel
theorem spT8bbab : TN.all (okS 8) pT8bbab = true := by decide +kernel
theorem spT8bba : TN.all (okS 8) pT8bba = true := by
  have h : okS 8 55341921083873886209 = true := by decide +kernel
  show (okS 8 55341921083873886209 && (TN.all (okS 8) pT8bbaa && TN.all (okS 8) pT8bbab)) = true
  rw [h, spT8bbaa, spT8bbab]
  rfl
theorem spT8bbba : TN.all (okS 8) pT8bbba = true := by decide +kernel
theorem spT8bbbb : TN.all (okS 8) pT8bbbb = true := by decide +kernel
theorem spT8bbb : TN.all (okS 8) pT8bbb = true := by
  have h : okS 8 1208981160409826026717186 = true := by decide +kernel
  show (okS 8 1208981160409826026717186 && (TN.all (okS 8) pT8bbba && TN.all (okS 8) pT8bbbb)) = true
  rw [h, spT8bbba, spT8bbbb]
  rfl
theorem spT8bb : TN.all (okS 8) pT8bb = true := by
  have h : okS 8 110681308880072409089 = true := by decide +kernel
  show (okS 8 110681308880072409089 && (TN.all (okS 8) pT8bba && TN.all (okS 8) pT8bbb)) = true
  rw [h, spT8bba, spT8bbb]
  rfl
theorem spT8b : TN.all (okS 8) pT8b = true := by
  have h : okS 8 36894051161797558280 = true := by decide +kernel
  show (okS 8 36894051161797558280 && (TN.all (okS 8) pT8ba && TN.all (okS 8) pT8bb)) = true
  rw [h, spT8ba, spT8bb]
  rfl
theorem spT8 : TN.all (okS 8) pT8 = true := by
  have h : okS 8 1125964332924944 = true := by decide +kernel
  show (okS 8 1125964332924944 && (TN.all (okS 8) pT8a && TN.all (okS 8) pT8b)) = true
  rw [h, spT8a, spT8b]
  rfl

theorem okS_all (n : Nat) (h1 : 1 ≤ n) (h8 : n ≤ 8) (m : Nat) (hm : m ∈ pLv n) : okS n m = true := by
  have : n = 1 ∨ n = 2 ∨ n = 3 ∨ n = 4 ∨ n = 5 ∨ n = 6 ∨ n = 7 ∨ n = 8 := by omega
  rcases this with rfl | rfl | rfl | rfl | rfl | rfl | rfl | rfl
  · exact TN.all_mem spT1 m hm
  · exact TN.all_mem spT2 m hm
  · exact TN.all_mem spT3 m hm
  · exact TN.all_mem spT4 m hm
  · exact TN.all_mem spT5 m hm
  · exact TN.all_mem spT6 m hm
  · exact TN.all_mem spT7 m hm
  · exact TN.all_mem spT8 m hm
theorem innI_moved (l : List Cl) (a b : Int) : innI (moveC a b l) (moveC a b l).length = innI l l.length := by
  have p1 := inn_sumL (moveC a b l)
  have p2 := inn_sumL l
  rw [p1, p2]
  have key : ∀ (r : List Cl), sumL (fun c => (hasC (moveC a b l) (nbC c 0).1 (nbC c 0).2).toNat + (hasC (moveC a b l) (nbC c 1).1 (nbC c 1).2).toNat) (moveC a b r) = sumL (fun c => (hasC l (nbC c 0).1 (nbC c 0).2).toNat + (hasC l (nbC c 1).1 (nbC c 1).2).toNat) r := by
    intro r
    induction r with
    | nil => rfl
    | cons c r ih =>
      have : moveC a b (c :: r) = (c.1 + a, c.2 + b) :: moveC a b r := rfl
      rw [this, sumL, sumL, ih, nb_shift, nb_shift, hasC_moved, hasC_moved]
  exact key l
theorem sumF_zero {f : Nat → Nat} : ∀ n, (∀ k, k < n → f k = 0) → sumF f n = 0
  | 0, _ => rfl
  | n + 1, h => by rw [sumF, sumF_zero n fun k hk => h k (by omega), h n (by omega)]
theorem tree_sq {l : List Cl} (h : Conn l) (ht : innI l l.length + 1 = l.length) : sqTo l l.length = 0 := by
  obtain ⟨hlen, hin, hs⟩ := (isShape_iff l).1 h.1
  obtain ⟨m, hm, hd⟩ := conn_pLv h
  have hcl : (cornerC l).length = l.length := by simp [cornerC]
  have e1 : cornerC l = moveC (-minX l) (-minY l) l := cornerC_move l
  have hok := okS_all l.length hlen.1 hlen.2 m hm
  have he : eTo m 8 + 1 = l.length := by
    rw [← inn_eTo, hd, e1, innI_moved]
    exact ht
  unfold okS at hok
  rw [show Nat.beq (eTo m 8 + 1) l.length = true from by rw [he]; simp, Bool.not_true, Bool.false_or, Bool.not_eq_true'] at hok
  refine sumF_zero _ fun k hk => ?_
  cases hsq : sqAt l k with
  | false => rfl
  | true =>
    exfalso
    have : sqN m = true := by
      obtain ⟨x, y, hxy⟩ : ∃ x y, l.getD k (0, 0) = (x, y) := ⟨_, _, rfl⟩
      have hmem : (x, y) ∈ l := by rw [← hxy]; exact getD_mem hk
      have hmc : (x + -minX l, y + -minY l) ∈ decM m := by rw [hd, e1]; exact (mem_moved l _ _ (x, y)).2 hmem
      obtain ⟨u, v, hu, hv, e⟩ := decM_in hmc
      injection e with e3 e4
      have hh : ∀ p q : Int, hasC (decM m) (p + -minX l) (q + -minY l) = hasC l p q := fun p q => by rw [hd, e1]; exact hasC_moved l _ _ p q
      unfold sqAt at hsq
      rw [hxy] at hsq
      dsimp only at hsq
      rw [Bool.and_eq_true, Bool.and_eq_true, ← hh, ← hh, ← hh] at hsq
      have h0 : hasC (decM m) (x + -minX l) (y + -minY l) = true := (hasC_iff _ (x + -minX l, y + -minY l)).2 hmc
      unfold sqN
      rw [List.any_eq_true]
      refine ⟨v, List.mem_range.2 hv, ?_⟩
      rw [List.any_eq_true]
      refine ⟨u, List.mem_range.2 hu, ?_⟩
      rw [Bool.and_eq_true, Bool.and_eq_true, Bool.and_eq_true]
      rw [show x + -minX l = ((u + 1 : Nat) : Int) - 1 by omega, show y + -minY l = ((v + 1 : Nat) : Int) - 1 by omega, cN_has] at h0
      rw [show x + 1 + -minX l = ((u + 2 : Nat) : Int) - 1 by omega, show y + -minY l = ((v + 1 : Nat) : Int) - 1 by omega, show x + -minX l = ((u + 1 : Nat) : Int) - 1 by omega, show y + 1 + -minY l = ((v + 2 : Nat) : Int) - 1 by omega, cN_has, cN_has, cN_has] at hsq
      exact ⟨h0, hsq.1.1, hsq.1.2, hsq.2⟩
    rw [this] at hok
    cases hok
theorem row_between {l : List Cl} (hs : Srt l) (hr : rcTo l (l.length - 1) = true) (i : Nat) : ∀ k, i + k < l.length → (l.getD (i + k) (0, 0)).2 = (l.getD i (0, 0)).2 → ∀ t : Int, (l.getD i (0, 0)).1 ≤ t → t ≤ (l.getD (i + k) (0, 0)).1 → (t, (l.getD i (0, 0)).2) ∈ l
  | 0, hk, _, t, h1, h2 => by
    have : (t, (l.getD i (0, 0)).2) = l.getD i (0, 0) := by
      rw [Nat.add_zero] at h2
      rw [show t = (l.getD i (0, 0)).1 by omega]
    rw [this]
    exact getD_mem (by omega)
  | k + 1, hk, hy, t, h1, h2 => by
    have hb1 := srt_getD hs (i := i + k) (j := i + (k + 1)) (by omega) hk
    rw [bef_iff] at hb1
    have hb0 : (l.getD i (0, 0)).2 ≤ (l.getD (i + k) (0, 0)).2 := by
      by_cases hk0 : k = 0
      · subst hk0; simp
      · have := srt_getD hs (i := i) (j := i + k) (by omega) (by omega)
        rw [bef_iff] at this
        omega
    have hy2 : (l.getD (i + k) (0, 0)).2 = (l.getD i (0, 0)).2 := by omega
    have hra : rcAt l (i + k) = true := by
      unfold rcTo at hr
      exact List.all_eq_true.1 hr (i + k) (List.mem_range.2 (by omega))
    unfold rcAt at hra
    rw [show i + k + 1 = i + (k + 1) by omega] at hra
    rw [decide_eq_true (show (l.getD (i + (k + 1)) (0, 0)).2 = (l.getD (i + k) (0, 0)).2 by omega)] at hra
    have hx : (l.getD (i + (k + 1)) (0, 0)).1 = (l.getD (i + k) (0, 0)).1 + 1 := by simpa using hra
    by_cases ht : t ≤ (l.getD (i + k) (0, 0)).1
    · exact row_between hs hr i k (by omega) hy2 t h1 ht
    · have : (t, (l.getD i (0, 0)).2) = l.getD (i + (k + 1)) (0, 0) := by
        rw [show t = (l.getD (i + (k + 1)) (0, 0)).1 by omega, ← hy]
      rw [this]
      exact getD_mem hk
theorem conv_holes {l : List Cl} (h : rowC l = true) : holesN l = 0 := by
  unfold rowC at h
  rw [Bool.and_eq_true] at h
  obtain ⟨hsh, hr⟩ := h
  obtain ⟨hlen, hin, hs⟩ := (isShape_iff l).1 hsh
  have key : ∀ q, ¬ Lead (moveC 1 1 l) q := by
    intro q hq
    have h1 : ∃ c ∈ l, c.2 + 1 = q.2 ∧ c.1 + 1 ≤ q.1 := Classical.byContradiction fun hno => hq.2.1 (out_ray fun c hc e => Classical.byContradiction fun h9 => by
      obtain ⟨d, hd, rfl⟩ := List.mem_map.1 hc
      dsimp only at e h9
      exact hno ⟨d, hd, e, by omega⟩)
    have h2 : ∃ c ∈ l, c.2 + 1 = q.2 ∧ q.1 ≤ c.1 + 1 := Classical.byContradiction fun hno => hq.2.1 (out_rayr fun c hc e => Classical.byContradiction fun h9 => by
      obtain ⟨d, hd, rfl⟩ := List.mem_map.1 hc
      dsimp only at e h9
      exact hno ⟨d, hd, e, by omega⟩)
    obtain ⟨c, hc, hcy, hcx⟩ := h1
    obtain ⟨d, hd, hdy, hdx⟩ := h2
    obtain ⟨i, hi, rfl⟩ := mem_getD hc
    obtain ⟨j, hj, rfl⟩ := mem_getD hd
    have hij : i ≤ j := Classical.byContradiction fun h9 => by
      have := srt_getD hs (i := j) (j := i) (by omega) hi
      rw [bef_iff] at this
      have hne : ¬ (l.getD i (0, 0)).1 = (l.getD j (0, 0)).1 := fun e => by omega
      omega
    have hm := row_between hs hr i (j - i) (by omega) (by rw [show i + (j - i) = j by omega]; omega) (q.1 - 1) (by omega) (by rw [show i + (j - i) = j by omega]; omega)
    refine hq.1 ?_
    have h3 := (mem_moved l 1 1 (q.1 - 1, (l.getD i (0, 0)).2)).2 hm
    have e : ((q.1 - 1 + 1, (l.getD i (0, 0)).2 + 1) : Cl) = q := by
      obtain ⟨a, b⟩ := q
      dsimp only at *
      congr 1 <;> omega
    dsimp only at h3
    rw [e] at h3
    exact h3
  unfold holesN cntL
  rw [List.length_eq_zero_iff, List.filter_eq_nil_iff]
  intro q _ hq
  exact key q ((leadB_iff _ _).1 hq)
end

end Go.Proofs.Ythnapikklolgcaa
