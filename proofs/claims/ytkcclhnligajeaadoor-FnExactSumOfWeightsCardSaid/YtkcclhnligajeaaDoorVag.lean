/-
  Slices of shapes that the call owns, each shape's memory the call's own and apart from the others'.
  Weights, the plain facts: vectors that rows weigh 0 modulo a prime; what elimination keeps of them; why the reduced answers are one alone.
-/
import Derived.Test.YtkcclhnligajeaaDoorVaa
import Derived.Test.YtkcclhnligajeaaDoorVab
import Derived.Test.YtkcclhnligajeaaDoorVac
import Derived.Test.YtkcclhnligajeaaDoorPur
namespace Go.Proofs.YtkcclhnligajeaaDoor

section
open Go.RowKit

/-- A shape in memory: its block, its capacity, its cells. -/
abbrev Ent := Nat × Nat × List Cl
def ev (e : Ent) : Value := .slice (some ⟨e.1, 0, none⟩) e.2.2.length e.2.1
def dE : Ent := (0, 0, [])
def kE (e : Ent) : List Cl := e.2.2
def SmallS (es : List Ent) : Prop := ∀ e ∈ es, e.2.2.length ≤ 4194304 ∧ ∀ c ∈ e.2.2, InC c
def ApartS (es : List Ent) : Prop := es.Pairwise fun e f => e.1 ≠ f.1
def OffS (g : Nat) (es : List Ent) : Prop := ∀ e ∈ es, e.1 ≠ g
theorem ev_block (e : Ent) : (ev e).ownBlock = some e.1 := rfl
theorem ev_one (e : Ent) : (ev e).oneCell' = true := rfl
theorem evs_one (es : List Ent) : ∀ u ∈ es.map ev, u.oneCell' = true := by
  intro u hu
  obtain ⟨e, _, rfl⟩ := List.mem_map.1 hu
  exact ev_one e
theorem evs_get {es : List Ent} {k : Nat} (h : k < es.length) : (es.map ev)[k]? = some (ev (es.getD k dE)) := by simp [List.getD, h]
theorem ent_mem {es : List Ent} {k : Nat} (h : k < es.length) : es.getD k dE ∈ es := by simp [List.getD, h]

/-! ### Rows of values of one cell -/
theorem row1_le {w : World} {B n g cap : Nat} {t : TypeId} {xs : List Value} (h : w.ownsRow B t 1 (.slice (some ⟨g, 0, none⟩) n cap) n xs) : n ≤ cap := by
  rcases h.2 with ⟨e, _⟩ | ⟨g', cap', cur, e, _, _, h1, _⟩
  · cases e
  · injection e with _ _ e3
    omega
theorem row1_take {w : World} {B n g cap k : Nat} {t : TypeId} {xs : List Value} (h : w.ownsRow B t 1 (.slice (some ⟨g, 0, none⟩) n cap) n xs) (hk : k ≤ n) : w.ownsRow B t 1 (.slice (some ⟨g, 0, none⟩) k cap) k (xs.take k) := by
  have hl : xs.length = n := by have := h.1; omega
  rcases h.2 with ⟨e, _⟩ | ⟨g', cap', cur, e, hb, hg, h1, h2, h3, h4⟩
  · cases e
  · injection e with e1 e2 e3
    injection e1 with e1
    injection e1 with e1 _
    subst e1 e3
    refine ⟨by rw [List.length_take]; omega, .inr ⟨g, cap, cur, rfl, hb, hg, by omega, h2, h3, ?_⟩⟩
    rw [← h4, List.take_take]
    congr 1
    omega
theorem row1_far {w : World} {B n g cap o : Nat} {t : TypeId} {xs : List Value} {v : Value} (h : w.ownsRow B t 1 (.slice (some ⟨g, 0, none⟩) n cap) n xs) (ho : n ≤ o) : (w.setCell ⟨g, o, none⟩ v).ownsRow B t 1 (.slice (some ⟨g, 0, none⟩) n cap) n xs := by
  rcases h.2 with ⟨e, _⟩ | ⟨g', cap', cur, e, hb, hg, h1, h2, h3, h4⟩
  · cases e
  · injection e with e1 e2 e3
    injection e1 with e1
    injection e1 with e1 _
    subst e1 e3
    refine ⟨h.1, .inr ⟨g, cap, cur.setIfInBounds o v, rfl, hb, set_row hg o v, h1, h2, by simpa using h3, ?_⟩⟩
    rw [← h4]
    apply List.ext_getElem?
    intro j
    by_cases hj : j < n * 1
    · rw [List.getElem?_take_of_lt hj, List.getElem?_take_of_lt hj, Array.getElem?_toList, Array.getElem?_toList, Array.getElem?_setIfInBounds]
      rw [if_neg (by omega)]
    · rw [List.getElem?_take_eq_none (by omega), List.getElem?_take_eq_none (by omega)]
theorem row1_fars {B n g cap : Nat} {t : TypeId} {xs : List Value} : ∀ (vs : List Value) (o : Nat) (w : World), w.ownsRow B t 1 (.slice (some ⟨g, 0, none⟩) n cap) n xs → n ≤ o → (w.setCells g o vs).ownsRow B t 1 (.slice (some ⟨g, 0, none⟩) n cap) n xs
  | [], _, _, h, _ => h
  | v :: r, o, w, h, ho => row1_fars r (o + 1) _ (row1_far (v := v) h ho) (by omega)
theorem below_sets1 {B g : Nat} {a : World} (hg : B ≤ g) : ∀ (vs : List Value) (o : Nat) (w : World), Below B a w → Below B a (w.setCells g o vs)
  | [], _, _, h => h
  | v :: r, o, _, h => below_sets1 hg r (o + 1) _ (h.setCell (p := ⟨g, o, none⟩) hg v)
theorem grown_sets1 {g : Nat} : ∀ (vs : List Value) (o : Nat) (w : World), w.grownBy (w.setCells g o vs) (some g)
  | [], _, w => World.grownBy.refl _ _
  | v :: r, o, w => by
    have h1 : w.grownBy (w.setCell ⟨g, o, none⟩ v) (some g) := ⟨rfl, rfl, rfl, by simp [World.setCell], fun k hk hne => by
      have : g ≠ k := fun e => hne (by rw [e])
      simp [World.setCell, Array.getElem?_modify, this]⟩
    exact h1.trans (grown_sets1 r (o + 1) _)
end

section
/-! ### Sums and weights -/
def sumI : Nat → (Nat → Int) → Int
  | 0, _ => 0
  | n + 1, f => sumI n f + f n
theorem sumI_congr {f g : Nat → Int} : ∀ {n : Nat}, (∀ j, j < n → f j = g j) → sumI n f = sumI n g
  | 0, _ => rfl
  | n + 1, h => by
    show sumI n f + f n = sumI n g + g n
    rw [sumI_congr (n := n) fun j hj => h j (by omega), h n (by omega)]
theorem sumI_zero {f : Nat → Int} : ∀ {n : Nat}, (∀ j, j < n → f j = 0) → sumI n f = 0
  | 0, _ => rfl
  | n + 1, h => by
    show sumI n f + f n = 0
    rw [sumI_zero (n := n) fun j hj => h j (by omega), h n (by omega)]
    rfl
theorem sumI_add (f g : Nat → Int) : ∀ n, sumI n (fun j => f j + g j) = sumI n f + sumI n g
  | 0 => rfl
  | n + 1 => by
    show sumI n (fun j => f j + g j) + (f n + g n) = (sumI n f + f n) + (sumI n g + g n)
    rw [sumI_add f g n]
    omega
theorem sumI_mul (c : Int) (f : Nat → Int) : ∀ n, sumI n (fun j => c * f j) = c * sumI n f
  | 0 => by simp [sumI]
  | n + 1 => by
    show sumI n (fun j => c * f j) + c * f n = c * (sumI n f + f n)
    rw [sumI_mul c f n, Int.mul_add]
theorem sumI_dvd {p : Int} {f : Nat → Int} : ∀ {n : Nat}, (∀ j, j < n → p ∣ f j) → p ∣ sumI n f
  | 0, _ => ⟨0, by simp [sumI]⟩
  | n + 1, h => by
    show p ∣ sumI n f + f n
    exact Int.dvd_add (sumI_dvd fun j hj => h j (by omega)) (h n (by omega))
theorem sumI_one {f : Nat → Int} {k : Nat} : ∀ {n : Nat}, k < n → (∀ j, j < n → j ≠ k → f j = 0) → sumI n f = f k
  | 0, h, _ => by omega
  | n + 1, h, hz => by
    show sumI n f + f n = f k
    by_cases e : k = n
    · subst e
      rw [sumI_zero fun j hj => hz j (by omega) (by omega)]
      omega
    · rw [sumI_one (n := n) (by omega) fun j hj hk => hz j (by omega) hk, hz n (by omega) (fun h9 => e h9.symm)]
      omega
/-- What a row weighs. -/
def dotI (n : Nat) (r w : Nat → Int) : Int := sumI n fun j => r j * w j
theorem dotI_add (n : Nat) (r v w : Nat → Int) : dotI n r (fun j => v j + w j) = dotI n r v + dotI n r w := by
  unfold dotI
  rw [← sumI_add]
  exact sumI_congr fun j _ => Int.mul_add _ _ _
theorem dotI_mul (n : Nat) (c : Int) (r w : Nat → Int) : dotI n r (fun j => c * w j) = c * dotI n r w := by
  unfold dotI
  rw [← sumI_mul]
  exact sumI_congr fun j _ => by rw [← Int.mul_assoc, Int.mul_comm (r j) c, Int.mul_assoc]
/-- Rows that are the same modulo p weigh the same modulo p. -/
theorem dotI_mod {p : Int} {n : Nat} {r r' : Nat → Int} (w : Nat → Int) (h : ∀ j, j < n → p ∣ r j - r' j) : p ∣ dotI n r w - dotI n r' w := by
  have e : dotI n r w = dotI n r' w + sumI n (fun j => (r j - r' j) * w j) := by
    unfold dotI
    rw [← sumI_add]
    exact sumI_congr fun j _ => by rw [Int.sub_mul]; omega
  rw [e, show dotI n r' w + sumI n (fun j => (r j - r' j) * w j) - dotI n r' w = sumI n (fun j => (r j - r' j) * w j) by omega]
  exact sumI_dvd fun j hj => Int.dvd_trans (h j hj) ⟨w j, rfl⟩
theorem dotI_lin (n : Nat) (c : Int) (r s w : Nat → Int) : dotI n (fun j => r j - c * s j) w = dotI n r w - c * dotI n s w := by
  have e : dotI n r w = dotI n (fun j => r j - c * s j) w + c * dotI n s w := by
    unfold dotI
    rw [← sumI_mul, ← sumI_add]
    exact sumI_congr fun j _ => by rw [Int.sub_mul, Int.mul_assoc]; omega
  omega
/-- The vectors that all rows weigh 0. -/
def NulI (p : Int) (n : Nat) (rows : List (Nat → Int)) (w : Nat → Int) : Prop := ∀ r ∈ rows, p ∣ dotI n r w
/-- A row less a multiple of another one. -/
theorem nul_sub {p : Int} {n : Nat} {r s r' w : Nat → Int} {c : Int} (h : ∀ j, j < n → p ∣ r' j - (r j - c * s j)) (hs : p ∣ dotI n s w) : p ∣ dotI n r' w ↔ p ∣ dotI n r w := by
  have h1 := dotI_mod w h
  rw [dotI_lin] at h1
  have h2 : p ∣ c * dotI n s w := Int.dvd_trans hs ⟨c, Int.mul_comm _ _⟩
  constructor
  · intro h3
    have h4 := Int.dvd_add (Int.dvd_sub h3 h1) h2
    rwa [show dotI n r' w - (dotI n r' w - (dotI n r w - c * dotI n s w)) + c * dotI n s w = dotI n r w by omega] at h4
  · intro h3
    have h4 := Int.dvd_add h1 (Int.dvd_sub h3 h2)
    rwa [show dotI n r' w - (dotI n r w - c * dotI n s w) + (dotI n r w - c * dotI n s w) = dotI n r' w by omega] at h4
/-- A row times a number that has an inverse. -/
theorem nul_scale {p : Int} {n : Nat} {r r' w : Nat → Int} {c d : Int} (h : ∀ j, j < n → p ∣ r' j - r j * c) (hcd : p ∣ c * d - 1) : p ∣ dotI n r' w ↔ p ∣ dotI n r w := by
  have h1 := dotI_mod w h
  have e : dotI n (fun j => r j * c) w = c * dotI n r w := by
    unfold dotI
    rw [← sumI_mul]
    exact sumI_congr fun j _ => by show r j * c * w j = c * (r j * w j); rw [Int.mul_comm (r j) c, Int.mul_assoc]
  rw [e] at h1
  constructor
  · intro h3
    have h4 : p ∣ c * dotI n r w := by
      have h5 := Int.dvd_sub h3 h1
      rwa [show dotI n r' w - (dotI n r' w - c * dotI n r w) = c * dotI n r w by omega] at h5
    have h6 : p ∣ d * (c * dotI n r w) := Int.dvd_trans h4 ⟨d, Int.mul_comm _ _⟩
    have h7 : p ∣ (c * d - 1) * dotI n r w := Int.dvd_trans hcd ⟨_, rfl⟩
    have h8 := Int.dvd_sub h6 h7
    have e2 : d * (c * dotI n r w) = c * d * dotI n r w := by rw [← Int.mul_assoc, Int.mul_comm d c]
    rw [e2, Int.sub_mul, Int.one_mul] at h8
    rwa [show c * d * dotI n r w - (c * d * dotI n r w - dotI n r w) = dotI n r w by omega] at h8
  · intro h3
    have h4 := Int.dvd_add h1 (Int.dvd_trans h3 ⟨c, Int.mul_comm _ _⟩ : p ∣ c * dotI n r w)
    rwa [show dotI n r' w - c * dotI n r w + c * dotI n r w = dotI n r' w by omega] at h4

/-! ### The reduced answers are one alone -/
/-- A set of vectors that is closed as the vectors are that rows weigh 0. -/
structure LinI (p : Int) (n : Nat) (N : (Nat → Int) → Prop) : Prop where
  sub : ∀ v w, N v → N w → N fun j => v j - w j
  mul : ∀ c v, N v → N fun j => c * v j
  mod : ∀ v w, (∀ j, j < n → p ∣ v j - w j) → N v → N w
theorem nul_lin (p : Int) (n : Nat) (rows : List (Nat → Int)) : LinI p n (NulI p n rows) := by
  refine ⟨fun v w hv hw r hr => ?_, fun c v hv r hr => ?_, fun v w h hv r hr => ?_⟩
  · have e : dotI n r v = dotI n r (fun j => v j - w j) + dotI n r w := by
      rw [← dotI_add]
      unfold dotI
      exact sumI_congr fun j _ => by show r j * v j = r j * (v j - w j + w j); rw [show v j - w j + w j = v j by omega]
    have h1 := Int.dvd_sub (hv r hr) (hw r hr)
    rwa [show dotI n r v - dotI n r w = dotI n r (fun j => v j - w j) by omega] at h1
  · rw [dotI_mul]
    exact Int.dvd_trans (hv r hr) ⟨c, Int.mul_comm _ _⟩
  · have e : dotI n r v - dotI n r w = sumI n fun j => r j * (v j - w j) := by
      have e2 : dotI n r v = dotI n r w + sumI n fun j => r j * (v j - w j) := by
        unfold dotI
        rw [← sumI_add]
        exact sumI_congr fun j _ => by rw [Int.mul_sub]; omega
      omega
    have h1 : p ∣ dotI n r v - dotI n r w := by
      rw [e]
      exact sumI_dvd fun j hj => Int.dvd_trans (h j hj) ⟨r j, Int.mul_comm _ _⟩
    have h2 := Int.dvd_sub (hv r hr) h1
    rwa [show dotI n r v - (dotI n r v - dotI n r w) = dotI n r w by omega] at h2
/-- Columns without a leading one: a vector has 1 there and 0 behind. -/
def FreI (p : Int) (n : Nat) (N : (Nat → Int) → Prop) (k : Nat) : Prop := k < n ∧ ∃ w, N w ∧ p ∣ w k - 1 ∧ ∀ j, k < j → j < n → p ∣ w j
/-- A vector that is 0 at the columns without a leading one is 0. -/
theorem fre_zero {p : Int} {n : Nat} {N : (Nat → Int) → Prop} (hN : LinI p n N) (hinv : ∀ x : Int, ¬ p ∣ x → ∃ y, p ∣ x * y - 1) {w : Nat → Int} (hw : N w) (hf : ∀ k, FreI p n N k → p ∣ w k) :
    ∀ d, d ≤ n → (∀ j, j < n → n - d ≤ j → p ∣ w j)
  | 0, _, j, h1, h2 => by omega
  | d + 1, h, j, h1, h2 => by
    have ih := fre_zero hN hinv hw hf d (by omega)
    by_cases e : n - d ≤ j
    · exact ih j h1 e
    · obtain rfl : j = n - (d + 1) := by omega
      rcases Classical.em (p ∣ w (n - (d + 1))) with h3 | h3
      · exact h3
      · obtain ⟨y, hy⟩ := hinv _ h3
        refine hf _ ⟨h1, fun j => y * w j, hN.mul y w hw, by show p ∣ y * w (n - (d + 1)) - 1; rw [Int.mul_comm]; exact hy, fun j hj1 hj2 => ?_⟩
        exact Int.dvd_trans (ih j hj2 (by omega)) ⟨y, Int.mul_comm _ _⟩
/-- Two vectors that agree at the columns without a leading one agree. -/
theorem fre_one {p : Int} {n : Nat} {N : (Nat → Int) → Prop} (hN : LinI p n N) (hinv : ∀ x : Int, ¬ p ∣ x → ∃ y, p ∣ x * y - 1) {v w : Nat → Int} (hv : N v) (hw : N w) (h : ∀ k, FreI p n N k → p ∣ v k - w k) :
    ∀ j, j < n → p ∣ v j - w j := fun j hj => fre_zero hN hinv (hN.sub v w hv hw) h n (Nat.le_refl _) j hj (by omega)
theorem mod_inj {p x y : Int} (h : p ∣ x - y) (hx : 0 ≤ x ∧ x < p) (hy : 0 ≤ y ∧ y < p) : x = y := by
  obtain ⟨k, hk⟩ := h
  have h1 : k = 0 := by
    rcases Int.lt_trichotomy k 0 with h | h | h
    · have : p * k ≤ p * (-1) := Int.mul_le_mul_of_nonneg_left (by omega) (by omega)
      omega
    · exact h
    · have : p * 1 ≤ p * k := Int.mul_le_mul_of_nonneg_left (by omega) (by omega)
      omega
  subst h1
  omega
end

end Go.Proofs.YtkcclhnligajeaaDoor
