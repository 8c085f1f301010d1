/-
  Rows of numbers of the call's own, all of one length, each row's memory apart from the others'.
  How many places a mask has: the library's count of one bits, byte by byte.
-/
import Derived.Test.YtkcclhnligajeaaGreatDoorVac
import Derived.Test.YtkcclhnligajeaaGreatDoorVai
import Derived.Test.YtkcclhnligajeaaGreatDoorPw6
import Derived.Laws.OwnMore
import Derived.Test.YtkcclhnligajeaaGreatDoorVah
namespace Go.Proofs.YtkcclhnligajeaaGreatDoor

section
open Go.RowKit

theorem lstI_snoc (n : Nat) (f : Nat → Int) : lstI (n + 1) f = lstI n f ++ [f n] := by
  unfold lstI
  rw [List.range_succ, List.map_append]
  rfl
theorem iv_snoc (l : List Int) (z : Int) : iv l ++ [Value.int .i64 z] = iv (l ++ [z]) := by simp [iv]
def hdV (n : Nat) (bk cp : Nat → Nat) (i : Nat) : Value := .slice (some ⟨bk i, 0, none⟩) n (cp i)
def hdL (m n : Nat) (bk cp : Nat → Nat) : List Value := (List.range m).map (hdV n bk cp)
theorem hdL_len (m n : Nat) (bk cp : Nat → Nat) : (hdL m n bk cp).length = m := by simp [hdL]
theorem hdL_get {m n i : Nat} (bk cp : Nat → Nat) (h : i < m) : (hdL m n bk cp)[i]? = some (.slice (some ⟨bk i, 0, none⟩) n (cp i)) := by simp [hdL, h, hdV]
theorem hdL_one (m n : Nat) (bk cp : Nat → Nat) : ∀ u ∈ hdL m n bk cp, u.oneCell' = true := by
  intro u hu
  obtain ⟨i, _, rfl⟩ := List.mem_map.1 hu
  rfl
theorem hdL_congr {m n : Nat} {bk cp bk' cp' : Nat → Nat} (h : ∀ i, i < m → bk i = bk' i ∧ cp i = cp' i) : hdL m n bk cp = hdL m n bk' cp' := by
  unfold hdL
  refine List.map_congr_left fun i hi => ?_
  obtain ⟨h1, h2⟩ := h i (List.mem_range.1 hi)
  unfold hdV
  rw [h1, h2]
theorem hdL_snoc (m n : Nat) (bk cp : Nat → Nat) : hdL (m + 1) n bk cp = hdL m n bk cp ++ [hdV n bk cp m] := by
  unfold hdL
  rw [List.range_succ, List.map_append]
  rfl
def updN (f : Nat → Nat) (k v : Nat) : Nat → Nat := fun i => if i = k then v else f i
def updM (a : Mt) (k : Nat) (f : Nat → Int) : Mt := fun i => if i = k then f else a i
theorem updN_at (f : Nat → Nat) (k v : Nat) : updN f k v k = v := if_pos rfl
theorem updN_off (f : Nat → Nat) {k v i : Nat} (h : i ≠ k) : updN f k v i = f i := if_neg h
theorem updM_at (a : Mt) (k : Nat) (f : Nat → Int) : updM a k f k = f := if_pos rfl
theorem updM_off (a : Mt) {k i : Nat} (f : Nat → Int) (h : i ≠ k) : updM a k f i = a i := if_neg h
/-- Where a row comes from when two are changed over. -/
def sgI (d q i : Nat) : Nat := if i = d then q else if i = q then d else i
theorem sgI_lt {d q i m : Nat} (hd : d < m) (hq : q < m) (hi : i < m) : sgI d q i < m := by
  unfold sgI
  split
  · omega
  · split <;> omega
theorem sgI_inj {d q i j : Nat} (h : sgI d q i = sgI d q j) : i = j := by
  unfold sgI at h
  split at h <;> split at h <;> (try split at h) <;> (try split at h) <;> omega
theorem swpI_sg (a : Mt) (d q : Nat) : swpI a d q = fun i => a (sgI d q i) := by
  funext i
  unfold swpI sgI
  split
  · rfl
  · split <;> rfl

/-- Nothing has turned but blocks of P and what is new. -/
structure ButP (P : Nat → Prop) (w w' : World) : Prop where
  os : w'.os = w.os
  tape : w'.tape = w.tape
  output : w'.output = w.output
  size : w.heap.size ≤ w'.heap.size
  block : ∀ c, c < w.heap.size → ¬ P c → w'.heap[c]? = w.heap[c]?
theorem ButP.refl (P : Nat → Prop) (w : World) : ButP P w w := ⟨rfl, rfl, rfl, Nat.le_refl _, fun _ _ _ => rfl⟩
theorem ButP.trans {P : Nat → Prop} {x y z : World} (h : ButP P x y) (k : ButP P y z) : ButP P x z :=
  ⟨k.os.trans h.os, k.tape.trans h.tape, k.output.trans h.output, Nat.le_trans h.size k.size, fun c hc hn => (k.block c (Nat.lt_of_lt_of_le hc h.size) hn).trans (h.block c hc hn)⟩
theorem ButP.of_below {P : Nat → Prop} {w w' : World} (h : Below w.heap.size w w') : ButP P w w' := ⟨h.os, h.tape, h.output, h.size, fun c hc _ => h.block c hc⟩
theorem ButP.of_grown {P : Nat → Prop} {w w' : World} {b : Nat} (h : w.grownBy w' (some b)) (hb : P b) : ButP P w w' := ⟨h.os, h.tape, h.output, h.size, fun c hc hn => h.block c hc fun e => hn (by injection e with e; rw [e]; exact hb)⟩
theorem ButP.mono {P P' : Nat → Prop} {w w' : World} (h : ButP P w w') (hP : ∀ c, P c → P' c) : ButP P' w w' := ⟨h.os, h.tape, h.output, h.size, fun c hc hn => h.block c hc fun h9 => hn (hP c h9)⟩
theorem ButP.below {P : Nat → Prop} {w w' : World} {B : Nat} (h : ButP P w w') (hP : ∀ c, P c → B ≤ c) (hB : B ≤ w.heap.size) : Below B w w' := ⟨h.os, h.tape, h.output, h.size, fun c hc => h.block c (by omega) fun h9 => by have := hP c h9; omega⟩
theorem ButP.drew {P : Nat → Prop} {x w : World} (h : ButP P x w) : ButP P x w.drew := ⟨h.os, h.tape, h.output, h.size, h.block⟩
theorem ButP.own {P : Nat → Prop} {w w' : World} {B size k : Nat} {t : TypeId} {v : Value} {xs : List Value} (hk : ButP P w w') (h : w.ownsRow B t size v k xs) (hv : ∀ b, v.ownBlock = some b → ¬ P b) : w'.ownsRow B t size v k xs := by
  refine ⟨h.1, ?_⟩
  rcases h.2 with hn | ⟨g, cap, cur, rfl, hb, hgg, rest⟩
  · exact .inl hn
  · refine .inr ⟨g, cap, cur, rfl, hb, ?_, rest⟩
    rw [hk.block g (Array.getElem?_eq_some_iff.1 hgg).1 (hv g rfl)]
    exact hgg

structure MtAt (B : Nat) (w : World) (v : Value) (m n : Nat) (bk cp : Nat → Nat) (a : Mt) : Prop where
  spine : w.ownsRow B 24 1 v m (hdL m n bk cp)
  rows : ∀ i, i < m → w.ownsRow B 3 1 (.slice (some ⟨bk i, 0, none⟩) n (cp i)) n (iv (lstI n (a i)))
  apart : ∀ i j, i < m → j < m → bk i = bk j → i = j
  off : ∀ i, i < m → v.ownBlock ≠ some (bk i)
section
variable {B m n : Nat} {w w' : World} {v : Value} {bk cp : Nat → Nat} {a : Mt}
theorem own_on {B size k : Nat} {w w' : World} {t : TypeId} {v : Value} {xs : List Value} (h : w.ownsRow B t size v k xs) (hb : Below w.heap.size w w') : w'.ownsRow B t size v k xs :=
  h.kept (grow_below hb none) (by cases v.ownBlock with | none => exact .inl rfl | some k => exact .inr (by simp))
theorem MtAt.on (h : MtAt B w v m n bk cp a) (hb : Below w.heap.size w w') : MtAt B w' v m n bk cp a :=
  ⟨own_on h.spine hb, fun i hi => own_on (h.rows i hi) hb, h.apart, h.off⟩
theorem MtAt.drew (h : MtAt B w v m n bk cp a) : MtAt B w.drew v m n bk cp a := ⟨h.spine, h.rows, h.apart, h.off⟩
theorem MtAt.less {B' : Nat} (h : MtAt B w v m n bk cp a) (hB : B' ≤ B) : MtAt B' w v m n bk cp a :=
  ⟨own_below h.spine hB, fun i hi => own_below (h.rows i hi) hB, h.apart, h.off⟩
theorem MtAt.lt (h : MtAt B w v m n bk cp a) {i : Nat} (hi : i < m) : B ≤ bk i ∧ bk i < w.heap.size := (h.rows i hi).lt _ rfl
theorem MtAt.kept {c : Nat} (h : MtAt B w v m n bk cp a) (hg : w.grownBy w' (some c)) (h1 : ∀ i, i < m → bk i ≠ c) (h2 : v.ownBlock ≠ some c) : MtAt B w' v m n bk cp a :=
  ⟨h.spine.kept hg (.inr h2), fun i hi => (h.rows i hi).kept hg (.inr fun e => h1 i hi (by injection e)), h.apart, h.off⟩
/-- One row is written. -/
theorem MtAt.row (h : MtAt B w v m n bk cp a) {k : Nat} (hk : k < m) {f : Nat → Int} (hg : w.grownBy w' (some (bk k))) (hr : w'.ownsRow B 3 1 (.slice (some ⟨bk k, 0, none⟩) n (cp k)) n (iv (lstI n f))) :
    MtAt B w' v m n bk cp (updM a k f) := by
  refine ⟨h.spine.kept hg (.inr (h.off k hk)), fun i hi => ?_, h.apart, h.off⟩
  by_cases e : i = k
  · subst e
    rw [updM_at]
    exact hr
  · rw [updM_off a f e]
    exact (h.rows i hi).kept hg (.inr fun e2 => e (h.apart i k hi hk (by injection e2)))
theorem MtAt.same {a' : Mt} (h : MtAt B w v m n bk cp a) (e : ∀ i, i < m → ∀ j, j < n → a i j = a' i j) : MtAt B w v m n bk cp a' :=
  ⟨h.spine, fun i hi => by rw [← lstI_congr (e i hi)]; exact h.rows i hi, h.apart, h.off⟩
theorem MtAt.form (h : MtAt B w v m n bk cp a) (hm : 0 < m) : ∃ g cap, v = .slice (some ⟨g, 0, none⟩) m cap ∧ B ≤ g ∧ g < w.heap.size ∧ m ≤ cap := by
  rcases h.spine.2 with ⟨_, h0⟩ | ⟨g, cap, cur, rfl, hb, hg, hc, _⟩
  · omega
  · exact ⟨g, cap, rfl, hb, (Array.getElem?_eq_some_iff.1 hg).1, hc⟩
theorem MtAt.formA (h : MtAt B w v m n bk cp a) : ∃ ad cap, v = .slice ad m cap ∧ (0 < m → ∃ g, ad = some ⟨g, 0, none⟩) := by
  rcases h.spine.2 with ⟨rfl, h0⟩ | ⟨g, cap, cur, rfl, _⟩
  · subst h0; exact ⟨none, 0, rfl, fun h9 => absurd h9 (by omega)⟩
  · exact ⟨_, cap, rfl, fun _ => ⟨g, rfl⟩⟩
theorem MtAt.cell {g cap i : Nat} (h : MtAt B w (.slice (some ⟨g, 0, none⟩) m cap) m n bk cp a) (hi : i < m) : w.cell? ⟨g, i, none⟩ = some (.slice (some ⟨bk i, 0, none⟩) n (cp i)) := by
  rw [h.spine.cellAt i (by omega), hdL_get bk cp hi]
theorem MtAt.fzS {g cap : Nat} (h : MtAt B w (.slice (some ⟨g, 0, none⟩) m cap) m n bk cp a) (i : Nat) : w.frozen? ⟨g, i, none⟩ = false := h.spine.frozenAt i
theorem row_num {B b n c j : Nat} {w : World} {f : Nat → Int} (h : w.ownsRow B 3 1 (.slice (some ⟨b, 0, none⟩) n c) n (iv (lstI n f))) (hj : j < n) : w.cell? ⟨b, j, none⟩ = some (.int .i64 (f j)) := by
  rw [h.cellAt j (by omega), iv_get _ _ (by rw [lstI_len]; exact hj), lstI_get f hj]
theorem row_set {B b n c j : Nat} {w : World} {f : Nat → Int} (h : w.ownsRow B 3 1 (.slice (some ⟨b, 0, none⟩) n c) n (iv (lstI n f))) (z : Int) :
    (w.setCell ⟨b, j, none⟩ (.int .i64 z)).ownsRow B 3 1 (.slice (some ⟨b, 0, none⟩) n c) n (iv (lstI n fun i => if i = j then z else f i)) ∧ w.grownBy (w.setCell ⟨b, j, none⟩ (.int .i64 z)) (some b) := by
  have h1 := h.stored j (.int .i64 z)
  rw [iv_set, lstI_set] at h1
  exact h1
theorem MtAt.num (h : MtAt B w v m n bk cp a) {i j : Nat} (hi : i < m) (hj : j < n) : w.cell? ⟨bk i, j, none⟩ = some (.int .i64 (a i j)) := row_num (h.rows i hi) hj
/-- The rows' blocks. -/
def InR (m : Nat) (bk : Nat → Nat) (c : Nat) : Prop := ∃ i, i < m ∧ bk i = c
theorem MtAt.low (h : MtAt B w v m n bk cp a) : ∀ c, InR m bk c → B ≤ c := by
  rintro c ⟨i, hi, rfl⟩
  exact (h.lt hi).1
/-- Two rows are changed over. -/
theorem MtAt.swap {g cap d q : Nat} (h : MtAt B w (.slice (some ⟨g, 0, none⟩) m cap) m n bk cp a) (hd : d < m) (hq : q < m) :
    MtAt B ((w.setCell ⟨g, d, none⟩ (.slice (some ⟨bk q, 0, none⟩) n (cp q))).setCell ⟨g, q, none⟩ (.slice (some ⟨bk d, 0, none⟩) n (cp d))) (.slice (some ⟨g, 0, none⟩) m cap) m n (fun i => bk (sgI d q i)) (fun i => cp (sgI d q i)) (swpI a d q) ∧
    w.grownBy ((w.setCell ⟨g, d, none⟩ (.slice (some ⟨bk q, 0, none⟩) n (cp q))).setCell ⟨g, q, none⟩ (.slice (some ⟨bk d, 0, none⟩) n (cp d))) (some g) := by
  have s1 := h.spine.stored d (.slice (some ⟨bk q, 0, none⟩) n (cp q))
  have s2 := s1.1.stored q (.slice (some ⟨bk d, 0, none⟩) n (cp d))
  have hg := s1.2.trans s2.2
  refine ⟨⟨?_, fun i hi => ?_, fun i j hi hj e => sgI_inj (h.apart _ _ (sgI_lt hd hq hi) (sgI_lt hd hq hj) e), fun i hi => h.off _ (sgI_lt hd hq hi)⟩, hg⟩
  · have e : ((hdL m n bk cp).set d (.slice (some ⟨bk q, 0, none⟩) n (cp q))).set q (.slice (some ⟨bk d, 0, none⟩) n (cp d)) = hdL m n (fun i => bk (sgI d q i)) (fun i => cp (sgI d q i)) := by
      apply List.ext_getElem
      · simp [hdL]
      · intro i h1 h2
        simp only [hdL, List.getElem_set, List.getElem_map, List.getElem_range, hdV, sgI]
        by_cases e1 : i = q
        · subst e1
          by_cases e2 : i = d
          · subst e2; simp
          · simp [e2]
        · have e1' : ¬ q = i := fun h9 => e1 h9.symm
          by_cases e2 : i = d
          · subst e2; simp [e1']
          · have e2' : ¬ d = i := fun h9 => e2 h9.symm
            simp [e1, e1', e2, e2']
    rw [← e]
    exact s2.1
  · rw [swpI_sg]
    have h1 := h.rows _ (sgI_lt hd hq hi)
    refine h1.kept hg (.inr fun e => ?_)
    exact h.off _ (sgI_lt hd hq hi) e.symm
theorem MtAt.nil (B : Nat) (w : World) (n : Nat) (bk cp : Nat → Nat) (a : Mt) : MtAt B w (.slice none 0 0) 0 n bk cp a :=
  ⟨World.ownsRow_nil _ _ _ _, fun i hi => absurd hi (by omega), fun i j hi => absurd hi (by omega), fun i hi => absurd hi (by omega)⟩
/-- A row is appended: v2 is what the append gave. -/
theorem MtAt.snoc {v2 : Value} {b c : Nat} {f : Nat → Int} (h : MtAt B w v m n bk cp a) (hs : w'.ownsRow B 24 1 v2 (m + 1) (hdL m n bk cp ++ [.slice (some ⟨b, 0, none⟩) n c]))
    (hr : w.ownsRow B 3 1 (.slice (some ⟨b, 0, none⟩) n c) n (iv (lstI n f))) (hg : w.grownBy w' v.ownBlock) (hb : ∀ i, i < m → bk i ≠ b) (hvb : v.ownBlock ≠ some b) (h2 : v2.ownBlock = v.ownBlock ∨ ∃ k, v2.ownBlock = some k ∧ w.heap.size ≤ k) :
    MtAt B w' v2 (m + 1) n (updN bk m b) (updN cp m c) (updM a m f) := by
  have hk : ∀ i, i < m → v.ownBlock ≠ some (bk i) := h.off
  refine ⟨?_, fun i hi => ?_, fun i j hi hj e => ?_, fun i hi e => ?_⟩
  · rw [hdL_snoc, hdL_congr (bk' := bk) (cp' := cp) (fun i hi => ⟨updN_off bk (by omega), updN_off cp (by omega)⟩)]
    unfold hdV
    rw [updN_at, updN_at]
    exact hs
  · by_cases e : i = m
    · subst e
      rw [updN_at, updN_at, updM_at]
      exact hr.kept hg (.inr fun e => hvb e.symm)
    · rw [updN_off bk e, updN_off cp e, updM_off a f e]
      exact (h.rows i (by omega)).kept hg (.inr fun e2 => hk i (by omega) e2.symm)
  · by_cases e1 : i = m
    · by_cases e2 : j = m
      · omega
      · rw [e1, updN_at, updN_off bk e2] at e
        exact absurd e.symm (hb j (by omega))
    · by_cases e2 : j = m
      · rw [e2, updN_at, updN_off bk e1] at e
        exact absurd e (hb i (by omega))
      · rw [updN_off bk e1, updN_off bk e2] at e
        exact h.apart i j (by omega) (by omega) e
  · have hlt : ∀ k, v2.ownBlock = some k → updN bk m b i < w.heap.size := fun k _ => by
      by_cases e1 : i = m
      · rw [e1, updN_at]; exact (hr.lt b rfl).2
      · rw [updN_off bk e1]; exact (h.lt (by omega)).2
    rcases h2 with h2 | ⟨k, h2, h3⟩
    · rw [h2] at e
      by_cases e1 : i = m
      · rw [e1, updN_at] at e; exact hvb e
      · rw [updN_off bk e1] at e; exact hk i (by omega) e
    · have := hlt k h2
      rw [h2] at e
      injection e with e
      omega
end
end

section
/-- The number of bits below n. -/
def popN : Nat → Nat → Nat
  | 0, _ => 0
  | n + 1, x => popN n x + (x.testBit n).toNat
theorem popN_add (n x : Nat) : ∀ k, popN (n + k) x = popN n x + popN k (x / 2 ^ n)
  | 0 => rfl
  | k + 1 => by
    show popN (n + k) x + (x.testBit (n + k)).toNat = _
    rw [popN_add n x k]
    show _ = popN n x + (popN k (x / 2 ^ n) + ((x / 2 ^ n).testBit k).toNat)
    rw [Nat.testBit_div_two_pow, Nat.add_comm n k]
    omega
theorem popN_same {x y : Nat} : ∀ n, (∀ i, i < n → x.testBit i = y.testBit i) → popN n x = popN n y
  | 0, _ => rfl
  | n + 1, h => by
    show popN n x + _ = popN n y + _
    rw [popN_same n (fun i hi => h i (by omega)), h n (by omega)]
theorem popN_low (n x : Nat) : popN n x = popN n (x % 2 ^ n) :=
  popN_same n fun i hi => by rw [Nat.testBit_mod_two_pow]; simp [hi]
theorem popN_le (x : Nat) : ∀ n, popN n x ≤ n
  | 0 => Nat.le_refl _
  | n + 1 => by
    have := popN_le x n
    have : (x.testBit n).toNat ≤ 1 := Bool.toNat_le _
    show popN n x + _ ≤ _
    omega
theorem popN_more {n x : Nat} (h : x < 2 ^ n) : ∀ k, popN (n + k) x = popN n x
  | 0 => rfl
  | k + 1 => by
    show popN (n + k) x + (x.testBit (n + k)).toNat = _
    rw [popN_more h k, Nat.testBit_lt_two_pow (Nat.lt_of_lt_of_le h (Nat.pow_le_pow_right (by decide) (by omega)))]
    rfl
theorem popN_pos {x i : Nat} (h : x.testBit i = true) : ∀ n, i < n → 0 < popN n x
  | 0, hi => by omega
  | n + 1, hi => by
    show 0 < popN n x + _
    rcases Nat.lt_or_ge i n with h1 | h1
    · have := popN_pos h n h1
      omega
    · have : i = n := by omega
      subst this
      rw [h]
      simp
/-- The number of places of a mask. -/
def pop (x : Nat) : Nat := popN 40 x
theorem pop_le (x : Nat) : pop x ≤ 40 := popN_le x 40
theorem pop_le36 {x : Nat} (h : x < 68719476736) : pop x ≤ 36 := by
  have : pop x = popN 36 x := popN_more (n := 36) (by simpa using h) 4
  rw [this]
  exact popN_le x 36

theorem land_byte {a b : Nat} (q s : Nat) (ha : a < 256) (hb : b < 256) : (256 * q + a) &&& (256 * s + b) = 256 * (q &&& s) + (a &&& b) := by
  have hab : a &&& b < 2 ^ 8 := Nat.lt_of_le_of_lt Nat.and_le_left ha
  apply Nat.eq_of_testBit_eq
  intro i
  rw [Nat.testBit_and]
  rw [show (256 : Nat) = 2 ^ 8 from rfl] at ha hb ⊢
  rw [Nat.testBit_two_pow_mul_add q ha, Nat.testBit_two_pow_mul_add s hb, Nat.testBit_two_pow_mul_add (q &&& s) hab]
  split <;> rw [Nat.testBit_and]
theorem by1 : ∀ e, e < 2 → ∀ a, a < 256 → ((128 * e + a / 2) &&& 85) = (a / 2 &&& 85) := by decide +kernel
theorem by2 : ∀ e, e < 4 → ∀ a, a < 256 → ((64 * e + a / 4) &&& 51) = (a / 4 &&& 51) := by decide +kernel
def t1 (a : Nat) : Nat := (a / 2 &&& 85) + (a &&& 85)
def t2 (a : Nat) : Nat := (a / 4 &&& 51) + (a &&& 51)
def t3 (a : Nat) : Nat := (a / 16 + a) &&& 15
theorem byt : ∀ a, a < 256 → t1 a < 256 ∧ t2 (t1 a) ≤ 68 ∧ t2 (t1 a) % 16 ≤ 4 ∧ t3 (t2 (t1 a)) = popN 8 a := by decide +kernel
theorem by3 : ∀ e, e < 5 → ∀ a, a < 69 → ((16 * e + a / 16 + a) &&& 15) = ((a / 16 + a) &&& 15) := by decide +kernel
theorem st1 {a : Nat} (X M : Nat) (ha : a < 256) : (((256 * X + a) / 2) &&& (256 * M + 85)) + ((256 * X + a) &&& (256 * M + 85)) = 256 * ((X / 2 &&& M) + (X &&& M)) + t1 a := by
  have e1 : (256 * X + a) / 2 = 256 * (X / 2) + (128 * (X % 2) + a / 2) := by omega
  rw [e1, land_byte _ _ (by omega) (by decide), land_byte _ _ ha (by decide), by1 _ (by omega) a ha]
  unfold t1
  omega
theorem st2 {a : Nat} (X M : Nat) (ha : a < 256) : (((256 * X + a) / 4) &&& (256 * M + 51)) + ((256 * X + a) &&& (256 * M + 51)) = 256 * ((X / 4 &&& M) + (X &&& M)) + t2 a := by
  have e1 : (256 * X + a) / 4 = 256 * (X / 4) + (64 * (X % 4) + a / 4) := by omega
  rw [e1, land_byte _ _ (by omega) (by decide), land_byte _ _ ha (by decide), by2 _ (by omega) a ha]
  unfold t2
  omega
theorem st3 {a : Nat} (X M : Nat) (ha : a < 69) (hX : X % 16 < 5) : ((256 * X + a) / 16 + (256 * X + a)) &&& (256 * M + 15) = 256 * ((X / 16 + X) &&& M) + t3 a := by
  have e1 : (256 * X + a) / 16 + (256 * X + a) = 256 * (X / 16 + X) + (16 * (X % 16) + a / 16 + a) := by omega
  rw [e1, land_byte _ _ (by omega) (by decide), by3 _ hX a ha]
  rfl
def sw1 (x : Nat) : Nat := (x / 2 &&& 6148914691236517205) + (x &&& 6148914691236517205)
def sw2 (x : Nat) : Nat := (x / 4 &&& 3689348814741910323) + (x &&& 3689348814741910323)
def sw3 (x : Nat) : Nat := (x / 16 + x) &&& 1085102592571150095
/-- A number of five bytes. -/
def b5 (a b c d e : Nat) : Nat := 256 * (256 * (256 * (256 * (256 * 0 + e) + d) + c) + b) + a
theorem sw1_b5 {a b c d e : Nat} (ha : a < 256) (hb : b < 256) (hc : c < 256) (hd : d < 256) (he : e < 256) : sw1 (b5 a b c d e) = b5 (t1 a) (t1 b) (t1 c) (t1 d) (t1 e) := by
  unfold sw1 b5
  rw [show (6148914691236517205 : Nat) = 256 * (256 * (256 * (256 * (256 * 5592405 + 85) + 85) + 85) + 85) + 85 from rfl, st1 _ _ ha, st1 _ _ hb, st1 _ _ hc, st1 _ _ hd, st1 _ _ he]
  simp
theorem sw2_b5 {a b c d e : Nat} (ha : a < 256) (hb : b < 256) (hc : c < 256) (hd : d < 256) (he : e < 256) : sw2 (b5 a b c d e) = b5 (t2 a) (t2 b) (t2 c) (t2 d) (t2 e) := by
  unfold sw2 b5
  rw [show (3689348814741910323 : Nat) = 256 * (256 * (256 * (256 * (256 * 3355443 + 51) + 51) + 51) + 51) + 51 from rfl, st2 _ _ ha, st2 _ _ hb, st2 _ _ hc, st2 _ _ hd, st2 _ _ he]
  simp
theorem sw3_b5 {a b c d e : Nat} (ha : a < 69) (hb : b < 69) (hc : c < 69) (hd : d < 69) (he : e < 69) (hb4 : b % 16 < 5) (hc4 : c % 16 < 5) (hd4 : d % 16 < 5) (he4 : e % 16 < 5) : sw3 (b5 a b c d e) = b5 (t3 a) (t3 b) (t3 c) (t3 d) (t3 e) := by
  unfold sw3 b5
  rw [show (1085102592571150095 : Nat) = 256 * (256 * (256 * (256 * (256 * 986895 + 15) + 15) + 15) + 15) + 15 from rfl, st3 _ _ ha (by omega), st3 _ _ hb (by omega), st3 _ _ hc (by omega), st3 _ _ hd (by omega), st3 _ _ he (by omega)]
  simp
theorem b5_of {x : Nat} (h : x < 1099511627776) : x = b5 (x % 256) (x / 256 % 256) (x / 65536 % 256) (x / 16777216 % 256) (x / 4294967296 % 256) := by
  unfold b5
  omega
theorem pop_b5 {a b c d e : Nat} (ha : a < 256) (hb : b < 256) (hc : c < 256) (hd : d < 256) (he : e < 256) : pop (b5 a b c d e) = popN 8 a + popN 8 b + popN 8 c + popN 8 d + popN 8 e := by
  have key : ∀ (n X r : Nat), r < 256 → popN (8 + n) (256 * X + r) = popN 8 r + popN n X := fun n X r hr => by
    rw [popN_add, popN_low 8 (256 * X + r)]
    rw [show (2 : Nat) ^ 8 = 256 from rfl]
    rw [show (256 * X + r) % 256 = r by omega, show (256 * X + r) / 256 = X by omega]
  unfold pop b5
  rw [show (40 : Nat) = 8 + 32 from rfl, key 32 _ a ha, show (32 : Nat) = 8 + 24 from rfl, key 24 _ b hb, show (24 : Nat) = 8 + 16 from rfl, key 16 _ c hc, show (16 : Nat) = 8 + 8 from rfl, key 8 _ d hd, show (8 : Nat) = 8 + 0 from rfl, key 0 _ e he]
  simp only [popN]
  omega
/-- The library's count, before its last sums: a byte for each byte. -/
theorem swar {x : Nat} (h : x < 1099511627776) : ∃ a b c d e, sw1 x ≤ 18446744073709551615 ∧ sw3 (sw2 (sw1 x)) = b5 a b c d e ∧ a ≤ 8 ∧ b ≤ 8 ∧ c ≤ 8 ∧ d ≤ 8 ∧ e ≤ 8 ∧ a + b + c + d + e = pop x := by
  have h0 : x % 256 < 256 := by omega
  have h1 : x / 256 % 256 < 256 := by omega
  have h2 : x / 65536 % 256 < 256 := by omega
  have h3 : x / 16777216 % 256 < 256 := by omega
  have h4 : x / 4294967296 % 256 < 256 := by omega
  have hx := b5_of h
  generalize x % 256 = a at *
  generalize x / 256 % 256 = b at *
  generalize x / 65536 % 256 = c at *
  generalize x / 16777216 % 256 = d at *
  generalize x / 4294967296 % 256 = e at *
  subst hx
  obtain ⟨a1, a2, a3, a4⟩ := byt a h0
  obtain ⟨b1, b2, b3, b4⟩ := byt b h1
  obtain ⟨c1, c2, c3, c4⟩ := byt c h2
  obtain ⟨d1, d2, d3, d4⟩ := byt d h3
  obtain ⟨e1, e2, e3, e4⟩ := byt e h4
  refine ⟨popN 8 a, popN 8 b, popN 8 c, popN 8 d, popN 8 e, ?_, ?_, popN_le _ _, popN_le _ _, popN_le _ _, popN_le _ _, popN_le _ _, (pop_b5 h0 h1 h2 h3 h4).symm⟩
  · rw [sw1_b5 h0 h1 h2 h3 h4]
    unfold b5
    omega
  · rw [sw1_b5 h0 h1 h2 h3 h4, sw2_b5 a1 b1 c1 d1 e1, sw3_b5 (by omega) (by omega) (by omega) (by omega) (by omega) (by omega) (by omega) (by omega) (by omega), a4, b4, c4, d4, e4]
end

end Go.Proofs.YtkcclhnligajeaaGreatDoor
