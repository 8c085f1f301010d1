/-
  Rows of numbers of the call's own, all of one length, each row's memory apart from the others'.
-/
import Derived.Test.YtkcclhnligajeaaDoorRga
import Derived.Test.YtkcclhnligajeaaDoorVag
import Derived.Test.YtkcclhnligajeaaDoorPw6
import Derived.Laws.OwnMore
namespace Go.Proofs.YtkcclhnligajeaaDoor
open Go.RowKit

theorem lstI_snoc (n : Nat) (f : Nat → Int) : lstI (n + 1) f = lstI n f ++ [f n] := by
  unfold lstI
  rw [List.range_succ, List.map_append]
  rfl
theorem iv_snoc (l : List Int) (z : Int) : iv l ++ [Value.int .i64 z] = iv (l ++ [z]) := by simp [iv]
def hdV (n : Nat) (bk cp : Nat → Nat) (i : Nat) : Value := .slice (some ⟨bk i, 0, none⟩) n (cp i)
def hdL (m n : Nat) (bk cp : Nat → Nat) : List Value := (List.range m).map (hdV n bk cp)
theorem hdL_len (m n : Nat) (bk cp : Nat → Nat) : (hdL m n bk cp).length = m := by simp [hdL]
theorem hdL_get {m n i : Nat} (bk cp : Nat → Nat) (h : i < m) : (hdL m n bk cp)[i]? = some (.slice (some ⟨bk i, 0, none⟩) n (cp i)) := by simp [hdL, h, hdV]
theorem hdL_one (m n : Nat) (bk cp : Nat → Nat) : ∀ u ∈ hdL m n bk cp, u.oneCell' = true := by
  intro u hu
  obtain ⟨i, _, rfl⟩ := List.mem_map.1 hu
  rfl
theorem hdL_congr {m n : Nat} {bk cp bk' cp' : Nat → Nat} (h : ∀ i, i < m → bk i = bk' i ∧ cp i = cp' i) : hdL m n bk cp = hdL m n bk' cp' := by
  unfold hdL
  refine List.map_congr_left fun i hi => ?_
  obtain ⟨h1, h2⟩ := h i (List.mem_range.1 hi)
  unfold hdV
  rw [h1, h2]
theorem hdL_snoc (m n : Nat) (bk cp : Nat → Nat) : hdL (m + 1) n bk cp = hdL m n bk cp ++ [hdV n bk cp m] := by
  unfold hdL
  rw [List.range_succ, List.map_append]
  rfl
def updN (f : Nat → Nat) (k v : Nat) : Nat → Nat := fun i => if i = k then v else f i
def updM (a : Mt) (k : Nat) (f : Nat → Int) : Mt := fun i => if i = k then f else a i
theorem updN_at (f : Nat → Nat) (k v : Nat) : updN f k v k = v := if_pos rfl
theorem updN_off (f : Nat → Nat) {k v i : Nat} (h : i ≠ k) : updN f k v i = f i := if_neg h
theorem updM_at (a : Mt) (k : Nat) (f : Nat → Int) : updM a k f k = f := if_pos rfl
theorem updM_off (a : Mt) {k i : Nat} (f : Nat → Int) (h : i ≠ k) : updM a k f i = a i := if_neg h
/-- Where a row comes from when two are changed over. -/
def sgI (d q i : Nat) : Nat := if i = d then q else if i = q then d else i
theorem sgI_lt {d q i m : Nat} (hd : d < m) (hq : q < m) (hi : i < m) : sgI d q i < m := by
  unfold sgI
  split
  · omega
  · split <;> omega
theorem sgI_inj {d q i j : Nat} (h : sgI d q i = sgI d q j) : i = j := by
  unfold sgI at h
  split at h <;> split at h <;> (try split at h) <;> (try split at h) <;> omega
theorem swpI_sg (a : Mt) (d q : Nat) : swpI a d q = fun i => a (sgI d q i) := by
  funext i
  unfold swpI sgI
  split
  · rfl
  · split <;> rfl

/-- Nothing has turned but blocks of P and what is new. -/
structure ButP (P : Nat → Prop) (w w' : World) : Prop where
  os : w'.os = w.os
  tape : w'.tape = w.tape
  output : w'.output = w.output
  size : w.heap.size ≤ w'.heap.size
  block : ∀ c, c < w.heap.size → ¬ P c → w'.heap[c]? = w.heap[c]?
theorem ButP.refl (P : Nat → Prop) (w : World) : ButP P w w := ⟨rfl, rfl, rfl, Nat.le_refl _, fun _ _ _ => rfl⟩
theorem ButP.trans {P : Nat → Prop} {x y z : World} (h : ButP P x y) (k : ButP P y z) : ButP P x z :=
  ⟨k.os.trans h.os, k.tape.trans h.tape, k.output.trans h.output, Nat.le_trans h.size k.size, fun c hc hn => (k.block c (Nat.lt_of_lt_of_le hc h.size) hn).trans (h.block c hc hn)⟩
theorem ButP.of_below {P : Nat → Prop} {w w' : World} (h : Below w.heap.size w w') : ButP P w w' := ⟨h.os, h.tape, h.output, h.size, fun c hc _ => h.block c hc⟩
theorem ButP.of_grown {P : Nat → Prop} {w w' : World} {b : Nat} (h : w.grownBy w' (some b)) (hb : P b) : ButP P w w' := ⟨h.os, h.tape, h.output, h.size, fun c hc hn => h.block c hc fun e => hn (by injection e with e; rw [e]; exact hb)⟩
theorem ButP.mono {P P' : Nat → Prop} {w w' : World} (h : ButP P w w') (hP : ∀ c, P c → P' c) : ButP P' w w' := ⟨h.os, h.tape, h.output, h.size, fun c hc hn => h.block c hc fun h9 => hn (hP c h9)⟩
theorem ButP.below {P : Nat → Prop} {w w' : World} {B : Nat} (h : ButP P w w') (hP : ∀ c, P c → B ≤ c) (hB : B ≤ w.heap.size) : Below B w w' := ⟨h.os, h.tape, h.output, h.size, fun c hc => h.block c (by omega) fun h9 => by have := hP c h9; omega⟩
theorem ButP.drew {P : Nat → Prop} {x w : World} (h : ButP P x w) : ButP P x w.drew := ⟨h.os, h.tape, h.output, h.size, h.block⟩
theorem ButP.own {P : Nat → Prop} {w w' : World} {B size k : Nat} {t : TypeId} {v : Value} {xs : List Value} (hk : ButP P w w') (h : w.ownsRow B t size v k xs) (hv : ∀ b, v.ownBlock = some b → ¬ P b) : w'.ownsRow B t size v k xs := by
  refine ⟨h.1, ?_⟩
  rcases h.2 with hn | ⟨g, cap, cur, rfl, hb, hgg, rest⟩
  · exact .inl hn
  · refine .inr ⟨g, cap, cur, rfl, hb, ?_, rest⟩
    rw [hk.block g (Array.getElem?_eq_some_iff.1 hgg).1 (hv g rfl)]
    exact hgg

structure MtAt (B : Nat) (w : World) (v : Value) (m n : Nat) (bk cp : Nat → Nat) (a : Mt) : Prop where
  spine : w.ownsRow B 22 1 v m (hdL m n bk cp)
  rows : ∀ i, i < m → w.ownsRow B 3 1 (.slice (some ⟨bk i, 0, none⟩) n (cp i)) n (iv (lstI n (a i)))
  apart : ∀ i j, i < m → j < m → bk i = bk j → i = j
  off : ∀ i, i < m → v.ownBlock ≠ some (bk i)
section
variable {B m n : Nat} {w w' : World} {v : Value} {bk cp : Nat → Nat} {a : Mt}
theorem own_on {B size k : Nat} {w w' : World} {t : TypeId} {v : Value} {xs : List Value} (h : w.ownsRow B t size v k xs) (hb : Below w.heap.size w w') : w'.ownsRow B t size v k xs :=
  h.kept (grow_below hb none) (by cases v.ownBlock with | none => exact .inl rfl | some k => exact .inr (by simp))
theorem MtAt.on (h : MtAt B w v m n bk cp a) (hb : Below w.heap.size w w') : MtAt B w' v m n bk cp a :=
  ⟨own_on h.spine hb, fun i hi => own_on (h.rows i hi) hb, h.apart, h.off⟩
theorem MtAt.drew (h : MtAt B w v m n bk cp a) : MtAt B w.drew v m n bk cp a := ⟨h.spine, h.rows, h.apart, h.off⟩
theorem MtAt.less {B' : Nat} (h : MtAt B w v m n bk cp a) (hB : B' ≤ B) : MtAt B' w v m n bk cp a :=
  ⟨own_below h.spine hB, fun i hi => own_below (h.rows i hi) hB, h.apart, h.off⟩
theorem MtAt.lt (h : MtAt B w v m n bk cp a) {i : Nat} (hi : i < m) : B ≤ bk i ∧ bk i < w.heap.size := (h.rows i hi).lt _ rfl
theorem MtAt.kept {c : Nat} (h : MtAt B w v m n bk cp a) (hg : w.grownBy w' (some c)) (h1 : ∀ i, i < m → bk i ≠ c) (h2 : v.ownBlock ≠ some c) : MtAt B w' v m n bk cp a :=
  ⟨h.spine.kept hg (.inr h2), fun i hi => (h.rows i hi).kept hg (.inr fun e => h1 i hi (by injection e)), h.apart, h.off⟩
/-- One row is written. -/
theorem MtAt.row (h : MtAt B w v m n bk cp a) {k : Nat} (hk : k < m) {f : Nat → Int} (hg : w.grownBy w' (some (bk k))) (hr : w'.ownsRow B 3 1 (.slice (some ⟨bk k, 0, none⟩) n (cp k)) n (iv (lstI n f))) :
    MtAt B w' v m n bk cp (updM a k f) := by
  refine ⟨h.spine.kept hg (.inr (h.off k hk)), fun i hi => ?_, h.apart, h.off⟩
  by_cases e : i = k
  · subst e
    rw [updM_at]
    exact hr
  · rw [updM_off a f e]
    exact (h.rows i hi).kept hg (.inr fun e2 => e (h.apart i k hi hk (by injection e2)))
theorem MtAt.same {a' : Mt} (h : MtAt B w v m n bk cp a) (e : ∀ i, i < m → ∀ j, j < n → a i j = a' i j) : MtAt B w v m n bk cp a' :=
  ⟨h.spine, fun i hi => by rw [← lstI_congr (e i hi)]; exact h.rows i hi, h.apart, h.off⟩
theorem MtAt.form (h : MtAt B w v m n bk cp a) (hm : 0 < m) : ∃ g cap, v = .slice (some ⟨g, 0, none⟩) m cap ∧ B ≤ g ∧ g < w.heap.size ∧ m ≤ cap := by
  rcases h.spine.2 with ⟨_, h0⟩ | ⟨g, cap, cur, rfl, hb, hg, hc, _⟩
  · omega
  · exact ⟨g, cap, rfl, hb, (Array.getElem?_eq_some_iff.1 hg).1, hc⟩
theorem MtAt.formA (h : MtAt B w v m n bk cp a) : ∃ ad cap, v = .slice ad m cap ∧ (0 < m → ∃ g, ad = some ⟨g, 0, none⟩) := by
  rcases h.spine.2 with ⟨rfl, h0⟩ | ⟨g, cap, cur, rfl, _⟩
  · subst h0; exact ⟨none, 0, rfl, fun h9 => absurd h9 (by omega)⟩
  · exact ⟨_, cap, rfl, fun _ => ⟨g, rfl⟩⟩
theorem MtAt.cell {g cap i : Nat} (h : MtAt B w (.slice (some ⟨g, 0, none⟩) m cap) m n bk cp a) (hi : i < m) : w.cell? ⟨g, i, none⟩ = some (.slice (some ⟨bk i, 0, none⟩) n (cp i)) := by
  rw [h.spine.cellAt i (by omega), hdL_get bk cp hi]
theorem MtAt.fzS {g cap : Nat} (h : MtAt B w (.slice (some ⟨g, 0, none⟩) m cap) m n bk cp a) (i : Nat) : w.frozen? ⟨g, i, none⟩ = false := h.spine.frozenAt i
theorem row_num {B b n c j : Nat} {w : World} {f : Nat → Int} (h : w.ownsRow B 3 1 (.slice (some ⟨b, 0, none⟩) n c) n (iv (lstI n f))) (hj : j < n) : w.cell? ⟨b, j, none⟩ = some (.int .i64 (f j)) := by
  rw [h.cellAt j (by omega), iv_get _ _ (by rw [lstI_len]; exact hj), lstI_get f hj]
theorem row_set {B b n c j : Nat} {w : World} {f : Nat → Int} (h : w.ownsRow B 3 1 (.slice (some ⟨b, 0, none⟩) n c) n (iv (lstI n f))) (z : Int) :
    (w.setCell ⟨b, j, none⟩ (.int .i64 z)).ownsRow B 3 1 (.slice (some ⟨b, 0, none⟩) n c) n (iv (lstI n fun i => if i = j then z else f i)) ∧ w.grownBy (w.setCell ⟨b, j, none⟩ (.int .i64 z)) (some b) := by
  have h1 := h.stored j (.int .i64 z)
  rw [iv_set, lstI_set] at h1
  exact h1
theorem MtAt.num (h : MtAt B w v m n bk cp a) {i j : Nat} (hi : i < m) (hj : j < n) : w.cell? ⟨bk i, j, none⟩ = some (.int .i64 (a i j)) := row_num (h.rows i hi) hj
/-- The rows' blocks. -/
def InR (m : Nat) (bk : Nat → Nat) (c : Nat) : Prop := ∃ i, i < m ∧ bk i = c
theorem MtAt.low (h : MtAt B w v m n bk cp a) : ∀ c, InR m bk c → B ≤ c := by
  rintro c ⟨i, hi, rfl⟩
  exact (h.lt hi).1
/-- Two rows are changed over. -/
theorem MtAt.swap {g cap d q : Nat} (h : MtAt B w (.slice (some ⟨g, 0, none⟩) m cap) m n bk cp a) (hd : d < m) (hq : q < m) :
    MtAt B ((w.setCell ⟨g, d, none⟩ (.slice (some ⟨bk q, 0, none⟩) n (cp q))).setCell ⟨g, q, none⟩ (.slice (some ⟨bk d, 0, none⟩) n (cp d))) (.slice (some ⟨g, 0, none⟩) m cap) m n (fun i => bk (sgI d q i)) (fun i => cp (sgI d q i)) (swpI a d q) ∧
    w.grownBy ((w.setCell ⟨g, d, none⟩ (.slice (some ⟨bk q, 0, none⟩) n (cp q))).setCell ⟨g, q, none⟩ (.slice (some ⟨bk d, 0, none⟩) n (cp d))) (some g) := by
  have s1 := h.spine.stored d (.slice (some ⟨bk q, 0, none⟩) n (cp q))
  have s2 := s1.1.stored q (.slice (some ⟨bk d, 0, none⟩) n (cp d))
  have hg := s1.2.trans s2.2
  refine ⟨⟨?_, fun i hi => ?_, fun i j hi hj e => sgI_inj (h.apart _ _ (sgI_lt hd hq hi) (sgI_lt hd hq hj) e), fun i hi => h.off _ (sgI_lt hd hq hi)⟩, hg⟩
  · have e : ((hdL m n bk cp).set d (.slice (some ⟨bk q, 0, none⟩) n (cp q))).set q (.slice (some ⟨bk d, 0, none⟩) n (cp d)) = hdL m n (fun i => bk (sgI d q i)) (fun i => cp (sgI d q i)) := by
      apply List.ext_getElem
      · simp [hdL]
      · intro i h1 h2
        simp only [hdL, List.getElem_set, List.getElem_map, List.getElem_range, hdV, sgI]
        by_cases e1 : i = q
        · subst e1
          by_cases e2 : i = d
          · subst e2; simp
          · simp [e2]
        · have e1' : ¬ q = i := fun h9 => e1 h9.symm
          by_cases e2 : i = d
          · subst e2; simp [e1']
          · have e2' : ¬ d = i := fun h9 => e2 h9.symm
            simp [e1, e1', e2, e2']
    rw [← e]
    exact s2.1
  · rw [swpI_sg]
    have h1 := h.rows _ (sgI_lt hd hq hi)
    refine h1.kept hg (.inr fun e => ?_)
    exact h.off _ (sgI_lt hd hq hi) e.symm
theorem MtAt.nil (B : Nat) (w : World) (n : Nat) (bk cp : Nat → Nat) (a : Mt) : MtAt B w (.slice none 0 0) 0 n bk cp a :=
  ⟨World.ownsRow_nil _ _ _ _, fun i hi => absurd hi (by omega), fun i j hi => absurd hi (by omega), fun i hi => absurd hi (by omega)⟩
/-- A row is appended: v2 is what the append gave. -/
theorem MtAt.snoc {v2 : Value} {b c : Nat} {f : Nat → Int} (h : MtAt B w v m n bk cp a) (hs : w'.ownsRow B 22 1 v2 (m + 1) (hdL m n bk cp ++ [.slice (some ⟨b, 0, none⟩) n c]))
    (hr : w.ownsRow B 3 1 (.slice (some ⟨b, 0, none⟩) n c) n (iv (lstI n f))) (hg : w.grownBy w' v.ownBlock) (hb : ∀ i, i < m → bk i ≠ b) (hvb : v.ownBlock ≠ some b) (h2 : v2.ownBlock = v.ownBlock ∨ ∃ k, v2.ownBlock = some k ∧ w.heap.size ≤ k) :
    MtAt B w' v2 (m + 1) n (updN bk m b) (updN cp m c) (updM a m f) := by
  have hk : ∀ i, i < m → v.ownBlock ≠ some (bk i) := h.off
  refine ⟨?_, fun i hi => ?_, fun i j hi hj e => ?_, fun i hi e => ?_⟩
  · rw [hdL_snoc, hdL_congr (bk' := bk) (cp' := cp) (fun i hi => ⟨updN_off bk (by omega), updN_off cp (by omega)⟩)]
    unfold hdV
    rw [updN_at, updN_at]
    exact hs
  · by_cases e : i = m
    · subst e
      rw [updN_at, updN_at, updM_at]
      exact hr.kept hg (.inr fun e => hvb e.symm)
    · rw [updN_off bk e, updN_off cp e, updM_off a f e]
      exact (h.rows i (by omega)).kept hg (.inr fun e2 => hk i (by omega) e2.symm)
  · by_cases e1 : i = m
    · by_cases e2 : j = m
      · omega
      · rw [e1, updN_at, updN_off bk e2] at e
        exact absurd e.symm (hb j (by omega))
    · by_cases e2 : j = m
      · rw [e2, updN_at, updN_off bk e1] at e
        exact absurd e (hb i (by omega))
      · rw [updN_off bk e1, updN_off bk e2] at e
        exact h.apart i j (by omega) (by omega) e
  · have hlt : ∀ k, v2.ownBlock = some k → updN bk m b i < w.heap.size := fun k _ => by
      by_cases e1 : i = m
      · rw [e1, updN_at]; exact (hr.lt b rfl).2
      · rw [updN_off bk e1]; exact (h.lt (by omega)).2
    rcases h2 with h2 | ⟨k, h2, h3⟩
    · rw [h2] at e
      by_cases e1 : i = m
      · rw [e1, updN_at] at e; exact hvb e
      · rw [updN_off bk e1] at e; exact hk i (by omega) e
    · have := hlt k h2
      rw [h2] at e
      injection e with e
      omega
end
end Go.Proofs.YtkcclhnligajeaaDoor
