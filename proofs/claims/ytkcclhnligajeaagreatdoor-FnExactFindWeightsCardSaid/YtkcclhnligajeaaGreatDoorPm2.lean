/-
  Ascending lists of numbers; where a shape can lie in a region, as masks: plain facts, nothing of the program.
-/
import Derived.Test.YtkcclhnligajeaaGreatDoorVah
import Derived.Test.YtkcclhnligajeaaGreatDoorVae
import Derived.Lib.SlicesCompact
namespace Go.Proofs.YtkcclhnligajeaaGreatDoor

/-! ### Ascending, each once -/
def ltI (a b : Int) : Bool := decide (a < b)
theorem ordI : OrdG ltI where
  irr a := by simp [ltI]
  trans := by intro a b c h1 h2; simp only [ltI, decide_eq_true_eq] at *; omega
  asym := by intro a b h; simp only [ltI, decide_eq_true_eq, decide_eq_false_iff_not] at *; omega
  total := by intro a b h1 h2; simp only [ltI, decide_eq_false_iff_not] at *; omega
def putM (l : List Int) (n : Int) : List Int := insG ltI 0 l n
def ascI (l : List Int) : List Int := sortG ltI 0 l
theorem putM_len (l : List Int) (n : Int) : (putM l n).length ≤ l.length + 1 := by
  unfold putM insG
  split
  · omega
  · have := posG_le (lt := ltI) (d := 0) n l l.length
    simp
    omega
theorem comp_keeps {d : Array Int} (h : ∀ i j, i < j → j < d.size → d[i]! ≤ d[j]!) : ∀ m, m ≤ d.size → SrtG ltI (Lib.compactUpTo d m) ∧ (∀ x, x ∈ Lib.compactUpTo d m ↔ ∃ j, j < m ∧ d[j]! = x)
  | 0, _ => by
    refine ⟨?_, fun x => ?_⟩
    · unfold Lib.compactUpTo; exact List.Pairwise.nil
    · unfold Lib.compactUpTo; simp
  | m + 1, hm => by
    obtain ⟨h1, h2⟩ := comp_keeps h m (by omega)
    rw [Lib.compactUpTo_succ]
    cases hk : Lib.keeps d m with
    | true =>
      rw [if_pos rfl]
      refine ⟨?_, fun x => ?_⟩
      · unfold SrtG
        rw [List.pairwise_append]
        refine ⟨h1, List.pairwise_singleton _ _, fun a ha b hb => ?_⟩
        rw [List.mem_singleton] at hb
        subst hb
        obtain ⟨j, hj, rfl⟩ := (h2 a).1 ha
        have hne : d[m]! ≠ d[m - 1]! := by
          intro e
          rw [Lib.keeps_neg (by omega) e] at hk
          cases hk
        have k1 := h (m - 1) m (by omega) (by omega)
        have k2 : d[j]! ≤ d[m - 1]! := by
          by_cases e : j = m - 1
          · rw [e]; omega
          · exact h j (m - 1) (by omega) (by omega)
        simp only [ltI, decide_eq_true_eq]
        omega
      · rw [List.mem_append, h2, List.mem_singleton]
        constructor
        · rintro (⟨j, hj, e⟩ | rfl)
          · exact ⟨j, by omega, e⟩
          · exact ⟨m, by omega, rfl⟩
        · rintro ⟨j, hj, e⟩
          by_cases hjm : j = m
          · exact .inr (by rw [← e, hjm])
          · exact .inl ⟨j, by omega, e⟩
    | false =>
      rw [if_neg (by simp), List.append_nil]
      refine ⟨h1, fun x => ?_⟩
      rw [h2]
      constructor
      · rintro ⟨j, hj, e⟩; exact ⟨j, by omega, e⟩
      · rintro ⟨j, hj, e⟩
        by_cases hjm : j = m
        · subst hjm
          have h0 : 0 < j := by
            cases j with
            | zero => rw [Lib.keeps_lt_one d 0 (by omega)] at hk; cases hk
            | succ k => omega
          have heq : d[j]! = d[j - 1]! := by
            by_cases hq : d[j]! = d[j - 1]!
            · exact hq
            · rw [Lib.keeps_pos hq] at hk; cases hk
          exact ⟨j - 1, by omega, by rw [← heq]; exact e⟩
        · exact ⟨j, by omega, e⟩
/-- Sorted, then each once: the same as put one by one. -/
theorem ascI_lib (l : List Int) : Lib.compact (l.mergeSort fun x y => decide (x ≤ y)) = ascI l := by
  have hs : (l.mergeSort fun x y => decide (x ≤ y)).Pairwise fun x y => decide (x ≤ y) = true :=
    List.pairwise_mergeSort (fun a b c h1 h2 => by simp only [decide_eq_true_eq] at *; omega) (fun a b => by simp only [Bool.or_eq_true, decide_eq_true_eq]; omega) l
  obtain ⟨zs, hz⟩ : ∃ zs, (l.mergeSort fun x y => decide (x ≤ y)) = zs := ⟨_, rfl⟩
  have hm : ∀ x, x ∈ zs ↔ x ∈ l := fun x => by rw [← hz]; exact List.mem_mergeSort
  rw [hz] at hs ⊢
  have hg : ∀ i j, i < j → j < zs.toArray.size → zs.toArray[i]! ≤ zs.toArray[j]! := fun i j hij hj => by
    have hj2 : j < zs.length := by simpa using hj
    have := List.pairwise_iff_getElem.1 hs i j (by omega) hj2 hij
    rw [getElem!_pos zs.toArray i (by simp; omega), getElem!_pos zs.toArray j hj]
    simpa using this
  have hc := comp_keeps hg zs.length (by simp)
  refine sortG_unique ordI 0 hc.1 fun x => ?_
  rw [← hm]
  refine (hc.2 x).trans ?_
  constructor
  · rintro ⟨j, hj, rfl⟩
    rw [getElem!_pos zs.toArray j (by simpa using hj)]
    simp
  · intro hx
    obtain ⟨j, hj, rfl⟩ := List.getElem_of_mem hx
    exact ⟨j, hj, by rw [getElem!_pos zs.toArray j (by simpa using hj)]; simp⟩
theorem mem_ascI (l : List Int) (x : Int) : x ∈ ascI l ↔ x ∈ l := sortG_mem ordI 0 l x
theorem ascI_srt (l : List Int) : SrtG ltI (ascI l) := sortG_srt ordI 0 l
theorem ascI_len (l : List Int) : (ascI l).length ≤ l.length := by
  have key : ∀ (r o : List Int), (r.foldl (insG ltI 0) o).length ≤ o.length + r.length := by
    intro r
    induction r with
    | nil => intro o; simp
    | cons c r ih =>
      intro o
      rw [List.foldl_cons]
      have h1 := ih (insG ltI 0 o c)
      have h2 : (insG ltI 0 o c).length ≤ o.length + 1 := putM_len o c
      simp only [List.length_cons]
      omega
  have := key l []
  simpa [ascI, sortG] using this
theorem ascI_put (l : List Int) (n : Int) : putM (ascI l) n = ascI (l ++ [n]) := by
  unfold putM ascI sortG
  rw [List.foldl_append]
  rfl
theorem ascI_nil : ascI [] = [] := rfl

/-! ### An orientation of a shape -/
structure Orn (o : List Cl) : Prop where
  shape : isShape o = true
  corner : cornerC o = o
theorem orient_mem {l o : List Cl} (h : o ∈ orientS l) : isShape l = true ∧ Orn o ∧ congS l o = true := by
  cases hs : isShape l with
  | false =>
    have : orientS l = [] := if_neg (by rw [hs]; simp)
    rw [this] at h
    cases h
  | true =>
    have hl := ((isShape_iff l).1 hs).1.1
    unfold orientS at h
    rw [if_pos hs, sortG_mem ordS] at h
    obtain ⟨m, hm, rfl⟩ := List.mem_map.1 h
    have hm8 := List.mem_range.1 hm
    refine ⟨rfl, ⟨isShape_turn hm8 hs, ?_⟩, congS_turn hm8 hs⟩
    unfold turnC
    have : 0 < (sortU (l.map (apM m))).length := sortU_pos (by rw [List.length_map]; omega)
    rw [cornerC_move (sortU (l.map (apM m))), cornerC_of_move _ _ _ this, ← cornerC_move]
theorem orient_no {l : List Cl} (h : isShape l = false) : orientS l = [] := if_neg (by rw [h]; simp)
theorem orient_le (l : List Cl) : (orientS l).length ≤ 8 := by
  cases hs : isShape l with
  | false => rw [orient_no hs]; simp
  | true =>
    have h1 := orient_sym hs
    have h2 : 0 < (symS l).length := List.length_pos_iff.2 (symS_ne hs)
    obtain ⟨k, hk⟩ : ∃ k, (symS l).length = k + 1 := ⟨(symS l).length - 1, by omega⟩
    rw [hk, Nat.mul_succ] at h1
    omega
theorem maxTo_geM (f : Cl → Int) (l : List Cl) : ∀ k j, j < k → f (l.getD j (0, 0)) + 1 ≤ maxTo f l k
  | 0, j, h => by omega
  | k + 1, j, h => by
    unfold maxTo
    by_cases hj : j = k
    · subst hj; split <;> omega
    · have := maxTo_geM f l k j (by omega)
      split <;> omega
theorem maxTo_mem (f : Cl → Int) (l : List Cl) (h : ∀ j, j < l.length → 0 ≤ f (l.getD j (0, 0))) : ∀ k, 0 < k → k ≤ l.length → ∃ j, j < k ∧ f (l.getD j (0, 0)) + 1 = maxTo f l k
  | 0, h0, _ => by omega
  | k + 1, _, hk => by
    unfold maxTo
    split
    · exact ⟨k, by omega, rfl⟩
    · rename_i hno
      by_cases h0 : k = 0
      · subst h0
        have := h 0 (by omega)
        simp only [maxTo] at hno
        omega
      · obtain ⟨j, hj, e⟩ := maxTo_mem f l h k (by omega) (by omega)
        exact ⟨j, by omega, e⟩
/-- An orientation's width and height. -/
structure OrnB (o : List Cl) (p q : Nat) : Prop where
  wide : wideC o = p
  high : highC o = q
  w1 : 1 ≤ p
  w8 : p ≤ 8
  h1 : 1 ≤ q
  h8 : q ≤ 8
  all : ∀ c ∈ o, (0 ≤ c.1 ∧ c.1 < p) ∧ 0 ≤ c.2 ∧ c.2 < q
  left : ∃ c ∈ o, c.1 = 0
  top : ∃ c ∈ o, c.2 = 0
  right : ∃ c ∈ o, c.1 + 1 = p
  bottom : ∃ c ∈ o, c.2 + 1 = q
theorem Orn.box {o : List Cl} (h : Orn o) : ∃ p q : Nat, OrnB o p q := by
  obtain ⟨h1, h2, _⟩ := (isShape_iff o).1 h.shape
  have ec : cornS o = o := by unfold cornS; rw [if_pos h.shape, h.corner]
  have hin : ∀ c ∈ o, 0 ≤ c.1 ∧ c.1 ≤ 7 ∧ 0 ≤ c.2 ∧ c.2 ≤ 7 := fun c hc => inP_out (h2 c hc)
  have hj : ∀ j, j < o.length → 0 ≤ (o.getD j (0, 0)).1 ∧ (o.getD j (0, 0)).1 ≤ 7 ∧ 0 ≤ (o.getD j (0, 0)).2 ∧ (o.getD j (0, 0)).2 ≤ 7 := fun j hj => hin _ (getD_mem hj)
  have hmin : minX o = 0 ∧ minY o = 0 := by
    have e := h.corner
    have e2 := congrArg (fun r => r.getD 0 ((0 : Int), (0 : Int))) e
    unfold cornerC at e2
    simp only [List.getD, List.getElem?_map, List.getElem?_eq_getElem (show 0 < o.length by omega), Option.map_some, Option.getD_some] at e2
    have e3 := congrArg Prod.fst e2
    have e4 := congrArg Prod.snd e2
    dsimp only at e3 e4
    omega
  obtain ⟨jx, hjx, ex⟩ := minTo_mem Prod.fst o o.length (by omega)
  obtain ⟨jy, hjy, ey⟩ := minTo_mem Prod.snd o o.length (by omega)
  obtain ⟨kx, hkx, fx⟩ := maxTo_mem Prod.fst o (fun j h => (hj j h).1) o.length (by omega) (Nat.le_refl _)
  obtain ⟨ky, hky, fy⟩ := maxTo_mem Prod.snd o (fun j h => (hj j h).2.2.1) o.length (by omega) (Nat.le_refl _)
  have gx := fun j (hh : j < o.length) => maxTo_geM Prod.fst o o.length j hh
  have gy := fun j (hh : j < o.length) => maxTo_geM Prod.snd o o.length j hh
  have ew : wideC o = maxTo Prod.fst o o.length := by unfold wideC; rw [ec]
  have eh : highC o = maxTo Prod.snd o o.length := by unfold highC; rw [ec]
  have bx := hj kx hkx
  have bY := hj ky hky
  refine ⟨(wideC o).toNat, (highC o).toNat, by omega, by omega, by omega, by omega, by omega, by omega, fun c hc => ?_, ⟨_, getD_mem hjx, ?_⟩, ⟨_, getD_mem hjy, ?_⟩, ⟨_, getD_mem hkx, ?_⟩, ⟨_, getD_mem hky, ?_⟩⟩
  · obtain ⟨j, hjl, rfl⟩ := List.getElem_of_mem hc
    have e : o.getD j (0, 0) = o[j] := by simp [List.getD, hjl]
    have a := gx j hjl
    have b := gy j hjl
    have c := hin _ (List.getElem_mem hjl)
    rw [e] at a b
    omega
  · have : minX o = _ := ex.symm
    omega
  · have : minY o = _ := ey.symm
    omega
  · omega
  · omega
theorem Orn.ne {o : List Cl} (h : Orn o) : o.Pairwise (· ≠ ·) := by
  have hs := ((isShape_iff o).1 h.shape).2.2
  refine List.Pairwise.imp ?_ hs
  rintro a b hab rfl
  rw [bef_irr] at hab
  cases hab

/-! ### A shape moved, as a mask -/
theorem bN_move {W : Nat} {c : Cl} (x y : Nat) (h : 0 ≤ c.1 ∧ 0 ≤ c.2) : bN W (c.1 + x, c.2 + y) = bN W c + (y * W + x) := by
  unfold bN
  have e1 : (c.1 + (x : Int)).toNat = c.1.toNat + x := by omega
  have e2 : (c.2 + (y : Int)).toNat = c.2.toNat + y := by omega
  rw [e1, e2, Nat.add_mul]
  omega
theorem orB_move {W : Nat} {o : List Cl} (x y : Nat) (h : ∀ c ∈ o, 0 ≤ c.1 ∧ 0 ≤ c.2) : orB W (moveC x y o) = orB W o * 2 ^ (y * W + x) := by
  apply Nat.eq_of_testBit_eq
  intro i
  rw [Nat.testBit_mul_two_pow, Bool.eq_iff_iff, Bool.and_eq_true, decide_eq_true_eq, orB_bit, orB_bit]
  unfold moveC
  constructor
  · rintro ⟨d, hd, rfl⟩
    obtain ⟨c, hc, rfl⟩ := List.mem_map.1 hd
    rw [bN_move x y (h c hc)]
    exact ⟨by omega, c, hc, by omega⟩
  · rintro ⟨h1, c, hc, e⟩
    exact ⟨_, List.mem_map.2 ⟨c, hc, rfl⟩, by rw [bN_move x y (h c hc)]; omega⟩
theorem move_ne {o : List Cl} (x y : Int) (h : o.Pairwise (· ≠ ·)) : (moveC x y o).Pairwise (· ≠ ·) := by
  unfold moveC
  rw [List.pairwise_map]
  refine List.Pairwise.imp ?_ h
  intro a b hab e
  apply hab
  injection e with e1 e2
  obtain ⟨a1, a2⟩ := a
  obtain ⟨b1, b2⟩ := b
  dsimp only at e1 e2
  congr 1 <;> omega
/-- The program's test: the corner's mask, shifted, within the region's. -/
def fitN (W H p q : Nat) (l : List Int) (o : List Cl) (x y : Nat) : Bool := decide (x + p ≤ W) && (decide (y + q ≤ H) && decide (orB W o * 2 ^ (y * W + x) &&& maskR W l = orB W o * 2 ^ (y * W + x)))
theorem fit_iff {W H p q : Nat} {l : List Int} (hr : Rg W H l) {o : List Cl} (ho : Orn o) (hb : OrnB o p q) (x y : Nat) : fitN W H p q l o x y = true ↔ okC W l (moveC x y o) (moveC x y o).length = true := by
  have hpos : ∀ c ∈ o, 0 ≤ c.1 ∧ 0 ≤ c.2 := fun c hc => by have := hb.all c hc; omega
  rw [okC_all hr (move_ne _ _ ho.ne)]
  unfold fitN
  rw [Bool.and_eq_true, Bool.and_eq_true, decide_eq_true_eq, decide_eq_true_eq, decide_eq_true_eq, ← orB_move x y hpos]
  constructor
  · rintro ⟨h1, h2, h3⟩ d hd
    have hd2 := hd
    unfold moveC at hd2
    obtain ⟨c, hc, rfl⟩ := List.mem_map.1 hd2
    have hg : inG W H (c.1 + (x : Int), c.2 + (y : Int)) := by
      have := hb.all c hc
      unfold inG
      dsimp only
      omega
    have hbit := (orB_bit W (moveC x y o) _).2 ⟨_, hd, rfl⟩
    rw [← h3, Nat.testBit_and, Bool.and_eq_true, hr.mask_bit hg] at hbit
    exact hbit.2
  · intro h
    have hin : ∀ c ∈ o, inG W H (c.1 + (x : Int), c.2 + (y : Int)) := fun c hc => hr.bt_in (h _ (List.mem_map.2 ⟨c, hc, rfl⟩))
    obtain ⟨c1, hc1, e1⟩ := hb.right
    obtain ⟨c2, hc2, e2⟩ := hb.bottom
    have g1 := (hin c1 hc1).1
    have g2 := (hin c2 hc2).2
    dsimp only at g1 g2
    refine ⟨by omega, by omega, ?_⟩
    apply Nat.eq_of_testBit_eq
    intro i
    rw [Nat.testBit_and]
    cases hbi : (orB W (moveC x y o)).testBit i with
    | false => rfl
    | true =>
      obtain ⟨d, hd, rfl⟩ := (orB_bit _ _ _).1 hbi
      have hd2 := hd
      unfold moveC at hd2
      obtain ⟨c, hc, rfl⟩ := List.mem_map.1 hd2
      rw [hr.mask_bit (hin c hc), h _ hd]
      rfl
theorem fit_lt {W H p q : Nat} {l : List Int} {o : List Cl} (hb : OrnB o p q) {x y : Nat} (h : fitN W H p q l o x y = true) : x < W ∧ y < H ∧ orB W o * 2 ^ (y * W + x) < 68719476736 := by
  unfold fitN at h
  rw [Bool.and_eq_true, Bool.and_eq_true, decide_eq_true_eq, decide_eq_true_eq, decide_eq_true_eq] at h
  have := hb.w1
  have := hb.h1
  refine ⟨by omega, by omega, ?_⟩
  rw [← h.2.2]
  exact Nat.lt_of_le_of_lt Nat.and_le_right (maskR_lt _ _)

/-! ### Where a shape can lie: in the model's order -/
def stX (W : Nat) (l : List Int) (o : List Cl) (y : Nat) (out : List Int) : Nat → List Int
  | 0 => out
  | x + 1 => if okC W l (moveC x y o) (moveC x y o).length = true then putM (stX W l o y out x) (orB W (moveC x y o) : Nat) else stX W l o y out x
def stY (W : Nat) (l : List Int) (o : List Cl) (out : List Int) : Nat → List Int
  | 0 => out
  | y + 1 => stX W l o y (stY W l o out y) W
def stO (W H : Nat) (l : List Int) (os : List (List Cl)) : Nat → List Int
  | 0 => []
  | i + 1 => stY W l (os.getD i []) (stO W H l os i) H
def plR (W : Int) (l : List Int) (s : List Cl) : List Int := if isReg W l = true then stO W.toNat l.length l (orientS s) (orientS s).length else []
theorem stX_yes {W : Nat} {l : List Int} {o : List Cl} {y : Nat} {out : List Int} {x : Nat} (h : okC W l (moveC x y o) (moveC x y o).length = true) : stX W l o y out (x + 1) = putM (stX W l o y out x) (orB W (moveC x y o) : Nat) := if_pos h
theorem stX_no {W : Nat} {l : List Int} {o : List Cl} {y : Nat} {out : List Int} {x : Nat} (h : okC W l (moveC x y o) (moveC x y o).length = false) : stX W l o y out (x + 1) = stX W l o y out x := if_neg (by rw [h]; simp)
theorem stX_len (W : Nat) (l : List Int) (o : List Cl) (y : Nat) (out : List Int) : ∀ x, (stX W l o y out x).length ≤ out.length + x
  | 0 => by simp [stX]
  | x + 1 => by
    have := stX_len W l o y out x
    have h2 := putM_len (stX W l o y out x) (orB W (moveC x y o) : Nat)
    unfold stX
    split <;> omega
theorem stY_len (W : Nat) (l : List Int) (o : List Cl) (out : List Int) : ∀ y, (stY W l o out y).length ≤ out.length + W * y
  | 0 => by simp [stY]
  | y + 1 => by
    have := stY_len W l o out y
    have h2 := stX_len W l o y (stY W l o out y) W
    rw [stY, Nat.mul_succ]
    omega
theorem stO_len (W H : Nat) (l : List Int) (os : List (List Cl)) : ∀ i, (stO W H l os i).length ≤ W * H * i
  | 0 => by simp [stO]
  | i + 1 => by
    have := stO_len W H l os i
    have h2 := stY_len W l (os.getD i []) (stO W H l os i) H
    rw [stO, Nat.mul_succ]
    omega
theorem stX_srt (W : Nat) (l : List Int) (o : List Cl) (y : Nat) {out : List Int} (h : SrtG ltI out) : ∀ x, SrtG ltI (stX W l o y out x)
  | 0 => h
  | x + 1 => by
    unfold stX
    split
    · exact insG_srt ordI 0 (stX_srt W l o y h x) _
    · exact stX_srt W l o y h x
theorem stY_srt (W : Nat) (l : List Int) (o : List Cl) {out : List Int} (h : SrtG ltI out) : ∀ y, SrtG ltI (stY W l o out y)
  | 0 => h
  | y + 1 => stX_srt W l o y (stY_srt W l o h y) W
theorem stO_srt (W H : Nat) (l : List Int) (os : List (List Cl)) : ∀ i, SrtG ltI (stO W H l os i)
  | 0 => List.Pairwise.nil
  | i + 1 => stY_srt W l _ (stO_srt W H l os i) H
theorem mem_stX (W : Nat) (l : List Int) (o : List Cl) (y : Nat) (out : List Int) (m : Int) : ∀ x, m ∈ stX W l o y out x ↔ m ∈ out ∨ ∃ u, u < x ∧ okC W l (moveC u y o) (moveC u y o).length = true ∧ m = (orB W (moveC u y o) : Nat)
  | 0 => by simp [stX]
  | x + 1 => by
    unfold stX
    split
    · rename_i h
      unfold putM
      rw [insG_mem, mem_stX W l o y out m x]
      constructor
      · rintro ((h1 | ⟨u, hu, h2⟩) | h1)
        · exact .inl h1
        · exact .inr ⟨u, by omega, h2⟩
        · exact .inr ⟨x, by omega, h, h1⟩
      · rintro (h1 | ⟨u, hu, h2⟩)
        · exact .inl (.inl h1)
        · by_cases e : u = x
          · subst e; exact .inr h2.2
          · exact .inl (.inr ⟨u, by omega, h2⟩)
    · rename_i h
      rw [mem_stX W l o y out m x]
      constructor
      · rintro (h1 | ⟨u, hu, h2⟩)
        · exact .inl h1
        · exact .inr ⟨u, by omega, h2⟩
      · rintro (h1 | ⟨u, hu, h2⟩)
        · exact .inl h1
        · by_cases e : u = x
          · subst e; exact absurd h2.1 h
          · exact .inr ⟨u, by omega, h2⟩
theorem mem_stY (W : Nat) (l : List Int) (o : List Cl) (out : List Int) (m : Int) : ∀ y, m ∈ stY W l o out y ↔ m ∈ out ∨ ∃ v, v < y ∧ ∃ u, u < W ∧ okC W l (moveC u v o) (moveC u v o).length = true ∧ m = (orB W (moveC u v o) : Nat)
  | 0 => by simp [stY]
  | y + 1 => by
    rw [stY, mem_stX, mem_stY W l o out m y]
    constructor
    · rintro ((h1 | ⟨v, hv, h2⟩) | h2)
      · exact .inl h1
      · exact .inr ⟨v, by omega, h2⟩
      · exact .inr ⟨y, by omega, h2⟩
    · rintro (h1 | ⟨v, hv, h2⟩)
      · exact .inl (.inl h1)
      · by_cases e : v = y
        · subst e; exact .inr h2
        · exact .inl (.inr ⟨v, by omega, h2⟩)
theorem mem_stO (W H : Nat) (l : List Int) (os : List (List Cl)) (m : Int) : ∀ i, m ∈ stO W H l os i ↔ ∃ k, k < i ∧ ∃ v, v < H ∧ ∃ u, u < W ∧ okC W l (moveC u v (os.getD k [])) (moveC u v (os.getD k [])).length = true ∧ m = (orB W (moveC u v (os.getD k [])) : Nat)
  | 0 => by simp [stO]
  | i + 1 => by
    rw [stO, mem_stY, mem_stO W H l os m i]
    constructor
    · rintro (⟨k, hk, h2⟩ | h2)
      · exact ⟨k, by omega, h2⟩
      · exact ⟨i, by omega, h2⟩
    · rintro ⟨k, hk, h2⟩
      by_cases e : k = i
      · subst e; exact .inr h2
      · exact .inl ⟨k, by omega, h2⟩
theorem plR_no {W : Int} {l : List Int} (h : isReg W l = false) (s : List Cl) : plR W l s = [] := if_neg (by rw [h]; simp)
theorem plR_yes {W H : Nat} {l : List Int} (h : Rg W H l) (s : List Cl) : plR W l s = stO W H l (orientS s) (orientS s).length := by
  unfold plR
  rw [if_pos (isReg_of h), h.len]
  rfl
theorem plR_srt (W : Int) (l : List Int) (s : List Cl) : SrtG ltI (plR W l s) := by
  unfold plR
  split
  · exact stO_srt _ _ _ _ _
  · exact List.Pairwise.nil
theorem plR_len (W : Int) (l : List Int) (s : List Cl) : (plR W l s).length ≤ 288 := by
  cases h : isReg W l with
  | false => rw [plR_no h]; simp
  | true =>
    obtain ⟨n, rfl, hr⟩ := isReg_out h
    rw [plR_yes hr]
    have h1 := stO_len n l.length l (orientS s) (orientS s).length
    have h2 : n * l.length ≤ 36 := Nat.mul_le_mul hr.w6 hr.h6
    have h3 := Nat.mul_le_mul h2 (orient_le s)
    omega
theorem ent_memL {os : List (List Cl)} {k : Nat} (h : k < os.length) : os.getD k [] ∈ os := by simp [List.getD, h]
theorem mem_plR {W H : Nat} {l : List Int} (hr : Rg W H l) {s : List Cl} {m : Int} : m ∈ plR W l s ↔ ∃ o ∈ orientS s, ∃ y x : Nat, okC W l (moveC x y o) (moveC x y o).length = true ∧ m = (orB W (moveC x y o) : Nat) := by
  rw [plR_yes hr, mem_stO]
  constructor
  · rintro ⟨k, hk, v, hv, u, hu, h1, h2⟩
    exact ⟨_, ent_memL hk, v, u, h1, h2⟩
  · rintro ⟨o, ho, y, x, h1, h2⟩
    obtain ⟨k, hk, rfl⟩ := memG_getD ([] : List Cl) ho
    obtain ⟨p, q, hb⟩ := (orient_mem ho).2.1.box
    have := fit_lt hb ((fit_iff hr (orient_mem ho).2.1 hb x y).2 h1)
    exact ⟨k, hk, y, this.2.1, x, this.1, h1, h2⟩

/-! ### The program's order -/
def mvX (W H p q : Nat) (l : List Int) (o : List Cl) (y x : Nat) : List Int := ((List.range x).filter fun u => fitN W H p q l o u y).map fun u => ((orB W o * 2 ^ (y * W + u) : Nat) : Int)
def mvY (W H p q : Nat) (l : List Int) (o : List Cl) : Nat → List Int
  | 0 => []
  | y + 1 => mvY W H p q l o y ++ mvX W H p q l o y (W + 1 - p)
def mvR (W H p q : Nat) (l : List Int) (o : List Cl) : List Int := mvY W H p q l o (H + 1 - q)
theorem mvX_yes {W H p q : Nat} {l : List Int} {o : List Cl} {y x : Nat} (h : fitN W H p q l o x y = true) : mvX W H p q l o y (x + 1) = mvX W H p q l o y x ++ [((orB W o * 2 ^ (y * W + x) : Nat) : Int)] := by
  unfold mvX
  rw [List.range_succ, List.filter_append, List.map_append]
  simp [h]
theorem mvX_no {W H p q : Nat} {l : List Int} {o : List Cl} {y x : Nat} (h : fitN W H p q l o x y = false) : mvX W H p q l o y (x + 1) = mvX W H p q l o y x := by
  unfold mvX
  rw [List.range_succ, List.filter_append, List.map_append]
  simp [h]
theorem mvX_len (W H p q : Nat) (l : List Int) (o : List Cl) (y x : Nat) : (mvX W H p q l o y x).length ≤ x := by
  unfold mvX
  rw [List.length_map]
  have := List.length_filter_le (fun u => fitN W H p q l o u y) (List.range x)
  simpa using this
theorem mvY_len (W H p q : Nat) (l : List Int) (o : List Cl) : ∀ y, (mvY W H p q l o y).length ≤ (W + 1 - p) * y
  | 0 => by simp [mvY]
  | y + 1 => by
    have h1 := mvY_len W H p q l o y
    have h2 := mvX_len W H p q l o y (W + 1 - p)
    rw [mvY, List.length_append, Nat.mul_succ]
    omega
theorem mem_mvY {W H p q : Nat} {l : List Int} {o : List Cl} (m : Int) : ∀ y, m ∈ mvY W H p q l o y ↔ ∃ v, v < y ∧ ∃ u, u < W + 1 - p ∧ fitN W H p q l o u v = true ∧ m = ((orB W o * 2 ^ (v * W + u) : Nat) : Int)
  | 0 => by simp [mvY]
  | y + 1 => by
    rw [mvY, List.mem_append, mem_mvY m y]
    have e : m ∈ mvX W H p q l o y (W + 1 - p) ↔ ∃ u, u < W + 1 - p ∧ fitN W H p q l o u y = true ∧ m = ((orB W o * 2 ^ (y * W + u) : Nat) : Int) := by
      unfold mvX
      rw [List.mem_map]
      constructor
      · rintro ⟨u, hu, rfl⟩
        rw [List.mem_filter, List.mem_range] at hu
        exact ⟨u, hu.1, hu.2, rfl⟩
      · rintro ⟨u, h1, h2, rfl⟩
        exact ⟨u, by rw [List.mem_filter, List.mem_range]; exact ⟨h1, h2⟩, rfl⟩
    rw [e]
    constructor
    · rintro (⟨v, hv, h2⟩ | h2)
      · exact ⟨v, by omega, h2⟩
      · exact ⟨y, by omega, h2⟩
    · rintro ⟨v, hv, h2⟩
      by_cases e : v = y
      · subst e; exact .inr h2
      · exact .inl ⟨v, by omega, h2⟩
theorem mem_mvR {W H p q : Nat} {l : List Int} (hr : Rg W H l) {o : List Cl} (ho : Orn o) (hb : OrnB o p q) (m : Int) : m ∈ mvR W H p q l o ↔ ∃ y x : Nat, okC W l (moveC x y o) (moveC x y o).length = true ∧ m = (orB W (moveC x y o) : Nat) := by
  have hpos : ∀ c ∈ o, 0 ≤ c.1 ∧ 0 ≤ c.2 := fun c hc => by have := hb.all c hc; omega
  unfold mvR
  rw [mem_mvY]
  constructor
  · rintro ⟨v, hv, u, hu, h1, h2⟩
    exact ⟨v, u, (fit_iff hr ho hb u v).1 h1, by rw [orB_move u v hpos]; exact h2⟩
  · rintro ⟨y, x, h1, h2⟩
    have h3 := (fit_iff hr ho hb x y).2 h1
    have h4 := h3
    unfold fitN at h4
    rw [Bool.and_eq_true, Bool.and_eq_true, decide_eq_true_eq, decide_eq_true_eq] at h4
    exact ⟨y, by omega, x, by omega, h3, by rw [← orB_move x y hpos]; exact h2⟩
/-- All orientations' masks, one after the other; each orientation's own width and height. -/
def mvO (W H : Nat) (l : List Int) (o : List Cl) : List Int := mvR W H (wideC o).toNat (highC o).toNat l o
def mvTo (W H : Nat) (l : List Int) (os : List (List Cl)) (i : Nat) : List Int := (os.take i).flatMap (mvO W H l)
theorem mvTo_succ {W H : Nat} {l : List Int} {os : List (List Cl)} {i : Nat} (h : i < os.length) : mvTo W H l os (i + 1) = mvTo W H l os i ++ mvO W H l (os.getD i []) := by
  unfold mvTo
  rw [List.take_succ_eq_append_getElem h, List.flatMap_append]
  simp [List.getD, h]
theorem mvO_box {W H p q : Nat} {l : List Int} {o : List Cl} (hb : OrnB o p q) : mvO W H l o = mvR W H p q l o := by
  unfold mvO
  rw [hb.wide, hb.high]
  rfl
theorem mvO_len {W H : Nat} (hW : W ≤ 6) (hH : H ≤ 6) (l : List Int) {o : List Cl} (ho : Orn o) : (mvO W H l o).length ≤ 36 := by
  obtain ⟨p, q, hb⟩ := ho.box
  rw [mvO_box hb]
  have h1 := mvY_len W H p q l o (H + 1 - q)
  have := hb.w1
  have := hb.h1
  have h2 : (W + 1 - p) * (H + 1 - q) ≤ 6 * 6 := Nat.mul_le_mul (by omega) (by omega)
  unfold mvR
  omega
theorem mvTo_len {W H : Nat} (hW : W ≤ 6) (hH : H ≤ 6) (l : List Int) (s : List Cl) : ∀ i, i ≤ (orientS s).length → (mvTo W H l (orientS s) i).length ≤ 36 * i
  | 0, _ => by simp [mvTo]
  | i + 1, h => by
    have h1 := mvTo_len hW hH l s i (by omega)
    have h2 := mvO_len hW hH l (orient_mem (l := s) (o := (orientS s).getD i []) (by simp [List.getD, show i < (orientS s).length by omega])).2.1
    rw [mvTo_succ (by omega), List.length_append]
    omega
theorem plR_prog {W H : Nat} {l : List Int} (hr : Rg W H l) (s : List Cl) : plR W l s = ascI (mvTo W H l (orientS s) (orientS s).length) := by
  refine sortG_unique ordI 0 (plR_srt _ _ _) fun m => ?_
  rw [mem_plR hr]
  unfold mvTo
  rw [List.take_length, List.mem_flatMap]
  constructor
  · rintro ⟨o, ho, h⟩
    obtain ⟨p, q, hb⟩ := (orient_mem ho).2.1.box
    exact ⟨o, ho, by rw [mvO_box hb]; exact (mem_mvR hr (orient_mem ho).2.1 hb m).2 h⟩
  · rintro ⟨o, ho, h⟩
    obtain ⟨p, q, hb⟩ := (orient_mem ho).2.1.box
    rw [mvO_box hb] at h
    exact ⟨o, ho, (mem_mvR hr (orient_mem ho).2.1 hb m).1 h⟩
theorem mv_bd {W H : Nat} {l : List Int} (hr : Rg W H l) (s : List Cl) (i : Nat) : ∀ m ∈ mvTo W H l (orientS s) i, 0 ≤ m ∧ m < 68719476736 := by
  intro m hm
  unfold mvTo at hm
  obtain ⟨o, ho, h⟩ := List.mem_flatMap.1 hm
  have ho2 := List.mem_of_mem_take ho
  obtain ⟨p, q, hb⟩ := (orient_mem ho2).2.1.box
  rw [mvO_box hb] at h
  unfold mvR at h
  obtain ⟨v, _, u, _, h1, rfl⟩ := (mem_mvY m _).1 h
  have := (fit_lt hb h1).2.2
  omega
theorem plR_bd (W : Int) (l : List Int) (s : List Cl) : ∀ m ∈ plR W l s, 0 ≤ m ∧ m < 68719476736 := by
  cases h : isReg W l with
  | false => rw [plR_no h]; intro m hm; cases hm
  | true =>
    obtain ⟨n, rfl, hr⟩ := isReg_out h
    rw [plR_prog hr]
    intro m hm
    exact mv_bd hr s _ m ((mem_ascI _ _).1 hm)

/-! ### Pieces -/
def allPc (ps : List (List Cl)) (k : Nat) : Bool := (List.range k).all fun j => isShape (ps.getD j [])
def arePc (ps : List (List Cl)) : Bool := allPc ps ps.length && inb ps.length 1 5
theorem allPc_step (ps : List (List Cl)) (k : Nat) : allPc ps (k + 1) = (allPc ps k && isShape (ps.getD k [])) := by
  unfold allPc; rw [List.range_succ, List.all_append]; simp
theorem allPc_false {ps : List (List Cl)} {k n : Nat} (h : isShape (ps.getD k []) = false) (hk : k < n) : allPc ps n = false := by
  cases h2 : allPc ps n with
  | false => rfl
  | true =>
    unfold allPc at h2
    rw [List.all_eq_true] at h2
    have := h2 k (List.mem_range.2 hk)
    rw [h] at this
    cases this
def apTo (W : Int) (l : List Int) (ps : List (List Cl)) (i : Nat) : List Int := (ps.take i).flatMap (plR W l)
def apR (W : Int) (l : List Int) (ps : List (List Cl)) : List Int := if arePc ps = true then ascI (apTo W l ps ps.length) else []
theorem apTo_succ {W : Int} {l : List Int} {ps : List (List Cl)} {i : Nat} (h : i < ps.length) : apTo W l ps (i + 1) = apTo W l ps i ++ plR W l (ps.getD i []) := by
  unfold apTo
  rw [List.take_succ_eq_append_getElem h, List.flatMap_append]
  simp [List.getD, h]
theorem apTo_len (W : Int) (l : List Int) (ps : List (List Cl)) : ∀ i, i ≤ ps.length → (apTo W l ps i).length ≤ 288 * i
  | 0, _ => by simp [apTo]
  | i + 1, h => by
    have h1 := apTo_len W l ps i (by omega)
    have h2 := plR_len W l (ps.getD i [])
    rw [apTo_succ (by omega), List.length_append]
    omega
theorem apTo_bd (W : Int) (l : List Int) (ps : List (List Cl)) (i : Nat) : ∀ m ∈ apTo W l ps i, 0 ≤ m ∧ m < 68719476736 := by
  intro m hm
  unfold apTo at hm
  obtain ⟨o, _, h⟩ := List.mem_flatMap.1 hm
  exact plR_bd W l o m h
theorem arePc_len {ps : List (List Cl)} (h : arePc ps = true) : 1 ≤ ps.length ∧ ps.length ≤ 5 := by
  unfold arePc at h
  rw [Bool.and_eq_true] at h
  have := h.2
  simp [inb] at this
  omega
theorem apR_no {ps : List (List Cl)} (h : arePc ps = false) (W : Int) (l : List Int) : apR W l ps = [] := if_neg (by rw [h]; simp)
theorem apR_yes {ps : List (List Cl)} (h : arePc ps = true) (W : Int) (l : List Int) : apR W l ps = ascI (apTo W l ps ps.length) := if_pos h
/-! ### Those that have a cell -/
def hasB (W : Int) (x y : Int) (m : Int) : Bool := m.toNat.testBit (bN W.toNat (x, y))
def atR (W : Int) (l : List Int) (s : List Cl) (x y : Int) : List Int := if (isReg W l && bt l (x, y)) = true then (plR W l s).filter (hasB W x y) else []
def fcX (W : Int) (l : List Int) (m : Int) : Cl := (cellsM W l m).getD 0 (0, 0)
def fcB (W : Int) (l : List Int) (m : Int) : Bool := decide (0 < (cellsM W l m).length)

end Go.Proofs.YtkcclhnligajeaaGreatDoor
