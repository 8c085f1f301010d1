/-
  The size of a shape, in the model: what the call gives.
-/
import Derived.Test.YtcfioncnpfoccaaGreatDoorCor
namespace Go.Proofs.YtcfioncnpfoccaaGreatDoor
open Go.RowKit

theorem cornerC_in {l : List Cl} (hp : ∀ c ∈ l, inP c = true) : ∀ c ∈ cornerC l, inP c = true := by
  intro c hc
  obtain ⟨d, hd, rfl⟩ := List.mem_map.1 hc
  have h1 := inP_out (hp d hd)
  obtain ⟨j, hj, rfl⟩ := List.getElem_of_mem hd
  have e : l[j] = l.getD j (0, 0) := by simp [List.getD, hj]
  rw [e] at h1 ⊢
  have h2 := minTo_le Prod.fst l l.length j hj
  have h3 := minTo_le Prod.snd l l.length j hj
  have h4 := minTo_bd Prod.fst l 7 (by omega) (fun j hj => by have := inP_out (hp _ (getD_mem hj)); omega) l.length (Nat.le_refl _)
  have h5 := minTo_bd Prod.snd l 7 (by omega) (fun j hj => by have := inP_out (hp _ (getD_mem hj)); omega) l.length (Nat.le_refl _)
  unfold minX minY inP inb
  simp only [Bool.and_eq_true, decide_eq_true_eq]
  omega
theorem cornS_in (l : List Cl) : ∀ c ∈ cornS l, inP c = true := by
  unfold cornS
  split
  · rename_i h
    exact cornerC_in (isShape_in h)
  · intro c hc; cases hc
theorem isShape_len {l : List Cl} (h : isShape l = true) : 1 ≤ l.length ∧ l.length ≤ 8 := by
  simp [isShape, inb] at h
  omega
theorem cornS_len (l : List Cl) : (cornS l).length ≤ 8 := by
  unfold cornS
  split
  · rename_i h
    have := isShape_len h
    unfold cornerC
    rw [List.length_map]
    omega
  · simp
theorem inP_in {c : Cl} (h : inP c = true) : InC c := by
  have := inP_out h
  unfold InC
  omega
theorem maxTo_bd (f : Cl → Int) (l : List Cl) (h : ∀ c ∈ l, 0 ≤ f c ∧ f c ≤ 7) : ∀ k, k ≤ l.length → 0 ≤ maxTo f l k ∧ maxTo f l k ≤ 8
  | 0, _ => by simp [maxTo]
  | k + 1, hk => by
    have h1 := maxTo_bd f l h k (by omega)
    have h2 := h _ (getD_mem (l := l) (j := k) (by omega))
    unfold maxTo
    split
    · omega
    · exact h1

set_option maxHeartbeats 1000000 in
set_option maxRecDepth 100000 in
theorem sSize (B n cap : Nat) (a : Option Addr) (l : List Cl) (w : World) (hn : n ≤ 4194304) (hc : CellsAt B w a n l) (hB : B ≤ w.heap.size) :
    Calls Tryz.prog 66 #[.slice a n cap] w fun e w' => e = .returned (.tuple #[.int .i64 (wideC l), .int .i64 (highC l)]) ∧ Below w.heap.size w w' := by
  have H := Lib.hid hc
  clear hc
  go_enter Tryz.func66, Tryz.ntmps66
  go_wp2_with fail
  refine (sCornerShape B n cap a l w hn H.out hB).mono ?_
  rintro e w1 ⟨g, cc, rfl, hown, hb1⟩
  have HA := Lib.hid (CellsAt.of_own hown (fun c hc => inP_in (cornS_in l c hc)))
  have HP := Lib.hid (cornS_in l)
  have HW := Lib.hid (show wideC l = maxTo Prod.fst (cornS l) (cornS l).length from rfl)
  have HH := Lib.hid (show highC l = maxTo Prod.snd (cornS l) (cornS l).length from rfl)
  have hm := cornS_len l
  obtain ⟨m, hm'⟩ : ∃ m, (cornS l).length = m := ⟨_, rfl⟩
  rw [hm'] at hm hown ⊢
  have HM := Lib.hid hm'
  clear hm' hown
  go_wp2
  go_loopw [5, 6, 7] (fun x y i wr => ∃ k : Nat, k ≤ m ∧ i = .int .i64 k ∧ x = .int .i64 (maxTo Prod.fst (cornS l) k) ∧ y = .int .i64 (maxTo Prod.snd (cornS l) k) ∧ wr = w1) (fun _ _ i _ => m - (intOf i).toNat)
  case atStart => exact ⟨0, by omega, rfl, rfl, rfl, rfl⟩
  case round =>
    obtain ⟨k, hk, rfl, rfl, rfl, rfl⟩ := hrel
    have hx1 := maxTo_bd Prod.fst (cornS l) (fun c hc => by have := inP_out (HP.out c hc); omega) k (by rw [HM.out]; exact hk)
    have hy1 := maxTo_bd Prod.snd (cornS l) (fun c hc => by have := inP_out (HP.out c hc); omega) k (by rw [HM.out]; exact hk)
    by_cases hlt : k < m
    · obtain ⟨b1, o1, he, hb1', hc1⟩ := HA.out.2.2 (by rw [HM.out]; omega)
      injection he with he
      injection he with he1 he2
      subst he1 he2
      rw [HM.out] at hc1
      obtain ⟨x, y, hxy⟩ : ∃ x y, (cornS l).getD k (0, 0) = (x, y) := ⟨_, _, rfl⟩
      have p1 := (hc1 k hlt).1
      have p2 := (hc1 k hlt).2
      rw [hxy] at p1 p2
      have hpx := inP_out (HP.out _ (getD_mem (l := cornS l) (j := k) (by rw [HM.out]; exact hlt)))
      rw [hxy] at hpx
      dsimp only at hpx
      have HX := Lib.hid hxy
      have e1 : maxTo Prod.fst (cornS l) (k + 1) = if maxTo Prod.fst (cornS l) k < x + 1 then x + 1 else maxTo Prod.fst (cornS l) k := by
        show (if _ then _ else _) = _
        rw [HX.out]
      have e2 : maxTo Prod.snd (cornS l) (k + 1) = if maxTo Prod.snd (cornS l) k < y + 1 then y + 1 else maxTo Prod.snd (cornS l) k := by
        show (if _ then _ else _) = _
        rw [HX.out]
      have E1 := Lib.hid e1
      have E2 := Lib.hid e2
      have hk0 : (0 : Int) ≤ (k : Int) := by omega
      have hk1 : (k : Int) < (m : Int) := by omega
      clear hxy hc1 e1 e2
      simp only [Nat.zero_add] at p1 p2
      go_wp2
      go_roundw
      case rel => exact ⟨k + 1, by omega, by go_num, by rw [E1.out], by rw [E2.out], trivial⟩
      case measure => simp [intOf]; omega
    · obtain rfl : k = m := by omega
      have e1 : wideC l = maxTo Prod.fst (cornS l) k := by rw [HW.out, HM.out]
      have e2 : highC l = maxTo Prod.snd (cornS l) k := by rw [HH.out, HM.out]
      have E1 := Lib.hid e1
      have E2 := Lib.hid e2
      clear e1 e2
      go_wp2
      go_ret2
      rw [E1.out, E2.out]
      exact ⟨rfl, hb1⟩

end Go.Proofs.YtcfioncnpfoccaaGreatDoor
