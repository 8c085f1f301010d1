/-
  What is no mirror image of itself; motions one after the other; in the model.
-/
import Derived.Test.YtecfabhpjihcbaaMo5
namespace Go.Proofs.Ytecfabhpjihcbaa
open Go.RowKit

set_option maxHeartbeats 1000000 in
set_option maxRecDepth 100000 in
theorem sChiral (B n cap : Nat) (a : Option Addr) (l : List Cl) (w : World) (hn : n ≤ 1048576) (hc : CellsAt B w a n l) (hB : B ≤ w.heap.size) :
    Calls Try.prog 36 #[.slice a n cap] w fun e w' => e = .returned (.bool (chirS l)) ∧ Below w.heap.size w w' := by
  have H := Lib.hid hc
  clear hc
  have HG : Hid (chirS l = (decide (symS l ≠ []) && (symS l).all fun m => decide (m < 4))) := rfl
  rw [HG.out]
  clear HG
  have hle : (symS l).length ≤ 8 := by unfold symS; split; exact symTo_len l 8; simp
  have hbd : ∀ z ∈ symS l, 0 ≤ z ∧ z ≤ 7 := by
    intro z hz
    unfold symS symTo at hz
    split at hz
    · obtain ⟨m, hm, rfl⟩ := List.mem_map.1 hz
      have := List.mem_range.1 (List.mem_filter.1 hm).1
      simp only [Int.ofNat_eq_natCast]
      omega
    · cases hz
  obtain ⟨O, hO⟩ : ∃ O, symS l = O := ⟨_, rfl⟩
  have HO := Lib.hid hO
  rw [hO] at hle hbd ⊢
  have HBD := Lib.hid hbd
  clear hO hbd
  go_enter Try.func36, Try.ntmps36
  go_wp2_with fail
  refine (sSymm B n cap a l w hn H.out hB).mono ?_
  rintro e w1 ⟨g, cc, rfl, hown, hb1⟩
  rw [HO.out] at hown ⊢
  have hgl := hown.lt g rfl
  have HW := Lib.hid hown
  clear hown
  go_wp2
  go_loopw [4] (fun i wr => ∃ k : Nat, k ≤ O.length ∧ i = .int .i64 k ∧ Hid (∀ z ∈ O.take k, z < 4) ∧ wr = w1) (fun i _ => O.length - (intOf i).toNat)
  case atStart => exact ⟨0, by omega, rfl, by simp [Hid], rfl⟩
  case round =>
    obtain ⟨k, hk, rfl, hal, rfl⟩ := hrel
    by_cases hlt : k < O.length
    · obtain ⟨z, hz⟩ : ∃ z, O.getD k 0 = z := ⟨_, rfl⟩
      have hzk : O[k]? = some z := by rw [← hz]; simp [List.getD, hlt]
      have hcell := HW.out.cellAt k (by have := HW.out.1; simp at this; simp; omega)
      rw [List.getElem?_map, hzk] at hcell
      have hcell' : wr.cell? ⟨g, k, none⟩ = some (.int .i64 z) := hcell
      have hzb := HBD.out z (List.mem_of_getElem? hzk)
      have htk : O.take (k + 1) = O.take k ++ [z] := by rw [List.take_add_one, hzk]; rfl
      have HTK := Lib.hid htk
      have HZ := Lib.hid hzk
      have hk0 : (0 : Int) ≤ (k : Int) := by omega
      have hk1 : (k : Int) < (O.length : Int) := by omega
      clear hz hzk hcell htk
      by_cases h4 : 4 ≤ z
      · have e9 : (decide (O ≠ []) && O.all fun m => decide (m < 4)) = false := by
          rw [Bool.and_eq_false_iff]
          right
          rw [List.all_eq_false]
          exact ⟨z, List.mem_of_getElem? HZ.out, by simp; omega⟩
        have E9 := Lib.hid e9.symm
        clear e9
        go_wp2
        go_ret
        exact ⟨ret_Bo E9.out, hb1⟩
      · have hnx : ∀ y ∈ O.take (k + 1), y < 4 := by
          rw [HTK.out]
          intro y hy
          rw [List.mem_append] at hy
          rcases hy with hy | hy
          · exact hal.out y hy
          · simp at hy; omega
        have HNX := Lib.hid hnx
        clear hnx hal
        go_wp2
        go_roundw
        case rel => exact ⟨k + 1, by omega, by go_num, HNX.out, trivial⟩
        case measure => simp [intOf]; omega
    · obtain rfl : k = O.length := by omega
      have hall : O.all (fun m => decide (m < 4)) = true := by
        rw [List.all_eq_true]
        intro y hy
        have := hal.out y (by rw [List.take_length]; exact hy)
        simpa using this
      have e9 : decide (0 < O.length) = (decide (O ≠ []) && O.all fun m => decide (m < 4)) := by
        rw [hall, Bool.and_true]
        cases O with
        | nil => rfl
        | cons x t => simp
      have E9 := Lib.hid e9
      clear e9 hall hal
      go_wp2
      go_ret
      exact ⟨ret_Bo E9.out, hb1⟩

theorem fnd_yes {p : Nat → Bool} {k : Nat} (hk : k < 8) (h : p k = true) (hb : ∀ j, j < k → p j = false) : (List.range 8).find? p = some k := by
  rw [List.find?_range_eq_some]
  exact ⟨h, by simpa using hk, fun j hj => by rw [hb j hj]; rfl⟩
theorem fnd_no {p : Nat → Bool} (hb : ∀ j, j < 8 → p j = false) : (List.range 8).find? p = none := by
  rw [List.find?_eq_none]
  intro x hx
  rw [hb x (List.mem_range.1 hx)]
  simp

end Go.Proofs.Ytecfabhpjihcbaa
