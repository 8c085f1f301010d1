/-
  The model's NameOfPiece and the program's: the first name whose shape is congruent.
-/
import Derived.Test.YtecfabhpjihcbaaGreatDoorPpn
import Derived.Test.YtecfabhpjihcbaaGreatDoorJot
import Derived.Test.YtecfabhpjihcbaaGreatDoorMo4
import Derived.Test.YtecfabhpjihcbaaGreatDoorPall
namespace Go.Proofs.YtecfabhpjihcbaaGreatDoor
open Go.RowKit

/-- The shape of the k-th name. -/
def pcS (k : Nat) : List Cl := parS (tx (txB k))
theorem pc_ok : ∀ k, k < 12 → okP (tx (txB k)) = true := by decide +kernel
theorem pcS_len (k : Nat) (hk : k < 12) : (pcS k).length ≤ 9 := Nat.le_trans (parS_le (txB k)) (txB_size k hk)
theorem pcS_in (k : Nat) (hk : k < 12) : ∀ c ∈ pcS k, InC c := parS_in (txB k) (by have := txB_size k hk; omega)
def nmS (l : List Cl) : ByteArray := match (List.range 12).find? (fun k => congS l (pcS k)) with
  | some k => nmB k
  | none => ⟨#[]⟩
theorem nmS_at {l : List Cl} {k : Nat} (hk : k < 12) (h : congS l (pcS k) = true) (hb : ∀ j, j < k → congS l (pcS j) = false) : nmS l = nmB k := by
  have : (List.range 12).find? (fun k => congS l (pcS k)) = some k := by
    rw [List.find?_range_eq_some]
    exact ⟨h, by simpa using hk, fun j hj => by simpa using hb j hj⟩
  unfold nmS
  rw [this]
theorem nmS_no {l : List Cl} (hb : ∀ j, j < 12 → congS l (pcS j) = false) : nmS l = ⟨#[]⟩ := by
  have : (List.range 12).find? (fun k => congS l (pcS k)) = none := by
    rw [List.find?_eq_none]
    intro x hx
    have := hb x (List.mem_range.1 hx)
    simpa using this
  unfold nmS
  rw [this]
theorem none_next {l : List Cl} {k : Nat} (h : ∀ j, j < k → congS l (pcS j) = false) (h2 : congS l (pcS k) = false) : ∀ j, j < k + 1 → congS l (pcS j) = false := fun j hj => by
  by_cases e : j = k
  · rw [e]; exact h2
  · exact h j (by omega)
theorem ret_str {a b : ByteArray} (h : a = b) : Ending.returned (.string a) = .returned (.string b) := by rw [h]

set_option maxHeartbeats 1000000 in
theorem sNames (w : World) : Calls Tryz.prog 9 #[] w fun e w' => ∃ g, e = .returned (.slice (some ⟨g, 0, none⟩) 12 12) ∧ g < w'.heap.size ∧ (∀ k, k < 12 → w'.cell? ⟨g, k, none⟩ = some (.string (nmB k))) ∧ Below w.heap.size w w' := by
  go_enter Tryz.func9, Tryz.ntmps9
  go_wp2
  go_ret
  refine ⟨w.heap.size, rfl, by simp, fun k hk => ?_, (Below.refl _ _).alloc (Nat.le_refl _) _⟩
  refine Eq.trans (cell_of_row _ _ _ _ _ _ (heap_alloc_new _ _)) ?_
  have : k = 0 ∨ k = 1 ∨ k = 2 ∨ k = 3 ∨ k = 4 ∨ k = 5 ∨ k = 6 ∨ k = 7 ∨ k = 8 ∨ k = 9 ∨ k = 10 ∨ k = 11 := by omega
  rcases this with rfl | rfl | rfl | rfl | rfl | rfl | rfl | rfl | rfl | rfl | rfl | rfl <;> rfl

set_option maxHeartbeats 2000000 in
set_option maxRecDepth 100000 in
theorem sName (B n cap : Nat) (a : Option Addr) (l : List Cl) (w : World) (hn : n ≤ 1048576) (hc : CellsAt B w a n l) (hB : B ≤ w.heap.size) :
    Calls Tryz.prog 5 #[.slice a n cap] w fun e w' => e = .returned (.string (nmS l)) ∧ Below w.heap.size w w' := by
  have H := Lib.hid hc
  clear hc
  go_enter Tryz.func5, Tryz.ntmps5
  go_wp2_with fail
  refine (sNames w).mono ?_
  rintro e w1 ⟨g, rfl, hg, hcells, hb1⟩
  have HCE := Lib.hid hcells
  have hsz1 := hb1.size
  have HB1 := Lib.hid hb1
  clear hcells hb1
  go_wp2
  go_loopw [4] (fun i wr => ∃ k : Nat, k ≤ 12 ∧ i = .int .i64 k ∧ Hid (∀ j, j < k → congS l (pcS j) = false) ∧ Below w1.heap.size w1 wr) (fun i _ => 12 - (intOf i).toNat)
  case atStart => exact ⟨0, by omega, rfl, fun j hj => absurd hj (Nat.not_lt_zero j), Below.refl _ _⟩
  case round =>
    obtain ⟨k, hk, rfl, hno, hb⟩ := hrel
    have hsz := hb.size
    by_cases hlt : k < 12
    · have hk0 : (0 : Int) ≤ (k : Int) := by omega
      have hk1 : (k : Int) < 12 := by omega
      have p1 := (hb.cell (p := ⟨g, k, none⟩) hg).trans (HCE.out k hlt)
      have HF := Lib.hid (fmB_nm k hlt)
      have HYES := Lib.hid (fun h => nmS_at hlt h hno.out)
      have HNX := Lib.hid (fun h => none_next hno.out h)
      have hpl := pcS_len k hlt
      have HPI := Lib.hid (pcS_in k hlt)
      have HPC := Lib.hid (show parS (tx (txB k)) = pcS k from rfl)
      obtain ⟨nm, hnm⟩ : ∃ nm, nmB k = nm := ⟨_, rfl⟩
      rw [hnm] at p1 HF HYES
      have HNM := Lib.hid hnm
      clear hnm
      generalize hpk : pcS k = pk at hpl HPI HYES HNX HPC
      clear hpk
      generalize txB k = tb at HF HPC
      clear hno
      go_wp2_with fail
      refine (sNamed nm wr).mono ?_
      rintro e w2 ⟨g2, c2, rfl, hown2, hb2⟩
      rw [HF.out, HPC.out] at hown2
      rw [HF.out, HPC.out]
      have HA2 := Lib.hid (CellsAt.of_own hown2 HPI.out)
      have HB2 := Lib.hid (hb.trans (hb2.mono hsz))
      have hsz2 := HB2.out.size
      generalize okP (tx tb) = ok
      clear hown2 hb2 p1
      go_wp2_with fail
      refine (sCongr w2.heap.size n pk.length cap c2 a _ l pk w2 hn (by omega) ((H.out.on ((HB1.out.trans (HB2.out.mono hsz1)).mono hB)).more (by omega)) HA2.out (Nat.le_refl _)).mono ?_
      rintro e w3 ⟨rfl, hb3⟩
      have HB3 := Lib.hid (HB2.out.trans (hb3.mono hsz2))
      have p3 := (HB3.out.cell (p := ⟨g, k, none⟩) hg).trans (HCE.out k hlt)
      rw [HNM.out] at p3
      clear hb3
      cases hcg : congS l pk with
      | true =>
        have HY := Lib.hid (HYES.out hcg)
        go_wp2
        go_ret
        exact ⟨ret_str HY.out.symm, HB1.out.trans (HB3.out.mono hsz1)⟩
      | false =>
        have HN := Lib.hid (HNX.out hcg)
        clear p3
        go_wp2
        go_roundw
        case rel => exact ⟨k + 1, by omega, by go_num, HN.out, HB3.out⟩
        case measure => simp [intOf]; omega
    · obtain rfl : k = 12 := by omega
      have HN := Lib.hid (nmS_no hno.out)
      go_wp2
      go_ret
      exact ⟨ret_str HN.out.symm, HB1.out.trans (hb.mono hsz1)⟩

set_option maxHeartbeats 2000000 in
set_option maxRecDepth 100000 in
theorem iName (B n cap : Nat) (a : Option Addr) (l : List Cl) (w : World) (hn : n ≤ 4194304) (hc : CellsAt B w a n l) (hB : B ≤ w.heap.size) (hN : Nmd w) (hM : Mx w) :
    Calls Tryz.prog 7 #[.slice a n cap] w fun e w' => e = .returned (.string (nmS l)) ∧ Below w.heap.size w w' := by
  have H := Lib.hid hc
  have hrg := hN.range
  have hcl : (Tryz.prog.info? 39).map (·.size) = some pcV.length := by kernel_rfl
  have HIX := Lib.hid pc_index
  have HMX := Lib.hid hM
  have hMl := hM.lt
  clear hN hM hc
  go_enter Tryz.func7, Tryz.ntmps7
  go_wp2_with (first | (refine wpList_load_mid rfl 39 _ rfl 0 0 rfl pcV _ hrg Tryz.underlying39 rfl hcl ?_))
  clear hrg hcl
  generalize pcV.toArray = T at HIX ⊢
  go_wp2
  go_loopw [8] (fun i wr => ∃ k : Nat, k ≤ 12 ∧ i = .int .i64 k ∧ Hid (∀ j, j < k → congS l (pcS j) = false) ∧ Below w.heap.size w wr) (fun i _ => 12 - (intOf i).toNat)
  case atStart => exact ⟨0, by omega, rfl, fun j hj => absurd hj (Nat.not_lt_zero j), Below.refl _ _⟩
  case round =>
    obtain ⟨k, hk, rfl, hno, hb⟩ := hrel
    have hsz := hb.size
    by_cases hlt : k < 12
    · have hk0 : (0 : Int) ≤ (k : Int) := by omega
      have hk1 : (k : Int) < 12 := by omega
      have hix := HIX.out k hlt
      have hts := txB_size k hlt
      have HYES := Lib.hid (fun h => nmS_at hlt h hno.out)
      have HNX := Lib.hid (fun h => none_next hno.out h)
      have hpl := pcS_len k hlt
      have HPI := Lib.hid (pcS_in k hlt)
      have HPC := Lib.hid (show parS (tx (txB k)) = pcS k from rfl)
      have HOK := Lib.hid (pc_ok k hlt)
      generalize nmB k = nm at hix HYES
      generalize hpk : pcS k = pk at hpl HPI HYES HNX HPC
      clear hpk
      generalize txB k = tb at hix HPC HOK hts
      clear HIX hno
      have hba := hb.alloc hsz (.cells #[.string nm, .string tb] 38)
      have HMA := Lib.hid (HMX.out.on hba hMl)
      have q0 : (wr.alloc (.cells #[.string nm, .string tb] 38)).cell? ⟨wr.heap.size, 0, none⟩ = some (.string nm) := cell_of_row _ wr.heap.size 0 _ _ (0, 0) (heap_alloc_new _ _)
      have hql : wr.heap.size < (wr.alloc (.cells #[.string nm, .string tb] 38)).heap.size := by simp
      have HBA := Lib.hid hba
      clear hba hb
      go_wp2_with fail
      generalize (wr.alloc (.cells #[.string nm, .string tb] 38)) = W at *
      generalize wr.heap.size = xb at *
      have hszW := HBA.out.size
      refine (iParse tb W (by omega) HMA.out).mono ?_
      rintro e w2 ⟨v, rfl, hown2, hb2⟩
      rw [HPC.out] at hown2
      rw [HOK.out]
      obtain ⟨a2, c2, rfl⟩ := own_sl hown2
      have HA2 := Lib.hid (CellsAt.of_own hown2 HPI.out)
      have HB2 := Lib.hid (HBA.out.trans (hb2.mono hszW))
      have hsz2 := HB2.out.size
      have q2 := (hb2.cell (p := ⟨xb, 0, none⟩) hql).trans q0
      have hql2 : xb < w2.heap.size := by have := hb2.size; omega
      clear hown2 hb2 q0 HMA HBA
      go_wp2_with fail
      refine (iCongr w2.heap.size pk.length n c2 cap a2 a pk l w2 (by omega) hn HA2.out ((H.out.on (HB2.out.mono hB)).more (Nat.le_trans hB hsz2)) (Nat.le_refl _)).mono ?_
      rintro e w3 ⟨rfl, hb3⟩
      rw [congS_symm pk l]
      have HB3 := Lib.hid (HB2.out.trans (hb3.mono hsz2))
      have q3 := (hb3.cell (p := ⟨xb, 0, none⟩) hql2).trans q2
      clear hb3 q2
      cases hcg : congS l pk with
      | true =>
        have HY := Lib.hid (HYES.out hcg)
        go_wp2
        go_ret
        exact ⟨ret_str HY.out.symm, HB3.out⟩
      | false =>
        have HN := Lib.hid (HNX.out hcg)
        clear q3
        go_wp2
        go_roundw
        case rel => exact ⟨k + 1, by omega, by go_num, HN.out, HB3.out⟩
        case measure => simp [intOf]; omega
    · obtain rfl : k = 12 := by omega
      have HN := Lib.hid (nmS_no hno.out)
      go_wp2
      go_ret
      exact ⟨ret_str HN.out.symm, hb⟩

end Go.Proofs.YtecfabhpjihcbaaGreatDoor
