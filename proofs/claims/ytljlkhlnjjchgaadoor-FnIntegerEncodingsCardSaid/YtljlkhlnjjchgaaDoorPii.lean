/-
  ParseInt of the program: a numeral of at most nine digits is read, and no other string is.
-/
import Derived.Test.YtljlkhlnjjchgaaDoorPin
namespace Go.Proofs.YtljlkhlnjjchgaaDoor
open Go.RowKit

theorem ret_IB' {a b : Int} {x y : Bool} (h : a = b) (h' : x = y) : Ending.returned (.tuple #[.int .i64 a, .bool x]) = .returned (.tuple #[.int .i64 b, .bool y]) := by rw [h, h']

theorem numL_take_bd (l : List UInt8) (k : Nat) (hk : k ≤ 9) (h : ∀ b ∈ l, isD b = true) : numL (l.take k) < 1000000000 := by
  have h1 := numL_lt (l.take k) fun b hb => h b (List.mem_of_mem_take hb)
  have h2 : (l.take k).length ≤ 9 := by rw [List.length_take]; omega
  have h4 : 10 ^ (l.take k).length ≤ 10 ^ 9 := Nat.pow_le_pow_right (by omega) h2
  omega

theorem bs_mem (t : ByteArray) (k : Nat) (h : k < t.size) : t[k] ∈ bs t := by
  have h' : k < (bs t).length := by rw [bs_length]; exact h
  have e : (bs t)[k] = t[k] := rfl
  rw [← e]
  exact List.getElem_mem h'
theorem pow_bd (c : Nat) (h : c ≤ 9) : 10 ^ c ≤ 1000000000 := by
  have : 10 ^ c ≤ 10 ^ 9 := Nat.pow_le_pow_right (by omega) h
  omega
theorem decode_step (t : ByteArray) (k : Nat) (h : k < t.size) : 1 ≤ (Utf8.decode t k).2 := by
  by_cases ha : (t[k]'h).toNat < 128
  · rw [decode_ascii t k h ha]
    exact Nat.le_refl _
  · exact (decode_high t k h (by omega)).2

set_option maxHeartbeats 1000000 in
set_option maxRecDepth 100000 in
theorem iParse_yes (s t : ByteArray) (m : Int) (w : World) (hm : Small m) (hs : bs s = Lib.itoa m) (ht : t = ⟨(Lib.trimPrefix (bs s) [45]).toArray⟩) (B0 : Nat) (hB : B0 ≤ w.heap.size) (hT : Tab B0 w) :
    Calls Tryd.prog 18 #[.string s] w fun e w' => e = .returned (.tuple #[.int .i64 m, .bool true]) ∧ Below B0 w w' := by
  have hbt : bs t = Lib.decDigits m.natAbs := by rw [ht, hs, trim_itoa]
  have hlen : t.size ≤ 9 := by
    have := dec_len_le m.natAbs (by unfold Small at hm; omega)
    rw [← hbt, bs_length] at this
    exact this
  have hall : ∀ b ∈ bs t, isD b = true := by rw [hbt]; exact dec_digits _
  have hnum : numL (bs t) = m.natAbs := by rw [hbt, dec_num]
  have hsz : (0 ≤ m → s.size = t.size) ∧ (m < 0 → t.size < s.size) := by
    have e1 := bs_length s
    have e2 := bs_length t
    rw [hs] at e1
    rw [hbt] at e2
    rcases itoa_cases m with ⟨h, e⟩ | ⟨h, e⟩
    · rw [e] at e1; exact ⟨fun _ => by omega, fun h' => by omega⟩
    · rw [e] at e1; simp at e1; exact ⟨fun h' => by omega, fun _ => by omega⟩
  have HT := Lib.hid hT
  have HS := Lib.hid hs
  have HTT := Lib.hid ht
  have HALL := Lib.hid hall
  have HNUM := Lib.hid hnum
  have HSZ := Lib.hid hsz
  have HM := Lib.hid hm
  clear hT hs ht hall hnum hbt hsz hm
  go_enter Tryd.func18, Tryd.ntmps18
  go_wp2_with fail
  refine (Tryd.strings_TrimPrefix s ⟨#[45]⟩ _).mono ?_
  rintro e w1 ⟨rfl, hw1⟩
  subst hw1
  rw [show (⟨(Lib.trimPrefix s.data.toList (ByteArray.mk #[45]).data.toList).toArray⟩ : ByteArray) = t from HTT.out.symm]
  go_wp2
  go_loopw [5, 7] (fun n _ wr => ∃ k q : Nat, k ≤ t.size ∧ q < 1000000000 ∧ n = .int .i64 q ∧ Hid (q = numL ((bs t).take k)) ∧ wr.heap[w1.heap.size]? = some (.stringIter t k) ∧ Below B0 w1 wr) (fun _ _ wr => t.size - wr.iterPos w1.heap.size)
  case atStart => exact ⟨0, 0, by omega, by omega, rfl, by simp [Hid, numL], World.iter_heap w1 t 0, (Below.refl _ _).alloc hB _⟩
  case round =>
    obtain ⟨k, q, hk, hq, rfl, hqn, hit, hb⟩ := hrel
    have HI := Lib.hid hit
    by_cases hlt : k < t.size
    · have hd := (isD_iff t[k]).1 (HALL.out _ (bs_mem t k hlt))
      obtain ⟨hd1, hd2⟩ := hd
      have hnx : ∀ ty, (Instr.next (.pointer (some ⟨w1.heap.size, 0, none⟩)) true ty).run Tryd.prog wr = _ := fun ty => Lib.run_next_ascii_at wr w1.heap.size t k ty hit hlt (by omega)
      have HN : Hid (q * 10 + (t[k].toNat - 48) = numL ((bs t).take (k + 1))) := by rw [take_snoc t k hlt, numL_snoc, hqn.out]; rfl
      have hq2 : q * 10 + (t[k].toNat - 48) < 1000000000 := by
        have := numL_take_bd (bs t) (k + 1) (by omega) HALL.out
        rw [← HN.out] at this
        exact this
      clear hit
      go_wp2
      go_roundw
      case rel => exact ⟨k + 1, q * 10 + (t[k].toNat - 48), by omega, hq2, congrArg (Value.int .i64) (by omega), HN, Lib.iterAt_heap _ _ _ _ _ HI.out, Lib.below_iterAt hb hB t (k + 1)⟩
      case measure =>
        have e1 : ∀ (W : World) p, W.heap[w1.heap.size]? = some (.stringIter t p) → W.iterPos w1.heap.size = p := fun W p h => by simp [World.iterPos, h]
        rw [e1 _ _ (Lib.iterAt_heap _ _ _ _ _ HI.out), e1 _ _ HI.out]
        omega
    · have hnx : ∀ ty, (Instr.next (.pointer (some ⟨w1.heap.size, 0, none⟩)) true ty).run Tryd.prog wr = _ := fun ty => Lib.run_next_end_at wr w1.heap.size t k ty hit hlt
      have hqm : (q : Int) = m.natAbs := by
        have h1 := hqn.out
        rw [List.take_of_length_le (by rw [bs_length]; omega), HNUM.out] at h1
        omega
      have hBr : B0 ≤ wr.heap.size := Nat.le_trans hB hb.size
      have HB := hb
      by_cases hneg : m < 0
      · have hl : t.size < s.size := HSZ.out.2 hneg
        have hmq : m = -(q : Int) := by omega
        have HMQ := Lib.hid hmq
        have he : (Lib.itoa (-(q : Int)) == s.toList) = true := by rw [← hmq, ← HS.out, ByteArray.toList_eq]; simp
        clear hit hqm hmq
        go_wp2_with fail
        refine (iFormatInt _ (by omega) (by omega) B0 _ (HT.out.on hb) hBr).mono ?_
        rintro e w2 ⟨rfl, hb2⟩
        go_wp2
        go_ret2
        exact ⟨ret_IB' HMQ.out.symm rfl, hb.trans hb2⟩
      · have hl : ¬ t.size < s.size := by have := HSZ.out.1 (by omega); omega
        have hmq : m = (q : Int) := by omega
        have HMQ := Lib.hid hmq
        have he : (Lib.itoa (q : Int) == s.toList) = true := by rw [← hmq, ← HS.out, ByteArray.toList_eq]; simp
        clear hit hqm hmq
        go_wp2_with fail
        refine (iFormatInt _ (by omega) (by omega) B0 _ (HT.out.on hb) hBr).mono ?_
        rintro e w2 ⟨rfl, hb2⟩
        go_wp2
        go_ret2
        exact ⟨ret_IB' HMQ.out.symm rfl, hb.trans hb2⟩

set_option maxHeartbeats 1000000 in
set_option maxRecDepth 100000 in
theorem iParse_no (s t : ByteArray) (w : World) (hno : ∀ m, Small m → Lib.itoa m ≠ bs s) (ht : t = ⟨(Lib.trimPrefix (bs s) [45]).toArray⟩) (B0 : Nat) (hB : B0 ≤ w.heap.size) (hT : Tab B0 w) :
    Calls Tryd.prog 18 #[.string s] w fun e w' => e = .returned (.tuple #[.int .i64 0, .bool false]) ∧ Below B0 w w' := by
  have HT := Lib.hid hT
  have HTT := Lib.hid ht
  have HNO := Lib.hid hno
  clear hT ht hno
  by_cases h9 : 9 < t.size
  · go_enter Tryd.func18, Tryd.ntmps18
    go_wp2_with fail
    refine (Tryd.strings_TrimPrefix s ⟨#[45]⟩ _).mono ?_
    rintro e w1 ⟨rfl, hw1⟩
    subst hw1
    rw [show (⟨(Lib.trimPrefix s.data.toList (ByteArray.mk #[45]).data.toList).toArray⟩ : ByteArray) = t from HTT.out.symm]
    go_wp2
    go_ret2
    exact ⟨rfl, Below.refl _ _⟩
  · have hne : ∀ n : Int, (Lib.itoa n == s.toList) = false := by
      intro n
      rw [beq_eq_false_iff_ne, ByteArray.toList_eq]
      refine no_itoa (bs s) HNO.out ?_ n
      have h2 : t.size = (Lib.trimPrefix (bs s) [45]).length := congrArg ByteArray.size HTT.out
      omega
    have HNE := Lib.hid hne
    clear hne
    have hsz : t.size ≤ 9 := by omega
    clear h9
    go_enter Tryd.func18, Tryd.ntmps18
    go_wp2_with fail
    refine (Tryd.strings_TrimPrefix s ⟨#[45]⟩ _).mono ?_
    rintro e w1 ⟨rfl, hw1⟩
    subst hw1
    rw [show (⟨(Lib.trimPrefix s.data.toList (ByteArray.mk #[45]).data.toList).toArray⟩ : ByteArray) = t from HTT.out.symm]
    go_wp2
    go_loopw [5, 7] (fun n _ wr => ∃ (k c p : Nat) (q : Int), c ≤ k ∧ c ≤ 9 ∧ Hid (p = 10 ^ c) ∧ p ≤ 1000000000 ∧ -(3000000000 * (p : Int)) + 3000000000 ≤ q ∧ q ≤ 3000000000 * (p : Int) - 3000000000 ∧ n = .int .i64 q ∧ wr.heap[w1.heap.size]? = some (.stringIter t k) ∧ Below B0 w1 wr) (fun _ _ wr => t.size - wr.iterPos w1.heap.size)
    case atStart => exact ⟨0, 0, 1, 0, by omega, by omega, rfl, by omega, by omega, by omega, rfl, World.iter_heap w1 t 0, (Below.refl _ _).alloc hB _⟩
    case round =>
      obtain ⟨k, c, p, q, hck, hc9, hp, hp9, hq1, hq2, rfl, hit, hb⟩ := hrel
      have HI := Lib.hid hit
      by_cases hlt : k < t.size
      · have hr := decode_le t k
        have HW := Lib.hid (decode_step t k hlt)
        have hnx : ∀ ty, (Instr.next (.pointer (some ⟨w1.heap.size, 0, none⟩)) true ty).run Tryd.prog wr = _ := fun ty => Lib.run_next_any_at wr w1.heap.size t k ty hit hlt
        have hp8 : p * 10 ≤ 1000000000 := by
          have := pow_bd (c + 1) (by omega)
          rw [Nat.pow_succ, ← hp.out] at this
          exact this
        have HP : Hid (p * 10 = 10 ^ (c + 1)) := by rw [Nat.pow_succ, ← hp.out]; rfl
        clear hit
        go_wp2
        go_roundw
        case rel =>
          have hw := HW.out
          exact ⟨k + (Utf8.decode t k).2, c + 1, p * 10, _, by omega, by omega, HP, hp8, by omega, by omega, rfl, Lib.iterAt_heap _ _ _ _ _ HI.out, Lib.below_iterAt hb hB t _⟩
        case measure =>
          have hw := HW.out
          have e1 : ∀ (W : World) p, W.heap[w1.heap.size]? = some (.stringIter t p) → W.iterPos w1.heap.size = p := fun W p h => by simp [World.iterPos, h]
          rw [e1 _ _ (Lib.iterAt_heap _ _ _ _ _ HI.out), e1 _ _ HI.out]
          omega
      · have hnx : ∀ ty, (Instr.next (.pointer (some ⟨w1.heap.size, 0, none⟩)) true ty).run Tryd.prog wr = _ := fun ty => Lib.run_next_end_at wr w1.heap.size t k ty hit hlt
        have hBr : B0 ≤ wr.heap.size := Nat.le_trans hB hb.size
        by_cases hl : t.size < s.size
        · have he := HNE.out (-q)
          clear hit
          go_wp2_with fail
          refine (iFormatInt _ (by omega) (by omega) B0 _ (HT.out.on hb) hBr).mono ?_
          rintro e w2 ⟨rfl, hb2⟩
          go_wp2
          go_ret2
          exact ⟨rfl, hb.trans hb2⟩
        · have he := HNE.out q
          clear hit
          go_wp2_with fail
          refine (iFormatInt _ (by omega) (by omega) B0 _ (HT.out.on hb) hBr).mono ?_
          rintro e w2 ⟨rfl, hb2⟩
          go_wp2
          go_ret2
          exact ⟨rfl, hb.trans hb2⟩

end Go.Proofs.YtljlkhlnjjchgaaDoor
