/-
  The hexadecimal decoder of the model: what each call gives, said by one plain function on bytes.
-/
import Derived.Test.YtljlkhlnjjchgaaHxi
namespace Go.Proofs.Ytljlkhlnjjchgaa
open Go.RowKit

/-- The value of a hexadecimal digit; -1 of another byte. -/
def fh (b : UInt8) : Int := if 48 ≤ b.toNat ∧ b.toNat ≤ 57 then b.toNat - 48 else if 97 ≤ b.toNat ∧ b.toNat ≤ 102 then b.toNat - 87 else -1
theorem fh_range (b : UInt8) : -1 ≤ fh b ∧ fh b ≤ 15 := by unfold fh; split <;> (try split) <;> omega
theorem fh_hexd : ∀ k, k < 16 → fh (hexd k) = k := by decide +kernel
theorem fh_none_nat : ∀ n, n < 256 → (∀ j, j < 16 → hexd j ≠ UInt8.ofNat n) → fh (UInt8.ofNat n) = -1 := by decide +kernel
theorem fh_none (b : UInt8) (h : ∀ j, j < 16 → hexd j ≠ b) : fh b = -1 := by
  have := fh_none_nat b.toNat b.toNat_lt
  rw [UInt8.ofNat_toNat] at this
  exact this h

theorem ret_I {a b : Int} (h : a = b) : Ending.returned (.int .i64 a) = .returned (.int .i64 b) := by rw [h]

set_option maxHeartbeats 400000 in
theorem sFromHex (b : UInt8) (w : World) : Calls Try.prog 25 #[.int .u8 (b.toNat : Int)] w fun e w' => e = .returned (.int .i64 (fh b)) ∧ w = w' := by
  go_enter Try.func25, Try.ntmps25
  go_wp2
  go_loop [3] (fun i => ∃ k : Nat, k ≤ 16 ∧ i = .int .i64 k ∧ Hid (∀ j, j < k → hexd j ≠ b)) (fun i => 16 - (intOf i).toNat)
  case atStart => exact ⟨0, by omega, rfl, by intro j hj; omega⟩
  case round =>
    obtain ⟨k, hk, rfl, hall⟩ := hrel
    by_cases hlt : k < 16
    · have hk0 := sDigit k
      have HD := Lib.hid hk0
      clear hk0
      by_cases he : hexd k = b
      · have ht : (((hexd k).toNat : Int) == (b.toNat : Int)) = true := by rw [he]; simp
        have HE := Lib.hid he
        clear he
        go_wp2_with fail
        refine (HD.out _ hlt).mono ?_
        rintro e w' ⟨rfl, rfl⟩
        go_wp2
        go_ret
        exact ⟨ret_I (by rw [← HE.out, fh_hexd k hlt]), rfl⟩
      · have ht : (((hexd k).toNat : Int) == (b.toNat : Int)) = false := by
          simp only [beq_eq_false_iff_ne, ne_eq, Int.natCast_inj]
          exact fun e => he (UInt8.toNat_inj.1 e)
        have HE := Lib.hid he
        clear he
        go_wp2_with fail
        refine (HD.out _ hlt).mono ?_
        rintro e w' ⟨rfl, rfl⟩
        go_wp2
        go_round
        case rel => exact ⟨k + 1, by omega, by go_num, by
          intro j hj
          rcases Nat.lt_or_ge j k with h | h
          · exact hall.out j h
          · obtain rfl : j = k := by omega
            exact HE.out⟩
        case measure => simp [intOf]; omega
    · go_wp2
      go_ret
      exact ⟨ret_I (fh_none b fun j hj => hall.out j (by omega)).symm, rfl⟩

/-- Are all bytes hexadecimal digits, an even number of them? -/
def hexOk (l : List UInt8) : Bool := l.length % 2 == 0 && l.all fun b => decide (0 ≤ fh b)
def dh (l : List UInt8) (k : Nat) : List UInt8 := (List.range k).map fun j => UInt8.ofNat (16 * fh (l.getD (2 * j) 0) + fh (l.getD (2 * j + 1) 0)).toNat
def dhR (l : List UInt8) : List UInt8 := if hexOk l then dh l (l.length / 2) else []
theorem dh_succ (l : List UInt8) (k : Nat) : dh l (k + 1) = dh l k ++ [UInt8.ofNat (16 * fh (l.getD (2 * k) 0) + fh (l.getD (2 * k + 1) 0)).toNat] := by
  simp [dh, List.range_succ]
theorem hexOk_odd {l : List UInt8} (h : l.length % 2 ≠ 0) : hexOk l = false := by simp [hexOk, h]
theorem hexOk_bad {l : List UInt8} (j : Nat) (hj : j < l.length) (h : fh l[j] < 0) : hexOk l = false := by
  unfold hexOk
  rw [Bool.and_eq_false_iff]
  right
  rw [List.all_eq_false]
  exact ⟨l[j], List.getElem_mem hj, by simp; omega⟩
theorem hexOk_good {l : List UInt8} (h : l.length % 2 = 0) (hall : ∀ j (hj : j < l.length), 0 ≤ fh l[j]) : hexOk l = true := by
  unfold hexOk
  rw [Bool.and_eq_true]
  refine ⟨by simp [h], List.all_eq_true.2 fun b hb => ?_⟩
  obtain ⟨j, hj, rfl⟩ := List.mem_iff_getElem.1 hb
  simpa using hall j hj
theorem dhR_no {l : List UInt8} (h : hexOk l = false) : dhR l = [] := by simp [dhR, h]
theorem dhR_yes {l : List UInt8} (h : hexOk l = true) : dhR l = dh l (l.length / 2) := by simp [dhR, h]
theorem bs_get (s : ByteArray) (k : Nat) (h : k < s.size) : (bs s).getD k 0 = s[k] := by
  rw [List.getD_eq_getElem?_getD, List.getElem?_eq_getElem (by simpa using h)]
  rfl
theorem ret_SB {a b : List UInt8} {x y : Bool} (h : a = b) (h' : x = y) : Ending.returned (.tuple #[.string ⟨a.toArray⟩, .bool x]) = .returned (.tuple #[.string ⟨b.toArray⟩, .bool y]) := by rw [h, h']

theorem B_pair (x y : Int) (h1 : 0 ≤ x) (h2 : x ≤ 15) (h3 : 0 ≤ y) (h4 : y ≤ 15) : Value.int .u8 (16 * x + y) = B (UInt8.ofNat (16 * x + y).toNat) := by
  unfold B
  congr 1
  simp
  omega

set_option maxHeartbeats 1000000 in
set_option maxRecDepth 100000 in
theorem sDecH_any (s : ByteArray) (w : World) (hs : s.size ≤ 4194304) :
    Calls Try.prog 19 #[.string s] w fun e w' => e = .returned (.tuple #[S (dhR (bs s)), .bool (hexOk (bs s))]) ∧ Below w.heap.size w w' := by
  obtain ⟨i0, hi, hz0, hz1, hz2⟩ := info_parts info_u8
  have hFH := Lib.hid sFromHex
  by_cases hodd : s.size % 2 = 1
  · have hn := hexOk_odd (l := bs s) (by rw [bs_length]; omega)
    rw [dhR_no hn, hn]
    have ht : (((s.size : Int) % 2) == 1) = true := by simp; omega
    clear hn hodd
    go_enter Try.func19, Try.ntmps19
    go_wp2
    go_ret2
    exact ⟨rfl, (Below.refl _ _).alloc (Nat.le_refl _) _⟩
  · have ht : (((s.size : Int) % 2) == 1) = false := by simp; omega
    go_enter Try.func19, Try.ntmps19
    go_wp2
    go_loopw [4, 5] (fun v i wr => ∃ k : Nat, 2 * k ≤ s.size ∧ i = .int .i64 (2 * k : Nat) ∧ Hid (∀ j, j < 2 * k → ∀ hj : j < s.size, 0 ≤ fh s[j]) ∧ wr.ownsRow w.heap.size 5 1 v k ((dh (bs s) k).map B) ∧ Below w.heap.size w wr) (fun _ i _ => s.size + 1 - (intOf i).toNat)
    case atStart => exact ⟨0, by omega, rfl, (by intro j hj; omega), by simpa [dh] using World.ownsRow_lit (base := w.heap.size) (e := 5) (size := 1) w #[] 0 (Nat.le_refl _) (by simp [maxLen]) rfl, (Below.refl _ _).alloc (Nat.le_refl _) _⟩
    case round =>
      obtain ⟨k, hk, rfl, hall, hown, hb⟩ := hrel
      have hsz := hb.size
      by_cases hlt : 2 * k < s.size
      · have hlt1 : 2 * k + 1 < s.size := by omega
        have ra := fh_range s[2 * k]
        have rb := fh_range s[2 * k + 1]
        by_cases ha : 0 ≤ fh s[2 * k]
        · by_cases hbb : 0 ≤ fh s[2 * k + 1]
          · go_wp2_with fail
            refine (hFH.out s[2 * k] _).mono ?_
            rintro e w' ⟨rfl, rfl⟩
            go_wp2_with fail
            refine (hFH.out s[2 * k + 1] _).mono ?_
            rintro e w' ⟨rfl, rfl⟩
            go_wp2_with (first | (at_builtin; refine wpList_append_own _ rfl _ _ 36 rfl w.heap.size 5 i0 (.int .u8 0) 1 1 Try.underlying36 hi hz0 hz1 hz2 rfl (by decide) _ _ _ rfl (hown.alloc _) ⟨wr.heap.size, 0, none⟩ 1 1 [.int .u8 (16 * fh s[2 * k] + fh s[2 * k + 1])] rfl rfl (one_new _ _ _) (one_one _ rfl) ?c3 ?c4 ?c5 ?_) | go_in)
            case c3 => unfold maxLen; omega
            case c4 => omega
            case c5 => simp; omega
            intro v' w1 hown1 hgrow _
            rw [B_pair _ _ ha ra.2 hbb rb.2, map_snoc, ← bs_get s (2 * k) hlt, ← bs_get s (2 * k + 1) hlt1, ← dh_succ] at hown1
            go_wp2
            go_roundw
            case rel =>
              have hb' := (hb.alloc hb.size _).grown hgrow (by simp; omega) (fun k hk => (hown.lt k hk).1)
              have hall' : ∀ j, j < 2 * (k + 1) → ∀ hj : j < s.size, 0 ≤ fh s[j] := by
                intro j hj hjs
                rcases Nat.lt_or_ge j (2 * k) with h | h
                · exact hall.out j h hjs
                · rcases Nat.lt_or_ge (2 * k) j with h' | h'
                  · obtain rfl : j = 2 * k + 1 := by omega
                    exact hbb
                  · obtain rfl : j = 2 * k := by omega
                    exact ha
              first
                | exact ⟨k + 1, by omega, by go_num, hall', hown1, hb'⟩
                | (repeat apply Exists.intro
                   exact ⟨⟨k + 1, by omega, by go_num, hall', hown1, hb'⟩, rfl⟩)
            case measure => simp [intOf]; omega
          · have hn := hexOk_bad (l := bs s) (2 * k + 1) (by rw [bs_length]; exact hlt1) (by show fh s[2 * k + 1] < 0; omega)
            have HN := Lib.hid hn
            clear hn
            go_wp2_with fail
            refine (hFH.out s[2 * k] _).mono ?_
            rintro e w' ⟨rfl, rfl⟩
            go_wp2_with fail
            refine (hFH.out s[2 * k + 1] _).mono ?_
            rintro e w' ⟨rfl, rfl⟩
            go_wp2
            go_ret2
            exact ⟨ret_SB (a := []) (dhR_no HN.out).symm HN.out.symm, hb⟩
        · have hn := hexOk_bad (l := bs s) (2 * k) (by rw [bs_length]; exact hlt) (by show fh s[2 * k] < 0; omega)
          have HN := Lib.hid hn
          clear hn
          go_wp2_with fail
          refine (hFH.out s[2 * k] _).mono ?_
          rintro e w' ⟨rfl, rfl⟩
          go_wp2_with fail
          refine (hFH.out s[2 * k + 1] _).mono ?_
          rintro e w' ⟨rfl, rfl⟩
          go_wp2
          go_ret2
          exact ⟨ret_SB (a := []) (dhR_no HN.out).symm HN.out.symm, hb⟩
      · have hk2 : s.size / 2 = k := by omega
        have hev : s.size % 2 = 0 := by omega
        have hn := hexOk_good (l := bs s) (by rw [bs_length]; exact hev) (fun j hj => hall.out j (by rw [bs_length] at hj; omega) (by rw [bs_length] at hj; exact hj))
        have hcv := conv_own hown
        have HN := Lib.hid hn
        clear hn hk2 hev
        go_wp2
        go_ret2
        exact ⟨ret_SB (by rw [dhR_yes HN.out, bs_length]; congr 1; omega) HN.out.symm, hb⟩

end Go.Proofs.Ytljlkhlnjjchgaa
