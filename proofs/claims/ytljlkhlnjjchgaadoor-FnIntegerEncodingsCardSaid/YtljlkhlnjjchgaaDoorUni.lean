/-
  The hexadecimal decoder of the program: what each call gives.
-/
import Derived.Test.YtljlkhlnjjchgaaDoorUnh
import Derived.Lib.OthersKept
namespace Go.Proofs.YtljlkhlnjjchgaaDoor
open Go.RowKit

theorem ret_UB {a b : Int} {x : Bool} (h : a = b) : Ending.returned (.tuple #[.int .u8 a, .bool x]) = .returned (.tuple #[.int .u8 b, .bool x]) := by rw [h]

theorem iHexVal_yes (b : UInt8) (w : World) (h : 0 ≤ fh b) : Calls Tryd.prog 28 #[.int .i32 (b.toNat : Int)] w fun e w' => e = .returned (.tuple #[.int .u8 (fh b), .bool true]) ∧ w = w' := by
  have hb := b.toNat_lt
  unfold fh at h ⊢
  split
  · rename_i hc
    obtain ⟨h1, h2⟩ := hc
    clear h
    go_enter Tryd.func28, Tryd.ntmps28
    go_wp2
    go_ret2
    exact ⟨ret_UB (by first | rfl | omega), rfl⟩
  · rename_i hc
    rw [if_neg hc] at h
    split
    · rename_i hd
      obtain ⟨h1, h2⟩ := hd
      clear h hc
      go_enter Tryd.func28, Tryd.ntmps28
      go_wp2
      go_ret2
      exact ⟨ret_UB (by first | rfl | omega), rfl⟩
    · rename_i hd
      rw [if_neg hd] at h
      omega
theorem iHexVal_no (r : Int) (w : World) (h : r < 48 ∨ 57 < r) (h' : r < 97 ∨ 102 < r) : Calls Tryd.prog 28 #[.int .i32 r] w fun e w' => e = .returned (.tuple #[.int .u8 0, .bool false]) ∧ w = w' := by
  by_cases h1 : 48 ≤ r
  · by_cases h2 : r ≤ 57
    · omega
    · by_cases h3 : 97 ≤ r
      · by_cases h4 : r ≤ 102
        · omega
        · go_enter Tryd.func28, Tryd.ntmps28
          go_wp2
          go_ret2
          exact ⟨rfl, rfl⟩
      · go_enter Tryd.func28, Tryd.ntmps28
        go_wp2
        go_ret2
        exact ⟨rfl, rfl⟩
  · go_enter Tryd.func28, Tryd.ntmps28
    go_wp2
    go_ret2
    exact ⟨rfl, rfl⟩

/-- The value that an unfinished byte holds after k digits. -/
def half (l : List UInt8) (k : Nat) : Int := if k % 2 = 1 then fh (l.getD (k - 1) 0) else 0
def cellAt (l : List UInt8) (k j : Nat) : UInt8 :=
  if 2 * j + 1 < k then UInt8.ofNat (16 * fh (l.getD (2 * j) 0) + fh (l.getD (2 * j + 1) 0)).toNat else if 2 * j < k then UInt8.ofNat (fh (l.getD (2 * j) 0)).toNat else 0
def cells (l : List UInt8) (k H : Nat) : List UInt8 := (List.range H).map (cellAt l k)
theorem cells_length (l : List UInt8) (k H : Nat) : (cells l k H).length = H := by simp [cells]
theorem cells_zero (l : List UInt8) (H : Nat) : cells l 0 H = List.replicate H 0 := by
  apply List.ext_getElem
  · simp [cells]
  · intro i h1 h2
    simp [cells, cellAt]
theorem cells_end (l : List UInt8) (H : Nat) : cells l (2 * H) H = dh l H := by
  unfold cells dh
  apply List.map_congr_left
  intro j hj
  rw [List.mem_range] at hj
  rw [cellAt, if_pos (by omega)]
theorem cells_at (l : List UInt8) (k H : Nat) (h : k / 2 < H) (h0 : 0 ≤ half l k) : (((cells l k H).map B)[k / 2]?) = some (.int .u8 (half l k)) := by
  simp only [cells, List.getElem?_map, List.getElem?_range h, Option.map_some]
  congr 1
  unfold cellAt half at *
  rw [if_neg (by omega)]
  by_cases hp : k % 2 = 1
  · rw [if_pos hp] at h0 ⊢
    rw [if_pos (by omega), show 2 * (k / 2) = k - 1 by omega]
    have := (fh_range (l.getD (k - 1) 0)).2
    generalize fh (l.getD (k - 1) 0) = x at *
    unfold B
    congr 1
    simp
    omega
  · rw [if_neg hp, if_neg (by omega)]
    rfl
theorem cells_set (l : List UInt8) (k H : Nat) : ((cells l k H).map B).set (k / 2) (B (UInt8.ofNat (16 * half l k + fh (l.getD k 0)).toNat)) = (cells l (k + 1) H).map B := by
  rw [← List.map_set]
  congr 1
  apply List.ext_getElem
  · simp [cells]
  · intro j h1 h2
    rw [List.getElem_set]
    have hj : j < H := by simpa [cells] using h2
    simp only [cells, List.getElem_map, List.getElem_range]
    by_cases he : k / 2 = j
    · rw [if_pos he]
      unfold cellAt half
      by_cases hp : k % 2 = 1
      · rw [if_pos hp, if_pos (by omega), show 2 * j = k - 1 by omega, show k - 1 + 1 = k by omega]
      · rw [if_neg hp, if_neg (by omega), if_pos (by omega), show 2 * j = k by omega]
        simp
    · rw [if_neg he]
      unfold cellAt
      by_cases h3 : 2 * j + 1 < k
      · rw [if_pos h3, if_pos (by omega)]
      · have h4 : ¬ 2 * j < k := by omega
        have h5 : ¬ 2 * j + 1 < k + 1 := by omega
        have h6 : ¬ 2 * j < k + 1 := by omega
        rw [if_neg h3, if_neg h4, if_neg h5, if_neg h6]
theorem cells_set' (s : ByteArray) (k H : Nat) (h : k < s.size) (h1 : 0 ≤ half (bs s) k) (h2 : half (bs s) k ≤ 15) (h3 : 0 ≤ fh s[k]) :
    ((cells (bs s) k H).map B).set (k / 2) (.int .u8 (16 * half (bs s) k + fh s[k])) = (cells (bs s) (k + 1) H).map B := by
  have := cells_set (bs s) k H
  rw [bs_get s k h, ← B_pair _ _ h1 h2 h3 (fh_range _).2] at this
  exact this
theorem fh_no (b : UInt8) (h : ¬ 0 ≤ fh b) : (b.toNat < 48 ∨ 57 < b.toNat) ∧ (b.toNat < 97 ∨ 102 < b.toNat) := by
  unfold fh at h
  split at h
  · omega
  · split at h <;> omega
theorem half_range (l : List UInt8) (k : Nat) (h : k % 2 = 1 → 0 ≤ fh (l.getD (k - 1) 0)) : 0 ≤ half l k ∧ half l k ≤ 15 := by
  unfold half
  split
  · rename_i hp
    exact ⟨h hp, (fh_range _).2⟩
  · omega

theorem or16 (x y : Int) (h1 : 0 ≤ x) (h2 : x ≤ 15) (h3 : 0 ≤ y) (h4 : y ≤ 15) : bits BinOp.or .u8 (x * 16) y = 16 * x + y := by
  obtain ⟨a, rfl⟩ := Int.eq_ofNat_of_zero_le h1
  obtain ⟨b, rfl⟩ := Int.eq_ofNat_of_zero_le h3
  have h := u8_or_nat (a * 16) b (by omega) (by omega)
  rw [nat_join 4 (a * 16) b (by omega) (by omega)] at h
  push_cast at h
  rw [h]
  omega

theorem grown_iterAt {w : World} {k : Nat} (s : ByteArray) (pos : Nat) : w.grownBy (w.iterAt k s pos) (some k) :=
  ⟨rfl, rfl, rfl, by rw [Lib.iterAt_size]; exact Nat.le_refl _, fun i _ hne => Lib.iterAt_other _ _ _ _ _ (fun e => hne (by rw [e]))⟩

set_option maxHeartbeats 1000000 in
set_option maxRecDepth 100000 in
theorem iDecH_any (s : ByteArray) (w : World) (hs : s.size ≤ 4194304) :
    Calls Tryd.prog 16 #[.string s] w fun e w' => e = .returned (.tuple #[S (dhR (bs s)), .bool (hexOk (bs s))]) ∧ Below w.heap.size w w' := by
  obtain ⟨i0, hi, hz0, hz1, hz2⟩ := info_parts info_u8
  by_cases hodd : s.size % 2 = 1
  · have hn := hexOk_odd (l := bs s) (by rw [bs_length]; omega)
    rw [dhR_no hn, hn]
    have ht : (((s.size : Int) % 2) != 0) = true := by rw [bne_iff_ne]; omega
    clear hn hodd
    go_enter Tryd.func16, Tryd.ntmps16
    go_wp2
    go_ret2
    exact ⟨rfl, Below.refl _ _⟩
  · have ht : (((s.size : Int) % 2) != 0) = false := by rw [bne_eq_false_iff_eq]; omega
    obtain ⟨H, hH⟩ : ∃ H, s.size = 2 * H := ⟨s.size / 2, by omega⟩
    have HH := Lib.hid hH
    have hH1 : 2 * H ≤ s.size := by omega
    have hH2 : s.size ≤ 2 * H := by omega
    clear hH hodd
    go_enter Tryd.func16, Tryd.ntmps16
    go_wp2_with (first | (at_make; refine wpList_make_full _ rfl _ _ 22 rfl w.heap.size 5 i0 (.int .u8 0) 1 Tryd.underlying22 hi hz0 hz1 _ _ _ _ H rfl rfl ?c1 ?c2 ?b2 ?b3 (Nat.le_refl _) ?_) | go_in)
    case c1 => omega
    case c2 => omega
    case b2 => rw [hz2]; omega
    case b3 => unfold maxLen; omega
    intro w0 hown0 hgrow0
    rw [toList_madeCells_one] at hown0
    have hw0 := hgrow0.size
    have hKlt : w.heap.size < w0.heap.size := (hown0.lt _ rfl).2
    go_wp2
    go_loopw [5, 6] (fun _ _ wr => ∃ k : Nat, k ≤ s.size ∧ Hid (∀ j, j < k → ∀ hj : j < s.size, 0 ≤ fh s[j]) ∧ wr.heap[w0.heap.size]? = some (.stringIter s k) ∧
        wr.ownsRow w.heap.size 5 1 (.slice (some ⟨w.heap.size, 0, none⟩) H H) H ((cells (bs s) k H).map B) ∧ Below w.heap.size w wr) (fun _ _ wr => s.size - wr.iterPos w0.heap.size)
    case atStart => exact ⟨0, by omega, (by intro j hj; omega), World.iter_heap w0 s 0, by rw [cells_zero]; simpa [B] using (show (w0.iter s 0).ownsRow _ _ _ _ _ _ from hown0.alloc _), ((Below.refl _ _).grown hgrow0 (Nat.le_refl _) (fun k h => by cases h)).alloc hw0 _⟩
    case round =>
      obtain ⟨k, hk, hall, hit, hown, hb⟩ := hrel
      have HI := Lib.hid hit
      by_cases hlt : k < s.size
      · by_cases hg : 0 ≤ fh s[k]
        · have hasc : s[k].toNat < 128 := by
            unfold fh at hg
            split at hg
            · omega
            · split at hg <;> omega
          have hnx : ∀ ty, (Instr.next (.pointer (some ⟨w0.heap.size, 0, none⟩)) true ty).run Tryd.prog wr = _ := fun ty => Lib.run_next_ascii_at wr w0.heap.size s k ty hit hlt hasc
          clear hit
          have HV := Lib.hid (fun W => iHexVal_yes s[k] W hg)
          have hr := (fh_range s[k]).2
          have hkH : k / 2 < H := by omega
          have hh := half_range (bs s) k (fun hp => by
            have h1 : k - 1 < s.size := by omega
            have h2 : k - 1 < k := by omega
            rw [bs_get s (k - 1) h1]
            exact hall.out (k - 1) h2 h1)
          have hown1 := hown.kept (grown_iterAt (w := wr) (k := w0.heap.size) s (k + 1)) (.inr (by intro e; have h9 : w.heap.size = w0.heap.size := Option.some.inj e; omega))
          have hcell := hown1.cellAt (k / 2) (by omega)
          rw [cells_at (bs s) k H hkH hh.1] at hcell
          have hfr := hown1.frozenAt (k / 2)
          have HS := Lib.hid (hown1.stored (k / 2) (.int .u8 (16 * half (bs s) k + fh s[k])))
          have hh1 := hh.1
          have hh2 := hh.2
          have ho := or16 (half (bs s) k) (fh s[k]) hh1 hh2 hg hr
          clear hh
          go_wp2_with fail
          refine (HV.out _).mono ?_
          rintro e w' ⟨rfl, rfl⟩
          go_wp2
          have HS1 := HS.out
          rw [cells_set' s k H hlt hh1 hh2 hg] at HS1
          have hit1 : ((wr.iterAt w0.heap.size s (k + 1)).setCell ⟨w.heap.size, k / 2, none⟩ (.int .u8 (16 * half (bs s) k + fh s[k]))).heap[w0.heap.size]? = some (.stringIter s (k + 1)) := by
            rw [Below.heap_setCell _ _ _ _ (by show w0.heap.size ≠ w.heap.size; omega)]
            exact Lib.iterAt_heap _ _ _ _ _ HI.out
          go_roundw
          case rel => exact ⟨k + 1, by omega, (by
            intro j hj hjs
            rcases Nat.lt_or_ge j k with h | h
            · exact hall.out j h hjs
            · obtain rfl : j = k := by omega
              exact hg), hit1, HS1.1, (Lib.below_iterAt hb (by omega) s (k + 1)).setCell (by exact Nat.le_refl _) _⟩
          case measure =>
            have e1 : ∀ (W : World) p, W.heap[w0.heap.size]? = some (.stringIter s p) → W.iterPos w0.heap.size = p := fun W p h => by simp [World.iterPos, h]
            rw [e1 _ _ hit1, e1 _ _ HI.out]
            omega
        · have hn := hexOk_bad (l := bs s) k (by rw [bs_length]; exact hlt) (by show fh s[k] < 0; omega)
          have HN := Lib.hid hn
          clear hn
          have HB := hb
          by_cases hasc : s[k].toNat < 128
          · have hnx : ∀ ty, (Instr.next (.pointer (some ⟨w0.heap.size, 0, none⟩)) true ty).run Tryd.prog wr = _ := fun ty => Lib.run_next_ascii_at wr w0.heap.size s k ty hit hlt hasc
            have hno := fh_no s[k] hg
            have HV := Lib.hid (fun W => iHexVal_no (s[k].toNat : Int) W (by omega) (by omega))
            clear hit hno
            go_wp2_with fail
            refine (HV.out _).mono ?_
            rintro e w' ⟨rfl, rfl⟩
            go_wp2
            go_ret2
            exact ⟨ret_SB (a := []) (dhR_no HN.out).symm HN.out.symm, Lib.below_iterAt hb (by omega) s (k + 1)⟩
          · have hnx : ∀ ty, (Instr.next (.pointer (some ⟨w0.heap.size, 0, none⟩)) true ty).run Tryd.prog wr = _ := fun ty => Lib.run_next_any_at wr w0.heap.size s k ty hit hlt
            have hd := (decode_high s k hlt (by omega)).1
            have HV := Lib.hid (fun W => iHexVal_no ((Utf8.decode s k).1 : Int) W (by omega) (by omega))
            clear hit hd
            go_wp2_with fail
            refine (HV.out _).mono ?_
            rintro e w' ⟨rfl, rfl⟩
            go_wp2
            go_ret2
            exact ⟨ret_SB (a := []) (dhR_no HN.out).symm HN.out.symm, Lib.below_iterAt hb (by omega) s _⟩
      · have hnx : ∀ ty, (Instr.next (.pointer (some ⟨w0.heap.size, 0, none⟩)) true ty).run Tryd.prog wr = _ := fun ty => Lib.run_next_end_at wr w0.heap.size s k ty hit hlt
        have hcv := conv_own hown
        have hkk : k = 2 * H := by omega
        have HK := Lib.hid hkk
        have HN := Lib.hid (hexOk_good (l := bs s) (by rw [bs_length]; omega) (fun j hj => hall.out j (by rw [bs_length] at hj; omega) (by rw [bs_length] at hj; exact hj)))
        clear hit hkk
        go_wp2
        go_ret2
        exact ⟨ret_SB (by rw [dhR_yes HN.out, bs_length, HK.out, cells_end]; congr 1; omega) HN.out.symm, hb⟩

end Go.Proofs.YtljlkhlnjjchgaaDoor
