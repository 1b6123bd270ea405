/-
  THE WALK of lives: the documented examples hold.
-/
import Derived.Test.YtkogodkhhpodnaaBytes
import Derived.Test.YtkogodkhhpodnaaMathTwo
namespace Go.Proofs.Ytkogodkhhpodnaa
open Go.RowKit

theorem Bytes_at (s : ByteArray) (A : Option Addr) (n c : Nat) (zs : List Int) (w : World) (hn : n = zs.length) (hs : s.size ≤ 140737488351232) (hz : zs.length ≤ 140737488351232) (hcap : zs.length ≤ c) (h8 : Bytes8 zs) (hr : RdI w w.heap.size .u8 A zs) :
    Calls Try.prog 17 #[.string s, .slice A n c] w fun e w' => e = .returned (.int .u64 (bytesI (sb s) zs)) ∧ Below w.heap.size w w' := by
  subst hn
  exact Bytes_any s A c zs w hs hz hcap h8 hr

theorem lives1 : sumI (sb ⟨#[97]⟩) [5] ≠ sumI (sb ⟨#[97]⟩) [6] := fun e => by
  have := (sumI_one (l := []) (r := []) (sb_bytes ⟨#[97]⟩) (by decide) (by decide)).1 e
  rw [w64_inj ⟨by decide, by decide⟩ ⟨by decide, by decide⟩] at this
  exact absurd this (by decide)
theorem lives2 : bytesI (sb ⟨#[97]⟩) [1, 2] = sumI (sb ⟨#[97]⟩) [513, 2] := by
  have hw : (words [1, 2]).map wrap64 ++ [(([1, 2] : List Int).length : Int)] = [513, 2] := by decide +kernel
  unfold bytesI
  rw [hw]
theorem lives3 : sumI (sb pairS) [wrap64 1, wrap64 2] ≠ sumI (sb pairS) [wrap64 1, wrap64 3] := fun e => by
  have := (sumI_one (l := [wrap64 1]) (r := []) (sb_bytes pairS) (by decide) (by decide)).1 e
  rw [w64_wrap64 ⟨by decide, by decide⟩, w64_wrap64 ⟨by decide, by decide⟩] at this
  exact absurd this (by decide)

set_option maxHeartbeats 1000000 in
theorem lives_any (w : World) : Calls Try.prog 15 #[] w fun e w' => e = .returned (.bool true) ∧ Below w.heap.size w w' := by
  obtain ⟨a, ha⟩ : ∃ a, a = sumI (sb ⟨#[97]⟩) [5] := ⟨_, rfl⟩
  obtain ⟨b, hb⟩ : ∃ a, a = sumI (sb ⟨#[97]⟩) [6] := ⟨_, rfl⟩
  obtain ⟨c, hc⟩ : ∃ a, a = sumI (sb ⟨#[97]⟩) [513, 2] := ⟨_, rfl⟩
  obtain ⟨p, hp⟩ : ∃ a, a = sumI (sb pairS) [wrap64 1, wrap64 2] := ⟨_, rfl⟩
  obtain ⟨q, hq⟩ : ∃ a, a = sumI (sb pairS) [wrap64 1, wrap64 3] := ⟨_, rfl⟩
  have hab : (a != b) = true := by rw [ha, hb]; simpa using lives1
  have hpq : (p != q) = true := by rw [hp, hq]; simpa using lives3
  have s5 : ∀ w0 : World, Calls Try.prog 13 #[.string ⟨#[97]⟩, .slice (some ⟨w0.heap.size, 0, none⟩) 1 1] (w0.alloc (.cells #[.int .i64 5] 3)) fun e w' => e = .returned (.int .u64 a) ∧ Below (w0.heap.size + 1) (w0.alloc (.cells #[.int .i64 5] 3)) w' := fun w0 => by
    rw [ha]; exact (Sum_at _ _ _ _ [5] _ rfl (by decide) (by decide) (rd_new _ _ _ _ _ rfl _ (by simp))).mono fun e w' h => ⟨h.1, by simpa using h.2⟩
  have s6 : ∀ w0 : World, Calls Try.prog 13 #[.string ⟨#[97]⟩, .slice (some ⟨w0.heap.size, 0, none⟩) 1 1] (w0.alloc (.cells #[.int .i64 6] 3)) fun e w' => e = .returned (.int .u64 b) ∧ Below (w0.heap.size + 1) (w0.alloc (.cells #[.int .i64 6] 3)) w' := fun w0 => by
    rw [hb]; exact (Sum_at _ _ _ _ [6] _ rfl (by decide) (by decide) (rd_new _ _ _ _ _ rfl _ (by simp))).mono fun e w' h => ⟨h.1, by simpa using h.2⟩
  have s513 : ∀ w0 : World, Calls Try.prog 13 #[.string ⟨#[97]⟩, .slice (some ⟨w0.heap.size, 0, none⟩) 2 2] (w0.alloc (.cells #[.int .i64 513, .int .i64 2] 3)) fun e w' => e = .returned (.int .u64 c) ∧ Below (w0.heap.size + 1) (w0.alloc (.cells #[.int .i64 513, .int .i64 2] 3)) w' := fun w0 => by
    rw [hc]; exact (Sum_at _ _ _ _ [513, 2] _ rfl (by decide) (by decide) (rd_new _ _ _ _ _ rfl _ (by simp))).mono fun e w' h => ⟨h.1, by simpa using h.2⟩
  have s12 : ∀ w0 : World, Calls Try.prog 17 #[.string ⟨#[97]⟩, .slice (some ⟨w0.heap.size, 0, none⟩) 2 2] (w0.alloc (.cells #[.int .u8 1, .int .u8 2] 5)) fun e w' => e = .returned (.int .u64 c) ∧ Below (w0.heap.size + 1) (w0.alloc (.cells #[.int .u8 1, .int .u8 2] 5)) w' := fun w0 => by
    rw [hc, ← lives2]; exact (Bytes_at _ _ _ _ [1, 2] _ rfl (by decide) (by decide) (by decide) (by unfold Bytes8; decide) (rd_new _ _ _ _ _ rfl _ (by simp))).mono fun e w' h => ⟨h.1, by simpa using h.2⟩
  have p2 : ∀ w0 : World, Calls Try.prog 19 #[.int .u64 1, .int .u64 2] w0 fun e w' => e = .returned (.int .u64 p) ∧ Below w0.heap.size w0 w' := fun w0 => by
    rw [hp]; exact Pair_any 1 2 w0
  have p3 : ∀ w0 : World, Calls Try.prog 19 #[.int .u64 1, .int .u64 3] w0 fun e w' => e = .returned (.int .u64 q) ∧ Below w0.heap.size w0 w' := fun w0 => by
    rw [hq]; exact Pair_any 1 3 w0
  clear ha hb hc hp hq
  go_enter Try.func15, Try.ntmps15
  go_wp2_with (first
    | (go_at_call 13; refine (s5 _).mono ?_; clear s5; rintro e w1 ⟨rfl, hb1⟩)
    | (go_at_call 13; refine (s6 _).mono ?_; clear s6; rintro e w2 ⟨rfl, hb2⟩)
    | (go_at_call 13; refine (s513 _).mono ?_; clear s513; rintro e w4 ⟨rfl, hb4⟩)
    | (go_at_call 17; refine (s12 _).mono ?_; clear s12; rintro e w3 ⟨rfl, hb3⟩)
    | (go_at_call 19; refine (p2 _).mono ?_; clear p2; rintro e w5 ⟨rfl, hb5⟩)
    | (go_at_call 19; refine (p3 _).mono ?_; clear p3; rintro e w6 ⟨rfl, hb6⟩))
  go_ret
  refine ⟨rfl, ?_⟩
  have c1 := ((Below.refl _ w).alloc (Nat.le_refl _) _).trans (hb1.mono (Nat.le_succ _))
  have c2 := (c1.alloc c1.size _).trans (hb2.mono (Nat.le_succ_of_le c1.size))
  have c3 := (c2.alloc c2.size _).trans (hb3.mono (Nat.le_succ_of_le c2.size))
  have c4 := (c3.alloc c3.size _).trans (hb4.mono (Nat.le_succ_of_le c3.size))
  have c5 := c4.trans (hb5.mono c4.size)
  exact c5.trans (hb6.mono c5.size)
end Go.Proofs.Ytkogodkhhpodnaa
