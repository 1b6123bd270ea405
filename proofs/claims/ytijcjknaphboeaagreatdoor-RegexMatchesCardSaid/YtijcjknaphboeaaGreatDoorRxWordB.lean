/-
  THE WALK of the reference's Word, once more: the string hangs on the number alone.
-/
import Derived.Test.YtijcjknaphboeaaGreatDoorRxWord
namespace Go.Proofs.YtijcjknaphboeaaGreatDoor
open Go.RowKit

def t8 (p : Nat) : Int := [97, 98, 97, 98, 99, 0, 39, 255].getD p 0
/-- what Word has read and written behind j rounds -/
def wl (q : Nat) : Nat → Nat × List Int
  | 0 => (q, [])
  | j + 1 => ((wl q j).1 / 8, (wl q j).2 ++ [t8 ((wl q j).1 % 8)])
theorem wl_len (q : Nat) : ∀ j, (wl q j).2.length = j
  | 0 => rfl
  | j + 1 => by simp only [wl, List.length_append, wl_len q j, List.length_cons, List.length_nil]
theorem tab8f {W : World} {b k : Nat} (h : k < 8) (hb : W.heap[b]? = some (.cells #[.int .u8 97, .int .u8 98, .int .u8 97, .int .u8 98, .int .u8 99, .int .u8 0, .int .u8 39, .int .u8 255] 5 (0, 0))) : W.cell? ⟨b, k, none⟩ = some (.int .u8 (t8 k)) := by
  have e := cell_of_row W b k _ _ _ hb
  obtain rfl | rfl | rfl | rfl | rfl | rfl | rfl | rfl : k = 0 ∨ k = 1 ∨ k = 2 ∨ k = 3 ∨ k = 4 ∨ k = 5 ∨ k = 6 ∨ k = 7 := by omega
  all_goals exact e
set_option maxHeartbeats 1000000 in
set_option maxRecDepth 100000 in
theorem word_fn (n : Int) (hn : I64 n) : ∃ S : ByteArray, S.size ≤ 5 ∧ ∀ w, Calls Tryz.prog 19 #[.int .i64 n] w fun e w' => e = .returned (.string S) ∧ Below w.heap.size w w' := by
  obtain ⟨k, hk, hA⟩ := Around_big n 16777216 hn (by decide) (by decide)
  refine ⟨strOfNums (wl (k / 6) (k % 6)).2, by rw [str_size, wl_len]; omega, fun w => ?_⟩
  have HA := Lib.hid hA
  obtain ⟨i0, hi, hz0, hz1, hz2⟩ := info_parts info_u8
  clear hA
  obtain ⟨m, hm⟩ : ∃ m, k % 6 = m := ⟨_, rfl⟩
  have hm6 : m < 6 := by omega
  obtain ⟨q, hq⟩ : ∃ q, k / 6 = q := ⟨_, rfl⟩
  have hq6 : q < 16777216 := by omega
  have e1 : (k : Int).tmod 6 = m := by rw [Int.tmod_eq_emod_of_nonneg (by omega)]; omega
  have e2 : (k : Int) / 6 = q := by rw [← hq]; omega
  go_enter Tryz.func19, Tryz.ntmps19
  go_wp2_with (first | (go_at_call 24; refine Calls.mono (HA.out _) ?_; rintro e w1 ⟨rfl, rfl⟩))
  go_loopw [3, 4, 6] (fun kv ov iv wr => ∃ (z j : Nat) (zs : List Int), z < 16777216 ∧ j ≤ m ∧ kv = .int .i64 z ∧ iv = .int .i64 j ∧ Hid (wl q j = (z, zs)) ∧ wr.ownsRow w.heap.size 5 1 ov j (zs.map (Value.int .u8)) ∧ Below w.heap.size w wr) (fun _ _ iv _ => m - (intOf iv).toNat)
  case atStart => exact ⟨q, 0, [], hq6, Nat.zero_le _, by first | rfl | (rw [e2]), rfl, Lib.hid rfl, World.ownsRow_nil _ _ _ _, Below.refl _ _⟩
  case round =>
    clear e1 e2 hq6
    have HQ := Lib.hid hq
    have HM := Lib.hid hm
    clear hq hm
    obtain ⟨z, j, zs, hz, hj, rfl, rfl, hlen, hrow, hW⟩ := hrel
    by_cases hlt : j < m
    · have hlt' : (j : Int) < m := by omega
      obtain ⟨p, hp⟩ : ∃ p, z % 8 = p := ⟨_, rfl⟩
      obtain ⟨z', hz'⟩ : ∃ z', z / 8 = z' := ⟨_, rfl⟩
      have hp8 : p < 8 := by omega
      have d1 : (z : Int).tmod 8 = p := by rw [Int.tmod_eq_emod_of_nonneg (by omega)]; omega
      have d2 : (z : Int) / 8 = z' := by omega
      have hzl : z' < 16777216 := by omega
      have hsz := hW.size
      have hcell := tab8f (W := wr.alloc (.cells #[.int .u8 97, .int .u8 98, .int .u8 97, .int .u8 98, .int .u8 99, .int .u8 0, .int .u8 39, .int .u8 255] 5)) (k := p) hp8 (heap_alloc_new wr _)
      obtain ⟨u, hu⟩ : ∃ u, t8 p = u := ⟨_, rfl⟩
      rw [hu] at hcell
      have HU := Lib.hid hu
      clear hu
      go_wp2_with (at_builtin; refine wpList_append_lies _ rfl (.tmp 18) (.tmp 24) 52 rfl w.heap.size 5 i0 (.int .u8 0) 1 1 Tryz.underlying52 hi hz0 hz1 hz2 rfl (by decide) _ j _ rfl ((hrow.alloc _).alloc _) ⟨wr.heap.size + 1, 0, none⟩ 1 1 [.int .u8 u] rfl rfl (World.news_of_block (cs := #[.int .u8 u]) (t := 5) (fr := (0, 0)) (heap_alloc_new_at _ _ (by simp))) (by simp [Value.oneCell']) (by decide) (by unfold maxLen; omega) (by omega) (by simp; omega) (wr.heap.size + 2) (by simp) ?_; intro g cap w5 hown5 hgrow5 hat5 hlt5)

      go_roundw
      case rel => exact ⟨z', j + 1, zs ++ [u], hzl, by omega, by first | rfl | (rw [d2]), by go_num, Lib.hid (by show ((wl q j).1 / 8, (wl q j).2 ++ [t8 ((wl q j).1 % 8)]) = _; rw [hlen.out]; show (z / 8, zs ++ [t8 (z % 8)]) = _; rw [hp, HU.out, hz']), by rw [List.map_append]; exact hown5, ((hW.alloc hsz _).alloc (by simp; omega) _).grown hgrow5 (by simp; omega) (fun j ej => (own_blk_lt hrow ej.symm).1)⟩
      case measure => simp [intOf]; omega
    · obtain rfl : j = m := by omega
      have hlt' : ¬ (j : Int) < j := by omega
      obtain ⟨A, c, rfl⟩ := row_val hrow
      have hzl : zs.length = j := by have := wl_len q j; rw [hlen.out] at this; exact this
      have hcv := conv_row A j c zs wr _ hzl (rd_own hrow)
      have HE := Lib.hid (show zs = (wl (k / 6) (k % 6)).2 by rw [HQ.out, HM.out, hlen.out])
      clear hzl
      go_wp2_with fail
      go_ret
      exact ⟨by rw [← HE.out]; rfl, hW⟩
end Go.Proofs.YtijcjknaphboeaaGreatDoor
