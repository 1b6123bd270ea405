/-
  THE WALK of the reference's Word: a string of up to five bytes.
  THE WALK of the reference's Word, once more: the string hangs on the number alone.
-/
import Derived.Test.YtnjkihbmhacgoaaGreatDoorRef
import Derived.Test.YtnjkihbmhacgoaaGreatDoorRxW
import Derived.Deep.AppendLies
namespace Go.Proofs.YtnjkihbmhacgoaaGreatDoor
open Go.RowKit

theorem Around_big (n : Int) (m : Nat) (hn : I64 n) (hm : 1 ≤ m) (hm2 : m ≤ 100000000) : ∃ k : Nat, k < m ∧ ∀ w : World, Calls Tryz.prog 19 #[.int .i64 n, .int .i64 m] w fun e w' => e = .returned (.int .i64 k) ∧ w = w' := by
  have hb := aroundI_bounds (n := n) (most := m) (by omega)
  refine ⟨(aroundI n m).toNat, by omega, fun w => ?_⟩
  rw [show (((aroundI n m).toNat : Nat) : Int) = aroundI n m by omega]
  obtain ⟨h1, h2⟩ := hn
  obtain ⟨q, hq⟩ : ∃ q : Int, (m : Int) = q := ⟨_, rfl⟩
  rw [hq]
  have hm1 : 1 ≤ q := by omega
  have hm3 : q ≤ 100000000 := by omega
  clear hb hq hm hm2
  unfold aroundI
  by_cases h : n < 0
  · go_enter Tryz.func19, Tryz.ntmps19
    go_wp2
    go_ret
    refine ⟨?_, rfl⟩
    show Ending.returned (.int .i64 (-(n + 1).tmod q)) = _
    rw [← Int.neg_tmod, Int.tmod_eq_emod_of_nonneg (by omega)]
  · go_enter Tryz.func19, Tryz.ntmps19
    go_wp2
    go_ret
    exact ⟨rfl, rfl⟩
/-- a call that hands back a short string -/
def GivesW (w : World) (n : Nat) (e : Ending) (w' : World) : Prop := ∃ S : ByteArray, e = .returned (.string S) ∧ S.size ≤ n ∧ Below w.heap.size w w'
theorem conv_row (A : Option Addr) (n c : Nat) (zs : List Int) (W : World) (B : Nat) (hn : zs.length = n) (hr : RdI W B .u8 A zs) :
    (convert 70 9 (.slice A n c)).run Tryz.prog W = .ok (.string (strOfNums zs)) W := by
  cases A with
  | none =>
    rcases hr with rfl | ⟨b, o, e, _⟩
    · exact run_convert_bytes_nil W 70 5 Tryz.underlying70 Tryz.underlying5 n c 9 Tryz.underlying9
    · cases e
  | some x =>
    have hl : (loadCells x n).run Tryz.prog W = .ok (zs.map (Value.int .u8)).toArray W := by
      have hc := rd_cells hr zs.length
      rw [List.take_length] at hc
      have := run_loadCells_list (P := Tryz.prog) W x (zs.map (Value.int .u8)) (fun j v hj => hc j v hj)
      simpa [hn] using this
    rw [run_convert_bytes_string W 70 9 5 _ n c Tryz.underlying70 Tryz.underlying5 Tryz.underlying9, run_bytesToString W _ n c zs hl, foldl_push_bytes]
    simp [strOfNums, ByteArray.empty, ByteArray.emptyWithCapacity]
    rfl
theorem row_val {w : World} {base e size n : Nat} {v : Value} {xs : List Value} (h : w.ownsRow base e size v n xs) : ∃ A c, v = .slice A n c := by
  rcases h.2 with ⟨hv, h0⟩ | ⟨g, cap, cur, hv, _⟩
  · exact ⟨none, 0, by rw [hv, h0]⟩
  · exact ⟨_, _, hv⟩
theorem str_size (zs : List Int) : (strOfNums zs).size = zs.length := by
  have e : (strOfNums zs).data.toList = zs.map fun n => UInt8.ofNat n.toNat := strOfNums_data zs
  have : (strOfNums zs).data.size = zs.length := by rw [← Array.length_toList, e, List.length_map]
  exact this
theorem tab8 {W : World} {b k : Nat} (h : k < 8) (hb : W.heap[b]? = some (.cells #[.int .u8 97, .int .u8 98, .int .u8 97, .int .u8 98, .int .u8 99, .int .u8 0, .int .u8 39, .int .u8 255] 5 (0, 0))) : ∃ x : Int, (0 ≤ x ∧ x < 256) ∧ W.cell? ⟨b, k, none⟩ = some (.int .u8 x) := by
  have e := cell_of_row W b k _ _ _ hb
  obtain rfl | rfl | rfl | rfl | rfl | rfl | rfl | rfl : k = 0 ∨ k = 1 ∨ k = 2 ∨ k = 3 ∨ k = 4 ∨ k = 5 ∨ k = 6 ∨ k = 7 := by omega
  all_goals exact ⟨_, by decide, e⟩
set_option maxHeartbeats 1000000 in
set_option maxRecDepth 100000 in
theorem word_any (n : Int) (w : World) (hn : I64 n) : Calls Tryz.prog 16 #[.int .i64 n] w (GivesW w 5) := by
  obtain ⟨k, hk, hA⟩ := Around_big n 16777216 hn (by decide) (by decide)
  have HA := Lib.hid hA
  obtain ⟨i0, hi, hz0, hz1, hz2⟩ := info_parts info_u8
  clear hA
  obtain ⟨m, hm⟩ : ∃ m, k % 6 = m := ⟨_, rfl⟩
  have hm6 : m < 6 := by omega
  obtain ⟨q, hq⟩ : ∃ q, k / 6 = q := ⟨_, rfl⟩
  have hq6 : q < 16777216 := by omega
  have e1 : (k : Int).tmod 6 = m := by rw [Int.tmod_eq_emod_of_nonneg (by omega)]; omega
  have e2 : (k : Int) / 6 = q := by rw [← hq]; omega
  go_enter Tryz.func16, Tryz.ntmps16
  go_wp2_with (first | (go_at_call 19; refine Calls.mono (HA.out _) ?_; rintro e w1 ⟨rfl, rfl⟩))
  go_loopw [3, 4, 6] (fun kv ov iv wr => ∃ (z j : Nat) (zs : List Int), z < 16777216 ∧ j ≤ m ∧ kv = .int .i64 z ∧ iv = .int .i64 j ∧ Hid (zs.length = j) ∧ wr.ownsRow w.heap.size 5 1 ov j (zs.map (Value.int .u8)) ∧ Below w.heap.size w wr) (fun _ _ iv _ => m - (intOf iv).toNat)
  case atStart => exact ⟨q, 0, [], hq6, Nat.zero_le _, by first | rfl | (rw [e2]), rfl, Lib.hid rfl, World.ownsRow_nil _ _ _ _, Below.refl _ _⟩
  case round =>
    clear e1 e2 hq hm hq6
    obtain ⟨z, j, zs, hz, hj, rfl, rfl, hlen, hrow, hW⟩ := hrel
    by_cases hlt : j < m
    · have hlt' : (j : Int) < m := by omega
      obtain ⟨p, hp⟩ : ∃ p, z % 8 = p := ⟨_, rfl⟩
      obtain ⟨z', hz'⟩ : ∃ z', z / 8 = z' := ⟨_, rfl⟩
      have hp8 : p < 8 := by omega
      have d1 : (z : Int).tmod 8 = p := by rw [Int.tmod_eq_emod_of_nonneg (by omega)]; omega
      have d2 : (z : Int) / 8 = z' := by omega
      have hzl : z' < 16777216 := by omega
      have hsz := hW.size
      obtain ⟨u, hu, hcell⟩ := tab8 (W := wr.alloc (.cells #[.int .u8 97, .int .u8 98, .int .u8 97, .int .u8 98, .int .u8 99, .int .u8 0, .int .u8 39, .int .u8 255] 5)) (k := p) hp8 (heap_alloc_new wr _)
      go_wp2_with (at_builtin; refine wpList_append_lies _ rfl (.tmp 18) (.tmp 24) 70 rfl w.heap.size 5 i0 (.int .u8 0) 1 1 Tryz.underlying70 hi hz0 hz1 hz2 rfl (by decide) _ j _ rfl ((hrow.alloc _).alloc _) ⟨wr.heap.size + 1, 0, none⟩ 1 1 [.int .u8 u] rfl rfl (World.news_of_block (cs := #[.int .u8 u]) (t := 5) (fr := (0, 0)) (heap_alloc_new_at _ _ (by simp))) (by simp [Value.oneCell']) (by decide) (by unfold maxLen; omega) (by omega) (by simp; omega) (wr.heap.size + 2) (by simp) ?_; intro g cap w5 hown5 hgrow5 hat5 hlt5)

      go_roundw
      case rel => exact ⟨z', j + 1, zs ++ [u], hzl, by omega, by first | rfl | (rw [d2]), by go_num, Lib.hid (by rw [List.length_append, hlen.out]; rfl), by rw [List.map_append]; exact hown5, ((hW.alloc hsz _).alloc (by simp; omega) _).grown hgrow5 (by simp; omega) (fun j ej => (own_blk_lt hrow ej.symm).1)⟩
      case measure => simp [intOf]; omega
    · obtain rfl : j = m := by omega
      have hlt' : ¬ (j : Int) < j := by omega
      obtain ⟨A, c, rfl⟩ := row_val hrow
      have hcv := conv_row A j c zs wr _ hlen.out (rd_own hrow)
      go_wp2_with fail
      go_ret
      exact ⟨_, rfl, by rw [str_size, hlen.out]; omega, hW⟩
end Go.Proofs.YtnjkihbmhacgoaaGreatDoor

namespace Go.Proofs.YtnjkihbmhacgoaaGreatDoor
open Go.RowKit

def t8 (p : Nat) : Int := [97, 98, 97, 98, 99, 0, 39, 255].getD p 0
/-- what Word has read and written behind j rounds -/
def wl (q : Nat) : Nat → Nat × List Int
  | 0 => (q, [])
  | j + 1 => ((wl q j).1 / 8, (wl q j).2 ++ [t8 ((wl q j).1 % 8)])
theorem wl_len (q : Nat) : ∀ j, (wl q j).2.length = j
  | 0 => rfl
  | j + 1 => by simp only [wl, List.length_append, wl_len q j, List.length_cons, List.length_nil]
theorem tab8f {W : World} {b k : Nat} (h : k < 8) (hb : W.heap[b]? = some (.cells #[.int .u8 97, .int .u8 98, .int .u8 97, .int .u8 98, .int .u8 99, .int .u8 0, .int .u8 39, .int .u8 255] 5 (0, 0))) : W.cell? ⟨b, k, none⟩ = some (.int .u8 (t8 k)) := by
  have e := cell_of_row W b k _ _ _ hb
  obtain rfl | rfl | rfl | rfl | rfl | rfl | rfl | rfl : k = 0 ∨ k = 1 ∨ k = 2 ∨ k = 3 ∨ k = 4 ∨ k = 5 ∨ k = 6 ∨ k = 7 := by omega
  all_goals exact e
set_option maxHeartbeats 1000000 in
set_option maxRecDepth 100000 in
theorem word_fn (n : Int) (hn : I64 n) : ∃ S : ByteArray, S.size ≤ 5 ∧ ∀ w, Calls Tryz.prog 16 #[.int .i64 n] w fun e w' => e = .returned (.string S) ∧ Below w.heap.size w w' := by
  obtain ⟨k, hk, hA⟩ := Around_big n 16777216 hn (by decide) (by decide)
  refine ⟨strOfNums (wl (k / 6) (k % 6)).2, by rw [str_size, wl_len]; omega, fun w => ?_⟩
  have HA := Lib.hid hA
  obtain ⟨i0, hi, hz0, hz1, hz2⟩ := info_parts info_u8
  clear hA
  obtain ⟨m, hm⟩ : ∃ m, k % 6 = m := ⟨_, rfl⟩
  have hm6 : m < 6 := by omega
  obtain ⟨q, hq⟩ : ∃ q, k / 6 = q := ⟨_, rfl⟩
  have hq6 : q < 16777216 := by omega
  have e1 : (k : Int).tmod 6 = m := by rw [Int.tmod_eq_emod_of_nonneg (by omega)]; omega
  have e2 : (k : Int) / 6 = q := by rw [← hq]; omega
  go_enter Tryz.func16, Tryz.ntmps16
  go_wp2_with (first | (go_at_call 19; refine Calls.mono (HA.out _) ?_; rintro e w1 ⟨rfl, rfl⟩))
  go_loopw [3, 4, 6] (fun kv ov iv wr => ∃ (z j : Nat) (zs : List Int), z < 16777216 ∧ j ≤ m ∧ kv = .int .i64 z ∧ iv = .int .i64 j ∧ Hid (wl q j = (z, zs)) ∧ wr.ownsRow w.heap.size 5 1 ov j (zs.map (Value.int .u8)) ∧ Below w.heap.size w wr) (fun _ _ iv _ => m - (intOf iv).toNat)
  case atStart => exact ⟨q, 0, [], hq6, Nat.zero_le _, by first | rfl | (rw [e2]), rfl, Lib.hid rfl, World.ownsRow_nil _ _ _ _, Below.refl _ _⟩
  case round =>
    clear e1 e2 hq6
    have HQ := Lib.hid hq
    have HM := Lib.hid hm
    clear hq hm
    obtain ⟨z, j, zs, hz, hj, rfl, rfl, hlen, hrow, hW⟩ := hrel
    by_cases hlt : j < m
    · have hlt' : (j : Int) < m := by omega
      obtain ⟨p, hp⟩ : ∃ p, z % 8 = p := ⟨_, rfl⟩
      obtain ⟨z', hz'⟩ : ∃ z', z / 8 = z' := ⟨_, rfl⟩
      have hp8 : p < 8 := by omega
      have d1 : (z : Int).tmod 8 = p := by rw [Int.tmod_eq_emod_of_nonneg (by omega)]; omega
      have d2 : (z : Int) / 8 = z' := by omega
      have hzl : z' < 16777216 := by omega
      have hsz := hW.size
      have hcell := tab8f (W := wr.alloc (.cells #[.int .u8 97, .int .u8 98, .int .u8 97, .int .u8 98, .int .u8 99, .int .u8 0, .int .u8 39, .int .u8 255] 5)) (k := p) hp8 (heap_alloc_new wr _)
      obtain ⟨u, hu⟩ : ∃ u, t8 p = u := ⟨_, rfl⟩
      rw [hu] at hcell
      have HU := Lib.hid hu
      clear hu
      go_wp2_with (at_builtin; refine wpList_append_lies _ rfl (.tmp 18) (.tmp 24) 70 rfl w.heap.size 5 i0 (.int .u8 0) 1 1 Tryz.underlying70 hi hz0 hz1 hz2 rfl (by decide) _ j _ rfl ((hrow.alloc _).alloc _) ⟨wr.heap.size + 1, 0, none⟩ 1 1 [.int .u8 u] rfl rfl (World.news_of_block (cs := #[.int .u8 u]) (t := 5) (fr := (0, 0)) (heap_alloc_new_at _ _ (by simp))) (by simp [Value.oneCell']) (by decide) (by unfold maxLen; omega) (by omega) (by simp; omega) (wr.heap.size + 2) (by simp) ?_; intro g cap w5 hown5 hgrow5 hat5 hlt5)

      go_roundw
      case rel => exact ⟨z', j + 1, zs ++ [u], hzl, by omega, by first | rfl | (rw [d2]), by go_num, Lib.hid (by show ((wl q j).1 / 8, (wl q j).2 ++ [t8 ((wl q j).1 % 8)]) = _; rw [hlen.out]; show (z / 8, zs ++ [t8 (z % 8)]) = _; rw [hp, HU.out, hz']), by rw [List.map_append]; exact hown5, ((hW.alloc hsz _).alloc (by simp; omega) _).grown hgrow5 (by simp; omega) (fun j ej => (own_blk_lt hrow ej.symm).1)⟩
      case measure => simp [intOf]; omega
    · obtain rfl : j = m := by omega
      have hlt' : ¬ (j : Int) < j := by omega
      obtain ⟨A, c, rfl⟩ := row_val hrow
      have hzl : zs.length = j := by have := wl_len q j; rw [hlen.out] at this; exact this
      have hcv := conv_row A j c zs wr _ hzl (rd_own hrow)
      have HE := Lib.hid (show zs = (wl (k / 6) (k % 6)).2 by rw [HQ.out, HM.out, hlen.out])
      clear hzl
      go_wp2_with fail
      go_ret
      exact ⟨by rw [← HE.out]; rfl, hW⟩
end Go.Proofs.YtnjkihbmhacgoaaGreatDoor
