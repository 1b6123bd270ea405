/-
  THE WALKS of the reference's Bytes and Pair: the same functions 'bytesI', 'pairI'.
-/
import Derived.Test.YtkogodkhhpodnaaRefSum
import Derived.Test.YtkogodkhhpodnaaPairsW
namespace Go.Proofs.Ytkogodkhhpodnaa
open Go.RowKit

theorem rPair_any (a b : Int) (w : World) :
    Calls Try.prog 20 #[.int .u64 a, .int .u64 b] w fun e w' => e = .returned (.int .u64 (pairI a b)) ∧ Below w.heap.size w w' := by
  go_enter Try.func20, Try.ntmps20
  go_wp2_with (go_at_call 14; refine (rSum_any _ _ _ _ [wrap64 a, wrap64 b] _ rfl (by decide) (by simp) (rd_new _ _ _ _ _ rfl _ (by simp))).mono ?_; rintro e w' ⟨rfl, hb⟩)
  go_ret
  exact ⟨rfl, ((Below.refl _ w).alloc (Nat.le_refl _) _).trans (hb.mono (by simp))⟩

set_option maxHeartbeats 1000000 in
theorem rBytes_any (s : ByteArray) (A : Option Addr) (n c : Nat) (zs : List Int) (w : World) (hn : n = zs.length) (hs : s.size ≤ 1000000) (hz : zs.length ≤ 1000000) (h8 : Bytes8 zs) (hr : RdI w w.heap.size .u8 A zs) :
    Calls Try.prog 18 #[.string s, .slice A n c] w fun e w' => e = .returned (.int .u64 (bytesI (sb s) zs)) ∧ Below w.heap.size w w' := by
  subst hn
  obtain ⟨i0, hi, hz0, hz1, hz2⟩ := info_parts info_int
  have hW := Words_any A c zs w hz h8 hr
  have hwl := words_length zs
  have hbI := Lib.hid (show bytesI (sb s) zs = sumI (sb s) ((words zs).map wrap64 ++ [(zs.length : Int)]) from rfl)
  generalize words zs = l at hW hwl hbI
  have hll : l.length ≤ 1000000 := by omega
  clear hr hwl
  go_enter Try.func18, Try.ntmps18
  go_wp2_with (go_at_call 23; refine hW.mono ?_; clear hW; rintro e w1 ⟨A1, c1, rfl, hc1, hrow1, hb1⟩)
  have hr1 := rd_own hrow1
  clear hrow1
  go_loopw [6, 7] (fun v i wr => ∃ k : Nat, k ≤ l.length ∧ i = .int .i64 k ∧ wr.ownsRow w1.heap.size 3 1 v k (((l.take k).map wrap64).map (Value.int .i64)) ∧ Below w1.heap.size w1 wr) (fun _ i _ => l.length - (intOf i).toNat)
  case atStart => exact ⟨0, Nat.zero_le _, rfl, World.ownsRow_nil _ _ _ _, Below.refl _ _⟩
  case round =>
    rename_i v _
    obtain ⟨k, hk, rfl, hrow, hW⟩ := hrel
    have hsz := hW.size
    by_cases hlt : k < l.length
    · obtain ⟨b, o, rfl, hb, hck0⟩ := hr1.at_ hlt
      have hck := (hW.cell (p := ⟨b, o + k, none⟩) hb).trans hck0
      have HS := Lib.hid (show l.take (k + 1) = l.take k ++ [l[k]?.getD 0] from take_snoc hlt)
      clear hr1 hck0
      obtain ⟨x, hx⟩ : ∃ x, x = l[k]?.getD 0 := ⟨_, rfl⟩
      rw [← hx] at hck HS
      clear hx
      go_wp2_with (at_builtin; refine wpList_append_own _ rfl (.tmp 16) (.tmp 22) 22 rfl w1.heap.size 3 i0 (.int .i64 0) 1 8 Try.underlying22 hi hz0 hz1 hz2 rfl (by decide) _ k _ rfl (hrow.alloc _) ⟨wr.heap.size, 0, none⟩ 1 1 [.int .i64 (wrap64 x)] rfl rfl (cell_one_new _ _ _) (by simp [Value.oneCell']) (by unfold maxLen; omega) (by omega) (by simp; omega) ?_; intro v' w2 hown' hgrow _)
      go_roundw
      case rel =>
        have hown2 : w2.ownsRow w1.heap.size 3 1 v' (k + 1) (((l.take k).map wrap64).map (Value.int .i64) ++ [.int .i64 (wrap64 x)]) := hown'
        refine ⟨k + 1, by omega, by go_num, ?_, (hW.alloc hsz _).grown hgrow (by simp; omega) (fun j ej => (hrow.lt j ej).1)⟩
        rw [HS.out, List.map_append, List.map_append]
        exact hown2
      case measure => simp [intOf]; omega
    · have he := Lib.hid (show l.take k = l from List.take_of_length_le (by omega))
      obtain rfl : k = l.length := by omega
      rw [he.out] at hrow
      clear hr1
      go_wp2_with (first
        | (at_builtin; refine wpList_append_own _ rfl (.tmp 25) (.tmp 28) 22 rfl w1.heap.size 3 i0 (.int .i64 0) 1 8 Try.underlying22 hi hz0 hz1 hz2 rfl (by decide) _ l.length _ rfl (hrow.alloc _) ⟨wr.heap.size, 0, none⟩ 1 1 [.int .i64 (zs.length : Int)] rfl rfl (cell_one_new _ _ _) (by simp [Value.oneCell']) (by unfold maxLen; omega) (by omega) (by simp; omega) ?_; intro v' w2 hown' hgrow _; obtain ⟨g', cap', rfl⟩ := ownsRow_succ hown'; have tok : True := trivial)
        | (go_at_call 14; have _t := tok; refine (rSum_any s _ _ _ (l.map wrap64 ++ [(zs.length : Int)]) _ (by simp) hs (by simp; omega) (rd_own (base := w1.heap.size) (n := l.length + 1) (e := 3) (by simpa using hown'))).mono ?_; clear tok; rintro e w3 ⟨rfl, hb3⟩))
      go_ret
      refine ⟨by rw [hbI.out]; rfl, ?_⟩
      have c1 := (hW.alloc hsz _).grown hgrow (by simp; omega) (fun j ej => (hrow.lt j ej).1)
      have c2 := hb1.trans (c1.mono hb1.size)
      exact c2.trans (hb3.mono c2.size)
end Go.Proofs.Ytkogodkhhpodnaa
