/-
  THE WALKS of the reference's Sum, Bytes and Pair: the same functions 'sumI', 'bytesI'.
-/
import Derived.Test.YtkogodkhhpodnaaWords
import Derived.Test.YtkogodkhhpodnaaMix
namespace Go.Proofs.Ytkogodkhhpodnaa
open Go.RowKit

theorem RdI.at_ {w : World} {B : Nat} {k : IntKind} {A : Option Addr} {zs : List Int} (h : RdI w B k A zs) {j : Nat} (hj : j < zs.length) :
    ∃ b o, A = some ⟨b, o, none⟩ ∧ b < B ∧ w.cell? ⟨b, o + j, none⟩ = some (.int k (zs[j]?.getD 0)) := by
  rcases h with rfl | ⟨b, o, e, hb, hc⟩
  · simp at hj
  · exact ⟨b, o, e, hb, hc j hj⟩

set_option maxHeartbeats 2000000 in
theorem rSum_any (s : ByteArray) (A : Option Addr) (n c : Nat) (zs : List Int) (w : World) (hn : n = zs.length) (hs : s.size ≤ 1000000) (hz : zs.length ≤ 140737488351232) (hr : RdI w w.heap.size .i64 A zs) :
    Calls Try.prog 14 #[.string s, .slice A n c] w fun e w' => e = .returned (.int .u64 (sumI (sb s) zs)) ∧ Below w.heap.size w w' := by
  subst hn
  obtain ⟨cap, C, hcap, hconv, hC⟩ := conv_bytes s w
  have hW1 : Below w.heap.size w (w.alloc (.cells C 5 (C.size, C.size + 1))).drew := ((Below.refl _ w).alloc (Nat.le_refl _) _).drew
  have hrd : RdI (w.alloc (.cells C 5 (C.size, C.size + 1))).drew (w.alloc (.cells C 5 (C.size, C.size + 1))).drew.heap.size .u8 (some ⟨w.heap.size, 0, none⟩) (sb s) :=
    .inr ⟨w.heap.size, 0, rfl, by simp, fun j hj => by
      have h1 := World.cell?_alloc_mark w C 5 (C.size, C.size + 1) j
      rw [hC.out j hj] at h1
      rw [Nat.zero_add]
      exact h1⟩
  have hW := Words_any (some ⟨w.heap.size, 0, none⟩) cap (sb s) _ (by rw [sb_length]; exact hs) (sb_bytes s) hrd
  rw [sb_length] at hW
  have hwl : (words (sb s)).length ≤ 1000000 := by rw [words_length, sb_length]; omega
  clear hrd hC
  go_enter Try.func14, Try.ntmps14
  go_wp2_with (go_at_call 23; refine hW.mono ?_; clear hW; rintro e w1 ⟨A1, c1, rfl, hc1, hrow, hb1⟩)
  have hr1 := rd_own hrow
  have hB1 : Below w.heap.size w w1 := hW1.trans (hb1.mono (by simp))
  clear hrow hb1 hconv hW1
  go_loop [5, 7] (fun x i => ∃ k : Nat, k ≤ (words (sb s)).length ∧ i = .int .i64 k ∧ x = .int .u64 (foldI 0 ((words (sb s)).take k))) (fun _ i => (words (sb s)).length - (intOf i).toNat)
  case atStart => exact ⟨0, Nat.zero_le _, rfl, rfl⟩
  case round =>
    obtain ⟨k, hk, rfl, rfl⟩ := hrel
    by_cases hlt : k < (words (sb s)).length
    · obtain ⟨b, o, rfl, _, hck⟩ := hr1.at_ hlt
      have HS := Lib.hid (show foldI 0 ((words (sb s)).take (k + 1)) = mixI (foldI 0 ((words (sb s)).take k)) ((words (sb s))[k]?.getD 0) by rw [take_snoc hlt, foldI_snoc])
      clear hr1
      go_wp2_with (go_at_call 27; refine (rmix_any _ _ _).mono ?_; rintro e w' ⟨rfl, rfl⟩)
      go_round
      case rel => exact ⟨k + 1, by omega, by go_num, by rw [HS.out]; simp [hlt]⟩
      case measure => simp [intOf]; omega
    · have he := Lib.hid (show (words (sb s)).take k = words (sb s) from List.take_of_length_le (by omega))
      have hr2 := hr.below hB1
      clear hr1 hr
      go_wp2_with (go_at_call 27; refine (rmix_any _ _ _).mono ?_; rintro e w' ⟨rfl, rfl⟩)
      rw [he.out]
      go_loop [5, 8] (fun x i => ∃ k : Nat, k ≤ zs.length ∧ i = .int .i64 k ∧ x = .int .u64 (foldI (mixI (mixI (foldI 0 (words (sb s))) s.size) zs.length) ((zs.take k).map w64))) (fun _ i => zs.length - (intOf i).toNat)
      case atStart => exact ⟨0, Nat.zero_le _, rfl, rfl⟩
      case round =>
        obtain ⟨j, hj, rfl, rfl⟩ := hrel
        by_cases hlt2 : j < zs.length
        · obtain ⟨b, o, rfl, _, hck⟩ := hr2.at_ hlt2
          have HS := Lib.hid (show foldI (mixI (mixI (foldI 0 (words (sb s))) s.size) zs.length) ((zs.take (j + 1)).map w64) = mixI (foldI (mixI (mixI (foldI 0 (words (sb s))) s.size) zs.length) ((zs.take j).map w64)) (IntKind.u64.wrap (zs[j]?.getD 0)) by rw [take_snoc hlt2, List.map_append, List.map_cons, List.map_nil, foldI_snoc]; rfl)
          clear hr2
          go_wp2_with (go_at_call 27; refine (rmix_any _ _ _).mono ?_; rintro e w' ⟨rfl, rfl⟩)
          go_round
          case rel => exact ⟨j + 1, by omega, by go_num, by rw [HS.out]; simp [hlt2]⟩
          case measure => simp [intOf]; omega
        · have he2 := Lib.hid (show (zs.map w64).take j = zs.map w64 from List.take_of_length_le (by rw [List.length_map]; omega))
          go_wp2_with (go_at_call 27; refine (rmix_any _ _ _).mono ?_; rintro e w' ⟨rfl, rfl⟩)
          go_ret
          exact ⟨by rw [he2.out, sumI, sb_length]; rfl, hB1⟩
end Go.Proofs.Ytkogodkhhpodnaa
