/-
  endsFrom: where a string of an expression that begins at a position can end, by the ends of its Kids.
-/
import Derived.Test.YtijcjknaphboeaaGreatDoorRxPlB
import Derived.Test.YtijcjknaphboeaaGreatDoorRxFlat
import Derived.Test.YtijcjknaphboeaaGreatDoorRxValid
import Derived.Deep.RegionHeld3
namespace Go.Proofs.YtijcjknaphboeaaGreatDoor
open Go.RowKit

/-- the bytes of a string, by position -/
def byt (S : ByteArray) (i : Nat) : Int := (sb S).getD i 0
/-- what the ends of an expression say, for a string of N - 1 bytes -/
def MtN (S : ByteArray) (N : Nat) (x : Rx) (i j : Nat) : Prop := mt (byt S) x i j ∧ j < N
/-- a slice of slices of sets: the ends of each of a list -/
def KRow (w : World) (T : Nat → Prop) (S : ByteArray) (N : Nat) (s : List Rx) (A : Option Addr) : Prop :=
  ∀ t (ht : t < s.length), ∃ bk ok A' c', A = some ⟨bk, ok, none⟩ ∧ T bk ∧ w.cell? ⟨bk, ok + t, none⟩ = some (.slice A' N c') ∧ PlRow w T N (MtN S N s[t]) A'
theorem KRow.call {w w' : World} {S : ByteArray} {N : Nat} {s : List Rx} {A : Option Addr} (h : KRow w (Lo w.heap.size) S N s A) (hb : Below w.heap.size w w') : KRow w' (Lo w'.heap.size) S N s A := fun t ht => by
  obtain ⟨bk, ok, A', c', e, h1, h2, h3⟩ := h t ht
  exact ⟨bk, ok, A', c', e, Nat.lt_of_lt_of_le h1 hb.size, (World.cell?_of_block (hb.block bk h1)).trans h2, h3.call hb⟩
theorem byt_at (S : ByteArray) (i : Nat) (h : i < S.size) : ∃ c : Nat, c < 256 ∧ byt S i = c ∧ ∀ W : World, (Instr.index 9 (.string S) (.int .i64 i)).run Tryz.prog W = .ok (.int .u8 c) W := by
  have hl : i < (sb S).length := by rw [sb_length]; exact h
  have hd : i < S.data.size := h
  refine ⟨(S.data[i]).toNat, (S.data[i]).toNat_lt, ?_, fun W => ?_⟩
  · simp only [byt, sb, List.getD_eq_getElem?_getD, List.getElem?_map, Array.getElem?_toList, Array.getElem?_eq_getElem hd, Option.map_some, Option.getD_some]
  · rw [run_index_string _ _ _ _ _ Tryz.underlying9, dif_pos (by omega)]
    rfl
/-- endsFrom's contract -/
def EF (S : ByteArray) (x : Rx) (i : Nat) (w : World) (e : Ending) (w' : World) : Prop := GivesP w (MtN S (S.size + 1) x i) e w'

/-- the blocks of a call of endsFrom, laid -/
theorem ef_start (w : World) (cs : Array Value) : ∀ W, Below (w.heap.size + 3) (((w.alloc (.cells cs 30)).alloc (.cells #[.int .u64 0, .int .u64 0] 74)).alloc (.cells #[.int .u64 0, .int .u64 0] 74)) W →
    W.heap[w.heap.size]? = some (.cells cs 30 (0, 0)) ∧ W.heap[w.heap.size + 1]? = some (.cells #[.int .u64 0, .int .u64 0] 74 (0, 0)) ∧ W.heap[w.heap.size + 1 + 1]? = some (.cells #[.int .u64 0, .int .u64 0] 74 (0, 0)) ∧ Below w.heap.size w W := fun W hW =>
  ⟨(hW.block _ (by omega)).trans ((heap_alloc_old _ _ _ (by simp; omega)).trans ((heap_alloc_old _ _ _ (by simp)).trans (heap_alloc_new w _))),
   (hW.block _ (by omega)).trans ((heap_alloc_old _ _ _ (by simp)).trans (heap_alloc_new_at _ _ (by simp))),
   (hW.block _ (by omega)).trans (heap_alloc_new_at _ _ (by simp)),
   (below_alloc3 (Below.refl _ _) (Nat.le_refl _) _ _ _).trans (hW.mono (by omega))⟩

set_option maxHeartbeats 1000000 in
set_option maxRecDepth 100000 in
theorem ef_0 (S : ByteArray) (i : Nat) (K A : Option Addr) (kc c : Nat) (w : World) : Calls Tryz.prog 59 #[.agg #[.int .i64 0, .int .u8 0, .int .u8 0, .slice A 0 c], .slice K 0 kc, .string S, .int .i64 i] w (EF S (.node 0 0 0 []) i w) := by
  obtain ⟨z0, z1, z2, z3⟩ := ef_start w #[.int .i64 0, .int .u8 0, .int .u8 0, .slice A 0 c] _ (Below.refl _ _)
  obtain ⟨g0, g1⟩ := two_cells z1
  go_enter Tryz.func59, Tryz.ntmps59
  go_wp2
  refine bodyPost_ret (v := .agg #[.int .u64 (0 : Nat), .int .u64 (0 : Nat)]) (by simp [results, Tryz.results59, go_sem, g0, g1]) rfl ?_
  exact ⟨0, 0, rfl, Pl.none.of fun j => ⟨False.elim, fun h => by simp [MtN, mt] at h⟩, z3⟩
set_option maxHeartbeats 1000000 in
set_option maxRecDepth 100000 in
theorem ef_1 (S : ByteArray) (i : Nat) (hi : i ≤ S.size) (h64 : S.size ≤ 64) (K A : Option Addr) (kc c : Nat) (w : World) : Calls Tryz.prog 59 #[.agg #[.int .i64 1, .int .u8 0, .int .u8 0, .slice A 0 c], .slice K 0 kc, .string S, .int .i64 i] w (EF S (.node 1 0 0 []) i w) := by
  have HZ := Lib.hid (ef_start w #[.int .i64 1, .int .u8 0, .int .u8 0, .slice A 0 c])
  have hO := Lib.hid fun W => only_any i (by omega) W
  have hS := Lib.hid hi
  clear hi h64
  go_enter Tryz.func59, Tryz.ntmps59
  go_wp2_with fail
  refine (hO.out _).mono ?_
  rintro e w1 ⟨a, d, rfl, hP, hw1⟩
  obtain ⟨z0, z1, z2, z3⟩ := HZ.out w1 (hw1.mono (by simp))
  obtain ⟨g0, g1⟩ := two_cells z1
  obtain ⟨f0, f1⟩ := two_cells z2
  have q0 := four_frozen z1 0
  have q1 := four_frozen z1 1
  have r0 := four_frozen z2 0
  have r1 := four_frozen z2 1
  go_wp2_with fail
  refine bodyPost_ret (v := .agg #[.int .u64 a, .int .u64 d]) (by simp [results, Tryz.results59, go_sem, g0, g1]) rfl ?_
  exact ⟨a, d, rfl, hP.of fun j => ⟨fun h => ⟨by simp [mt]; omega, by have := hS.out; omega⟩, fun h => by simp [MtN, mt] at h; omega⟩, set2_below (set2_below z3 (by omega) _ _) (by omega) _ _⟩
set_option maxHeartbeats 1000000 in
set_option maxRecDepth 100000 in
theorem ef_2 (S : ByteArray) (i : Nat) (hi : i ≤ S.size) (h64 : S.size ≤ 64) (l h : Int) (K A : Option Addr) (kc c : Nat) (w : World) : Calls Tryz.prog 59 #[.agg #[.int .i64 2, .int .u8 l, .int .u8 h, .slice A 0 c], .slice K 0 kc, .string S, .int .i64 i] w (EF S (.node 2 l h []) i w) := by
  have HZ := Lib.hid (ef_start w #[.int .i64 2, .int .u8 l, .int .u8 h, .slice A 0 c])
  obtain ⟨z0, z1, z2, z3⟩ := HZ.out _ (Below.refl _ _)
  by_cases hlt : i < S.size
  · obtain ⟨b, hb, hbe, hix⟩ := byt_at S i hlt
    have hlt' : (i : Int) < S.size := by omega
    have hO := Lib.hid fun W => only_any (i + 1) (by omega) W
    have hC := Lib.hid fun W => contains_any 2 l h A 0 c b W
    unfold rxv at hC
    have HM := Lib.hid fun W hW => four (HZ.out W hW).1
    have HB := Lib.hid hbe
    have HL := Lib.hid hlt
    have hd : Below (w.heap.size + 3) (((w.alloc (.cells #[.int .i64 2, .int .u8 l, .int .u8 h, .slice A 0 c] 30)).alloc (.cells #[.int .u64 0, .int .u64 0] 74)).alloc (.cells #[.int .u64 0, .int .u64 0] 74)) (((w.alloc (.cells #[.int .i64 2, .int .u8 l, .int .u8 h, .slice A 0 c] 30)).alloc (.cells #[.int .u64 0, .int .u64 0] 74)).alloc (.cells #[.int .u64 0, .int .u64 0] 74)).drew := (Below.refl _ _).drew
    clear z0 z1 z2 z3 hbe hlt
    by_cases hin : l ≤ (b : Int) ∧ (b : Int) ≤ h
    · rw [show (decide (l ≤ (b : Int)) && decide ((b : Int) ≤ h)) = true by simp [hin]] at hC
      have HI := Lib.hid hin
      clear hin
      go_enter Tryz.func59, Tryz.ntmps59
      go_wp2_with fail
      go_region_held3 (fun W => W.cell? ⟨w.heap.size, 0, none⟩ = some (.int .i64 2) ∧ W.cell? ⟨w.heap.size, 1, none⟩ = some (.int .u8 l) ∧ W.cell? ⟨w.heap.size, 2, none⟩ = some (.int .u8 h) ∧ W.cell? ⟨w.heap.size, 3, none⟩ = some (.slice A 0 c))
        (first | exact HM.out _ hd | exact HM.out _ (by assumption))
        (first | (go_at_call 73; (with_reducible refine Calls.mono (hC.out _) ?_); rintro e w1 ⟨rfl, hw1⟩; have hc1 := hd.trans (hw1.mono (by simp))))
      go_wp2_with fail
      refine (hO.out _).mono ?_
      rintro e w2 ⟨a, d, rfl, hP, hw2⟩
      obtain ⟨z0, z1, z2, z3⟩ := HZ.out w2 (hc1.trans (hw2.mono (by have := hc1.size; simp at this; omega)))
      obtain ⟨g0, g1⟩ := two_cells z1
      obtain ⟨f0, f1⟩ := two_cells z2
      have q0 := four_frozen z1 0
      have q1 := four_frozen z1 1
      have r0 := four_frozen z2 0
      have r1 := four_frozen z2 1
      go_wp2_with fail
      refine bodyPost_ret (v := .agg #[.int .u64 a, .int .u64 d]) (by simp [results, Tryz.results59, go_sem, g0, g1]) rfl ?_
      exact ⟨a, d, rfl, hP.of fun j => ⟨fun h => ⟨by simp [mt]; rw [HB.out]; exact ⟨h, HI.out⟩, by have := HL.out; omega⟩, fun h => by simp [MtN, mt] at h; omega⟩, set2_below (set2_below z3 (by omega) _ _) (by omega) _ _⟩
    · rw [show (decide (l ≤ (b : Int)) && decide ((b : Int) ≤ h)) = false by simpa [Bool.and_eq_false_iff] using hin] at hC
      have HI := Lib.hid hin
      clear hin
      go_enter Tryz.func59, Tryz.ntmps59
      go_wp2_with fail
      go_region_held3 (fun W => W.cell? ⟨w.heap.size, 0, none⟩ = some (.int .i64 2) ∧ W.cell? ⟨w.heap.size, 1, none⟩ = some (.int .u8 l) ∧ W.cell? ⟨w.heap.size, 2, none⟩ = some (.int .u8 h) ∧ W.cell? ⟨w.heap.size, 3, none⟩ = some (.slice A 0 c))
        (first | exact HM.out _ hd | exact HM.out _ (by assumption))
        (first | (go_at_call 73; (with_reducible refine Calls.mono (hC.out _) ?_); rintro e w1 ⟨rfl, hw1⟩; have hc1 := hd.trans (hw1.mono (by simp))))
      obtain ⟨z0, z1, z2, z3⟩ := HZ.out w1 hc1
      obtain ⟨g0, g1⟩ := two_cells z1
      obtain ⟨f0, f1⟩ := two_cells z2
      have q0 := four_frozen z1 0
      have q1 := four_frozen z1 1
      have r0 := four_frozen z2 0
      have r1 := four_frozen z2 1
      go_wp2_with fail
      refine bodyPost_ret (v := .agg #[.int .u64 (0 : Nat), .int .u64 (0 : Nat)]) (by simp [results, Tryz.results59, go_sem, g0, g1]) rfl ?_
      exact ⟨0, 0, rfl, Pl.none.of fun j => ⟨False.elim, fun h => by simp [MtN, mt] at h; exact HI.out (HB.out ▸ h.1.2)⟩, set2_below z3 (by omega) _ _⟩
  · have hlt' : ¬ (i : Int) < S.size := by omega
    have hlt2 : decide (i < S.size) = false := by simp; omega
    have HL := Lib.hid hlt
    obtain ⟨g0, g1⟩ := two_cells z1
    obtain ⟨f0, f1⟩ := two_cells z2
    have q0 := four_frozen z1 0
    have q1 := four_frozen z1 1
    have r0 := four_frozen z2 0
    have r1 := four_frozen z2 1
    clear hlt
    have hd : Below (w.heap.size + 3) (((w.alloc (.cells #[.int .i64 2, .int .u8 l, .int .u8 h, .slice A 0 c] 30)).alloc (.cells #[.int .u64 0, .int .u64 0] 74)).alloc (.cells #[.int .u64 0, .int .u64 0] 74)) (((w.alloc (.cells #[.int .i64 2, .int .u8 l, .int .u8 h, .slice A 0 c] 30)).alloc (.cells #[.int .u64 0, .int .u64 0] 74)).alloc (.cells #[.int .u64 0, .int .u64 0] 74)).drew := (Below.refl _ _).drew
    go_enter Tryz.func59, Tryz.ntmps59
    go_wp2_with fail
    go_quiet (fail)
    obtain ⟨z0, z1, z2, z3⟩ := HZ.out _ (below_drewN (Below.refl _ _) nq)
    go_wp2_with fail
    refine bodyPost_ret (v := .agg #[.int .u64 (0 : Nat), .int .u64 (0 : Nat)]) (by simp [results, Tryz.results59, go_sem, g0, g1]) rfl ?_
    exact ⟨0, 0, rfl, Pl.none.of fun j => ⟨False.elim, fun h => by simp [MtN, mt] at h; have := HL.out; omega⟩, set2_below z3 (by omega) _ _⟩
end Go.Proofs.YtijcjknaphboeaaGreatDoor
