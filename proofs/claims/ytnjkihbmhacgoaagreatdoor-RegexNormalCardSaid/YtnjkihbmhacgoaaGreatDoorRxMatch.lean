/-
  endsFrom: where a string of an expression that begins at a position can end, by the ends of its Kids.
  endsFrom at Cat, Alt, All, Not and Star. Written by gen/genendsb.py.
  ends and Match: which strings an expression matches, by the ends of its parts.
-/
import Derived.Test.YtnjkihbmhacgoaaGreatDoorRxPlB
import Derived.Test.YtnjkihbmhacgoaaGreatDoorRxFlat
import Derived.Test.YtnjkihbmhacgoaaGreatDoorRxValid
import Derived.Deep.RegionHeld3
import Derived.Deep.AppendLies
namespace Go.Proofs.YtnjkihbmhacgoaaGreatDoor
open Go.RowKit

/-- the bytes of a string, by position -/
def byt (S : ByteArray) (i : Nat) : Int := (sb S).getD i 0
/-- what the ends of an expression say, for a string of N - 1 bytes -/
def MtN (S : ByteArray) (N : Nat) (x : Rx) (i j : Nat) : Prop := mt (byt S) x i j ∧ j < N
/-- a slice of slices of sets: the ends of each of a list -/
def KRow (w : World) (T : Nat → Prop) (S : ByteArray) (N : Nat) (s : List Rx) (A : Option Addr) : Prop :=
  ∀ t (ht : t < s.length), ∃ bk ok A' c', A = some ⟨bk, ok, none⟩ ∧ T bk ∧ w.cell? ⟨bk, ok + t, none⟩ = some (.slice A' N c') ∧ PlRow w T N (MtN S N s[t]) A'
theorem KRow.call {w w' : World} {S : ByteArray} {N : Nat} {s : List Rx} {A : Option Addr} (h : KRow w (Lo w.heap.size) S N s A) (hb : Below w.heap.size w w') : KRow w' (Lo w'.heap.size) S N s A := fun t ht => by
  obtain ⟨bk, ok, A', c', e, h1, h2, h3⟩ := h t ht
  exact ⟨bk, ok, A', c', e, Nat.lt_of_lt_of_le h1 hb.size, (World.cell?_of_block (hb.block bk h1)).trans h2, h3.call hb⟩
theorem byt_at (S : ByteArray) (i : Nat) (h : i < S.size) : ∃ c : Nat, c < 256 ∧ byt S i = c ∧ ∀ W : World, (Instr.index 9 (.string S) (.int .i64 i)).run Tryz.prog W = .ok (.int .u8 c) W := by
  have hl : i < (sb S).length := by rw [sb_length]; exact h
  have hd : i < S.data.size := h
  refine ⟨(S.data[i]).toNat, (S.data[i]).toNat_lt, ?_, fun W => ?_⟩
  · simp only [byt, sb, List.getD_eq_getElem?_getD, List.getElem?_map, Array.getElem?_toList, Array.getElem?_eq_getElem hd, Option.map_some, Option.getD_some]
  · rw [run_index_string _ _ _ _ _ Tryz.underlying9, dif_pos (by omega)]
    rfl
/-- endsFrom's contract -/
def EF (S : ByteArray) (x : Rx) (i : Nat) (w : World) (e : Ending) (w' : World) : Prop := GivesP w (MtN S (S.size + 1) x i) e w'

/-- the blocks of a call of endsFrom, laid -/
theorem ef_start (w : World) (cs : Array Value) : ∀ W, Below (w.heap.size + 3) (((w.alloc (.cells cs 30)).alloc (.cells #[.int .u64 0, .int .u64 0] 66)).alloc (.cells #[.int .u64 0, .int .u64 0] 66)) W →
    W.heap[w.heap.size]? = some (.cells cs 30 (0, 0)) ∧ W.heap[w.heap.size + 1]? = some (.cells #[.int .u64 0, .int .u64 0] 66 (0, 0)) ∧ W.heap[w.heap.size + 1 + 1]? = some (.cells #[.int .u64 0, .int .u64 0] 66 (0, 0)) ∧ Below w.heap.size w W := fun W hW =>
  ⟨(hW.block _ (by omega)).trans ((heap_alloc_old _ _ _ (by simp; omega)).trans ((heap_alloc_old _ _ _ (by simp)).trans (heap_alloc_new w _))),
   (hW.block _ (by omega)).trans ((heap_alloc_old _ _ _ (by simp)).trans (heap_alloc_new_at _ _ (by simp))),
   (hW.block _ (by omega)).trans (heap_alloc_new_at _ _ (by simp)),
   (below_alloc3 (Below.refl _ _) (Nat.le_refl _) _ _ _).trans (hW.mono (by omega))⟩

set_option maxHeartbeats 1000000 in
set_option maxRecDepth 100000 in
theorem ef_0 (S : ByteArray) (i : Nat) (K A : Option Addr) (kc c : Nat) (w : World) : Calls Tryz.prog 51 #[.agg #[.int .i64 0, .int .u8 0, .int .u8 0, .slice A 0 c], .slice K 0 kc, .string S, .int .i64 i] w (EF S (.node 0 0 0 []) i w) := by
  obtain ⟨z0, z1, z2, z3⟩ := ef_start w #[.int .i64 0, .int .u8 0, .int .u8 0, .slice A 0 c] _ (Below.refl _ _)
  obtain ⟨g0, g1⟩ := two_cells z1
  go_enter Tryz.func51, Tryz.ntmps51
  go_wp2
  refine bodyPost_ret (v := .agg #[.int .u64 (0 : Nat), .int .u64 (0 : Nat)]) (by simp [results, Tryz.results51, go_sem, g0, g1]) rfl ?_
  exact ⟨0, 0, rfl, Pl.none.of fun j => ⟨False.elim, fun h => by simp [MtN, mt] at h⟩, z3⟩
set_option maxHeartbeats 1000000 in
set_option maxRecDepth 100000 in
theorem ef_1 (S : ByteArray) (i : Nat) (hi : i ≤ S.size) (h64 : S.size ≤ 64) (K A : Option Addr) (kc c : Nat) (w : World) : Calls Tryz.prog 51 #[.agg #[.int .i64 1, .int .u8 0, .int .u8 0, .slice A 0 c], .slice K 0 kc, .string S, .int .i64 i] w (EF S (.node 1 0 0 []) i w) := by
  have HZ := Lib.hid (ef_start w #[.int .i64 1, .int .u8 0, .int .u8 0, .slice A 0 c])
  have hO := Lib.hid fun W => only_any i (by omega) W
  have hS := Lib.hid hi
  clear hi h64
  go_enter Tryz.func51, Tryz.ntmps51
  go_wp2_with fail
  refine (hO.out _).mono ?_
  rintro e w1 ⟨a, d, rfl, hP, hw1⟩
  obtain ⟨z0, z1, z2, z3⟩ := HZ.out w1 (hw1.mono (by simp))
  obtain ⟨g0, g1⟩ := two_cells z1
  obtain ⟨f0, f1⟩ := two_cells z2
  have q0 := four_frozen z1 0
  have q1 := four_frozen z1 1
  have r0 := four_frozen z2 0
  have r1 := four_frozen z2 1
  go_wp2_with fail
  refine bodyPost_ret (v := .agg #[.int .u64 a, .int .u64 d]) (by simp [results, Tryz.results51, go_sem, g0, g1]) rfl ?_
  exact ⟨a, d, rfl, hP.of fun j => ⟨fun h => ⟨by simp [mt]; omega, by have := hS.out; omega⟩, fun h => by simp [MtN, mt] at h; omega⟩, set2_below (set2_below z3 (by omega) _ _) (by omega) _ _⟩
set_option maxHeartbeats 1000000 in
set_option maxRecDepth 100000 in
theorem ef_2 (S : ByteArray) (i : Nat) (hi : i ≤ S.size) (h64 : S.size ≤ 64) (l h : Int) (K A : Option Addr) (kc c : Nat) (w : World) : Calls Tryz.prog 51 #[.agg #[.int .i64 2, .int .u8 l, .int .u8 h, .slice A 0 c], .slice K 0 kc, .string S, .int .i64 i] w (EF S (.node 2 l h []) i w) := by
  have HZ := Lib.hid (ef_start w #[.int .i64 2, .int .u8 l, .int .u8 h, .slice A 0 c])
  obtain ⟨z0, z1, z2, z3⟩ := HZ.out _ (Below.refl _ _)
  by_cases hlt : i < S.size
  · obtain ⟨b, hb, hbe, hix⟩ := byt_at S i hlt
    have hlt' : (i : Int) < S.size := by omega
    have hO := Lib.hid fun W => only_any (i + 1) (by omega) W
    have hC := Lib.hid fun W => contains_any 2 l h A 0 c b W
    unfold rxv at hC
    have HM := Lib.hid fun W hW => four (HZ.out W hW).1
    have HB := Lib.hid hbe
    have HL := Lib.hid hlt
    have hd : Below (w.heap.size + 3) (((w.alloc (.cells #[.int .i64 2, .int .u8 l, .int .u8 h, .slice A 0 c] 30)).alloc (.cells #[.int .u64 0, .int .u64 0] 66)).alloc (.cells #[.int .u64 0, .int .u64 0] 66)) (((w.alloc (.cells #[.int .i64 2, .int .u8 l, .int .u8 h, .slice A 0 c] 30)).alloc (.cells #[.int .u64 0, .int .u64 0] 66)).alloc (.cells #[.int .u64 0, .int .u64 0] 66)).drew := (Below.refl _ _).drew
    clear z0 z1 z2 z3 hbe hlt
    by_cases hin : l ≤ (b : Int) ∧ (b : Int) ≤ h
    · rw [show (decide (l ≤ (b : Int)) && decide ((b : Int) ≤ h)) = true by simp [hin]] at hC
      have HI := Lib.hid hin
      clear hin
      go_enter Tryz.func51, Tryz.ntmps51
      go_wp2_with fail
      go_region_held3 (fun W => W.cell? ⟨w.heap.size, 0, none⟩ = some (.int .i64 2) ∧ W.cell? ⟨w.heap.size, 1, none⟩ = some (.int .u8 l) ∧ W.cell? ⟨w.heap.size, 2, none⟩ = some (.int .u8 h) ∧ W.cell? ⟨w.heap.size, 3, none⟩ = some (.slice A 0 c))
        (first | exact HM.out _ hd | exact HM.out _ (by assumption))
        (first | (go_at_call 65; (with_reducible refine Calls.mono (hC.out _) ?_); rintro e w1 ⟨rfl, hw1⟩; have hc1 := hd.trans (hw1.mono (by simp))))
      go_wp2_with fail
      refine (hO.out _).mono ?_
      rintro e w2 ⟨a, d, rfl, hP, hw2⟩
      obtain ⟨z0, z1, z2, z3⟩ := HZ.out w2 (hc1.trans (hw2.mono (by have := hc1.size; simp at this; omega)))
      obtain ⟨g0, g1⟩ := two_cells z1
      obtain ⟨f0, f1⟩ := two_cells z2
      have q0 := four_frozen z1 0
      have q1 := four_frozen z1 1
      have r0 := four_frozen z2 0
      have r1 := four_frozen z2 1
      go_wp2_with fail
      refine bodyPost_ret (v := .agg #[.int .u64 a, .int .u64 d]) (by simp [results, Tryz.results51, go_sem, g0, g1]) rfl ?_
      exact ⟨a, d, rfl, hP.of fun j => ⟨fun h => ⟨by simp [mt]; rw [HB.out]; exact ⟨h, HI.out⟩, by have := HL.out; omega⟩, fun h => by simp [MtN, mt] at h; omega⟩, set2_below (set2_below z3 (by omega) _ _) (by omega) _ _⟩
    · rw [show (decide (l ≤ (b : Int)) && decide ((b : Int) ≤ h)) = false by simpa [Bool.and_eq_false_iff] using hin] at hC
      have HI := Lib.hid hin
      clear hin
      go_enter Tryz.func51, Tryz.ntmps51
      go_wp2_with fail
      go_region_held3 (fun W => W.cell? ⟨w.heap.size, 0, none⟩ = some (.int .i64 2) ∧ W.cell? ⟨w.heap.size, 1, none⟩ = some (.int .u8 l) ∧ W.cell? ⟨w.heap.size, 2, none⟩ = some (.int .u8 h) ∧ W.cell? ⟨w.heap.size, 3, none⟩ = some (.slice A 0 c))
        (first | exact HM.out _ hd | exact HM.out _ (by assumption))
        (first | (go_at_call 65; (with_reducible refine Calls.mono (hC.out _) ?_); rintro e w1 ⟨rfl, hw1⟩; have hc1 := hd.trans (hw1.mono (by simp))))
      obtain ⟨z0, z1, z2, z3⟩ := HZ.out w1 hc1
      obtain ⟨g0, g1⟩ := two_cells z1
      obtain ⟨f0, f1⟩ := two_cells z2
      have q0 := four_frozen z1 0
      have q1 := four_frozen z1 1
      have r0 := four_frozen z2 0
      have r1 := four_frozen z2 1
      go_wp2_with fail
      refine bodyPost_ret (v := .agg #[.int .u64 (0 : Nat), .int .u64 (0 : Nat)]) (by simp [results, Tryz.results51, go_sem, g0, g1]) rfl ?_
      exact ⟨0, 0, rfl, Pl.none.of fun j => ⟨False.elim, fun h => by simp [MtN, mt] at h; exact HI.out (HB.out ▸ h.1.2)⟩, set2_below z3 (by omega) _ _⟩
  · have hlt' : ¬ (i : Int) < S.size := by omega
    have hlt2 : decide (i < S.size) = false := by simp; omega
    have HL := Lib.hid hlt
    obtain ⟨g0, g1⟩ := two_cells z1
    obtain ⟨f0, f1⟩ := two_cells z2
    have q0 := four_frozen z1 0
    have q1 := four_frozen z1 1
    have r0 := four_frozen z2 0
    have r1 := four_frozen z2 1
    clear hlt
    have hd : Below (w.heap.size + 3) (((w.alloc (.cells #[.int .i64 2, .int .u8 l, .int .u8 h, .slice A 0 c] 30)).alloc (.cells #[.int .u64 0, .int .u64 0] 66)).alloc (.cells #[.int .u64 0, .int .u64 0] 66)) (((w.alloc (.cells #[.int .i64 2, .int .u8 l, .int .u8 h, .slice A 0 c] 30)).alloc (.cells #[.int .u64 0, .int .u64 0] 66)).alloc (.cells #[.int .u64 0, .int .u64 0] 66)).drew := (Below.refl _ _).drew
    go_enter Tryz.func51, Tryz.ntmps51
    go_wp2_with fail
    go_quiet (fail)
    obtain ⟨z0, z1, z2, z3⟩ := HZ.out _ (below_drewN (Below.refl _ _) nq)
    go_wp2_with fail
    refine bodyPost_ret (v := .agg #[.int .u64 (0 : Nat), .int .u64 (0 : Nat)]) (by simp [results, Tryz.results51, go_sem, g0, g1]) rfl ?_
    exact ⟨0, 0, rfl, Pl.none.of fun j => ⟨False.elim, fun h => by simp [MtN, mt] at h; have := HL.out; omega⟩, set2_below z3 (by omega) _ _⟩
end Go.Proofs.YtnjkihbmhacgoaaGreatDoor

namespace Go.Proofs.YtnjkihbmhacgoaaGreatDoor
open Go.RowKit

theorem ef_take {S : ByteArray} {s : List Rx} {t : Nat} (ht : t < s.length) : s.take (t + 1) = s.take t ++ [s[t]] := List.take_succ_eq_append_getElem ht
theorem mt5 {b : Nat → Int} {s : List Rx} {i j : Nat} : mt b (.node 5 0 0 s) i j ↔ i ≤ j ∧ mtAll b s i j := by simp [mt]
theorem mt6 {b : Nat → Int} {x : Rx} {i j : Nat} : mt b (.node 6 0 0 [x]) i j ↔ i ≤ j ∧ ¬ mt b x i j := by simp [mt, mtFst]
theorem mt7 {b : Nat → Int} {x : Rx} {i j : Nat} : mt b (.node 7 0 0 [x]) i j ↔ Star (mt b x) i j := by simp [mt]; rfl
theorem cat_step {S : ByteArray} {N : Nat} {s : List Rx} {i t a d : Nat} (ht : t < s.length) (h : Pl a d (fun j => ∃ m, m < N ∧ (mtCat (byt S) (s.take t) i m ∧ m < N) ∧ MtN S N s[t] m j)) : Pl a d (fun j => mtCat (byt S) (s.take (t + 1)) i j ∧ j < N) :=
  h.of fun j => by
    rw [ef_take (S := S) ht, mtCat_snoc]
    exact ⟨fun ⟨m, _, h2, h3⟩ => ⟨⟨m, h2.1, h3.1⟩, h3.2⟩, fun ⟨⟨m, h1, h2⟩, h3⟩ => by
      have := mt_le _ _ h2
      exact ⟨m, by omega, ⟨h1, by omega⟩, h2, h3⟩⟩
theorem any_step {S : ByteArray} {N : Nat} {s : List Rx} {i t a d : Nat} (ht : t < s.length) (h : Pl a d (fun j => (mtAny (byt S) (s.take t) i j ∧ j < N) ∨ MtN S N s[t] i j)) : Pl a d (fun j => mtAny (byt S) (s.take (t + 1)) i j ∧ j < N) :=
  h.of fun j => by
    rw [ef_take (S := S) ht, mtAny_snoc]
    exact ⟨fun h => h.elim (fun h => ⟨.inl h.1, h.2⟩) (fun h => ⟨.inr h.1, h.2⟩), fun h => h.1.elim (fun h1 => .inl ⟨h1, h.2⟩) (fun h1 => .inr ⟨h1, h.2⟩)⟩
theorem all_step {S : ByteArray} {N : Nat} {s : List Rx} {i t a d : Nat} (ht : t < s.length) (h : Pl a d (fun j => (i ≤ j ∧ j < N ∧ mtAll (byt S) (s.take t) i j) ∧ MtN S N s[t] i j)) : Pl a d (fun j => i ≤ j ∧ j < N ∧ mtAll (byt S) (s.take (t + 1)) i j) :=
  h.of fun j => by
    rw [ef_take (S := S) ht, mtAll_snoc]
    exact ⟨fun ⟨h, h2⟩ => ⟨h.1, h.2.1, h.2.2, h2.1⟩, fun ⟨h1, h2, h3, h4⟩ => ⟨⟨h1, h2, h3⟩, h4, h2⟩⟩
set_option maxHeartbeats 1000000 in
set_option maxRecDepth 100000 in
theorem ef_3 (S : ByteArray) (i : Nat) (hi : i ≤ S.size) (h64 : S.size ≤ 64) (s : List Rx) (hsl : s.length ≤ 1048576) (K A : Option Addr) (kc c : Nat) (w : World) (hK : KRow w (Lo w.heap.size) S (S.size + 1) s K) : Calls Tryz.prog 51 #[.agg #[.int .i64 3, .int .u8 0, .int .u8 0, .slice A s.length c], .slice K s.length kc, .string S, .int .i64 i] w (EF S (.node 3 0 0 s) i w) := by
  have HZ := Lib.hid (ef_start w #[.int .i64 3, .int .u8 0, .int .u8 0, .slice A s.length c])
  have hS := Lib.hid hi
  have h65 := Lib.hid h64
  have HK := Lib.hid hK
  have hO := Lib.hid fun W => only_any i (by omega) W
  clear hi h64 hK
  go_enter Tryz.func51, Tryz.ntmps51
  go_wp2_with fail
  refine (hO.out _).mono ?_
  rintro e w1 ⟨a, d, rfl, hP, hw1⟩
  obtain ⟨z0, z1, z2, z3⟩ := HZ.out w1 (hw1.mono (by simp))
  have hsz1 : w.heap.size + 3 ≤ w1.heap.size := by have := hw1.size; simp at this; omega
  obtain ⟨g0, g1⟩ := two_cells z1
  obtain ⟨f0, f1⟩ := two_cells z2
  have q0 := four_frozen z1 0
  have q1 := four_frozen z1 1
  have r0 := four_frozen z2 0
  have r1 := four_frozen z2 1
  go_wp2_with fail
  go_loopw [44] (fun v wr => ∃ t a d : Nat, t ≤ s.length ∧ v = .int .i64 t ∧ Hid (Pl a d (fun j => mtCat (byt S) (s.take t) i j ∧ j < S.size + 1)) ∧ wr.heap[w.heap.size]? = some (.cells #[.int .i64 3, .int .u8 0, .int .u8 0, .slice A s.length c] 30 (0, 0)) ∧ wr.heap[w.heap.size + 1]? = some (.cells #[.int .u64 0, .int .u64 0] 66 (0, 0)) ∧ wr.heap[w.heap.size + 1 + 1]? = some (.cells #[.int .u64 a, .int .u64 d] 66 (0, 0)) ∧ Below w.heap.size w wr ∧ w.heap.size + 3 ≤ wr.heap.size) (fun v _ => s.length - (intOf v).toNat)
  case atStart =>
    refine ⟨0, a, d, Nat.zero_le _, rfl, Lib.hid (hP.of fun j => ?_), ?_, ?_, ?_, ?_, ?_⟩
    · exact ⟨fun h => ⟨by simp [mtCat]; omega, by have := hS.out; omega⟩, fun h => by simp [mtCat] at h; omega⟩
    · exact (set2_other _ _ (by omega)).trans z0
    · exact (set2_other _ _ (by omega)).trans z1
    · exact set2_self z2 _ _
    · exact set2_below z3 (by omega) _ _
    · rw [set2_size]; exact hsz1
  case round =>
    clear g0 g1 f0 f1 q0 q1 r0 r1 z0 z1 z2 z3 hw1 hP
    obtain ⟨t, a, d, ht, rfl, hP, z0, z1, z2, hW, hsz⟩ := hrel
    obtain ⟨g0, g1⟩ := two_cells z1
    obtain ⟨f0, f1⟩ := two_cells z2
    have q0 := four_frozen z1 0
    have q1 := four_frozen z1 1
    have r0 := four_frozen z2 0
    have r1 := four_frozen z2 1
    by_cases hlt : t < s.length
    · have hlt' : (t : Int) < s.length := by omega
      obtain ⟨bk, ok, A', c', rfl, hbk, hcell, hrow⟩ := HK.out t hlt
      have k0 := (World.cell?_of_block (hW.block bk hbk)).trans hcell
      clear hcell
      have hrw := hrow.call hW
      have hT := Lib.hid (then_any a d (S.size + 1) c' _ _ A' wr hP.out (by have := h65.out; omega) hrw)
      clear hrw hrow
      go_wp2_with fail
      refine hT.out.mono ?_
      rintro e w2 ⟨a', d', rfl, hP', hw2⟩
      have y2 := (hw2.block (w.heap.size + 1 + 1) (by omega)).trans z2
      clear f0 f1 r0 r1
      obtain ⟨f0, f1⟩ := two_cells y2
      have r0 := four_frozen y2 0
      have r1 := four_frozen y2 1
      all_goals
        go_wp2_with fail
        go_roundw
        case rel =>
          refine ⟨t + 1, a', d', by omega, by go_num, Lib.hid (cat_step hlt hP'), ?_, ?_, ?_, ?_, ?_⟩
          · exact (set2_other _ _ (by omega)).trans ((hw2.block _ (by omega)).trans z0)
          · exact (set2_other _ _ (by omega)).trans ((hw2.block _ (by omega)).trans z1)
          · exact set2_self y2 _ _
          · exact set2_below (hW.trans (hw2.mono (by omega))) (by omega) _ _
          · rw [set2_size]; have := hw2.size; omega
        case measure => simp [intOf]; omega
    · obtain rfl : t = s.length := by omega
      have hlt' : ¬ (s.length : Int) < s.length := by omega
      go_wp2_with fail
      refine bodyPost_ret (v := .agg #[.int .u64 a, .int .u64 d]) (by simp [results, Tryz.results51, go_sem, g0, g1]) rfl ?_
      exact ⟨a, d, rfl, hP.out.of fun j => by simp only [List.take_length, MtN, mt]; simp, set2_below hW (by omega) _ _⟩
set_option maxHeartbeats 1000000 in
set_option maxRecDepth 100000 in
theorem ef_4 (S : ByteArray) (i : Nat) (hi : i ≤ S.size) (h64 : S.size ≤ 64) (s : List Rx) (hsl : s.length ≤ 1048576) (K A : Option Addr) (kc c : Nat) (w : World) (hK : KRow w (Lo w.heap.size) S (S.size + 1) s K) : Calls Tryz.prog 51 #[.agg #[.int .i64 4, .int .u8 0, .int .u8 0, .slice A s.length c], .slice K s.length kc, .string S, .int .i64 i] w (EF S (.node 4 0 0 s) i w) := by
  have HZ := Lib.hid (ef_start w #[.int .i64 4, .int .u8 0, .int .u8 0, .slice A s.length c])
  have hS := Lib.hid hi
  have h65 := Lib.hid h64
  have HK := Lib.hid hK
  clear hi h64 hK
  go_enter Tryz.func51, Tryz.ntmps51
  go_wp2_with fail
  go_loopw [56] (fun v wr => ∃ t a d : Nat, t ≤ s.length ∧ v = .int .i64 t ∧ Hid (Pl a d (fun j => mtAny (byt S) (s.take t) i j ∧ j < S.size + 1)) ∧ wr.heap[w.heap.size]? = some (.cells #[.int .i64 4, .int .u8 0, .int .u8 0, .slice A s.length c] 30 (0, 0)) ∧ wr.heap[w.heap.size + 1]? = some (.cells #[.int .u64 0, .int .u64 0] 66 (0, 0)) ∧ wr.heap[w.heap.size + 1 + 1]? = some (.cells #[.int .u64 a, .int .u64 d] 66 (0, 0)) ∧ Below w.heap.size w wr ∧ w.heap.size + 3 ≤ wr.heap.size) (fun v _ => s.length - (intOf v).toNat)
  case atStart =>
    obtain ⟨z0, z1, z2, z3⟩ := HZ.out _ (Below.refl _ _)
    refine ⟨0, 0, 0, Nat.zero_le _, rfl, Lib.hid (Pl.none.of fun j => ?_), z0, z1, z2, z3, by simp⟩
    exact ⟨False.elim, fun h => by simp [mtAny] at h⟩
  case round =>
    skip
    obtain ⟨t, a, d, ht, rfl, hP, z0, z1, z2, hW, hsz⟩ := hrel
    obtain ⟨g0, g1⟩ := two_cells z1
    obtain ⟨f0, f1⟩ := two_cells z2
    have q0 := four_frozen z1 0
    have q1 := four_frozen z1 1
    have r0 := four_frozen z2 0
    have r1 := four_frozen z2 1
    by_cases hlt : t < s.length
    · have hlt' : (t : Int) < s.length := by omega
      obtain ⟨bk, ok, A', c', rfl, hbk, hcell, hrow⟩ := HK.out t hlt
      have k0 := (World.cell?_of_block (hW.block bk hbk)).trans hcell
      clear hcell
      have hrw := hrow.call hW
      obtain ⟨be, oe, rfl, hbe, hel⟩ := hrw
      obtain ⟨x, y, e0, e1, hX⟩ := hel i (by have := hS.out; omega)
      have hT := Lib.hid fun W => por_any a d x y _ _ W hP.out hX
      have hiN : (i : Int) < (S.size : Int) + 1 := by have := hS.out; omega
      have hiN' : i < S.size + 1 := by have := hS.out; omega
      clear hrow hel hX
      have hbl : be < wr.heap.size := hbe
      go_wp2_with fail
      go_region_law (first | (go_simp; go_at_call 67; refine (hT.out _).mono ?_; rintro e w2 ⟨a', d', rfl, hP', hw2'⟩; have hw2 : Below wr.heap.size wr w2 := (Below.refl _ wr).drew.trans (hw2'.mono (by simp)); have y2 := (hw2.block (w.heap.size + 1 + 1) (by omega)).trans z2; have fa := (two_cells y2).1; have fb := (two_cells y2).2; have ra := four_frozen y2 0; have rb := four_frozen y2 1))
      all_goals
        go_wp2_with fail
        go_roundw
        case rel =>
          refine ⟨t + 1, a', d', by omega, by go_num, Lib.hid (any_step hlt hP'), ?_, ?_, ?_, ?_, ?_⟩
          · exact (set2_other _ _ (by omega)).trans ((hw2.block _ (by omega)).trans z0)
          · exact (set2_other _ _ (by omega)).trans ((hw2.block _ (by omega)).trans z1)
          · exact set2_self y2 _ _
          · exact set2_below (hW.trans (hw2.mono (by omega))) (by omega) _ _
          · rw [set2_size]; have := hw2.size; omega
        case measure => simp [intOf]; omega
    · obtain rfl : t = s.length := by omega
      have hlt' : ¬ (s.length : Int) < s.length := by omega
      go_wp2_with fail
      refine bodyPost_ret (v := .agg #[.int .u64 a, .int .u64 d]) (by simp [results, Tryz.results51, go_sem, g0, g1]) rfl ?_
      exact ⟨a, d, rfl, hP.out.of fun j => by simp only [List.take_length, MtN, mt]; simp, set2_below hW (by omega) _ _⟩
set_option maxHeartbeats 1000000 in
set_option maxRecDepth 100000 in
theorem ef_5 (S : ByteArray) (i : Nat) (hi : i ≤ S.size) (h64 : S.size ≤ 64) (s : List Rx) (hsl : s.length ≤ 1048576) (K A : Option Addr) (kc c : Nat) (w : World) (hK : KRow w (Lo w.heap.size) S (S.size + 1) s K) : Calls Tryz.prog 51 #[.agg #[.int .i64 5, .int .u8 0, .int .u8 0, .slice A s.length c], .slice K s.length kc, .string S, .int .i64 i] w (EF S (.node 5 0 0 s) i w) := by
  have HZ := Lib.hid (ef_start w #[.int .i64 5, .int .u8 0, .int .u8 0, .slice A s.length c])
  have hS := Lib.hid hi
  have h65 := Lib.hid h64
  have HK := Lib.hid hK
  have hO := Lib.hid fun W => between_any i S.size (by omega) h64 W
  clear hi h64 hK
  go_enter Tryz.func51, Tryz.ntmps51
  go_wp2_with fail
  refine (hO.out _).mono ?_
  rintro e w1 ⟨a, d, rfl, hP, hw1⟩
  obtain ⟨z0, z1, z2, z3⟩ := HZ.out w1 (hw1.mono (by simp))
  have hsz1 : w.heap.size + 3 ≤ w1.heap.size := by have := hw1.size; simp at this; omega
  obtain ⟨g0, g1⟩ := two_cells z1
  obtain ⟨f0, f1⟩ := two_cells z2
  have q0 := four_frozen z1 0
  have q1 := four_frozen z1 1
  have r0 := four_frozen z2 0
  have r1 := four_frozen z2 1
  go_wp2_with fail
  go_loopw [75] (fun v wr => ∃ t a d : Nat, t ≤ s.length ∧ v = .int .i64 t ∧ Hid (Pl a d (fun j => i ≤ j ∧ j < S.size + 1 ∧ mtAll (byt S) (s.take t) i j)) ∧ wr.heap[w.heap.size]? = some (.cells #[.int .i64 5, .int .u8 0, .int .u8 0, .slice A s.length c] 30 (0, 0)) ∧ wr.heap[w.heap.size + 1]? = some (.cells #[.int .u64 0, .int .u64 0] 66 (0, 0)) ∧ wr.heap[w.heap.size + 1 + 1]? = some (.cells #[.int .u64 a, .int .u64 d] 66 (0, 0)) ∧ Below w.heap.size w wr ∧ w.heap.size + 3 ≤ wr.heap.size) (fun v _ => s.length - (intOf v).toNat)
  case atStart =>
    refine ⟨0, a, d, Nat.zero_le _, rfl, Lib.hid (hP.of fun j => ?_), ?_, ?_, ?_, ?_, ?_⟩
    · exact ⟨fun h => ⟨h.1, by omega, by simp [mtAll]⟩, fun h => ⟨h.1, by omega⟩⟩
    · exact (set2_other _ _ (by omega)).trans z0
    · exact (set2_other _ _ (by omega)).trans z1
    · exact set2_self z2 _ _
    · exact set2_below z3 (by omega) _ _
    · rw [set2_size]; exact hsz1
  case round =>
    clear g0 g1 f0 f1 q0 q1 r0 r1 z0 z1 z2 z3 hw1 hP
    obtain ⟨t, a, d, ht, rfl, hP, z0, z1, z2, hW, hsz⟩ := hrel
    obtain ⟨g0, g1⟩ := two_cells z1
    obtain ⟨f0, f1⟩ := two_cells z2
    have q0 := four_frozen z1 0
    have q1 := four_frozen z1 1
    have r0 := four_frozen z2 0
    have r1 := four_frozen z2 1
    by_cases hlt : t < s.length
    · have hlt' : (t : Int) < s.length := by omega
      obtain ⟨bk, ok, A', c', rfl, hbk, hcell, hrow⟩ := HK.out t hlt
      have k0 := (World.cell?_of_block (hW.block bk hbk)).trans hcell
      clear hcell
      have hrw := hrow.call hW
      obtain ⟨be, oe, rfl, hbe, hel⟩ := hrw
      obtain ⟨x, y, e0, e1, hX⟩ := hel i (by have := hS.out; omega)
      have hT := Lib.hid fun W => pand_any a d x y _ _ W hP.out hX
      have hiN : (i : Int) < (S.size : Int) + 1 := by have := hS.out; omega
      have hiN' : i < S.size + 1 := by have := hS.out; omega
      clear hrow hel hX
      have hbl : be < wr.heap.size := hbe
      go_wp2_with fail
      go_region_law (first | (go_simp; go_at_call 69; refine (hT.out _).mono ?_; rintro e w2 ⟨a', d', rfl, hP', hw2'⟩; have hw2 : Below wr.heap.size wr w2 := (Below.refl _ wr).drew.trans (hw2'.mono (by simp)); have y2 := (hw2.block (w.heap.size + 1 + 1) (by omega)).trans z2; have fa := (two_cells y2).1; have fb := (two_cells y2).2; have ra := four_frozen y2 0; have rb := four_frozen y2 1))
      all_goals
        go_wp2_with fail
        go_roundw
        case rel =>
          refine ⟨t + 1, a', d', by omega, by go_num, Lib.hid (all_step hlt hP'), ?_, ?_, ?_, ?_, ?_⟩
          · exact (set2_other _ _ (by omega)).trans ((hw2.block _ (by omega)).trans z0)
          · exact (set2_other _ _ (by omega)).trans ((hw2.block _ (by omega)).trans z1)
          · exact set2_self y2 _ _
          · exact set2_below (hW.trans (hw2.mono (by omega))) (by omega) _ _
          · rw [set2_size]; have := hw2.size; omega
        case measure => simp [intOf]; omega
    · obtain rfl : t = s.length := by omega
      have hlt' : ¬ (s.length : Int) < s.length := by omega
      go_wp2_with fail
      refine bodyPost_ret (v := .agg #[.int .u64 a, .int .u64 d]) (by simp [results, Tryz.results51, go_sem, g0, g1]) rfl ?_
      exact ⟨a, d, rfl, hP.out.of fun j => by rw [List.take_length]; exact ⟨fun ⟨h1, h2, h3⟩ => ⟨mt5.2 ⟨h1, h3⟩, h2⟩, fun ⟨h1, h2⟩ => ⟨(mt5.1 h1).1, h2, (mt5.1 h1).2⟩⟩, set2_below hW (by omega) _ _⟩
set_option maxHeartbeats 1000000 in
set_option maxRecDepth 100000 in
theorem ef_6 (S : ByteArray) (i : Nat) (hi : i ≤ S.size) (h64 : S.size ≤ 64) (x : Rx) (K A : Option Addr) (kc c : Nat) (w : World) (hK : KRow w (Lo w.heap.size) S (S.size + 1) [x] K) : Calls Tryz.prog 51 #[.agg #[.int .i64 6, .int .u8 0, .int .u8 0, .slice A 1 c], .slice K 1 kc, .string S, .int .i64 i] w (EF S (.node 6 0 0 [x]) i w) := by
  have HZ := Lib.hid (ef_start w #[.int .i64 6, .int .u8 0, .int .u8 0, .slice A 1 c])
  have hO := Lib.hid fun W => between_any i S.size (by omega) h64 W
  obtain ⟨bk, ok, A', c', rfl, hbk, hcell, be, oe, rfl, hbe, hel⟩ := hK 0 (by simp)
  obtain ⟨u, v, e0, e1, hX⟩ := hel i (by omega)
  rw [Nat.add_zero] at hcell
  have hiN : (i : Int) < (S.size : Int) + 1 := by omega
  have HE := Lib.hid fun W (h : Below w.heap.size w W) => (show W.cell? ⟨bk, ok, none⟩ = some (.slice (some ⟨be, oe, none⟩) (S.size + 1) c') ∧ W.cell? ⟨be, oe + i * 2, none⟩ = some (.int .u64 u) ∧ W.cell? ⟨be, oe + i * 2 + 1, none⟩ = some (.int .u64 v) from ⟨(World.cell?_of_block (h.block bk hbk)).trans hcell, (World.cell?_of_block (h.block be hbe)).trans e0, (World.cell?_of_block (h.block be hbe)).trans e1⟩)
  have HX := Lib.hid hX
  clear hel hX e0 e1 hcell hK
  have hd : Below (w.heap.size + 3) (((w.alloc (.cells #[.int .i64 6, .int .u8 0, .int .u8 0, .slice A 1 c] 30)).alloc (.cells #[.int .u64 0, .int .u64 0] 66)).alloc (.cells #[.int .u64 0, .int .u64 0] 66)) (((w.alloc (.cells #[.int .i64 6, .int .u8 0, .int .u8 0, .slice A 1 c] 30)).alloc (.cells #[.int .u64 0, .int .u64 0] 66)).alloc (.cells #[.int .u64 0, .int .u64 0] 66)).drew := (Below.refl _ _).drew
  have hd0 := (HZ.out _ hd).2.2.2
  have HF := Lib.hid fun W (h : Below (w.heap.size + 3) (((w.alloc (.cells #[.int .i64 6, .int .u8 0, .int .u8 0, .slice A 1 c] 30)).alloc (.cells #[.int .u64 0, .int .u64 0] 66)).alloc (.cells #[.int .u64 0, .int .u64 0] 66)) W) => ((⟨(two_cells (HZ.out W h).2.2.1).1, (two_cells (HZ.out W h).2.2.1).2, four_frozen (HZ.out W h).2.2.1 0, four_frozen (HZ.out W h).2.2.1 1⟩ : W.cell? ⟨w.heap.size + 1 + 1, 0, none⟩ = some (.int .u64 0) ∧ W.cell? ⟨w.heap.size + 1 + 1, 1, none⟩ = some (.int .u64 0) ∧ W.frozen? ⟨w.heap.size + 1 + 1, 0, none⟩ = false ∧ W.frozen? ⟨w.heap.size + 1 + 1, 1, none⟩ = false))
  have HS := Lib.hid hi
  clear hi h64
  go_enter Tryz.func51, Tryz.ntmps51
  go_wp2_with fail
  go_region_held3 (fun W => W.cell? ⟨bk, ok, none⟩ = some (.slice (some ⟨be, oe, none⟩) (S.size + 1) c') ∧ W.cell? ⟨be, oe + i * 2, none⟩ = some (.int .u64 u) ∧ W.cell? ⟨be, oe + i * 2 + 1, none⟩ = some (.int .u64 v))
    (first | exact HE.out _ hd0 | exact HE.out _ hc0' | exact HE.out _ hc2' | exact HE.out _ (set2_below hc2' (by omega) _ _))
    (first
      | (go_at_call 68; (with_reducible refine Calls.mono (hO.out _) ?_); rintro e w1 ⟨a, d, rfl, hP, hw1⟩; have hc1 := hd.trans (hw1.mono (by simp)); have hz1 : w.heap.size + 3 ≤ w1.heap.size := (by have := hc1.size; simp at this; omega); have hc0' := (HZ.out _ hc1).2.2.2; have hQ := Lib.hid fun W => pwithout_any a d u v _ _ W hP HX.out)
      | (go_at_call 70; (with_reducible refine Calls.mono (hQ.out _) ?_); rintro e w2 ⟨a', d', rfl, hP', hw2⟩; have hc2 := hc1.trans (hw2.mono hz1); have hc2' := (HZ.out _ hc2).2.2.2; obtain ⟨f0, f1, r0, r1⟩ := HF.out _ hc2; have HA := Lib.hid (HZ.out _ hc2)))
  obtain ⟨z0, z1, z2, z3⟩ := HA.out
  obtain ⟨g0, g1⟩ := two_cells z1
  have q0 := four_frozen z1 0
  have q1 := four_frozen z1 1
  go_wp2_with fail
  refine bodyPost_ret (v := .agg #[.int .u64 a', .int .u64 d']) (by simp [results, Tryz.results51, go_sem, g0, g1]) rfl ?_
  exact ⟨a', d', rfl, hP'.of fun j => ⟨fun ⟨h1, h2⟩ => ⟨mt6.2 ⟨h1.1, fun h => h2 ⟨h, by omega⟩⟩, by omega⟩, fun ⟨h1, h2⟩ => ⟨⟨(mt6.1 h1).1, by omega⟩, fun h => (mt6.1 h1).2 h.1⟩⟩, set2_below (set2_below z3 (by omega) _ _) (by omega) _ _⟩
set_option maxHeartbeats 1000000 in
set_option maxRecDepth 100000 in
theorem star_mt {S : ByteArray} {x : Rx} {i j : Nat} (hi : i ≤ S.size) : oft (MtN S (S.size + 1) x) i (S.size + 1) j ↔ MtN S (S.size + 1) (.node 7 0 0 [x]) i j := by
  have h1 := oft_star (R := MtN S (S.size + 1) x) (fun i j h => mt_le _ _ h.1) (n := S.size) (j := j) (fun i j h => Nat.lt_succ_iff.1 h.2) hi
  rw [h1]
  constructor
  · intro h
    have hj : j < S.size + 1 := by
      cases h with
      | nil => omega
      | step g1 g2 g3 =>
        have key : ∀ a c, Star (MtN S (S.size + 1) x) a c → a < S.size + 1 → c < S.size + 1 := by
          intro a c h
          induction h with
          | nil => exact id
          | step k1 _ _ ih => exact fun _ => ih k1.2
        exact key _ _ g3 g1.2
    exact ⟨mt7.2 ((star_upto (n := S.size) (by omega)).2 (by
      have e : (fun a c => mt (byt S) x a c ∧ c ≤ S.size) = MtN S (S.size + 1) x := by
        funext a c
        exact propext (and_congr Iff.rfl Nat.lt_succ_iff.symm)
      rw [e]; exact h)), hj⟩
  · rintro ⟨h, hj⟩
    have h2 := (star_upto (n := S.size) (by omega)).1 (mt7.1 h)
    have e : (fun a c => mt (byt S) x a c ∧ c ≤ S.size) = MtN S (S.size + 1) x := by
      funext a c
      exact propext (and_congr Iff.rfl Nat.lt_succ_iff.symm)
    rwa [e] at h2
set_option maxHeartbeats 1000000 in
set_option maxRecDepth 100000 in
theorem ef_7 (S : ByteArray) (i : Nat) (hi : i ≤ S.size) (h64 : S.size ≤ 64) (x : Rx) (K A : Option Addr) (kc c : Nat) (w : World) (hK : KRow w (Lo w.heap.size) S (S.size + 1) [x] K) : Calls Tryz.prog 51 #[.agg #[.int .i64 7, .int .u8 0, .int .u8 0, .slice A 1 c], .slice K 1 kc, .string S, .int .i64 i] w (EF S (.node 7 0 0 [x]) i w) := by
  have HZ := Lib.hid (ef_start w #[.int .i64 7, .int .u8 0, .int .u8 0, .slice A 1 c])
  have hO := Lib.hid fun W => only_any i (by omega) W
  obtain ⟨bk, ok, A', c', rfl, hbk, hcell, hrow⟩ := hK 0 (by simp)
  rw [Nat.add_zero] at hcell
  have HE := Lib.hid fun W (h : Below w.heap.size w W) => (World.cell?_of_block (h.block bk hbk)).trans hcell
  have HR := Lib.hid hrow
  have h65 := Lib.hid h64
  clear hrow hcell hK
  have hd : Below (w.heap.size + 3) (((w.alloc (.cells #[.int .i64 7, .int .u8 0, .int .u8 0, .slice A 1 c] 30)).alloc (.cells #[.int .u64 0, .int .u64 0] 66)).alloc (.cells #[.int .u64 0, .int .u64 0] 66)) (((w.alloc (.cells #[.int .i64 7, .int .u8 0, .int .u8 0, .slice A 1 c] 30)).alloc (.cells #[.int .u64 0, .int .u64 0] 66)).alloc (.cells #[.int .u64 0, .int .u64 0] 66)).drew := (Below.refl _ _).drew
  have hd0 := (HZ.out _ hd).2.2.2
  have HS := Lib.hid hi
  clear hi h64
  go_enter Tryz.func51, Tryz.ntmps51
  go_wp2_with fail
  go_region_held3 (fun W => W.cell? ⟨bk, ok, none⟩ = some (.slice A' (S.size + 1) c'))
    (first | exact HE.out _ hd0 | exact HE.out _ hc0' | exact HE.out _ hc2' | exact HE.out _ (set2_below hc2' (by omega) _ _))
    (first
      | (go_at_call 64; (with_reducible refine Calls.mono (hO.out _) ?_); rintro e w1 ⟨a, d, rfl, hP, hw1⟩; have hc1 := hd.trans (hw1.mono (by simp)); have hz1 : w.heap.size + 3 ≤ w1.heap.size := (by have := hc1.size; simp at this; omega); have hc0' := (HZ.out _ hc1).2.2.2; have hQ := Lib.hid (often_any a d (S.size + 1) c' i _ A' w1 hP (by have := h65.out; omega) (HR.out.call hc0')))
      | (go_at_call 71; (with_reducible refine Calls.mono hQ.out ?_); rintro e w2 ⟨a', d', rfl, hP', hw2⟩; have hc2 := hc1.trans (hw2.mono hz1); have hc2' := (HZ.out _ hc2).2.2.2; obtain ⟨f0, f1⟩ := two_cells (HZ.out _ hc2).2.2.1; have r0 := four_frozen (HZ.out _ hc2).2.2.1 0; have r1 := four_frozen (HZ.out _ hc2).2.2.1 1; have HA := Lib.hid (HZ.out _ hc2)))
  all_goals
    obtain ⟨z0, z1, z2, z3⟩ := HA.out
    obtain ⟨g0, g1⟩ := two_cells z1
    have q0 := four_frozen z1 0
    have q1 := four_frozen z1 1
    go_wp2_with fail
    refine bodyPost_ret (v := .agg #[.int .u64 a', .int .u64 d']) (by simp [results, Tryz.results51, go_sem, g0, g1]) rfl ?_
    exact ⟨a', d', rfl, hP'.of fun j => star_mt HS.out, set2_below (set2_below z3 (by omega) _ _) (by omega) _ _⟩
end Go.Proofs.YtnjkihbmhacgoaaGreatDoor

namespace Go.Proofs.YtnjkihbmhacgoaaGreatDoor
open Go.RowKit

theorem info_placess : (Tryz.prog.info? 67).map (fun i => (i.zero, i.size, i.bytes)) = some (some (.slice none 0 0), 1, 24) := by kernel_rfl
/-- an expression with the slice of its ends -/
structure Kn where
  x : Rx
  A : Option Addr
  c : Nat
/-- A ROW OF SLICES OF SETS OF THE CALL's OWN: the ends of each of a list of expressions -/
def RowK (w : World) (base : Nat) (L : Nat → Prop) (S : ByteArray) (N : Nat) (v : Value) (ks : List Kn) : Prop :=
  w.ownsRow base 67 1 v ks.length (ks.map fun k => .slice k.A N k.c) ∧ ∀ k ∈ ks, PlRow w (Lay L w v) N (MtN S N k.x) k.A
theorem RowK.nil (w : World) (base : Nat) (L : Nat → Prop) (S : ByteArray) (N : Nat) : RowK w base L S N (.slice none 0 0) [] := ⟨World.ownsRow_nil _ _ _ _, by simp⟩
theorem RowK.to {w w' : World} {base : Nat} {L : Nat → Prop} {S : ByteArray} {N : Nat} {v : Value} {ks : List Kn} (h : RowK w base L S N v ks) (hs : w.heap.size ≤ w'.heap.size)
    (hk : ∀ b, b < w.heap.size → (base ≤ b ∨ L b) → w'.heap[b]? = w.heap[b]?) : RowK w' base L S N v ks :=
  ⟨own_kept h.1 (fun b hb he => hk b (own_blk_lt h.1 he).2 (.inl hb)), fun k hk' => (h.2 k hk').to (fun b hb => ⟨⟨hb.1, Nat.lt_of_lt_of_le hb.2.1 hs, hb.2.2⟩, hk b hb.2.1 (.inr hb.1)⟩)⟩
theorem RowK.below {w w' : World} {base : Nat} {L : Nat → Prop} {S : ByteArray} {N : Nat} {v : Value} {ks : List Kn} (h : RowK w base L S N v ks) (hb : Below w.heap.size w w') : RowK w' base L S N v ks :=
  h.to hb.size (fun b hlt _ => hb.block b hlt)
theorem RowK.snoc {w w1 w2 : World} {base g cap n : Nat} {L : Nat → Prop} {S : ByteArray} {N : Nat} {v : Value} {ks : List Kn} {k : Kn} (h : RowK w base L S N v ks) (hn : n = ks.length + 1) (hb : Below w.heap.size w w1) (ht : PlRow w1 (Lay L w1 v) N (MtN S N k.x) k.A)
    (hown : w2.ownsRow base 67 1 (.slice (some ⟨g, 0, none⟩) n cap) n ((ks.map fun k => .slice k.A N k.c) ++ [.slice k.A N k.c])) (hgrow : w1.grownBy w2 v.ownBlock) (hat : v.ownBlock = some g ∨ g = w1.heap.size) :
    RowK w2 base L S N (.slice (some ⟨g, 0, none⟩) n cap) (ks ++ [k]) := by
  subst hn
  have hsz := hgrow.size
  have hgo : ∀ b, Lay L w1 v b → Lay L w2 (.slice (some ⟨g, 0, none⟩) (ks.length + 1) cap) b ∧ w2.heap[b]? = w1.heap[b]? := fun b ⟨h1, h2, h3⟩ =>
    ⟨⟨h1, Nat.lt_of_lt_of_le h2 hsz, by
      simp only [Value.ownBlock]
      intro e
      obtain rfl : b = g := by simpa using e
      rcases hat with h4 | h4
      · exact h3 h4.symm
      · omega⟩, hgrow.block b h2 h3⟩
  refine ⟨by simpa [List.map_append] using hown, fun k' hk' => ?_⟩
  rcases List.mem_append.1 hk' with h1 | h1
  · exact ((h.below hb).2 k' h1).to hgo
  · obtain rfl := List.mem_singleton.1 h1
    exact ht.to hgo
theorem RowK.val {w : World} {base : Nat} {L : Nat → Prop} {S : ByteArray} {N : Nat} {v : Value} {ks : List Kn} (h : RowK w base L S N v ks) : ∃ A c, v = .slice A ks.length c := by
  rcases h.1.2 with ⟨hv, h0⟩ | ⟨g, cap, cur, hv, _⟩
  · exact ⟨none, 0, by rw [hv, h0]⟩
  · exact ⟨_, _, hv⟩
theorem RowK.blk {w : World} {base : Nat} {L : Nat → Prop} {S : ByteArray} {N : Nat} {v : Value} {ks : List Kn} (h : RowK w base L S N v ks) : ∀ j, v.ownBlock = some j → base ≤ j := fun j e => (own_blk_lt h.1 e.symm).1
/-- the slice of a row reads as the ends of the list -/
theorem RowK.list {w : World} {base c : Nat} {L : Nat → Prop} {S : ByteArray} {N : Nat} {A : Option Addr} {ks : List Kn} (h : RowK w base L S N (.slice A ks.length c) ks) : KRow w (Lo w.heap.size) S N (ks.map Kn.x) A := by
  intro t ht
  have ht' : t < ks.length := by simpa using ht
  rcases h.1.2 with ⟨_, h0⟩ | ⟨g, cap, cur, hv, hb, hg, hnc, hcm, hcs, hct⟩
  · omega
  · injection hv with h1 h2 h3
    subst h1
    have hp := h.2 ks[t] (List.getElem_mem ht')
    refine ⟨g, 0, ks[t].A, ks[t].c, rfl, (Array.getElem?_eq_some_iff.1 hg).1, ?_, ?_⟩
    · rw [Nat.zero_add, cell_of_row w g t cur 67 (0, 0) hg]
      have : (cur.toList.take (ks.length * 1))[t]? = some (.slice ks[t].A N ks[t].c) := by rw [hct, List.getElem?_map, List.getElem?_eq_getElem ht']; rfl
      rw [List.getElem?_take_of_lt (by omega)] at this
      simpa using this
    · rw [show (ks.map Kn.x)[t] = ks[t].x by simp]
      exact hp.to fun b hb => ⟨hb.2.1, rfl⟩

/-- a slice that make made, filled up to j -/
def Fill (w : World) (C N : Nat) (M : Nat → Nat → Prop) (j : Nat) : Prop := ∃ (cs : Array Value) (f g : Nat → Nat), w.heap[C]? = some (.cells cs 66 (0, 0)) ∧ cs.size = N * 2 ∧ (∀ i, i < N → cs[i * 2]? = some (.int .u64 (f i)) ∧ cs[i * 2 + 1]? = some (.int .u64 (g i))) ∧ ∀ i, i < j → Pl (f i) (g i) (M i)

theorem made_zero (n i : Nat) (h : i < n) : (madeCells #[.int .u64 0, .int .u64 0] n)[i]? = some (.int .u64 0) := by
  have e : i % 2 = 0 ∨ i % 2 = 1 := by omega
  rcases e with e | e <;> simp [madeCells, h, e]
theorem fill_start (W : World) (N : Nat) (M : Nat → Nat → Prop) : Fill (W.alloc (.cells (madeCells #[.int .u64 0, .int .u64 0] (N * 2)) 66)) W.heap.size N M 0 :=
  ⟨_, fun _ => 0, fun _ => 0, heap_alloc_new W _, size_madeCells _ _, fun i hi => ⟨made_zero _ _ (by omega), made_zero _ _ (by omega)⟩, fun i hi => absurd hi (Nat.not_lt_zero _)⟩
theorem Fill.to {w w' : World} {C N j : Nat} {M : Nat → Nat → Prop} (h : Fill w C N M j) (hb : w'.heap[C]? = w.heap[C]?) : Fill w' C N M j := by
  obtain ⟨cs, f, g, h1, h2⟩ := h
  exact ⟨cs, f, g, hb.trans h1, h2⟩
theorem fill_step {w : World} {C N j a c : Nat} {M : Nat → Nat → Prop} (h : Fill w C N M j) (hj : j < N) (hP : Pl a c (M j)) : Fill ((w.setCell ⟨C, j * 2, none⟩ (.int .u64 a)).setCell ⟨C, j * 2 + 1, none⟩ (.int .u64 c)) C N M (j + 1) := by
  obtain ⟨cs, f, g, h1, h2, h3, h4⟩ := h
  refine ⟨(cs.setIfInBounds (j * 2) (.int .u64 a)).setIfInBounds (j * 2 + 1) (.int .u64 c), fun i => if i = j then a else f i, fun i => if i = j then c else g i, ?_, by simp [h2], fun i hi => ?_, fun i hi => ?_⟩
  · exact blk_set (blk_set h1 _) _
  · obtain ⟨k1, k2⟩ := h3 i hi
    by_cases e : i = j
    · subst e
      simp [Array.getElem?_setIfInBounds, h2]
      omega
    · rw [Array.getElem?_setIfInBounds_ne (by omega), Array.getElem?_setIfInBounds_ne (by omega), Array.getElem?_setIfInBounds_ne (by omega), Array.getElem?_setIfInBounds_ne (by omega)]
      simp only [if_neg e]
      exact ⟨k1, k2⟩
  · by_cases e : i = j
    · subst e; simpa using hP
    · simp only [if_neg e]; exact h4 i (by omega)
theorem Fill.cells {w : World} {C N j i : Nat} {M : Nat → Nat → Prop} (h : Fill w C N M j) (hi : i < N) : (∃ u v : Nat, w.cell? ⟨C, i * 2, none⟩ = some (.int .u64 u) ∧ w.cell? ⟨C, i * 2 + 1, none⟩ = some (.int .u64 v)) ∧ w.frozen? ⟨C, i * 2, none⟩ = false ∧ w.frozen? ⟨C, i * 2 + 1, none⟩ = false := by
  obtain ⟨cs, f, g, h1, h2, h3, h4⟩ := h
  refine ⟨⟨f i, g i, ?_, ?_⟩, four_frozen h1 _, four_frozen h1 _⟩
  · rw [cell_of_row w C _ cs _ (0, 0) h1]; exact (h3 i hi).1
  · rw [cell_of_row w C _ cs _ (0, 0) h1]; exact (h3 i hi).2
theorem Fill.row {w : World} {C N : Nat} {M : Nat → Nat → Prop} {T : Nat → Prop} (h : Fill w C N M N) (hT : T C) : PlRow w T N M (some ⟨C, 0, none⟩) := by
  obtain ⟨cs, f, g, h1, h2, h3, h4⟩ := h
  refine ⟨C, 0, rfl, hT, fun i hi => ⟨f i, g i, ?_, ?_, h4 i hi⟩⟩
  · rw [Nat.zero_add, cell_of_row w C _ cs _ (0, 0) h1]; exact (h3 i hi).1
  · rw [Nat.zero_add, cell_of_row w C _ cs _ (0, 0) h1]; exact (h3 i hi).2
theorem info_places : (Tryz.prog.info? 66).map (fun i => (i.zero, i.size, i.bytes)) = some (some (.agg #[.int .u64 0, .int .u64 0]), 2, 16) := by kernel_rfl
theorem run_make_pl (n : Nat) (hn : n ≤ 1000) (W : World) : (Instr.makeSlice 67 (.int .i64 ((n : Int) + 1)) (.int .i64 ((n : Int) + 1))).run Tryz.prog W = .ok (.slice (some ⟨W.heap.size, 0, none⟩) (n + 1) (n + 1)) (W.alloc (.cells (madeCells #[.int .u64 0, .int .u64 0] ((n + 1) * 2)) 66)) := by
  obtain ⟨i, hi, hz⟩ := Option.map_eq_some_iff.1 info_places
  simp only [Prod.mk.injEq] at hz
  obtain ⟨hz, hs, hb⟩ := hz
  have h := run_make (P := Tryz.prog) W 67 66 i _ Tryz.underlying67 hi hz .i64 .i64 ((n : Int) + 1) ((n : Int) + 1) (by omega) (Int.le_refl _) (by rw [hb]; omega) (by omega)
  rw [h, hs, show ((n : Int) + 1).toNat = n + 1 by omega]
  rfl
/-- endsFrom at every expression that is right -/
theorem ef_any (S : ByteArray) (i : Nat) (hi : i ≤ S.size) (h64 : S.size ≤ 64) (k l h : Int) (s : List Rx) (hw : wfR (.node k l h s) = true) (hsl : s.length ≤ 1048576) (K A : Option Addr) (kc c : Nat) (w : World) (hK : KRow w (Lo w.heap.size) S (S.size + 1) s K) :
    Calls Tryz.prog 51 #[.agg #[.int .i64 k, .int .u8 l, .int .u8 h, .slice A s.length c], .slice K s.length kc, .string S, .int .i64 i] w (EF S (.node k l h s) i w) := by
  simp only [wfR, Bool.and_eq_true, Bool.or_eq_true, beq_iff_eq, decide_eq_true_eq] at hw
  obtain ⟨⟨h1, h2⟩, h3⟩ := hw
  have hz : k = 2 ∨ k ≠ 2 ∧ l = 0 ∧ h = 0 := by
    by_cases e : k = 2
    · exact .inl e
    · exact .inr ⟨e, h1.resolve_left e⟩
  split at h3
  · rename_i h4
    have hs : s = [] := List.eq_nil_of_length_eq_zero (by simpa using h3)
    subst hs
    rcases hz with rfl | ⟨hk, rfl, rfl⟩
    · exact ef_2 S i hi h64 l h K A kc c w
    · have : k = 0 ∨ k = 1 := by omega
      rcases this with rfl | rfl
      · exact ef_0 S i K A kc c w
      · exact ef_1 S i hi h64 K A kc c w
  · rename_i h4
    obtain ⟨hk, rfl, rfl⟩ : k ≠ 2 ∧ l = 0 ∧ h = 0 := hz.resolve_left (fun e => h4 (.inr e))
    split at h3
    · rename_i h5
      simp only [Bool.and_eq_true, beq_iff_eq] at h3
      obtain ⟨x, rfl⟩ := List.length_eq_one_iff.1 h3.1
      rcases h5 with rfl | rfl
      · exact ef_6 S i hi h64 x K A kc c w hK
      · exact ef_7 S i hi h64 x K A kc c w hK
    · split at h3
      · rename_i h6
        rcases h6 with (rfl | rfl) | rfl
        · exact ef_3 S i hi h64 s hsl K A kc c w hK
        · exact ef_4 S i hi h64 s hsl K A kc c w hK
        · exact ef_5 S i hi h64 s hsl K A kc c w hK
      · cases h3
theorem wf_kid {k l h : Int} {s : List Rx} (hw : wfR (.node k l h s) = true) {j : Nat} (hj : j < s.length) : wfR s[j] = true := by
  have hL : wfL s = true := by
    simp only [wfR, Bool.and_eq_true] at hw
    have h2 := hw.2
    split at h2
    · simp at h2; subst h2; rfl
    · split at h2
      · simp only [Bool.and_eq_true] at h2; exact h2.2
      · split at h2
        · exact h2
        · cases h2
  rw [wfL_all, List.all_eq_true] at hL
  exact hL _ (List.getElem_mem hj)
/-- what ends hands back -/
def EndsOk (w : World) (S : ByteArray) (x : Rx) (e : Ending) (w' : World) : Prop := ∃ A c, e = .returned (.slice A (S.size + 1) c) ∧ PlRow w' (Mid w.heap.size w'.heap.size) (S.size + 1) (MtN S (S.size + 1) x) A ∧ Below w.heap.size w w'

set_option maxHeartbeats 2000000 in
set_option maxRecDepth 100000 in
theorem ends_upto (m : Nat) : ∀ (x : Rx) (v : Value) (w : World) (S : ByteArray), nodes x ≤ m → wfR x = true → S.size ≤ 64 → RtV w (Lo w.heap.size) x v → Calls Tryz.prog 33 #[v, .string S] w (EndsOk w S x) := by
  induction m with
  | zero => intro x v w S h0; cases x; simp [nodes] at h0
  | succ m ih =>
    intro x v w S hm hwf h64 hv
    obtain ⟨k, l, h, s⟩ := x
    obtain ⟨⟨hk, hl, hh, hsl⟩, A, c, rfl, hc, hA, hs⟩ := hv.parts
    simp only [Rx.kind, Rx.lo, Rx.hi, Rx.kids] at hk hl hh hsl hc hs ⊢
    have hm' : nodesL s ≤ m := by simp only [nodes] at hm; omega
    obtain ⟨i0, hi, hz0, hz1, hz2⟩ := info_parts info_placess
    have H64 := Lib.hid h64
    have HWF := Lib.hid hwf
    clear hv hwf h64 hm
    unfold rxv
    go_enter Tryz.func33, Tryz.ntmps33
    go_wp2_with fail
    go_loopw [5, 13] (fun kv iv wr => ∃ (j : Nat) (ks : List Kn), j ≤ s.length ∧ iv = .int .i64 j ∧ Hid (ks.map Kn.x = s.take j ∧ ks.length = j) ∧ wr.heap[w.heap.size]? = some (.cells #[.int .i64 k, .int .u8 l, .int .u8 h, .slice A s.length c] 30 (0, 0)) ∧
        RowK wr (w.heap.size + 1) (fun b => w.heap.size + 1 ≤ b) S (S.size + 1) kv ks ∧ Below w.heap.size w wr ∧ w.heap.size + 1 ≤ wr.heap.size) (fun _ iv _ => s.length - (intOf iv).toNat)
    case atStart =>
      exact ⟨0, [], Nat.zero_le _, rfl, Lib.hid ⟨rfl, rfl⟩, heap_alloc_new w _, RowK.nil _ _ _ _ _, (Below.refl _ _).alloc (Nat.le_refl _) _, by simp⟩
    case round =>
      obtain ⟨j, ks, hj, rfl, hks, hb0, hrow, hW, hsz⟩ := hrel
      obtain ⟨c0, c1, c2, c3⟩ := four hb0
      by_cases hlt : j < s.length
      · obtain ⟨bl, o, A', c', rfl, hbl, h4, hx⟩ := hs.get hlt
        have h4' := h4.to (hW.block bl hbl)
        have hx' := hx.below hW
        have hnod : nodes s[j] ≤ m := by have := nodes_get hlt; omega
        have hwfj : wfR s[j] = true := wf_kid HWF.out hlt
        have HX := Lib.hid (show s.take (j + 1) = s.take j ++ [s[j]] from List.take_succ_eq_append_getElem hlt)
        generalize s[j] = x at h4' hx' hnod HX hwfj
        obtain ⟨e0, e1, e2, e3⟩ := h4'
        have hlt' : (j : Int) < s.length := by omega
        have hC := Lib.hid fun W (hWW : Below w.heap.size wr W) => ih x _ W S hnod hwfj H64.out ((hx'.below hWW).mono (Nat.le_trans hW.size hWW.size))
        unfold rxv at hC
        clear hx' hx h4 hs ih hwfj
        have htl := hks.out.2
        subst htl
        have hd : Below w.heap.size wr (wr.alloc (.cells #[.int .i64 x.kind, .int .u8 x.lo, .int .u8 x.hi, .slice A' x.kids.length c'] 30)) := (Below.refl _ _).alloc (by omega) _
        have hd0 : Below wr.heap.size wr (wr.alloc (.cells #[.int .i64 x.kind, .int .u8 x.lo, .int .u8 x.hi, .slice A' x.kids.length c'] 30)) := (Below.refl _ _).alloc (Nat.le_refl _) _
        go_wp2_with (first
          | (go_at_call 33; refine (hC.out _ hd).mono ?_; rintro e w1 ⟨A1, d1, rfl, hp1, hw1⟩; have hb1 : Below wr.heap.size wr w1 := hd0.trans (hw1.mono (by simp)); have hz1' : wr.heap.size + 1 ≤ w1.heap.size := (by have := hw1.size; simp at this; omega))
          | (at_builtin; refine wpList_append_lies _ rfl (.tmp 17) (.tmp 21) 82 rfl (w.heap.size + 1) 67 i0 (.slice none 0 0) 1 24 Tryz.underlying82 hi hz0 hz1 hz2 rfl (by decide) u5 ks.length _ rfl ((own_below hrow.1 hb1).alloc _) ⟨w1.heap.size, 0, none⟩ 1 1 [.slice A1 (S.size + 1) d1] rfl rfl (World.news_of_block (cs := #[.slice A1 (S.size + 1) d1]) (t := 67) (fr := (0, 0)) (heap_alloc_new w1 _)) (by simp [Value.oneCell']) (by decide) (by unfold maxLen; omega) (by omega) (by simp; omega) (w1.heap.size + 1) (by simp) ?_; intro g cap w5 hown5 hgrow5 hat5 hlt5))
        go_roundw
        case rel =>
          have hlow : ∀ B, B < w.heap.size + 1 → w5.heap[B]? = wr.heap[B]? := fun B hB => (grown_low hgrow5 hrow.blk hB (by simp; omega)).trans ((Below.heap_alloc w1 _ B (by omega)).trans (hb1.block B (by omega)))
          refine ⟨ks.length + 1, ks ++ [⟨x, A1, d1⟩], by omega, by go_num, Lib.hid ⟨by rw [List.map_append, HX.out, ← hks.out.1]; rfl, by simp⟩, (hlow _ (by omega)).trans hb0, ?_, ?_, ?_⟩
          · refine RowK.snoc (k := ⟨x, A1, d1⟩) hrow rfl (hb1.alloc hb1.size _) (hp1.to fun b hb => ⟨⟨by have := hb.1; simp at this; omega, by have := hb.2; simp; omega, fun e => ?_⟩, Below.heap_alloc w1 _ b hb.2⟩) hown5 hgrow5 (by simpa using hat5)
            have h6 := (own_blk_lt hrow.1 e).2
            have h7 := hb.1
            simp at h7
            omega
          · exact ((hW.trans (hb1.mono hW.size)).alloc (by omega) _).grown hgrow5 (by simp; omega) (fun j ej => Nat.le_trans (by omega) (hrow.blk j ej))
          · have := hgrow5.size
            simp at this
            omega
        case measure => simp [intOf]; omega
      · obtain rfl : j = s.length := by omega
        have hlt' : ¬ (s.length : Int) < s.length := by omega
        obtain ⟨KA, kc, rfl⟩ := hrow.val
        have hkl := hks.out.2
        have hmap : ks.map Kn.x = s := by rw [hks.out.1, List.take_length]
        have hlen : ks.length = s.length := hkl
        have HK := Lib.hid (hrow.list)
        rw [hmap] at HK
        rw [hlen]
        clear hs ih hA hc hlt hks hrow hm' hj hkl hmap hlen c0 c1 c2 c3
        have h64 := H64.out
        have hb0' := hb0
        obtain ⟨wo, rfl⟩ : ∃ wo, wo = wr := ⟨_, rfl⟩
        have hmk := run_make_pl S.size (by omega)
        go_wp2_with fail
        go_loopw [30] (fun iv wr => ∃ j : Nat, j ≤ S.size + 1 ∧ iv = .int .i64 j ∧ Hid (Fill wr wo.heap.size (S.size + 1) (MtN S (S.size + 1) (.node k l h s)) j) ∧ Below wo.heap.size wo wr ∧ wo.heap.size + 1 ≤ wr.heap.size) (fun iv _ => 66 - (intOf iv).toNat)
        case atStart => exact ⟨0, Nat.zero_le _, rfl, Lib.hid (fill_start wo _ _), (Below.refl _ _).alloc (Nat.le_refl _) _, by simp⟩
        case round =>
          obtain ⟨j, hj, rfl, hF, hB, hz⟩ := hrel
          obtain ⟨c0, c1, c2, c3⟩ := four ((hB.block w.heap.size (by omega)).trans hb0)
          by_cases hlt : j < S.size + 1
          · have hlt' : (j : Int) < (S.size : Int) + 1 := by omega
            have hC := Lib.hid (ef_any S j (by omega) h64 k l h s HWF.out hsl KA A kc c wr (HK.out.call hB))
            go_wp2_with fail
            refine hC.out.mono ?_
            rintro e w1 ⟨a, d, rfl, hP, hw1⟩
            have hF1 := Lib.hid (hF.out.to (hw1.block wo.heap.size (by omega)))
            obtain ⟨⟨u, v, f0, f1⟩, r0, r1⟩ := hF1.out.cells hlt
            go_wp2_with fail
            go_roundw
            case rel => 
              refine ⟨j + 1, by omega, by go_num, Lib.hid (fill_step hF1.out hlt hP), ?_, ?_⟩
              · exact ((hB.trans (hw1.mono (by omega))).setCell (p := ⟨wo.heap.size, j * 2, none⟩) (Nat.le_refl _) _).setCell (p := ⟨wo.heap.size, j * 2 + 1, none⟩) (Nat.le_refl _) _
              · have := hw1.size; simp [World.setCell]; omega
            case measure => simp [intOf]; omega
          · obtain rfl : j = S.size + 1 := by omega
            have hlt' : ¬ ((S.size : Int) + 1) < (S.size : Int) + 1 := by omega
            go_wp2_with fail
            go_ret
            exact ⟨_, _, rfl, hF.out.row ⟨by omega, by omega⟩, hW.trans (hB.mono (by omega))⟩
theorem ends_any (x : Rx) (v : Value) (w : World) (S : ByteArray) (hwf : wfR x = true) (h64 : S.size ≤ 64) (hv : RtV w (Lo w.heap.size) x v) : Calls Tryz.prog 33 #[v, .string S] w (EndsOk w S x) := ends_upto (nodes x) x v w S (Nat.le_refl _) hwf h64 hv
/-- Match's error -/
def matchE (x : Rx) (n : Nat) : Int := if 64 < nodes x then 4 else if wfR x then (if 64 < n then 4 else 0) else 1
/-- what Match hands back -/
def MatchOk (w : World) (S : ByteArray) (x : Rx) (e : Ending) (w' : World) : Prop := ∃ r : Bool, e = .returned (.tuple #[.bool r, .int .i64 (matchE x S.size)]) ∧ (r = true ↔ matchE x S.size = 0 ∧ mt (byt S) x 0 S.size) ∧ Below w.heap.size w w'
theorem at_four {w W : World} {b : Nat} {c0 c1 c2 c3 : Value} {t : TypeId} (hb : w.heap.size = b) (hW : Below (b + 1) (w.alloc (.cells #[c0, c1, c2, c3] t)) W) : W.cell? ⟨b, 0, none⟩ = some c0 ∧ W.cell? ⟨b, 1, none⟩ = some c1 ∧ W.cell? ⟨b, 2, none⟩ = some c2 ∧ W.cell? ⟨b, 3, none⟩ = some c3 := by
  subst hb
  exact four ((hW.block _ (by omega)).trans (heap_alloc_new w _))
set_option maxHeartbeats 1000000 in
set_option maxRecDepth 100000 in
theorem match_any (x : Rx) (v : Value) (w : World) (S : ByteArray) (hS : S.size ≤ 1000000) (hv : RtV w (Lo w.heap.size) x v) : Calls Tryz.prog 15 #[v, .string S] w (MatchOk w S x) := by
  obtain ⟨_, A, c, rfl, _⟩ := hv.parts
  have HV := Lib.hid fun W (hW : Below w.heap.size w W) => valid_any x _ W (hv.call hW)
  have HE := Lib.hid fun W (hW : Below w.heap.size w W) (h1 : wfR x = true) (h2 : S.size ≤ 64) => ends_any x _ W S h1 h2 (hv.call hW)
  unfold rxv at HV HE ⊢
  have hd : Below w.heap.size w (w.alloc (.cells #[.int .i64 x.kind, .int .u8 x.lo, .int .u8 x.hi, .slice A x.kids.length c] 30)) := (Below.refl _ _).alloc (Nat.le_refl _) _
  clear hv
  unfold MatchOk matchE
  by_cases h1 : 64 < nodes x
  · have hv : validR x = 4 := by unfold validR; rw [if_pos h1]
    simp only [if_pos h1]
    rw [hv] at HV
    go_enter Tryz.func15, Tryz.ntmps15
    go_wp2_with (first | (go_at_call 9; refine (HV.out _ hd).mono ?_; rintro e w1 ⟨rfl, hw1⟩))
    go_ret2
    exact ⟨false, rfl, by simp, hd.trans (hw1.mono hd.size)⟩
  · by_cases h2 : wfR x = true
    · have hv : validR x = 0 := by unfold validR; rw [if_neg h1, if_pos h2]
      simp only [if_neg h1, if_pos h2]
      rw [hv] at HV
      by_cases h3 : 64 < S.size
      · simp only [if_pos h3]
        have h3' : (64 : Int) < S.size := by omega
        go_enter Tryz.func15, Tryz.ntmps15
        go_wp2_with (first | (go_at_call 9; refine (HV.out _ hd).mono ?_; rintro e w1 ⟨rfl, hw1⟩))
        go_ret2
        exact ⟨false, rfl, by simp, hd.trans (hw1.mono hd.size)⟩
      · simp only [if_neg h3]
        have h3' : ¬ (64 : Int) < S.size := by omega
        have h4 := Lib.hid (show S.size ≤ 64 by omega)
        have H2 := Lib.hid h2
        clear h2 h1 hv
        go_enter Tryz.func15, Tryz.ntmps15
        go_wp2_with fail
        refine (HV.out _ hd).mono ?_
        rintro e w1 ⟨rfl, hw1⟩
        have hd1 := hd.trans (hw1.mono hd.size)
        obtain ⟨c0, c1, c2, c3⟩ := at_four rfl (hw1.mono (by simp))
        go_wp2_with fail
        refine (HE.out _ hd1 H2.out h4.out).mono ?_
        rintro e w2 ⟨A2, d2, rfl, ⟨b, o, rfl, hb, hel⟩, hw2⟩
        obtain ⟨a, d, e0, e1, hP⟩ := hel 0 (by omega)
        rw [Nat.zero_mul, Nat.add_zero] at e0 e1
        have hH := Lib.hid fun W => has_any a d S.size _ (by have := h4.out; omega) W hP
        have hd2 := hd1.trans (hw2.mono hd1.size)
        clear hel hP hb
        have h0 : (0 : Int) < (S.size : Int) + 1 := by omega
        go_wp2_with fail
        refine (hH.out _).mono ?_
        rintro e w3 ⟨r, rfl, hr, hw3⟩
        go_wp2_with fail
        go_ret2
        exact ⟨r, rfl, hr.trans ⟨fun h => ⟨trivial, h.1⟩, fun h => ⟨h.2, by omega⟩⟩, hd2.trans (hw3.mono hd2.size)⟩
    · have hv : validR x = 1 := by unfold validR; rw [if_neg h1, if_neg h2]
      simp only [if_neg h1, if_neg h2]
      rw [hv] at HV
      go_enter Tryz.func15, Tryz.ntmps15
      go_wp2_with (first | (go_at_call 9; refine (HV.out _ hd).mono ?_; rintro e w1 ⟨rfl, hw1⟩))
      go_ret2
      exact ⟨false, rfl, by simp, hd.trans (hw1.mono hd.size)⟩
end Go.Proofs.YtnjkihbmhacgoaaGreatDoor
