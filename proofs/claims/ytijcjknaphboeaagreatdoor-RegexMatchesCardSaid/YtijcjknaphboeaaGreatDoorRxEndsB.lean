/-
  endsFrom at Cat, Alt, All, Not and Star. Written by gen/genendsb.py.
-/
import Derived.Test.YtijcjknaphboeaaGreatDoorRxEnds
import Derived.Deep.AppendLies
namespace Go.Proofs.YtijcjknaphboeaaGreatDoor
open Go.RowKit

theorem ef_take {S : ByteArray} {s : List Rx} {t : Nat} (ht : t < s.length) : s.take (t + 1) = s.take t ++ [s[t]] := List.take_succ_eq_append_getElem ht
theorem mt5 {b : Nat → Int} {s : List Rx} {i j : Nat} : mt b (.node 5 0 0 s) i j ↔ i ≤ j ∧ mtAll b s i j := by simp [mt]
theorem mt6 {b : Nat → Int} {x : Rx} {i j : Nat} : mt b (.node 6 0 0 [x]) i j ↔ i ≤ j ∧ ¬ mt b x i j := by simp [mt, mtFst]
theorem mt7 {b : Nat → Int} {x : Rx} {i j : Nat} : mt b (.node 7 0 0 [x]) i j ↔ Star (mt b x) i j := by simp [mt]; rfl
theorem cat_step {S : ByteArray} {N : Nat} {s : List Rx} {i t a d : Nat} (ht : t < s.length) (h : Pl a d (fun j => ∃ m, m < N ∧ (mtCat (byt S) (s.take t) i m ∧ m < N) ∧ MtN S N s[t] m j)) : Pl a d (fun j => mtCat (byt S) (s.take (t + 1)) i j ∧ j < N) :=
  h.of fun j => by
    rw [ef_take (S := S) ht, mtCat_snoc]
    exact ⟨fun ⟨m, _, h2, h3⟩ => ⟨⟨m, h2.1, h3.1⟩, h3.2⟩, fun ⟨⟨m, h1, h2⟩, h3⟩ => by
      have := mt_le _ _ h2
      exact ⟨m, by omega, ⟨h1, by omega⟩, h2, h3⟩⟩
theorem any_step {S : ByteArray} {N : Nat} {s : List Rx} {i t a d : Nat} (ht : t < s.length) (h : Pl a d (fun j => (mtAny (byt S) (s.take t) i j ∧ j < N) ∨ MtN S N s[t] i j)) : Pl a d (fun j => mtAny (byt S) (s.take (t + 1)) i j ∧ j < N) :=
  h.of fun j => by
    rw [ef_take (S := S) ht, mtAny_snoc]
    exact ⟨fun h => h.elim (fun h => ⟨.inl h.1, h.2⟩) (fun h => ⟨.inr h.1, h.2⟩), fun h => h.1.elim (fun h1 => .inl ⟨h1, h.2⟩) (fun h1 => .inr ⟨h1, h.2⟩)⟩
theorem all_step {S : ByteArray} {N : Nat} {s : List Rx} {i t a d : Nat} (ht : t < s.length) (h : Pl a d (fun j => (i ≤ j ∧ j < N ∧ mtAll (byt S) (s.take t) i j) ∧ MtN S N s[t] i j)) : Pl a d (fun j => i ≤ j ∧ j < N ∧ mtAll (byt S) (s.take (t + 1)) i j) :=
  h.of fun j => by
    rw [ef_take (S := S) ht, mtAll_snoc]
    exact ⟨fun ⟨h, h2⟩ => ⟨h.1, h.2.1, h.2.2, h2.1⟩, fun ⟨h1, h2, h3, h4⟩ => ⟨⟨h1, h2, h3⟩, h4, h2⟩⟩
set_option maxHeartbeats 1000000 in
set_option maxRecDepth 100000 in
theorem ef_3 (S : ByteArray) (i : Nat) (hi : i ≤ S.size) (h64 : S.size ≤ 64) (s : List Rx) (hsl : s.length ≤ 1048576) (K A : Option Addr) (kc c : Nat) (w : World) (hK : KRow w (Lo w.heap.size) S (S.size + 1) s K) : Calls Tryz.prog 59 #[.agg #[.int .i64 3, .int .u8 0, .int .u8 0, .slice A s.length c], .slice K s.length kc, .string S, .int .i64 i] w (EF S (.node 3 0 0 s) i w) := by
  have HZ := Lib.hid (ef_start w #[.int .i64 3, .int .u8 0, .int .u8 0, .slice A s.length c])
  have hS := Lib.hid hi
  have h65 := Lib.hid h64
  have HK := Lib.hid hK
  have hO := Lib.hid fun W => only_any i (by omega) W
  clear hi h64 hK
  go_enter Tryz.func59, Tryz.ntmps59
  go_wp2_with fail
  refine (hO.out _).mono ?_
  rintro e w1 ⟨a, d, rfl, hP, hw1⟩
  obtain ⟨z0, z1, z2, z3⟩ := HZ.out w1 (hw1.mono (by simp))
  have hsz1 : w.heap.size + 3 ≤ w1.heap.size := by have := hw1.size; simp at this; omega
  obtain ⟨g0, g1⟩ := two_cells z1
  obtain ⟨f0, f1⟩ := two_cells z2
  have q0 := four_frozen z1 0
  have q1 := four_frozen z1 1
  have r0 := four_frozen z2 0
  have r1 := four_frozen z2 1
  go_wp2_with fail
  go_loopw [44] (fun v wr => ∃ t a d : Nat, t ≤ s.length ∧ v = .int .i64 t ∧ Hid (Pl a d (fun j => mtCat (byt S) (s.take t) i j ∧ j < S.size + 1)) ∧ wr.heap[w.heap.size]? = some (.cells #[.int .i64 3, .int .u8 0, .int .u8 0, .slice A s.length c] 30 (0, 0)) ∧ wr.heap[w.heap.size + 1]? = some (.cells #[.int .u64 0, .int .u64 0] 74 (0, 0)) ∧ wr.heap[w.heap.size + 1 + 1]? = some (.cells #[.int .u64 a, .int .u64 d] 74 (0, 0)) ∧ Below w.heap.size w wr ∧ w.heap.size + 3 ≤ wr.heap.size) (fun v _ => s.length - (intOf v).toNat)
  case atStart =>
    refine ⟨0, a, d, Nat.zero_le _, rfl, Lib.hid (hP.of fun j => ?_), ?_, ?_, ?_, ?_, ?_⟩
    · exact ⟨fun h => ⟨by simp [mtCat]; omega, by have := hS.out; omega⟩, fun h => by simp [mtCat] at h; omega⟩
    · exact (set2_other _ _ (by omega)).trans z0
    · exact (set2_other _ _ (by omega)).trans z1
    · exact set2_self z2 _ _
    · exact set2_below z3 (by omega) _ _
    · rw [set2_size]; exact hsz1
  case round =>
    clear g0 g1 f0 f1 q0 q1 r0 r1 z0 z1 z2 z3 hw1 hP
    obtain ⟨t, a, d, ht, rfl, hP, z0, z1, z2, hW, hsz⟩ := hrel
    obtain ⟨g0, g1⟩ := two_cells z1
    obtain ⟨f0, f1⟩ := two_cells z2
    have q0 := four_frozen z1 0
    have q1 := four_frozen z1 1
    have r0 := four_frozen z2 0
    have r1 := four_frozen z2 1
    by_cases hlt : t < s.length
    · have hlt' : (t : Int) < s.length := by omega
      obtain ⟨bk, ok, A', c', rfl, hbk, hcell, hrow⟩ := HK.out t hlt
      have k0 := (World.cell?_of_block (hW.block bk hbk)).trans hcell
      clear hcell
      have hrw := hrow.call hW
      have hT := Lib.hid (then_any a d (S.size + 1) c' _ _ A' wr hP.out (by have := h65.out; omega) hrw)
      clear hrw hrow
      go_wp2_with fail
      refine hT.out.mono ?_
      rintro e w2 ⟨a', d', rfl, hP', hw2⟩
      have y2 := (hw2.block (w.heap.size + 1 + 1) (by omega)).trans z2
      clear f0 f1 r0 r1
      obtain ⟨f0, f1⟩ := two_cells y2
      have r0 := four_frozen y2 0
      have r1 := four_frozen y2 1
      all_goals
        go_wp2_with fail
        go_roundw
        case rel =>
          refine ⟨t + 1, a', d', by omega, by go_num, Lib.hid (cat_step hlt hP'), ?_, ?_, ?_, ?_, ?_⟩
          · exact (set2_other _ _ (by omega)).trans ((hw2.block _ (by omega)).trans z0)
          · exact (set2_other _ _ (by omega)).trans ((hw2.block _ (by omega)).trans z1)
          · exact set2_self y2 _ _
          · exact set2_below (hW.trans (hw2.mono (by omega))) (by omega) _ _
          · rw [set2_size]; have := hw2.size; omega
        case measure => simp [intOf]; omega
    · obtain rfl : t = s.length := by omega
      have hlt' : ¬ (s.length : Int) < s.length := by omega
      go_wp2_with fail
      refine bodyPost_ret (v := .agg #[.int .u64 a, .int .u64 d]) (by simp [results, Tryz.results59, go_sem, g0, g1]) rfl ?_
      exact ⟨a, d, rfl, hP.out.of fun j => by simp only [List.take_length, MtN, mt]; simp, set2_below hW (by omega) _ _⟩
set_option maxHeartbeats 1000000 in
set_option maxRecDepth 100000 in
theorem ef_4 (S : ByteArray) (i : Nat) (hi : i ≤ S.size) (h64 : S.size ≤ 64) (s : List Rx) (hsl : s.length ≤ 1048576) (K A : Option Addr) (kc c : Nat) (w : World) (hK : KRow w (Lo w.heap.size) S (S.size + 1) s K) : Calls Tryz.prog 59 #[.agg #[.int .i64 4, .int .u8 0, .int .u8 0, .slice A s.length c], .slice K s.length kc, .string S, .int .i64 i] w (EF S (.node 4 0 0 s) i w) := by
  have HZ := Lib.hid (ef_start w #[.int .i64 4, .int .u8 0, .int .u8 0, .slice A s.length c])
  have hS := Lib.hid hi
  have h65 := Lib.hid h64
  have HK := Lib.hid hK
  clear hi h64 hK
  go_enter Tryz.func59, Tryz.ntmps59
  go_wp2_with fail
  go_loopw [56] (fun v wr => ∃ t a d : Nat, t ≤ s.length ∧ v = .int .i64 t ∧ Hid (Pl a d (fun j => mtAny (byt S) (s.take t) i j ∧ j < S.size + 1)) ∧ wr.heap[w.heap.size]? = some (.cells #[.int .i64 4, .int .u8 0, .int .u8 0, .slice A s.length c] 30 (0, 0)) ∧ wr.heap[w.heap.size + 1]? = some (.cells #[.int .u64 0, .int .u64 0] 74 (0, 0)) ∧ wr.heap[w.heap.size + 1 + 1]? = some (.cells #[.int .u64 a, .int .u64 d] 74 (0, 0)) ∧ Below w.heap.size w wr ∧ w.heap.size + 3 ≤ wr.heap.size) (fun v _ => s.length - (intOf v).toNat)
  case atStart =>
    obtain ⟨z0, z1, z2, z3⟩ := HZ.out _ (Below.refl _ _)
    refine ⟨0, 0, 0, Nat.zero_le _, rfl, Lib.hid (Pl.none.of fun j => ?_), z0, z1, z2, z3, by simp⟩
    exact ⟨False.elim, fun h => by simp [mtAny] at h⟩
  case round =>
    skip
    obtain ⟨t, a, d, ht, rfl, hP, z0, z1, z2, hW, hsz⟩ := hrel
    obtain ⟨g0, g1⟩ := two_cells z1
    obtain ⟨f0, f1⟩ := two_cells z2
    have q0 := four_frozen z1 0
    have q1 := four_frozen z1 1
    have r0 := four_frozen z2 0
    have r1 := four_frozen z2 1
    by_cases hlt : t < s.length
    · have hlt' : (t : Int) < s.length := by omega
      obtain ⟨bk, ok, A', c', rfl, hbk, hcell, hrow⟩ := HK.out t hlt
      have k0 := (World.cell?_of_block (hW.block bk hbk)).trans hcell
      clear hcell
      have hrw := hrow.call hW
      obtain ⟨be, oe, rfl, hbe, hel⟩ := hrw
      obtain ⟨x, y, e0, e1, hX⟩ := hel i (by have := hS.out; omega)
      have hT := Lib.hid fun W => por_any a d x y _ _ W hP.out hX
      have hiN : (i : Int) < (S.size : Int) + 1 := by have := hS.out; omega
      have hiN' : i < S.size + 1 := by have := hS.out; omega
      clear hrow hel hX
      have hbl : be < wr.heap.size := hbe
      go_wp2_with fail
      go_region_law (first | (go_simp; go_at_call 75; refine (hT.out _).mono ?_; rintro e w2 ⟨a', d', rfl, hP', hw2'⟩; have hw2 : Below wr.heap.size wr w2 := (Below.refl _ wr).drew.trans (hw2'.mono (by simp)); have y2 := (hw2.block (w.heap.size + 1 + 1) (by omega)).trans z2; have fa := (two_cells y2).1; have fb := (two_cells y2).2; have ra := four_frozen y2 0; have rb := four_frozen y2 1))
      all_goals
        go_wp2_with fail
        go_roundw
        case rel =>
          refine ⟨t + 1, a', d', by omega, by go_num, Lib.hid (any_step hlt hP'), ?_, ?_, ?_, ?_, ?_⟩
          · exact (set2_other _ _ (by omega)).trans ((hw2.block _ (by omega)).trans z0)
          · exact (set2_other _ _ (by omega)).trans ((hw2.block _ (by omega)).trans z1)
          · exact set2_self y2 _ _
          · exact set2_below (hW.trans (hw2.mono (by omega))) (by omega) _ _
          · rw [set2_size]; have := hw2.size; omega
        case measure => simp [intOf]; omega
    · obtain rfl : t = s.length := by omega
      have hlt' : ¬ (s.length : Int) < s.length := by omega
      go_wp2_with fail
      refine bodyPost_ret (v := .agg #[.int .u64 a, .int .u64 d]) (by simp [results, Tryz.results59, go_sem, g0, g1]) rfl ?_
      exact ⟨a, d, rfl, hP.out.of fun j => by simp only [List.take_length, MtN, mt]; simp, set2_below hW (by omega) _ _⟩
set_option maxHeartbeats 1000000 in
set_option maxRecDepth 100000 in
theorem ef_5 (S : ByteArray) (i : Nat) (hi : i ≤ S.size) (h64 : S.size ≤ 64) (s : List Rx) (hsl : s.length ≤ 1048576) (K A : Option Addr) (kc c : Nat) (w : World) (hK : KRow w (Lo w.heap.size) S (S.size + 1) s K) : Calls Tryz.prog 59 #[.agg #[.int .i64 5, .int .u8 0, .int .u8 0, .slice A s.length c], .slice K s.length kc, .string S, .int .i64 i] w (EF S (.node 5 0 0 s) i w) := by
  have HZ := Lib.hid (ef_start w #[.int .i64 5, .int .u8 0, .int .u8 0, .slice A s.length c])
  have hS := Lib.hid hi
  have h65 := Lib.hid h64
  have HK := Lib.hid hK
  have hO := Lib.hid fun W => between_any i S.size (by omega) h64 W
  clear hi h64 hK
  go_enter Tryz.func59, Tryz.ntmps59
  go_wp2_with fail
  refine (hO.out _).mono ?_
  rintro e w1 ⟨a, d, rfl, hP, hw1⟩
  obtain ⟨z0, z1, z2, z3⟩ := HZ.out w1 (hw1.mono (by simp))
  have hsz1 : w.heap.size + 3 ≤ w1.heap.size := by have := hw1.size; simp at this; omega
  obtain ⟨g0, g1⟩ := two_cells z1
  obtain ⟨f0, f1⟩ := two_cells z2
  have q0 := four_frozen z1 0
  have q1 := four_frozen z1 1
  have r0 := four_frozen z2 0
  have r1 := four_frozen z2 1
  go_wp2_with fail
  go_loopw [75] (fun v wr => ∃ t a d : Nat, t ≤ s.length ∧ v = .int .i64 t ∧ Hid (Pl a d (fun j => i ≤ j ∧ j < S.size + 1 ∧ mtAll (byt S) (s.take t) i j)) ∧ wr.heap[w.heap.size]? = some (.cells #[.int .i64 5, .int .u8 0, .int .u8 0, .slice A s.length c] 30 (0, 0)) ∧ wr.heap[w.heap.size + 1]? = some (.cells #[.int .u64 0, .int .u64 0] 74 (0, 0)) ∧ wr.heap[w.heap.size + 1 + 1]? = some (.cells #[.int .u64 a, .int .u64 d] 74 (0, 0)) ∧ Below w.heap.size w wr ∧ w.heap.size + 3 ≤ wr.heap.size) (fun v _ => s.length - (intOf v).toNat)
  case atStart =>
    refine ⟨0, a, d, Nat.zero_le _, rfl, Lib.hid (hP.of fun j => ?_), ?_, ?_, ?_, ?_, ?_⟩
    · exact ⟨fun h => ⟨h.1, by omega, by simp [mtAll]⟩, fun h => ⟨h.1, by omega⟩⟩
    · exact (set2_other _ _ (by omega)).trans z0
    · exact (set2_other _ _ (by omega)).trans z1
    · exact set2_self z2 _ _
    · exact set2_below z3 (by omega) _ _
    · rw [set2_size]; exact hsz1
  case round =>
    clear g0 g1 f0 f1 q0 q1 r0 r1 z0 z1 z2 z3 hw1 hP
    obtain ⟨t, a, d, ht, rfl, hP, z0, z1, z2, hW, hsz⟩ := hrel
    obtain ⟨g0, g1⟩ := two_cells z1
    obtain ⟨f0, f1⟩ := two_cells z2
    have q0 := four_frozen z1 0
    have q1 := four_frozen z1 1
    have r0 := four_frozen z2 0
    have r1 := four_frozen z2 1
    by_cases hlt : t < s.length
    · have hlt' : (t : Int) < s.length := by omega
      obtain ⟨bk, ok, A', c', rfl, hbk, hcell, hrow⟩ := HK.out t hlt
      have k0 := (World.cell?_of_block (hW.block bk hbk)).trans hcell
      clear hcell
      have hrw := hrow.call hW
      obtain ⟨be, oe, rfl, hbe, hel⟩ := hrw
      obtain ⟨x, y, e0, e1, hX⟩ := hel i (by have := hS.out; omega)
      have hT := Lib.hid fun W => pand_any a d x y _ _ W hP.out hX
      have hiN : (i : Int) < (S.size : Int) + 1 := by have := hS.out; omega
      have hiN' : i < S.size + 1 := by have := hS.out; omega
      clear hrow hel hX
      have hbl : be < wr.heap.size := hbe
      go_wp2_with fail
      go_region_law (first | (go_simp; go_at_call 77; refine (hT.out _).mono ?_; rintro e w2 ⟨a', d', rfl, hP', hw2'⟩; have hw2 : Below wr.heap.size wr w2 := (Below.refl _ wr).drew.trans (hw2'.mono (by simp)); have y2 := (hw2.block (w.heap.size + 1 + 1) (by omega)).trans z2; have fa := (two_cells y2).1; have fb := (two_cells y2).2; have ra := four_frozen y2 0; have rb := four_frozen y2 1))
      all_goals
        go_wp2_with fail
        go_roundw
        case rel =>
          refine ⟨t + 1, a', d', by omega, by go_num, Lib.hid (all_step hlt hP'), ?_, ?_, ?_, ?_, ?_⟩
          · exact (set2_other _ _ (by omega)).trans ((hw2.block _ (by omega)).trans z0)
          · exact (set2_other _ _ (by omega)).trans ((hw2.block _ (by omega)).trans z1)
          · exact set2_self y2 _ _
          · exact set2_below (hW.trans (hw2.mono (by omega))) (by omega) _ _
          · rw [set2_size]; have := hw2.size; omega
        case measure => simp [intOf]; omega
    · obtain rfl : t = s.length := by omega
      have hlt' : ¬ (s.length : Int) < s.length := by omega
      go_wp2_with fail
      refine bodyPost_ret (v := .agg #[.int .u64 a, .int .u64 d]) (by simp [results, Tryz.results59, go_sem, g0, g1]) rfl ?_
      exact ⟨a, d, rfl, hP.out.of fun j => by rw [List.take_length]; exact ⟨fun ⟨h1, h2, h3⟩ => ⟨mt5.2 ⟨h1, h3⟩, h2⟩, fun ⟨h1, h2⟩ => ⟨(mt5.1 h1).1, h2, (mt5.1 h1).2⟩⟩, set2_below hW (by omega) _ _⟩
set_option maxHeartbeats 1000000 in
set_option maxRecDepth 100000 in
theorem ef_6 (S : ByteArray) (i : Nat) (hi : i ≤ S.size) (h64 : S.size ≤ 64) (x : Rx) (K A : Option Addr) (kc c : Nat) (w : World) (hK : KRow w (Lo w.heap.size) S (S.size + 1) [x] K) : Calls Tryz.prog 59 #[.agg #[.int .i64 6, .int .u8 0, .int .u8 0, .slice A 1 c], .slice K 1 kc, .string S, .int .i64 i] w (EF S (.node 6 0 0 [x]) i w) := by
  have HZ := Lib.hid (ef_start w #[.int .i64 6, .int .u8 0, .int .u8 0, .slice A 1 c])
  have hO := Lib.hid fun W => between_any i S.size (by omega) h64 W
  obtain ⟨bk, ok, A', c', rfl, hbk, hcell, be, oe, rfl, hbe, hel⟩ := hK 0 (by simp)
  obtain ⟨u, v, e0, e1, hX⟩ := hel i (by omega)
  rw [Nat.add_zero] at hcell
  have hiN : (i : Int) < (S.size : Int) + 1 := by omega
  have HE := Lib.hid fun W (h : Below w.heap.size w W) => (show W.cell? ⟨bk, ok, none⟩ = some (.slice (some ⟨be, oe, none⟩) (S.size + 1) c') ∧ W.cell? ⟨be, oe + i * 2, none⟩ = some (.int .u64 u) ∧ W.cell? ⟨be, oe + i * 2 + 1, none⟩ = some (.int .u64 v) from ⟨(World.cell?_of_block (h.block bk hbk)).trans hcell, (World.cell?_of_block (h.block be hbe)).trans e0, (World.cell?_of_block (h.block be hbe)).trans e1⟩)
  have HX := Lib.hid hX
  clear hel hX e0 e1 hcell hK
  have hd : Below (w.heap.size + 3) (((w.alloc (.cells #[.int .i64 6, .int .u8 0, .int .u8 0, .slice A 1 c] 30)).alloc (.cells #[.int .u64 0, .int .u64 0] 74)).alloc (.cells #[.int .u64 0, .int .u64 0] 74)) (((w.alloc (.cells #[.int .i64 6, .int .u8 0, .int .u8 0, .slice A 1 c] 30)).alloc (.cells #[.int .u64 0, .int .u64 0] 74)).alloc (.cells #[.int .u64 0, .int .u64 0] 74)).drew := (Below.refl _ _).drew
  have hd0 := (HZ.out _ hd).2.2.2
  have HF := Lib.hid fun W (h : Below (w.heap.size + 3) (((w.alloc (.cells #[.int .i64 6, .int .u8 0, .int .u8 0, .slice A 1 c] 30)).alloc (.cells #[.int .u64 0, .int .u64 0] 74)).alloc (.cells #[.int .u64 0, .int .u64 0] 74)) W) => ((⟨(two_cells (HZ.out W h).2.2.1).1, (two_cells (HZ.out W h).2.2.1).2, four_frozen (HZ.out W h).2.2.1 0, four_frozen (HZ.out W h).2.2.1 1⟩ : W.cell? ⟨w.heap.size + 1 + 1, 0, none⟩ = some (.int .u64 0) ∧ W.cell? ⟨w.heap.size + 1 + 1, 1, none⟩ = some (.int .u64 0) ∧ W.frozen? ⟨w.heap.size + 1 + 1, 0, none⟩ = false ∧ W.frozen? ⟨w.heap.size + 1 + 1, 1, none⟩ = false))
  have HS := Lib.hid hi
  clear hi h64
  go_enter Tryz.func59, Tryz.ntmps59
  go_wp2_with fail
  go_region_held3 (fun W => W.cell? ⟨bk, ok, none⟩ = some (.slice (some ⟨be, oe, none⟩) (S.size + 1) c') ∧ W.cell? ⟨be, oe + i * 2, none⟩ = some (.int .u64 u) ∧ W.cell? ⟨be, oe + i * 2 + 1, none⟩ = some (.int .u64 v))
    (first | exact HE.out _ hd0 | exact HE.out _ hc0' | exact HE.out _ hc2' | exact HE.out _ (set2_below hc2' (by omega) _ _))
    (first
      | (go_at_call 76; (with_reducible refine Calls.mono (hO.out _) ?_); rintro e w1 ⟨a, d, rfl, hP, hw1⟩; have hc1 := hd.trans (hw1.mono (by simp)); have hz1 : w.heap.size + 3 ≤ w1.heap.size := (by have := hc1.size; simp at this; omega); have hc0' := (HZ.out _ hc1).2.2.2; have hQ := Lib.hid fun W => pwithout_any a d u v _ _ W hP HX.out)
      | (go_at_call 78; (with_reducible refine Calls.mono (hQ.out _) ?_); rintro e w2 ⟨a', d', rfl, hP', hw2⟩; have hc2 := hc1.trans (hw2.mono hz1); have hc2' := (HZ.out _ hc2).2.2.2; obtain ⟨f0, f1, r0, r1⟩ := HF.out _ hc2; have HA := Lib.hid (HZ.out _ hc2)))
  obtain ⟨z0, z1, z2, z3⟩ := HA.out
  obtain ⟨g0, g1⟩ := two_cells z1
  have q0 := four_frozen z1 0
  have q1 := four_frozen z1 1
  go_wp2_with fail
  refine bodyPost_ret (v := .agg #[.int .u64 a', .int .u64 d']) (by simp [results, Tryz.results59, go_sem, g0, g1]) rfl ?_
  exact ⟨a', d', rfl, hP'.of fun j => ⟨fun ⟨h1, h2⟩ => ⟨mt6.2 ⟨h1.1, fun h => h2 ⟨h, by omega⟩⟩, by omega⟩, fun ⟨h1, h2⟩ => ⟨⟨(mt6.1 h1).1, by omega⟩, fun h => (mt6.1 h1).2 h.1⟩⟩, set2_below (set2_below z3 (by omega) _ _) (by omega) _ _⟩
set_option maxHeartbeats 1000000 in
set_option maxRecDepth 100000 in
theorem star_mt {S : ByteArray} {x : Rx} {i j : Nat} (hi : i ≤ S.size) : oft (MtN S (S.size + 1) x) i (S.size + 1) j ↔ MtN S (S.size + 1) (.node 7 0 0 [x]) i j := by
  have h1 := oft_star (R := MtN S (S.size + 1) x) (fun i j h => mt_le _ _ h.1) (n := S.size) (j := j) (fun i j h => Nat.lt_succ_iff.1 h.2) hi
  rw [h1]
  constructor
  · intro h
    have hj : j < S.size + 1 := by
      cases h with
      | nil => omega
      | step g1 g2 g3 =>
        have key : ∀ a c, Star (MtN S (S.size + 1) x) a c → a < S.size + 1 → c < S.size + 1 := by
          intro a c h
          induction h with
          | nil => exact id
          | step k1 _ _ ih => exact fun _ => ih k1.2
        exact key _ _ g3 g1.2
    exact ⟨mt7.2 ((star_upto (n := S.size) (by omega)).2 (by
      have e : (fun a c => mt (byt S) x a c ∧ c ≤ S.size) = MtN S (S.size + 1) x := by
        funext a c
        exact propext (and_congr Iff.rfl Nat.lt_succ_iff.symm)
      rw [e]; exact h)), hj⟩
  · rintro ⟨h, hj⟩
    have h2 := (star_upto (n := S.size) (by omega)).1 (mt7.1 h)
    have e : (fun a c => mt (byt S) x a c ∧ c ≤ S.size) = MtN S (S.size + 1) x := by
      funext a c
      exact propext (and_congr Iff.rfl Nat.lt_succ_iff.symm)
    rwa [e] at h2
set_option maxHeartbeats 1000000 in
set_option maxRecDepth 100000 in
theorem ef_7 (S : ByteArray) (i : Nat) (hi : i ≤ S.size) (h64 : S.size ≤ 64) (x : Rx) (K A : Option Addr) (kc c : Nat) (w : World) (hK : KRow w (Lo w.heap.size) S (S.size + 1) [x] K) : Calls Tryz.prog 59 #[.agg #[.int .i64 7, .int .u8 0, .int .u8 0, .slice A 1 c], .slice K 1 kc, .string S, .int .i64 i] w (EF S (.node 7 0 0 [x]) i w) := by
  have HZ := Lib.hid (ef_start w #[.int .i64 7, .int .u8 0, .int .u8 0, .slice A 1 c])
  have hO := Lib.hid fun W => only_any i (by omega) W
  obtain ⟨bk, ok, A', c', rfl, hbk, hcell, hrow⟩ := hK 0 (by simp)
  rw [Nat.add_zero] at hcell
  have HE := Lib.hid fun W (h : Below w.heap.size w W) => (World.cell?_of_block (h.block bk hbk)).trans hcell
  have HR := Lib.hid hrow
  have h65 := Lib.hid h64
  clear hrow hcell hK
  have hd : Below (w.heap.size + 3) (((w.alloc (.cells #[.int .i64 7, .int .u8 0, .int .u8 0, .slice A 1 c] 30)).alloc (.cells #[.int .u64 0, .int .u64 0] 74)).alloc (.cells #[.int .u64 0, .int .u64 0] 74)) (((w.alloc (.cells #[.int .i64 7, .int .u8 0, .int .u8 0, .slice A 1 c] 30)).alloc (.cells #[.int .u64 0, .int .u64 0] 74)).alloc (.cells #[.int .u64 0, .int .u64 0] 74)).drew := (Below.refl _ _).drew
  have hd0 := (HZ.out _ hd).2.2.2
  have HS := Lib.hid hi
  clear hi h64
  go_enter Tryz.func59, Tryz.ntmps59
  go_wp2_with fail
  go_region_held3 (fun W => W.cell? ⟨bk, ok, none⟩ = some (.slice A' (S.size + 1) c'))
    (first | exact HE.out _ hd0 | exact HE.out _ hc0' | exact HE.out _ hc2' | exact HE.out _ (set2_below hc2' (by omega) _ _))
    (first
      | (go_at_call 72; (with_reducible refine Calls.mono (hO.out _) ?_); rintro e w1 ⟨a, d, rfl, hP, hw1⟩; have hc1 := hd.trans (hw1.mono (by simp)); have hz1 : w.heap.size + 3 ≤ w1.heap.size := (by have := hc1.size; simp at this; omega); have hc0' := (HZ.out _ hc1).2.2.2; have hQ := Lib.hid (often_any a d (S.size + 1) c' i _ A' w1 hP (by have := h65.out; omega) (HR.out.call hc0')))
      | (go_at_call 79; (with_reducible refine Calls.mono hQ.out ?_); rintro e w2 ⟨a', d', rfl, hP', hw2⟩; have hc2 := hc1.trans (hw2.mono hz1); have hc2' := (HZ.out _ hc2).2.2.2; obtain ⟨f0, f1⟩ := two_cells (HZ.out _ hc2).2.2.1; have r0 := four_frozen (HZ.out _ hc2).2.2.1 0; have r1 := four_frozen (HZ.out _ hc2).2.2.1 1; have HA := Lib.hid (HZ.out _ hc2)))
  all_goals
    obtain ⟨z0, z1, z2, z3⟩ := HA.out
    obtain ⟨g0, g1⟩ := two_cells z1
    have q0 := four_frozen z1 0
    have q1 := four_frozen z1 1
    go_wp2_with fail
    refine bodyPost_ret (v := .agg #[.int .u64 a', .int .u64 d']) (by simp [results, Tryz.results59, go_sem, g0, g1]) rfl ?_
    exact ⟨a', d', rfl, hP'.of fun j => star_mt HS.out, set2_below (set2_below z3 (by omega) _ _) (by omega) _ _⟩
end Go.Proofs.YtijcjknaphboeaaGreatDoor
