/-
  A TEXT that is too long.
-/
import Derived.Test.YtpeeekgfcofbkaaLxToks
import Derived.Test.YtpeeekgfcofbkaaLxQLaw
namespace Go.Proofs.Ytpeeekgfcofbkaa
open Go.RowKit

set_option maxRecDepth 100000 in
set_option maxHeartbeats 8000000 in
theorem tok_long (S : ByteArray) (w : World) (hs : 65536 < S.size) : Calls Try.prog 13 #[.string S] w fun e w' => e = .returned (.tuple #[.slice none 0 0, .int .i64 65536, .int .i64 4]) ∧ Below w.heap.size w w' := by
  have hsz1 : (65536 : Int) < (S.size : Int) := by omega
  refine (callsIn_wide (n := 3)).1 ?_
  refine callsIn_of_wp_marks Try.func13 rfl trivial ?_ rfl
  simp only [Try.ntmps13, List.size_toArray, List.length_cons, List.length_nil, Nat.reduceAdd, Nat.reduceSub, Array.replicate_succ, Array.replicate_zero, List.push_toArray, List.append_toArray, List.nil_append, List.cons_append]
  gi_wp2
  have y2 : One (((w.alloc (.cells #[.slice none 0 0] 28)).alloc (.cells #[.int .i64 65536] 3)).alloc (.cells #[.int .i64 4] 29)) (w.heap.size + 1 + 1) 29 (.int .i64 4) := heap_alloc_new_at _ _ (by simp)
  have y1 : One (((w.alloc (.cells #[.slice none 0 0] 28)).alloc (.cells #[.int .i64 65536] 3)).alloc (.cells #[.int .i64 4] 29)) (w.heap.size + 1) 3 (.int .i64 65536) := (heap_alloc_old _ _ _ (by simp)).trans (heap_alloc_new_at _ _ (by simp))
  have y0 : One (((w.alloc (.cells #[.slice none 0 0] 28)).alloc (.cells #[.int .i64 65536] 3)).alloc (.cells #[.int .i64 4] 29)) w.heap.size 28 (.slice none 0 0) := (heap_alloc_old _ _ _ (by simp <;> omega)).trans ((heap_alloc_old _ _ _ (by simp)).trans (heap_alloc_new_at _ _ (by simp)))
  have hB : Below w.heap.size w (((w.alloc (.cells #[.slice none 0 0] 28)).alloc (.cells #[.int .i64 65536] 3)).alloc (.cells #[.int .i64 4] 29)) := (((Below.refl _ _).alloc (Nat.le_refl _) _).alloc (by simp) _).alloc (by simp <;> omega) _
  have y0' := (one_at y0).1
  have y1' := (one_at y1).1
  have y2' := (one_at y2).1
  refine ⟨.tuple #[.slice none 0 0, .int .i64 65536, .int .i64 4], ?_, rfl, hB⟩
  simp [results, Try.results13, go_sem, y0', y1', y2']
/-- what make([]byte, 65537) gives, and its string -/
theorem long_made : ∃ (m : Nat) (C : Array Value) (Z : ByteArray), 65536 < Z.size ∧ (∀ W : World, (Instr.makeSlice 24 (.int .i64 65537) (.int .i64 65537)).run Try.prog W = .ok (.slice (some ⟨W.heap.size, 0, none⟩) m m) (W.alloc (.cells C 5))) ∧
    ∀ W : World, (convert 24 9 (.slice (some ⟨W.heap.size, 0, none⟩) m m)).run Try.prog (W.alloc (.cells C 5)) = .ok (.string Z) (W.alloc (.cells C 5)) := by
  obtain ⟨i1, hi1, hj0, hj1, hj2⟩ := info_parts info_u8
  obtain ⟨m, hm⟩ : ∃ m : Nat, m = 65537 := ⟨_, rfl⟩
  refine ⟨m, madeCells #[.int .u8 0] m, strOfNums (List.replicate m 0), by rw [str_size', List.length_replicate]; omega, fun W => ?_, fun W => ?_⟩
  · have h := run_make_row (P := Try.prog) 24 5 i1 _ Try.underlying24 hi1 hj0 hj1 rfl .i64 .i64 m (by rw [hj2]; omega) (by omega) W
    rw [show ((m : Nat) : Int) = 65537 by omega] at h
    exact h
  · exact lx_conv (some ⟨W.heap.size, 0, none⟩) m m (List.replicate m 0) _ _ List.length_replicate (zeros_rd' (w := W) m)
end Go.Proofs.Ytpeeekgfcofbkaa
