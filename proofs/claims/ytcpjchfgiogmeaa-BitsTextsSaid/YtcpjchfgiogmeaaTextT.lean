/-
  The reference's Parse, whole; words for the law on texts.
-/
import Derived.Test.YtcpjchfgiogmeaaTextS
namespace Go.Proofs.Ytcpjchfgiogmeaa
open Go.RowKit

theorem get_head {s : ByteArray} {k c : Nat} (h : (sb s).drop k = (c : Int) :: (sb s).drop (k + 1)) : (sb s)[k]? = some (c : Int) := by
  have := congrArg List.head? h
  rw [List.head?_drop] at this
  exact this
theorem bParse_any (s : ByteArray) (w : World) (hs : s.size ≤ 1000000) : Calls Try.prog 31 #[.string s] w (ParsePost w (parseV (sb s))) := by
  have hL := sb_length s
  by_cases h3 : s.size < 3
  · have hv : parseV (sb s) = (0, 0, 2) := by unfold parseV; rw [if_pos (by omega)]
    rw [hv]
    exact bparse_short s w h3
  · obtain ⟨c0, hc0, hd0, i0⟩ := sb_at s 0 (by omega)
    obtain ⟨c1, hc1, hd1, i1⟩ := sb_at s 1 (by omega)
    have g0 := get_head hd0
    have g1 := get_head hd1
    have i0' : ∀ W : World, (Instr.index 9 (.string s) (.int .i64 0)).run Try.prog W = .ok (.int .u8 c0) W := i0
    have i1' : ∀ W : World, (Instr.index 9 (.string s) (.int .i64 1)).run Try.prog W = .ok (.int .u8 c1) W := i1
    have hv : parseV (sb s) = if (c0 : Int) ≠ 35 then (0, 0, 2) else if (c1 : Int) = 98 then finP 1 ((sb s).drop 2) else if (c1 : Int) = 120 then finP 4 ((sb s).drop 2) else (0, 0, 2) := by
      unfold parseV
      rw [if_neg (by omega), g0, g1]
      simp
    rw [hv]
    have hdl : ((sb s).drop 2).length = s.size - 2 := by rw [List.length_drop, hL]
    by_cases a0 : c0 = 35
    · rw [if_neg (by omega)]
      by_cases a1 : c1 = 98
      · rw [if_pos (by omega)]
        subst a0 a1
        by_cases hl : 64 < s.size - 2
        · have hf : finP 1 ((sb s).drop 2) = (0, 0, 2) := by unfold finP; rw [if_pos (by rw [hdl]; omega)]
          rw [hf]
          exact bparse_long1 s w (by omega) hl i0' i1' (by omega)
        · exact bparse_one s w (s.size - 2) (by omega) (by omega) (by omega) i0' i1'
      · rw [if_neg (by omega)]
        by_cases a2 : c1 = 120
        · rw [if_pos (by omega)]
          subst a0 a2
          by_cases hl : 16 < s.size - 2
          · have hf : finP 4 ((sb s).drop 2) = (0, 0, 2) := by unfold finP; rw [if_pos (by rw [hdl]; omega)]
            rw [hf]
            exact bparse_long4 s w (by omega) hl i0' i1' (by omega)
          · exact bparse_four s w (s.size - 2) (by omega) (by omega) (by omega) i0' i1'
        · rw [if_neg (by omega)]
          exact bparse_head s w (by omega) c0 c1 i0' i1' (.inr ⟨a1, a2⟩)
    · rw [if_pos (by omega)]
      exact bparse_head s w (by omega) c0 c1 i0' i1' (.inl a0)
theorem textI_length {u n : Nat} (h1 : 1 ≤ n) (h64 : n ≤ 64) : 3 ≤ (textI u n).length ∧ (textI u n).length ≤ 66 := by
  unfold textI
  split
  · rw [List.length_append, digitsL_length]; simp; omega
  · rw [List.length_append, digitsL_length]; simp; omega
theorem textI_bytes {u n : Nat} : Bytes8 (textI u n) := by
  have hd : ∀ sz k, sz = 1 ∨ sz = 4 → ∀ z ∈ digitsL u n sz k, 0 ≤ z ∧ z < 256 := fun sz k hs z hz => by
    simp only [digitsL, List.mem_map] at hz
    obtain ⟨i, _, rfl⟩ := hz
    exact digI_256 _ (Nat.lt_of_lt_of_le (Nat.mod_lt _ (ppos _)) (by rcases hs with rfl | rfl <;> decide))
  unfold textI
  split
  · intro z hz
    rcases List.mem_append.1 hz with h | h
    · simp at h; omega
    · exact hd 4 _ (.inr rfl) z h
  · intro z hz
    rcases List.mem_append.1 hz with h | h
    · simp at h; omega
    · exact hd 1 _ (.inl rfl) z h
/-- []byte(s): what is asked for a store into it -/
theorem convW (s : ByteArray) (W : World) : ∃ cap C, (convert 9 43 (.string s)).run Try.prog W = .ok (.slice (some ⟨W.heap.size, 0, none⟩) s.size cap) (W.drew.alloc (.cells C 5 (C.size, C.size + 1))) ∧
    (∀ j, j < s.size → ((W.alloc (.cells C 5 (C.size, C.size + 1))).drew.cell? ⟨W.heap.size, j, none⟩).isSome = true ∧ (W.alloc (.cells C 5 (C.size, C.size + 1))).drew.frozen? ⟨W.heap.size, j, none⟩ = false) ∧
    RdI (W.alloc (.cells C 5 (C.size, C.size + 1))).drew (W.alloc (.cells C 5 (C.size, C.size + 1))).drew.heap.size .u8 (some ⟨W.heap.size, 0, none⟩) (sb s) := by
  obtain ⟨cap, C, hcv, hrow⟩ := convU s W
  refine ⟨cap, C, hcv, fun j hj => ?_, ?_⟩
  · obtain ⟨g, c2, hv, _, _, hle, h1, _⟩ := hrow
    injection hv with hv1 hv2 hv3
    injection hv1 with hv1
    injection hv1 with hv1
    subst hv1
    have hj2 : j < (sb s).length := by rw [sb_length]; exact hj
    have hc := h1 j hj2
    refine ⟨?_, ?_⟩
    · have hc2 : (W.alloc (.cells C 5 (C.size, C.size + 1))).drew.cell? ⟨W.heap.size, j, none⟩ = some (.int .u8 ((sb s)[j]?.getD 0)) := hc
      rw [hc2]; rfl
    · have hnew : (W.alloc (.cells C 5 (C.size, C.size + 1))).drew.heap[W.heap.size]? = some (.cells C 5 (C.size, C.size + 1)) := heap_alloc_new W _
      have hjC : j < C.size := by
        have hc2 : (W.alloc (.cells C 5 (C.size, C.size + 1))).drew.cell? ⟨W.heap.size, j, none⟩ = some (.int .u8 ((sb s)[j]?.getD 0)) := hc
        unfold World.cell? at hc2
        rw [hnew] at hc2
        simp at hc2
        exact (Array.getElem?_eq_some_iff.1 hc2).1
      have h : ¬ C.size ≤ j := by omega
      unfold World.frozen?
      rw [hnew]
      simp [h]
  · obtain ⟨g, c2, hv, hrd⟩ := hrow.reads
    injection hv with hv1 hv2 hv3
    injection hv1 with hv1
    injection hv1 with hv1
    subst hv1
    exact hrd
end Go.Proofs.Ytcpjchfgiogmeaa
