/-
  THE WALK of the reference's Valid, put together.
-/
import Derived.Test.YtngfgohchnkidaaR6Ents
namespace Go.Proofs.Ytngfgohchnkidaa
open Go.RowKit

theorem r6Valid_any (x : Va) (v : Value) (w : World) (hv : VaV w (LoV w.heap.size) x v) : Calls Try.prog 15 #[v] w fun e w' => e = .returned (.int .i64 (valE x)) ∧ Below w.heap.size w w' := by
  obtain ⟨⟨_, hu, hxs, hxe, hxl⟩, A, c, rfl, _, _, hl⟩ := hv
  obtain ⟨k, n, ix, u, s, m⟩ := x
  simp only at *
  unfold valE valOk
  simp only
  cases hok : sortOk k n ix with
  | false => exact r6Valid9_any k n ix u s A m.length c w hok
  | true =>
    rw [if_pos rfl]
    rcases sort_kind hok with h | h | h | h
    · subst h
      exact r6Valid0_any n ix u s A m.length c w hu hok
    · subst h
      exact r6Valid1_any n ix u s A m.length c w hu hok
    · subst h
      by_cases hus : u = 0 ∧ s.size = 0
      · obtain ⟨h1, h2⟩ := hus
        subst h1
        have := r6ValidA2_any n ix s A m c w h2 hok hxe hl hxl
        simpa [h2] using this
      · have hb : (u == 0 && s.size == 0) = false := by
          rw [Bool.eq_false_iff]; intro h; simp at h; exact hus (by simpa using h)
        have := r6ValidU2_any n ix u s A m.length c w hu hus hok
        simpa [hb] using this
    · subst h
      by_cases hus : u = 0 ∧ s.size = 0
      · obtain ⟨h1, h2⟩ := hus
        subst h1
        have := r6ValidA3_any n ix s A m c w h2 hok hxe hl hxl
        simpa [h2] using this
      · have hb : (u == 0 && s.size == 0) = false := by
          rw [Bool.eq_false_iff]; intro h; simp at h; exact hus (by simpa using h)
        have := r6ValidU3_any n ix u s A m.length c w hu hus hok
        simpa [hb] using this
end Go.Proofs.Ytngfgohchnkidaa
