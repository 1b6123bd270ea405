/-
  FACTS for the laws on arrays: what Store and Select return where all fits; what read over write makes equal.
-/
import Derived.Test.YtngfgohchnkidaaVaPut
import Derived.Test.YtngfgohchnkidaaVaOwn
namespace Go.Proofs.Ytngfgohchnkidaa
open Go.RowKit

theorem VaV.shape {w : World} {S : Nat → Prop} {x : Va} {v : Value} (h : VaV w S x v) : ∃ A n c, v = .agg #[.int .i64 x.k, .int .i64 x.n, .int .i64 x.ix, .int .u64 x.u, .string x.s, .slice A n c] := by
  obtain ⟨_, A, c, e, _⟩ := h
  exact ⟨A, x.m.length, c, e⟩
theorem sz_empty {s : ByteArray} (h : s.size = 0) : s = .empty := ByteArray.size_eq_zero_iff.1 h
/-- a valid array, spelled -/
theorem arr_eta {x : Va} (h : valE x = 0) (hk : isArrK x.k = true) : x = ⟨x.k, x.n, x.ix, 0, .empty, x.m⟩ := by
  obtain ⟨_, _, h1, h2, _⟩ := val_arr h hk
  obtain ⟨k, n, ix, u, s, m⟩ := x
  simp only at h1 h2
  rw [h1, sz_empty h2]
/-- an element of a sort of arrays -/
def isEl (k n : Int) (y : Va) : Prop := valE y = 0 ∧ y.k = elK k ∧ y.n = n ∧ y.ix = 0
theorem el_eta {k n : Int} {y : Va} (h : isEl k n y) : y = ⟨elK k, n, 0, y.u, y.s, []⟩ := by
  obtain ⟨h1, h2, h3, h4⟩ := h
  obtain ⟨_, hv⟩ := val_parts h1
  obtain ⟨k2, n2, ix2, u, s, m⟩ := y
  simp only at h2 h3 h4
  subst h2 h3 h4
  have hm : m = [] := by
    unfold valOk elK at hv
    by_cases h : k = 3
    · simp only [h] at hv
      simp [stOk] at hv
      exact hv.2
    · simp only [h] at hv
      simp [bvOk] at hv
      exact hv.2
  rw [hm]
theorem el_may {k n : Int} {y : Va} (hk : k = 2 ∨ k = 3) (h : isEl k n y) : mayE y.k y.n k n = true := by
  obtain ⟨_, h2, h3, _⟩ := h
  rw [h2, h3]
  rcases hk with rfl | rfl
  · simp [mayE, elK]
  · simp [mayE, elK]
theorem el_zero {k n : Int} {y : Va} (_h : isEl k n y) (h0 : (y.u == 0 && y.s.size == 0) = true) : y.u = 0 ∧ y.s = .empty := by
  simp only [Bool.and_eq_true, beq_iff_eq] at h0
  exact ⟨h0.1, sz_empty h0.2⟩
theorem sto_fine {k n ix i : Int} {m : List En} {y : Va} (hk : k = 2 ∨ k = 3) (hx : valE ⟨k, n, ix, 0, .empty, m⟩ = 0) (hy : isEl k n y) (hi : ¬ grI ix < i) :
    stoE ⟨k, n, ix, 0, .empty, m⟩ i y = 0 ∧ stoV ⟨k, n, ix, 0, .empty, m⟩ i y = ⟨k, n, ix, 0, .empty, putE i y.u y.s m⟩ ∧ valE ⟨k, n, ix, 0, .empty, putE i y.u y.s m⟩ = 0 := by
  have h1 : stoE ⟨k, n, ix, 0, .empty, m⟩ i y = 0 := by
    unfold stoE
    rw [hx, hy.1]
    simp [el_may hk hy, hi]
  refine ⟨h1, by unfold stoV; rw [if_pos h1], ?_⟩
  have hka : isArrK k = true := by rcases hk with rfl | rfl <;> rfl
  obtain ⟨hs, _, _, _, hen⟩ := val_arr hx hka
  simp only at hs hen
  have hel : elOk k n ⟨i, y.u, y.s⟩ = true := by
    have := el_may hk hy
    have hv := hy.1
    obtain ⟨k2, n2, ix2, u, s, m2⟩ := y
    exact may_el i hv this
  have hen2 := put_ents hen hi hel
  unfold valE
  rw [if_pos hs]
  have : valOk ⟨k, n, ix, 0, .empty, putE i y.u y.s m⟩ = true := by
    unfold valOk
    rw [if_neg (by show ¬ k = 0; omega), if_neg (by show ¬ k = 1; omega)]
    show ((0 : Int) == 0 && ByteArray.empty.size == 0 && entsOk k n ix _) = true
    rw [hen2]; rfl
  rw [if_pos this]
theorem at_mem {i : Int} : ∀ (l : List En), atE i l = noE i ∨ atE i l ∈ l
  | [] => .inl rfl
  | x :: l => by
    rw [atE_cons]
    split
    · rcases at_mem (i := i) l with h | h
      · exact .inl h
      · exact .inr (List.mem_cons_of_mem _ h)
    · split
      · exact .inr (by simp)
      · exact .inl rfl
theorem gr_nonneg (n : Int) : 0 ≤ grI n := by
  unfold grI
  have : (1 : Int) ≤ 2 ^ n.toNat := by exact_mod_cast Nat.one_le_two_pow
  omega
/-- what Select returns, where all fits -/
theorem sel_fine {k n ix i : Int} {m : List En} (hk : k = 2 ∨ k = 3) (hx : valE ⟨k, n, ix, 0, .empty, m⟩ = 0) (hi : ¬ grI ix < i) :
    selE ⟨k, n, ix, 0, .empty, m⟩ i = 0 ∧ selV ⟨k, n, ix, 0, .empty, m⟩ i = ⟨elK k, n, 0, (atE i m).u, (atE i m).s, []⟩ ∧ isEl k n ⟨elK k, n, 0, (atE i m).u, (atE i m).s, []⟩ := by
  have hka : isArrK k = true := by rcases hk with rfl | rfl <;> rfl
  have h1 : selE ⟨k, n, ix, 0, .empty, m⟩ i = 0 := by
    unfold selE
    rw [hx]
    simp [hka, hi]
  refine ⟨h1, by unfold selV; rw [if_pos h1], ?_, rfl, rfl, rfl⟩
  obtain ⟨hs, _, _, _, hen⟩ := val_arr hx hka
  simp only at hs hen
  have hel : elOk k n (atE i m) = true := by
    rcases at_mem (i := i) m with h | h
    · rw [h]
      unfold elOk noE
      rcases hk with rfl | rfl
      · rw [if_neg (by decide)]
        have := gr_nonneg n
        unfold bvOk
        simp only [Bool.and_eq_true, decide_eq_true_eq, beq_iff_eq]
        exact ⟨⟨this, rfl⟩, trivial⟩
      · rw [if_pos rfl]
        simp [sortOk] at hs
        unfold stOk
        simp only [Bool.and_eq_true, decide_eq_true_eq, beq_iff_eq]
        exact ⟨⟨trivial, by show ((0 : Nat) : Int) ≤ n; omega⟩, trivial⟩
    · have := ents_one hen _ h
      unfold en1 at this
      simp only [Bool.and_eq_true] at this
      exact this.2
  generalize atE i m = z at hel ⊢
  obtain ⟨xi, xu, xs⟩ := z
  have hs2 := (sort_el hk hs).1
  rcases hk with rfl | rfl
  · refine val_of hs2 ?_
    unfold elOk at hel
    rw [if_neg (by decide)] at hel
    exact hel
  · refine val_of hs2 ?_
    unfold elOk at hel
    rw [if_pos rfl] at hel
    exact hel
theorem arr_facts {k n ix : Int} {m : List En} (hk : k = 2 ∨ k = 3) (hx : valE ⟨k, n, ix, 0, .empty, m⟩ = 0) : Srt m ∧ fullE m := by
  have hka : isArrK k = true := by rcases hk with rfl | rfl <;> rfl
  obtain ⟨hs, _, _, _, hen⟩ := val_arr hx hka
  simp only at hs hen
  refine ⟨ents_srt hen, fun x hx => ?_⟩
  have := ents_one hen x hx
  unfold en1 at this
  simp only [Bool.and_eq_true, Bool.not_eq_true'] at this
  exact this.1.2
/-- the element behind a store -/
theorem at_put_el {k n i : Int} {y : Va} (hy : isEl k n y) {m : List En} (hm : Srt m) (j : Int) : (atE j (putE i y.u y.s m)).u = (if j = i then y.u else (atE j m).u) ∧ (atE j (putE i y.u y.s m)).s = (if j = i then y.s else (atE j m).s) := by
  rw [at_put j hm]
  by_cases h : j = i
  · rw [if_pos h, if_pos h, if_pos h]
    by_cases h0 : (y.u == 0 && y.s.size == 0) = true
    · obtain ⟨h1, h2⟩ := el_zero hy h0
      rw [if_pos h0, h1, h2]
      exact ⟨rfl, rfl⟩
    · rw [if_neg h0]
      exact ⟨rfl, rfl⟩
  · rw [if_neg h, if_neg h, if_neg h]
    exact ⟨rfl, rfl⟩
theorem arr_same {k n ix : Int} {m m2 : List En} (hk : k = 2 ∨ k = 3) (h1 : valE ⟨k, n, ix, 0, .empty, m⟩ = 0) (h2 : valE ⟨k, n, ix, 0, .empty, m2⟩ = 0) (h : ∀ i, (atE i m).u = (atE i m2).u ∧ (atE i m).s = (atE i m2).s) : m = m2 :=
  ents_ext (arr_facts hk h1).1 (arr_facts hk h2).1 (arr_facts hk h1).2 (arr_facts hk h2).2 h
theorem at_ok {m : List En} (h : ∀ e ∈ m, e.ok) (i : Int) : U64 (atE i m).u ∧ (atE i m).s.size ≤ 1000000 := by
  rcases at_mem (i := i) m with h1 | h1
  · rw [h1]
    exact ⟨(show U64 0 from ⟨by decide, by decide⟩), by show (0 : Nat) ≤ _; omega⟩
  · exact ⟨(h _ h1).2.1, (h _ h1).2.2⟩
theorem el_ok {e n u : Int} {s : ByteArray} (hs : I64 e ∧ I64 n ∧ I64 0) (h : U64 u ∧ s.size ≤ 1000000) : (⟨e, n, 0, u, s, []⟩ : Va).ok :=
  ⟨hs, h.1, h.2, (fun x hx => by cases hx), by show (0 : Nat) ≤ _; omega⟩
theorem elVal {W : World} {e n u : Int} {s : ByteArray} (h : (⟨e, n, 0, u, s, []⟩ : Va).ok) : VaV W (LoV W.heap.size) ⟨e, n, 0, u, s, []⟩ (.agg #[.int .i64 e, .int .i64 n, .int .i64 0, .int .u64 u, .string s, .slice none 0 0]) :=
  VaV.mk (x := ⟨e, n, 0, u, s, []⟩) (A := none) (c := 0) h (Nat.le_refl _) (fun _ => rfl) (.inl rfl)
end Go.Proofs.Ytngfgohchnkidaa
