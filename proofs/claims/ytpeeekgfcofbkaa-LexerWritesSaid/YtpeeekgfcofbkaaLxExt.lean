/-
  TOKENS IN LARGER TEXTS: what a token does not depend on.
-/
import Derived.Test.YtpeeekgfcofbkaaLxTokM
namespace Go.Proofs.Ytpeeekgfcofbkaa
open Go.RowKit

theorem bare_no10 {c : Int} (h : inR BARE c = true) : c ≠ 10 := by
  rintro rfl
  revert h
  decide
theorem hex_no10 {c : Int} (h : inR HEX c = true) : c ≠ 10 := by
  rintro rfl
  revert h
  decide
theorem plain_no10 {c : Int} (h : inR PLAIN c = true) : c ≠ 10 := by
  rintro rfl
  revert h
  decide
/-- an item does not depend on what follows -/
theorem item_ext {c : Int} {r : List Int} (h : (itemF (c :: r)).2.2 = 0) : 1 ≤ (itemF (c :: r)).2.1 ∧ (itemF (c :: r)).2.1 ≤ (c :: r).length ∧ (∀ x ∈ (c :: r).take (itemF (c :: r)).2.1, x ≠ 10) ∧
    ∀ s, itemF ((c :: r).take (itemF (c :: r)).2.1 ++ s) = itemF (c :: r) := by
  by_cases h1 : inR PLAIN c = true
  · have e : ∀ q, itemF (c :: q) = (c, 1, 0) := fun q => by rw [itemF_cons, if_pos h1]
    rw [e]
    refine ⟨Nat.le_refl _, by simp, fun x hx => ?_, fun s => e _⟩
    obtain rfl : x = c := by simpa using hx
    exact plain_no10 h1
  · by_cases h2 : c = 92
    · subst h2
      have e : ∀ q, itemF (92 :: q) = itemG q := fun q => by rw [itemF_cons, if_neg h1, if_neg (by decide)]
      rw [e] at h ⊢
      cases r with
      | nil => exact absurd h (by rw [itemG_nil]; decide)
      | cons d r2 =>
        by_cases h3 : d = 34 ∨ d = 92
        · have e2 : ∀ q, itemG (d :: q) = (d, 2, 0) := fun q => by rw [itemG_cons, if_pos h3]
          rw [e2]
          refine ⟨by simp, by simp, fun x hx => ?_, fun s => ?_⟩
          · simp only [List.take_succ_cons, List.take_zero, List.mem_cons, List.not_mem_nil, or_false] at hx
            omega
          · show itemF (92 :: d :: s) = _
            rw [e, e2]
        · by_cases h4 : d = 120
          · subst h4
            have e2 : ∀ q, itemG (120 :: q) = numGo 2 0 q := fun q => by rw [itemG_cons, if_neg h3, if_pos rfl]
            rw [e2] at h ⊢
            cases r2 with
            | nil => exact absurd h (by show ¬ (3 : Int) = 0; decide)
            | cons x r3 =>
              by_cases h5 : inR HEX x = true
              · cases r3 with
                | nil => exact absurd h (by show ¬ (if inR HEX x then ((0, 0, 3) : Int × Nat × Int) else (0, 0, 2)).2.2 = 0; rw [if_pos h5]; decide)
                | cons y r4 =>
                  by_cases h6 : inR HEX y = true
                  · have e3 : ∀ q, numGo 2 0 (x :: y :: q) = ((0 * 16 + hv x) * 16 + hv y, 4, 0) := fun q => by
                      show (if inR HEX x then (if inR HEX y then (((0 * 16 + hv x) * 16 + hv y, 4, 0) : Int × Nat × Int) else (0, 0, 2)) else (0, 0, 2)) = _
                      rw [if_pos h5, if_pos h6]
                    rw [e3]
                    refine ⟨by simp, by simp, fun z hz => ?_, fun s => ?_⟩
                    · simp only [List.take_succ_cons, List.take_zero, List.mem_cons, List.not_mem_nil, or_false] at hz
                      rcases hz with rfl | rfl | rfl | rfl
                      · decide
                      · decide
                      · exact hex_no10 h5
                      · exact hex_no10 h6
                    · show itemF (92 :: 120 :: x :: y :: s) = _
                      rw [e, e2, e3]
                  · exact absurd h (by show ¬ (if inR HEX x then (if inR HEX y then (((0 * 16 + hv x) * 16 + hv y, 4, 0) : Int × Nat × Int) else (0, 0, 2)) else (0, 0, 2)).2.2 = 0; rw [if_pos h5, if_neg h6]; decide)
              · exact absurd h (by show ¬ (if inR HEX x then numGo 1 (0 * 16 + hv x) r3 else ((0, 0, 2) : Int × Nat × Int)).2.2 = 0; rw [if_neg h5]; decide)
          · exact absurd h (by rw [itemG_cons, if_neg h3, if_neg h4]; decide)
    · exact absurd h (by rw [itemF_cons, if_neg h1, if_pos h2]; decide)
theorem qd_cons (f i : Nat) (acc : List Int) (c : Int) (r : List Int) : qdGo (f + 1) i acc (c :: r) = if c = 34 then (⟨5, acc, 0⟩, i + 1, 0) else if (itemF (c :: r)).2.2 = 2 then (⟨0, [], i⟩, 0, 2) else if (itemF (c :: r)).2.2 = 3 then (⟨0, [], i + (c :: r).length⟩, 0, 3) else qdGo f (i + (itemF (c :: r)).2.1) (acc ++ [(itemF (c :: r)).1]) ((c :: r).drop (itemF (c :: r)).2.1) := rfl
/-- a quoted string's reading does not depend on what follows -/
theorem qd_ext : ∀ (f i : Nat) (acc l : List Int), (qdGo f i acc l).2.2 = 0 → ∃ n, n ≤ l.length ∧ (qdGo f i acc l).2.1 = i + n ∧ (∀ x ∈ l.take n, x ≠ 10) ∧ (qdGo f i acc l).1.k = 5 ∧ (qdGo f i acc l).1.p = 0 ∧ ∀ s f', n ≤ f' → qdGo f' i acc (l.take n ++ s) = qdGo f i acc l
  | 0, i, acc, l, h => absurd h (by show ¬ (3 : Int) = 0; decide)
  | f + 1, i, acc, [], h => absurd h (by show ¬ (3 : Int) = 0; decide)
  | f + 1, i, acc, c :: r, h => by
    rw [qd_cons] at h ⊢
    by_cases h1 : c = 34
    · subst h1
      rw [if_pos rfl]
      refine ⟨1, by simp, rfl, fun x hx => ?_, rfl, rfl, fun s f' hf => ?_⟩
      · obtain rfl : x = 34 := by simpa using hx
        decide
      · obtain ⟨f', rfl⟩ : ∃ g, f' = g + 1 := ⟨f' - 1, by omega⟩
        show qdGo (f' + 1) i acc (34 :: s) = _
        rw [qd_cons, if_pos rfl]
    · rw [if_neg h1] at h ⊢
      by_cases h2 : (itemF (c :: r)).2.2 = 2
      · rw [if_pos h2] at h
        exact absurd h (by show ¬ (2 : Int) = 0; decide)
      · rw [if_neg h2] at h ⊢
        by_cases h3 : (itemF (c :: r)).2.2 = 3
        · rw [if_pos h3] at h
          exact absurd h (by show ¬ (3 : Int) = 0; decide)
        · rw [if_neg h3] at h ⊢
          have h0 : (itemF (c :: r)).2.2 = 0 := by
            have hI : (itemF (c :: r)).2.2 = 0 ∨ (itemF (c :: r)).2.2 = 2 ∨ (itemF (c :: r)).2.2 = 3 := by
              rw [itemF_cons]
              split
              · exact .inl rfl
              · split
                · exact .inr (.inl rfl)
                · cases r with
                  | nil => exact .inr (.inr rfl)
                  | cons d r2 =>
                    rw [itemG_cons]
                    split
                    · exact .inl rfl
                    · split
                      · exact numGo_ok 2 0 r2
                      · exact .inr (.inl rfl)
            omega
          obtain ⟨a1, a2, a3, a4⟩ := item_ext h0
          obtain ⟨n, b1, b2, b3, b4, b5, b6⟩ := qd_ext f _ _ _ h
          generalize hm : (itemF (c :: r)).2.1 = m at *
          rw [List.length_drop] at b1
          have ht : (c :: r).take (m + n) = (c :: r).take m ++ ((c :: r).drop m).take n := List.take_add
          refine ⟨m + n, by omega, by rw [b2]; omega, fun x hx => ?_, b4, b5, fun s f' hf => ?_⟩
          · rw [ht] at hx
            rcases List.mem_append.1 hx with hx | hx
            · exact a3 x hx
            · exact b3 x hx
          · obtain ⟨f', rfl⟩ : ∃ g, f' = g + 1 := ⟨f' - 1, by omega⟩
            obtain ⟨c', r', hcr⟩ : ∃ c' r', (c :: r).take (m + n) ++ s = c' :: r' := by
              cases hq : (c :: r).take (m + n) ++ s with
              | nil =>
                have := congrArg List.length hq
                rw [List.length_append, List.length_take, List.length_nil] at this
                omega
              | cons c' r' => exact ⟨c', r', rfl⟩
            have hc : c' = c := by
              obtain ⟨k, hk⟩ : ∃ k, m + n = k + 1 := ⟨m + n - 1, by omega⟩
              rw [hk, List.take_succ_cons, List.cons_append] at hcr
              injection hcr with h _
              exact h.symm
            subst hc
            have hit : itemF (c' :: r') = itemF (c' :: r) := by
              rw [← hcr, ht, List.append_assoc]
              exact a4 _
            have hdr : (c' :: r').drop m = ((c' :: r).drop m).take n ++ s := by
              rw [← hcr, ht, List.append_assoc]
              exact List.drop_left' (by rw [List.length_take]; omega)
            rw [hcr, qd_cons, if_neg h1, hit, if_neg h2, if_neg h3, hm, hdr]
            exact b6 s f' (by omega)
theorem span_ext (R : List Int) : ∀ (l s : List Int), (∀ c r, s = c :: r → inR R c = false) → spanN R (l.take (spanN R l) ++ s) = spanN R l
  | [], s, hs => by
    rw [span_nil, List.take_nil, List.nil_append]
    cases s with
    | nil => rfl
    | cons c r => exact span_out (hs c r rfl) r
  | x :: l, s, hs => by
    cases hx : inR R x
    · rw [span_out hx, List.take_zero, List.nil_append]
      cases s with
      | nil => rfl
      | cons c r => exact span_out (hs c r rfl) r
    · rw [span_in hx, List.take_succ_cons, List.cons_append, span_in hx, span_ext R l s hs]
theorem span_mem (R : List Int) : ∀ (l : List Int), ∀ x ∈ l.take (spanN R l), inR R x = true
  | [], x, h => by simp at h
  | c :: l, x, h => by
    cases hc : inR R c
    · rw [span_out hc] at h
      simp at h
    · rw [span_in hc, List.take_succ_cons] at h
      rcases List.mem_cons.1 h with rfl | h
      · exact hc
      · exact span_mem R l x h
theorem form_kind (l : List Int) : (formF l).1 = 0 ∨ (formF l).1 = 2 ∨ (formF l).1 = 3 ∨ (formF l).1 = 4 := by
  unfold formF
  split
  · exact .inr (.inr (.inl rfl))
  · split
    · exact .inr (.inr (.inl rfl))
    · split
      · exact .inr (.inr (.inr rfl))
      · split
        · exact .inr (.inl rfl)
        · exact .inl rfl
/-- what a token must be, so that it can be written -/
def TokFine (t : Tk) : Prop := (t.k = 0 ∧ t.t = []) ∨ (t.k = 1 ∧ t.t = []) ∨ t.k = 5 ∨ (t.k ≠ 0 ∧ t.k ≠ 1 ∧ t.k ≠ 5 ∧ t.k ≠ 6 ∧ formF t.t = (t.k, 0) ∧ (∀ x ∈ t.t, inR BARE x = true) ∧ t.t ≠ [])
theorem form_zero {l : List Int} (h : (formF l).2 = 0) : (formF l).1 ≠ 0 := by
  unfold formF at *
  split at h
  · rename_i h1
    rw [if_pos h1]
    exact (by decide : ¬ (3 : Int) = 0)
  · rename_i h1
    rw [if_neg h1]
    split at h
    · rename_i h2
      rw [if_pos h2]
      exact (by decide : ¬ (3 : Int) = 0)
    · rename_i h2
      rw [if_neg h2]
      split at h
      · rename_i h3
        rw [if_pos h3]
        exact (by decide : ¬ (4 : Int) = 0)
      · rename_i h3
        rw [if_neg h3]
        split at h
        · rename_i h4
          rw [if_pos h4]
          exact (by decide : ¬ (2 : Int) = 0)
        · exact absurd h (by show ¬ (2 : Int) = 0; decide)
/-- the token with which a text begins: its size, its bytes, what it does not depend on -/
theorem first_ext {c : Int} {r : List Int} (h : (firstF (c :: r)).2.2 = 0) : ∃ n, n = (firstF (c :: r)).2.1 ∧ 1 ≤ n ∧ n ≤ (c :: r).length ∧ (∀ x ∈ (c :: r).take n, x ≠ 10) ∧ (firstF (c :: r)).1.k ≠ 6 ∧ (firstF (c :: r)).1.p = 0 ∧
    (∀ s, (∀ d q, s = d :: q → inR BARE d = false ∨ ∃ q', (c :: r).drop n = d :: q') → firstF ((c :: r).take n ++ s) = firstF (c :: r)) ∧
    TokFine (firstF (c :: r)).1 ∧ ((firstF (c :: r)).1.k ≠ 0 → (firstF (c :: r)).1.k ≠ 1 → (firstF (c :: r)).1.k ≠ 5 → (firstF (c :: r)).1.t = (c :: r).take n) := by
  rw [first_cons] at h ⊢
  by_cases h1 : c = 40
  · subst h1
    rw [if_pos rfl]
    refine ⟨1, rfl, Nat.le_refl _, by simp, fun x hx => ?_, (by decide : ¬ (0 : Int) = 6), rfl, fun s _ => ?_, .inl ⟨rfl, rfl⟩, fun h => absurd rfl h⟩
    · obtain rfl : x = 40 := by simpa using hx
      decide
    · show firstF (40 :: s) = _
      rw [first_cons, if_pos rfl]
  · rw [if_neg h1] at h ⊢
    by_cases h2 : c = 41
    · subst h2
      rw [if_pos rfl]
      refine ⟨1, rfl, Nat.le_refl _, by simp, fun x hx => ?_, (by decide : ¬ (1 : Int) = 6), rfl, fun s _ => ?_, .inr (.inl ⟨rfl, rfl⟩), fun _ h => absurd rfl h⟩
      · obtain rfl : x = 41 := by simpa using hx
        decide
      · show firstF (41 :: s) = _
        rw [first_cons, if_neg (by decide), if_pos rfl]
    · rw [if_neg h2] at h ⊢
      by_cases h3 : c = 34
      · subst h3
        rw [if_pos rfl] at h ⊢
        obtain ⟨n, b1, b2, b3, b4, b5, b6⟩ := qd_ext _ _ _ _ h
        refine ⟨n + 1, by rw [b2]; omega, by omega, by simp; omega, fun x hx => ?_, by rw [b4]; decide, b5, fun s _ => ?_, .inr (.inr (.inl b4)), fun _ _ h => absurd b4 h⟩
        · rw [List.take_succ_cons] at hx
          rcases List.mem_cons.1 hx with rfl | hx
          · decide
          · exact b3 x hx
        · rw [List.take_succ_cons, List.cons_append, first_cons, if_neg (by decide), if_neg (by decide), if_pos rfl]
          exact b6 s _ (by rw [List.length_append, List.length_take]; omega)
      · rw [if_neg h3] at h ⊢
        have hb : ∀ l, bareF l = if (formF (l.take (spanN BARE l))).2 = 0 then (⟨(formF (l.take (spanN BARE l))).1, l.take (spanN BARE l), 0⟩, spanN BARE l, 0) else (⟨0, [], 0⟩, 0, (formF (l.take (spanN BARE l))).2) := fun _ => rfl
        by_cases hf : (formF ((c :: r).take (spanN BARE (c :: r)))).2 = 0
        · rw [hb, if_pos hf]
          have hne := form_ne hf
          rw [List.length_take] at hne
          have hm := span_mem BARE (c :: r)
          have hle := span_le BARE (c :: r)
          have hk := form_kind ((c :: r).take (spanN BARE (c :: r)))
          have hz := form_zero hf
          refine ⟨spanN BARE (c :: r), rfl, by omega, hle, fun x hx => bare_no10 (hm x hx), by show (formF _).1 ≠ 6; omega, rfl, fun s hs => ?_, ?_, fun _ _ _ => rfl⟩
          · have hsp : spanN BARE ((c :: r).take (spanN BARE (c :: r)) ++ s) = spanN BARE (c :: r) := span_ext BARE (c :: r) s (fun d q e => (hs d q e).elim id (fun ⟨q', e'⟩ => span_head BARE (c :: r) d q' e'))
            have htk : ((c :: r).take (spanN BARE (c :: r)) ++ s).take (spanN BARE (c :: r)) = (c :: r).take (spanN BARE (c :: r)) := List.take_left' (by rw [List.length_take]; omega)
            obtain ⟨q, hq⟩ : ∃ q, (c :: r).take (spanN BARE (c :: r)) ++ s = c :: q := by
              obtain ⟨k, hk⟩ : ∃ k, spanN BARE (c :: r) = k + 1 := ⟨spanN BARE (c :: r) - 1, by omega⟩
              rw [hk, List.take_succ_cons]
              exact ⟨_, rfl⟩
            have e1 : firstF ((c :: r).take (spanN BARE (c :: r)) ++ s) = bareF ((c :: r).take (spanN BARE (c :: r)) ++ s) := by
              rw [hq, first_cons, if_neg h1, if_neg h2, if_neg h3]
            rw [e1, hb, hsp, htk, if_pos hf]
          · refine .inr (.inr (.inr ⟨hz, ?_, ?_, ?_, Prod.ext rfl hf, hm, ?_⟩))
            · show (formF _).1 ≠ 1; omega
            · show (formF _).1 ≠ 5; omega
            · show (formF _).1 ≠ 6; omega
            · intro e
              have := congrArg List.length e
              rw [List.length_take, List.length_nil] at this
              omega
        · rw [hb, if_neg hf] at h
          exact absurd h hf
end Go.Proofs.Ytpeeekgfcofbkaa
