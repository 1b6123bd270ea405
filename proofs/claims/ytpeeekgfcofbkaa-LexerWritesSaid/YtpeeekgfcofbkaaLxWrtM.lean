/-
  THE TOKENS of what the tokens are written as.
-/
import Derived.Test.YtpeeekgfcofbkaaLxSpcM
import Derived.Test.YtpeeekgfcofbkaaLxBMath
namespace Go.Proofs.Ytpeeekgfcofbkaa
open Go.RowKit

/-- a token, written -/
def wrt (x : Tk) : List Int := if x.k = 0 then [40] else if x.k = 1 then [41] else if x.k = 5 then quoteL x.t else x.t
/-- the tokens, each with a space behind it -/
def flat (l : List Tk) : List Int := l.flatMap fun x => wrt x ++ [32]
theorem qd_bytes : ∀ (f i : Nat) (acc l : List Int), Bytes8 l → Bytes8 acc → (qdGo f i acc l).2.2 = 0 → Bytes8 (qdGo f i acc l).1.t ∧ (qdGo f i acc l).1.t.length + 1 + i ≤ acc.length + (qdGo f i acc l).2.1
  | 0, i, acc, l, h8, ha, h => absurd h (by show ¬ (3 : Int) = 0; decide)
  | f + 1, i, acc, [], h8, ha, h => absurd h (by show ¬ (3 : Int) = 0; decide)
  | f + 1, i, acc, c :: r, h8, ha, h => by
    rw [qd_cons] at h ⊢
    by_cases h1 : c = 34
    · rw [if_pos h1]
      exact ⟨ha, by show acc.length + 1 + i ≤ acc.length + (i + 1); omega⟩
    · rw [if_neg h1] at h ⊢
      by_cases h2 : (itemF (c :: r)).2.2 = 2
      · rw [if_pos h2] at h
        exact absurd h (by show ¬ (2 : Int) = 0; decide)
      · rw [if_neg h2] at h ⊢
        by_cases h3 : (itemF (c :: r)).2.2 = 3
        · rw [if_pos h3] at h
          exact absurd h (by show ¬ (3 : Int) = 0; decide)
        · rw [if_neg h3] at h ⊢
          obtain ⟨i1, i2⟩ := item_ok h8
          have h0 : (itemF (c :: r)).2.2 = 0 := by omega
          obtain ⟨j1, j2, j3, j4⟩ := i2 h0
          obtain ⟨b1, b2⟩ := qd_bytes f _ _ _ (fun z hz => h8 z (List.mem_of_mem_drop hz)) (fun z hz => by
            rcases List.mem_append.1 hz with hz | hz
            · exact ha z hz
            · obtain rfl := List.mem_singleton.1 hz
              exact ⟨j3, j4⟩) h
          refine ⟨b1, ?_⟩
          rw [List.length_append, List.length_singleton] at b2
          omega
theorem wrt_len {x : Tk} (h8 : Bytes8 x.t) : (x.k = 0 ∨ x.k = 1 → (wrt x).length = 1) ∧ (x.k = 5 → (wrt x).length ≤ 4 * x.t.length + 2) ∧ (x.k ≠ 0 → x.k ≠ 1 → x.k ≠ 5 → wrt x = x.t) := by
  unfold wrt
  refine ⟨fun h => ?_, fun h => ?_, fun h1 h2 h3 => ?_⟩
  · by_cases h0 : x.k = 0
    · rw [if_pos h0]; rfl
    · rw [if_neg h0, if_pos (by omega)]; rfl
  · rw [if_neg (by omega), if_neg (by omega), if_pos h]
    exact quote_short h8
  · rw [if_neg h1, if_neg h2, if_neg h3]
/-- what is known of a token of a text -/
structure TokIn (l : List Int) (x : Tk) : Prop where
  fine : TokFine x
  bytes : Bytes8 x.t
  short : x.t.length ≤ l.length
  place : x.k ≠ 0 → x.k ≠ 1 → x.k ≠ 5 → x.p + x.t.length ≤ l.length ∧ (l.drop x.p).take x.t.length = x.t
theorem nx_in {l : List Int} {i : Nat} (h8 : Bytes8 l) (hi : i ≤ l.length) (h : (nxT l i).2.2 = 0) (h6 : (nxT l i).1.k ≠ 6) : TokIn l (nxT l i).1 ∧ (wrt (nxT l i).1).length + 1 + 5 * i ≤ 5 * (nxT l i).2.1 := by
  have hgl := gp_le (l.drop i) false
  rw [List.length_drop] at hgl
  have hij : i ≤ i + gp false (l.drop i) := by omega
  have hjl : i + gp false (l.drop i) ≤ l.length := by omega
  unfold nxT at h h6 ⊢
  generalize i + gp false (l.drop i) = j at h h6 hij hjl ⊢
  cases hd : l.drop j with
  | nil => rw [hd] at h6; exact absurd rfl h6
  | cons c r =>
    rw [hd] at h h6
    have h8c : Bytes8 (c :: r) := fun z hz => h8 z (List.mem_of_mem_drop (by rw [hd]; exact hz))
    have hl : (c :: r).length = l.length - j := by rw [← hd, List.length_drop]
    obtain ⟨n, hn, hn1, hn2, _, _, hp, _, hf, ht⟩ := first_ext h
    have h5 : (firstF (c :: r)).1.k = 5 → Bytes8 (firstF (c :: r)).1.t ∧ (firstF (c :: r)).1.t.length + 2 ≤ n := fun h5 => by
      rw [hn]
      rw [first_cons] at h h5 ⊢
      by_cases a1 : c = 40
      · rw [if_pos a1] at h5; exact absurd h5 (by decide : ¬ (0 : Int) = 5)
      · rw [if_neg a1] at h h5 ⊢
        by_cases a2 : c = 41
        · rw [if_pos a2] at h5; exact absurd h5 (by decide : ¬ (1 : Int) = 5)
        · rw [if_neg a2] at h h5 ⊢
          by_cases a3 : c = 34
          · rw [if_pos a3] at h ⊢
            obtain ⟨b1, b2⟩ := qd_bytes _ _ _ _ (fun z hz => h8c z (by simp [hz])) (fun z hz => by cases hz) h
            exact ⟨b1, by rw [List.length_nil] at b2; omega⟩
          · rw [if_neg a3] at h5
            exfalso
            revert h5
            unfold bareF
            split
            · have := form_kind ((c :: r).take (spanN BARE (c :: r)))
              show ¬ (formF _).1 = 5
              omega
            · exact (by decide : ¬ (0 : Int) = 5)
    have hb : Bytes8 (firstF (c :: r)).1.t ∧ (firstF (c :: r)).1.t.length ≤ n := by
      rcases hf with ⟨_, e⟩ | ⟨_, e⟩ | e | ⟨e0, e1, e5, _⟩
      · rw [e]; exact ⟨fun z hz => (by cases hz), Nat.zero_le _⟩
      · rw [e]; exact ⟨fun z hz => (by cases hz), Nat.zero_le _⟩
      · obtain ⟨b1, b2⟩ := h5 e
        exact ⟨b1, by omega⟩
      · rw [ht e0 e1 e5]
        exact ⟨fun z hz => h8c z (List.mem_of_mem_take hz), by rw [List.length_take]; omega⟩
    refine ⟨⟨hf, hb.1, by show (firstF (c :: r)).1.t.length ≤ l.length; omega, fun e0 e1 e5 => ?_⟩, ?_⟩
    · have e := ht e0 e1 e5
      have el : (firstF (c :: r)).1.t.length = n := by rw [e, List.length_take]; omega
      show (firstF (c :: r)).1.p + j + (firstF (c :: r)).1.t.length ≤ l.length ∧ (l.drop ((firstF (c :: r)).1.p + j)).take (firstF (c :: r)).1.t.length = (firstF (c :: r)).1.t
      rw [hp, Nat.zero_add, el, hd, e]
      exact ⟨by omega, rfl⟩
    · show (wrt ⟨(firstF (c :: r)).1.k, (firstF (c :: r)).1.t, (firstF (c :: r)).1.p + j⟩).length + 1 + 5 * i ≤ 5 * (j + (firstF (c :: r)).2.1)
      obtain ⟨w1, w2, w3⟩ := wrt_len (x := ⟨(firstF (c :: r)).1.k, (firstF (c :: r)).1.t, (firstF (c :: r)).1.p + j⟩) hb.1
      rw [← hn]
      rcases hf with ⟨e, _⟩ | ⟨e, _⟩ | e | ⟨e0, e1, e5, _⟩
      · rw [w1 (.inl e)]; omega
      · rw [w1 (.inr e)]; omega
      · have a1 := w2 e
        obtain ⟨_, a2⟩ := h5 e
        have a3 : (wrt ⟨(firstF (c :: r)).1.k, (firstF (c :: r)).1.t, (firstF (c :: r)).1.p + j⟩).length ≤ 4 * (firstF (c :: r)).1.t.length + 2 := a1
        omega
      · rw [w3 e0 e1 e5]
        have a2 := hb.2
        show (firstF (c :: r)).1.t.length + 1 + 5 * i ≤ _
        omega
/-- of a text without an error: its tokens, and how long they are, written -/
theorem yl_in : ∀ (f : Nat) (l : List Int) (i : Nat) (pre : List (Tk × Int)), Bytes8 l → i ≤ l.length → yl f l i = pre ++ [(⟨6, [], l.length⟩, 0)] → (∀ y ∈ pre, y.2 = 0 ∧ y.1.k ≠ 6) →
    (∀ y ∈ pre, TokIn l y.1) ∧ (flat (pre.map Prod.fst)).length + 5 * i ≤ 5 * l.length
  | 0, l, i, pre, h8, hi, hy, hp => by
    have := congrArg List.length hy
    simp [yl] at this
  | f + 1, l, i, pre, h8, hi, hy, hp => by
    rw [yl_one] at hy
    cases pre with
    | nil =>
      refine ⟨fun y hy => (by cases hy), ?_⟩
      show 0 + 5 * i ≤ _
      omega
    | cons y pre =>
      obtain ⟨y1, y2⟩ := hp y (by simp)
      injection hy with hy1 hy
      have h0 : (nxT l i).2.2 = 0 := by rw [← y1, ← hy1]
      have h6 : (nxT l i).1.k ≠ 6 := by rw [← hy1] at y2; exact y2
      have hno : ¬ ((nxT l i).2.2 ≠ 0 ∨ (nxT l i).1.k = 6) := fun h => h.elim (fun h => h h0) h6
      rw [if_neg hno] at hy
      obtain ⟨a1, a2⟩ := nx_in h8 hi h0 h6
      obtain ⟨b1, b2⟩ := yl_in f l _ pre h8 (nx_len h8 hi) hy (fun z hz => hp z (by simp [hz]))
      refine ⟨fun z hz => ?_, ?_⟩
      · rcases List.mem_cons.1 hz with rfl | hz
        · rw [← hy1]; exact a1
        · exact b1 z hz
      · have hyq : y.1 = (nxT l i).1 := by rw [← hy1]
        have e : flat ((y :: pre).map Prod.fst) = wrt y.1 ++ [32] ++ flat (pre.map Prod.fst) := by unfold flat; simp
        rw [e, hyq, List.length_append, List.length_append, List.length_singleton]
        omega
/-- a written token, and a space behind it, are read again -/
theorem first_wrt {x : Tk} (hf : TokFine x) (h8 : Bytes8 x.t) (r : List Int) : firstF (wrt x ++ 32 :: r) = (⟨x.k, x.t, 0⟩, (wrt x).length, 0) ∧ gp false (wrt x ++ 32 :: r) = 0 := by
  obtain ⟨k, t, p⟩ := x
  rcases hf with ⟨e, e'⟩ | ⟨e, e'⟩ | e | ⟨e0, e1, e5, e6, e7, e8, e9⟩
  · have e : k = 0 := e
    have e' : t = [] := e'
    subst e e'
    refine ⟨?_, ?_⟩
    · show firstF (40 :: 32 :: r) = _
      rw [first_cons, if_pos rfl]
      rfl
    · show gp false (40 :: 32 :: r) = _
      rw [gp_cons, if_neg (by decide), if_neg (by decide)]
  · have e : k = 1 := e
    have e' : t = [] := e'
    subst e e'
    refine ⟨?_, ?_⟩
    · show firstF (41 :: 32 :: r) = _
      rw [first_cons, if_neg (by decide), if_pos rfl]
      rfl
    · show gp false (41 :: 32 :: r) = _
      rw [gp_cons, if_neg (by decide), if_neg (by decide)]
  · have e : k = 5 := e
    subst e
    exact ⟨first_quote_on h8 _, gp_quote_on t _⟩
  · have hw : wrt ⟨k, t, p⟩ = t := (wrt_len h8).2.2 e0 e1 e5
    rw [hw]
    have e7 : formF t = (k, 0) := e7
    have e8 : ∀ x ∈ t, inR BARE x = true := e8
    have e9 : t ≠ [] := e9
    have hsp : spanN BARE t = t.length := by
      exact beq_iff_eq.1 (by rw [span_all]; exact List.all_eq_true.2 e8)
    have hsp2 : spanN BARE (t ++ 32 :: r) = t.length := by
      have h := span_ext BARE t (32 :: r) (fun c q e => by injection e with e _; rw [← e]; decide)
      rw [hsp, List.take_length] at h
      exact h
    have htk : (t ++ 32 :: r).take t.length = t := List.take_left' rfl
    cases t with
    | nil => exact absurd rfl e9
    | cons c q =>
      have hb : (97 ≤ c ∧ c ≤ 122) ∨ (48 ≤ c ∧ c ≤ 57) ∨ c = 45 ∨ c = 35 := by
        have h := e8 c (by simp)
        simp [inR, BARE] at h
        omega
      have hs : inR SP c = false := by simp [inR, SP]; omega
      refine ⟨?_, ?_⟩
      · have e1 : firstF (c :: q ++ 32 :: r) = bareF (c :: q ++ 32 :: r) := by
          show firstF (c :: (q ++ 32 :: r)) = _
          rw [first_cons, if_neg (by omega), if_neg (by omega), if_neg (by omega)]
          rfl
        rw [e1]
        unfold bareF
        rw [hsp2, htk, e7, if_pos rfl]
      · show gp false (c :: (q ++ 32 :: r)) = 0
        rw [gp_cons, if_neg (by rw [hs]; decide), if_neg (by omega)]
theorem flat_cons (x : Tk) (l : List Tk) : flat (x :: l) = wrt x ++ 32 :: flat l := by unfold flat; simp
theorem flat_len : ∀ l : List Tk, l.length ≤ (flat l).length
  | [] => Nat.le_refl _
  | x :: l => by
    have := flat_len l
    rw [flat_cons, List.length_append, List.length_cons, List.length_cons]
    omega
theorem flat_snoc (l : List Tk) (x : Tk) : flat (l ++ [x]) = flat l ++ (wrt x ++ [32]) := by unfold flat; simp
theorem flat_take (l : List Tk) (k : Nat) : (flat (l.take k)).length ≤ (flat l).length := by
  have : flat l = flat (l.take k) ++ flat (l.drop k) := by unfold flat; rw [← List.flatMap_append, List.take_append_drop]
  rw [this, List.length_append]
  omega
theorem yl_wrt : ∀ (ts : List Tk) (C l : List Int), l = C ++ flat ts → (∀ x ∈ ts, TokFine x ∧ Bytes8 x.t) → ∃ b : List (Tk × Int), yl (ts.length + 1) l C.length = b ++ [((⟨6, [], l.length⟩ : Tk), (0 : Int))] ∧ b.map (fun y => (y.1.k, y.1.t)) = ts.map (fun x => (x.k, x.t))
  | [], C, l, hl, _ => by
    have e : l = C := by rw [hl]; exact List.append_nil C
    subst e
    refine ⟨[], ?_, rfl⟩
    show yl (0 + 1) l l.length = _
    rw [yl_one, nx_end, if_pos (.inr rfl)]
    rfl
  | x :: ts, C, l, hl, hx => by
    obtain ⟨hf, h8⟩ := hx x (by simp)
    obtain ⟨e1, e2⟩ := first_wrt hf h8 (flat ts)
    rw [flat_cons] at hl
    have hd : l.drop C.length = wrt x ++ 32 :: flat ts := by rw [hl]; exact List.drop_left' rfl
    have hn : nxT l C.length = (⟨x.k, x.t, C.length⟩, C.length + (wrt x).length, 0) := by
      unfold nxT
      rw [hd, e2, Nat.add_zero, hd, e1]
      simp only [Nat.zero_add]
    have hl2 : l = (C ++ wrt x ++ [32]) ++ flat ts := by rw [hl]; simp
    have hl3 : (C ++ wrt x ++ [32]).length = C.length + (wrt x).length + 1 := by simp; omega
    have hd2 : l.drop (C.length + (wrt x).length) = 32 :: l.drop (C.length + (wrt x).length + 1) := by
      have a1 : l.drop (C.length + (wrt x).length) = 32 :: flat ts := by
        rw [show l = (C ++ wrt x) ++ (32 :: flat ts) by rw [hl]; simp]
        exact List.drop_left' (by simp)
      have a2 : l.drop (C.length + (wrt x).length + 1) = flat ts := by
        rw [hl2]
        exact List.drop_left' hl3
      rw [a1, a2]
    obtain ⟨b, hb1, hb2⟩ := yl_wrt ts (C ++ wrt x ++ [32]) l hl2 (fun y hy => hx y (by simp [hy]))
    have h6 : x.k ≠ 6 := by
      rcases hf with ⟨e, _⟩ | ⟨e, _⟩ | e | ⟨_, _, _, e, _⟩
      · omega
      · omega
      · omega
      · exact e
    refine ⟨((⟨x.k, x.t, C.length⟩ : Tk), (0 : Int)) :: b, ?_, by rw [List.map_cons, List.map_cons, hb2]⟩
    rw [List.length_cons, yl_one, hn]
    show _ :: (if (0 : Int) ≠ 0 ∨ x.k = 6 then [] else yl (ts.length + 1) l (C.length + (wrt x).length)) = _
    rw [if_neg (fun h => h.elim (fun h => h rfl) h6), yl_step (nx_space hd2 (by decide)), ← hl3, hb1]
    rfl
/-- the tokens of the written text -/
theorem yl_written {ts : List Tk} (hx : ∀ x ∈ ts, TokFine x ∧ Bytes8 x.t) {l : List Int} (hl : l = flat ts) : ∃ b : List (Tk × Int), yl (l.length + 1) l 0 = b ++ [((⟨6, [], l.length⟩ : Tk), (0 : Int))] ∧ b.map (fun y => (y.1.k, y.1.t)) = ts.map (fun x => (x.k, x.t)) := by
  obtain ⟨b, hb1, hb2⟩ := yl_wrt ts [] l (by rw [hl]; rfl) hx
  exact ⟨b, yl_more _ _ _ _ _ _ hb1 (.inr rfl) (by have := flat_len ts; rw [hl]; omega), hb2⟩
end Go.Proofs.Ytpeeekgfcofbkaa
