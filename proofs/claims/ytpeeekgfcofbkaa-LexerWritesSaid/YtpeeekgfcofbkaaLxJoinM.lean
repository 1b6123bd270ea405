/-
  THE TOKENS of texts that are joined, and of texts with more spaces.
-/
import Derived.Test.YtpeeekgfcofbkaaLxExt
namespace Go.Proofs.Ytpeeekgfcofbkaa
open Go.RowKit

/-- a token moved by d places -/
def Tk.move (x : Tk) (d : Nat) : Tk := ⟨x.k, x.t, x.p + d⟩
theorem gp_join (B : List Int) : ∀ (A : List Int) (b : Bool), gp b (A ++ 10 :: B) = if gp b A < A.length then gp b A else A.length + 1 + gp false B
  | [], b => by
    cases b
    · show gp false (10 :: B) = _
      rw [gp_cons, if_pos (by decide), if_neg (by simp)]
      simp [Nat.add_comm]
    · show gp true (10 :: B) = _
      rw [gp_cons2, if_pos rfl, if_neg (by simp)]
      simp [Nat.add_comm]
  | c :: A, true => by
    show gp true (c :: (A ++ 10 :: B)) = _
    rw [gp_cons2, gp_cons2]
    by_cases h : c = 10
    · rw [if_pos h, if_pos h, gp_join B A false, List.length_cons]
      by_cases h2 : gp false A < A.length
      · rw [if_pos h2, if_pos (by omega)]
      · rw [if_neg h2, if_neg (by omega)]; omega
    · rw [if_neg h, if_neg h, gp_join B A true, List.length_cons]
      by_cases h2 : gp true A < A.length
      · rw [if_pos h2, if_pos (by omega)]
      · rw [if_neg h2, if_neg (by omega)]; omega
  | c :: A, false => by
    show gp false (c :: (A ++ 10 :: B)) = _
    rw [gp_cons, gp_cons]
    by_cases h : inR SP c = true
    · rw [if_pos h, if_pos h, gp_join B A false, List.length_cons]
      by_cases h2 : gp false A < A.length
      · rw [if_pos h2, if_pos (by omega)]
      · rw [if_neg h2, if_neg (by omega)]; omega
    · rw [if_neg h, if_neg h]
      by_cases h59 : c = 59
      · rw [if_pos h59, if_pos h59, gp_join B A true, List.length_cons]
        by_cases h2 : gp true A < A.length
        · rw [if_pos h2, if_pos (by omega)]
        · rw [if_neg h2, if_neg (by omega)]; omega
      · rw [if_neg h59, if_neg h59, if_pos (by simp)]
theorem nx_end6 {l : List Int} {i : Nat} (hi : i ≤ l.length) (h : (nxT l i).2.2 = 0) (h6 : (nxT l i).1.k = 6) : nxT l i = (⟨6, [], l.length⟩, l.length, 0) ∧ i + gp false (l.drop i) = l.length := by
  have hg := gp_le (l.drop i) false
  rw [List.length_drop] at hg
  unfold nxT at h h6 ⊢
  generalize gp false (l.drop i) = g at *
  cases hd : l.drop (i + g) with
  | nil =>
    have := congrArg List.length hd
    rw [List.length_drop, List.length_nil] at this
    have e : i + g = l.length := by omega
    refine ⟨?_, e⟩
    rw [e]
    show ((⟨6, [], 0 + l.length⟩, l.length + 0, 0) : Tk × Nat × Int) = _
    rw [Nat.zero_add, Nat.add_zero]
  | cons c r =>
    rw [hd] at h h6
    obtain ⟨n, _, _, _, _, h5, _⟩ := first_ext h
    exact absurd h6 h5
theorem nx_len {l : List Int} {i : Nat} (h8 : Bytes8 l) (hi : i ≤ l.length) : (nxT l i).2.1 ≤ l.length := by
  have h4 := gp_le (l.drop i) false
  rw [List.length_drop] at h4
  have h5 := first_size (l := l.drop (i + gp false (l.drop i))) (fun z hz => h8 z (List.mem_of_mem_drop hz))
  rw [List.length_drop] at h5
  show i + gp false (l.drop i) + _ ≤ _
  omega
theorem nx_place {l : List Int} {i : Nat} (h8 : Bytes8 l) (hi : i ≤ l.length) : (nxT l i).1.p ≤ l.length := by
  have h4 := gp_le (l.drop i) false
  rw [List.length_drop] at h4
  have h5 := first_place (l := l.drop (i + gp false (l.drop i))) (fun z hz => h8 z (List.mem_of_mem_drop hz))
  rw [List.length_drop] at h5
  show (firstF _).1.p + (i + gp false (l.drop i)) ≤ _
  omega
theorem yl_place : ∀ (f : Nat) (l : List Int) (i : Nat), Bytes8 l → i ≤ l.length → ∀ y ∈ yl f l i, y.1.p ≤ l.length
  | 0, l, i, h8, hi, y, hy => by cases hy
  | f + 1, l, i, h8, hi, y, hy => by
    rw [yl_one] at hy
    rcases List.mem_cons.1 hy with rfl | hy
    · exact nx_place h8 hi
    · split at hy
      · cases hy
      · exact yl_place f l _ h8 (nx_len h8 hi) y hy
/-- of a text without an error, the last token is End, and no other one is -/
theorem yl_last : ∀ (f : Nat) (l : List Int) (i : Nat) (pre : List (Tk × Int)) (x : Tk × Int), Bytes8 l → i ≤ l.length → l.length + 1 ≤ i + f → yl f l i = pre ++ [x] → x.2 = 0 → x = (⟨6, [], l.length⟩, 0) ∧ ∀ y ∈ pre, y.2 = 0 ∧ y.1.k ≠ 6
  | 0, l, i, pre, x, h8, hi, hf, hy, hx => by omega
  | f + 1, l, i, pre, x, h8, hi, hf, hy, hx => by
    rw [yl_one] at hy
    by_cases h : (nxT l i).2.2 ≠ 0 ∨ (nxT l i).1.k = 6
    · rw [if_pos h] at hy
      cases pre with
      | nil =>
        injection hy with hy _
        subst hy
        have h0 : (nxT l i).2.2 = 0 := hx
        have h6 : (nxT l i).1.k = 6 := h.elim (fun h => absurd h0 h) id
        obtain ⟨e, _⟩ := nx_end6 hi h0 h6
        refine ⟨?_, fun y hy => by cases hy⟩
        rw [e]
      | cons y pre =>
        injection hy with _ hy
        exact absurd (congrArg List.length hy) (by simp)
    · rw [if_neg h] at hy
      have h1 : (nxT l i).2.2 = 0 := Decidable.byContradiction fun h2 => h (.inl h2)
      have h6 : (nxT l i).1.k ≠ 6 := fun h3 => h (.inr h3)
      have h2 := nx_pos l i h1 h6
      have h3 := nx_len h8 hi
      cases pre with
      | nil =>
        injection hy with _ hy
        cases f with
        | zero => omega
        | succ f => rw [yl_one] at hy; cases hy
      | cons y pre =>
        injection hy with hy1 hy
        obtain ⟨a, b⟩ := yl_last f l _ pre x h8 h3 (by omega) hy hx
        refine ⟨a, fun z hz => ?_⟩
        rcases List.mem_cons.1 hz with rfl | hz
        · rw [← hy1]
          exact ⟨h1, h6⟩
        · exact b z hz
theorem nx_join {A B : List Int} {i : Nat} (hi : i ≤ A.length) (h : (nxT A i).2.2 = 0) : ((nxT A i).1.k ≠ 6 → nxT (A ++ 10 :: B) i = nxT A i) ∧ ((nxT A i).1.k = 6 → nxT (A ++ 10 :: B) i = nxT (A ++ 10 :: B) (A.length + 1)) := by
  have hd1 : (A ++ 10 :: B).drop i = A.drop i ++ 10 :: B := List.drop_append_of_le_length hi
  have hg := gp_join B (A.drop i) false
  rw [← hd1] at hg
  have hgl := gp_le (A.drop i) false
  rw [List.length_drop] at hg hgl
  refine ⟨fun h6 => ?_, fun h6 => ?_⟩
  · have hlt : i + gp false (A.drop i) < A.length := by
      rcases Nat.lt_or_ge (i + gp false (A.drop i)) A.length with h1 | h1
      · exact h1
      · exfalso
        apply h6
        unfold nxT
        rw [List.drop_eq_nil_of_le h1]
        rfl
    rw [if_pos (by omega)] at hg
    unfold nxT at h ⊢
    rw [hg]
    generalize gp false (A.drop i) = g at *
    rw [List.drop_append_of_le_length (by omega)]
    cases hd : A.drop (i + g) with
    | nil =>
      have := congrArg List.length hd
      rw [List.length_drop, List.length_nil] at this
      omega
    | cons c r =>
      rw [hd] at h
      obtain ⟨n, _, _, hn, _, _, _, hs, _⟩ := first_ext h
      have e : c :: r ++ 10 :: B = (c :: r).take n ++ ((c :: r).drop n ++ 10 :: B) := by rw [← List.append_assoc, List.take_append_drop]
      have e2 : firstF (c :: r ++ 10 :: B) = firstF (c :: r) := by
        rw [e]
        refine hs _ fun d q hdq => ?_
        cases hq : (c :: r).drop n with
        | nil =>
          rw [hq, List.nil_append] at hdq
          injection hdq with hdq _
          rw [← hdq]
          exact .inl (by decide)
        | cons a b =>
          rw [hq] at hdq
          injection hdq with hdq _
          rw [← hdq]
          exact .inr ⟨b, rfl⟩
      rw [e2]
  · obtain ⟨_, hend⟩ := nx_end6 hi h h6
    rw [if_neg (by omega)] at hg
    have hdB : (A ++ 10 :: B).drop (A.length + 1) = B := by
      rw [show A ++ 10 :: B = (A ++ [10]) ++ B by simp]
      exact List.drop_left' (by simp)
    have h2 : nxT (A ++ 10 :: B) i = nxT (A ++ 10 :: B) (i + (A.length + 1 - i)) := nx_gap (by rw [show i + (A.length + 1 - i) = A.length + 1 by omega, hdB, hg]; omega)
    rw [h2, show i + (A.length + 1 - i) = A.length + 1 by omega]
theorem yl_join {A B : List Int} (h8 : Bytes8 (A ++ 10 :: B)) : ∀ (f i : Nat) (pre : List (Tk × Int)), i ≤ A.length → yl f A i = pre ++ [(⟨6, [], A.length⟩, 0)] →
    yl (f + (B.length + 1)) (A ++ 10 :: B) i = pre ++ yl (A.length + B.length + 2) (A ++ 10 :: B) (A.length + 1)
  | 0, i, pre, hi, hy => by
    have := congrArg List.length hy
    simp [yl] at this
  | f + 1, i, pre, hi, hy => by
    have h8A : Bytes8 A := fun z hz => h8 z (by simp [hz])
    have hl : (A ++ 10 :: B).length = A.length + B.length + 1 := by simp; omega
    rw [yl_one] at hy
    by_cases h : (nxT A i).2.2 ≠ 0 ∨ (nxT A i).1.k = 6
    · rw [if_pos h] at hy
      cases pre with
      | nil =>
        injection hy with hy _
        have h0 : (nxT A i).2.2 = 0 := congrArg Prod.snd hy
        have h6 : (nxT A i).1.k = 6 := h.elim (fun h => absurd h0 h) id
        rw [yl_step ((nx_join hi h0).2 h6), List.nil_append]
        exact yl_fuel _ _ _ _ h8 (by omega) (by omega) (by omega)
      | cons y pre =>
        injection hy with _ hy
        exact absurd (congrArg List.length hy) (by simp)
    · rw [if_neg h] at hy
      have h1 : (nxT A i).2.2 = 0 := Decidable.byContradiction fun h2 => h (.inl h2)
      have h6 : (nxT A i).1.k ≠ 6 := fun h3 => h (.inr h3)
      have e := (nx_join (B := B) hi h1).1 h6
      cases pre with
      | nil =>
        injection hy with hy _
        exact absurd (congrArg (fun x : Tk × Int => x.1.k) hy) h6
      | cons y pre =>
        injection hy with hy1 hy
        rw [show f + 1 + (B.length + 1) = (f + (B.length + 1)) + 1 by omega, yl_one, e, if_neg h, hy1, List.cons_append, yl_join h8 f _ pre (nx_len h8A hi) hy]
theorem nx_shift (C B : List Int) (j : Nat) : nxT (C ++ B) (C.length + j) = ((nxT B j).1.move C.length, C.length + (nxT B j).2.1, (nxT B j).2.2) := by
  have hd : ∀ m, (C ++ B).drop (C.length + m) = B.drop m := fun m => by rw [← List.drop_drop, List.drop_left' rfl]
  unfold nxT
  rw [hd j, show C.length + j + gp false (B.drop j) = C.length + (j + gp false (B.drop j)) by omega, hd]
  generalize gp false (B.drop j) = g
  generalize firstF (B.drop (j + g)) = V
  unfold Tk.move
  refine Prod.ext ?_ (Prod.ext ?_ rfl)
  · show (⟨V.1.k, V.1.t, V.1.p + (C.length + (j + g))⟩ : Tk) = ⟨V.1.k, V.1.t, V.1.p + (j + g) + C.length⟩
    congr 1
    omega
  · show C.length + (j + g) + V.2.1 = C.length + (j + g + V.2.1)
    omega
theorem yl_shift (C B : List Int) : ∀ (f j : Nat), yl f (C ++ B) (C.length + j) = (yl f B j).map fun x => (x.1.move C.length, x.2)
  | 0, j => rfl
  | f + 1, j => by
    rw [yl_one, yl_one, nx_shift]
    show _ :: (if (nxT B j).2.2 ≠ 0 ∨ (nxT B j).1.k = 6 then [] else yl f (C ++ B) (C.length + (nxT B j).2.1)) = _
    split
    · rfl
    · rw [yl_shift C B f]
      rfl
/-- the tokens of two texts with a line end between them -/
theorem yl_both {A B : List Int} (h8 : Bytes8 (A ++ 10 :: B)) {a b : List (Tk × Int)} {x y : Tk × Int} (ha : yl (A.length + 1) A 0 = a ++ [x]) (hx : x.2 = 0) (hb : yl (B.length + 1) B 0 = b ++ [y]) (hy : y.2 = 0) :
    yl (A.length + B.length + 2) (A ++ 10 :: B) 0 = (a ++ b.map fun z => (z.1.move (A.length + 1), z.2)) ++ [((⟨6, [], A.length + B.length + 1⟩ : Tk), (0 : Int))] := by
  have h8A : Bytes8 A := fun z hz => h8 z (by simp [hz])
  have h8B : Bytes8 B := fun z hz => h8 z (by simp [hz])
  obtain ⟨rfl, _⟩ := yl_last _ _ _ _ _ h8A (Nat.zero_le _) (by omega) ha hx
  obtain ⟨rfl, _⟩ := yl_last _ _ _ _ _ h8B (Nat.zero_le _) (by omega) hb hy
  have h1 := yl_join h8 (A.length + 1) 0 a (Nat.zero_le _) ha
  rw [show A.length + 1 + (B.length + 1) = A.length + B.length + 2 by omega] at h1
  rw [h1]
  have h2 := yl_shift (A ++ [10]) B (A.length + B.length + 2) 0
  rw [show (A ++ [(10 : Int)]) ++ B = A ++ 10 :: B by simp, show (A ++ [(10 : Int)]).length = A.length + 1 by simp, Nat.add_zero] at h2
  rw [h2, yl_fuel (A.length + B.length + 2) (B.length + 1) B 0 h8B (Nat.zero_le _) (by omega) (by omega), hb, List.map_append, List.append_assoc]
  congr 2
  show [((⟨6, [], B.length + (A.length + 1)⟩ : Tk), (0 : Int))] = _
  rw [show B.length + (A.length + 1) = A.length + B.length + 1 by omega]
end Go.Proofs.Ytpeeekgfcofbkaa
