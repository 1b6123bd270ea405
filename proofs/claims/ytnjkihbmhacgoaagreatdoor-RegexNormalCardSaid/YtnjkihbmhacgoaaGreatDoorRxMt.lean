/-
  WHICH PARTS OF A STRING AN EXPRESSION MATCHES: from a position to a position. No function of the program is named here.
-/
import Derived.Test.YtnjkihbmhacgoaaGreatDoorRxMath
namespace Go.Proofs.YtnjkihbmhacgoaaGreatDoor

/-- steps of R, one behind the other, each of them forward -/
inductive Star (R : Nat → Nat → Prop) : Nat → Nat → Prop
  | nil (i : Nat) : Star R i i
  | step {i m j : Nat} : R i m → i < m → Star R m j → Star R i j

mutual
/-- the expression matches the bytes from i to j of a string b -/
def mt (b : Nat → Int) : Rx → Nat → Nat → Prop
  | .node k l h s, i, j => (k = 1 ∧ i = j) ∨ (k = 2 ∧ j = i + 1 ∧ l ≤ b i ∧ b i ≤ h) ∨ (k = 3 ∧ mtCat b s i j) ∨ (k = 4 ∧ mtAny b s i j) ∨ (k = 5 ∧ i ≤ j ∧ mtAll b s i j) ∨ (k = 6 ∧ i ≤ j ∧ ¬ mtFst b s i j) ∨ (k = 7 ∧ Star (mtFst b s) i j)
def mtCat (b : Nat → Int) : List Rx → Nat → Nat → Prop
  | [], i, j => i = j
  | x :: s, i, j => ∃ m, mt b x i m ∧ mtCat b s m j
def mtAny (b : Nat → Int) : List Rx → Nat → Nat → Prop
  | [], _, _ => False
  | x :: s, i, j => mt b x i j ∨ mtAny b s i j
def mtAll (b : Nat → Int) : List Rx → Nat → Nat → Prop
  | [], _, _ => True
  | x :: s, i, j => mt b x i j ∧ mtAll b s i j
def mtFst (b : Nat → Int) : List Rx → Nat → Nat → Prop
  | [], _, _ => False
  | x :: _, i, j => mt b x i j
end

theorem Star.le {R : Nat → Nat → Prop} {i j : Nat} (h : Star R i j) : i ≤ j := by
  induction h with
  | nil i => exact Nat.le_refl _
  | step _ h1 _ ih => omega

mutual
theorem mt_le (b : Nat → Int) : ∀ (x : Rx) {i j : Nat}, mt b x i j → i ≤ j
  | .node k l h s, i, j, hm => by
    simp only [mt] at hm
    rcases hm with ⟨_, e⟩ | ⟨_, e, _⟩ | ⟨_, e⟩ | ⟨_, e⟩ | ⟨_, e, _⟩ | ⟨_, e, _⟩ | ⟨_, e⟩
    · omega
    · omega
    · exact mtCat_le b s e
    · exact mtAny_le b s e
    · exact e
    · exact e
    · exact e.le
theorem mtCat_le (b : Nat → Int) : ∀ (s : List Rx) {i j : Nat}, mtCat b s i j → i ≤ j
  | [], i, j, h => by simp only [mtCat] at h; omega
  | x :: s, i, j, h => by
    simp only [mtCat] at h
    obtain ⟨m, h1, h2⟩ := h
    have := mt_le b x h1
    have := mtCat_le b s h2
    omega
theorem mtAny_le (b : Nat → Int) : ∀ (s : List Rx) {i j : Nat}, mtAny b s i j → i ≤ j
  | [], i, j, h => by simp only [mtAny] at h
  | x :: s, i, j, h => by
    simp only [mtAny] at h
    rcases h with h | h
    · exact mt_le b x h
    · exact mtAny_le b s h
end
theorem mtFst_le (b : Nat → Int) : ∀ (s : List Rx) {i j : Nat}, mtFst b s i j → i ≤ j
  | [], i, j, h => by simp only [mtFst] at h
  | x :: s, i, j, h => by simp only [mtFst] at h; exact mt_le b x h

theorem mtCat_snoc (b : Nat → Int) : ∀ (s : List Rx) (x : Rx) (i j : Nat), mtCat b (s ++ [x]) i j ↔ ∃ m, mtCat b s i m ∧ mt b x m j
  | [], x, i, j => by simp [mtCat]
  | y :: s, x, i, j => by
    simp only [List.cons_append, mtCat]
    constructor
    · rintro ⟨m, h1, h2⟩
      obtain ⟨q, h3, h4⟩ := (mtCat_snoc b s x m j).1 h2
      exact ⟨q, ⟨m, h1, h3⟩, h4⟩
    · rintro ⟨q, ⟨m, h1, h3⟩, h4⟩
      exact ⟨m, h1, (mtCat_snoc b s x m j).2 ⟨q, h3, h4⟩⟩
theorem mtAny_snoc (b : Nat → Int) : ∀ (s : List Rx) (x : Rx) (i j : Nat), mtAny b (s ++ [x]) i j ↔ mtAny b s i j ∨ mt b x i j
  | [], x, i, j => by simp [mtAny]
  | y :: s, x, i, j => by simp only [List.cons_append, mtAny, mtAny_snoc b s x i j]; exact or_assoc.symm
theorem mtAll_snoc (b : Nat → Int) : ∀ (s : List Rx) (x : Rx) (i j : Nat), mtAll b (s ++ [x]) i j ↔ mtAll b s i j ∧ mt b x i j
  | [], x, i, j => by simp [mtAll]
  | y :: s, x, i, j => by simp only [List.cons_append, mtAll, mtAll_snoc b s x i j]; exact and_assoc.symm

/-! ### The same part of a longer string -/
theorem star_shift {R Q : Nat → Nat → Prop} {d n : Nat} (hR : ∀ i j, j ≤ n → (R i j ↔ Q (d + i) (d + j))) {i j : Nat} (hj : j ≤ n) : Star R i j ↔ Star Q (d + i) (d + j) := by
  constructor
  · intro h
    induction h with
    | nil i => exact .nil _
    | @step i m j h1 h2 h3 ih =>
      have := h3.le
      exact .step ((hR i m (by omega)).1 h1) (by omega) (ih hj)
  · intro h
    generalize ha : d + i = a at h
    generalize hc : d + j = c at h
    induction h generalizing i with
    | nil a =>
      obtain rfl : i = j := by omega
      exact .nil _
    | @step a m c h1 h2 h3 ih =>
      subst ha hc
      have := h3.le
      obtain ⟨q, rfl⟩ : ∃ q, m = d + q := ⟨m - d, by omega⟩
      exact .step ((hR i q (by omega)).2 h1) (by omega) (ih rfl rfl)
mutual
theorem mt_shift {b b' : Nat → Int} {d n : Nat} (hb : ∀ i, i < n → b' i = b (d + i)) : ∀ (x : Rx) (i j : Nat), j ≤ n → (mt b' x i j ↔ mt b x (d + i) (d + j))
  | .node k l h s, i, j, hj => by
    simp only [mt]
    have e1 : (i = j) ↔ (d + i = d + j) := by omega
    have e2 : (j = i + 1 ∧ l ≤ b' i ∧ b' i ≤ h) ↔ (d + j = d + i + 1 ∧ l ≤ b (d + i) ∧ b (d + i) ≤ h) := by
      constructor
      · rintro ⟨h1, h2⟩
        rw [hb i (by omega)] at h2
        exact ⟨by omega, h2⟩
      · rintro ⟨h1, h2⟩
        rw [← hb i (by omega)] at h2
        exact ⟨by omega, h2⟩
    have e3 : (i ≤ j) ↔ (d + i ≤ d + j) := by omega
    rw [e1, e2, e3, mtCat_shift hb s i j hj, mtAny_shift hb s i j hj, mtAll_shift hb s i j hj, mtFst_shift hb s i j hj, star_shift (fun i j h => mtFst_shift hb s i j h) hj]
theorem mtCat_shift {b b' : Nat → Int} {d n : Nat} (hb : ∀ i, i < n → b' i = b (d + i)) : ∀ (s : List Rx) (i j : Nat), j ≤ n → (mtCat b' s i j ↔ mtCat b s (d + i) (d + j))
  | [], i, j, hj => by simp only [mtCat]; omega
  | x :: s, i, j, hj => by
    simp only [mtCat]
    constructor
    · rintro ⟨m, h1, h2⟩
      have := mtCat_le b' s h2
      exact ⟨d + m, (mt_shift hb x i m (by omega)).1 h1, (mtCat_shift hb s m j hj).1 h2⟩
    · rintro ⟨m, h1, h2⟩
      have h3 := mtCat_le b s h2
      have h4 := mt_le b x h1
      obtain ⟨q, rfl⟩ : ∃ q, m = d + q := ⟨m - d, by omega⟩
      exact ⟨q, (mt_shift hb x i q (by omega)).2 h1, (mtCat_shift hb s q j hj).2 h2⟩
theorem mtAny_shift {b b' : Nat → Int} {d n : Nat} (hb : ∀ i, i < n → b' i = b (d + i)) : ∀ (s : List Rx) (i j : Nat), j ≤ n → (mtAny b' s i j ↔ mtAny b s (d + i) (d + j))
  | [], i, j, hj => by simp only [mtAny]
  | x :: s, i, j, hj => by simp only [mtAny]; rw [mt_shift hb x i j hj, mtAny_shift hb s i j hj]
theorem mtAll_shift {b b' : Nat → Int} {d n : Nat} (hb : ∀ i, i < n → b' i = b (d + i)) : ∀ (s : List Rx) (i j : Nat), j ≤ n → (mtAll b' s i j ↔ mtAll b s (d + i) (d + j))
  | [], i, j, hj => by simp only [mtAll]
  | x :: s, i, j, hj => by simp only [mtAll]; rw [mt_shift hb x i j hj, mtAll_shift hb s i j hj]
theorem mtFst_shift {b b' : Nat → Int} {d n : Nat} (hb : ∀ i, i < n → b' i = b (d + i)) : ∀ (s : List Rx) (i j : Nat), j ≤ n → (mtFst b' s i j ↔ mtFst b s (d + i) (d + j))
  | [], i, j, hj => by simp only [mtFst]
  | x :: s, i, j, hj => by simp only [mtFst]; rw [mt_shift hb x i j hj]
end

/-! ### Star, position by position -/
/-- the positions reached from i when the first t positions were examined -/
def oft (R : Nat → Nat → Prop) (i : Nat) : Nat → Nat → Prop
  | 0, j => j = i
  | t + 1, j => oft R i t j ∨ (oft R i t t ∧ R t j)
theorem oft_mono {R : Nat → Nat → Prop} {i j t u : Nat} (h : oft R i t j) (hu : t ≤ u) : oft R i u j := by
  induction u with
  | zero => obtain rfl : t = 0 := by omega
            exact h
  | succ u ih =>
    by_cases e : t = u + 1
    · subst e; exact h
    · exact .inl (ih (by omega))
theorem oft_early {R : Nat → Nat → Prop} (hR : ∀ i j, R i j → i ≤ j) {i m : Nat} : ∀ {t : Nat}, oft R i t m → oft R i m m
  | 0, h => by
    simp only [oft] at h
    subst h
    exact oft_mono (t := 0) (by simp [oft]) (Nat.zero_le _)
  | t + 1, h => by
    simp only [oft] at h
    rcases h with h | ⟨h1, h2⟩
    · exact oft_early hR h
    · have := hR t m h2
      by_cases e : t = m
      · subst e; exact h1
      · exact oft_mono (t := t + 1) (.inr ⟨h1, h2⟩) (by omega)
theorem Star.snoc {R : Nat → Nat → Prop} {i m j : Nat} (h : Star R i m) (h1 : R m j) (hle : m ≤ j) : Star R i j := by
  induction h with
  | nil i =>
    by_cases e : i = j
    · subst e; exact .nil _
    · exact .step h1 (by omega) (.nil _)
  | step g1 g2 _ ih => exact .step g1 g2 (ih h1 hle)
theorem oft_star {R : Nat → Nat → Prop} (hR : ∀ i j, R i j → i ≤ j) {n i j : Nat} (hn : ∀ i j, R i j → j ≤ n) (hi : i ≤ n) : oft R i (n + 1) j ↔ Star R i j := by
  constructor
  · generalize n + 1 = t
    intro h
    induction t generalizing j with
    | zero => simp only [oft] at h; subst h; exact .nil _
    | succ t ih =>
      simp only [oft] at h
      rcases h with h | ⟨h1, h2⟩
      · exact ih h
      · exact (ih h1).snoc h2 (hR _ _ h2)
  · intro h
    have key : ∀ a c, Star R a c → oft R i (n + 1) a → a ≤ n → oft R i (n + 1) c := by
      intro a c h
      induction h with
      | nil a => exact fun h _ => h
      | @step a m c g1 g2 _ ih =>
        intro h1 h2
        have h3 := oft_early hR h1
        exact ih (oft_mono (t := a + 1) (.inr ⟨h3, g1⟩) (by omega)) (hn _ _ g1)
    exact key i j h (oft_mono (t := 0) (by simp [oft]) (Nat.zero_le _)) hi
/-- only steps up to n matter for what ends at n or before -/
theorem star_upto {R : Nat → Nat → Prop} {n i j : Nat} (hj : j ≤ n) : Star R i j ↔ Star (fun a c => R a c ∧ c ≤ n) i j := by
  constructor
  · intro h
    induction h with
    | nil i => exact .nil _
    | step g1 g2 g3 ih => exact .step ⟨g1, by have := g3.le; omega⟩ g2 (ih hj)
  · intro h
    induction h with
    | nil i => exact .nil _
    | step g1 g2 _ ih => exact .step g1.1 g2 (ih hj)
theorem star_zero {R : Nat → Nat → Prop} {i n : Nat} : Star R i n ↔ i = n ∨ ∃ m, R i m ∧ i < m ∧ Star R m n := by
  constructor
  · intro h
    cases h with
    | nil => exact .inl rfl
    | step g1 g2 g3 => exact .inr ⟨_, g1, g2, g3⟩
  · rintro (rfl | ⟨m, g1, g2, g3⟩)
    · exact .nil _
    · exact .step g1 g2 g3
end Go.Proofs.YtnjkihbmhacgoaaGreatDoor
