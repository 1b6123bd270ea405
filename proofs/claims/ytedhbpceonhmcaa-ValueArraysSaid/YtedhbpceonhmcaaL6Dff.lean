/-
  THE MATHEMATICS OF DIFF: below the index at which two rows part their elements are equal, at it they are equal
  exactly if the rows are.
-/
import Derived.Test.YtedhbpceonhmcaaVaDiff
import Derived.Test.YtedhbpceonhmcaaVaEqv
import Derived.Test.YtedhbpceonhmcaaL6Math
namespace Go.Proofs.Ytedhbpceonhmcaa
open Go.RowKit

theorem dff_nn : dffI [] [] = 0 := rfl
theorem dff_nc (y : En) (m : List En) : dffI [] (y :: m) = y.i := rfl
theorem dff_cn (x : En) (l : List En) : dffI (x :: l) [] = x.i := rfl
theorem dff_same_cons (x : En) (l m : List En) : dffI (x :: l) (x :: m) = dffI l m := by
  unfold dffI
  rw [show ceN (x :: l) (x :: m) = ceN l m + 1 from by rw [ceN, if_pos ((cmpEn_zero x x).2 rfl)]]
  rfl
theorem dff_other {x y : En} (h : x ≠ y) (l m : List En) : dffI (x :: l) (y :: m) = if x.i ≤ y.i then x.i else y.i := by
  unfold dffI
  rw [show ceN (x :: l) (y :: m) = 0 from by rw [ceN, if_neg (fun h1 => h ((cmpEn_zero x y).1 h1))]]
  rfl
/-- the index is one of an entry -/
theorem dff_mem : ∀ {l m : List En}, l ≠ m → ∃ z, (z ∈ l ∨ z ∈ m) ∧ z.i = dffI l m
  | [], [], h => absurd rfl h
  | [], y :: m, _ => ⟨y, Or.inr (by simp), (dff_nc y m).symm⟩
  | x :: l, [], _ => ⟨x, Or.inl (by simp), (dff_cn x l).symm⟩
  | x :: l, y :: m, h => by
    by_cases hxy : x = y
    · subst hxy
      obtain ⟨z, hz, he⟩ := dff_mem (l := l) (m := m) (fun h1 => h (by rw [h1]))
      refine ⟨z, ?_, by rw [he, dff_same_cons]⟩
      rcases hz with hz | hz
      · exact Or.inl (List.mem_cons_of_mem _ hz)
      · exact Or.inr (List.mem_cons_of_mem _ hz)
    · rw [dff_other hxy]
      by_cases hle : x.i ≤ y.i
      · exact ⟨x, Or.inl (by simp), by rw [if_pos hle]⟩
      · exact ⟨y, Or.inr (by simp), by rw [if_neg hle]⟩
/-- below it the elements are equal -/
theorem dff_low {i : Int} : ∀ {l m : List En}, l ≠ m → i < dffI l m → atE i l = atE i m
  | [], [], h, _ => absurd rfl h
  | [], y :: m, _, hi => by
    rw [dff_nc] at hi
    rw [atE_nil, atE_cons, if_neg (by omega), if_neg (by omega)]
  | x :: l, [], _, hi => by
    rw [dff_cn] at hi
    rw [atE_nil, atE_cons, if_neg (by omega), if_neg (by omega)]
  | x :: l, y :: m, h, hi => by
    by_cases hxy : x = y
    · subst hxy
      rw [dff_same_cons] at hi
      rw [atE_cons, atE_cons, dff_low (l := l) (m := m) (fun h1 => h (by rw [h1])) hi]
    · rw [dff_other hxy] at hi
      have h1 : i < x.i ∧ i < y.i := by split at hi <;> omega
      rw [atE_cons, if_neg (by omega), if_neg (by omega), atE_cons, if_neg (by omega), if_neg (by omega)]
/-- at it they are not, if the rows are not -/
theorem dff_at : ∀ {l m : List En}, Srt l → Srt m → fullE l → fullE m → l ≠ m → ¬ ((atE (dffI l m) l).u = (atE (dffI l m) m).u ∧ (atE (dffI l m) l).s = (atE (dffI l m) m).s)
  | [], [], _, _, _, _, h => absurd rfl h
  | [], y :: m, _, _, _, hf, _ => fun h1 => by
    rw [dff_nc, atE_nil, atE_cons, if_neg (by omega), if_pos rfl] at h1
    rcases full_ne (hf y (by simp)) with h2 | h2
    · exact h2 h1.1.symm
    · exact h2 h1.2.symm
  | x :: l, [], _, _, hf, _, _ => fun h1 => by
    rw [dff_cn, atE_nil, atE_cons, if_neg (by omega), if_pos rfl] at h1
    rcases full_ne (hf x (by simp)) with h2 | h2
    · exact h2 h1.1
    · exact h2 h1.2
  | x :: l, y :: m, hl, hm, fl, fm, h => fun h1 => by
    obtain ⟨l1, l2⟩ := srt_cons hl
    obtain ⟨m1, m2⟩ := srt_cons hm
    by_cases hxy : x = y
    · subst hxy
      have hlm : l ≠ m := fun h1 => h (by rw [h1])
      rw [dff_same_cons] at h1
      obtain ⟨z, hz, he⟩ := dff_mem hlm
      have hzx : x.i < dffI l m := by
        rw [← he]
        rcases hz with hz | hz
        · exact l1 z hz
        · exact m1 z hz
      rw [atE_cons, if_pos hzx, atE_cons, if_pos hzx] at h1
      exact dff_at l2 m2 (fun z hz => fl z (List.mem_cons_of_mem _ hz)) (fun z hz => fm z (List.mem_cons_of_mem _ hz)) hlm h1
    · rw [dff_other hxy] at h1
      rcases Int.lt_trichotomy x.i y.i with h0 | h0 | h0
      · rw [if_pos (by omega), atE_cons, if_neg (by omega), if_pos rfl, atE_cons, if_neg (by omega), if_neg (by omega)] at h1
        rcases full_ne (fl x (by simp)) with h2 | h2
        · exact h2 h1.1
        · exact h2 h1.2
      · rw [if_pos (by omega), atE_cons, if_neg (by omega), if_pos rfl, atE_cons, if_neg (by omega), if_pos h0.symm] at h1
        refine hxy ?_
        cases x; cases y
        simp only at h0 h1
        rw [h0, h1.1, h1.2]
      · rw [if_neg (by omega), atE_cons, if_neg (by omega), if_neg (by omega), atE_cons, if_neg (by omega), if_pos rfl] at h1
        rcases full_ne (fm y (by simp)) with h2 | h2
        · exact h2 h1.1.symm
        · exact h2 h1.2.symm
/-- whether the elements at an index are equal -/
def sameE (i : Int) (l m : List En) : Bool := decide ((atE i l).u = (atE i m).u) && decide ((atE i l).s = (atE i m).s)
theorem sameE_iff (i : Int) (l m : List En) : sameE i l m = true ↔ (atE i l).u = (atE i m).u ∧ (atE i l).s = (atE i m).s := by
  unfold sameE
  simp
theorem sameE_refl (i : Int) (l : List En) : sameE i l l = true := (sameE_iff i l l).2 ⟨rfl, rfl⟩
theorem same_low {i : Int} {l m : List En} (h : i < dffI l m) : sameE i l m = true := by
  by_cases hlm : l = m
  · subst hlm
    exact sameE_refl i l
  · have := dff_low hlm h
    exact (sameE_iff i l m).2 ⟨by rw [this], by rw [this]⟩
theorem same_at {l m : List En} (hl : Srt l) (hm : Srt m) (fl : fullE l) (fm : fullE m) : sameE (dffI l m) l m = true ↔ l = m := by
  by_cases hlm : l = m
  · subst hlm
    exact ⟨fun _ => rfl, fun _ => sameE_refl _ _⟩
  · have := dff_at hl hm fl fm hlm
    rw [← sameE_iff] at this
    exact ⟨fun h => absurd h this, fun h => absurd h hlm⟩
theorem dff_range {l m : List En} {B : Int} (hB : 0 ≤ B) (hl : ∀ x ∈ l, 0 ≤ x.i ∧ x.i ≤ B) (hm : ∀ x ∈ m, 0 ≤ x.i ∧ x.i ≤ B) : 0 ≤ dffI l m ∧ dffI l m ≤ B := by
  by_cases hlm : l = m
  · subst hlm
    have h0 : ∀ l : List En, dffI l l = 0 := fun l => by
      induction l with
      | nil => rfl
      | cons x l ih => rw [dff_same_cons, ih]
    rw [h0]
    omega
  · obtain ⟨z, hz, he⟩ := dff_mem hlm
    rw [← he]
    rcases hz with hz | hz
    · exact hl z hz
    · exact hm z hz
/-- two arrays of one sort: their Diff is an index, and the elements there are equal exactly if the arrays are -/
theorem dff_arr {k n ix : Int} {m m2 : List En} (hk : k = 2 ∨ k = 3) (h1 : valE ⟨k, n, ix, 0, .empty, m⟩ = 0) (h2 : valE ⟨k, n, ix, 0, .empty, m2⟩ = 0) (o1 : ∀ e ∈ m, e.ok) (o2 : ∀ e ∈ m2, e.ok) :
    0 ≤ dffI m m2 ∧ dffI m m2 ≤ grI ix ∧ (sameE (dffI m m2) m m2 = true ↔ m = m2) := by
  have hka : isArrK k = true := by rcases hk with rfl | rfl <;> rfl
  have hb : ∀ {q : List En}, valE ⟨k, n, ix, 0, .empty, q⟩ = 0 → (∀ e ∈ q, e.ok) → ∀ x ∈ q, 0 ≤ x.i ∧ x.i ≤ grI ix := fun {q} hq oq x hx => by
    obtain ⟨_, _, _, _, hen⟩ := val_arr hq hka
    have h3 := ents_one hen x hx
    unfold en1 at h3
    simp only [Bool.and_eq_true, Bool.not_eq_true', decide_eq_false_iff_not] at h3
    have h4 := (oq x hx).1.1
    exact ⟨h4, by omega⟩
  obtain ⟨a1, b1⟩ := arr_facts hk h1
  obtain ⟨a2, b2⟩ := arr_facts hk h2
  obtain ⟨r1, r2⟩ := dff_range (gr_nonneg ix) (hb h1 o1) (hb h2 o2)
  exact ⟨r1, r2, same_at a1 a2 b1 b2⟩
/-- they are equal where all their elements are -/
theorem all_same {k n ix : Int} {m m2 : List En} (hk : k = 2 ∨ k = 3) (h1 : valE ⟨k, n, ix, 0, .empty, m⟩ = 0) (h2 : valE ⟨k, n, ix, 0, .empty, m2⟩ = 0) (o1 : ∀ e ∈ m, e.ok) (o2 : ∀ e ∈ m2, e.ok) (h : ∀ i : Int, 0 ≤ i → i ≤ grI ix → sameE i m m2 = true) : m = m2 := by
  obtain ⟨r1, r2, r3⟩ := dff_arr hk h1 h2 o1 o2
  exact r3.1 (h _ r1 r2)
/-- all elements below an index are equal -/
def allE (z : Nat) (l m : List En) : Bool := (List.range z).all fun i => sameE (i : Int) l m
theorem allE_zero (l m : List En) : allE 0 l m = true := rfl
theorem allE_succ (z : Nat) (l m : List En) : allE (z + 1) l m = (allE z l m && sameE (z : Int) l m) := by
  unfold allE
  rw [List.range_succ, List.all_append]
  simp
theorem allE_all {k n ix : Int} {m m2 : List En} {sz : Nat} (hk : k = 2 ∨ k = 3) (h1 : valE ⟨k, n, ix, 0, .empty, m⟩ = 0) (h2 : valE ⟨k, n, ix, 0, .empty, m2⟩ = 0) (o1 : ∀ e ∈ m, e.ok) (o2 : ∀ e ∈ m2, e.ok) (hs : grI ix = (sz : Int) - 1) : allE sz m m2 = true ↔ m = m2 := by
  constructor
  · intro h
    refine all_same hk h1 h2 o1 o2 (fun i h0 hi => ?_)
    obtain ⟨j, rfl⟩ := Int.eq_ofNat_of_zero_le h0
    exact List.all_eq_true.1 h j (List.mem_range.2 (by omega))
  · rintro rfl
    exact List.all_eq_true.2 (fun i _ => sameE_refl _ _)
/-- Compare of two elements at an index -/
theorem cmp_same (e n i : Int) (l m : List En) : (vaCmp ⟨e, n, 0, (atE i l).u, (atE i l).s, []⟩ ⟨e, n, 0, (atE i m).u, (atE i m).s, []⟩ == 0) = sameE i l m := by
  have h := vaCmp_zero ⟨e, n, 0, (atE i l).u, (atE i l).s, []⟩ ⟨e, n, 0, (atE i m).u, (atE i m).s, []⟩
  rw [Bool.eq_iff_iff, beq_iff_eq, h, sameE_iff]
  simp
/-- whether two rows are the same, as Compare of two arrays says it -/
def eqA (k n ix : Int) (l m : List En) : Bool := vaCmp ⟨k, n, ix, 0, .empty, l⟩ ⟨k, n, ix, 0, .empty, m⟩ == 0
theorem eqA_iff (k n ix : Int) (l m : List En) : eqA k n ix l m = true ↔ l = m := by
  unfold eqA
  rw [beq_iff_eq, vaCmp_zero]
  simp
end Go.Proofs.Ytedhbpceonhmcaa
