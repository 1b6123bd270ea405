/-
  VALID ARRAYS: their indices grow; the element at an index; an array with another element.
-/
import Derived.Test.YtngfgohchnkidaaVaEnts
import Derived.Test.YtngfgohchnkidaaVaFind
namespace Go.Proofs.Ytngfgohchnkidaa
open Go.RowKit

theorem okAt_all {k n ix : Int} {l : List En} (h : entsOk k n ix l = true) (j : Nat) (hj : j < l.length) : okAt k n ix l j = true := List.all_eq_true.1 h j (List.mem_range.2 hj)
theorem getD_get {l : List En} {j : Nat} (hj : j < l.length) : l.getD j e0 = l[j] := by rw [List.getD_eq_getElem?_getD, List.getElem?_eq_getElem hj]; rfl
theorem ents_srt {k n ix : Int} {l : List En} (h : entsOk k n ix l = true) : Srt l := by
  have h1 : ∀ d i (hd : i + d + 1 < l.length), l[i].i < l[i + d + 1].i := by
    intro d
    induction d with
    | zero =>
      intro i hd
      have := okAt_all h (i + 1) (by omega)
      unfold okAt ordAt at this
      rw [Bool.and_eq_true] at this
      have h2 := this.1
      rw [getD_get (show i + 1 < l.length by omega), show i + 1 - 1 = i by omega, getD_get (show i < l.length by omega)] at h2
      simpa using h2
    | succ d ih =>
      intro i hd
      have a1 := ih i (by omega)
      have := okAt_all h (i + (d + 1) + 1) (by omega)
      unfold okAt ordAt at this
      rw [Bool.and_eq_true] at this
      have h2 := this.1
      rw [getD_get hd, show i + (d + 1) + 1 - 1 = i + d + 1 by omega, getD_get (show i + d + 1 < l.length by omega)] at h2
      have h3 : l[i + d + 1].i < l[i + (d + 1) + 1].i := by simpa using h2
      omega
  unfold Srt
  rw [List.pairwise_iff_getElem]
  intro i j hi hj hij
  obtain ⟨d, rfl⟩ : ∃ d, j = i + d + 1 := ⟨j - i - 1, by omega⟩
  exact h1 d i hj
theorem ents_one {k n ix : Int} {l : List En} (h : entsOk k n ix l = true) : ∀ x ∈ l, en1 k n ix x = true := fun x hx => by
  obtain ⟨j, hj, rfl⟩ := List.getElem_of_mem hx
  have := okAt_all h j hj
  unfold okAt at this
  rw [Bool.and_eq_true, getD_get hj] at this
  exact this.2
theorem ents_mk {k n ix : Int} {l : List En} (h1 : Srt l) (h2 : ∀ x ∈ l, en1 k n ix x = true) : entsOk k n ix l = true := by
  unfold entsOk
  rw [List.all_eq_true]
  intro j hj
  have hj := List.mem_range.1 hj
  unfold okAt
  rw [getD_get hj, h2 _ (List.getElem_mem hj), Bool.and_true]
  unfold ordAt
  cases j with
  | zero => rfl
  | succ j =>
    rw [getD_get hj, Nat.add_sub_cancel, getD_get (show j < l.length by omega)]
    have := List.pairwise_iff_getElem.1 h1 j (j + 1) (by omega) hj (by omega)
    simp [this]
def isArrK (k : Int) : Bool := k == 2 || k == 3
theorem val_arr {x : Va} (h : valE x = 0) (hk : isArrK x.k = true) : sortOk x.k x.n x.ix = true ∧ (x.k = 2 ∨ x.k = 3) ∧ x.u = 0 ∧ x.s.size = 0 ∧ entsOk x.k x.n x.ix x.m = true := by
  have hk2 : x.k = 2 ∨ x.k = 3 := by unfold isArrK at hk; simpa using hk
  unfold valE at h
  by_cases hs : sortOk x.k x.n x.ix = true
  · rw [if_pos hs] at h
    by_cases hv : valOk x = true
    · unfold valOk at hv
      rw [if_neg (by omega), if_neg (by omega)] at hv
      simp only [Bool.and_eq_true, beq_iff_eq] at hv
      exact ⟨hs, hk2, hv.1.1, hv.1.2, hv.2⟩
    · rw [if_neg hv] at h; cases h
  · rw [if_neg hs] at h; cases h
/-- the element at an index -/
def atE (i : Int) (l : List En) : En := if hasE i l then l.getD (posE i l) e0 else ⟨i, 0, .empty⟩
/-- a row with another element at an index -/
def putE (i u : Int) (s : ByteArray) (l : List En) : List En :=
  l.take (posE i l) ++ (if u == 0 && s.size == 0 then [] else [⟨i, u, s⟩]) ++ l.drop (if hasE i l then posE i l + 1 else posE i l)
def elK (k : Int) : Int := if k = 3 then 1 else 0
def nilV : Va := ⟨0, 0, 0, 0, .empty, []⟩
/-- what Select returns -/
def selE (x : Va) (i : Int) : Int := if valE x ≠ 0 then valE x else if isArrK x.k = false then 9 else if grI x.ix < i then 5 else 0
def selV (x : Va) (i : Int) : Va := if selE x i = 0 then ⟨elK x.k, x.n, 0, (atE i x.m).u, (atE i x.m).s, []⟩ else nilV
/-- may values of a sort be stored in arrays of another -/
def mayE (k n ak an : Int) : Bool := if ak = 2 then k == 0 && n == an else if ak = 3 then k == 1 && decide (n ≤ an) else false
def stoE (x : Va) (i : Int) (y : Va) : Int := if valE x ≠ 0 then valE x else if valE y ≠ 0 then valE y else if mayE y.k y.n x.k x.n = false then 9 else if grI x.ix < i then 5 else 0
def stoV (x : Va) (i : Int) (y : Va) : Va := if stoE x i y = 0 then ⟨x.k, x.n, x.ix, 0, .empty, putE i y.u y.s x.m⟩ else nilV
end Go.Proofs.Ytngfgohchnkidaa
