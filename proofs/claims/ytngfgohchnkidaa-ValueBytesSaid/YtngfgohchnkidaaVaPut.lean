/-
  THE MATHEMATICS of arrays: read over write, extensionality, how many entries there can be.
-/
import Derived.Test.YtngfgohchnkidaaVaAr
namespace Go.Proofs.Ytngfgohchnkidaa
open Go.RowKit

def noE (i : Int) : En := ⟨i, 0, .empty⟩
theorem hasE_cons (i : Int) (x : En) (l : List En) : hasE i (x :: l) = if x.i < i then hasE i l else (x.i == i) := by
  unfold hasE
  rw [posE_cons]
  by_cases h : x.i < i
  · simp [h]
  · simp [h]
theorem atE_nil (i : Int) : atE i [] = noE i := rfl
theorem atE_cons (i : Int) (x : En) (l : List En) : atE i (x :: l) = if x.i < i then atE i l else if x.i = i then x else noE i := by
  unfold atE
  rw [hasE_cons, posE_cons]
  by_cases h : x.i < i
  · simp [h]
  · by_cases h2 : x.i = i
    · simp [h2]
    · simp [h, h2, noE]
def newE (i u : Int) (s : ByteArray) : List En := if u == 0 && s.size == 0 then [] else [⟨i, u, s⟩]
theorem putE_nil (i u : Int) (s : ByteArray) : putE i u s [] = newE i u s := by
  unfold putE newE
  simp [hasE, posE, lowE]
theorem putE_cons (i u : Int) (s : ByteArray) (x : En) (l : List En) : putE i u s (x :: l) = if x.i < i then x :: putE i u s l else newE i u s ++ (if x.i = i then l else x :: l) := by
  unfold putE
  rw [hasE_cons, posE_cons]
  by_cases h : x.i < i
  · simp only [if_pos h]
    by_cases hh : hasE i l = true
    · simp [hh]
    · simp [hh]
  · simp only [if_neg h]
    by_cases h2 : x.i = i
    · simp [h2, newE]
    · simp [h2, newE]
theorem at_low {i : Int} : ∀ {l : List En}, (∀ x ∈ l, i < x.i) → atE i l = noE i
  | [], _ => rfl
  | x :: l, h => by
    have := h x (by simp)
    rw [atE_cons, if_neg (by omega), if_neg (by omega)]
theorem srt_cons {x : En} {l : List En} (h : Srt (x :: l)) : (∀ y ∈ l, x.i < y.i) ∧ Srt l := List.pairwise_cons.1 h
/-- read over write -/
theorem at_put {i u : Int} {s : ByteArray} (j : Int) : ∀ {l : List En}, Srt l → atE j (putE i u s l) = if j = i then (if u == 0 && s.size == 0 then noE i else ⟨i, u, s⟩) else atE j l
  | [], _ => by
    rw [putE_nil, newE]
    by_cases h0 : (u == 0 && s.size == 0) = true
    · rw [if_pos h0, if_pos h0, atE_nil]
      split
      · rename_i h; rw [h]
      · rfl
    · rw [if_neg h0, if_neg h0, atE_cons, atE_nil]
      by_cases h : j = i
      · subst h; simp
      · rw [if_neg h]
        split
        · rfl
        · rw [if_neg (by simp; omega)]
  | x :: l, hs => by
    obtain ⟨h1, h2⟩ := srt_cons hs
    rw [putE_cons]
    by_cases hx : x.i < i
    · rw [if_pos hx, atE_cons, at_put j h2, atE_cons]
      by_cases hj : x.i < j
      · rw [if_pos hj, if_pos hj]
      · rw [if_neg hj, if_neg hj, if_neg (show ¬ j = i by omega)]
    · rw [if_neg hx]
      by_cases h0 : (u == 0 && s.size == 0) = true
      · unfold newE
        rw [if_pos h0, if_pos h0, List.nil_append]
        by_cases he : x.i = i
        · rw [if_pos he]
          by_cases hj : j = i
          · rw [if_pos hj, hj]
            exact at_low (fun y hy => by have := h1 y hy; omega)
          · rw [if_neg hj, atE_cons]
            by_cases hj2 : x.i < j
            · rw [if_pos hj2]
            · rw [if_neg hj2, if_neg (by omega)]
              exact at_low (fun y hy => by have := h1 y hy; omega)
        · rw [if_neg he]
          by_cases hj : j = i
          · rw [if_pos hj, hj]
            refine at_low (fun y hy => ?_)
            rcases List.mem_cons.1 hy with rfl | hy
            · omega
            · have := h1 y hy; omega
          · rw [if_neg hj]
      · unfold newE
        rw [if_neg h0, if_neg h0, List.singleton_append, atE_cons]
        simp only
        by_cases hj : j = i
        · rw [if_pos hj, if_neg (by omega), if_pos hj.symm]
        · rw [if_neg hj]
          by_cases hj2 : i < j
          · rw [if_pos hj2]
            by_cases he : x.i = i
            · rw [if_pos he, atE_cons, if_pos (by omega)]
            · rw [if_neg he]
          · rw [if_neg hj2, if_neg (by omega)]
            refine (at_low (fun y hy => ?_)).symm
            rcases List.mem_cons.1 hy with rfl | hy
            · omega
            · have := h1 y hy; omega
theorem put_mem {i u : Int} {s : ByteArray} {x : En} : ∀ {l : List En}, x ∈ putE i u s l → x ∈ l ∨ (x = ⟨i, u, s⟩ ∧ (u == 0 && s.size == 0) = false)
  | [], h => by
    rw [putE_nil, newE] at h
    split at h
    · cases h
    · rename_i h0
      exact .inr ⟨by simpa using h, by simpa using h0⟩
  | y :: l, h => by
    rw [putE_cons] at h
    split at h
    · rcases List.mem_cons.1 h with rfl | h
      · exact .inl (by simp)
      · rcases put_mem h with h | h
        · exact .inl (List.mem_cons_of_mem _ h)
        · exact .inr h
    · rcases List.mem_append.1 h with h | h
      · rw [newE] at h
        split at h
        · cases h
        · rename_i h0
          exact .inr ⟨by simpa using h, by simpa using h0⟩
      · split at h
        · exact .inl (List.mem_cons_of_mem _ h)
        · exact .inl h
theorem put_srt {i u : Int} {s : ByteArray} : ∀ {l : List En}, Srt l → Srt (putE i u s l)
  | [], _ => by
    rw [putE_nil, newE]
    unfold Srt
    split <;> simp
  | x :: l, hs => by
    obtain ⟨h1, h2⟩ := srt_cons hs
    rw [putE_cons]
    by_cases hx : x.i < i
    · rw [if_pos hx]
      refine List.pairwise_cons.2 ⟨fun y hy => ?_, put_srt h2⟩
      rcases put_mem hy with hy | ⟨rfl, _⟩
      · exact h1 y hy
      · exact hx
    · rw [if_neg hx]
      have hr : Srt (if x.i = i then l else x :: l) ∧ ∀ y ∈ (if x.i = i then l else x :: l), i < y.i := by
        split
        · exact ⟨h2, fun y hy => by have := h1 y hy; omega⟩
        · refine ⟨hs, fun y hy => ?_⟩
          rcases List.mem_cons.1 hy with rfl | hy
          · omega
          · have := h1 y hy; omega
      unfold newE
      split
      · exact hr.1
      · exact List.pairwise_cons.2 ⟨hr.2, hr.1⟩
theorem put_len (i u : Int) (s : ByteArray) (l : List En) : (putE i u s l).length ≤ l.length + 1 := by
  induction l with
  | nil => rw [putE_nil, newE]; split <;> simp
  | cons x l ih =>
    rw [putE_cons]
    split
    · simp only [List.length_cons]; omega
    · unfold newE
      split <;> split <;> simp <;> omega
/-- an entry's element is there -/
def fullE (l : List En) : Prop := ∀ x ∈ l, (x.u == 0 && x.s.size == 0) = false
theorem full_ne {x : En} (h : (x.u == 0 && x.s.size == 0) = false) : x.u ≠ 0 ∨ x.s ≠ .empty := by
  by_cases hu : x.u = 0
  · right
    intro hs
    rw [hu, hs] at h
    cases h
  · exact .inl hu
/-- two rows with the same elements are equal -/
theorem ents_ext : ∀ {l m : List En}, Srt l → Srt m → fullE l → fullE m → (∀ i, (atE i l).u = (atE i m).u ∧ (atE i l).s = (atE i m).s) → l = m
  | [], [], _, _, _, _, _ => rfl
  | [], y :: m, _, _, _, hf, h => by
    have h1 := h y.i
    rw [atE_nil, atE_cons, if_neg (by omega), if_pos rfl] at h1
    rcases full_ne (hf y (by simp)) with h2 | h2
    · exact absurd h1.1.symm h2
    · exact absurd h1.2.symm h2
  | x :: l, [], _, _, hf, _, h => by
    have h1 := h x.i
    rw [atE_nil, atE_cons, if_neg (by omega), if_pos rfl] at h1
    rcases full_ne (hf x (by simp)) with h2 | h2
    · exact absurd h1.1 h2
    · exact absurd h1.2 h2
  | x :: l, y :: m, hl, hm, fl, fm, h => by
    obtain ⟨l1, l2⟩ := srt_cons hl
    obtain ⟨m1, m2⟩ := srt_cons hm
    have hxy : x.i = y.i := by
      rcases Int.lt_trichotomy x.i y.i with h0 | h0 | h0
      · exfalso
        have h1 := h x.i
        rw [atE_cons, if_neg (by omega), if_pos rfl, atE_cons, if_neg (by omega), if_neg (by omega)] at h1
        rcases full_ne (fl x (by simp)) with h2 | h2
        · exact h2 h1.1
        · exact h2 h1.2
      · exact h0
      · exfalso
        have h1 := h y.i
        rw [atE_cons, if_neg (by omega), if_neg (by omega), atE_cons, if_neg (by omega), if_pos rfl] at h1
        rcases full_ne (fm y (by simp)) with h2 | h2
        · exact h2 h1.1.symm
        · exact h2 h1.2.symm
    have hx := h x.i
    rw [atE_cons, if_neg (by omega), if_pos rfl, atE_cons, if_neg (by omega), if_pos hxy.symm] at hx
    have e1 : x = y := by
      cases x; cases y
      simp only at hxy hx
      rw [hxy, hx.1, hx.2]
    subst e1
    congr 1
    refine ents_ext l2 m2 (fun z hz => fl z (List.mem_cons_of_mem _ hz)) (fun z hz => fm z (List.mem_cons_of_mem _ hz)) (fun i => ?_)
    by_cases hi : x.i < i
    · have := h i
      rwa [atE_cons, if_pos hi, atE_cons, if_pos hi] at this
    · rw [at_low (fun y hy => by have := l1 y hy; omega), at_low (fun y hy => by have := m1 y hy; omega)]
      exact ⟨rfl, rfl⟩
theorem srt_idx {l : List En} (hs : Srt l) (h0 : ∀ x ∈ l, 0 ≤ x.i) : ∀ j (hj : j < l.length), (j : Int) ≤ l[j].i := by
  intro j
  induction j with
  | zero => intro hj; exact h0 _ (List.getElem_mem hj)
  | succ j ih =>
    intro hj
    have h1 := ih (by omega)
    have h2 := List.pairwise_iff_getElem.1 hs j (j + 1) (by omega) hj (by omega)
    omega
theorem srt_len {l : List En} (hs : Srt l) {B : Int} (h0 : ∀ x ∈ l, 0 ≤ x.i ∧ x.i ≤ B) (hB : 0 ≤ B) : (l.length : Int) ≤ B + 1 := by
  by_cases hl : l.length = 0
  · omega
  · have h1 := srt_idx hs (fun x hx => (h0 x hx).1) (l.length - 1) (by omega)
    have h2 := (h0 _ (List.getElem_mem (show l.length - 1 < l.length by omega))).2
    omega
theorem gr_16 {ix : Int} (h : 1 ≤ ix ∧ ix ≤ 16) : 0 ≤ grI ix ∧ grI ix ≤ 65535 := by
  obtain ⟨n, rfl⟩ := Int.eq_ofNat_of_zero_le (show 0 ≤ ix by omega)
  unfold grI
  simp only [Int.toNat_natCast]
  have h1 : (1 : Int) ≤ 2 ^ n := by exact_mod_cast Nat.one_le_two_pow
  have h2 : (2 : Int) ^ n ≤ 2 ^ 16 := by exact_mod_cast Nat.pow_le_pow_right (by decide) (by omega)
  have h3 : (2 : Int) ^ 16 = 65536 := rfl
  omega
theorem arr_ix {k n ix : Int} (hk : k = 2 ∨ k = 3) (h : sortOk k n ix = true) : 1 ≤ ix ∧ ix ≤ 16 := by
  rcases hk with rfl | rfl
  · simp [sortOk] at h; omega
  · simp [sortOk] at h; omega
theorem val_parts {x : Va} (h : valE x = 0) : sortOk x.k x.n x.ix = true ∧ valOk x = true := by
  unfold valE at h
  by_cases hs : sortOk x.k x.n x.ix = true
  · rw [if_pos hs] at h
    by_cases hv : valOk x = true
    · exact ⟨hs, hv⟩
    · rw [if_neg hv] at h; cases h
  · rw [if_neg hs] at h; cases h
theorem val_of {x : Va} (h1 : sortOk x.k x.n x.ix = true) (h2 : valOk x = true) : valE x = 0 := by
  unfold valE
  rw [if_pos h1, if_pos h2]
/-- what may be stored is an element -/
theorem may_el {k n k2 n2 ix2 u : Int} {s : ByteArray} {m2 : List En} (i : Int) (hy : valE ⟨k2, n2, ix2, u, s, m2⟩ = 0) (hm : mayE k2 n2 k n = true) : elOk k n ⟨i, u, s⟩ = true := by
  obtain ⟨_, hv⟩ := val_parts hy
  unfold mayE at hm
  unfold elOk
  by_cases h2 : k = 2
  · rw [if_pos h2] at hm
    rw [if_neg (by omega)]
    simp only [Bool.and_eq_true, beq_iff_eq] at hm
    obtain ⟨rfl, rfl⟩ := hm
    unfold valOk at hv
    simp only [if_true] at hv
    unfold bvOk at hv ⊢
    simp only [Bool.and_eq_true] at hv ⊢
    exact ⟨hv.1, rfl⟩
  · rw [if_neg h2] at hm
    by_cases h3 : k = 3
    · rw [if_pos h3] at hm
      rw [if_pos h3]
      simp only [Bool.and_eq_true, beq_iff_eq, decide_eq_true_eq] at hm
      obtain ⟨rfl, hn⟩ := hm
      unfold valOk at hv
      simp only [show ¬ (1 : Int) = 0 by decide, if_false, if_true] at hv
      unfold stOk at hv ⊢
      simp only [Bool.and_eq_true, decide_eq_true_eq] at hv ⊢
      exact ⟨⟨hv.1.1, by omega⟩, rfl⟩
    · rw [if_neg h3] at hm; cases hm
theorem put_ents {k n ix i u : Int} {s : ByteArray} {m : List En} (hen : entsOk k n ix m = true) (hg : ¬ grI ix < i) (hel : elOk k n ⟨i, u, s⟩ = true) : entsOk k n ix (putE i u s m) = true := by
  refine ents_mk (put_srt (ents_srt hen)) (fun x hx => ?_)
  rcases put_mem hx with h | ⟨rfl, h⟩
  · exact ents_one hen x h
  · unfold en1
    rw [h, hel]
    simp [hg]
/-- how many entries an array can have -/
theorem ents_len {k n ix : Int} {m : List En} (hk : k = 2 ∨ k = 3) (hs : sortOk k n ix = true) (hen : entsOk k n ix m = true) (hok : ∀ e ∈ m, e.ok) : m.length ≤ 65536 := by
  obtain ⟨h1, h2⟩ := gr_16 (arr_ix hk hs)
  have := srt_len (ents_srt hen) (B := grI ix) (fun x hx => by
    have h3 := ents_one hen x hx
    unfold en1 at h3
    simp only [Bool.and_eq_true, Bool.not_eq_true', decide_eq_false_iff_not] at h3
    have h4 := (hok x hx).1.1
    exact ⟨h4, by omega⟩) h1
  omega
theorem put_ok {k n ix i u : Int} {s : ByteArray} {m : List En} (hk : k = 2 ∨ k = 3) (hs : sortOk k n ix = true) (hen : entsOk k n ix m = true) (hg : ¬ grI ix < i) (hel : elOk k n ⟨i, u, s⟩ = true) (hI : (I64 k ∧ I64 n ∧ I64 ix)) (hok : ∀ e ∈ m, e.ok) (hi : U64 i) (hu : U64 u) (hsz : s.size ≤ 1000000) :
    (⟨k, n, ix, 0, .empty, putE i u s m⟩ : Va).ok := by
  have h1 : ∀ e ∈ putE i u s m, e.ok := fun e he => by
    rcases put_mem he with h | ⟨rfl, _⟩
    · exact hok e h
    · exact ⟨hi, hu, hsz⟩
  refine ⟨hI, (show U64 0 from ⟨by decide, by decide⟩), by show (0 : Nat) ≤ _; omega, h1, ?_⟩
  have := ents_len hk hs (put_ents hen hg hel) h1
  show (putE i u s m).length ≤ 100000
  omega
end Go.Proofs.Ytngfgohchnkidaa
