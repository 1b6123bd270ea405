/-
  A row of values of the call's own reads as values; values appended.
-/
import Derived.Test.YtebfgdonikedaaaVals
import Derived.Test.YtebfgdonikedaaaReadW
namespace Go.Proofs.Ytebfgdonikedaaa
open Go.RowKit

theorem flat_get : ∀ (ts : List Vt) (j i : Nat) (t : Vt), ts[j]? = some t → i < 5 → (ts.flatMap Vt.cells)[j * 5 + i]? = t.cells[i]?
  | [], j, i, t, h, _ => by simp at h
  | t0 :: ts, 0, i, t, h, hi => by
    simp only [List.getElem?_cons_zero, Option.some.injEq] at h
    subst h
    rw [List.flatMap_cons, Nat.zero_mul, Nat.zero_add, List.getElem?_append_left (by simpa [Vt.cells] using hi)]
  | t0 :: ts, j + 1, i, t, h, hi => by
    rw [List.getElem?_cons_succ] at h
    rw [List.flatMap_cons, List.getElem?_append_right (by simp [Vt.cells]; omega)]
    have e : (j + 1) * 5 + i - t0.cells.length = j * 5 + i := by simp [Vt.cells]; omega
    rw [e]
    exact flat_get ts j i t h hi
theorem vals_rd {w : World} {base n c : Nat} {A : Option Addr} {ts : List Vt} (h : w.ownsRow base 28 5 (.slice A n c) n (ts.flatMap Vt.cells)) (hg : ∀ t ∈ ts, ∃ B, t.owns w B) : RdV w w.heap.size A (ts.map Vt.x) := by
  by_cases h0 : ts = []
  · subst h0; exact .inl rfl
  · have hn : 0 < n := by
      have hl := h.1
      have : 0 < (ts.flatMap Vt.cells).length := by
        cases ts with
        | nil => exact absurd rfl h0
        | cons t ts => simp [Vt.cells]
      omega
    obtain ⟨g, cap, hv, hb, hlt⟩ := h.form hn
    injection hv with hA
    subst hA
    refine .inr ⟨g, 0, rfl, hlt, fun j x hx => ?_⟩
    rw [List.getElem?_map] at hx
    cases ht : ts[j]? with
    | none => rw [ht] at hx; cases hx
    | some t =>
      rw [ht] at hx
      simp only [Option.map_some, Option.some.injEq] at hx
      subst hx
      have hc := fun i (hi : i < 5) u (hu : t.cells[i]? = some u) => by
        have := h.cells (g := g) rfl (j * 5 + i) u (by rw [flat_get ts j i t ht hi]; exact hu)
        have hadd : (⟨g, 0, none⟩ : Addr).add (j * 5 + i) = ⟨g, j * 5 + i, none⟩ := by unfold Addr.add; split <;> simp_all
        rw [hadd] at this
        exact this
      obtain ⟨B, o1, o2⟩ := hg t (List.mem_of_getElem? ht)
      obtain ⟨A1, c1, e1⟩ := own_slice o1
      obtain ⟨A2, c2, e2⟩ := own_slice o2
      refine ⟨t.vb, t.vl, ?_, ?_, ?_, ?_, ?_, ?_, ?_⟩
      · rw [Nat.zero_add]; exact hc 0 (by decide) _ rfl
      · rw [Nat.zero_add]; exact hc 1 (by decide) _ rfl
      · rw [Nat.zero_add]; exact hc 2 (by decide) _ rfl
      · rw [Nat.zero_add]; exact hc 3 (by decide) _ rfl
      · rw [Nat.zero_add]; exact hc 4 (by decide) _ rfl
      · rw [e1] at o1 ⊢; exact rds_own o1
      · rw [e2] at o2 ⊢; exact rds_own o2
/-- values appended to a row of values -/
theorem vals_more {B : Nat} {w1 w2 : World} {v v' : Value} {ts tn : List Vt} {o : Obj} (hrow : w1.ownsRow B 28 5 v ts.length (ts.flatMap Vt.cells)) (hgood : ∀ t ∈ ts, t.x.ok ∧ t.x.canon ∧ t.owns w1 B) (hnew : ∀ t ∈ tn, t.x.ok ∧ t.x.canon ∧ t.owns w1 B)
    (hgrow : (w1.alloc o).grownBy w2 v.ownBlock) (hown : w2.ownsRow B 28 5 v' (ts.length + tn.length) (ts.flatMap Vt.cells ++ tn.flatMap Vt.cells)) :
    ∃ us, us = ts ++ tn ∧ w2.ownsRow B 28 5 v' us.length (us.flatMap Vt.cells) ∧ ∀ t ∈ us, t.x.ok ∧ t.x.canon ∧ t.owns w2 B := by
  have hrow1 := hrow.alloc o
  have keep : ∀ t' : Vt, t'.owns w1 B → t'.owns w2 B := fun t' h => ⟨(h.1.alloc o).kept hgrow (own_ne (h.1.alloc o) hrow1 (by decide)), (h.2.alloc o).kept hgrow (own_ne (h.2.alloc o) hrow1 (by decide))⟩
  refine ⟨_, rfl, by rw [List.length_append, List.flatMap_append]; exact hown, fun t ht => ?_⟩
  rcases List.mem_append.1 ht with h | h
  · obtain ⟨g1, g2, g3⟩ := hgood t h; exact ⟨g1, g2, keep t g3⟩
  · obtain ⟨g1, g2, g3⟩ := hnew t h; exact ⟨g1, g2, keep t g3⟩
theorem val_u_ok {u : Int} (hu : U64 u) : Vl.ok ⟨0, u, 0, [], []⟩ ∧ Vl.canon ⟨0, u, 0, [], []⟩ := ⟨ok_nums (by decide) (by decide) hu ⟨by decide, by decide⟩, by simp [Vl.canon]⟩
theorem val_n_ok {n : Int} (hn : I64 n) : Vl.ok ⟨1, 0, n, [], []⟩ ∧ Vl.canon ⟨1, 0, n, [], []⟩ := ⟨ok_nums (by decide) (by decide) zero_u64 hn, by simp [Vl.canon]⟩
theorem encs_cons (x : Vl) (xs : List Vl) : encs (x :: xs) = x.enc ++ encs xs := by simp [encs]
theorem encs_drop {xs : List Vl} {k : Nat} (hk : k < xs.length) : encs (xs.drop k) = (xs[k]).enc ++ encs (xs.drop (k + 1)) := by
  rw [List.drop_eq_getElem_cons hk, encs_cons]
theorem enc_bytes {x : Vl} (h : x.ok) : Bytes8 x.enc := by
  obtain ⟨k, u, n, b, l⟩ := x
  obtain ⟨_, _, _, o5, o6, _, _⟩ := h
  have hi : Bytes8 (ints l) := fun z hz => by
    unfold ints at hz
    rcases List.mem_append.1 hz with h | h
    · exact uv_bytes _ z h
    · obtain ⟨l', hl, hz⟩ := List.mem_flatten.1 h
      obtain ⟨y, _, rfl⟩ := List.mem_map.1 hl
      exact uv_bytes _ z hz
  have hr : Bytes8 (raw b) := fun z hz => by
    rcases List.mem_append.1 hz with h1 | h1
    · exact uv_bytes _ z h1
    · exact o5 z h1
  unfold Vl.enc
  split
  · exact uv_bytes _
  · split
    · exact uv_bytes _
    · split
      · intro z hz
        simp only [bool1, List.mem_singleton] at hz
        subst hz
        split <;> omega
      · split
        · exact hr
        · exact hi
theorem encs_bytes {xs : List Vl} (h : ∀ x ∈ xs, x.ok) : Bytes8 (encs xs) := fun z hz => by
  unfold encs at hz
  obtain ⟨l, hl, hz⟩ := List.mem_flatten.1 hz
  obtain ⟨x, hx, rfl⟩ := List.mem_map.1 hl
  exact enc_bytes (h x hx) z hz
/-- a row of values of the call's own, as a slice of values -/
theorem all_of {w : World} {B : Nat} {v : Value} {us : List Vt} (h : w.ownsRow B 28 5 v us.length (us.flatMap Vt.cells)) (hl : us.length ≤ 15) (hg : ∀ t ∈ us, t.x.ok ∧ t.x.canon ∧ t.owns w B) :
    ∃ A c xs, v = .slice A xs.length c ∧ xs.length ≤ 15 ∧ xs.length ≤ c ∧ (A = none → c = 0) ∧ RdV w w.heap.size A xs ∧ ∀ x ∈ xs, x.ok ∧ x.canon := by
  obtain ⟨A, c, rfl⟩ := own_slice h
  have e : (us.map Vt.x).length = us.length := List.length_map _
  refine ⟨A, c, us.map Vt.x, by rw [e], by omega, by rw [e]; exact own_cap h, own_none h, vals_rd h (fun t ht => ⟨B, (hg t ht).2.2⟩), fun x hx => ?_⟩
  obtain ⟨t, ht, rfl⟩ := List.mem_map.1 hx
  exact ⟨(hg t ht).1, (hg t ht).2.1⟩
theorem encs_len15 {xs : List Vl} (hl : xs.length ≤ 15) (h : ∀ x ∈ xs, x.ok ∧ x.canon) : (encs xs).length ≤ 300000 := by
  have := encs_len (fun x hx => (h x hx).1)
  omega
/-- reading on in an encoding -/
theorem read_next {xs : List Vl} {k : Nat} (hk : k < xs.length) (h : ∀ x ∈ xs, x.ok ∧ x.canon) (r : List Int) : readR (xs[k]).k ⟨encs (xs.drop k) ++ r, 0⟩ = (xs[k], ⟨encs (xs.drop (k + 1)) ++ r, 0⟩) := by
  rw [encs_drop hk, List.append_assoc]
  exact readR_enc (h _ (List.getElem_mem hk)).1 (h _ (List.getElem_mem hk)).2 _
theorem encs_drop_len {xs : List Vl} (k : Nat) : (encs (xs.drop k)).length ≤ (encs xs).length := by
  have e : encs xs = encs (xs.take k) ++ encs (xs.drop k) := by
    unfold encs
    rw [← List.flatten_append, ← List.map_append, List.take_append_drop]
  rw [e, List.length_append]
  omega
theorem keep5 {wr W : World} {b o N : Nat} {c0 c1 c2 c3 c4 : Value} (hQ : Hid (wr.cell? ⟨b, o, none⟩ = some c0 ∧ wr.cell? ⟨b, o + 1, none⟩ = some c1 ∧ wr.cell? ⟨b, o + 2, none⟩ = some c2 ∧ wr.cell? ⟨b, o + 3, none⟩ = some c3 ∧ wr.cell? ⟨b, o + 4, none⟩ = some c4)) (hb : b < N) (hB : Below N wr W) :
    W.cell? ⟨b, o, none⟩ = some c0 ∧ W.cell? ⟨b, o + 1, none⟩ = some c1 ∧ W.cell? ⟨b, o + 2, none⟩ = some c2 ∧ W.cell? ⟨b, o + 3, none⟩ = some c3 ∧ W.cell? ⟨b, o + 4, none⟩ = some c4 ∧ Below N wr W := by
  obtain ⟨h0, h1, h2, h3, h4⟩ := hQ.out
  exact ⟨(hB.cell (p := ⟨b, o, none⟩) hb).trans h0, (hB.cell (p := ⟨b, o + 1, none⟩) hb).trans h1, (hB.cell (p := ⟨b, o + 2, none⟩) hb).trans h2, (hB.cell (p := ⟨b, o + 3, none⟩) hb).trans h3, (hB.cell (p := ⟨b, o + 4, none⟩) hb).trans h4, hB⟩
end Go.Proofs.Ytebfgdonikedaaa
