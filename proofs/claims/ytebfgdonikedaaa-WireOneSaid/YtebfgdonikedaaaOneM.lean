/-
  THE WALK of the law on one encoding (P2.7).
-/
import Derived.Test.YtebfgdonikedaaaValsS
import Derived.Test.YtebfgdonikedaaaReadsW
import Derived.Test.YtebfgdonikedaaaPrefixW
namespace Go.Proofs.Ytebfgdonikedaaa
open Go.RowKit

theorem readsR_whole : ∀ (ks : List Int) (s : Rst), (∀ k ∈ ks, 0 ≤ k ∧ k ≤ 5) → Bytes8 s.l → s.l.length ≤ 1000 → ∀ x ∈ (readsR ks s).1, x.ok
  | [], s, _, _, _ => fun x hx => by simp [readsR] at hx
  | k :: ks, s, hk, h8, hl => fun x hx => by
    simp only [readsR, List.mem_cons] at hx
    rcases hx with rfl | hx
    · exact (readR_whole (hk k (by simp)) h8 hl).1
    · obtain ⟨h1, h2⟩ := readR_bd (k := k) h8
      exact readsR_whole ks (readR k s).2 (fun j hj => hk j (by simp [hj])) h2 (by omega) x hx
theorem endR_zero {s : Rst} (h : endR s = 0) : s = ⟨[], 0⟩ := by
  obtain ⟨l, e⟩ := s
  unfold endR at h
  by_cases hc : e = 0 ∧ 0 < l.length
  · rw [if_pos hc] at h
    exact absurd h (by decide)
  · rw [if_neg hc] at h
    simp only at h hc
    subst h
    have : l = [] := List.eq_nil_of_length_eq_zero (by omega)
    rw [this]
theorem reads_same {ks : List Int} {T : List Int} (hk : ∀ k ∈ ks, 0 ≤ k ∧ k ≤ 5) (h8 : Bytes8 T) (h : endR (readsR ks ⟨T, 0⟩).2 = 0) : T = encs (readsR ks ⟨T, 0⟩).1 := by
  have := readsR_back (ks := ks) (l := T) (r := []) (xs := (readsR ks ⟨T, 0⟩).1) hk h8 (by rw [← endR_zero h])
  rwa [List.append_nil] at this
theorem row_not {W : World} {B n : Nat} {v : Value} {xs : List Value} (h : W.ownsRow B 28 5 v n xs) {e : TypeId} (hne : 28 ≠ e) : ∀ j, v.ownBlock = some j → ∀ C fr, W.heap[j]? ≠ some (.cells C e fr) := fun j hj C fr hk => by
  rcases h.2 with ⟨rfl, _⟩ | ⟨g, cap, cur, rfl, _, hg, _⟩
  · simp [Value.ownBlock] at hj
  · obtain rfl : g = j := by simpa [Value.ownBlock] using hj
    rw [hg] at hk
    injection hk with hk
    injection hk with _ h2 _
    exact hne h2
theorem rdt_one {w : World} (t : Vt) (h5 : RdT w 5 .u8 t.vb t.x.b) (h6 : RdT w 3 .i64 t.vl t.x.l) : ∀ u ∈ t.cells, u.oneCell' = true := by
  obtain ⟨A, c, h5, _⟩ := h5
  obtain ⟨A', c', h6, _⟩ := h6
  intro u hu
  unfold Vt.cells at hu
  rw [h5, h6] at hu
  simp only [List.mem_cons, List.not_mem_nil, or_false] at hu
  rcases hu with rfl | rfl | rfl | rfl | rfl <;> rfl
/-- one value more among those that were read -/
theorem got_step {B : Nat} {x1 x2 : World} {v v' : Value} {ts : List Vt} {t : Vt} {o : Obj} (hrow : x1.ownsRow B 28 5 v ts.length (ts.flatMap Vt.cells)) (hg : ∀ t ∈ ts, t.rds x1) (ht : t.rds x1) (hgrow : (x1.alloc o).grownBy x2 v.ownBlock) (hown : x2.ownsRow B 28 5 v' (ts.length + 1) (ts.flatMap Vt.cells ++ t.cells)) :
    ∃ us, us = ts ++ [t] ∧ x2.ownsRow B 28 5 v' us.length (us.flatMap Vt.cells) ∧ ∀ t ∈ us, t.rds x2 := by
  have hrow1 := hrow.alloc o
  have keep : ∀ t' : Vt, t'.rds x1 → t'.rds x2 := fun t' h => ⟨rdt_kept (rdt_kept h.1 (World.grownBy_alloc x1 o none) (fun j ej => nomatch ej)) hgrow (row_not hrow1 (by decide)), rdt_kept (rdt_kept h.2 (World.grownBy_alloc x1 o none) (fun j ej => nomatch ej)) hgrow (row_not hrow1 (by decide))⟩
  refine ⟨_, rfl, by rw [List.length_append, List.flatMap_append]; simpa using hown, fun t' h' => ?_⟩
  rcases List.mem_append.1 h' with h | h
  · exact keep t' (hg t' h)
  · obtain rfl := List.mem_singleton.1 h; exact keep _ ht
/-- what has been read, and how far -/
def GotAt (w : World) (B g : Nat) (v : Value) (ks : List Int) (T : List Int) (ts : List Vt) : Prop :=
  ts.length = ks.length ∧ w.ownsRow B 28 5 v ts.length (ts.flatMap Vt.cells) ∧ (∀ t ∈ ts, t.rds w) ∧ ts.map Vt.x = (readsR ks ⟨T, 0⟩).1 ∧ RdrAt w 77 g (nrm (readsR ks ⟨T, 0⟩).2) ∧ (∀ k ∈ ks, 0 ≤ k ∧ k ≤ 5)
def Got (w : World) (B g : Nat) (v : Value) (ks : List Int) (T : List Int) : Prop := ∃ ts : List Vt, GotAt w B g v ks T ts
theorem got_nil {w : World} {B g : Nat} {T : List Int} (h : RdrAt w 77 g ⟨T, 0⟩) : Got w B g (.slice none 0 0) [] T := ⟨[], rfl, World.ownsRow_nil _ _ _ _, fun t ht => by simp at ht, rfl, by rw [show (readsR [] ⟨T, 0⟩).2 = ⟨T, 0⟩ from rfl, nrm_ok rfl]; exact h, fun k hk => by simp at hk⟩
/-- what was read, as a slice of values -/
theorem got_all {w : World} {B g : Nat} {v : Value} {ks T : List Int} (h : Got w B g v ks T) (h8 : Bytes8 T) (hl : T.length ≤ 1000) (hk : ks.length ≤ 10) :
    ∃ A c xs, v = .slice A xs.length c ∧ xs.length ≤ 15 ∧ RdV w w.heap.size A xs ∧ (∀ x ∈ xs, x.ok) ∧ (endR (readsR ks ⟨T, 0⟩).2 = 0 → encs xs = T) := by
  obtain ⟨ts, htl, hrow, hg, hx, _, hks⟩ := h
  obtain ⟨A, c, rfl⟩ := own_slice hrow
  have e : (ts.map Vt.x).length = ts.length := List.length_map _
  refine ⟨A, c, ts.map Vt.x, by rw [e], by omega, vals_rd2 hrow (fun t ht => ⟨rdt_rds (hg t ht).1, rdt_rds (hg t ht).2⟩), ?_, fun h0 => ?_⟩
  · rw [hx]; exact readsR_whole ks ⟨T, 0⟩ hks h8 hl
  · rw [hx]; exact (reads_same hks h8 h0).symm
/-- one read and one append more -/
theorem got_more {w x1 x2 : World} {B g : Nat} {v v' : Value} {ks T : List Int} {ts : List Vt} {q : Int} {vb vl : Value} {o : Obj} {x : Vl} {s2 : Rst} (h : GotAt w B g v ks T ts) (hgB : g < B) (hq : 0 ≤ q ∧ q ≤ 5) (hrr : readR q (readsR ks ⟨T, 0⟩).2 = (x, s2))
    (h5 : RdT x1 5 .u8 vb x.b) (h6 : RdT x1 3 .i64 vl x.l) (hr : RdrAt x1 77 g (nrm s2)) (hg1 : w.grownBy x1 (some g))
    (hgrow : (x1.alloc o).grownBy x2 v.ownBlock) (hown : x2.ownsRow B 28 5 v' (ts.length + 1) (ts.flatMap Vt.cells ++ (Vt.mk x vb vl).cells)) : Got x2 B g v' (ks ++ [q]) T := by
  obtain ⟨htl, hrow, hg, hx, hra, hks⟩ := h
  have hrow1 := hrow.kept hg1 (.inr (fun e => by have := (hrow.lt g e).1; omega))
  have hgd : ∀ t ∈ ts, t.rds x1 := fun t ht => ⟨rdt_kept (hg t ht).1 hg1 (rdr_not hra (by decide)), rdt_kept (hg t ht).2 hg1 (rdr_not hra (by decide))⟩
  obtain ⟨us, hus, hown2, hgood2⟩ := got_step hrow1 hgd (t := ⟨x, vb, vl⟩) ⟨h5, h6⟩ hgrow hown
  have hr2 := rdr_grown (rdr_grown hr (World.grownBy_alloc x1 o none) (fun j ej => nomatch ej)) hgrow (fun j ej => by have := (hrow1.lt j ej).1; omega)
  refine ⟨us, ?_, hown2, hgood2, ?_, ?_, fun k hk => ?_⟩
  · rw [hus, List.length_append, List.length_append, htl]; rfl
  · rw [hus, List.map_append, hx, readsR_snoc, hrr]; rfl
  · rw [readsR_snoc, hrr]; exact hr2
  · rcases List.mem_append.1 hk with h1 | h1
    · exact hks k h1
    · obtain rfl := List.mem_singleton.1 h1; exact hq
theorem got_row {w x1 : World} {B g : Nat} {v : Value} {ks T : List Int} {ts : List Vt} (h : GotAt w B g v ks T ts) (hgB : g < B) (hg1 : w.grownBy x1 (some g)) : x1.ownsRow B 28 5 v ts.length (ts.flatMap Vt.cells) :=
  h.2.1.kept hg1 (.inr (fun e => by have := (h.2.1.lt g e).1; omega))
theorem got_rdr {w : World} {B g : Nat} {v : Value} {ks T : List Int} (h : Got w B g v ks T) : RdrAt w 77 g (nrm (readsR ks ⟨T, 0⟩).2) := by
  obtain ⟨ts, _, _, _, _, hra, _⟩ := h
  exact hra
theorem all_ofS {w : World} {B : Nat} {v : Value} {us : List Vt} (h : w.ownsRow B 28 5 v us.length (us.flatMap Vt.cells)) (hl : us.length ≤ 8) (hg : ∀ t ∈ us, t.x.ok ∧ t.x.canon ∧ t.owns w B) (hs : ∀ t ∈ us, Vl.small t.x) :
    ∃ A c xs, v = .slice A xs.length c ∧ xs.length ≤ 8 ∧ RdV w w.heap.size A xs ∧ ∀ x ∈ xs, x.ok ∧ x.small := by
  obtain ⟨A, c, rfl⟩ := own_slice h
  have e : (us.map Vt.x).length = us.length := List.length_map _
  refine ⟨A, c, us.map Vt.x, by rw [e], by omega, vals_rd h (fun t ht => ⟨B, (hg t ht).2.2⟩), fun x hx => ?_⟩
  obtain ⟨t, ht, rfl⟩ := List.mem_map.1 hx
  exact ⟨(hg t ht).1, hs t ht⟩
end Go.Proofs.Ytebfgdonikedaaa
