/-
  A ROW OF VALUES IN MEMORY: each with its own entries.
-/
import Derived.Test.YtngfgohchnkidaaVaOwn
namespace Go.Proofs.Ytngfgohchnkidaa
open Go.RowKit

/-- a value as it stands in a row: with its entries' address and room -/
structure Vr where
  x : Va
  A : Option Addr
  c : Nat
def Vr.cells (p : Vr) : List Value := [.int .i64 p.x.k, .int .i64 p.x.n, .int .i64 p.x.ix, .int .u64 p.x.u, .string p.x.s, .slice p.A p.x.m.length p.c]
def Vr.val (p : Vr) : Value := vav p.x.k p.x.n p.x.ix p.x.u p.x.s p.A p.x.m.length p.c
theorem vrs_get (l : List Vr) : ∀ (j : Nat) (hj : j < l.length) (i : Nat), i < 6 → (l.flatMap Vr.cells)[j * 6 + i]? = l[j].cells[i]? := by
  induction l with
  | nil => intro j hj; simp at hj
  | cons t l ih =>
    intro j hj i hi
    rw [List.flatMap_cons]
    have hl : t.cells.length = 6 := rfl
    cases j with
    | zero => rw [List.getElem?_append_left (by rw [hl]; omega)]; simp
    | succ j =>
      rw [List.getElem?_append_right (by rw [hl]; omega), hl, show (j + 1) * 6 + i - 6 = j * 6 + i by omega]
      exact ih j (by simpa using hj) i hi
theorem vrs_len (l : List Vr) : (l.flatMap Vr.cells).length = l.length * 6 := by
  induction l with
  | nil => rfl
  | cons t l ih => rw [List.flatMap_cons, List.length_append, ih, List.length_cons]; show 6 + _ = _; omega
theorem vrs_one (l : List Vr) : ∀ u ∈ l.flatMap Vr.cells, u.oneCell' = true := fun u hu => by
  obtain ⟨t, _, h⟩ := List.mem_flatMap.1 hu
  simp only [Vr.cells, List.mem_cons, List.not_mem_nil, or_false] at h
  rcases h with rfl | rfl | rfl | rfl | rfl | rfl <;> rfl
/-- a block holds a row of values from its start on (it may hold more), and each reads as it says -/
def VaL (w : World) (l : List Vr) (B : Nat) : Prop := (B < w.heap.size ∧ ∀ j v, (l.flatMap Vr.cells)[j]? = some v → w.cell? ⟨B, j, none⟩ = some v) ∧ ∀ p ∈ l, VaV w (LoV w.heap.size) p.x p.val
theorem VaL.call {w w' : World} {l : List Vr} {B : Nat} (h : VaL w l B) (hb : Below w.heap.size w w') : VaL w' l B :=
  ⟨⟨Nat.lt_of_lt_of_le h.1.1 hb.size, fun j v hj => (World.cell?_of_block (hb.block B h.1.1)).trans (h.1.2 j v hj)⟩, fun p hp => (h.2 p hp).call hb⟩
def VrAt (W : World) (B j : Nat) (x : Va) (A : Option Addr) (len c : Nat) : Prop := W.cell? ⟨B, j * 6, none⟩ = some (.int .i64 x.k) ∧ W.cell? ⟨B, j * 6 + 1, none⟩ = some (.int .i64 x.n) ∧ W.cell? ⟨B, j * 6 + 2, none⟩ = some (.int .i64 x.ix) ∧ W.cell? ⟨B, j * 6 + 3, none⟩ = some (.int .u64 x.u) ∧ W.cell? ⟨B, j * 6 + 4, none⟩ = some (.string x.s) ∧ W.cell? ⟨B, j * 6 + 5, none⟩ = some (.slice A len c)
/-- the value at a place of a row, in every later world -/
theorem val_cells {W0 : World} {l : List Vr} {B : Nat} (L : VaL W0 l B) {t : Nat} (ht : t < l.length) : ∃ (x : Va) (A : Option Addr) (len c : Nat), l[t].x = x ∧ ∀ W, Below W0.heap.size W0 W →
    VrAt W B t x A len c ∧ VaV W (LoV W.heap.size) x (.agg #[.int .i64 x.k, .int .i64 x.n, .int .i64 x.ix, .int .u64 x.u, .string x.s, .slice A len c]) := by
  refine ⟨l[t].x, l[t].A, l[t].x.m.length, l[t].c, rfl, fun W hW => ?_⟩
  have h := L.call hW
  have hx := h.2 _ (List.getElem_mem ht)
  have h1 : ∀ i v, i < 6 → l[t].cells[i]? = some v → W.cell? ⟨B, t * 6 + i, none⟩ = some v := fun i v hi hv => h.1.2 _ _ (by rw [vrs_get l t ht i hi]; exact hv)
  exact ⟨⟨h1 0 _ (by omega) rfl, h1 1 _ (by omega) rfl, h1 2 _ (by omega) rfl, h1 3 _ (by omega) rfl, h1 4 _ (by omega) rfl, h1 5 _ (by omega) rfl⟩, hx⟩
/-- a row made of values -/
theorem row_made {w : World} {l : List Vr} {ty : TypeId} (h : ∀ p ∈ l, VaV w (LoV w.heap.size) p.x p.val) : VaL (w.alloc (.cells (l.flatMap Vr.cells).toArray ty)) l w.heap.size :=
  ⟨⟨by simp, fun j v hj => by rw [cell_of_row _ _ j _ ty (0, 0) (heap_alloc_new w _)]; simpa using hj⟩, fun p hp => (h p hp).to (fun b hb => ⟨Nat.lt_trans hb (by simp), Below.heap_alloc w _ b hb⟩)⟩
/-- a row in a block of its own -/
theorem row_own {w : World} {l : List Vr} {B : Nat} {ty : TypeId} {fr : Nat × Nat} (h : w.heap[B]? = some (.cells (l.flatMap Vr.cells).toArray ty fr)) (hv : ∀ p ∈ l, VaV w (LoV w.heap.size) p.x p.val) : VaL w l B :=
  ⟨⟨(Array.getElem?_eq_some_iff.1 h).1, fun j v hj => by rw [cell_of_row _ _ j _ ty fr h]; simpa using hj⟩, hv⟩
/-- out of a call's result, into a later world -/
theorem va_lo {W w2 W2 : World} {x : Va} {v : Value} (hv : VaV w2 (MidV W.heap.size w2.heap.size) x v) (hb : Below w2.heap.size w2 W2) : VaV W2 (LoV W2.heap.size) x v := hv.to (fun b hb' => ⟨Nat.lt_of_lt_of_le hb'.2 hb.size, hb.block b hb'.2⟩)
end Go.Proofs.Ytngfgohchnkidaa
