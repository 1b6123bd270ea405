/-
  WORDS FOR VALUES IN MEMORY: a row of entries, a value whose entries lie in blocks of a set.
-/
import Derived.Test.YtngfgohchnkidaaBase
import Derived.Test.YtngfgohchnkidaaMathTwo
import Derived.Deep.MidRow
import Derived.Deep.AppendLies
import Derived.Deep.OwnRows
namespace Go.Proofs.Ytngfgohchnkidaa
open Go.RowKit

/-- an entry: its index, its number, its text -/
structure En where
  i : Int
  u : Int
  s : ByteArray
def En.cells (x : En) : List Value := [.int .u64 x.i, .int .u64 x.u, .string x.s]
def En.val (x : En) : Value := .agg #[.int .u64 x.i, .int .u64 x.u, .string x.s]
/-- the numbers fit their types -/
def En.ok (x : En) : Prop := U64 x.i ∧ U64 x.u ∧ x.s.size ≤ 1000000
/-- a value: its sort, its number, its text, its entries -/
structure Va where
  k : Int
  n : Int
  ix : Int
  u : Int
  s : ByteArray
  m : List En
def Va.ok (x : Va) : Prop := (I64 x.k ∧ I64 x.n ∧ I64 x.ix) ∧ U64 x.u ∧ x.s.size ≤ 1000000 ∧ (∀ e ∈ x.m, e.ok) ∧ x.m.length ≤ 100000
def vav (k n ix u : Int) (s : ByteArray) (A : Option Addr) (len c : Nat) : Value := .agg #[.int .i64 k, .int .i64 n, .int .i64 ix, .int .u64 u, .string s, .slice A len c]

/-- a slice reads as a list of entries, in a block of S -/
def EnL (w : World) (S : Nat → Prop) (l : List En) (A : Option Addr) : Prop := l = [] ∨ ∃ b o, A = some ⟨b, o, none⟩ ∧ S b ∧ w.rangeAt b o (l.flatMap En.cells)
/-- a struct value reads as a value -/
def VaV (w : World) (S : Nat → Prop) (x : Va) (v : Value) : Prop := x.ok ∧ ∃ A c, v = vav x.k x.n x.ix x.u x.s A x.m.length c ∧ x.m.length ≤ c ∧ (A = none → c = 0) ∧ EnL w S x.m A

/-- the blocks below n -/
def LoV (n : Nat) : Nat → Prop := fun b => b < n
theorem EnL.to {w w' : World} {S T : Nat → Prop} {l : List En} {A : Option Addr} (h : EnL w S l A) (hS : ∀ b, S b → T b ∧ w'.heap[b]? = w.heap[b]?) : EnL w' T l A := by
  rcases h with h | ⟨b, o, e, hb, hr⟩
  · exact .inl h
  · exact .inr ⟨b, o, e, (hS b hb).1, fun j v hv => (World.cell?_of_block (hS b hb).2).trans (hr j v hv)⟩
theorem VaV.to {w w' : World} {S T : Nat → Prop} {x : Va} {v : Value} (h : VaV w S x v) (hS : ∀ b, S b → T b ∧ w'.heap[b]? = w.heap[b]?) : VaV w' T x v := by
  obtain ⟨h1, A, c, e, h2, h3, h4⟩ := h
  exact ⟨h1, A, c, e, h2, h3, h4.to hS⟩
/-- across a call, up to its own size -/
theorem VaV.call {w w' : World} {x : Va} {v : Value} (h : VaV w (LoV w.heap.size) x v) (hb : Below w.heap.size w w') : VaV w' (LoV w'.heap.size) x v := h.to (fun b hlt => ⟨Nat.lt_of_lt_of_le hlt hb.size, hb.block b hlt⟩)
theorem EnL.call {w w' : World} {l : List En} {A : Option Addr} (h : EnL w (LoV w.heap.size) l A) (hb : Below w.heap.size w w') : EnL w' (LoV w'.heap.size) l A := h.to (fun b hlt => ⟨Nat.lt_of_lt_of_le hlt hb.size, hb.block b hlt⟩)
theorem VaV.keep {n : Nat} {w w' : World} {S : Nat → Prop} {x : Va} {v : Value} (h : VaV w S x v) (hS : ∀ b, S b → b < n) (hb : Below n w w') : VaV w' S x v := h.to (fun b hb' => ⟨hb', hb.block b (hS b hb')⟩)
theorem VaV.sub {w : World} {S T : Nat → Prop} {x : Va} {v : Value} (h : VaV w S x v) (hS : ∀ b, S b → T b) : VaV w T x v := h.to (fun b hb => ⟨hS b hb, rfl⟩)

theorem ens_get (l : List En) : ∀ (j : Nat) (hj : j < l.length) (i : Nat), i < 3 → (l.flatMap En.cells)[j * 3 + i]? = l[j].cells[i]? := by
  induction l with
  | nil => intro j hj; simp at hj
  | cons t l ih =>
    intro j hj i hi
    rw [List.flatMap_cons]
    have hl : t.cells.length = 3 := rfl
    cases j with
    | zero => rw [List.getElem?_append_left (by rw [hl]; omega)]; simp
    | succ j =>
      rw [List.getElem?_append_right (by rw [hl]; omega), hl, show (j + 1) * 3 + i - 3 = j * 3 + i by omega]
      exact ih j (by simpa using hj) i hi
theorem ens_len (l : List En) : (l.flatMap En.cells).length = l.length * 3 := by
  induction l with
  | nil => rfl
  | cons t l ih => rw [List.flatMap_cons, List.length_append, ih, List.length_cons]; show 3 + _ = _; omega
theorem ens_one (l : List En) : ∀ u ∈ l.flatMap En.cells, u.oneCell' = true := fun u hu => by
  obtain ⟨t, _, h⟩ := List.mem_flatMap.1 hu
  simp only [En.cells, List.mem_cons, List.not_mem_nil, or_false] at h
  rcases h with rfl | rfl | rfl <;> rfl
theorem en_one (t : En) : ∀ u ∈ t.cells, u.oneCell' = true := fun u hu => ens_one [t] u (by simpa using hu)

/-- the three cells of an entry -/
def At3 (w : World) (b o : Nat) (x : En) : Prop := w.cell? ⟨b, o, none⟩ = some (.int .u64 x.i) ∧ w.cell? ⟨b, o + 1, none⟩ = some (.int .u64 x.u) ∧ w.cell? ⟨b, o + 2, none⟩ = some (.string x.s)
theorem At3.to {w w' : World} {b o : Nat} {x : En} (h : At3 w b o x) (hb : w'.heap[b]? = w.heap[b]?) : At3 w' b o x :=
  ⟨(World.cell?_of_block hb).trans h.1, (World.cell?_of_block hb).trans h.2.1, (World.cell?_of_block hb).trans h.2.2⟩
theorem EnL.get {w : World} {S : Nat → Prop} {l : List En} {A : Option Addr} (h : EnL w S l A) {j : Nat} (hj : j < l.length) : ∃ b o, A = some ⟨b, o, none⟩ ∧ S b ∧ At3 w b (o + j * 3) l[j] := by
  rcases h with h | ⟨b, o, e, hb, hr⟩
  · subst h; simp at hj
  · refine ⟨b, o, e, hb, ?_⟩
    have h1 : ∀ i v, i < 3 → l[j].cells[i]? = some v → w.cell? ⟨b, o + j * 3 + i, none⟩ = some v := fun i v hi hv => by
      have := hr (j * 3 + i) v (by rw [ens_get l j hj i hi]; exact hv)
      rwa [← Nat.add_assoc] at this
    exact ⟨h1 0 _ (by omega) rfl, h1 1 _ (by omega) rfl, h1 2 _ (by omega) rfl⟩
/-- a slice that begins later, or ends earlier -/
theorem EnL.drop {w : World} {S : Nat → Prop} {l : List En} {b o : Nat} (h : EnL w S l (some ⟨b, o, none⟩)) (n : Nat) : EnL w S (l.drop n) (some ⟨b, o + n * 3, none⟩) := by
  rcases h with h | ⟨b', o', e, hb, hr⟩
  · subst h; exact .inl (by simp)
  · cases e
    by_cases hn : n ≤ l.length
    · refine .inr ⟨b, o + n * 3, rfl, hb, fun j v hv => ?_⟩
      have := hr (n * 3 + j) v (by
        have hs : l = l.take n ++ l.drop n := (List.take_append_drop n l).symm
        rw [hs, List.flatMap_append, List.getElem?_append_right (by rw [ens_len, List.length_take_of_le hn]; omega), ens_len, List.length_take_of_le hn]
        rw [show n * 3 + j - n * 3 = j by omega]
        exact hv)
      rwa [← Nat.add_assoc] at this
    · exact .inl (List.drop_eq_nil_of_le (by omega))
theorem EnL.take {w : World} {S : Nat → Prop} {l : List En} {A : Option Addr} (h : EnL w S l A) (n : Nat) : EnL w S (l.take n) A := by
  rcases h with h | ⟨b, o, e, hb, hr⟩
  · subst h; exact .inl (by simp)
  · refine .inr ⟨b, o, e, hb, fun j v hv => hr j v ?_⟩
    have hs : l = l.take n ++ l.drop n := (List.take_append_drop n l).symm
    rw [hs, List.flatMap_append, List.getElem?_append_left (List.getElem?_eq_some_iff.1 hv).1]
    exact hv
theorem EnL.addr {w : World} {S : Nat → Prop} {l : List En} {A : Option Addr} (h : EnL w S l A) (hl : 0 < l.length) : ∃ b o, A = some ⟨b, o, none⟩ ∧ S b := by
  obtain ⟨b, o, e, hb, _⟩ := h.get hl
  exact ⟨b, o, e, hb⟩
/-- a row of entries of the call's own -/
def RowE (w : World) (base : Nat) (e : TypeId) (v : Value) (l : List En) : Prop := w.ownsRow base e 3 v l.length (l.flatMap En.cells)
theorem RowE.nil (w : World) (base : Nat) (e : TypeId) : RowE w base e (.slice none 0 0) [] := World.ownsRow_nil _ _ _ _
theorem RowE.below {w w' : World} {base : Nat} {e : TypeId} {v : Value} {l : List En} (h : RowE w base e v l) (hb : Below w.heap.size w w') : RowE w' base e v l := own_below h hb
theorem RowE.val {w : World} {base : Nat} {e : TypeId} {v : Value} {l : List En} (h : RowE w base e v l) : ∃ A c, v = .slice A l.length c ∧ l.length ≤ c ∧ (A = none → c = 0) := by
  rcases h.2 with ⟨hv, h0⟩ | ⟨g, cap, cur, hv, hb, hg, hnc, _⟩
  · exact ⟨none, 0, by rw [hv, h0], by omega, fun _ => rfl⟩
  · exact ⟨_, _, hv, hnc, fun h => nomatch h⟩
theorem RowE.list {w : World} {base c : Nat} {e : TypeId} {A : Option Addr} {l : List En} (h : RowE w base e (.slice A l.length c) l) : EnL w (fun b => base ≤ b ∧ b < w.heap.size) l A := by
  rcases h.2 with ⟨hv, h0⟩ | ⟨g, cap, cur, hv, hb, hg, hnc, hcm, hcs, hct⟩
  · exact .inl (List.eq_nil_of_length_eq_zero h0)
  · injection hv with h1 h2 h3
    subst h1
    refine .inr ⟨g, 0, rfl, ⟨hb, (Array.getElem?_eq_some_iff.1 hg).1⟩, fun j v hj => ?_⟩
    rw [Nat.zero_add, cell_of_row w g j cur e (0, 0) hg]
    rw [← hct, List.getElem?_take] at hj
    split at hj
    · simpa using hj
    · cases hj
theorem RowE.blk {w : World} {base : Nat} {e : TypeId} {v : Value} {l : List En} (h : RowE w base e v l) : ∀ j, v.ownBlock = some j → base ≤ j := fun j hj => by
  rcases h.2 with ⟨hv, _⟩ | ⟨g, cap, cur, hv, hbg, hg, hr⟩
  · subst hv; simp [Value.ownBlock] at hj
  · subst hv
    obtain rfl : g = j := by simpa [Value.ownBlock] using hj
    exact hbg

/-- the six cells of a value -/
theorem six {w : World} {b : Nat} {t : TypeId} {c0 c1 c2 c3 c4 c5 : Value} (hb : w.heap[b]? = some (.cells #[c0, c1, c2, c3, c4, c5] t (0, 0))) :
    w.cell? ⟨b, 0, none⟩ = some c0 ∧ w.cell? ⟨b, 1, none⟩ = some c1 ∧ w.cell? ⟨b, 2, none⟩ = some c2 ∧ w.cell? ⟨b, 3, none⟩ = some c3 ∧ w.cell? ⟨b, 4, none⟩ = some c4 ∧ w.cell? ⟨b, 5, none⟩ = some c5 :=
  ⟨by rw [cell_of_row w b 0 _ t _ hb]; rfl, by rw [cell_of_row w b 1 _ t _ hb]; rfl, by rw [cell_of_row w b 2 _ t _ hb]; rfl, by rw [cell_of_row w b 3 _ t _ hb]; rfl, by rw [cell_of_row w b 4 _ t _ hb]; rfl, by rw [cell_of_row w b 5 _ t _ hb]; rfl⟩
theorem three {w : World} {b : Nat} {t : TypeId} {c0 c1 c2 : Value} (hb : w.heap[b]? = some (.cells #[c0, c1, c2] t (0, 0))) :
    w.cell? ⟨b, 0, none⟩ = some c0 ∧ w.cell? ⟨b, 1, none⟩ = some c1 ∧ w.cell? ⟨b, 2, none⟩ = some c2 :=
  ⟨by rw [cell_of_row w b 0 _ t _ hb]; rfl, by rw [cell_of_row w b 1 _ t _ hb]; rfl, by rw [cell_of_row w b 2 _ t _ hb]; rfl⟩
theorem blk_frozen {w : World} {b : Nat} {t : TypeId} {cs : Array Value} (hb : w.heap[b]? = some (.cells cs t (0, 0))) (i : Nat) : w.frozen? ⟨b, i, none⟩ = false := by
  simp [World.frozen?, hb]
end Go.Proofs.Ytngfgohchnkidaa
