/-
  WORDS FOR EXPRESSIONS IN MEMORY: a struct value that reads as a tree, a slice that reads as a list of trees, rows of trees of the call's own. No function of the program is named here.
-/
import Derived.Test.YtnjkihbmhacgoaaGreatDoorBase
import Derived.Test.YtnjkihbmhacgoaaGreatDoorRxMath
import Derived.Deep.AppendLies
import Derived.Deep.OwnRows
namespace Go.Proofs.YtnjkihbmhacgoaaGreatDoor
open Go.RowKit

/-- the value of a node whose kids lie at A -/
def rxv (k l h : Int) (A : Option Addr) (n c : Nat) : Value := .agg #[.int .i64 k, .int .u8 l, .int .u8 h, .slice A n c]

/-- the four cells of a node, from o on in block b -/
def At4 (w : World) (b o : Nat) (k l h : Int) (v : Value) : Prop :=
  w.cell? ⟨b, o, none⟩ = some (.int .i64 k) ∧ w.cell? ⟨b, o + 1, none⟩ = some (.int .u8 l) ∧ w.cell? ⟨b, o + 2, none⟩ = some (.int .u8 h) ∧ w.cell? ⟨b, o + 3, none⟩ = some v

/-- a node's own numbers, and how many kids it has -/
def Okn (k l h : Int) (n : Nat) : Prop := I64 k ∧ (0 ≤ l ∧ l < 256) ∧ (0 ≤ h ∧ h < 256) ∧ n ≤ 1048576

mutual
/-- a struct value reads as a tree, all of whose blocks are of S -/
def RtV (w : World) (S : Nat → Prop) : Rx → Value → Prop
  | .node k l h s, v => Okn k l h s.length ∧ ∃ A c, v = rxv k l h A s.length c ∧ s.length ≤ c ∧ (A = none → c = 0) ∧ RtL w S s A
/-- a slice (address A) reads as a list of trees -/
def RtL (w : World) (S : Nat → Prop) : List Rx → Option Addr → Prop
  | [], _ => True
  | x :: s, A => ∃ b o A' c', A = some ⟨b, o, none⟩ ∧ S b ∧ At4 w b o x.kind x.lo x.hi (.slice A' x.kids.length c') ∧ RtV w S x (rxv x.kind x.lo x.hi A' x.kids.length c') ∧ RtL w S s (some ⟨b, o + 4, none⟩)
end

/-- the blocks below n -/
def Lo (n : Nat) : Nat → Prop := fun b => b < n

theorem At4.to {w w' : World} {b o : Nat} {k l h : Int} {v : Value} (hb : w'.heap[b]? = w.heap[b]?) (hc : At4 w b o k l h v) : At4 w' b o k l h v := by
  obtain ⟨h0, h1, h2, h3⟩ := hc
  exact ⟨(World.cell?_of_block hb).trans h0, (World.cell?_of_block hb).trans h1, (World.cell?_of_block hb).trans h2, (World.cell?_of_block hb).trans h3⟩

mutual
theorem RtV.to {w w' : World} {S T : Nat → Prop} (hS : ∀ b, S b → T b ∧ w'.heap[b]? = w.heap[b]?) : ∀ (x : Rx) {v : Value}, RtV w S x v → RtV w' T x v
  | .node k l h s, v, hv => by
    simp only [RtV] at hv ⊢
    obtain ⟨ho, A, c, e, h1, h2, h3⟩ := hv
    exact ⟨ho, A, c, e, h1, h2, RtL.to hS s h3⟩
theorem RtL.to {w w' : World} {S T : Nat → Prop} (hS : ∀ b, S b → T b ∧ w'.heap[b]? = w.heap[b]?) : ∀ (s : List Rx) {A : Option Addr}, RtL w S s A → RtL w' T s A
  | [], _, _ => by simp only [RtL]
  | x :: s, A, hv => by
    simp only [RtL] at hv ⊢
    obtain ⟨b, o, A', c', e, h1, h2, h3, h4⟩ := hv
    exact ⟨b, o, A', c', e, (hS b h1).1, h2.to (hS b h1).2, RtV.to hS x h3, RtL.to hS s h4⟩
end

theorem RtV.below {n : Nat} {w w' : World} {x : Rx} {v : Value} (h : RtV w (Lo n) x v) (hb : Below n w w') : RtV w' (Lo n) x v := RtV.to (fun b hlt => ⟨hlt, hb.block b hlt⟩) x h
theorem RtL.below {n : Nat} {w w' : World} {s : List Rx} {A : Option Addr} (h : RtL w (Lo n) s A) (hb : Below n w w') : RtL w' (Lo n) s A := RtL.to (fun b hlt => ⟨hlt, hb.block b hlt⟩) s h
theorem RtV.mono {n m : Nat} {w : World} {x : Rx} {v : Value} (h : RtV w (Lo n) x v) (hm : n ≤ m) : RtV w (Lo m) x v := RtV.to (fun _ hlt => ⟨Nat.lt_of_lt_of_le hlt hm, rfl⟩) x h
theorem RtL.mono {n m : Nat} {w : World} {s : List Rx} {A : Option Addr} (h : RtL w (Lo n) s A) (hm : n ≤ m) : RtL w (Lo m) s A := RtL.to (fun _ hlt => ⟨Nat.lt_of_lt_of_le hlt hm, rfl⟩) s h
/-- across a call, up to its own size -/
theorem RtV.call {w w' : World} {x : Rx} {v : Value} (h : RtV w (Lo w.heap.size) x v) (hb : Below w.heap.size w w') : RtV w' (Lo w'.heap.size) x v := (h.below hb).mono hb.size
theorem RtL.call {w w' : World} {s : List Rx} {A : Option Addr} (h : RtL w (Lo w.heap.size) s A) (hb : Below w.heap.size w w') : RtL w' (Lo w'.heap.size) s A := (h.below hb).mono hb.size

/-- the parts of a value -/
theorem RtV.parts {w : World} {S : Nat → Prop} {x : Rx} {v : Value} (h : RtV w S x v) :
    Okn x.kind x.lo x.hi x.kids.length ∧ ∃ A c, v = rxv x.kind x.lo x.hi A x.kids.length c ∧ x.kids.length ≤ c ∧ (A = none → c = 0) ∧ RtL w S x.kids A := by
  cases x with | node k l h' s => simp only [RtV] at h; exact h
theorem RtV.mk {w : World} {S : Nat → Prop} {k l h : Int} {s : List Rx} {A : Option Addr} {c : Nat} (ho : Okn k l h s.length) (hc : s.length ≤ c) (hA : A = none → c = 0) (hl : RtL w S s A) : RtV w S (.node k l h s) (rxv k l h A s.length c) := by
  simp only [RtV]
  exact ⟨ho, A, c, rfl, hc, hA, hl⟩
theorem RtV.okn {w : World} {S : Nat → Prop} {x : Rx} {v : Value} (h : RtV w S x v) : Okn x.kind x.lo x.hi x.kids.length := h.parts.1

/-- the element at a place -/
theorem RtL.get {w : World} {S : Nat → Prop} : ∀ {s : List Rx} {A : Option Addr}, RtL w S s A → ∀ {j : Nat} (hj : j < s.length),
    ∃ b o A' c', A = some ⟨b, o, none⟩ ∧ S b ∧ At4 w b (o + j * 4) s[j].kind s[j].lo s[j].hi (.slice A' s[j].kids.length c') ∧ RtV w S s[j] (rxv s[j].kind s[j].lo s[j].hi A' s[j].kids.length c')
  | [], _, _, j, hj => by simp at hj
  | x :: s, A, hl, 0, hj => by
    simp only [RtL] at hl
    obtain ⟨b, o, A', c', e, h1, h2, h3, _⟩ := hl
    exact ⟨b, o, A', c', e, h1, by simpa using h2, by simpa using h3⟩
  | x :: s, A, hl, j + 1, hj => by
    simp only [RtL] at hl
    obtain ⟨b, o, A', c', e, h1, h2, h3, h4⟩ := hl
    obtain ⟨b', o', A2, c2, e2, g1, g2, g3⟩ := RtL.get h4 (j := j) (by simpa using hj)
    obtain ⟨rfl, rfl⟩ : b = b' ∧ o + 4 = o' := by cases e2; exact ⟨rfl, rfl⟩
    refine ⟨b, o, A2, c2, e, h1, ?_, by simpa using g3⟩
    have : o + (j + 1) * 4 = o + 4 + j * 4 := by omega
    rw [this]
    simpa using g2

/-- a slice that begins later -/
theorem RtL.drop {w : World} {S : Nat → Prop} : ∀ {s : List Rx} {b o : Nat} (n : Nat), RtL w S s (some ⟨b, o, none⟩) → RtL w S (s.drop n) (some ⟨b, o + n * 4, none⟩)
  | s, b, o, 0, h => by simpa using h
  | [], b, o, n + 1, _ => by simp only [List.drop_nil, RtL]
  | x :: s, b, o, n + 1, h => by
    simp only [RtL] at h
    obtain ⟨b', o', A', c', e, h1, h2, h3, h4⟩ := h
    obtain ⟨rfl, rfl⟩ : b = b' ∧ o = o' := by cases e; exact ⟨rfl, rfl⟩
    have := RtL.drop n h4
    rw [List.drop_succ_cons]
    have e2 : o + (n + 1) * 4 = o + 4 + n * 4 := by omega
    rw [e2]
    exact this
/-- a slice that ends earlier -/
theorem RtL.take {w : World} {S : Nat → Prop} : ∀ {s : List Rx} {A : Option Addr} (n : Nat), RtL w S s A → RtL w S (s.take n) A
  | s, A, 0, h => by simp only [List.take_zero, RtL]
  | [], A, n + 1, _ => by simp only [List.take_nil, RtL]
  | x :: s, A, n + 1, h => by
    simp only [RtL, List.take_succ_cons] at h ⊢
    obtain ⟨b, o, A', c', e, h1, h2, h3, h4⟩ := h
    exact ⟨b, o, A', c', e, h1, h2, h3, RtL.take n h4⟩
theorem RtL.addr {w : World} {S : Nat → Prop} {s : List Rx} {A : Option Addr} (h : RtL w S s A) (hs : 0 < s.length) : ∃ b o, A = some ⟨b, o, none⟩ ∧ S b := by
  obtain ⟨b, o, _, _, e, h1, _⟩ := h.get hs
  exact ⟨b, o, e, h1⟩

/-- a tree with the slice of its kids, as it lies in memory -/
structure Tn where
  x : Rx
  A : Option Addr
  c : Nat
def Tn.val (t : Tn) : Value := rxv t.x.kind t.x.lo t.x.hi t.A t.x.kids.length t.c
def Tn.cells (t : Tn) : List Value := [.int .i64 t.x.kind, .int .u8 t.x.lo, .int .u8 t.x.hi, .slice t.A t.x.kids.length t.c]
theorem RtV.tn {w : World} {S : Nat → Prop} {x : Rx} {v : Value} (h : RtV w S x v) : ∃ t : Tn, t.x = x ∧ v = t.val := by
  obtain ⟨_, A, c, e, _⟩ := h.parts
  exact ⟨⟨x, A, c⟩, rfl, e⟩

/-- cells that lie one behind the other read as a list -/
theorem rtl_of_cells {w : World} {S : Nat → Prop} {g : Nat} (hg : S g) : ∀ (ts : List Tn) (o : Nat), (∀ j u, (ts.flatMap Tn.cells)[j]? = some u → w.cell? ⟨g, o + j, none⟩ = some u) → (∀ t ∈ ts, RtV w S t.x t.val) → RtL w S (ts.map Tn.x) (some ⟨g, o, none⟩)
  | [], _, _, _ => by simp only [List.map_nil, RtL]
  | t :: ts, o, hc, ht => by
    simp only [List.map_cons, RtL]
    refine ⟨g, o, t.A, t.c, rfl, hg, ⟨?_, ?_, ?_, ?_⟩, ht t (by simp), rtl_of_cells hg ts (o + 4) (fun j u hj => ?_) (fun t' h' => ht t' (by simp [h']))⟩
    · exact hc 0 _ (by simp [Tn.cells])
    · exact hc 1 _ (by simp [Tn.cells])
    · exact hc 2 _ (by simp [Tn.cells])
    · exact hc 3 _ (by simp [Tn.cells])
    · have := hc (4 + j) u (by
        rw [List.flatMap_cons, List.getElem?_append_right (by simp [Tn.cells])]
        simpa [Tn.cells] using hj)
      rw [← Nat.add_assoc] at this
      exact this

theorem tn_cells_len (ts : List Tn) : (ts.flatMap Tn.cells).length = ts.length * 4 := by
  induction ts with
  | nil => rfl
  | cons t ts ih => rw [List.flatMap_cons, List.length_append, ih, List.length_cons]; simp [Tn.cells]; omega

theorem tn_one (ts : List Tn) : ∀ u ∈ ts.flatMap Tn.cells, u.oneCell' = true := fun u hu => by
  obtain ⟨t, _, h⟩ := List.mem_flatMap.1 hu
  simp only [Tn.cells, List.mem_cons, List.not_mem_nil, or_false] at h
  rcases h with rfl | rfl | rfl | rfl <;> rfl

theorem tn_one1 (t : Tn) : ∀ u ∈ t.cells, u.oneCell' = true := fun u hu => tn_one [t] u (by simpa using hu)

/-- where the trees of a row's elements may lie: in blocks of L, that are there, and not in the row's own -/
def Lay (L : Nat → Prop) (w : World) (v : Value) : Nat → Prop := fun b => L b ∧ b < w.heap.size ∧ some b ≠ v.ownBlock

/-- A ROW OF TREES OF THE CALL's OWN: the row's cells are the nodes; their kids lie in other blocks, of L. -/
def RowT (w : World) (base : Nat) (L : Nat → Prop) (e : TypeId) (v : Value) (ts : List Tn) : Prop :=
  w.ownsRow base e 4 v ts.length (ts.flatMap Tn.cells) ∧ ∀ t ∈ ts, RtV w (Lay L w v) t.x t.val

theorem RowT.nil (w : World) (base : Nat) (L : Nat → Prop) (e : TypeId) : RowT w base L e (.slice none 0 0) [] := ⟨World.ownsRow_nil _ _ _ _, by simp⟩

theorem own_kept {w w' : World} {base n size : Nat} {e : TypeId} {v : Value} {xs : List Value} (h : w.ownsRow base e size v n xs) (hk : ∀ b, base ≤ b → some b = v.ownBlock → w'.heap[b]? = w.heap[b]?) : w'.ownsRow base e size v n xs := by
  refine ⟨h.1, ?_⟩
  rcases h.2 with h0 | ⟨g, cap, cur, hv, hb, hg, hr⟩
  · exact .inl h0
  · exact .inr ⟨g, cap, cur, hv, hb, by rw [hk g hb (by rw [hv]; rfl)]; exact hg, hr⟩
theorem own_blk_lt {w : World} {base n size : Nat} {e : TypeId} {v : Value} {xs : List Value} (h : w.ownsRow base e size v n xs) {b : Nat} (hb : some b = v.ownBlock) : base ≤ b ∧ b < w.heap.size := by
  rcases h.2 with ⟨hv, _⟩ | ⟨g, cap, cur, hv, hbg, hg, hr⟩
  · subst hv; simp [Value.ownBlock] at hb
  · subst hv
    obtain rfl : b = g := by simpa [Value.ownBlock] using hb
    exact ⟨hbg, (Array.getElem?_eq_some_iff.1 hg).1⟩

/-- A row across whatever leaves its own block and L's blocks as they lay. -/
theorem RowT.to {w w' : World} {base : Nat} {L L' : Nat → Prop} {e : TypeId} {v : Value} {ts : List Tn} (h : RowT w base L e v ts) (hL : ∀ b, L b → L' b) (hs : w.heap.size ≤ w'.heap.size)
    (hk : ∀ b, b < w.heap.size → (base ≤ b ∨ L b) → w'.heap[b]? = w.heap[b]?) : RowT w' base L' e v ts :=
  ⟨own_kept h.1 (fun b hb he => hk b (own_blk_lt h.1 he).2 (.inl hb)), fun t ht => RtV.to (fun b hb => ⟨⟨hL b hb.1, Nat.lt_of_lt_of_le hb.2.1 hs, hb.2.2⟩, hk b hb.2.1 (.inr hb.1)⟩) _ (h.2 t ht)⟩
theorem RowT.below {w w' : World} {base : Nat} {L : Nat → Prop} {e : TypeId} {v : Value} {ts : List Tn} (h : RowT w base L e v ts) (hb : Below w.heap.size w w') : RowT w' base L e v ts :=
  h.to (fun _ h => h) hb.size (fun b hlt _ => hb.block b hlt)

/-- ONE ELEMENT MORE: behind append's law. -/
theorem RowT.snoc {w w1 w2 : World} {base g cap n : Nat} {L : Nat → Prop} {e : TypeId} {v : Value} {ts : List Tn} {t : Tn} (h : RowT w base L e v ts) (hn : n = ts.length + 1) (hb : Below w.heap.size w w1) (ht : RtV w1 (Lay L w1 v) t.x t.val)
    (hown : w2.ownsRow base e 4 (.slice (some ⟨g, 0, none⟩) n cap) n (ts.flatMap Tn.cells ++ t.cells)) (hgrow : w1.grownBy w2 v.ownBlock) (hat : v.ownBlock = some g ∨ g = w1.heap.size) :
    RowT w2 base L e (.slice (some ⟨g, 0, none⟩) n cap) (ts ++ [t]) := by
  subst hn
  have hsz := hgrow.size
  have hgo : ∀ b, Lay L w1 v b → Lay L w2 (.slice (some ⟨g, 0, none⟩) (ts.length + 1) cap) b ∧ w2.heap[b]? = w1.heap[b]? := fun b ⟨h1, h2, h3⟩ =>
    ⟨⟨h1, Nat.lt_of_lt_of_le h2 hsz, by
      simp only [Value.ownBlock]
      intro e
      obtain rfl : b = g := by simpa using e
      rcases hat with h4 | h4
      · exact h3 h4.symm
      · omega⟩, hgrow.block b h2 h3⟩
  refine ⟨by simpa [List.flatMap_append] using hown, fun t' ht' => ?_⟩
  rcases List.mem_append.1 ht' with h1 | h1
  · exact RtV.to hgo _ ((h.below hb).2 t' h1)
  · obtain rfl := List.mem_singleton.1 h1
    exact RtV.to hgo _ ht

/-- THE SLICE OF A ROW READS AS THE LIST. -/
theorem RowT.list {w : World} {base n c : Nat} {L : Nat → Prop} {e : TypeId} {A : Option Addr} {ts : List Tn} (h : RowT w base L e (.slice A n c) ts) :
    n = ts.length ∧ n ≤ c ∧ (A = none → c = 0) ∧ RtL w (fun b => (L b ∨ base ≤ b) ∧ b < w.heap.size) (ts.map Tn.x) A := by
  obtain ⟨⟨hl, hr⟩, hel⟩ := h
  rcases hr with ⟨hv, h0⟩ | ⟨g, cap, cur, hv, hb, hg, hnc, hcm, hcs, hct⟩
  · injection hv with h1 h2 h3
    subst h1 h2 h3
    have : ts = [] := List.eq_nil_of_length_eq_zero h0
    subst this
    exact ⟨rfl, Nat.le_refl _, fun _ => rfl, by simp only [List.map_nil, RtL]⟩
  · injection hv with h1 h2 h3
    subst h1 h2 h3
    refine ⟨rfl, hnc, (fun h => nomatch h), rtl_of_cells ⟨.inr hb, (Array.getElem?_eq_some_iff.1 hg).1⟩ ts 0 (fun j u hj => ?_) (fun t ht => RtV.to (fun b hb' => ⟨⟨.inl hb'.1, hb'.2.1⟩, rfl⟩) _ (hel t ht))⟩
    rw [Nat.zero_add, cell_of_row w g j cur e (0, 0) hg]
    rw [← hct, List.getElem?_take] at hj
    split at hj
    · simpa using hj
    · cases hj

/-- the four cells of a block -/
theorem four {w : World} {b : Nat} {t : TypeId} {c0 c1 c2 c3 : Value} (hb : w.heap[b]? = some (.cells #[c0, c1, c2, c3] t (0, 0))) :
    w.cell? ⟨b, 0, none⟩ = some c0 ∧ w.cell? ⟨b, 1, none⟩ = some c1 ∧ w.cell? ⟨b, 2, none⟩ = some c2 ∧ w.cell? ⟨b, 3, none⟩ = some c3 :=
  ⟨by rw [cell_of_row w b 0 _ t _ hb]; rfl, by rw [cell_of_row w b 1 _ t _ hb]; rfl, by rw [cell_of_row w b 2 _ t _ hb]; rfl, by rw [cell_of_row w b 3 _ t _ hb]; rfl⟩
/-- four stores into the cell of a result -/
theorem fin4 {w : World} {N : Nat} (c0 c1 c2 c3 : Value) {j : Nat} (hj : j ≠ N) :
    ((((w.setCell ⟨N, 0, none⟩ c0).setCell ⟨N, 1, none⟩ c1).setCell ⟨N, 2, none⟩ c2).setCell ⟨N, 3, none⟩ c3).heap[j]? = w.heap[j]? := by
  rw [Below.heap_setCell _ _ _ j hj, Below.heap_setCell _ _ _ j hj, Below.heap_setCell _ _ _ j hj, Below.heap_setCell _ _ _ j hj]
theorem fin4_below {n : Nat} {w W : World} {N : Nat} (h : Below n w W) (hN : n ≤ N) (c0 c1 c2 c3 : Value) :
    Below n w ((((W.setCell ⟨N, 0, none⟩ c0).setCell ⟨N, 1, none⟩ c1).setCell ⟨N, 2, none⟩ c2).setCell ⟨N, 3, none⟩ c3) :=
  (((h.setCell (p := ⟨N, 0, none⟩) hN c0).setCell (p := ⟨N, 1, none⟩) hN c1).setCell (p := ⟨N, 2, none⟩) hN c2).setCell (p := ⟨N, 3, none⟩) hN c3
theorem fin4_size {w : World} {N : Nat} (c0 c1 c2 c3 : Value) : ((((w.setCell ⟨N, 0, none⟩ c0).setCell ⟨N, 1, none⟩ c1).setCell ⟨N, 2, none⟩ c2).setCell ⟨N, 3, none⟩ c3).heap.size = w.heap.size := by simp [World.setCell]
theorem four_frozen {w : World} {b : Nat} {t : TypeId} {cs : Array Value} (hb : w.heap[b]? = some (.cells cs t (0, 0))) (i : Nat) : w.frozen? ⟨b, i, none⟩ = false := by
  simp [World.frozen?, hb]
/-- the four cells of a node, stored one by one -/
theorem four_set3 {w : World} {b : Nat} {t : TypeId} {c0 c1 c2 c3 : Value} (hb : w.heap[b]? = some (.cells #[c0, c1, c2, c3] t (0, 0))) (u : Value) : (w.setCell ⟨b, 3, none⟩ u).heap[b]? = some (.cells #[c0, c1, c2, u] t (0, 0)) := by
  rw [blk_set hb]; rfl
/-- a block below n is as it was behind an append -/
theorem grown_low {w1 w5 : World} {row : Option Nat} {B n : Nat} (hg : w1.grownBy w5 row) (hr : ∀ j, row = some j → n ≤ j) (hB : B < n) (hn : n ≤ w1.heap.size) : w5.heap[B]? = w1.heap[B]? :=
  hg.block B (Nat.lt_of_lt_of_le hB hn) (fun e => by have := hr B e.symm; omega)
theorem RowT.blk {w : World} {base : Nat} {L : Nat → Prop} {e : TypeId} {v : Value} {ts : List Tn} (h : RowT w base L e v ts) : ∀ j, v.ownBlock = some j → base ≤ j := fun _ e => (own_blk_lt h.1 e.symm).1
theorem below_alloc2 {n : Nat} {a w : World} (h : Below n a w) (hB : n ≤ w.heap.size) (o o2 : Obj) : Below n a ((w.alloc o).alloc o2) := (h.alloc hB o).alloc (by simp; omega) o2
theorem below_alloc3 {n : Nat} {a w : World} (h : Below n a w) (hB : n ≤ w.heap.size) (o o2 o3 : Obj) : Below n a (((w.alloc o).alloc o2).alloc o3) := (below_alloc2 h hB o o2).alloc (by simp; omega) o3
theorem RowT.val {w : World} {base : Nat} {L : Nat → Prop} {e : TypeId} {v : Value} {ts : List Tn} (h : RowT w base L e v ts) : ∃ A c, v = .slice A ts.length c := by
  rcases h.1.2 with ⟨hv, h0⟩ | ⟨g, cap, cur, hv, _⟩
  · exact ⟨none, 0, by rw [hv, h0]⟩
  · exact ⟨_, _, hv⟩
theorem nodes_get : ∀ {s : List Rx} {j : Nat} (hj : j < s.length), nodes s[j] ≤ nodesL s
  | x :: s, 0, _ => by simp [nodesL]
  | x :: s, j + 1, hj => by
    have := nodes_get (s := s) (j := j) (by simpa using hj)
    simp only [List.getElem_cons_succ, nodesL]
    omega
theorem rx_snoc {s : List Rx} {j : Nat} {x : Rx} {l : List Rx} (hj : j < s.length) (hx : s[j] = x) (hl : l = s.take j) : l ++ [x] = s.take (j + 1) := by
  rw [List.take_succ_eq_append_getElem hj, hl, hx]
theorem cell_old {w : World} {B i : Nat} (h : B < w.heap.size) (o : Obj) : (w.alloc o).cell? ⟨B, i, none⟩ = w.cell? ⟨B, i, none⟩ := World.cell?_of_block (Below.heap_alloc w o B h)
theorem frozen_old {w : World} {B i : Nat} (h : B < w.heap.size) (o : Obj) : (w.alloc o).frozen? ⟨B, i, none⟩ = w.frozen? ⟨B, i, none⟩ := World.frozen?_of_block (Below.heap_alloc w o B h)
/-- fresh blocks: from n on, that are there -/
def Mid (n m : Nat) : Nat → Prop := fun b => n ≤ b ∧ b < m

end Go.Proofs.YtnjkihbmhacgoaaGreatDoor
