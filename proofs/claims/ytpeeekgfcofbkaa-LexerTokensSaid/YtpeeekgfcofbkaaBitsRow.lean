/-
  WORDS FOR A ROW OF BYTES THAT A CONVERSION MADE: 'text := []byte(mark)' and the appends behind it. No function of the program is named here.
-/
import Derived.Test.YtpeeekgfcofbkaaBase
import Derived.ArgAppend
namespace Go.Proofs.Ytpeeekgfcofbkaa
open Go.RowKit

/-- the slice value v is a row of the call's own (a block from base on) with the bytes zs; the cells up to its capacity may be written -/
def RowU (w : World) (base : Nat) (v : Value) (zs : List Int) : Prop :=
  ∃ g cap, v = .slice (some ⟨g, 0, none⟩) zs.length cap ∧ base ≤ g ∧ g < w.heap.size ∧ zs.length ≤ cap ∧ (∀ j, j < zs.length → w.cell? ⟨g, j, none⟩ = some (.int .u8 (zs[j]?.getD 0))) ∧
    (∀ j, zs.length ≤ j → j < cap → (w.cell? ⟨g, j, none⟩).isSome = true ∧ w.frozen? ⟨g, j, none⟩ = false)
theorem RowU.below {w w' : World} {base : Nat} {v : Value} {zs : List Int} (h : RowU w base v zs) (hb : Below w.heap.size w w') : RowU w' base v zs := by
  obtain ⟨g, cap, hv, hbg, hg, hc, h1, h2⟩ := h
  exact ⟨g, cap, hv, hbg, Nat.lt_of_lt_of_le hg hb.size, hc, fun j hj => (hb.cell (p := ⟨g, j, none⟩) hg).trans (h1 j hj), fun j h3 h4 => by rw [hb.cell (p := ⟨g, j, none⟩) hg, hb.frozen (p := ⟨g, j, none⟩) hg]; exact h2 j h3 h4⟩
theorem RowU.alloc {w : World} {base : Nat} {v : Value} {zs : List Int} (h : RowU w base v zs) (o : Obj) : RowU (w.alloc o) base v zs := h.below ((Below.refl _ w).alloc (Nat.le_refl _) o)
theorem RowU.reads {w : World} {base : Nat} {v : Value} {zs : List Int} (h : RowU w base v zs) : ∃ g cap, v = .slice (some ⟨g, 0, none⟩) zs.length cap ∧ RdI w w.heap.size .u8 (some ⟨g, 0, none⟩) zs := by
  obtain ⟨g, cap, hv, hbg, hg, hc, h1, h2⟩ := h
  exact ⟨g, cap, hv, .inr ⟨g, 0, rfl, hg, fun j hj => by rw [Nat.zero_add]; exact h1 j hj⟩⟩
theorem rowU_own {w : World} {base : Nat} {e : TypeId} {v : Value} {zs : List Int} (_ : base ≤ w.heap.size) (h0 : zs ≠ []) (h : w.ownsRow base e 1 v zs.length (zs.map (Value.int .u8))) : RowU w base v zs := by
  have hcells := fun g (hg : v.ownBlock = some g) => h.cells (g := g) hg
  rcases h.2 with ⟨_, hn⟩ | ⟨g, cap, cur, hv, hbg, hg, hnc, _, hcs, _⟩
  · exact absurd (List.eq_nil_of_length_eq_zero hn) h0
  · refine ⟨g, cap, hv, hbg, (Array.getElem?_eq_some_iff.1 hg).1, hnc, fun j hj => ?_, fun j h3 h4 => ⟨?_, ?_⟩⟩
    · have hb : v.ownBlock = some g := by rw [hv]; rfl
      have := hcells g hb j (.int .u8 (zs[j]?.getD 0)) (by simp [hj])
      have hadd : (⟨g, 0, none⟩ : Addr).add j = ⟨g, j, none⟩ := by unfold Addr.add; split <;> simp_all
      rwa [hadd] at this
    · have hj : j < cur.size := by rw [hcs]; omega
      simp [World.cell?, hg, hj]
    · simp [World.frozen?, hg]
/-- []byte(s) -/
theorem convU (s : ByteArray) (W : World) : ∃ cap C, (convert 9 24 (.string s)).run Try.prog W = .ok (.slice (some ⟨W.heap.size, 0, none⟩) s.size cap) (W.drew.alloc (.cells C 5 (C.size, C.size + 1))) ∧
    RowU (W.drew.alloc (.cells C 5 (C.size, C.size + 1))) W.heap.size (.slice (some ⟨W.heap.size, 0, none⟩) s.size cap) (sb s) := by
  have hge := grownCap_ge W s.size 0 5
  refine ⟨_, _, run_bytes_of_string W 9 24 5 s Try.underlying9 Try.underlying24 Try.underlying5, ?_⟩
  have hs : (bytesRow s (grownCap W s.size 0 5)).size = grownCap W s.size 0 5 := by
    have : s.data.size = s.size := rfl
    unfold bytesRow
    rw [Array.size_append, Array.size_map, Array.size_replicate]
    omega
  have hnew : ∀ (C : Array Value) (f : Nat × Nat), (W.drew.alloc (.cells C 5 f)).heap[W.heap.size]? = some (.cells C 5 f) := fun C f => heap_alloc_new W.drew _
  have hC : ∀ j, j < (sb s).length → (bytesRow s (grownCap W s.size 0 5))[j]? = some (.int .u8 ((sb s)[j]?.getD 0)) := fun j hj => by
    have hj2 := hj
    rw [sb_length] at hj
    have hj' : j < s.data.size := hj
    rw [bytesRow_at s _ j hj']
    simp only [sb, List.getElem?_map, Array.getElem?_toList, Array.getElem?_eq_getElem hj', Option.map_some, Option.getD_some]
  generalize bytesRow s (grownCap W s.size 0 5) = C at hs hC ⊢
  generalize grownCap W s.size 0 5 = cap at hs hge ⊢
  refine ⟨W.heap.size, cap, by rw [sb_length], Nat.le_refl _, by simp, by rw [sb_length]; exact hge, fun j hj => ?_, fun j h3 h4 => ⟨?_, ?_⟩⟩
  · simp only [World.cell?, hnew]
    exact hC j hj
  · unfold World.cell?
    rw [hnew]
    have hj : j < C.size := by omega
    simp [hj]
  · have h : ¬ C.size ≤ j := by omega
    unfold World.frozen?
    rw [hnew]
    simp [h]
/-- append(text, b): one byte -/
theorem wpList_append_u {P : Program} (w : World) {ops : Array Oper} {rest : List Oper} {o : Oper} {a : Act} {Q : Exit → Act → World → Prop}
    (hgd : o.guard = none) (s x : Operand) (t : TypeId) (hop : o.op = Op.call { callee := Callee.builtin Builtin.append, args := #[s, x], argTypes := #[t, t] })
    (e : TypeId) (i : TypeInfo) (z : Value) (h1 : P.underlying t = some (.slice e)) (h2 : P.info? e = some i) (h3 : i.zero = some z) (h4 : i.size = 1) (h5 : i.bytes = 1) (h6 : z.cells.size = 1)
    (base : Nat) (v : Value) (zs : List Int) (hs : a.eval s = v) (hrow : RowU w base v zs) (hbase : base ≤ w.heap.size) (hl : zs.length ≤ 1000000)
    (q : Nat) (y : Int) (hx : a.eval x = .slice (some ⟨q, 0, none⟩) 1 1) (hy : w.cell? ⟨q, 0, none⟩ = some (.int .u8 y))
    (h : ∀ v' w', RowU w' base v' (zs ++ [y]) → Below base w w' → wpList P ops Q rest (a.put o.dst v') w') : wpList P ops Q (o :: rest) a w := by
  obtain ⟨g, cap, rfl, hbg, hg, hc, hr, hsp⟩ := hrow
  refine wpList_append_arg w hgd s x t hop e i z 1 1 h1 h2 h3 h4 h5 h6 (by decide) g 0 zs.length cap (zs.map (Value.int .u8)) hs (by simp) (fun j u hj => ?_) ⟨q, 0, none⟩ 1 1 [.int .u8 y] hx rfl (fun j u hj => ?_) (by simp [Value.oneCell']) (fun hroom j hj => ?_) (by unfold maxLen; omega) (by omega) (fun hroom => ?_) (fun hgrow v' w' hown hgr => ?_)
  · have hlt : j < zs.length := by
      have := (List.getElem?_eq_some_iff.1 hj).1
      simpa using this
    rw [Nat.zero_add, hr j hlt]
    simp only [List.getElem?_map, List.getElem?_eq_getElem hlt, Option.map_some, Option.getD_some] at hj ⊢
    exact hj
  · cases j with
    | zero =>
      simp only [List.getElem?_cons_zero, Option.some.injEq] at hj
      subst hj
      exact hy
    | succ j => simp at hj
  · simp only [List.length_cons, List.length_nil] at hj
    obtain rfl : j = 0 := by omega
    rw [Nat.zero_add, Nat.mul_one, Nat.add_zero]
    exact hsp zs.length (Nat.le_refl _) (by omega)
  · have e : w.setCells g (0 + zs.length * 1) [.int .u8 y] = w.setCell ⟨g, zs.length, none⟩ (.int .u8 y) := by
      rw [Nat.zero_add, Nat.mul_one]; rfl
    rw [e]
    have hok := (hsp zs.length (Nat.le_refl _) (by omega)).1
    refine h _ _ ⟨g, cap, by rw [List.length_append]; rfl, hbg, by simpa [World.setCell] using hg, by rw [List.length_append]; simpa using hroom, fun j hj => ?_, fun j h7 h8 => ⟨?_, ?_⟩⟩ ((Below.refl _ w).setCell hbg _)
    · rw [List.length_append, List.length_cons, List.length_nil] at hj
      by_cases hjn : j = zs.length
      · subst hjn
        rw [World.cell?_setCell_same' _ _ _ hok]
        simp
      · rw [World.cell?_setCell_other _ _ _ _ (by intro e; injection e with _ e2 _; omega), hr j (by omega), List.getElem?_append_left (by omega)]
    · rw [List.length_append, List.length_cons, List.length_nil] at h7
      rw [World.cell?_setCell_other _ _ _ _ (by intro e; injection e with _ e2 _; omega)]
      exact (hsp j (by omega) h8).1
    · rw [List.length_append, List.length_cons, List.length_nil] at h7
      rw [World.frozen?_setCell]
      exact (hsp j (by omega) h8).2
  · have hbb : Below base w w' := (Below.refl _ w).grown hgr hbase (by simp)
    have hsz := hgr.size
    refine h _ _ ?_ hbb
    obtain ⟨g2, cap2, hv, hb2, r⟩ := rowU_own (zs := zs ++ [y]) hsz (by simp) (by rw [List.length_append, List.map_append]; exact hown)
    exact ⟨g2, cap2, hv, by omega, r⟩
end Go.Proofs.Ytpeeekgfcofbkaa
