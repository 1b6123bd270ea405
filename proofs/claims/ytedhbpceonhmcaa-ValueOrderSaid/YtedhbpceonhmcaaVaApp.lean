/-
  A ROW OF VALUES WITH ANOTHER ROW OF VALUES BEHIND IT.
-/
import Derived.Test.YtedhbpceonhmcaaVaRow
import Derived.Test.YtedhbpceonhmcaaVaCat
namespace Go.Proofs.Ytedhbpceonhmcaa
open Go.RowKit

theorem info_rValue : (Try.prog.info? 30).map (fun i => (i.zero, i.size, i.bytes)) = some (some (.agg #[.int .i64 0, .int .i64 0, .int .i64 0, .int .u64 0, .string ⟨#[]⟩, .slice none 0 0]), 6, 72) := by kernel_rfl
theorem vrow_cells {w : World} {B : Nat} {l : List Vr} {ty : TypeId} {fr : Nat × Nat} (h : w.heap[B]? = some (.cells (l.flatMap Vr.cells).toArray ty fr)) : ∀ j u, (l.flatMap Vr.cells)[j]? = some u → w.cell? ((⟨B, 0, none⟩ : Addr).add j) = some u := fun j u hj => by
  have hadd : (⟨B, 0, none⟩ : Addr).add j = ⟨B, 0 + j, none⟩ := by unfold Addr.add; split <;> simp_all
  rw [hadd, Nat.zero_add, cell_of_row _ _ j _ ty fr h]
  simpa using hj
theorem vrow_owns {w : World} {B base : Nat} {l : List Vr} {ty : TypeId} (h : w.heap[B]? = some (.cells (l.flatMap Vr.cells).toArray ty (0, 0))) (hb : base ≤ B) (hl : l.length ≤ maxLen) : w.ownsRow base ty 6 (.slice (some ⟨B, 0, none⟩) l.length l.length) l.length (l.flatMap Vr.cells) :=
  ⟨vrs_len l, .inr ⟨B, l.length, _, rfl, hb, h, Nat.le_refl _, hl, by rw [List.size_toArray, vrs_len], by show List.take (l.length * 6) (l.flatMap Vr.cells) = _; rw [← vrs_len l, List.take_length]⟩⟩
/-- what an append of two rows leaves -/
def AppV (w : World) (B1 base : Nat) (l : List Vr) (v : Value) (w' : World) : Prop := ∃ B c, v = .slice (some ⟨B, 0, none⟩) l.length c ∧ base ≤ B ∧ B < w'.heap.size ∧ (∀ j u, (l.flatMap Vr.cells)[j]? = some u → w'.cell? ⟨B, j, none⟩ = some u) ∧ w.grownBy w' (some B1)
theorem appV_of {w w' : World} {B1 base n : Nat} {ty : TypeId} {v : Value} {l : List Vr} (hn : n = l.length) (h0 : 0 < l.length) (h : w'.ownsRow base ty 6 v n (l.flatMap Vr.cells)) (hg : w.grownBy w' (some B1)) : AppV w B1 base l v w' := by
  subst hn
  rcases h.2 with ⟨hv, hn0⟩ | ⟨g, cap, cur, hv, hb, hg2, hnc, hcm, hcs, hct⟩
  · omega
  · refine ⟨g, cap, hv, hb, (Array.getElem?_eq_some_iff.1 hg2).1, fun j u hj => ?_, hg⟩
    rw [cell_of_row w' g j cur ty (0, 0) hg2]
    rw [← hct, List.getElem?_take] at hj
    split at hj
    · simpa using hj
    · cases hj
theorem wpList_append_v (w : World) {ops : Array Oper} {rest : List Oper} {o : Oper} {a : Act} {Q : Exit → Act → World → Prop} (hgd : o.guard = none) (s x : Operand)
    (ho : o.op = .call { callee := .builtin .append, args := #[s, x], argTypes := #[23, 23] }) (l l2 : List Vr) (n n2 B1 B2 base : Nat) (hn : n = l.length) (hn2 : n2 = l2.length) (hl : 0 < l.length) (hl8 : l.length + l2.length ≤ 1000)
    (hs : a.eval s = .slice (some ⟨B1, 0, none⟩) n n) (h1 : w.heap[B1]? = some (.cells (l.flatMap Vr.cells).toArray 30 (0, 0))) (hb : base ≤ B1)
    (hx : a.eval x = .slice (some ⟨B2, 0, none⟩) n2 n2) (h2 : w.heap[B2]? = some (.cells (l2.flatMap Vr.cells).toArray 30 (0, 0))) (hbase : base ≤ w.heap.size)
    (h : ∀ v' w', AppV w B1 base (l ++ l2) v' w' → wpList Try.prog ops Q rest (a.put o.dst v') w') : wpList Try.prog ops Q (o :: rest) a w := by
  subst hn hn2
  obtain ⟨i0, hi, hz0, hz1, hz2⟩ := info_partsV info_rValue
  have hown := vrow_owns h1 hb (by unfold maxLen; omega)
  exact wpList_append_own w hgd s x 23 ho base 30 i0 (.agg #[.int .i64 0, .int .i64 0, .int .i64 0, .int .u64 0, .string ⟨#[]⟩, .slice none 0 0]) 6 72 Try.underlying23 hi hz0 hz1 hz2 rfl (by decide) _ l.length _ hs hown ⟨B2, 0, none⟩ l2.length l2.length (l2.flatMap Vr.cells) hx (vrs_len l2) (vrow_cells h2) (vrs_one l2) (by unfold maxLen; omega) (by omega) hbase
    (fun v' w' h3 h4 _ => h v' w' (appV_of (by rw [List.length_append]) (by rw [List.length_append]; omega) (by rw [List.flatMap_append]; exact h3) h4))
theorem step_append_v (w : World) {ops : Array Oper} {o : Oper} {a : Act} {K : Act → World → Prop} {Q : Exit → Act → World → Prop} {E : Prop} (hgd : o.guard = none) (s x : Operand)
    (ho : o.op = .call { callee := .builtin .append, args := #[s, x], argTypes := #[23, 23] }) (l l2 : List Vr) (n n2 B1 B2 base : Nat) (hn : n = l.length) (hn2 : n2 = l2.length) (hl : 0 < l.length) (hl8 : l.length + l2.length ≤ 1000)
    (hs : a.eval s = .slice (some ⟨B1, 0, none⟩) n n) (h1 : w.heap[B1]? = some (.cells (l.flatMap Vr.cells).toArray 30 (0, 0))) (hb : base ≤ B1)
    (hx : a.eval x = .slice (some ⟨B2, 0, none⟩) n2 n2) (h2 : w.heap[B2]? = some (.cells (l2.flatMap Vr.cells).toArray 30 (0, 0))) (hbase : base ≤ w.heap.size)
    (h : ∀ v' w', AppV w B1 base (l ++ l2) v' w' → K (a.put o.dst v') w') : if Region.wanted o (yielded ops a.tmps) = true then Oper.wp Try.prog o a w K Q else E := by
  subst hn hn2
  have hw : Region.wanted o (yielded ops a.tmps) = true := by simp [Region.wanted, hgd]
  rw [if_pos hw]
  obtain ⟨i0, hi, hz0, hz1, hz2⟩ := info_partsV info_rValue
  have hown := vrow_owns h1 hb (by unfold maxLen; omega)
  exact wp_append_own w s x 23 ho base 30 i0 (.agg #[.int .i64 0, .int .i64 0, .int .i64 0, .int .u64 0, .string ⟨#[]⟩, .slice none 0 0]) 6 72 Try.underlying23 hi hz0 hz1 hz2 rfl (by decide) _ l.length _ hs hown ⟨B2, 0, none⟩ l2.length l2.length (l2.flatMap Vr.cells) hx (vrs_len l2) (vrow_cells h2) (vrs_one l2) (by unfold maxLen; omega) (by omega) hbase
    (fun v' w' h3 h4 _ => h v' w' (appV_of (by rw [List.length_append]) (by rw [List.length_append]; omega) (by rw [List.flatMap_append]; exact h3) h4))
end Go.Proofs.Ytedhbpceonhmcaa
