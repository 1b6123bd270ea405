/-
  WORDS FOR SLICES OF BITS: a slice that reads as a list of bools (nil let in), rows of bools of the call's own. No function of the program is named here.
-/
import Derived.Test.YtcpjchfgiogmeaaBase
import Derived.Test.YtcpjchfgiogmeaaBitsMath
import Derived.Deep.OwnRows
namespace Go.Proofs.Ytcpjchfgiogmeaa
open Go.RowKit

theorem info_bool : (Try.prog.info? 4).map (fun i => (i.zero, i.size, i.bytes)) = some (some (.bool false), 1, 1) := by kernel_rfl

/-- THE SLICE (address A) READS AS l, in a block below B. -/
def RdB (w : World) (B : Nat) (A : Option Addr) (l : List Bool) : Prop :=
  l = [] ∨ ∃ b o, A = some ⟨b, o, none⟩ ∧ b < B ∧ ∀ j, j < l.length → w.cell? ⟨b, o + j, none⟩ = some (.bool (l[j]?.getD false))
theorem RdB.below {n₀ : Nat} {A B : World} {p : Option Addr} {l : List Bool} (h : RdB A n₀ p l) (hb : Below n₀ A B) : RdB B n₀ p l := by
  rcases h with h | ⟨b, o, e, hlt, hc⟩
  · exact .inl h
  · exact .inr ⟨b, o, e, hlt, fun j hj => (hb.cell (p := ⟨b, o + j, none⟩) hlt).trans (hc j hj)⟩
theorem RdB.mono {w : World} {B B2 : Nat} {A : Option Addr} {l : List Bool} (h : RdB w B A l) (hB : B ≤ B2) : RdB w B2 A l := by
  rcases h with h | ⟨b, o, e, hb, hc⟩
  · exact .inl h
  · exact .inr ⟨b, o, e, by omega, hc⟩
theorem RdB.at_ {w : World} {B : Nat} {A : Option Addr} {l : List Bool} (h : RdB w B A l) {j : Nat} (hj : j < l.length) :
    ∃ b o, A = some ⟨b, o, none⟩ ∧ b < B ∧ ∀ j, j < l.length → w.cell? ⟨b, o + j, none⟩ = some (.bool (l[j]?.getD false)) := by
  rcases h with rfl | h
  · simp at hj
  · exact h
theorem rdb_own {W : World} {base n c : Nat} {e : TypeId} {A : Option Addr} {l : List Bool} (h : W.ownsRow base e 1 (.slice A n c) n (l.map Value.bool)) : RdB W W.heap.size A l := by
  have hl := h.1
  rw [List.length_map, Nat.mul_one] at hl
  rcases h.2 with ⟨hv, h0⟩ | ⟨g, cap, cur, hv, hb, hg, _⟩
  · exact .inl (List.eq_nil_of_length_eq_zero (by omega))
  · injection hv with hA
    subst hA
    refine .inr ⟨g, 0, rfl, (Array.getElem?_eq_some_iff.1 hg).1, fun j hj => ?_⟩
    have := h.cells (g := g) rfl j (.bool (l[j]?.getD false)) (by simp [hj])
    rw [Nat.zero_add]
    have hadd : (⟨g, 0, none⟩ : Addr).add j = ⟨g, j, none⟩ := by unfold Addr.add; split <;> simp_all
    rwa [hadd] at this
theorem rdb_cells {w : World} {B : Nat} {x : Addr} {l : List Bool} (h : RdB w B (some x) l) : ∀ j u, (l.map Value.bool)[j]? = some u → w.cell? (x.add j) = some u := by
  intro j u hj
  rcases h with rfl | ⟨b, o, e, _, hc⟩
  · simp at hj
  · injection e with e
    subst e
    have hlt : j < l.length := by
      have := (List.getElem?_eq_some_iff.1 hj).1
      simpa using this
    have hadd : (⟨b, o, none⟩ : Addr).add j = ⟨b, o + j, none⟩ := by unfold Addr.add; split <;> simp_all
    rw [hadd, hc j hlt]
    simp only [List.getElem?_map, List.getElem?_eq_getElem hlt, Option.map_some, Option.getD_some] at hj ⊢
    exact hj
/-- a part of a slice -/
theorem RdB.part {w : World} {B b o : Nat} {l : List Bool} (h : RdB w B (some ⟨b, o, none⟩) l) (lo n : Nat) : RdB w B (some ⟨b, o + lo, none⟩) ((l.drop lo).take n) := by
  rcases h with rfl | ⟨b', o', e, hb, hc⟩
  · exact .inl (by simp)
  · obtain ⟨rfl, rfl⟩ : b = b' ∧ o = o' := by cases e; exact ⟨rfl, rfl⟩
    refine .inr ⟨b, o + lo, rfl, hb, fun j hj => ?_⟩
    rw [List.length_take, List.length_drop] at hj
    rw [Nat.add_assoc, hc (lo + j) (by omega), List.getElem?_take_of_lt (by omega), List.getElem?_drop]
theorem bools_one (l : List Bool) : ∀ u ∈ l.map Value.bool, u.oneCell' = true := fun u hu => by
  obtain ⟨z, _, rfl⟩ := List.mem_map.1 hu
  rfl

/-- A CALL THAT HANDS BACK A SLICE OF BITS OF ITS OWN, in new memory -/
def GivesB (B : Nat) (w : World) (l : List Bool) (en : Ending) (w' : World) : Prop :=
  ∃ A c, en = .returned (.slice A l.length c) ∧ w'.ownsRow B 4 1 (.slice A l.length c) l.length (l.map Value.bool) ∧ Below B w w'
theorem gives_b {B : Nat} {w w' : World} {l : List Bool} {v : Value} {n : Nat} {xs : List Value} (hl : xs = l.map Value.bool) (hn : n = l.length) (h : w'.ownsRow B 4 1 v n xs) (hb : Below B w w') : GivesB B w l (.returned v) w' := by
  subst hl hn
  rcases h.2 with ⟨rfl, h0⟩ | ⟨g, cap, cur, rfl, hg⟩
  · exact ⟨none, 0, by rw [h0], by rw [h0] at h ⊢; exact h, hb⟩
  · exact ⟨_, cap, rfl, h, hb⟩
/-- make([]bool, n) -/
theorem own_made (W : World) (n base : Nat) (hb : base ≤ W.heap.size) (hn : n ≤ maxLen) : (W.alloc (.cells (madeCells #[Value.bool false] n) 4)).ownsRow base 4 1 (.slice (some ⟨W.heap.size, 0, none⟩) n n) n ((List.replicate n false).map Value.bool) := by
  have hs : (madeCells #[Value.bool false] n).size = n := size_madeCells _ _
  refine ⟨by simp, .inr ⟨W.heap.size, n, _, rfl, hb, heap_alloc_new W _, Nat.le_refl _, hn, by rw [hs, Nat.mul_one], ?_⟩⟩
  apply List.ext_getElem?
  intro i
  by_cases hi : i < n
  · rw [List.getElem?_take_of_lt (by omega)]
    simp [madeCells, hi, Nat.mod_one]
  · rw [List.getElem?_eq_none (by rw [List.length_take]; simp; omega), List.getElem?_eq_none (by simp; omega)]
/-- append(out, x...), x a slice of bits, nil let in -/
theorem wpList_append_b {P : Program} (w : World) {ops : Array Oper} {rest : List Oper} {o : Oper} {a : Act} {Q : Exit → Act → World → Prop} (hgd : o.guard = none) (s x : Operand) (t : TypeId)
    (ho : o.op = .call { callee := .builtin .append, args := #[s, x], argTypes := #[t, t] })
    (base : Nat) (e : TypeId) (i : TypeInfo) (z : Value) (size bytes : Nat) (ht : P.underlying t = some (.slice e)) (hi : P.info? e = some i) (hz : i.zero = some z)
    (hsize : i.size = size) (hby : i.bytes = bytes) (hzs : z.cells.size = size) (hs1 : size = 1) (hsz : 0 < size)
    (v : Value) (n : Nat) (xs : List Value) (hs : a.eval s = v) (hown : w.ownsRow base e size v n xs)
    (A : Option Addr) (m c : Nat) (zs : List Bool) (hx : a.eval x = .slice A m c) (hm : m = zs.length) (hA : A = none → c = 0) (hc : zs.length ≤ c) (hr : RdB w w.heap.size A zs)
    (h63 : n + m ≤ maxLen) (hbytes : (n + m) * bytes ≤ 140737488355328) (hbase : base ≤ w.heap.size)
    (h : ∀ v' w', w'.ownsRow base e size v' (n + m) (xs ++ zs.map Value.bool) → w.grownBy w' v.ownBlock → wpList P ops Q rest (a.put o.dst v') w') : wpList P ops Q (o :: rest) a w := by
  subst hm hs1
  cases A with
  | none =>
    obtain rfl : c = 0 := hA rfl
    obtain rfl : zs = [] := List.eq_nil_of_length_eq_zero (by omega)
    exact wpList_append_own_none hgd s x t ho base e i 1 ht hi v n xs hs hown hx (h v w (by simpa using hown) ⟨rfl, rfl, rfl, Nat.le_refl _, fun _ _ _ => rfl⟩)
  | some ad =>
    exact wpList_append_own w hgd s x t ho base e i z 1 bytes ht hi hz hsize hby hzs hsz v n xs hs hown ad zs.length c (zs.map Value.bool) hx (by simp) (rdb_cells hr) (bools_one _) h63 hbytes hbase
      (fun v' w' h2 h3 _ => h v' w' h2 h3)
end Go.Proofs.Ytcpjchfgiogmeaa
