/-
  AN APPEND of one token, where it stands.
-/
import Derived.Test.YtpeeekgfcofbkaaLxTokM
import Derived.Test.YtpeeekgfcofbkaaLxPiece
namespace Go.Proofs.Ytpeeekgfcofbkaa
open Go.RowKit

theorem tkc_snoc (l : List Tk) (y : Tk) : tkC (l ++ [y]) = tkC l ++ y.cells := by unfold tkC; rw [List.flatMap_append]; simp
theorem wpList_append_tk {P : Program} (w : World) {ops : Array Oper} {rest : List Oper} {o : Oper} {a : Act} {Q : Exit → Act → World → Prop} (hgd : o.guard = none) (s x : Operand) (t : TypeId)
    (ho : o.op = .call { callee := .builtin .append, args := #[s, x], argTypes := #[t, t] })
    (base : Nat) (e : TypeId) (i : TypeInfo) (z : Value) (bytes : Nat) (ht : P.underlying t = some (.slice e)) (hi : P.info? e = some i) (hz : i.zero = some z)
    (hsize : i.size = 3) (hby : i.bytes = bytes) (hzs : z.cells.size = 3)
    (v : Value) (n : Nat) (l : List Tk) (hs : a.eval s = v) (hown : w.ownsRow base e 3 v n (tkC l))
    (g c : Nat) (y : Tk) (hx : a.eval x = .slice (some ⟨g, 0, none⟩) 1 c) (hr : TkAt w g 0 y)
    (h63 : n + 1 ≤ maxLen) (hbytes : (n + 1) * bytes ≤ 140737488355328) (hbase : base ≤ w.heap.size)
    (h : ∀ v' w', w'.ownsRow base e 3 v' (n + 1) (tkC (l ++ [y])) → w.grownBy w' v.ownBlock → wpList P ops Q rest (a.put o.dst v') w') : wpList P ops Q (o :: rest) a w := by
  refine wpList_append_own w hgd s x t ho base e i z 3 bytes ht hi hz hsize hby hzs (by decide) v n _ hs hown ⟨g, 0, none⟩ 1 c y.cells hx rfl
    (fun j u hj => by
      have hadd : (⟨g, 0, none⟩ : Addr).add j = ⟨g, j, none⟩ := by unfold Addr.add; split <;> simp_all
      rw [hadd]
      obtain ⟨r1, r2, r3⟩ := hr
      match j, hj with
      | 0, hj => rw [← hj]; exact r1
      | 1, hj => rw [← hj]; exact r2
      | 2, hj => rw [← hj]; exact r3
      | j + 3, hj => cases hj)
    (by intro u hu; simp only [Tk.cells, List.mem_cons, List.not_mem_nil, or_false] at hu; rcases hu with rfl | rfl | rfl <;> rfl) h63 hbytes hbase
    (fun v' w' h2 h3 _ => h v' w' (by rw [tkc_snoc]; exact h2) h3)
/-- the spaces of the reference -/
theorem space_in {c : Int} (h : 0 ≤ c ∧ c < 256) : memI c [9, 10, 13, 32] = inR SP c := in_in h (by kernel_rfl)
theorem bare_in {c : Int} (h : 0 ≤ c ∧ c < 256) : memI c (LET ++ DIG ++ [45, 35]) = inR BARE c := in_in h (by kernel_rfl)
/-- a word at the place, read as the reference reads it -/
theorem nx_word {l : List Int} {i : Nat} {c : Int} {r : List Int} (hd : l.drop i = c :: r) (_ : Bytes8 (c :: r)) (hc : inR BARE c = true) :
    nxT l i = if (formF ((c :: r).take (spanN BARE (c :: r)))).2 = 0 then (⟨(formF ((c :: r).take (spanN BARE (c :: r)))).1, (c :: r).take (spanN BARE (c :: r)), i⟩, i + spanN BARE (c :: r), 0) else (⟨0, [], i⟩, i, (formF ((c :: r).take (spanN BARE (c :: r)))).2) := by
  have hb : (97 ≤ c ∧ c ≤ 122) ∨ (48 ≤ c ∧ c ≤ 57) ∨ c = 45 ∨ c = 35 := by
    have h := hc
    simp [inR, BARE] at h
    omega
  have hsp : inR SP c = false := by simp [inR, SP]; omega
  rw [nx_at hd hsp (by omega), first_cons, if_neg (by omega), if_neg (by omega), if_neg (by omega)]
  unfold bareF
  split
  · rename_i h0
    simp
  · simp
/-- no word, no space and no sign at the place: an error there -/
theorem nx_none {l : List Int} {i : Nat} {c : Int} {r : List Int} (hd : l.drop i = c :: r) (hb : inR BARE c = false) (hs : inR SP c = false) (h : c ≠ 59 ∧ c ≠ 40 ∧ c ≠ 41 ∧ c ≠ 34) : nxT l i = (⟨0, [], i⟩, i, 2) := by
  rw [nx_at hd hs h.1, first_cons, if_neg h.2.1, if_neg h.2.2.1, if_neg h.2.2.2]
  unfold bareF
  rw [span_out hb]
  simp [formF, consN]
end Go.Proofs.Ytpeeekgfcofbkaa
