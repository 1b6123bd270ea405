/-
  THE TOKENS of two quoted strings with a space between them.
-/
import Derived.Test.YtpeeekgfcofbkaaLxQMath
namespace Go.Proofs.Ytpeeekgfcofbkaa
open Go.RowKit

theorem first_quote_on {l : List Int} (h8 : Bytes8 l) (rest : List Int) : firstF (quoteL l ++ rest) = (⟨5, l, 0⟩, (quoteL l).length, 0) := by
  have e : quoteL l ++ rest = 34 :: (l.flatMap qi ++ 34 :: rest) := by unfold quoteL; simp
  rw [e, first_cons, if_neg (by decide), if_neg (by decide), if_pos rfl, qd_quote l h8 _ _ _ rest (Nat.le_refl _), quote_len]
  refine Prod.ext rfl (Prod.ext ?_ rfl)
  show 1 + (l.flatMap qi).length + 1 = (l.flatMap qi).length + 2
  omega
theorem gp_quote_on (l rest : List Int) : gp false (quoteL l ++ rest) = 0 := by
  show gp false (34 :: ((l.flatMap qi ++ [34]) ++ rest)) = 0
  rw [gp_cons, if_neg (by decide), if_neg (by decide)]
/-- a quoted string behind a place -/
theorem nx_quote_at {q l rest : List Int} {o k : Nat} (h8 : Bytes8 l) (hd : q.drop o = List.replicate k 32 ++ (quoteL l ++ rest)) : nxT q o = (⟨5, l, o + k⟩, o + k + (quoteL l).length, 0) := by
  have hg : ∀ k : Nat, gp false (List.replicate k 32 ++ (quoteL l ++ rest)) = k := fun k => by
    induction k with
    | zero => exact gp_quote_on l rest
    | succ k ih =>
      rw [List.replicate_succ, List.cons_append, gp_cons, if_pos (by decide), ih]
  have hd2 : q.drop (o + k) = quoteL l ++ rest := by
    rw [← List.drop_drop, hd, List.drop_left' (by simp)]
  unfold nxT
  rw [hd, hg, hd2, first_quote_on h8]
  simp only [Nat.zero_add]
theorem yl_two {b d : List Int} (hb : Bytes8 b) (hd : Bytes8 d) {q : List Int} (hq : q = quoteL b ++ ([32] ++ quoteL d)) {n : Nat} (hn : n = q.length) :
    yl (n + 1) q 0 = [(⟨5, b, 0⟩, 0), (⟨5, d, (quoteL b).length + 1⟩, 0)] ++ [(⟨6, [], n⟩, 0)] := by
  have h2 := quote_len b
  have h3 := quote_len d
  have hl : q.length = (quoteL b).length + 1 + (quoteL d).length := by rw [hq]; simp; omega
  obtain ⟨f, rfl⟩ : ∃ f, n = f + 2 := ⟨n - 2, by omega⟩
  have e1 : nxT q 0 = (⟨5, b, 0⟩, (quoteL b).length, 0) := by
    rw [nx_quote_at (k := 0) (rest := [32] ++ quoteL d) hb (by rw [hq]; rfl)]
    simp
  have e2 : nxT q (quoteL b).length = (⟨5, d, (quoteL b).length + 1⟩, f + 2, 0) := by
    rw [nx_quote_at (k := 1) (rest := []) hd (by rw [hq, List.drop_left' rfl, List.append_nil]; rfl), hn, hl]
  have e3 : nxT q (f + 2) = (⟨6, [], f + 2⟩, f + 2, 0) := by rw [hn]; exact nx_end q
  show ((nxT q 0).1, (nxT q 0).2.2) :: (if (nxT q 0).2.2 ≠ 0 ∨ (nxT q 0).1.k = 6 then [] else yl (f + 2) q (nxT q 0).2.1) = _
  rw [e1, if_neg (fun h => h.elim (fun h => h rfl) (fun h => by have h5 : (5 : Int) = 6 := h; omega))]
  show (_ : Tk × Int) :: (((nxT q (quoteL b).length).1, (nxT q (quoteL b).length).2.2) :: (if (nxT q (quoteL b).length).2.2 ≠ 0 ∨ (nxT q (quoteL b).length).1.k = 6 then [] else yl (f + 1) q (nxT q (quoteL b).length).2.1)) = _
  rw [e2, if_neg (fun h => h.elim (fun h => h rfl) (fun h => by have h5 : (5 : Int) = 6 := h; omega))]
  show (_ : Tk × Int) :: (_ : Tk × Int) :: (((nxT q (f + 2)).1, (nxT q (f + 2)).2.2) :: (if (nxT q (f + 2)).2.2 ≠ 0 ∨ (nxT q (f + 2)).1.k = 6 then [] else _)) = _
  rw [e3, if_pos (.inr rfl)]
  rfl
end Go.Proofs.Ytpeeekgfcofbkaa
