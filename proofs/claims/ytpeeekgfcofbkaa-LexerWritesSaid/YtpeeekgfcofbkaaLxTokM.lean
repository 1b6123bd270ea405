/-
  THE TOKENS, one step at a time: what the reference's loop needs.
-/
import Derived.Test.YtpeeekgfcofbkaaLxRefQ
namespace Go.Proofs.Ytpeeekgfcofbkaa
open Go.RowKit

/-- a quoted string's reading, moved by d places -/
def qdMove (d : Nat) (V : Tk × Nat × Int) : Tk × Nat × Int := if V.2.2 = 0 then (V.1, V.2.1 + d, 0) else (⟨V.1.k, V.1.t, V.1.p + d⟩, V.2.1, V.2.2)
theorem qd_move (d : Nat) : ∀ (f i : Nat) (acc l : List Int), qdGo f (i + d) acc l = qdMove d (qdGo f i acc l)
  | 0, i, acc, l => by unfold qdMove; rfl
  | f + 1, i, acc, [] => by unfold qdMove; rfl
  | f + 1, i, acc, c :: r => by
    show (if c = 34 then (⟨5, acc, 0⟩, i + d + 1, 0) else if (itemF (c :: r)).2.2 = 2 then (⟨0, [], i + d⟩, 0, 2) else if (itemF (c :: r)).2.2 = 3 then (⟨0, [], i + d + (c :: r).length⟩, 0, 3) else qdGo f (i + d + (itemF (c :: r)).2.1) (acc ++ [(itemF (c :: r)).1]) ((c :: r).drop (itemF (c :: r)).2.1) : Tk × Nat × Int)
      = qdMove d (if c = 34 then (⟨5, acc, 0⟩, i + 1, 0) else if (itemF (c :: r)).2.2 = 2 then (⟨0, [], i⟩, 0, 2) else if (itemF (c :: r)).2.2 = 3 then (⟨0, [], i + (c :: r).length⟩, 0, 3) else qdGo f (i + (itemF (c :: r)).2.1) (acc ++ [(itemF (c :: r)).1]) ((c :: r).drop (itemF (c :: r)).2.1))
    split
    · unfold qdMove
      refine Prod.ext rfl (Prod.ext ?_ rfl)
      show i + d + 1 = i + 1 + d
      omega
    · split
      · rfl
      · split
        · unfold qdMove
          refine Prod.ext ?_ rfl
          show (⟨0, [], i + d + (c :: r).length⟩ : Tk) = ⟨0, [], i + (c :: r).length + d⟩
          congr 1
          omega
        · rw [show i + d + (itemF (c :: r)).2.1 = i + (itemF (c :: r)).2.1 + d by omega]
          exact qd_move d f _ _ _
/-- the next token does not change by a space before it -/
theorem nx_space {l : List Int} {i : Nat} {c : Int} (hd : l.drop i = c :: l.drop (i + 1)) (hc : inR SP c = true) : nxT l i = nxT l (i + 1) := by
  have h : gp false (l.drop i) = gp false (l.drop (i + 1)) + 1 := by rw [hd, gp_cons, if_pos hc]
  unfold nxT
  rw [h, show i + (gp false (l.drop (i + 1)) + 1) = i + 1 + gp false (l.drop (i + 1)) by omega]
/-- nor by a comment -/
theorem nx_gap {l : List Int} {i m : Nat} (h : gp false (l.drop i) = m + gp false (l.drop (i + m))) : nxT l i = nxT l (i + m) := by
  unfold nxT
  rw [h, show i + (m + gp false (l.drop (i + m))) = i + m + gp false (l.drop (i + m)) by omega]
theorem nx_comment {l : List Int} {i : Nat} (h : [59].isPrefixOf (l.drop i) = true) : nxT l i = nxT l (i + nlN 10 (l.drop i)) := by
  obtain ⟨_, h2⟩ := gp_com h
  refine nx_gap ?_
  rw [h2, ← List.drop_drop]
  split
  · rfl
  · have hn := nl_le 10 (l.drop i)
    have e : nlN 10 (l.drop i) = (l.drop i).length := by omega
    rw [e, List.drop_length]
    rfl
theorem yl_step {f : Nat} {l : List Int} {i j : Nat} (h : nxT l i = nxT l j) : yl f l i = yl f l j := by
  cases f with
  | zero => rfl
  | succ f =>
    show ((nxT l i).1, (nxT l i).2.2) :: (if (nxT l i).2.2 ≠ 0 ∨ (nxT l i).1.k = 6 then [] else yl f l (nxT l i).2.1) = _
    rw [h]
    rfl
theorem yl_one {f : Nat} {l : List Int} {i : Nat} : yl (f + 1) l i = ((nxT l i).1, (nxT l i).2.2) :: (if (nxT l i).2.2 ≠ 0 ∨ (nxT l i).1.k = 6 then [] else yl f l (nxT l i).2.1) := rfl
/-- a token that begins at the place itself -/
theorem nx_at {l : List Int} {i : Nat} {c : Int} {r : List Int} (hd : l.drop i = c :: r) (hc : inR SP c = false) (h59 : c ≠ 59) :
    nxT l i = (⟨(firstF (c :: r)).1.k, (firstF (c :: r)).1.t, (firstF (c :: r)).1.p + i⟩, i + (firstF (c :: r)).2.1, (firstF (c :: r)).2.2) := by
  have h : gp false (l.drop i) = 0 := by rw [hd, gp_cons, if_neg (by rw [hc]; decide), if_neg h59]
  unfold nxT
  rw [h, Nat.add_zero, hd]
theorem nx_open {l : List Int} {i : Nat} {r : List Int} (hd : l.drop i = 40 :: r) : nxT l i = (⟨0, [], i⟩, i + 1, 0) := by
  rw [nx_at hd (by decide) (by decide), first_cons, if_pos rfl]
  simp
theorem nx_close {l : List Int} {i : Nat} {r : List Int} (hd : l.drop i = 41 :: r) : nxT l i = (⟨1, [], i⟩, i + 1, 0) := by
  rw [nx_at hd (by decide) (by decide), first_cons, if_neg (by decide), if_pos rfl]
  simp
theorem nx_over {l : List Int} {i : Nat} (h : l.drop i = []) : nxT l i = (⟨6, [], i⟩, i, 0) := by
  have h0 : gp false (l.drop i) = 0 := by rw [h]; rfl
  unfold nxT
  rw [h0, Nat.add_zero, h]
  show ((⟨6, [], 0 + i⟩, i + 0, 0) : Tk × Nat × Int) = _
  rw [Nat.zero_add, Nat.add_zero]
/-- a quoted string at the place, read with absolute places -/
theorem nx_quoted {l : List Int} {i n : Nat} {r : List Int} (hd : l.drop i = 34 :: r) (hn : r.length ≤ n) (V : Tk × Nat × Int) (hV : V = qdGo n (i + 1) [] r) :
    (V.2.2 = 0 → nxT l i = (⟨V.1.k, V.1.t, V.1.p + i⟩, V.2.1, 0)) ∧ (V.2.2 ≠ 0 → (nxT l i).1.p = V.1.p ∧ (nxT l i).2.2 = V.2.2) := by
  have h1 : V = qdMove i (qdGo r.length 1 [] r) := by rw [hV, qd_fuel (i + 1) [] r hn (Nat.le_refl _), Nat.add_comm i 1, qd_move]
  have h2 : nxT l i = (⟨(qdGo r.length 1 [] r).1.k, (qdGo r.length 1 [] r).1.t, (qdGo r.length 1 [] r).1.p + i⟩, i + (qdGo r.length 1 [] r).2.1, (qdGo r.length 1 [] r).2.2) := by
    rw [nx_at hd (by decide) (by decide), first_cons, if_neg (by decide), if_neg (by decide), if_pos rfl]
  rw [h2]
  generalize qdGo r.length 1 [] r = q at *
  unfold qdMove at h1
  by_cases h0 : q.2.2 = 0
  · rw [if_pos h0] at h1
    subst h1
    exact ⟨fun _ => by rw [h0, Nat.add_comm i], fun h => absurd rfl h⟩
  · rw [if_neg h0] at h1
    subst h1
    exact ⟨fun h => absurd h h0, fun _ => ⟨rfl, rfl⟩⟩
/-- steps beyond the text's length change nothing -/
theorem yl_fuel : ∀ (f g : Nat) (l : List Int) (i : Nat), Bytes8 l → i ≤ l.length → l.length + 1 ≤ i + f → l.length + 1 ≤ i + g → yl f l i = yl g l i
  | 0, g, l, i, h8, hi, hf, hg => by omega
  | f + 1, 0, l, i, h8, hi, hf, hg => by omega
  | f + 1, g + 1, l, i, h8, hi, hf, hg => by
    rw [yl_one, yl_one]
    split
    · rfl
    · rename_i h
      have h1 : (nxT l i).2.2 = 0 := Decidable.byContradiction fun h2 => h (.inl h2)
      have h2 := nx_pos l i h1 (fun h3 => h (.inr h3))
      have h3 : (nxT l i).2.1 ≤ l.length := by
        have h4 := gp_le (l.drop i) false
        rw [List.length_drop] at h4
        have h5 := first_size (l := l.drop (i + gp false (l.drop i))) (fun z hz => h8 z (List.mem_of_mem_drop hz))
        rw [List.length_drop] at h5
        show i + gp false (l.drop i) + _ ≤ _
        omega
      rw [yl_fuel f g l _ h8 h3 (by omega) (by omega)]
end Go.Proofs.Ytpeeekgfcofbkaa
