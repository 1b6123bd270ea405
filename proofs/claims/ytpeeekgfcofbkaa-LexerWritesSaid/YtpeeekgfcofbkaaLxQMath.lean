/-
  QUOTING AND READING: the tokens of what Quote writes.
-/
import Derived.Test.YtpeeekgfcofbkaaLxLives
namespace Go.Proofs.Ytpeeekgfcofbkaa
open Go.RowKit

theorem dg_check : ((List.range 16).all fun d => inR HEX (dg ((d : Nat) : Int)) && decide (hv (dg ((d : Nat) : Int)) = (d : Int))) = true := by kernel_rfl
theorem dg_hex {d : Int} (h : 0 ≤ d ∧ d < 16) : inR HEX (dg d) = true ∧ hv (dg d) = d := by
  have h1 := List.all_eq_true.1 dg_check d.toNat (List.mem_range.2 (by omega))
  rw [show ((d.toNat : Nat) : Int) = d by omega] at h1
  simpa using h1
theorem qi_item {c : Nat} (hc : c < 256) (rest : List Int) : ∃ h t, qi (c : Int) ++ rest = h :: t ∧ h ≠ 34 ∧ itemF (h :: t) = ((c : Int), (qi (c : Int)).length, 0) ∧ 1 ≤ (qi (c : Int)).length ∧ (qi (c : Int)).length ≤ 4 := by
  have hp := plain_in hc
  by_cases h1 : inR PLAIN (c : Int) = true
  · have hq : qi (c : Int) = [(c : Int)] := by unfold qi; rw [if_pos h1]
    rw [hq]
    refine ⟨c, rest, rfl, ?_, ?_, by simp, by simp⟩
    · rintro e
      rw [hp] at h1
      simp at h1
      omega
    · rw [itemF_cons, if_pos h1]
      rfl
  · have h92 : inR PLAIN 92 = false := by decide
    by_cases h2 : (c : Int) = 34 ∨ (c : Int) = 92
    · have hq : qi (c : Int) = [92, (c : Int)] := by unfold qi; rw [if_neg h1, if_pos h2]
      rw [hq]
      refine ⟨92, (c : Int) :: rest, rfl, by decide, ?_, by simp, by simp⟩
      rw [itemF_cons, if_neg (by rw [h92]; decide), if_neg (by decide), itemG_cons, if_pos h2]
      rfl
    · have hq : qi (c : Int) = [92, 120, dg ((c : Int) / 16), dg ((c : Int) % 16)] := by unfold qi; rw [if_neg h1, if_neg h2]
      obtain ⟨a1, a2⟩ := dg_hex (d := (c : Int) / 16) (by omega)
      obtain ⟨b1, b2⟩ := dg_hex (d := (c : Int) % 16) (by omega)
      rw [hq]
      refine ⟨92, 120 :: dg ((c : Int) / 16) :: dg ((c : Int) % 16) :: rest, rfl, by decide, ?_, by simp, by simp⟩
      rw [itemF_cons, if_neg (by rw [h92]; decide), if_neg (by decide), itemG_cons, if_neg (by decide), if_pos rfl]
      show (if inR HEX (dg ((c : Int) / 16)) then (if inR HEX (dg ((c : Int) % 16)) then (((0 * 16 + hv (dg ((c : Int) / 16))) * 16 + hv (dg ((c : Int) % 16)), 4, 0) : Int × Nat × Int) else (0, 0, 2)) else (0, 0, 2)) = _
      rw [if_pos a1, if_pos b1, a2, b2]
      refine Prod.ext ?_ rfl
      show (0 * 16 + (c : Int) / 16) * 16 + (c : Int) % 16 = (c : Int)
      omega
theorem qd_quote : ∀ (l : List Int), Bytes8 l → ∀ (f i : Nat) (acc rest : List Int), (l.flatMap qi ++ 34 :: rest).length ≤ f → qdGo f i acc (l.flatMap qi ++ 34 :: rest) = (⟨5, acc ++ l, 0⟩, i + (l.flatMap qi).length + 1, 0)
  | [], _, 0, i, acc, rest, hf => by simp at hf
  | [], _, f + 1, i, acc, rest, hf => by
    show (if (34 : Int) = 34 then _ else _ : Tk × Nat × Int) = _
    rw [if_pos rfl, List.append_nil]
    rfl
  | c :: l, h8, f, i, acc, rest, hf => by
    obtain ⟨c, rfl⟩ : ∃ n : Nat, c = (n : Int) := ⟨c.toNat, by have := h8 c (by simp); omega⟩
    have hc : c < 256 := by have := h8 (c : Int) (by simp); omega
    have hsplit : ((c : Int) :: l).flatMap qi ++ 34 :: rest = qi (c : Int) ++ (l.flatMap qi ++ 34 :: rest) := by simp
    have hlen : (((c : Int) :: l).flatMap qi).length = (qi (c : Int)).length + (l.flatMap qi).length := by simp
    rw [hsplit] at hf ⊢
    obtain ⟨h, t, e1, e2, e3, e4, e5⟩ := qi_item hc (l.flatMap qi ++ 34 :: rest)
    have hdrop : (h :: t).drop (qi (c : Int)).length = l.flatMap qi ++ 34 :: rest := by rw [← e1]; exact List.drop_left' rfl
    rw [List.length_append] at hf
    rw [e1]
    cases f with
    | zero => omega
    | succ f =>
      show (if h = 34 then _ else if (itemF (h :: t)).2.2 = 2 then _ else if (itemF (h :: t)).2.2 = 3 then _ else qdGo f (i + (itemF (h :: t)).2.1) (acc ++ [(itemF (h :: t)).1]) ((h :: t).drop (itemF (h :: t)).2.1) : Tk × Nat × Int) = _
      rw [e3, if_neg e2, if_neg (by show ¬ (0 : Int) = 2; decide), if_neg (by show ¬ (0 : Int) = 3; decide)]
      show qdGo f (i + (qi (c : Int)).length) (acc ++ [(c : Int)]) ((h :: t).drop (qi (c : Int)).length) = _
      rw [hdrop, qd_quote l (fun z hz => h8 z (by simp [hz])) f _ _ rest (by omega), hlen, List.append_assoc]
      refine Prod.ext rfl (Prod.ext ?_ rfl)
      show i + (qi (c : Int)).length + (l.flatMap qi).length + 1 = i + ((qi (c : Int)).length + (l.flatMap qi).length) + 1
      omega
theorem quote_len (l : List Int) : (quoteL l).length = (l.flatMap qi).length + 2 := by unfold quoteL; simp
theorem first_quote {l : List Int} (h8 : Bytes8 l) : firstF (quoteL l) = (⟨5, l, 0⟩, (quoteL l).length, 0) := by
  show firstF (34 :: (l.flatMap qi ++ [34])) = _
  rw [first_cons, if_neg (by decide), if_neg (by decide), if_pos rfl, qd_quote l h8 _ _ _ [] (Nat.le_refl _), quote_len]
  refine Prod.ext rfl (Prod.ext ?_ rfl)
  show 1 + (l.flatMap qi).length + 1 = (l.flatMap qi).length + 2
  omega
theorem gp_quote (l : List Int) : gp false (quoteL l) = 0 := by
  show gp false (34 :: (l.flatMap qi ++ [34])) = 0
  rw [gp_cons, if_neg (by decide), if_neg (by decide)]
theorem nx_quote {l : List Int} (h8 : Bytes8 l) : nxT (quoteL l) 0 = (⟨5, l, 0⟩, (quoteL l).length, 0) := by
  unfold nxT
  rw [List.drop_zero, gp_quote, Nat.add_zero, List.drop_zero, first_quote h8]
  simp
theorem nx_end (q : List Int) : nxT q q.length = (⟨6, [], q.length⟩, q.length, 0) := by
  have h0 : gp false (q.drop q.length) = 0 := by rw [List.drop_length]; rfl
  unfold nxT
  rw [h0, Nat.add_zero, List.drop_length]
  show ((⟨6, [], 0 + q.length⟩, q.length + 0, 0) : Tk × Nat × Int) = _
  rw [Nat.zero_add, Nat.add_zero]
theorem yl_quote {l : List Int} (h8 : Bytes8 l) {n : Nat} (hn : n = (quoteL l).length) : yl (n + 1) (quoteL l) 0 = [(⟨5, l, 0⟩, 0)] ++ [(⟨6, [], n⟩, 0)] := by
  have h2 := quote_len l
  obtain ⟨f, rfl⟩ : ∃ f, n = f + 1 := ⟨n - 1, by omega⟩
  show ((nxT (quoteL l) 0).1, (nxT (quoteL l) 0).2.2) :: (if (nxT (quoteL l) 0).2.2 ≠ 0 ∨ (nxT (quoteL l) 0).1.k = 6 then [] else yl (f + 1) (quoteL l) (nxT (quoteL l) 0).2.1) = _
  rw [nx_quote h8, if_neg (fun h => h.elim (fun h => h rfl) (fun h => by have h5 : (5 : Int) = 6 := h; omega))]
  show (_ : Tk × Int) :: (((nxT (quoteL l) (quoteL l).length).1, (nxT (quoteL l) (quoteL l).length).2.2) :: (if (nxT (quoteL l) (quoteL l).length).2.2 ≠ 0 ∨ (nxT (quoteL l) (quoteL l).length).1.k = 6 then [] else _)) = _
  rw [nx_end, if_pos (.inr rfl), hn]
  rfl
theorem quote_bytes {l : List Int} (h8 : Bytes8 l) : Bytes8 (quoteL l) := by
  have hq : ∀ c ∈ l, ∀ z ∈ qi c, 0 ≤ z ∧ z < 256 := fun c hc z hz => by
    obtain ⟨h1, h2⟩ := h8 c hc
    unfold qi at hz
    split at hz
    · obtain rfl : z = c := by simpa using hz
      omega
    · split at hz
      · rcases List.mem_cons.1 hz with rfl | hz
        · decide
        · obtain rfl : z = c := by simpa using hz
          omega
      · have hd : ∀ d : Int, 0 ≤ d ∧ d < 16 → 0 ≤ dg d ∧ dg d < 256 := fun d hd => by unfold dg; split <;> omega
        simp only [List.mem_cons, List.not_mem_nil, or_false] at hz
        rcases hz with rfl | rfl | rfl | rfl
        · decide
        · decide
        · exact hd _ (by omega)
        · exact hd _ (by omega)
  intro z hz
  unfold quoteL at hz
  rcases List.mem_cons.1 hz with rfl | hz
  · decide
  · rcases List.mem_append.1 hz with hz | hz
    · obtain ⟨c, hc, hz⟩ := List.mem_flatMap.1 hz
      exact hq c hc z hz
    · obtain rfl : z = 34 := by simpa using hz
      decide
theorem quote_zeros : ∀ n : Nat, (quoteL (List.replicate n 0)).length = 4 * n + 2 := by
  intro n
  rw [quote_len]
  have h : ∀ n : Nat, ((List.replicate n (0 : Int)).flatMap qi).length = 4 * n := fun n => by
    induction n with
    | zero => rfl
    | succ n ih =>
      rw [List.replicate_succ, List.flatMap_cons, List.length_append, ih]
      show 4 + 4 * n = _
      omega
  rw [h]
theorem quote_short {l : List Int} (h8 : Bytes8 l) : (quoteL l).length ≤ 4 * l.length + 2 := by
  rw [quote_len]
  have h : ∀ l : List Int, Bytes8 l → (l.flatMap qi).length ≤ 4 * l.length := fun l => by
    induction l with
    | nil => intro _; exact Nat.zero_le _
    | cons c l ih =>
      intro h8
      have h1 := ih (fun z hz => h8 z (by simp [hz]))
      obtain ⟨c, rfl⟩ : ∃ n : Nat, c = (n : Int) := ⟨c.toNat, by have := h8 c (by simp); omega⟩
      have hc : c < 256 := by have := h8 (c : Int) (by simp); omega
      obtain ⟨_, _, _, _, _, _, h5⟩ := qi_item hc []
      rw [List.flatMap_cons, List.length_append, List.length_cons]
      omega
  have := h l h8
  omega
end Go.Proofs.Ytpeeekgfcofbkaa
