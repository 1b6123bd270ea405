/-
  THE REFERENCE's Plain is the form.
-/
import Derived.Test.YtpeeekgfcofbkaaLxRefP
namespace Go.Proofs.Ytpeeekgfcofbkaa
open Go.RowKit

theorem span_all (R : List Int) : ∀ l : List Int, (spanN R l == l.length) = l.all (inR R)
  | [] => rfl
  | c :: l => by
    have ih := span_all R l
    cases h : inR R c
    · rw [span_out h, List.all_cons, h]
      simp
    · rw [span_in h, List.all_cons, h, ← ih]
      simp
theorem all_in {l o R : List Int} (h8 : Bytes8 l) (hc : ((List.range 256).all fun c => memI ((c : Nat) : Int) o == inR R ((c : Nat) : Int)) = true) : allI l o = l.all (inR R) := by
  unfold allI
  induction l with
  | nil => rfl
  | cons c l ih =>
    have h1 := h8 c (by simp)
    have h2 := beq_iff_eq.1 (List.all_eq_true.1 hc c.toNat (List.mem_range.2 (by omega)))
    rw [show ((c.toNat : Nat) : Int) = c by omega] at h2
    rw [List.all_cons, List.all_cons, h2, ih (fun z hz => h8 z (by simp [hz]))]
theorem in_in {c : Int} {o R : List Int} (h8 : 0 ≤ c ∧ c < 256) (hc : ((List.range 256).all fun c => memI ((c : Nat) : Int) o == inR R ((c : Nat) : Int)) = true) : memI c o = inR R c := by
  have h2 := beq_iff_eq.1 (List.all_eq_true.1 hc c.toNat (List.mem_range.2 (by omega)))
  rwa [show ((c.toNat : Nat) : Int) = c by omega] at h2
theorem consN_all (R : List Int) {l : List Int} (h : l ≠ []) : consN R l = l.all (inR R) := by
  unfold consN
  rw [span_all]
  cases l with
  | nil => exact absurd rfl h
  | cons c l => rfl
theorem plain_form {l : List Int} (h8 : Bytes8 l) (h0 : l ≠ []) : plF l = if (formF l).2 = 0 then formF l else (0, (formF l).2) := by
  have h82 : Bytes8 (l.drop 2) := fun z hz => h8 z (List.mem_of_mem_drop hz)
  unfold plF formF
  rw [all_in (R := [97, 122, 48, 57, 45, 45]) h8 (by kernel_rfl), all_in (R := [48, 57]) (o := DIG) h8 (by kernel_rfl), all_in (R := [48, 49]) h82 (by kernel_rfl), all_in (R := [48, 57, 97, 102]) h82 (by kernel_rfl),
    consN_all [97, 122, 48, 57, 45, 45] h0, consN_all [48, 57] h0]
  cases l with
  | nil => exact absurd rfl h0
  | cons c l =>
    have hc := h8 c (by simp)
    rw [in_in (R := [97, 122]) (by simpa using hc) (by kernel_rfl)]
    have hcc : (c :: l).getD 0 0 = c := rfl
    rw [hcc]
    have f1 : c = 35 → inR [97, 122] c = false ∧ (c :: l).all (inR [48, 57]) = false ∧ (c :: l).all (inR [97, 122, 48, 57, 45, 45]) = false := fun h => by subst h; exact ⟨rfl, by rw [List.all_cons]; rfl, by rw [List.all_cons]; rfl⟩
    have f2 : inR [97, 122] c = true → (c :: l).all (inR [48, 57]) = false ∧ (c == 35) = false := fun h => by
      have h2 : 97 ≤ c ∧ c ≤ 122 := by simpa [inR] using h
      refine ⟨?_, by rw [beq_eq_false_iff_ne]; omega⟩
      rw [List.all_cons]
      have : inR [48, 57] c = false := by simp [inR]; omega
      rw [this]; rfl
    cases l with
    | nil =>
      have g1 : [35, 98].isPrefixOf [c] = false := by simp [List.isPrefixOf]
      have g2 : [35, 120].isPrefixOf [c] = false := by simp [List.isPrefixOf]
      rw [g1, g2]
      unfold plB limN
      generalize [c].all (inR [97, 122, 48, 57, 45, 45]) = word at *
      generalize [c].all (inR [48, 57]) = whole at *
      generalize inR [97, 122] c = first at *
      by_cases h48 : c = 48
      · subst h48
        cases word <;> cases first <;> cases whole <;> simp_all
      · cases word <;> cases first <;> cases whole <;> simp_all
    | cons d r =>
      have g1 : [35, 98].isPrefixOf (c :: d :: r) = (c == 35 && d == 98) := by simp [List.isPrefixOf, Bool.beq_eq_decide_eq, eq_comm]
      have g2 : [35, 120].isPrefixOf (c :: d :: r) = (c == 35 && d == 120) := by simp [List.isPrefixOf, Bool.beq_eq_decide_eq, eq_comm]
      have g3 : (c :: d :: r).getD 1 0 = d := rfl
      have g4 : (c :: d :: r).drop 2 = r := rfl
      have g5 : ((c :: d :: r) == [48]) = false := by simp
      have g6 : (((c :: d :: r).length : Int) == 1) = false := by rw [beq_eq_false_iff_ne]; simp; omega
      have g7 : consN [48, 49] r = (decide ((2 : Int) < ((c :: d :: r).length : Int)) && r.all (inR [48, 49])) := by
        cases r with
        | nil => rfl
        | cons x r => rw [consN_all _ (by simp), decide_eq_true (by simp; omega)]; rfl
      have g8 : consN [48, 57, 97, 102] r = (decide ((2 : Int) < ((c :: d :: r).length : Int)) && r.all (inR [48, 57, 97, 102])) := by
        cases r with
        | nil => rfl
        | cons x r => rw [consN_all _ (by simp), decide_eq_true (by simp; omega)]; rfl
      have g9 : (d == 98) = true → (d == 120) = false := fun h => by have := beq_iff_eq.1 h; rw [beq_eq_false_iff_ne]; omega
      rw [g1, g2, g3, g4, g5, g6, g7, g8]
      have f1' : (c == 35) = true → inR [97, 122] c = false ∧ (c :: d :: r).all (inR [48, 57]) = false ∧ (c :: d :: r).all (inR [97, 122, 48, 57, 45, 45]) = false := fun h => f1 (beq_iff_eq.1 h)
      unfold plB limN
      clear f1 g1 g2 g3 g4 g5 g6 g7 g8 hcc hc h8 h82 h0
      generalize ((c :: d :: r).length : Int) = n at *
      generalize (c :: d :: r).all (inR [97, 122, 48, 57, 45, 45]) = word at *
      generalize (c :: d :: r).all (inR [48, 57]) = whole at *
      generalize r.all (inR [48, 49]) = bin at *
      generalize r.all (inR [48, 57, 97, 102]) = hex at *
      generalize inR [97, 122] c = first at *
      generalize (c == 48) = z at *
      generalize (c == 35) = a at *
      generalize (d == 98) = b at *
      generalize (d == 120) = x at *
      by_cases n16 : (16 : Int) < n <;> by_cases n13 : (13 : Int) < n <;> by_cases n66 : (66 : Int) < n <;> by_cases n18 : (18 : Int) < n <;> by_cases n2 : (2 : Int) < n <;> simp only [n16, n13, n66, n18, n2, decide_true, decide_false, if_true, if_false] <;> revert f1' f2 g9 <;> cases word <;> cases whole <;> cases first <;> cases a <;> simp <;> (cases b <;> cases x <;> cases bin <;> cases hex <;> cases z <;> simp)
end Go.Proofs.Ytpeeekgfcofbkaa
