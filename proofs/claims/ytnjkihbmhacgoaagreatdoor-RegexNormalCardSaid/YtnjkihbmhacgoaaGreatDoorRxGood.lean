/-
  Valid of the reference and of the program are the same.
-/
import Derived.Test.YtnjkihbmhacgoaaGreatDoorRxEValB
import Derived.Test.YtnjkihbmhacgoaaGreatDoorRxForm
namespace Go.Proofs.YtnjkihbmhacgoaaGreatDoor
open Go.RowKit

theorem len_le_nodes : ∀ s : List Rx, s.length ≤ nodesL s
  | [] => Nat.zero_le _
  | x :: s => by
    have := len_le_nodes s
    have h1 : 1 ≤ nodes x := by cases x; simp [nodes]
    simp only [List.length_cons, nodesL]
    omega
theorem bool5 (a b c d d' e f : Bool) (e1 : (d && c) = (d' && c)) (e2 : (a && b && e) = f) : (a && b && c && d && e) = (d' && c && f) := by
  subst e2; revert e1
  cases a <;> cases b <;> cases c <;> cases d <;> cases d' <;> cases e <;> decide
theorem good_e1 (k l h : Int) (hl : 0 ≤ l) : ((k == 2 || decide (h ≤ 0)) && decide (l ≤ h)) = ((k == 2 || l == 0 && h == 0) && decide (l ≤ h)) := by
  rw [Bool.eq_iff_iff]
  simp only [Bool.and_eq_true, Bool.or_eq_true, beq_iff_eq, decide_eq_true_eq]
  constructor
  · rintro ⟨h1 | h1, h2⟩
    · exact ⟨.inl h1, h2⟩
    · exact ⟨.inr ⟨by omega, by omega⟩, h2⟩
  · rintro ⟨h1 | h1, h2⟩
    · exact ⟨.inl h1, h2⟩
    · exact ⟨.inr (by omega), h2⟩
theorem good_e2 (k : Int) (s : List Rx) (h64 : s.length ≤ 64) : (decide (0 ≤ k ∧ k ≤ 7) && decide (leastK k.toNat ≤ s.length ∧ s.length ≤ mostK k.toNat) && wfL s) = (if k == 0 || k == 1 || k == 2 then s.length == 0 else if k == 6 || k == 7 then s.length == 1 && wfL s else if k == 3 || k == 4 || k == 5 then wfL s else false) := by
  by_cases hk : 0 ≤ k ∧ k ≤ 7
  · obtain ⟨q, rfl⟩ : ∃ q : Nat, k = q := ⟨k.toNat, by omega⟩
    rw [decide_eq_true hk, Int.toNat_natCast]
    have hq : q = 0 ∨ q = 1 ∨ q = 2 ∨ q = 3 ∨ q = 4 ∨ q = 5 ∨ q = 6 ∨ q = 7 := by omega
    have c0 : (decide (0 ≤ s.length ∧ s.length ≤ 0) && wfL s) = (s.length == 0) := by
      cases s with
      | nil => rfl
      | cons x t => simp
    have c64 : (decide (0 ≤ s.length ∧ s.length ≤ 64) && wfL s) = wfL s := by rw [decide_eq_true ⟨Nat.zero_le _, h64⟩, Bool.true_and]
    have c1 : (decide (1 ≤ s.length ∧ s.length ≤ 1) && wfL s) = (s.length == 1 && wfL s) := by
      congr 1
      rw [Bool.eq_iff_iff, decide_eq_true_iff, beq_iff_eq]; omega
    rw [Bool.true_and]
    rcases hq with rfl | rfl | rfl | rfl | rfl | rfl | rfl | rfl
    · exact c0
    · exact c0
    · exact c0
    · exact c64
    · exact c64
    · exact c64
    · exact c1
    · exact c1
  · rw [decide_eq_false hk, Bool.false_and, Bool.false_and]
    have n : ∀ q : Int, 0 ≤ q ∧ q ≤ 7 → (k == q) = false := fun q hq => beq_eq_false_iff_ne.2 (fun e => hk (e ▸ hq))
    rw [n 0 (by decide), n 1 (by decide), n 2 (by decide), n 3 (by decide), n 4 (by decide), n 5 (by decide), n 6 (by decide), n 7 (by decide)]
    rfl
mutual
theorem good_wf {w : World} {S : Nat → Prop} : ∀ (x : Rx) {v : Value}, RtV w S x v → nodes x ≤ 64 → goodR x = wfR x
  | .node k l h s, v, hv, hn => by
    obtain ⟨⟨hk, hl, hh, hsl⟩, A, c, rfl, hc, hA, hs⟩ := hv.parts
    simp only [Rx.kind, Rx.lo, Rx.hi, Rx.kids] at hk hl hh hsl hc hs
    have hn' : nodesL s ≤ 63 := by simp only [nodes] at hn; omega
    have hlen := len_le_nodes s
    have ih := good_wfL s hs (by omega)
    simp only [goodR, wfR, ih]
    exact bool5 _ _ _ _ _ _ _ (good_e1 k l h hl.1) (good_e2 k s (by omega))
theorem good_wfL {w : World} {S : Nat → Prop} : ∀ (s : List Rx) {A : Option Addr}, RtL w S s A → nodesL s ≤ 64 → goodL s = wfL s
  | [], A, h, hn => rfl
  | x :: s, A, h, hn => by
    simp only [RtL] at h
    obtain ⟨b, o, A', c', e, h1, h2, h3, h4⟩ := h
    simp only [nodesL] at hn
    simp only [goodL, wfL, good_wf x h3 (by omega), good_wfL s h4 (by omega)]
end
theorem evalR_eq {w : World} {S : Nat → Prop} {x : Rx} {v : Value} (h : RtV w S x v) : evalR x = validR x := by
  unfold evalR validR
  by_cases h64 : 64 < nodes x
  · rw [if_pos h64, if_pos h64]
  · rw [if_neg h64, if_neg h64, good_wf x h (by omega)]
end Go.Proofs.YtnjkihbmhacgoaaGreatDoor
