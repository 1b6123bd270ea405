/-
  THE WALK of the reference's divided: quotient and remainder, bit by bit.
-/
import Derived.Test.YtcpjchfgiogmeaaBitsTimes
import Derived.Laws.OwnMore
namespace Go.Proofs.Ytcpjchfgiogmeaa
open Go.RowKit

def divQ (n x y : Nat) : Nat := if y = 0 then 2 ^ n - 1 else x / y
def divR (x y : Nat) : Nat := if y = 0 then x else x % y

theorem hp_own {W W' : World} {base : Nat} {e : TypeId} {size n : Nat} {v : Value} {xs : List Value} (h : W.ownsRow base e size v n xs) (hk : ∀ j, base ≤ j → j < W.heap.size → W'.heap[j]? = W.heap[j]?) : W'.ownsRow base e size v n xs := by
  refine ⟨h.1, ?_⟩
  rcases h.2 with h0 | ⟨g, cap, cur, hv, hb, hg, rest⟩
  · exact .inl h0
  · exact .inr ⟨g, cap, cur, hv, hb, (hk g hb (Array.getElem?_eq_some_iff.1 hg).1).trans hg, rest⟩
theorem mt_own (w : World) (t : TypeId) : (w.alloc (.cells #[] t)).ownsRow w.heap.size t 1 (.slice (some ⟨w.heap.size, 0, none⟩) 0 0) 0 [] :=
  ⟨rfl, .inr ⟨_, 0, _, rfl, Nat.le_refl _, heap_alloc_new w _, Nat.le_refl _, by unfold maxLen; omega, rfl, rfl⟩⟩
theorem sl_own {w : World} {base : Nat} {e : TypeId} {size n : Nat} {v : Value} {xs : List Value} (h : w.ownsRow base e size v n xs) : ∃ A c, v = .slice A n c := by
  rcases h.2 with ⟨rfl, h0⟩ | ⟨g, cap, cur, rfl, _⟩
  · exact ⟨none, 0, by rw [h0]⟩
  · exact ⟨_, _, rfl⟩
theorem set_top (j : Nat) (top : List Bool) : (List.replicate (j + 1) false ++ top).set j true = List.replicate j false ++ true :: top := by
  rw [List.replicate_succ', List.append_assoc, List.set_append_right _ _ (by simp)]
  simp
theorem keep_top (j : Nat) (top : List Bool) : List.replicate (j + 1) false ++ top = List.replicate j false ++ false :: top := by
  rw [List.replicate_succ', List.append_assoc]
  rfl
theorem wide_val (b : List Bool) : ofL (b ++ [false]) = ofL b := by
  rw [ofL_append]
  simp [ofL]
/-- one step of the division, on bits -/
theorem div_bits {a b r top : List Bool} {n j : Nat} (hj : j < a.length) (hb : b.length = n) (hr : r.length = n + 1) (h : 0 < ofL b → ofL r = ofL (a.drop (j + 1)) % ofL b ∧ ofL top = ofL (a.drop (j + 1)) / ofL b) :
    (ofL (movedL r 1 a[j]) < ofL (b ++ [false]) → 0 < ofL b → ofL (movedL r 1 a[j]) = ofL (a.drop j) % ofL b ∧ ofL (false :: top) = ofL (a.drop j) / ofL b) ∧
    (¬ ofL (movedL r 1 a[j]) < ofL (b ++ [false]) → 0 < ofL b → ofL (plusL (movedL r 1 a[j]) ((b ++ [false]).map (!·)) true) = ofL (a.drop j) % ofL b ∧ ofL (true :: top) = ofL (a.drop j) / ofL b) := by
  have e1 : ofL (movedL r 1 a[j]) = (2 * ofL r + (a[j]).toNat) % 2 ^ r.length := ofL_up1 r a[j]
  have hbl := ofL_lt b
  have hx := toNat_le a[j]
  have hd := drop_bit a hj
  rw [hr, Nat.pow_succ] at e1
  rw [hb] at hbl
  have small : 0 < ofL b → ofL (movedL r 1 a[j]) = 2 * ofL r + (a[j]).toNat := fun h0 => by
    have hm := Nat.mod_lt (ofL (a.drop (j + 1))) h0
    rw [← (h h0).1] at hm
    rw [e1, Nat.mod_eq_of_lt (by omega)]
  rw [wide_val, hd]
  constructor
  · intro hlt h0
    obtain ⟨h1, h2⟩ := h h0
    have := (div_step (V := ofL (a.drop (j + 1))) h0 hx).1
    rw [← h1, ← h2] at this
    rw [small h0] at hlt ⊢
    have := this hlt
    exact ⟨this.1.symm, by rw [this.2]; simp [ofL]⟩
  · intro hlt h0
    obtain ⟨h1, h2⟩ := h h0
    have := (div_step (V := ofL (a.drop (j + 1))) h0 hx).2
    rw [← h1, ← h2] at this
    have hml : (movedL r 1 a[j]).length = ((b ++ [false]).map (!·)).length := by rw [movedL_length, hr]; simp [hb]
    have hf := ofL_flip (b ++ [false])
    rw [wide_val] at hf
    have hlen : (b ++ [false]).length = n + 1 := by simp [hb]
    rw [hlen, Nat.pow_succ] at hf
    rw [ofL_plus _ _ _ hml, movedL_length, hr, Nat.pow_succ]
    have hm := Nat.mod_lt (ofL (a.drop (j + 1))) h0
    rw [← h1] at hm
    rw [small h0] at hlt ⊢
    have := this (by omega)
    have e := minus_bits (P := 2 ^ n * 2) (r := 2 * ofL r + (a[j]).toNat) (b := ofL b) (f := ofL ((b ++ [false]).map (!·))) (by omega) (by omega) (by omega)
    refine ⟨?_, by rw [this.2]; simp [ofL]⟩
    rw [this.1, Bool.toNat_true]
    exact e
/-- the end of the division -/
theorem div_end {a b r top : List Bool} {n : Nat} (ha : a.length = n) (_ : b.length = n) (ht : top.length = n) (h0 : 0 < ofL b) (h : ofL r = ofL a % ofL b ∧ ofL top = ofL a / ofL b) :
    top = bitsL n (divQ n (ofL a) (ofL b)) ∧ ofL (r.take n) = (divR (ofL a) (ofL b)) % 2 ^ n := by
  have hal := ofL_lt a
  rw [ha] at hal
  unfold divQ divR
  rw [if_neg (by omega), if_neg (by omega)]
  refine ⟨eq_bits ht ?_, ?_⟩
  · rw [h.2, Nat.mod_eq_of_lt (Nat.lt_of_le_of_lt (Nat.div_le_self _ _) hal)]
  · rw [ofL_take, h.1]
theorem div_zero {a b : List Bool} {n : Nat} (ha : a.length = n) (h0 : ofL b = 0) :
    (List.replicate n false).map (!·) = bitsL n (divQ n (ofL a) (ofL b)) ∧ a = bitsL n (divR (ofL a) (ofL b)) := by
  have hal := ofL_lt a
  rw [ha] at hal
  unfold divQ divR
  rw [if_pos h0, if_pos h0]
  refine ⟨eq_bits (by simp) ?_, eq_bits ha (by rw [Nat.mod_eq_of_lt hal])⟩
  have hp : 0 < 2 ^ n := Nat.pow_pos (by decide)
  have e : (List.replicate n false).map (!·) = List.replicate n true := by simp
  rw [e, ofL_replicate, Nat.mod_eq_of_lt (by omega)]
  simp
end Go.Proofs.Ytcpjchfgiogmeaa
