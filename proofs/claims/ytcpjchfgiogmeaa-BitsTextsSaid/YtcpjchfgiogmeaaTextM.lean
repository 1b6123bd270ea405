/-
  PLAIN MATHEMATICS of the texts of values: digits as bytes, the value of a list of digits.
-/
import Derived.Test.YtcpjchfgiogmeaaBitsText
namespace Go.Proofs.Ytcpjchfgiogmeaa
open Go.RowKit

/-- the digit that a byte is, in the base 2 (sz 1) or 16 -/
def dv (sz : Nat) (c : Int) : Option Nat := if 48 ≤ c ∧ c < (if sz = 1 then 50 else 58) then some (c - 48).toNat else if sz ≠ 1 ∧ 97 ≤ c ∧ c < 103 then some (c - 87).toNat else none
theorem dv_lt {sz : Nat} (hs : sz = 1 ∨ sz = 4) {c : Int} {d : Nat} (h : dv sz c = some d) : d < 2 ^ sz := by
  unfold dv at h
  rcases hs with rfl | rfl
  · simp at h; omega
  · simp at h
    split at h
    · simp at h; omega
    · split at h
      · simp at h; omega
      · cases h
theorem dv_dig {sz d : Nat} (hs : sz = 1 ∨ sz = 4) (hd : d < 2 ^ sz) : dv sz (digI d) = some d := by
  unfold dv digI
  rcases hs with rfl | rfl
  · simp at hd
    have : d = 0 ∨ d = 1 := by omega
    rcases this with rfl | rfl <;> decide
  · simp at hd
    have : d = 0 ∨ d = 1 ∨ d = 2 ∨ d = 3 ∨ d = 4 ∨ d = 5 ∨ d = 6 ∨ d = 7 ∨ d = 8 ∨ d = 9 ∨ d = 10 ∨ d = 11 ∨ d = 12 ∨ d = 13 ∨ d = 14 ∨ d = 15 := by omega
    rcases this with rfl | rfl | rfl | rfl | rfl | rfl | rfl | rfl | rfl | rfl | rfl | rfl | rfl | rfl | rfl | rfl <;> decide
theorem dig_dv {sz d : Nat} (hs : sz = 1 ∨ sz = 4) {c : Int} (hd : d < 2 ^ sz) : digI d = c ↔ dv sz c = some d := by
  constructor
  · rintro rfl; exact dv_dig hs hd
  · intro h
    unfold dv at h
    unfold digI
    rcases hs with rfl | rfl
    · simp at h; simp at hd; split <;> omega
    · simp at h; simp at hd
      split at h
      · simp at h; split <;> omega
      · split at h
        · simp at h; split <;> omega
        · cases h
/-- the value of digits, the highest first -/
def valR (sz : Nat) : List Int → Option Nat
  | [] => some 0
  | c :: cs => match dv sz c, valR sz cs with
    | some d, some v => some (d * 2 ^ (sz * cs.length) + v)
    | _, _ => none
theorem valR_bad {sz : Nat} {c : Int} (cs : List Int) (h : dv sz c = none) : valR sz (c :: cs) = none := by simp [valR, h]
theorem valR_bad2 {sz : Nat} (c : Int) {cs : List Int} (h : valR sz cs = none) : valR sz (c :: cs) = none := by
  rw [valR, h]
  cases dv sz c <;> rfl
theorem valR_none {sz : Nat} : ∀ (k : Nat) (cs : List Int), valR sz (cs.drop k) = none → valR sz cs = none
  | 0, cs, h => by simpa using h
  | k + 1, [], h => by simpa using h
  | k + 1, c :: cs, h => valR_bad2 c (valR_none k cs (by simpa using h))
theorem valR_step {sz : Nat} {c : Int} {cs : List Int} {d v : Nat} (h1 : dv sz c = some d) (h2 : valR sz cs = some v) : valR sz (c :: cs) = some (d * 2 ^ (sz * cs.length) + v) := by
  simp [valR, h1, h2]
theorem valR_lt {sz : Nat} (hs : sz = 1 ∨ sz = 4) : ∀ (cs : List Int) (v : Nat), valR sz cs = some v → v < 2 ^ (sz * cs.length)
  | [], v, h => by simp [valR] at h; subst h; simp
  | c :: cs, v, h => by
    rw [valR] at h
    cases h1 : dv sz c with
    | none => rw [h1] at h; simp at h
    | some d =>
      cases h2 : valR sz cs with
      | none => rw [h1, h2] at h; simp at h
      | some x =>
        rw [h1, h2] at h
        simp at h
        have hd := dv_lt hs h1
        have hx := valR_lt hs cs x h2
        subst h
        rw [List.length_cons, Nat.mul_add, Nat.mul_one, Nat.pow_add]
        generalize 2 ^ (sz * cs.length) = P at *
        have : (d + 1) * P ≤ 2 ^ sz * P := Nat.mul_le_mul_right _ hd
        rw [Nat.add_mul, Nat.one_mul] at this
        rw [Nat.mul_comm P]
        omega
/-- the value, the width and the error of a text -/
def finP (sz : Nat) (cs : List Int) : Nat × Nat × Int :=
  if cs.length = 0 ∨ 64 < sz * cs.length then (0, 0, 2) else match valR sz cs with
    | some v => (v, sz * cs.length, 0)
    | none => (0, 0, 2)
def parseV (l : List Int) : Nat × Nat × Int :=
  if l.length < 3 then (0, 0, 2) else if l[0]? ≠ some 35 then (0, 0, 2) else if l[1]? = some 98 then finP 1 (l.drop 2) else if l[1]? = some 120 then finP 4 (l.drop 2) else (0, 0, 2)
/-- Text, read again -/
theorem drop_at {cs : List Int} {k : Nat} (h : k < cs.length) : cs.drop k = cs[k] :: cs.drop (k + 1) := List.drop_eq_getElem_cons h
theorem valR_digits {sz u n m : Nat} (hs : sz = 1 ∨ sz = 4) (hn : n = sz * m) (_ : u < 2 ^ n) : ∀ j, j ≤ m → valR sz ((digitsL u n sz m).drop (m - j)) = some (u % 2 ^ (sz * j)) := by
  have hL := digitsL_length u n sz m
  intro j
  induction j with
  | zero => intro _; rw [List.drop_eq_nil_of_le (by omega), Nat.mul_zero, Nat.pow_zero, Nat.mod_one]; rfl
  | succ j ih =>
    intro hj
    have h1 := ih (by omega)
    rw [drop_at (by omega : m - (j + 1) < (digitsL u n sz m).length), show m - (j + 1) + 1 = m - j by omega]
    have hg : (digitsL u n sz m)[m - (j + 1)]'(by omega) = digI (u / 2 ^ (sz * j) % 2 ^ sz) := by
      simp only [digitsL, List.getElem_map, List.getElem_range]
      congr 3
      congr 1
      rw [hn, show m - (j + 1) + 1 = m - j by omega, ← Nat.mul_sub, show m - (m - j) = j by omega]
    rw [hg, valR_step (dv_dig hs (Nat.mod_lt _ (ppos _))) h1, List.length_drop, hL, show m - (m - j) = j by omega]
    congr 1
    rw [Nat.mul_add, Nat.mul_one, Nat.pow_add, Nat.mod_mul, Nat.mul_comm, Nat.add_comm]
theorem parse_text {u n : Nat} (h1 : 1 ≤ n) (h64 : n ≤ 64) (hu : u < 2 ^ n) : parseV (textI u n) = (u, n, 0) := by
  unfold textI
  have key : ∀ sz m mk, sz = 1 ∨ sz = 4 → n = sz * m → (mk = 98 ∧ sz = 1 ∨ mk = 120 ∧ sz = 4) → parseV ([35, mk] ++ digitsL u n sz m) = (u, n, 0) := by
    intro sz m mk hs hn hmk
    have hL := digitsL_length u n sz m
    have hv := valR_digits hs hn hu m (Nat.le_refl _)
    rw [Nat.sub_self, List.drop_zero, ← hn, Nat.mod_eq_of_lt hu] at hv
    have hm : 1 ≤ m := by
      rcases Nat.eq_zero_or_pos m with rfl | h
      · omega
      · exact h
    have hf : finP sz (digitsL u n sz m) = (u, n, 0) := by
      unfold finP
      rw [if_neg (by rw [hL, ← hn]; omega), hv, hL, ← hn]
    unfold parseV
    rw [if_neg (by simp [hL]; omega)]
    rcases hmk with ⟨rfl, rfl⟩ | ⟨rfl, rfl⟩
    · simpa using hf
    · simpa using hf
  split
  · exact key 4 (n / 4) 120 (.inr rfl) (by omega) (.inr ⟨rfl, rfl⟩)
  · exact key 1 n 98 (.inl rfl) (by omega) (.inl ⟨rfl, rfl⟩)
end Go.Proofs.Ytcpjchfgiogmeaa
