/-
  THE REFERENCE's operations as numbers: binN, and the walks of Binary and Unary.
-/
import Derived.Test.YtcpjchfgiogmeaaBitsXor
import Derived.Test.YtcpjchfgiogmeaaBitsValid
namespace Go.Proofs.Ytcpjchfgiogmeaa
open Go.RowKit

def hiN (n x : Nat) : Bool := decide (2 ^ (n - 1) ≤ x)
def ashrN (n x y : Nat) : Nat := x / 2 ^ min y n + 2 ^ (n - min y n) * ((hiN n x).toNat * (2 ^ min y n - 1))
def sltN (n x y : Nat) : Bool := if hiN n x != hiN n y then hiN n x else decide (x < y)
/-- the operation op (And 6 .. Eq 18) of two values of the width n -/
def binN (op n x y : Nat) : Nat :=
  if op = 6 then x &&& y else if op = 7 then x ||| y else if op = 8 then x ^^^ y else if op = 9 then (x + y) % 2 ^ n else if op = 10 then x * y % 2 ^ n else
  if op = 11 then divQ n x y else if op = 12 then divR x y else if op = 13 then x * 2 ^ min y n % 2 ^ n else if op = 14 then x / 2 ^ min y n else
  if op = 15 then ashrN n x y else if op = 16 then (decide (x < y)).toNat else if op = 17 then (sltN n x y).toNat else (decide (x = y)).toNat
theorem hiN_bit {l : List Bool} {m : Nat} (hl : l.length = m + 1) : l[m]?.getD false = hiN (m + 1) (ofL l) := by
  have h := high_bit hl
  have e : l[m]?.getD false = l[m]'(by omega) := by rw [List.getElem?_eq_getElem (by omega)]; rfl
  unfold hiN
  rw [e, Nat.add_sub_cancel]
  cases hx : l[m]'(by omega)
  · rw [decide_eq_false (fun hh => by rw [h.2 hh] at hx; cases hx)]
  · rw [decide_eq_true (h.1 hx)]
theorem divQ_lt {n x y : Nat} (hx : x < 2 ^ n) : divQ n x y < 2 ^ n := by
  unfold divQ
  split
  · have : 0 < 2 ^ n := Nat.pow_pos (by decide)
    omega
  · exact Nat.lt_of_le_of_lt (Nat.div_le_self _ _) hx
theorem divR_lt {n x y : Nat} (hx : x < 2 ^ n) : divR x y < 2 ^ n := by
  unfold divR
  split
  · exact hx
  · exact Nat.lt_of_le_of_lt (Nat.mod_le _ _) hx
theorem one_val (x : Bool) : ofL [x] = x.toNat := by simp [ofL]

theorem bbinary_any (op : Nat) (h6 : 6 ≤ op) (h18 : op ≤ 18) (A1 A2 : Option Addr) (m c1 c2 : Nat) (a b : List Bool) (w : World) (ha : a.length = m + 1) (hb : b.length = m + 1) (h64 : m + 1 ≤ 64) (hc2 : m + 1 ≤ c2) (hr1 : RdB w w.heap.size A1 a) (hr2 : RdB w w.heap.size A2 b) :
    ∃ L : List Bool, L.length ≤ 64 ∧ ofL L = binN op (m + 1) (ofL a) (ofL b) ∧ Calls Try.prog 39 #[.int .i64 op, .slice A1 (m + 1) c1, .slice A2 (m + 1) c2] w (GetsB w L) := by
  have hab : a.length = b.length := by rw [ha, hb]
  have hal := ofL_lt a
  rw [ha] at hal
  have hops : op = 6 ∨ op = 7 ∨ op = 8 ∨ op = 9 ∨ op = 10 ∨ op = 11 ∨ op = 12 ∨ op = 13 ∨ op = 14 ∨ op = 15 ∨ op = 16 ∨ op = 17 ∨ op = 18 := by omega
  rcases hops with rfl | rfl | rfl | rfl | rfl | rfl | rfl | rfl | rfl | rfl | rfl | rfl | rfl
  · exact ⟨_, by rw [List.length_zipWith]; omega, ofL_and hab, bbin_and A1 A2 m c1 c2 a b w ha hb h64 hr1 hr2⟩
  · exact ⟨_, by rw [List.length_zipWith]; omega, ofL_or hab, bbin_or A1 A2 m c1 c2 a b w ha hb h64 hr1 hr2⟩
  · exact ⟨_, by rw [List.length_zipWith]; omega, ofL_xor hab, bbin_xor A1 A2 m c1 c2 a b w ha hb h64 hr1 hr2⟩
  · exact ⟨_, by rw [plusL_length _ _ _ hab]; omega, by rw [ofL_plus _ _ _ hab, ha]; rfl, bbin_add A1 A2 m c1 c2 a b w ha hb h64 hc2 hr1 hr2⟩
  · exact ⟨_, by rw [bitsL_length]; omega, by rw [ofL_bitsL]; rfl, bbin_mul A1 A2 m c1 c2 a b w ha hb h64 hc2 hr1 hr2⟩
  · exact ⟨_, by rw [bitsL_length]; omega, by rw [ofL_bitsL, Nat.mod_eq_of_lt (divQ_lt hal)]; rfl, bbin_udiv A1 A2 m c1 c2 a b w ha hb h64 hc2 hr1 hr2⟩
  · exact ⟨_, by rw [bitsL_length]; omega, by rw [ofL_bitsL, Nat.mod_eq_of_lt (divR_lt hal)]; rfl, bbin_urem A1 A2 m c1 c2 a b w ha hb h64 hc2 hr1 hr2⟩
  · exact ⟨_, by rw [movedL_length]; omega, by rw [ofL_up, ha]; rfl, bbin_shl A1 A2 m c1 c2 a b w ha hb h64 hc2 hr1 hr2⟩
  · exact ⟨_, by rw [movedL_length]; omega, by rw [ofL_down _ _ _ (by omega), ha]; simp [binN], bbin_lshr A1 A2 m c1 c2 a b w ha hb h64 hc2 hr1 hr2⟩
  · exact ⟨_, by rw [movedL_length]; omega, by rw [ofL_down _ _ _ (by omega), ha, hiN_bit ha]; rfl, bbin_ashr A1 A2 m c1 c2 a b w ha hb h64 hc2 hr1 hr2⟩
  · exact ⟨_, by simp, one_val _, bbin_ult A1 A2 m c1 c2 a b w ha hb h64 hc2 hr1 hr2⟩
  · exact ⟨_, by simp, by rw [one_val, hiN_bit ha, hiN_bit hb]; rfl, bbin_slt A1 A2 m c1 c2 a b w ha hb h64 hr1 hr2⟩
  · exact ⟨_, by simp, one_val _, bbin_eq A1 A2 m c1 c2 a b w ha hb h64 hr1 hr2⟩

/-- Binary(op, u, v, n): the number and the error -/
def binS (op : Int) (u v : Nat) (n : Int) : Nat × Int :=
  if op < 6 ∨ 18 < op then (0, 1) else if validE u n ≠ 0 then (0, validE u n) else if validE v n ≠ 0 then (0, validE v n) else (binN op.toNat n.toNat u v, 0)
def Num2 (w : World) (r : Nat × Int) (e : Ending) (w' : World) : Prop := e = .returned (.tuple #[.int .u64 (r.1 : Nat), .int .i64 r.2]) ∧ Below w.heap.size w w'
theorem validE_zero {u : Nat} {n : Int} (h : validE u n = 0) : ∃ m : Nat, n = ((m + 1 : Nat) : Int) ∧ m + 1 ≤ 64 ∧ u < 2 ^ (m + 1) := by
  unfold validE at h
  split at h
  · cases h
  · next hn =>
    refine ⟨n.toNat - 1, by omega, by omega, ?_⟩
    have e : n.toNat - 1 + 1 = n.toNat := by omega
    rw [e]
    split at h
    · assumption
    · cases h
theorem validE_vals (u : Nat) (n : Int) : validE u n = 0 ∨ validE u n = 1 ∨ validE u n = 5 := by
  unfold validE
  split
  · exact .inr (.inl rfl)
  · split
    · exact .inl rfl
    · exact .inr (.inr rfl)
end Go.Proofs.Ytcpjchfgiogmeaa
