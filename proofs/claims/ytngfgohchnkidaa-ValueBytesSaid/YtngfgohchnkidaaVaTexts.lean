/-
  THE WALK of the reference's texts: two strings, byte by byte, as the program's Compare of strings.
-/
import Derived.Test.YtngfgohchnkidaaVaCmp
import Derived.BigQuiet
import Derived.Deep.RegionHeld3
import Derived.LoopN
namespace Go.Proofs.Ytngfgohchnkidaa
open Go.RowKit

/-- two rows of bytes -/
def txL : List Int → List Int → Int
  | x :: s, y :: t => if sg x y = 0 then txL s t else sg x y
  | [], t => sg 0 t.length
  | s, [] => sg s.length 0
theorem sg_zero (a b : Int) : sg a b = 0 ↔ a = b := by
  unfold sg
  by_cases h1 : a < b
  · rw [if_pos h1]; constructor <;> intro h <;> omega
  · by_cases h2 : b < a
    · rw [if_neg h1, if_pos h2]; constructor <;> intro h <;> omega
    · rw [if_neg h1, if_neg h2]; constructor <;> intro h <;> omega
theorem sg_len (n : Nat) : sg 0 ((n : Int) + 1) = -1 ∧ sg ((n : Int) + 1) 0 = 1 := by
  unfold sg
  constructor
  · rw [if_pos (by omega)]
  · rw [if_neg (by omega), if_pos (by omega)]
theorem less_eq (x : UInt8) (s t : List UInt8) : Op.bytesLess (x :: s) (x :: t) = Op.bytesLess s t := by
  have hlt : decide (x < x) = false := by simp [UInt8.lt_irrefl]
  simp [Op.bytesLess]
theorem less_lt (x y : UInt8) (s t : List UInt8) (h : x < y) : Op.bytesLess (x :: s) (y :: t) = true := by
  simp [Op.bytesLess, h]
theorem less_gt (x y : UInt8) (s t : List UInt8) (h : ¬ x < y) (hn : x ≠ y) : Op.bytesLess (x :: s) (y :: t) = false := by
  simp [Op.bytesLess, h, hn]
theorem txL_less : ∀ (l m : List UInt8), txL (l.map fun c => (c.toNat : Int)) (m.map fun c => (c.toNat : Int)) = if Op.bytesLess l m then -1 else if l == m then 0 else 1
  | [], [] => by simp [txL, Op.bytesLess, sg]
  | [], y :: t => by
    simp only [List.map_nil, List.map_cons, txL, Op.bytesLess, if_true, List.length_cons, List.length_map]
    exact (sg_len _).1
  | x :: s, [] => by
    simp only [List.map_nil, List.map_cons, txL, Op.bytesLess, List.length_cons, List.length_map]
    exact (sg_len _).2
  | x :: s, y :: t => by
    have ih := txL_less s t
    by_cases he : x = y
    · subst he
      rw [less_eq]
      have hq : ((x :: s) == (x :: t)) = (s == t) := by simp
      rw [hq, ← ih]
      simp only [List.map_cons, txL]
      rw [if_pos ((sg_zero _ _).2 rfl)]
    · have hne : ¬ (x.toNat : Int) = y.toNat := fun h => he (UInt8.toNat_inj.1 (by omega))
      have hl : ((x :: s) == (y :: t)) = false := by simp [he]
      simp only [List.map_cons, txL]
      rw [if_neg (fun h => hne ((sg_zero _ _).1 h)), hl]
      unfold sg
      by_cases h1 : (x.toNat : Int) < y.toNat
      · rw [if_pos h1, less_lt _ _ _ _ (UInt8.lt_iff_toNat_lt.2 (by omega))]
        rfl
      · rw [if_neg h1, if_pos (by omega), less_gt _ _ _ _ (fun h => h1 (by have := UInt8.lt_iff_toNat_lt.1 h; omega)) he]
        rfl
theorem txL_sgS (a b : ByteArray) : txL (sb a) (sb b) = sgS a b := by
  unfold sgS sb
  rw [ByteArray.toList_eq, ByteArray.toList_eq]
  exact txL_less _ _
theorem sb_len (a : ByteArray) : (sb a).length = a.size := by simp [sb]
theorem chr_at (S : ByteArray) (i : Nat) (h : i < S.size) : ∃ c : Nat, c < 256 ∧ (sb S)[i]'(by rw [sb_len]; exact h) = c ∧ ∀ W : World, (Instr.index 9 (.string S) (.int .i64 i)).run Try.prog W = .ok (.int .u8 c) W := by
  have hd : i < S.data.size := h
  refine ⟨(S.data[i]).toNat, UInt8.toNat_lt _, ?_, fun W => ?_⟩
  · simp [sb]
  · rw [run_index_string _ _ _ _ _ Try.underlying9, dif_pos (by omega)]
    rfl
end Go.Proofs.Ytngfgohchnkidaa
