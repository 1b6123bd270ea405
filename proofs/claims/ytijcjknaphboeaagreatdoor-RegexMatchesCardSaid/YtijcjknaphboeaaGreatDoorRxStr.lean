/-
  STRINGS by position, and their parts.
-/
import Derived.Test.YtijcjknaphboeaaGreatDoorBase
import Derived.Test.YtijcjknaphboeaaGreatDoorRxMt
namespace Go.Proofs.YtijcjknaphboeaaGreatDoor
open Go.RowKit

def bytS (S : ByteArray) (i : Nat) : Int := (sb S).getD i 0
theorem bytS_at (S : ByteArray) (i : Nat) (h : i < S.size) : ∃ c : Nat, c < 256 ∧ bytS S i = c ∧ ∀ W : World, (Instr.index 9 (.string S) (.int .i64 i)).run Tryz.prog W = .ok (.int .u8 c) W := by
  have hd : i < S.data.size := h
  refine ⟨(S.data[i]).toNat, (S.data[i]).toNat_lt, ?_, fun W => ?_⟩
  · simp only [bytS, sb, List.getD_eq_getElem?_getD, List.getElem?_map, Array.getElem?_toList, Array.getElem?_eq_getElem hd, Option.map_some, Option.getD_some]
  · rw [run_index_string _ _ _ _ _ Tryz.underlying9, dif_pos (by omega)]
    rfl
theorem sb_part (S : ByteArray) (a b : Nat) : sb (S.extract a b) = ((sb S).take b).drop a := by
  unfold sb
  rw [ByteArray.data_extract, Array.toList_extract, List.extract_eq_take_drop, ← List.map_take, ← List.map_drop, List.map_take, List.map_drop]
  rw [List.drop_take, ← List.map_drop, ← List.map_take]
theorem size_part (S : ByteArray) {a b : Nat} (hb : b ≤ S.size) : (S.extract a b).size = b - a := by rw [ByteArray.size_extract]; omega
theorem bytS_part (S : ByteArray) {a b i : Nat} (hi : i < b - a) (hb : b ≤ S.size) : bytS (S.extract a b) i = bytS S (a + i) := by
  unfold bytS
  rw [sb_part, List.getD_eq_getElem?_getD, List.getElem?_drop, List.getElem?_take_of_lt (by omega), ← List.getD_eq_getElem?_getD]
theorem mt_part (S : ByteArray) (x : Rx) {a b : Nat} (hab : a ≤ b) (hb : b ≤ S.size) : mt (bytS (S.extract a b)) x 0 (S.extract a b).size ↔ mt (bytS S) x a b := by
  have h := mt_shift (b := bytS S) (b' := bytS (S.extract a b)) (d := a) (n := b - a) (fun i hi => bytS_part S hi hb) x 0 (b - a) (Nat.le_refl _)
  rw [size_part S hb, h]
  rw [Nat.add_zero, Nat.add_sub_cancel' hab]
end Go.Proofs.YtijcjknaphboeaaGreatDoor
