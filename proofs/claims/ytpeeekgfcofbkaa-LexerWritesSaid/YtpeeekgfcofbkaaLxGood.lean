/-
  THE REFERENCE's Good and Some: texts made from numbers.
-/
import Derived.Test.YtpeeekgfcofbkaaLxRTok
import Derived.Test.YtpeeekgfcofbkaaLxPiece
namespace Go.Proofs.Ytpeeekgfcofbkaa
open Go.RowKit

/-- a text without an error -/
def YOk (T : ByteArray) : Prop := ∃ pre x, yl (T.size + 1) (sb T) 0 = pre ++ [x] ∧ x.2 = 0
theorem yok_nil : YOk ⟨#[]⟩ := ⟨[], (⟨6, [], 0⟩, 0), rfl, rfl⟩
set_option maxHeartbeats 8000000 in
set_option maxRecDepth 100000 in
theorem good_any (A : Option Addr) (n c : Nat) (zs : List Int) (m : Int) (most : Nat) (w : World) (hn : n = zs.length) (hz : ∀ z ∈ zs, I64 z) (hr : RdI w w.heap.size .i64 A zs) (hm : m = (most : Int)) (h100 : most ≤ 100) :
    Calls Try.prog 12 #[.slice A n c, .int .i64 m] w fun e w' => ∃ T, e = .returned (.string T) ∧ T.size ≤ 40 * most ∧ YOk T ∧ Below w.heap.size w w' := by
  subst hm
  have hlen := Lib.hid hn
  have hZ := Lib.hid hz
  clear hz
  go_enter Try.func12, Try.ntmps12
  go_wp2_with fail
  go_loopw [5, 6] (fun out i wr => ∃ (k : Nat) (T : ByteArray), i = .int .i64 (k : Int) ∧ out = .string T ∧ k ≤ n ∧ k ≤ most ∧ T.size ≤ 40 * k ∧ Hid (YOk T) ∧ Below w.heap.size w wr) (fun _ i _ => n - (intOf i).toNat)
  case atStart => exact ⟨0, ⟨#[]⟩, rfl, rfl, by omega, by omega, by decide, Lib.hid yok_nil, Below.refl _ _⟩
  case round =>
    obtain ⟨k, T, rfl, rfl, hk, hk2, hT, hY, hB⟩ := hrel
    by_cases hlt : k < n
    · have hlI : (k : Int) < (n : Int) := by omega
      by_cases hlm : k < most
      · have hmI : (k : Int) < (most : Int) := by omega
        obtain ⟨b, o, rfl, hbw, hck⟩ := (hr.below hB).at_ (show k < zs.length by omega)
        have hzI : I64 (zs[k]?.getD 0) := by
          have hk' : k < zs.length := by omega
          rw [List.getElem?_eq_getElem hk', Option.getD_some]
          exact hZ.out _ (List.getElem_mem hk')
        replace hr := Lib.hid hr
        have hn' := Lib.hid hn
        clear hn
        generalize zs[k]?.getD 0 = z at *
        have HP := Lib.hid (piece_any z wr hzI)
        clear hzI
        go_wp2_with fail
        refine Calls.mono HP.out ?_
        rintro e w1 ⟨p, rfl, hp, hB1⟩
        clear HP
        have hsum : ¬ 9223372036854775807 < T.size + p.size := by omega
        have HT := Lib.hid (rTokens_any (T ++ p) w1 (by rw [ByteArray.size_append]; omega))
        have hB2 := hB.trans (hB1.mono hB.size)
        go_wp2_with fail
        refine Calls.mono HT.out ?_
        rintro e w2 ⟨pre, x, hy, hB3, hx⟩
        have hB4 := hB2.trans (hB3.mono hB2.size)
        clear HT hB1 hB2 hB3 hB
        rcases hx with ⟨hx0, A9, c9, rfl, _⟩ | ⟨hx0, rfl⟩
        · have hY2 : Hid (YOk (T ++ p)) := Lib.hid ⟨pre, x, hy, hx0⟩
          clear hx0 hy
          go_wp2_with fail
          go_roundw
          case rel => exact ⟨k + 1, T ++ p, by go_num, rfl, by omega, by omega, by rw [ByteArray.size_append]; omega, hY2, hB4⟩
          case measure => simp [intOf]; omega
        · have hx1 : (x.2 == 0) = false := by rw [beq_eq_false_iff_ne]; exact hx0
          clear hx0 hy
          go_wp2_with fail
          go_roundw
          case rel => exact ⟨k + 1, T, by go_num, rfl, by omega, by omega, by omega, hY, hB4⟩
          case measure => simp [intOf]; omega
      · have hmI : ¬ (k : Int) < (most : Int) := by omega
        clear hn
        go_wp2_with fail
        go_ret
        exact ⟨T, rfl, by omega, hY.out, hB⟩
    · have hlI : ¬ (k : Int) < (n : Int) := by omega
      clear hn
      go_wp2_with fail
      go_ret
      exact ⟨T, rfl, by omega, hY.out, hB⟩
set_option maxHeartbeats 8000000 in
set_option maxRecDepth 100000 in
theorem some_any (A : Option Addr) (n c : Nat) (zs : List Int) (m : Int) (most : Nat) (w : World) (hn : n = zs.length) (hz : ∀ z ∈ zs, I64 z) (hr : RdI w w.heap.size .i64 A zs) (hm : m = (most : Int)) (h100 : most ≤ 100) :
    Calls Try.prog 9 #[.slice A n c, .int .i64 m] w fun e w' => ∃ T, e = .returned (.string T) ∧ T.size ≤ 40 * most ∧ Below w.heap.size w w' := by
  subst hm
  have hlen := Lib.hid hn
  have hZ := Lib.hid hz
  clear hz
  go_enter Try.func9, Try.ntmps9
  go_wp2_with fail
  go_loopw [5, 6] (fun out i wr => ∃ (k : Nat) (T : ByteArray), i = .int .i64 (k : Int) ∧ out = .string T ∧ k ≤ n ∧ k ≤ most ∧ T.size ≤ 40 * k ∧ Below w.heap.size w wr) (fun _ i _ => n - (intOf i).toNat)
  case atStart => exact ⟨0, ⟨#[]⟩, rfl, rfl, by omega, by omega, by decide, Below.refl _ _⟩
  case round =>
    obtain ⟨k, T, rfl, rfl, hk, hk2, hT, hB⟩ := hrel
    by_cases hlt : k < n
    · have hlI : (k : Int) < (n : Int) := by omega
      by_cases hlm : k < most
      · have hmI : (k : Int) < (most : Int) := by omega
        obtain ⟨b, o, rfl, hbw, hck⟩ := (hr.below hB).at_ (show k < zs.length by omega)
        have hzI : I64 (zs[k]?.getD 0) := by
          have hk' : k < zs.length := by omega
          rw [List.getElem?_eq_getElem hk', Option.getD_some]
          exact hZ.out _ (List.getElem_mem hk')
        replace hr := Lib.hid hr
        clear hn
        generalize zs[k]?.getD 0 = z at *
        have HP := Lib.hid (piece_any z wr hzI)
        clear hzI
        go_wp2_with fail
        refine Calls.mono HP.out ?_
        rintro e w1 ⟨p, rfl, hp, hB1⟩
        clear HP
        have hsum : ¬ 9223372036854775807 < T.size + p.size := by omega
        have hB2 := hB.trans (hB1.mono hB.size)
        clear hB1 hB
        go_wp2_with fail
        go_roundw
        case rel => exact ⟨k + 1, T ++ p, by go_num, rfl, by omega, by omega, by rw [ByteArray.size_append]; omega, hB2⟩
        case measure => simp [intOf]; omega
      · have hmI : ¬ (k : Int) < (most : Int) := by omega
        clear hn
        go_wp2_with fail
        go_ret
        exact ⟨T, rfl, by omega, hB⟩
    · have hlI : ¬ (k : Int) < (n : Int) := by omega
      clear hn
      go_wp2_with fail
      go_ret
      exact ⟨T, rfl, by omega, hB⟩
end Go.Proofs.Ytpeeekgfcofbkaa
