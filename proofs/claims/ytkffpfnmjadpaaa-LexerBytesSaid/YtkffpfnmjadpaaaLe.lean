/-
  THE WALK of littleEndian: a slice of at most 8 bytes: its bytes as a number, lowest first.
-/
import Derived.Test.YtkffpfnmjadpaaaRows
import Derived.Test.YtkffpfnmjadpaaaBase
import Derived.WalkKit
import Derived.WalkSpells
import Derived.WalkLawsBesides
import Derived.Lib.Hide
namespace Go.Proofs.Ytkffpfnmjadpaaa
open Go.RowKit

set_option maxHeartbeats 400000 in
theorem le_any (A : Option Addr) (n c B : Nat) (zs : List Int) (w : World) (hn : n = zs.length) (h8 : zs.length ≤ 8) (hb : Bytes8 zs) (hr : RdI w B .u8 A zs) :
    Calls Try.prog 50 #[.slice A n c] w fun e w' => e = .returned (.int .u64 (leI zs)) ∧ w = w' := by
  subst hn
  go_enter Try.func50, Try.ntmps50
  go_wp2
  go_loop [3, 8] (fun v i => ∃ k : Nat, k ≤ zs.length ∧ i = .int .i64 k ∧ v = .int .u64 (leI (zs.take k))) (fun _ i => zs.length - (intOf i).toNat)
  case atStart => exact ⟨0, Nat.zero_le _, rfl, rfl⟩
  case round =>
    obtain ⟨k, hk, rfl, rfl⟩ := hrel
    by_cases hlt : k < zs.length
    · obtain ⟨b, o, rfl, _, hc⟩ : ∃ b o, A = some ⟨b, o, none⟩ ∧ b < B ∧ ∀ j, j < zs.length → w.cell? ⟨b, o + j, none⟩ = some (.int .u8 (zs[j]?.getD 0)) := by
        rcases hr with e | h
        · rw [e] at hlt; simp at hlt
        · exact h
      have hck := hc k hlt
      have hbk := hb.get k
      obtain ⟨hb0, hb1⟩ := hbk
      have HS : Hid (_ = _) := le_step h8 hb hlt
      clear hc hr hb
      go_wp2
      go_round
      case rel => exact ⟨k + 1, by omega, by go_num, by rw [← HS.out]; simp [hlt]⟩
      case measure => simp [intOf]; omega
    · go_wp2
      go_ret
      exact ⟨by rw [List.take_of_length_le (by omega)]; rfl, rfl⟩

end Go.Proofs.Ytkffpfnmjadpaaa
