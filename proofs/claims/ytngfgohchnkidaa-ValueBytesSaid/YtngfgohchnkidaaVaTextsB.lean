/-
  THE WALK of the reference's texts.
-/
import Derived.Test.YtngfgohchnkidaaVaTexts
import Derived.BigQuiet
import Derived.Deep.RegionHeld3
import Derived.LoopN
namespace Go.Proofs.Ytngfgohchnkidaa
open Go.RowKit

theorem txL_step {s t : List Int} {j : Nat} (hs : j < s.length) (ht : j < t.length) (h : s[j] = t[j]) : txL (s.drop j) (t.drop j) = txL (s.drop (j + 1)) (t.drop (j + 1)) := by
  rw [List.drop_eq_getElem_cons hs, List.drop_eq_getElem_cons ht, txL, if_pos ((sg_zero _ _).2 h)]
theorem txL_hit {s t : List Int} {j : Nat} (hs : j < s.length) (ht : j < t.length) (h : ¬ sg s[j] t[j] = 0) : txL (s.drop j) (t.drop j) = sg s[j] t[j] := by
  rw [List.drop_eq_getElem_cons hs, List.drop_eq_getElem_cons ht, txL, if_neg h]
theorem sg_sub (a b j : Nat) (ha : j ≤ a) (hb : j ≤ b) : sg ((a - j : Nat) : Int) ((b - j : Nat) : Int) = sg a b := by
  unfold sg
  by_cases h1 : (a : Int) < b
  · rw [if_pos h1, if_pos (by omega)]
  · by_cases h2 : (b : Int) < a
    · rw [if_neg h1, if_pos h2, if_neg (by omega), if_pos (by omega)]
    · rw [if_neg h1, if_neg h2, if_neg (by omega), if_neg (by omega)]
theorem txL_end {s t : List Int} {j : Nat} (hs : j ≤ s.length) (ht : j ≤ t.length) (h : ¬ (j < s.length ∧ j < t.length)) : txL (s.drop j) (t.drop j) = sg s.length t.length := by
  rw [← sg_sub s.length t.length j hs ht, ← List.length_drop, ← List.length_drop]
  by_cases h1 : j < s.length
  · have : t.drop j = [] := List.drop_eq_nil_of_le (by omega)
    rw [this]
    cases hd : s.drop j with
    | nil => simp [txL]
    | cons x l => simp [txL]
  · have : s.drop j = [] := List.drop_eq_nil_of_le (by omega)
    rw [this]
    simp [txL]
set_option maxHeartbeats 1000000 in
theorem r6texts_any (a b : ByteArray) (w : World) (ha : a.size ≤ 1000000) (hb : b.size ≤ 1000000) : Calls Try.prog 54 #[.string a, .string b] w fun e w' => e = .returned (.int .i64 (sgS a b)) ∧ Below w.heap.size w w' := by
  obtain ⟨R, hR⟩ : ∃ R, R = sgS a b := ⟨_, rfl⟩
  rw [← hR]
  have HR := Lib.hid (show R = txL (sb a) (sb b) from by rw [hR, txL_sgS])
  have LA := Lib.hid (sb_len a)
  have LB := Lib.hid (sb_len b)
  clear hR
  obtain ⟨n, hn⟩ : ∃ n, n = a.size := ⟨_, rfl⟩
  obtain ⟨m, hm⟩ : ∃ m, m = b.size := ⟨_, rfl⟩
  have HI := Lib.hid fun (x y : Int) (W : World) => r6ints_any x y W
  go_enter Try.func54, Try.ntmps54
  go_wp2_with fail
  go_loopw [5, 6] (fun u _ wr => ∃ j : Nat, j ≤ a.size ∧ j ≤ b.size ∧ u = .int .i64 (j : Int) ∧ Hid (R = txL ((sb a).drop j) ((sb b).drop j)) ∧ Below w.heap.size w wr) (fun u _ _ => a.size - (intOf u).toNat)
  case atStart => exact ⟨0, Nat.zero_le _, Nat.zero_le _, rfl, Lib.hid (by rw [HR.out]; rfl), Below.refl _ _⟩
  case round =>
    obtain ⟨j, hja, hjb, rfl, hd, hB⟩ := hrel
    by_cases h1 : j < a.size
    · have h1b : decide ((j : Int) < (a.size : Int)) = true := decide_eq_true (by omega)
      by_cases h2 : j < b.size
      · have h2b : decide ((j : Int) < (b.size : Int)) = true := decide_eq_true (by omega)
        obtain ⟨c, hc, hce, hcx⟩ := chr_at a j h1
        obtain ⟨d, hdl, hde, hdx⟩ := chr_at b j h2
        have hjs : j < (sb a).length := by rw [LA.out]; exact h1
        have hjt : j < (sb b).length := by rw [LB.out]; exact h2
        obtain ⟨r, hr⟩ : ∃ r, r = sg (c : Int) (d : Int) := ⟨_, rfl⟩
        have HC := Lib.hid fun W => (show Calls Try.prog 52 #[.int .i64 (c : Int), .int .i64 (d : Int)] W fun e w' => e = .returned (.int .i64 r) ∧ w' = W from hr ▸ r6ints_any _ _ W)
        by_cases h0 : r = 0
        · have hnx := Lib.hid (show R = txL ((sb a).drop (j + 1)) ((sb b).drop (j + 1)) from by
            rw [hd.out]
            exact txL_step hjs hjt (by rw [hce, hde]; exact (sg_zero _ _).1 (by rw [← hr]; exact h0)))
          have hrf : (r != 0) = false := by rw [h0]; rfl
          clear hr h0 hd hce hde hjs hjt
          go_wp2_with fail
          go_quiet (first | (go_at_call 52; refine Calls.quiet_of_same (HC.out _)))
          go_wp2_with fail
          go_roundw
          case rel => exact ⟨j + 1, by omega, by omega, by go_num, hnx, below_drewN hB _⟩
          case measure => simp [intOf]; omega
        · have hRz := Lib.hid (show R = r from by rw [hd.out, txL_hit hjs hjt (by rw [hce, hde, ← hr]; exact h0), hce, hde, hr])
          have hrf : (r != 0) = true := by simpa using h0
          clear hr h0 hd hce hde hjs hjt
          go_wp2_with fail
          go_quiet (first | (go_at_call 52; refine Calls.quiet_of_same (HC.out _)))
          go_wp2_with fail
          go_ret
          exact ⟨congrArg (fun q => Ending.returned (.int .i64 q)) hRz.out.symm, below_drewN hB _⟩
      · have h2b : decide ((j : Int) < (b.size : Int)) = false := decide_eq_false (by omega)
        have hRz := Lib.hid (show R = sg a.size b.size from by rw [hd.out, txL_end (by rw [LA.out]; exact hja) (by rw [LB.out]; exact hjb) (by rw [LB.out]; omega), LA.out, LB.out])
        go_wp2_with (go_at_call 52; refine (HI.out _ _ _).mono ?_; rintro e w1 ⟨rfl, rfl⟩)
        go_ret
        exact ⟨congrArg (fun q => Ending.returned (.int .i64 q)) hRz.out.symm, hB⟩
    · have h1b : decide ((j : Int) < (a.size : Int)) = false := decide_eq_false (by omega)
      have hRz := Lib.hid (show R = sg a.size b.size from by rw [hd.out, txL_end (by rw [LA.out]; exact hja) (by rw [LB.out]; exact hjb) (by rw [LA.out]; omega), LA.out, LB.out])
      go_wp2_with (go_at_call 52; refine (HI.out _ _ _).mono ?_; rintro e w1 ⟨rfl, rfl⟩)
      go_ret
      exact ⟨congrArg (fun q => Ending.returned (.int .i64 q)) hRz.out.symm, hB⟩
end Go.Proofs.Ytngfgohchnkidaa
