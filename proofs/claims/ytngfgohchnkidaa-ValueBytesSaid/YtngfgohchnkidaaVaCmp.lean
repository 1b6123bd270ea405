/-
  THE WALKS of the comparisons: cmp.Compare at int, uint64, string; the reference's ints, number; the first that is not 0.
-/
import Derived.Test.YtngfgohchnkidaaVaW
import Derived.WalkLawsBesides
namespace Go.Proofs.Ytngfgohchnkidaa
open Go.RowKit

/-- less, equal, greater -/
def sg (a b : Int) : Int := if a < b then -1 else if b < a then 1 else 0
/-- the same for strings -/
def sgS (a b : ByteArray) : Int := if Op.bytesLess a.toList b.toList then -1 else if a.toList == b.toList then 0 else 1
theorem nanInt_any (a : Int) (w : World) : Calls Try.prog 83 #[.int .i64 a] w fun e w' => e = .returned (.bool false) ∧ w' = w := by
  go_enter Try.func83, Try.ntmps83
  go_wp2_with fail
  go_ret
  exact ⟨by first | rfl | simp, rfl⟩
theorem nanU64_any (a : Int) (w : World) : Calls Try.prog 84 #[.int .u64 a] w fun e w' => e = .returned (.bool false) ∧ w' = w := by
  go_enter Try.func84, Try.ntmps84
  go_wp2_with fail
  go_ret
  exact ⟨by first | rfl | simp, rfl⟩
theorem nanStr_any (a : ByteArray) (w : World) : Calls Try.prog 85 #[.string a] w fun e w' => e = .returned (.bool false) ∧ w' = w := by
  go_enter Try.func85, Try.ntmps85
  go_wp2_with fail
  go_ret
  exact ⟨by first | rfl | simp, rfl⟩
theorem cmpInt_any (a b : Int) (w : World) : Calls Try.prog 48 #[.int .i64 a, .int .i64 b] w fun e w' => e = .returned (.int .i64 (sg a b)) ∧ w' = w := by
  obtain ⟨R, hR⟩ : ∃ R, R = sg a b := ⟨_, rfl⟩
  rw [← hR]
  by_cases h1 : a < b
  · have hRt := Lib.hid (show R = -1 from by rw [hR]; unfold sg; rw [if_pos h1])
    have hd : decide (a < b) = true := decide_eq_true h1
    clear hR
    go_enter Try.func48, Try.ntmps48
    go_wp2_with (go_at_call 83; refine (nanInt_any _ _).mono ?_; rintro e w1 ⟨rfl, rfl⟩)
    go_ret
    exact ⟨congrArg (fun z => Ending.returned (.int .i64 z)) hRt.out.symm, rfl⟩
  · by_cases h2 : b < a
    · have hRt := Lib.hid (show R = 1 from by rw [hR]; unfold sg; rw [if_neg h1, if_pos h2])
      clear hR
      go_enter Try.func48, Try.ntmps48
      go_wp2_with (go_at_call 83; refine (nanInt_any _ _).mono ?_; rintro e w1 ⟨rfl, rfl⟩)
      go_ret
      exact ⟨congrArg (fun z => Ending.returned (.int .i64 z)) hRt.out.symm, rfl⟩
    · have hRt := Lib.hid (show R = 0 from by rw [hR]; unfold sg; rw [if_neg h1, if_neg h2])
      clear hR
      go_enter Try.func48, Try.ntmps48
      go_wp2_with (go_at_call 83; refine (nanInt_any _ _).mono ?_; rintro e w1 ⟨rfl, rfl⟩)
      go_ret
      exact ⟨congrArg (fun z => Ending.returned (.int .i64 z)) hRt.out.symm, rfl⟩
theorem cmpU64_any (a b : Int) (w : World) : Calls Try.prog 49 #[.int .u64 a, .int .u64 b] w fun e w' => e = .returned (.int .i64 (sg a b)) ∧ w' = w := by
  obtain ⟨R, hR⟩ : ∃ R, R = sg a b := ⟨_, rfl⟩
  rw [← hR]
  by_cases h1 : a < b
  · have hRt := Lib.hid (show R = -1 from by rw [hR]; unfold sg; rw [if_pos h1])
    have hd : decide (a < b) = true := decide_eq_true h1
    clear hR
    go_enter Try.func49, Try.ntmps49
    go_wp2_with (go_at_call 84; refine (nanU64_any _ _).mono ?_; rintro e w1 ⟨rfl, rfl⟩)
    go_ret
    exact ⟨congrArg (fun z => Ending.returned (.int .i64 z)) hRt.out.symm, rfl⟩
  · by_cases h2 : b < a
    · have hRt := Lib.hid (show R = 1 from by rw [hR]; unfold sg; rw [if_neg h1, if_pos h2])
      clear hR
      go_enter Try.func49, Try.ntmps49
      go_wp2_with (go_at_call 84; refine (nanU64_any _ _).mono ?_; rintro e w1 ⟨rfl, rfl⟩)
      go_ret
      exact ⟨congrArg (fun z => Ending.returned (.int .i64 z)) hRt.out.symm, rfl⟩
    · have hRt := Lib.hid (show R = 0 from by rw [hR]; unfold sg; rw [if_neg h1, if_neg h2])
      clear hR
      go_enter Try.func49, Try.ntmps49
      go_wp2_with (go_at_call 84; refine (nanU64_any _ _).mono ?_; rintro e w1 ⟨rfl, rfl⟩)
      go_ret
      exact ⟨congrArg (fun z => Ending.returned (.int .i64 z)) hRt.out.symm, rfl⟩
theorem r6ints_any (a b : Int) (w : World) : Calls Try.prog 52 #[.int .i64 a, .int .i64 b] w fun e w' => e = .returned (.int .i64 (sg a b)) ∧ w' = w := by
  obtain ⟨R, hR⟩ : ∃ R, R = sg a b := ⟨_, rfl⟩
  rw [← hR]
  by_cases h1 : a < b
  · have hRt := Lib.hid (show R = -1 from by rw [hR]; unfold sg; rw [if_pos h1])
    have hd : decide (a < b) = true := decide_eq_true h1
    clear hR
    go_enter Try.func52, Try.ntmps52
    go_wp2_with fail
    go_ret
    exact ⟨congrArg (fun z => Ending.returned (.int .i64 z)) hRt.out.symm, rfl⟩
  · by_cases h2 : b < a
    · have hRt := Lib.hid (show R = 1 from by rw [hR]; unfold sg; rw [if_neg h1, if_pos h2])
      clear hR
      go_enter Try.func52, Try.ntmps52
      go_wp2_with fail
      go_ret
      exact ⟨congrArg (fun z => Ending.returned (.int .i64 z)) hRt.out.symm, rfl⟩
    · have hRt := Lib.hid (show R = 0 from by rw [hR]; unfold sg; rw [if_neg h1, if_neg h2])
      clear hR
      go_enter Try.func52, Try.ntmps52
      go_wp2_with fail
      go_ret
      exact ⟨congrArg (fun z => Ending.returned (.int .i64 z)) hRt.out.symm, rfl⟩
theorem r6number_any (a b : Int) (w : World) : Calls Try.prog 53 #[.int .u64 a, .int .u64 b] w fun e w' => e = .returned (.int .i64 (sg a b)) ∧ w' = w := by
  obtain ⟨R, hR⟩ : ∃ R, R = sg a b := ⟨_, rfl⟩
  rw [← hR]
  by_cases h1 : a < b
  · have hRt := Lib.hid (show R = -1 from by rw [hR]; unfold sg; rw [if_pos h1])
    have hd : decide (a < b) = true := decide_eq_true h1
    clear hR
    go_enter Try.func53, Try.ntmps53
    go_wp2_with fail
    go_ret
    exact ⟨congrArg (fun z => Ending.returned (.int .i64 z)) hRt.out.symm, rfl⟩
  · by_cases h2 : b < a
    · have hRt := Lib.hid (show R = 1 from by rw [hR]; unfold sg; rw [if_neg h1, if_pos h2])
      clear hR
      go_enter Try.func53, Try.ntmps53
      go_wp2_with fail
      go_ret
      exact ⟨congrArg (fun z => Ending.returned (.int .i64 z)) hRt.out.symm, rfl⟩
    · have hRt := Lib.hid (show R = 0 from by rw [hR]; unfold sg; rw [if_neg h1, if_neg h2])
      clear hR
      go_enter Try.func53, Try.ntmps53
      go_wp2_with fail
      go_ret
      exact ⟨congrArg (fun z => Ending.returned (.int .i64 z)) hRt.out.symm, rfl⟩
theorem cmpStr_any (a b : ByteArray) (w : World) : Calls Try.prog 50 #[.string a, .string b] w fun e w' => e = .returned (.int .i64 (sgS a b)) ∧ w' = w := by
  obtain ⟨R, hR⟩ : ∃ R, R = sgS a b := ⟨_, rfl⟩
  rw [← hR]
  cases h1 : Op.bytesLess a.toList b.toList
  · cases h2 : a.toList == b.toList
    · have hRt := Lib.hid (show R = 1 from by rw [hR]; unfold sgS; rw [h1, h2]; rfl)
      clear hR
      go_enter Try.func50, Try.ntmps50
      go_wp2_with (go_at_call 85; refine (nanStr_any _ _).mono ?_; rintro e w1 ⟨rfl, rfl⟩)
      go_ret
      exact ⟨congrArg (fun z => Ending.returned (.int .i64 z)) hRt.out.symm, rfl⟩
    · have hRt := Lib.hid (show R = 0 from by rw [hR]; unfold sgS; rw [h1, h2]; rfl)
      clear hR
      go_enter Try.func50, Try.ntmps50
      go_wp2_with (go_at_call 85; refine (nanStr_any _ _).mono ?_; rintro e w1 ⟨rfl, rfl⟩)
      go_ret
      exact ⟨congrArg (fun z => Ending.returned (.int .i64 z)) hRt.out.symm, rfl⟩
  · have hRt := Lib.hid (show R = -1 from by rw [hR]; unfold sgS; rw [h1]; rfl)
    clear hR
    go_enter Try.func50, Try.ntmps50
    go_wp2_with (go_at_call 85; refine (nanStr_any _ _).mono ?_; rintro e w1 ⟨rfl, rfl⟩)
    go_ret
    exact ⟨congrArg (fun z => Ending.returned (.int .i64 z)) hRt.out.symm, rfl⟩
/-- the first that is not 0 -/
def fst0 : List Int → Int
  | [] => 0
  | x :: s => if x = 0 then fst0 s else x
theorem fst0_drop {s : List Int} {j : Nat} (hj : j < s.length) (h0 : s[j] = 0) : fst0 (s.drop j) = fst0 (s.drop (j + 1)) := by
  rw [List.drop_eq_getElem_cons hj, fst0, if_pos h0]
theorem fst0_hit {s : List Int} {j : Nat} (hj : j < s.length) (h0 : ¬ s[j] = 0) : fst0 (s.drop j) = s[j] := by
  rw [List.drop_eq_getElem_cons hj, fst0, if_neg h0]
set_option maxHeartbeats 1000000 in
theorem cOrInt_any (s : List Int) (A : Option Addr) (n c : Nat) (w : World) (hn : n = s.length) (hb : n ≤ 1000000) (hr : RdI w w.heap.size .i64 A s) : Calls Try.prog 47 #[.slice A n c] w fun e w' => e = .returned (.int .i64 (fst0 s)) ∧ w' = w := by
  obtain ⟨R, hR⟩ : ∃ R, R = fst0 s := ⟨_, rfl⟩
  rw [← hR]
  have HR := Lib.hid hR
  have HN := Lib.hid hn
  have H := Lib.hid hr
  clear hR hr hn
  go_enter Try.func47, Try.ntmps47
  go_wp2_with fail
  go_loopw [5, 8] (fun _ u wr => ∃ j : Nat, j ≤ n ∧ u = .int .i64 (j : Int) ∧ Hid (R = fst0 (s.drop j)) ∧ wr = w) (fun _ u _ => n - (intOf u).toNat)
  case atStart => exact ⟨0, Nat.zero_le _, rfl, Lib.hid (by rw [HR.out]; rfl), rfl⟩
  case round =>
    obtain ⟨j, hj, rfl, hd, rfl⟩ := hrel
    by_cases hlt : j < n
    · have hjs : j < s.length := by rw [← HN.out]; exact hlt
      obtain ⟨b, o, e, hbk, hcell⟩ := H.out.at_ hjs
      subst e
      obtain ⟨z, hz⟩ : ∃ z, z = s[j] := ⟨_, rfl⟩
      have hcz : s[j]?.getD 0 = z := by rw [List.getElem?_eq_getElem hjs, hz]; rfl
      rw [hcz] at hcell
      have hj2 : (j : Int) < (n : Int) := by omega
      have hj0 : (0 : Int) ≤ (j : Int) := by omega
      by_cases h0 : z = 0
      · have hnx := Lib.hid (show R = fst0 (s.drop (j + 1)) from by rw [hd.out]; exact fst0_drop hjs (by rw [← hz]; exact h0))
        have hzf : (z == 0) = true := by rw [h0]; rfl
        clear hz hcz h0 hd
        go_wp2_with fail
        go_roundw
        case rel => exact ⟨j + 1, by omega, by go_num, hnx, by first | rfl | trivial⟩
        case measure => simp [intOf]; omega
      · have hRz := Lib.hid (show R = z from by rw [hd.out, fst0_hit hjs (by rw [← hz]; exact h0), hz])
        have hzf : (z == 0) = false := by simpa using h0
        clear hz hcz hd
        go_wp2_with fail
        go_ret
        exact ⟨congrArg (fun q => Ending.returned (.int .i64 q)) hRz.out.symm, rfl⟩
    · have hjn : j = n := by omega
      have hRz := Lib.hid (show R = 0 from by rw [hd.out, hjn, HN.out, List.drop_length]; rfl)
      have hju : ¬ ((j : Int) < (n : Int)) := by omega
      go_wp2_with fail
      go_ret
      exact ⟨congrArg (fun q => Ending.returned (.int .i64 q)) hRz.out.symm, rfl⟩
set_option maxHeartbeats 1000000 in
theorem r6first_any (s : List Int) (A : Option Addr) (n c : Nat) (w : World) (hn : n = s.length) (hb : n ≤ 1000000) (hr : RdI w w.heap.size .i64 A s) : Calls Try.prog 51 #[.slice A n c] w fun e w' => e = .returned (.int .i64 (fst0 s)) ∧ w' = w := by
  obtain ⟨R, hR⟩ : ∃ R, R = fst0 s := ⟨_, rfl⟩
  rw [← hR]
  have HR := Lib.hid hR
  have HN := Lib.hid hn
  have H := Lib.hid hr
  clear hR hr hn
  go_enter Try.func51, Try.ntmps51
  go_wp2_with fail
  go_loopw [3] (fun u wr => ∃ j : Nat, j ≤ n ∧ u = .int .i64 (j : Int) ∧ Hid (R = fst0 (s.drop j)) ∧ wr = w) (fun u _ => n - (intOf u).toNat)
  case atStart => exact ⟨0, Nat.zero_le _, rfl, Lib.hid (by rw [HR.out]; rfl), rfl⟩
  case round =>
    obtain ⟨j, hj, rfl, hd, rfl⟩ := hrel
    by_cases hlt : j < n
    · have hjs : j < s.length := by rw [← HN.out]; exact hlt
      obtain ⟨b, o, e, hbk, hcell⟩ := H.out.at_ hjs
      subst e
      obtain ⟨z, hz⟩ : ∃ z, z = s[j] := ⟨_, rfl⟩
      have hcz : s[j]?.getD 0 = z := by rw [List.getElem?_eq_getElem hjs, hz]; rfl
      rw [hcz] at hcell
      have hj2 : (j : Int) < (n : Int) := by omega
      have hj0 : (0 : Int) ≤ (j : Int) := by omega
      by_cases h0 : z = 0
      · have hnx := Lib.hid (show R = fst0 (s.drop (j + 1)) from by rw [hd.out]; exact fst0_drop hjs (by rw [← hz]; exact h0))
        have hzf : (z == 0) = true := by rw [h0]; rfl
        clear hz hcz h0 hd
        go_wp2_with fail
        go_roundw
        case rel => exact ⟨j + 1, by omega, by go_num, hnx, by first | rfl | trivial⟩
        case measure => simp [intOf]; omega
      · have hRz := Lib.hid (show R = z from by rw [hd.out, fst0_hit hjs (by rw [← hz]; exact h0), hz])
        have hzf : (z == 0) = false := by simpa using h0
        clear hz hcz hd
        go_wp2_with fail
        go_ret
        exact ⟨congrArg (fun q => Ending.returned (.int .i64 q)) hRz.out.symm, rfl⟩
    · have hjn : j = n := by omega
      have hRz := Lib.hid (show R = 0 from by rw [hd.out, hjn, HN.out, List.drop_length]; rfl)
      have hju : ¬ ((j : Int) < (n : Int)) := by omega
      go_wp2_with fail
      go_ret
      exact ⟨congrArg (fun q => Ending.returned (.int .i64 q)) hRz.out.symm, rfl⟩
end Go.Proofs.Ytngfgohchnkidaa
