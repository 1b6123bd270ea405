/-
  THE REFERENCE's small functions: in, only, value.
-/
import Derived.Test.YtpeeekgfcofbkaaLxRQuote
namespace Go.Proofs.Ytpeeekgfcofbkaa
open Go.RowKit

/-- a byte is one of a text -/
def memI (c : Int) (l : List Int) : Bool := l.any fun x => x == c
theorem memI_cons (c x : Int) (l : List Int) : memI c (x :: l) = ((x == c) || memI c l) := rfl
/-- all bytes of a text are some of others -/
def allI (l o : List Int) : Bool := l.all fun x => memI x o
set_option maxHeartbeats 1000000 in
theorem in_any (c : Nat) (R : ByteArray) (w : World) (hR : R.size ≤ 1000000) : Calls Try.prog 31 #[.int .u8 c, .string R] w fun e w' => e = .returned (.bool (memI c (sb R))) ∧ w' = w := by
  obtain ⟨V, hV⟩ : ∃ V, V = memI c (sb R) := ⟨_, rfl⟩
  rw [← hV]
  replace hV := Lib.hid hV
  go_enter Try.func31, Try.ntmps31
  go_wp2_with fail
  go_loop [5] (fun i => ∃ k : Nat, i = .int .i64 (k : Int) ∧ k ≤ R.size ∧ Hid (V = memI c ((sb R).drop k))) (fun i => R.size - (intOf i).toNat)
  case atStart => exact ⟨0, rfl, by omega, hV⟩
  case round =>
    obtain ⟨k, rfl, hk, hI⟩ := hrel
    by_cases hlt : k < R.size
    · have hlI : (k : Int) < (R.size : Int) := by omega
      obtain ⟨x, hx, hdx, ix⟩ := sb_get R k hlt
      replace hdx := Lib.hid hdx
      by_cases hA : x = c
      · subst hA
        have hv := Lib.hid (show V = true from by rw [hI.out, hdx.out, memI_cons]; simp)
        go_wp2
        go_ret
        exact ⟨by rw [hv.out]; rfl, rfl⟩
      · have g1 : ((x : Int) == (c : Int)) = false := by rw [beq_eq_false_iff_ne]; omega
        have hv := Lib.hid (show V = memI c ((sb R).drop (k + 1)) from by rw [hI.out, hdx.out, memI_cons, g1]; rfl)
        replace hA := Lib.hid hA
        go_wp2
        go_round
        case rel => exact ⟨k + 1, by go_num, by omega, hv⟩
        case measure => simp [intOf]; omega
    · have hlI : ¬ (k : Int) < (R.size : Int) := by omega
      have hv := Lib.hid (show V = false from by rw [hI.out, List.drop_eq_nil_of_le (by rw [sb_length]; omega)]; rfl)
      go_wp2
      go_ret
      exact ⟨by rw [hv.out]; rfl, rfl⟩
set_option maxHeartbeats 1000000 in
theorem only_any (s R : ByteArray) (w : World) (hs : s.size ≤ 1000000) (hR : R.size ≤ 1000000) : Calls Try.prog 46 #[.string s, .string R] w fun e w' => e = .returned (.bool (allI (sb s) (sb R))) ∧ w' = w := by
  obtain ⟨V, hV⟩ : ∃ V, V = allI (sb s) (sb R) := ⟨_, rfl⟩
  rw [← hV]
  replace hV := Lib.hid hV
  have HI := Lib.hid fun (c : Nat) W => in_any c R W hR
  go_enter Try.func46, Try.ntmps46
  go_wp2_with fail
  go_loop [5] (fun i => ∃ k : Nat, i = .int .i64 (k : Int) ∧ k ≤ s.size ∧ Hid (V = allI ((sb s).drop k) (sb R))) (fun i => s.size - (intOf i).toNat)
  case atStart => exact ⟨0, rfl, by omega, hV⟩
  case round =>
    obtain ⟨k, rfl, hk, hI⟩ := hrel
    by_cases hlt : k < s.size
    · have hlI : (k : Int) < (s.size : Int) := by omega
      obtain ⟨x, hx, hdx, ix⟩ := sb_get s k hlt
      replace hdx := Lib.hid hdx
      cases hA : memI x (sb R)
      · have hv := Lib.hid (show V = false from by rw [hI.out, hdx.out]; unfold allI; rw [List.all_cons, hA]; rfl)
        have hC := HI.out x
        rw [hA] at hC
        replace hC := Lib.hid hC
        clear HI
        go_wp2_with (go_at_call 31; refine Calls.mono (hC.out _) ?_; clear hC; rintro e w1 ⟨rfl, hw1⟩; rw [hw1]; clear hw1 w1)
        go_ret
        exact ⟨by rw [hv.out]; rfl, rfl⟩
      · have hv := Lib.hid (show V = allI ((sb s).drop (k + 1)) (sb R) from by rw [hI.out, hdx.out]; unfold allI; rw [List.all_cons, hA]; rfl)
        have hC := HI.out x
        rw [hA] at hC
        replace hC := Lib.hid hC
        clear HI
        go_wp2_with (go_at_call 31; refine Calls.mono (hC.out _) ?_; clear hC; rintro e w1 ⟨rfl, hw1⟩; rw [hw1]; clear hw1 w1)
        go_round
        case rel => exact ⟨k + 1, by go_num, by omega, hv⟩
        case measure => simp [intOf]; omega
    · have hlI : ¬ (k : Int) < (s.size : Int) := by omega
      have hv := Lib.hid (show V = true from by rw [hI.out, List.drop_eq_nil_of_le (by rw [sb_length]; omega)]; rfl)
      clear HI
      go_wp2
      go_ret
      exact ⟨by rw [hv.out]; rfl, rfl⟩
/-- the value of a digit, -1: it is none -/
def valI (c : Int) : Int := if inR HEX c then hv c else -1
theorem val_check : ((List.range 256).all fun c => (List.range 16).all fun k => (decide ((dg ((k : Nat) : Int)) = ((c : Nat) : Int)) == decide (valI ((c : Nat) : Int) = (k : Int)))) = true := by kernel_rfl
theorem val_dig {c k : Nat} (hc : c < 256) (hk : k < 16) : dg (k : Int) = (c : Int) ↔ valI (c : Int) = (k : Int) := by
  have h := List.all_eq_true.1 (List.all_eq_true.1 val_check c (List.mem_range.2 hc)) k (List.mem_range.2 hk)
  have h2 := beq_iff_eq.1 h
  constructor
  · intro e
    rw [decide_eq_true e] at h2
    exact of_decide_eq_true h2.symm
  · intro e
    rw [decide_eq_true e] at h2
    exact of_decide_eq_true h2
theorem val_range (c : Nat) (hc : c < 256) : (valI (c : Int) = -1) ∨ (0 ≤ valI (c : Int) ∧ valI (c : Int) < 16) := by
  unfold valI
  cases h : inR HEX (c : Int)
  · exact .inl rfl
  · exact .inr (hex_ix hc h).2
set_option maxHeartbeats 1000000 in
theorem value_any (c : Nat) (hc : c < 256) (w : World) : Calls Try.prog 45 #[.int .u8 c] w fun e w' => e = .returned (.int .i64 (valI c)) ∧ w' = w := by
  obtain ⟨V, hV⟩ : ∃ V, V = valI c := ⟨_, rfl⟩
  rw [← hV]
  have hr := val_range c hc
  have hd := Lib.hid (fun (k : Nat) (hk : k < 16) => val_dig hc hk)
  rw [← hV] at hr hd
  replace hr := Lib.hid hr
  clear hV
  go_enter Try.func45, Try.ntmps45
  go_wp2_with fail
  go_loop [4] (fun i => ∃ k : Nat, i = .int .i64 (k : Int) ∧ k ≤ 16 ∧ Hid (V = -1 ∨ (k : Int) ≤ V)) (fun i => 16 - (intOf i).toNat)
  case atStart => exact ⟨0, rfl, by omega, Lib.hid (hr.out.elim .inl (fun h => .inr (by omega)))⟩
  case round =>
    obtain ⟨k, rfl, hk, hI⟩ := hrel
    by_cases hlt : k < 16
    · have hlI : (k : Int) < 16 := by omega
      have hk0 : (0 : Int) ≤ (k : Int) := by omega
      have hix : ∀ W : World, (Instr.index 9 (.string ⟨#[48, 49, 50, 51, 52, 53, 54, 55, 56, 57, 97, 98, 99, 100, 101, 102]⟩) (.int .i64 (k : Int))).run Try.prog W = .ok (.int .u8 (dg (k : Int))) W := fun W => by
        obtain ⟨x, hx, hdx, ix⟩ := sb_get ⟨#[48, 49, 50, 51, 52, 53, 54, 55, 56, 57, 97, 98, 99, 100, 101, 102]⟩ k hlt
        rw [ix W]
        have h16 : k = 0 ∨ k = 1 ∨ k = 2 ∨ k = 3 ∨ k = 4 ∨ k = 5 ∨ k = 6 ∨ k = 7 ∨ k = 8 ∨ k = 9 ∨ k = 10 ∨ k = 11 ∨ k = 12 ∨ k = 13 ∨ k = 14 ∨ k = 15 := by omega
        have hh : (x : Int) = dg (k : Int) := by
          rcases h16 with rfl | rfl | rfl | rfl | rfl | rfl | rfl | rfl | rfl | rfl | rfl | rfl | rfl | rfl | rfl | rfl <;> (injection hdx with h1 _; exact h1.symm)
        rw [hh]
      by_cases hA : dg (k : Int) = (c : Int)
      · have hv := Lib.hid ((hd.out k hlt).1 hA)
        rw [hA] at hix
        replace hA := Lib.hid hA
        go_wp2
        go_ret
        exact ⟨by rw [hv.out]; rfl, rfl⟩
      · have g1 : (dg (k : Int) == (c : Int)) = false := by rw [beq_eq_false_iff_ne]; exact hA
        have hv := Lib.hid (show V = -1 ∨ ((k + 1 : Nat) : Int) ≤ V from by
          have h1 : ¬ V = (k : Int) := fun h => hA ((hd.out k hlt).2 h)
          rcases hI.out with h | h
          · exact .inl h
          · exact .inr (by omega))
        replace hA := Lib.hid hA
        go_wp2
        go_round
        case rel => exact ⟨k + 1, by go_num, by omega, hv⟩
        case measure => simp [intOf]; omega
    · have hlI : ¬ (k : Int) < 16 := by omega
      have hv := Lib.hid (show V = -1 from by have h1 := hr.out; have h2 := hI.out; omega)
      go_wp2
      go_ret
      exact ⟨by rw [hv.out]; rfl, rfl⟩
end Go.Proofs.Ytpeeekgfcofbkaa
