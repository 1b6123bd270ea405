/-
  THE WALK of the reference's Value: always a value of the width.
-/
import Derived.Test.YtcpjchfgiogmeaaBitsValid
namespace Go.Proofs.Ytcpjchfgiogmeaa
open Go.RowKit

/-- Of, for a list whose length is known -/
theorem bOf_at {l : List Bool} {m : Nat} (hl : l.length = m) (h64 : m ≤ 64) (W : World) (A : Option Addr) (c : Nat) (hr : RdB W W.heap.size A l) :
    Calls Try.prog 36 #[.slice A m c] W fun e w' => e = .returned (.int .u64 (ofL l)) ∧ W = w' := bOf_any A m c W.heap.size l W hl.symm (by omega) hr

set_option maxHeartbeats 2000000 in
theorem bValue_any (u m : Nat) (hu : u < 18446744073709551616) (h1 : 1 ≤ m) (h64 : m ≤ 64) : ∃ v : Nat, v < 2 ^ m ∧ ∀ w, Calls Try.prog 12 #[.int .u64 u, .int .i64 m] w fun e w' => e = .returned (.int .u64 v) ∧ Below w.heap.size w w' := by
  obtain ⟨q, hq⟩ : ∃ q : Nat, (u : Int) / 8 = q := ⟨u / 8, by omega⟩
  have hq64 : q < 18446744073709551616 := by omega
  have cB : ∀ w, Calls Try.prog 32 #[.int .u64 q, .int .i64 m] w fun e w' => GivesB w.heap.size w (bitsL m q) e w' := fun w => bBits_any q m w hq64 h64
  have hl0 := Lib.hid (bitsL_length m q)
  have hlt0 := ofL_lt (bitsL m q)
  rw [bitsL_length] at hlt0
  generalize bitsL m q = l0 at cB hl0 hlt0
  have hlv : ∀ l : List Bool, l.length = m → ofL l < 2 ^ m := fun l hl => by have := ofL_lt l; rwa [hl] at this
  obtain ⟨r, hr8⟩ : ∃ r : Nat, (u : Int) % 8 = r := ⟨u % 8, by omega⟩
  by_cases h0 : r = 0
  · subst h0
    have hl1 : (List.replicate m false).length = m := by simp
    have cZ : ∀ w, Calls Try.prog 33 #[.int .i64 m] w fun e w' => GivesB w.heap.size w (List.replicate m false) e w' := fun w => bzero_any m w (by omega)
    refine ⟨_, hlv _ hl1, fun w => ?_⟩
    have cO := bOf_at hl1 h64
    generalize List.replicate m false = l1 at cZ cO hl1
    have HL := Lib.hid hl1
    clear hl1 hlv hlt0
    go_enter Try.func12, Try.ntmps12
    go_wp2_with (first
      | (go_at_call 32; refine (cB w).mono ?_; clear cB; rintro e w1 ⟨A, c, rfl, hrow, hb1⟩; rw [hl0.out] at hrow ⊢)
      | (go_at_call 33; refine (cZ w1).mono ?_; clear cZ; rintro e w2 ⟨A2, c2, rfl, hrow2, hb2⟩; rw [HL.out] at hrow2 ⊢; have hr2 := rdb_own hrow2)
      | (go_at_call 36; refine (cO w2 _ _ hr2).mono ?_; clear cO; rintro e w3 ⟨rfl, rfl⟩))
    go_ret
    exact ⟨rfl, hb1.trans (hb2.mono hb1.size)⟩
  by_cases h1 : r = 1
  · subst h1
    have hl1 : (List.replicate m false).length = m := by simp
    have hl2 : ((List.replicate m false).map (!·)).length = m := by simp
    have cZ : ∀ w, Calls Try.prog 33 #[.int .i64 m] w fun e w' => GivesB w.heap.size w (List.replicate m false) e w' := fun w => bzero_any m w (by omega)
    have cF : ∀ w A c, RdB w w.heap.size A (List.replicate m false) → Calls Try.prog 34 #[.slice A m c] w fun e w' => GivesB w.heap.size w ((List.replicate m false).map (!·)) e w' := fun w A c hr => bflip_any A m c _ w hl1.symm (by omega) hr
    refine ⟨_, hlv _ hl2, fun w => ?_⟩
    have cO := bOf_at hl2 h64
    generalize (List.replicate m false).map (!·) = l2 at cF cO hl2
    generalize List.replicate m false = l1 at cZ cF hl1
    have HL := Lib.hid hl1
    have HL2 := Lib.hid hl2
    clear hl1 hl2 hlv hlt0
    go_enter Try.func12, Try.ntmps12
    go_wp2_with (first
      | (go_at_call 32; refine (cB w).mono ?_; clear cB; rintro e w1 ⟨A, c, rfl, hrow, hb1⟩; rw [hl0.out] at hrow ⊢)
      | (go_at_call 33; refine (cZ w1).mono ?_; clear cZ; rintro e w2 ⟨A2, c2, rfl, hrow2, hb2⟩; rw [HL.out] at hrow2 ⊢; have hr2 := rdb_own hrow2)
      | (go_at_call 34; refine (cF w2 _ _ hr2).mono ?_; clear cF; rintro e w3 ⟨A3, c3, rfl, hrow3, hb3⟩; rw [HL2.out] at hrow3 ⊢; have hr3 := rdb_own hrow3)
      | (go_at_call 36; refine (cO w3 _ _ hr3).mono ?_; clear cO; rintro e w4 ⟨rfl, rfl⟩))
    go_ret
    have s1 := hb1.size
    have s2 := hb2.size
    exact ⟨rfl, (hb1.trans (hb2.mono s1)).trans (hb3.mono (Nat.le_trans s1 s2))⟩
  by_cases h2 : r = 2
  · subst h2
    have hl1 : (List.replicate m false).length = m := by simp
    have hl2 : ((List.replicate m false).map (!·)).length = m := by simp
    have hl3 : (movedL ((List.replicate m false).map (!·)) ((m : Int) - 1) false).length = m := by rw [movedL_length, hl2]
    have cZ : ∀ w, Calls Try.prog 33 #[.int .i64 m] w fun e w' => GivesB w.heap.size w (List.replicate m false) e w' := fun w => bzero_any m w (by omega)
    have cF : ∀ w A c, RdB w w.heap.size A (List.replicate m false) → Calls Try.prog 34 #[.slice A m c] w fun e w' => GivesB w.heap.size w ((List.replicate m false).map (!·)) e w' := fun w A c hr => bflip_any A m c _ w hl1.symm (by omega) hr
    have cM : ∀ w A c, RdB w w.heap.size A ((List.replicate m false).map (!·)) → Calls Try.prog 35 #[.slice A m c, .int .i64 ((m : Int) - 1), .bool false] w fun e w' => GivesB w.heap.size w (movedL ((List.replicate m false).map (!·)) ((m : Int) - 1) false) e w' := fun w A c hr => bmoved_any A m c _ _ false w hl2.symm (by omega) (by omega) (by omega) hr
    refine ⟨_, hlv _ hl3, fun w => ?_⟩
    have cO := bOf_at hl3 h64
    generalize movedL ((List.replicate m false).map (!·)) ((m : Int) - 1) false = l3 at cM cO hl3
    generalize (List.replicate m false).map (!·) = l2 at cF cM hl2
    generalize List.replicate m false = l1 at cZ cF hl1
    have HL := Lib.hid hl1
    have HL2 := Lib.hid hl2
    have HL3 := Lib.hid hl3
    clear hl1 hl2 hl3 hlv hlt0
    go_enter Try.func12, Try.ntmps12
    go_wp2_with (first
      | (go_at_call 32; refine (cB w).mono ?_; clear cB; rintro e w1 ⟨A, c, rfl, hrow, hb1⟩; rw [hl0.out] at hrow ⊢)
      | (go_at_call 33; refine (cZ w1).mono ?_; clear cZ; rintro e w2 ⟨A2, c2, rfl, hrow2, hb2⟩; rw [HL.out] at hrow2 ⊢; have hr2 := rdb_own hrow2)
      | (go_at_call 34; refine (cF w2 _ _ hr2).mono ?_; clear cF; rintro e w3 ⟨A3, c3, rfl, hrow3, hb3⟩; rw [HL2.out] at hrow3 ⊢; have hr3 := rdb_own hrow3)
      | (go_at_call 35; refine (cM w3 _ _ hr3).mono ?_; clear cM; rintro e w4 ⟨A4, c4, rfl, hrow4, hb4⟩; rw [HL3.out] at hrow4 ⊢; have hr4 := rdb_own hrow4)
      | (go_at_call 36; refine (cO w4 _ _ hr4).mono ?_; clear cO; rintro e w5 ⟨rfl, rfl⟩))
    go_ret
    have s1 := hb1.size
    have s2 := hb2.size
    have s3 := hb3.size
    exact ⟨rfl, ((hb1.trans (hb2.mono s1)).trans (hb3.mono (Nat.le_trans s1 s2))).trans (hb4.mono (Nat.le_trans s1 (Nat.le_trans s2 s3)))⟩
  by_cases h3 : r = 3
  · subst h3
    obtain ⟨p, hp⟩ : ∃ p : Nat, (q : Int) % 8 = p := ⟨q % 8, by omega⟩
    have hl1 := bitsL_length m p
    have cC : ∀ w, Calls Try.prog 32 #[.int .u64 p, .int .i64 m] w fun e w' => GivesB w.heap.size w (bitsL m p) e w' := fun w => bBits_any p m w (by omega) h64
    refine ⟨_, hlv _ hl1, fun w => ?_⟩
    have cO := bOf_at hl1 h64
    generalize bitsL m p = l1 at cC cO hl1
    have HL := Lib.hid hl1
    clear hl1 hlv hlt0
    go_enter Try.func12, Try.ntmps12
    go_wp2_with (first
      | (go_at_call 32; refine (cB w).mono ?_; clear cB; rintro e w1 ⟨A, c, rfl, hrow, hb1⟩; rw [hl0.out] at hrow ⊢)
      | (go_at_call 32; refine (cC w1).mono ?_; clear cC; rintro e w2 ⟨A2, c2, rfl, hrow2, hb2⟩; rw [HL.out] at hrow2 ⊢; have hr2 := rdb_own hrow2)
      | (go_at_call 36; refine (cO w2 _ _ hr2).mono ?_; clear cO; rintro e w3 ⟨rfl, rfl⟩))
    go_ret
    exact ⟨rfl, hb1.trans (hb2.mono hb1.size)⟩
  · refine ⟨_, hlt0, fun w => ?_⟩
    have cO := bOf_at hl0.out h64
    have t0 : ((r : Int) == 0) = false := by simp; omega
    have t1 : ((r : Int) == 1) = false := by simp; omega
    have t2 : ((r : Int) == 2) = false := by simp; omega
    have t3 : ((r : Int) == 3) = false := by simp; omega
    clear hlv hlt0
    go_enter Try.func12, Try.ntmps12
    go_wp2_with (first
      | (go_at_call 32; refine (cB w).mono ?_; clear cB; rintro e w1 ⟨A, c, rfl, hrow, hb1⟩; rw [hl0.out] at hrow ⊢; have hr := rdb_own hrow)
      | (go_at_call 36; refine (cO w1 _ _ hr).mono ?_; clear cO; rintro e w3 ⟨rfl, rfl⟩))
    go_ret
    exact ⟨rfl, hb1⟩
end Go.Proofs.Ytcpjchfgiogmeaa
