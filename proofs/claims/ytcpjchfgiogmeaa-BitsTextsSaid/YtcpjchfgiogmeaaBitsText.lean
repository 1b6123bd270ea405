/-
  THE WALK of the program's Text.
-/
import Derived.Test.YtcpjchfgiogmeaaBitsPd
import Derived.Test.YtcpjchfgiogmeaaBitsRow
namespace Go.Proofs.Ytcpjchfgiogmeaa
open Go.RowKit

/-- the byte of a digit -/
def digI (d : Nat) : Int := if d < 10 then 48 + d else 87 + d
def digitsL (u n sz k : Nat) : List Int := (List.range k).map fun i => digI (u / 2 ^ (n - sz * (i + 1)) % 2 ^ sz)
theorem digitsL_length (u n sz k : Nat) : (digitsL u n sz k).length = k := by simp [digitsL]
theorem digitsL_succ (u n sz k : Nat) : digitsL u n sz (k + 1) = digitsL u n sz k ++ [digI (u / 2 ^ (n - sz * (k + 1)) % 2 ^ sz)] := by
  simp [digitsL, List.range_succ]
def textI (u n : Nat) : List Int := if n % 4 = 0 then [35, 120] ++ digitsL u n 4 (n / 4) else [35, 98] ++ digitsL u n 1 n
theorem cell_new (w : World) (x : Value) (t : TypeId) : (w.alloc (.cells #[x] t)).cell? ⟨w.heap.size, 0, none⟩ = some x := by rw [World.cell?_alloc_mark]; rfl
theorem digit_index (d : Nat) (hd : d < 16) (W : World) : (Instr.index 9 (.string ⟨#[48, 49, 50, 51, 52, 53, 54, 55, 56, 57, 97, 98, 99, 100, 101, 102]⟩) (.int .u64 d)).run Try.prog W = .ok (.int .u8 (digI d)) W := by
  have : d = 0 ∨ d = 1 ∨ d = 2 ∨ d = 3 ∨ d = 4 ∨ d = 5 ∨ d = 6 ∨ d = 7 ∨ d = 8 ∨ d = 9 ∨ d = 10 ∨ d = 11 ∨ d = 12 ∨ d = 13 ∨ d = 14 ∨ d = 15 := by omega
  rcases this with rfl | rfl | rfl | rfl | rfl | rfl | rfl | rfl | rfl | rfl | rfl | rfl | rfl | rfl | rfl | rfl <;> (show _ = _; kernel_rfl)
set_option maxHeartbeats 4000000 in
theorem pText_four (u m : Nat) (w : World) (h1 : 1 ≤ (4 * m)) (h64 : (4 * m) ≤ 64) (hu : u < 18446744073709551616) (Z : List Int) (hZ : Hid (Z = [35, 120] ++ digitsL u (4 * m) 4 m)) (c1 : Calls Try.prog 13 #[.int .u64 u, .int .i64 ((4 * m) : Nat)] w fun e w' => e = .returned (.int .i64 0) ∧ w = w') :
    Calls Try.prog 27 #[.int .u64 u, .int .i64 ((4 * m) : Nat)] w fun e w' => e = .returned (.tuple #[.string (strOfNums Z), .int .i64 0]) ∧ Below w.heap.size w w' := by
  have t1 : (((4 * m : Nat) : Int).tmod 4 == 0) = true := by simp
  have t2 : ((4 * m : Nat) : Int) / 4 = m := by omega
  obtain ⟨cap, C, hcv, hrow⟩ := convU ⟨#[35, 120]⟩ w
  obtain ⟨i0, hi, hz0, hz1, hz2⟩ := info_parts info_u8
  have hgr : ∀ W : World, Calls Try.prog 37 #[.int .i64 4] W fun e w' => e = .returned (.int .u64 15) ∧ w' = W := fun W => (pgreatest_any 4 W (by decide) (by decide)).mono fun _ _ h => ⟨h.1, h.2.symm⟩
  go_enter Try.func27, Try.ntmps27
  go_wp2_with (go_at_call 13; refine c1.mono ?_; clear c1; rintro e w1 ⟨rfl, rfl⟩)
  have hrow0 : RowU (w.alloc (.cells C 5 (C.size, C.size + 1))).drew w.heap.size (.slice (some ⟨w.heap.size, 0, none⟩) 2 cap) ([35, 120] ++ digitsL u (4 * m) 4 0) := hrow
  go_loopw [9, 26] (fun v i wr => ∃ k : Nat, k ≤ m ∧ i = .int .i64 k ∧ RowU wr w.heap.size v ([35, 120] ++ digitsL u (4 * m) 4 k) ∧ Below w.heap.size w wr) (fun _ i _ => m - (intOf i).toNat)
  case atStart => exact ⟨0, Nat.zero_le _, rfl, hrow0, ((Below.refl _ w).alloc (Nat.le_refl _) _).drew⟩
  case round =>
    clear hrow hrow0 hcv
    obtain ⟨k, hk, rfl, hr, hW⟩ := hrel
    have hsz := hW.size
    by_cases h : k < m
    · have hd : u / 2 ^ ((4 * m) - 4 * (k + 1)) % 2 ^ 4 < 16 := Nat.lt_of_lt_of_le (Nat.mod_lt _ (by decide)) (by decide)
      have he := ext_raw (a := u) (lo := (4 * m) - 4 * (k + 1)) (k := 4) (by decide) hu
      have HS := Lib.hid (digitsL_succ u (4 * m) 4 k)
      have HL := Lib.hid (digitsL_length u (4 * m) 4 k)
      generalize hdd : u / 2 ^ ((4 * m) - 4 * (k + 1)) % 2 ^ 4 = d at hd he HS
      have HI := digit_index d hd
      go_wp2_with (fail)
      go_quiet (exact Calls.quiet_of_same (hgr _))
      rw [show bits .and .u64 ((u : Int) / 2 ^ (4 * m - 4 * (k + 1))) 15 = (d : Int) from he]
      clear he hdd
      have hr2 := hr.below (below_drewN (Below.refl _ _) nq)
      have hW2 := below_drewN hW nq
      have hsz2 := hW2.size
      generalize wr.drewN nq = W at *
      go_wp2_with (at_builtin; refine wpList_append_u _ rfl (.tmp 40) (.tmp 43) 43 rfl 5 i0 (.int .u8 0) Try.underlying43 hi hz0 hz1 hz2 rfl w.heap.size u9 _ rfl (hr2.alloc _) (by simp; omega) (by simp [HL.out]; omega) W.heap.size (digI d) rfl (cell_new _ _ _) ?_; intro v' w3 hr3 hb3)
      go_roundw
      case rel => exact ⟨k + 1, by omega, by congr 1 <;> omega, by rw [HS.out, ← List.append_assoc]; exact hr3, (hW2.alloc hsz2 _).trans hb3⟩
      case measure => simp [intOf]; omega
    · obtain rfl : k = m := by omega
      rw [← hZ.out] at hr
      clear hZ
      obtain ⟨g, c, rfl, hrd⟩ := hr.reads
      have hcs := conv_string g _ c _ wr rfl hrd
      go_wp2
      go_ret2
      exact ⟨rfl, hW⟩
set_option maxHeartbeats 4000000 in
theorem pText_one (u n : Nat) (w : World) (h1 : 1 ≤ n) (h64 : n ≤ 64) (h4 : n % 4 ≠ 0) (hu : u < 18446744073709551616) (Z : List Int) (hZ : Hid (Z = [35, 98] ++ digitsL u n 1 n)) (c1 : Calls Try.prog 13 #[.int .u64 u, .int .i64 (n : Nat)] w fun e w' => e = .returned (.int .i64 0) ∧ w = w') :
    Calls Try.prog 27 #[.int .u64 u, .int .i64 (n : Nat)] w fun e w' => e = .returned (.tuple #[.string (strOfNums Z), .int .i64 0]) ∧ Below w.heap.size w w' := by
  have t1 : (((n : Nat) : Int).tmod 4 == 0) = false := by
    rw [Int.tmod_eq_emod_of_nonneg (by omega)]
    simp
    omega
  have t3 : (((n : Nat) : Int) % 4 == 0) = false := by simp; omega
  clear h4
  obtain ⟨cap, C, hcv, hrow⟩ := convU ⟨#[35, 98]⟩ w
  obtain ⟨i0, hi, hz0, hz1, hz2⟩ := info_parts info_u8
  have hgr : ∀ W : World, Calls Try.prog 37 #[.int .i64 1] W fun e w' => e = .returned (.int .u64 1) ∧ w' = W := fun W => (pgreatest_any 1 W (by decide) (by decide)).mono fun _ _ h => ⟨h.1, h.2.symm⟩
  go_enter Try.func27, Try.ntmps27
  go_wp2_with (go_at_call 13; refine c1.mono ?_; clear c1; rintro e w1 ⟨rfl, rfl⟩)
  have hrow0 : RowU (w.alloc (.cells C 5 (C.size, C.size + 1))).drew w.heap.size (.slice (some ⟨w.heap.size, 0, none⟩) 2 cap) ([35, 98] ++ digitsL u n 1 0) := hrow
  go_loopw [9, 26] (fun v i wr => ∃ k : Nat, k ≤ n ∧ i = .int .i64 k ∧ RowU wr w.heap.size v ([35, 98] ++ digitsL u n 1 k) ∧ Below w.heap.size w wr) (fun _ i _ => n - (intOf i).toNat)
  case atStart => exact ⟨0, Nat.zero_le _, rfl, hrow0, ((Below.refl _ w).alloc (Nat.le_refl _) _).drew⟩
  case round =>
    clear hrow hrow0 hcv
    obtain ⟨k, hk, rfl, hr, hW⟩ := hrel
    have hsz := hW.size
    by_cases h : k < n
    · have hd : u / 2 ^ (n - 1 * (k + 1)) % 2 ^ 1 < 16 := Nat.lt_of_lt_of_le (Nat.mod_lt _ (by decide)) (by decide)
      have he := ext_raw (a := u) (lo := n - 1 * (k + 1)) (k := 1) (by decide) hu
      have HS := Lib.hid (digitsL_succ u n 1 k)
      have HL := Lib.hid (digitsL_length u n 1 k)
      generalize hdd : u / 2 ^ (n - 1 * (k + 1)) % 2 ^ 1 = d at hd he HS
      have HI := digit_index d hd
      go_wp2_with (fail)
      go_quiet (exact Calls.quiet_of_same (hgr _))
      rw [show bits .and .u64 ((u : Int) / 2 ^ (n - (k + 1))) 1 = (d : Int) by rw [← he, Nat.one_mul]; rfl]
      clear he hdd
      have hr2 := hr.below (below_drewN (Below.refl _ _) nq)
      have hW2 := below_drewN hW nq
      have hsz2 := hW2.size
      generalize wr.drewN nq = W at *
      go_wp2_with (at_builtin; refine wpList_append_u _ rfl (.tmp 40) (.tmp 43) 43 rfl 5 i0 (.int .u8 0) Try.underlying43 hi hz0 hz1 hz2 rfl w.heap.size u9 _ rfl (hr2.alloc _) (by simp; omega) (by simp [HL.out]; omega) W.heap.size (digI d) rfl (cell_new _ _ _) ?_; intro v' w3 hr3 hb3)
      go_roundw
      case rel => exact ⟨k + 1, by omega, by congr 1 <;> omega, by rw [HS.out, ← List.append_assoc]; exact hr3, (hW2.alloc hsz2 _).trans hb3⟩
      case measure => simp [intOf]; omega
    · obtain rfl : k = n := by omega
      rw [← hZ.out] at hr
      clear hZ
      obtain ⟨g, c, rfl, hrd⟩ := hr.reads
      have hcs := conv_string g _ c _ wr rfl hrd
      go_wp2
      go_ret2
      exact ⟨rfl, hW⟩

/-- Text(u, n): the bytes and the error -/
def textS (u : Nat) (n : Int) : List Int × Int := if validE u n ≠ 0 then ([], validE u n) else (textI u n.toNat, 0)
def TextPost (w : World) (r : List Int × Int) (e : Ending) (w' : World) : Prop := e = .returned (.tuple #[.string (strOfNums r.1), .int .i64 r.2]) ∧ Below w.heap.size w w'
theorem str_nil : strOfNums [] = ⟨#[]⟩ := by decide
set_option maxHeartbeats 1000000 in
theorem pText_any (u : Nat) (n : Int) (w : World) (hu : u < 18446744073709551616) : Calls Try.prog 27 #[.int .u64 u, .int .i64 n] w (TextPost w (textS u n)) := by
  unfold textS
  have c1 := pValid_any u n w hu
  by_cases e1 : validE u n = 0
  · rw [if_neg (by simp [e1])]
    rw [e1] at c1
    obtain ⟨m, rfl, h64, _⟩ := validE_zero e1
    clear e1
    rw [Int.toNat_natCast]
    unfold textI
    by_cases h4 : (m + 1) % 4 = 0
    · rw [if_pos h4]
      obtain ⟨q, hq⟩ : ∃ q, m + 1 = 4 * q := ⟨(m + 1) / 4, by omega⟩
      rw [hq] at c1 h64 ⊢
      have e : 4 * q / 4 = q := by omega
      rw [e]
      exact pText_four u q w (by omega) h64 hu _ (Lib.hid rfl) c1
    · rw [if_neg h4]
      exact pText_one u (m + 1) w (by omega) h64 h4 hu _ (Lib.hid rfl) c1
  · rw [if_pos e1]
    have t1 : (validE u n != 0) = true := by simpa using e1
    have HS := Lib.hid str_nil
    generalize validE u n = x at *
    go_enter Try.func27, Try.ntmps27
    go_wp2_with (go_at_call 13; refine c1.mono ?_; clear c1; rintro e w1 ⟨rfl, rfl⟩)
    go_ret2
    exact ⟨by rw [HS.out]; rfl, Below.refl _ _⟩
end Go.Proofs.Ytcpjchfgiogmeaa
