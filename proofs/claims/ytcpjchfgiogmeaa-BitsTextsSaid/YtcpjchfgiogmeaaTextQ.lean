/-
  THE WALK of the program's Parse.
-/
import Derived.Test.YtcpjchfgiogmeaaTextP
import Derived.Deep.QuietTactic
namespace Go.Proofs.Ytcpjchfgiogmeaa
open Go.RowKit

def D16 : ByteArray := ⟨#[48, 49, 50, 51, 52, 53, 54, 55, 56, 57, 97, 98, 99, 100, 101, 102]⟩
/-- where a byte lies among the digits of a base, or -1 -/
def ixI (sz : Nat) (c : Int) : Int := match dv sz c with
  | some d => (d : Int)
  | none => -1
theorem ix_check : ((List.range 256).all fun c => (decide (firstIdx (D16.extract 0 2) (UInt8.ofNat c) = ixI 1 c) && decide (firstIdx (D16.extract 0 16) (UInt8.ofNat c) = ixI 4 c))) = true := by kernel_rfl
theorem ix_eq {sz : Nat} (hs : sz = 1 ∨ sz = 4) (c : Nat) (hc : c < 256) : firstIdx (D16.extract 0 (2 ^ sz)) (UInt8.ofNat c) = ixI sz c := by
  have h := List.all_eq_true.1 ix_check c (List.mem_range.2 hc)
  simp only [Bool.and_eq_true, decide_eq_true_eq] at h
  rcases hs with rfl | rfl
  · exact h.1
  · exact h.2
set_option maxHeartbeats 1000000 in
theorem index_at (D : ByteArray) (c : Nat) (w : World) (_ : c < 256) : Calls Try.prog 45 #[.string D, .int .u8 c] w fun e w' => e = .returned (.int .i64 (firstIdx D (UInt8.ofNat c))) ∧ w = w' := by
  have hrun : ∀ W : World, (callFunc 72 #[.string D, .int .u8 c]).run Try.prog W = .ok (.value (.int .i64 (firstIdx D (UInt8.ofNat c)))) W := fun W => by
    rw [run_callFunc_extern Try.func72 (by kernel_rfl) (by kernel_rfl) (by kernel_rfl) (by kernel_rfl)]
    rw [run_indexByte_string]
    simp
  have hI : ∀ W : World, Calls Try.prog 53 #[.string D, .int .u8 c] W fun e w' => e = .returned (.int .i64 (firstIdx D (UInt8.ofNat c))) ∧ W = w' := fun w => by
    generalize firstIdx D (UInt8.ofNat c) = x at hrun
    go_enter Try.func53, Try.ntmps53
    go_wp2
    go_ret
    exact ⟨rfl, rfl⟩
  generalize firstIdx D (UInt8.ofNat c) = x at hI
  go_enter Try.func45, Try.ntmps45
  go_wp2_with (go_at_call 53; refine (hI _).mono ?_; clear hI; rintro e w1 ⟨rfl, rfl⟩)
  go_ret
  exact ⟨rfl, rfl⟩
/-- what Parse hands back -/
def ParsePost (w : World) (r : Nat × Nat × Int) (e : Ending) (w' : World) : Prop := e = .returned (.tuple #[.int .u64 (r.1 : Nat), .int .i64 (r.2.1 : Nat), .int .i64 r.2.2]) ∧ Below w.heap.size w w'
theorem sb_at (r : ByteArray) (k : Nat) (h : k < r.size) : ∃ c : Nat, c < 256 ∧ (sb r).drop k = (c : Int) :: (sb r).drop (k + 1) ∧ ∀ W : World, (Instr.index 9 (.string r) (.int .i64 k)).run Try.prog W = .ok (.int .u8 c) W := by
  have hl : k < (sb r).length := by rw [sb_length]; exact h
  have hd : k < r.data.size := h
  refine ⟨(r.data[k]).toNat, (r.data[k]).toNat_lt, ?_, fun W => ?_⟩
  · rw [drop_at hl]
    congr 1
    simp [sb]
  · rw [run_index_string _ _ _ _ _ Try.underlying9, dif_pos (by omega)]
    rfl
theorem or_raw {u d sz : Nat} (hd : d < 2 ^ sz) (hu : u * 2 ^ sz + d < 18446744073709551616) : bits .or .u64 (IntKind.u64.wrap ((u : Int) * 2 ^ sz)) (d : Int) = ((u * 2 ^ sz + d : Nat) : Int) := by
  have h := wrapN (u * 2 ^ sz)
  rw [Nat.mod_eq_of_lt (by omega), Int.natCast_mul, Int.natCast_pow] at h
  rw [show IntKind.u64.wrap ((u : Int) * 2 ^ sz) = ((u * 2 ^ sz : Nat) : Int) from by rw [Int.natCast_mul, Int.natCast_pow]; exact h]
  rw [u64_or_nat _ _ (by omega) (by omega), Nat.mul_comm u, ← Nat.two_pow_add_eq_or_of_lt hd]
set_option maxHeartbeats 4000000 in
theorem parse_one (s r : ByteArray) (w : World) (h0 : 1 ≤ r.size) (h64 : 1 * r.size ≤ 64) (hm : ∀ W : World, Calls Try.prog 44 #[.string s] W fun e w' => e = .returned (.tuple #[.int .i64 1, .string r]) ∧ W = w') :
    Calls Try.prog 29 #[.string s] w (ParsePost w (finP 1 (sb r))) := by
  have t1 : (r.toList == []) = false := by
    rw [ByteArray.toList_eq]
    have : r.data.size = r.size := rfl
    cases hq : r.data.toList with
    | nil => have : r.data.toList.length = 0 := by rw [hq]; rfl
             rw [Array.length_toList] at this; omega
    | cons a l => rfl
  have hfin : Hid (finP 1 (sb r) = match valR 1 (sb r) with | some v => (v, 1 * r.size, 0) | none => (0, 0, 2)) := Lib.hid (by
    unfold finP
    rw [sb_length, if_neg (by omega)]
    cases valR 1 (sb r) <;> rfl)
  have hdec : decide ((64 : Int) < (r.size : Int)) = false := by simp; omega
  generalize finP 1 (sb r) = fin at hfin ⊢
  go_enter Try.func29, Try.ntmps29
  go_wp2_with (go_at_call 44; refine (hm _).mono ?_; clear hm; rintro e w1 ⟨rfl, rfl⟩)
  clear hdec
  go_loopw [7, 26] (fun v i wr => ∃ (k u : Nat), k ≤ r.size ∧ i = .int .i64 k ∧ v = .int .u64 u ∧ Hid (u < 2 ^ (1 * k)) ∧ Hid (valR 1 (sb r) = (valR 1 ((sb r).drop k)).map fun v => u * 2 ^ (1 * (r.size - k)) + v) ∧ Below w.heap.size w wr) (fun _ i _ => r.size - (intOf i).toNat)
  case atStart => exact ⟨0, 0, by omega, rfl, rfl, Lib.hid (by decide), Lib.hid (by rw [List.drop_zero]; cases valR 1 (sb r) <;> simp), Below.refl _ _⟩
  case round =>
    obtain ⟨k, u, hk, rfl, rfl, hu, hval, hW⟩ := hrel
    by_cases h : k < r.size
    · obtain ⟨c, hc, hdrop, HI⟩ := sb_at r k h
      have hix := fun W => index_at (D16.extract 0 (2 ^ 1)) c W hc
      rw [ix_eq (by decide : 1 = 1 ∨ 1 = 4) c hc] at hix
      have hix2 : ∀ W : World, Calls Try.prog 45 #[.string (D16.extract 0 2), .int .u8 c] W fun e w' => e = .returned (.int .i64 (ixI 1 c)) ∧ w' = W := fun W => (hix W).mono fun _ _ h => ⟨h.1, h.2.symm⟩
      clear hix
      have hk0 : (0 : Int) ≤ (k : Int) := by omega
      have hk1 : (k : Int) < (r.size : Int) := by omega
      have hlen : ((sb r).drop (k + 1)).length = r.size - (k + 1) := by rw [List.length_drop, sb_length]
      have HD := Lib.hid hdrop
      have HL := Lib.hid hlen
      clear hdrop hlen
      cases hdv : dv 1 c with
      | none =>
        have hbad : Hid (valR 1 (sb r) = none) := Lib.hid (valR_none k _ (by rw [HD.out]; exact valR_bad _ hdv))
        have hx : ixI 1 c = -1 := by unfold ixI; rw [hdv]
        rw [hx] at hix2
        clear hx hdv
        go_wp2
        unfold D16 at hix2
        go_quiet (exact Calls.quiet_of_same (hix2 _))
        go_wp2
        refine bodyPost_ret (v := .tuple #[.int .u64 0, .int .i64 0, .int .i64 2]) (by simp [results, Try.results29, go_sem]) rfl ?_
        rw [hfin.out, hbad.out]
        exact ⟨rfl, below_drewN hW _⟩
      | some d =>
        have hd := dv_lt (by decide : 1 = 1 ∨ 1 = 4) hdv
        have hx : ixI 1 c = (d : Int) := by unfold ixI; rw [hdv]
        rw [hx] at hix2
        have hu2 : u * 2 ^ 1 + d < 2 ^ (1 * (k + 1)) := by
          rw [Nat.mul_add, Nat.mul_one, Nat.pow_add]
          have := hu.out
          generalize 2 ^ (1 * k) = P at *
          have h3 : (u + 1) * 2 ^ 1 ≤ P * 2 ^ 1 := Nat.mul_le_mul_right _ this
          rw [Nat.add_mul, Nat.one_mul] at h3
          omega
        have hp := pow64 (n := 1 * (k + 1)) (by omega)
        have HO := Lib.hid (or_raw hd (by omega : u * 2 ^ 1 + d < 18446744073709551616))
        have hd16 : d < 16 := by omega
        have hd0 : (0 : Int) ≤ (d : Int) := by omega
        have HU2 := Lib.hid hu2
        have HV : Hid (valR 1 (sb r) = (valR 1 ((sb r).drop (k + 1))).map fun v => (u * 2 ^ 1 + d) * 2 ^ (1 * (r.size - (k + 1))) + v) := Lib.hid (by
          rw [hval.out, HD.out]
          cases hq : valR 1 ((sb r).drop (k + 1)) with
          | none => rw [valR_bad2 _ hq]; rfl
          | some v =>
            rw [valR_step hdv hq, HL.out]
            simp only [Option.map_some]
            congr 1
            rw [show r.size - k = (r.size - (k + 1)) + 1 by omega, Nat.mul_add, Nat.mul_one, Nat.pow_add, Nat.add_mul, Nat.mul_comm (2 ^ (1 * (r.size - (k + 1)))), Nat.mul_assoc]
            omega)
        clear hx hdv hd hu2 hp hu hval
        go_wp2
        unfold D16 at hix2
        go_quiet (exact Calls.quiet_of_same (hix2 _))
        go_wp2
        go_roundw
        case rel => exact ⟨k + 1, u * 2 ^ 1 + d, by omega, by congr 1 <;> omega, by rw [← HO.out]; rfl, HU2, HV, below_drewN hW _⟩
        case measure => simp [intOf]; omega
    · obtain rfl : k = r.size := by omega
      have hv : Hid (valR 1 (sb r) = some u) := Lib.hid (by
        rw [hval.out, List.drop_eq_nil_of_le (by rw [sb_length]; exact Nat.le_refl _)]
        simp [valR])
      clear hval
      go_wp2
      refine bodyPost_ret (v := .tuple #[.int .u64 u, .int .i64 (1 * r.size : Nat), .int .i64 0]) (by simp [results, Try.results29, go_sem]) rfl ?_
      rw [hfin.out, hv.out]
      exact ⟨rfl, hW⟩
set_option maxHeartbeats 4000000 in
theorem parse_four (s r : ByteArray) (w : World) (h0 : 1 ≤ r.size) (h64 : 4 * r.size ≤ 64) (hm : ∀ W : World, Calls Try.prog 44 #[.string s] W fun e w' => e = .returned (.tuple #[.int .i64 4, .string r]) ∧ W = w') :
    Calls Try.prog 29 #[.string s] w (ParsePost w (finP 4 (sb r))) := by
  have t1 : (r.toList == []) = false := by
    rw [ByteArray.toList_eq]
    have : r.data.size = r.size := rfl
    cases hq : r.data.toList with
    | nil => have : r.data.toList.length = 0 := by rw [hq]; rfl
             rw [Array.length_toList] at this; omega
    | cons a l => rfl
  have hfin : Hid (finP 4 (sb r) = match valR 4 (sb r) with | some v => (v, 4 * r.size, 0) | none => (0, 0, 2)) := Lib.hid (by
    unfold finP
    rw [sb_length, if_neg (by omega)]
    cases valR 4 (sb r) <;> rfl)
  have hdec : decide ((16 : Int) < (r.size : Int)) = false := by simp; omega
  generalize finP 4 (sb r) = fin at hfin ⊢
  go_enter Try.func29, Try.ntmps29
  go_wp2_with (go_at_call 44; refine (hm _).mono ?_; clear hm; rintro e w1 ⟨rfl, rfl⟩)
  clear hdec
  go_loopw [7, 26] (fun v i wr => ∃ (k u : Nat), k ≤ r.size ∧ i = .int .i64 k ∧ v = .int .u64 u ∧ Hid (u < 2 ^ (4 * k)) ∧ Hid (valR 4 (sb r) = (valR 4 ((sb r).drop k)).map fun v => u * 2 ^ (4 * (r.size - k)) + v) ∧ Below w.heap.size w wr) (fun _ i _ => r.size - (intOf i).toNat)
  case atStart => exact ⟨0, 0, by omega, rfl, rfl, Lib.hid (by decide), Lib.hid (by rw [List.drop_zero]; cases valR 4 (sb r) <;> simp), Below.refl _ _⟩
  case round =>
    obtain ⟨k, u, hk, rfl, rfl, hu, hval, hW⟩ := hrel
    by_cases h : k < r.size
    · obtain ⟨c, hc, hdrop, HI⟩ := sb_at r k h
      have hix := fun W => index_at (D16.extract 0 (2 ^ 4)) c W hc
      rw [ix_eq (by decide : 4 = 1 ∨ 4 = 4) c hc] at hix
      have hix2 : ∀ W : World, Calls Try.prog 45 #[.string (D16.extract 0 16), .int .u8 c] W fun e w' => e = .returned (.int .i64 (ixI 4 c)) ∧ w' = W := fun W => (hix W).mono fun _ _ h => ⟨h.1, h.2.symm⟩
      clear hix
      have hk0 : (0 : Int) ≤ (k : Int) := by omega
      have hk1 : (k : Int) < (r.size : Int) := by omega
      have hlen : ((sb r).drop (k + 1)).length = r.size - (k + 1) := by rw [List.length_drop, sb_length]
      have HD := Lib.hid hdrop
      have HL := Lib.hid hlen
      clear hdrop hlen
      cases hdv : dv 4 c with
      | none =>
        have hbad : Hid (valR 4 (sb r) = none) := Lib.hid (valR_none k _ (by rw [HD.out]; exact valR_bad _ hdv))
        have hx : ixI 4 c = -1 := by unfold ixI; rw [hdv]
        rw [hx] at hix2
        clear hx hdv
        go_wp2
        unfold D16 at hix2
        go_quiet (exact Calls.quiet_of_same (hix2 _))
        go_wp2
        refine bodyPost_ret (v := .tuple #[.int .u64 0, .int .i64 0, .int .i64 2]) (by simp [results, Try.results29, go_sem]) rfl ?_
        rw [hfin.out, hbad.out]
        exact ⟨rfl, below_drewN hW _⟩
      | some d =>
        have hd := dv_lt (by decide : 4 = 1 ∨ 4 = 4) hdv
        have hx : ixI 4 c = (d : Int) := by unfold ixI; rw [hdv]
        rw [hx] at hix2
        have hu2 : u * 2 ^ 4 + d < 2 ^ (4 * (k + 1)) := by
          rw [Nat.mul_add, Nat.mul_one, Nat.pow_add]
          have := hu.out
          generalize 2 ^ (4 * k) = P at *
          have h3 : (u + 1) * 2 ^ 4 ≤ P * 2 ^ 4 := Nat.mul_le_mul_right _ this
          rw [Nat.add_mul, Nat.one_mul] at h3
          omega
        have hp := pow64 (n := 4 * (k + 1)) (by omega)
        have HO := Lib.hid (or_raw hd (by omega : u * 2 ^ 4 + d < 18446744073709551616))
        have hd16 : d < 16 := by omega
        have hd0 : (0 : Int) ≤ (d : Int) := by omega
        have HU2 := Lib.hid hu2
        have HV : Hid (valR 4 (sb r) = (valR 4 ((sb r).drop (k + 1))).map fun v => (u * 2 ^ 4 + d) * 2 ^ (4 * (r.size - (k + 1))) + v) := Lib.hid (by
          rw [hval.out, HD.out]
          cases hq : valR 4 ((sb r).drop (k + 1)) with
          | none => rw [valR_bad2 _ hq]; rfl
          | some v =>
            rw [valR_step hdv hq, HL.out]
            simp only [Option.map_some]
            congr 1
            rw [show r.size - k = (r.size - (k + 1)) + 1 by omega, Nat.mul_add, Nat.mul_one, Nat.pow_add, Nat.add_mul, Nat.mul_comm (2 ^ (4 * (r.size - (k + 1)))), Nat.mul_assoc]
            omega)
        clear hx hdv hd hu2 hp hu hval
        go_wp2
        unfold D16 at hix2
        go_quiet (exact Calls.quiet_of_same (hix2 _))
        go_wp2
        go_roundw
        case rel => exact ⟨k + 1, u * 2 ^ 4 + d, by omega, by congr 1 <;> omega, by rw [← HO.out]; rfl, HU2, HV, below_drewN hW _⟩
        case measure => simp [intOf]; omega
    · obtain rfl : k = r.size := by omega
      have hv : Hid (valR 4 (sb r) = some u) := Lib.hid (by
        rw [hval.out, List.drop_eq_nil_of_le (by rw [sb_length]; exact Nat.le_refl _)]
        simp [valR])
      clear hval
      go_wp2
      refine bodyPost_ret (v := .tuple #[.int .u64 u, .int .i64 (4 * r.size : Nat), .int .i64 0]) (by simp [results, Try.results29, go_sem]) rfl ?_
      rw [hfin.out, hv.out]
      exact ⟨rfl, hW⟩
set_option maxHeartbeats 1000000 in
theorem parse_empty (s r : ByteArray) (sz : Int) (w : World) (hr : (r.toList == []) = true) (hm : ∀ W : World, Calls Try.prog 44 #[.string s] W fun e w' => e = .returned (.tuple #[.int .i64 sz, .string r]) ∧ W = w') :
    Calls Try.prog 29 #[.string s] w (ParsePost w (0, 0, 2)) := by
  go_enter Try.func29, Try.ntmps29
  go_wp2_with (go_at_call 44; refine (hm _).mono ?_; clear hm; rintro e w1 ⟨rfl, rfl⟩)
  refine bodyPost_ret (v := .tuple #[.int .u64 0, .int .i64 0, .int .i64 2]) (by simp [results, Try.results29, go_sem]) rfl ?_
  exact ⟨rfl, Below.refl _ _⟩
set_option maxHeartbeats 1000000 in
theorem parse_long1 (s r : ByteArray) (w : World) (hr : (r.toList == []) = false) (hl : 64 < r.size) (hm : ∀ W : World, Calls Try.prog 44 #[.string s] W fun e w' => e = .returned (.tuple #[.int .i64 1, .string r]) ∧ W = w') :
    Calls Try.prog 29 #[.string s] w (ParsePost w (0, 0, 2)) := by
  have hl2 : decide ((64 : Int) < (r.size : Int)) = true := by simp; omega
  go_enter Try.func29, Try.ntmps29
  go_wp2_with (go_at_call 44; refine (hm _).mono ?_; clear hm; rintro e w1 ⟨rfl, rfl⟩)
  refine bodyPost_ret (v := .tuple #[.int .u64 0, .int .i64 0, .int .i64 2]) (by simp [results, Try.results29, go_sem]) rfl ?_
  exact ⟨rfl, Below.refl _ _⟩
set_option maxHeartbeats 1000000 in
theorem parse_long4 (s r : ByteArray) (w : World) (hr : (r.toList == []) = false) (hl : 16 < r.size) (hm : ∀ W : World, Calls Try.prog 44 #[.string s] W fun e w' => e = .returned (.tuple #[.int .i64 4, .string r]) ∧ W = w') :
    Calls Try.prog 29 #[.string s] w (ParsePost w (0, 0, 2)) := by
  have hl2 : decide ((16 : Int) < (r.size : Int)) = true := by simp; omega
  go_enter Try.func29, Try.ntmps29
  go_wp2_with (go_at_call 44; refine (hm _).mono ?_; clear hm; rintro e w1 ⟨rfl, rfl⟩)
  refine bodyPost_ret (v := .tuple #[.int .u64 0, .int .i64 0, .int .i64 2]) (by simp [results, Try.results29, go_sem]) rfl ?_
  exact ⟨rfl, Below.refl _ _⟩
theorem toList_empty (r : ByteArray) : (r.toList == []) = decide (r.size = 0) := by
  rw [ByteArray.toList_eq]
  have h : r.data.toList.length = r.size := by rw [Array.length_toList]; rfl
  cases hq : r.data.toList with
  | nil => rw [hq] at h; simp at h; simp [← h]
  | cons a l =>
    rw [hq, List.length_cons] at h
    have h0 : ¬ r.size = 0 := by omega
    simp [h0]
theorem pParse_any (s : ByteArray) (w : World) : Calls Try.prog 29 #[.string s] w (ParsePost w (parseV (sb s))) := by
  have hm := fun W => mark_at s W
  have hsz : (sb s).length = s.size := sb_length s
  have body : ∀ (sz : Nat) (m : Int), (sz = 1 ∧ m = 98 ∨ sz = 4 ∧ m = 120) → begP s m = true → markS s = ((sz : Int), s.extract 2 s.size) → Calls Try.prog 29 #[.string s] w (ParsePost w (parseV (sb s))) := by
    intro sz m hs hb hmk
    have hb2 := hb
    unfold begP at hb2
    simp only [decide_eq_true_eq] at hb2
    obtain ⟨h2, h35, hmm⟩ := hb2
    have hd := sb_drop s 2 h2
    have hrs : (s.extract 2 s.size).size = s.size - 2 := by rw [← sb_length, hd, List.length_drop, hsz]
    have hv : 3 ≤ s.size → parseV (sb s) = finP sz (sb (s.extract 2 s.size)) := fun h3 => by
      unfold parseV
      rw [if_neg (by omega), if_neg (by simp [h35]), hd, hmm]
      rcases hs with ⟨rfl, rfl⟩ | ⟨rfl, rfl⟩
      · rw [if_pos rfl]
      · rw [if_neg (by decide), if_pos rfl]
    rw [hmk] at hm
    by_cases h0 : s.size = 2
    · have hv0 : parseV (sb s) = (0, 0, 2) := by unfold parseV; rw [if_pos (by omega)]
      rw [hv0]
      exact parse_empty s _ _ w (by rw [toList_empty, hrs, h0]; rfl) hm
    · have hne : ((s.extract 2 s.size).toList == []) = false := by rw [toList_empty, hrs]; simp; omega
      rw [hv (by omega)]
      by_cases hl : 64 < sz * (s.extract 2 s.size).size
      · have hf : finP sz (sb (s.extract 2 s.size)) = (0, 0, 2) := by unfold finP; rw [if_pos (by rw [sb_length]; exact .inr hl)]
        rw [hf]
        rcases hs with ⟨rfl, rfl⟩ | ⟨rfl, rfl⟩
        · exact parse_long1 s _ w hne (by omega) hm
        · exact parse_long4 s _ w hne (by omega) hm
      · rcases hs with ⟨rfl, rfl⟩ | ⟨rfl, rfl⟩
        · exact parse_one s _ w (by omega) (by omega) hm
        · exact parse_four s _ w (by omega) (by omega) hm
  cases h1 : begP s 98 with
  | true => exact body 1 98 (.inl ⟨rfl, rfl⟩) h1 (by unfold markS; rw [h1]; rfl)
  | false =>
    cases h2 : begP s 120 with
    | true => exact body 4 120 (.inr ⟨rfl, rfl⟩) h2 (by unfold markS; rw [h1, h2]; rfl)
    | false =>
      have hmk : markS s = (0, ⟨#[]⟩) := by unfold markS; rw [h1, h2]; rfl
      rw [hmk] at hm
      have hv : parseV (sb s) = (0, 0, 2) := by
        unfold begP at h1 h2
        simp only [decide_eq_false_iff_not] at h1 h2
        unfold parseV
        by_cases a1 : (sb s).length < 3
        · rw [if_pos a1]
        · rw [if_neg a1]
          by_cases a2 : (sb s)[0]? ≠ some 35
          · rw [if_pos a2]
          · rw [if_neg a2]
            have a3 : (sb s)[0]? = some 35 := by simpa using a2
            rw [if_neg (fun h => h1 ⟨by omega, a3, h⟩), if_neg (fun h => h2 ⟨by omega, a3, h⟩)]
      rw [hv]
      exact parse_empty s _ _ w (by rw [toList_empty]; rfl) hm
end Go.Proofs.Ytcpjchfgiogmeaa
