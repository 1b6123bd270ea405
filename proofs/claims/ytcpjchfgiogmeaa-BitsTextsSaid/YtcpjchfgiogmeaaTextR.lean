/-
  THE WALKS of the reference's digit and Text.
-/
import Derived.Test.YtcpjchfgiogmeaaTextQ
import Derived.Test.YtcpjchfgiogmeaaBitsLaw
namespace Go.Proofs.Ytcpjchfgiogmeaa
open Go.RowKit

theorem str_mk (l : List Int) : strOfNums l = ⟨(l.map fun n => UInt8.ofNat n.toNat).toArray⟩ := by
  have e : (strOfNums l).data.toList = l.map fun n => UInt8.ofNat n.toNat := strOfNums_data l
  rw [← e]
theorem str_append (a b : List Int) : strOfNums a ++ strOfNums b = strOfNums (a ++ b) := by
  rw [str_mk, str_mk, str_mk, ByteArray.mk_append_mk, List.map_append]
set_option maxHeartbeats 1000000 in
theorem bdigit_any (d : Nat) (hd : d < 16) (w : World) : Calls Try.prog 43 #[.int .i64 d] w (GivesV w (.string (strOfNums [digI d]))) := by
  by_cases h : d < 10
  · have hI : digI d = 48 + (d : Int) := by unfold digI; rw [if_pos h]
    have hcv : (convert 43 9 (.slice (some ⟨w.heap.size, 0, none⟩) 1 1)).run Try.prog (w.alloc (.cells #[.int .u8 (48 + (d : Int))] 5)) = .ok (.string (strOfNums [48 + (d : Int)])) (w.alloc (.cells #[.int .u8 (48 + (d : Int))] 5)) :=
      conv_string w.heap.size 1 1 [48 + (d : Int)] _ rfl (rd_new _ _ _ _ _ rfl _ (by simp))
    rw [hI]
    clear hI
    go_enter Try.func43, Try.ntmps43
    go_wp2
    go_ret
    exact ⟨rfl, new_b _ _⟩
  · have hI : digI d = 97 + (d : Int) - 10 := by unfold digI; rw [if_neg h]; omega
    have hcv : (convert 43 9 (.slice (some ⟨w.heap.size, 0, none⟩) 1 1)).run Try.prog (w.alloc (.cells #[.int .u8 (97 + (d : Int) - 10)] 5)) = .ok (.string (strOfNums [97 + (d : Int) - 10])) (w.alloc (.cells #[.int .u8 (97 + (d : Int) - 10)] 5)) :=
      conv_string w.heap.size 1 1 [97 + (d : Int) - 10] _ rfl (rd_new _ _ _ _ _ rfl _ (by simp))
    rw [hI]
    clear hI
    go_enter Try.func43, Try.ntmps43
    go_wp2
    go_ret
    exact ⟨rfl, new_b _ _⟩
theorem bin_str : (⟨#[35, 98]⟩ : ByteArray) = strOfNums [35, 98] := by decide
theorem hex_str : (⟨#[35, 120]⟩ : ByteArray) = strOfNums [35, 120] := by decide
set_option maxRecDepth 100000 in
set_option maxHeartbeats 1000000 in
theorem bText_four (u m : Nat) (w : World) (h1 : 1 ≤ m) (h64 : (4 * m) ≤ 64) (hu : u < 2 ^ (4 * m)) (Z : List Int) (hZ : Hid (Z = [35, 120] ++ digitsL u (4 * m) 4 m)) (c1 : Calls Try.prog 14 #[.int .u64 u, .int .i64 ((4 * m) : Nat)] w fun e w' => e = .returned (.int .i64 0) ∧ Below w.heap.size w w') :
    Calls Try.prog 28 #[.int .u64 u, .int .i64 ((4 * m) : Nat)] w fun e w' => e = .returned (.tuple #[.string (strOfNums Z), .int .i64 0]) ∧ Below w.heap.size w w' := by
  have hp := pow64 h64
  have t1 : (((4 * m : Nat) : Int).tmod 4 == 0) = true := by simp
  have cB : ∀ W, Calls Try.prog 32 #[.int .u64 u, .int .i64 ((4 * m) : Nat)] W fun e w' => GivesB W.heap.size W (bitsL (4 * m) u) e w' := fun W => bBits_any u (4 * m) W (by omega) h64
  have hl1 := bitsL_length (4 * m) u
  have ho1 := ofL_bitsL (4 * m) u
  rw [Nat.mod_eq_of_lt hu] at ho1
  generalize bitsL (4 * m) u = l at cB hl1 ho1
  have HL := Lib.hid hl1
  have HO := Lib.hid ho1
  have hDL := Lib.hid (digitsL_length u (4 * m) 4 m)
  clear hl1 ho1 hp hu
  go_enter Try.func28, Try.ntmps28
  go_wp2_with (first
    | (go_at_call 14; refine c1.mono ?_; clear c1; rintro e w1 ⟨rfl, hb1⟩)
    | (go_at_call 32; refine (cB w1).mono ?_; clear cB; rintro e w2 ⟨A, d, rfl, hrow, hb2⟩; rw [HL.out] at hrow ⊢; obtain ⟨g, rfl, _, _, _⟩ := own_block hrow (by omega); have hcap := own_cap hrow; have hrd := rdb_own hrow))
  have hb12 := hb1.trans (hb2.mono hb1.size)
  clear hrow hb1 hb2
  go_loopw [8, 10] (fun v i wr => ∃ k : Nat, k ≤ m ∧ i = .int .i64 (4 * k : Nat) ∧ v = .string (strOfNums ((digitsL u (4 * m) 4 m).drop (m - k))) ∧ RdB wr wr.heap.size (some ⟨g, 0, none⟩) l ∧ Below w.heap.size w wr) (fun _ i _ => (4 * m) - (intOf i).toNat)
  case atStart => exact ⟨0, by omega, rfl, by rw [Nat.sub_zero, List.drop_eq_nil_of_le (by rw [hDL.out]; exact Nat.le_refl _)]; rfl, hrd, hb12⟩
  case round =>
    clear hrd hb12
    obtain ⟨k, hk, rfl, rfl, hr, hW⟩ := hrel
    have hsz := hW.size
    by_cases h : k < m
    · have hpart := hr.part (4 * k) 4
      rw [Nat.zero_add] at hpart
      have hv : ofL ((l.drop (4 * k)).take 4) = u / 2 ^ (4 * k) % 2 ^ 4 := by rw [ofL_take, ofL_drop, HO.out]
      have hvl : ((l.drop (4 * k)).take 4).length = 4 := by rw [List.length_take, List.length_drop, HL.out]; omega
      have hd : u / 2 ^ (4 * k) % 2 ^ 4 < 16 := Nat.lt_of_lt_of_le (Nat.mod_lt _ (by decide)) (by decide)
      have hS : Hid ((digitsL u (4 * m) 4 m).drop (m - (k + 1)) = [digI (u / 2 ^ (4 * k) % 2 ^ 4)] ++ (digitsL u (4 * m) 4 m).drop (m - k)) := Lib.hid (by
        rw [drop_at (by rw [hDL.out]; omega : m - (k + 1) < (digitsL u (4 * m) 4 m).length), show m - (k + 1) + 1 = m - k by omega]
        rw [List.singleton_append]
        congr 1
        simp only [digitsL, List.getElem_map, List.getElem_range]
        congr 3
        congr 1
        omega)
      have hof := fun (cc : Nat) => bOf_any (some ⟨g, 4 * k, none⟩) 4 cc wr.heap.size _ wr hvl.symm (by rw [hvl]; omega) hpart
      rw [hv] at hof
      generalize u / 2 ^ (4 * k) % 2 ^ 4 = dd at hof hd hS
      have hcd := fun W => bdigit_any dd hd W
      have hS2 : Hid (strOfNums ((digitsL u (4 * m) 4 m).drop (m - (k + 1))) = strOfNums [digI dd] ++ strOfNums ((digitsL u (4 * m) 4 m).drop (m - k))) := Lib.hid (by rw [hS.out, str_append])
      have hXs : (strOfNums ((digitsL u (4 * m) 4 m).drop (m - k))).size ≤ 64 := by rw [strOfNums_size, List.length_drop, hDL.out]; omega
      have hYs : (strOfNums [digI dd]).size = 1 := strOfNums_size _
      generalize strOfNums ((digitsL u (4 * m) 4 m).drop (m - k)) = X at hS2 hXs ⊢
      generalize strOfNums [digI dd] = Y at hS2 hYs hcd
      clear hv hvl hpart
      have hkb : 4 * k + 4 ≤ 4 * m := by omega
      have hne : d ≠ 4 * k := by omega
      go_wp2_with (first
        | (go_at_call 36; refine (hof _).mono ?_; clear hof; rintro e w3 ⟨rfl, rfl⟩)
        | (go_at_call 43; refine (hcd _).mono ?_; clear hcd; rintro e w4 ⟨rfl, hb4⟩))
      go_roundw
      case rel => exact ⟨k + 1, by omega, by congr 1 <;> omega, by rw [hS2.out], (hr.below hb4).mono hb4.size, hW.trans (hb4.mono hsz)⟩
      case measure => simp [intOf]; omega
    · obtain rfl : k = m := by omega
      rw [Nat.sub_self, List.drop_zero]
      have hZs : Hid (strOfNums Z = ⟨#[35, 120]⟩ ++ strOfNums (digitsL u (4 * k) 4 k)) := Lib.hid (by rw [hZ.out, hex_str, str_append])
      have hXs : (strOfNums (digitsL u (4 * k) 4 k)).size ≤ 64 := by rw [strOfNums_size, hDL.out]; omega
      generalize strOfNums (digitsL u (4 * k) 4 k) = X at hXs hZs ⊢
      go_wp2
      go_ret2
      exact ⟨by rw [hZs.out]; rfl, hW⟩
set_option maxRecDepth 100000 in
set_option maxHeartbeats 1000000 in
theorem bText_one (u m : Nat) (w : World) (h1 : 1 ≤ m) (h64 : m ≤ 64) (h4 : m % 4 ≠ 0) (hu : u < 2 ^ m) (Z : List Int) (hZ : Hid (Z = [35, 98] ++ digitsL u m 1 m)) (c1 : Calls Try.prog 14 #[.int .u64 u, .int .i64 (m : Nat)] w fun e w' => e = .returned (.int .i64 0) ∧ Below w.heap.size w w') :
    Calls Try.prog 28 #[.int .u64 u, .int .i64 (m : Nat)] w fun e w' => e = .returned (.tuple #[.string (strOfNums Z), .int .i64 0]) ∧ Below w.heap.size w w' := by
  have hp := pow64 h64
  have t1 : (((m : Nat) : Int).tmod 4 == 0) = false := by
    rw [Int.tmod_eq_emod_of_nonneg (by omega)]
    simp
    omega
  have t3 : (((m : Nat) : Int) % 4 == 0) = false := by simp; omega
  clear h4
  have cB : ∀ W, Calls Try.prog 32 #[.int .u64 u, .int .i64 (m : Nat)] W fun e w' => GivesB W.heap.size W (bitsL m u) e w' := fun W => bBits_any u m W (by omega) h64
  have hl1 := bitsL_length m u
  have ho1 := ofL_bitsL m u
  rw [Nat.mod_eq_of_lt hu] at ho1
  generalize bitsL m u = l at cB hl1 ho1
  have HL := Lib.hid hl1
  have HO := Lib.hid ho1
  have hDL := Lib.hid (digitsL_length u m 1 m)
  clear hl1 ho1 hp hu
  go_enter Try.func28, Try.ntmps28
  go_wp2_with (first
    | (go_at_call 14; refine c1.mono ?_; clear c1; rintro e w1 ⟨rfl, hb1⟩)
    | (go_at_call 32; refine (cB w1).mono ?_; clear cB; rintro e w2 ⟨A, d, rfl, hrow, hb2⟩; rw [HL.out] at hrow ⊢; obtain ⟨g, rfl, _, _, _⟩ := own_block hrow (by omega); have hcap := own_cap hrow; have hrd := rdb_own hrow))
  have hb12 := hb1.trans (hb2.mono hb1.size)
  clear hrow hb1 hb2
  go_loopw [8, 10] (fun v i wr => ∃ k : Nat, k ≤ m ∧ i = .int .i64 (k : Nat) ∧ v = .string (strOfNums ((digitsL u m 1 m).drop (m - k))) ∧ RdB wr wr.heap.size (some ⟨g, 0, none⟩) l ∧ Below w.heap.size w wr) (fun _ i _ => m - (intOf i).toNat)
  case atStart => exact ⟨0, by omega, rfl, by rw [Nat.sub_zero, List.drop_eq_nil_of_le (by rw [hDL.out]; exact Nat.le_refl _)]; rfl, hrd, hb12⟩
  case round =>
    clear hrd hb12
    obtain ⟨k, hk, rfl, rfl, hr, hW⟩ := hrel
    have hsz := hW.size
    by_cases h : k < m
    · have hpart := hr.part (k) 1
      rw [Nat.zero_add] at hpart
      have hv : ofL ((l.drop (k)).take 1) = u / 2 ^ (k) % 2 ^ 1 := by rw [ofL_take, ofL_drop, HO.out]
      have hvl : ((l.drop (k)).take 1).length = 1 := by rw [List.length_take, List.length_drop, HL.out]; omega
      have hd : u / 2 ^ (k) % 2 ^ 1 < 16 := Nat.lt_of_lt_of_le (Nat.mod_lt _ (by decide)) (by decide)
      have hS : Hid ((digitsL u m 1 m).drop (m - (k + 1)) = [digI (u / 2 ^ (k) % 2 ^ 1)] ++ (digitsL u m 1 m).drop (m - k)) := Lib.hid (by
        rw [drop_at (by rw [hDL.out]; omega : m - (k + 1) < (digitsL u m 1 m).length), show m - (k + 1) + 1 = m - k by omega]
        rw [List.singleton_append]
        congr 1
        simp only [digitsL, List.getElem_map, List.getElem_range]
        congr 3
        congr 1
        omega)
      have hof := fun (cc : Nat) => bOf_any (some ⟨g, k, none⟩) 1 cc wr.heap.size _ wr hvl.symm (by rw [hvl]; omega) hpart
      rw [hv] at hof
      generalize u / 2 ^ (k) % 2 ^ 1 = dd at hof hd hS
      have hcd := fun W => bdigit_any dd hd W
      have hS2 : Hid (strOfNums ((digitsL u m 1 m).drop (m - (k + 1))) = strOfNums [digI dd] ++ strOfNums ((digitsL u m 1 m).drop (m - k))) := Lib.hid (by rw [hS.out, str_append])
      have hXs : (strOfNums ((digitsL u m 1 m).drop (m - k))).size ≤ 64 := by rw [strOfNums_size, List.length_drop, hDL.out]; omega
      have hYs : (strOfNums [digI dd]).size = 1 := strOfNums_size _
      generalize strOfNums ((digitsL u m 1 m).drop (m - k)) = X at hS2 hXs ⊢
      generalize strOfNums [digI dd] = Y at hS2 hYs hcd
      clear hv hvl hpart
      have hkb : k + 1 ≤ m := by omega
      have hne : d ≠ k := by omega
      go_wp2_with (first
        | (go_at_call 36; refine (hof _).mono ?_; clear hof; rintro e w3 ⟨rfl, rfl⟩)
        | (go_at_call 43; refine (hcd _).mono ?_; clear hcd; rintro e w4 ⟨rfl, hb4⟩))
      go_roundw
      case rel => exact ⟨k + 1, by omega, by congr 1 <;> omega, by rw [hS2.out], (hr.below hb4).mono hb4.size, hW.trans (hb4.mono hsz)⟩
      case measure => simp [intOf]; omega
    · obtain rfl : k = m := by omega
      rw [Nat.sub_self, List.drop_zero]
      have hZs : Hid (strOfNums Z = ⟨#[35, 98]⟩ ++ strOfNums (digitsL u k 1 k)) := Lib.hid (by rw [hZ.out, bin_str, str_append])
      have hXs : (strOfNums (digitsL u k 1 k)).size ≤ 64 := by rw [strOfNums_size, hDL.out]; omega
      generalize strOfNums (digitsL u k 1 k) = X at hXs hZs ⊢
      go_wp2
      go_ret2
      exact ⟨by rw [hZs.out]; rfl, hW⟩
end Go.Proofs.Ytcpjchfgiogmeaa
