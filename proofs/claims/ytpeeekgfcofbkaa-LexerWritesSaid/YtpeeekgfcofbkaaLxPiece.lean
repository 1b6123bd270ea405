/-
  THE REFERENCE's piece. Written by gen/genlxpiece.py.
-/
import Derived.Test.YtpeeekgfcofbkaaLxRefQ
import Derived.Test.YtpeeekgfcofbkaaLxQLaw
import Derived.Test.YtpeeekgfcofbkaaRef
namespace Go.Proofs.Ytpeeekgfcofbkaa
open Go.RowKit

set_option maxHeartbeats 8000000 in
set_option maxRecDepth 100000 in
theorem piece_any (n : Int) (w : World) (hn : I64 n) : Calls Try.prog 29 #[.int .i64 n] w fun e w' => ∃ t : ByteArray, e = .returned (.string t) ∧ t.size ≤ 40 ∧ Below w.heap.size w w' := by
  have hA := Around_any n 1048576 w hn (by decide) (by decide)
  have hb := aroundI_bounds (n := n) (most := 1048576) (by decide)
  obtain ⟨k, hk⟩ : ∃ k : Nat, aroundI n 1048576 = (k : Int) := ⟨(aroundI n 1048576).toNat, by omega⟩
  rw [hk] at hA hb
  replace hA := Lib.hid hA
  have hkl : k < 1048576 := by omega
  clear hk hb hn
  go_enter Try.func29, Try.ntmps29
  go_wp2_with fail
  refine Calls.mono hA.out ?_
  rintro e w1 ⟨rfl, rfl⟩
  have hw : ∃ t : ByteArray, (#[.string ⟨#[40]⟩, .string ⟨#[41]⟩, .string ⟨#[110, 111, 116]⟩, .string ⟨#[120, 45, 49]⟩, .string ⟨#[98, 118, 97, 100, 100]⟩, .string ⟨#[97]⟩, .string ⟨#[97, 98, 99, 100, 101, 102, 103, 104, 105, 106, 107, 108, 109, 110, 111, 112]⟩, .string ⟨#[48]⟩, .string ⟨#[53]⟩, .string ⟨#[52, 48, 57, 54]⟩, .string ⟨#[49, 48, 57, 57, 53, 49, 49, 54, 50, 55, 55, 55, 54]⟩, .string ⟨#[35, 98, 48, 49]⟩, .string ⟨#[35, 120, 102, 102]⟩, .string ⟨#[35, 98, 49]⟩] : Array Value)[k / 5 % 14]? = some (.string t) ∧ t.size ≤ 20 := by
    have h : k / 5 % 14 = 0 ∨ k / 5 % 14 = 1 ∨ k / 5 % 14 = 2 ∨ k / 5 % 14 = 3 ∨ k / 5 % 14 = 4 ∨ k / 5 % 14 = 5 ∨ k / 5 % 14 = 6 ∨ k / 5 % 14 = 7 ∨ k / 5 % 14 = 8 ∨ k / 5 % 14 = 9 ∨ k / 5 % 14 = 10 ∨ k / 5 % 14 = 11 ∨ k / 5 % 14 = 12 ∨ k / 5 % 14 = 13 := by omega
    rcases h with h | h | h | h | h | h | h | h | h | h | h | h | h | h <;> rw [h] <;> first | exact ⟨_, rfl, by decide⟩ | exact ⟨_, rfl, by omega⟩
  obtain ⟨t1, ht1, hs1⟩ := hw
  have c1 : (w.alloc (.cells #[.string ⟨#[40]⟩, .string ⟨#[41]⟩, .string ⟨#[110, 111, 116]⟩, .string ⟨#[120, 45, 49]⟩, .string ⟨#[98, 118, 97, 100, 100]⟩, .string ⟨#[97]⟩, .string ⟨#[97, 98, 99, 100, 101, 102, 103, 104, 105, 106, 107, 108, 109, 110, 111, 112]⟩, .string ⟨#[48]⟩, .string ⟨#[53]⟩, .string ⟨#[52, 48, 57, 54]⟩, .string ⟨#[49, 48, 57, 57, 53, 49, 49, 54, 50, 55, 55, 55, 54]⟩, .string ⟨#[35, 98, 48, 49]⟩, .string ⟨#[35, 120, 102, 102]⟩, .string ⟨#[35, 98, 49]⟩] 9)).cell? ⟨w.heap.size, k / 5 % 14, none⟩ = some (.string t1) := by rw [cell_of_row _ _ _ _ _ _ (heap_alloc_new w _)]; exact ht1
  have e1 : Below w.heap.size w (w.alloc (.cells #[.string ⟨#[40]⟩, .string ⟨#[41]⟩, .string ⟨#[110, 111, 116]⟩, .string ⟨#[120, 45, 49]⟩, .string ⟨#[98, 118, 97, 100, 100]⟩, .string ⟨#[97]⟩, .string ⟨#[97, 98, 99, 100, 101, 102, 103, 104, 105, 106, 107, 108, 109, 110, 111, 112]⟩, .string ⟨#[48]⟩, .string ⟨#[53]⟩, .string ⟨#[52, 48, 57, 54]⟩, .string ⟨#[49, 48, 57, 57, 53, 49, 49, 54, 50, 55, 55, 55, 54]⟩, .string ⟨#[35, 98, 48, 49]⟩, .string ⟨#[35, 120, 102, 102]⟩, .string ⟨#[35, 98, 49]⟩] 9)) := (Below.refl _ _).alloc (Nat.le_refl _) _
  clear ht1
  have HS1 := Lib.hid hs1
  have hs1' : ¬ 9223372036854775807 < t1.size + 1 := by omega
  by_cases h3 : k % 5 < 3
  · have d3 : decide ((k : Int) % 5 < 3) = true := decide_eq_true (by omega)
    go_wp2_with fail
    go_ret
    exact ⟨_, rfl, by rw [ByteArray.size_append]; show t1.size + 1 ≤ 40; omega, e1⟩
  · have d3 : decide ((k : Int) % 5 < 3) = false := decide_eq_false (by omega)
    have hlA := lits (w.alloc (.cells #[.string ⟨#[40]⟩, .string ⟨#[41]⟩, .string ⟨#[110, 111, 116]⟩, .string ⟨#[120, 45, 49]⟩, .string ⟨#[98, 118, 97, 100, 100]⟩, .string ⟨#[97]⟩, .string ⟨#[97, 98, 99, 100, 101, 102, 103, 104, 105, 106, 107, 108, 109, 110, 111, 112]⟩, .string ⟨#[48]⟩, .string ⟨#[53]⟩, .string ⟨#[52, 48, 57, 54]⟩, .string ⟨#[49, 48, 57, 57, 53, 49, 49, 54, 50, 55, 55, 55, 54]⟩, .string ⟨#[35, 98, 48, 49]⟩, .string ⟨#[35, 120, 102, 102]⟩, .string ⟨#[35, 98, 49]⟩] 9)) [(k : Int) / 50 % 256, 97, (k : Int) / 7 % 256]
    rw [show (w.alloc (.cells #[.string ⟨#[40]⟩, .string ⟨#[41]⟩, .string ⟨#[110, 111, 116]⟩, .string ⟨#[120, 45, 49]⟩, .string ⟨#[98, 118, 97, 100, 100]⟩, .string ⟨#[97]⟩, .string ⟨#[97, 98, 99, 100, 101, 102, 103, 104, 105, 106, 107, 108, 109, 110, 111, 112]⟩, .string ⟨#[48]⟩, .string ⟨#[53]⟩, .string ⟨#[52, 48, 57, 54]⟩, .string ⟨#[49, 48, 57, 57, 53, 49, 49, 54, 50, 55, 55, 55, 54]⟩, .string ⟨#[35, 98, 48, 49]⟩, .string ⟨#[35, 120, 102, 102]⟩, .string ⟨#[35, 98, 49]⟩] 9)).heap.size = w.heap.size + 1 by simp] at hlA
    have hcv : (convert 24 9 (.slice (some ⟨w.heap.size + 1, 0, none⟩) 3 3)).run Try.prog ((w.alloc (.cells #[.string ⟨#[40]⟩, .string ⟨#[41]⟩, .string ⟨#[110, 111, 116]⟩, .string ⟨#[120, 45, 49]⟩, .string ⟨#[98, 118, 97, 100, 100]⟩, .string ⟨#[97]⟩, .string ⟨#[97, 98, 99, 100, 101, 102, 103, 104, 105, 106, 107, 108, 109, 110, 111, 112]⟩, .string ⟨#[48]⟩, .string ⟨#[53]⟩, .string ⟨#[52, 48, 57, 54]⟩, .string ⟨#[49, 48, 57, 57, 53, 49, 49, 54, 50, 55, 55, 55, 54]⟩, .string ⟨#[35, 98, 48, 49]⟩, .string ⟨#[35, 120, 102, 102]⟩, .string ⟨#[35, 98, 49]⟩] 9)).alloc (.cells #[.int .u8 ((k : Int) / 50 % 256), .int .u8 97, .int .u8 ((k : Int) / 7 % 256)] 5)) = .ok (.string (strOfNums [(k : Int) / 50 % 256, 97, (k : Int) / 7 % 256])) ((w.alloc (.cells #[.string ⟨#[40]⟩, .string ⟨#[41]⟩, .string ⟨#[110, 111, 116]⟩, .string ⟨#[120, 45, 49]⟩, .string ⟨#[98, 118, 97, 100, 100]⟩, .string ⟨#[97]⟩, .string ⟨#[97, 98, 99, 100, 101, 102, 103, 104, 105, 106, 107, 108, 109, 110, 111, 112]⟩, .string ⟨#[48]⟩, .string ⟨#[53]⟩, .string ⟨#[52, 48, 57, 54]⟩, .string ⟨#[49, 48, 57, 57, 53, 49, 49, 54, 50, 55, 55, 55, 54]⟩, .string ⟨#[35, 98, 48, 49]⟩, .string ⟨#[35, 120, 102, 102]⟩, .string ⟨#[35, 98, 49]⟩] 9)).alloc (.cells #[.int .u8 ((k : Int) / 50 % 256), .int .u8 97, .int .u8 ((k : Int) / 7 % 256)] 5)) := lx_conv (some ⟨w.heap.size + 1, 0, none⟩) 3 3 [(k : Int) / 50 % 256, 97, (k : Int) / 7 % 256] _ _ rfl hlA
    have h8 : Bytes8 [(k : Int) / 50 % 256, 97, (k : Int) / 7 % 256] := fun z hz => by
      simp only [List.mem_cons, List.not_mem_nil, or_false] at hz
      rcases hz with rfl | rfl | rfl <;> omega
    have e2 : Below w.heap.size w ((w.alloc (.cells #[.string ⟨#[40]⟩, .string ⟨#[41]⟩, .string ⟨#[110, 111, 116]⟩, .string ⟨#[120, 45, 49]⟩, .string ⟨#[98, 118, 97, 100, 100]⟩, .string ⟨#[97]⟩, .string ⟨#[97, 98, 99, 100, 101, 102, 103, 104, 105, 106, 107, 108, 109, 110, 111, 112]⟩, .string ⟨#[48]⟩, .string ⟨#[53]⟩, .string ⟨#[52, 48, 57, 54]⟩, .string ⟨#[49, 48, 57, 57, 53, 49, 49, 54, 50, 55, 55, 55, 54]⟩, .string ⟨#[35, 98, 48, 49]⟩, .string ⟨#[35, 120, 102, 102]⟩, .string ⟨#[35, 98, 49]⟩] 9)).alloc (.cells #[.int .u8 ((k : Int) / 50 % 256), .int .u8 97, .int .u8 ((k : Int) / 7 % 256)] 5)) := e1.alloc e1.size _
    have HQ1 := rQuote_any (strOfNums [(k : Int) / 50 % 256, 97, (k : Int) / 7 % 256]) ((w.alloc (.cells #[.string ⟨#[40]⟩, .string ⟨#[41]⟩, .string ⟨#[110, 111, 116]⟩, .string ⟨#[120, 45, 49]⟩, .string ⟨#[98, 118, 97, 100, 100]⟩, .string ⟨#[97]⟩, .string ⟨#[97, 98, 99, 100, 101, 102, 103, 104, 105, 106, 107, 108, 109, 110, 111, 112]⟩, .string ⟨#[48]⟩, .string ⟨#[53]⟩, .string ⟨#[52, 48, 57, 54]⟩, .string ⟨#[49, 48, 57, 57, 53, 49, 49, 54, 50, 55, 55, 55, 54]⟩, .string ⟨#[35, 98, 48, 49]⟩, .string ⟨#[35, 120, 102, 102]⟩, .string ⟨#[35, 98, 49]⟩] 9)).alloc (.cells #[.int .u8 ((k : Int) / 50 % 256), .int .u8 97, .int .u8 ((k : Int) / 7 % 256)] 5)) (by rw [str_size']; simp)
    obtain ⟨X, hX⟩ : ∃ X, strOfNums (quoteL (sb (strOfNums [(k : Int) / 50 % 256, 97, (k : Int) / 7 % 256]))) = X := ⟨_, rfl⟩
    have hXs : X.size ≤ 20 := by rw [← hX, str_size', sb_of_nums h8]; have := quote_short h8; simp only [List.length_cons, List.length_nil] at this; omega
    rw [hX] at HQ1
    replace HQ1 := Lib.hid HQ1
    have HE2 := Lib.hid e2
    clear hlA h8 hX e2 e1 c1 hs1' hs1
    go_wp2_with fail
    refine Calls.mono HQ1.out ?_
    rintro e w2 ⟨rfl, hB2⟩
    have e3 := HE2.out.trans (hB2.mono HE2.out.size)
    clear HQ1 hB2 HE2 hcv
    have HQ2 := rQuote_any ⟨#[97, 98]⟩ w2 (by decide)
    obtain ⟨Y, hY⟩ : ∃ Y, strOfNums (quoteL (sb ⟨#[97, 98]⟩)) = Y := ⟨_, rfl⟩
    have hYs : Y.size ≤ 20 := by rw [← hY, str_size']; decide
    rw [hY] at HQ2
    replace HQ2 := Lib.hid HQ2
    clear hY
    go_wp2_with fail
    refine Calls.mono HQ2.out ?_
    rintro e w3 ⟨rfl, hB3⟩
    have e4 := e3.trans (hB3.mono e3.size)
    clear HQ2 hB3 e3
    have hw : ∃ t : ByteArray, (#[.string ⟨#[32]⟩, .string ⟨#[10]⟩, .string ⟨#[59, 32, 99, 32, 40, 10]⟩, .string X, .string Y, .string ⟨#[40]⟩, .string ⟨#[41]⟩, .string ⟨#[9]⟩, .string ⟨#[13]⟩] : Array Value)[k / 5 % 9]? = some (.string t) ∧ t.size ≤ 20 := by
      have h : k / 5 % 9 = 0 ∨ k / 5 % 9 = 1 ∨ k / 5 % 9 = 2 ∨ k / 5 % 9 = 3 ∨ k / 5 % 9 = 4 ∨ k / 5 % 9 = 5 ∨ k / 5 % 9 = 6 ∨ k / 5 % 9 = 7 ∨ k / 5 % 9 = 8 := by omega
      rcases h with h | h | h | h | h | h | h | h | h <;> rw [h] <;> first | exact ⟨_, rfl, by decide⟩ | exact ⟨_, rfl, by omega⟩
    obtain ⟨t2, ht2, hs2⟩ := hw
    have c2 : (w3.alloc (.cells #[.string ⟨#[32]⟩, .string ⟨#[10]⟩, .string ⟨#[59, 32, 99, 32, 40, 10]⟩, .string X, .string Y, .string ⟨#[40]⟩, .string ⟨#[41]⟩, .string ⟨#[9]⟩, .string ⟨#[13]⟩] 9)).cell? ⟨w3.heap.size, k / 5 % 9, none⟩ = some (.string t2) := by rw [cell_of_row _ _ _ _ _ _ (heap_alloc_new w3 _)]; exact ht2
    have e5 : Below w.heap.size w (w3.alloc (.cells #[.string ⟨#[32]⟩, .string ⟨#[10]⟩, .string ⟨#[59, 32, 99, 32, 40, 10]⟩, .string X, .string Y, .string ⟨#[40]⟩, .string ⟨#[41]⟩, .string ⟨#[9]⟩, .string ⟨#[13]⟩] 9)) := e4.alloc e4.size _
    clear ht2 hXs hYs
    by_cases h5 : k % 5 = 3
    · have d5 : ((k : Int) % 5 == 3) = true := by rw [beq_iff_eq]; omega
      go_wp2_with fail
      go_ret
      exact ⟨_, rfl, by omega, e5⟩
    · have d5 : ((k : Int) % 5 == 3) = false := by rw [beq_eq_false_iff_ne]; omega
      clear c2
      have hw : ∃ t : ByteArray, (#[.string ⟨#[48, 49]⟩, .string ⟨#[35, 98]⟩, .string ⟨#[35, 98, 50]⟩, .string ⟨#[35, 120, 49, 103]⟩, .string ⟨#[53, 97]⟩, .string ⟨#[65]⟩, .string ⟨#[97, 98, 99, 100, 101, 102, 103, 104, 105, 106, 107, 108, 109, 110, 111, 112, 113]⟩, .string ⟨#[49, 50, 51, 52, 53, 54, 55, 56, 57, 48, 49, 50, 51, 52]⟩, .string ⟨#[34]⟩, .string ⟨#[34, 92]⟩, .string ⟨#[34, 92, 120, 49]⟩, .string ⟨#[34, 92, 113, 34]⟩, .string ⟨#[45]⟩, .string ⟨#[35]⟩, .string ⟨#[97, 35, 98]⟩, .string ⟨#[59]⟩, .string ⟨#[34, 97, 34, 98]⟩, .string ⟨#[97, 34, 98, 34]⟩, .string ⟨#[120, 40]⟩, .string ⟨#[95]⟩] : Array Value)[k / 5 % 20]? = some (.string t) ∧ t.size ≤ 20 := by
        have h : k / 5 % 20 = 0 ∨ k / 5 % 20 = 1 ∨ k / 5 % 20 = 2 ∨ k / 5 % 20 = 3 ∨ k / 5 % 20 = 4 ∨ k / 5 % 20 = 5 ∨ k / 5 % 20 = 6 ∨ k / 5 % 20 = 7 ∨ k / 5 % 20 = 8 ∨ k / 5 % 20 = 9 ∨ k / 5 % 20 = 10 ∨ k / 5 % 20 = 11 ∨ k / 5 % 20 = 12 ∨ k / 5 % 20 = 13 ∨ k / 5 % 20 = 14 ∨ k / 5 % 20 = 15 ∨ k / 5 % 20 = 16 ∨ k / 5 % 20 = 17 ∨ k / 5 % 20 = 18 ∨ k / 5 % 20 = 19 := by omega
        rcases h with h | h | h | h | h | h | h | h | h | h | h | h | h | h | h | h | h | h | h | h <;> rw [h] <;> first | exact ⟨_, rfl, by decide⟩ | exact ⟨_, rfl, by omega⟩
      obtain ⟨t3, ht3, hs3⟩ := hw
      have hz3 : (w3.alloc (.cells #[.string ⟨#[32]⟩, .string ⟨#[10]⟩, .string ⟨#[59, 32, 99, 32, 40, 10]⟩, .string X, .string Y, .string ⟨#[40]⟩, .string ⟨#[41]⟩, .string ⟨#[9]⟩, .string ⟨#[13]⟩] 9)).heap.size = w3.heap.size + 1 := by simp
      have c3 : ((w3.alloc (.cells #[.string ⟨#[32]⟩, .string ⟨#[10]⟩, .string ⟨#[59, 32, 99, 32, 40, 10]⟩, .string X, .string Y, .string ⟨#[40]⟩, .string ⟨#[41]⟩, .string ⟨#[9]⟩, .string ⟨#[13]⟩] 9)).alloc (.cells #[.string ⟨#[48, 49]⟩, .string ⟨#[35, 98]⟩, .string ⟨#[35, 98, 50]⟩, .string ⟨#[35, 120, 49, 103]⟩, .string ⟨#[53, 97]⟩, .string ⟨#[65]⟩, .string ⟨#[97, 98, 99, 100, 101, 102, 103, 104, 105, 106, 107, 108, 109, 110, 111, 112, 113]⟩, .string ⟨#[49, 50, 51, 52, 53, 54, 55, 56, 57, 48, 49, 50, 51, 52]⟩, .string ⟨#[34]⟩, .string ⟨#[34, 92]⟩, .string ⟨#[34, 92, 120, 49]⟩, .string ⟨#[34, 92, 113, 34]⟩, .string ⟨#[45]⟩, .string ⟨#[35]⟩, .string ⟨#[97, 35, 98]⟩, .string ⟨#[59]⟩, .string ⟨#[34, 97, 34, 98]⟩, .string ⟨#[97, 34, 98, 34]⟩, .string ⟨#[120, 40]⟩, .string ⟨#[95]⟩] 9)).cell? ⟨w3.heap.size + 1, k / 5 % 20, none⟩ = some (.string t3) := by rw [← hz3, cell_of_row _ _ _ _ _ _ (heap_alloc_new _ _)]; exact ht3
      have e6 : Below w.heap.size w ((w3.alloc (.cells #[.string ⟨#[32]⟩, .string ⟨#[10]⟩, .string ⟨#[59, 32, 99, 32, 40, 10]⟩, .string X, .string Y, .string ⟨#[40]⟩, .string ⟨#[41]⟩, .string ⟨#[9]⟩, .string ⟨#[13]⟩] 9)).alloc (.cells #[.string ⟨#[48, 49]⟩, .string ⟨#[35, 98]⟩, .string ⟨#[35, 98, 50]⟩, .string ⟨#[35, 120, 49, 103]⟩, .string ⟨#[53, 97]⟩, .string ⟨#[65]⟩, .string ⟨#[97, 98, 99, 100, 101, 102, 103, 104, 105, 106, 107, 108, 109, 110, 111, 112, 113]⟩, .string ⟨#[49, 50, 51, 52, 53, 54, 55, 56, 57, 48, 49, 50, 51, 52]⟩, .string ⟨#[34]⟩, .string ⟨#[34, 92]⟩, .string ⟨#[34, 92, 120, 49]⟩, .string ⟨#[34, 92, 113, 34]⟩, .string ⟨#[45]⟩, .string ⟨#[35]⟩, .string ⟨#[97, 35, 98]⟩, .string ⟨#[59]⟩, .string ⟨#[34, 97, 34, 98]⟩, .string ⟨#[97, 34, 98, 34]⟩, .string ⟨#[120, 40]⟩, .string ⟨#[95]⟩] 9)) := e5.alloc e5.size _
      clear ht3 hz3
      by_cases h6 : k / 100 % 4 = 0
      · have d6 : ((k : Int) / 100 % 4 == 0) = true := by rw [beq_iff_eq]; omega
        go_wp2_with fail
        go_ret
        exact ⟨_, rfl, by omega, e6⟩
      · have d6 : ((k : Int) / 100 % 4 == 0) = false := by rw [beq_eq_false_iff_ne]; omega
        go_wp2_with fail
        go_ret
        exact ⟨_, rfl, by decide, e6⟩
end Go.Proofs.Ytpeeekgfcofbkaa
