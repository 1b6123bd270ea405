/-
  THE WALK of the law LexerQuotes.
-/
import Derived.Test.YtpeeekgfcofbkaaLxQMath
import Derived.Test.YtpeeekgfcofbkaaRef
import Derived.Deep.OwnRows
namespace Go.Proofs.Ytpeeekgfcofbkaa
open Go.RowKit

theorem str_size' (l : List Int) : (strOfNums l).size = l.length := by
  have h := congrArg List.length (strOfNums_data l)
  rw [List.length_map, Array.length_toList] at h
  exact h
theorem zeros_rd' {w : World} (n : Nat) : RdI (w.alloc (.cells (madeCells #[.int .u8 0] n) 5)) (w.heap.size + 1) .u8 (some ⟨w.heap.size, 0, none⟩) (List.replicate n 0) :=
  .inr ⟨_, _, rfl, by omega, fun j hj => by
    rw [List.length_replicate] at hj
    rw [Nat.zero_add, cell_of_row _ _ _ _ _ _ (heap_alloc_new w _)]
    simp [madeCells, hj, Nat.mod_one]⟩
set_option maxHeartbeats 8000000 in
set_option maxRecDepth 100000 in
theorem lquotes_any (s : ByteArray) (n : Int) (w : World) (hs : s.size ≤ maxLen) (hn : I64 n) : Calls Try.prog 4 #[.string s, .int .i64 n] w fun e w' => e = .returned (.bool true) ∧ Below w.heap.size w w' := by
  obtain ⟨a, ha, hA⟩ := Around_nat n 3 hn (by omega) (by omega)
  have HA := Lib.hid fun W => around_int hA 3 W rfl
  have HS := Lib.hid (Short_any s 100 w hs)
  clear hA hs hn
  go_enter Try.func4, Try.ntmps4
  go_wp2_with fail
  refine Calls.mono HS.out ?_
  rintro e w0 ⟨t, rfl, ht, rfl⟩
  clear HS
  obtain ⟨q, hq⟩ : ∃ q, strOfNums (quoteL (sb t)) = q := ⟨_, rfl⟩
  have h8 := sb_bytes t
  have hl := sb_length t
  have hqs : sb q = quoteL (sb t) := by rw [← hq]; exact sb_of_nums (quote_bytes h8)
  have hqz : q.size = (quoteL (sb t)).length := by rw [← hqs, sb_length]
  have hq4 : q.size ≤ 402 := by have := quote_short h8; omega
  have hF : quoteF (sb t) = (quoteL (sb t), 0) := by unfold quoteF; rw [if_pos (by omega)]
  have HQ := Lib.hid (Quote_any t w (by omega))
  rw [hF, hq] at HQ
  have HR := Lib.hid fun W => rQuote_any t W (by omega)
  rw [hq] at HR
  have HT := Lib.hid fun W => tok_ok q 2 [(⟨5, sb t, 0⟩ : Tk), ⟨6, [], q.size⟩] W (by omega) [((⟨5, sb t, 0⟩ : Tk), (0 : Int))] (⟨6, [], q.size⟩, 0) (by rw [hqs]; exact yl_quote h8 hqz) rfl rfl rfl
  clear hqs hqz hF hq h8 hl
  go_wp2_with fail
  refine Calls.mono HQ.out ?_
  rintro e w1 ⟨rfl, hB1⟩
  clear HQ
  go_wp2_with fail
  refine Calls.mono (HT.out _) ?_
  rintro e w2 ⟨g, c, rfl, hc, hg, hA2, hO, hB2⟩
  clear HT hO
  have h02 := hB1.trans (hB2.mono hB1.size)
  have hA2' := Lib.hid hA2
  clear hA2 hB1 hB2
  go_wp2_with fail
  refine Calls.mono (HR.out _) ?_
  rintro e w3 ⟨rfl, hB3⟩
  clear HR
  have h03 := h02.trans (hB3.mono h02.size)
  have k3 := Lib.hid (fun (W : World) (hW : Below w3.heap.size w3 W) => (hW.block g (Nat.lt_of_lt_of_le hg hB3.size)).trans (hB3.block g hg))
  go_wp2_with fail
  refine Calls.mono (HA.out _) ?_
  rintro e wz ⟨rfl, rfl⟩
  clear HA
  obtain ⟨m, hm⟩ : ∃ m : Nat, m = 16383 + a := ⟨_, rfl⟩
  have hmi : (16383 : Int) + (a : Int) = (m : Int) := by omega
  obtain ⟨i1, hi1, hj0, hj1, hj2⟩ := info_parts info_u8
  have hmk : ∀ W : World, (Instr.makeSlice 24 (.int .i64 m) (.int .i64 m)).run Try.prog W = .ok (.slice (some ⟨W.heap.size, 0, none⟩) m m) (W.alloc (.cells (madeCells #[.int .u8 0] m) 5)) := fun W => run_make_row (P := Try.prog) 24 5 i1 _ Try.underlying24 hi1 hj0 hj1 rfl .i64 .i64 m (by rw [hj2]; omega) (by omega) W
  rw [← hmi] at hmk
  obtain ⟨Z, hZ⟩ : ∃ Z, strOfNums (List.replicate m 0) = Z := ⟨_, rfl⟩
  have hZ8 : Bytes8 (List.replicate m (0 : Int)) := fun z hz => by obtain rfl := (List.mem_replicate.1 hz).2; decide
  have hZb : sb Z = List.replicate m 0 := by rw [← hZ]; exact sb_of_nums hZ8
  have hZs : Z.size = m := by rw [← hZ, str_size', List.length_replicate]
  have e1 : Below w3.heap.size w3 (w3.alloc (.cells (madeCells #[.int .u8 0] m) 5)) := (Below.refl _ _).alloc (Nat.le_refl _) _
  have hcv := lx_conv (some ⟨w3.heap.size, 0, none⟩) m m (List.replicate m 0) (w3.alloc (.cells (madeCells #[.int .u8 0] m) 5)) _ List.length_replicate (zeros_rd' (w := w3) m)
  rw [hZ] at hcv
  have HQ2 := Lib.hid (Quote_any Z (w3.alloc (.cells (madeCells #[.int .u8 0] m) 5)) (by omega))
  obtain ⟨er, her⟩ : ∃ er, (quoteF (sb Z)).2 = er := ⟨_, rfl⟩
  have hF2 : (er = 0 ∧ m = 16383) ∨ (er = 4 ∧ 16383 < m) := by
    rw [← her]
    unfold quoteF
    rw [hZb, quote_zeros]
    by_cases h : m = 16383
    · rw [if_pos (by omega)]; exact .inl ⟨rfl, h⟩
    · rw [if_neg (by omega)]; exact .inr ⟨rfl, by omega⟩
  rw [her] at HQ2
  obtain ⟨Y, hY⟩ : ∃ Y, strOfNums (quoteF (sb Z)).1 = Y := ⟨_, rfl⟩
  rw [hY] at HQ2
  clear hY her hZ hZ8 hZb hZs
  have hma : Hid (m = 16383 + a) := Lib.hid hm
  have hm0 : (0 : Int) ≤ 16383 + (a : Int) := by omega
  clear hm hmi
  replace hF2 := Lib.hid hF2
  go_wp2_with fail
  refine Calls.mono HQ2.out ?_
  rintro e w4 ⟨rfl, hB4⟩
  clear HQ2 hcv hmk
  have h34 := e1.trans (hB4.mono e1.size)
  obtain ⟨a1, a2, a3⟩ := hA2'.out w4 (k3.out w4 h34) 0 _ rfl
  obtain ⟨b1, b2, b3⟩ := hA2'.out w4 (k3.out w4 h34) 1 _ rfl
  have a2' : w4.cell? ⟨g, 1, none⟩ = some (.string t) := a2.trans (congrArg (fun x => some (Value.string x)) (str_sb t))
  have b2' : w4.cell? ⟨g, 4, none⟩ = some (.string ⟨#[]⟩) := b2
  clear b2
  have HF := Lib.hid (h03.trans (h34.mono h03.size))
  clear e1 hB4 h34 h03 a2 k3 hA2'
  have HL := Lib.hid fun W => lives_any W
  have hM0 : (0 : Int) ≤ 16383 + (a : Int) ∧ (16383 : Int) + (a : Int) ≤ 16385 := by omega
  have hD : (er = 0 ∧ decide (4 * (16383 + (a : Int)) + 2 ≤ 65536) = true) ∨ (er = 4 ∧ decide (4 * (16383 + (a : Int)) + 2 ≤ 65536) = false) := by
    have h1 := hma.out
    rcases hF2.out with ⟨h, h5⟩ | ⟨h, h5⟩
    · exact .inl ⟨h, decide_eq_true (by omega)⟩
    · exact .inr ⟨h, decide_eq_false (by omega)⟩
  clear hF2 hma hm0
  dsimp only
  generalize (16383 : Int) + (a : Int) = M at *
  have hM1 := hM0.1
  have hM2 := hM0.2
  clear hM0
  obtain ⟨N, hN⟩ : ∃ N : Int, N = 65536 := ⟨_, rfl⟩
  have hw1 : IntKind.i64.wrap (4 * M) = 4 * M := by simp [IntKind.wrap, IntKind.bits, IntKind.signed]; omega
  have hw2 : IntKind.i64.wrap (4 * M + 2) = 4 * M + 2 := by simp [IntKind.wrap, IntKind.bits, IntKind.signed]; omega
  clear hN N
  rcases hD with ⟨rfl, hd1⟩ | ⟨rfl, hd1⟩
  · go_wp2_with (first | (go_at_call 17; refine Calls.mono (HL.out _) ?_; rintro e w5 ⟨rfl, hB5⟩))
    go_ret
    exact ⟨rfl, HF.out.trans (hB5.mono HF.out.size)⟩
  · go_wp2_with (first | (go_at_call 17; refine Calls.mono (HL.out _) ?_; rintro e w5 ⟨rfl, hB5⟩))
    go_ret
    exact ⟨rfl, HF.out.trans (hB5.mono HF.out.size)⟩
end Go.Proofs.Ytpeeekgfcofbkaa
