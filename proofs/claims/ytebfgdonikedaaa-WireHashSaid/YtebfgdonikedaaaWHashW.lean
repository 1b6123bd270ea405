/-
  THE WALK of the law on hashes of encodings (P2.7, P1.3).
-/
import Derived.Test.YtebfgdonikedaaaSizesW
import Derived.Test.YtebfgdonikedaaaBytes
namespace Go.Proofs.Ytebfgdonikedaaa
open Go.RowKit

theorem uv_inj {m n : Nat} (hm : m < 18446744073709551616) (hn : n < 18446744073709551616) (h : uv m = uv n) : m = n := by
  have h1 := uintR_uv hm []
  have h2 := uintR_uv hn []
  rw [h, h2] at h1
  injection h1 with h1
  exact h1.symm
theorem shr_56 {u a : Int} (hu : U64 u) (ha : 0 ≤ a) : ∃ k : Nat, u / 2 ^ (8 + a).toNat = (k : Int) ∧ k < 72057594037927936 := by
  unfold U64 at hu
  obtain ⟨t, rfl⟩ : ∃ t : Nat, a = t := ⟨a.toNat, by omega⟩
  have hp : (0 : Int) < 2 ^ t := Int.pow_pos (by decide)
  have e : u / 2 ^ (8 + (t : Int)).toNat = u / 256 / 2 ^ t := by
    rw [show (8 + (t : Int)).toNat = 8 + t by omega, Int.pow_add, ← Int.ediv_ediv_of_nonneg (by decide)]
    rfl
  have h0 : 0 ≤ u / 256 := by omega
  have h1 : 0 ≤ u / 256 / 2 ^ t := Int.ediv_nonneg h0 (Int.le_of_lt hp)
  have h2 : u / 256 / 2 ^ t ≤ u / 256 := Int.ediv_le_self _ h0
  rw [e]
  exact ⟨(u / 256 / 2 ^ t).toNat, by omega, by omega⟩
theorem uv_len8 {m : Nat} (h : m < 72057594037927936) : (uv m).length ≤ 8 := uv_length_le m 7 h
theorem hash_uv (s : ByteArray) (hs : s.size ≤ 20) {m n : Nat} (hm : m < 72057594037927936) (hn : n < 72057594037927936) (hl : (uv m).length = (uv n).length) :
    ((bytesI (sb s) (uv m) == bytesI (sb s) (uv n)) == ((m : Int) == (n : Int))) = true := by
  have hm8 := uv_len8 hm
  have hn8 := uv_len8 hn
  have hp := uv_pos m
  have hb := bytesI_group (lab := sb s) (l := uv m) (l' := uv n) (g := 0) (sb_bytes s) (by rw [sb_length]; omega) (uv_bytes m) (uv_bytes n) hl (by omega)
    (fun i hi => by
      have h8 : 8 ≤ i := by omega
      rw [List.getElem?_eq_none (by omega), List.getElem?_eq_none (by omega)]) (by omega)
  have hi : uv m = uv n ↔ m = n := ⟨uv_inj (by omega) (by omega), fun e => by rw [e]⟩
  rw [beq_iff_eq, Bool.eq_iff_iff, beq_iff_eq, beq_iff_eq, hb, hi]
  omega

set_option maxRecDepth 100000 in
set_option maxHeartbeats 2000000 in
theorem whash_any (a b s : Int) (lab : ByteArray) (w : World) (ha : U64 a) (hb : U64 b) (hs : I64 s) (hlab : lab.size ≤ maxLen) :
    Calls Try.prog 10 #[.int .u64 a, .int .u64 b, .int .i64 s, .string lab] w (TruePost w) := by
  have hab := aroundI_bounds (n := s) (most := 56) (by decide)
  have hA := Around_any s 56 w hs (by decide) (by decide)
  generalize aroundI s 56 = r at hab hA
  obtain ⟨hr0, hr1⟩ := hab
  obtain ⟨m, hm, hm56⟩ := shr_56 (a := r) ha hr0
  obtain ⟨n, hn, hn56⟩ := shr_56 (a := r) hb hr0
  have hS : ∃ t : ByteArray, t.size ≤ 20 ∧ ∀ W : World, Calls Try.prog 36 #[.string lab, .int .i64 20] W fun e w' => e = .returned (.string t) ∧ W = w' := by
    by_cases h : 20 < lab.size
    · exact ⟨lab.extract 0 20, by rw [ByteArray.size_extract]; omega, fun W => Short_long lab 20 W hlab h⟩
    · exact ⟨lab, by omega, fun W => Short_short lab 20 W hlab (by omega)⟩
  obtain ⟨t, ht, hSh⟩ := hS
  have hlm := uv_len8 hm56
  have hln := uv_len8 hn56
  have hH := fun hl => hash_uv t ht hm56 hn56 hl
  have hne : (uv m).length ≠ (uv n).length → ((m : Int) != (n : Int)) = true := fun h => by
    rw [bne_iff_ne]
    intro e
    exact h (by rw [show m = n by omega])
  have hU := dUint_any m w.heap.size w.heap.size [] _ (wtr_new w) (by decide) (by omega)
  have hV := fun W => dUint_any n W.heap.size W.heap.size [] _ (wtr_new W) (by decide) (by omega)
  have hBp := uv_bytes m
  have hBq := uv_bytes n
  simp only [List.nil_append] at hU hV
  generalize uv m = p at hU hlm hH hne hBp
  generalize uv n = q at hV hln hH hne hBq
  clear ha hb hs hm56 hn56 hlab
  have hle : decide ((p.length : Int) ≤ 8) = true := decide_eq_true (by omega)
  have hle2 : decide (p.length ≤ 8) = true := decide_eq_true hlm
  have hgt : decide ((8 : Int) < (p.length : Int)) = false := decide_eq_false (by omega)
  have hgt2 : decide (8 < p.length) = false := decide_eq_false (by omega)
  have hFin : ∀ w1 w2 w4 w5 : World, Below w.heap.size (w.alloc (.cells #[.slice none 0 0] 32)) w1 → Below w1.heap.size w1 w2 → Below w2.heap.size w2 w4 → Below w4.heap.size w4 w5 → Below w.heap.size w w5 := fun w1 w2 w4 w5 h1 h2 h4 h5 => by
    have s1 := h1.size
    have s2 := h2.size
    have s4 := h4.size
    have s0 : w.heap.size ≤ (w.alloc (.cells #[.slice none 0 0] 32)).heap.size := by simp
    exact ((((new_below w _).trans h1).trans (h2.mono (by omega))).trans (h4.mono (by omega))).trans (h5.mono (by omega))
  have HF := Lib.hid hFin
  clear hFin
  have hle' := Lib.hid hlm
  have hln' := Lib.hid hln
  by_cases hl : p.length = q.length
  · have b1 : ((p.length : Int) != (q.length : Int)) = false := by rw [hl]; simp
    have hH2 := hH hl
    have hC1 : ∀ W A c, RdI W W.heap.size .u8 A p → p.length ≤ c → Calls Try.prog 37 #[.string t, .slice A p.length c] W fun e w' => e = .returned (.int .u64 (bytesI (sb t) p)) ∧ Below W.heap.size W w' := fun W A c h hc => Bytes_at t A _ c p W rfl (by omega) (by omega) hc hBp h
    have hC2 : ∀ W A c, RdI W W.heap.size .u8 A q → q.length ≤ c → Calls Try.prog 37 #[.string t, .slice A q.length c] W fun e w' => e = .returned (.int .u64 (bytesI (sb t) q)) ∧ Below W.heap.size W w' := fun W A c h hc => Bytes_at t A _ c q W rfl (by omega) (by omega) hc hBq h
    generalize bytesI (sb t) p = x1 at hH2 hC1
    generalize bytesI (sb t) q = x2 at hH2 hC2
    clear hH hl hne hBp hBq hlm hln
    go_enter Try.func10, Try.ntmps10
    go_wp2_with (first
      | (go_at_call 19; refine hA.mono ?_; clear hA; rintro e w' ⟨rfl, rfl⟩)
      | (go_at_call 27; refine hU.mono ?_; clear hU; rintro e w1 ⟨rfl, hw1, hb1⟩)
      | (go_at_call 27; refine (hV w1).mono ?_; clear hV; rintro e w2 ⟨rfl, hy2, hb2⟩; have hB2 := Lib.hid ((new_below w1 _).trans hb2); have hx2 := wtr_below hw1 hB2.out)
      | (go_at_call 16; refine (dDone_any _ _ _ _ hx2 (by have := hle'.out; omega)).mono ?_; rintro e w3 ⟨A3, c3, rfl, hc3, hrow3, hb3⟩; have hy3 := wtr_below hy2 hb3; have hB3 := Lib.hid hb3)
      | (go_at_call 16; refine (dDone_any _ _ _ _ hy3 (by have := hln'.out; omega)).mono ?_; rintro e w4 ⟨A4, c4, rfl, hc4, hrow4, hb4⟩; have hr3 := ((rd_own hrow3).below hb4).mono hb4.size; have hr4 := rd_own hrow4; have hB4 := Lib.hid (hB3.out.trans (hb4.mono hB3.out.size)))
      | (go_at_call 36; refine (hSh _).mono ?_; clear hSh; rintro e w' ⟨rfl, rfl⟩)
      | (go_at_call 37; refine (hC1 _ _ _ hr3 hc3).mono ?_; clear hC1; rintro e w5 ⟨rfl, hb5⟩; have hr45 := (hr4.below hb5).mono hb5.size)
      | (go_at_call 37; refine (hC2 _ _ _ hr45 hc4).mono ?_; clear hC2; rintro e w6 ⟨rfl, hb6⟩; have hB6 := Lib.hid (hb5.trans (hb6.mono hb5.size)))
      | (go_at_call 18; refine (livesW_any _).mono ?_; rintro e w7 ⟨rfl, hb7⟩))
    go_ret
    exact ⟨rfl, HF.out w1 w2 w4 w7 hb1 hB2.out hB4.out (hB6.out.trans (hb7.mono hB6.out.size))⟩
  · have b1 : ((p.length : Int) != (q.length : Int)) = true := by rw [bne_iff_ne]; omega
    have b2 := hne hl
    clear hH hl hne hBp hBq hlm hln
    go_enter Try.func10, Try.ntmps10
    go_wp2_with (first
      | (go_at_call 19; refine hA.mono ?_; clear hA; rintro e w' ⟨rfl, rfl⟩)
      | (go_at_call 27; refine hU.mono ?_; clear hU; rintro e w1 ⟨rfl, hw1, hb1⟩)
      | (go_at_call 27; refine (hV w1).mono ?_; clear hV; rintro e w2 ⟨rfl, hy2, hb2⟩; have hB2 := Lib.hid ((new_below w1 _).trans hb2); have hx2 := wtr_below hw1 hB2.out)
      | (go_at_call 16; refine (dDone_any _ _ _ _ hx2 (by have := hle'.out; omega)).mono ?_; rintro e w3 ⟨A3, c3, rfl, hc3, hrow3, hb3⟩; have hy3 := wtr_below hy2 hb3; have hB3 := Lib.hid hb3)
      | (go_at_call 16; refine (dDone_any _ _ _ _ hy3 (by have := hln'.out; omega)).mono ?_; rintro e w4 ⟨A4, c4, rfl, hc4, hrow4, hb4⟩; have hB4 := Lib.hid (hB3.out.trans (hb4.mono hB3.out.size)))
      | (go_at_call 36; refine (hSh _).mono ?_; clear hSh; rintro e w' ⟨rfl, rfl⟩)
      | (go_at_call 18; refine (livesW_any _).mono ?_; rintro e w7 ⟨rfl, hb7⟩))
    go_ret
    exact ⟨rfl, HF.out w1 w2 w4 w7 hb1 hB2.out hB4.out hb7⟩
end Go.Proofs.Ytebfgdonikedaaa
