/-
  THE WALK of the law's array. Written by gen/genl6arr.py.
-/
import Derived.Test.YtedhbpceonhmcaaR6OfA
namespace Go.Proofs.Ytedhbpceonhmcaa
open Go.RowKit

/-- what array hands back -/
def ArrPost (w : World) (e : Ending) (w' : World) : Prop := ∃ x : Va, (x.k = 2 ∨ x.k = 3) ∧ (1 ≤ x.ix ∧ x.ix ≤ 3) ∧ valE x = 0 ∧ GivesV w x e w'
set_option maxHeartbeats 2000000 in
set_option maxRecDepth 100000 in
theorem l6array_any (n : Int) (A : Option Addr) (c : Nat) (zs : List Int) (len : Nat) (w : World) (hn : I64 n) (hlen : len = zs.length) (hzs : ∀ z ∈ zs, I64 z) (hr : RdI w w.heap.size .i64 A zs) : Calls Try.prog 37 #[.int .i64 n, .slice A len c] w fun e w' => ArrPost w e w' := by
  have Hlen := Lib.hid hlen
  have Hzs := Lib.hid hzs
  have Hr := Lib.hid hr
  clear hlen hzs hr
  obtain ⟨a, ha, hA⟩ := Around_30 n 262144 hn (by omega) (by omega)
  obtain ⟨b, hb, hB0⟩ := Around_30 n 2 hn (by omega) (by omega)
  obtain ⟨d, hd, hD⟩ := Around_30 n 3 hn (by omega) (by omega)
  have HA := Lib.hid fun W => around_lit 262144 262144 rfl hA W
  have HB0 := Lib.hid fun W => around_lit 2 2 rfl hB0 W
  have HD := Lib.hid fun W => around_lit 3 3 rfl hD W
  clear hA hB0 hD
  obtain ⟨q, hq⟩ : ∃ q : Nat, q = 4 * a + 2 + b := ⟨_, rfl⟩
  have hq4 : (((aroundI (4 * (a : Int) + 2 + (b : Int)) 1048576).toNat % 4 : Nat) : Int) = 2 ∨ (((aroundI (4 * (a : Int) + 2 + (b : Int)) 1048576).toNat % 4 : Nat) : Int) = 3 := by unfold aroundI; rw [if_neg (by omega)]; omega
  have HS := Lib.hid fun W => r6Sort_any (4 * (a : Int) + 2 + (b : Int)) W (by unfold I64; omega)
  have hz3 := Lib.hid (show 1 ≤ 1 + (d : Int) ∧ 1 + (d : Int) ≤ 3 by omega)
  replace hq4 := Lib.hid hq4
  clear hq
  have hB : Below w.heap.size w w := Below.refl _ _
  have bs_r := Lib.hid (show w.heap.size ≤ w.heap.size from (by have h := hB.size; first | omega | (simp at h; omega)))
  have hb_r := Lib.hid (heap_alloc_new_at w (.cells #[.int .i64 0, .int .i64 0, .int .i64 0, .int .u64 0, .string ⟨#[]⟩, .slice none 0 0] 30) (n := w.heap.size) (by simp))
  have lt_r : w.heap.size < (w.alloc (.cells #[.int .i64 0, .int .i64 0, .int .i64 0, .int .u64 0, .string ⟨#[]⟩, .slice none 0 0] 30)).heap.size := by simp
  replace hB := hB.alloc hB.size (.cells #[.int .i64 0, .int .i64 0, .int .i64 0, .int .u64 0, .string ⟨#[]⟩, .slice none 0 0] 30)
  go_enter Try.func37, Try.ntmps37
  go_wp2_with (first | (go_at_call 24; refine Calls.mono (HA.out _) ?_; clear HA; rintro e w5 ⟨rfl, rfl⟩) | (go_at_call 24; refine Calls.mono (HB0.out _) ?_; clear HB0; rintro e w6 ⟨rfl, rfl⟩))
  generalize (w.alloc (.cells #[.int .i64 0, .int .i64 0, .int .i64 0, .int .u64 0, .string ⟨#[]⟩, .slice none 0 0] 30)) = v2 at *
  refine Calls.mono (HS.out _) ?_
  rintro e v3 ⟨k, m, ix, rfl, hs, hk, hw⟩
  replace hb_r := Lib.hid ((hw.block _ lt_r).trans hb_r.out)
  replace lt_r := Nat.lt_of_lt_of_le lt_r hw.size
  replace hB := hB.trans (hw.mono hB.size)
  have hs0 := Lib.hid hs
  have hk0 := Lib.hid hk
  clear hs hk
  have bs_s := Lib.hid (show w.heap.size ≤ v3.heap.size from (by have h := hB.size; first | omega | (simp at h; omega)))
  have or_r_s := Lib.hid (show w.heap.size < v3.heap.size from (by have h := lt_r; first | omega | (simp at h; omega)))
  replace hb_r := Lib.hid ((Below.heap_alloc v3 (.cells #[.int .i64 k, .int .i64 m, .int .i64 (1 + (d : Int))] 26) _ lt_r).trans hb_r.out)
  replace lt_r := Nat.lt_trans lt_r (show v3.heap.size < (v3.alloc (.cells #[.int .i64 k, .int .i64 m, .int .i64 (1 + (d : Int))] 26)).heap.size by simp)
  have hb_s := Lib.hid (heap_alloc_new_at v3 (.cells #[.int .i64 k, .int .i64 m, .int .i64 (1 + (d : Int))] 26) (n := v3.heap.size) (by simp))
  have lt_s : v3.heap.size < (v3.alloc (.cells #[.int .i64 k, .int .i64 m, .int .i64 (1 + (d : Int))] 26)).heap.size := by simp
  replace hB := hB.alloc hB.size (.cells #[.int .i64 k, .int .i64 m, .int .i64 (1 + (d : Int))] 26)
  obtain ⟨d_s0, d_s1, d_s2⟩ := three hb_s.out
  go_wp2_with (go_at_call 24; refine Calls.mono (HD.out _) ?_; clear HD; rintro e w7 ⟨rfl, rfl⟩)
  clear d_s0 d_s1 d_s2
  generalize (v3.alloc (.cells #[.int .i64 k, .int .i64 m, .int .i64 (1 + (d : Int))] 26)) = v5 at *
  have hkk : k = 2 ∨ k = 3 := by rw [hk0.out]; exact hq4.out
  have hsz : sortOk k m (1 + (d : Int)) = true := by
    have h := hs0.out
    have h3 := hz3.out
    rcases hkk with rfl | rfl
    · simp [sortOk] at h ⊢; omega
    · simp [sortOk] at h ⊢; omega
  have hOf := r6Of_any k m (1 + (d : Int)) v5 A c zs len Hlen.out Hzs.out ((Hr.out.below hB).mono hB.size) hsz
  have hBb := Lib.hid hB
  have HBb := Lib.hid lt_r
  refine Calls.mono (hOf) ?_
  rintro e v6 ⟨x, ⟨hxk, hxn, hxi⟩, hval, v9, rfl, hv9, hw⟩
  replace hb_r := Lib.hid ((hw.block _ lt_r).trans hb_r.out)
  replace lt_r := Nat.lt_of_lt_of_le lt_r hw.size
  replace hb_s := Lib.hid ((hw.block _ lt_s).trans hb_s.out)
  replace lt_s := Nat.lt_of_lt_of_le lt_s hw.size
  replace hB := hB.trans (hw.mono hB.size)
  clear hOf
  have hx1 : x.k = 2 ∨ x.k = 3 := by rw [hxk]; exact hkk
  have hx2 : 1 ≤ x.ix ∧ x.ix ≤ 3 := by rw [hxi]; exact hz3.out
  clear hxk hxn hxi hkk hsz
  obtain ⟨hok9, A9, c9, hve, hc9, hA9, hl9⟩ := hv9
  have HPost := Lib.hid (And.intro hx1 (And.intro hx2 hval))
  have Hok9 := Lib.hid hok9
  clear hx1 hx2 hval hok9
  obtain ⟨xk, xn, xix, xu, xs, xm⟩ := x
  simp only at hve hc9 hl9
  obtain ⟨n9, hn9⟩ : ∃ n9, n9 = xm.length := ⟨_, rfl⟩
  rw [← hn9] at hve hc9
  have hve2 : v9 = .agg #[.int .i64 xk, .int .i64 xn, .int .i64 xix, .int .u64 xu, .string xs, .slice A9 n9 c9] := hve
  subst hve2
  clear hve
  have Hn9 := Lib.hid hn9
  clear hn9
  replace hl9 := Lib.hid hl9
  have hf_r := blk_frozen hb_r.out
  obtain ⟨c_r0, c_r1, c_r2, c_r3, c_r4, c_r5⟩ := six hb_r.out
  have HBF := Lib.hid hB
  go_wp2_with fail
  refine bodyPost_ret (v := .agg #[.int .i64 xk, .int .i64 xn, .int .i64 xix, .int .u64 xu, .string xs, .slice A9 n9 c9]) (by simp [results, Try.results37, go_sem, c_r0, c_r1, c_r2, c_r3, c_r4, c_r5]) rfl ?_
  have e9 := Hn9.out
  subst e9
  refine ⟨⟨xk, xn, xix, xu, xs, xm⟩, HPost.out.1, HPost.out.2.1, HPost.out.2.2, _, rfl, VaV.mk Hok9.out hc9 hA9 (hl9.out.to (fun b hb => ⟨⟨?_, ?_⟩, set6_heap _ _ _ _ _ _ ?_⟩)), set6_below HBF.out (Nat.le_refl _) _ _ _ _ _ _⟩
  · exact Nat.le_trans hBb.out.size hb.1
  · rw [set6_size]; exact hb.2
  · have h1 := hb.1; have h2 := hBb.out.size; have h3 := or_r_s.out; have h4 := HBb.out; omega
end Go.Proofs.Ytedhbpceonhmcaa
