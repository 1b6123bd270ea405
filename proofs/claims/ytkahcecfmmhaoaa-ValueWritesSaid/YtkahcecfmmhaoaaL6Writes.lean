/-
  THE WALK of the law ValueWrites. Written by gen/genwrites6.py.
-/
import Derived.Test.YtkahcecfmmhaoaaL6Arr
import Derived.Test.YtkahcecfmmhaoaaL6Lives
import Derived.Test.YtkahcecfmmhaoaaL6Math
import Derived.Test.YtkahcecfmmhaoaaR6Zero
import Derived.Test.YtkahcecfmmhaoaaVaEqv
namespace Go.Proofs.Ytkahcecfmmhaoaa
open Go.RowKit

set_option maxHeartbeats 8000000 in
set_option maxRecDepth 100000 in
theorem writes_any (n0 : Int) (A1 : Option Addr) (c1 : Nat) (zs1 : List Int) (len1 : Nat) (A2 : Option Addr) (c2 : Nat) (zs2 : List Int) (len2 : Nat) (i0 k0 : Int) (w : World) (hn : I64 n0) (hi0 : I64 i0) (hk0 : I64 k0)
    (hlen1 : len1 = zs1.length) (hzs1 : ∀ z ∈ zs1, I64 z) (hr1 : RdI w w.heap.size .i64 A1 zs1) (hlen2 : len2 = zs2.length) (hzs2 : ∀ z ∈ zs2, I64 z) (hr2 : RdI w w.heap.size .i64 A2 zs2) :
    Calls Try.prog 7 #[.int .i64 n0, .slice A1 len1 c1, .slice A2 len2 c2, .int .i64 i0, .int .i64 k0] w fun e w' => e = .returned (.bool true) ∧ Below w.heap.size w w' := by
  have H1 := Lib.hid (And.intro hlen1 (And.intro hzs1 hr1))
  have H2 := Lib.hid (And.intro hlen2 (And.intro hzs2 hr2))
  clear hlen1 hzs1 hr1 hlen2 hzs2 hr2
  have hB : Below w.heap.size w w := Below.refl _ _
  go_enter Try.func7, Try.ntmps7
  go_wp2_with fail
  refine Calls.mono (l6array_any n0 A1 c1 zs1 len1 w hn H1.out.1 H1.out.2.1 H1.out.2.2) ?_
  rintro e v1 ⟨x, hk, hix, hval, vv, rfl, hvv, hw⟩
  replace hB := hB.trans (hw.mono hB.size)
  have hxe := arr_eta hval (by rcases hk with h | h <;> rw [h] <;> rfl)
  obtain ⟨k, n, ix, u, s, m⟩ := x
  simp only at hk hix hxe
  rw [hxe] at hvv hval
  clear hxe
  have Hk := Lib.hid hk
  have Hval := Lib.hid hval
  have HIX := Lib.hid hix
  clear hk hval
  obtain ⟨sz, hsz1, hsz2, hsz3⟩ : ∃ sz : Nat, wrap64 (2 ^ min (IntKind.u64.wrap ix).toNat 64) = (sz : Int) ∧ grI ix = (sz : Int) - 1 ∧ (1 ≤ sz ∧ sz ≤ 8) := by
    rcases (show ix = 1 ∨ ix = 2 ∨ ix = 3 by omega) with rfl | rfl | rfl
    · exact ⟨2, by simp [wrap64, IntKind.wrap, IntKind.bits, IntKind.signed], by decide, by decide, by decide⟩
    · exact ⟨4, by simp [wrap64, IntKind.wrap, IntKind.bits, IntKind.signed], by decide, by decide, by decide⟩
    · exact ⟨8, by simp [wrap64, IntKind.wrap, IntKind.bits, IntKind.signed], by decide, by decide, by decide⟩
  clear hix
  have HGR := Lib.hid hsz2
  clear hsz2
  obtain ⟨e, he⟩ : ∃ e : Int, e = elK k := ⟨_, rfl⟩
  have HE := Lib.hid he
  have HEL := Lib.hid (show (if k = 2 then 0 else 1 : Int) = e from by rw [he]; rcases Hk.out with h | h <;> rw [h] <;> rfl)
  have hes : sortOk e n 0 = true := by
    rw [he]
    exact (sort_el Hk.out (val_parts Hval.out).1).1
  have HES := Lib.hid hes
  clear he hes
  obtain ⟨A_r, n_r, c_r, hve⟩ := hvv.shape
  have hve2 : vv = .agg #[.int .i64 k, .int .i64 n, .int .i64 ix, .int .u64 0, .string ⟨#[]⟩, .slice A_r n_r c_r] := hve
  subst hve2
  clear hve
  have hl_r := Lib.hid hvv
  clear hvv
  have lr_r := Lib.hid (show ∀ b, (MidV w.heap.size v1.heap.size) b → b < v1.heap.size from fun b hb => hb.2)
  have bs_r := Lib.hid (show w.heap.size ≤ v1.heap.size from (by have h := hB.size; first | omega | (simp at h; omega)))
  replace hl_r := Lib.hid (hl_r.out.to (w' := (v1.alloc (.cells #[.int .i64 k, .int .i64 n, .int .i64 ix, .int .u64 0, .string ⟨#[]⟩, .slice A_r n_r c_r] 30))) (T := (MidV w.heap.size v1.heap.size)) (fun b hb => ⟨hb, Below.heap_alloc v1 (.cells #[.int .i64 k, .int .i64 n, .int .i64 ix, .int .u64 0, .string ⟨#[]⟩, .slice A_r n_r c_r] 30) b (lr_r.out b hb)⟩))
  replace lr_r := Lib.hid (show ∀ b, (MidV w.heap.size v1.heap.size) b → b < (v1.alloc (.cells #[.int .i64 k, .int .i64 n, .int .i64 ix, .int .u64 0, .string ⟨#[]⟩, .slice A_r n_r c_r] 30)).heap.size from fun b hb => Nat.lt_trans (lr_r.out b hb) (by simp))
  have hb_r := Lib.hid (heap_alloc_new_at v1 (.cells #[.int .i64 k, .int .i64 n, .int .i64 ix, .int .u64 0, .string ⟨#[]⟩, .slice A_r n_r c_r] 30) (n := v1.heap.size) (by simp))
  have lt_r : v1.heap.size < (v1.alloc (.cells #[.int .i64 k, .int .i64 n, .int .i64 ix, .int .u64 0, .string ⟨#[]⟩, .slice A_r n_r c_r] 30)).heap.size := by simp
  replace hB := hB.alloc hB.size (.cells #[.int .i64 k, .int .i64 n, .int .i64 ix, .int .u64 0, .string ⟨#[]⟩, .slice A_r n_r c_r] 30)
  obtain ⟨c_r0, c_r1, c_r2, c_r3, c_r4, c_r5⟩ := six hb_r.out
  go_wp2_with fail
  clear c_r0 c_r1 c_r2 c_r3 c_r4 c_r5
  generalize (v1.alloc (.cells #[.int .i64 k, .int .i64 n, .int .i64 ix, .int .u64 0, .string ⟨#[]⟩, .slice A_r n_r c_r] 30)) = v3 at *
  refine Calls.mono (l6own_any ⟨k, n, ix, 0, .empty, m⟩ _ v3 (hl_r.out.to (T := LoV v3.heap.size) (fun b hb => ⟨lr_r.out b hb, rfl⟩))) ?_
  rintro e v4 ⟨vv, rfl, hvv, hw⟩
  replace hb_r := Lib.hid ((hw.block _ lt_r).trans hb_r.out)
  replace lt_r := Nat.lt_of_lt_of_le lt_r hw.size
  replace hl_r := Lib.hid (hl_r.out.to (w' := v4) (T := (MidV w.heap.size v1.heap.size)) (fun b hb => ⟨hb, hw.block b (lr_r.out b hb)⟩))
  replace lr_r := Lib.hid (show ∀ b, (MidV w.heap.size v1.heap.size) b → b < v4.heap.size from fun b hb => Nat.lt_of_lt_of_le (lr_r.out b hb) hw.size)
  replace hB := hB.trans (hw.mono hB.size)
  obtain ⟨A_a, n_a, c_a, hve⟩ := hvv.shape
  have hve2 : vv = .agg #[.int .i64 k, .int .i64 n, .int .i64 ix, .int .u64 0, .string ⟨#[]⟩, .slice A_a n_a c_a] := hve
  subst hve2
  clear hve
  have hl_a := Lib.hid hvv
  clear hvv
  have lr_a := Lib.hid (show ∀ b, (MidV v3.heap.size v4.heap.size) b → b < v4.heap.size from fun b hb => hb.2)
  have bs_a := Lib.hid (show w.heap.size ≤ v4.heap.size from (by have h := hB.size; first | omega | (simp at h; omega)))
  have or_r_a := Lib.hid (show v1.heap.size < v4.heap.size from (by have h := lt_r; first | omega | (simp at h; omega)))
  replace hb_r := Lib.hid ((Below.heap_alloc v4 (.cells #[.int .i64 k, .int .i64 n, .int .i64 ix, .int .u64 0, .string ⟨#[]⟩, .slice A_a n_a c_a] 35) _ lt_r).trans hb_r.out)
  replace lt_r := Nat.lt_trans lt_r (show v4.heap.size < (v4.alloc (.cells #[.int .i64 k, .int .i64 n, .int .i64 ix, .int .u64 0, .string ⟨#[]⟩, .slice A_a n_a c_a] 35)).heap.size by simp)
  replace hl_r := Lib.hid (hl_r.out.to (w' := (v4.alloc (.cells #[.int .i64 k, .int .i64 n, .int .i64 ix, .int .u64 0, .string ⟨#[]⟩, .slice A_a n_a c_a] 35))) (T := (MidV w.heap.size v1.heap.size)) (fun b hb => ⟨hb, Below.heap_alloc v4 (.cells #[.int .i64 k, .int .i64 n, .int .i64 ix, .int .u64 0, .string ⟨#[]⟩, .slice A_a n_a c_a] 35) b (lr_r.out b hb)⟩))
  replace lr_r := Lib.hid (show ∀ b, (MidV w.heap.size v1.heap.size) b → b < (v4.alloc (.cells #[.int .i64 k, .int .i64 n, .int .i64 ix, .int .u64 0, .string ⟨#[]⟩, .slice A_a n_a c_a] 35)).heap.size from fun b hb => Nat.lt_trans (lr_r.out b hb) (by simp))
  replace hl_a := Lib.hid (hl_a.out.to (w' := (v4.alloc (.cells #[.int .i64 k, .int .i64 n, .int .i64 ix, .int .u64 0, .string ⟨#[]⟩, .slice A_a n_a c_a] 35))) (T := (MidV v3.heap.size v4.heap.size)) (fun b hb => ⟨hb, Below.heap_alloc v4 (.cells #[.int .i64 k, .int .i64 n, .int .i64 ix, .int .u64 0, .string ⟨#[]⟩, .slice A_a n_a c_a] 35) b (lr_a.out b hb)⟩))
  replace lr_a := Lib.hid (show ∀ b, (MidV v3.heap.size v4.heap.size) b → b < (v4.alloc (.cells #[.int .i64 k, .int .i64 n, .int .i64 ix, .int .u64 0, .string ⟨#[]⟩, .slice A_a n_a c_a] 35)).heap.size from fun b hb => Nat.lt_trans (lr_a.out b hb) (by simp))
  have hb_a := Lib.hid (heap_alloc_new_at v4 (.cells #[.int .i64 k, .int .i64 n, .int .i64 ix, .int .u64 0, .string ⟨#[]⟩, .slice A_a n_a c_a] 35) (n := v4.heap.size) (by simp))
  have lt_a : v4.heap.size < (v4.alloc (.cells #[.int .i64 k, .int .i64 n, .int .i64 ix, .int .u64 0, .string ⟨#[]⟩, .slice A_a n_a c_a] 35)).heap.size := by simp
  replace hB := hB.alloc hB.size (.cells #[.int .i64 k, .int .i64 n, .int .i64 ix, .int .u64 0, .string ⟨#[]⟩, .slice A_a n_a c_a] 35)
  have hiz : ∀ z : Int, I64 z → ∃ q : Nat, q < sz ∧ ∀ W : World, Calls Try.prog 24 #[.int .i64 z, .int .i64 sz] W fun e w' => e = .returned (.int .i64 q) ∧ w' = W := fun z hz => Around_30 z sz hz hsz3.1 (by omega)
  obtain ⟨x, hx, hAx⟩ := hiz i0 hi0
  obtain ⟨y, hy, hAy⟩ := hiz k0 hk0
  clear hiz
  have HAx := Lib.hid hAx
  have HAy := Lib.hid hAy
  clear hAx hAy
  obtain ⟨c_r0, c_r1, c_r2, c_r3, c_r4, c_r5⟩ := six hb_r.out

  go_wp2_with (first | (go_at_call 24; refine Calls.mono (HAx.out _) ?_; clear HAx; rintro e1 w5 ⟨rfl, rfl⟩) | (go_at_call 24; refine Calls.mono (HAy.out _) ?_; clear HAy; rintro e2 w6 ⟨rfl, rfl⟩))
  clear c_r0 c_r1 c_r2 c_r3 c_r4 c_r5
  generalize (v4.alloc (.cells #[.int .i64 k, .int .i64 n, .int .i64 ix, .int .u64 0, .string ⟨#[]⟩, .slice A_a n_a c_a] 35)) = v6 at *
  have hEl := r6Element_any k n ix v6
  rw [HEL.out] at hEl
  refine Calls.mono (hEl) ?_
  rintro e v7 ⟨rfl, hw⟩
  replace hb_r := Lib.hid ((hw.block _ lt_r).trans hb_r.out)
  replace lt_r := Nat.lt_of_lt_of_le lt_r hw.size
  replace hb_a := Lib.hid ((hw.block _ lt_a).trans hb_a.out)
  replace lt_a := Nat.lt_of_lt_of_le lt_a hw.size
  replace hl_r := Lib.hid (hl_r.out.to (w' := v7) (T := (MidV w.heap.size v1.heap.size)) (fun b hb => ⟨hb, hw.block b (lr_r.out b hb)⟩))
  replace lr_r := Lib.hid (show ∀ b, (MidV w.heap.size v1.heap.size) b → b < v7.heap.size from fun b hb => Nat.lt_of_lt_of_le (lr_r.out b hb) hw.size)
  replace hl_a := Lib.hid (hl_a.out.to (w' := v7) (T := (MidV v3.heap.size v4.heap.size)) (fun b hb => ⟨hb, hw.block b (lr_a.out b hb)⟩))
  replace lr_a := Lib.hid (show ∀ b, (MidV v3.heap.size v4.heap.size) b → b < v7.heap.size from fun b hb => Nat.lt_of_lt_of_le (lr_a.out b hb) hw.size)
  replace hB := hB.trans (hw.mono hB.size)
  clear hEl
  go_wp2_with fail
  have hOf := r6Of_any e n 0 v7 A2 c2 zs2 len2 H2.out.1 H2.out.2.1 ((H2.out.2.2.below hB).mono hB.size) HES.out
  refine Calls.mono (hOf) ?_
  rintro e v8 ⟨xx, ⟨hxk, hxn, hxi⟩, hxv, vv, rfl, hvv, hw⟩
  replace hb_r := Lib.hid ((hw.block _ lt_r).trans hb_r.out)
  replace lt_r := Nat.lt_of_lt_of_le lt_r hw.size
  replace hb_a := Lib.hid ((hw.block _ lt_a).trans hb_a.out)
  replace lt_a := Nat.lt_of_lt_of_le lt_a hw.size
  replace hl_r := Lib.hid (hl_r.out.to (w' := v8) (T := (MidV w.heap.size v1.heap.size)) (fun b hb => ⟨hb, hw.block b (lr_r.out b hb)⟩))
  replace lr_r := Lib.hid (show ∀ b, (MidV w.heap.size v1.heap.size) b → b < v8.heap.size from fun b hb => Nat.lt_of_lt_of_le (lr_r.out b hb) hw.size)
  replace hl_a := Lib.hid (hl_a.out.to (w' := v8) (T := (MidV v3.heap.size v4.heap.size)) (fun b hb => ⟨hb, hw.block b (lr_a.out b hb)⟩))
  replace lr_a := Lib.hid (show ∀ b, (MidV v3.heap.size v4.heap.size) b → b < v8.heap.size from fun b hb => Nat.lt_of_lt_of_le (lr_a.out b hb) hw.size)
  replace hB := hB.trans (hw.mono hB.size)
  clear hOf
  have hie : isEl k n xx := ⟨hxv, by rw [hxk]; exact HE.out, hxn, hxi⟩
  have hxe := el_eta hie
  rw [← HE.out] at hxe
  obtain ⟨u_u, s_u, hxe2⟩ : ∃ u s, xx = ⟨e, n, 0, u, s, []⟩ := ⟨_, _, hxe⟩
  subst hxe2
  have hel_u := Lib.hid hie
  clear hie hxe hxk hxn hxi hxv
  obtain ⟨A9, n9, c9, hve⟩ := hvv.shape
  have hve2 : vv = .agg #[.int .i64 e, .int .i64 n, .int .i64 0, .int .u64 u_u, .string s_u, .slice A9 n9 c9] := hve
  subst hve2
  clear hve
  have hv8 := hvv.to (T := LoV v8.heap.size) (fun b hb => ⟨hb.2, rfl⟩)
  clear hvv
  go_wp2_with fail
  have hOw := l6own_any ⟨e, n, 0, u_u, s_u, []⟩ _ v8 hv8
  refine Calls.mono (hOw) ?_
  rintro e v9 ⟨vv, rfl, hvv, hw⟩
  replace hb_r := Lib.hid ((hw.block _ lt_r).trans hb_r.out)
  replace lt_r := Nat.lt_of_lt_of_le lt_r hw.size
  replace hb_a := Lib.hid ((hw.block _ lt_a).trans hb_a.out)
  replace lt_a := Nat.lt_of_lt_of_le lt_a hw.size
  replace hl_r := Lib.hid (hl_r.out.to (w' := v9) (T := (MidV w.heap.size v1.heap.size)) (fun b hb => ⟨hb, hw.block b (lr_r.out b hb)⟩))
  replace lr_r := Lib.hid (show ∀ b, (MidV w.heap.size v1.heap.size) b → b < v9.heap.size from fun b hb => Nat.lt_of_lt_of_le (lr_r.out b hb) hw.size)
  replace hl_a := Lib.hid (hl_a.out.to (w' := v9) (T := (MidV v3.heap.size v4.heap.size)) (fun b hb => ⟨hb, hw.block b (lr_a.out b hb)⟩))
  replace lr_a := Lib.hid (show ∀ b, (MidV v3.heap.size v4.heap.size) b → b < v9.heap.size from fun b hb => Nat.lt_of_lt_of_le (lr_a.out b hb) hw.size)
  replace hB := hB.trans (hw.mono hB.size)
  clear hOw hv8
  obtain ⟨A_u, n_u, c_u, hve⟩ := hvv.shape
  have hve2 : vv = .agg #[.int .i64 e, .int .i64 n, .int .i64 0, .int .u64 u_u, .string s_u, .slice A_u n_u c_u] := hve
  subst hve2
  clear hve
  have hl_u := Lib.hid hvv
  clear hvv
  have lr_u := Lib.hid (show ∀ b, (MidV v8.heap.size v9.heap.size) b → b < v9.heap.size from fun b hb => hb.2)
  have bs_u := Lib.hid (show w.heap.size ≤ v9.heap.size from (by have h := hB.size; first | omega | (simp at h; omega)))
  have or_r_u := Lib.hid (show v1.heap.size < v9.heap.size from (by have h := lt_r; first | omega | (simp at h; omega)))
  have or_a_u := Lib.hid (show v4.heap.size < v9.heap.size from (by have h := lt_a; first | omega | (simp at h; omega)))
  replace hb_r := Lib.hid ((Below.heap_alloc v9 (.cells #[.int .i64 e, .int .i64 n, .int .i64 0, .int .u64 u_u, .string s_u, .slice A_u n_u c_u] 35) _ lt_r).trans hb_r.out)
  replace lt_r := Nat.lt_trans lt_r (show v9.heap.size < (v9.alloc (.cells #[.int .i64 e, .int .i64 n, .int .i64 0, .int .u64 u_u, .string s_u, .slice A_u n_u c_u] 35)).heap.size by simp)
  replace hb_a := Lib.hid ((Below.heap_alloc v9 (.cells #[.int .i64 e, .int .i64 n, .int .i64 0, .int .u64 u_u, .string s_u, .slice A_u n_u c_u] 35) _ lt_a).trans hb_a.out)
  replace lt_a := Nat.lt_trans lt_a (show v9.heap.size < (v9.alloc (.cells #[.int .i64 e, .int .i64 n, .int .i64 0, .int .u64 u_u, .string s_u, .slice A_u n_u c_u] 35)).heap.size by simp)
  replace hl_r := Lib.hid (hl_r.out.to (w' := (v9.alloc (.cells #[.int .i64 e, .int .i64 n, .int .i64 0, .int .u64 u_u, .string s_u, .slice A_u n_u c_u] 35))) (T := (MidV w.heap.size v1.heap.size)) (fun b hb => ⟨hb, Below.heap_alloc v9 (.cells #[.int .i64 e, .int .i64 n, .int .i64 0, .int .u64 u_u, .string s_u, .slice A_u n_u c_u] 35) b (lr_r.out b hb)⟩))
  replace lr_r := Lib.hid (show ∀ b, (MidV w.heap.size v1.heap.size) b → b < (v9.alloc (.cells #[.int .i64 e, .int .i64 n, .int .i64 0, .int .u64 u_u, .string s_u, .slice A_u n_u c_u] 35)).heap.size from fun b hb => Nat.lt_trans (lr_r.out b hb) (by simp))
  replace hl_a := Lib.hid (hl_a.out.to (w' := (v9.alloc (.cells #[.int .i64 e, .int .i64 n, .int .i64 0, .int .u64 u_u, .string s_u, .slice A_u n_u c_u] 35))) (T := (MidV v3.heap.size v4.heap.size)) (fun b hb => ⟨hb, Below.heap_alloc v9 (.cells #[.int .i64 e, .int .i64 n, .int .i64 0, .int .u64 u_u, .string s_u, .slice A_u n_u c_u] 35) b (lr_a.out b hb)⟩))
  replace lr_a := Lib.hid (show ∀ b, (MidV v3.heap.size v4.heap.size) b → b < (v9.alloc (.cells #[.int .i64 e, .int .i64 n, .int .i64 0, .int .u64 u_u, .string s_u, .slice A_u n_u c_u] 35)).heap.size from fun b hb => Nat.lt_trans (lr_a.out b hb) (by simp))
  replace hl_u := Lib.hid (hl_u.out.to (w' := (v9.alloc (.cells #[.int .i64 e, .int .i64 n, .int .i64 0, .int .u64 u_u, .string s_u, .slice A_u n_u c_u] 35))) (T := (MidV v8.heap.size v9.heap.size)) (fun b hb => ⟨hb, Below.heap_alloc v9 (.cells #[.int .i64 e, .int .i64 n, .int .i64 0, .int .u64 u_u, .string s_u, .slice A_u n_u c_u] 35) b (lr_u.out b hb)⟩))
  replace lr_u := Lib.hid (show ∀ b, (MidV v8.heap.size v9.heap.size) b → b < (v9.alloc (.cells #[.int .i64 e, .int .i64 n, .int .i64 0, .int .u64 u_u, .string s_u, .slice A_u n_u c_u] 35)).heap.size from fun b hb => Nat.lt_trans (lr_u.out b hb) (by simp))
  have hb_u := Lib.hid (heap_alloc_new_at v9 (.cells #[.int .i64 e, .int .i64 n, .int .i64 0, .int .u64 u_u, .string s_u, .slice A_u n_u c_u] 35) (n := v9.heap.size) (by simp))
  have lt_u : v9.heap.size < (v9.alloc (.cells #[.int .i64 e, .int .i64 n, .int .i64 0, .int .u64 u_u, .string s_u, .slice A_u n_u c_u] 35)).heap.size := by simp
  replace hB := hB.alloc hB.size (.cells #[.int .i64 e, .int .i64 n, .int .i64 0, .int .u64 u_u, .string s_u, .slice A_u n_u c_u] 35)
  obtain ⟨c_r0, c_r1, c_r2, c_r3, c_r4, c_r5⟩ := six hb_r.out
  obtain ⟨c_u0, c_u1, c_u2, c_u3, c_u4, c_u5⟩ := six hb_u.out
  go_wp2_with fail
  clear c_r0 c_r1 c_r2 c_r3 c_r4 c_r5
  clear c_u0 c_u1 c_u2 c_u3 c_u4 c_u5
  generalize (v9.alloc (.cells #[.int .i64 e, .int .i64 n, .int .i64 0, .int .u64 u_u, .string s_u, .slice A_u n_u c_u] 35)) = v11 at *
  have hEl := r6Element_any k n ix v11
  rw [HEL.out] at hEl
  refine Calls.mono (hEl) ?_
  rintro e v12 ⟨rfl, hw⟩
  replace hb_r := Lib.hid ((hw.block _ lt_r).trans hb_r.out)
  replace lt_r := Nat.lt_of_lt_of_le lt_r hw.size
  replace hb_a := Lib.hid ((hw.block _ lt_a).trans hb_a.out)
  replace lt_a := Nat.lt_of_lt_of_le lt_a hw.size
  replace hb_u := Lib.hid ((hw.block _ lt_u).trans hb_u.out)
  replace lt_u := Nat.lt_of_lt_of_le lt_u hw.size
  replace hl_r := Lib.hid (hl_r.out.to (w' := v12) (T := (MidV w.heap.size v1.heap.size)) (fun b hb => ⟨hb, hw.block b (lr_r.out b hb)⟩))
  replace lr_r := Lib.hid (show ∀ b, (MidV w.heap.size v1.heap.size) b → b < v12.heap.size from fun b hb => Nat.lt_of_lt_of_le (lr_r.out b hb) hw.size)
  replace hl_a := Lib.hid (hl_a.out.to (w' := v12) (T := (MidV v3.heap.size v4.heap.size)) (fun b hb => ⟨hb, hw.block b (lr_a.out b hb)⟩))
  replace lr_a := Lib.hid (show ∀ b, (MidV v3.heap.size v4.heap.size) b → b < v12.heap.size from fun b hb => Nat.lt_of_lt_of_le (lr_a.out b hb) hw.size)
  replace hl_u := Lib.hid (hl_u.out.to (w' := v12) (T := (MidV v8.heap.size v9.heap.size)) (fun b hb => ⟨hb, hw.block b (lr_u.out b hb)⟩))
  replace lr_u := Lib.hid (show ∀ b, (MidV v8.heap.size v9.heap.size) b → b < v12.heap.size from fun b hb => Nat.lt_of_lt_of_le (lr_u.out b hb) hw.size)
  replace hB := hB.trans (hw.mono hB.size)
  clear hEl
  go_wp2_with fail
  have hOf := r6Of_any e n 0 v12 A1 c1 zs1 len1 H1.out.1 H1.out.2.1 ((H1.out.2.2.below hB).mono hB.size) HES.out
  refine Calls.mono (hOf) ?_
  rintro e v13 ⟨xx, ⟨hxk, hxn, hxi⟩, hxv, vv, rfl, hvv, hw⟩
  replace hb_r := Lib.hid ((hw.block _ lt_r).trans hb_r.out)
  replace lt_r := Nat.lt_of_lt_of_le lt_r hw.size
  replace hb_a := Lib.hid ((hw.block _ lt_a).trans hb_a.out)
  replace lt_a := Nat.lt_of_lt_of_le lt_a hw.size
  replace hb_u := Lib.hid ((hw.block _ lt_u).trans hb_u.out)
  replace lt_u := Nat.lt_of_lt_of_le lt_u hw.size
  replace hl_r := Lib.hid (hl_r.out.to (w' := v13) (T := (MidV w.heap.size v1.heap.size)) (fun b hb => ⟨hb, hw.block b (lr_r.out b hb)⟩))
  replace lr_r := Lib.hid (show ∀ b, (MidV w.heap.size v1.heap.size) b → b < v13.heap.size from fun b hb => Nat.lt_of_lt_of_le (lr_r.out b hb) hw.size)
  replace hl_a := Lib.hid (hl_a.out.to (w' := v13) (T := (MidV v3.heap.size v4.heap.size)) (fun b hb => ⟨hb, hw.block b (lr_a.out b hb)⟩))
  replace lr_a := Lib.hid (show ∀ b, (MidV v3.heap.size v4.heap.size) b → b < v13.heap.size from fun b hb => Nat.lt_of_lt_of_le (lr_a.out b hb) hw.size)
  replace hl_u := Lib.hid (hl_u.out.to (w' := v13) (T := (MidV v8.heap.size v9.heap.size)) (fun b hb => ⟨hb, hw.block b (lr_u.out b hb)⟩))
  replace lr_u := Lib.hid (show ∀ b, (MidV v8.heap.size v9.heap.size) b → b < v13.heap.size from fun b hb => Nat.lt_of_lt_of_le (lr_u.out b hb) hw.size)
  replace hB := hB.trans (hw.mono hB.size)
  clear hOf
  have hie : isEl k n xx := ⟨hxv, by rw [hxk]; exact HE.out, hxn, hxi⟩
  have hxe := el_eta hie
  rw [← HE.out] at hxe
  obtain ⟨u_v, s_v, hxe2⟩ : ∃ u s, xx = ⟨e, n, 0, u, s, []⟩ := ⟨_, _, hxe⟩
  subst hxe2
  have hel_v := Lib.hid hie
  clear hie hxe hxk hxn hxi hxv
  obtain ⟨A9, n9, c9, hve⟩ := hvv.shape
  have hve2 : vv = .agg #[.int .i64 e, .int .i64 n, .int .i64 0, .int .u64 u_v, .string s_v, .slice A9 n9 c9] := hve
  subst hve2
  clear hve
  have hv8 := hvv.to (T := LoV v13.heap.size) (fun b hb => ⟨hb.2, rfl⟩)
  clear hvv
  go_wp2_with fail
  have hOw := l6own_any ⟨e, n, 0, u_v, s_v, []⟩ _ v13 hv8
  refine Calls.mono (hOw) ?_
  rintro e v14 ⟨vv, rfl, hvv, hw⟩
  replace hb_r := Lib.hid ((hw.block _ lt_r).trans hb_r.out)
  replace lt_r := Nat.lt_of_lt_of_le lt_r hw.size
  replace hb_a := Lib.hid ((hw.block _ lt_a).trans hb_a.out)
  replace lt_a := Nat.lt_of_lt_of_le lt_a hw.size
  replace hb_u := Lib.hid ((hw.block _ lt_u).trans hb_u.out)
  replace lt_u := Nat.lt_of_lt_of_le lt_u hw.size
  replace hl_r := Lib.hid (hl_r.out.to (w' := v14) (T := (MidV w.heap.size v1.heap.size)) (fun b hb => ⟨hb, hw.block b (lr_r.out b hb)⟩))
  replace lr_r := Lib.hid (show ∀ b, (MidV w.heap.size v1.heap.size) b → b < v14.heap.size from fun b hb => Nat.lt_of_lt_of_le (lr_r.out b hb) hw.size)
  replace hl_a := Lib.hid (hl_a.out.to (w' := v14) (T := (MidV v3.heap.size v4.heap.size)) (fun b hb => ⟨hb, hw.block b (lr_a.out b hb)⟩))
  replace lr_a := Lib.hid (show ∀ b, (MidV v3.heap.size v4.heap.size) b → b < v14.heap.size from fun b hb => Nat.lt_of_lt_of_le (lr_a.out b hb) hw.size)
  replace hl_u := Lib.hid (hl_u.out.to (w' := v14) (T := (MidV v8.heap.size v9.heap.size)) (fun b hb => ⟨hb, hw.block b (lr_u.out b hb)⟩))
  replace lr_u := Lib.hid (show ∀ b, (MidV v8.heap.size v9.heap.size) b → b < v14.heap.size from fun b hb => Nat.lt_of_lt_of_le (lr_u.out b hb) hw.size)
  replace hB := hB.trans (hw.mono hB.size)
  clear hOw hv8
  obtain ⟨A_v, n_v, c_v, hve⟩ := hvv.shape
  have hve2 : vv = .agg #[.int .i64 e, .int .i64 n, .int .i64 0, .int .u64 u_v, .string s_v, .slice A_v n_v c_v] := hve
  subst hve2
  clear hve
  have hl_v := Lib.hid hvv
  clear hvv
  have lr_v := Lib.hid (show ∀ b, (MidV v13.heap.size v14.heap.size) b → b < v14.heap.size from fun b hb => hb.2)
  have bs_v := Lib.hid (show w.heap.size ≤ v14.heap.size from (by have h := hB.size; first | omega | (simp at h; omega)))
  have or_r_v := Lib.hid (show v1.heap.size < v14.heap.size from (by have h := lt_r; first | omega | (simp at h; omega)))
  have or_a_v := Lib.hid (show v4.heap.size < v14.heap.size from (by have h := lt_a; first | omega | (simp at h; omega)))
  have or_u_v := Lib.hid (show v9.heap.size < v14.heap.size from (by have h := lt_u; first | omega | (simp at h; omega)))
  replace hb_r := Lib.hid ((Below.heap_alloc v14 (.cells #[.int .i64 e, .int .i64 n, .int .i64 0, .int .u64 u_v, .string s_v, .slice A_v n_v c_v] 35) _ lt_r).trans hb_r.out)
  replace lt_r := Nat.lt_trans lt_r (show v14.heap.size < (v14.alloc (.cells #[.int .i64 e, .int .i64 n, .int .i64 0, .int .u64 u_v, .string s_v, .slice A_v n_v c_v] 35)).heap.size by simp)
  replace hb_a := Lib.hid ((Below.heap_alloc v14 (.cells #[.int .i64 e, .int .i64 n, .int .i64 0, .int .u64 u_v, .string s_v, .slice A_v n_v c_v] 35) _ lt_a).trans hb_a.out)
  replace lt_a := Nat.lt_trans lt_a (show v14.heap.size < (v14.alloc (.cells #[.int .i64 e, .int .i64 n, .int .i64 0, .int .u64 u_v, .string s_v, .slice A_v n_v c_v] 35)).heap.size by simp)
  replace hb_u := Lib.hid ((Below.heap_alloc v14 (.cells #[.int .i64 e, .int .i64 n, .int .i64 0, .int .u64 u_v, .string s_v, .slice A_v n_v c_v] 35) _ lt_u).trans hb_u.out)
  replace lt_u := Nat.lt_trans lt_u (show v14.heap.size < (v14.alloc (.cells #[.int .i64 e, .int .i64 n, .int .i64 0, .int .u64 u_v, .string s_v, .slice A_v n_v c_v] 35)).heap.size by simp)
  replace hl_r := Lib.hid (hl_r.out.to (w' := (v14.alloc (.cells #[.int .i64 e, .int .i64 n, .int .i64 0, .int .u64 u_v, .string s_v, .slice A_v n_v c_v] 35))) (T := (MidV w.heap.size v1.heap.size)) (fun b hb => ⟨hb, Below.heap_alloc v14 (.cells #[.int .i64 e, .int .i64 n, .int .i64 0, .int .u64 u_v, .string s_v, .slice A_v n_v c_v] 35) b (lr_r.out b hb)⟩))
  replace lr_r := Lib.hid (show ∀ b, (MidV w.heap.size v1.heap.size) b → b < (v14.alloc (.cells #[.int .i64 e, .int .i64 n, .int .i64 0, .int .u64 u_v, .string s_v, .slice A_v n_v c_v] 35)).heap.size from fun b hb => Nat.lt_trans (lr_r.out b hb) (by simp))
  replace hl_a := Lib.hid (hl_a.out.to (w' := (v14.alloc (.cells #[.int .i64 e, .int .i64 n, .int .i64 0, .int .u64 u_v, .string s_v, .slice A_v n_v c_v] 35))) (T := (MidV v3.heap.size v4.heap.size)) (fun b hb => ⟨hb, Below.heap_alloc v14 (.cells #[.int .i64 e, .int .i64 n, .int .i64 0, .int .u64 u_v, .string s_v, .slice A_v n_v c_v] 35) b (lr_a.out b hb)⟩))
  replace lr_a := Lib.hid (show ∀ b, (MidV v3.heap.size v4.heap.size) b → b < (v14.alloc (.cells #[.int .i64 e, .int .i64 n, .int .i64 0, .int .u64 u_v, .string s_v, .slice A_v n_v c_v] 35)).heap.size from fun b hb => Nat.lt_trans (lr_a.out b hb) (by simp))
  replace hl_u := Lib.hid (hl_u.out.to (w' := (v14.alloc (.cells #[.int .i64 e, .int .i64 n, .int .i64 0, .int .u64 u_v, .string s_v, .slice A_v n_v c_v] 35))) (T := (MidV v8.heap.size v9.heap.size)) (fun b hb => ⟨hb, Below.heap_alloc v14 (.cells #[.int .i64 e, .int .i64 n, .int .i64 0, .int .u64 u_v, .string s_v, .slice A_v n_v c_v] 35) b (lr_u.out b hb)⟩))
  replace lr_u := Lib.hid (show ∀ b, (MidV v8.heap.size v9.heap.size) b → b < (v14.alloc (.cells #[.int .i64 e, .int .i64 n, .int .i64 0, .int .u64 u_v, .string s_v, .slice A_v n_v c_v] 35)).heap.size from fun b hb => Nat.lt_trans (lr_u.out b hb) (by simp))
  replace hl_v := Lib.hid (hl_v.out.to (w' := (v14.alloc (.cells #[.int .i64 e, .int .i64 n, .int .i64 0, .int .u64 u_v, .string s_v, .slice A_v n_v c_v] 35))) (T := (MidV v13.heap.size v14.heap.size)) (fun b hb => ⟨hb, Below.heap_alloc v14 (.cells #[.int .i64 e, .int .i64 n, .int .i64 0, .int .u64 u_v, .string s_v, .slice A_v n_v c_v] 35) b (lr_v.out b hb)⟩))
  replace lr_v := Lib.hid (show ∀ b, (MidV v13.heap.size v14.heap.size) b → b < (v14.alloc (.cells #[.int .i64 e, .int .i64 n, .int .i64 0, .int .u64 u_v, .string s_v, .slice A_v n_v c_v] 35)).heap.size from fun b hb => Nat.lt_trans (lr_v.out b hb) (by simp))
  have hb_v := Lib.hid (heap_alloc_new_at v14 (.cells #[.int .i64 e, .int .i64 n, .int .i64 0, .int .u64 u_v, .string s_v, .slice A_v n_v c_v] 35) (n := v14.heap.size) (by simp))
  have lt_v : v14.heap.size < (v14.alloc (.cells #[.int .i64 e, .int .i64 n, .int .i64 0, .int .u64 u_v, .string s_v, .slice A_v n_v c_v] 35)).heap.size := by simp
  replace hB := hB.alloc hB.size (.cells #[.int .i64 e, .int .i64 n, .int .i64 0, .int .u64 u_v, .string s_v, .slice A_v n_v c_v] 35)
  obtain ⟨c_r0, c_r1, c_r2, c_r3, c_r4, c_r5⟩ := six hb_r.out
  obtain ⟨c_v0, c_v1, c_v2, c_v3, c_v4, c_v5⟩ := six hb_v.out
  obtain ⟨c_a0, c_a1, c_a2, c_a3, c_a4, c_a5⟩ := six hb_a.out
  obtain ⟨c_u0, c_u1, c_u2, c_u3, c_u4, c_u5⟩ := six hb_u.out
  go_wp2_with fail
  clear c_r0 c_r1 c_r2 c_r3 c_r4 c_r5
  clear c_v0 c_v1 c_v2 c_v3 c_v4 c_v5
  clear c_a0 c_a1 c_a2 c_a3 c_a4 c_a5
  clear c_u0 c_u1 c_u2 c_u3 c_u4 c_u5
  generalize (v14.alloc (.cells #[.int .i64 e, .int .i64 n, .int .i64 0, .int .u64 u_v, .string s_v, .slice A_v n_v c_v] 35)) = v16 at *
  have HIx := Lib.hid (show (x : Int) ≤ grI ix from by rw [HGR.out]; omega)
  have HIy := Lib.hid (show (y : Int) ≤ grI ix from by rw [HGR.out]; omega)
  have U8x := Lib.hid (show U64 (x : Int) from ⟨by omega, by omega⟩)
  have U8y := Lib.hid (show U64 (y : Int) from ⟨by omega, by omega⟩)
  have hval_a := Lib.hid Hval.out
  have hf := sto_fine (i := (x : Int)) Hk.out hval_a.out hel_u.out (Int.not_lt.2 HIx.out)
  have hS := vStore_any ⟨k, n, ix, 0, .empty, m⟩ ⟨e, n, 0, u_u, s_u, []⟩ _ _ (x : Int) v16 (hl_a.out.to (T := LoV v16.heap.size) (fun b hb => ⟨lr_a.out b hb, rfl⟩)) (hl_u.out.to (T := LoV v16.heap.size) (fun b hb => ⟨lr_u.out b hb, rfl⟩)) U8x.out
  rw [hf.1, hf.2.1] at hS
  obtain ⟨p_one, hp⟩ : ∃ p, p = putE (x : Int) u_u s_u m := ⟨_, rfl⟩
  have hval_one := Lib.hid (hf.2.2)
  simp only at hS hval_one
  rw [← hp] at hS hval_one
  have HP_one := Lib.hid hp
  clear hp hf
  refine Calls.mono (hS) ?_
  rintro e v17 ⟨vv, rfl, hvv, hw⟩
  replace hb_r := Lib.hid ((hw.block _ lt_r).trans hb_r.out)
  replace lt_r := Nat.lt_of_lt_of_le lt_r hw.size
  replace hb_a := Lib.hid ((hw.block _ lt_a).trans hb_a.out)
  replace lt_a := Nat.lt_of_lt_of_le lt_a hw.size
  replace hb_u := Lib.hid ((hw.block _ lt_u).trans hb_u.out)
  replace lt_u := Nat.lt_of_lt_of_le lt_u hw.size
  replace hb_v := Lib.hid ((hw.block _ lt_v).trans hb_v.out)
  replace lt_v := Nat.lt_of_lt_of_le lt_v hw.size
  replace hl_r := Lib.hid (hl_r.out.to (w' := v17) (T := (MidV w.heap.size v1.heap.size)) (fun b hb => ⟨hb, hw.block b (lr_r.out b hb)⟩))
  replace lr_r := Lib.hid (show ∀ b, (MidV w.heap.size v1.heap.size) b → b < v17.heap.size from fun b hb => Nat.lt_of_lt_of_le (lr_r.out b hb) hw.size)
  replace hl_a := Lib.hid (hl_a.out.to (w' := v17) (T := (MidV v3.heap.size v4.heap.size)) (fun b hb => ⟨hb, hw.block b (lr_a.out b hb)⟩))
  replace lr_a := Lib.hid (show ∀ b, (MidV v3.heap.size v4.heap.size) b → b < v17.heap.size from fun b hb => Nat.lt_of_lt_of_le (lr_a.out b hb) hw.size)
  replace hl_u := Lib.hid (hl_u.out.to (w' := v17) (T := (MidV v8.heap.size v9.heap.size)) (fun b hb => ⟨hb, hw.block b (lr_u.out b hb)⟩))
  replace lr_u := Lib.hid (show ∀ b, (MidV v8.heap.size v9.heap.size) b → b < v17.heap.size from fun b hb => Nat.lt_of_lt_of_le (lr_u.out b hb) hw.size)
  replace hl_v := Lib.hid (hl_v.out.to (w' := v17) (T := (MidV v13.heap.size v14.heap.size)) (fun b hb => ⟨hb, hw.block b (lr_v.out b hb)⟩))
  replace lr_v := Lib.hid (show ∀ b, (MidV v13.heap.size v14.heap.size) b → b < v17.heap.size from fun b hb => Nat.lt_of_lt_of_le (lr_v.out b hb) hw.size)
  replace hB := hB.trans (hw.mono hB.size)
  clear hS
  obtain ⟨A_one, n_one, c_one, hve⟩ := hvv.shape
  have hve2 : vv = .agg #[.int .i64 k, .int .i64 n, .int .i64 ix, .int .u64 0, .string ⟨#[]⟩, .slice A_one n_one c_one] := hve
  subst hve2
  clear hve
  have hl_one := Lib.hid hvv
  clear hvv
  have lr_one := Lib.hid (show ∀ b, (MidV v16.heap.size v17.heap.size) b → b < v17.heap.size from fun b hb => hb.2)
  have bs_one := Lib.hid (show w.heap.size ≤ v17.heap.size from (by have h := hB.size; first | omega | (simp at h; omega)))
  have or_r_one := Lib.hid (show v1.heap.size < v17.heap.size from (by have h := lt_r; first | omega | (simp at h; omega)))
  have or_a_one := Lib.hid (show v4.heap.size < v17.heap.size from (by have h := lt_a; first | omega | (simp at h; omega)))
  have or_u_one := Lib.hid (show v9.heap.size < v17.heap.size from (by have h := lt_u; first | omega | (simp at h; omega)))
  have or_v_one := Lib.hid (show v14.heap.size < v17.heap.size from (by have h := lt_v; first | omega | (simp at h; omega)))
  replace hb_r := Lib.hid ((Below.heap_alloc v17 (.cells #[.int .i64 k, .int .i64 n, .int .i64 ix, .int .u64 0, .string ⟨#[]⟩, .slice A_one n_one c_one] 35) _ lt_r).trans hb_r.out)
  replace lt_r := Nat.lt_trans lt_r (show v17.heap.size < (v17.alloc (.cells #[.int .i64 k, .int .i64 n, .int .i64 ix, .int .u64 0, .string ⟨#[]⟩, .slice A_one n_one c_one] 35)).heap.size by simp)
  replace hb_a := Lib.hid ((Below.heap_alloc v17 (.cells #[.int .i64 k, .int .i64 n, .int .i64 ix, .int .u64 0, .string ⟨#[]⟩, .slice A_one n_one c_one] 35) _ lt_a).trans hb_a.out)
  replace lt_a := Nat.lt_trans lt_a (show v17.heap.size < (v17.alloc (.cells #[.int .i64 k, .int .i64 n, .int .i64 ix, .int .u64 0, .string ⟨#[]⟩, .slice A_one n_one c_one] 35)).heap.size by simp)
  replace hb_u := Lib.hid ((Below.heap_alloc v17 (.cells #[.int .i64 k, .int .i64 n, .int .i64 ix, .int .u64 0, .string ⟨#[]⟩, .slice A_one n_one c_one] 35) _ lt_u).trans hb_u.out)
  replace lt_u := Nat.lt_trans lt_u (show v17.heap.size < (v17.alloc (.cells #[.int .i64 k, .int .i64 n, .int .i64 ix, .int .u64 0, .string ⟨#[]⟩, .slice A_one n_one c_one] 35)).heap.size by simp)
  replace hb_v := Lib.hid ((Below.heap_alloc v17 (.cells #[.int .i64 k, .int .i64 n, .int .i64 ix, .int .u64 0, .string ⟨#[]⟩, .slice A_one n_one c_one] 35) _ lt_v).trans hb_v.out)
  replace lt_v := Nat.lt_trans lt_v (show v17.heap.size < (v17.alloc (.cells #[.int .i64 k, .int .i64 n, .int .i64 ix, .int .u64 0, .string ⟨#[]⟩, .slice A_one n_one c_one] 35)).heap.size by simp)
  replace hl_r := Lib.hid (hl_r.out.to (w' := (v17.alloc (.cells #[.int .i64 k, .int .i64 n, .int .i64 ix, .int .u64 0, .string ⟨#[]⟩, .slice A_one n_one c_one] 35))) (T := (MidV w.heap.size v1.heap.size)) (fun b hb => ⟨hb, Below.heap_alloc v17 (.cells #[.int .i64 k, .int .i64 n, .int .i64 ix, .int .u64 0, .string ⟨#[]⟩, .slice A_one n_one c_one] 35) b (lr_r.out b hb)⟩))
  replace lr_r := Lib.hid (show ∀ b, (MidV w.heap.size v1.heap.size) b → b < (v17.alloc (.cells #[.int .i64 k, .int .i64 n, .int .i64 ix, .int .u64 0, .string ⟨#[]⟩, .slice A_one n_one c_one] 35)).heap.size from fun b hb => Nat.lt_trans (lr_r.out b hb) (by simp))
  replace hl_a := Lib.hid (hl_a.out.to (w' := (v17.alloc (.cells #[.int .i64 k, .int .i64 n, .int .i64 ix, .int .u64 0, .string ⟨#[]⟩, .slice A_one n_one c_one] 35))) (T := (MidV v3.heap.size v4.heap.size)) (fun b hb => ⟨hb, Below.heap_alloc v17 (.cells #[.int .i64 k, .int .i64 n, .int .i64 ix, .int .u64 0, .string ⟨#[]⟩, .slice A_one n_one c_one] 35) b (lr_a.out b hb)⟩))
  replace lr_a := Lib.hid (show ∀ b, (MidV v3.heap.size v4.heap.size) b → b < (v17.alloc (.cells #[.int .i64 k, .int .i64 n, .int .i64 ix, .int .u64 0, .string ⟨#[]⟩, .slice A_one n_one c_one] 35)).heap.size from fun b hb => Nat.lt_trans (lr_a.out b hb) (by simp))
  replace hl_u := Lib.hid (hl_u.out.to (w' := (v17.alloc (.cells #[.int .i64 k, .int .i64 n, .int .i64 ix, .int .u64 0, .string ⟨#[]⟩, .slice A_one n_one c_one] 35))) (T := (MidV v8.heap.size v9.heap.size)) (fun b hb => ⟨hb, Below.heap_alloc v17 (.cells #[.int .i64 k, .int .i64 n, .int .i64 ix, .int .u64 0, .string ⟨#[]⟩, .slice A_one n_one c_one] 35) b (lr_u.out b hb)⟩))
  replace lr_u := Lib.hid (show ∀ b, (MidV v8.heap.size v9.heap.size) b → b < (v17.alloc (.cells #[.int .i64 k, .int .i64 n, .int .i64 ix, .int .u64 0, .string ⟨#[]⟩, .slice A_one n_one c_one] 35)).heap.size from fun b hb => Nat.lt_trans (lr_u.out b hb) (by simp))
  replace hl_v := Lib.hid (hl_v.out.to (w' := (v17.alloc (.cells #[.int .i64 k, .int .i64 n, .int .i64 ix, .int .u64 0, .string ⟨#[]⟩, .slice A_one n_one c_one] 35))) (T := (MidV v13.heap.size v14.heap.size)) (fun b hb => ⟨hb, Below.heap_alloc v17 (.cells #[.int .i64 k, .int .i64 n, .int .i64 ix, .int .u64 0, .string ⟨#[]⟩, .slice A_one n_one c_one] 35) b (lr_v.out b hb)⟩))
  replace lr_v := Lib.hid (show ∀ b, (MidV v13.heap.size v14.heap.size) b → b < (v17.alloc (.cells #[.int .i64 k, .int .i64 n, .int .i64 ix, .int .u64 0, .string ⟨#[]⟩, .slice A_one n_one c_one] 35)).heap.size from fun b hb => Nat.lt_trans (lr_v.out b hb) (by simp))
  replace hl_one := Lib.hid (hl_one.out.to (w' := (v17.alloc (.cells #[.int .i64 k, .int .i64 n, .int .i64 ix, .int .u64 0, .string ⟨#[]⟩, .slice A_one n_one c_one] 35))) (T := (MidV v16.heap.size v17.heap.size)) (fun b hb => ⟨hb, Below.heap_alloc v17 (.cells #[.int .i64 k, .int .i64 n, .int .i64 ix, .int .u64 0, .string ⟨#[]⟩, .slice A_one n_one c_one] 35) b (lr_one.out b hb)⟩))
  replace lr_one := Lib.hid (show ∀ b, (MidV v16.heap.size v17.heap.size) b → b < (v17.alloc (.cells #[.int .i64 k, .int .i64 n, .int .i64 ix, .int .u64 0, .string ⟨#[]⟩, .slice A_one n_one c_one] 35)).heap.size from fun b hb => Nat.lt_trans (lr_one.out b hb) (by simp))
  have hb_one := Lib.hid (heap_alloc_new_at v17 (.cells #[.int .i64 k, .int .i64 n, .int .i64 ix, .int .u64 0, .string ⟨#[]⟩, .slice A_one n_one c_one] 35) (n := v17.heap.size) (by simp))
  have lt_one : v17.heap.size < (v17.alloc (.cells #[.int .i64 k, .int .i64 n, .int .i64 ix, .int .u64 0, .string ⟨#[]⟩, .slice A_one n_one c_one] 35)).heap.size := by simp
  replace hB := hB.alloc hB.size (.cells #[.int .i64 k, .int .i64 n, .int .i64 ix, .int .u64 0, .string ⟨#[]⟩, .slice A_one n_one c_one] 35)
  obtain ⟨c_one0, c_one1, c_one2, c_one3, c_one4, c_one5⟩ := six hb_one.out
  obtain ⟨c_v0, c_v1, c_v2, c_v3, c_v4, c_v5⟩ := six hb_v.out
  go_wp2_with fail
  clear c_one0 c_one1 c_one2 c_one3 c_one4 c_one5
  clear c_v0 c_v1 c_v2 c_v3 c_v4 c_v5
  generalize (v17.alloc (.cells #[.int .i64 k, .int .i64 n, .int .i64 ix, .int .u64 0, .string ⟨#[]⟩, .slice A_one n_one c_one] 35)) = v19 at *
  have hf := sto_fine (i := (y : Int)) Hk.out hval_one.out hel_v.out (Int.not_lt.2 HIy.out)
  have hS := vStore_any ⟨k, n, ix, 0, .empty, p_one⟩ ⟨e, n, 0, u_v, s_v, []⟩ _ _ (y : Int) v19 (hl_one.out.to (T := LoV v19.heap.size) (fun b hb => ⟨lr_one.out b hb, rfl⟩)) (hl_v.out.to (T := LoV v19.heap.size) (fun b hb => ⟨lr_v.out b hb, rfl⟩)) U8y.out
  rw [hf.1, hf.2.1] at hS
  obtain ⟨p_two, hp⟩ : ∃ p, p = putE (y : Int) u_v s_v p_one := ⟨_, rfl⟩
  have hval_two := Lib.hid (hf.2.2)
  simp only at hS hval_two
  rw [← hp] at hS hval_two
  have HP_two := Lib.hid hp
  clear hp hf
  refine Calls.mono (hS) ?_
  rintro e v20 ⟨vv, rfl, hvv, hw⟩
  replace hb_r := Lib.hid ((hw.block _ lt_r).trans hb_r.out)
  replace lt_r := Nat.lt_of_lt_of_le lt_r hw.size
  replace hb_a := Lib.hid ((hw.block _ lt_a).trans hb_a.out)
  replace lt_a := Nat.lt_of_lt_of_le lt_a hw.size
  replace hb_u := Lib.hid ((hw.block _ lt_u).trans hb_u.out)
  replace lt_u := Nat.lt_of_lt_of_le lt_u hw.size
  replace hb_v := Lib.hid ((hw.block _ lt_v).trans hb_v.out)
  replace lt_v := Nat.lt_of_lt_of_le lt_v hw.size
  replace hb_one := Lib.hid ((hw.block _ lt_one).trans hb_one.out)
  replace lt_one := Nat.lt_of_lt_of_le lt_one hw.size
  replace hl_r := Lib.hid (hl_r.out.to (w' := v20) (T := (MidV w.heap.size v1.heap.size)) (fun b hb => ⟨hb, hw.block b (lr_r.out b hb)⟩))
  replace lr_r := Lib.hid (show ∀ b, (MidV w.heap.size v1.heap.size) b → b < v20.heap.size from fun b hb => Nat.lt_of_lt_of_le (lr_r.out b hb) hw.size)
  replace hl_a := Lib.hid (hl_a.out.to (w' := v20) (T := (MidV v3.heap.size v4.heap.size)) (fun b hb => ⟨hb, hw.block b (lr_a.out b hb)⟩))
  replace lr_a := Lib.hid (show ∀ b, (MidV v3.heap.size v4.heap.size) b → b < v20.heap.size from fun b hb => Nat.lt_of_lt_of_le (lr_a.out b hb) hw.size)
  replace hl_u := Lib.hid (hl_u.out.to (w' := v20) (T := (MidV v8.heap.size v9.heap.size)) (fun b hb => ⟨hb, hw.block b (lr_u.out b hb)⟩))
  replace lr_u := Lib.hid (show ∀ b, (MidV v8.heap.size v9.heap.size) b → b < v20.heap.size from fun b hb => Nat.lt_of_lt_of_le (lr_u.out b hb) hw.size)
  replace hl_v := Lib.hid (hl_v.out.to (w' := v20) (T := (MidV v13.heap.size v14.heap.size)) (fun b hb => ⟨hb, hw.block b (lr_v.out b hb)⟩))
  replace lr_v := Lib.hid (show ∀ b, (MidV v13.heap.size v14.heap.size) b → b < v20.heap.size from fun b hb => Nat.lt_of_lt_of_le (lr_v.out b hb) hw.size)
  replace hl_one := Lib.hid (hl_one.out.to (w' := v20) (T := (MidV v16.heap.size v17.heap.size)) (fun b hb => ⟨hb, hw.block b (lr_one.out b hb)⟩))
  replace lr_one := Lib.hid (show ∀ b, (MidV v16.heap.size v17.heap.size) b → b < v20.heap.size from fun b hb => Nat.lt_of_lt_of_le (lr_one.out b hb) hw.size)
  replace hB := hB.trans (hw.mono hB.size)
  clear hS
  obtain ⟨A_two, n_two, c_two, hve⟩ := hvv.shape
  have hve2 : vv = .agg #[.int .i64 k, .int .i64 n, .int .i64 ix, .int .u64 0, .string ⟨#[]⟩, .slice A_two n_two c_two] := hve
  subst hve2
  clear hve
  have hl_two := Lib.hid hvv
  clear hvv
  have lr_two := Lib.hid (show ∀ b, (MidV v19.heap.size v20.heap.size) b → b < v20.heap.size from fun b hb => hb.2)
  have bs_two := Lib.hid (show w.heap.size ≤ v20.heap.size from (by have h := hB.size; first | omega | (simp at h; omega)))
  have or_r_two := Lib.hid (show v1.heap.size < v20.heap.size from (by have h := lt_r; first | omega | (simp at h; omega)))
  have or_a_two := Lib.hid (show v4.heap.size < v20.heap.size from (by have h := lt_a; first | omega | (simp at h; omega)))
  have or_u_two := Lib.hid (show v9.heap.size < v20.heap.size from (by have h := lt_u; first | omega | (simp at h; omega)))
  have or_v_two := Lib.hid (show v14.heap.size < v20.heap.size from (by have h := lt_v; first | omega | (simp at h; omega)))
  have or_one_two := Lib.hid (show v17.heap.size < v20.heap.size from (by have h := lt_one; first | omega | (simp at h; omega)))
  replace hb_r := Lib.hid ((Below.heap_alloc v20 (.cells #[.int .i64 k, .int .i64 n, .int .i64 ix, .int .u64 0, .string ⟨#[]⟩, .slice A_two n_two c_two] 35) _ lt_r).trans hb_r.out)
  replace lt_r := Nat.lt_trans lt_r (show v20.heap.size < (v20.alloc (.cells #[.int .i64 k, .int .i64 n, .int .i64 ix, .int .u64 0, .string ⟨#[]⟩, .slice A_two n_two c_two] 35)).heap.size by simp)
  replace hb_a := Lib.hid ((Below.heap_alloc v20 (.cells #[.int .i64 k, .int .i64 n, .int .i64 ix, .int .u64 0, .string ⟨#[]⟩, .slice A_two n_two c_two] 35) _ lt_a).trans hb_a.out)
  replace lt_a := Nat.lt_trans lt_a (show v20.heap.size < (v20.alloc (.cells #[.int .i64 k, .int .i64 n, .int .i64 ix, .int .u64 0, .string ⟨#[]⟩, .slice A_two n_two c_two] 35)).heap.size by simp)
  replace hb_u := Lib.hid ((Below.heap_alloc v20 (.cells #[.int .i64 k, .int .i64 n, .int .i64 ix, .int .u64 0, .string ⟨#[]⟩, .slice A_two n_two c_two] 35) _ lt_u).trans hb_u.out)
  replace lt_u := Nat.lt_trans lt_u (show v20.heap.size < (v20.alloc (.cells #[.int .i64 k, .int .i64 n, .int .i64 ix, .int .u64 0, .string ⟨#[]⟩, .slice A_two n_two c_two] 35)).heap.size by simp)
  replace hb_v := Lib.hid ((Below.heap_alloc v20 (.cells #[.int .i64 k, .int .i64 n, .int .i64 ix, .int .u64 0, .string ⟨#[]⟩, .slice A_two n_two c_two] 35) _ lt_v).trans hb_v.out)
  replace lt_v := Nat.lt_trans lt_v (show v20.heap.size < (v20.alloc (.cells #[.int .i64 k, .int .i64 n, .int .i64 ix, .int .u64 0, .string ⟨#[]⟩, .slice A_two n_two c_two] 35)).heap.size by simp)
  replace hb_one := Lib.hid ((Below.heap_alloc v20 (.cells #[.int .i64 k, .int .i64 n, .int .i64 ix, .int .u64 0, .string ⟨#[]⟩, .slice A_two n_two c_two] 35) _ lt_one).trans hb_one.out)
  replace lt_one := Nat.lt_trans lt_one (show v20.heap.size < (v20.alloc (.cells #[.int .i64 k, .int .i64 n, .int .i64 ix, .int .u64 0, .string ⟨#[]⟩, .slice A_two n_two c_two] 35)).heap.size by simp)
  replace hl_r := Lib.hid (hl_r.out.to (w' := (v20.alloc (.cells #[.int .i64 k, .int .i64 n, .int .i64 ix, .int .u64 0, .string ⟨#[]⟩, .slice A_two n_two c_two] 35))) (T := (MidV w.heap.size v1.heap.size)) (fun b hb => ⟨hb, Below.heap_alloc v20 (.cells #[.int .i64 k, .int .i64 n, .int .i64 ix, .int .u64 0, .string ⟨#[]⟩, .slice A_two n_two c_two] 35) b (lr_r.out b hb)⟩))
  replace lr_r := Lib.hid (show ∀ b, (MidV w.heap.size v1.heap.size) b → b < (v20.alloc (.cells #[.int .i64 k, .int .i64 n, .int .i64 ix, .int .u64 0, .string ⟨#[]⟩, .slice A_two n_two c_two] 35)).heap.size from fun b hb => Nat.lt_trans (lr_r.out b hb) (by simp))
  replace hl_a := Lib.hid (hl_a.out.to (w' := (v20.alloc (.cells #[.int .i64 k, .int .i64 n, .int .i64 ix, .int .u64 0, .string ⟨#[]⟩, .slice A_two n_two c_two] 35))) (T := (MidV v3.heap.size v4.heap.size)) (fun b hb => ⟨hb, Below.heap_alloc v20 (.cells #[.int .i64 k, .int .i64 n, .int .i64 ix, .int .u64 0, .string ⟨#[]⟩, .slice A_two n_two c_two] 35) b (lr_a.out b hb)⟩))
  replace lr_a := Lib.hid (show ∀ b, (MidV v3.heap.size v4.heap.size) b → b < (v20.alloc (.cells #[.int .i64 k, .int .i64 n, .int .i64 ix, .int .u64 0, .string ⟨#[]⟩, .slice A_two n_two c_two] 35)).heap.size from fun b hb => Nat.lt_trans (lr_a.out b hb) (by simp))
  replace hl_u := Lib.hid (hl_u.out.to (w' := (v20.alloc (.cells #[.int .i64 k, .int .i64 n, .int .i64 ix, .int .u64 0, .string ⟨#[]⟩, .slice A_two n_two c_two] 35))) (T := (MidV v8.heap.size v9.heap.size)) (fun b hb => ⟨hb, Below.heap_alloc v20 (.cells #[.int .i64 k, .int .i64 n, .int .i64 ix, .int .u64 0, .string ⟨#[]⟩, .slice A_two n_two c_two] 35) b (lr_u.out b hb)⟩))
  replace lr_u := Lib.hid (show ∀ b, (MidV v8.heap.size v9.heap.size) b → b < (v20.alloc (.cells #[.int .i64 k, .int .i64 n, .int .i64 ix, .int .u64 0, .string ⟨#[]⟩, .slice A_two n_two c_two] 35)).heap.size from fun b hb => Nat.lt_trans (lr_u.out b hb) (by simp))
  replace hl_v := Lib.hid (hl_v.out.to (w' := (v20.alloc (.cells #[.int .i64 k, .int .i64 n, .int .i64 ix, .int .u64 0, .string ⟨#[]⟩, .slice A_two n_two c_two] 35))) (T := (MidV v13.heap.size v14.heap.size)) (fun b hb => ⟨hb, Below.heap_alloc v20 (.cells #[.int .i64 k, .int .i64 n, .int .i64 ix, .int .u64 0, .string ⟨#[]⟩, .slice A_two n_two c_two] 35) b (lr_v.out b hb)⟩))
  replace lr_v := Lib.hid (show ∀ b, (MidV v13.heap.size v14.heap.size) b → b < (v20.alloc (.cells #[.int .i64 k, .int .i64 n, .int .i64 ix, .int .u64 0, .string ⟨#[]⟩, .slice A_two n_two c_two] 35)).heap.size from fun b hb => Nat.lt_trans (lr_v.out b hb) (by simp))
  replace hl_one := Lib.hid (hl_one.out.to (w' := (v20.alloc (.cells #[.int .i64 k, .int .i64 n, .int .i64 ix, .int .u64 0, .string ⟨#[]⟩, .slice A_two n_two c_two] 35))) (T := (MidV v16.heap.size v17.heap.size)) (fun b hb => ⟨hb, Below.heap_alloc v20 (.cells #[.int .i64 k, .int .i64 n, .int .i64 ix, .int .u64 0, .string ⟨#[]⟩, .slice A_two n_two c_two] 35) b (lr_one.out b hb)⟩))
  replace lr_one := Lib.hid (show ∀ b, (MidV v16.heap.size v17.heap.size) b → b < (v20.alloc (.cells #[.int .i64 k, .int .i64 n, .int .i64 ix, .int .u64 0, .string ⟨#[]⟩, .slice A_two n_two c_two] 35)).heap.size from fun b hb => Nat.lt_trans (lr_one.out b hb) (by simp))
  replace hl_two := Lib.hid (hl_two.out.to (w' := (v20.alloc (.cells #[.int .i64 k, .int .i64 n, .int .i64 ix, .int .u64 0, .string ⟨#[]⟩, .slice A_two n_two c_two] 35))) (T := (MidV v19.heap.size v20.heap.size)) (fun b hb => ⟨hb, Below.heap_alloc v20 (.cells #[.int .i64 k, .int .i64 n, .int .i64 ix, .int .u64 0, .string ⟨#[]⟩, .slice A_two n_two c_two] 35) b (lr_two.out b hb)⟩))
  replace lr_two := Lib.hid (show ∀ b, (MidV v19.heap.size v20.heap.size) b → b < (v20.alloc (.cells #[.int .i64 k, .int .i64 n, .int .i64 ix, .int .u64 0, .string ⟨#[]⟩, .slice A_two n_two c_two] 35)).heap.size from fun b hb => Nat.lt_trans (lr_two.out b hb) (by simp))
  have hb_two := Lib.hid (heap_alloc_new_at v20 (.cells #[.int .i64 k, .int .i64 n, .int .i64 ix, .int .u64 0, .string ⟨#[]⟩, .slice A_two n_two c_two] 35) (n := v20.heap.size) (by simp))
  have lt_two : v20.heap.size < (v20.alloc (.cells #[.int .i64 k, .int .i64 n, .int .i64 ix, .int .u64 0, .string ⟨#[]⟩, .slice A_two n_two c_two] 35)).heap.size := by simp
  replace hB := hB.alloc hB.size (.cells #[.int .i64 k, .int .i64 n, .int .i64 ix, .int .u64 0, .string ⟨#[]⟩, .slice A_two n_two c_two] 35)
  obtain ⟨c_two0, c_two1, c_two2, c_two3, c_two4, c_two5⟩ := six hb_two.out
  obtain ⟨c_a0, c_a1, c_a2, c_a3, c_a4, c_a5⟩ := six hb_a.out
  obtain ⟨c_v0, c_v1, c_v2, c_v3, c_v4, c_v5⟩ := six hb_v.out
  go_wp2_with fail
  clear c_two0 c_two1 c_two2 c_two3 c_two4 c_two5
  clear c_a0 c_a1 c_a2 c_a3 c_a4 c_a5
  clear c_v0 c_v1 c_v2 c_v3 c_v4 c_v5
  generalize (v20.alloc (.cells #[.int .i64 k, .int .i64 n, .int .i64 ix, .int .u64 0, .string ⟨#[]⟩, .slice A_two n_two c_two] 35)) = v22 at *
  have hf := sto_fine (i := (y : Int)) Hk.out hval_a.out hel_v.out (Int.not_lt.2 HIy.out)
  have hS := vStore_any ⟨k, n, ix, 0, .empty, m⟩ ⟨e, n, 0, u_v, s_v, []⟩ _ _ (y : Int) v22 (hl_a.out.to (T := LoV v22.heap.size) (fun b hb => ⟨lr_a.out b hb, rfl⟩)) (hl_v.out.to (T := LoV v22.heap.size) (fun b hb => ⟨lr_v.out b hb, rfl⟩)) U8y.out
  rw [hf.1, hf.2.1] at hS
  obtain ⟨p_oth, hp⟩ : ∃ p, p = putE (y : Int) u_v s_v m := ⟨_, rfl⟩
  have hval_oth := Lib.hid (hf.2.2)
  simp only at hS hval_oth
  rw [← hp] at hS hval_oth
  have HP_oth := Lib.hid hp
  clear hp hf
  refine Calls.mono (hS) ?_
  rintro e v23 ⟨vv, rfl, hvv, hw⟩
  replace hb_r := Lib.hid ((hw.block _ lt_r).trans hb_r.out)
  replace lt_r := Nat.lt_of_lt_of_le lt_r hw.size
  replace hb_a := Lib.hid ((hw.block _ lt_a).trans hb_a.out)
  replace lt_a := Nat.lt_of_lt_of_le lt_a hw.size
  replace hb_u := Lib.hid ((hw.block _ lt_u).trans hb_u.out)
  replace lt_u := Nat.lt_of_lt_of_le lt_u hw.size
  replace hb_v := Lib.hid ((hw.block _ lt_v).trans hb_v.out)
  replace lt_v := Nat.lt_of_lt_of_le lt_v hw.size
  replace hb_one := Lib.hid ((hw.block _ lt_one).trans hb_one.out)
  replace lt_one := Nat.lt_of_lt_of_le lt_one hw.size
  replace hb_two := Lib.hid ((hw.block _ lt_two).trans hb_two.out)
  replace lt_two := Nat.lt_of_lt_of_le lt_two hw.size
  replace hl_r := Lib.hid (hl_r.out.to (w' := v23) (T := (MidV w.heap.size v1.heap.size)) (fun b hb => ⟨hb, hw.block b (lr_r.out b hb)⟩))
  replace lr_r := Lib.hid (show ∀ b, (MidV w.heap.size v1.heap.size) b → b < v23.heap.size from fun b hb => Nat.lt_of_lt_of_le (lr_r.out b hb) hw.size)
  replace hl_a := Lib.hid (hl_a.out.to (w' := v23) (T := (MidV v3.heap.size v4.heap.size)) (fun b hb => ⟨hb, hw.block b (lr_a.out b hb)⟩))
  replace lr_a := Lib.hid (show ∀ b, (MidV v3.heap.size v4.heap.size) b → b < v23.heap.size from fun b hb => Nat.lt_of_lt_of_le (lr_a.out b hb) hw.size)
  replace hl_u := Lib.hid (hl_u.out.to (w' := v23) (T := (MidV v8.heap.size v9.heap.size)) (fun b hb => ⟨hb, hw.block b (lr_u.out b hb)⟩))
  replace lr_u := Lib.hid (show ∀ b, (MidV v8.heap.size v9.heap.size) b → b < v23.heap.size from fun b hb => Nat.lt_of_lt_of_le (lr_u.out b hb) hw.size)
  replace hl_v := Lib.hid (hl_v.out.to (w' := v23) (T := (MidV v13.heap.size v14.heap.size)) (fun b hb => ⟨hb, hw.block b (lr_v.out b hb)⟩))
  replace lr_v := Lib.hid (show ∀ b, (MidV v13.heap.size v14.heap.size) b → b < v23.heap.size from fun b hb => Nat.lt_of_lt_of_le (lr_v.out b hb) hw.size)
  replace hl_one := Lib.hid (hl_one.out.to (w' := v23) (T := (MidV v16.heap.size v17.heap.size)) (fun b hb => ⟨hb, hw.block b (lr_one.out b hb)⟩))
  replace lr_one := Lib.hid (show ∀ b, (MidV v16.heap.size v17.heap.size) b → b < v23.heap.size from fun b hb => Nat.lt_of_lt_of_le (lr_one.out b hb) hw.size)
  replace hl_two := Lib.hid (hl_two.out.to (w' := v23) (T := (MidV v19.heap.size v20.heap.size)) (fun b hb => ⟨hb, hw.block b (lr_two.out b hb)⟩))
  replace lr_two := Lib.hid (show ∀ b, (MidV v19.heap.size v20.heap.size) b → b < v23.heap.size from fun b hb => Nat.lt_of_lt_of_le (lr_two.out b hb) hw.size)
  replace hB := hB.trans (hw.mono hB.size)
  clear hS
  obtain ⟨A_oth, n_oth, c_oth, hve⟩ := hvv.shape
  have hve2 : vv = .agg #[.int .i64 k, .int .i64 n, .int .i64 ix, .int .u64 0, .string ⟨#[]⟩, .slice A_oth n_oth c_oth] := hve
  subst hve2
  clear hve
  have hl_oth := Lib.hid hvv
  clear hvv
  have lr_oth := Lib.hid (show ∀ b, (MidV v22.heap.size v23.heap.size) b → b < v23.heap.size from fun b hb => hb.2)
  have bs_oth := Lib.hid (show w.heap.size ≤ v23.heap.size from (by have h := hB.size; first | omega | (simp at h; omega)))
  have or_r_oth := Lib.hid (show v1.heap.size < v23.heap.size from (by have h := lt_r; first | omega | (simp at h; omega)))
  have or_a_oth := Lib.hid (show v4.heap.size < v23.heap.size from (by have h := lt_a; first | omega | (simp at h; omega)))
  have or_u_oth := Lib.hid (show v9.heap.size < v23.heap.size from (by have h := lt_u; first | omega | (simp at h; omega)))
  have or_v_oth := Lib.hid (show v14.heap.size < v23.heap.size from (by have h := lt_v; first | omega | (simp at h; omega)))
  have or_one_oth := Lib.hid (show v17.heap.size < v23.heap.size from (by have h := lt_one; first | omega | (simp at h; omega)))
  have or_two_oth := Lib.hid (show v20.heap.size < v23.heap.size from (by have h := lt_two; first | omega | (simp at h; omega)))
  replace hb_r := Lib.hid ((Below.heap_alloc v23 (.cells #[.int .i64 k, .int .i64 n, .int .i64 ix, .int .u64 0, .string ⟨#[]⟩, .slice A_oth n_oth c_oth] 35) _ lt_r).trans hb_r.out)
  replace lt_r := Nat.lt_trans lt_r (show v23.heap.size < (v23.alloc (.cells #[.int .i64 k, .int .i64 n, .int .i64 ix, .int .u64 0, .string ⟨#[]⟩, .slice A_oth n_oth c_oth] 35)).heap.size by simp)
  replace hb_a := Lib.hid ((Below.heap_alloc v23 (.cells #[.int .i64 k, .int .i64 n, .int .i64 ix, .int .u64 0, .string ⟨#[]⟩, .slice A_oth n_oth c_oth] 35) _ lt_a).trans hb_a.out)
  replace lt_a := Nat.lt_trans lt_a (show v23.heap.size < (v23.alloc (.cells #[.int .i64 k, .int .i64 n, .int .i64 ix, .int .u64 0, .string ⟨#[]⟩, .slice A_oth n_oth c_oth] 35)).heap.size by simp)
  replace hb_u := Lib.hid ((Below.heap_alloc v23 (.cells #[.int .i64 k, .int .i64 n, .int .i64 ix, .int .u64 0, .string ⟨#[]⟩, .slice A_oth n_oth c_oth] 35) _ lt_u).trans hb_u.out)
  replace lt_u := Nat.lt_trans lt_u (show v23.heap.size < (v23.alloc (.cells #[.int .i64 k, .int .i64 n, .int .i64 ix, .int .u64 0, .string ⟨#[]⟩, .slice A_oth n_oth c_oth] 35)).heap.size by simp)
  replace hb_v := Lib.hid ((Below.heap_alloc v23 (.cells #[.int .i64 k, .int .i64 n, .int .i64 ix, .int .u64 0, .string ⟨#[]⟩, .slice A_oth n_oth c_oth] 35) _ lt_v).trans hb_v.out)
  replace lt_v := Nat.lt_trans lt_v (show v23.heap.size < (v23.alloc (.cells #[.int .i64 k, .int .i64 n, .int .i64 ix, .int .u64 0, .string ⟨#[]⟩, .slice A_oth n_oth c_oth] 35)).heap.size by simp)
  replace hb_one := Lib.hid ((Below.heap_alloc v23 (.cells #[.int .i64 k, .int .i64 n, .int .i64 ix, .int .u64 0, .string ⟨#[]⟩, .slice A_oth n_oth c_oth] 35) _ lt_one).trans hb_one.out)
  replace lt_one := Nat.lt_trans lt_one (show v23.heap.size < (v23.alloc (.cells #[.int .i64 k, .int .i64 n, .int .i64 ix, .int .u64 0, .string ⟨#[]⟩, .slice A_oth n_oth c_oth] 35)).heap.size by simp)
  replace hb_two := Lib.hid ((Below.heap_alloc v23 (.cells #[.int .i64 k, .int .i64 n, .int .i64 ix, .int .u64 0, .string ⟨#[]⟩, .slice A_oth n_oth c_oth] 35) _ lt_two).trans hb_two.out)
  replace lt_two := Nat.lt_trans lt_two (show v23.heap.size < (v23.alloc (.cells #[.int .i64 k, .int .i64 n, .int .i64 ix, .int .u64 0, .string ⟨#[]⟩, .slice A_oth n_oth c_oth] 35)).heap.size by simp)
  replace hl_r := Lib.hid (hl_r.out.to (w' := (v23.alloc (.cells #[.int .i64 k, .int .i64 n, .int .i64 ix, .int .u64 0, .string ⟨#[]⟩, .slice A_oth n_oth c_oth] 35))) (T := (MidV w.heap.size v1.heap.size)) (fun b hb => ⟨hb, Below.heap_alloc v23 (.cells #[.int .i64 k, .int .i64 n, .int .i64 ix, .int .u64 0, .string ⟨#[]⟩, .slice A_oth n_oth c_oth] 35) b (lr_r.out b hb)⟩))
  replace lr_r := Lib.hid (show ∀ b, (MidV w.heap.size v1.heap.size) b → b < (v23.alloc (.cells #[.int .i64 k, .int .i64 n, .int .i64 ix, .int .u64 0, .string ⟨#[]⟩, .slice A_oth n_oth c_oth] 35)).heap.size from fun b hb => Nat.lt_trans (lr_r.out b hb) (by simp))
  replace hl_a := Lib.hid (hl_a.out.to (w' := (v23.alloc (.cells #[.int .i64 k, .int .i64 n, .int .i64 ix, .int .u64 0, .string ⟨#[]⟩, .slice A_oth n_oth c_oth] 35))) (T := (MidV v3.heap.size v4.heap.size)) (fun b hb => ⟨hb, Below.heap_alloc v23 (.cells #[.int .i64 k, .int .i64 n, .int .i64 ix, .int .u64 0, .string ⟨#[]⟩, .slice A_oth n_oth c_oth] 35) b (lr_a.out b hb)⟩))
  replace lr_a := Lib.hid (show ∀ b, (MidV v3.heap.size v4.heap.size) b → b < (v23.alloc (.cells #[.int .i64 k, .int .i64 n, .int .i64 ix, .int .u64 0, .string ⟨#[]⟩, .slice A_oth n_oth c_oth] 35)).heap.size from fun b hb => Nat.lt_trans (lr_a.out b hb) (by simp))
  replace hl_u := Lib.hid (hl_u.out.to (w' := (v23.alloc (.cells #[.int .i64 k, .int .i64 n, .int .i64 ix, .int .u64 0, .string ⟨#[]⟩, .slice A_oth n_oth c_oth] 35))) (T := (MidV v8.heap.size v9.heap.size)) (fun b hb => ⟨hb, Below.heap_alloc v23 (.cells #[.int .i64 k, .int .i64 n, .int .i64 ix, .int .u64 0, .string ⟨#[]⟩, .slice A_oth n_oth c_oth] 35) b (lr_u.out b hb)⟩))
  replace lr_u := Lib.hid (show ∀ b, (MidV v8.heap.size v9.heap.size) b → b < (v23.alloc (.cells #[.int .i64 k, .int .i64 n, .int .i64 ix, .int .u64 0, .string ⟨#[]⟩, .slice A_oth n_oth c_oth] 35)).heap.size from fun b hb => Nat.lt_trans (lr_u.out b hb) (by simp))
  replace hl_v := Lib.hid (hl_v.out.to (w' := (v23.alloc (.cells #[.int .i64 k, .int .i64 n, .int .i64 ix, .int .u64 0, .string ⟨#[]⟩, .slice A_oth n_oth c_oth] 35))) (T := (MidV v13.heap.size v14.heap.size)) (fun b hb => ⟨hb, Below.heap_alloc v23 (.cells #[.int .i64 k, .int .i64 n, .int .i64 ix, .int .u64 0, .string ⟨#[]⟩, .slice A_oth n_oth c_oth] 35) b (lr_v.out b hb)⟩))
  replace lr_v := Lib.hid (show ∀ b, (MidV v13.heap.size v14.heap.size) b → b < (v23.alloc (.cells #[.int .i64 k, .int .i64 n, .int .i64 ix, .int .u64 0, .string ⟨#[]⟩, .slice A_oth n_oth c_oth] 35)).heap.size from fun b hb => Nat.lt_trans (lr_v.out b hb) (by simp))
  replace hl_one := Lib.hid (hl_one.out.to (w' := (v23.alloc (.cells #[.int .i64 k, .int .i64 n, .int .i64 ix, .int .u64 0, .string ⟨#[]⟩, .slice A_oth n_oth c_oth] 35))) (T := (MidV v16.heap.size v17.heap.size)) (fun b hb => ⟨hb, Below.heap_alloc v23 (.cells #[.int .i64 k, .int .i64 n, .int .i64 ix, .int .u64 0, .string ⟨#[]⟩, .slice A_oth n_oth c_oth] 35) b (lr_one.out b hb)⟩))
  replace lr_one := Lib.hid (show ∀ b, (MidV v16.heap.size v17.heap.size) b → b < (v23.alloc (.cells #[.int .i64 k, .int .i64 n, .int .i64 ix, .int .u64 0, .string ⟨#[]⟩, .slice A_oth n_oth c_oth] 35)).heap.size from fun b hb => Nat.lt_trans (lr_one.out b hb) (by simp))
  replace hl_two := Lib.hid (hl_two.out.to (w' := (v23.alloc (.cells #[.int .i64 k, .int .i64 n, .int .i64 ix, .int .u64 0, .string ⟨#[]⟩, .slice A_oth n_oth c_oth] 35))) (T := (MidV v19.heap.size v20.heap.size)) (fun b hb => ⟨hb, Below.heap_alloc v23 (.cells #[.int .i64 k, .int .i64 n, .int .i64 ix, .int .u64 0, .string ⟨#[]⟩, .slice A_oth n_oth c_oth] 35) b (lr_two.out b hb)⟩))
  replace lr_two := Lib.hid (show ∀ b, (MidV v19.heap.size v20.heap.size) b → b < (v23.alloc (.cells #[.int .i64 k, .int .i64 n, .int .i64 ix, .int .u64 0, .string ⟨#[]⟩, .slice A_oth n_oth c_oth] 35)).heap.size from fun b hb => Nat.lt_trans (lr_two.out b hb) (by simp))
  replace hl_oth := Lib.hid (hl_oth.out.to (w' := (v23.alloc (.cells #[.int .i64 k, .int .i64 n, .int .i64 ix, .int .u64 0, .string ⟨#[]⟩, .slice A_oth n_oth c_oth] 35))) (T := (MidV v22.heap.size v23.heap.size)) (fun b hb => ⟨hb, Below.heap_alloc v23 (.cells #[.int .i64 k, .int .i64 n, .int .i64 ix, .int .u64 0, .string ⟨#[]⟩, .slice A_oth n_oth c_oth] 35) b (lr_oth.out b hb)⟩))
  replace lr_oth := Lib.hid (show ∀ b, (MidV v22.heap.size v23.heap.size) b → b < (v23.alloc (.cells #[.int .i64 k, .int .i64 n, .int .i64 ix, .int .u64 0, .string ⟨#[]⟩, .slice A_oth n_oth c_oth] 35)).heap.size from fun b hb => Nat.lt_trans (lr_oth.out b hb) (by simp))
  have hb_oth := Lib.hid (heap_alloc_new_at v23 (.cells #[.int .i64 k, .int .i64 n, .int .i64 ix, .int .u64 0, .string ⟨#[]⟩, .slice A_oth n_oth c_oth] 35) (n := v23.heap.size) (by simp))
  have lt_oth : v23.heap.size < (v23.alloc (.cells #[.int .i64 k, .int .i64 n, .int .i64 ix, .int .u64 0, .string ⟨#[]⟩, .slice A_oth n_oth c_oth] 35)).heap.size := by simp
  replace hB := hB.alloc hB.size (.cells #[.int .i64 k, .int .i64 n, .int .i64 ix, .int .u64 0, .string ⟨#[]⟩, .slice A_oth n_oth c_oth] 35)
  obtain ⟨c_oth0, c_oth1, c_oth2, c_oth3, c_oth4, c_oth5⟩ := six hb_oth.out
  obtain ⟨c_u0, c_u1, c_u2, c_u3, c_u4, c_u5⟩ := six hb_u.out
  go_wp2_with fail
  clear c_oth0 c_oth1 c_oth2 c_oth3 c_oth4 c_oth5
  clear c_u0 c_u1 c_u2 c_u3 c_u4 c_u5
  generalize (v23.alloc (.cells #[.int .i64 k, .int .i64 n, .int .i64 ix, .int .u64 0, .string ⟨#[]⟩, .slice A_oth n_oth c_oth] 35)) = v25 at *
  have hf := sto_fine (i := (x : Int)) Hk.out hval_oth.out hel_u.out (Int.not_lt.2 HIx.out)
  have hS := vStore_any ⟨k, n, ix, 0, .empty, p_oth⟩ ⟨e, n, 0, u_u, s_u, []⟩ _ _ (x : Int) v25 (hl_oth.out.to (T := LoV v25.heap.size) (fun b hb => ⟨lr_oth.out b hb, rfl⟩)) (hl_u.out.to (T := LoV v25.heap.size) (fun b hb => ⟨lr_u.out b hb, rfl⟩)) U8x.out
  rw [hf.1, hf.2.1] at hS
  obtain ⟨p_trn, hp⟩ : ∃ p, p = putE (x : Int) u_u s_u p_oth := ⟨_, rfl⟩
  have hval_trn := Lib.hid (hf.2.2)
  simp only at hS hval_trn
  rw [← hp] at hS hval_trn
  have HP_trn := Lib.hid hp
  clear hp hf
  refine Calls.mono (hS) ?_
  rintro e v26 ⟨vv, rfl, hvv, hw⟩
  replace hb_r := Lib.hid ((hw.block _ lt_r).trans hb_r.out)
  replace lt_r := Nat.lt_of_lt_of_le lt_r hw.size
  replace hb_a := Lib.hid ((hw.block _ lt_a).trans hb_a.out)
  replace lt_a := Nat.lt_of_lt_of_le lt_a hw.size
  replace hb_u := Lib.hid ((hw.block _ lt_u).trans hb_u.out)
  replace lt_u := Nat.lt_of_lt_of_le lt_u hw.size
  replace hb_v := Lib.hid ((hw.block _ lt_v).trans hb_v.out)
  replace lt_v := Nat.lt_of_lt_of_le lt_v hw.size
  replace hb_one := Lib.hid ((hw.block _ lt_one).trans hb_one.out)
  replace lt_one := Nat.lt_of_lt_of_le lt_one hw.size
  replace hb_two := Lib.hid ((hw.block _ lt_two).trans hb_two.out)
  replace lt_two := Nat.lt_of_lt_of_le lt_two hw.size
  replace hb_oth := Lib.hid ((hw.block _ lt_oth).trans hb_oth.out)
  replace lt_oth := Nat.lt_of_lt_of_le lt_oth hw.size
  replace hl_r := Lib.hid (hl_r.out.to (w' := v26) (T := (MidV w.heap.size v1.heap.size)) (fun b hb => ⟨hb, hw.block b (lr_r.out b hb)⟩))
  replace lr_r := Lib.hid (show ∀ b, (MidV w.heap.size v1.heap.size) b → b < v26.heap.size from fun b hb => Nat.lt_of_lt_of_le (lr_r.out b hb) hw.size)
  replace hl_a := Lib.hid (hl_a.out.to (w' := v26) (T := (MidV v3.heap.size v4.heap.size)) (fun b hb => ⟨hb, hw.block b (lr_a.out b hb)⟩))
  replace lr_a := Lib.hid (show ∀ b, (MidV v3.heap.size v4.heap.size) b → b < v26.heap.size from fun b hb => Nat.lt_of_lt_of_le (lr_a.out b hb) hw.size)
  replace hl_u := Lib.hid (hl_u.out.to (w' := v26) (T := (MidV v8.heap.size v9.heap.size)) (fun b hb => ⟨hb, hw.block b (lr_u.out b hb)⟩))
  replace lr_u := Lib.hid (show ∀ b, (MidV v8.heap.size v9.heap.size) b → b < v26.heap.size from fun b hb => Nat.lt_of_lt_of_le (lr_u.out b hb) hw.size)
  replace hl_v := Lib.hid (hl_v.out.to (w' := v26) (T := (MidV v13.heap.size v14.heap.size)) (fun b hb => ⟨hb, hw.block b (lr_v.out b hb)⟩))
  replace lr_v := Lib.hid (show ∀ b, (MidV v13.heap.size v14.heap.size) b → b < v26.heap.size from fun b hb => Nat.lt_of_lt_of_le (lr_v.out b hb) hw.size)
  replace hl_one := Lib.hid (hl_one.out.to (w' := v26) (T := (MidV v16.heap.size v17.heap.size)) (fun b hb => ⟨hb, hw.block b (lr_one.out b hb)⟩))
  replace lr_one := Lib.hid (show ∀ b, (MidV v16.heap.size v17.heap.size) b → b < v26.heap.size from fun b hb => Nat.lt_of_lt_of_le (lr_one.out b hb) hw.size)
  replace hl_two := Lib.hid (hl_two.out.to (w' := v26) (T := (MidV v19.heap.size v20.heap.size)) (fun b hb => ⟨hb, hw.block b (lr_two.out b hb)⟩))
  replace lr_two := Lib.hid (show ∀ b, (MidV v19.heap.size v20.heap.size) b → b < v26.heap.size from fun b hb => Nat.lt_of_lt_of_le (lr_two.out b hb) hw.size)
  replace hl_oth := Lib.hid (hl_oth.out.to (w' := v26) (T := (MidV v22.heap.size v23.heap.size)) (fun b hb => ⟨hb, hw.block b (lr_oth.out b hb)⟩))
  replace lr_oth := Lib.hid (show ∀ b, (MidV v22.heap.size v23.heap.size) b → b < v26.heap.size from fun b hb => Nat.lt_of_lt_of_le (lr_oth.out b hb) hw.size)
  replace hB := hB.trans (hw.mono hB.size)
  clear hS
  obtain ⟨A_trn, n_trn, c_trn, hve⟩ := hvv.shape
  have hve2 : vv = .agg #[.int .i64 k, .int .i64 n, .int .i64 ix, .int .u64 0, .string ⟨#[]⟩, .slice A_trn n_trn c_trn] := hve
  subst hve2
  clear hve
  have hl_trn := Lib.hid hvv
  clear hvv
  have lr_trn := Lib.hid (show ∀ b, (MidV v25.heap.size v26.heap.size) b → b < v26.heap.size from fun b hb => hb.2)
  have bs_trn := Lib.hid (show w.heap.size ≤ v26.heap.size from (by have h := hB.size; first | omega | (simp at h; omega)))
  have or_r_trn := Lib.hid (show v1.heap.size < v26.heap.size from (by have h := lt_r; first | omega | (simp at h; omega)))
  have or_a_trn := Lib.hid (show v4.heap.size < v26.heap.size from (by have h := lt_a; first | omega | (simp at h; omega)))
  have or_u_trn := Lib.hid (show v9.heap.size < v26.heap.size from (by have h := lt_u; first | omega | (simp at h; omega)))
  have or_v_trn := Lib.hid (show v14.heap.size < v26.heap.size from (by have h := lt_v; first | omega | (simp at h; omega)))
  have or_one_trn := Lib.hid (show v17.heap.size < v26.heap.size from (by have h := lt_one; first | omega | (simp at h; omega)))
  have or_two_trn := Lib.hid (show v20.heap.size < v26.heap.size from (by have h := lt_two; first | omega | (simp at h; omega)))
  have or_oth_trn := Lib.hid (show v23.heap.size < v26.heap.size from (by have h := lt_oth; first | omega | (simp at h; omega)))
  replace hb_r := Lib.hid ((Below.heap_alloc v26 (.cells #[.int .i64 k, .int .i64 n, .int .i64 ix, .int .u64 0, .string ⟨#[]⟩, .slice A_trn n_trn c_trn] 35) _ lt_r).trans hb_r.out)
  replace lt_r := Nat.lt_trans lt_r (show v26.heap.size < (v26.alloc (.cells #[.int .i64 k, .int .i64 n, .int .i64 ix, .int .u64 0, .string ⟨#[]⟩, .slice A_trn n_trn c_trn] 35)).heap.size by simp)
  replace hb_a := Lib.hid ((Below.heap_alloc v26 (.cells #[.int .i64 k, .int .i64 n, .int .i64 ix, .int .u64 0, .string ⟨#[]⟩, .slice A_trn n_trn c_trn] 35) _ lt_a).trans hb_a.out)
  replace lt_a := Nat.lt_trans lt_a (show v26.heap.size < (v26.alloc (.cells #[.int .i64 k, .int .i64 n, .int .i64 ix, .int .u64 0, .string ⟨#[]⟩, .slice A_trn n_trn c_trn] 35)).heap.size by simp)
  replace hb_u := Lib.hid ((Below.heap_alloc v26 (.cells #[.int .i64 k, .int .i64 n, .int .i64 ix, .int .u64 0, .string ⟨#[]⟩, .slice A_trn n_trn c_trn] 35) _ lt_u).trans hb_u.out)
  replace lt_u := Nat.lt_trans lt_u (show v26.heap.size < (v26.alloc (.cells #[.int .i64 k, .int .i64 n, .int .i64 ix, .int .u64 0, .string ⟨#[]⟩, .slice A_trn n_trn c_trn] 35)).heap.size by simp)
  replace hb_v := Lib.hid ((Below.heap_alloc v26 (.cells #[.int .i64 k, .int .i64 n, .int .i64 ix, .int .u64 0, .string ⟨#[]⟩, .slice A_trn n_trn c_trn] 35) _ lt_v).trans hb_v.out)
  replace lt_v := Nat.lt_trans lt_v (show v26.heap.size < (v26.alloc (.cells #[.int .i64 k, .int .i64 n, .int .i64 ix, .int .u64 0, .string ⟨#[]⟩, .slice A_trn n_trn c_trn] 35)).heap.size by simp)
  replace hb_one := Lib.hid ((Below.heap_alloc v26 (.cells #[.int .i64 k, .int .i64 n, .int .i64 ix, .int .u64 0, .string ⟨#[]⟩, .slice A_trn n_trn c_trn] 35) _ lt_one).trans hb_one.out)
  replace lt_one := Nat.lt_trans lt_one (show v26.heap.size < (v26.alloc (.cells #[.int .i64 k, .int .i64 n, .int .i64 ix, .int .u64 0, .string ⟨#[]⟩, .slice A_trn n_trn c_trn] 35)).heap.size by simp)
  replace hb_two := Lib.hid ((Below.heap_alloc v26 (.cells #[.int .i64 k, .int .i64 n, .int .i64 ix, .int .u64 0, .string ⟨#[]⟩, .slice A_trn n_trn c_trn] 35) _ lt_two).trans hb_two.out)
  replace lt_two := Nat.lt_trans lt_two (show v26.heap.size < (v26.alloc (.cells #[.int .i64 k, .int .i64 n, .int .i64 ix, .int .u64 0, .string ⟨#[]⟩, .slice A_trn n_trn c_trn] 35)).heap.size by simp)
  replace hb_oth := Lib.hid ((Below.heap_alloc v26 (.cells #[.int .i64 k, .int .i64 n, .int .i64 ix, .int .u64 0, .string ⟨#[]⟩, .slice A_trn n_trn c_trn] 35) _ lt_oth).trans hb_oth.out)
  replace lt_oth := Nat.lt_trans lt_oth (show v26.heap.size < (v26.alloc (.cells #[.int .i64 k, .int .i64 n, .int .i64 ix, .int .u64 0, .string ⟨#[]⟩, .slice A_trn n_trn c_trn] 35)).heap.size by simp)
  replace hl_r := Lib.hid (hl_r.out.to (w' := (v26.alloc (.cells #[.int .i64 k, .int .i64 n, .int .i64 ix, .int .u64 0, .string ⟨#[]⟩, .slice A_trn n_trn c_trn] 35))) (T := (MidV w.heap.size v1.heap.size)) (fun b hb => ⟨hb, Below.heap_alloc v26 (.cells #[.int .i64 k, .int .i64 n, .int .i64 ix, .int .u64 0, .string ⟨#[]⟩, .slice A_trn n_trn c_trn] 35) b (lr_r.out b hb)⟩))
  replace lr_r := Lib.hid (show ∀ b, (MidV w.heap.size v1.heap.size) b → b < (v26.alloc (.cells #[.int .i64 k, .int .i64 n, .int .i64 ix, .int .u64 0, .string ⟨#[]⟩, .slice A_trn n_trn c_trn] 35)).heap.size from fun b hb => Nat.lt_trans (lr_r.out b hb) (by simp))
  replace hl_a := Lib.hid (hl_a.out.to (w' := (v26.alloc (.cells #[.int .i64 k, .int .i64 n, .int .i64 ix, .int .u64 0, .string ⟨#[]⟩, .slice A_trn n_trn c_trn] 35))) (T := (MidV v3.heap.size v4.heap.size)) (fun b hb => ⟨hb, Below.heap_alloc v26 (.cells #[.int .i64 k, .int .i64 n, .int .i64 ix, .int .u64 0, .string ⟨#[]⟩, .slice A_trn n_trn c_trn] 35) b (lr_a.out b hb)⟩))
  replace lr_a := Lib.hid (show ∀ b, (MidV v3.heap.size v4.heap.size) b → b < (v26.alloc (.cells #[.int .i64 k, .int .i64 n, .int .i64 ix, .int .u64 0, .string ⟨#[]⟩, .slice A_trn n_trn c_trn] 35)).heap.size from fun b hb => Nat.lt_trans (lr_a.out b hb) (by simp))
  replace hl_u := Lib.hid (hl_u.out.to (w' := (v26.alloc (.cells #[.int .i64 k, .int .i64 n, .int .i64 ix, .int .u64 0, .string ⟨#[]⟩, .slice A_trn n_trn c_trn] 35))) (T := (MidV v8.heap.size v9.heap.size)) (fun b hb => ⟨hb, Below.heap_alloc v26 (.cells #[.int .i64 k, .int .i64 n, .int .i64 ix, .int .u64 0, .string ⟨#[]⟩, .slice A_trn n_trn c_trn] 35) b (lr_u.out b hb)⟩))
  replace lr_u := Lib.hid (show ∀ b, (MidV v8.heap.size v9.heap.size) b → b < (v26.alloc (.cells #[.int .i64 k, .int .i64 n, .int .i64 ix, .int .u64 0, .string ⟨#[]⟩, .slice A_trn n_trn c_trn] 35)).heap.size from fun b hb => Nat.lt_trans (lr_u.out b hb) (by simp))
  replace hl_v := Lib.hid (hl_v.out.to (w' := (v26.alloc (.cells #[.int .i64 k, .int .i64 n, .int .i64 ix, .int .u64 0, .string ⟨#[]⟩, .slice A_trn n_trn c_trn] 35))) (T := (MidV v13.heap.size v14.heap.size)) (fun b hb => ⟨hb, Below.heap_alloc v26 (.cells #[.int .i64 k, .int .i64 n, .int .i64 ix, .int .u64 0, .string ⟨#[]⟩, .slice A_trn n_trn c_trn] 35) b (lr_v.out b hb)⟩))
  replace lr_v := Lib.hid (show ∀ b, (MidV v13.heap.size v14.heap.size) b → b < (v26.alloc (.cells #[.int .i64 k, .int .i64 n, .int .i64 ix, .int .u64 0, .string ⟨#[]⟩, .slice A_trn n_trn c_trn] 35)).heap.size from fun b hb => Nat.lt_trans (lr_v.out b hb) (by simp))
  replace hl_one := Lib.hid (hl_one.out.to (w' := (v26.alloc (.cells #[.int .i64 k, .int .i64 n, .int .i64 ix, .int .u64 0, .string ⟨#[]⟩, .slice A_trn n_trn c_trn] 35))) (T := (MidV v16.heap.size v17.heap.size)) (fun b hb => ⟨hb, Below.heap_alloc v26 (.cells #[.int .i64 k, .int .i64 n, .int .i64 ix, .int .u64 0, .string ⟨#[]⟩, .slice A_trn n_trn c_trn] 35) b (lr_one.out b hb)⟩))
  replace lr_one := Lib.hid (show ∀ b, (MidV v16.heap.size v17.heap.size) b → b < (v26.alloc (.cells #[.int .i64 k, .int .i64 n, .int .i64 ix, .int .u64 0, .string ⟨#[]⟩, .slice A_trn n_trn c_trn] 35)).heap.size from fun b hb => Nat.lt_trans (lr_one.out b hb) (by simp))
  replace hl_two := Lib.hid (hl_two.out.to (w' := (v26.alloc (.cells #[.int .i64 k, .int .i64 n, .int .i64 ix, .int .u64 0, .string ⟨#[]⟩, .slice A_trn n_trn c_trn] 35))) (T := (MidV v19.heap.size v20.heap.size)) (fun b hb => ⟨hb, Below.heap_alloc v26 (.cells #[.int .i64 k, .int .i64 n, .int .i64 ix, .int .u64 0, .string ⟨#[]⟩, .slice A_trn n_trn c_trn] 35) b (lr_two.out b hb)⟩))
  replace lr_two := Lib.hid (show ∀ b, (MidV v19.heap.size v20.heap.size) b → b < (v26.alloc (.cells #[.int .i64 k, .int .i64 n, .int .i64 ix, .int .u64 0, .string ⟨#[]⟩, .slice A_trn n_trn c_trn] 35)).heap.size from fun b hb => Nat.lt_trans (lr_two.out b hb) (by simp))
  replace hl_oth := Lib.hid (hl_oth.out.to (w' := (v26.alloc (.cells #[.int .i64 k, .int .i64 n, .int .i64 ix, .int .u64 0, .string ⟨#[]⟩, .slice A_trn n_trn c_trn] 35))) (T := (MidV v22.heap.size v23.heap.size)) (fun b hb => ⟨hb, Below.heap_alloc v26 (.cells #[.int .i64 k, .int .i64 n, .int .i64 ix, .int .u64 0, .string ⟨#[]⟩, .slice A_trn n_trn c_trn] 35) b (lr_oth.out b hb)⟩))
  replace lr_oth := Lib.hid (show ∀ b, (MidV v22.heap.size v23.heap.size) b → b < (v26.alloc (.cells #[.int .i64 k, .int .i64 n, .int .i64 ix, .int .u64 0, .string ⟨#[]⟩, .slice A_trn n_trn c_trn] 35)).heap.size from fun b hb => Nat.lt_trans (lr_oth.out b hb) (by simp))
  replace hl_trn := Lib.hid (hl_trn.out.to (w' := (v26.alloc (.cells #[.int .i64 k, .int .i64 n, .int .i64 ix, .int .u64 0, .string ⟨#[]⟩, .slice A_trn n_trn c_trn] 35))) (T := (MidV v25.heap.size v26.heap.size)) (fun b hb => ⟨hb, Below.heap_alloc v26 (.cells #[.int .i64 k, .int .i64 n, .int .i64 ix, .int .u64 0, .string ⟨#[]⟩, .slice A_trn n_trn c_trn] 35) b (lr_trn.out b hb)⟩))
  replace lr_trn := Lib.hid (show ∀ b, (MidV v25.heap.size v26.heap.size) b → b < (v26.alloc (.cells #[.int .i64 k, .int .i64 n, .int .i64 ix, .int .u64 0, .string ⟨#[]⟩, .slice A_trn n_trn c_trn] 35)).heap.size from fun b hb => Nat.lt_trans (lr_trn.out b hb) (by simp))
  have hb_trn := Lib.hid (heap_alloc_new_at v26 (.cells #[.int .i64 k, .int .i64 n, .int .i64 ix, .int .u64 0, .string ⟨#[]⟩, .slice A_trn n_trn c_trn] 35) (n := v26.heap.size) (by simp))
  have lt_trn : v26.heap.size < (v26.alloc (.cells #[.int .i64 k, .int .i64 n, .int .i64 ix, .int .u64 0, .string ⟨#[]⟩, .slice A_trn n_trn c_trn] 35)).heap.size := by simp
  replace hB := hB.alloc hB.size (.cells #[.int .i64 k, .int .i64 n, .int .i64 ix, .int .u64 0, .string ⟨#[]⟩, .slice A_trn n_trn c_trn] 35)
  obtain ⟨c_trn0, c_trn1, c_trn2, c_trn3, c_trn4, c_trn5⟩ := six hb_trn.out
  obtain ⟨c_a0, c_a1, c_a2, c_a3, c_a4, c_a5⟩ := six hb_a.out
  go_wp2_with fail
  clear c_trn0 c_trn1 c_trn2 c_trn3 c_trn4 c_trn5
  clear c_a0 c_a1 c_a2 c_a3 c_a4 c_a5
  generalize (v26.alloc (.cells #[.int .i64 k, .int .i64 n, .int .i64 ix, .int .u64 0, .string ⟨#[]⟩, .slice A_trn n_trn c_trn] 35)) = v28 at *
  have hf := sel_fine (i := (x : Int)) Hk.out hval_a.out (Int.not_lt.2 HIx.out)
  have hS := vSelect_any ⟨k, n, ix, 0, .empty, m⟩ _ (x : Int) v28 (hl_a.out.to (T := LoV v28.heap.size) (fun b hb => ⟨lr_a.out b hb, rfl⟩))
  rw [hf.1, hf.2.1] at hS
  obtain ⟨u_o, huo⟩ : ∃ u, u = (atE (x : Int) m).u := ⟨_, rfl⟩
  obtain ⟨s_o, hso⟩ : ∃ s, s = (atE (x : Int) m).s := ⟨_, rfl⟩
  have hel_o := hf.2.2
  rw [← huo, ← hso] at hS hel_o
  have HUO := Lib.hid (And.intro huo hso)
  simp only [vav] at hS
  rw [← HE.out] at hS hel_o
  replace hel_o := Lib.hid hel_o
  clear huo hso hf
  refine Calls.mono (hS) ?_
  rintro e v29 ⟨rfl, hw⟩
  replace hb_r := Lib.hid ((hw.block _ lt_r).trans hb_r.out)
  replace lt_r := Nat.lt_of_lt_of_le lt_r hw.size
  replace hb_a := Lib.hid ((hw.block _ lt_a).trans hb_a.out)
  replace lt_a := Nat.lt_of_lt_of_le lt_a hw.size
  replace hb_u := Lib.hid ((hw.block _ lt_u).trans hb_u.out)
  replace lt_u := Nat.lt_of_lt_of_le lt_u hw.size
  replace hb_v := Lib.hid ((hw.block _ lt_v).trans hb_v.out)
  replace lt_v := Nat.lt_of_lt_of_le lt_v hw.size
  replace hb_one := Lib.hid ((hw.block _ lt_one).trans hb_one.out)
  replace lt_one := Nat.lt_of_lt_of_le lt_one hw.size
  replace hb_two := Lib.hid ((hw.block _ lt_two).trans hb_two.out)
  replace lt_two := Nat.lt_of_lt_of_le lt_two hw.size
  replace hb_oth := Lib.hid ((hw.block _ lt_oth).trans hb_oth.out)
  replace lt_oth := Nat.lt_of_lt_of_le lt_oth hw.size
  replace hb_trn := Lib.hid ((hw.block _ lt_trn).trans hb_trn.out)
  replace lt_trn := Nat.lt_of_lt_of_le lt_trn hw.size
  replace hl_r := Lib.hid (hl_r.out.to (w' := v29) (T := (MidV w.heap.size v1.heap.size)) (fun b hb => ⟨hb, hw.block b (lr_r.out b hb)⟩))
  replace lr_r := Lib.hid (show ∀ b, (MidV w.heap.size v1.heap.size) b → b < v29.heap.size from fun b hb => Nat.lt_of_lt_of_le (lr_r.out b hb) hw.size)
  replace hl_a := Lib.hid (hl_a.out.to (w' := v29) (T := (MidV v3.heap.size v4.heap.size)) (fun b hb => ⟨hb, hw.block b (lr_a.out b hb)⟩))
  replace lr_a := Lib.hid (show ∀ b, (MidV v3.heap.size v4.heap.size) b → b < v29.heap.size from fun b hb => Nat.lt_of_lt_of_le (lr_a.out b hb) hw.size)
  replace hl_u := Lib.hid (hl_u.out.to (w' := v29) (T := (MidV v8.heap.size v9.heap.size)) (fun b hb => ⟨hb, hw.block b (lr_u.out b hb)⟩))
  replace lr_u := Lib.hid (show ∀ b, (MidV v8.heap.size v9.heap.size) b → b < v29.heap.size from fun b hb => Nat.lt_of_lt_of_le (lr_u.out b hb) hw.size)
  replace hl_v := Lib.hid (hl_v.out.to (w' := v29) (T := (MidV v13.heap.size v14.heap.size)) (fun b hb => ⟨hb, hw.block b (lr_v.out b hb)⟩))
  replace lr_v := Lib.hid (show ∀ b, (MidV v13.heap.size v14.heap.size) b → b < v29.heap.size from fun b hb => Nat.lt_of_lt_of_le (lr_v.out b hb) hw.size)
  replace hl_one := Lib.hid (hl_one.out.to (w' := v29) (T := (MidV v16.heap.size v17.heap.size)) (fun b hb => ⟨hb, hw.block b (lr_one.out b hb)⟩))
  replace lr_one := Lib.hid (show ∀ b, (MidV v16.heap.size v17.heap.size) b → b < v29.heap.size from fun b hb => Nat.lt_of_lt_of_le (lr_one.out b hb) hw.size)
  replace hl_two := Lib.hid (hl_two.out.to (w' := v29) (T := (MidV v19.heap.size v20.heap.size)) (fun b hb => ⟨hb, hw.block b (lr_two.out b hb)⟩))
  replace lr_two := Lib.hid (show ∀ b, (MidV v19.heap.size v20.heap.size) b → b < v29.heap.size from fun b hb => Nat.lt_of_lt_of_le (lr_two.out b hb) hw.size)
  replace hl_oth := Lib.hid (hl_oth.out.to (w' := v29) (T := (MidV v22.heap.size v23.heap.size)) (fun b hb => ⟨hb, hw.block b (lr_oth.out b hb)⟩))
  replace lr_oth := Lib.hid (show ∀ b, (MidV v22.heap.size v23.heap.size) b → b < v29.heap.size from fun b hb => Nat.lt_of_lt_of_le (lr_oth.out b hb) hw.size)
  replace hl_trn := Lib.hid (hl_trn.out.to (w' := v29) (T := (MidV v25.heap.size v26.heap.size)) (fun b hb => ⟨hb, hw.block b (lr_trn.out b hb)⟩))
  replace lr_trn := Lib.hid (show ∀ b, (MidV v25.heap.size v26.heap.size) b → b < v29.heap.size from fun b hb => Nat.lt_of_lt_of_le (lr_trn.out b hb) hw.size)
  replace hB := hB.trans (hw.mono hB.size)
  clear hS
  have bs_old := Lib.hid (show w.heap.size ≤ v29.heap.size from (by have h := hB.size; first | omega | (simp at h; omega)))
  have or_r_old := Lib.hid (show v1.heap.size < v29.heap.size from (by have h := lt_r; first | omega | (simp at h; omega)))
  have or_a_old := Lib.hid (show v4.heap.size < v29.heap.size from (by have h := lt_a; first | omega | (simp at h; omega)))
  have or_u_old := Lib.hid (show v9.heap.size < v29.heap.size from (by have h := lt_u; first | omega | (simp at h; omega)))
  have or_v_old := Lib.hid (show v14.heap.size < v29.heap.size from (by have h := lt_v; first | omega | (simp at h; omega)))
  have or_one_old := Lib.hid (show v17.heap.size < v29.heap.size from (by have h := lt_one; first | omega | (simp at h; omega)))
  have or_two_old := Lib.hid (show v20.heap.size < v29.heap.size from (by have h := lt_two; first | omega | (simp at h; omega)))
  have or_oth_old := Lib.hid (show v23.heap.size < v29.heap.size from (by have h := lt_oth; first | omega | (simp at h; omega)))
  have or_trn_old := Lib.hid (show v26.heap.size < v29.heap.size from (by have h := lt_trn; first | omega | (simp at h; omega)))
  replace hb_r := Lib.hid ((Below.heap_alloc v29 (.cells #[.int .i64 e, .int .i64 n, .int .i64 0, .int .u64 u_o, .string s_o, .slice none 0 0] 35) _ lt_r).trans hb_r.out)
  replace lt_r := Nat.lt_trans lt_r (show v29.heap.size < (v29.alloc (.cells #[.int .i64 e, .int .i64 n, .int .i64 0, .int .u64 u_o, .string s_o, .slice none 0 0] 35)).heap.size by simp)
  replace hb_a := Lib.hid ((Below.heap_alloc v29 (.cells #[.int .i64 e, .int .i64 n, .int .i64 0, .int .u64 u_o, .string s_o, .slice none 0 0] 35) _ lt_a).trans hb_a.out)
  replace lt_a := Nat.lt_trans lt_a (show v29.heap.size < (v29.alloc (.cells #[.int .i64 e, .int .i64 n, .int .i64 0, .int .u64 u_o, .string s_o, .slice none 0 0] 35)).heap.size by simp)
  replace hb_u := Lib.hid ((Below.heap_alloc v29 (.cells #[.int .i64 e, .int .i64 n, .int .i64 0, .int .u64 u_o, .string s_o, .slice none 0 0] 35) _ lt_u).trans hb_u.out)
  replace lt_u := Nat.lt_trans lt_u (show v29.heap.size < (v29.alloc (.cells #[.int .i64 e, .int .i64 n, .int .i64 0, .int .u64 u_o, .string s_o, .slice none 0 0] 35)).heap.size by simp)
  replace hb_v := Lib.hid ((Below.heap_alloc v29 (.cells #[.int .i64 e, .int .i64 n, .int .i64 0, .int .u64 u_o, .string s_o, .slice none 0 0] 35) _ lt_v).trans hb_v.out)
  replace lt_v := Nat.lt_trans lt_v (show v29.heap.size < (v29.alloc (.cells #[.int .i64 e, .int .i64 n, .int .i64 0, .int .u64 u_o, .string s_o, .slice none 0 0] 35)).heap.size by simp)
  replace hb_one := Lib.hid ((Below.heap_alloc v29 (.cells #[.int .i64 e, .int .i64 n, .int .i64 0, .int .u64 u_o, .string s_o, .slice none 0 0] 35) _ lt_one).trans hb_one.out)
  replace lt_one := Nat.lt_trans lt_one (show v29.heap.size < (v29.alloc (.cells #[.int .i64 e, .int .i64 n, .int .i64 0, .int .u64 u_o, .string s_o, .slice none 0 0] 35)).heap.size by simp)
  replace hb_two := Lib.hid ((Below.heap_alloc v29 (.cells #[.int .i64 e, .int .i64 n, .int .i64 0, .int .u64 u_o, .string s_o, .slice none 0 0] 35) _ lt_two).trans hb_two.out)
  replace lt_two := Nat.lt_trans lt_two (show v29.heap.size < (v29.alloc (.cells #[.int .i64 e, .int .i64 n, .int .i64 0, .int .u64 u_o, .string s_o, .slice none 0 0] 35)).heap.size by simp)
  replace hb_oth := Lib.hid ((Below.heap_alloc v29 (.cells #[.int .i64 e, .int .i64 n, .int .i64 0, .int .u64 u_o, .string s_o, .slice none 0 0] 35) _ lt_oth).trans hb_oth.out)
  replace lt_oth := Nat.lt_trans lt_oth (show v29.heap.size < (v29.alloc (.cells #[.int .i64 e, .int .i64 n, .int .i64 0, .int .u64 u_o, .string s_o, .slice none 0 0] 35)).heap.size by simp)
  replace hb_trn := Lib.hid ((Below.heap_alloc v29 (.cells #[.int .i64 e, .int .i64 n, .int .i64 0, .int .u64 u_o, .string s_o, .slice none 0 0] 35) _ lt_trn).trans hb_trn.out)
  replace lt_trn := Nat.lt_trans lt_trn (show v29.heap.size < (v29.alloc (.cells #[.int .i64 e, .int .i64 n, .int .i64 0, .int .u64 u_o, .string s_o, .slice none 0 0] 35)).heap.size by simp)
  replace hl_r := Lib.hid (hl_r.out.to (w' := (v29.alloc (.cells #[.int .i64 e, .int .i64 n, .int .i64 0, .int .u64 u_o, .string s_o, .slice none 0 0] 35))) (T := (MidV w.heap.size v1.heap.size)) (fun b hb => ⟨hb, Below.heap_alloc v29 (.cells #[.int .i64 e, .int .i64 n, .int .i64 0, .int .u64 u_o, .string s_o, .slice none 0 0] 35) b (lr_r.out b hb)⟩))
  replace lr_r := Lib.hid (show ∀ b, (MidV w.heap.size v1.heap.size) b → b < (v29.alloc (.cells #[.int .i64 e, .int .i64 n, .int .i64 0, .int .u64 u_o, .string s_o, .slice none 0 0] 35)).heap.size from fun b hb => Nat.lt_trans (lr_r.out b hb) (by simp))
  replace hl_a := Lib.hid (hl_a.out.to (w' := (v29.alloc (.cells #[.int .i64 e, .int .i64 n, .int .i64 0, .int .u64 u_o, .string s_o, .slice none 0 0] 35))) (T := (MidV v3.heap.size v4.heap.size)) (fun b hb => ⟨hb, Below.heap_alloc v29 (.cells #[.int .i64 e, .int .i64 n, .int .i64 0, .int .u64 u_o, .string s_o, .slice none 0 0] 35) b (lr_a.out b hb)⟩))
  replace lr_a := Lib.hid (show ∀ b, (MidV v3.heap.size v4.heap.size) b → b < (v29.alloc (.cells #[.int .i64 e, .int .i64 n, .int .i64 0, .int .u64 u_o, .string s_o, .slice none 0 0] 35)).heap.size from fun b hb => Nat.lt_trans (lr_a.out b hb) (by simp))
  replace hl_u := Lib.hid (hl_u.out.to (w' := (v29.alloc (.cells #[.int .i64 e, .int .i64 n, .int .i64 0, .int .u64 u_o, .string s_o, .slice none 0 0] 35))) (T := (MidV v8.heap.size v9.heap.size)) (fun b hb => ⟨hb, Below.heap_alloc v29 (.cells #[.int .i64 e, .int .i64 n, .int .i64 0, .int .u64 u_o, .string s_o, .slice none 0 0] 35) b (lr_u.out b hb)⟩))
  replace lr_u := Lib.hid (show ∀ b, (MidV v8.heap.size v9.heap.size) b → b < (v29.alloc (.cells #[.int .i64 e, .int .i64 n, .int .i64 0, .int .u64 u_o, .string s_o, .slice none 0 0] 35)).heap.size from fun b hb => Nat.lt_trans (lr_u.out b hb) (by simp))
  replace hl_v := Lib.hid (hl_v.out.to (w' := (v29.alloc (.cells #[.int .i64 e, .int .i64 n, .int .i64 0, .int .u64 u_o, .string s_o, .slice none 0 0] 35))) (T := (MidV v13.heap.size v14.heap.size)) (fun b hb => ⟨hb, Below.heap_alloc v29 (.cells #[.int .i64 e, .int .i64 n, .int .i64 0, .int .u64 u_o, .string s_o, .slice none 0 0] 35) b (lr_v.out b hb)⟩))
  replace lr_v := Lib.hid (show ∀ b, (MidV v13.heap.size v14.heap.size) b → b < (v29.alloc (.cells #[.int .i64 e, .int .i64 n, .int .i64 0, .int .u64 u_o, .string s_o, .slice none 0 0] 35)).heap.size from fun b hb => Nat.lt_trans (lr_v.out b hb) (by simp))
  replace hl_one := Lib.hid (hl_one.out.to (w' := (v29.alloc (.cells #[.int .i64 e, .int .i64 n, .int .i64 0, .int .u64 u_o, .string s_o, .slice none 0 0] 35))) (T := (MidV v16.heap.size v17.heap.size)) (fun b hb => ⟨hb, Below.heap_alloc v29 (.cells #[.int .i64 e, .int .i64 n, .int .i64 0, .int .u64 u_o, .string s_o, .slice none 0 0] 35) b (lr_one.out b hb)⟩))
  replace lr_one := Lib.hid (show ∀ b, (MidV v16.heap.size v17.heap.size) b → b < (v29.alloc (.cells #[.int .i64 e, .int .i64 n, .int .i64 0, .int .u64 u_o, .string s_o, .slice none 0 0] 35)).heap.size from fun b hb => Nat.lt_trans (lr_one.out b hb) (by simp))
  replace hl_two := Lib.hid (hl_two.out.to (w' := (v29.alloc (.cells #[.int .i64 e, .int .i64 n, .int .i64 0, .int .u64 u_o, .string s_o, .slice none 0 0] 35))) (T := (MidV v19.heap.size v20.heap.size)) (fun b hb => ⟨hb, Below.heap_alloc v29 (.cells #[.int .i64 e, .int .i64 n, .int .i64 0, .int .u64 u_o, .string s_o, .slice none 0 0] 35) b (lr_two.out b hb)⟩))
  replace lr_two := Lib.hid (show ∀ b, (MidV v19.heap.size v20.heap.size) b → b < (v29.alloc (.cells #[.int .i64 e, .int .i64 n, .int .i64 0, .int .u64 u_o, .string s_o, .slice none 0 0] 35)).heap.size from fun b hb => Nat.lt_trans (lr_two.out b hb) (by simp))
  replace hl_oth := Lib.hid (hl_oth.out.to (w' := (v29.alloc (.cells #[.int .i64 e, .int .i64 n, .int .i64 0, .int .u64 u_o, .string s_o, .slice none 0 0] 35))) (T := (MidV v22.heap.size v23.heap.size)) (fun b hb => ⟨hb, Below.heap_alloc v29 (.cells #[.int .i64 e, .int .i64 n, .int .i64 0, .int .u64 u_o, .string s_o, .slice none 0 0] 35) b (lr_oth.out b hb)⟩))
  replace lr_oth := Lib.hid (show ∀ b, (MidV v22.heap.size v23.heap.size) b → b < (v29.alloc (.cells #[.int .i64 e, .int .i64 n, .int .i64 0, .int .u64 u_o, .string s_o, .slice none 0 0] 35)).heap.size from fun b hb => Nat.lt_trans (lr_oth.out b hb) (by simp))
  replace hl_trn := Lib.hid (hl_trn.out.to (w' := (v29.alloc (.cells #[.int .i64 e, .int .i64 n, .int .i64 0, .int .u64 u_o, .string s_o, .slice none 0 0] 35))) (T := (MidV v25.heap.size v26.heap.size)) (fun b hb => ⟨hb, Below.heap_alloc v29 (.cells #[.int .i64 e, .int .i64 n, .int .i64 0, .int .u64 u_o, .string s_o, .slice none 0 0] 35) b (lr_trn.out b hb)⟩))
  replace lr_trn := Lib.hid (show ∀ b, (MidV v25.heap.size v26.heap.size) b → b < (v29.alloc (.cells #[.int .i64 e, .int .i64 n, .int .i64 0, .int .u64 u_o, .string s_o, .slice none 0 0] 35)).heap.size from fun b hb => Nat.lt_trans (lr_trn.out b hb) (by simp))
  have hb_old := Lib.hid (heap_alloc_new_at v29 (.cells #[.int .i64 e, .int .i64 n, .int .i64 0, .int .u64 u_o, .string s_o, .slice none 0 0] 35) (n := v29.heap.size) (by simp))
  have lt_old : v29.heap.size < (v29.alloc (.cells #[.int .i64 e, .int .i64 n, .int .i64 0, .int .u64 u_o, .string s_o, .slice none 0 0] 35)).heap.size := by simp
  replace hB := hB.alloc hB.size (.cells #[.int .i64 e, .int .i64 n, .int .i64 0, .int .u64 u_o, .string s_o, .slice none 0 0] 35)
  obtain ⟨c_old0, c_old1, c_old2, c_old3, c_old4, c_old5⟩ := six hb_old.out
  obtain ⟨c_one0, c_one1, c_one2, c_one3, c_one4, c_one5⟩ := six hb_one.out
  go_wp2_with fail
  clear c_old0 c_old1 c_old2 c_old3 c_old4 c_old5
  clear c_one0 c_one1 c_one2 c_one3 c_one4 c_one5
  generalize (v29.alloc (.cells #[.int .i64 e, .int .i64 n, .int .i64 0, .int .u64 u_o, .string s_o, .slice none 0 0] 35)) = v31 at *
  have hmok := hl_a.out.1.2.2.2.1
  simp only at hmok
  have hoo := at_ok hmok (x : Int)
  rw [← HUO.out.1, ← HUO.out.2] at hoo
  have HOO := Lib.hid (el_ok (sort_i64 HES.out) hoo)
  clear hmok hoo
  have hf := sto_fine (i := (x : Int)) Hk.out hval_one.out hel_o.out (Int.not_lt.2 HIx.out)
  have hS := vStore_any ⟨k, n, ix, 0, .empty, p_one⟩ ⟨e, n, 0, u_o, s_o, []⟩ _ _ (x : Int) v31 (hl_one.out.to (T := LoV v31.heap.size) (fun b hb => ⟨lr_one.out b hb, rfl⟩)) (elVal HOO.out) U8x.out
  rw [hf.1, hf.2.1] at hS
  obtain ⟨p_back, hp⟩ : ∃ p, p = putE (x : Int) u_o s_o p_one := ⟨_, rfl⟩
  have hval_back := Lib.hid (hf.2.2)
  simp only at hS hval_back
  rw [← hp] at hS hval_back
  have HP_back := Lib.hid hp
  clear hp hf
  refine Calls.mono (hS) ?_
  rintro e v32 ⟨vv, rfl, hvv, hw⟩
  replace hb_r := Lib.hid ((hw.block _ lt_r).trans hb_r.out)
  replace lt_r := Nat.lt_of_lt_of_le lt_r hw.size
  replace hb_a := Lib.hid ((hw.block _ lt_a).trans hb_a.out)
  replace lt_a := Nat.lt_of_lt_of_le lt_a hw.size
  replace hb_u := Lib.hid ((hw.block _ lt_u).trans hb_u.out)
  replace lt_u := Nat.lt_of_lt_of_le lt_u hw.size
  replace hb_v := Lib.hid ((hw.block _ lt_v).trans hb_v.out)
  replace lt_v := Nat.lt_of_lt_of_le lt_v hw.size
  replace hb_one := Lib.hid ((hw.block _ lt_one).trans hb_one.out)
  replace lt_one := Nat.lt_of_lt_of_le lt_one hw.size
  replace hb_two := Lib.hid ((hw.block _ lt_two).trans hb_two.out)
  replace lt_two := Nat.lt_of_lt_of_le lt_two hw.size
  replace hb_oth := Lib.hid ((hw.block _ lt_oth).trans hb_oth.out)
  replace lt_oth := Nat.lt_of_lt_of_le lt_oth hw.size
  replace hb_trn := Lib.hid ((hw.block _ lt_trn).trans hb_trn.out)
  replace lt_trn := Nat.lt_of_lt_of_le lt_trn hw.size
  replace hb_old := Lib.hid ((hw.block _ lt_old).trans hb_old.out)
  replace lt_old := Nat.lt_of_lt_of_le lt_old hw.size
  replace hl_r := Lib.hid (hl_r.out.to (w' := v32) (T := (MidV w.heap.size v1.heap.size)) (fun b hb => ⟨hb, hw.block b (lr_r.out b hb)⟩))
  replace lr_r := Lib.hid (show ∀ b, (MidV w.heap.size v1.heap.size) b → b < v32.heap.size from fun b hb => Nat.lt_of_lt_of_le (lr_r.out b hb) hw.size)
  replace hl_a := Lib.hid (hl_a.out.to (w' := v32) (T := (MidV v3.heap.size v4.heap.size)) (fun b hb => ⟨hb, hw.block b (lr_a.out b hb)⟩))
  replace lr_a := Lib.hid (show ∀ b, (MidV v3.heap.size v4.heap.size) b → b < v32.heap.size from fun b hb => Nat.lt_of_lt_of_le (lr_a.out b hb) hw.size)
  replace hl_u := Lib.hid (hl_u.out.to (w' := v32) (T := (MidV v8.heap.size v9.heap.size)) (fun b hb => ⟨hb, hw.block b (lr_u.out b hb)⟩))
  replace lr_u := Lib.hid (show ∀ b, (MidV v8.heap.size v9.heap.size) b → b < v32.heap.size from fun b hb => Nat.lt_of_lt_of_le (lr_u.out b hb) hw.size)
  replace hl_v := Lib.hid (hl_v.out.to (w' := v32) (T := (MidV v13.heap.size v14.heap.size)) (fun b hb => ⟨hb, hw.block b (lr_v.out b hb)⟩))
  replace lr_v := Lib.hid (show ∀ b, (MidV v13.heap.size v14.heap.size) b → b < v32.heap.size from fun b hb => Nat.lt_of_lt_of_le (lr_v.out b hb) hw.size)
  replace hl_one := Lib.hid (hl_one.out.to (w' := v32) (T := (MidV v16.heap.size v17.heap.size)) (fun b hb => ⟨hb, hw.block b (lr_one.out b hb)⟩))
  replace lr_one := Lib.hid (show ∀ b, (MidV v16.heap.size v17.heap.size) b → b < v32.heap.size from fun b hb => Nat.lt_of_lt_of_le (lr_one.out b hb) hw.size)
  replace hl_two := Lib.hid (hl_two.out.to (w' := v32) (T := (MidV v19.heap.size v20.heap.size)) (fun b hb => ⟨hb, hw.block b (lr_two.out b hb)⟩))
  replace lr_two := Lib.hid (show ∀ b, (MidV v19.heap.size v20.heap.size) b → b < v32.heap.size from fun b hb => Nat.lt_of_lt_of_le (lr_two.out b hb) hw.size)
  replace hl_oth := Lib.hid (hl_oth.out.to (w' := v32) (T := (MidV v22.heap.size v23.heap.size)) (fun b hb => ⟨hb, hw.block b (lr_oth.out b hb)⟩))
  replace lr_oth := Lib.hid (show ∀ b, (MidV v22.heap.size v23.heap.size) b → b < v32.heap.size from fun b hb => Nat.lt_of_lt_of_le (lr_oth.out b hb) hw.size)
  replace hl_trn := Lib.hid (hl_trn.out.to (w' := v32) (T := (MidV v25.heap.size v26.heap.size)) (fun b hb => ⟨hb, hw.block b (lr_trn.out b hb)⟩))
  replace lr_trn := Lib.hid (show ∀ b, (MidV v25.heap.size v26.heap.size) b → b < v32.heap.size from fun b hb => Nat.lt_of_lt_of_le (lr_trn.out b hb) hw.size)
  replace hB := hB.trans (hw.mono hB.size)
  clear hS
  obtain ⟨A_back, n_back, c_back, hve⟩ := hvv.shape
  have hve2 : vv = .agg #[.int .i64 k, .int .i64 n, .int .i64 ix, .int .u64 0, .string ⟨#[]⟩, .slice A_back n_back c_back] := hve
  subst hve2
  clear hve
  have hl_back := Lib.hid hvv
  clear hvv
  have lr_back := Lib.hid (show ∀ b, (MidV v31.heap.size v32.heap.size) b → b < v32.heap.size from fun b hb => hb.2)
  have bs_back := Lib.hid (show w.heap.size ≤ v32.heap.size from (by have h := hB.size; first | omega | (simp at h; omega)))
  have or_r_back := Lib.hid (show v1.heap.size < v32.heap.size from (by have h := lt_r; first | omega | (simp at h; omega)))
  have or_a_back := Lib.hid (show v4.heap.size < v32.heap.size from (by have h := lt_a; first | omega | (simp at h; omega)))
  have or_u_back := Lib.hid (show v9.heap.size < v32.heap.size from (by have h := lt_u; first | omega | (simp at h; omega)))
  have or_v_back := Lib.hid (show v14.heap.size < v32.heap.size from (by have h := lt_v; first | omega | (simp at h; omega)))
  have or_one_back := Lib.hid (show v17.heap.size < v32.heap.size from (by have h := lt_one; first | omega | (simp at h; omega)))
  have or_two_back := Lib.hid (show v20.heap.size < v32.heap.size from (by have h := lt_two; first | omega | (simp at h; omega)))
  have or_oth_back := Lib.hid (show v23.heap.size < v32.heap.size from (by have h := lt_oth; first | omega | (simp at h; omega)))
  have or_trn_back := Lib.hid (show v26.heap.size < v32.heap.size from (by have h := lt_trn; first | omega | (simp at h; omega)))
  have or_old_back := Lib.hid (show v29.heap.size < v32.heap.size from (by have h := lt_old; first | omega | (simp at h; omega)))
  replace hb_r := Lib.hid ((Below.heap_alloc v32 (.cells #[.int .i64 k, .int .i64 n, .int .i64 ix, .int .u64 0, .string ⟨#[]⟩, .slice A_back n_back c_back] 35) _ lt_r).trans hb_r.out)
  replace lt_r := Nat.lt_trans lt_r (show v32.heap.size < (v32.alloc (.cells #[.int .i64 k, .int .i64 n, .int .i64 ix, .int .u64 0, .string ⟨#[]⟩, .slice A_back n_back c_back] 35)).heap.size by simp)
  replace hb_a := Lib.hid ((Below.heap_alloc v32 (.cells #[.int .i64 k, .int .i64 n, .int .i64 ix, .int .u64 0, .string ⟨#[]⟩, .slice A_back n_back c_back] 35) _ lt_a).trans hb_a.out)
  replace lt_a := Nat.lt_trans lt_a (show v32.heap.size < (v32.alloc (.cells #[.int .i64 k, .int .i64 n, .int .i64 ix, .int .u64 0, .string ⟨#[]⟩, .slice A_back n_back c_back] 35)).heap.size by simp)
  replace hb_u := Lib.hid ((Below.heap_alloc v32 (.cells #[.int .i64 k, .int .i64 n, .int .i64 ix, .int .u64 0, .string ⟨#[]⟩, .slice A_back n_back c_back] 35) _ lt_u).trans hb_u.out)
  replace lt_u := Nat.lt_trans lt_u (show v32.heap.size < (v32.alloc (.cells #[.int .i64 k, .int .i64 n, .int .i64 ix, .int .u64 0, .string ⟨#[]⟩, .slice A_back n_back c_back] 35)).heap.size by simp)
  replace hb_v := Lib.hid ((Below.heap_alloc v32 (.cells #[.int .i64 k, .int .i64 n, .int .i64 ix, .int .u64 0, .string ⟨#[]⟩, .slice A_back n_back c_back] 35) _ lt_v).trans hb_v.out)
  replace lt_v := Nat.lt_trans lt_v (show v32.heap.size < (v32.alloc (.cells #[.int .i64 k, .int .i64 n, .int .i64 ix, .int .u64 0, .string ⟨#[]⟩, .slice A_back n_back c_back] 35)).heap.size by simp)
  replace hb_one := Lib.hid ((Below.heap_alloc v32 (.cells #[.int .i64 k, .int .i64 n, .int .i64 ix, .int .u64 0, .string ⟨#[]⟩, .slice A_back n_back c_back] 35) _ lt_one).trans hb_one.out)
  replace lt_one := Nat.lt_trans lt_one (show v32.heap.size < (v32.alloc (.cells #[.int .i64 k, .int .i64 n, .int .i64 ix, .int .u64 0, .string ⟨#[]⟩, .slice A_back n_back c_back] 35)).heap.size by simp)
  replace hb_two := Lib.hid ((Below.heap_alloc v32 (.cells #[.int .i64 k, .int .i64 n, .int .i64 ix, .int .u64 0, .string ⟨#[]⟩, .slice A_back n_back c_back] 35) _ lt_two).trans hb_two.out)
  replace lt_two := Nat.lt_trans lt_two (show v32.heap.size < (v32.alloc (.cells #[.int .i64 k, .int .i64 n, .int .i64 ix, .int .u64 0, .string ⟨#[]⟩, .slice A_back n_back c_back] 35)).heap.size by simp)
  replace hb_oth := Lib.hid ((Below.heap_alloc v32 (.cells #[.int .i64 k, .int .i64 n, .int .i64 ix, .int .u64 0, .string ⟨#[]⟩, .slice A_back n_back c_back] 35) _ lt_oth).trans hb_oth.out)
  replace lt_oth := Nat.lt_trans lt_oth (show v32.heap.size < (v32.alloc (.cells #[.int .i64 k, .int .i64 n, .int .i64 ix, .int .u64 0, .string ⟨#[]⟩, .slice A_back n_back c_back] 35)).heap.size by simp)
  replace hb_trn := Lib.hid ((Below.heap_alloc v32 (.cells #[.int .i64 k, .int .i64 n, .int .i64 ix, .int .u64 0, .string ⟨#[]⟩, .slice A_back n_back c_back] 35) _ lt_trn).trans hb_trn.out)
  replace lt_trn := Nat.lt_trans lt_trn (show v32.heap.size < (v32.alloc (.cells #[.int .i64 k, .int .i64 n, .int .i64 ix, .int .u64 0, .string ⟨#[]⟩, .slice A_back n_back c_back] 35)).heap.size by simp)
  replace hb_old := Lib.hid ((Below.heap_alloc v32 (.cells #[.int .i64 k, .int .i64 n, .int .i64 ix, .int .u64 0, .string ⟨#[]⟩, .slice A_back n_back c_back] 35) _ lt_old).trans hb_old.out)
  replace lt_old := Nat.lt_trans lt_old (show v32.heap.size < (v32.alloc (.cells #[.int .i64 k, .int .i64 n, .int .i64 ix, .int .u64 0, .string ⟨#[]⟩, .slice A_back n_back c_back] 35)).heap.size by simp)
  replace hl_r := Lib.hid (hl_r.out.to (w' := (v32.alloc (.cells #[.int .i64 k, .int .i64 n, .int .i64 ix, .int .u64 0, .string ⟨#[]⟩, .slice A_back n_back c_back] 35))) (T := (MidV w.heap.size v1.heap.size)) (fun b hb => ⟨hb, Below.heap_alloc v32 (.cells #[.int .i64 k, .int .i64 n, .int .i64 ix, .int .u64 0, .string ⟨#[]⟩, .slice A_back n_back c_back] 35) b (lr_r.out b hb)⟩))
  replace lr_r := Lib.hid (show ∀ b, (MidV w.heap.size v1.heap.size) b → b < (v32.alloc (.cells #[.int .i64 k, .int .i64 n, .int .i64 ix, .int .u64 0, .string ⟨#[]⟩, .slice A_back n_back c_back] 35)).heap.size from fun b hb => Nat.lt_trans (lr_r.out b hb) (by simp))
  replace hl_a := Lib.hid (hl_a.out.to (w' := (v32.alloc (.cells #[.int .i64 k, .int .i64 n, .int .i64 ix, .int .u64 0, .string ⟨#[]⟩, .slice A_back n_back c_back] 35))) (T := (MidV v3.heap.size v4.heap.size)) (fun b hb => ⟨hb, Below.heap_alloc v32 (.cells #[.int .i64 k, .int .i64 n, .int .i64 ix, .int .u64 0, .string ⟨#[]⟩, .slice A_back n_back c_back] 35) b (lr_a.out b hb)⟩))
  replace lr_a := Lib.hid (show ∀ b, (MidV v3.heap.size v4.heap.size) b → b < (v32.alloc (.cells #[.int .i64 k, .int .i64 n, .int .i64 ix, .int .u64 0, .string ⟨#[]⟩, .slice A_back n_back c_back] 35)).heap.size from fun b hb => Nat.lt_trans (lr_a.out b hb) (by simp))
  replace hl_u := Lib.hid (hl_u.out.to (w' := (v32.alloc (.cells #[.int .i64 k, .int .i64 n, .int .i64 ix, .int .u64 0, .string ⟨#[]⟩, .slice A_back n_back c_back] 35))) (T := (MidV v8.heap.size v9.heap.size)) (fun b hb => ⟨hb, Below.heap_alloc v32 (.cells #[.int .i64 k, .int .i64 n, .int .i64 ix, .int .u64 0, .string ⟨#[]⟩, .slice A_back n_back c_back] 35) b (lr_u.out b hb)⟩))
  replace lr_u := Lib.hid (show ∀ b, (MidV v8.heap.size v9.heap.size) b → b < (v32.alloc (.cells #[.int .i64 k, .int .i64 n, .int .i64 ix, .int .u64 0, .string ⟨#[]⟩, .slice A_back n_back c_back] 35)).heap.size from fun b hb => Nat.lt_trans (lr_u.out b hb) (by simp))
  replace hl_v := Lib.hid (hl_v.out.to (w' := (v32.alloc (.cells #[.int .i64 k, .int .i64 n, .int .i64 ix, .int .u64 0, .string ⟨#[]⟩, .slice A_back n_back c_back] 35))) (T := (MidV v13.heap.size v14.heap.size)) (fun b hb => ⟨hb, Below.heap_alloc v32 (.cells #[.int .i64 k, .int .i64 n, .int .i64 ix, .int .u64 0, .string ⟨#[]⟩, .slice A_back n_back c_back] 35) b (lr_v.out b hb)⟩))
  replace lr_v := Lib.hid (show ∀ b, (MidV v13.heap.size v14.heap.size) b → b < (v32.alloc (.cells #[.int .i64 k, .int .i64 n, .int .i64 ix, .int .u64 0, .string ⟨#[]⟩, .slice A_back n_back c_back] 35)).heap.size from fun b hb => Nat.lt_trans (lr_v.out b hb) (by simp))
  replace hl_one := Lib.hid (hl_one.out.to (w' := (v32.alloc (.cells #[.int .i64 k, .int .i64 n, .int .i64 ix, .int .u64 0, .string ⟨#[]⟩, .slice A_back n_back c_back] 35))) (T := (MidV v16.heap.size v17.heap.size)) (fun b hb => ⟨hb, Below.heap_alloc v32 (.cells #[.int .i64 k, .int .i64 n, .int .i64 ix, .int .u64 0, .string ⟨#[]⟩, .slice A_back n_back c_back] 35) b (lr_one.out b hb)⟩))
  replace lr_one := Lib.hid (show ∀ b, (MidV v16.heap.size v17.heap.size) b → b < (v32.alloc (.cells #[.int .i64 k, .int .i64 n, .int .i64 ix, .int .u64 0, .string ⟨#[]⟩, .slice A_back n_back c_back] 35)).heap.size from fun b hb => Nat.lt_trans (lr_one.out b hb) (by simp))
  replace hl_two := Lib.hid (hl_two.out.to (w' := (v32.alloc (.cells #[.int .i64 k, .int .i64 n, .int .i64 ix, .int .u64 0, .string ⟨#[]⟩, .slice A_back n_back c_back] 35))) (T := (MidV v19.heap.size v20.heap.size)) (fun b hb => ⟨hb, Below.heap_alloc v32 (.cells #[.int .i64 k, .int .i64 n, .int .i64 ix, .int .u64 0, .string ⟨#[]⟩, .slice A_back n_back c_back] 35) b (lr_two.out b hb)⟩))
  replace lr_two := Lib.hid (show ∀ b, (MidV v19.heap.size v20.heap.size) b → b < (v32.alloc (.cells #[.int .i64 k, .int .i64 n, .int .i64 ix, .int .u64 0, .string ⟨#[]⟩, .slice A_back n_back c_back] 35)).heap.size from fun b hb => Nat.lt_trans (lr_two.out b hb) (by simp))
  replace hl_oth := Lib.hid (hl_oth.out.to (w' := (v32.alloc (.cells #[.int .i64 k, .int .i64 n, .int .i64 ix, .int .u64 0, .string ⟨#[]⟩, .slice A_back n_back c_back] 35))) (T := (MidV v22.heap.size v23.heap.size)) (fun b hb => ⟨hb, Below.heap_alloc v32 (.cells #[.int .i64 k, .int .i64 n, .int .i64 ix, .int .u64 0, .string ⟨#[]⟩, .slice A_back n_back c_back] 35) b (lr_oth.out b hb)⟩))
  replace lr_oth := Lib.hid (show ∀ b, (MidV v22.heap.size v23.heap.size) b → b < (v32.alloc (.cells #[.int .i64 k, .int .i64 n, .int .i64 ix, .int .u64 0, .string ⟨#[]⟩, .slice A_back n_back c_back] 35)).heap.size from fun b hb => Nat.lt_trans (lr_oth.out b hb) (by simp))
  replace hl_trn := Lib.hid (hl_trn.out.to (w' := (v32.alloc (.cells #[.int .i64 k, .int .i64 n, .int .i64 ix, .int .u64 0, .string ⟨#[]⟩, .slice A_back n_back c_back] 35))) (T := (MidV v25.heap.size v26.heap.size)) (fun b hb => ⟨hb, Below.heap_alloc v32 (.cells #[.int .i64 k, .int .i64 n, .int .i64 ix, .int .u64 0, .string ⟨#[]⟩, .slice A_back n_back c_back] 35) b (lr_trn.out b hb)⟩))
  replace lr_trn := Lib.hid (show ∀ b, (MidV v25.heap.size v26.heap.size) b → b < (v32.alloc (.cells #[.int .i64 k, .int .i64 n, .int .i64 ix, .int .u64 0, .string ⟨#[]⟩, .slice A_back n_back c_back] 35)).heap.size from fun b hb => Nat.lt_trans (lr_trn.out b hb) (by simp))
  replace hl_back := Lib.hid (hl_back.out.to (w' := (v32.alloc (.cells #[.int .i64 k, .int .i64 n, .int .i64 ix, .int .u64 0, .string ⟨#[]⟩, .slice A_back n_back c_back] 35))) (T := (MidV v31.heap.size v32.heap.size)) (fun b hb => ⟨hb, Below.heap_alloc v32 (.cells #[.int .i64 k, .int .i64 n, .int .i64 ix, .int .u64 0, .string ⟨#[]⟩, .slice A_back n_back c_back] 35) b (lr_back.out b hb)⟩))
  replace lr_back := Lib.hid (show ∀ b, (MidV v31.heap.size v32.heap.size) b → b < (v32.alloc (.cells #[.int .i64 k, .int .i64 n, .int .i64 ix, .int .u64 0, .string ⟨#[]⟩, .slice A_back n_back c_back] 35)).heap.size from fun b hb => Nat.lt_trans (lr_back.out b hb) (by simp))
  have hb_back := Lib.hid (heap_alloc_new_at v32 (.cells #[.int .i64 k, .int .i64 n, .int .i64 ix, .int .u64 0, .string ⟨#[]⟩, .slice A_back n_back c_back] 35) (n := v32.heap.size) (by simp))
  have lt_back : v32.heap.size < (v32.alloc (.cells #[.int .i64 k, .int .i64 n, .int .i64 ix, .int .u64 0, .string ⟨#[]⟩, .slice A_back n_back c_back] 35)).heap.size := by simp
  replace hB := hB.alloc hB.size (.cells #[.int .i64 k, .int .i64 n, .int .i64 ix, .int .u64 0, .string ⟨#[]⟩, .slice A_back n_back c_back] 35)
  obtain ⟨c_back0, c_back1, c_back2, c_back3, c_back4, c_back5⟩ := six hb_back.out
  obtain ⟨c_a0, c_a1, c_a2, c_a3, c_a4, c_a5⟩ := six hb_a.out
  go_wp2_with fail
  clear c_back0 c_back1 c_back2 c_back3 c_back4 c_back5
  clear c_a0 c_a1 c_a2 c_a3 c_a4 c_a5
  generalize (v32.alloc (.cells #[.int .i64 k, .int .i64 n, .int .i64 ix, .int .u64 0, .string ⟨#[]⟩, .slice A_back n_back c_back] 35)) = v34 at *
  have hsr := (arr_facts Hk.out hval_a.out).1
  have hsr1 := (arr_facts Hk.out hval_one.out).1
  have hsr2 := (arr_facts Hk.out hval_oth.out).1
  have Q1 := fun j : Int => at_put_el hel_u.out hsr (i := (x : Int)) j
  have Q2 := fun j : Int => at_put_el hel_v.out hsr1 (i := (y : Int)) j
  have Q3 := fun j : Int => at_put_el hel_v.out hsr (i := (y : Int)) j
  have Q4 := fun j : Int => at_put_el hel_u.out hsr2 (i := (x : Int)) j
  have Q5 := fun j : Int => at_put_el hel_o.out hsr1 (i := (x : Int)) j
  simp only at Q1 Q2 Q3 Q4 Q5
  rw [← HP_one.out] at Q1
  rw [← HP_two.out] at Q2
  rw [← HP_oth.out] at Q3
  rw [← HP_trn.out] at Q4
  rw [← HP_back.out] at Q5
  have E1 : p_back = m := arr_same Hk.out hval_back.out hval_a.out (fun j => by
    rw [(Q5 j).1, (Q5 j).2, (Q1 j).1, (Q1 j).2, HUO.out.1, HUO.out.2]
    by_cases h : j = (x : Int)
    · rw [if_pos h, if_pos h, h]; exact ⟨rfl, rfl⟩
    · rw [if_neg h, if_neg h, if_neg h, if_neg h]; exact ⟨rfl, rfl⟩)
  have E2 : (x : Int) ≠ (y : Int) → p_two = p_trn := fun hne => arr_same Hk.out hval_two.out hval_trn.out (fun j => by
    rw [(Q2 j).1, (Q2 j).2, (Q1 j).1, (Q1 j).2, (Q4 j).1, (Q4 j).2, (Q3 j).1, (Q3 j).2]
    by_cases h : j = (x : Int)
    · have h2 : ¬ j = (y : Int) := fun e => hne (h.symm.trans e)
      simp [h]
      exact ⟨fun e => absurd e hne, fun e => absurd e hne⟩
    · simp [h])
  have E3 : (x : Int) = (y : Int) → p_two = p_oth := fun he => arr_same Hk.out hval_two.out hval_oth.out (fun j => by
    rw [(Q2 j).1, (Q2 j).2, (Q1 j).1, (Q1 j).2, (Q3 j).1, (Q3 j).2, he]
    by_cases h : j = (y : Int)
    · simp [h]
    · simp [h])
  have HQ1 := Lib.hid Q1
  have HE1 := Lib.hid E1
  have HE2 := Lib.hid E2
  have HE3 := Lib.hid E3
  clear Q1 Q2 Q3 Q4 Q5 E1 E2 E3 hsr hsr1 hsr2
  have hS := vCompare_any ⟨k, n, ix, 0, .empty, p_back⟩ ⟨k, n, ix, 0, .empty, m⟩ _ _ v34 (hl_back.out.to (T := LoV v34.heap.size) (fun b hb => ⟨lr_back.out b hb, rfl⟩)) (hl_a.out.to (T := LoV v34.heap.size) (fun b hb => ⟨lr_a.out b hb, rfl⟩))
  rw [(vaCmp_zero _ _).2 (by rw [HE1.out])] at hS
  refine Calls.mono (hS) ?_
  rintro e v35 ⟨rfl, hw⟩
  replace hb_r := Lib.hid ((hw.block _ lt_r).trans hb_r.out)
  replace lt_r := Nat.lt_of_lt_of_le lt_r hw.size
  replace hb_a := Lib.hid ((hw.block _ lt_a).trans hb_a.out)
  replace lt_a := Nat.lt_of_lt_of_le lt_a hw.size
  replace hb_u := Lib.hid ((hw.block _ lt_u).trans hb_u.out)
  replace lt_u := Nat.lt_of_lt_of_le lt_u hw.size
  replace hb_v := Lib.hid ((hw.block _ lt_v).trans hb_v.out)
  replace lt_v := Nat.lt_of_lt_of_le lt_v hw.size
  replace hb_one := Lib.hid ((hw.block _ lt_one).trans hb_one.out)
  replace lt_one := Nat.lt_of_lt_of_le lt_one hw.size
  replace hb_two := Lib.hid ((hw.block _ lt_two).trans hb_two.out)
  replace lt_two := Nat.lt_of_lt_of_le lt_two hw.size
  replace hb_oth := Lib.hid ((hw.block _ lt_oth).trans hb_oth.out)
  replace lt_oth := Nat.lt_of_lt_of_le lt_oth hw.size
  replace hb_trn := Lib.hid ((hw.block _ lt_trn).trans hb_trn.out)
  replace lt_trn := Nat.lt_of_lt_of_le lt_trn hw.size
  replace hb_old := Lib.hid ((hw.block _ lt_old).trans hb_old.out)
  replace lt_old := Nat.lt_of_lt_of_le lt_old hw.size
  replace hb_back := Lib.hid ((hw.block _ lt_back).trans hb_back.out)
  replace lt_back := Nat.lt_of_lt_of_le lt_back hw.size
  replace hl_r := Lib.hid (hl_r.out.to (w' := v35) (T := (MidV w.heap.size v1.heap.size)) (fun b hb => ⟨hb, hw.block b (lr_r.out b hb)⟩))
  replace lr_r := Lib.hid (show ∀ b, (MidV w.heap.size v1.heap.size) b → b < v35.heap.size from fun b hb => Nat.lt_of_lt_of_le (lr_r.out b hb) hw.size)
  replace hl_a := Lib.hid (hl_a.out.to (w' := v35) (T := (MidV v3.heap.size v4.heap.size)) (fun b hb => ⟨hb, hw.block b (lr_a.out b hb)⟩))
  replace lr_a := Lib.hid (show ∀ b, (MidV v3.heap.size v4.heap.size) b → b < v35.heap.size from fun b hb => Nat.lt_of_lt_of_le (lr_a.out b hb) hw.size)
  replace hl_u := Lib.hid (hl_u.out.to (w' := v35) (T := (MidV v8.heap.size v9.heap.size)) (fun b hb => ⟨hb, hw.block b (lr_u.out b hb)⟩))
  replace lr_u := Lib.hid (show ∀ b, (MidV v8.heap.size v9.heap.size) b → b < v35.heap.size from fun b hb => Nat.lt_of_lt_of_le (lr_u.out b hb) hw.size)
  replace hl_v := Lib.hid (hl_v.out.to (w' := v35) (T := (MidV v13.heap.size v14.heap.size)) (fun b hb => ⟨hb, hw.block b (lr_v.out b hb)⟩))
  replace lr_v := Lib.hid (show ∀ b, (MidV v13.heap.size v14.heap.size) b → b < v35.heap.size from fun b hb => Nat.lt_of_lt_of_le (lr_v.out b hb) hw.size)
  replace hl_one := Lib.hid (hl_one.out.to (w' := v35) (T := (MidV v16.heap.size v17.heap.size)) (fun b hb => ⟨hb, hw.block b (lr_one.out b hb)⟩))
  replace lr_one := Lib.hid (show ∀ b, (MidV v16.heap.size v17.heap.size) b → b < v35.heap.size from fun b hb => Nat.lt_of_lt_of_le (lr_one.out b hb) hw.size)
  replace hl_two := Lib.hid (hl_two.out.to (w' := v35) (T := (MidV v19.heap.size v20.heap.size)) (fun b hb => ⟨hb, hw.block b (lr_two.out b hb)⟩))
  replace lr_two := Lib.hid (show ∀ b, (MidV v19.heap.size v20.heap.size) b → b < v35.heap.size from fun b hb => Nat.lt_of_lt_of_le (lr_two.out b hb) hw.size)
  replace hl_oth := Lib.hid (hl_oth.out.to (w' := v35) (T := (MidV v22.heap.size v23.heap.size)) (fun b hb => ⟨hb, hw.block b (lr_oth.out b hb)⟩))
  replace lr_oth := Lib.hid (show ∀ b, (MidV v22.heap.size v23.heap.size) b → b < v35.heap.size from fun b hb => Nat.lt_of_lt_of_le (lr_oth.out b hb) hw.size)
  replace hl_trn := Lib.hid (hl_trn.out.to (w' := v35) (T := (MidV v25.heap.size v26.heap.size)) (fun b hb => ⟨hb, hw.block b (lr_trn.out b hb)⟩))
  replace lr_trn := Lib.hid (show ∀ b, (MidV v25.heap.size v26.heap.size) b → b < v35.heap.size from fun b hb => Nat.lt_of_lt_of_le (lr_trn.out b hb) hw.size)
  replace hl_back := Lib.hid (hl_back.out.to (w' := v35) (T := (MidV v31.heap.size v32.heap.size)) (fun b hb => ⟨hb, hw.block b (lr_back.out b hb)⟩))
  replace lr_back := Lib.hid (show ∀ b, (MidV v31.heap.size v32.heap.size) b → b < v35.heap.size from fun b hb => Nat.lt_of_lt_of_le (lr_back.out b hb) hw.size)
  replace hB := hB.trans (hw.mono hB.size)
  clear hS
  obtain ⟨c_two0, c_two1, c_two2, c_two3, c_two4, c_two5⟩ := six hb_two.out
  go_wp2_with fail
  clear c_two0 c_two1 c_two2 c_two3 c_two4 c_two5
  have hS := vValid_any ⟨k, n, ix, 0, .empty, p_two⟩ _ v35 (hl_two.out.to (T := LoV v35.heap.size) (fun b hb => ⟨lr_two.out b hb, rfl⟩))
  rw [hval_two.out] at hS
  refine Calls.mono (hS) ?_
  rintro e v36 ⟨rfl, hw⟩
  replace hb_r := Lib.hid ((hw.block _ lt_r).trans hb_r.out)
  replace lt_r := Nat.lt_of_lt_of_le lt_r hw.size
  replace hb_a := Lib.hid ((hw.block _ lt_a).trans hb_a.out)
  replace lt_a := Nat.lt_of_lt_of_le lt_a hw.size
  replace hb_u := Lib.hid ((hw.block _ lt_u).trans hb_u.out)
  replace lt_u := Nat.lt_of_lt_of_le lt_u hw.size
  replace hb_v := Lib.hid ((hw.block _ lt_v).trans hb_v.out)
  replace lt_v := Nat.lt_of_lt_of_le lt_v hw.size
  replace hb_one := Lib.hid ((hw.block _ lt_one).trans hb_one.out)
  replace lt_one := Nat.lt_of_lt_of_le lt_one hw.size
  replace hb_two := Lib.hid ((hw.block _ lt_two).trans hb_two.out)
  replace lt_two := Nat.lt_of_lt_of_le lt_two hw.size
  replace hb_oth := Lib.hid ((hw.block _ lt_oth).trans hb_oth.out)
  replace lt_oth := Nat.lt_of_lt_of_le lt_oth hw.size
  replace hb_trn := Lib.hid ((hw.block _ lt_trn).trans hb_trn.out)
  replace lt_trn := Nat.lt_of_lt_of_le lt_trn hw.size
  replace hb_old := Lib.hid ((hw.block _ lt_old).trans hb_old.out)
  replace lt_old := Nat.lt_of_lt_of_le lt_old hw.size
  replace hb_back := Lib.hid ((hw.block _ lt_back).trans hb_back.out)
  replace lt_back := Nat.lt_of_lt_of_le lt_back hw.size
  replace hl_r := Lib.hid (hl_r.out.to (w' := v36) (T := (MidV w.heap.size v1.heap.size)) (fun b hb => ⟨hb, hw.block b (lr_r.out b hb)⟩))
  replace lr_r := Lib.hid (show ∀ b, (MidV w.heap.size v1.heap.size) b → b < v36.heap.size from fun b hb => Nat.lt_of_lt_of_le (lr_r.out b hb) hw.size)
  replace hl_a := Lib.hid (hl_a.out.to (w' := v36) (T := (MidV v3.heap.size v4.heap.size)) (fun b hb => ⟨hb, hw.block b (lr_a.out b hb)⟩))
  replace lr_a := Lib.hid (show ∀ b, (MidV v3.heap.size v4.heap.size) b → b < v36.heap.size from fun b hb => Nat.lt_of_lt_of_le (lr_a.out b hb) hw.size)
  replace hl_u := Lib.hid (hl_u.out.to (w' := v36) (T := (MidV v8.heap.size v9.heap.size)) (fun b hb => ⟨hb, hw.block b (lr_u.out b hb)⟩))
  replace lr_u := Lib.hid (show ∀ b, (MidV v8.heap.size v9.heap.size) b → b < v36.heap.size from fun b hb => Nat.lt_of_lt_of_le (lr_u.out b hb) hw.size)
  replace hl_v := Lib.hid (hl_v.out.to (w' := v36) (T := (MidV v13.heap.size v14.heap.size)) (fun b hb => ⟨hb, hw.block b (lr_v.out b hb)⟩))
  replace lr_v := Lib.hid (show ∀ b, (MidV v13.heap.size v14.heap.size) b → b < v36.heap.size from fun b hb => Nat.lt_of_lt_of_le (lr_v.out b hb) hw.size)
  replace hl_one := Lib.hid (hl_one.out.to (w' := v36) (T := (MidV v16.heap.size v17.heap.size)) (fun b hb => ⟨hb, hw.block b (lr_one.out b hb)⟩))
  replace lr_one := Lib.hid (show ∀ b, (MidV v16.heap.size v17.heap.size) b → b < v36.heap.size from fun b hb => Nat.lt_of_lt_of_le (lr_one.out b hb) hw.size)
  replace hl_two := Lib.hid (hl_two.out.to (w' := v36) (T := (MidV v19.heap.size v20.heap.size)) (fun b hb => ⟨hb, hw.block b (lr_two.out b hb)⟩))
  replace lr_two := Lib.hid (show ∀ b, (MidV v19.heap.size v20.heap.size) b → b < v36.heap.size from fun b hb => Nat.lt_of_lt_of_le (lr_two.out b hb) hw.size)
  replace hl_oth := Lib.hid (hl_oth.out.to (w' := v36) (T := (MidV v22.heap.size v23.heap.size)) (fun b hb => ⟨hb, hw.block b (lr_oth.out b hb)⟩))
  replace lr_oth := Lib.hid (show ∀ b, (MidV v22.heap.size v23.heap.size) b → b < v36.heap.size from fun b hb => Nat.lt_of_lt_of_le (lr_oth.out b hb) hw.size)
  replace hl_trn := Lib.hid (hl_trn.out.to (w' := v36) (T := (MidV v25.heap.size v26.heap.size)) (fun b hb => ⟨hb, hw.block b (lr_trn.out b hb)⟩))
  replace lr_trn := Lib.hid (show ∀ b, (MidV v25.heap.size v26.heap.size) b → b < v36.heap.size from fun b hb => Nat.lt_of_lt_of_le (lr_trn.out b hb) hw.size)
  replace hl_back := Lib.hid (hl_back.out.to (w' := v36) (T := (MidV v31.heap.size v32.heap.size)) (fun b hb => ⟨hb, hw.block b (lr_back.out b hb)⟩))
  replace lr_back := Lib.hid (show ∀ b, (MidV v31.heap.size v32.heap.size) b → b < v36.heap.size from fun b hb => Nat.lt_of_lt_of_le (lr_back.out b hb) hw.size)
  replace hB := hB.trans (hw.mono hB.size)
  clear hS
  by_cases hxy : x = y
  · have gxy : ((x : Int) == (y : Int)) = true := by rw [hxy]; simp
    obtain ⟨c_two0, c_two1, c_two2, c_two3, c_two4, c_two5⟩ := six hb_two.out
    obtain ⟨c_oth0, c_oth1, c_oth2, c_oth3, c_oth4, c_oth5⟩ := six hb_oth.out
    go_wp2_with fail
    clear c_two0 c_two1 c_two2 c_two3 c_two4 c_two5
    clear c_oth0 c_oth1 c_oth2 c_oth3 c_oth4 c_oth5
    have hS := vCompare_any ⟨k, n, ix, 0, .empty, p_two⟩ ⟨k, n, ix, 0, .empty, p_oth⟩ _ _ v36 (hl_two.out.to (T := LoV v36.heap.size) (fun b hb => ⟨lr_two.out b hb, rfl⟩)) (hl_oth.out.to (T := LoV v36.heap.size) (fun b hb => ⟨lr_oth.out b hb, rfl⟩))
    rw [(vaCmp_zero _ _).2 (by rw [HE3.out (by rw [hxy])])] at hS
    have HXY := Lib.hid hxy
    clear hxy
    refine Calls.mono (hS) ?_
    rintro e v37 ⟨rfl, hw⟩
    replace hb_r := Lib.hid ((hw.block _ lt_r).trans hb_r.out)
    replace lt_r := Nat.lt_of_lt_of_le lt_r hw.size
    replace hb_a := Lib.hid ((hw.block _ lt_a).trans hb_a.out)
    replace lt_a := Nat.lt_of_lt_of_le lt_a hw.size
    replace hb_u := Lib.hid ((hw.block _ lt_u).trans hb_u.out)
    replace lt_u := Nat.lt_of_lt_of_le lt_u hw.size
    replace hb_v := Lib.hid ((hw.block _ lt_v).trans hb_v.out)
    replace lt_v := Nat.lt_of_lt_of_le lt_v hw.size
    replace hb_one := Lib.hid ((hw.block _ lt_one).trans hb_one.out)
    replace lt_one := Nat.lt_of_lt_of_le lt_one hw.size
    replace hb_two := Lib.hid ((hw.block _ lt_two).trans hb_two.out)
    replace lt_two := Nat.lt_of_lt_of_le lt_two hw.size
    replace hb_oth := Lib.hid ((hw.block _ lt_oth).trans hb_oth.out)
    replace lt_oth := Nat.lt_of_lt_of_le lt_oth hw.size
    replace hb_trn := Lib.hid ((hw.block _ lt_trn).trans hb_trn.out)
    replace lt_trn := Nat.lt_of_lt_of_le lt_trn hw.size
    replace hb_old := Lib.hid ((hw.block _ lt_old).trans hb_old.out)
    replace lt_old := Nat.lt_of_lt_of_le lt_old hw.size
    replace hb_back := Lib.hid ((hw.block _ lt_back).trans hb_back.out)
    replace lt_back := Nat.lt_of_lt_of_le lt_back hw.size
    replace hl_r := Lib.hid (hl_r.out.to (w' := v37) (T := (MidV w.heap.size v1.heap.size)) (fun b hb => ⟨hb, hw.block b (lr_r.out b hb)⟩))
    replace lr_r := Lib.hid (show ∀ b, (MidV w.heap.size v1.heap.size) b → b < v37.heap.size from fun b hb => Nat.lt_of_lt_of_le (lr_r.out b hb) hw.size)
    replace hl_a := Lib.hid (hl_a.out.to (w' := v37) (T := (MidV v3.heap.size v4.heap.size)) (fun b hb => ⟨hb, hw.block b (lr_a.out b hb)⟩))
    replace lr_a := Lib.hid (show ∀ b, (MidV v3.heap.size v4.heap.size) b → b < v37.heap.size from fun b hb => Nat.lt_of_lt_of_le (lr_a.out b hb) hw.size)
    replace hl_u := Lib.hid (hl_u.out.to (w' := v37) (T := (MidV v8.heap.size v9.heap.size)) (fun b hb => ⟨hb, hw.block b (lr_u.out b hb)⟩))
    replace lr_u := Lib.hid (show ∀ b, (MidV v8.heap.size v9.heap.size) b → b < v37.heap.size from fun b hb => Nat.lt_of_lt_of_le (lr_u.out b hb) hw.size)
    replace hl_v := Lib.hid (hl_v.out.to (w' := v37) (T := (MidV v13.heap.size v14.heap.size)) (fun b hb => ⟨hb, hw.block b (lr_v.out b hb)⟩))
    replace lr_v := Lib.hid (show ∀ b, (MidV v13.heap.size v14.heap.size) b → b < v37.heap.size from fun b hb => Nat.lt_of_lt_of_le (lr_v.out b hb) hw.size)
    replace hl_one := Lib.hid (hl_one.out.to (w' := v37) (T := (MidV v16.heap.size v17.heap.size)) (fun b hb => ⟨hb, hw.block b (lr_one.out b hb)⟩))
    replace lr_one := Lib.hid (show ∀ b, (MidV v16.heap.size v17.heap.size) b → b < v37.heap.size from fun b hb => Nat.lt_of_lt_of_le (lr_one.out b hb) hw.size)
    replace hl_two := Lib.hid (hl_two.out.to (w' := v37) (T := (MidV v19.heap.size v20.heap.size)) (fun b hb => ⟨hb, hw.block b (lr_two.out b hb)⟩))
    replace lr_two := Lib.hid (show ∀ b, (MidV v19.heap.size v20.heap.size) b → b < v37.heap.size from fun b hb => Nat.lt_of_lt_of_le (lr_two.out b hb) hw.size)
    replace hl_oth := Lib.hid (hl_oth.out.to (w' := v37) (T := (MidV v22.heap.size v23.heap.size)) (fun b hb => ⟨hb, hw.block b (lr_oth.out b hb)⟩))
    replace lr_oth := Lib.hid (show ∀ b, (MidV v22.heap.size v23.heap.size) b → b < v37.heap.size from fun b hb => Nat.lt_of_lt_of_le (lr_oth.out b hb) hw.size)
    replace hl_trn := Lib.hid (hl_trn.out.to (w' := v37) (T := (MidV v25.heap.size v26.heap.size)) (fun b hb => ⟨hb, hw.block b (lr_trn.out b hb)⟩))
    replace lr_trn := Lib.hid (show ∀ b, (MidV v25.heap.size v26.heap.size) b → b < v37.heap.size from fun b hb => Nat.lt_of_lt_of_le (lr_trn.out b hb) hw.size)
    replace hl_back := Lib.hid (hl_back.out.to (w' := v37) (T := (MidV v31.heap.size v32.heap.size)) (fun b hb => ⟨hb, hw.block b (lr_back.out b hb)⟩))
    replace lr_back := Lib.hid (show ∀ b, (MidV v31.heap.size v32.heap.size) b → b < v37.heap.size from fun b hb => Nat.lt_of_lt_of_le (lr_back.out b hb) hw.size)
    replace hB := hB.trans (hw.mono hB.size)
    clear hS
    go_wp2_with fail
    go_loopw [30] (fun a wr => ∃ z : Nat, z ≤ sz ∧ a = .int .i64 (z : Int) ∧ Hid (wr.heap[v4.heap.size]? = some (.cells #[.int .i64 k, .int .i64 n, .int .i64 ix, .int .u64 0, .string ⟨#[]⟩, .slice A_a n_a c_a] 35 (0, 0)) ∧ wr.heap[v17.heap.size]? = some (.cells #[.int .i64 k, .int .i64 n, .int .i64 ix, .int .u64 0, .string ⟨#[]⟩, .slice A_one n_one c_one] 35 (0, 0)) ∧ wr.heap[v9.heap.size]? = some (.cells #[.int .i64 e, .int .i64 n, .int .i64 0, .int .u64 u_u, .string s_u, .slice A_u n_u c_u] 35 (0, 0)) ∧ (v4.heap.size < wr.heap.size ∧ v17.heap.size < wr.heap.size ∧ v9.heap.size < wr.heap.size) ∧ VaV wr (MidV v3.heap.size v4.heap.size) ⟨k, n, ix, 0, .empty, m⟩ (.agg #[.int .i64 k, .int .i64 n, .int .i64 ix, .int .u64 0, .string ⟨#[]⟩, .slice A_a n_a c_a]) ∧ VaV wr (MidV v16.heap.size v17.heap.size) ⟨k, n, ix, 0, .empty, p_one⟩ (.agg #[.int .i64 k, .int .i64 n, .int .i64 ix, .int .u64 0, .string ⟨#[]⟩, .slice A_one n_one c_one]) ∧ VaV wr (MidV v8.heap.size v9.heap.size) ⟨e, n, 0, u_u, s_u, []⟩ (.agg #[.int .i64 e, .int .i64 n, .int .i64 0, .int .u64 u_u, .string s_u, .slice A_u n_u c_u]) ∧ (∀ b, (MidV v3.heap.size v4.heap.size) b → b < wr.heap.size) ∧ (∀ b, (MidV v16.heap.size v17.heap.size) b → b < wr.heap.size) ∧ (∀ b, (MidV v8.heap.size v9.heap.size) b → b < wr.heap.size)) ∧ Below w.heap.size w wr) (fun a _ => sz - (intOf a).toNat)
    case atStart => exact ⟨0, Nat.zero_le _, rfl, Lib.hid ⟨hb_a.out, hb_one.out, hb_u.out, ⟨lt_a, lt_one, lt_u⟩, hl_a.out, hl_one.out, hl_u.out, lr_a.out, lr_one.out, lr_u.out⟩, hB⟩
    case round =>
      clear hb_r lt_r hb_a lt_a hb_u lt_u hb_v lt_v hb_one lt_one hb_two lt_two hb_oth lt_oth hb_trn lt_trn hb_old lt_old hb_back lt_back hl_r lr_r hl_a lr_a hl_u lr_u hl_v lr_v hl_one lr_one hl_two lr_two hl_oth lr_oth hl_trn lr_trn hl_back lr_back hB
      obtain ⟨z, hz, rfl, hF, hB⟩ := hrel
      obtain ⟨q1, q2, q3, ⟨lt_a, lt_one, lt_u⟩, q5, q6, q7, q8, q9, q10⟩ := hF.out
      have hb_a := Lib.hid q1
      have hb_one := Lib.hid q2
      have hb_u := Lib.hid q3
      have hl_a := Lib.hid q5
      have hl_one := Lib.hid q6
      have hl_u := Lib.hid q7
      have lr_a := Lib.hid q8
      have lr_one := Lib.hid q9
      have lr_u := Lib.hid q10
      clear hF q1 q2 q3 q5 q6 q7 q8 q9 q10
      by_cases hzs : z < sz
      · have hzi : (z : Int) < (sz : Int) := by omega
        have HIz := Lib.hid (show (z : Int) ≤ grI ix from by rw [HGR.out]; omega)
        obtain ⟨c_a0, c_a1, c_a2, c_a3, c_a4, c_a5⟩ := six hb_a.out
        go_wp2_with fail
        clear c_a0 c_a1 c_a2 c_a3 c_a4 c_a5
        have hf := sel_fine (i := (z : Int)) Hk.out hval_a.out (Int.not_lt.2 HIz.out)
        have hS := vSelect_any ⟨k, n, ix, 0, .empty, m⟩ _ (z : Int) wr (hl_a.out.to (T := LoV wr.heap.size) (fun b hb => ⟨lr_a.out b hb, rfl⟩))
        rw [hf.1, hf.2.1] at hS
        obtain ⟨u_p, huo⟩ : ∃ u, u = (atE (z : Int) m).u := ⟨_, rfl⟩
        obtain ⟨s_p, hso⟩ : ∃ s, s = (atE (z : Int) m).s := ⟨_, rfl⟩
        rw [← huo, ← hso] at hS
        have HUp := Lib.hid (And.intro huo hso)
        simp only [vav] at hS
        rw [← HE.out] at hS
        have hmok := hl_a.out.1.2.2.2.1
        simp only at hmok
        have hoo := at_ok hmok (z : Int)
        rw [← huo, ← hso] at hoo
        have HOp := Lib.hid (el_ok (sort_i64 HES.out) hoo)
        clear hmok hoo huo hso hf
        refine Calls.mono (hS) ?_
        rintro e v38 ⟨rfl, hw⟩
        replace hb_a := Lib.hid ((hw.block _ lt_a).trans hb_a.out)
        replace lt_a := Nat.lt_of_lt_of_le lt_a hw.size
        replace hb_one := Lib.hid ((hw.block _ lt_one).trans hb_one.out)
        replace lt_one := Nat.lt_of_lt_of_le lt_one hw.size
        replace hb_u := Lib.hid ((hw.block _ lt_u).trans hb_u.out)
        replace lt_u := Nat.lt_of_lt_of_le lt_u hw.size
        replace hl_a := Lib.hid (hl_a.out.to (w' := v38) (T := (MidV v3.heap.size v4.heap.size)) (fun b hb => ⟨hb, hw.block b (lr_a.out b hb)⟩))
        replace lr_a := Lib.hid (show ∀ b, (MidV v3.heap.size v4.heap.size) b → b < v38.heap.size from fun b hb => Nat.lt_of_lt_of_le (lr_a.out b hb) hw.size)
        replace hl_one := Lib.hid (hl_one.out.to (w' := v38) (T := (MidV v16.heap.size v17.heap.size)) (fun b hb => ⟨hb, hw.block b (lr_one.out b hb)⟩))
        replace lr_one := Lib.hid (show ∀ b, (MidV v16.heap.size v17.heap.size) b → b < v38.heap.size from fun b hb => Nat.lt_of_lt_of_le (lr_one.out b hb) hw.size)
        replace hl_u := Lib.hid (hl_u.out.to (w' := v38) (T := (MidV v8.heap.size v9.heap.size)) (fun b hb => ⟨hb, hw.block b (lr_u.out b hb)⟩))
        replace lr_u := Lib.hid (show ∀ b, (MidV v8.heap.size v9.heap.size) b → b < v38.heap.size from fun b hb => Nat.lt_of_lt_of_le (lr_u.out b hb) hw.size)
        replace hB := hB.trans (hw.mono hB.size)
        clear hS
        have bs_p := Lib.hid (show w.heap.size ≤ v38.heap.size from (by have h := hB.size; first | omega | (simp at h; omega)))
        have or_a_p := Lib.hid (show v4.heap.size < v38.heap.size from (by have h := lt_a; first | omega | (simp at h; omega)))
        have or_one_p := Lib.hid (show v17.heap.size < v38.heap.size from (by have h := lt_one; first | omega | (simp at h; omega)))
        have or_u_p := Lib.hid (show v9.heap.size < v38.heap.size from (by have h := lt_u; first | omega | (simp at h; omega)))
        replace hb_a := Lib.hid ((Below.heap_alloc v38 (.cells #[.int .i64 e, .int .i64 n, .int .i64 0, .int .u64 u_p, .string s_p, .slice none 0 0] 35) _ lt_a).trans hb_a.out)
        replace lt_a := Nat.lt_trans lt_a (show v38.heap.size < (v38.alloc (.cells #[.int .i64 e, .int .i64 n, .int .i64 0, .int .u64 u_p, .string s_p, .slice none 0 0] 35)).heap.size by simp)
        replace hb_one := Lib.hid ((Below.heap_alloc v38 (.cells #[.int .i64 e, .int .i64 n, .int .i64 0, .int .u64 u_p, .string s_p, .slice none 0 0] 35) _ lt_one).trans hb_one.out)
        replace lt_one := Nat.lt_trans lt_one (show v38.heap.size < (v38.alloc (.cells #[.int .i64 e, .int .i64 n, .int .i64 0, .int .u64 u_p, .string s_p, .slice none 0 0] 35)).heap.size by simp)
        replace hb_u := Lib.hid ((Below.heap_alloc v38 (.cells #[.int .i64 e, .int .i64 n, .int .i64 0, .int .u64 u_p, .string s_p, .slice none 0 0] 35) _ lt_u).trans hb_u.out)
        replace lt_u := Nat.lt_trans lt_u (show v38.heap.size < (v38.alloc (.cells #[.int .i64 e, .int .i64 n, .int .i64 0, .int .u64 u_p, .string s_p, .slice none 0 0] 35)).heap.size by simp)
        replace hl_a := Lib.hid (hl_a.out.to (w' := (v38.alloc (.cells #[.int .i64 e, .int .i64 n, .int .i64 0, .int .u64 u_p, .string s_p, .slice none 0 0] 35))) (T := (MidV v3.heap.size v4.heap.size)) (fun b hb => ⟨hb, Below.heap_alloc v38 (.cells #[.int .i64 e, .int .i64 n, .int .i64 0, .int .u64 u_p, .string s_p, .slice none 0 0] 35) b (lr_a.out b hb)⟩))
        replace lr_a := Lib.hid (show ∀ b, (MidV v3.heap.size v4.heap.size) b → b < (v38.alloc (.cells #[.int .i64 e, .int .i64 n, .int .i64 0, .int .u64 u_p, .string s_p, .slice none 0 0] 35)).heap.size from fun b hb => Nat.lt_trans (lr_a.out b hb) (by simp))
        replace hl_one := Lib.hid (hl_one.out.to (w' := (v38.alloc (.cells #[.int .i64 e, .int .i64 n, .int .i64 0, .int .u64 u_p, .string s_p, .slice none 0 0] 35))) (T := (MidV v16.heap.size v17.heap.size)) (fun b hb => ⟨hb, Below.heap_alloc v38 (.cells #[.int .i64 e, .int .i64 n, .int .i64 0, .int .u64 u_p, .string s_p, .slice none 0 0] 35) b (lr_one.out b hb)⟩))
        replace lr_one := Lib.hid (show ∀ b, (MidV v16.heap.size v17.heap.size) b → b < (v38.alloc (.cells #[.int .i64 e, .int .i64 n, .int .i64 0, .int .u64 u_p, .string s_p, .slice none 0 0] 35)).heap.size from fun b hb => Nat.lt_trans (lr_one.out b hb) (by simp))
        replace hl_u := Lib.hid (hl_u.out.to (w' := (v38.alloc (.cells #[.int .i64 e, .int .i64 n, .int .i64 0, .int .u64 u_p, .string s_p, .slice none 0 0] 35))) (T := (MidV v8.heap.size v9.heap.size)) (fun b hb => ⟨hb, Below.heap_alloc v38 (.cells #[.int .i64 e, .int .i64 n, .int .i64 0, .int .u64 u_p, .string s_p, .slice none 0 0] 35) b (lr_u.out b hb)⟩))
        replace lr_u := Lib.hid (show ∀ b, (MidV v8.heap.size v9.heap.size) b → b < (v38.alloc (.cells #[.int .i64 e, .int .i64 n, .int .i64 0, .int .u64 u_p, .string s_p, .slice none 0 0] 35)).heap.size from fun b hb => Nat.lt_trans (lr_u.out b hb) (by simp))
        have hb_p := Lib.hid (heap_alloc_new_at v38 (.cells #[.int .i64 e, .int .i64 n, .int .i64 0, .int .u64 u_p, .string s_p, .slice none 0 0] 35) (n := v38.heap.size) (by simp))
        have lt_p : v38.heap.size < (v38.alloc (.cells #[.int .i64 e, .int .i64 n, .int .i64 0, .int .u64 u_p, .string s_p, .slice none 0 0] 35)).heap.size := by simp
        replace hB := hB.alloc hB.size (.cells #[.int .i64 e, .int .i64 n, .int .i64 0, .int .u64 u_p, .string s_p, .slice none 0 0] 35)
        obtain ⟨c_p0, c_p1, c_p2, c_p3, c_p4, c_p5⟩ := six hb_p.out
        obtain ⟨c_one0, c_one1, c_one2, c_one3, c_one4, c_one5⟩ := six hb_one.out
        go_wp2_with fail
        clear c_p0 c_p1 c_p2 c_p3 c_p4 c_p5
        clear c_one0 c_one1 c_one2 c_one3 c_one4 c_one5
        generalize (v38.alloc (.cells #[.int .i64 e, .int .i64 n, .int .i64 0, .int .u64 u_p, .string s_p, .slice none 0 0] 35)) = v40 at *
        have hf := sel_fine (i := (z : Int)) Hk.out hval_one.out (Int.not_lt.2 HIz.out)
        have hS := vSelect_any ⟨k, n, ix, 0, .empty, p_one⟩ _ (z : Int) v40 (hl_one.out.to (T := LoV v40.heap.size) (fun b hb => ⟨lr_one.out b hb, rfl⟩))
        rw [hf.1, hf.2.1] at hS
        obtain ⟨u_q, huo⟩ : ∃ u, u = (atE (z : Int) p_one).u := ⟨_, rfl⟩
        obtain ⟨s_q, hso⟩ : ∃ s, s = (atE (z : Int) p_one).s := ⟨_, rfl⟩
        rw [← huo, ← hso] at hS
        have HUq := Lib.hid (And.intro huo hso)
        simp only [vav] at hS
        rw [← HE.out] at hS
        have hmok := hl_one.out.1.2.2.2.1
        simp only at hmok
        have hoo := at_ok hmok (z : Int)
        rw [← huo, ← hso] at hoo
        have HOq := Lib.hid (el_ok (sort_i64 HES.out) hoo)
        clear hmok hoo huo hso hf
        refine Calls.mono (hS) ?_
        rintro e v41 ⟨rfl, hw⟩
        replace hb_a := Lib.hid ((hw.block _ lt_a).trans hb_a.out)
        replace lt_a := Nat.lt_of_lt_of_le lt_a hw.size
        replace hb_one := Lib.hid ((hw.block _ lt_one).trans hb_one.out)
        replace lt_one := Nat.lt_of_lt_of_le lt_one hw.size
        replace hb_u := Lib.hid ((hw.block _ lt_u).trans hb_u.out)
        replace lt_u := Nat.lt_of_lt_of_le lt_u hw.size
        replace hb_p := Lib.hid ((hw.block _ lt_p).trans hb_p.out)
        replace lt_p := Nat.lt_of_lt_of_le lt_p hw.size
        replace hl_a := Lib.hid (hl_a.out.to (w' := v41) (T := (MidV v3.heap.size v4.heap.size)) (fun b hb => ⟨hb, hw.block b (lr_a.out b hb)⟩))
        replace lr_a := Lib.hid (show ∀ b, (MidV v3.heap.size v4.heap.size) b → b < v41.heap.size from fun b hb => Nat.lt_of_lt_of_le (lr_a.out b hb) hw.size)
        replace hl_one := Lib.hid (hl_one.out.to (w' := v41) (T := (MidV v16.heap.size v17.heap.size)) (fun b hb => ⟨hb, hw.block b (lr_one.out b hb)⟩))
        replace lr_one := Lib.hid (show ∀ b, (MidV v16.heap.size v17.heap.size) b → b < v41.heap.size from fun b hb => Nat.lt_of_lt_of_le (lr_one.out b hb) hw.size)
        replace hl_u := Lib.hid (hl_u.out.to (w' := v41) (T := (MidV v8.heap.size v9.heap.size)) (fun b hb => ⟨hb, hw.block b (lr_u.out b hb)⟩))
        replace lr_u := Lib.hid (show ∀ b, (MidV v8.heap.size v9.heap.size) b → b < v41.heap.size from fun b hb => Nat.lt_of_lt_of_le (lr_u.out b hb) hw.size)
        replace hB := hB.trans (hw.mono hB.size)
        clear hS
        have bs_q := Lib.hid (show w.heap.size ≤ v41.heap.size from (by have h := hB.size; first | omega | (simp at h; omega)))
        have or_a_q := Lib.hid (show v4.heap.size < v41.heap.size from (by have h := lt_a; first | omega | (simp at h; omega)))
        have or_one_q := Lib.hid (show v17.heap.size < v41.heap.size from (by have h := lt_one; first | omega | (simp at h; omega)))
        have or_u_q := Lib.hid (show v9.heap.size < v41.heap.size from (by have h := lt_u; first | omega | (simp at h; omega)))
        have or_p_q := Lib.hid (show v38.heap.size < v41.heap.size from (by have h := lt_p; first | omega | (simp at h; omega)))
        replace hb_a := Lib.hid ((Below.heap_alloc v41 (.cells #[.int .i64 e, .int .i64 n, .int .i64 0, .int .u64 u_q, .string s_q, .slice none 0 0] 35) _ lt_a).trans hb_a.out)
        replace lt_a := Nat.lt_trans lt_a (show v41.heap.size < (v41.alloc (.cells #[.int .i64 e, .int .i64 n, .int .i64 0, .int .u64 u_q, .string s_q, .slice none 0 0] 35)).heap.size by simp)
        replace hb_one := Lib.hid ((Below.heap_alloc v41 (.cells #[.int .i64 e, .int .i64 n, .int .i64 0, .int .u64 u_q, .string s_q, .slice none 0 0] 35) _ lt_one).trans hb_one.out)
        replace lt_one := Nat.lt_trans lt_one (show v41.heap.size < (v41.alloc (.cells #[.int .i64 e, .int .i64 n, .int .i64 0, .int .u64 u_q, .string s_q, .slice none 0 0] 35)).heap.size by simp)
        replace hb_u := Lib.hid ((Below.heap_alloc v41 (.cells #[.int .i64 e, .int .i64 n, .int .i64 0, .int .u64 u_q, .string s_q, .slice none 0 0] 35) _ lt_u).trans hb_u.out)
        replace lt_u := Nat.lt_trans lt_u (show v41.heap.size < (v41.alloc (.cells #[.int .i64 e, .int .i64 n, .int .i64 0, .int .u64 u_q, .string s_q, .slice none 0 0] 35)).heap.size by simp)
        replace hb_p := Lib.hid ((Below.heap_alloc v41 (.cells #[.int .i64 e, .int .i64 n, .int .i64 0, .int .u64 u_q, .string s_q, .slice none 0 0] 35) _ lt_p).trans hb_p.out)
        replace lt_p := Nat.lt_trans lt_p (show v41.heap.size < (v41.alloc (.cells #[.int .i64 e, .int .i64 n, .int .i64 0, .int .u64 u_q, .string s_q, .slice none 0 0] 35)).heap.size by simp)
        replace hl_a := Lib.hid (hl_a.out.to (w' := (v41.alloc (.cells #[.int .i64 e, .int .i64 n, .int .i64 0, .int .u64 u_q, .string s_q, .slice none 0 0] 35))) (T := (MidV v3.heap.size v4.heap.size)) (fun b hb => ⟨hb, Below.heap_alloc v41 (.cells #[.int .i64 e, .int .i64 n, .int .i64 0, .int .u64 u_q, .string s_q, .slice none 0 0] 35) b (lr_a.out b hb)⟩))
        replace lr_a := Lib.hid (show ∀ b, (MidV v3.heap.size v4.heap.size) b → b < (v41.alloc (.cells #[.int .i64 e, .int .i64 n, .int .i64 0, .int .u64 u_q, .string s_q, .slice none 0 0] 35)).heap.size from fun b hb => Nat.lt_trans (lr_a.out b hb) (by simp))
        replace hl_one := Lib.hid (hl_one.out.to (w' := (v41.alloc (.cells #[.int .i64 e, .int .i64 n, .int .i64 0, .int .u64 u_q, .string s_q, .slice none 0 0] 35))) (T := (MidV v16.heap.size v17.heap.size)) (fun b hb => ⟨hb, Below.heap_alloc v41 (.cells #[.int .i64 e, .int .i64 n, .int .i64 0, .int .u64 u_q, .string s_q, .slice none 0 0] 35) b (lr_one.out b hb)⟩))
        replace lr_one := Lib.hid (show ∀ b, (MidV v16.heap.size v17.heap.size) b → b < (v41.alloc (.cells #[.int .i64 e, .int .i64 n, .int .i64 0, .int .u64 u_q, .string s_q, .slice none 0 0] 35)).heap.size from fun b hb => Nat.lt_trans (lr_one.out b hb) (by simp))
        replace hl_u := Lib.hid (hl_u.out.to (w' := (v41.alloc (.cells #[.int .i64 e, .int .i64 n, .int .i64 0, .int .u64 u_q, .string s_q, .slice none 0 0] 35))) (T := (MidV v8.heap.size v9.heap.size)) (fun b hb => ⟨hb, Below.heap_alloc v41 (.cells #[.int .i64 e, .int .i64 n, .int .i64 0, .int .u64 u_q, .string s_q, .slice none 0 0] 35) b (lr_u.out b hb)⟩))
        replace lr_u := Lib.hid (show ∀ b, (MidV v8.heap.size v9.heap.size) b → b < (v41.alloc (.cells #[.int .i64 e, .int .i64 n, .int .i64 0, .int .u64 u_q, .string s_q, .slice none 0 0] 35)).heap.size from fun b hb => Nat.lt_trans (lr_u.out b hb) (by simp))
        have hb_q := Lib.hid (heap_alloc_new_at v41 (.cells #[.int .i64 e, .int .i64 n, .int .i64 0, .int .u64 u_q, .string s_q, .slice none 0 0] 35) (n := v41.heap.size) (by simp))
        have lt_q : v41.heap.size < (v41.alloc (.cells #[.int .i64 e, .int .i64 n, .int .i64 0, .int .u64 u_q, .string s_q, .slice none 0 0] 35)).heap.size := by simp
        replace hB := hB.alloc hB.size (.cells #[.int .i64 e, .int .i64 n, .int .i64 0, .int .u64 u_q, .string s_q, .slice none 0 0] 35)
        by_cases hzx : z = x
        · have gzx : ((z : Int) == (x : Int)) = true := by rw [hzx]; simp
          have hzx2 := Lib.hid hzx
          clear hzx
          obtain ⟨c_p0, c_p1, c_p2, c_p3, c_p4, c_p5⟩ := six hb_p.out
          obtain ⟨c_q0, c_q1, c_q2, c_q3, c_q4, c_q5⟩ := six hb_q.out
          obtain ⟨d_u0, d_u1, d_u2, d_u3, d_u4, d_u5⟩ := six ((Below.heap_alloc (v41.alloc (.cells #[.int .i64 e, .int .i64 n, .int .i64 0, .int .u64 u_q, .string s_q, .slice none 0 0] 35)) (.cells #[.int .i64 e, .int .i64 n, .int .i64 0, .int .u64 u_p, .string s_p, .slice none 0 0] 35) (v9.heap.size) lt_u).trans hb_u.out)
          have bs_t := Lib.hid (show w.heap.size ≤ v41.heap.size + 1 from (by have h := hB.size; first | omega | (simp at h; omega)))
          have or_a_t := Lib.hid (show v4.heap.size < v41.heap.size + 1 from (by have h := lt_a; first | omega | (simp at h; omega)))
          have or_one_t := Lib.hid (show v17.heap.size < v41.heap.size + 1 from (by have h := lt_one; first | omega | (simp at h; omega)))
          have or_u_t := Lib.hid (show v9.heap.size < v41.heap.size + 1 from (by have h := lt_u; first | omega | (simp at h; omega)))
          have or_p_t := Lib.hid (show v38.heap.size < v41.heap.size + 1 from (by have h := lt_p; first | omega | (simp at h; omega)))
          have or_q_t := Lib.hid (show v41.heap.size < v41.heap.size + 1 from (by have h := lt_q; first | omega | (simp at h; omega)))
          replace hb_a := Lib.hid ((Below.heap_alloc (v41.alloc (.cells #[.int .i64 e, .int .i64 n, .int .i64 0, .int .u64 u_q, .string s_q, .slice none 0 0] 35)) (.cells #[.int .i64 e, .int .i64 n, .int .i64 0, .int .u64 u_u, .string s_u, .slice A_u n_u c_u] 35) _ lt_a).trans hb_a.out)
          replace lt_a := Nat.lt_trans lt_a (show (v41.alloc (.cells #[.int .i64 e, .int .i64 n, .int .i64 0, .int .u64 u_q, .string s_q, .slice none 0 0] 35)).heap.size < ((v41.alloc (.cells #[.int .i64 e, .int .i64 n, .int .i64 0, .int .u64 u_q, .string s_q, .slice none 0 0] 35)).alloc (.cells #[.int .i64 e, .int .i64 n, .int .i64 0, .int .u64 u_u, .string s_u, .slice A_u n_u c_u] 35)).heap.size by simp)
          replace hb_one := Lib.hid ((Below.heap_alloc (v41.alloc (.cells #[.int .i64 e, .int .i64 n, .int .i64 0, .int .u64 u_q, .string s_q, .slice none 0 0] 35)) (.cells #[.int .i64 e, .int .i64 n, .int .i64 0, .int .u64 u_u, .string s_u, .slice A_u n_u c_u] 35) _ lt_one).trans hb_one.out)
          replace lt_one := Nat.lt_trans lt_one (show (v41.alloc (.cells #[.int .i64 e, .int .i64 n, .int .i64 0, .int .u64 u_q, .string s_q, .slice none 0 0] 35)).heap.size < ((v41.alloc (.cells #[.int .i64 e, .int .i64 n, .int .i64 0, .int .u64 u_q, .string s_q, .slice none 0 0] 35)).alloc (.cells #[.int .i64 e, .int .i64 n, .int .i64 0, .int .u64 u_u, .string s_u, .slice A_u n_u c_u] 35)).heap.size by simp)
          replace hb_u := Lib.hid ((Below.heap_alloc (v41.alloc (.cells #[.int .i64 e, .int .i64 n, .int .i64 0, .int .u64 u_q, .string s_q, .slice none 0 0] 35)) (.cells #[.int .i64 e, .int .i64 n, .int .i64 0, .int .u64 u_u, .string s_u, .slice A_u n_u c_u] 35) _ lt_u).trans hb_u.out)
          replace lt_u := Nat.lt_trans lt_u (show (v41.alloc (.cells #[.int .i64 e, .int .i64 n, .int .i64 0, .int .u64 u_q, .string s_q, .slice none 0 0] 35)).heap.size < ((v41.alloc (.cells #[.int .i64 e, .int .i64 n, .int .i64 0, .int .u64 u_q, .string s_q, .slice none 0 0] 35)).alloc (.cells #[.int .i64 e, .int .i64 n, .int .i64 0, .int .u64 u_u, .string s_u, .slice A_u n_u c_u] 35)).heap.size by simp)
          replace hb_p := Lib.hid ((Below.heap_alloc (v41.alloc (.cells #[.int .i64 e, .int .i64 n, .int .i64 0, .int .u64 u_q, .string s_q, .slice none 0 0] 35)) (.cells #[.int .i64 e, .int .i64 n, .int .i64 0, .int .u64 u_u, .string s_u, .slice A_u n_u c_u] 35) _ lt_p).trans hb_p.out)
          replace lt_p := Nat.lt_trans lt_p (show (v41.alloc (.cells #[.int .i64 e, .int .i64 n, .int .i64 0, .int .u64 u_q, .string s_q, .slice none 0 0] 35)).heap.size < ((v41.alloc (.cells #[.int .i64 e, .int .i64 n, .int .i64 0, .int .u64 u_q, .string s_q, .slice none 0 0] 35)).alloc (.cells #[.int .i64 e, .int .i64 n, .int .i64 0, .int .u64 u_u, .string s_u, .slice A_u n_u c_u] 35)).heap.size by simp)
          replace hb_q := Lib.hid ((Below.heap_alloc (v41.alloc (.cells #[.int .i64 e, .int .i64 n, .int .i64 0, .int .u64 u_q, .string s_q, .slice none 0 0] 35)) (.cells #[.int .i64 e, .int .i64 n, .int .i64 0, .int .u64 u_u, .string s_u, .slice A_u n_u c_u] 35) _ lt_q).trans hb_q.out)
          replace lt_q := Nat.lt_trans lt_q (show (v41.alloc (.cells #[.int .i64 e, .int .i64 n, .int .i64 0, .int .u64 u_q, .string s_q, .slice none 0 0] 35)).heap.size < ((v41.alloc (.cells #[.int .i64 e, .int .i64 n, .int .i64 0, .int .u64 u_q, .string s_q, .slice none 0 0] 35)).alloc (.cells #[.int .i64 e, .int .i64 n, .int .i64 0, .int .u64 u_u, .string s_u, .slice A_u n_u c_u] 35)).heap.size by simp)
          replace hl_a := Lib.hid (hl_a.out.to (w' := ((v41.alloc (.cells #[.int .i64 e, .int .i64 n, .int .i64 0, .int .u64 u_q, .string s_q, .slice none 0 0] 35)).alloc (.cells #[.int .i64 e, .int .i64 n, .int .i64 0, .int .u64 u_u, .string s_u, .slice A_u n_u c_u] 35))) (T := (MidV v3.heap.size v4.heap.size)) (fun b hb => ⟨hb, Below.heap_alloc (v41.alloc (.cells #[.int .i64 e, .int .i64 n, .int .i64 0, .int .u64 u_q, .string s_q, .slice none 0 0] 35)) (.cells #[.int .i64 e, .int .i64 n, .int .i64 0, .int .u64 u_u, .string s_u, .slice A_u n_u c_u] 35) b (lr_a.out b hb)⟩))
          replace lr_a := Lib.hid (show ∀ b, (MidV v3.heap.size v4.heap.size) b → b < ((v41.alloc (.cells #[.int .i64 e, .int .i64 n, .int .i64 0, .int .u64 u_q, .string s_q, .slice none 0 0] 35)).alloc (.cells #[.int .i64 e, .int .i64 n, .int .i64 0, .int .u64 u_u, .string s_u, .slice A_u n_u c_u] 35)).heap.size from fun b hb => Nat.lt_trans (lr_a.out b hb) (by simp))
          replace hl_one := Lib.hid (hl_one.out.to (w' := ((v41.alloc (.cells #[.int .i64 e, .int .i64 n, .int .i64 0, .int .u64 u_q, .string s_q, .slice none 0 0] 35)).alloc (.cells #[.int .i64 e, .int .i64 n, .int .i64 0, .int .u64 u_u, .string s_u, .slice A_u n_u c_u] 35))) (T := (MidV v16.heap.size v17.heap.size)) (fun b hb => ⟨hb, Below.heap_alloc (v41.alloc (.cells #[.int .i64 e, .int .i64 n, .int .i64 0, .int .u64 u_q, .string s_q, .slice none 0 0] 35)) (.cells #[.int .i64 e, .int .i64 n, .int .i64 0, .int .u64 u_u, .string s_u, .slice A_u n_u c_u] 35) b (lr_one.out b hb)⟩))
          replace lr_one := Lib.hid (show ∀ b, (MidV v16.heap.size v17.heap.size) b → b < ((v41.alloc (.cells #[.int .i64 e, .int .i64 n, .int .i64 0, .int .u64 u_q, .string s_q, .slice none 0 0] 35)).alloc (.cells #[.int .i64 e, .int .i64 n, .int .i64 0, .int .u64 u_u, .string s_u, .slice A_u n_u c_u] 35)).heap.size from fun b hb => Nat.lt_trans (lr_one.out b hb) (by simp))
          replace hl_u := Lib.hid (hl_u.out.to (w' := ((v41.alloc (.cells #[.int .i64 e, .int .i64 n, .int .i64 0, .int .u64 u_q, .string s_q, .slice none 0 0] 35)).alloc (.cells #[.int .i64 e, .int .i64 n, .int .i64 0, .int .u64 u_u, .string s_u, .slice A_u n_u c_u] 35))) (T := (MidV v8.heap.size v9.heap.size)) (fun b hb => ⟨hb, Below.heap_alloc (v41.alloc (.cells #[.int .i64 e, .int .i64 n, .int .i64 0, .int .u64 u_q, .string s_q, .slice none 0 0] 35)) (.cells #[.int .i64 e, .int .i64 n, .int .i64 0, .int .u64 u_u, .string s_u, .slice A_u n_u c_u] 35) b (lr_u.out b hb)⟩))
          replace lr_u := Lib.hid (show ∀ b, (MidV v8.heap.size v9.heap.size) b → b < ((v41.alloc (.cells #[.int .i64 e, .int .i64 n, .int .i64 0, .int .u64 u_q, .string s_q, .slice none 0 0] 35)).alloc (.cells #[.int .i64 e, .int .i64 n, .int .i64 0, .int .u64 u_u, .string s_u, .slice A_u n_u c_u] 35)).heap.size from fun b hb => Nat.lt_trans (lr_u.out b hb) (by simp))
          have hb_t := Lib.hid (heap_alloc_new_at (v41.alloc (.cells #[.int .i64 e, .int .i64 n, .int .i64 0, .int .u64 u_q, .string s_q, .slice none 0 0] 35)) (.cells #[.int .i64 e, .int .i64 n, .int .i64 0, .int .u64 u_u, .string s_u, .slice A_u n_u c_u] 35) (n := v41.heap.size + 1) (by simp))
          have lt_t : v41.heap.size + 1 < ((v41.alloc (.cells #[.int .i64 e, .int .i64 n, .int .i64 0, .int .u64 u_q, .string s_q, .slice none 0 0] 35)).alloc (.cells #[.int .i64 e, .int .i64 n, .int .i64 0, .int .u64 u_u, .string s_u, .slice A_u n_u c_u] 35)).heap.size := by simp
          replace hB := hB.alloc hB.size (.cells #[.int .i64 e, .int .i64 n, .int .i64 0, .int .u64 u_u, .string s_u, .slice A_u n_u c_u] 35)
          obtain ⟨f_q0, f_q1, f_q2, f_q3, f_q4, f_q5⟩ := six hb_q.out
          obtain ⟨f_t0, f_t1, f_t2, f_t3, f_t4, f_t5⟩ := six hb_t.out
          go_wp2_with fail
          clear c_p0 c_p1 c_p2 c_p3 c_p4 c_p5 c_q0 c_q1 c_q2 c_q3 c_q4 c_q5 d_u0 d_u1 d_u2 d_u3 d_u4 d_u5 f_q0 f_q1 f_q2 f_q3 f_q4 f_q5 f_t0 f_t1 f_t2 f_t3 f_t4 f_t5
          generalize ((v41.alloc (.cells #[.int .i64 e, .int .i64 n, .int .i64 0, .int .u64 u_q, .string s_q, .slice none 0 0] 35)).alloc (.cells #[.int .i64 e, .int .i64 n, .int .i64 0, .int .u64 u_u, .string s_u, .slice A_u n_u c_u] 35)) = v44 at *
          have hS := vCompare_any ⟨e, n, 0, u_q, s_q, []⟩ ⟨e, n, 0, u_u, s_u, []⟩ _ _ v44 (elVal HOq.out) (hl_u.out.to (T := LoV v44.heap.size) (fun b hb => ⟨lr_u.out b hb, rfl⟩))
          rw [(vaCmp_zero _ _).2 (by
            have h1 := HQ1.out (z : Int)
            rw [if_pos (by rw [hzx2.out]), if_pos (by rw [hzx2.out])] at h1
            rw [HUq.out.1, HUq.out.2, h1.1, h1.2])] at hS
          refine Calls.mono (hS) ?_
          rintro e v45 ⟨rfl, hw⟩
          replace hb_a := Lib.hid ((hw.block _ lt_a).trans hb_a.out)
          replace lt_a := Nat.lt_of_lt_of_le lt_a hw.size
          replace hb_one := Lib.hid ((hw.block _ lt_one).trans hb_one.out)
          replace lt_one := Nat.lt_of_lt_of_le lt_one hw.size
          replace hb_u := Lib.hid ((hw.block _ lt_u).trans hb_u.out)
          replace lt_u := Nat.lt_of_lt_of_le lt_u hw.size
          replace hb_p := Lib.hid ((hw.block _ lt_p).trans hb_p.out)
          replace lt_p := Nat.lt_of_lt_of_le lt_p hw.size
          replace hb_q := Lib.hid ((hw.block _ lt_q).trans hb_q.out)
          replace lt_q := Nat.lt_of_lt_of_le lt_q hw.size
          replace hb_t := Lib.hid ((hw.block _ lt_t).trans hb_t.out)
          replace lt_t := Nat.lt_of_lt_of_le lt_t hw.size
          replace hl_a := Lib.hid (hl_a.out.to (w' := v45) (T := (MidV v3.heap.size v4.heap.size)) (fun b hb => ⟨hb, hw.block b (lr_a.out b hb)⟩))
          replace lr_a := Lib.hid (show ∀ b, (MidV v3.heap.size v4.heap.size) b → b < v45.heap.size from fun b hb => Nat.lt_of_lt_of_le (lr_a.out b hb) hw.size)
          replace hl_one := Lib.hid (hl_one.out.to (w' := v45) (T := (MidV v16.heap.size v17.heap.size)) (fun b hb => ⟨hb, hw.block b (lr_one.out b hb)⟩))
          replace lr_one := Lib.hid (show ∀ b, (MidV v16.heap.size v17.heap.size) b → b < v45.heap.size from fun b hb => Nat.lt_of_lt_of_le (lr_one.out b hb) hw.size)
          replace hl_u := Lib.hid (hl_u.out.to (w' := v45) (T := (MidV v8.heap.size v9.heap.size)) (fun b hb => ⟨hb, hw.block b (lr_u.out b hb)⟩))
          replace lr_u := Lib.hid (show ∀ b, (MidV v8.heap.size v9.heap.size) b → b < v45.heap.size from fun b hb => Nat.lt_of_lt_of_le (lr_u.out b hb) hw.size)
          replace hB := hB.trans (hw.mono hB.size)
          clear hS
          go_wp2_with fail
          go_roundw
          case rel => exact ⟨z + 1, by omega, by go_num, Lib.hid ⟨hb_a.out, hb_one.out, hb_u.out, ⟨lt_a, lt_one, lt_u⟩, hl_a.out, hl_one.out, hl_u.out, lr_a.out, lr_one.out, lr_u.out⟩, hB⟩
          case measure => simp [intOf]; omega
        · have gzx : ((z : Int) == (x : Int)) = false := by rw [beq_eq_false_iff_ne]; omega
          have hzx2 := Lib.hid (show ¬ (z : Int) = (x : Int) from by omega)
          clear hzx
          obtain ⟨c_p0, c_p1, c_p2, c_p3, c_p4, c_p5⟩ := six hb_p.out
          obtain ⟨c_q0, c_q1, c_q2, c_q3, c_q4, c_q5⟩ := six hb_q.out
          have bs_t := Lib.hid (show w.heap.size ≤ v41.heap.size + 1 from (by have h := hB.size; first | omega | (simp at h; omega)))
          have or_a_t := Lib.hid (show v4.heap.size < v41.heap.size + 1 from (by have h := lt_a; first | omega | (simp at h; omega)))
          have or_one_t := Lib.hid (show v17.heap.size < v41.heap.size + 1 from (by have h := lt_one; first | omega | (simp at h; omega)))
          have or_u_t := Lib.hid (show v9.heap.size < v41.heap.size + 1 from (by have h := lt_u; first | omega | (simp at h; omega)))
          have or_p_t := Lib.hid (show v38.heap.size < v41.heap.size + 1 from (by have h := lt_p; first | omega | (simp at h; omega)))
          have or_q_t := Lib.hid (show v41.heap.size < v41.heap.size + 1 from (by have h := lt_q; first | omega | (simp at h; omega)))
          replace hb_a := Lib.hid ((Below.heap_alloc (v41.alloc (.cells #[.int .i64 e, .int .i64 n, .int .i64 0, .int .u64 u_q, .string s_q, .slice none 0 0] 35)) (.cells #[.int .i64 e, .int .i64 n, .int .i64 0, .int .u64 u_p, .string s_p, .slice none 0 0] 35) _ lt_a).trans hb_a.out)
          replace lt_a := Nat.lt_trans lt_a (show (v41.alloc (.cells #[.int .i64 e, .int .i64 n, .int .i64 0, .int .u64 u_q, .string s_q, .slice none 0 0] 35)).heap.size < ((v41.alloc (.cells #[.int .i64 e, .int .i64 n, .int .i64 0, .int .u64 u_q, .string s_q, .slice none 0 0] 35)).alloc (.cells #[.int .i64 e, .int .i64 n, .int .i64 0, .int .u64 u_p, .string s_p, .slice none 0 0] 35)).heap.size by simp)
          replace hb_one := Lib.hid ((Below.heap_alloc (v41.alloc (.cells #[.int .i64 e, .int .i64 n, .int .i64 0, .int .u64 u_q, .string s_q, .slice none 0 0] 35)) (.cells #[.int .i64 e, .int .i64 n, .int .i64 0, .int .u64 u_p, .string s_p, .slice none 0 0] 35) _ lt_one).trans hb_one.out)
          replace lt_one := Nat.lt_trans lt_one (show (v41.alloc (.cells #[.int .i64 e, .int .i64 n, .int .i64 0, .int .u64 u_q, .string s_q, .slice none 0 0] 35)).heap.size < ((v41.alloc (.cells #[.int .i64 e, .int .i64 n, .int .i64 0, .int .u64 u_q, .string s_q, .slice none 0 0] 35)).alloc (.cells #[.int .i64 e, .int .i64 n, .int .i64 0, .int .u64 u_p, .string s_p, .slice none 0 0] 35)).heap.size by simp)
          replace hb_u := Lib.hid ((Below.heap_alloc (v41.alloc (.cells #[.int .i64 e, .int .i64 n, .int .i64 0, .int .u64 u_q, .string s_q, .slice none 0 0] 35)) (.cells #[.int .i64 e, .int .i64 n, .int .i64 0, .int .u64 u_p, .string s_p, .slice none 0 0] 35) _ lt_u).trans hb_u.out)
          replace lt_u := Nat.lt_trans lt_u (show (v41.alloc (.cells #[.int .i64 e, .int .i64 n, .int .i64 0, .int .u64 u_q, .string s_q, .slice none 0 0] 35)).heap.size < ((v41.alloc (.cells #[.int .i64 e, .int .i64 n, .int .i64 0, .int .u64 u_q, .string s_q, .slice none 0 0] 35)).alloc (.cells #[.int .i64 e, .int .i64 n, .int .i64 0, .int .u64 u_p, .string s_p, .slice none 0 0] 35)).heap.size by simp)
          replace hb_p := Lib.hid ((Below.heap_alloc (v41.alloc (.cells #[.int .i64 e, .int .i64 n, .int .i64 0, .int .u64 u_q, .string s_q, .slice none 0 0] 35)) (.cells #[.int .i64 e, .int .i64 n, .int .i64 0, .int .u64 u_p, .string s_p, .slice none 0 0] 35) _ lt_p).trans hb_p.out)
          replace lt_p := Nat.lt_trans lt_p (show (v41.alloc (.cells #[.int .i64 e, .int .i64 n, .int .i64 0, .int .u64 u_q, .string s_q, .slice none 0 0] 35)).heap.size < ((v41.alloc (.cells #[.int .i64 e, .int .i64 n, .int .i64 0, .int .u64 u_q, .string s_q, .slice none 0 0] 35)).alloc (.cells #[.int .i64 e, .int .i64 n, .int .i64 0, .int .u64 u_p, .string s_p, .slice none 0 0] 35)).heap.size by simp)
          replace hb_q := Lib.hid ((Below.heap_alloc (v41.alloc (.cells #[.int .i64 e, .int .i64 n, .int .i64 0, .int .u64 u_q, .string s_q, .slice none 0 0] 35)) (.cells #[.int .i64 e, .int .i64 n, .int .i64 0, .int .u64 u_p, .string s_p, .slice none 0 0] 35) _ lt_q).trans hb_q.out)
          replace lt_q := Nat.lt_trans lt_q (show (v41.alloc (.cells #[.int .i64 e, .int .i64 n, .int .i64 0, .int .u64 u_q, .string s_q, .slice none 0 0] 35)).heap.size < ((v41.alloc (.cells #[.int .i64 e, .int .i64 n, .int .i64 0, .int .u64 u_q, .string s_q, .slice none 0 0] 35)).alloc (.cells #[.int .i64 e, .int .i64 n, .int .i64 0, .int .u64 u_p, .string s_p, .slice none 0 0] 35)).heap.size by simp)
          replace hl_a := Lib.hid (hl_a.out.to (w' := ((v41.alloc (.cells #[.int .i64 e, .int .i64 n, .int .i64 0, .int .u64 u_q, .string s_q, .slice none 0 0] 35)).alloc (.cells #[.int .i64 e, .int .i64 n, .int .i64 0, .int .u64 u_p, .string s_p, .slice none 0 0] 35))) (T := (MidV v3.heap.size v4.heap.size)) (fun b hb => ⟨hb, Below.heap_alloc (v41.alloc (.cells #[.int .i64 e, .int .i64 n, .int .i64 0, .int .u64 u_q, .string s_q, .slice none 0 0] 35)) (.cells #[.int .i64 e, .int .i64 n, .int .i64 0, .int .u64 u_p, .string s_p, .slice none 0 0] 35) b (lr_a.out b hb)⟩))
          replace lr_a := Lib.hid (show ∀ b, (MidV v3.heap.size v4.heap.size) b → b < ((v41.alloc (.cells #[.int .i64 e, .int .i64 n, .int .i64 0, .int .u64 u_q, .string s_q, .slice none 0 0] 35)).alloc (.cells #[.int .i64 e, .int .i64 n, .int .i64 0, .int .u64 u_p, .string s_p, .slice none 0 0] 35)).heap.size from fun b hb => Nat.lt_trans (lr_a.out b hb) (by simp))
          replace hl_one := Lib.hid (hl_one.out.to (w' := ((v41.alloc (.cells #[.int .i64 e, .int .i64 n, .int .i64 0, .int .u64 u_q, .string s_q, .slice none 0 0] 35)).alloc (.cells #[.int .i64 e, .int .i64 n, .int .i64 0, .int .u64 u_p, .string s_p, .slice none 0 0] 35))) (T := (MidV v16.heap.size v17.heap.size)) (fun b hb => ⟨hb, Below.heap_alloc (v41.alloc (.cells #[.int .i64 e, .int .i64 n, .int .i64 0, .int .u64 u_q, .string s_q, .slice none 0 0] 35)) (.cells #[.int .i64 e, .int .i64 n, .int .i64 0, .int .u64 u_p, .string s_p, .slice none 0 0] 35) b (lr_one.out b hb)⟩))
          replace lr_one := Lib.hid (show ∀ b, (MidV v16.heap.size v17.heap.size) b → b < ((v41.alloc (.cells #[.int .i64 e, .int .i64 n, .int .i64 0, .int .u64 u_q, .string s_q, .slice none 0 0] 35)).alloc (.cells #[.int .i64 e, .int .i64 n, .int .i64 0, .int .u64 u_p, .string s_p, .slice none 0 0] 35)).heap.size from fun b hb => Nat.lt_trans (lr_one.out b hb) (by simp))
          replace hl_u := Lib.hid (hl_u.out.to (w' := ((v41.alloc (.cells #[.int .i64 e, .int .i64 n, .int .i64 0, .int .u64 u_q, .string s_q, .slice none 0 0] 35)).alloc (.cells #[.int .i64 e, .int .i64 n, .int .i64 0, .int .u64 u_p, .string s_p, .slice none 0 0] 35))) (T := (MidV v8.heap.size v9.heap.size)) (fun b hb => ⟨hb, Below.heap_alloc (v41.alloc (.cells #[.int .i64 e, .int .i64 n, .int .i64 0, .int .u64 u_q, .string s_q, .slice none 0 0] 35)) (.cells #[.int .i64 e, .int .i64 n, .int .i64 0, .int .u64 u_p, .string s_p, .slice none 0 0] 35) b (lr_u.out b hb)⟩))
          replace lr_u := Lib.hid (show ∀ b, (MidV v8.heap.size v9.heap.size) b → b < ((v41.alloc (.cells #[.int .i64 e, .int .i64 n, .int .i64 0, .int .u64 u_q, .string s_q, .slice none 0 0] 35)).alloc (.cells #[.int .i64 e, .int .i64 n, .int .i64 0, .int .u64 u_p, .string s_p, .slice none 0 0] 35)).heap.size from fun b hb => Nat.lt_trans (lr_u.out b hb) (by simp))
          have hb_t := Lib.hid (heap_alloc_new_at (v41.alloc (.cells #[.int .i64 e, .int .i64 n, .int .i64 0, .int .u64 u_q, .string s_q, .slice none 0 0] 35)) (.cells #[.int .i64 e, .int .i64 n, .int .i64 0, .int .u64 u_p, .string s_p, .slice none 0 0] 35) (n := v41.heap.size + 1) (by simp))
          have lt_t : v41.heap.size + 1 < ((v41.alloc (.cells #[.int .i64 e, .int .i64 n, .int .i64 0, .int .u64 u_q, .string s_q, .slice none 0 0] 35)).alloc (.cells #[.int .i64 e, .int .i64 n, .int .i64 0, .int .u64 u_p, .string s_p, .slice none 0 0] 35)).heap.size := by simp
          replace hB := hB.alloc hB.size (.cells #[.int .i64 e, .int .i64 n, .int .i64 0, .int .u64 u_p, .string s_p, .slice none 0 0] 35)
          obtain ⟨f_q0, f_q1, f_q2, f_q3, f_q4, f_q5⟩ := six hb_q.out
          obtain ⟨f_t0, f_t1, f_t2, f_t3, f_t4, f_t5⟩ := six hb_t.out
          go_wp2_with fail
          clear c_p0 c_p1 c_p2 c_p3 c_p4 c_p5 c_q0 c_q1 c_q2 c_q3 c_q4 c_q5 f_q0 f_q1 f_q2 f_q3 f_q4 f_q5 f_t0 f_t1 f_t2 f_t3 f_t4 f_t5
          generalize ((v41.alloc (.cells #[.int .i64 e, .int .i64 n, .int .i64 0, .int .u64 u_q, .string s_q, .slice none 0 0] 35)).alloc (.cells #[.int .i64 e, .int .i64 n, .int .i64 0, .int .u64 u_p, .string s_p, .slice none 0 0] 35)) = v44 at *
          have hS := vCompare_any ⟨e, n, 0, u_q, s_q, []⟩ ⟨e, n, 0, u_p, s_p, []⟩ _ _ v44 (elVal HOq.out) (elVal HOp.out)
          rw [(vaCmp_zero _ _).2 (by
            have h1 := HQ1.out (z : Int)
            rw [if_neg hzx2.out, if_neg hzx2.out] at h1
            rw [HUq.out.1, HUq.out.2, h1.1, h1.2, ← HUp.out.1, ← HUp.out.2])] at hS
          refine Calls.mono (hS) ?_
          rintro e v45 ⟨rfl, hw⟩
          replace hb_a := Lib.hid ((hw.block _ lt_a).trans hb_a.out)
          replace lt_a := Nat.lt_of_lt_of_le lt_a hw.size
          replace hb_one := Lib.hid ((hw.block _ lt_one).trans hb_one.out)
          replace lt_one := Nat.lt_of_lt_of_le lt_one hw.size
          replace hb_u := Lib.hid ((hw.block _ lt_u).trans hb_u.out)
          replace lt_u := Nat.lt_of_lt_of_le lt_u hw.size
          replace hb_p := Lib.hid ((hw.block _ lt_p).trans hb_p.out)
          replace lt_p := Nat.lt_of_lt_of_le lt_p hw.size
          replace hb_q := Lib.hid ((hw.block _ lt_q).trans hb_q.out)
          replace lt_q := Nat.lt_of_lt_of_le lt_q hw.size
          replace hb_t := Lib.hid ((hw.block _ lt_t).trans hb_t.out)
          replace lt_t := Nat.lt_of_lt_of_le lt_t hw.size
          replace hl_a := Lib.hid (hl_a.out.to (w' := v45) (T := (MidV v3.heap.size v4.heap.size)) (fun b hb => ⟨hb, hw.block b (lr_a.out b hb)⟩))
          replace lr_a := Lib.hid (show ∀ b, (MidV v3.heap.size v4.heap.size) b → b < v45.heap.size from fun b hb => Nat.lt_of_lt_of_le (lr_a.out b hb) hw.size)
          replace hl_one := Lib.hid (hl_one.out.to (w' := v45) (T := (MidV v16.heap.size v17.heap.size)) (fun b hb => ⟨hb, hw.block b (lr_one.out b hb)⟩))
          replace lr_one := Lib.hid (show ∀ b, (MidV v16.heap.size v17.heap.size) b → b < v45.heap.size from fun b hb => Nat.lt_of_lt_of_le (lr_one.out b hb) hw.size)
          replace hl_u := Lib.hid (hl_u.out.to (w' := v45) (T := (MidV v8.heap.size v9.heap.size)) (fun b hb => ⟨hb, hw.block b (lr_u.out b hb)⟩))
          replace lr_u := Lib.hid (show ∀ b, (MidV v8.heap.size v9.heap.size) b → b < v45.heap.size from fun b hb => Nat.lt_of_lt_of_le (lr_u.out b hb) hw.size)
          replace hB := hB.trans (hw.mono hB.size)
          clear hS
          go_wp2_with fail
          go_roundw
          case rel => exact ⟨z + 1, by omega, by go_num, Lib.hid ⟨hb_a.out, hb_one.out, hb_u.out, ⟨lt_a, lt_one, lt_u⟩, hl_a.out, hl_one.out, hl_u.out, lr_a.out, lr_one.out, lr_u.out⟩, hB⟩
          case measure => simp [intOf]; omega
      · have hzi : ¬ (z : Int) < (sz : Int) := by omega
        go_wp2_with fail
        refine Calls.mono (l6lives_any wr) ?_
        rintro e v38 ⟨rfl, hw⟩
        replace hb_a := Lib.hid ((hw.block _ lt_a).trans hb_a.out)
        replace lt_a := Nat.lt_of_lt_of_le lt_a hw.size
        replace hb_one := Lib.hid ((hw.block _ lt_one).trans hb_one.out)
        replace lt_one := Nat.lt_of_lt_of_le lt_one hw.size
        replace hb_u := Lib.hid ((hw.block _ lt_u).trans hb_u.out)
        replace lt_u := Nat.lt_of_lt_of_le lt_u hw.size
        replace hl_a := Lib.hid (hl_a.out.to (w' := v38) (T := (MidV v3.heap.size v4.heap.size)) (fun b hb => ⟨hb, hw.block b (lr_a.out b hb)⟩))
        replace lr_a := Lib.hid (show ∀ b, (MidV v3.heap.size v4.heap.size) b → b < v38.heap.size from fun b hb => Nat.lt_of_lt_of_le (lr_a.out b hb) hw.size)
        replace hl_one := Lib.hid (hl_one.out.to (w' := v38) (T := (MidV v16.heap.size v17.heap.size)) (fun b hb => ⟨hb, hw.block b (lr_one.out b hb)⟩))
        replace lr_one := Lib.hid (show ∀ b, (MidV v16.heap.size v17.heap.size) b → b < v38.heap.size from fun b hb => Nat.lt_of_lt_of_le (lr_one.out b hb) hw.size)
        replace hl_u := Lib.hid (hl_u.out.to (w' := v38) (T := (MidV v8.heap.size v9.heap.size)) (fun b hb => ⟨hb, hw.block b (lr_u.out b hb)⟩))
        replace lr_u := Lib.hid (show ∀ b, (MidV v8.heap.size v9.heap.size) b → b < v38.heap.size from fun b hb => Nat.lt_of_lt_of_le (lr_u.out b hb) hw.size)
        replace hB := hB.trans (hw.mono hB.size)
        go_wp2_with fail
        go_ret
        exact ⟨rfl, hB⟩
  · have gxy : ((x : Int) == (y : Int)) = false := by rw [beq_eq_false_iff_ne]; omega
    obtain ⟨c_two0, c_two1, c_two2, c_two3, c_two4, c_two5⟩ := six hb_two.out
    obtain ⟨c_trn0, c_trn1, c_trn2, c_trn3, c_trn4, c_trn5⟩ := six hb_trn.out
    go_wp2_with fail
    clear c_two0 c_two1 c_two2 c_two3 c_two4 c_two5
    clear c_trn0 c_trn1 c_trn2 c_trn3 c_trn4 c_trn5
    have hS := vCompare_any ⟨k, n, ix, 0, .empty, p_two⟩ ⟨k, n, ix, 0, .empty, p_trn⟩ _ _ v36 (hl_two.out.to (T := LoV v36.heap.size) (fun b hb => ⟨lr_two.out b hb, rfl⟩)) (hl_trn.out.to (T := LoV v36.heap.size) (fun b hb => ⟨lr_trn.out b hb, rfl⟩))
    rw [(vaCmp_zero _ _).2 (by rw [HE2.out (by omega)])] at hS
    have HXY := Lib.hid hxy
    clear hxy
    refine Calls.mono (hS) ?_
    rintro e v37 ⟨rfl, hw⟩
    replace hb_r := Lib.hid ((hw.block _ lt_r).trans hb_r.out)
    replace lt_r := Nat.lt_of_lt_of_le lt_r hw.size
    replace hb_a := Lib.hid ((hw.block _ lt_a).trans hb_a.out)
    replace lt_a := Nat.lt_of_lt_of_le lt_a hw.size
    replace hb_u := Lib.hid ((hw.block _ lt_u).trans hb_u.out)
    replace lt_u := Nat.lt_of_lt_of_le lt_u hw.size
    replace hb_v := Lib.hid ((hw.block _ lt_v).trans hb_v.out)
    replace lt_v := Nat.lt_of_lt_of_le lt_v hw.size
    replace hb_one := Lib.hid ((hw.block _ lt_one).trans hb_one.out)
    replace lt_one := Nat.lt_of_lt_of_le lt_one hw.size
    replace hb_two := Lib.hid ((hw.block _ lt_two).trans hb_two.out)
    replace lt_two := Nat.lt_of_lt_of_le lt_two hw.size
    replace hb_oth := Lib.hid ((hw.block _ lt_oth).trans hb_oth.out)
    replace lt_oth := Nat.lt_of_lt_of_le lt_oth hw.size
    replace hb_trn := Lib.hid ((hw.block _ lt_trn).trans hb_trn.out)
    replace lt_trn := Nat.lt_of_lt_of_le lt_trn hw.size
    replace hb_old := Lib.hid ((hw.block _ lt_old).trans hb_old.out)
    replace lt_old := Nat.lt_of_lt_of_le lt_old hw.size
    replace hb_back := Lib.hid ((hw.block _ lt_back).trans hb_back.out)
    replace lt_back := Nat.lt_of_lt_of_le lt_back hw.size
    replace hl_r := Lib.hid (hl_r.out.to (w' := v37) (T := (MidV w.heap.size v1.heap.size)) (fun b hb => ⟨hb, hw.block b (lr_r.out b hb)⟩))
    replace lr_r := Lib.hid (show ∀ b, (MidV w.heap.size v1.heap.size) b → b < v37.heap.size from fun b hb => Nat.lt_of_lt_of_le (lr_r.out b hb) hw.size)
    replace hl_a := Lib.hid (hl_a.out.to (w' := v37) (T := (MidV v3.heap.size v4.heap.size)) (fun b hb => ⟨hb, hw.block b (lr_a.out b hb)⟩))
    replace lr_a := Lib.hid (show ∀ b, (MidV v3.heap.size v4.heap.size) b → b < v37.heap.size from fun b hb => Nat.lt_of_lt_of_le (lr_a.out b hb) hw.size)
    replace hl_u := Lib.hid (hl_u.out.to (w' := v37) (T := (MidV v8.heap.size v9.heap.size)) (fun b hb => ⟨hb, hw.block b (lr_u.out b hb)⟩))
    replace lr_u := Lib.hid (show ∀ b, (MidV v8.heap.size v9.heap.size) b → b < v37.heap.size from fun b hb => Nat.lt_of_lt_of_le (lr_u.out b hb) hw.size)
    replace hl_v := Lib.hid (hl_v.out.to (w' := v37) (T := (MidV v13.heap.size v14.heap.size)) (fun b hb => ⟨hb, hw.block b (lr_v.out b hb)⟩))
    replace lr_v := Lib.hid (show ∀ b, (MidV v13.heap.size v14.heap.size) b → b < v37.heap.size from fun b hb => Nat.lt_of_lt_of_le (lr_v.out b hb) hw.size)
    replace hl_one := Lib.hid (hl_one.out.to (w' := v37) (T := (MidV v16.heap.size v17.heap.size)) (fun b hb => ⟨hb, hw.block b (lr_one.out b hb)⟩))
    replace lr_one := Lib.hid (show ∀ b, (MidV v16.heap.size v17.heap.size) b → b < v37.heap.size from fun b hb => Nat.lt_of_lt_of_le (lr_one.out b hb) hw.size)
    replace hl_two := Lib.hid (hl_two.out.to (w' := v37) (T := (MidV v19.heap.size v20.heap.size)) (fun b hb => ⟨hb, hw.block b (lr_two.out b hb)⟩))
    replace lr_two := Lib.hid (show ∀ b, (MidV v19.heap.size v20.heap.size) b → b < v37.heap.size from fun b hb => Nat.lt_of_lt_of_le (lr_two.out b hb) hw.size)
    replace hl_oth := Lib.hid (hl_oth.out.to (w' := v37) (T := (MidV v22.heap.size v23.heap.size)) (fun b hb => ⟨hb, hw.block b (lr_oth.out b hb)⟩))
    replace lr_oth := Lib.hid (show ∀ b, (MidV v22.heap.size v23.heap.size) b → b < v37.heap.size from fun b hb => Nat.lt_of_lt_of_le (lr_oth.out b hb) hw.size)
    replace hl_trn := Lib.hid (hl_trn.out.to (w' := v37) (T := (MidV v25.heap.size v26.heap.size)) (fun b hb => ⟨hb, hw.block b (lr_trn.out b hb)⟩))
    replace lr_trn := Lib.hid (show ∀ b, (MidV v25.heap.size v26.heap.size) b → b < v37.heap.size from fun b hb => Nat.lt_of_lt_of_le (lr_trn.out b hb) hw.size)
    replace hl_back := Lib.hid (hl_back.out.to (w' := v37) (T := (MidV v31.heap.size v32.heap.size)) (fun b hb => ⟨hb, hw.block b (lr_back.out b hb)⟩))
    replace lr_back := Lib.hid (show ∀ b, (MidV v31.heap.size v32.heap.size) b → b < v37.heap.size from fun b hb => Nat.lt_of_lt_of_le (lr_back.out b hb) hw.size)
    replace hB := hB.trans (hw.mono hB.size)
    clear hS
    go_wp2_with fail
    go_loopw [30] (fun a wr => ∃ z : Nat, z ≤ sz ∧ a = .int .i64 (z : Int) ∧ Hid (wr.heap[v4.heap.size]? = some (.cells #[.int .i64 k, .int .i64 n, .int .i64 ix, .int .u64 0, .string ⟨#[]⟩, .slice A_a n_a c_a] 35 (0, 0)) ∧ wr.heap[v17.heap.size]? = some (.cells #[.int .i64 k, .int .i64 n, .int .i64 ix, .int .u64 0, .string ⟨#[]⟩, .slice A_one n_one c_one] 35 (0, 0)) ∧ wr.heap[v9.heap.size]? = some (.cells #[.int .i64 e, .int .i64 n, .int .i64 0, .int .u64 u_u, .string s_u, .slice A_u n_u c_u] 35 (0, 0)) ∧ (v4.heap.size < wr.heap.size ∧ v17.heap.size < wr.heap.size ∧ v9.heap.size < wr.heap.size) ∧ VaV wr (MidV v3.heap.size v4.heap.size) ⟨k, n, ix, 0, .empty, m⟩ (.agg #[.int .i64 k, .int .i64 n, .int .i64 ix, .int .u64 0, .string ⟨#[]⟩, .slice A_a n_a c_a]) ∧ VaV wr (MidV v16.heap.size v17.heap.size) ⟨k, n, ix, 0, .empty, p_one⟩ (.agg #[.int .i64 k, .int .i64 n, .int .i64 ix, .int .u64 0, .string ⟨#[]⟩, .slice A_one n_one c_one]) ∧ VaV wr (MidV v8.heap.size v9.heap.size) ⟨e, n, 0, u_u, s_u, []⟩ (.agg #[.int .i64 e, .int .i64 n, .int .i64 0, .int .u64 u_u, .string s_u, .slice A_u n_u c_u]) ∧ (∀ b, (MidV v3.heap.size v4.heap.size) b → b < wr.heap.size) ∧ (∀ b, (MidV v16.heap.size v17.heap.size) b → b < wr.heap.size) ∧ (∀ b, (MidV v8.heap.size v9.heap.size) b → b < wr.heap.size)) ∧ Below w.heap.size w wr) (fun a _ => sz - (intOf a).toNat)
    case atStart => exact ⟨0, Nat.zero_le _, rfl, Lib.hid ⟨hb_a.out, hb_one.out, hb_u.out, ⟨lt_a, lt_one, lt_u⟩, hl_a.out, hl_one.out, hl_u.out, lr_a.out, lr_one.out, lr_u.out⟩, hB⟩
    case round =>
      clear hb_r lt_r hb_a lt_a hb_u lt_u hb_v lt_v hb_one lt_one hb_two lt_two hb_oth lt_oth hb_trn lt_trn hb_old lt_old hb_back lt_back hl_r lr_r hl_a lr_a hl_u lr_u hl_v lr_v hl_one lr_one hl_two lr_two hl_oth lr_oth hl_trn lr_trn hl_back lr_back hB
      obtain ⟨z, hz, rfl, hF, hB⟩ := hrel
      obtain ⟨q1, q2, q3, ⟨lt_a, lt_one, lt_u⟩, q5, q6, q7, q8, q9, q10⟩ := hF.out
      have hb_a := Lib.hid q1
      have hb_one := Lib.hid q2
      have hb_u := Lib.hid q3
      have hl_a := Lib.hid q5
      have hl_one := Lib.hid q6
      have hl_u := Lib.hid q7
      have lr_a := Lib.hid q8
      have lr_one := Lib.hid q9
      have lr_u := Lib.hid q10
      clear hF q1 q2 q3 q5 q6 q7 q8 q9 q10
      by_cases hzs : z < sz
      · have hzi : (z : Int) < (sz : Int) := by omega
        have HIz := Lib.hid (show (z : Int) ≤ grI ix from by rw [HGR.out]; omega)
        obtain ⟨c_a0, c_a1, c_a2, c_a3, c_a4, c_a5⟩ := six hb_a.out
        go_wp2_with fail
        clear c_a0 c_a1 c_a2 c_a3 c_a4 c_a5
        have hf := sel_fine (i := (z : Int)) Hk.out hval_a.out (Int.not_lt.2 HIz.out)
        have hS := vSelect_any ⟨k, n, ix, 0, .empty, m⟩ _ (z : Int) wr (hl_a.out.to (T := LoV wr.heap.size) (fun b hb => ⟨lr_a.out b hb, rfl⟩))
        rw [hf.1, hf.2.1] at hS
        obtain ⟨u_p, huo⟩ : ∃ u, u = (atE (z : Int) m).u := ⟨_, rfl⟩
        obtain ⟨s_p, hso⟩ : ∃ s, s = (atE (z : Int) m).s := ⟨_, rfl⟩
        rw [← huo, ← hso] at hS
        have HUp := Lib.hid (And.intro huo hso)
        simp only [vav] at hS
        rw [← HE.out] at hS
        have hmok := hl_a.out.1.2.2.2.1
        simp only at hmok
        have hoo := at_ok hmok (z : Int)
        rw [← huo, ← hso] at hoo
        have HOp := Lib.hid (el_ok (sort_i64 HES.out) hoo)
        clear hmok hoo huo hso hf
        refine Calls.mono (hS) ?_
        rintro e v38 ⟨rfl, hw⟩
        replace hb_a := Lib.hid ((hw.block _ lt_a).trans hb_a.out)
        replace lt_a := Nat.lt_of_lt_of_le lt_a hw.size
        replace hb_one := Lib.hid ((hw.block _ lt_one).trans hb_one.out)
        replace lt_one := Nat.lt_of_lt_of_le lt_one hw.size
        replace hb_u := Lib.hid ((hw.block _ lt_u).trans hb_u.out)
        replace lt_u := Nat.lt_of_lt_of_le lt_u hw.size
        replace hl_a := Lib.hid (hl_a.out.to (w' := v38) (T := (MidV v3.heap.size v4.heap.size)) (fun b hb => ⟨hb, hw.block b (lr_a.out b hb)⟩))
        replace lr_a := Lib.hid (show ∀ b, (MidV v3.heap.size v4.heap.size) b → b < v38.heap.size from fun b hb => Nat.lt_of_lt_of_le (lr_a.out b hb) hw.size)
        replace hl_one := Lib.hid (hl_one.out.to (w' := v38) (T := (MidV v16.heap.size v17.heap.size)) (fun b hb => ⟨hb, hw.block b (lr_one.out b hb)⟩))
        replace lr_one := Lib.hid (show ∀ b, (MidV v16.heap.size v17.heap.size) b → b < v38.heap.size from fun b hb => Nat.lt_of_lt_of_le (lr_one.out b hb) hw.size)
        replace hl_u := Lib.hid (hl_u.out.to (w' := v38) (T := (MidV v8.heap.size v9.heap.size)) (fun b hb => ⟨hb, hw.block b (lr_u.out b hb)⟩))
        replace lr_u := Lib.hid (show ∀ b, (MidV v8.heap.size v9.heap.size) b → b < v38.heap.size from fun b hb => Nat.lt_of_lt_of_le (lr_u.out b hb) hw.size)
        replace hB := hB.trans (hw.mono hB.size)
        clear hS
        have bs_p := Lib.hid (show w.heap.size ≤ v38.heap.size from (by have h := hB.size; first | omega | (simp at h; omega)))
        have or_a_p := Lib.hid (show v4.heap.size < v38.heap.size from (by have h := lt_a; first | omega | (simp at h; omega)))
        have or_one_p := Lib.hid (show v17.heap.size < v38.heap.size from (by have h := lt_one; first | omega | (simp at h; omega)))
        have or_u_p := Lib.hid (show v9.heap.size < v38.heap.size from (by have h := lt_u; first | omega | (simp at h; omega)))
        replace hb_a := Lib.hid ((Below.heap_alloc v38 (.cells #[.int .i64 e, .int .i64 n, .int .i64 0, .int .u64 u_p, .string s_p, .slice none 0 0] 35) _ lt_a).trans hb_a.out)
        replace lt_a := Nat.lt_trans lt_a (show v38.heap.size < (v38.alloc (.cells #[.int .i64 e, .int .i64 n, .int .i64 0, .int .u64 u_p, .string s_p, .slice none 0 0] 35)).heap.size by simp)
        replace hb_one := Lib.hid ((Below.heap_alloc v38 (.cells #[.int .i64 e, .int .i64 n, .int .i64 0, .int .u64 u_p, .string s_p, .slice none 0 0] 35) _ lt_one).trans hb_one.out)
        replace lt_one := Nat.lt_trans lt_one (show v38.heap.size < (v38.alloc (.cells #[.int .i64 e, .int .i64 n, .int .i64 0, .int .u64 u_p, .string s_p, .slice none 0 0] 35)).heap.size by simp)
        replace hb_u := Lib.hid ((Below.heap_alloc v38 (.cells #[.int .i64 e, .int .i64 n, .int .i64 0, .int .u64 u_p, .string s_p, .slice none 0 0] 35) _ lt_u).trans hb_u.out)
        replace lt_u := Nat.lt_trans lt_u (show v38.heap.size < (v38.alloc (.cells #[.int .i64 e, .int .i64 n, .int .i64 0, .int .u64 u_p, .string s_p, .slice none 0 0] 35)).heap.size by simp)
        replace hl_a := Lib.hid (hl_a.out.to (w' := (v38.alloc (.cells #[.int .i64 e, .int .i64 n, .int .i64 0, .int .u64 u_p, .string s_p, .slice none 0 0] 35))) (T := (MidV v3.heap.size v4.heap.size)) (fun b hb => ⟨hb, Below.heap_alloc v38 (.cells #[.int .i64 e, .int .i64 n, .int .i64 0, .int .u64 u_p, .string s_p, .slice none 0 0] 35) b (lr_a.out b hb)⟩))
        replace lr_a := Lib.hid (show ∀ b, (MidV v3.heap.size v4.heap.size) b → b < (v38.alloc (.cells #[.int .i64 e, .int .i64 n, .int .i64 0, .int .u64 u_p, .string s_p, .slice none 0 0] 35)).heap.size from fun b hb => Nat.lt_trans (lr_a.out b hb) (by simp))
        replace hl_one := Lib.hid (hl_one.out.to (w' := (v38.alloc (.cells #[.int .i64 e, .int .i64 n, .int .i64 0, .int .u64 u_p, .string s_p, .slice none 0 0] 35))) (T := (MidV v16.heap.size v17.heap.size)) (fun b hb => ⟨hb, Below.heap_alloc v38 (.cells #[.int .i64 e, .int .i64 n, .int .i64 0, .int .u64 u_p, .string s_p, .slice none 0 0] 35) b (lr_one.out b hb)⟩))
        replace lr_one := Lib.hid (show ∀ b, (MidV v16.heap.size v17.heap.size) b → b < (v38.alloc (.cells #[.int .i64 e, .int .i64 n, .int .i64 0, .int .u64 u_p, .string s_p, .slice none 0 0] 35)).heap.size from fun b hb => Nat.lt_trans (lr_one.out b hb) (by simp))
        replace hl_u := Lib.hid (hl_u.out.to (w' := (v38.alloc (.cells #[.int .i64 e, .int .i64 n, .int .i64 0, .int .u64 u_p, .string s_p, .slice none 0 0] 35))) (T := (MidV v8.heap.size v9.heap.size)) (fun b hb => ⟨hb, Below.heap_alloc v38 (.cells #[.int .i64 e, .int .i64 n, .int .i64 0, .int .u64 u_p, .string s_p, .slice none 0 0] 35) b (lr_u.out b hb)⟩))
        replace lr_u := Lib.hid (show ∀ b, (MidV v8.heap.size v9.heap.size) b → b < (v38.alloc (.cells #[.int .i64 e, .int .i64 n, .int .i64 0, .int .u64 u_p, .string s_p, .slice none 0 0] 35)).heap.size from fun b hb => Nat.lt_trans (lr_u.out b hb) (by simp))
        have hb_p := Lib.hid (heap_alloc_new_at v38 (.cells #[.int .i64 e, .int .i64 n, .int .i64 0, .int .u64 u_p, .string s_p, .slice none 0 0] 35) (n := v38.heap.size) (by simp))
        have lt_p : v38.heap.size < (v38.alloc (.cells #[.int .i64 e, .int .i64 n, .int .i64 0, .int .u64 u_p, .string s_p, .slice none 0 0] 35)).heap.size := by simp
        replace hB := hB.alloc hB.size (.cells #[.int .i64 e, .int .i64 n, .int .i64 0, .int .u64 u_p, .string s_p, .slice none 0 0] 35)
        obtain ⟨c_p0, c_p1, c_p2, c_p3, c_p4, c_p5⟩ := six hb_p.out
        obtain ⟨c_one0, c_one1, c_one2, c_one3, c_one4, c_one5⟩ := six hb_one.out
        go_wp2_with fail
        clear c_p0 c_p1 c_p2 c_p3 c_p4 c_p5
        clear c_one0 c_one1 c_one2 c_one3 c_one4 c_one5
        generalize (v38.alloc (.cells #[.int .i64 e, .int .i64 n, .int .i64 0, .int .u64 u_p, .string s_p, .slice none 0 0] 35)) = v40 at *
        have hf := sel_fine (i := (z : Int)) Hk.out hval_one.out (Int.not_lt.2 HIz.out)
        have hS := vSelect_any ⟨k, n, ix, 0, .empty, p_one⟩ _ (z : Int) v40 (hl_one.out.to (T := LoV v40.heap.size) (fun b hb => ⟨lr_one.out b hb, rfl⟩))
        rw [hf.1, hf.2.1] at hS
        obtain ⟨u_q, huo⟩ : ∃ u, u = (atE (z : Int) p_one).u := ⟨_, rfl⟩
        obtain ⟨s_q, hso⟩ : ∃ s, s = (atE (z : Int) p_one).s := ⟨_, rfl⟩
        rw [← huo, ← hso] at hS
        have HUq := Lib.hid (And.intro huo hso)
        simp only [vav] at hS
        rw [← HE.out] at hS
        have hmok := hl_one.out.1.2.2.2.1
        simp only at hmok
        have hoo := at_ok hmok (z : Int)
        rw [← huo, ← hso] at hoo
        have HOq := Lib.hid (el_ok (sort_i64 HES.out) hoo)
        clear hmok hoo huo hso hf
        refine Calls.mono (hS) ?_
        rintro e v41 ⟨rfl, hw⟩
        replace hb_a := Lib.hid ((hw.block _ lt_a).trans hb_a.out)
        replace lt_a := Nat.lt_of_lt_of_le lt_a hw.size
        replace hb_one := Lib.hid ((hw.block _ lt_one).trans hb_one.out)
        replace lt_one := Nat.lt_of_lt_of_le lt_one hw.size
        replace hb_u := Lib.hid ((hw.block _ lt_u).trans hb_u.out)
        replace lt_u := Nat.lt_of_lt_of_le lt_u hw.size
        replace hb_p := Lib.hid ((hw.block _ lt_p).trans hb_p.out)
        replace lt_p := Nat.lt_of_lt_of_le lt_p hw.size
        replace hl_a := Lib.hid (hl_a.out.to (w' := v41) (T := (MidV v3.heap.size v4.heap.size)) (fun b hb => ⟨hb, hw.block b (lr_a.out b hb)⟩))
        replace lr_a := Lib.hid (show ∀ b, (MidV v3.heap.size v4.heap.size) b → b < v41.heap.size from fun b hb => Nat.lt_of_lt_of_le (lr_a.out b hb) hw.size)
        replace hl_one := Lib.hid (hl_one.out.to (w' := v41) (T := (MidV v16.heap.size v17.heap.size)) (fun b hb => ⟨hb, hw.block b (lr_one.out b hb)⟩))
        replace lr_one := Lib.hid (show ∀ b, (MidV v16.heap.size v17.heap.size) b → b < v41.heap.size from fun b hb => Nat.lt_of_lt_of_le (lr_one.out b hb) hw.size)
        replace hl_u := Lib.hid (hl_u.out.to (w' := v41) (T := (MidV v8.heap.size v9.heap.size)) (fun b hb => ⟨hb, hw.block b (lr_u.out b hb)⟩))
        replace lr_u := Lib.hid (show ∀ b, (MidV v8.heap.size v9.heap.size) b → b < v41.heap.size from fun b hb => Nat.lt_of_lt_of_le (lr_u.out b hb) hw.size)
        replace hB := hB.trans (hw.mono hB.size)
        clear hS
        have bs_q := Lib.hid (show w.heap.size ≤ v41.heap.size from (by have h := hB.size; first | omega | (simp at h; omega)))
        have or_a_q := Lib.hid (show v4.heap.size < v41.heap.size from (by have h := lt_a; first | omega | (simp at h; omega)))
        have or_one_q := Lib.hid (show v17.heap.size < v41.heap.size from (by have h := lt_one; first | omega | (simp at h; omega)))
        have or_u_q := Lib.hid (show v9.heap.size < v41.heap.size from (by have h := lt_u; first | omega | (simp at h; omega)))
        have or_p_q := Lib.hid (show v38.heap.size < v41.heap.size from (by have h := lt_p; first | omega | (simp at h; omega)))
        replace hb_a := Lib.hid ((Below.heap_alloc v41 (.cells #[.int .i64 e, .int .i64 n, .int .i64 0, .int .u64 u_q, .string s_q, .slice none 0 0] 35) _ lt_a).trans hb_a.out)
        replace lt_a := Nat.lt_trans lt_a (show v41.heap.size < (v41.alloc (.cells #[.int .i64 e, .int .i64 n, .int .i64 0, .int .u64 u_q, .string s_q, .slice none 0 0] 35)).heap.size by simp)
        replace hb_one := Lib.hid ((Below.heap_alloc v41 (.cells #[.int .i64 e, .int .i64 n, .int .i64 0, .int .u64 u_q, .string s_q, .slice none 0 0] 35) _ lt_one).trans hb_one.out)
        replace lt_one := Nat.lt_trans lt_one (show v41.heap.size < (v41.alloc (.cells #[.int .i64 e, .int .i64 n, .int .i64 0, .int .u64 u_q, .string s_q, .slice none 0 0] 35)).heap.size by simp)
        replace hb_u := Lib.hid ((Below.heap_alloc v41 (.cells #[.int .i64 e, .int .i64 n, .int .i64 0, .int .u64 u_q, .string s_q, .slice none 0 0] 35) _ lt_u).trans hb_u.out)
        replace lt_u := Nat.lt_trans lt_u (show v41.heap.size < (v41.alloc (.cells #[.int .i64 e, .int .i64 n, .int .i64 0, .int .u64 u_q, .string s_q, .slice none 0 0] 35)).heap.size by simp)
        replace hb_p := Lib.hid ((Below.heap_alloc v41 (.cells #[.int .i64 e, .int .i64 n, .int .i64 0, .int .u64 u_q, .string s_q, .slice none 0 0] 35) _ lt_p).trans hb_p.out)
        replace lt_p := Nat.lt_trans lt_p (show v41.heap.size < (v41.alloc (.cells #[.int .i64 e, .int .i64 n, .int .i64 0, .int .u64 u_q, .string s_q, .slice none 0 0] 35)).heap.size by simp)
        replace hl_a := Lib.hid (hl_a.out.to (w' := (v41.alloc (.cells #[.int .i64 e, .int .i64 n, .int .i64 0, .int .u64 u_q, .string s_q, .slice none 0 0] 35))) (T := (MidV v3.heap.size v4.heap.size)) (fun b hb => ⟨hb, Below.heap_alloc v41 (.cells #[.int .i64 e, .int .i64 n, .int .i64 0, .int .u64 u_q, .string s_q, .slice none 0 0] 35) b (lr_a.out b hb)⟩))
        replace lr_a := Lib.hid (show ∀ b, (MidV v3.heap.size v4.heap.size) b → b < (v41.alloc (.cells #[.int .i64 e, .int .i64 n, .int .i64 0, .int .u64 u_q, .string s_q, .slice none 0 0] 35)).heap.size from fun b hb => Nat.lt_trans (lr_a.out b hb) (by simp))
        replace hl_one := Lib.hid (hl_one.out.to (w' := (v41.alloc (.cells #[.int .i64 e, .int .i64 n, .int .i64 0, .int .u64 u_q, .string s_q, .slice none 0 0] 35))) (T := (MidV v16.heap.size v17.heap.size)) (fun b hb => ⟨hb, Below.heap_alloc v41 (.cells #[.int .i64 e, .int .i64 n, .int .i64 0, .int .u64 u_q, .string s_q, .slice none 0 0] 35) b (lr_one.out b hb)⟩))
        replace lr_one := Lib.hid (show ∀ b, (MidV v16.heap.size v17.heap.size) b → b < (v41.alloc (.cells #[.int .i64 e, .int .i64 n, .int .i64 0, .int .u64 u_q, .string s_q, .slice none 0 0] 35)).heap.size from fun b hb => Nat.lt_trans (lr_one.out b hb) (by simp))
        replace hl_u := Lib.hid (hl_u.out.to (w' := (v41.alloc (.cells #[.int .i64 e, .int .i64 n, .int .i64 0, .int .u64 u_q, .string s_q, .slice none 0 0] 35))) (T := (MidV v8.heap.size v9.heap.size)) (fun b hb => ⟨hb, Below.heap_alloc v41 (.cells #[.int .i64 e, .int .i64 n, .int .i64 0, .int .u64 u_q, .string s_q, .slice none 0 0] 35) b (lr_u.out b hb)⟩))
        replace lr_u := Lib.hid (show ∀ b, (MidV v8.heap.size v9.heap.size) b → b < (v41.alloc (.cells #[.int .i64 e, .int .i64 n, .int .i64 0, .int .u64 u_q, .string s_q, .slice none 0 0] 35)).heap.size from fun b hb => Nat.lt_trans (lr_u.out b hb) (by simp))
        have hb_q := Lib.hid (heap_alloc_new_at v41 (.cells #[.int .i64 e, .int .i64 n, .int .i64 0, .int .u64 u_q, .string s_q, .slice none 0 0] 35) (n := v41.heap.size) (by simp))
        have lt_q : v41.heap.size < (v41.alloc (.cells #[.int .i64 e, .int .i64 n, .int .i64 0, .int .u64 u_q, .string s_q, .slice none 0 0] 35)).heap.size := by simp
        replace hB := hB.alloc hB.size (.cells #[.int .i64 e, .int .i64 n, .int .i64 0, .int .u64 u_q, .string s_q, .slice none 0 0] 35)
        by_cases hzx : z = x
        · have gzx : ((z : Int) == (x : Int)) = true := by rw [hzx]; simp
          have hzx2 := Lib.hid hzx
          clear hzx
          obtain ⟨c_p0, c_p1, c_p2, c_p3, c_p4, c_p5⟩ := six hb_p.out
          obtain ⟨c_q0, c_q1, c_q2, c_q3, c_q4, c_q5⟩ := six hb_q.out
          obtain ⟨d_u0, d_u1, d_u2, d_u3, d_u4, d_u5⟩ := six ((Below.heap_alloc (v41.alloc (.cells #[.int .i64 e, .int .i64 n, .int .i64 0, .int .u64 u_q, .string s_q, .slice none 0 0] 35)) (.cells #[.int .i64 e, .int .i64 n, .int .i64 0, .int .u64 u_p, .string s_p, .slice none 0 0] 35) (v9.heap.size) lt_u).trans hb_u.out)
          have bs_t := Lib.hid (show w.heap.size ≤ v41.heap.size + 1 from (by have h := hB.size; first | omega | (simp at h; omega)))
          have or_a_t := Lib.hid (show v4.heap.size < v41.heap.size + 1 from (by have h := lt_a; first | omega | (simp at h; omega)))
          have or_one_t := Lib.hid (show v17.heap.size < v41.heap.size + 1 from (by have h := lt_one; first | omega | (simp at h; omega)))
          have or_u_t := Lib.hid (show v9.heap.size < v41.heap.size + 1 from (by have h := lt_u; first | omega | (simp at h; omega)))
          have or_p_t := Lib.hid (show v38.heap.size < v41.heap.size + 1 from (by have h := lt_p; first | omega | (simp at h; omega)))
          have or_q_t := Lib.hid (show v41.heap.size < v41.heap.size + 1 from (by have h := lt_q; first | omega | (simp at h; omega)))
          replace hb_a := Lib.hid ((Below.heap_alloc (v41.alloc (.cells #[.int .i64 e, .int .i64 n, .int .i64 0, .int .u64 u_q, .string s_q, .slice none 0 0] 35)) (.cells #[.int .i64 e, .int .i64 n, .int .i64 0, .int .u64 u_u, .string s_u, .slice A_u n_u c_u] 35) _ lt_a).trans hb_a.out)
          replace lt_a := Nat.lt_trans lt_a (show (v41.alloc (.cells #[.int .i64 e, .int .i64 n, .int .i64 0, .int .u64 u_q, .string s_q, .slice none 0 0] 35)).heap.size < ((v41.alloc (.cells #[.int .i64 e, .int .i64 n, .int .i64 0, .int .u64 u_q, .string s_q, .slice none 0 0] 35)).alloc (.cells #[.int .i64 e, .int .i64 n, .int .i64 0, .int .u64 u_u, .string s_u, .slice A_u n_u c_u] 35)).heap.size by simp)
          replace hb_one := Lib.hid ((Below.heap_alloc (v41.alloc (.cells #[.int .i64 e, .int .i64 n, .int .i64 0, .int .u64 u_q, .string s_q, .slice none 0 0] 35)) (.cells #[.int .i64 e, .int .i64 n, .int .i64 0, .int .u64 u_u, .string s_u, .slice A_u n_u c_u] 35) _ lt_one).trans hb_one.out)
          replace lt_one := Nat.lt_trans lt_one (show (v41.alloc (.cells #[.int .i64 e, .int .i64 n, .int .i64 0, .int .u64 u_q, .string s_q, .slice none 0 0] 35)).heap.size < ((v41.alloc (.cells #[.int .i64 e, .int .i64 n, .int .i64 0, .int .u64 u_q, .string s_q, .slice none 0 0] 35)).alloc (.cells #[.int .i64 e, .int .i64 n, .int .i64 0, .int .u64 u_u, .string s_u, .slice A_u n_u c_u] 35)).heap.size by simp)
          replace hb_u := Lib.hid ((Below.heap_alloc (v41.alloc (.cells #[.int .i64 e, .int .i64 n, .int .i64 0, .int .u64 u_q, .string s_q, .slice none 0 0] 35)) (.cells #[.int .i64 e, .int .i64 n, .int .i64 0, .int .u64 u_u, .string s_u, .slice A_u n_u c_u] 35) _ lt_u).trans hb_u.out)
          replace lt_u := Nat.lt_trans lt_u (show (v41.alloc (.cells #[.int .i64 e, .int .i64 n, .int .i64 0, .int .u64 u_q, .string s_q, .slice none 0 0] 35)).heap.size < ((v41.alloc (.cells #[.int .i64 e, .int .i64 n, .int .i64 0, .int .u64 u_q, .string s_q, .slice none 0 0] 35)).alloc (.cells #[.int .i64 e, .int .i64 n, .int .i64 0, .int .u64 u_u, .string s_u, .slice A_u n_u c_u] 35)).heap.size by simp)
          replace hb_p := Lib.hid ((Below.heap_alloc (v41.alloc (.cells #[.int .i64 e, .int .i64 n, .int .i64 0, .int .u64 u_q, .string s_q, .slice none 0 0] 35)) (.cells #[.int .i64 e, .int .i64 n, .int .i64 0, .int .u64 u_u, .string s_u, .slice A_u n_u c_u] 35) _ lt_p).trans hb_p.out)
          replace lt_p := Nat.lt_trans lt_p (show (v41.alloc (.cells #[.int .i64 e, .int .i64 n, .int .i64 0, .int .u64 u_q, .string s_q, .slice none 0 0] 35)).heap.size < ((v41.alloc (.cells #[.int .i64 e, .int .i64 n, .int .i64 0, .int .u64 u_q, .string s_q, .slice none 0 0] 35)).alloc (.cells #[.int .i64 e, .int .i64 n, .int .i64 0, .int .u64 u_u, .string s_u, .slice A_u n_u c_u] 35)).heap.size by simp)
          replace hb_q := Lib.hid ((Below.heap_alloc (v41.alloc (.cells #[.int .i64 e, .int .i64 n, .int .i64 0, .int .u64 u_q, .string s_q, .slice none 0 0] 35)) (.cells #[.int .i64 e, .int .i64 n, .int .i64 0, .int .u64 u_u, .string s_u, .slice A_u n_u c_u] 35) _ lt_q).trans hb_q.out)
          replace lt_q := Nat.lt_trans lt_q (show (v41.alloc (.cells #[.int .i64 e, .int .i64 n, .int .i64 0, .int .u64 u_q, .string s_q, .slice none 0 0] 35)).heap.size < ((v41.alloc (.cells #[.int .i64 e, .int .i64 n, .int .i64 0, .int .u64 u_q, .string s_q, .slice none 0 0] 35)).alloc (.cells #[.int .i64 e, .int .i64 n, .int .i64 0, .int .u64 u_u, .string s_u, .slice A_u n_u c_u] 35)).heap.size by simp)
          replace hl_a := Lib.hid (hl_a.out.to (w' := ((v41.alloc (.cells #[.int .i64 e, .int .i64 n, .int .i64 0, .int .u64 u_q, .string s_q, .slice none 0 0] 35)).alloc (.cells #[.int .i64 e, .int .i64 n, .int .i64 0, .int .u64 u_u, .string s_u, .slice A_u n_u c_u] 35))) (T := (MidV v3.heap.size v4.heap.size)) (fun b hb => ⟨hb, Below.heap_alloc (v41.alloc (.cells #[.int .i64 e, .int .i64 n, .int .i64 0, .int .u64 u_q, .string s_q, .slice none 0 0] 35)) (.cells #[.int .i64 e, .int .i64 n, .int .i64 0, .int .u64 u_u, .string s_u, .slice A_u n_u c_u] 35) b (lr_a.out b hb)⟩))
          replace lr_a := Lib.hid (show ∀ b, (MidV v3.heap.size v4.heap.size) b → b < ((v41.alloc (.cells #[.int .i64 e, .int .i64 n, .int .i64 0, .int .u64 u_q, .string s_q, .slice none 0 0] 35)).alloc (.cells #[.int .i64 e, .int .i64 n, .int .i64 0, .int .u64 u_u, .string s_u, .slice A_u n_u c_u] 35)).heap.size from fun b hb => Nat.lt_trans (lr_a.out b hb) (by simp))
          replace hl_one := Lib.hid (hl_one.out.to (w' := ((v41.alloc (.cells #[.int .i64 e, .int .i64 n, .int .i64 0, .int .u64 u_q, .string s_q, .slice none 0 0] 35)).alloc (.cells #[.int .i64 e, .int .i64 n, .int .i64 0, .int .u64 u_u, .string s_u, .slice A_u n_u c_u] 35))) (T := (MidV v16.heap.size v17.heap.size)) (fun b hb => ⟨hb, Below.heap_alloc (v41.alloc (.cells #[.int .i64 e, .int .i64 n, .int .i64 0, .int .u64 u_q, .string s_q, .slice none 0 0] 35)) (.cells #[.int .i64 e, .int .i64 n, .int .i64 0, .int .u64 u_u, .string s_u, .slice A_u n_u c_u] 35) b (lr_one.out b hb)⟩))
          replace lr_one := Lib.hid (show ∀ b, (MidV v16.heap.size v17.heap.size) b → b < ((v41.alloc (.cells #[.int .i64 e, .int .i64 n, .int .i64 0, .int .u64 u_q, .string s_q, .slice none 0 0] 35)).alloc (.cells #[.int .i64 e, .int .i64 n, .int .i64 0, .int .u64 u_u, .string s_u, .slice A_u n_u c_u] 35)).heap.size from fun b hb => Nat.lt_trans (lr_one.out b hb) (by simp))
          replace hl_u := Lib.hid (hl_u.out.to (w' := ((v41.alloc (.cells #[.int .i64 e, .int .i64 n, .int .i64 0, .int .u64 u_q, .string s_q, .slice none 0 0] 35)).alloc (.cells #[.int .i64 e, .int .i64 n, .int .i64 0, .int .u64 u_u, .string s_u, .slice A_u n_u c_u] 35))) (T := (MidV v8.heap.size v9.heap.size)) (fun b hb => ⟨hb, Below.heap_alloc (v41.alloc (.cells #[.int .i64 e, .int .i64 n, .int .i64 0, .int .u64 u_q, .string s_q, .slice none 0 0] 35)) (.cells #[.int .i64 e, .int .i64 n, .int .i64 0, .int .u64 u_u, .string s_u, .slice A_u n_u c_u] 35) b (lr_u.out b hb)⟩))
          replace lr_u := Lib.hid (show ∀ b, (MidV v8.heap.size v9.heap.size) b → b < ((v41.alloc (.cells #[.int .i64 e, .int .i64 n, .int .i64 0, .int .u64 u_q, .string s_q, .slice none 0 0] 35)).alloc (.cells #[.int .i64 e, .int .i64 n, .int .i64 0, .int .u64 u_u, .string s_u, .slice A_u n_u c_u] 35)).heap.size from fun b hb => Nat.lt_trans (lr_u.out b hb) (by simp))
          have hb_t := Lib.hid (heap_alloc_new_at (v41.alloc (.cells #[.int .i64 e, .int .i64 n, .int .i64 0, .int .u64 u_q, .string s_q, .slice none 0 0] 35)) (.cells #[.int .i64 e, .int .i64 n, .int .i64 0, .int .u64 u_u, .string s_u, .slice A_u n_u c_u] 35) (n := v41.heap.size + 1) (by simp))
          have lt_t : v41.heap.size + 1 < ((v41.alloc (.cells #[.int .i64 e, .int .i64 n, .int .i64 0, .int .u64 u_q, .string s_q, .slice none 0 0] 35)).alloc (.cells #[.int .i64 e, .int .i64 n, .int .i64 0, .int .u64 u_u, .string s_u, .slice A_u n_u c_u] 35)).heap.size := by simp
          replace hB := hB.alloc hB.size (.cells #[.int .i64 e, .int .i64 n, .int .i64 0, .int .u64 u_u, .string s_u, .slice A_u n_u c_u] 35)
          obtain ⟨f_q0, f_q1, f_q2, f_q3, f_q4, f_q5⟩ := six hb_q.out
          obtain ⟨f_t0, f_t1, f_t2, f_t3, f_t4, f_t5⟩ := six hb_t.out
          go_wp2_with fail
          clear c_p0 c_p1 c_p2 c_p3 c_p4 c_p5 c_q0 c_q1 c_q2 c_q3 c_q4 c_q5 d_u0 d_u1 d_u2 d_u3 d_u4 d_u5 f_q0 f_q1 f_q2 f_q3 f_q4 f_q5 f_t0 f_t1 f_t2 f_t3 f_t4 f_t5
          generalize ((v41.alloc (.cells #[.int .i64 e, .int .i64 n, .int .i64 0, .int .u64 u_q, .string s_q, .slice none 0 0] 35)).alloc (.cells #[.int .i64 e, .int .i64 n, .int .i64 0, .int .u64 u_u, .string s_u, .slice A_u n_u c_u] 35)) = v44 at *
          have hS := vCompare_any ⟨e, n, 0, u_q, s_q, []⟩ ⟨e, n, 0, u_u, s_u, []⟩ _ _ v44 (elVal HOq.out) (hl_u.out.to (T := LoV v44.heap.size) (fun b hb => ⟨lr_u.out b hb, rfl⟩))
          rw [(vaCmp_zero _ _).2 (by
            have h1 := HQ1.out (z : Int)
            rw [if_pos (by rw [hzx2.out]), if_pos (by rw [hzx2.out])] at h1
            rw [HUq.out.1, HUq.out.2, h1.1, h1.2])] at hS
          refine Calls.mono (hS) ?_
          rintro e v45 ⟨rfl, hw⟩
          replace hb_a := Lib.hid ((hw.block _ lt_a).trans hb_a.out)
          replace lt_a := Nat.lt_of_lt_of_le lt_a hw.size
          replace hb_one := Lib.hid ((hw.block _ lt_one).trans hb_one.out)
          replace lt_one := Nat.lt_of_lt_of_le lt_one hw.size
          replace hb_u := Lib.hid ((hw.block _ lt_u).trans hb_u.out)
          replace lt_u := Nat.lt_of_lt_of_le lt_u hw.size
          replace hb_p := Lib.hid ((hw.block _ lt_p).trans hb_p.out)
          replace lt_p := Nat.lt_of_lt_of_le lt_p hw.size
          replace hb_q := Lib.hid ((hw.block _ lt_q).trans hb_q.out)
          replace lt_q := Nat.lt_of_lt_of_le lt_q hw.size
          replace hb_t := Lib.hid ((hw.block _ lt_t).trans hb_t.out)
          replace lt_t := Nat.lt_of_lt_of_le lt_t hw.size
          replace hl_a := Lib.hid (hl_a.out.to (w' := v45) (T := (MidV v3.heap.size v4.heap.size)) (fun b hb => ⟨hb, hw.block b (lr_a.out b hb)⟩))
          replace lr_a := Lib.hid (show ∀ b, (MidV v3.heap.size v4.heap.size) b → b < v45.heap.size from fun b hb => Nat.lt_of_lt_of_le (lr_a.out b hb) hw.size)
          replace hl_one := Lib.hid (hl_one.out.to (w' := v45) (T := (MidV v16.heap.size v17.heap.size)) (fun b hb => ⟨hb, hw.block b (lr_one.out b hb)⟩))
          replace lr_one := Lib.hid (show ∀ b, (MidV v16.heap.size v17.heap.size) b → b < v45.heap.size from fun b hb => Nat.lt_of_lt_of_le (lr_one.out b hb) hw.size)
          replace hl_u := Lib.hid (hl_u.out.to (w' := v45) (T := (MidV v8.heap.size v9.heap.size)) (fun b hb => ⟨hb, hw.block b (lr_u.out b hb)⟩))
          replace lr_u := Lib.hid (show ∀ b, (MidV v8.heap.size v9.heap.size) b → b < v45.heap.size from fun b hb => Nat.lt_of_lt_of_le (lr_u.out b hb) hw.size)
          replace hB := hB.trans (hw.mono hB.size)
          clear hS
          go_wp2_with fail
          go_roundw
          case rel => exact ⟨z + 1, by omega, by go_num, Lib.hid ⟨hb_a.out, hb_one.out, hb_u.out, ⟨lt_a, lt_one, lt_u⟩, hl_a.out, hl_one.out, hl_u.out, lr_a.out, lr_one.out, lr_u.out⟩, hB⟩
          case measure => simp [intOf]; omega
        · have gzx : ((z : Int) == (x : Int)) = false := by rw [beq_eq_false_iff_ne]; omega
          have hzx2 := Lib.hid (show ¬ (z : Int) = (x : Int) from by omega)
          clear hzx
          obtain ⟨c_p0, c_p1, c_p2, c_p3, c_p4, c_p5⟩ := six hb_p.out
          obtain ⟨c_q0, c_q1, c_q2, c_q3, c_q4, c_q5⟩ := six hb_q.out
          have bs_t := Lib.hid (show w.heap.size ≤ v41.heap.size + 1 from (by have h := hB.size; first | omega | (simp at h; omega)))
          have or_a_t := Lib.hid (show v4.heap.size < v41.heap.size + 1 from (by have h := lt_a; first | omega | (simp at h; omega)))
          have or_one_t := Lib.hid (show v17.heap.size < v41.heap.size + 1 from (by have h := lt_one; first | omega | (simp at h; omega)))
          have or_u_t := Lib.hid (show v9.heap.size < v41.heap.size + 1 from (by have h := lt_u; first | omega | (simp at h; omega)))
          have or_p_t := Lib.hid (show v38.heap.size < v41.heap.size + 1 from (by have h := lt_p; first | omega | (simp at h; omega)))
          have or_q_t := Lib.hid (show v41.heap.size < v41.heap.size + 1 from (by have h := lt_q; first | omega | (simp at h; omega)))
          replace hb_a := Lib.hid ((Below.heap_alloc (v41.alloc (.cells #[.int .i64 e, .int .i64 n, .int .i64 0, .int .u64 u_q, .string s_q, .slice none 0 0] 35)) (.cells #[.int .i64 e, .int .i64 n, .int .i64 0, .int .u64 u_p, .string s_p, .slice none 0 0] 35) _ lt_a).trans hb_a.out)
          replace lt_a := Nat.lt_trans lt_a (show (v41.alloc (.cells #[.int .i64 e, .int .i64 n, .int .i64 0, .int .u64 u_q, .string s_q, .slice none 0 0] 35)).heap.size < ((v41.alloc (.cells #[.int .i64 e, .int .i64 n, .int .i64 0, .int .u64 u_q, .string s_q, .slice none 0 0] 35)).alloc (.cells #[.int .i64 e, .int .i64 n, .int .i64 0, .int .u64 u_p, .string s_p, .slice none 0 0] 35)).heap.size by simp)
          replace hb_one := Lib.hid ((Below.heap_alloc (v41.alloc (.cells #[.int .i64 e, .int .i64 n, .int .i64 0, .int .u64 u_q, .string s_q, .slice none 0 0] 35)) (.cells #[.int .i64 e, .int .i64 n, .int .i64 0, .int .u64 u_p, .string s_p, .slice none 0 0] 35) _ lt_one).trans hb_one.out)
          replace lt_one := Nat.lt_trans lt_one (show (v41.alloc (.cells #[.int .i64 e, .int .i64 n, .int .i64 0, .int .u64 u_q, .string s_q, .slice none 0 0] 35)).heap.size < ((v41.alloc (.cells #[.int .i64 e, .int .i64 n, .int .i64 0, .int .u64 u_q, .string s_q, .slice none 0 0] 35)).alloc (.cells #[.int .i64 e, .int .i64 n, .int .i64 0, .int .u64 u_p, .string s_p, .slice none 0 0] 35)).heap.size by simp)
          replace hb_u := Lib.hid ((Below.heap_alloc (v41.alloc (.cells #[.int .i64 e, .int .i64 n, .int .i64 0, .int .u64 u_q, .string s_q, .slice none 0 0] 35)) (.cells #[.int .i64 e, .int .i64 n, .int .i64 0, .int .u64 u_p, .string s_p, .slice none 0 0] 35) _ lt_u).trans hb_u.out)
          replace lt_u := Nat.lt_trans lt_u (show (v41.alloc (.cells #[.int .i64 e, .int .i64 n, .int .i64 0, .int .u64 u_q, .string s_q, .slice none 0 0] 35)).heap.size < ((v41.alloc (.cells #[.int .i64 e, .int .i64 n, .int .i64 0, .int .u64 u_q, .string s_q, .slice none 0 0] 35)).alloc (.cells #[.int .i64 e, .int .i64 n, .int .i64 0, .int .u64 u_p, .string s_p, .slice none 0 0] 35)).heap.size by simp)
          replace hb_p := Lib.hid ((Below.heap_alloc (v41.alloc (.cells #[.int .i64 e, .int .i64 n, .int .i64 0, .int .u64 u_q, .string s_q, .slice none 0 0] 35)) (.cells #[.int .i64 e, .int .i64 n, .int .i64 0, .int .u64 u_p, .string s_p, .slice none 0 0] 35) _ lt_p).trans hb_p.out)
          replace lt_p := Nat.lt_trans lt_p (show (v41.alloc (.cells #[.int .i64 e, .int .i64 n, .int .i64 0, .int .u64 u_q, .string s_q, .slice none 0 0] 35)).heap.size < ((v41.alloc (.cells #[.int .i64 e, .int .i64 n, .int .i64 0, .int .u64 u_q, .string s_q, .slice none 0 0] 35)).alloc (.cells #[.int .i64 e, .int .i64 n, .int .i64 0, .int .u64 u_p, .string s_p, .slice none 0 0] 35)).heap.size by simp)
          replace hb_q := Lib.hid ((Below.heap_alloc (v41.alloc (.cells #[.int .i64 e, .int .i64 n, .int .i64 0, .int .u64 u_q, .string s_q, .slice none 0 0] 35)) (.cells #[.int .i64 e, .int .i64 n, .int .i64 0, .int .u64 u_p, .string s_p, .slice none 0 0] 35) _ lt_q).trans hb_q.out)
          replace lt_q := Nat.lt_trans lt_q (show (v41.alloc (.cells #[.int .i64 e, .int .i64 n, .int .i64 0, .int .u64 u_q, .string s_q, .slice none 0 0] 35)).heap.size < ((v41.alloc (.cells #[.int .i64 e, .int .i64 n, .int .i64 0, .int .u64 u_q, .string s_q, .slice none 0 0] 35)).alloc (.cells #[.int .i64 e, .int .i64 n, .int .i64 0, .int .u64 u_p, .string s_p, .slice none 0 0] 35)).heap.size by simp)
          replace hl_a := Lib.hid (hl_a.out.to (w' := ((v41.alloc (.cells #[.int .i64 e, .int .i64 n, .int .i64 0, .int .u64 u_q, .string s_q, .slice none 0 0] 35)).alloc (.cells #[.int .i64 e, .int .i64 n, .int .i64 0, .int .u64 u_p, .string s_p, .slice none 0 0] 35))) (T := (MidV v3.heap.size v4.heap.size)) (fun b hb => ⟨hb, Below.heap_alloc (v41.alloc (.cells #[.int .i64 e, .int .i64 n, .int .i64 0, .int .u64 u_q, .string s_q, .slice none 0 0] 35)) (.cells #[.int .i64 e, .int .i64 n, .int .i64 0, .int .u64 u_p, .string s_p, .slice none 0 0] 35) b (lr_a.out b hb)⟩))
          replace lr_a := Lib.hid (show ∀ b, (MidV v3.heap.size v4.heap.size) b → b < ((v41.alloc (.cells #[.int .i64 e, .int .i64 n, .int .i64 0, .int .u64 u_q, .string s_q, .slice none 0 0] 35)).alloc (.cells #[.int .i64 e, .int .i64 n, .int .i64 0, .int .u64 u_p, .string s_p, .slice none 0 0] 35)).heap.size from fun b hb => Nat.lt_trans (lr_a.out b hb) (by simp))
          replace hl_one := Lib.hid (hl_one.out.to (w' := ((v41.alloc (.cells #[.int .i64 e, .int .i64 n, .int .i64 0, .int .u64 u_q, .string s_q, .slice none 0 0] 35)).alloc (.cells #[.int .i64 e, .int .i64 n, .int .i64 0, .int .u64 u_p, .string s_p, .slice none 0 0] 35))) (T := (MidV v16.heap.size v17.heap.size)) (fun b hb => ⟨hb, Below.heap_alloc (v41.alloc (.cells #[.int .i64 e, .int .i64 n, .int .i64 0, .int .u64 u_q, .string s_q, .slice none 0 0] 35)) (.cells #[.int .i64 e, .int .i64 n, .int .i64 0, .int .u64 u_p, .string s_p, .slice none 0 0] 35) b (lr_one.out b hb)⟩))
          replace lr_one := Lib.hid (show ∀ b, (MidV v16.heap.size v17.heap.size) b → b < ((v41.alloc (.cells #[.int .i64 e, .int .i64 n, .int .i64 0, .int .u64 u_q, .string s_q, .slice none 0 0] 35)).alloc (.cells #[.int .i64 e, .int .i64 n, .int .i64 0, .int .u64 u_p, .string s_p, .slice none 0 0] 35)).heap.size from fun b hb => Nat.lt_trans (lr_one.out b hb) (by simp))
          replace hl_u := Lib.hid (hl_u.out.to (w' := ((v41.alloc (.cells #[.int .i64 e, .int .i64 n, .int .i64 0, .int .u64 u_q, .string s_q, .slice none 0 0] 35)).alloc (.cells #[.int .i64 e, .int .i64 n, .int .i64 0, .int .u64 u_p, .string s_p, .slice none 0 0] 35))) (T := (MidV v8.heap.size v9.heap.size)) (fun b hb => ⟨hb, Below.heap_alloc (v41.alloc (.cells #[.int .i64 e, .int .i64 n, .int .i64 0, .int .u64 u_q, .string s_q, .slice none 0 0] 35)) (.cells #[.int .i64 e, .int .i64 n, .int .i64 0, .int .u64 u_p, .string s_p, .slice none 0 0] 35) b (lr_u.out b hb)⟩))
          replace lr_u := Lib.hid (show ∀ b, (MidV v8.heap.size v9.heap.size) b → b < ((v41.alloc (.cells #[.int .i64 e, .int .i64 n, .int .i64 0, .int .u64 u_q, .string s_q, .slice none 0 0] 35)).alloc (.cells #[.int .i64 e, .int .i64 n, .int .i64 0, .int .u64 u_p, .string s_p, .slice none 0 0] 35)).heap.size from fun b hb => Nat.lt_trans (lr_u.out b hb) (by simp))
          have hb_t := Lib.hid (heap_alloc_new_at (v41.alloc (.cells #[.int .i64 e, .int .i64 n, .int .i64 0, .int .u64 u_q, .string s_q, .slice none 0 0] 35)) (.cells #[.int .i64 e, .int .i64 n, .int .i64 0, .int .u64 u_p, .string s_p, .slice none 0 0] 35) (n := v41.heap.size + 1) (by simp))
          have lt_t : v41.heap.size + 1 < ((v41.alloc (.cells #[.int .i64 e, .int .i64 n, .int .i64 0, .int .u64 u_q, .string s_q, .slice none 0 0] 35)).alloc (.cells #[.int .i64 e, .int .i64 n, .int .i64 0, .int .u64 u_p, .string s_p, .slice none 0 0] 35)).heap.size := by simp
          replace hB := hB.alloc hB.size (.cells #[.int .i64 e, .int .i64 n, .int .i64 0, .int .u64 u_p, .string s_p, .slice none 0 0] 35)
          obtain ⟨f_q0, f_q1, f_q2, f_q3, f_q4, f_q5⟩ := six hb_q.out
          obtain ⟨f_t0, f_t1, f_t2, f_t3, f_t4, f_t5⟩ := six hb_t.out
          go_wp2_with fail
          clear c_p0 c_p1 c_p2 c_p3 c_p4 c_p5 c_q0 c_q1 c_q2 c_q3 c_q4 c_q5 f_q0 f_q1 f_q2 f_q3 f_q4 f_q5 f_t0 f_t1 f_t2 f_t3 f_t4 f_t5
          generalize ((v41.alloc (.cells #[.int .i64 e, .int .i64 n, .int .i64 0, .int .u64 u_q, .string s_q, .slice none 0 0] 35)).alloc (.cells #[.int .i64 e, .int .i64 n, .int .i64 0, .int .u64 u_p, .string s_p, .slice none 0 0] 35)) = v44 at *
          have hS := vCompare_any ⟨e, n, 0, u_q, s_q, []⟩ ⟨e, n, 0, u_p, s_p, []⟩ _ _ v44 (elVal HOq.out) (elVal HOp.out)
          rw [(vaCmp_zero _ _).2 (by
            have h1 := HQ1.out (z : Int)
            rw [if_neg hzx2.out, if_neg hzx2.out] at h1
            rw [HUq.out.1, HUq.out.2, h1.1, h1.2, ← HUp.out.1, ← HUp.out.2])] at hS
          refine Calls.mono (hS) ?_
          rintro e v45 ⟨rfl, hw⟩
          replace hb_a := Lib.hid ((hw.block _ lt_a).trans hb_a.out)
          replace lt_a := Nat.lt_of_lt_of_le lt_a hw.size
          replace hb_one := Lib.hid ((hw.block _ lt_one).trans hb_one.out)
          replace lt_one := Nat.lt_of_lt_of_le lt_one hw.size
          replace hb_u := Lib.hid ((hw.block _ lt_u).trans hb_u.out)
          replace lt_u := Nat.lt_of_lt_of_le lt_u hw.size
          replace hb_p := Lib.hid ((hw.block _ lt_p).trans hb_p.out)
          replace lt_p := Nat.lt_of_lt_of_le lt_p hw.size
          replace hb_q := Lib.hid ((hw.block _ lt_q).trans hb_q.out)
          replace lt_q := Nat.lt_of_lt_of_le lt_q hw.size
          replace hb_t := Lib.hid ((hw.block _ lt_t).trans hb_t.out)
          replace lt_t := Nat.lt_of_lt_of_le lt_t hw.size
          replace hl_a := Lib.hid (hl_a.out.to (w' := v45) (T := (MidV v3.heap.size v4.heap.size)) (fun b hb => ⟨hb, hw.block b (lr_a.out b hb)⟩))
          replace lr_a := Lib.hid (show ∀ b, (MidV v3.heap.size v4.heap.size) b → b < v45.heap.size from fun b hb => Nat.lt_of_lt_of_le (lr_a.out b hb) hw.size)
          replace hl_one := Lib.hid (hl_one.out.to (w' := v45) (T := (MidV v16.heap.size v17.heap.size)) (fun b hb => ⟨hb, hw.block b (lr_one.out b hb)⟩))
          replace lr_one := Lib.hid (show ∀ b, (MidV v16.heap.size v17.heap.size) b → b < v45.heap.size from fun b hb => Nat.lt_of_lt_of_le (lr_one.out b hb) hw.size)
          replace hl_u := Lib.hid (hl_u.out.to (w' := v45) (T := (MidV v8.heap.size v9.heap.size)) (fun b hb => ⟨hb, hw.block b (lr_u.out b hb)⟩))
          replace lr_u := Lib.hid (show ∀ b, (MidV v8.heap.size v9.heap.size) b → b < v45.heap.size from fun b hb => Nat.lt_of_lt_of_le (lr_u.out b hb) hw.size)
          replace hB := hB.trans (hw.mono hB.size)
          clear hS
          go_wp2_with fail
          go_roundw
          case rel => exact ⟨z + 1, by omega, by go_num, Lib.hid ⟨hb_a.out, hb_one.out, hb_u.out, ⟨lt_a, lt_one, lt_u⟩, hl_a.out, hl_one.out, hl_u.out, lr_a.out, lr_one.out, lr_u.out⟩, hB⟩
          case measure => simp [intOf]; omega
      · have hzi : ¬ (z : Int) < (sz : Int) := by omega
        go_wp2_with fail
        refine Calls.mono (l6lives_any wr) ?_
        rintro e v38 ⟨rfl, hw⟩
        replace hb_a := Lib.hid ((hw.block _ lt_a).trans hb_a.out)
        replace lt_a := Nat.lt_of_lt_of_le lt_a hw.size
        replace hb_one := Lib.hid ((hw.block _ lt_one).trans hb_one.out)
        replace lt_one := Nat.lt_of_lt_of_le lt_one hw.size
        replace hb_u := Lib.hid ((hw.block _ lt_u).trans hb_u.out)
        replace lt_u := Nat.lt_of_lt_of_le lt_u hw.size
        replace hl_a := Lib.hid (hl_a.out.to (w' := v38) (T := (MidV v3.heap.size v4.heap.size)) (fun b hb => ⟨hb, hw.block b (lr_a.out b hb)⟩))
        replace lr_a := Lib.hid (show ∀ b, (MidV v3.heap.size v4.heap.size) b → b < v38.heap.size from fun b hb => Nat.lt_of_lt_of_le (lr_a.out b hb) hw.size)
        replace hl_one := Lib.hid (hl_one.out.to (w' := v38) (T := (MidV v16.heap.size v17.heap.size)) (fun b hb => ⟨hb, hw.block b (lr_one.out b hb)⟩))
        replace lr_one := Lib.hid (show ∀ b, (MidV v16.heap.size v17.heap.size) b → b < v38.heap.size from fun b hb => Nat.lt_of_lt_of_le (lr_one.out b hb) hw.size)
        replace hl_u := Lib.hid (hl_u.out.to (w' := v38) (T := (MidV v8.heap.size v9.heap.size)) (fun b hb => ⟨hb, hw.block b (lr_u.out b hb)⟩))
        replace lr_u := Lib.hid (show ∀ b, (MidV v8.heap.size v9.heap.size) b → b < v38.heap.size from fun b hb => Nat.lt_of_lt_of_le (lr_u.out b hb) hw.size)
        replace hB := hB.trans (hw.mono hB.size)
        go_wp2_with fail
        go_ret
        exact ⟨rfl, hB⟩
end Go.Proofs.Ytkahcecfmmhaoaa
