/-
  THE WALK of the law ValueExtensional. Written by gen/genext6.py.
-/
import Derived.Test.YtedhbpceonhmcaaL6Row
import Derived.Test.YtedhbpceonhmcaaL6Lives
import Derived.Test.YtedhbpceonhmcaaL6Dff
namespace Go.Proofs.Ytedhbpceonhmcaa
open Go.RowKit

set_option maxHeartbeats 8000000 in
set_option maxRecDepth 100000 in
theorem exts_any (n0 : Int) (A1 : Option Addr) (c1 : Nat) (zs1 : List Int) (len1 : Nat) (A2 : Option Addr) (c2 : Nat) (zs2 : List Int) (len2 : Nat) (w : World) (hn : I64 n0)
    (hm1 : zs1.length ≤ 1048576) (hc1 : zs1.length ≤ c1) (hA1 : A1 = none → c1 = 0) (hm2 : zs2.length ≤ 1048576) (hc2 : zs2.length ≤ c2) (hA2 : A2 = none → c2 = 0)
    (hlen1 : len1 = zs1.length) (hzs1 : ∀ z ∈ zs1, I64 z) (hr1 : RdI w w.heap.size .i64 A1 zs1) (hlen2 : len2 = zs2.length) (hzs2 : ∀ z ∈ zs2, I64 z) (hr2 : RdI w w.heap.size .i64 A2 zs2) :
    Calls Try.prog 8 #[.int .i64 n0, .slice A1 len1 c1, .slice A2 len2 c2] w fun e w' => e = .returned (.bool true) ∧ Below w.heap.size w w' := by
  have H1 := Lib.hid (And.intro hlen1 (And.intro hzs1 hr1))
  have H2 := Lib.hid (And.intro hlen2 (And.intro hzs2 hr2))
  have HC1 := Lib.hid (And.intro hm1 (And.intro hc1 hA1))
  have HC2 := Lib.hid (And.intro hm2 (And.intro hc2 hA2))
  clear hlen1 hzs1 hr1 hlen2 hzs2 hr2 hm1 hc1 hA1 hm2 hc2 hA2
  have hB : Below w.heap.size w w := Below.refl _ _
  go_enter Try.func8, Try.ntmps8
  go_wp2_with fail
  refine Calls.mono (l6array_any n0 A1 c1 zs1 len1 w hn H1.out.1 H1.out.2.1 H1.out.2.2) ?_
  rintro e v1 ⟨x, hk, hix, hval, vv, rfl, hvv, hw⟩
  replace hB := hB.trans (hw.mono hB.size)
  have hxe := arr_eta hval (by rcases hk with h | h <;> rw [h] <;> rfl)
  obtain ⟨k, n, ix, u, s, m⟩ := x
  simp only at hk hix hxe
  rw [hxe] at hvv hval
  clear hxe
  have Hk := Lib.hid hk
  have Hval := Lib.hid hval
  have HIX := Lib.hid hix
  clear hk hval
  obtain ⟨sz, hsz1, hsz4, hsz2, hsz3⟩ : ∃ sz : Nat, wrap64 (2 ^ min (IntKind.u64.wrap ix).toNat 64) = (sz : Int) ∧ IntKind.u64.wrap (2 ^ min (IntKind.u64.wrap ix).toNat 64) = (sz : Int) ∧ grI ix = (sz : Int) - 1 ∧ (1 ≤ sz ∧ sz ≤ 8) := by
    rcases (show ix = 1 ∨ ix = 2 ∨ ix = 3 by omega) with rfl | rfl | rfl
    · exact ⟨2, by simp [wrap64, IntKind.wrap, IntKind.bits, IntKind.signed], by simp [IntKind.wrap, IntKind.bits, IntKind.signed], by decide, by decide, by decide⟩
    · exact ⟨4, by simp [wrap64, IntKind.wrap, IntKind.bits, IntKind.signed], by simp [IntKind.wrap, IntKind.bits, IntKind.signed], by decide, by decide, by decide⟩
    · exact ⟨8, by simp [wrap64, IntKind.wrap, IntKind.bits, IntKind.signed], by simp [IntKind.wrap, IntKind.bits, IntKind.signed], by decide, by decide, by decide⟩
  clear hix
  have HGR := Lib.hid hsz2
  clear hsz2
  have HSS := Lib.hid (val_parts Hval.out).1
  obtain ⟨e, he⟩ : ∃ e : Int, e = elK k := ⟨_, rfl⟩
  have HE := Lib.hid he
  have HES := Lib.hid (show sortOk e n 0 = true from by rw [he]; exact (sort_el Hk.out (val_parts Hval.out).1).1)
  clear he
  obtain ⟨A_r, n_r, c_r, hve⟩ := hvv.shape
  have hve2 : vv = .agg #[.int .i64 k, .int .i64 n, .int .i64 ix, .int .u64 0, .string ⟨#[]⟩, .slice A_r n_r c_r] := hve
  subst hve2
  clear hve
  have hl_r := Lib.hid hvv
  clear hvv
  have lr_r := Lib.hid (show ∀ b, (MidV w.heap.size v1.heap.size) b → b < v1.heap.size from fun b hb => hb.2)
  have bs_r := Lib.hid (show w.heap.size ≤ v1.heap.size from (by have h := hB.size; first | omega | (simp at h; omega)))
  replace hl_r := Lib.hid (hl_r.out.to (w' := (v1.alloc (.cells #[.int .i64 k, .int .i64 n, .int .i64 ix, .int .u64 0, .string ⟨#[]⟩, .slice A_r n_r c_r] 30))) (T := (MidV w.heap.size v1.heap.size)) (fun b hb => ⟨hb, Below.heap_alloc v1 (.cells #[.int .i64 k, .int .i64 n, .int .i64 ix, .int .u64 0, .string ⟨#[]⟩, .slice A_r n_r c_r] 30) b (lr_r.out b hb)⟩))
  replace lr_r := Lib.hid (show ∀ b, (MidV w.heap.size v1.heap.size) b → b < (v1.alloc (.cells #[.int .i64 k, .int .i64 n, .int .i64 ix, .int .u64 0, .string ⟨#[]⟩, .slice A_r n_r c_r] 30)).heap.size from fun b hb => Nat.lt_trans (lr_r.out b hb) (by simp))
  have hb_r := Lib.hid (heap_alloc_new_at v1 (.cells #[.int .i64 k, .int .i64 n, .int .i64 ix, .int .u64 0, .string ⟨#[]⟩, .slice A_r n_r c_r] 30) (n := v1.heap.size) (by simp))
  have lt_r : v1.heap.size < (v1.alloc (.cells #[.int .i64 k, .int .i64 n, .int .i64 ix, .int .u64 0, .string ⟨#[]⟩, .slice A_r n_r c_r] 30)).heap.size := by simp
  replace hB := hB.alloc hB.size (.cells #[.int .i64 k, .int .i64 n, .int .i64 ix, .int .u64 0, .string ⟨#[]⟩, .slice A_r n_r c_r] 30)
  obtain ⟨c_r0, c_r1, c_r2, c_r3, c_r4, c_r5⟩ := six hb_r.out
  go_wp2_with fail
  clear c_r0 c_r1 c_r2 c_r3 c_r4 c_r5
  generalize (v1.alloc (.cells #[.int .i64 k, .int .i64 n, .int .i64 ix, .int .u64 0, .string ⟨#[]⟩, .slice A_r n_r c_r] 30)) = v3 at *
  refine Calls.mono (l6own_any ⟨k, n, ix, 0, .empty, m⟩ _ v3 (hl_r.out.to (T := LoV v3.heap.size) (fun b hb => ⟨lr_r.out b hb, rfl⟩))) ?_
  rintro e v4 ⟨vv, rfl, hvv, hw⟩
  replace hb_r := Lib.hid ((hw.block _ lt_r).trans hb_r.out)
  replace lt_r := Nat.lt_of_lt_of_le lt_r hw.size
  replace hl_r := Lib.hid (hl_r.out.to (w' := v4) (T := (MidV w.heap.size v1.heap.size)) (fun b hb => ⟨hb, hw.block b (lr_r.out b hb)⟩))
  replace lr_r := Lib.hid (show ∀ b, (MidV w.heap.size v1.heap.size) b → b < v4.heap.size from fun b hb => Nat.lt_of_lt_of_le (lr_r.out b hb) hw.size)
  replace hB := hB.trans (hw.mono hB.size)
  obtain ⟨A_a, n_a, c_a, hve⟩ := hvv.shape
  have hve2 : vv = .agg #[.int .i64 k, .int .i64 n, .int .i64 ix, .int .u64 0, .string ⟨#[]⟩, .slice A_a n_a c_a] := hve
  subst hve2
  clear hve
  have hl_a := Lib.hid hvv
  clear hvv
  have lr_a := Lib.hid (show ∀ b, (MidV v3.heap.size v4.heap.size) b → b < v4.heap.size from fun b hb => hb.2)
  have bs_a := Lib.hid (show w.heap.size ≤ v4.heap.size from (by have h := hB.size; first | omega | (simp at h; omega)))
  have or_r_a := Lib.hid (show v1.heap.size < v4.heap.size from (by have h := lt_r; first | omega | (simp at h; omega)))
  replace hb_r := Lib.hid ((Below.heap_alloc v4 (.cells #[.int .i64 k, .int .i64 n, .int .i64 ix, .int .u64 0, .string ⟨#[]⟩, .slice A_a n_a c_a] 35) _ lt_r).trans hb_r.out)
  replace lt_r := Nat.lt_trans lt_r (show v4.heap.size < (v4.alloc (.cells #[.int .i64 k, .int .i64 n, .int .i64 ix, .int .u64 0, .string ⟨#[]⟩, .slice A_a n_a c_a] 35)).heap.size by simp)
  replace hl_r := Lib.hid (hl_r.out.to (w' := (v4.alloc (.cells #[.int .i64 k, .int .i64 n, .int .i64 ix, .int .u64 0, .string ⟨#[]⟩, .slice A_a n_a c_a] 35))) (T := (MidV w.heap.size v1.heap.size)) (fun b hb => ⟨hb, Below.heap_alloc v4 (.cells #[.int .i64 k, .int .i64 n, .int .i64 ix, .int .u64 0, .string ⟨#[]⟩, .slice A_a n_a c_a] 35) b (lr_r.out b hb)⟩))
  replace lr_r := Lib.hid (show ∀ b, (MidV w.heap.size v1.heap.size) b → b < (v4.alloc (.cells #[.int .i64 k, .int .i64 n, .int .i64 ix, .int .u64 0, .string ⟨#[]⟩, .slice A_a n_a c_a] 35)).heap.size from fun b hb => Nat.lt_trans (lr_r.out b hb) (by simp))
  replace hl_a := Lib.hid (hl_a.out.to (w' := (v4.alloc (.cells #[.int .i64 k, .int .i64 n, .int .i64 ix, .int .u64 0, .string ⟨#[]⟩, .slice A_a n_a c_a] 35))) (T := (MidV v3.heap.size v4.heap.size)) (fun b hb => ⟨hb, Below.heap_alloc v4 (.cells #[.int .i64 k, .int .i64 n, .int .i64 ix, .int .u64 0, .string ⟨#[]⟩, .slice A_a n_a c_a] 35) b (lr_a.out b hb)⟩))
  replace lr_a := Lib.hid (show ∀ b, (MidV v3.heap.size v4.heap.size) b → b < (v4.alloc (.cells #[.int .i64 k, .int .i64 n, .int .i64 ix, .int .u64 0, .string ⟨#[]⟩, .slice A_a n_a c_a] 35)).heap.size from fun b hb => Nat.lt_trans (lr_a.out b hb) (by simp))
  have hb_a := Lib.hid (heap_alloc_new_at v4 (.cells #[.int .i64 k, .int .i64 n, .int .i64 ix, .int .u64 0, .string ⟨#[]⟩, .slice A_a n_a c_a] 35) (n := v4.heap.size) (by simp))
  have lt_a : v4.heap.size < (v4.alloc (.cells #[.int .i64 k, .int .i64 n, .int .i64 ix, .int .u64 0, .string ⟨#[]⟩, .slice A_a n_a c_a] 35)).heap.size := by simp
  replace hB := hB.alloc hB.size (.cells #[.int .i64 k, .int .i64 n, .int .i64 ix, .int .u64 0, .string ⟨#[]⟩, .slice A_a n_a c_a] 35)
  obtain ⟨c_a0, c_a1, c_a2, c_a3, c_a4, c_a5⟩ := six hb_a.out
  obtain ⟨c_r0, c_r1, c_r2, c_r3, c_r4, c_r5⟩ := six hb_r.out
  go_wp2_with fail
  clear c_a0 c_a1 c_a2 c_a3 c_a4 c_a5
  clear c_r0 c_r1 c_r2 c_r3 c_r4 c_r5
  generalize (v4.alloc (.cells #[.int .i64 k, .int .i64 n, .int .i64 ix, .int .u64 0, .string ⟨#[]⟩, .slice A_a n_a c_a] 35)) = v6 at *
  have HS := Lib.hid fun (W : World) (h : Below v6.heap.size v6 W) => (show (fun W => W.cell? ⟨v1.heap.size, 0, none⟩ = some (.int .i64 k) ∧ W.cell? ⟨v1.heap.size, 1, none⟩ = some (.int .i64 n) ∧ W.cell? ⟨v1.heap.size, 2, none⟩ = some (.int .i64 ix) ∧ W.cell? ⟨v4.heap.size, 0, none⟩ = some (.int .i64 k) ∧ W.cell? ⟨v4.heap.size, 1, none⟩ = some (.int .i64 n) ∧ W.cell? ⟨v4.heap.size, 2, none⟩ = some (.int .i64 ix) ∧ W.cell? ⟨v4.heap.size, 3, none⟩ = some (.int .u64 0) ∧ W.cell? ⟨v4.heap.size, 4, none⟩ = some (.string ⟨#[]⟩) ∧ W.cell? ⟨v4.heap.size, 5, none⟩ = some (.slice A_a n_a c_a)) W from by
    have h1 := six ((h.block _ lt_r).trans hb_r.out)
    have h2 := six ((h.block _ lt_a).trans hb_a.out)
    exact ⟨h1.1, h1.2.1, h1.2.2.1, h2⟩)
  have hd : Below v6.heap.size v6 v6.drew := (Below.refl _ _).drew
  have hS0 := HS.out _ hd
  obtain ⟨i0, hi0, hz0, hz1, hz2⟩ := info_parts info_int
  replace hi0 := Lib.hid hi0
  replace hz0 := Lib.hid hz0
  replace hz1 := Lib.hid hz1
  replace hz2 := Lib.hid hz2
  refine region_lastp (fun W => W.cell? ⟨v1.heap.size, 0, none⟩ = some (.int .i64 k) ∧ W.cell? ⟨v1.heap.size, 1, none⟩ = some (.int .i64 n) ∧ W.cell? ⟨v1.heap.size, 2, none⟩ = some (.int .i64 ix) ∧ W.cell? ⟨v4.heap.size, 0, none⟩ = some (.int .i64 k) ∧ W.cell? ⟨v4.heap.size, 1, none⟩ = some (.int .i64 n) ∧ W.cell? ⟨v4.heap.size, 2, none⟩ = some (.int .i64 ix) ∧ W.cell? ⟨v4.heap.size, 3, none⟩ = some (.int .u64 0) ∧ W.cell? ⟨v4.heap.size, 4, none⟩ = some (.string ⟨#[]⟩) ∧ W.cell? ⟨v4.heap.size, 5, none⟩ = some (.slice A_a n_a c_a)) (by kernel_rfl) rfl (by kernel_rfl) ?_
  (try simp only [List.pop_toArray, List.dropLast_cons_cons, List.dropLast_singleton, List.size_toArray, List.length_cons, List.length_nil, Nat.zero_add, Nat.reduceAdd])
  refine wpAnyH_takeL (i := 0) (v := ?v1) rfl (by kernel_rfl) (by kernel_rfl) (by kernel_rfl) (fun _ _ _ h => h) (Or.inl ⟨by rfl, ?y1⟩) (by assumption) ?r1
  case y1 => (intro W hSw; (try dsimp only at hSw); go_simp; try with_reducible rfl)
  (try simp only [Act.put, List.setIfInBounds_toArray, List.set_cons_zero, List.set_cons_succ])
  refine wpAnyH_takeL (i := 1) (v := ?v2) rfl (by kernel_rfl) (by kernel_rfl) (by kernel_rfl) (fun _ _ _ h => h) (Or.inl ⟨by rfl, ?y2⟩) (by assumption) ?r2
  case y2 => (intro W hSw; (try dsimp only at hSw); go_simp; try with_reducible rfl)
  (try simp only [Act.put, List.setIfInBounds_toArray, List.set_cons_zero, List.set_cons_succ])
  refine wpAnyH_takeL (i := 2) (v := ?v3) rfl (by kernel_rfl) (by kernel_rfl) (by kernel_rfl) (fun _ _ _ h => h) (Or.inl ⟨by rfl, ?y3⟩) (by assumption) ?r3
  case y3 => (intro W hSw; (try dsimp only at hSw); go_simp; try with_reducible rfl)
  (try simp only [Act.put, List.setIfInBounds_toArray, List.set_cons_zero, List.set_cons_succ])
  refine wpAnyH_takeL (i := 5) (v := ?v4) rfl (by kernel_rfl) (by kernel_rfl) (by kernel_rfl) (fun _ _ _ h => h) (Or.inl ⟨by rfl, ?y4⟩) (by assumption) ?r4
  case y4 => (intro W hSw; (try dsimp only at hSw); go_simp; try with_reducible rfl)
  (try simp only [Act.put, List.setIfInBounds_toArray, List.set_cons_zero, List.set_cons_succ])
  refine wpAnyH_takeL (i := 6) (v := ?v5) rfl (by kernel_rfl) (by kernel_rfl) (by kernel_rfl) (fun _ _ _ h => h) (Or.inl ⟨by rfl, ?y5⟩) (by assumption) ?r5
  case y5 => (intro W hSw; (try dsimp only at hSw); go_simp; try with_reducible rfl)
  (try simp only [Act.put, List.setIfInBounds_toArray, List.set_cons_zero, List.set_cons_succ])
  refine wpAnyH_takeL (i := 7) (v := ?v6) rfl (by kernel_rfl) (by kernel_rfl) (by kernel_rfl) (fun _ _ _ h => h) (Or.inl ⟨by rfl, ?y6⟩) (by assumption) ?r6
  case y6 => (intro W hSw; (try dsimp only at hSw); go_simp; try with_reducible rfl)
  (try simp only [Act.put, List.setIfInBounds_toArray, List.set_cons_zero, List.set_cons_succ])
  refine wpAnyH_takeL (i := 9) (v := ?v7) rfl (by kernel_rfl) (by kernel_rfl) (by kernel_rfl) (fun _ _ _ h => h) (Or.inl ⟨by rfl, ?y7⟩) (by assumption) ?r7
  case y7 => (intro W hSw; (try dsimp only at hSw); go_simp; try with_reducible rfl)
  (try simp only [Act.put, List.setIfInBounds_toArray, List.set_cons_zero, List.set_cons_succ])
  refine wpAnyH_takeL (i := 11) (v := ?v8) rfl (by kernel_rfl) (by kernel_rfl) (by kernel_rfl) (fun _ _ _ h => h) (Or.inl ⟨by rfl, ?y8⟩) (by assumption) ?r8
  case y8 => (intro W hSw; (try dsimp only at hSw); go_simp; try with_reducible rfl)
  (try simp only [Act.put, List.setIfInBounds_toArray, List.set_cons_zero, List.set_cons_succ])
  refine wpAnyH_ready (rs := [3, 8]) (by kernel_rfl) (by simp) ?_
  refine consL rfl (fun K hK => ?_) (consL rfl (fun K hK => ?_) AllReadyH.nil)
  · skip
    go_simp
    refine Calls.mono (r6Of_any k n ix v6.drew A2 c2 zs2 len2 H2.out.1 H2.out.2.1 ((H2.out.2.2.below (hB.trans (hd.mono hB.size))).mono (hB.trans (hd.mono hB.size)).size) HSS.out) ?_
    rintro e u1 ⟨x, ⟨hxk, hxn, hxi⟩, hval, vv, rfl, hvv, hw⟩
    have hxe := arr_eta hval (by rw [hxk]; rcases Hk.out with h | h <;> rw [h] <;> rfl)
    rw [hxk, hxn, hxi] at hxe
    obtain ⟨m_x1, hme⟩ : ∃ mm, mm = x.m := ⟨_, rfl⟩
    rw [← hme] at hxe
    subst hxe
    clear hxk hxn hxi hme
    have hval_x1 := Lib.hid hval
    clear hval
    obtain ⟨A_x1, n_x1, c_x1, hve⟩ := hvv.shape
    have hve2 : vv = .agg #[.int .i64 k, .int .i64 n, .int .i64 ix, .int .u64 0, .string ⟨#[]⟩, .slice A_x1 n_x1 c_x1] := hve
    subst hve2
    clear hve
    have hl_x1 := Lib.hid hvv
    clear hvv
    have lr_x1 := Lib.hid (show ∀ b, MidV v6.drew.heap.size u1.heap.size b → b < u1.heap.size from fun b hb => hb.2)
    replace hd := hd.trans ((hw).mono hd.size)
    clear hw
    (try dsimp only)
    refine hK.out _ _ (HS.out _ hd) (fun hHeld => ?_)
    clear hK K hHeld
    (try simp only [Act.put, List.setIfInBounds_toArray, List.set_cons_zero, List.set_cons_succ])
    refine wpAnyH_ready (rs := [4, 8]) (by kernel_rfl) (by simp) ?_
    refine consL rfl (fun K hK => ?_) (consL rfl (fun K hK => ?_) AllReadyH.nil)
    · skip
      go_simp
      refine Calls.mono (l6own_any ⟨k, n, ix, 0, .empty, m_x1⟩ _ u1 (hl_x1.out.to (T := LoV u1.heap.size) (fun b hb => ⟨lr_x1.out b hb, rfl⟩))) ?_
      rintro e u2 ⟨vv, rfl, hvv, hw⟩
      clear hl_x1 lr_x1
      obtain ⟨A_y1, n_y1, c_y1, hve⟩ := hvv.shape
      have hve2 : vv = .agg #[.int .i64 k, .int .i64 n, .int .i64 ix, .int .u64 0, .string ⟨#[]⟩, .slice A_y1 n_y1 c_y1] := hve
      subst hve2
      clear hve
      have hl_y1 := Lib.hid hvv
      clear hvv
      have lr_y1 := Lib.hid (show ∀ b, MidV u1.heap.size u2.heap.size b → b < u2.heap.size from fun b hb => hb.2)
      replace hd := hd.trans ((hw).mono hd.size)
      clear hw
      (try dsimp only)
      refine hK.out _ _ (HS.out _ hd) (fun hHeld => ?_)
      clear hK K hHeld
      (try simp only [Act.put, List.setIfInBounds_toArray, List.set_cons_zero, List.set_cons_succ])
      refine wpAnyH_ready (rs := [8]) (by kernel_rfl) (by simp) ?_
      refine consL rfl (fun K hK => ?_) AllReadyH.nil
      go_simp
      have hrow0 := Lib.hid (show ((u2.alloc (.cells #[] 3))).ownsRow v6.heap.size 3 1 (.slice (some ⟨u2.heap.size, 0, none⟩) 0 0) 0 [] from own_base (rowi_empty u2 3) hd.size)
      have hNo := Lib.hid (show ∀ b, (MidV u1.heap.size u2.heap.size) b → (Value.slice (some ⟨u2.heap.size, 0, none⟩) 0 0).ownBlock ≠ some b from fun b hb e => by have h1 := lr_y1.out b hb; injection e with e; exact absurd e.symm (Nat.ne_of_lt h1))
      replace hd := hd.trans (((show Below u2.heap.size u2 (u2.alloc (.cells #[] 3)) from (Below.refl u2.heap.size u2).alloc (Nat.le_refl _) (.cells #[] 3))).mono hd.size)
      replace hl_y1 := Lib.hid (hl_y1.out.to (w' := (u2.alloc (.cells #[] 3))) (T := (MidV u1.heap.size u2.heap.size)) (fun b hb => ⟨hb, ((show Below u2.heap.size u2 (u2.alloc (.cells #[] 3)) from (Below.refl u2.heap.size u2).alloc (Nat.le_refl _) (.cells #[] 3))).block b (lr_y1.out b hb)⟩))
      replace lr_y1 := Lib.hid (show ∀ b, (MidV u1.heap.size u2.heap.size) b → b < (u2.alloc (.cells #[] 3)).heap.size from fun b hb => Nat.lt_of_lt_of_le (lr_y1.out b hb) ((show Below u2.heap.size u2 (u2.alloc (.cells #[] 3)) from (Below.refl u2.heap.size u2).alloc (Nat.le_refl _) (.cells #[] 3))).size)
      have hrow := hrow0
      clear hrow0
      have hRb := Lib.hid (show ∀ b, (Value.slice (some ⟨u2.heap.size, 0, none⟩) 0 0).ownBlock = some b → b < (u2.alloc (.cells #[] 3)).heap.size from fun b e => (hrow.out.lt b e).2)
      (try dsimp only)
      refine hK.out _ _ (HS.out _ hd) (fun hHeld => ?_)
      clear hK K hHeld
      (try simp only [Act.put, List.setIfInBounds_toArray, List.set_cons_zero, List.set_cons_succ])
      refine wpAnyH_ready (rs := [10]) (by kernel_rfl) (by simp) ?_
      refine consL rfl (fun K hK => ?_) AllReadyH.nil
      refine step_append_rd (u2.alloc (.cells #[] 3)) rfl (.tmp 34) (.tmp 35) 22 rfl v6.heap.size 3 i0 (.int .i64 0) 8 Try.underlying22 hi0.out hz0.out hz1.out hz2.out rfl .i64 _ 0 [] rfl rfl hrow.out A1 len1 c1 zs1 rfl H1.out.1 HC1.out.2.2 HC1.out.2.1 ((H1.out.2.2.below (hB.trans (hd.mono hB.size))).mono (hB.trans (hd.mono hB.size)).size) (by have h1 := HC1.out.1; have h2 := HC2.out.1; have h3 := H1.out.1; have h4 := H2.out.1; unfold maxLen; omega) (by have h1 := HC1.out.1; have h2 := HC2.out.1; have h3 := H1.out.1; have h4 := H2.out.1; omega) hd.size ?_
      intro Ap np cp u3 hqp hrow2 hg hat
      replace hd := hd.grown hg hd.size (fun j ej => (hrow.out.lt j ej).1)
      have hl_y2 := Lib.hid (hl_y1.out.to (w' := u3) (T := (MidV u1.heap.size u2.heap.size)) (fun b hb => ⟨hb, hg.block b (lr_y1.out b hb) (fun e => hNo.out b hb e.symm)⟩))
      replace hNo := Lib.hid (show ∀ b, (MidV u1.heap.size u2.heap.size) b → (Value.slice Ap np cp).ownBlock ≠ some b from fun b hb e => by
        rcases hat with h | h
        · exact hNo.out b hb (h.symm.trans e)
        · have h1 := lr_y1.out b hb
          rw [e] at h
          injection h with h
          exact absurd h (Nat.ne_of_lt h1))
      replace lr_y1 := Lib.hid (show ∀ b, (MidV u1.heap.size u2.heap.size) b → b < u3.heap.size from fun b hb => Nat.lt_of_lt_of_le (lr_y1.out b hb) hg.size)
      replace hl_y1 := hl_y2
      replace hrow := Lib.hid hrow2
      replace hRb := Lib.hid (show ∀ b, (Value.slice Ap np cp).ownBlock = some b → b < u3.heap.size from fun b e => (hrow2.lt b e).2)
      clear hg hat hl_y2 hrow2
      (try dsimp only)
      refine hK.out _ _ (HS.out _ hd) (fun hHeld => ?_)
      clear hK K hHeld
      (try simp only [Act.put, List.setIfInBounds_toArray, List.set_cons_zero, List.set_cons_succ])
      have hqp2 : np = zs1.length := hqp.out.1
      have Hqp := Lib.hid hqp2
      clear hqp2
      refine wpAnyH_ready (rs := [12]) (by kernel_rfl) (by simp) ?_
      refine consL rfl (fun K hK => ?_) AllReadyH.nil
      refine step_append_rd u3 rfl (.tmp 36) (.tmp 37) 22 rfl v6.heap.size 3 i0 (.int .i64 0) 8 Try.underlying22 hi0.out hz0.out hz1.out hz2.out rfl .i64 _ np zs1 Hqp.out rfl hrow.out A2 len2 c2 zs2 rfl H2.out.1 HC2.out.2.2 HC2.out.2.1 ((H2.out.2.2.below (hB.trans (hd.mono hB.size))).mono (hB.trans (hd.mono hB.size)).size) (by have h1 := HC1.out.1; have h2 := HC2.out.1; have h3 := H1.out.1; have h4 := H2.out.1; have h5 := Hqp.out; unfold maxLen; omega) (by have h1 := HC1.out.1; have h2 := HC2.out.1; have h3 := H1.out.1; have h4 := H2.out.1; have h5 := Hqp.out; omega) hd.size ?_
      intro Aq nq cq u4 hqq hrow2 hg hat
      replace hd := hd.grown hg hd.size (fun j ej => (hrow.out.lt j ej).1)
      have hl_y2 := Lib.hid (hl_y1.out.to (w' := u4) (T := (MidV u1.heap.size u2.heap.size)) (fun b hb => ⟨hb, hg.block b (lr_y1.out b hb) (fun e => hNo.out b hb e.symm)⟩))
      replace hNo := Lib.hid (show ∀ b, (MidV u1.heap.size u2.heap.size) b → (Value.slice Aq nq cq).ownBlock ≠ some b from fun b hb e => by
        rcases hat with h | h
        · exact hNo.out b hb (h.symm.trans e)
        · have h1 := lr_y1.out b hb
          rw [e] at h
          injection h with h
          exact absurd h (Nat.ne_of_lt h1))
      replace lr_y1 := Lib.hid (show ∀ b, (MidV u1.heap.size u2.heap.size) b → b < u4.heap.size from fun b hb => Nat.lt_of_lt_of_le (lr_y1.out b hb) hg.size)
      replace hl_y1 := hl_y2
      replace hrow := Lib.hid hrow2
      replace hRb := Lib.hid (show ∀ b, (Value.slice Aq nq cq).ownBlock = some b → b < u4.heap.size from fun b e => (hrow2.lt b e).2)
      clear hg hat hl_y2 hrow2
      (try dsimp only)
      refine hK.out _ _ (HS.out _ hd) (fun hHeld => ?_)
      clear hK K hHeld
      (try simp only [Act.put, List.setIfInBounds_toArray, List.set_cons_zero, List.set_cons_succ])
      refine wpAnyH_ready (rs := [13]) (by kernel_rfl) (by simp) ?_
      refine consL rfl (fun K hK => ?_) AllReadyH.nil
      go_simp
      refine Calls.mono (r6Of_any k n ix u4 Aq cq (zs1 ++ zs2) nq hqq.out.1 (fun z hz => by rcases List.mem_append.1 hz with h | h; exact H1.out.2.1 z h; exact H2.out.2.1 z h) (rd_own hrow.out) HSS.out) ?_
      rintro e u5 ⟨x, ⟨hxk, hxn, hxi⟩, hval, vv, rfl, hvv, hw⟩
      have hxe := arr_eta hval (by rw [hxk]; rcases Hk.out with h | h <;> rw [h] <;> rfl)
      rw [hxk, hxn, hxi] at hxe
      obtain ⟨m_x3, hme⟩ : ∃ mm, mm = x.m := ⟨_, rfl⟩
      rw [← hme] at hxe
      subst hxe
      clear hxk hxn hxi hme
      have hval_x3 := Lib.hid hval
      clear hval
      obtain ⟨A_x3, n_x3, c_x3, hve⟩ := hvv.shape
      have hve2 : vv = .agg #[.int .i64 k, .int .i64 n, .int .i64 ix, .int .u64 0, .string ⟨#[]⟩, .slice A_x3 n_x3 c_x3] := hve
      subst hve2
      clear hve
      have hl_x3 := Lib.hid hvv
      clear hvv
      have lr_x3 := Lib.hid (show ∀ b, MidV u4.heap.size u5.heap.size b → b < u5.heap.size from fun b hb => hb.2)
      replace hd := hd.trans ((hw).mono hd.size)
      replace hl_y1 := Lib.hid (hl_y1.out.to (w' := u5) (T := (MidV u1.heap.size u2.heap.size)) (fun b hb => ⟨hb, (hw).block b (lr_y1.out b hb)⟩))
      replace lr_y1 := Lib.hid (show ∀ b, (MidV u1.heap.size u2.heap.size) b → b < u5.heap.size from fun b hb => Nat.lt_of_lt_of_le (lr_y1.out b hb) (hw).size)
      replace hrow := Lib.hid (own_keep hrow.out (hw))
      replace hRb := Lib.hid (show ∀ b, (Value.slice Aq nq cq).ownBlock = some b → b < u5.heap.size from fun b e => Nat.lt_of_lt_of_le (hRb.out b e) (hw).size)
      clear hw
      (try dsimp only)
      refine hK.out _ _ (HS.out _ hd) (fun hHeld => ?_)
      clear hK K hHeld
      (try simp only [Act.put, List.setIfInBounds_toArray, List.set_cons_zero, List.set_cons_succ])
      clear hrow hNo hRb
      refine wpAnyH_ready (rs := [14]) (by kernel_rfl) (by simp) ?_
      refine consL rfl (fun K hK => ?_) AllReadyH.nil
      go_simp
      refine Calls.mono (l6own_any ⟨k, n, ix, 0, .empty, m_x3⟩ _ u5 (hl_x3.out.to (T := LoV u5.heap.size) (fun b hb => ⟨lr_x3.out b hb, rfl⟩))) ?_
      rintro e u6 ⟨vv, rfl, hvv, hw⟩
      clear hl_x3 lr_x3
      obtain ⟨A_y3, n_y3, c_y3, hve⟩ := hvv.shape
      have hve2 : vv = .agg #[.int .i64 k, .int .i64 n, .int .i64 ix, .int .u64 0, .string ⟨#[]⟩, .slice A_y3 n_y3 c_y3] := hve
      subst hve2
      clear hve
      have hl_y3 := Lib.hid hvv
      clear hvv
      have lr_y3 := Lib.hid (show ∀ b, MidV u5.heap.size u6.heap.size b → b < u6.heap.size from fun b hb => hb.2)
      replace hd := hd.trans ((hw).mono hd.size)
      replace hl_y1 := Lib.hid (hl_y1.out.to (w' := u6) (T := (MidV u1.heap.size u2.heap.size)) (fun b hb => ⟨hb, (hw).block b (lr_y1.out b hb)⟩))
      replace lr_y1 := Lib.hid (show ∀ b, (MidV u1.heap.size u2.heap.size) b → b < u6.heap.size from fun b hb => Nat.lt_of_lt_of_le (lr_y1.out b hb) (hw).size)
      clear hw
      (try dsimp only)
      refine hK.out _ _ (HS.out _ hd) (fun hHeld => ?_)
      clear hK K hHeld
      (try simp only [Act.put, List.setIfInBounds_toArray, List.set_cons_zero, List.set_cons_succ])
      refine wpAnyH_ready (rs := [15]) (by kernel_rfl) (by simp) ?_
      refine consL rfl (fun K hK => ?_) AllReadyH.nil
      go_simp
      have hb_o := Lib.hid (show (u6.alloc (.cells #[.int .i64 k, .int .i64 n, .int .i64 ix, .int .u64 0, .string ⟨#[]⟩, .slice A_y1 n_y1 c_y1, .int .i64 k, .int .i64 n, .int .i64 ix, .int .u64 0, .string ⟨#[]⟩, .slice A_a n_a c_a, .int .i64 k, .int .i64 n, .int .i64 ix, .int .u64 0, .string ⟨#[]⟩, .slice A_y3 n_y3 c_y3] 35)).heap[u6.heap.size]? = some (.cells #[.int .i64 k, .int .i64 n, .int .i64 ix, .int .u64 0, .string ⟨#[]⟩, .slice A_y1 n_y1 c_y1, .int .i64 k, .int .i64 n, .int .i64 ix, .int .u64 0, .string ⟨#[]⟩, .slice A_a n_a c_a, .int .i64 k, .int .i64 n, .int .i64 ix, .int .u64 0, .string ⟨#[]⟩, .slice A_y3 n_y3 c_y3] 35 (0, 0)) from heap_alloc_new u6 _)
      have lt_o : u6.heap.size < (u6.alloc (.cells #[.int .i64 k, .int .i64 n, .int .i64 ix, .int .u64 0, .string ⟨#[]⟩, .slice A_y1 n_y1 c_y1, .int .i64 k, .int .i64 n, .int .i64 ix, .int .u64 0, .string ⟨#[]⟩, .slice A_a n_a c_a, .int .i64 k, .int .i64 n, .int .i64 ix, .int .u64 0, .string ⟨#[]⟩, .slice A_y3 n_y3 c_y3] 35)).heap.size := by simp
      have bo := Lib.hid (show v6.heap.size ≤ u6.heap.size from hd.size)
      replace hd := hd.trans ((((Below.refl u6.heap.size u6).alloc (Nat.le_refl _) (.cells #[.int .i64 k, .int .i64 n, .int .i64 ix, .int .u64 0, .string ⟨#[]⟩, .slice A_y1 n_y1 c_y1, .int .i64 k, .int .i64 n, .int .i64 ix, .int .u64 0, .string ⟨#[]⟩, .slice A_a n_a c_a, .int .i64 k, .int .i64 n, .int .i64 ix, .int .u64 0, .string ⟨#[]⟩, .slice A_y3 n_y3 c_y3] 35))).mono hd.size)
      replace hl_y1 := Lib.hid (hl_y1.out.to (w' := (u6.alloc (.cells #[.int .i64 k, .int .i64 n, .int .i64 ix, .int .u64 0, .string ⟨#[]⟩, .slice A_y1 n_y1 c_y1, .int .i64 k, .int .i64 n, .int .i64 ix, .int .u64 0, .string ⟨#[]⟩, .slice A_a n_a c_a, .int .i64 k, .int .i64 n, .int .i64 ix, .int .u64 0, .string ⟨#[]⟩, .slice A_y3 n_y3 c_y3] 35))) (T := (MidV u1.heap.size u2.heap.size)) (fun b hb => ⟨hb, (((Below.refl u6.heap.size u6).alloc (Nat.le_refl _) (.cells #[.int .i64 k, .int .i64 n, .int .i64 ix, .int .u64 0, .string ⟨#[]⟩, .slice A_y1 n_y1 c_y1, .int .i64 k, .int .i64 n, .int .i64 ix, .int .u64 0, .string ⟨#[]⟩, .slice A_a n_a c_a, .int .i64 k, .int .i64 n, .int .i64 ix, .int .u64 0, .string ⟨#[]⟩, .slice A_y3 n_y3 c_y3] 35))).block b (lr_y1.out b hb)⟩))
      replace lr_y1 := Lib.hid (show ∀ b, (MidV u1.heap.size u2.heap.size) b → b < (u6.alloc (.cells #[.int .i64 k, .int .i64 n, .int .i64 ix, .int .u64 0, .string ⟨#[]⟩, .slice A_y1 n_y1 c_y1, .int .i64 k, .int .i64 n, .int .i64 ix, .int .u64 0, .string ⟨#[]⟩, .slice A_a n_a c_a, .int .i64 k, .int .i64 n, .int .i64 ix, .int .u64 0, .string ⟨#[]⟩, .slice A_y3 n_y3 c_y3] 35)).heap.size from fun b hb => Nat.lt_of_lt_of_le (lr_y1.out b hb) (((Below.refl u6.heap.size u6).alloc (Nat.le_refl _) (.cells #[.int .i64 k, .int .i64 n, .int .i64 ix, .int .u64 0, .string ⟨#[]⟩, .slice A_y1 n_y1 c_y1, .int .i64 k, .int .i64 n, .int .i64 ix, .int .u64 0, .string ⟨#[]⟩, .slice A_a n_a c_a, .int .i64 k, .int .i64 n, .int .i64 ix, .int .u64 0, .string ⟨#[]⟩, .slice A_y3 n_y3 c_y3] 35))).size)
      replace hl_y3 := Lib.hid (hl_y3.out.to (w' := (u6.alloc (.cells #[.int .i64 k, .int .i64 n, .int .i64 ix, .int .u64 0, .string ⟨#[]⟩, .slice A_y1 n_y1 c_y1, .int .i64 k, .int .i64 n, .int .i64 ix, .int .u64 0, .string ⟨#[]⟩, .slice A_a n_a c_a, .int .i64 k, .int .i64 n, .int .i64 ix, .int .u64 0, .string ⟨#[]⟩, .slice A_y3 n_y3 c_y3] 35))) (T := (MidV u5.heap.size u6.heap.size)) (fun b hb => ⟨hb, (((Below.refl u6.heap.size u6).alloc (Nat.le_refl _) (.cells #[.int .i64 k, .int .i64 n, .int .i64 ix, .int .u64 0, .string ⟨#[]⟩, .slice A_y1 n_y1 c_y1, .int .i64 k, .int .i64 n, .int .i64 ix, .int .u64 0, .string ⟨#[]⟩, .slice A_a n_a c_a, .int .i64 k, .int .i64 n, .int .i64 ix, .int .u64 0, .string ⟨#[]⟩, .slice A_y3 n_y3 c_y3] 35))).block b (lr_y3.out b hb)⟩))
      replace lr_y3 := Lib.hid (show ∀ b, (MidV u5.heap.size u6.heap.size) b → b < (u6.alloc (.cells #[.int .i64 k, .int .i64 n, .int .i64 ix, .int .u64 0, .string ⟨#[]⟩, .slice A_y1 n_y1 c_y1, .int .i64 k, .int .i64 n, .int .i64 ix, .int .u64 0, .string ⟨#[]⟩, .slice A_a n_a c_a, .int .i64 k, .int .i64 n, .int .i64 ix, .int .u64 0, .string ⟨#[]⟩, .slice A_y3 n_y3 c_y3] 35)).heap.size from fun b hb => Nat.lt_of_lt_of_le (lr_y3.out b hb) (((Below.refl u6.heap.size u6).alloc (Nat.le_refl _) (.cells #[.int .i64 k, .int .i64 n, .int .i64 ix, .int .u64 0, .string ⟨#[]⟩, .slice A_y1 n_y1 c_y1, .int .i64 k, .int .i64 n, .int .i64 ix, .int .u64 0, .string ⟨#[]⟩, .slice A_a n_a c_a, .int .i64 k, .int .i64 n, .int .i64 ix, .int .u64 0, .string ⟨#[]⟩, .slice A_y3 n_y3 c_y3] 35))).size)
      refine hK.out _ _ (HS.out _ hd) (fun hHeld => ?_)
      clear hK K hHeld
      (try simp only [Act.put, List.setIfInBounds_toArray, List.set_cons_zero, List.set_cons_succ])
      refine wpAnyH_done (by kernel_rfl) ?_ _
      refine lastQ_of rfl (fun K hK => ?_)
      go_simp
      refine hK.out _ _ ?_
      clear hK K
      generalize (u6.alloc (.cells #[.int .i64 k, .int .i64 n, .int .i64 ix, .int .u64 0, .string ⟨#[]⟩, .slice A_y1 n_y1 c_y1, .int .i64 k, .int .i64 n, .int .i64 ix, .int .u64 0, .string ⟨#[]⟩, .slice A_a n_a c_a, .int .i64 k, .int .i64 n, .int .i64 ix, .int .u64 0, .string ⟨#[]⟩, .slice A_y3 n_y3 c_y3] 35)) = W at *
      have hl_a9 := hl_a.out.to (w' := W) (T := LoV W.heap.size) (fun b hb => ⟨Nat.lt_of_lt_of_le (lr_a.out b hb) hd.size, hd.block b (lr_a.out b hb)⟩)
      have hl_y19 := hl_y1.out.to (w' := W) (T := LoV W.heap.size) (fun b hb => ⟨lr_y1.out b hb, rfl⟩)
      have hl_y39 := hl_y3.out.to (w' := W) (T := LoV W.heap.size) (fun b hb => ⟨lr_y3.out b hb, rfl⟩)
      generalize u6.heap.size = B3 at *
      have H3 := Lib.hid (show ∀ (U : World), Below W.heap.size W U → ∀ j : Nat, j < 3 → ∃ A nn c mm, (U.cell? ⟨B3, j * 6, none⟩ = some (.int .i64 k) ∧ U.cell? ⟨B3, j * 6 + 1, none⟩ = some (.int .i64 n) ∧ U.cell? ⟨B3, j * 6 + 2, none⟩ = some (.int .i64 ix) ∧ U.cell? ⟨B3, j * 6 + 3, none⟩ = some (.int .u64 0) ∧ U.cell? ⟨B3, j * 6 + 4, none⟩ = some (.string ⟨#[]⟩) ∧ U.cell? ⟨B3, j * 6 + 5, none⟩ = some (.slice A nn c)) ∧ VaV U (LoV W.heap.size) ⟨k, n, ix, 0, .empty, mm⟩ (.agg #[.int .i64 k, .int .i64 n, .int .i64 ix, .int .u64 0, .string ⟨#[]⟩, .slice A nn c]) ∧ valE ⟨k, n, ix, 0, .empty, mm⟩ = 0 from fun U hU j hj => by
        have hb := (hU.block B3 lt_o).trans hb_o.out
        have h0 : ∀ i : Nat, U.cell? ⟨B3, i, none⟩ = _ := fun i => cell_of_row U B3 i _ _ _ hb
        have mv : ∀ {mm A nn c}, VaV W (LoV W.heap.size) ⟨k, n, ix, 0, .empty, mm⟩ (.agg #[.int .i64 k, .int .i64 n, .int .i64 ix, .int .u64 0, .string ⟨#[]⟩, .slice A nn c]) → VaV U (LoV W.heap.size) ⟨k, n, ix, 0, .empty, mm⟩ (.agg #[.int .i64 k, .int .i64 n, .int .i64 ix, .int .u64 0, .string ⟨#[]⟩, .slice A nn c]) := fun h => h.to (fun b hb => ⟨hb, hU.block b hb⟩)
        rcases (show j = 0 ∨ j = 1 ∨ j = 2 by omega) with rfl | rfl | rfl
        · exact ⟨A_y1, n_y1, c_y1, m_x1, ⟨h0 _, h0 _, h0 _, h0 _, h0 _, h0 _⟩, mv hl_y19, hval_x1.out⟩
        · exact ⟨A_a, n_a, c_a, m, ⟨h0 _, h0 _, h0 _, h0 _, h0 _, h0 _⟩, mv hl_a9, Hval.out⟩
        · exact ⟨A_y3, n_y3, c_y3, m_x3, ⟨h0 _, h0 _, h0 _, h0 _, h0 _, h0 _⟩, mv hl_y39, hval_x3.out⟩)
      have HA := Lib.hid hl_a9
      have HB9 := Lib.hid (hB.trans (hd.mono hB.size))
      have HCR := Lib.hid ((hd.block _ lt_r).trans hb_r.out)
      have HCA := Lib.hid ((hd.block _ lt_a).trans hb_a.out)
      have LR := Lib.hid (show v1.heap.size < W.heap.size from Nat.lt_of_lt_of_le lt_r hd.size)
      have LA := Lib.hid (show v4.heap.size < W.heap.size from Nat.lt_of_lt_of_le lt_a hd.size)
      clear hl_a9 hl_y19 hl_y39 hl_y1 lr_y1 hl_y3 lr_y3 hl_a lr_a hl_r lr_r hb_r hb_a lt_r lt_a hb_o lt_o bo hval_x1 hval_x3 HS hS0 hi0 hz0 hz1 hz2 H1 H2 HC1 HC2 hB hd
      obtain ⟨br, hbr⟩ : ∃ b, b = v1.heap.size := ⟨_, rfl⟩
      obtain ⟨ba, hba⟩ : ∃ b, b = v4.heap.size := ⟨_, rfl⟩
      rw [← hbr] at HCR LR ⊢
      rw [← hba] at HCA LA ⊢
      clear hbr hba
      go_wp2_with fail
      go_loopw [10] (fun a wr => ∃ j : Nat, j ≤ 3 ∧ a = .int .i64 (j : Int) ∧ Below W.heap.size W wr) (fun a _ => 3 - (intOf a).toNat)
      case atStart => exact ⟨0, by decide, rfl, Below.refl _ _⟩
      case round =>
        obtain ⟨j, hj, rfl, hR⟩ := hrel
        by_cases hj3 : j < 3
        · have hji : (j : Int) < 3 := by omega
          obtain ⟨A_b, n_b, c_b, mb, ⟨x0, x1, x2, x3, x4, x5⟩, hvb, hvalb⟩ := H3.out _ hR j hj3
          have HVB := Lib.hid hvb
          have HVAB := Lib.hid hvalb
          clear hvb hvalb
          have hb_a := Lib.hid ((hR.block _ LA.out).trans HCA.out)
          have hb_r := Lib.hid ((hR.block _ LR.out).trans HCR.out)
          have lt_a := Nat.lt_of_lt_of_le LA.out hR.size
          have lt_r := Nat.lt_of_lt_of_le LR.out hR.size
          have hl_a := Lib.hid (HA.out.to (w' := wr) (T := LoV W.heap.size) (fun b hb => ⟨hb, hR.block b hb⟩))
          have lr_a := Lib.hid (show ∀ b, LoV W.heap.size b → b < wr.heap.size from fun b hb => Nat.lt_of_lt_of_le hb hR.size)
          have hl_b := HVB
          have lr_b := lr_a
          have hB := hR
          have bs_b := Lib.hid (show W.heap.size ≤ wr.heap.size from (by have h := hB.size; first | omega | (simp at h; omega)))
          have or_a_b := Lib.hid (show ba < wr.heap.size from (by have h := lt_a; first | omega | (simp at h; omega)))
          have or_r_b := Lib.hid (show br < wr.heap.size from (by have h := lt_r; first | omega | (simp at h; omega)))
          replace hb_a := Lib.hid ((Below.heap_alloc wr (.cells #[.int .i64 k, .int .i64 n, .int .i64 ix, .int .u64 0, .string ⟨#[]⟩, .slice A_b n_b c_b] 35) _ lt_a).trans hb_a.out)
          replace lt_a := Nat.lt_trans lt_a (show wr.heap.size < (wr.alloc (.cells #[.int .i64 k, .int .i64 n, .int .i64 ix, .int .u64 0, .string ⟨#[]⟩, .slice A_b n_b c_b] 35)).heap.size by simp)
          replace hb_r := Lib.hid ((Below.heap_alloc wr (.cells #[.int .i64 k, .int .i64 n, .int .i64 ix, .int .u64 0, .string ⟨#[]⟩, .slice A_b n_b c_b] 35) _ lt_r).trans hb_r.out)
          replace lt_r := Nat.lt_trans lt_r (show wr.heap.size < (wr.alloc (.cells #[.int .i64 k, .int .i64 n, .int .i64 ix, .int .u64 0, .string ⟨#[]⟩, .slice A_b n_b c_b] 35)).heap.size by simp)
          replace hl_a := Lib.hid (hl_a.out.to (w' := (wr.alloc (.cells #[.int .i64 k, .int .i64 n, .int .i64 ix, .int .u64 0, .string ⟨#[]⟩, .slice A_b n_b c_b] 35))) (T := (LoV W.heap.size)) (fun b hb => ⟨hb, Below.heap_alloc wr (.cells #[.int .i64 k, .int .i64 n, .int .i64 ix, .int .u64 0, .string ⟨#[]⟩, .slice A_b n_b c_b] 35) b (lr_a.out b hb)⟩))
          replace lr_a := Lib.hid (show ∀ b, (LoV W.heap.size) b → b < (wr.alloc (.cells #[.int .i64 k, .int .i64 n, .int .i64 ix, .int .u64 0, .string ⟨#[]⟩, .slice A_b n_b c_b] 35)).heap.size from fun b hb => Nat.lt_trans (lr_a.out b hb) (by simp))
          replace hl_b := Lib.hid (hl_b.out.to (w' := (wr.alloc (.cells #[.int .i64 k, .int .i64 n, .int .i64 ix, .int .u64 0, .string ⟨#[]⟩, .slice A_b n_b c_b] 35))) (T := (LoV W.heap.size)) (fun b hb => ⟨hb, Below.heap_alloc wr (.cells #[.int .i64 k, .int .i64 n, .int .i64 ix, .int .u64 0, .string ⟨#[]⟩, .slice A_b n_b c_b] 35) b (lr_b.out b hb)⟩))
          replace lr_b := Lib.hid (show ∀ b, (LoV W.heap.size) b → b < (wr.alloc (.cells #[.int .i64 k, .int .i64 n, .int .i64 ix, .int .u64 0, .string ⟨#[]⟩, .slice A_b n_b c_b] 35)).heap.size from fun b hb => Nat.lt_trans (lr_b.out b hb) (by simp))
          have hb_b := Lib.hid (heap_alloc_new_at wr (.cells #[.int .i64 k, .int .i64 n, .int .i64 ix, .int .u64 0, .string ⟨#[]⟩, .slice A_b n_b c_b] 35) (n := wr.heap.size) (by simp))
          have lt_b : wr.heap.size < (wr.alloc (.cells #[.int .i64 k, .int .i64 n, .int .i64 ix, .int .u64 0, .string ⟨#[]⟩, .slice A_b n_b c_b] 35)).heap.size := by simp
          replace hB := hB.alloc hB.size (.cells #[.int .i64 k, .int .i64 n, .int .i64 ix, .int .u64 0, .string ⟨#[]⟩, .slice A_b n_b c_b] 35)
          obtain ⟨c_a0, c_a1, c_a2, c_a3, c_a4, c_a5⟩ := six hb_a.out
          obtain ⟨f_b0, f_b1, f_b2, f_b3, f_b4, f_b5⟩ := six hb_b.out
          go_wp2_with fail
          clear c_a0 c_a1 c_a2 c_a3 c_a4 c_a5
          clear f_b0 f_b1 f_b2 f_b3 f_b4 f_b5 x0 x1 x2 x3 x4 x5
          generalize (wr.alloc (.cells #[.int .i64 k, .int .i64 n, .int .i64 ix, .int .u64 0, .string ⟨#[]⟩, .slice A_b n_b c_b] 35)) = v2 at *
          have hS := vDiff_any k n ix 0 0 .empty .empty m mb _ _ v2 (hl_a.out.to (T := LoV v2.heap.size) (fun b hb => ⟨lr_a.out b hb, rfl⟩)) (hl_b.out.to (T := LoV v2.heap.size) (fun b hb => ⟨lr_b.out b hb, rfl⟩)) Hval.out HVAB.out (by rcases Hk.out with h | h <;> rw [h] <;> rfl)
          have hdf := dff_arr Hk.out Hval.out HVAB.out hl_a.out.1.2.2.2.1 hl_b.out.1.2.2.2.1
          obtain ⟨d, hdd⟩ : ∃ d, d = dffI m mb := ⟨_, rfl⟩
          rw [← hdd] at hS hdf
          have HDD := Lib.hid hdd
          have HDF := Lib.hid hdf.2.2
          have hd1 := hdf.1
          have hd2 : d < (sz : Int) := by have h1 := hdf.2.1; rw [HGR.out] at h1; omega
          have hgd : decide ((sz : Int) ≤ d) = false := by rw [decide_eq_false_iff_not]; omega
          clear hdd hdf
          refine Calls.mono (hS) ?_
          rintro e v3 ⟨rfl, hw⟩
          replace hb_a := Lib.hid ((hw.block _ lt_a).trans hb_a.out)
          replace lt_a := Nat.lt_of_lt_of_le lt_a hw.size
          replace hb_r := Lib.hid ((hw.block _ lt_r).trans hb_r.out)
          replace lt_r := Nat.lt_of_lt_of_le lt_r hw.size
          replace hb_b := Lib.hid ((hw.block _ lt_b).trans hb_b.out)
          replace lt_b := Nat.lt_of_lt_of_le lt_b hw.size
          replace hl_a := Lib.hid (hl_a.out.to (w' := v3) (T := (LoV W.heap.size)) (fun b hb => ⟨hb, hw.block b (lr_a.out b hb)⟩))
          replace lr_a := Lib.hid (show ∀ b, (LoV W.heap.size) b → b < v3.heap.size from fun b hb => Nat.lt_of_lt_of_le (lr_a.out b hb) hw.size)
          replace hl_b := Lib.hid (hl_b.out.to (w' := v3) (T := (LoV W.heap.size)) (fun b hb => ⟨hb, hw.block b (lr_b.out b hb)⟩))
          replace lr_b := Lib.hid (show ∀ b, (LoV W.heap.size) b → b < v3.heap.size from fun b hb => Nat.lt_of_lt_of_le (lr_b.out b hb) hw.size)
          replace hB := hB.trans (hw.mono hB.size)
          clear hS
          obtain ⟨c_r0, c_r1, c_r2, c_r3, c_r4, c_r5⟩ := six hb_r.out
          go_wp2_with fail
          clear c_r0 c_r1 c_r2 c_r3 c_r4 c_r5
          obtain ⟨wo, rfl⟩ : ∃ wo, wo = wr := ⟨_, rfl⟩
          go_loopw [14, 15] (fun t t2 wr => ∃ z : Nat, z ≤ sz ∧ t = .bool (allE z m mb) ∧ t2 = .int .i64 (z : Int) ∧ Below v3.heap.size v3 wr) (fun _ t2 _ => sz - (intOf t2).toNat)
          case atStart => exact ⟨0, Nat.zero_le _, rfl, rfl, Below.refl _ _⟩
          case round =>
            obtain ⟨z, hz, rfl, rfl, hI⟩ := hrel
            obtain ⟨eq0, heq0⟩ : ∃ q, q = allE z m mb := ⟨_, rfl⟩
            rw [← heq0]
            have HEQ := Lib.hid heq0
            clear heq0
            replace hb_a := Lib.hid ((hI.block _ lt_a).trans hb_a.out)
            replace lt_a := Nat.lt_of_lt_of_le lt_a hI.size
            replace hb_r := Lib.hid ((hI.block _ lt_r).trans hb_r.out)
            replace lt_r := Nat.lt_of_lt_of_le lt_r hI.size
            replace hb_b := Lib.hid ((hI.block _ lt_b).trans hb_b.out)
            replace lt_b := Nat.lt_of_lt_of_le lt_b hI.size
            replace hl_a := Lib.hid (hl_a.out.to (w' := wr) (T := (LoV W.heap.size)) (fun b hb => ⟨hb, hI.block b (lr_a.out b hb)⟩))
            replace lr_a := Lib.hid (show ∀ b, (LoV W.heap.size) b → b < wr.heap.size from fun b hb => Nat.lt_of_lt_of_le (lr_a.out b hb) hI.size)
            replace hl_b := Lib.hid (hl_b.out.to (w' := wr) (T := (LoV W.heap.size)) (fun b hb => ⟨hb, hI.block b (lr_b.out b hb)⟩))
            replace lr_b := Lib.hid (show ∀ b, (LoV W.heap.size) b → b < wr.heap.size from fun b hb => Nat.lt_of_lt_of_le (lr_b.out b hb) hI.size)
            replace hB := hB.trans (hI.mono hB.size)
            by_cases hzs : z < sz
            · have hzi : (z : Int) < (sz : Int) := by omega
              have HIz := Lib.hid (show (z : Int) ≤ grI ix from by rw [HGR.out]; omega)
              have hzw : IntKind.u64.wrap (z : Int) = (z : Int) := IntWalk.u64_in _ (by omega)
              have hJ := hI
              clear hI
              obtain ⟨c_r0, c_r1, c_r2, c_r3, c_r4, c_r5⟩ := six hb_r.out
              obtain ⟨c_a0, c_a1, c_a2, c_a3, c_a4, c_a5⟩ := six hb_a.out
              go_wp2_with fail
              clear c_r0 c_r1 c_r2 c_r3 c_r4 c_r5
              clear c_a0 c_a1 c_a2 c_a3 c_a4 c_a5
              have hf := sel_fine (i := (z : Int)) Hk.out Hval.out (Int.not_lt.2 HIz.out)
              have hS := vSelect_any ⟨k, n, ix, 0, .empty, m⟩ _ (z : Int) wr (hl_a.out.to (T := LoV wr.heap.size) (fun b hb => ⟨lr_a.out b hb, rfl⟩))
              rw [hf.1, hf.2.1] at hS
              obtain ⟨u_p, huo⟩ : ∃ u, u = (atE (z : Int) m).u := ⟨_, rfl⟩
              obtain ⟨s_p, hso⟩ : ∃ s, s = (atE (z : Int) m).s := ⟨_, rfl⟩
              rw [← huo, ← hso] at hS
              have HUp := Lib.hid (And.intro huo hso)
              simp only [vav] at hS
              rw [← HE.out] at hS
              have hmok := hl_a.out.1.2.2.2.1
              simp only at hmok
              have hoo := at_ok hmok (z : Int)
              rw [← huo, ← hso] at hoo
              have HOp := Lib.hid (el_ok (sort_i64 HES.out) hoo)
              clear hmok hoo huo hso hf
              refine Calls.mono (hS) ?_
              rintro e v4 ⟨rfl, hw⟩
              replace hb_a := Lib.hid ((hw.block _ lt_a).trans hb_a.out)
              replace lt_a := Nat.lt_of_lt_of_le lt_a hw.size
              replace hb_r := Lib.hid ((hw.block _ lt_r).trans hb_r.out)
              replace lt_r := Nat.lt_of_lt_of_le lt_r hw.size
              replace hb_b := Lib.hid ((hw.block _ lt_b).trans hb_b.out)
              replace lt_b := Nat.lt_of_lt_of_le lt_b hw.size
              replace hl_a := Lib.hid (hl_a.out.to (w' := v4) (T := (LoV W.heap.size)) (fun b hb => ⟨hb, hw.block b (lr_a.out b hb)⟩))
              replace lr_a := Lib.hid (show ∀ b, (LoV W.heap.size) b → b < v4.heap.size from fun b hb => Nat.lt_of_lt_of_le (lr_a.out b hb) hw.size)
              replace hl_b := Lib.hid (hl_b.out.to (w' := v4) (T := (LoV W.heap.size)) (fun b hb => ⟨hb, hw.block b (lr_b.out b hb)⟩))
              replace lr_b := Lib.hid (show ∀ b, (LoV W.heap.size) b → b < v4.heap.size from fun b hb => Nat.lt_of_lt_of_le (lr_b.out b hb) hw.size)
              replace hB := hB.trans (hw.mono hB.size)
              replace hJ := hJ.trans (hw.mono hJ.size)
              clear hS
              have bs_p := Lib.hid (show W.heap.size ≤ v4.heap.size from (by have h := hB.size; first | omega | (simp at h; omega)))
              have or_a_p := Lib.hid (show ba < v4.heap.size from (by have h := lt_a; first | omega | (simp at h; omega)))
              have or_r_p := Lib.hid (show br < v4.heap.size from (by have h := lt_r; first | omega | (simp at h; omega)))
              have or_b_p := Lib.hid (show wo.heap.size < v4.heap.size from (by have h := lt_b; first | omega | (simp at h; omega)))
              replace hb_a := Lib.hid ((Below.heap_alloc v4 (.cells #[.int .i64 e, .int .i64 n, .int .i64 0, .int .u64 u_p, .string s_p, .slice none 0 0] 35) _ lt_a).trans hb_a.out)
              replace lt_a := Nat.lt_trans lt_a (show v4.heap.size < (v4.alloc (.cells #[.int .i64 e, .int .i64 n, .int .i64 0, .int .u64 u_p, .string s_p, .slice none 0 0] 35)).heap.size by simp)
              replace hb_r := Lib.hid ((Below.heap_alloc v4 (.cells #[.int .i64 e, .int .i64 n, .int .i64 0, .int .u64 u_p, .string s_p, .slice none 0 0] 35) _ lt_r).trans hb_r.out)
              replace lt_r := Nat.lt_trans lt_r (show v4.heap.size < (v4.alloc (.cells #[.int .i64 e, .int .i64 n, .int .i64 0, .int .u64 u_p, .string s_p, .slice none 0 0] 35)).heap.size by simp)
              replace hb_b := Lib.hid ((Below.heap_alloc v4 (.cells #[.int .i64 e, .int .i64 n, .int .i64 0, .int .u64 u_p, .string s_p, .slice none 0 0] 35) _ lt_b).trans hb_b.out)
              replace lt_b := Nat.lt_trans lt_b (show v4.heap.size < (v4.alloc (.cells #[.int .i64 e, .int .i64 n, .int .i64 0, .int .u64 u_p, .string s_p, .slice none 0 0] 35)).heap.size by simp)
              replace hl_a := Lib.hid (hl_a.out.to (w' := (v4.alloc (.cells #[.int .i64 e, .int .i64 n, .int .i64 0, .int .u64 u_p, .string s_p, .slice none 0 0] 35))) (T := (LoV W.heap.size)) (fun b hb => ⟨hb, Below.heap_alloc v4 (.cells #[.int .i64 e, .int .i64 n, .int .i64 0, .int .u64 u_p, .string s_p, .slice none 0 0] 35) b (lr_a.out b hb)⟩))
              replace lr_a := Lib.hid (show ∀ b, (LoV W.heap.size) b → b < (v4.alloc (.cells #[.int .i64 e, .int .i64 n, .int .i64 0, .int .u64 u_p, .string s_p, .slice none 0 0] 35)).heap.size from fun b hb => Nat.lt_trans (lr_a.out b hb) (by simp))
              replace hl_b := Lib.hid (hl_b.out.to (w' := (v4.alloc (.cells #[.int .i64 e, .int .i64 n, .int .i64 0, .int .u64 u_p, .string s_p, .slice none 0 0] 35))) (T := (LoV W.heap.size)) (fun b hb => ⟨hb, Below.heap_alloc v4 (.cells #[.int .i64 e, .int .i64 n, .int .i64 0, .int .u64 u_p, .string s_p, .slice none 0 0] 35) b (lr_b.out b hb)⟩))
              replace lr_b := Lib.hid (show ∀ b, (LoV W.heap.size) b → b < (v4.alloc (.cells #[.int .i64 e, .int .i64 n, .int .i64 0, .int .u64 u_p, .string s_p, .slice none 0 0] 35)).heap.size from fun b hb => Nat.lt_trans (lr_b.out b hb) (by simp))
              have hb_p := Lib.hid (heap_alloc_new_at v4 (.cells #[.int .i64 e, .int .i64 n, .int .i64 0, .int .u64 u_p, .string s_p, .slice none 0 0] 35) (n := v4.heap.size) (by simp))
              have lt_p : v4.heap.size < (v4.alloc (.cells #[.int .i64 e, .int .i64 n, .int .i64 0, .int .u64 u_p, .string s_p, .slice none 0 0] 35)).heap.size := by simp
              replace hB := hB.alloc hB.size (.cells #[.int .i64 e, .int .i64 n, .int .i64 0, .int .u64 u_p, .string s_p, .slice none 0 0] 35)
              replace hJ := hJ.alloc hJ.size (.cells #[.int .i64 e, .int .i64 n, .int .i64 0, .int .u64 u_p, .string s_p, .slice none 0 0] 35)
              obtain ⟨c_p0, c_p1, c_p2, c_p3, c_p4, c_p5⟩ := six hb_p.out
              obtain ⟨c_b0, c_b1, c_b2, c_b3, c_b4, c_b5⟩ := six hb_b.out
              go_wp2_with fail
              clear c_p0 c_p1 c_p2 c_p3 c_p4 c_p5
              clear c_b0 c_b1 c_b2 c_b3 c_b4 c_b5
              generalize (v4.alloc (.cells #[.int .i64 e, .int .i64 n, .int .i64 0, .int .u64 u_p, .string s_p, .slice none 0 0] 35)) = v6 at *
              have hf := sel_fine (i := (z : Int)) Hk.out HVAB.out (Int.not_lt.2 HIz.out)
              have hS := vSelect_any ⟨k, n, ix, 0, .empty, mb⟩ _ (z : Int) v6 (hl_b.out.to (T := LoV v6.heap.size) (fun b hb => ⟨lr_b.out b hb, rfl⟩))
              rw [hf.1, hf.2.1] at hS
              obtain ⟨u_q, huo⟩ : ∃ u, u = (atE (z : Int) mb).u := ⟨_, rfl⟩
              obtain ⟨s_q, hso⟩ : ∃ s, s = (atE (z : Int) mb).s := ⟨_, rfl⟩
              rw [← huo, ← hso] at hS
              have HUq := Lib.hid (And.intro huo hso)
              simp only [vav] at hS
              rw [← HE.out] at hS
              have hmok := hl_b.out.1.2.2.2.1
              simp only at hmok
              have hoo := at_ok hmok (z : Int)
              rw [← huo, ← hso] at hoo
              have HOq := Lib.hid (el_ok (sort_i64 HES.out) hoo)
              clear hmok hoo huo hso hf
              refine Calls.mono (hS) ?_
              rintro e v7 ⟨rfl, hw⟩
              replace hb_a := Lib.hid ((hw.block _ lt_a).trans hb_a.out)
              replace lt_a := Nat.lt_of_lt_of_le lt_a hw.size
              replace hb_r := Lib.hid ((hw.block _ lt_r).trans hb_r.out)
              replace lt_r := Nat.lt_of_lt_of_le lt_r hw.size
              replace hb_b := Lib.hid ((hw.block _ lt_b).trans hb_b.out)
              replace lt_b := Nat.lt_of_lt_of_le lt_b hw.size
              replace hb_p := Lib.hid ((hw.block _ lt_p).trans hb_p.out)
              replace lt_p := Nat.lt_of_lt_of_le lt_p hw.size
              replace hl_a := Lib.hid (hl_a.out.to (w' := v7) (T := (LoV W.heap.size)) (fun b hb => ⟨hb, hw.block b (lr_a.out b hb)⟩))
              replace lr_a := Lib.hid (show ∀ b, (LoV W.heap.size) b → b < v7.heap.size from fun b hb => Nat.lt_of_lt_of_le (lr_a.out b hb) hw.size)
              replace hl_b := Lib.hid (hl_b.out.to (w' := v7) (T := (LoV W.heap.size)) (fun b hb => ⟨hb, hw.block b (lr_b.out b hb)⟩))
              replace lr_b := Lib.hid (show ∀ b, (LoV W.heap.size) b → b < v7.heap.size from fun b hb => Nat.lt_of_lt_of_le (lr_b.out b hb) hw.size)
              replace hB := hB.trans (hw.mono hB.size)
              replace hJ := hJ.trans (hw.mono hJ.size)
              clear hS
              have bs_q := Lib.hid (show W.heap.size ≤ v7.heap.size from (by have h := hB.size; first | omega | (simp at h; omega)))
              have or_a_q := Lib.hid (show ba < v7.heap.size from (by have h := lt_a; first | omega | (simp at h; omega)))
              have or_r_q := Lib.hid (show br < v7.heap.size from (by have h := lt_r; first | omega | (simp at h; omega)))
              have or_b_q := Lib.hid (show wo.heap.size < v7.heap.size from (by have h := lt_b; first | omega | (simp at h; omega)))
              have or_p_q := Lib.hid (show v4.heap.size < v7.heap.size from (by have h := lt_p; first | omega | (simp at h; omega)))
              replace hb_a := Lib.hid ((Below.heap_alloc v7 (.cells #[.int .i64 e, .int .i64 n, .int .i64 0, .int .u64 u_q, .string s_q, .slice none 0 0] 35) _ lt_a).trans hb_a.out)
              replace lt_a := Nat.lt_trans lt_a (show v7.heap.size < (v7.alloc (.cells #[.int .i64 e, .int .i64 n, .int .i64 0, .int .u64 u_q, .string s_q, .slice none 0 0] 35)).heap.size by simp)
              replace hb_r := Lib.hid ((Below.heap_alloc v7 (.cells #[.int .i64 e, .int .i64 n, .int .i64 0, .int .u64 u_q, .string s_q, .slice none 0 0] 35) _ lt_r).trans hb_r.out)
              replace lt_r := Nat.lt_trans lt_r (show v7.heap.size < (v7.alloc (.cells #[.int .i64 e, .int .i64 n, .int .i64 0, .int .u64 u_q, .string s_q, .slice none 0 0] 35)).heap.size by simp)
              replace hb_b := Lib.hid ((Below.heap_alloc v7 (.cells #[.int .i64 e, .int .i64 n, .int .i64 0, .int .u64 u_q, .string s_q, .slice none 0 0] 35) _ lt_b).trans hb_b.out)
              replace lt_b := Nat.lt_trans lt_b (show v7.heap.size < (v7.alloc (.cells #[.int .i64 e, .int .i64 n, .int .i64 0, .int .u64 u_q, .string s_q, .slice none 0 0] 35)).heap.size by simp)
              replace hb_p := Lib.hid ((Below.heap_alloc v7 (.cells #[.int .i64 e, .int .i64 n, .int .i64 0, .int .u64 u_q, .string s_q, .slice none 0 0] 35) _ lt_p).trans hb_p.out)
              replace lt_p := Nat.lt_trans lt_p (show v7.heap.size < (v7.alloc (.cells #[.int .i64 e, .int .i64 n, .int .i64 0, .int .u64 u_q, .string s_q, .slice none 0 0] 35)).heap.size by simp)
              replace hl_a := Lib.hid (hl_a.out.to (w' := (v7.alloc (.cells #[.int .i64 e, .int .i64 n, .int .i64 0, .int .u64 u_q, .string s_q, .slice none 0 0] 35))) (T := (LoV W.heap.size)) (fun b hb => ⟨hb, Below.heap_alloc v7 (.cells #[.int .i64 e, .int .i64 n, .int .i64 0, .int .u64 u_q, .string s_q, .slice none 0 0] 35) b (lr_a.out b hb)⟩))
              replace lr_a := Lib.hid (show ∀ b, (LoV W.heap.size) b → b < (v7.alloc (.cells #[.int .i64 e, .int .i64 n, .int .i64 0, .int .u64 u_q, .string s_q, .slice none 0 0] 35)).heap.size from fun b hb => Nat.lt_trans (lr_a.out b hb) (by simp))
              replace hl_b := Lib.hid (hl_b.out.to (w' := (v7.alloc (.cells #[.int .i64 e, .int .i64 n, .int .i64 0, .int .u64 u_q, .string s_q, .slice none 0 0] 35))) (T := (LoV W.heap.size)) (fun b hb => ⟨hb, Below.heap_alloc v7 (.cells #[.int .i64 e, .int .i64 n, .int .i64 0, .int .u64 u_q, .string s_q, .slice none 0 0] 35) b (lr_b.out b hb)⟩))
              replace lr_b := Lib.hid (show ∀ b, (LoV W.heap.size) b → b < (v7.alloc (.cells #[.int .i64 e, .int .i64 n, .int .i64 0, .int .u64 u_q, .string s_q, .slice none 0 0] 35)).heap.size from fun b hb => Nat.lt_trans (lr_b.out b hb) (by simp))
              have hb_q := Lib.hid (heap_alloc_new_at v7 (.cells #[.int .i64 e, .int .i64 n, .int .i64 0, .int .u64 u_q, .string s_q, .slice none 0 0] 35) (n := v7.heap.size) (by simp))
              have lt_q : v7.heap.size < (v7.alloc (.cells #[.int .i64 e, .int .i64 n, .int .i64 0, .int .u64 u_q, .string s_q, .slice none 0 0] 35)).heap.size := by simp
              replace hB := hB.alloc hB.size (.cells #[.int .i64 e, .int .i64 n, .int .i64 0, .int .u64 u_q, .string s_q, .slice none 0 0] 35)
              replace hJ := hJ.alloc hJ.size (.cells #[.int .i64 e, .int .i64 n, .int .i64 0, .int .u64 u_q, .string s_q, .slice none 0 0] 35)
              obtain ⟨c_p0, c_p1, c_p2, c_p3, c_p4, c_p5⟩ := six hb_p.out
              obtain ⟨c_q0, c_q1, c_q2, c_q3, c_q4, c_q5⟩ := six hb_q.out
              go_wp2_with fail
              clear c_p0 c_p1 c_p2 c_p3 c_p4 c_p5
              clear c_q0 c_q1 c_q2 c_q3 c_q4 c_q5
              generalize (v7.alloc (.cells #[.int .i64 e, .int .i64 n, .int .i64 0, .int .u64 u_q, .string s_q, .slice none 0 0] 35)) = v9 at *
              have hS := vCompare_any ⟨e, n, 0, u_p, s_p, []⟩ ⟨e, n, 0, u_q, s_q, []⟩ _ _ v9 (elVal HOp.out) (elVal HOq.out)
              obtain ⟨cv, hcv⟩ : ∃ c, c = vaCmp ⟨e, n, 0, u_p, s_p, []⟩ ⟨e, n, 0, u_q, s_q, []⟩ := ⟨_, rfl⟩
              rw [← hcv] at hS
              obtain ⟨sm, hsm0⟩ : ∃ q, q = sameE (z : Int) m mb := ⟨_, rfl⟩
              have hsm : (cv == 0) = sm := by
                rw [hcv, HUp.out.1, HUp.out.2, HUq.out.1, HUq.out.2, hsm0]
                exact cmp_same e n (z : Int) m mb
              have HSM := Lib.hid hsm0
              clear hcv hsm0
              refine Calls.mono (hS) ?_
              rintro e v10 ⟨rfl, hw⟩
              replace hb_a := Lib.hid ((hw.block _ lt_a).trans hb_a.out)
              replace lt_a := Nat.lt_of_lt_of_le lt_a hw.size
              replace hb_r := Lib.hid ((hw.block _ lt_r).trans hb_r.out)
              replace lt_r := Nat.lt_of_lt_of_le lt_r hw.size
              replace hb_b := Lib.hid ((hw.block _ lt_b).trans hb_b.out)
              replace lt_b := Nat.lt_of_lt_of_le lt_b hw.size
              replace hb_p := Lib.hid ((hw.block _ lt_p).trans hb_p.out)
              replace lt_p := Nat.lt_of_lt_of_le lt_p hw.size
              replace hb_q := Lib.hid ((hw.block _ lt_q).trans hb_q.out)
              replace lt_q := Nat.lt_of_lt_of_le lt_q hw.size
              replace hl_a := Lib.hid (hl_a.out.to (w' := v10) (T := (LoV W.heap.size)) (fun b hb => ⟨hb, hw.block b (lr_a.out b hb)⟩))
              replace lr_a := Lib.hid (show ∀ b, (LoV W.heap.size) b → b < v10.heap.size from fun b hb => Nat.lt_of_lt_of_le (lr_a.out b hb) hw.size)
              replace hl_b := Lib.hid (hl_b.out.to (w' := v10) (T := (LoV W.heap.size)) (fun b hb => ⟨hb, hw.block b (lr_b.out b hb)⟩))
              replace lr_b := Lib.hid (show ∀ b, (LoV W.heap.size) b → b < v10.heap.size from fun b hb => Nat.lt_of_lt_of_le (lr_b.out b hb) hw.size)
              replace hB := hB.trans (hw.mono hB.size)
              replace hJ := hJ.trans (hw.mono hJ.size)
              clear hS
              rcases Int.lt_trichotomy (z : Int) d with hzd | hzd | hzd
              · skip
                have g1 : decide ((z : Int) < d) = true := decide_eq_true hzd
                have g2 : ((z : Int) == d) = false := by rw [beq_eq_false_iff_ne]; omega
                obtain rfl : sm = true := by rw [HSM.out]; exact same_low (by rw [← HDD.out]; exact hzd)
                replace hzd := Lib.hid hzd
                cases eq0
                · skip
                  go_wp2_with fail
                  go_roundw
                  case rel => exact ⟨z + 1, by omega, by rw [allE_succ, ← HEQ.out, ← HSM.out]; rfl, by go_num, hJ⟩
                  case measure => simp [intOf]; omega
                · skip
                  go_wp2_with fail
                  go_roundw
                  case rel => exact ⟨z + 1, by omega, by rw [allE_succ, ← HEQ.out, ← HSM.out]; rfl, by go_num, hJ⟩
                  case measure => simp [intOf]; omega
              · skip
                have g1 : decide ((z : Int) < d) = false := by rw [decide_eq_false_iff_not]; omega
                have g2 : ((z : Int) == d) = true := by rw [beq_iff_eq]; exact hzd
                have hes := Lib.hid (show eqA k n ix m mb = sm from by
                  rw [Bool.eq_iff_iff, eqA_iff, HSM.out, hzd, HDF.out])
                replace hzd := Lib.hid hzd
                cases sm
                · skip
                  obtain ⟨c_a0, c_a1, c_a2, c_a3, c_a4, c_a5⟩ := six hb_a.out
                  obtain ⟨c_b0, c_b1, c_b2, c_b3, c_b4, c_b5⟩ := six hb_b.out
                  go_wp2_with fail
                  clear c_a0 c_a1 c_a2 c_a3 c_a4 c_a5
                  clear c_b0 c_b1 c_b2 c_b3 c_b4 c_b5
                  have hS := vCompare_any ⟨k, n, ix, 0, .empty, m⟩ ⟨k, n, ix, 0, .empty, mb⟩ _ _ v10 (hl_a.out.to (T := LoV v10.heap.size) (fun b hb => ⟨lr_a.out b hb, rfl⟩)) (hl_b.out.to (T := LoV v10.heap.size) (fun b hb => ⟨lr_b.out b hb, rfl⟩))
                  obtain ⟨ce, hce⟩ : ∃ c, c = vaCmp ⟨k, n, ix, 0, .empty, m⟩ ⟨k, n, ix, 0, .empty, mb⟩ := ⟨_, rfl⟩
                  rw [← hce] at hS
                  have hem : (ce == 0) = false := by rw [hce]; exact hes.out
                  have HCE := Lib.hid hce
                  clear hce
                  refine Calls.mono (hS) ?_
                  rintro e v11 ⟨rfl, hw⟩
                  replace hb_a := Lib.hid ((hw.block _ lt_a).trans hb_a.out)
                  replace lt_a := Nat.lt_of_lt_of_le lt_a hw.size
                  replace hb_r := Lib.hid ((hw.block _ lt_r).trans hb_r.out)
                  replace lt_r := Nat.lt_of_lt_of_le lt_r hw.size
                  replace hb_b := Lib.hid ((hw.block _ lt_b).trans hb_b.out)
                  replace lt_b := Nat.lt_of_lt_of_le lt_b hw.size
                  replace hb_p := Lib.hid ((hw.block _ lt_p).trans hb_p.out)
                  replace lt_p := Nat.lt_of_lt_of_le lt_p hw.size
                  replace hb_q := Lib.hid ((hw.block _ lt_q).trans hb_q.out)
                  replace lt_q := Nat.lt_of_lt_of_le lt_q hw.size
                  replace hl_a := Lib.hid (hl_a.out.to (w' := v11) (T := (LoV W.heap.size)) (fun b hb => ⟨hb, hw.block b (lr_a.out b hb)⟩))
                  replace lr_a := Lib.hid (show ∀ b, (LoV W.heap.size) b → b < v11.heap.size from fun b hb => Nat.lt_of_lt_of_le (lr_a.out b hb) hw.size)
                  replace hl_b := Lib.hid (hl_b.out.to (w' := v11) (T := (LoV W.heap.size)) (fun b hb => ⟨hb, hw.block b (lr_b.out b hb)⟩))
                  replace lr_b := Lib.hid (show ∀ b, (LoV W.heap.size) b → b < v11.heap.size from fun b hb => Nat.lt_of_lt_of_le (lr_b.out b hb) hw.size)
                  replace hB := hB.trans (hw.mono hB.size)
                  replace hJ := hJ.trans (hw.mono hJ.size)
                  clear hS
                  cases eq0
                  · skip
                    go_wp2_with fail
                    go_roundw
                    case rel => exact ⟨z + 1, by omega, by rw [allE_succ, ← HEQ.out, ← HSM.out]; rfl, by go_num, hJ⟩
                    case measure => simp [intOf]; omega
                  · skip
                    go_wp2_with fail
                    go_roundw
                    case rel => exact ⟨z + 1, by omega, by rw [allE_succ, ← HEQ.out, ← HSM.out]; rfl, by go_num, hJ⟩
                    case measure => simp [intOf]; omega
                · skip
                  obtain ⟨c_a0, c_a1, c_a2, c_a3, c_a4, c_a5⟩ := six hb_a.out
                  obtain ⟨c_b0, c_b1, c_b2, c_b3, c_b4, c_b5⟩ := six hb_b.out
                  go_wp2_with fail
                  clear c_a0 c_a1 c_a2 c_a3 c_a4 c_a5
                  clear c_b0 c_b1 c_b2 c_b3 c_b4 c_b5
                  have hS := vCompare_any ⟨k, n, ix, 0, .empty, m⟩ ⟨k, n, ix, 0, .empty, mb⟩ _ _ v10 (hl_a.out.to (T := LoV v10.heap.size) (fun b hb => ⟨lr_a.out b hb, rfl⟩)) (hl_b.out.to (T := LoV v10.heap.size) (fun b hb => ⟨lr_b.out b hb, rfl⟩))
                  obtain ⟨ce, hce⟩ : ∃ c, c = vaCmp ⟨k, n, ix, 0, .empty, m⟩ ⟨k, n, ix, 0, .empty, mb⟩ := ⟨_, rfl⟩
                  rw [← hce] at hS
                  have hem : (ce == 0) = true := by rw [hce]; exact hes.out
                  have HCE := Lib.hid hce
                  clear hce
                  refine Calls.mono (hS) ?_
                  rintro e v11 ⟨rfl, hw⟩
                  replace hb_a := Lib.hid ((hw.block _ lt_a).trans hb_a.out)
                  replace lt_a := Nat.lt_of_lt_of_le lt_a hw.size
                  replace hb_r := Lib.hid ((hw.block _ lt_r).trans hb_r.out)
                  replace lt_r := Nat.lt_of_lt_of_le lt_r hw.size
                  replace hb_b := Lib.hid ((hw.block _ lt_b).trans hb_b.out)
                  replace lt_b := Nat.lt_of_lt_of_le lt_b hw.size
                  replace hb_p := Lib.hid ((hw.block _ lt_p).trans hb_p.out)
                  replace lt_p := Nat.lt_of_lt_of_le lt_p hw.size
                  replace hb_q := Lib.hid ((hw.block _ lt_q).trans hb_q.out)
                  replace lt_q := Nat.lt_of_lt_of_le lt_q hw.size
                  replace hl_a := Lib.hid (hl_a.out.to (w' := v11) (T := (LoV W.heap.size)) (fun b hb => ⟨hb, hw.block b (lr_a.out b hb)⟩))
                  replace lr_a := Lib.hid (show ∀ b, (LoV W.heap.size) b → b < v11.heap.size from fun b hb => Nat.lt_of_lt_of_le (lr_a.out b hb) hw.size)
                  replace hl_b := Lib.hid (hl_b.out.to (w' := v11) (T := (LoV W.heap.size)) (fun b hb => ⟨hb, hw.block b (lr_b.out b hb)⟩))
                  replace lr_b := Lib.hid (show ∀ b, (LoV W.heap.size) b → b < v11.heap.size from fun b hb => Nat.lt_of_lt_of_le (lr_b.out b hb) hw.size)
                  replace hB := hB.trans (hw.mono hB.size)
                  replace hJ := hJ.trans (hw.mono hJ.size)
                  clear hS
                  cases eq0
                  · skip
                    go_wp2_with fail
                    go_roundw
                    case rel => exact ⟨z + 1, by omega, by rw [allE_succ, ← HEQ.out, ← HSM.out]; rfl, by go_num, hJ⟩
                    case measure => simp [intOf]; omega
                  · skip
                    go_wp2_with fail
                    go_roundw
                    case rel => exact ⟨z + 1, by omega, by rw [allE_succ, ← HEQ.out, ← HSM.out]; rfl, by go_num, hJ⟩
                    case measure => simp [intOf]; omega
              · skip
                have g1 : decide ((z : Int) < d) = false := by rw [decide_eq_false_iff_not]; omega
                have g2 : ((z : Int) == d) = false := by rw [beq_eq_false_iff_ne]; omega
                replace hzd := Lib.hid hzd
                cases sm
                · skip
                  cases eq0
                  · skip
                    go_wp2_with fail
                    go_roundw
                    case rel => exact ⟨z + 1, by omega, by rw [allE_succ, ← HEQ.out, ← HSM.out]; rfl, by go_num, hJ⟩
                    case measure => simp [intOf]; omega
                  · skip
                    go_wp2_with fail
                    go_roundw
                    case rel => exact ⟨z + 1, by omega, by rw [allE_succ, ← HEQ.out, ← HSM.out]; rfl, by go_num, hJ⟩
                    case measure => simp [intOf]; omega
                · skip
                  cases eq0
                  · skip
                    go_wp2_with fail
                    go_roundw
                    case rel => exact ⟨z + 1, by omega, by rw [allE_succ, ← HEQ.out, ← HSM.out]; rfl, by go_num, hJ⟩
                    case measure => simp [intOf]; omega
                  · skip
                    go_wp2_with fail
                    go_roundw
                    case rel => exact ⟨z + 1, by omega, by rw [allE_succ, ← HEQ.out, ← HSM.out]; rfl, by go_num, hJ⟩
                    case measure => simp [intOf]; omega
            · have hzi : ¬ (z : Int) < (sz : Int) := by omega
              have hes := Lib.hid (show eqA k n ix m mb = eq0 from by
                obtain rfl : z = sz := by omega
                rw [Bool.eq_iff_iff, eqA_iff, HEQ.out, allE_all Hk.out Hval.out HVAB.out hl_a.out.1.2.2.2.1 hl_b.out.1.2.2.2.1 HGR.out])
              obtain ⟨c_a0, c_a1, c_a2, c_a3, c_a4, c_a5⟩ := six hb_a.out
              obtain ⟨c_b0, c_b1, c_b2, c_b3, c_b4, c_b5⟩ := six hb_b.out
              obtain ⟨c_r0, c_r1, c_r2, c_r3, c_r4, c_r5⟩ := six hb_r.out
              go_wp2_with fail
              clear c_a0 c_a1 c_a2 c_a3 c_a4 c_a5
              clear c_b0 c_b1 c_b2 c_b3 c_b4 c_b5
              clear c_r0 c_r1 c_r2 c_r3 c_r4 c_r5
              cases eq0
              · skip
                have hS := vCompare_any ⟨k, n, ix, 0, .empty, m⟩ ⟨k, n, ix, 0, .empty, mb⟩ _ _ wr (hl_a.out.to (T := LoV wr.heap.size) (fun b hb => ⟨lr_a.out b hb, rfl⟩)) (hl_b.out.to (T := LoV wr.heap.size) (fun b hb => ⟨lr_b.out b hb, rfl⟩))
                obtain ⟨ce, hce⟩ : ∃ c, c = vaCmp ⟨k, n, ix, 0, .empty, m⟩ ⟨k, n, ix, 0, .empty, mb⟩ := ⟨_, rfl⟩
                rw [← hce] at hS
                have hem : (ce == 0) = false := by rw [hce]; exact hes.out
                have HCE := Lib.hid hce
                clear hce
                refine Calls.mono (hS) ?_
                rintro e v4 ⟨rfl, hw⟩
                replace hb_a := Lib.hid ((hw.block _ lt_a).trans hb_a.out)
                replace lt_a := Nat.lt_of_lt_of_le lt_a hw.size
                replace hb_r := Lib.hid ((hw.block _ lt_r).trans hb_r.out)
                replace lt_r := Nat.lt_of_lt_of_le lt_r hw.size
                replace hb_b := Lib.hid ((hw.block _ lt_b).trans hb_b.out)
                replace lt_b := Nat.lt_of_lt_of_le lt_b hw.size
                replace hl_a := Lib.hid (hl_a.out.to (w' := v4) (T := (LoV W.heap.size)) (fun b hb => ⟨hb, hw.block b (lr_a.out b hb)⟩))
                replace lr_a := Lib.hid (show ∀ b, (LoV W.heap.size) b → b < v4.heap.size from fun b hb => Nat.lt_of_lt_of_le (lr_a.out b hb) hw.size)
                replace hl_b := Lib.hid (hl_b.out.to (w' := v4) (T := (LoV W.heap.size)) (fun b hb => ⟨hb, hw.block b (lr_b.out b hb)⟩))
                replace lr_b := Lib.hid (show ∀ b, (LoV W.heap.size) b → b < v4.heap.size from fun b hb => Nat.lt_of_lt_of_le (lr_b.out b hb) hw.size)
                replace hB := hB.trans (hw.mono hB.size)
                clear hS
                go_wp2_with fail
                go_roundw
                case rel => exact ⟨j + 1, by omega, by go_num, hB⟩
                case measure => simp [intOf]; omega
              · skip
                have hS := vCompare_any ⟨k, n, ix, 0, .empty, m⟩ ⟨k, n, ix, 0, .empty, mb⟩ _ _ wr (hl_a.out.to (T := LoV wr.heap.size) (fun b hb => ⟨lr_a.out b hb, rfl⟩)) (hl_b.out.to (T := LoV wr.heap.size) (fun b hb => ⟨lr_b.out b hb, rfl⟩))
                obtain ⟨ce, hce⟩ : ∃ c, c = vaCmp ⟨k, n, ix, 0, .empty, m⟩ ⟨k, n, ix, 0, .empty, mb⟩ := ⟨_, rfl⟩
                rw [← hce] at hS
                have hem : (ce == 0) = true := by rw [hce]; exact hes.out
                have HCE := Lib.hid hce
                clear hce
                refine Calls.mono (hS) ?_
                rintro e v4 ⟨rfl, hw⟩
                replace hb_a := Lib.hid ((hw.block _ lt_a).trans hb_a.out)
                replace lt_a := Nat.lt_of_lt_of_le lt_a hw.size
                replace hb_r := Lib.hid ((hw.block _ lt_r).trans hb_r.out)
                replace lt_r := Nat.lt_of_lt_of_le lt_r hw.size
                replace hb_b := Lib.hid ((hw.block _ lt_b).trans hb_b.out)
                replace lt_b := Nat.lt_of_lt_of_le lt_b hw.size
                replace hl_a := Lib.hid (hl_a.out.to (w' := v4) (T := (LoV W.heap.size)) (fun b hb => ⟨hb, hw.block b (lr_a.out b hb)⟩))
                replace lr_a := Lib.hid (show ∀ b, (LoV W.heap.size) b → b < v4.heap.size from fun b hb => Nat.lt_of_lt_of_le (lr_a.out b hb) hw.size)
                replace hl_b := Lib.hid (hl_b.out.to (w' := v4) (T := (LoV W.heap.size)) (fun b hb => ⟨hb, hw.block b (lr_b.out b hb)⟩))
                replace lr_b := Lib.hid (show ∀ b, (LoV W.heap.size) b → b < v4.heap.size from fun b hb => Nat.lt_of_lt_of_le (lr_b.out b hb) hw.size)
                replace hB := hB.trans (hw.mono hB.size)
                clear hS
                go_wp2_with fail
                go_roundw
                case rel => exact ⟨j + 1, by omega, by go_num, hB⟩
                case measure => simp [intOf]; omega
        · have hji : ¬ (j : Int) < 3 := by omega
          go_wp2_with fail
          refine Calls.mono (l6lives_any wr) ?_
          rintro e9 w9 ⟨rfl, hw⟩
          go_wp2_with fail
          go_ret
          exact ⟨rfl, HB9.out.trans ((hR.trans (hw.mono hR.size)).mono HB9.out.size)⟩
    · skip
      go_simp
      have hrow0 := Lib.hid (show ((u1.alloc (.cells #[] 3))).ownsRow v6.heap.size 3 1 (.slice (some ⟨u1.heap.size, 0, none⟩) 0 0) 0 [] from own_base (rowi_empty u1 3) hd.size)
      replace hd := hd.trans (((show Below u1.heap.size u1 (u1.alloc (.cells #[] 3)) from (Below.refl u1.heap.size u1).alloc (Nat.le_refl _) (.cells #[] 3))).mono hd.size)
      replace hl_x1 := Lib.hid (hl_x1.out.to (w' := (u1.alloc (.cells #[] 3))) (T := (MidV v6.drew.heap.size u1.heap.size)) (fun b hb => ⟨hb, ((show Below u1.heap.size u1 (u1.alloc (.cells #[] 3)) from (Below.refl u1.heap.size u1).alloc (Nat.le_refl _) (.cells #[] 3))).block b (lr_x1.out b hb)⟩))
      replace lr_x1 := Lib.hid (show ∀ b, (MidV v6.drew.heap.size u1.heap.size) b → b < (u1.alloc (.cells #[] 3)).heap.size from fun b hb => Nat.lt_of_lt_of_le (lr_x1.out b hb) ((show Below u1.heap.size u1 (u1.alloc (.cells #[] 3)) from (Below.refl u1.heap.size u1).alloc (Nat.le_refl _) (.cells #[] 3))).size)
      have hrow := hrow0
      clear hrow0
      have hRb := Lib.hid (show ∀ b, (Value.slice (some ⟨u1.heap.size, 0, none⟩) 0 0).ownBlock = some b → b < (u1.alloc (.cells #[] 3)).heap.size from fun b e => (hrow.out.lt b e).2)
      (try dsimp only)
      refine hK.out _ _ (HS.out _ hd) (fun hHeld => ?_)
      clear hK K hHeld
      (try simp only [Act.put, List.setIfInBounds_toArray, List.set_cons_zero, List.set_cons_succ])
      refine wpAnyH_ready (rs := [4]) (by kernel_rfl) (by simp) ?_
      refine consL rfl (fun K hK => ?_) AllReadyH.nil
      have hRb0 := hRb
      go_simp
      refine Calls.mono (l6own_any ⟨k, n, ix, 0, .empty, m_x1⟩ _ (u1.alloc (.cells #[] 3)) (hl_x1.out.to (T := LoV (u1.alloc (.cells #[] 3)).heap.size) (fun b hb => ⟨lr_x1.out b hb, rfl⟩))) ?_
      rintro e u2 ⟨vv, rfl, hvv, hw⟩
      clear hl_x1 lr_x1
      obtain ⟨A_y1, n_y1, c_y1, hve⟩ := hvv.shape
      have hve2 : vv = .agg #[.int .i64 k, .int .i64 n, .int .i64 ix, .int .u64 0, .string ⟨#[]⟩, .slice A_y1 n_y1 c_y1] := hve
      subst hve2
      clear hve
      have hl_y1 := Lib.hid hvv
      clear hvv
      have lr_y1 := Lib.hid (show ∀ b, MidV (u1.alloc (.cells #[] 3)).heap.size u2.heap.size b → b < u2.heap.size from fun b hb => hb.2)
      replace hd := hd.trans ((hw).mono hd.size)
      replace hrow := Lib.hid (own_keep hrow.out (hw))
      replace hRb := Lib.hid (show ∀ b, (Value.slice (some ⟨u1.heap.size, 0, none⟩) 0 0).ownBlock = some b → b < u2.heap.size from fun b e => Nat.lt_of_lt_of_le (hRb.out b e) (hw).size)
      clear hw
      (try dsimp only)
      refine hK.out _ _ (HS.out _ hd) (fun hHeld => ?_)
      clear hK K hHeld
      (try simp only [Act.put, List.setIfInBounds_toArray, List.set_cons_zero, List.set_cons_succ])
      have hNo := Lib.hid (show ∀ b, (MidV (u1.alloc (.cells #[] 3)).heap.size u2.heap.size) b → (Value.slice (some ⟨u1.heap.size, 0, none⟩) 0 0).ownBlock ≠ some b from fun b hb e => Nat.lt_irrefl _ (Nat.lt_of_lt_of_le (hRb0.out b e) hb.1))
      clear hRb0
      refine wpAnyH_ready (rs := [10]) (by kernel_rfl) (by simp) ?_
      refine consL rfl (fun K hK => ?_) AllReadyH.nil
      refine step_append_rd u2 rfl (.tmp 34) (.tmp 35) 22 rfl v6.heap.size 3 i0 (.int .i64 0) 8 Try.underlying22 hi0.out hz0.out hz1.out hz2.out rfl .i64 _ 0 [] rfl rfl hrow.out A1 len1 c1 zs1 rfl H1.out.1 HC1.out.2.2 HC1.out.2.1 ((H1.out.2.2.below (hB.trans (hd.mono hB.size))).mono (hB.trans (hd.mono hB.size)).size) (by have h1 := HC1.out.1; have h2 := HC2.out.1; have h3 := H1.out.1; have h4 := H2.out.1; unfold maxLen; omega) (by have h1 := HC1.out.1; have h2 := HC2.out.1; have h3 := H1.out.1; have h4 := H2.out.1; omega) hd.size ?_
      intro Ap np cp u3 hqp hrow2 hg hat
      replace hd := hd.grown hg hd.size (fun j ej => (hrow.out.lt j ej).1)
      have hl_y2 := Lib.hid (hl_y1.out.to (w' := u3) (T := (MidV (u1.alloc (.cells #[] 3)).heap.size u2.heap.size)) (fun b hb => ⟨hb, hg.block b (lr_y1.out b hb) (fun e => hNo.out b hb e.symm)⟩))
      replace hNo := Lib.hid (show ∀ b, (MidV (u1.alloc (.cells #[] 3)).heap.size u2.heap.size) b → (Value.slice Ap np cp).ownBlock ≠ some b from fun b hb e => by
        rcases hat with h | h
        · exact hNo.out b hb (h.symm.trans e)
        · have h1 := lr_y1.out b hb
          rw [e] at h
          injection h with h
          exact absurd h (Nat.ne_of_lt h1))
      replace lr_y1 := Lib.hid (show ∀ b, (MidV (u1.alloc (.cells #[] 3)).heap.size u2.heap.size) b → b < u3.heap.size from fun b hb => Nat.lt_of_lt_of_le (lr_y1.out b hb) hg.size)
      replace hl_y1 := hl_y2
      replace hrow := Lib.hid hrow2
      replace hRb := Lib.hid (show ∀ b, (Value.slice Ap np cp).ownBlock = some b → b < u3.heap.size from fun b e => (hrow2.lt b e).2)
      clear hg hat hl_y2 hrow2
      (try dsimp only)
      refine hK.out _ _ (HS.out _ hd) (fun hHeld => ?_)
      clear hK K hHeld
      (try simp only [Act.put, List.setIfInBounds_toArray, List.set_cons_zero, List.set_cons_succ])
      have hqp2 : np = zs1.length := hqp.out.1
      have Hqp := Lib.hid hqp2
      clear hqp2
      refine wpAnyH_ready (rs := [12]) (by kernel_rfl) (by simp) ?_
      refine consL rfl (fun K hK => ?_) AllReadyH.nil
      refine step_append_rd u3 rfl (.tmp 36) (.tmp 37) 22 rfl v6.heap.size 3 i0 (.int .i64 0) 8 Try.underlying22 hi0.out hz0.out hz1.out hz2.out rfl .i64 _ np zs1 Hqp.out rfl hrow.out A2 len2 c2 zs2 rfl H2.out.1 HC2.out.2.2 HC2.out.2.1 ((H2.out.2.2.below (hB.trans (hd.mono hB.size))).mono (hB.trans (hd.mono hB.size)).size) (by have h1 := HC1.out.1; have h2 := HC2.out.1; have h3 := H1.out.1; have h4 := H2.out.1; have h5 := Hqp.out; unfold maxLen; omega) (by have h1 := HC1.out.1; have h2 := HC2.out.1; have h3 := H1.out.1; have h4 := H2.out.1; have h5 := Hqp.out; omega) hd.size ?_
      intro Aq nq cq u4 hqq hrow2 hg hat
      replace hd := hd.grown hg hd.size (fun j ej => (hrow.out.lt j ej).1)
      have hl_y2 := Lib.hid (hl_y1.out.to (w' := u4) (T := (MidV (u1.alloc (.cells #[] 3)).heap.size u2.heap.size)) (fun b hb => ⟨hb, hg.block b (lr_y1.out b hb) (fun e => hNo.out b hb e.symm)⟩))
      replace hNo := Lib.hid (show ∀ b, (MidV (u1.alloc (.cells #[] 3)).heap.size u2.heap.size) b → (Value.slice Aq nq cq).ownBlock ≠ some b from fun b hb e => by
        rcases hat with h | h
        · exact hNo.out b hb (h.symm.trans e)
        · have h1 := lr_y1.out b hb
          rw [e] at h
          injection h with h
          exact absurd h (Nat.ne_of_lt h1))
      replace lr_y1 := Lib.hid (show ∀ b, (MidV (u1.alloc (.cells #[] 3)).heap.size u2.heap.size) b → b < u4.heap.size from fun b hb => Nat.lt_of_lt_of_le (lr_y1.out b hb) hg.size)
      replace hl_y1 := hl_y2
      replace hrow := Lib.hid hrow2
      replace hRb := Lib.hid (show ∀ b, (Value.slice Aq nq cq).ownBlock = some b → b < u4.heap.size from fun b e => (hrow2.lt b e).2)
      clear hg hat hl_y2 hrow2
      (try dsimp only)
      refine hK.out _ _ (HS.out _ hd) (fun hHeld => ?_)
      clear hK K hHeld
      (try simp only [Act.put, List.setIfInBounds_toArray, List.set_cons_zero, List.set_cons_succ])
      refine wpAnyH_ready (rs := [13]) (by kernel_rfl) (by simp) ?_
      refine consL rfl (fun K hK => ?_) AllReadyH.nil
      go_simp
      refine Calls.mono (r6Of_any k n ix u4 Aq cq (zs1 ++ zs2) nq hqq.out.1 (fun z hz => by rcases List.mem_append.1 hz with h | h; exact H1.out.2.1 z h; exact H2.out.2.1 z h) (rd_own hrow.out) HSS.out) ?_
      rintro e u5 ⟨x, ⟨hxk, hxn, hxi⟩, hval, vv, rfl, hvv, hw⟩
      have hxe := arr_eta hval (by rw [hxk]; rcases Hk.out with h | h <;> rw [h] <;> rfl)
      rw [hxk, hxn, hxi] at hxe
      obtain ⟨m_x3, hme⟩ : ∃ mm, mm = x.m := ⟨_, rfl⟩
      rw [← hme] at hxe
      subst hxe
      clear hxk hxn hxi hme
      have hval_x3 := Lib.hid hval
      clear hval
      obtain ⟨A_x3, n_x3, c_x3, hve⟩ := hvv.shape
      have hve2 : vv = .agg #[.int .i64 k, .int .i64 n, .int .i64 ix, .int .u64 0, .string ⟨#[]⟩, .slice A_x3 n_x3 c_x3] := hve
      subst hve2
      clear hve
      have hl_x3 := Lib.hid hvv
      clear hvv
      have lr_x3 := Lib.hid (show ∀ b, MidV u4.heap.size u5.heap.size b → b < u5.heap.size from fun b hb => hb.2)
      replace hd := hd.trans ((hw).mono hd.size)
      replace hl_y1 := Lib.hid (hl_y1.out.to (w' := u5) (T := (MidV (u1.alloc (.cells #[] 3)).heap.size u2.heap.size)) (fun b hb => ⟨hb, (hw).block b (lr_y1.out b hb)⟩))
      replace lr_y1 := Lib.hid (show ∀ b, (MidV (u1.alloc (.cells #[] 3)).heap.size u2.heap.size) b → b < u5.heap.size from fun b hb => Nat.lt_of_lt_of_le (lr_y1.out b hb) (hw).size)
      replace hrow := Lib.hid (own_keep hrow.out (hw))
      replace hRb := Lib.hid (show ∀ b, (Value.slice Aq nq cq).ownBlock = some b → b < u5.heap.size from fun b e => Nat.lt_of_lt_of_le (hRb.out b e) (hw).size)
      clear hw
      (try dsimp only)
      refine hK.out _ _ (HS.out _ hd) (fun hHeld => ?_)
      clear hK K hHeld
      (try simp only [Act.put, List.setIfInBounds_toArray, List.set_cons_zero, List.set_cons_succ])
      clear hrow hNo hRb
      refine wpAnyH_ready (rs := [14]) (by kernel_rfl) (by simp) ?_
      refine consL rfl (fun K hK => ?_) AllReadyH.nil
      go_simp
      refine Calls.mono (l6own_any ⟨k, n, ix, 0, .empty, m_x3⟩ _ u5 (hl_x3.out.to (T := LoV u5.heap.size) (fun b hb => ⟨lr_x3.out b hb, rfl⟩))) ?_
      rintro e u6 ⟨vv, rfl, hvv, hw⟩
      clear hl_x3 lr_x3
      obtain ⟨A_y3, n_y3, c_y3, hve⟩ := hvv.shape
      have hve2 : vv = .agg #[.int .i64 k, .int .i64 n, .int .i64 ix, .int .u64 0, .string ⟨#[]⟩, .slice A_y3 n_y3 c_y3] := hve
      subst hve2
      clear hve
      have hl_y3 := Lib.hid hvv
      clear hvv
      have lr_y3 := Lib.hid (show ∀ b, MidV u5.heap.size u6.heap.size b → b < u6.heap.size from fun b hb => hb.2)
      replace hd := hd.trans ((hw).mono hd.size)
      replace hl_y1 := Lib.hid (hl_y1.out.to (w' := u6) (T := (MidV (u1.alloc (.cells #[] 3)).heap.size u2.heap.size)) (fun b hb => ⟨hb, (hw).block b (lr_y1.out b hb)⟩))
      replace lr_y1 := Lib.hid (show ∀ b, (MidV (u1.alloc (.cells #[] 3)).heap.size u2.heap.size) b → b < u6.heap.size from fun b hb => Nat.lt_of_lt_of_le (lr_y1.out b hb) (hw).size)
      clear hw
      (try dsimp only)
      refine hK.out _ _ (HS.out _ hd) (fun hHeld => ?_)
      clear hK K hHeld
      (try simp only [Act.put, List.setIfInBounds_toArray, List.set_cons_zero, List.set_cons_succ])
      refine wpAnyH_ready (rs := [15]) (by kernel_rfl) (by simp) ?_
      refine consL rfl (fun K hK => ?_) AllReadyH.nil
      go_simp
      have hb_o := Lib.hid (show (u6.alloc (.cells #[.int .i64 k, .int .i64 n, .int .i64 ix, .int .u64 0, .string ⟨#[]⟩, .slice A_y1 n_y1 c_y1, .int .i64 k, .int .i64 n, .int .i64 ix, .int .u64 0, .string ⟨#[]⟩, .slice A_a n_a c_a, .int .i64 k, .int .i64 n, .int .i64 ix, .int .u64 0, .string ⟨#[]⟩, .slice A_y3 n_y3 c_y3] 35)).heap[u6.heap.size]? = some (.cells #[.int .i64 k, .int .i64 n, .int .i64 ix, .int .u64 0, .string ⟨#[]⟩, .slice A_y1 n_y1 c_y1, .int .i64 k, .int .i64 n, .int .i64 ix, .int .u64 0, .string ⟨#[]⟩, .slice A_a n_a c_a, .int .i64 k, .int .i64 n, .int .i64 ix, .int .u64 0, .string ⟨#[]⟩, .slice A_y3 n_y3 c_y3] 35 (0, 0)) from heap_alloc_new u6 _)
      have lt_o : u6.heap.size < (u6.alloc (.cells #[.int .i64 k, .int .i64 n, .int .i64 ix, .int .u64 0, .string ⟨#[]⟩, .slice A_y1 n_y1 c_y1, .int .i64 k, .int .i64 n, .int .i64 ix, .int .u64 0, .string ⟨#[]⟩, .slice A_a n_a c_a, .int .i64 k, .int .i64 n, .int .i64 ix, .int .u64 0, .string ⟨#[]⟩, .slice A_y3 n_y3 c_y3] 35)).heap.size := by simp
      have bo := Lib.hid (show v6.heap.size ≤ u6.heap.size from hd.size)
      replace hd := hd.trans ((((Below.refl u6.heap.size u6).alloc (Nat.le_refl _) (.cells #[.int .i64 k, .int .i64 n, .int .i64 ix, .int .u64 0, .string ⟨#[]⟩, .slice A_y1 n_y1 c_y1, .int .i64 k, .int .i64 n, .int .i64 ix, .int .u64 0, .string ⟨#[]⟩, .slice A_a n_a c_a, .int .i64 k, .int .i64 n, .int .i64 ix, .int .u64 0, .string ⟨#[]⟩, .slice A_y3 n_y3 c_y3] 35))).mono hd.size)
      replace hl_y1 := Lib.hid (hl_y1.out.to (w' := (u6.alloc (.cells #[.int .i64 k, .int .i64 n, .int .i64 ix, .int .u64 0, .string ⟨#[]⟩, .slice A_y1 n_y1 c_y1, .int .i64 k, .int .i64 n, .int .i64 ix, .int .u64 0, .string ⟨#[]⟩, .slice A_a n_a c_a, .int .i64 k, .int .i64 n, .int .i64 ix, .int .u64 0, .string ⟨#[]⟩, .slice A_y3 n_y3 c_y3] 35))) (T := (MidV (u1.alloc (.cells #[] 3)).heap.size u2.heap.size)) (fun b hb => ⟨hb, (((Below.refl u6.heap.size u6).alloc (Nat.le_refl _) (.cells #[.int .i64 k, .int .i64 n, .int .i64 ix, .int .u64 0, .string ⟨#[]⟩, .slice A_y1 n_y1 c_y1, .int .i64 k, .int .i64 n, .int .i64 ix, .int .u64 0, .string ⟨#[]⟩, .slice A_a n_a c_a, .int .i64 k, .int .i64 n, .int .i64 ix, .int .u64 0, .string ⟨#[]⟩, .slice A_y3 n_y3 c_y3] 35))).block b (lr_y1.out b hb)⟩))
      replace lr_y1 := Lib.hid (show ∀ b, (MidV (u1.alloc (.cells #[] 3)).heap.size u2.heap.size) b → b < (u6.alloc (.cells #[.int .i64 k, .int .i64 n, .int .i64 ix, .int .u64 0, .string ⟨#[]⟩, .slice A_y1 n_y1 c_y1, .int .i64 k, .int .i64 n, .int .i64 ix, .int .u64 0, .string ⟨#[]⟩, .slice A_a n_a c_a, .int .i64 k, .int .i64 n, .int .i64 ix, .int .u64 0, .string ⟨#[]⟩, .slice A_y3 n_y3 c_y3] 35)).heap.size from fun b hb => Nat.lt_of_lt_of_le (lr_y1.out b hb) (((Below.refl u6.heap.size u6).alloc (Nat.le_refl _) (.cells #[.int .i64 k, .int .i64 n, .int .i64 ix, .int .u64 0, .string ⟨#[]⟩, .slice A_y1 n_y1 c_y1, .int .i64 k, .int .i64 n, .int .i64 ix, .int .u64 0, .string ⟨#[]⟩, .slice A_a n_a c_a, .int .i64 k, .int .i64 n, .int .i64 ix, .int .u64 0, .string ⟨#[]⟩, .slice A_y3 n_y3 c_y3] 35))).size)
      replace hl_y3 := Lib.hid (hl_y3.out.to (w' := (u6.alloc (.cells #[.int .i64 k, .int .i64 n, .int .i64 ix, .int .u64 0, .string ⟨#[]⟩, .slice A_y1 n_y1 c_y1, .int .i64 k, .int .i64 n, .int .i64 ix, .int .u64 0, .string ⟨#[]⟩, .slice A_a n_a c_a, .int .i64 k, .int .i64 n, .int .i64 ix, .int .u64 0, .string ⟨#[]⟩, .slice A_y3 n_y3 c_y3] 35))) (T := (MidV u5.heap.size u6.heap.size)) (fun b hb => ⟨hb, (((Below.refl u6.heap.size u6).alloc (Nat.le_refl _) (.cells #[.int .i64 k, .int .i64 n, .int .i64 ix, .int .u64 0, .string ⟨#[]⟩, .slice A_y1 n_y1 c_y1, .int .i64 k, .int .i64 n, .int .i64 ix, .int .u64 0, .string ⟨#[]⟩, .slice A_a n_a c_a, .int .i64 k, .int .i64 n, .int .i64 ix, .int .u64 0, .string ⟨#[]⟩, .slice A_y3 n_y3 c_y3] 35))).block b (lr_y3.out b hb)⟩))
      replace lr_y3 := Lib.hid (show ∀ b, (MidV u5.heap.size u6.heap.size) b → b < (u6.alloc (.cells #[.int .i64 k, .int .i64 n, .int .i64 ix, .int .u64 0, .string ⟨#[]⟩, .slice A_y1 n_y1 c_y1, .int .i64 k, .int .i64 n, .int .i64 ix, .int .u64 0, .string ⟨#[]⟩, .slice A_a n_a c_a, .int .i64 k, .int .i64 n, .int .i64 ix, .int .u64 0, .string ⟨#[]⟩, .slice A_y3 n_y3 c_y3] 35)).heap.size from fun b hb => Nat.lt_of_lt_of_le (lr_y3.out b hb) (((Below.refl u6.heap.size u6).alloc (Nat.le_refl _) (.cells #[.int .i64 k, .int .i64 n, .int .i64 ix, .int .u64 0, .string ⟨#[]⟩, .slice A_y1 n_y1 c_y1, .int .i64 k, .int .i64 n, .int .i64 ix, .int .u64 0, .string ⟨#[]⟩, .slice A_a n_a c_a, .int .i64 k, .int .i64 n, .int .i64 ix, .int .u64 0, .string ⟨#[]⟩, .slice A_y3 n_y3 c_y3] 35))).size)
      refine hK.out _ _ (HS.out _ hd) (fun hHeld => ?_)
      clear hK K hHeld
      (try simp only [Act.put, List.setIfInBounds_toArray, List.set_cons_zero, List.set_cons_succ])
      refine wpAnyH_done (by kernel_rfl) ?_ _
      refine lastQ_of rfl (fun K hK => ?_)
      go_simp
      refine hK.out _ _ ?_
      clear hK K
      generalize (u6.alloc (.cells #[.int .i64 k, .int .i64 n, .int .i64 ix, .int .u64 0, .string ⟨#[]⟩, .slice A_y1 n_y1 c_y1, .int .i64 k, .int .i64 n, .int .i64 ix, .int .u64 0, .string ⟨#[]⟩, .slice A_a n_a c_a, .int .i64 k, .int .i64 n, .int .i64 ix, .int .u64 0, .string ⟨#[]⟩, .slice A_y3 n_y3 c_y3] 35)) = W at *
      have hl_a9 := hl_a.out.to (w' := W) (T := LoV W.heap.size) (fun b hb => ⟨Nat.lt_of_lt_of_le (lr_a.out b hb) hd.size, hd.block b (lr_a.out b hb)⟩)
      have hl_y19 := hl_y1.out.to (w' := W) (T := LoV W.heap.size) (fun b hb => ⟨lr_y1.out b hb, rfl⟩)
      have hl_y39 := hl_y3.out.to (w' := W) (T := LoV W.heap.size) (fun b hb => ⟨lr_y3.out b hb, rfl⟩)
      generalize u6.heap.size = B3 at *
      have H3 := Lib.hid (show ∀ (U : World), Below W.heap.size W U → ∀ j : Nat, j < 3 → ∃ A nn c mm, (U.cell? ⟨B3, j * 6, none⟩ = some (.int .i64 k) ∧ U.cell? ⟨B3, j * 6 + 1, none⟩ = some (.int .i64 n) ∧ U.cell? ⟨B3, j * 6 + 2, none⟩ = some (.int .i64 ix) ∧ U.cell? ⟨B3, j * 6 + 3, none⟩ = some (.int .u64 0) ∧ U.cell? ⟨B3, j * 6 + 4, none⟩ = some (.string ⟨#[]⟩) ∧ U.cell? ⟨B3, j * 6 + 5, none⟩ = some (.slice A nn c)) ∧ VaV U (LoV W.heap.size) ⟨k, n, ix, 0, .empty, mm⟩ (.agg #[.int .i64 k, .int .i64 n, .int .i64 ix, .int .u64 0, .string ⟨#[]⟩, .slice A nn c]) ∧ valE ⟨k, n, ix, 0, .empty, mm⟩ = 0 from fun U hU j hj => by
        have hb := (hU.block B3 lt_o).trans hb_o.out
        have h0 : ∀ i : Nat, U.cell? ⟨B3, i, none⟩ = _ := fun i => cell_of_row U B3 i _ _ _ hb
        have mv : ∀ {mm A nn c}, VaV W (LoV W.heap.size) ⟨k, n, ix, 0, .empty, mm⟩ (.agg #[.int .i64 k, .int .i64 n, .int .i64 ix, .int .u64 0, .string ⟨#[]⟩, .slice A nn c]) → VaV U (LoV W.heap.size) ⟨k, n, ix, 0, .empty, mm⟩ (.agg #[.int .i64 k, .int .i64 n, .int .i64 ix, .int .u64 0, .string ⟨#[]⟩, .slice A nn c]) := fun h => h.to (fun b hb => ⟨hb, hU.block b hb⟩)
        rcases (show j = 0 ∨ j = 1 ∨ j = 2 by omega) with rfl | rfl | rfl
        · exact ⟨A_y1, n_y1, c_y1, m_x1, ⟨h0 _, h0 _, h0 _, h0 _, h0 _, h0 _⟩, mv hl_y19, hval_x1.out⟩
        · exact ⟨A_a, n_a, c_a, m, ⟨h0 _, h0 _, h0 _, h0 _, h0 _, h0 _⟩, mv hl_a9, Hval.out⟩
        · exact ⟨A_y3, n_y3, c_y3, m_x3, ⟨h0 _, h0 _, h0 _, h0 _, h0 _, h0 _⟩, mv hl_y39, hval_x3.out⟩)
      have HA := Lib.hid hl_a9
      have HB9 := Lib.hid (hB.trans (hd.mono hB.size))
      have HCR := Lib.hid ((hd.block _ lt_r).trans hb_r.out)
      have HCA := Lib.hid ((hd.block _ lt_a).trans hb_a.out)
      have LR := Lib.hid (show v1.heap.size < W.heap.size from Nat.lt_of_lt_of_le lt_r hd.size)
      have LA := Lib.hid (show v4.heap.size < W.heap.size from Nat.lt_of_lt_of_le lt_a hd.size)
      clear hl_a9 hl_y19 hl_y39 hl_y1 lr_y1 hl_y3 lr_y3 hl_a lr_a hl_r lr_r hb_r hb_a lt_r lt_a hb_o lt_o bo hval_x1 hval_x3 HS hS0 hi0 hz0 hz1 hz2 H1 H2 HC1 HC2 hB hd
      obtain ⟨br, hbr⟩ : ∃ b, b = v1.heap.size := ⟨_, rfl⟩
      obtain ⟨ba, hba⟩ : ∃ b, b = v4.heap.size := ⟨_, rfl⟩
      rw [← hbr] at HCR LR ⊢
      rw [← hba] at HCA LA ⊢
      clear hbr hba
      go_wp2_with fail
      go_loopw [10] (fun a wr => ∃ j : Nat, j ≤ 3 ∧ a = .int .i64 (j : Int) ∧ Below W.heap.size W wr) (fun a _ => 3 - (intOf a).toNat)
      case atStart => exact ⟨0, by decide, rfl, Below.refl _ _⟩
      case round =>
        obtain ⟨j, hj, rfl, hR⟩ := hrel
        by_cases hj3 : j < 3
        · have hji : (j : Int) < 3 := by omega
          obtain ⟨A_b, n_b, c_b, mb, ⟨x0, x1, x2, x3, x4, x5⟩, hvb, hvalb⟩ := H3.out _ hR j hj3
          have HVB := Lib.hid hvb
          have HVAB := Lib.hid hvalb
          clear hvb hvalb
          have hb_a := Lib.hid ((hR.block _ LA.out).trans HCA.out)
          have hb_r := Lib.hid ((hR.block _ LR.out).trans HCR.out)
          have lt_a := Nat.lt_of_lt_of_le LA.out hR.size
          have lt_r := Nat.lt_of_lt_of_le LR.out hR.size
          have hl_a := Lib.hid (HA.out.to (w' := wr) (T := LoV W.heap.size) (fun b hb => ⟨hb, hR.block b hb⟩))
          have lr_a := Lib.hid (show ∀ b, LoV W.heap.size b → b < wr.heap.size from fun b hb => Nat.lt_of_lt_of_le hb hR.size)
          have hl_b := HVB
          have lr_b := lr_a
          have hB := hR
          have bs_b := Lib.hid (show W.heap.size ≤ wr.heap.size from (by have h := hB.size; first | omega | (simp at h; omega)))
          have or_a_b := Lib.hid (show ba < wr.heap.size from (by have h := lt_a; first | omega | (simp at h; omega)))
          have or_r_b := Lib.hid (show br < wr.heap.size from (by have h := lt_r; first | omega | (simp at h; omega)))
          replace hb_a := Lib.hid ((Below.heap_alloc wr (.cells #[.int .i64 k, .int .i64 n, .int .i64 ix, .int .u64 0, .string ⟨#[]⟩, .slice A_b n_b c_b] 35) _ lt_a).trans hb_a.out)
          replace lt_a := Nat.lt_trans lt_a (show wr.heap.size < (wr.alloc (.cells #[.int .i64 k, .int .i64 n, .int .i64 ix, .int .u64 0, .string ⟨#[]⟩, .slice A_b n_b c_b] 35)).heap.size by simp)
          replace hb_r := Lib.hid ((Below.heap_alloc wr (.cells #[.int .i64 k, .int .i64 n, .int .i64 ix, .int .u64 0, .string ⟨#[]⟩, .slice A_b n_b c_b] 35) _ lt_r).trans hb_r.out)
          replace lt_r := Nat.lt_trans lt_r (show wr.heap.size < (wr.alloc (.cells #[.int .i64 k, .int .i64 n, .int .i64 ix, .int .u64 0, .string ⟨#[]⟩, .slice A_b n_b c_b] 35)).heap.size by simp)
          replace hl_a := Lib.hid (hl_a.out.to (w' := (wr.alloc (.cells #[.int .i64 k, .int .i64 n, .int .i64 ix, .int .u64 0, .string ⟨#[]⟩, .slice A_b n_b c_b] 35))) (T := (LoV W.heap.size)) (fun b hb => ⟨hb, Below.heap_alloc wr (.cells #[.int .i64 k, .int .i64 n, .int .i64 ix, .int .u64 0, .string ⟨#[]⟩, .slice A_b n_b c_b] 35) b (lr_a.out b hb)⟩))
          replace lr_a := Lib.hid (show ∀ b, (LoV W.heap.size) b → b < (wr.alloc (.cells #[.int .i64 k, .int .i64 n, .int .i64 ix, .int .u64 0, .string ⟨#[]⟩, .slice A_b n_b c_b] 35)).heap.size from fun b hb => Nat.lt_trans (lr_a.out b hb) (by simp))
          replace hl_b := Lib.hid (hl_b.out.to (w' := (wr.alloc (.cells #[.int .i64 k, .int .i64 n, .int .i64 ix, .int .u64 0, .string ⟨#[]⟩, .slice A_b n_b c_b] 35))) (T := (LoV W.heap.size)) (fun b hb => ⟨hb, Below.heap_alloc wr (.cells #[.int .i64 k, .int .i64 n, .int .i64 ix, .int .u64 0, .string ⟨#[]⟩, .slice A_b n_b c_b] 35) b (lr_b.out b hb)⟩))
          replace lr_b := Lib.hid (show ∀ b, (LoV W.heap.size) b → b < (wr.alloc (.cells #[.int .i64 k, .int .i64 n, .int .i64 ix, .int .u64 0, .string ⟨#[]⟩, .slice A_b n_b c_b] 35)).heap.size from fun b hb => Nat.lt_trans (lr_b.out b hb) (by simp))
          have hb_b := Lib.hid (heap_alloc_new_at wr (.cells #[.int .i64 k, .int .i64 n, .int .i64 ix, .int .u64 0, .string ⟨#[]⟩, .slice A_b n_b c_b] 35) (n := wr.heap.size) (by simp))
          have lt_b : wr.heap.size < (wr.alloc (.cells #[.int .i64 k, .int .i64 n, .int .i64 ix, .int .u64 0, .string ⟨#[]⟩, .slice A_b n_b c_b] 35)).heap.size := by simp
          replace hB := hB.alloc hB.size (.cells #[.int .i64 k, .int .i64 n, .int .i64 ix, .int .u64 0, .string ⟨#[]⟩, .slice A_b n_b c_b] 35)
          obtain ⟨c_a0, c_a1, c_a2, c_a3, c_a4, c_a5⟩ := six hb_a.out
          obtain ⟨f_b0, f_b1, f_b2, f_b3, f_b4, f_b5⟩ := six hb_b.out
          go_wp2_with fail
          clear c_a0 c_a1 c_a2 c_a3 c_a4 c_a5
          clear f_b0 f_b1 f_b2 f_b3 f_b4 f_b5 x0 x1 x2 x3 x4 x5
          generalize (wr.alloc (.cells #[.int .i64 k, .int .i64 n, .int .i64 ix, .int .u64 0, .string ⟨#[]⟩, .slice A_b n_b c_b] 35)) = v2 at *
          have hS := vDiff_any k n ix 0 0 .empty .empty m mb _ _ v2 (hl_a.out.to (T := LoV v2.heap.size) (fun b hb => ⟨lr_a.out b hb, rfl⟩)) (hl_b.out.to (T := LoV v2.heap.size) (fun b hb => ⟨lr_b.out b hb, rfl⟩)) Hval.out HVAB.out (by rcases Hk.out with h | h <;> rw [h] <;> rfl)
          have hdf := dff_arr Hk.out Hval.out HVAB.out hl_a.out.1.2.2.2.1 hl_b.out.1.2.2.2.1
          obtain ⟨d, hdd⟩ : ∃ d, d = dffI m mb := ⟨_, rfl⟩
          rw [← hdd] at hS hdf
          have HDD := Lib.hid hdd
          have HDF := Lib.hid hdf.2.2
          have hd1 := hdf.1
          have hd2 : d < (sz : Int) := by have h1 := hdf.2.1; rw [HGR.out] at h1; omega
          have hgd : decide ((sz : Int) ≤ d) = false := by rw [decide_eq_false_iff_not]; omega
          clear hdd hdf
          refine Calls.mono (hS) ?_
          rintro e v3 ⟨rfl, hw⟩
          replace hb_a := Lib.hid ((hw.block _ lt_a).trans hb_a.out)
          replace lt_a := Nat.lt_of_lt_of_le lt_a hw.size
          replace hb_r := Lib.hid ((hw.block _ lt_r).trans hb_r.out)
          replace lt_r := Nat.lt_of_lt_of_le lt_r hw.size
          replace hb_b := Lib.hid ((hw.block _ lt_b).trans hb_b.out)
          replace lt_b := Nat.lt_of_lt_of_le lt_b hw.size
          replace hl_a := Lib.hid (hl_a.out.to (w' := v3) (T := (LoV W.heap.size)) (fun b hb => ⟨hb, hw.block b (lr_a.out b hb)⟩))
          replace lr_a := Lib.hid (show ∀ b, (LoV W.heap.size) b → b < v3.heap.size from fun b hb => Nat.lt_of_lt_of_le (lr_a.out b hb) hw.size)
          replace hl_b := Lib.hid (hl_b.out.to (w' := v3) (T := (LoV W.heap.size)) (fun b hb => ⟨hb, hw.block b (lr_b.out b hb)⟩))
          replace lr_b := Lib.hid (show ∀ b, (LoV W.heap.size) b → b < v3.heap.size from fun b hb => Nat.lt_of_lt_of_le (lr_b.out b hb) hw.size)
          replace hB := hB.trans (hw.mono hB.size)
          clear hS
          obtain ⟨c_r0, c_r1, c_r2, c_r3, c_r4, c_r5⟩ := six hb_r.out
          go_wp2_with fail
          clear c_r0 c_r1 c_r2 c_r3 c_r4 c_r5
          obtain ⟨wo, rfl⟩ : ∃ wo, wo = wr := ⟨_, rfl⟩
          go_loopw [14, 15] (fun t t2 wr => ∃ z : Nat, z ≤ sz ∧ t = .bool (allE z m mb) ∧ t2 = .int .i64 (z : Int) ∧ Below v3.heap.size v3 wr) (fun _ t2 _ => sz - (intOf t2).toNat)
          case atStart => exact ⟨0, Nat.zero_le _, rfl, rfl, Below.refl _ _⟩
          case round =>
            obtain ⟨z, hz, rfl, rfl, hI⟩ := hrel
            obtain ⟨eq0, heq0⟩ : ∃ q, q = allE z m mb := ⟨_, rfl⟩
            rw [← heq0]
            have HEQ := Lib.hid heq0
            clear heq0
            replace hb_a := Lib.hid ((hI.block _ lt_a).trans hb_a.out)
            replace lt_a := Nat.lt_of_lt_of_le lt_a hI.size
            replace hb_r := Lib.hid ((hI.block _ lt_r).trans hb_r.out)
            replace lt_r := Nat.lt_of_lt_of_le lt_r hI.size
            replace hb_b := Lib.hid ((hI.block _ lt_b).trans hb_b.out)
            replace lt_b := Nat.lt_of_lt_of_le lt_b hI.size
            replace hl_a := Lib.hid (hl_a.out.to (w' := wr) (T := (LoV W.heap.size)) (fun b hb => ⟨hb, hI.block b (lr_a.out b hb)⟩))
            replace lr_a := Lib.hid (show ∀ b, (LoV W.heap.size) b → b < wr.heap.size from fun b hb => Nat.lt_of_lt_of_le (lr_a.out b hb) hI.size)
            replace hl_b := Lib.hid (hl_b.out.to (w' := wr) (T := (LoV W.heap.size)) (fun b hb => ⟨hb, hI.block b (lr_b.out b hb)⟩))
            replace lr_b := Lib.hid (show ∀ b, (LoV W.heap.size) b → b < wr.heap.size from fun b hb => Nat.lt_of_lt_of_le (lr_b.out b hb) hI.size)
            replace hB := hB.trans (hI.mono hB.size)
            by_cases hzs : z < sz
            · have hzi : (z : Int) < (sz : Int) := by omega
              have HIz := Lib.hid (show (z : Int) ≤ grI ix from by rw [HGR.out]; omega)
              have hzw : IntKind.u64.wrap (z : Int) = (z : Int) := IntWalk.u64_in _ (by omega)
              have hJ := hI
              clear hI
              obtain ⟨c_r0, c_r1, c_r2, c_r3, c_r4, c_r5⟩ := six hb_r.out
              obtain ⟨c_a0, c_a1, c_a2, c_a3, c_a4, c_a5⟩ := six hb_a.out
              go_wp2_with fail
              clear c_r0 c_r1 c_r2 c_r3 c_r4 c_r5
              clear c_a0 c_a1 c_a2 c_a3 c_a4 c_a5
              have hf := sel_fine (i := (z : Int)) Hk.out Hval.out (Int.not_lt.2 HIz.out)
              have hS := vSelect_any ⟨k, n, ix, 0, .empty, m⟩ _ (z : Int) wr (hl_a.out.to (T := LoV wr.heap.size) (fun b hb => ⟨lr_a.out b hb, rfl⟩))
              rw [hf.1, hf.2.1] at hS
              obtain ⟨u_p, huo⟩ : ∃ u, u = (atE (z : Int) m).u := ⟨_, rfl⟩
              obtain ⟨s_p, hso⟩ : ∃ s, s = (atE (z : Int) m).s := ⟨_, rfl⟩
              rw [← huo, ← hso] at hS
              have HUp := Lib.hid (And.intro huo hso)
              simp only [vav] at hS
              rw [← HE.out] at hS
              have hmok := hl_a.out.1.2.2.2.1
              simp only at hmok
              have hoo := at_ok hmok (z : Int)
              rw [← huo, ← hso] at hoo
              have HOp := Lib.hid (el_ok (sort_i64 HES.out) hoo)
              clear hmok hoo huo hso hf
              refine Calls.mono (hS) ?_
              rintro e v4 ⟨rfl, hw⟩
              replace hb_a := Lib.hid ((hw.block _ lt_a).trans hb_a.out)
              replace lt_a := Nat.lt_of_lt_of_le lt_a hw.size
              replace hb_r := Lib.hid ((hw.block _ lt_r).trans hb_r.out)
              replace lt_r := Nat.lt_of_lt_of_le lt_r hw.size
              replace hb_b := Lib.hid ((hw.block _ lt_b).trans hb_b.out)
              replace lt_b := Nat.lt_of_lt_of_le lt_b hw.size
              replace hl_a := Lib.hid (hl_a.out.to (w' := v4) (T := (LoV W.heap.size)) (fun b hb => ⟨hb, hw.block b (lr_a.out b hb)⟩))
              replace lr_a := Lib.hid (show ∀ b, (LoV W.heap.size) b → b < v4.heap.size from fun b hb => Nat.lt_of_lt_of_le (lr_a.out b hb) hw.size)
              replace hl_b := Lib.hid (hl_b.out.to (w' := v4) (T := (LoV W.heap.size)) (fun b hb => ⟨hb, hw.block b (lr_b.out b hb)⟩))
              replace lr_b := Lib.hid (show ∀ b, (LoV W.heap.size) b → b < v4.heap.size from fun b hb => Nat.lt_of_lt_of_le (lr_b.out b hb) hw.size)
              replace hB := hB.trans (hw.mono hB.size)
              replace hJ := hJ.trans (hw.mono hJ.size)
              clear hS
              have bs_p := Lib.hid (show W.heap.size ≤ v4.heap.size from (by have h := hB.size; first | omega | (simp at h; omega)))
              have or_a_p := Lib.hid (show ba < v4.heap.size from (by have h := lt_a; first | omega | (simp at h; omega)))
              have or_r_p := Lib.hid (show br < v4.heap.size from (by have h := lt_r; first | omega | (simp at h; omega)))
              have or_b_p := Lib.hid (show wo.heap.size < v4.heap.size from (by have h := lt_b; first | omega | (simp at h; omega)))
              replace hb_a := Lib.hid ((Below.heap_alloc v4 (.cells #[.int .i64 e, .int .i64 n, .int .i64 0, .int .u64 u_p, .string s_p, .slice none 0 0] 35) _ lt_a).trans hb_a.out)
              replace lt_a := Nat.lt_trans lt_a (show v4.heap.size < (v4.alloc (.cells #[.int .i64 e, .int .i64 n, .int .i64 0, .int .u64 u_p, .string s_p, .slice none 0 0] 35)).heap.size by simp)
              replace hb_r := Lib.hid ((Below.heap_alloc v4 (.cells #[.int .i64 e, .int .i64 n, .int .i64 0, .int .u64 u_p, .string s_p, .slice none 0 0] 35) _ lt_r).trans hb_r.out)
              replace lt_r := Nat.lt_trans lt_r (show v4.heap.size < (v4.alloc (.cells #[.int .i64 e, .int .i64 n, .int .i64 0, .int .u64 u_p, .string s_p, .slice none 0 0] 35)).heap.size by simp)
              replace hb_b := Lib.hid ((Below.heap_alloc v4 (.cells #[.int .i64 e, .int .i64 n, .int .i64 0, .int .u64 u_p, .string s_p, .slice none 0 0] 35) _ lt_b).trans hb_b.out)
              replace lt_b := Nat.lt_trans lt_b (show v4.heap.size < (v4.alloc (.cells #[.int .i64 e, .int .i64 n, .int .i64 0, .int .u64 u_p, .string s_p, .slice none 0 0] 35)).heap.size by simp)
              replace hl_a := Lib.hid (hl_a.out.to (w' := (v4.alloc (.cells #[.int .i64 e, .int .i64 n, .int .i64 0, .int .u64 u_p, .string s_p, .slice none 0 0] 35))) (T := (LoV W.heap.size)) (fun b hb => ⟨hb, Below.heap_alloc v4 (.cells #[.int .i64 e, .int .i64 n, .int .i64 0, .int .u64 u_p, .string s_p, .slice none 0 0] 35) b (lr_a.out b hb)⟩))
              replace lr_a := Lib.hid (show ∀ b, (LoV W.heap.size) b → b < (v4.alloc (.cells #[.int .i64 e, .int .i64 n, .int .i64 0, .int .u64 u_p, .string s_p, .slice none 0 0] 35)).heap.size from fun b hb => Nat.lt_trans (lr_a.out b hb) (by simp))
              replace hl_b := Lib.hid (hl_b.out.to (w' := (v4.alloc (.cells #[.int .i64 e, .int .i64 n, .int .i64 0, .int .u64 u_p, .string s_p, .slice none 0 0] 35))) (T := (LoV W.heap.size)) (fun b hb => ⟨hb, Below.heap_alloc v4 (.cells #[.int .i64 e, .int .i64 n, .int .i64 0, .int .u64 u_p, .string s_p, .slice none 0 0] 35) b (lr_b.out b hb)⟩))
              replace lr_b := Lib.hid (show ∀ b, (LoV W.heap.size) b → b < (v4.alloc (.cells #[.int .i64 e, .int .i64 n, .int .i64 0, .int .u64 u_p, .string s_p, .slice none 0 0] 35)).heap.size from fun b hb => Nat.lt_trans (lr_b.out b hb) (by simp))
              have hb_p := Lib.hid (heap_alloc_new_at v4 (.cells #[.int .i64 e, .int .i64 n, .int .i64 0, .int .u64 u_p, .string s_p, .slice none 0 0] 35) (n := v4.heap.size) (by simp))
              have lt_p : v4.heap.size < (v4.alloc (.cells #[.int .i64 e, .int .i64 n, .int .i64 0, .int .u64 u_p, .string s_p, .slice none 0 0] 35)).heap.size := by simp
              replace hB := hB.alloc hB.size (.cells #[.int .i64 e, .int .i64 n, .int .i64 0, .int .u64 u_p, .string s_p, .slice none 0 0] 35)
              replace hJ := hJ.alloc hJ.size (.cells #[.int .i64 e, .int .i64 n, .int .i64 0, .int .u64 u_p, .string s_p, .slice none 0 0] 35)
              obtain ⟨c_p0, c_p1, c_p2, c_p3, c_p4, c_p5⟩ := six hb_p.out
              obtain ⟨c_b0, c_b1, c_b2, c_b3, c_b4, c_b5⟩ := six hb_b.out
              go_wp2_with fail
              clear c_p0 c_p1 c_p2 c_p3 c_p4 c_p5
              clear c_b0 c_b1 c_b2 c_b3 c_b4 c_b5
              generalize (v4.alloc (.cells #[.int .i64 e, .int .i64 n, .int .i64 0, .int .u64 u_p, .string s_p, .slice none 0 0] 35)) = v6 at *
              have hf := sel_fine (i := (z : Int)) Hk.out HVAB.out (Int.not_lt.2 HIz.out)
              have hS := vSelect_any ⟨k, n, ix, 0, .empty, mb⟩ _ (z : Int) v6 (hl_b.out.to (T := LoV v6.heap.size) (fun b hb => ⟨lr_b.out b hb, rfl⟩))
              rw [hf.1, hf.2.1] at hS
              obtain ⟨u_q, huo⟩ : ∃ u, u = (atE (z : Int) mb).u := ⟨_, rfl⟩
              obtain ⟨s_q, hso⟩ : ∃ s, s = (atE (z : Int) mb).s := ⟨_, rfl⟩
              rw [← huo, ← hso] at hS
              have HUq := Lib.hid (And.intro huo hso)
              simp only [vav] at hS
              rw [← HE.out] at hS
              have hmok := hl_b.out.1.2.2.2.1
              simp only at hmok
              have hoo := at_ok hmok (z : Int)
              rw [← huo, ← hso] at hoo
              have HOq := Lib.hid (el_ok (sort_i64 HES.out) hoo)
              clear hmok hoo huo hso hf
              refine Calls.mono (hS) ?_
              rintro e v7 ⟨rfl, hw⟩
              replace hb_a := Lib.hid ((hw.block _ lt_a).trans hb_a.out)
              replace lt_a := Nat.lt_of_lt_of_le lt_a hw.size
              replace hb_r := Lib.hid ((hw.block _ lt_r).trans hb_r.out)
              replace lt_r := Nat.lt_of_lt_of_le lt_r hw.size
              replace hb_b := Lib.hid ((hw.block _ lt_b).trans hb_b.out)
              replace lt_b := Nat.lt_of_lt_of_le lt_b hw.size
              replace hb_p := Lib.hid ((hw.block _ lt_p).trans hb_p.out)
              replace lt_p := Nat.lt_of_lt_of_le lt_p hw.size
              replace hl_a := Lib.hid (hl_a.out.to (w' := v7) (T := (LoV W.heap.size)) (fun b hb => ⟨hb, hw.block b (lr_a.out b hb)⟩))
              replace lr_a := Lib.hid (show ∀ b, (LoV W.heap.size) b → b < v7.heap.size from fun b hb => Nat.lt_of_lt_of_le (lr_a.out b hb) hw.size)
              replace hl_b := Lib.hid (hl_b.out.to (w' := v7) (T := (LoV W.heap.size)) (fun b hb => ⟨hb, hw.block b (lr_b.out b hb)⟩))
              replace lr_b := Lib.hid (show ∀ b, (LoV W.heap.size) b → b < v7.heap.size from fun b hb => Nat.lt_of_lt_of_le (lr_b.out b hb) hw.size)
              replace hB := hB.trans (hw.mono hB.size)
              replace hJ := hJ.trans (hw.mono hJ.size)
              clear hS
              have bs_q := Lib.hid (show W.heap.size ≤ v7.heap.size from (by have h := hB.size; first | omega | (simp at h; omega)))
              have or_a_q := Lib.hid (show ba < v7.heap.size from (by have h := lt_a; first | omega | (simp at h; omega)))
              have or_r_q := Lib.hid (show br < v7.heap.size from (by have h := lt_r; first | omega | (simp at h; omega)))
              have or_b_q := Lib.hid (show wo.heap.size < v7.heap.size from (by have h := lt_b; first | omega | (simp at h; omega)))
              have or_p_q := Lib.hid (show v4.heap.size < v7.heap.size from (by have h := lt_p; first | omega | (simp at h; omega)))
              replace hb_a := Lib.hid ((Below.heap_alloc v7 (.cells #[.int .i64 e, .int .i64 n, .int .i64 0, .int .u64 u_q, .string s_q, .slice none 0 0] 35) _ lt_a).trans hb_a.out)
              replace lt_a := Nat.lt_trans lt_a (show v7.heap.size < (v7.alloc (.cells #[.int .i64 e, .int .i64 n, .int .i64 0, .int .u64 u_q, .string s_q, .slice none 0 0] 35)).heap.size by simp)
              replace hb_r := Lib.hid ((Below.heap_alloc v7 (.cells #[.int .i64 e, .int .i64 n, .int .i64 0, .int .u64 u_q, .string s_q, .slice none 0 0] 35) _ lt_r).trans hb_r.out)
              replace lt_r := Nat.lt_trans lt_r (show v7.heap.size < (v7.alloc (.cells #[.int .i64 e, .int .i64 n, .int .i64 0, .int .u64 u_q, .string s_q, .slice none 0 0] 35)).heap.size by simp)
              replace hb_b := Lib.hid ((Below.heap_alloc v7 (.cells #[.int .i64 e, .int .i64 n, .int .i64 0, .int .u64 u_q, .string s_q, .slice none 0 0] 35) _ lt_b).trans hb_b.out)
              replace lt_b := Nat.lt_trans lt_b (show v7.heap.size < (v7.alloc (.cells #[.int .i64 e, .int .i64 n, .int .i64 0, .int .u64 u_q, .string s_q, .slice none 0 0] 35)).heap.size by simp)
              replace hb_p := Lib.hid ((Below.heap_alloc v7 (.cells #[.int .i64 e, .int .i64 n, .int .i64 0, .int .u64 u_q, .string s_q, .slice none 0 0] 35) _ lt_p).trans hb_p.out)
              replace lt_p := Nat.lt_trans lt_p (show v7.heap.size < (v7.alloc (.cells #[.int .i64 e, .int .i64 n, .int .i64 0, .int .u64 u_q, .string s_q, .slice none 0 0] 35)).heap.size by simp)
              replace hl_a := Lib.hid (hl_a.out.to (w' := (v7.alloc (.cells #[.int .i64 e, .int .i64 n, .int .i64 0, .int .u64 u_q, .string s_q, .slice none 0 0] 35))) (T := (LoV W.heap.size)) (fun b hb => ⟨hb, Below.heap_alloc v7 (.cells #[.int .i64 e, .int .i64 n, .int .i64 0, .int .u64 u_q, .string s_q, .slice none 0 0] 35) b (lr_a.out b hb)⟩))
              replace lr_a := Lib.hid (show ∀ b, (LoV W.heap.size) b → b < (v7.alloc (.cells #[.int .i64 e, .int .i64 n, .int .i64 0, .int .u64 u_q, .string s_q, .slice none 0 0] 35)).heap.size from fun b hb => Nat.lt_trans (lr_a.out b hb) (by simp))
              replace hl_b := Lib.hid (hl_b.out.to (w' := (v7.alloc (.cells #[.int .i64 e, .int .i64 n, .int .i64 0, .int .u64 u_q, .string s_q, .slice none 0 0] 35))) (T := (LoV W.heap.size)) (fun b hb => ⟨hb, Below.heap_alloc v7 (.cells #[.int .i64 e, .int .i64 n, .int .i64 0, .int .u64 u_q, .string s_q, .slice none 0 0] 35) b (lr_b.out b hb)⟩))
              replace lr_b := Lib.hid (show ∀ b, (LoV W.heap.size) b → b < (v7.alloc (.cells #[.int .i64 e, .int .i64 n, .int .i64 0, .int .u64 u_q, .string s_q, .slice none 0 0] 35)).heap.size from fun b hb => Nat.lt_trans (lr_b.out b hb) (by simp))
              have hb_q := Lib.hid (heap_alloc_new_at v7 (.cells #[.int .i64 e, .int .i64 n, .int .i64 0, .int .u64 u_q, .string s_q, .slice none 0 0] 35) (n := v7.heap.size) (by simp))
              have lt_q : v7.heap.size < (v7.alloc (.cells #[.int .i64 e, .int .i64 n, .int .i64 0, .int .u64 u_q, .string s_q, .slice none 0 0] 35)).heap.size := by simp
              replace hB := hB.alloc hB.size (.cells #[.int .i64 e, .int .i64 n, .int .i64 0, .int .u64 u_q, .string s_q, .slice none 0 0] 35)
              replace hJ := hJ.alloc hJ.size (.cells #[.int .i64 e, .int .i64 n, .int .i64 0, .int .u64 u_q, .string s_q, .slice none 0 0] 35)
              obtain ⟨c_p0, c_p1, c_p2, c_p3, c_p4, c_p5⟩ := six hb_p.out
              obtain ⟨c_q0, c_q1, c_q2, c_q3, c_q4, c_q5⟩ := six hb_q.out
              go_wp2_with fail
              clear c_p0 c_p1 c_p2 c_p3 c_p4 c_p5
              clear c_q0 c_q1 c_q2 c_q3 c_q4 c_q5
              generalize (v7.alloc (.cells #[.int .i64 e, .int .i64 n, .int .i64 0, .int .u64 u_q, .string s_q, .slice none 0 0] 35)) = v9 at *
              have hS := vCompare_any ⟨e, n, 0, u_p, s_p, []⟩ ⟨e, n, 0, u_q, s_q, []⟩ _ _ v9 (elVal HOp.out) (elVal HOq.out)
              obtain ⟨cv, hcv⟩ : ∃ c, c = vaCmp ⟨e, n, 0, u_p, s_p, []⟩ ⟨e, n, 0, u_q, s_q, []⟩ := ⟨_, rfl⟩
              rw [← hcv] at hS
              obtain ⟨sm, hsm0⟩ : ∃ q, q = sameE (z : Int) m mb := ⟨_, rfl⟩
              have hsm : (cv == 0) = sm := by
                rw [hcv, HUp.out.1, HUp.out.2, HUq.out.1, HUq.out.2, hsm0]
                exact cmp_same e n (z : Int) m mb
              have HSM := Lib.hid hsm0
              clear hcv hsm0
              refine Calls.mono (hS) ?_
              rintro e v10 ⟨rfl, hw⟩
              replace hb_a := Lib.hid ((hw.block _ lt_a).trans hb_a.out)
              replace lt_a := Nat.lt_of_lt_of_le lt_a hw.size
              replace hb_r := Lib.hid ((hw.block _ lt_r).trans hb_r.out)
              replace lt_r := Nat.lt_of_lt_of_le lt_r hw.size
              replace hb_b := Lib.hid ((hw.block _ lt_b).trans hb_b.out)
              replace lt_b := Nat.lt_of_lt_of_le lt_b hw.size
              replace hb_p := Lib.hid ((hw.block _ lt_p).trans hb_p.out)
              replace lt_p := Nat.lt_of_lt_of_le lt_p hw.size
              replace hb_q := Lib.hid ((hw.block _ lt_q).trans hb_q.out)
              replace lt_q := Nat.lt_of_lt_of_le lt_q hw.size
              replace hl_a := Lib.hid (hl_a.out.to (w' := v10) (T := (LoV W.heap.size)) (fun b hb => ⟨hb, hw.block b (lr_a.out b hb)⟩))
              replace lr_a := Lib.hid (show ∀ b, (LoV W.heap.size) b → b < v10.heap.size from fun b hb => Nat.lt_of_lt_of_le (lr_a.out b hb) hw.size)
              replace hl_b := Lib.hid (hl_b.out.to (w' := v10) (T := (LoV W.heap.size)) (fun b hb => ⟨hb, hw.block b (lr_b.out b hb)⟩))
              replace lr_b := Lib.hid (show ∀ b, (LoV W.heap.size) b → b < v10.heap.size from fun b hb => Nat.lt_of_lt_of_le (lr_b.out b hb) hw.size)
              replace hB := hB.trans (hw.mono hB.size)
              replace hJ := hJ.trans (hw.mono hJ.size)
              clear hS
              rcases Int.lt_trichotomy (z : Int) d with hzd | hzd | hzd
              · skip
                have g1 : decide ((z : Int) < d) = true := decide_eq_true hzd
                have g2 : ((z : Int) == d) = false := by rw [beq_eq_false_iff_ne]; omega
                obtain rfl : sm = true := by rw [HSM.out]; exact same_low (by rw [← HDD.out]; exact hzd)
                replace hzd := Lib.hid hzd
                cases eq0
                · skip
                  go_wp2_with fail
                  go_roundw
                  case rel => exact ⟨z + 1, by omega, by rw [allE_succ, ← HEQ.out, ← HSM.out]; rfl, by go_num, hJ⟩
                  case measure => simp [intOf]; omega
                · skip
                  go_wp2_with fail
                  go_roundw
                  case rel => exact ⟨z + 1, by omega, by rw [allE_succ, ← HEQ.out, ← HSM.out]; rfl, by go_num, hJ⟩
                  case measure => simp [intOf]; omega
              · skip
                have g1 : decide ((z : Int) < d) = false := by rw [decide_eq_false_iff_not]; omega
                have g2 : ((z : Int) == d) = true := by rw [beq_iff_eq]; exact hzd
                have hes := Lib.hid (show eqA k n ix m mb = sm from by
                  rw [Bool.eq_iff_iff, eqA_iff, HSM.out, hzd, HDF.out])
                replace hzd := Lib.hid hzd
                cases sm
                · skip
                  obtain ⟨c_a0, c_a1, c_a2, c_a3, c_a4, c_a5⟩ := six hb_a.out
                  obtain ⟨c_b0, c_b1, c_b2, c_b3, c_b4, c_b5⟩ := six hb_b.out
                  go_wp2_with fail
                  clear c_a0 c_a1 c_a2 c_a3 c_a4 c_a5
                  clear c_b0 c_b1 c_b2 c_b3 c_b4 c_b5
                  have hS := vCompare_any ⟨k, n, ix, 0, .empty, m⟩ ⟨k, n, ix, 0, .empty, mb⟩ _ _ v10 (hl_a.out.to (T := LoV v10.heap.size) (fun b hb => ⟨lr_a.out b hb, rfl⟩)) (hl_b.out.to (T := LoV v10.heap.size) (fun b hb => ⟨lr_b.out b hb, rfl⟩))
                  obtain ⟨ce, hce⟩ : ∃ c, c = vaCmp ⟨k, n, ix, 0, .empty, m⟩ ⟨k, n, ix, 0, .empty, mb⟩ := ⟨_, rfl⟩
                  rw [← hce] at hS
                  have hem : (ce == 0) = false := by rw [hce]; exact hes.out
                  have HCE := Lib.hid hce
                  clear hce
                  refine Calls.mono (hS) ?_
                  rintro e v11 ⟨rfl, hw⟩
                  replace hb_a := Lib.hid ((hw.block _ lt_a).trans hb_a.out)
                  replace lt_a := Nat.lt_of_lt_of_le lt_a hw.size
                  replace hb_r := Lib.hid ((hw.block _ lt_r).trans hb_r.out)
                  replace lt_r := Nat.lt_of_lt_of_le lt_r hw.size
                  replace hb_b := Lib.hid ((hw.block _ lt_b).trans hb_b.out)
                  replace lt_b := Nat.lt_of_lt_of_le lt_b hw.size
                  replace hb_p := Lib.hid ((hw.block _ lt_p).trans hb_p.out)
                  replace lt_p := Nat.lt_of_lt_of_le lt_p hw.size
                  replace hb_q := Lib.hid ((hw.block _ lt_q).trans hb_q.out)
                  replace lt_q := Nat.lt_of_lt_of_le lt_q hw.size
                  replace hl_a := Lib.hid (hl_a.out.to (w' := v11) (T := (LoV W.heap.size)) (fun b hb => ⟨hb, hw.block b (lr_a.out b hb)⟩))
                  replace lr_a := Lib.hid (show ∀ b, (LoV W.heap.size) b → b < v11.heap.size from fun b hb => Nat.lt_of_lt_of_le (lr_a.out b hb) hw.size)
                  replace hl_b := Lib.hid (hl_b.out.to (w' := v11) (T := (LoV W.heap.size)) (fun b hb => ⟨hb, hw.block b (lr_b.out b hb)⟩))
                  replace lr_b := Lib.hid (show ∀ b, (LoV W.heap.size) b → b < v11.heap.size from fun b hb => Nat.lt_of_lt_of_le (lr_b.out b hb) hw.size)
                  replace hB := hB.trans (hw.mono hB.size)
                  replace hJ := hJ.trans (hw.mono hJ.size)
                  clear hS
                  cases eq0
                  · skip
                    go_wp2_with fail
                    go_roundw
                    case rel => exact ⟨z + 1, by omega, by rw [allE_succ, ← HEQ.out, ← HSM.out]; rfl, by go_num, hJ⟩
                    case measure => simp [intOf]; omega
                  · skip
                    go_wp2_with fail
                    go_roundw
                    case rel => exact ⟨z + 1, by omega, by rw [allE_succ, ← HEQ.out, ← HSM.out]; rfl, by go_num, hJ⟩
                    case measure => simp [intOf]; omega
                · skip
                  obtain ⟨c_a0, c_a1, c_a2, c_a3, c_a4, c_a5⟩ := six hb_a.out
                  obtain ⟨c_b0, c_b1, c_b2, c_b3, c_b4, c_b5⟩ := six hb_b.out
                  go_wp2_with fail
                  clear c_a0 c_a1 c_a2 c_a3 c_a4 c_a5
                  clear c_b0 c_b1 c_b2 c_b3 c_b4 c_b5
                  have hS := vCompare_any ⟨k, n, ix, 0, .empty, m⟩ ⟨k, n, ix, 0, .empty, mb⟩ _ _ v10 (hl_a.out.to (T := LoV v10.heap.size) (fun b hb => ⟨lr_a.out b hb, rfl⟩)) (hl_b.out.to (T := LoV v10.heap.size) (fun b hb => ⟨lr_b.out b hb, rfl⟩))
                  obtain ⟨ce, hce⟩ : ∃ c, c = vaCmp ⟨k, n, ix, 0, .empty, m⟩ ⟨k, n, ix, 0, .empty, mb⟩ := ⟨_, rfl⟩
                  rw [← hce] at hS
                  have hem : (ce == 0) = true := by rw [hce]; exact hes.out
                  have HCE := Lib.hid hce
                  clear hce
                  refine Calls.mono (hS) ?_
                  rintro e v11 ⟨rfl, hw⟩
                  replace hb_a := Lib.hid ((hw.block _ lt_a).trans hb_a.out)
                  replace lt_a := Nat.lt_of_lt_of_le lt_a hw.size
                  replace hb_r := Lib.hid ((hw.block _ lt_r).trans hb_r.out)
                  replace lt_r := Nat.lt_of_lt_of_le lt_r hw.size
                  replace hb_b := Lib.hid ((hw.block _ lt_b).trans hb_b.out)
                  replace lt_b := Nat.lt_of_lt_of_le lt_b hw.size
                  replace hb_p := Lib.hid ((hw.block _ lt_p).trans hb_p.out)
                  replace lt_p := Nat.lt_of_lt_of_le lt_p hw.size
                  replace hb_q := Lib.hid ((hw.block _ lt_q).trans hb_q.out)
                  replace lt_q := Nat.lt_of_lt_of_le lt_q hw.size
                  replace hl_a := Lib.hid (hl_a.out.to (w' := v11) (T := (LoV W.heap.size)) (fun b hb => ⟨hb, hw.block b (lr_a.out b hb)⟩))
                  replace lr_a := Lib.hid (show ∀ b, (LoV W.heap.size) b → b < v11.heap.size from fun b hb => Nat.lt_of_lt_of_le (lr_a.out b hb) hw.size)
                  replace hl_b := Lib.hid (hl_b.out.to (w' := v11) (T := (LoV W.heap.size)) (fun b hb => ⟨hb, hw.block b (lr_b.out b hb)⟩))
                  replace lr_b := Lib.hid (show ∀ b, (LoV W.heap.size) b → b < v11.heap.size from fun b hb => Nat.lt_of_lt_of_le (lr_b.out b hb) hw.size)
                  replace hB := hB.trans (hw.mono hB.size)
                  replace hJ := hJ.trans (hw.mono hJ.size)
                  clear hS
                  cases eq0
                  · skip
                    go_wp2_with fail
                    go_roundw
                    case rel => exact ⟨z + 1, by omega, by rw [allE_succ, ← HEQ.out, ← HSM.out]; rfl, by go_num, hJ⟩
                    case measure => simp [intOf]; omega
                  · skip
                    go_wp2_with fail
                    go_roundw
                    case rel => exact ⟨z + 1, by omega, by rw [allE_succ, ← HEQ.out, ← HSM.out]; rfl, by go_num, hJ⟩
                    case measure => simp [intOf]; omega
              · skip
                have g1 : decide ((z : Int) < d) = false := by rw [decide_eq_false_iff_not]; omega
                have g2 : ((z : Int) == d) = false := by rw [beq_eq_false_iff_ne]; omega
                replace hzd := Lib.hid hzd
                cases sm
                · skip
                  cases eq0
                  · skip
                    go_wp2_with fail
                    go_roundw
                    case rel => exact ⟨z + 1, by omega, by rw [allE_succ, ← HEQ.out, ← HSM.out]; rfl, by go_num, hJ⟩
                    case measure => simp [intOf]; omega
                  · skip
                    go_wp2_with fail
                    go_roundw
                    case rel => exact ⟨z + 1, by omega, by rw [allE_succ, ← HEQ.out, ← HSM.out]; rfl, by go_num, hJ⟩
                    case measure => simp [intOf]; omega
                · skip
                  cases eq0
                  · skip
                    go_wp2_with fail
                    go_roundw
                    case rel => exact ⟨z + 1, by omega, by rw [allE_succ, ← HEQ.out, ← HSM.out]; rfl, by go_num, hJ⟩
                    case measure => simp [intOf]; omega
                  · skip
                    go_wp2_with fail
                    go_roundw
                    case rel => exact ⟨z + 1, by omega, by rw [allE_succ, ← HEQ.out, ← HSM.out]; rfl, by go_num, hJ⟩
                    case measure => simp [intOf]; omega
            · have hzi : ¬ (z : Int) < (sz : Int) := by omega
              have hes := Lib.hid (show eqA k n ix m mb = eq0 from by
                obtain rfl : z = sz := by omega
                rw [Bool.eq_iff_iff, eqA_iff, HEQ.out, allE_all Hk.out Hval.out HVAB.out hl_a.out.1.2.2.2.1 hl_b.out.1.2.2.2.1 HGR.out])
              obtain ⟨c_a0, c_a1, c_a2, c_a3, c_a4, c_a5⟩ := six hb_a.out
              obtain ⟨c_b0, c_b1, c_b2, c_b3, c_b4, c_b5⟩ := six hb_b.out
              obtain ⟨c_r0, c_r1, c_r2, c_r3, c_r4, c_r5⟩ := six hb_r.out
              go_wp2_with fail
              clear c_a0 c_a1 c_a2 c_a3 c_a4 c_a5
              clear c_b0 c_b1 c_b2 c_b3 c_b4 c_b5
              clear c_r0 c_r1 c_r2 c_r3 c_r4 c_r5
              cases eq0
              · skip
                have hS := vCompare_any ⟨k, n, ix, 0, .empty, m⟩ ⟨k, n, ix, 0, .empty, mb⟩ _ _ wr (hl_a.out.to (T := LoV wr.heap.size) (fun b hb => ⟨lr_a.out b hb, rfl⟩)) (hl_b.out.to (T := LoV wr.heap.size) (fun b hb => ⟨lr_b.out b hb, rfl⟩))
                obtain ⟨ce, hce⟩ : ∃ c, c = vaCmp ⟨k, n, ix, 0, .empty, m⟩ ⟨k, n, ix, 0, .empty, mb⟩ := ⟨_, rfl⟩
                rw [← hce] at hS
                have hem : (ce == 0) = false := by rw [hce]; exact hes.out
                have HCE := Lib.hid hce
                clear hce
                refine Calls.mono (hS) ?_
                rintro e v4 ⟨rfl, hw⟩
                replace hb_a := Lib.hid ((hw.block _ lt_a).trans hb_a.out)
                replace lt_a := Nat.lt_of_lt_of_le lt_a hw.size
                replace hb_r := Lib.hid ((hw.block _ lt_r).trans hb_r.out)
                replace lt_r := Nat.lt_of_lt_of_le lt_r hw.size
                replace hb_b := Lib.hid ((hw.block _ lt_b).trans hb_b.out)
                replace lt_b := Nat.lt_of_lt_of_le lt_b hw.size
                replace hl_a := Lib.hid (hl_a.out.to (w' := v4) (T := (LoV W.heap.size)) (fun b hb => ⟨hb, hw.block b (lr_a.out b hb)⟩))
                replace lr_a := Lib.hid (show ∀ b, (LoV W.heap.size) b → b < v4.heap.size from fun b hb => Nat.lt_of_lt_of_le (lr_a.out b hb) hw.size)
                replace hl_b := Lib.hid (hl_b.out.to (w' := v4) (T := (LoV W.heap.size)) (fun b hb => ⟨hb, hw.block b (lr_b.out b hb)⟩))
                replace lr_b := Lib.hid (show ∀ b, (LoV W.heap.size) b → b < v4.heap.size from fun b hb => Nat.lt_of_lt_of_le (lr_b.out b hb) hw.size)
                replace hB := hB.trans (hw.mono hB.size)
                clear hS
                go_wp2_with fail
                go_roundw
                case rel => exact ⟨j + 1, by omega, by go_num, hB⟩
                case measure => simp [intOf]; omega
              · skip
                have hS := vCompare_any ⟨k, n, ix, 0, .empty, m⟩ ⟨k, n, ix, 0, .empty, mb⟩ _ _ wr (hl_a.out.to (T := LoV wr.heap.size) (fun b hb => ⟨lr_a.out b hb, rfl⟩)) (hl_b.out.to (T := LoV wr.heap.size) (fun b hb => ⟨lr_b.out b hb, rfl⟩))
                obtain ⟨ce, hce⟩ : ∃ c, c = vaCmp ⟨k, n, ix, 0, .empty, m⟩ ⟨k, n, ix, 0, .empty, mb⟩ := ⟨_, rfl⟩
                rw [← hce] at hS
                have hem : (ce == 0) = true := by rw [hce]; exact hes.out
                have HCE := Lib.hid hce
                clear hce
                refine Calls.mono (hS) ?_
                rintro e v4 ⟨rfl, hw⟩
                replace hb_a := Lib.hid ((hw.block _ lt_a).trans hb_a.out)
                replace lt_a := Nat.lt_of_lt_of_le lt_a hw.size
                replace hb_r := Lib.hid ((hw.block _ lt_r).trans hb_r.out)
                replace lt_r := Nat.lt_of_lt_of_le lt_r hw.size
                replace hb_b := Lib.hid ((hw.block _ lt_b).trans hb_b.out)
                replace lt_b := Nat.lt_of_lt_of_le lt_b hw.size
                replace hl_a := Lib.hid (hl_a.out.to (w' := v4) (T := (LoV W.heap.size)) (fun b hb => ⟨hb, hw.block b (lr_a.out b hb)⟩))
                replace lr_a := Lib.hid (show ∀ b, (LoV W.heap.size) b → b < v4.heap.size from fun b hb => Nat.lt_of_lt_of_le (lr_a.out b hb) hw.size)
                replace hl_b := Lib.hid (hl_b.out.to (w' := v4) (T := (LoV W.heap.size)) (fun b hb => ⟨hb, hw.block b (lr_b.out b hb)⟩))
                replace lr_b := Lib.hid (show ∀ b, (LoV W.heap.size) b → b < v4.heap.size from fun b hb => Nat.lt_of_lt_of_le (lr_b.out b hb) hw.size)
                replace hB := hB.trans (hw.mono hB.size)
                clear hS
                go_wp2_with fail
                go_roundw
                case rel => exact ⟨j + 1, by omega, by go_num, hB⟩
                case measure => simp [intOf]; omega
        · have hji : ¬ (j : Int) < 3 := by omega
          go_wp2_with fail
          refine Calls.mono (l6lives_any wr) ?_
          rintro e9 w9 ⟨rfl, hw⟩
          go_wp2_with fail
          go_ret
          exact ⟨rfl, HB9.out.trans ((hR.trans (hw.mono hR.size)).mono HB9.out.size)⟩
  · skip
    go_simp
    have hrow0 := Lib.hid (show ((v6.alloc (.cells #[] 3)).drew).ownsRow v6.heap.size 3 1 (.slice (some ⟨v6.heap.size, 0, none⟩) 0 0) 0 [] from own_base (rowi_empty v6.drew 3) hd.size)
    replace hd := hd.trans (((show Below v6.drew.heap.size v6.drew (v6.alloc (.cells #[] 3)).drew from (Below.refl v6.drew.heap.size v6.drew).alloc (Nat.le_refl _) (.cells #[] 3))).mono hd.size)
    have hrow := hrow0
    clear hrow0
    have hRb := Lib.hid (show ∀ b, (Value.slice (some ⟨v6.heap.size, 0, none⟩) 0 0).ownBlock = some b → b < (v6.alloc (.cells #[] 3)).drew.heap.size from fun b e => (hrow.out.lt b e).2)
    (try dsimp only)
    refine hK.out _ _ (HS.out _ hd) (fun hHeld => ?_)
    clear hK K hHeld
    (try simp only [Act.put, List.setIfInBounds_toArray, List.set_cons_zero, List.set_cons_succ])
    refine wpAnyH_ready (rs := [3]) (by kernel_rfl) (by simp) ?_
    refine consL rfl (fun K hK => ?_) AllReadyH.nil
    go_simp
    refine Calls.mono (r6Of_any k n ix (v6.alloc (.cells #[] 3)).drew A2 c2 zs2 len2 H2.out.1 H2.out.2.1 ((H2.out.2.2.below (hB.trans (hd.mono hB.size))).mono (hB.trans (hd.mono hB.size)).size) HSS.out) ?_
    rintro e u1 ⟨x, ⟨hxk, hxn, hxi⟩, hval, vv, rfl, hvv, hw⟩
    have hxe := arr_eta hval (by rw [hxk]; rcases Hk.out with h | h <;> rw [h] <;> rfl)
    rw [hxk, hxn, hxi] at hxe
    obtain ⟨m_x1, hme⟩ : ∃ mm, mm = x.m := ⟨_, rfl⟩
    rw [← hme] at hxe
    subst hxe
    clear hxk hxn hxi hme
    have hval_x1 := Lib.hid hval
    clear hval
    obtain ⟨A_x1, n_x1, c_x1, hve⟩ := hvv.shape
    have hve2 : vv = .agg #[.int .i64 k, .int .i64 n, .int .i64 ix, .int .u64 0, .string ⟨#[]⟩, .slice A_x1 n_x1 c_x1] := hve
    subst hve2
    clear hve
    have hl_x1 := Lib.hid hvv
    clear hvv
    have lr_x1 := Lib.hid (show ∀ b, MidV (v6.alloc (.cells #[] 3)).drew.heap.size u1.heap.size b → b < u1.heap.size from fun b hb => hb.2)
    replace hd := hd.trans ((hw).mono hd.size)
    replace hrow := Lib.hid (own_keep hrow.out (hw))
    replace hRb := Lib.hid (show ∀ b, (Value.slice (some ⟨v6.heap.size, 0, none⟩) 0 0).ownBlock = some b → b < u1.heap.size from fun b e => Nat.lt_of_lt_of_le (hRb.out b e) (hw).size)
    clear hw
    (try dsimp only)
    refine hK.out _ _ (HS.out _ hd) (fun hHeld => ?_)
    clear hK K hHeld
    (try simp only [Act.put, List.setIfInBounds_toArray, List.set_cons_zero, List.set_cons_succ])
    refine wpAnyH_ready (rs := [4]) (by kernel_rfl) (by simp) ?_
    refine consL rfl (fun K hK => ?_) AllReadyH.nil
    have hRb0 := hRb
    go_simp
    refine Calls.mono (l6own_any ⟨k, n, ix, 0, .empty, m_x1⟩ _ u1 (hl_x1.out.to (T := LoV u1.heap.size) (fun b hb => ⟨lr_x1.out b hb, rfl⟩))) ?_
    rintro e u2 ⟨vv, rfl, hvv, hw⟩
    clear hl_x1 lr_x1
    obtain ⟨A_y1, n_y1, c_y1, hve⟩ := hvv.shape
    have hve2 : vv = .agg #[.int .i64 k, .int .i64 n, .int .i64 ix, .int .u64 0, .string ⟨#[]⟩, .slice A_y1 n_y1 c_y1] := hve
    subst hve2
    clear hve
    have hl_y1 := Lib.hid hvv
    clear hvv
    have lr_y1 := Lib.hid (show ∀ b, MidV u1.heap.size u2.heap.size b → b < u2.heap.size from fun b hb => hb.2)
    replace hd := hd.trans ((hw).mono hd.size)
    replace hrow := Lib.hid (own_keep hrow.out (hw))
    replace hRb := Lib.hid (show ∀ b, (Value.slice (some ⟨v6.heap.size, 0, none⟩) 0 0).ownBlock = some b → b < u2.heap.size from fun b e => Nat.lt_of_lt_of_le (hRb.out b e) (hw).size)
    clear hw
    (try dsimp only)
    refine hK.out _ _ (HS.out _ hd) (fun hHeld => ?_)
    clear hK K hHeld
    (try simp only [Act.put, List.setIfInBounds_toArray, List.set_cons_zero, List.set_cons_succ])
    have hNo := Lib.hid (show ∀ b, (MidV u1.heap.size u2.heap.size) b → (Value.slice (some ⟨v6.heap.size, 0, none⟩) 0 0).ownBlock ≠ some b from fun b hb e => Nat.lt_irrefl _ (Nat.lt_of_lt_of_le (hRb0.out b e) hb.1))
    clear hRb0
    refine wpAnyH_ready (rs := [10]) (by kernel_rfl) (by simp) ?_
    refine consL rfl (fun K hK => ?_) AllReadyH.nil
    refine step_append_rd u2 rfl (.tmp 34) (.tmp 35) 22 rfl v6.heap.size 3 i0 (.int .i64 0) 8 Try.underlying22 hi0.out hz0.out hz1.out hz2.out rfl .i64 _ 0 [] rfl rfl hrow.out A1 len1 c1 zs1 rfl H1.out.1 HC1.out.2.2 HC1.out.2.1 ((H1.out.2.2.below (hB.trans (hd.mono hB.size))).mono (hB.trans (hd.mono hB.size)).size) (by have h1 := HC1.out.1; have h2 := HC2.out.1; have h3 := H1.out.1; have h4 := H2.out.1; unfold maxLen; omega) (by have h1 := HC1.out.1; have h2 := HC2.out.1; have h3 := H1.out.1; have h4 := H2.out.1; omega) hd.size ?_
    intro Ap np cp u3 hqp hrow2 hg hat
    replace hd := hd.grown hg hd.size (fun j ej => (hrow.out.lt j ej).1)
    have hl_y2 := Lib.hid (hl_y1.out.to (w' := u3) (T := (MidV u1.heap.size u2.heap.size)) (fun b hb => ⟨hb, hg.block b (lr_y1.out b hb) (fun e => hNo.out b hb e.symm)⟩))
    replace hNo := Lib.hid (show ∀ b, (MidV u1.heap.size u2.heap.size) b → (Value.slice Ap np cp).ownBlock ≠ some b from fun b hb e => by
      rcases hat with h | h
      · exact hNo.out b hb (h.symm.trans e)
      · have h1 := lr_y1.out b hb
        rw [e] at h
        injection h with h
        exact absurd h (Nat.ne_of_lt h1))
    replace lr_y1 := Lib.hid (show ∀ b, (MidV u1.heap.size u2.heap.size) b → b < u3.heap.size from fun b hb => Nat.lt_of_lt_of_le (lr_y1.out b hb) hg.size)
    replace hl_y1 := hl_y2
    replace hrow := Lib.hid hrow2
    replace hRb := Lib.hid (show ∀ b, (Value.slice Ap np cp).ownBlock = some b → b < u3.heap.size from fun b e => (hrow2.lt b e).2)
    clear hg hat hl_y2 hrow2
    (try dsimp only)
    refine hK.out _ _ (HS.out _ hd) (fun hHeld => ?_)
    clear hK K hHeld
    (try simp only [Act.put, List.setIfInBounds_toArray, List.set_cons_zero, List.set_cons_succ])
    have hqp2 : np = zs1.length := hqp.out.1
    have Hqp := Lib.hid hqp2
    clear hqp2
    refine wpAnyH_ready (rs := [12]) (by kernel_rfl) (by simp) ?_
    refine consL rfl (fun K hK => ?_) AllReadyH.nil
    refine step_append_rd u3 rfl (.tmp 36) (.tmp 37) 22 rfl v6.heap.size 3 i0 (.int .i64 0) 8 Try.underlying22 hi0.out hz0.out hz1.out hz2.out rfl .i64 _ np zs1 Hqp.out rfl hrow.out A2 len2 c2 zs2 rfl H2.out.1 HC2.out.2.2 HC2.out.2.1 ((H2.out.2.2.below (hB.trans (hd.mono hB.size))).mono (hB.trans (hd.mono hB.size)).size) (by have h1 := HC1.out.1; have h2 := HC2.out.1; have h3 := H1.out.1; have h4 := H2.out.1; have h5 := Hqp.out; unfold maxLen; omega) (by have h1 := HC1.out.1; have h2 := HC2.out.1; have h3 := H1.out.1; have h4 := H2.out.1; have h5 := Hqp.out; omega) hd.size ?_
    intro Aq nq cq u4 hqq hrow2 hg hat
    replace hd := hd.grown hg hd.size (fun j ej => (hrow.out.lt j ej).1)
    have hl_y2 := Lib.hid (hl_y1.out.to (w' := u4) (T := (MidV u1.heap.size u2.heap.size)) (fun b hb => ⟨hb, hg.block b (lr_y1.out b hb) (fun e => hNo.out b hb e.symm)⟩))
    replace hNo := Lib.hid (show ∀ b, (MidV u1.heap.size u2.heap.size) b → (Value.slice Aq nq cq).ownBlock ≠ some b from fun b hb e => by
      rcases hat with h | h
      · exact hNo.out b hb (h.symm.trans e)
      · have h1 := lr_y1.out b hb
        rw [e] at h
        injection h with h
        exact absurd h (Nat.ne_of_lt h1))
    replace lr_y1 := Lib.hid (show ∀ b, (MidV u1.heap.size u2.heap.size) b → b < u4.heap.size from fun b hb => Nat.lt_of_lt_of_le (lr_y1.out b hb) hg.size)
    replace hl_y1 := hl_y2
    replace hrow := Lib.hid hrow2
    replace hRb := Lib.hid (show ∀ b, (Value.slice Aq nq cq).ownBlock = some b → b < u4.heap.size from fun b e => (hrow2.lt b e).2)
    clear hg hat hl_y2 hrow2
    (try dsimp only)
    refine hK.out _ _ (HS.out _ hd) (fun hHeld => ?_)
    clear hK K hHeld
    (try simp only [Act.put, List.setIfInBounds_toArray, List.set_cons_zero, List.set_cons_succ])
    refine wpAnyH_ready (rs := [13]) (by kernel_rfl) (by simp) ?_
    refine consL rfl (fun K hK => ?_) AllReadyH.nil
    go_simp
    refine Calls.mono (r6Of_any k n ix u4 Aq cq (zs1 ++ zs2) nq hqq.out.1 (fun z hz => by rcases List.mem_append.1 hz with h | h; exact H1.out.2.1 z h; exact H2.out.2.1 z h) (rd_own hrow.out) HSS.out) ?_
    rintro e u5 ⟨x, ⟨hxk, hxn, hxi⟩, hval, vv, rfl, hvv, hw⟩
    have hxe := arr_eta hval (by rw [hxk]; rcases Hk.out with h | h <;> rw [h] <;> rfl)
    rw [hxk, hxn, hxi] at hxe
    obtain ⟨m_x3, hme⟩ : ∃ mm, mm = x.m := ⟨_, rfl⟩
    rw [← hme] at hxe
    subst hxe
    clear hxk hxn hxi hme
    have hval_x3 := Lib.hid hval
    clear hval
    obtain ⟨A_x3, n_x3, c_x3, hve⟩ := hvv.shape
    have hve2 : vv = .agg #[.int .i64 k, .int .i64 n, .int .i64 ix, .int .u64 0, .string ⟨#[]⟩, .slice A_x3 n_x3 c_x3] := hve
    subst hve2
    clear hve
    have hl_x3 := Lib.hid hvv
    clear hvv
    have lr_x3 := Lib.hid (show ∀ b, MidV u4.heap.size u5.heap.size b → b < u5.heap.size from fun b hb => hb.2)
    replace hd := hd.trans ((hw).mono hd.size)
    replace hl_y1 := Lib.hid (hl_y1.out.to (w' := u5) (T := (MidV u1.heap.size u2.heap.size)) (fun b hb => ⟨hb, (hw).block b (lr_y1.out b hb)⟩))
    replace lr_y1 := Lib.hid (show ∀ b, (MidV u1.heap.size u2.heap.size) b → b < u5.heap.size from fun b hb => Nat.lt_of_lt_of_le (lr_y1.out b hb) (hw).size)
    replace hrow := Lib.hid (own_keep hrow.out (hw))
    replace hRb := Lib.hid (show ∀ b, (Value.slice Aq nq cq).ownBlock = some b → b < u5.heap.size from fun b e => Nat.lt_of_lt_of_le (hRb.out b e) (hw).size)
    clear hw
    (try dsimp only)
    refine hK.out _ _ (HS.out _ hd) (fun hHeld => ?_)
    clear hK K hHeld
    (try simp only [Act.put, List.setIfInBounds_toArray, List.set_cons_zero, List.set_cons_succ])
    clear hrow hNo hRb
    refine wpAnyH_ready (rs := [14]) (by kernel_rfl) (by simp) ?_
    refine consL rfl (fun K hK => ?_) AllReadyH.nil
    go_simp
    refine Calls.mono (l6own_any ⟨k, n, ix, 0, .empty, m_x3⟩ _ u5 (hl_x3.out.to (T := LoV u5.heap.size) (fun b hb => ⟨lr_x3.out b hb, rfl⟩))) ?_
    rintro e u6 ⟨vv, rfl, hvv, hw⟩
    clear hl_x3 lr_x3
    obtain ⟨A_y3, n_y3, c_y3, hve⟩ := hvv.shape
    have hve2 : vv = .agg #[.int .i64 k, .int .i64 n, .int .i64 ix, .int .u64 0, .string ⟨#[]⟩, .slice A_y3 n_y3 c_y3] := hve
    subst hve2
    clear hve
    have hl_y3 := Lib.hid hvv
    clear hvv
    have lr_y3 := Lib.hid (show ∀ b, MidV u5.heap.size u6.heap.size b → b < u6.heap.size from fun b hb => hb.2)
    replace hd := hd.trans ((hw).mono hd.size)
    replace hl_y1 := Lib.hid (hl_y1.out.to (w' := u6) (T := (MidV u1.heap.size u2.heap.size)) (fun b hb => ⟨hb, (hw).block b (lr_y1.out b hb)⟩))
    replace lr_y1 := Lib.hid (show ∀ b, (MidV u1.heap.size u2.heap.size) b → b < u6.heap.size from fun b hb => Nat.lt_of_lt_of_le (lr_y1.out b hb) (hw).size)
    clear hw
    (try dsimp only)
    refine hK.out _ _ (HS.out _ hd) (fun hHeld => ?_)
    clear hK K hHeld
    (try simp only [Act.put, List.setIfInBounds_toArray, List.set_cons_zero, List.set_cons_succ])
    refine wpAnyH_ready (rs := [15]) (by kernel_rfl) (by simp) ?_
    refine consL rfl (fun K hK => ?_) AllReadyH.nil
    go_simp
    have hb_o := Lib.hid (show (u6.alloc (.cells #[.int .i64 k, .int .i64 n, .int .i64 ix, .int .u64 0, .string ⟨#[]⟩, .slice A_y1 n_y1 c_y1, .int .i64 k, .int .i64 n, .int .i64 ix, .int .u64 0, .string ⟨#[]⟩, .slice A_a n_a c_a, .int .i64 k, .int .i64 n, .int .i64 ix, .int .u64 0, .string ⟨#[]⟩, .slice A_y3 n_y3 c_y3] 35)).heap[u6.heap.size]? = some (.cells #[.int .i64 k, .int .i64 n, .int .i64 ix, .int .u64 0, .string ⟨#[]⟩, .slice A_y1 n_y1 c_y1, .int .i64 k, .int .i64 n, .int .i64 ix, .int .u64 0, .string ⟨#[]⟩, .slice A_a n_a c_a, .int .i64 k, .int .i64 n, .int .i64 ix, .int .u64 0, .string ⟨#[]⟩, .slice A_y3 n_y3 c_y3] 35 (0, 0)) from heap_alloc_new u6 _)
    have lt_o : u6.heap.size < (u6.alloc (.cells #[.int .i64 k, .int .i64 n, .int .i64 ix, .int .u64 0, .string ⟨#[]⟩, .slice A_y1 n_y1 c_y1, .int .i64 k, .int .i64 n, .int .i64 ix, .int .u64 0, .string ⟨#[]⟩, .slice A_a n_a c_a, .int .i64 k, .int .i64 n, .int .i64 ix, .int .u64 0, .string ⟨#[]⟩, .slice A_y3 n_y3 c_y3] 35)).heap.size := by simp
    have bo := Lib.hid (show v6.heap.size ≤ u6.heap.size from hd.size)
    replace hd := hd.trans ((((Below.refl u6.heap.size u6).alloc (Nat.le_refl _) (.cells #[.int .i64 k, .int .i64 n, .int .i64 ix, .int .u64 0, .string ⟨#[]⟩, .slice A_y1 n_y1 c_y1, .int .i64 k, .int .i64 n, .int .i64 ix, .int .u64 0, .string ⟨#[]⟩, .slice A_a n_a c_a, .int .i64 k, .int .i64 n, .int .i64 ix, .int .u64 0, .string ⟨#[]⟩, .slice A_y3 n_y3 c_y3] 35))).mono hd.size)
    replace hl_y1 := Lib.hid (hl_y1.out.to (w' := (u6.alloc (.cells #[.int .i64 k, .int .i64 n, .int .i64 ix, .int .u64 0, .string ⟨#[]⟩, .slice A_y1 n_y1 c_y1, .int .i64 k, .int .i64 n, .int .i64 ix, .int .u64 0, .string ⟨#[]⟩, .slice A_a n_a c_a, .int .i64 k, .int .i64 n, .int .i64 ix, .int .u64 0, .string ⟨#[]⟩, .slice A_y3 n_y3 c_y3] 35))) (T := (MidV u1.heap.size u2.heap.size)) (fun b hb => ⟨hb, (((Below.refl u6.heap.size u6).alloc (Nat.le_refl _) (.cells #[.int .i64 k, .int .i64 n, .int .i64 ix, .int .u64 0, .string ⟨#[]⟩, .slice A_y1 n_y1 c_y1, .int .i64 k, .int .i64 n, .int .i64 ix, .int .u64 0, .string ⟨#[]⟩, .slice A_a n_a c_a, .int .i64 k, .int .i64 n, .int .i64 ix, .int .u64 0, .string ⟨#[]⟩, .slice A_y3 n_y3 c_y3] 35))).block b (lr_y1.out b hb)⟩))
    replace lr_y1 := Lib.hid (show ∀ b, (MidV u1.heap.size u2.heap.size) b → b < (u6.alloc (.cells #[.int .i64 k, .int .i64 n, .int .i64 ix, .int .u64 0, .string ⟨#[]⟩, .slice A_y1 n_y1 c_y1, .int .i64 k, .int .i64 n, .int .i64 ix, .int .u64 0, .string ⟨#[]⟩, .slice A_a n_a c_a, .int .i64 k, .int .i64 n, .int .i64 ix, .int .u64 0, .string ⟨#[]⟩, .slice A_y3 n_y3 c_y3] 35)).heap.size from fun b hb => Nat.lt_of_lt_of_le (lr_y1.out b hb) (((Below.refl u6.heap.size u6).alloc (Nat.le_refl _) (.cells #[.int .i64 k, .int .i64 n, .int .i64 ix, .int .u64 0, .string ⟨#[]⟩, .slice A_y1 n_y1 c_y1, .int .i64 k, .int .i64 n, .int .i64 ix, .int .u64 0, .string ⟨#[]⟩, .slice A_a n_a c_a, .int .i64 k, .int .i64 n, .int .i64 ix, .int .u64 0, .string ⟨#[]⟩, .slice A_y3 n_y3 c_y3] 35))).size)
    replace hl_y3 := Lib.hid (hl_y3.out.to (w' := (u6.alloc (.cells #[.int .i64 k, .int .i64 n, .int .i64 ix, .int .u64 0, .string ⟨#[]⟩, .slice A_y1 n_y1 c_y1, .int .i64 k, .int .i64 n, .int .i64 ix, .int .u64 0, .string ⟨#[]⟩, .slice A_a n_a c_a, .int .i64 k, .int .i64 n, .int .i64 ix, .int .u64 0, .string ⟨#[]⟩, .slice A_y3 n_y3 c_y3] 35))) (T := (MidV u5.heap.size u6.heap.size)) (fun b hb => ⟨hb, (((Below.refl u6.heap.size u6).alloc (Nat.le_refl _) (.cells #[.int .i64 k, .int .i64 n, .int .i64 ix, .int .u64 0, .string ⟨#[]⟩, .slice A_y1 n_y1 c_y1, .int .i64 k, .int .i64 n, .int .i64 ix, .int .u64 0, .string ⟨#[]⟩, .slice A_a n_a c_a, .int .i64 k, .int .i64 n, .int .i64 ix, .int .u64 0, .string ⟨#[]⟩, .slice A_y3 n_y3 c_y3] 35))).block b (lr_y3.out b hb)⟩))
    replace lr_y3 := Lib.hid (show ∀ b, (MidV u5.heap.size u6.heap.size) b → b < (u6.alloc (.cells #[.int .i64 k, .int .i64 n, .int .i64 ix, .int .u64 0, .string ⟨#[]⟩, .slice A_y1 n_y1 c_y1, .int .i64 k, .int .i64 n, .int .i64 ix, .int .u64 0, .string ⟨#[]⟩, .slice A_a n_a c_a, .int .i64 k, .int .i64 n, .int .i64 ix, .int .u64 0, .string ⟨#[]⟩, .slice A_y3 n_y3 c_y3] 35)).heap.size from fun b hb => Nat.lt_of_lt_of_le (lr_y3.out b hb) (((Below.refl u6.heap.size u6).alloc (Nat.le_refl _) (.cells #[.int .i64 k, .int .i64 n, .int .i64 ix, .int .u64 0, .string ⟨#[]⟩, .slice A_y1 n_y1 c_y1, .int .i64 k, .int .i64 n, .int .i64 ix, .int .u64 0, .string ⟨#[]⟩, .slice A_a n_a c_a, .int .i64 k, .int .i64 n, .int .i64 ix, .int .u64 0, .string ⟨#[]⟩, .slice A_y3 n_y3 c_y3] 35))).size)
    refine hK.out _ _ (HS.out _ hd) (fun hHeld => ?_)
    clear hK K hHeld
    (try simp only [Act.put, List.setIfInBounds_toArray, List.set_cons_zero, List.set_cons_succ])
    refine wpAnyH_done (by kernel_rfl) ?_ _
    refine lastQ_of rfl (fun K hK => ?_)
    go_simp
    refine hK.out _ _ ?_
    clear hK K
    generalize (u6.alloc (.cells #[.int .i64 k, .int .i64 n, .int .i64 ix, .int .u64 0, .string ⟨#[]⟩, .slice A_y1 n_y1 c_y1, .int .i64 k, .int .i64 n, .int .i64 ix, .int .u64 0, .string ⟨#[]⟩, .slice A_a n_a c_a, .int .i64 k, .int .i64 n, .int .i64 ix, .int .u64 0, .string ⟨#[]⟩, .slice A_y3 n_y3 c_y3] 35)) = W at *
    have hl_a9 := hl_a.out.to (w' := W) (T := LoV W.heap.size) (fun b hb => ⟨Nat.lt_of_lt_of_le (lr_a.out b hb) hd.size, hd.block b (lr_a.out b hb)⟩)
    have hl_y19 := hl_y1.out.to (w' := W) (T := LoV W.heap.size) (fun b hb => ⟨lr_y1.out b hb, rfl⟩)
    have hl_y39 := hl_y3.out.to (w' := W) (T := LoV W.heap.size) (fun b hb => ⟨lr_y3.out b hb, rfl⟩)
    generalize u6.heap.size = B3 at *
    have H3 := Lib.hid (show ∀ (U : World), Below W.heap.size W U → ∀ j : Nat, j < 3 → ∃ A nn c mm, (U.cell? ⟨B3, j * 6, none⟩ = some (.int .i64 k) ∧ U.cell? ⟨B3, j * 6 + 1, none⟩ = some (.int .i64 n) ∧ U.cell? ⟨B3, j * 6 + 2, none⟩ = some (.int .i64 ix) ∧ U.cell? ⟨B3, j * 6 + 3, none⟩ = some (.int .u64 0) ∧ U.cell? ⟨B3, j * 6 + 4, none⟩ = some (.string ⟨#[]⟩) ∧ U.cell? ⟨B3, j * 6 + 5, none⟩ = some (.slice A nn c)) ∧ VaV U (LoV W.heap.size) ⟨k, n, ix, 0, .empty, mm⟩ (.agg #[.int .i64 k, .int .i64 n, .int .i64 ix, .int .u64 0, .string ⟨#[]⟩, .slice A nn c]) ∧ valE ⟨k, n, ix, 0, .empty, mm⟩ = 0 from fun U hU j hj => by
      have hb := (hU.block B3 lt_o).trans hb_o.out
      have h0 : ∀ i : Nat, U.cell? ⟨B3, i, none⟩ = _ := fun i => cell_of_row U B3 i _ _ _ hb
      have mv : ∀ {mm A nn c}, VaV W (LoV W.heap.size) ⟨k, n, ix, 0, .empty, mm⟩ (.agg #[.int .i64 k, .int .i64 n, .int .i64 ix, .int .u64 0, .string ⟨#[]⟩, .slice A nn c]) → VaV U (LoV W.heap.size) ⟨k, n, ix, 0, .empty, mm⟩ (.agg #[.int .i64 k, .int .i64 n, .int .i64 ix, .int .u64 0, .string ⟨#[]⟩, .slice A nn c]) := fun h => h.to (fun b hb => ⟨hb, hU.block b hb⟩)
      rcases (show j = 0 ∨ j = 1 ∨ j = 2 by omega) with rfl | rfl | rfl
      · exact ⟨A_y1, n_y1, c_y1, m_x1, ⟨h0 _, h0 _, h0 _, h0 _, h0 _, h0 _⟩, mv hl_y19, hval_x1.out⟩
      · exact ⟨A_a, n_a, c_a, m, ⟨h0 _, h0 _, h0 _, h0 _, h0 _, h0 _⟩, mv hl_a9, Hval.out⟩
      · exact ⟨A_y3, n_y3, c_y3, m_x3, ⟨h0 _, h0 _, h0 _, h0 _, h0 _, h0 _⟩, mv hl_y39, hval_x3.out⟩)
    have HA := Lib.hid hl_a9
    have HB9 := Lib.hid (hB.trans (hd.mono hB.size))
    have HCR := Lib.hid ((hd.block _ lt_r).trans hb_r.out)
    have HCA := Lib.hid ((hd.block _ lt_a).trans hb_a.out)
    have LR := Lib.hid (show v1.heap.size < W.heap.size from Nat.lt_of_lt_of_le lt_r hd.size)
    have LA := Lib.hid (show v4.heap.size < W.heap.size from Nat.lt_of_lt_of_le lt_a hd.size)
    clear hl_a9 hl_y19 hl_y39 hl_y1 lr_y1 hl_y3 lr_y3 hl_a lr_a hl_r lr_r hb_r hb_a lt_r lt_a hb_o lt_o bo hval_x1 hval_x3 HS hS0 hi0 hz0 hz1 hz2 H1 H2 HC1 HC2 hB hd
    obtain ⟨br, hbr⟩ : ∃ b, b = v1.heap.size := ⟨_, rfl⟩
    obtain ⟨ba, hba⟩ : ∃ b, b = v4.heap.size := ⟨_, rfl⟩
    rw [← hbr] at HCR LR ⊢
    rw [← hba] at HCA LA ⊢
    clear hbr hba
    go_wp2_with fail
    go_loopw [10] (fun a wr => ∃ j : Nat, j ≤ 3 ∧ a = .int .i64 (j : Int) ∧ Below W.heap.size W wr) (fun a _ => 3 - (intOf a).toNat)
    case atStart => exact ⟨0, by decide, rfl, Below.refl _ _⟩
    case round =>
      obtain ⟨j, hj, rfl, hR⟩ := hrel
      by_cases hj3 : j < 3
      · have hji : (j : Int) < 3 := by omega
        obtain ⟨A_b, n_b, c_b, mb, ⟨x0, x1, x2, x3, x4, x5⟩, hvb, hvalb⟩ := H3.out _ hR j hj3
        have HVB := Lib.hid hvb
        have HVAB := Lib.hid hvalb
        clear hvb hvalb
        have hb_a := Lib.hid ((hR.block _ LA.out).trans HCA.out)
        have hb_r := Lib.hid ((hR.block _ LR.out).trans HCR.out)
        have lt_a := Nat.lt_of_lt_of_le LA.out hR.size
        have lt_r := Nat.lt_of_lt_of_le LR.out hR.size
        have hl_a := Lib.hid (HA.out.to (w' := wr) (T := LoV W.heap.size) (fun b hb => ⟨hb, hR.block b hb⟩))
        have lr_a := Lib.hid (show ∀ b, LoV W.heap.size b → b < wr.heap.size from fun b hb => Nat.lt_of_lt_of_le hb hR.size)
        have hl_b := HVB
        have lr_b := lr_a
        have hB := hR
        have bs_b := Lib.hid (show W.heap.size ≤ wr.heap.size from (by have h := hB.size; first | omega | (simp at h; omega)))
        have or_a_b := Lib.hid (show ba < wr.heap.size from (by have h := lt_a; first | omega | (simp at h; omega)))
        have or_r_b := Lib.hid (show br < wr.heap.size from (by have h := lt_r; first | omega | (simp at h; omega)))
        replace hb_a := Lib.hid ((Below.heap_alloc wr (.cells #[.int .i64 k, .int .i64 n, .int .i64 ix, .int .u64 0, .string ⟨#[]⟩, .slice A_b n_b c_b] 35) _ lt_a).trans hb_a.out)
        replace lt_a := Nat.lt_trans lt_a (show wr.heap.size < (wr.alloc (.cells #[.int .i64 k, .int .i64 n, .int .i64 ix, .int .u64 0, .string ⟨#[]⟩, .slice A_b n_b c_b] 35)).heap.size by simp)
        replace hb_r := Lib.hid ((Below.heap_alloc wr (.cells #[.int .i64 k, .int .i64 n, .int .i64 ix, .int .u64 0, .string ⟨#[]⟩, .slice A_b n_b c_b] 35) _ lt_r).trans hb_r.out)
        replace lt_r := Nat.lt_trans lt_r (show wr.heap.size < (wr.alloc (.cells #[.int .i64 k, .int .i64 n, .int .i64 ix, .int .u64 0, .string ⟨#[]⟩, .slice A_b n_b c_b] 35)).heap.size by simp)
        replace hl_a := Lib.hid (hl_a.out.to (w' := (wr.alloc (.cells #[.int .i64 k, .int .i64 n, .int .i64 ix, .int .u64 0, .string ⟨#[]⟩, .slice A_b n_b c_b] 35))) (T := (LoV W.heap.size)) (fun b hb => ⟨hb, Below.heap_alloc wr (.cells #[.int .i64 k, .int .i64 n, .int .i64 ix, .int .u64 0, .string ⟨#[]⟩, .slice A_b n_b c_b] 35) b (lr_a.out b hb)⟩))
        replace lr_a := Lib.hid (show ∀ b, (LoV W.heap.size) b → b < (wr.alloc (.cells #[.int .i64 k, .int .i64 n, .int .i64 ix, .int .u64 0, .string ⟨#[]⟩, .slice A_b n_b c_b] 35)).heap.size from fun b hb => Nat.lt_trans (lr_a.out b hb) (by simp))
        replace hl_b := Lib.hid (hl_b.out.to (w' := (wr.alloc (.cells #[.int .i64 k, .int .i64 n, .int .i64 ix, .int .u64 0, .string ⟨#[]⟩, .slice A_b n_b c_b] 35))) (T := (LoV W.heap.size)) (fun b hb => ⟨hb, Below.heap_alloc wr (.cells #[.int .i64 k, .int .i64 n, .int .i64 ix, .int .u64 0, .string ⟨#[]⟩, .slice A_b n_b c_b] 35) b (lr_b.out b hb)⟩))
        replace lr_b := Lib.hid (show ∀ b, (LoV W.heap.size) b → b < (wr.alloc (.cells #[.int .i64 k, .int .i64 n, .int .i64 ix, .int .u64 0, .string ⟨#[]⟩, .slice A_b n_b c_b] 35)).heap.size from fun b hb => Nat.lt_trans (lr_b.out b hb) (by simp))
        have hb_b := Lib.hid (heap_alloc_new_at wr (.cells #[.int .i64 k, .int .i64 n, .int .i64 ix, .int .u64 0, .string ⟨#[]⟩, .slice A_b n_b c_b] 35) (n := wr.heap.size) (by simp))
        have lt_b : wr.heap.size < (wr.alloc (.cells #[.int .i64 k, .int .i64 n, .int .i64 ix, .int .u64 0, .string ⟨#[]⟩, .slice A_b n_b c_b] 35)).heap.size := by simp
        replace hB := hB.alloc hB.size (.cells #[.int .i64 k, .int .i64 n, .int .i64 ix, .int .u64 0, .string ⟨#[]⟩, .slice A_b n_b c_b] 35)
        obtain ⟨c_a0, c_a1, c_a2, c_a3, c_a4, c_a5⟩ := six hb_a.out
        obtain ⟨f_b0, f_b1, f_b2, f_b3, f_b4, f_b5⟩ := six hb_b.out
        go_wp2_with fail
        clear c_a0 c_a1 c_a2 c_a3 c_a4 c_a5
        clear f_b0 f_b1 f_b2 f_b3 f_b4 f_b5 x0 x1 x2 x3 x4 x5
        generalize (wr.alloc (.cells #[.int .i64 k, .int .i64 n, .int .i64 ix, .int .u64 0, .string ⟨#[]⟩, .slice A_b n_b c_b] 35)) = v2 at *
        have hS := vDiff_any k n ix 0 0 .empty .empty m mb _ _ v2 (hl_a.out.to (T := LoV v2.heap.size) (fun b hb => ⟨lr_a.out b hb, rfl⟩)) (hl_b.out.to (T := LoV v2.heap.size) (fun b hb => ⟨lr_b.out b hb, rfl⟩)) Hval.out HVAB.out (by rcases Hk.out with h | h <;> rw [h] <;> rfl)
        have hdf := dff_arr Hk.out Hval.out HVAB.out hl_a.out.1.2.2.2.1 hl_b.out.1.2.2.2.1
        obtain ⟨d, hdd⟩ : ∃ d, d = dffI m mb := ⟨_, rfl⟩
        rw [← hdd] at hS hdf
        have HDD := Lib.hid hdd
        have HDF := Lib.hid hdf.2.2
        have hd1 := hdf.1
        have hd2 : d < (sz : Int) := by have h1 := hdf.2.1; rw [HGR.out] at h1; omega
        have hgd : decide ((sz : Int) ≤ d) = false := by rw [decide_eq_false_iff_not]; omega
        clear hdd hdf
        refine Calls.mono (hS) ?_
        rintro e v3 ⟨rfl, hw⟩
        replace hb_a := Lib.hid ((hw.block _ lt_a).trans hb_a.out)
        replace lt_a := Nat.lt_of_lt_of_le lt_a hw.size
        replace hb_r := Lib.hid ((hw.block _ lt_r).trans hb_r.out)
        replace lt_r := Nat.lt_of_lt_of_le lt_r hw.size
        replace hb_b := Lib.hid ((hw.block _ lt_b).trans hb_b.out)
        replace lt_b := Nat.lt_of_lt_of_le lt_b hw.size
        replace hl_a := Lib.hid (hl_a.out.to (w' := v3) (T := (LoV W.heap.size)) (fun b hb => ⟨hb, hw.block b (lr_a.out b hb)⟩))
        replace lr_a := Lib.hid (show ∀ b, (LoV W.heap.size) b → b < v3.heap.size from fun b hb => Nat.lt_of_lt_of_le (lr_a.out b hb) hw.size)
        replace hl_b := Lib.hid (hl_b.out.to (w' := v3) (T := (LoV W.heap.size)) (fun b hb => ⟨hb, hw.block b (lr_b.out b hb)⟩))
        replace lr_b := Lib.hid (show ∀ b, (LoV W.heap.size) b → b < v3.heap.size from fun b hb => Nat.lt_of_lt_of_le (lr_b.out b hb) hw.size)
        replace hB := hB.trans (hw.mono hB.size)
        clear hS
        obtain ⟨c_r0, c_r1, c_r2, c_r3, c_r4, c_r5⟩ := six hb_r.out
        go_wp2_with fail
        clear c_r0 c_r1 c_r2 c_r3 c_r4 c_r5
        obtain ⟨wo, rfl⟩ : ∃ wo, wo = wr := ⟨_, rfl⟩
        go_loopw [14, 15] (fun t t2 wr => ∃ z : Nat, z ≤ sz ∧ t = .bool (allE z m mb) ∧ t2 = .int .i64 (z : Int) ∧ Below v3.heap.size v3 wr) (fun _ t2 _ => sz - (intOf t2).toNat)
        case atStart => exact ⟨0, Nat.zero_le _, rfl, rfl, Below.refl _ _⟩
        case round =>
          obtain ⟨z, hz, rfl, rfl, hI⟩ := hrel
          obtain ⟨eq0, heq0⟩ : ∃ q, q = allE z m mb := ⟨_, rfl⟩
          rw [← heq0]
          have HEQ := Lib.hid heq0
          clear heq0
          replace hb_a := Lib.hid ((hI.block _ lt_a).trans hb_a.out)
          replace lt_a := Nat.lt_of_lt_of_le lt_a hI.size
          replace hb_r := Lib.hid ((hI.block _ lt_r).trans hb_r.out)
          replace lt_r := Nat.lt_of_lt_of_le lt_r hI.size
          replace hb_b := Lib.hid ((hI.block _ lt_b).trans hb_b.out)
          replace lt_b := Nat.lt_of_lt_of_le lt_b hI.size
          replace hl_a := Lib.hid (hl_a.out.to (w' := wr) (T := (LoV W.heap.size)) (fun b hb => ⟨hb, hI.block b (lr_a.out b hb)⟩))
          replace lr_a := Lib.hid (show ∀ b, (LoV W.heap.size) b → b < wr.heap.size from fun b hb => Nat.lt_of_lt_of_le (lr_a.out b hb) hI.size)
          replace hl_b := Lib.hid (hl_b.out.to (w' := wr) (T := (LoV W.heap.size)) (fun b hb => ⟨hb, hI.block b (lr_b.out b hb)⟩))
          replace lr_b := Lib.hid (show ∀ b, (LoV W.heap.size) b → b < wr.heap.size from fun b hb => Nat.lt_of_lt_of_le (lr_b.out b hb) hI.size)
          replace hB := hB.trans (hI.mono hB.size)
          by_cases hzs : z < sz
          · have hzi : (z : Int) < (sz : Int) := by omega
            have HIz := Lib.hid (show (z : Int) ≤ grI ix from by rw [HGR.out]; omega)
            have hzw : IntKind.u64.wrap (z : Int) = (z : Int) := IntWalk.u64_in _ (by omega)
            have hJ := hI
            clear hI
            obtain ⟨c_r0, c_r1, c_r2, c_r3, c_r4, c_r5⟩ := six hb_r.out
            obtain ⟨c_a0, c_a1, c_a2, c_a3, c_a4, c_a5⟩ := six hb_a.out
            go_wp2_with fail
            clear c_r0 c_r1 c_r2 c_r3 c_r4 c_r5
            clear c_a0 c_a1 c_a2 c_a3 c_a4 c_a5
            have hf := sel_fine (i := (z : Int)) Hk.out Hval.out (Int.not_lt.2 HIz.out)
            have hS := vSelect_any ⟨k, n, ix, 0, .empty, m⟩ _ (z : Int) wr (hl_a.out.to (T := LoV wr.heap.size) (fun b hb => ⟨lr_a.out b hb, rfl⟩))
            rw [hf.1, hf.2.1] at hS
            obtain ⟨u_p, huo⟩ : ∃ u, u = (atE (z : Int) m).u := ⟨_, rfl⟩
            obtain ⟨s_p, hso⟩ : ∃ s, s = (atE (z : Int) m).s := ⟨_, rfl⟩
            rw [← huo, ← hso] at hS
            have HUp := Lib.hid (And.intro huo hso)
            simp only [vav] at hS
            rw [← HE.out] at hS
            have hmok := hl_a.out.1.2.2.2.1
            simp only at hmok
            have hoo := at_ok hmok (z : Int)
            rw [← huo, ← hso] at hoo
            have HOp := Lib.hid (el_ok (sort_i64 HES.out) hoo)
            clear hmok hoo huo hso hf
            refine Calls.mono (hS) ?_
            rintro e v4 ⟨rfl, hw⟩
            replace hb_a := Lib.hid ((hw.block _ lt_a).trans hb_a.out)
            replace lt_a := Nat.lt_of_lt_of_le lt_a hw.size
            replace hb_r := Lib.hid ((hw.block _ lt_r).trans hb_r.out)
            replace lt_r := Nat.lt_of_lt_of_le lt_r hw.size
            replace hb_b := Lib.hid ((hw.block _ lt_b).trans hb_b.out)
            replace lt_b := Nat.lt_of_lt_of_le lt_b hw.size
            replace hl_a := Lib.hid (hl_a.out.to (w' := v4) (T := (LoV W.heap.size)) (fun b hb => ⟨hb, hw.block b (lr_a.out b hb)⟩))
            replace lr_a := Lib.hid (show ∀ b, (LoV W.heap.size) b → b < v4.heap.size from fun b hb => Nat.lt_of_lt_of_le (lr_a.out b hb) hw.size)
            replace hl_b := Lib.hid (hl_b.out.to (w' := v4) (T := (LoV W.heap.size)) (fun b hb => ⟨hb, hw.block b (lr_b.out b hb)⟩))
            replace lr_b := Lib.hid (show ∀ b, (LoV W.heap.size) b → b < v4.heap.size from fun b hb => Nat.lt_of_lt_of_le (lr_b.out b hb) hw.size)
            replace hB := hB.trans (hw.mono hB.size)
            replace hJ := hJ.trans (hw.mono hJ.size)
            clear hS
            have bs_p := Lib.hid (show W.heap.size ≤ v4.heap.size from (by have h := hB.size; first | omega | (simp at h; omega)))
            have or_a_p := Lib.hid (show ba < v4.heap.size from (by have h := lt_a; first | omega | (simp at h; omega)))
            have or_r_p := Lib.hid (show br < v4.heap.size from (by have h := lt_r; first | omega | (simp at h; omega)))
            have or_b_p := Lib.hid (show wo.heap.size < v4.heap.size from (by have h := lt_b; first | omega | (simp at h; omega)))
            replace hb_a := Lib.hid ((Below.heap_alloc v4 (.cells #[.int .i64 e, .int .i64 n, .int .i64 0, .int .u64 u_p, .string s_p, .slice none 0 0] 35) _ lt_a).trans hb_a.out)
            replace lt_a := Nat.lt_trans lt_a (show v4.heap.size < (v4.alloc (.cells #[.int .i64 e, .int .i64 n, .int .i64 0, .int .u64 u_p, .string s_p, .slice none 0 0] 35)).heap.size by simp)
            replace hb_r := Lib.hid ((Below.heap_alloc v4 (.cells #[.int .i64 e, .int .i64 n, .int .i64 0, .int .u64 u_p, .string s_p, .slice none 0 0] 35) _ lt_r).trans hb_r.out)
            replace lt_r := Nat.lt_trans lt_r (show v4.heap.size < (v4.alloc (.cells #[.int .i64 e, .int .i64 n, .int .i64 0, .int .u64 u_p, .string s_p, .slice none 0 0] 35)).heap.size by simp)
            replace hb_b := Lib.hid ((Below.heap_alloc v4 (.cells #[.int .i64 e, .int .i64 n, .int .i64 0, .int .u64 u_p, .string s_p, .slice none 0 0] 35) _ lt_b).trans hb_b.out)
            replace lt_b := Nat.lt_trans lt_b (show v4.heap.size < (v4.alloc (.cells #[.int .i64 e, .int .i64 n, .int .i64 0, .int .u64 u_p, .string s_p, .slice none 0 0] 35)).heap.size by simp)
            replace hl_a := Lib.hid (hl_a.out.to (w' := (v4.alloc (.cells #[.int .i64 e, .int .i64 n, .int .i64 0, .int .u64 u_p, .string s_p, .slice none 0 0] 35))) (T := (LoV W.heap.size)) (fun b hb => ⟨hb, Below.heap_alloc v4 (.cells #[.int .i64 e, .int .i64 n, .int .i64 0, .int .u64 u_p, .string s_p, .slice none 0 0] 35) b (lr_a.out b hb)⟩))
            replace lr_a := Lib.hid (show ∀ b, (LoV W.heap.size) b → b < (v4.alloc (.cells #[.int .i64 e, .int .i64 n, .int .i64 0, .int .u64 u_p, .string s_p, .slice none 0 0] 35)).heap.size from fun b hb => Nat.lt_trans (lr_a.out b hb) (by simp))
            replace hl_b := Lib.hid (hl_b.out.to (w' := (v4.alloc (.cells #[.int .i64 e, .int .i64 n, .int .i64 0, .int .u64 u_p, .string s_p, .slice none 0 0] 35))) (T := (LoV W.heap.size)) (fun b hb => ⟨hb, Below.heap_alloc v4 (.cells #[.int .i64 e, .int .i64 n, .int .i64 0, .int .u64 u_p, .string s_p, .slice none 0 0] 35) b (lr_b.out b hb)⟩))
            replace lr_b := Lib.hid (show ∀ b, (LoV W.heap.size) b → b < (v4.alloc (.cells #[.int .i64 e, .int .i64 n, .int .i64 0, .int .u64 u_p, .string s_p, .slice none 0 0] 35)).heap.size from fun b hb => Nat.lt_trans (lr_b.out b hb) (by simp))
            have hb_p := Lib.hid (heap_alloc_new_at v4 (.cells #[.int .i64 e, .int .i64 n, .int .i64 0, .int .u64 u_p, .string s_p, .slice none 0 0] 35) (n := v4.heap.size) (by simp))
            have lt_p : v4.heap.size < (v4.alloc (.cells #[.int .i64 e, .int .i64 n, .int .i64 0, .int .u64 u_p, .string s_p, .slice none 0 0] 35)).heap.size := by simp
            replace hB := hB.alloc hB.size (.cells #[.int .i64 e, .int .i64 n, .int .i64 0, .int .u64 u_p, .string s_p, .slice none 0 0] 35)
            replace hJ := hJ.alloc hJ.size (.cells #[.int .i64 e, .int .i64 n, .int .i64 0, .int .u64 u_p, .string s_p, .slice none 0 0] 35)
            obtain ⟨c_p0, c_p1, c_p2, c_p3, c_p4, c_p5⟩ := six hb_p.out
            obtain ⟨c_b0, c_b1, c_b2, c_b3, c_b4, c_b5⟩ := six hb_b.out
            go_wp2_with fail
            clear c_p0 c_p1 c_p2 c_p3 c_p4 c_p5
            clear c_b0 c_b1 c_b2 c_b3 c_b4 c_b5
            generalize (v4.alloc (.cells #[.int .i64 e, .int .i64 n, .int .i64 0, .int .u64 u_p, .string s_p, .slice none 0 0] 35)) = v6 at *
            have hf := sel_fine (i := (z : Int)) Hk.out HVAB.out (Int.not_lt.2 HIz.out)
            have hS := vSelect_any ⟨k, n, ix, 0, .empty, mb⟩ _ (z : Int) v6 (hl_b.out.to (T := LoV v6.heap.size) (fun b hb => ⟨lr_b.out b hb, rfl⟩))
            rw [hf.1, hf.2.1] at hS
            obtain ⟨u_q, huo⟩ : ∃ u, u = (atE (z : Int) mb).u := ⟨_, rfl⟩
            obtain ⟨s_q, hso⟩ : ∃ s, s = (atE (z : Int) mb).s := ⟨_, rfl⟩
            rw [← huo, ← hso] at hS
            have HUq := Lib.hid (And.intro huo hso)
            simp only [vav] at hS
            rw [← HE.out] at hS
            have hmok := hl_b.out.1.2.2.2.1
            simp only at hmok
            have hoo := at_ok hmok (z : Int)
            rw [← huo, ← hso] at hoo
            have HOq := Lib.hid (el_ok (sort_i64 HES.out) hoo)
            clear hmok hoo huo hso hf
            refine Calls.mono (hS) ?_
            rintro e v7 ⟨rfl, hw⟩
            replace hb_a := Lib.hid ((hw.block _ lt_a).trans hb_a.out)
            replace lt_a := Nat.lt_of_lt_of_le lt_a hw.size
            replace hb_r := Lib.hid ((hw.block _ lt_r).trans hb_r.out)
            replace lt_r := Nat.lt_of_lt_of_le lt_r hw.size
            replace hb_b := Lib.hid ((hw.block _ lt_b).trans hb_b.out)
            replace lt_b := Nat.lt_of_lt_of_le lt_b hw.size
            replace hb_p := Lib.hid ((hw.block _ lt_p).trans hb_p.out)
            replace lt_p := Nat.lt_of_lt_of_le lt_p hw.size
            replace hl_a := Lib.hid (hl_a.out.to (w' := v7) (T := (LoV W.heap.size)) (fun b hb => ⟨hb, hw.block b (lr_a.out b hb)⟩))
            replace lr_a := Lib.hid (show ∀ b, (LoV W.heap.size) b → b < v7.heap.size from fun b hb => Nat.lt_of_lt_of_le (lr_a.out b hb) hw.size)
            replace hl_b := Lib.hid (hl_b.out.to (w' := v7) (T := (LoV W.heap.size)) (fun b hb => ⟨hb, hw.block b (lr_b.out b hb)⟩))
            replace lr_b := Lib.hid (show ∀ b, (LoV W.heap.size) b → b < v7.heap.size from fun b hb => Nat.lt_of_lt_of_le (lr_b.out b hb) hw.size)
            replace hB := hB.trans (hw.mono hB.size)
            replace hJ := hJ.trans (hw.mono hJ.size)
            clear hS
            have bs_q := Lib.hid (show W.heap.size ≤ v7.heap.size from (by have h := hB.size; first | omega | (simp at h; omega)))
            have or_a_q := Lib.hid (show ba < v7.heap.size from (by have h := lt_a; first | omega | (simp at h; omega)))
            have or_r_q := Lib.hid (show br < v7.heap.size from (by have h := lt_r; first | omega | (simp at h; omega)))
            have or_b_q := Lib.hid (show wo.heap.size < v7.heap.size from (by have h := lt_b; first | omega | (simp at h; omega)))
            have or_p_q := Lib.hid (show v4.heap.size < v7.heap.size from (by have h := lt_p; first | omega | (simp at h; omega)))
            replace hb_a := Lib.hid ((Below.heap_alloc v7 (.cells #[.int .i64 e, .int .i64 n, .int .i64 0, .int .u64 u_q, .string s_q, .slice none 0 0] 35) _ lt_a).trans hb_a.out)
            replace lt_a := Nat.lt_trans lt_a (show v7.heap.size < (v7.alloc (.cells #[.int .i64 e, .int .i64 n, .int .i64 0, .int .u64 u_q, .string s_q, .slice none 0 0] 35)).heap.size by simp)
            replace hb_r := Lib.hid ((Below.heap_alloc v7 (.cells #[.int .i64 e, .int .i64 n, .int .i64 0, .int .u64 u_q, .string s_q, .slice none 0 0] 35) _ lt_r).trans hb_r.out)
            replace lt_r := Nat.lt_trans lt_r (show v7.heap.size < (v7.alloc (.cells #[.int .i64 e, .int .i64 n, .int .i64 0, .int .u64 u_q, .string s_q, .slice none 0 0] 35)).heap.size by simp)
            replace hb_b := Lib.hid ((Below.heap_alloc v7 (.cells #[.int .i64 e, .int .i64 n, .int .i64 0, .int .u64 u_q, .string s_q, .slice none 0 0] 35) _ lt_b).trans hb_b.out)
            replace lt_b := Nat.lt_trans lt_b (show v7.heap.size < (v7.alloc (.cells #[.int .i64 e, .int .i64 n, .int .i64 0, .int .u64 u_q, .string s_q, .slice none 0 0] 35)).heap.size by simp)
            replace hb_p := Lib.hid ((Below.heap_alloc v7 (.cells #[.int .i64 e, .int .i64 n, .int .i64 0, .int .u64 u_q, .string s_q, .slice none 0 0] 35) _ lt_p).trans hb_p.out)
            replace lt_p := Nat.lt_trans lt_p (show v7.heap.size < (v7.alloc (.cells #[.int .i64 e, .int .i64 n, .int .i64 0, .int .u64 u_q, .string s_q, .slice none 0 0] 35)).heap.size by simp)
            replace hl_a := Lib.hid (hl_a.out.to (w' := (v7.alloc (.cells #[.int .i64 e, .int .i64 n, .int .i64 0, .int .u64 u_q, .string s_q, .slice none 0 0] 35))) (T := (LoV W.heap.size)) (fun b hb => ⟨hb, Below.heap_alloc v7 (.cells #[.int .i64 e, .int .i64 n, .int .i64 0, .int .u64 u_q, .string s_q, .slice none 0 0] 35) b (lr_a.out b hb)⟩))
            replace lr_a := Lib.hid (show ∀ b, (LoV W.heap.size) b → b < (v7.alloc (.cells #[.int .i64 e, .int .i64 n, .int .i64 0, .int .u64 u_q, .string s_q, .slice none 0 0] 35)).heap.size from fun b hb => Nat.lt_trans (lr_a.out b hb) (by simp))
            replace hl_b := Lib.hid (hl_b.out.to (w' := (v7.alloc (.cells #[.int .i64 e, .int .i64 n, .int .i64 0, .int .u64 u_q, .string s_q, .slice none 0 0] 35))) (T := (LoV W.heap.size)) (fun b hb => ⟨hb, Below.heap_alloc v7 (.cells #[.int .i64 e, .int .i64 n, .int .i64 0, .int .u64 u_q, .string s_q, .slice none 0 0] 35) b (lr_b.out b hb)⟩))
            replace lr_b := Lib.hid (show ∀ b, (LoV W.heap.size) b → b < (v7.alloc (.cells #[.int .i64 e, .int .i64 n, .int .i64 0, .int .u64 u_q, .string s_q, .slice none 0 0] 35)).heap.size from fun b hb => Nat.lt_trans (lr_b.out b hb) (by simp))
            have hb_q := Lib.hid (heap_alloc_new_at v7 (.cells #[.int .i64 e, .int .i64 n, .int .i64 0, .int .u64 u_q, .string s_q, .slice none 0 0] 35) (n := v7.heap.size) (by simp))
            have lt_q : v7.heap.size < (v7.alloc (.cells #[.int .i64 e, .int .i64 n, .int .i64 0, .int .u64 u_q, .string s_q, .slice none 0 0] 35)).heap.size := by simp
            replace hB := hB.alloc hB.size (.cells #[.int .i64 e, .int .i64 n, .int .i64 0, .int .u64 u_q, .string s_q, .slice none 0 0] 35)
            replace hJ := hJ.alloc hJ.size (.cells #[.int .i64 e, .int .i64 n, .int .i64 0, .int .u64 u_q, .string s_q, .slice none 0 0] 35)
            obtain ⟨c_p0, c_p1, c_p2, c_p3, c_p4, c_p5⟩ := six hb_p.out
            obtain ⟨c_q0, c_q1, c_q2, c_q3, c_q4, c_q5⟩ := six hb_q.out
            go_wp2_with fail
            clear c_p0 c_p1 c_p2 c_p3 c_p4 c_p5
            clear c_q0 c_q1 c_q2 c_q3 c_q4 c_q5
            generalize (v7.alloc (.cells #[.int .i64 e, .int .i64 n, .int .i64 0, .int .u64 u_q, .string s_q, .slice none 0 0] 35)) = v9 at *
            have hS := vCompare_any ⟨e, n, 0, u_p, s_p, []⟩ ⟨e, n, 0, u_q, s_q, []⟩ _ _ v9 (elVal HOp.out) (elVal HOq.out)
            obtain ⟨cv, hcv⟩ : ∃ c, c = vaCmp ⟨e, n, 0, u_p, s_p, []⟩ ⟨e, n, 0, u_q, s_q, []⟩ := ⟨_, rfl⟩
            rw [← hcv] at hS
            obtain ⟨sm, hsm0⟩ : ∃ q, q = sameE (z : Int) m mb := ⟨_, rfl⟩
            have hsm : (cv == 0) = sm := by
              rw [hcv, HUp.out.1, HUp.out.2, HUq.out.1, HUq.out.2, hsm0]
              exact cmp_same e n (z : Int) m mb
            have HSM := Lib.hid hsm0
            clear hcv hsm0
            refine Calls.mono (hS) ?_
            rintro e v10 ⟨rfl, hw⟩
            replace hb_a := Lib.hid ((hw.block _ lt_a).trans hb_a.out)
            replace lt_a := Nat.lt_of_lt_of_le lt_a hw.size
            replace hb_r := Lib.hid ((hw.block _ lt_r).trans hb_r.out)
            replace lt_r := Nat.lt_of_lt_of_le lt_r hw.size
            replace hb_b := Lib.hid ((hw.block _ lt_b).trans hb_b.out)
            replace lt_b := Nat.lt_of_lt_of_le lt_b hw.size
            replace hb_p := Lib.hid ((hw.block _ lt_p).trans hb_p.out)
            replace lt_p := Nat.lt_of_lt_of_le lt_p hw.size
            replace hb_q := Lib.hid ((hw.block _ lt_q).trans hb_q.out)
            replace lt_q := Nat.lt_of_lt_of_le lt_q hw.size
            replace hl_a := Lib.hid (hl_a.out.to (w' := v10) (T := (LoV W.heap.size)) (fun b hb => ⟨hb, hw.block b (lr_a.out b hb)⟩))
            replace lr_a := Lib.hid (show ∀ b, (LoV W.heap.size) b → b < v10.heap.size from fun b hb => Nat.lt_of_lt_of_le (lr_a.out b hb) hw.size)
            replace hl_b := Lib.hid (hl_b.out.to (w' := v10) (T := (LoV W.heap.size)) (fun b hb => ⟨hb, hw.block b (lr_b.out b hb)⟩))
            replace lr_b := Lib.hid (show ∀ b, (LoV W.heap.size) b → b < v10.heap.size from fun b hb => Nat.lt_of_lt_of_le (lr_b.out b hb) hw.size)
            replace hB := hB.trans (hw.mono hB.size)
            replace hJ := hJ.trans (hw.mono hJ.size)
            clear hS
            rcases Int.lt_trichotomy (z : Int) d with hzd | hzd | hzd
            · skip
              have g1 : decide ((z : Int) < d) = true := decide_eq_true hzd
              have g2 : ((z : Int) == d) = false := by rw [beq_eq_false_iff_ne]; omega
              obtain rfl : sm = true := by rw [HSM.out]; exact same_low (by rw [← HDD.out]; exact hzd)
              replace hzd := Lib.hid hzd
              cases eq0
              · skip
                go_wp2_with fail
                go_roundw
                case rel => exact ⟨z + 1, by omega, by rw [allE_succ, ← HEQ.out, ← HSM.out]; rfl, by go_num, hJ⟩
                case measure => simp [intOf]; omega
              · skip
                go_wp2_with fail
                go_roundw
                case rel => exact ⟨z + 1, by omega, by rw [allE_succ, ← HEQ.out, ← HSM.out]; rfl, by go_num, hJ⟩
                case measure => simp [intOf]; omega
            · skip
              have g1 : decide ((z : Int) < d) = false := by rw [decide_eq_false_iff_not]; omega
              have g2 : ((z : Int) == d) = true := by rw [beq_iff_eq]; exact hzd
              have hes := Lib.hid (show eqA k n ix m mb = sm from by
                rw [Bool.eq_iff_iff, eqA_iff, HSM.out, hzd, HDF.out])
              replace hzd := Lib.hid hzd
              cases sm
              · skip
                obtain ⟨c_a0, c_a1, c_a2, c_a3, c_a4, c_a5⟩ := six hb_a.out
                obtain ⟨c_b0, c_b1, c_b2, c_b3, c_b4, c_b5⟩ := six hb_b.out
                go_wp2_with fail
                clear c_a0 c_a1 c_a2 c_a3 c_a4 c_a5
                clear c_b0 c_b1 c_b2 c_b3 c_b4 c_b5
                have hS := vCompare_any ⟨k, n, ix, 0, .empty, m⟩ ⟨k, n, ix, 0, .empty, mb⟩ _ _ v10 (hl_a.out.to (T := LoV v10.heap.size) (fun b hb => ⟨lr_a.out b hb, rfl⟩)) (hl_b.out.to (T := LoV v10.heap.size) (fun b hb => ⟨lr_b.out b hb, rfl⟩))
                obtain ⟨ce, hce⟩ : ∃ c, c = vaCmp ⟨k, n, ix, 0, .empty, m⟩ ⟨k, n, ix, 0, .empty, mb⟩ := ⟨_, rfl⟩
                rw [← hce] at hS
                have hem : (ce == 0) = false := by rw [hce]; exact hes.out
                have HCE := Lib.hid hce
                clear hce
                refine Calls.mono (hS) ?_
                rintro e v11 ⟨rfl, hw⟩
                replace hb_a := Lib.hid ((hw.block _ lt_a).trans hb_a.out)
                replace lt_a := Nat.lt_of_lt_of_le lt_a hw.size
                replace hb_r := Lib.hid ((hw.block _ lt_r).trans hb_r.out)
                replace lt_r := Nat.lt_of_lt_of_le lt_r hw.size
                replace hb_b := Lib.hid ((hw.block _ lt_b).trans hb_b.out)
                replace lt_b := Nat.lt_of_lt_of_le lt_b hw.size
                replace hb_p := Lib.hid ((hw.block _ lt_p).trans hb_p.out)
                replace lt_p := Nat.lt_of_lt_of_le lt_p hw.size
                replace hb_q := Lib.hid ((hw.block _ lt_q).trans hb_q.out)
                replace lt_q := Nat.lt_of_lt_of_le lt_q hw.size
                replace hl_a := Lib.hid (hl_a.out.to (w' := v11) (T := (LoV W.heap.size)) (fun b hb => ⟨hb, hw.block b (lr_a.out b hb)⟩))
                replace lr_a := Lib.hid (show ∀ b, (LoV W.heap.size) b → b < v11.heap.size from fun b hb => Nat.lt_of_lt_of_le (lr_a.out b hb) hw.size)
                replace hl_b := Lib.hid (hl_b.out.to (w' := v11) (T := (LoV W.heap.size)) (fun b hb => ⟨hb, hw.block b (lr_b.out b hb)⟩))
                replace lr_b := Lib.hid (show ∀ b, (LoV W.heap.size) b → b < v11.heap.size from fun b hb => Nat.lt_of_lt_of_le (lr_b.out b hb) hw.size)
                replace hB := hB.trans (hw.mono hB.size)
                replace hJ := hJ.trans (hw.mono hJ.size)
                clear hS
                cases eq0
                · skip
                  go_wp2_with fail
                  go_roundw
                  case rel => exact ⟨z + 1, by omega, by rw [allE_succ, ← HEQ.out, ← HSM.out]; rfl, by go_num, hJ⟩
                  case measure => simp [intOf]; omega
                · skip
                  go_wp2_with fail
                  go_roundw
                  case rel => exact ⟨z + 1, by omega, by rw [allE_succ, ← HEQ.out, ← HSM.out]; rfl, by go_num, hJ⟩
                  case measure => simp [intOf]; omega
              · skip
                obtain ⟨c_a0, c_a1, c_a2, c_a3, c_a4, c_a5⟩ := six hb_a.out
                obtain ⟨c_b0, c_b1, c_b2, c_b3, c_b4, c_b5⟩ := six hb_b.out
                go_wp2_with fail
                clear c_a0 c_a1 c_a2 c_a3 c_a4 c_a5
                clear c_b0 c_b1 c_b2 c_b3 c_b4 c_b5
                have hS := vCompare_any ⟨k, n, ix, 0, .empty, m⟩ ⟨k, n, ix, 0, .empty, mb⟩ _ _ v10 (hl_a.out.to (T := LoV v10.heap.size) (fun b hb => ⟨lr_a.out b hb, rfl⟩)) (hl_b.out.to (T := LoV v10.heap.size) (fun b hb => ⟨lr_b.out b hb, rfl⟩))
                obtain ⟨ce, hce⟩ : ∃ c, c = vaCmp ⟨k, n, ix, 0, .empty, m⟩ ⟨k, n, ix, 0, .empty, mb⟩ := ⟨_, rfl⟩
                rw [← hce] at hS
                have hem : (ce == 0) = true := by rw [hce]; exact hes.out
                have HCE := Lib.hid hce
                clear hce
                refine Calls.mono (hS) ?_
                rintro e v11 ⟨rfl, hw⟩
                replace hb_a := Lib.hid ((hw.block _ lt_a).trans hb_a.out)
                replace lt_a := Nat.lt_of_lt_of_le lt_a hw.size
                replace hb_r := Lib.hid ((hw.block _ lt_r).trans hb_r.out)
                replace lt_r := Nat.lt_of_lt_of_le lt_r hw.size
                replace hb_b := Lib.hid ((hw.block _ lt_b).trans hb_b.out)
                replace lt_b := Nat.lt_of_lt_of_le lt_b hw.size
                replace hb_p := Lib.hid ((hw.block _ lt_p).trans hb_p.out)
                replace lt_p := Nat.lt_of_lt_of_le lt_p hw.size
                replace hb_q := Lib.hid ((hw.block _ lt_q).trans hb_q.out)
                replace lt_q := Nat.lt_of_lt_of_le lt_q hw.size
                replace hl_a := Lib.hid (hl_a.out.to (w' := v11) (T := (LoV W.heap.size)) (fun b hb => ⟨hb, hw.block b (lr_a.out b hb)⟩))
                replace lr_a := Lib.hid (show ∀ b, (LoV W.heap.size) b → b < v11.heap.size from fun b hb => Nat.lt_of_lt_of_le (lr_a.out b hb) hw.size)
                replace hl_b := Lib.hid (hl_b.out.to (w' := v11) (T := (LoV W.heap.size)) (fun b hb => ⟨hb, hw.block b (lr_b.out b hb)⟩))
                replace lr_b := Lib.hid (show ∀ b, (LoV W.heap.size) b → b < v11.heap.size from fun b hb => Nat.lt_of_lt_of_le (lr_b.out b hb) hw.size)
                replace hB := hB.trans (hw.mono hB.size)
                replace hJ := hJ.trans (hw.mono hJ.size)
                clear hS
                cases eq0
                · skip
                  go_wp2_with fail
                  go_roundw
                  case rel => exact ⟨z + 1, by omega, by rw [allE_succ, ← HEQ.out, ← HSM.out]; rfl, by go_num, hJ⟩
                  case measure => simp [intOf]; omega
                · skip
                  go_wp2_with fail
                  go_roundw
                  case rel => exact ⟨z + 1, by omega, by rw [allE_succ, ← HEQ.out, ← HSM.out]; rfl, by go_num, hJ⟩
                  case measure => simp [intOf]; omega
            · skip
              have g1 : decide ((z : Int) < d) = false := by rw [decide_eq_false_iff_not]; omega
              have g2 : ((z : Int) == d) = false := by rw [beq_eq_false_iff_ne]; omega
              replace hzd := Lib.hid hzd
              cases sm
              · skip
                cases eq0
                · skip
                  go_wp2_with fail
                  go_roundw
                  case rel => exact ⟨z + 1, by omega, by rw [allE_succ, ← HEQ.out, ← HSM.out]; rfl, by go_num, hJ⟩
                  case measure => simp [intOf]; omega
                · skip
                  go_wp2_with fail
                  go_roundw
                  case rel => exact ⟨z + 1, by omega, by rw [allE_succ, ← HEQ.out, ← HSM.out]; rfl, by go_num, hJ⟩
                  case measure => simp [intOf]; omega
              · skip
                cases eq0
                · skip
                  go_wp2_with fail
                  go_roundw
                  case rel => exact ⟨z + 1, by omega, by rw [allE_succ, ← HEQ.out, ← HSM.out]; rfl, by go_num, hJ⟩
                  case measure => simp [intOf]; omega
                · skip
                  go_wp2_with fail
                  go_roundw
                  case rel => exact ⟨z + 1, by omega, by rw [allE_succ, ← HEQ.out, ← HSM.out]; rfl, by go_num, hJ⟩
                  case measure => simp [intOf]; omega
          · have hzi : ¬ (z : Int) < (sz : Int) := by omega
            have hes := Lib.hid (show eqA k n ix m mb = eq0 from by
              obtain rfl : z = sz := by omega
              rw [Bool.eq_iff_iff, eqA_iff, HEQ.out, allE_all Hk.out Hval.out HVAB.out hl_a.out.1.2.2.2.1 hl_b.out.1.2.2.2.1 HGR.out])
            obtain ⟨c_a0, c_a1, c_a2, c_a3, c_a4, c_a5⟩ := six hb_a.out
            obtain ⟨c_b0, c_b1, c_b2, c_b3, c_b4, c_b5⟩ := six hb_b.out
            obtain ⟨c_r0, c_r1, c_r2, c_r3, c_r4, c_r5⟩ := six hb_r.out
            go_wp2_with fail
            clear c_a0 c_a1 c_a2 c_a3 c_a4 c_a5
            clear c_b0 c_b1 c_b2 c_b3 c_b4 c_b5
            clear c_r0 c_r1 c_r2 c_r3 c_r4 c_r5
            cases eq0
            · skip
              have hS := vCompare_any ⟨k, n, ix, 0, .empty, m⟩ ⟨k, n, ix, 0, .empty, mb⟩ _ _ wr (hl_a.out.to (T := LoV wr.heap.size) (fun b hb => ⟨lr_a.out b hb, rfl⟩)) (hl_b.out.to (T := LoV wr.heap.size) (fun b hb => ⟨lr_b.out b hb, rfl⟩))
              obtain ⟨ce, hce⟩ : ∃ c, c = vaCmp ⟨k, n, ix, 0, .empty, m⟩ ⟨k, n, ix, 0, .empty, mb⟩ := ⟨_, rfl⟩
              rw [← hce] at hS
              have hem : (ce == 0) = false := by rw [hce]; exact hes.out
              have HCE := Lib.hid hce
              clear hce
              refine Calls.mono (hS) ?_
              rintro e v4 ⟨rfl, hw⟩
              replace hb_a := Lib.hid ((hw.block _ lt_a).trans hb_a.out)
              replace lt_a := Nat.lt_of_lt_of_le lt_a hw.size
              replace hb_r := Lib.hid ((hw.block _ lt_r).trans hb_r.out)
              replace lt_r := Nat.lt_of_lt_of_le lt_r hw.size
              replace hb_b := Lib.hid ((hw.block _ lt_b).trans hb_b.out)
              replace lt_b := Nat.lt_of_lt_of_le lt_b hw.size
              replace hl_a := Lib.hid (hl_a.out.to (w' := v4) (T := (LoV W.heap.size)) (fun b hb => ⟨hb, hw.block b (lr_a.out b hb)⟩))
              replace lr_a := Lib.hid (show ∀ b, (LoV W.heap.size) b → b < v4.heap.size from fun b hb => Nat.lt_of_lt_of_le (lr_a.out b hb) hw.size)
              replace hl_b := Lib.hid (hl_b.out.to (w' := v4) (T := (LoV W.heap.size)) (fun b hb => ⟨hb, hw.block b (lr_b.out b hb)⟩))
              replace lr_b := Lib.hid (show ∀ b, (LoV W.heap.size) b → b < v4.heap.size from fun b hb => Nat.lt_of_lt_of_le (lr_b.out b hb) hw.size)
              replace hB := hB.trans (hw.mono hB.size)
              clear hS
              go_wp2_with fail
              go_roundw
              case rel => exact ⟨j + 1, by omega, by go_num, hB⟩
              case measure => simp [intOf]; omega
            · skip
              have hS := vCompare_any ⟨k, n, ix, 0, .empty, m⟩ ⟨k, n, ix, 0, .empty, mb⟩ _ _ wr (hl_a.out.to (T := LoV wr.heap.size) (fun b hb => ⟨lr_a.out b hb, rfl⟩)) (hl_b.out.to (T := LoV wr.heap.size) (fun b hb => ⟨lr_b.out b hb, rfl⟩))
              obtain ⟨ce, hce⟩ : ∃ c, c = vaCmp ⟨k, n, ix, 0, .empty, m⟩ ⟨k, n, ix, 0, .empty, mb⟩ := ⟨_, rfl⟩
              rw [← hce] at hS
              have hem : (ce == 0) = true := by rw [hce]; exact hes.out
              have HCE := Lib.hid hce
              clear hce
              refine Calls.mono (hS) ?_
              rintro e v4 ⟨rfl, hw⟩
              replace hb_a := Lib.hid ((hw.block _ lt_a).trans hb_a.out)
              replace lt_a := Nat.lt_of_lt_of_le lt_a hw.size
              replace hb_r := Lib.hid ((hw.block _ lt_r).trans hb_r.out)
              replace lt_r := Nat.lt_of_lt_of_le lt_r hw.size
              replace hb_b := Lib.hid ((hw.block _ lt_b).trans hb_b.out)
              replace lt_b := Nat.lt_of_lt_of_le lt_b hw.size
              replace hl_a := Lib.hid (hl_a.out.to (w' := v4) (T := (LoV W.heap.size)) (fun b hb => ⟨hb, hw.block b (lr_a.out b hb)⟩))
              replace lr_a := Lib.hid (show ∀ b, (LoV W.heap.size) b → b < v4.heap.size from fun b hb => Nat.lt_of_lt_of_le (lr_a.out b hb) hw.size)
              replace hl_b := Lib.hid (hl_b.out.to (w' := v4) (T := (LoV W.heap.size)) (fun b hb => ⟨hb, hw.block b (lr_b.out b hb)⟩))
              replace lr_b := Lib.hid (show ∀ b, (LoV W.heap.size) b → b < v4.heap.size from fun b hb => Nat.lt_of_lt_of_le (lr_b.out b hb) hw.size)
              replace hB := hB.trans (hw.mono hB.size)
              clear hS
              go_wp2_with fail
              go_roundw
              case rel => exact ⟨j + 1, by omega, by go_num, hB⟩
              case measure => simp [intOf]; omega
      · have hji : ¬ (j : Int) < 3 := by omega
        go_wp2_with fail
        refine Calls.mono (l6lives_any wr) ?_
        rintro e9 w9 ⟨rfl, hw⟩
        go_wp2_with fail
        go_ret
        exact ⟨rfl, HB9.out.trans ((hR.trans (hw.mono hR.size)).mono HB9.out.size)⟩
end Go.Proofs.Ytedhbpceonhmcaa
