/-
  THE WALK of the reference's Of. Written by gen/genr6of.py.
-/
import Derived.Test.YtedhbpceonhmcaaR6Srt
import Derived.Test.YtedhbpceonhmcaaR6Put
namespace Go.Proofs.Ytedhbpceonhmcaa
open Go.RowKit

/-- what Of hands back: a valid value of the sort -/
def OfPost (k n ix : Int) (w : World) (e : Ending) (w' : World) : Prop := ∃ x : Va, (x.k = k ∧ x.n = n ∧ x.ix = ix) ∧ valE x = 0 ∧ GivesV w x e w'
theorem sort_i64 {k n ix : Int} (h : sortOk k n ix = true) : I64 k ∧ I64 n ∧ I64 ix := by
  rcases sort_kind h with rfl | rfl | rfl | rfl
  · simp [sortOk] at h; unfold I64; omega
  · simp [sortOk] at h; unfold I64; omega
  · simp [sortOk] at h; unfold I64; omega
  · simp [sortOk] at h; unfold I64; omega
theorem arr_val {k n ix : Int} {m : List En} (hk : k = 2 ∨ k = 3) (hs : sortOk k n ix = true) (hen : entsOk k n ix m = true) : valE ⟨k, n, ix, 0, .empty, m⟩ = 0 := by
  refine val_of hs ?_
  unfold valOk
  rw [if_neg (by show ¬ k = 0; omega), if_neg (by show ¬ k = 1; omega)]
  show ((0 : Int) == 0 && ByteArray.empty.size == 0 && entsOk k n ix m) = true
  rw [hen]; rfl
theorem gr_u64 {n v : Int} (hn : 1 ≤ n ∧ n ≤ 64) (h : 0 ≤ v ∧ v ≤ grI n) : U64 v := by
  unfold grI at h
  have h2 : (2 : Int) ^ n.toNat ≤ 2 ^ 64 := by exact_mod_cast Nat.pow_le_pow_right (by decide) (by omega)
  have h3 : (2 : Int) ^ 64 = 18446744073709551616 := by decide
  unfold U64
  omega

set_option maxHeartbeats 2000000 in
set_option maxRecDepth 100000 in
theorem r6Of0_any (n ix : Int) (w : World) (A : Option Addr) (c : Nat) (zs : List Int) (len : Nat) (hlen : len = zs.length) (hzs : ∀ z ∈ zs, I64 z) (hr : RdI w w.heap.size .i64 A zs) (hs : sortOk 0 n ix = true) : Calls Try.prog 25 #[.agg #[.int .i64 0, .int .i64 n, .int .i64 ix], .slice A len c] w fun e w' => OfPost 0 n ix w e w' := by
  have Hlen := Lib.hid hlen
  have Hzs := Lib.hid hzs
  clear hlen hzs
  have hi64 := sort_i64 hs
  have hB3 : Below w.heap.size w (((w.alloc (.cells #[.int .i64 0, .int .i64 n, .int .i64 ix] 26)).alloc (.cells #[.int .i64 0, .int .i64 0, .int .i64 0, .int .u64 0, .string ⟨#[]⟩, .slice none 0 0] 30)).alloc (.cells #[.int .i64 0, .int .i64 n, .int .i64 ix, .int .u64 0, .string ⟨#[]⟩, .slice none 0 0] 30)) := below_alloc3v (Below.refl _ _) (Nat.le_refl _) _ _ _
  have hb0 : (((w.alloc (.cells #[.int .i64 0, .int .i64 n, .int .i64 ix] 26)).alloc (.cells #[.int .i64 0, .int .i64 0, .int .i64 0, .int .u64 0, .string ⟨#[]⟩, .slice none 0 0] 30)).alloc (.cells #[.int .i64 0, .int .i64 n, .int .i64 ix, .int .u64 0, .string ⟨#[]⟩, .slice none 0 0] 30)).heap[w.heap.size]? = some (.cells #[.int .i64 0, .int .i64 n, .int .i64 ix] 26 (0, 0)) := (heap_alloc_old _ _ _ (by simp; omega)).trans ((heap_alloc_old _ _ _ (by simp)).trans (heap_alloc_new w _))
  have hb1 : (((w.alloc (.cells #[.int .i64 0, .int .i64 n, .int .i64 ix] 26)).alloc (.cells #[.int .i64 0, .int .i64 0, .int .i64 0, .int .u64 0, .string ⟨#[]⟩, .slice none 0 0] 30)).alloc (.cells #[.int .i64 0, .int .i64 n, .int .i64 ix, .int .u64 0, .string ⟨#[]⟩, .slice none 0 0] 30)).heap[w.heap.size + 1]? = some (.cells #[.int .i64 0, .int .i64 0, .int .i64 0, .int .u64 0, .string ⟨#[]⟩, .slice none 0 0] 30 (0, 0)) := (heap_alloc_old _ _ _ (by simp)).trans (heap_alloc_new_at _ _ (by simp))
  have hb2 : (((w.alloc (.cells #[.int .i64 0, .int .i64 n, .int .i64 ix] 26)).alloc (.cells #[.int .i64 0, .int .i64 0, .int .i64 0, .int .u64 0, .string ⟨#[]⟩, .slice none 0 0] 30)).alloc (.cells #[.int .i64 0, .int .i64 n, .int .i64 ix, .int .u64 0, .string ⟨#[]⟩, .slice none 0 0] 30)).heap[w.heap.size + 1 + 1]? = some (.cells #[.int .i64 0, .int .i64 n, .int .i64 ix, .int .u64 0, .string ⟨#[]⟩, .slice none 0 0] 30 (0, 0)) := heap_alloc_new_at _ _ (by simp)
  have hz3 : (((w.alloc (.cells #[.int .i64 0, .int .i64 n, .int .i64 ix] 26)).alloc (.cells #[.int .i64 0, .int .i64 0, .int .i64 0, .int .u64 0, .string ⟨#[]⟩, .slice none 0 0] 30)).alloc (.cells #[.int .i64 0, .int .i64 n, .int .i64 ix, .int .u64 0, .string ⟨#[]⟩, .slice none 0 0] 30)).heap.size = w.heap.size + 3 := by simp
  obtain ⟨p0, p1, p2⟩ := three hb0
  have hn1 : 1 ≤ n ∧ n ≤ 64 := by simp [sortOk] at hs; omega
  obtain ⟨p, hp, hP⟩ := pick30_any A len c zs 0 Hlen.out Hzs.out
  have HP := Lib.hid fun (W : World) (h : Below w.heap.size w W) => hP W ((hr.below h).mono h.size)
  clear hP hr
  obtain ⟨v2, hv2, hB⟩ := r6Bits_any (p : Int) n (by unfold I64; omega) hn1
  have HBt := Lib.hid hB
  clear hB
  have HS := Lib.hid fun (W : World) (h : Below (w.heap.size + 3) (((w.alloc (.cells #[.int .i64 0, .int .i64 n, .int .i64 ix] 26)).alloc (.cells #[.int .i64 0, .int .i64 0, .int .i64 0, .int .u64 0, .string ⟨#[]⟩, .slice none 0 0] 30)).alloc (.cells #[.int .i64 0, .int .i64 n, .int .i64 ix, .int .u64 0, .string ⟨#[]⟩, .slice none 0 0] 30)) W) => (show W.cell? ⟨w.heap.size, 1, none⟩ = some (.int .i64 n) from (three ((h.block _ (by omega)).trans hb0)).2.1)
  have HO := Lib.hid fun (W : World) (h : Below (w.heap.size + 3) (((w.alloc (.cells #[.int .i64 0, .int .i64 n, .int .i64 ix] 26)).alloc (.cells #[.int .i64 0, .int .i64 0, .int .i64 0, .int .u64 0, .string ⟨#[]⟩, .slice none 0 0] 30)).alloc (.cells #[.int .i64 0, .int .i64 n, .int .i64 ix, .int .u64 0, .string ⟨#[]⟩, .slice none 0 0] 30)) W) => ((h.block (w.heap.size + 1 + 1) (by omega)).trans hb2)
  have HR := Lib.hid fun (W : World) (h : Below (w.heap.size + 3) (((w.alloc (.cells #[.int .i64 0, .int .i64 n, .int .i64 ix] 26)).alloc (.cells #[.int .i64 0, .int .i64 0, .int .i64 0, .int .u64 0, .string ⟨#[]⟩, .slice none 0 0] 30)).alloc (.cells #[.int .i64 0, .int .i64 n, .int .i64 ix, .int .u64 0, .string ⟨#[]⟩, .slice none 0 0] 30)) W) => ((h.block (w.heap.size + 1) (by omega)).trans hb1)
  have HF := Lib.hid fun (W : World) (h : Below (w.heap.size + 3) (((w.alloc (.cells #[.int .i64 0, .int .i64 n, .int .i64 ix] 26)).alloc (.cells #[.int .i64 0, .int .i64 0, .int .i64 0, .int .u64 0, .string ⟨#[]⟩, .slice none 0 0] 30)).alloc (.cells #[.int .i64 0, .int .i64 n, .int .i64 ix, .int .u64 0, .string ⟨#[]⟩, .slice none 0 0] 30)) W) => (show W.frozen? ⟨w.heap.size + 1 + 1, 3, none⟩ = false ∧ (W.cell? ⟨w.heap.size + 1 + 1, 3, none⟩).isSome = true from ⟨blk_frozen ((h.block (w.heap.size + 1 + 1) (by omega)).trans hb2) _, by rw [cell_of_row W _ _ _ _ _ ((h.block (w.heap.size + 1 + 1) (by omega)).trans hb2)]; rfl⟩)
  replace hb0 := Lib.hid hb0
  replace hb1 := Lib.hid hb1
  replace hb2 := Lib.hid hb2
  replace hB3 := Lib.hid hB3
  replace hz3 := Lib.hid hz3
  go_enter Try.func25, Try.ntmps25
  go_wp2_with fail
  clear p0 p1 p2
  generalize (((w.alloc (.cells #[.int .i64 0, .int .i64 n, .int .i64 ix] 26)).alloc (.cells #[.int .i64 0, .int .i64 0, .int .i64 0, .int .u64 0, .string ⟨#[]⟩, .slice none 0 0] 30)).alloc (.cells #[.int .i64 0, .int .i64 n, .int .i64 ix, .int .u64 0, .string ⟨#[]⟩, .slice none 0 0] 30)) = w3 at *
  have hd : Below (w.heap.size + 3) w3 w3.drew := (Below.refl _ _).drew
  have hzd : w.heap.size + 3 ≤ w3.drew.heap.size := Nat.le_of_eq hz3.out.symm
  have HPd := Lib.hid (HP.out w3.drew (hB3.out.trans (hd.mono (by omega))))
  have hS0 := HS.out _ hd
  refine region_lastp (fun W => W.cell? ⟨w.heap.size, 1, none⟩ = some (.int .i64 n)) (by kernel_rfl) rfl (by kernel_rfl) ?_
  (try simp only [List.pop_toArray, List.dropLast_cons_cons, List.dropLast_singleton, List.size_toArray, List.length_cons, List.length_nil, Nat.zero_add, Nat.reduceAdd])
  refine wpAnyH_takeL (i := 0) (v := ?v1) rfl (by kernel_rfl) (by kernel_rfl) (by kernel_rfl) (fun _ _ _ h => h) (Or.inl ⟨by rfl, ?y1⟩) (by assumption) ?r1
  case y1 => (intro W hSw; (try dsimp only at hSw); go_simp; try with_reducible rfl)
  (try simp only [Act.put, List.setIfInBounds_toArray, List.set_cons_zero, List.set_cons_succ])
  refine wpAnyH_takeL (i := 2) (v := ?v2) rfl (by kernel_rfl) (by kernel_rfl) (by kernel_rfl) (fun _ _ _ h => h) (Or.inl ⟨by rfl, ?y2⟩) (by assumption) ?r2
  case y2 => (intro W hSw; (try dsimp only at hSw); go_simp; try with_reducible rfl)
  (try simp only [Act.put, List.setIfInBounds_toArray, List.set_cons_zero, List.set_cons_succ])
  refine wpAnyH_takeL (i := 3) (v := ?v3) rfl (by kernel_rfl) (by kernel_rfl) (by kernel_rfl) (fun _ _ _ h => h) (Or.inl ⟨by rfl, ?y3⟩) (by assumption) ?r3
  case y3 => (intro W hSw; (try dsimp only at hSw); go_simp; try with_reducible rfl)
  (try simp only [Act.put, List.setIfInBounds_toArray, List.set_cons_zero, List.set_cons_succ])
  refine wpAnyH_ready (rs := [1]) (by kernel_rfl) (by simp) ?_
  refine consL rfl (fun K hK => ?_) AllReadyH.nil
  (go_simp; refine Calls.mono HPd.out ?_; rintro e w1 ⟨rfl, rfl⟩; dsimp only)
  refine hK.out _ _ (hS0) (fun hHeld => ?_)
  clear hK K
  (try simp only [Act.put, List.setIfInBounds_toArray, List.set_cons_zero, List.set_cons_succ])
  refine wpAnyH_ready (rs := [4]) (by kernel_rfl) (by simp) ?_
  refine consL rfl (fun K hK => ?_) AllReadyH.nil
  (go_simp; refine Calls.mono (HBt.out _) ?_; rintro e w2 ⟨rfl, rfl⟩; dsimp only)
  refine hK.out _ _ (hS0) (fun hHeld => ?_)
  clear hK K
  (try simp only [Act.put, List.setIfInBounds_toArray, List.set_cons_zero, List.set_cons_succ])
  refine wpAnyH_takeL (i := 5) (v := ?v4) rfl (by kernel_rfl) (by kernel_rfl) (by kernel_rfl) (fun _ _ _ h => h) (Or.inl ⟨by rfl, ?y4⟩) (by assumption) ?r4
  case y4 => (intro W hSw; (try dsimp only at hSw); go_simp; try with_reducible rfl)
  (try simp only [Act.put, List.setIfInBounds_toArray, List.set_cons_zero, List.set_cons_succ])
  obtain ⟨hF2, hF3⟩ := HF.out _ hd
  obtain ⟨z0, z1, z2, z3, z4, z5⟩ := six (HO.out _ hd)
  refine wpAnyH_done (by kernel_rfl) ?_ _
  refine lastQ_of rfl (fun K hK => ?_)
  go_simp
  refine hK.out _ _ ?_
  clear hK K
  clear hF2 hF3 z0 z1 z2 z3 z4 z5
  have hB5 : Below w.heap.size w ((w3.setCell ⟨w.heap.size + 1 + 1, 3, none⟩ (.int .u64 v2)).drew) := (hB3.out.trans (hd.mono (by omega))).setCell (p := ⟨w.heap.size + 1 + 1, 3, none⟩) (by simp; omega) (.int .u64 v2)
  have hO5 : ((w3.setCell ⟨w.heap.size + 1 + 1, 3, none⟩ (.int .u64 v2)).drew).heap[w.heap.size + 1 + 1]? = some (.cells #[.int .i64 0, .int .i64 n, .int .i64 ix, .int .u64 v2, .string ⟨#[]⟩, .slice none 0 0] 30 (0, 0)) := (blk_set (HO.out _ hd) (.int .u64 v2)).trans rfl
  have hR5 : ((w3.setCell ⟨w.heap.size + 1 + 1, 3, none⟩ (.int .u64 v2)).drew).heap[w.heap.size + 1]? = some (.cells #[.int .i64 0, .int .i64 0, .int .i64 0, .int .u64 0, .string ⟨#[]⟩, .slice none 0 0] 30 (0, 0)) := (Below.heap_setCell w3.drew ⟨w.heap.size + 1 + 1, 3, none⟩ (.int .u64 v2) (w.heap.size + 1) (by simp)).trans (HR.out _ hd)
  generalize (w3.setCell ⟨w.heap.size + 1 + 1, 3, none⟩ (.int .u64 v2)).drew = w5 at *
  obtain ⟨q0, q1, q2, q3, q4, q5⟩ := six hR5
  obtain ⟨z0, z1, z2, z3, z4, z5⟩ := six hO5
  have hf1 := blk_frozen hR5
  go_wp2_with fail
  refine bodyPost_ret (v := .agg #[.int .i64 0, .int .i64 n, .int .i64 ix, .int .u64 v2, .string ⟨#[]⟩, .slice none 0 0]) (by simp [results, Try.results25, go_sem, q0, q1, q2, q3, q4, q5]) rfl ?_
  have hokx : (⟨0, n, ix, v2, ⟨#[]⟩, []⟩ : Va).ok := ⟨hi64, gr_u64 hn1 hv2, (by show (0 : Nat) ≤ _; omega), (fun e he => by cases he), by show (0 : Nat) ≤ _; omega⟩
  refine ⟨⟨0, n, ix, v2, ⟨#[]⟩, []⟩, ⟨rfl, rfl, rfl⟩, val_of hs (by unfold valOk bvOk; simp; exact ⟨hv2.2, rfl⟩), _, rfl, VaV.mk (x := ⟨0, n, ix, v2, ⟨#[]⟩, []⟩) (A := none) (c := 0) hokx (Nat.le_refl _) (fun _ => rfl) (.inl rfl), set6_below hB5 (Nat.le_succ _) _ _ _ _ _ _⟩

set_option maxHeartbeats 2000000 in
set_option maxRecDepth 100000 in
theorem r6Of1_any (n ix : Int) (w : World) (A : Option Addr) (c : Nat) (zs : List Int) (len : Nat) (hlen : len = zs.length) (hzs : ∀ z ∈ zs, I64 z) (hr : RdI w w.heap.size .i64 A zs) (hs : sortOk 1 n ix = true) : Calls Try.prog 25 #[.agg #[.int .i64 1, .int .i64 n, .int .i64 ix], .slice A len c] w fun e w' => OfPost 1 n ix w e w' := by
  have Hlen := Lib.hid hlen
  have Hzs := Lib.hid hzs
  clear hlen hzs
  have hi64 := sort_i64 hs
  have hB3 : Below w.heap.size w (((w.alloc (.cells #[.int .i64 1, .int .i64 n, .int .i64 ix] 26)).alloc (.cells #[.int .i64 0, .int .i64 0, .int .i64 0, .int .u64 0, .string ⟨#[]⟩, .slice none 0 0] 30)).alloc (.cells #[.int .i64 1, .int .i64 n, .int .i64 ix, .int .u64 0, .string ⟨#[]⟩, .slice none 0 0] 30)) := below_alloc3v (Below.refl _ _) (Nat.le_refl _) _ _ _
  have hb0 : (((w.alloc (.cells #[.int .i64 1, .int .i64 n, .int .i64 ix] 26)).alloc (.cells #[.int .i64 0, .int .i64 0, .int .i64 0, .int .u64 0, .string ⟨#[]⟩, .slice none 0 0] 30)).alloc (.cells #[.int .i64 1, .int .i64 n, .int .i64 ix, .int .u64 0, .string ⟨#[]⟩, .slice none 0 0] 30)).heap[w.heap.size]? = some (.cells #[.int .i64 1, .int .i64 n, .int .i64 ix] 26 (0, 0)) := (heap_alloc_old _ _ _ (by simp; omega)).trans ((heap_alloc_old _ _ _ (by simp)).trans (heap_alloc_new w _))
  have hb1 : (((w.alloc (.cells #[.int .i64 1, .int .i64 n, .int .i64 ix] 26)).alloc (.cells #[.int .i64 0, .int .i64 0, .int .i64 0, .int .u64 0, .string ⟨#[]⟩, .slice none 0 0] 30)).alloc (.cells #[.int .i64 1, .int .i64 n, .int .i64 ix, .int .u64 0, .string ⟨#[]⟩, .slice none 0 0] 30)).heap[w.heap.size + 1]? = some (.cells #[.int .i64 0, .int .i64 0, .int .i64 0, .int .u64 0, .string ⟨#[]⟩, .slice none 0 0] 30 (0, 0)) := (heap_alloc_old _ _ _ (by simp)).trans (heap_alloc_new_at _ _ (by simp))
  have hb2 : (((w.alloc (.cells #[.int .i64 1, .int .i64 n, .int .i64 ix] 26)).alloc (.cells #[.int .i64 0, .int .i64 0, .int .i64 0, .int .u64 0, .string ⟨#[]⟩, .slice none 0 0] 30)).alloc (.cells #[.int .i64 1, .int .i64 n, .int .i64 ix, .int .u64 0, .string ⟨#[]⟩, .slice none 0 0] 30)).heap[w.heap.size + 1 + 1]? = some (.cells #[.int .i64 1, .int .i64 n, .int .i64 ix, .int .u64 0, .string ⟨#[]⟩, .slice none 0 0] 30 (0, 0)) := heap_alloc_new_at _ _ (by simp)
  have hz3 : (((w.alloc (.cells #[.int .i64 1, .int .i64 n, .int .i64 ix] 26)).alloc (.cells #[.int .i64 0, .int .i64 0, .int .i64 0, .int .u64 0, .string ⟨#[]⟩, .slice none 0 0] 30)).alloc (.cells #[.int .i64 1, .int .i64 n, .int .i64 ix, .int .u64 0, .string ⟨#[]⟩, .slice none 0 0] 30)).heap.size = w.heap.size + 3 := by simp
  obtain ⟨p0, p1, p2⟩ := three hb0
  have hn1 : 0 ≤ n ∧ n ≤ 64 := by simp [sortOk] at hs; omega
  obtain ⟨p, hp, hP⟩ := pick30_any A len c zs 0 Hlen.out Hzs.out
  have HP := Lib.hid fun (W : World) (h : Below w.heap.size w W) => hP W ((hr.below h).mono h.size)
  clear hP hr
  have HBt := Lib.hid fun W => r6Short_any (p : Int) n W (by unfold I64; omega) hn1
  have HS := Lib.hid fun (W : World) (h : Below (w.heap.size + 3) (((w.alloc (.cells #[.int .i64 1, .int .i64 n, .int .i64 ix] 26)).alloc (.cells #[.int .i64 0, .int .i64 0, .int .i64 0, .int .u64 0, .string ⟨#[]⟩, .slice none 0 0] 30)).alloc (.cells #[.int .i64 1, .int .i64 n, .int .i64 ix, .int .u64 0, .string ⟨#[]⟩, .slice none 0 0] 30)) W) => (show W.cell? ⟨w.heap.size, 1, none⟩ = some (.int .i64 n) from (three ((h.block _ (by omega)).trans hb0)).2.1)
  have HO := Lib.hid fun (W : World) (h : Below (w.heap.size + 3) (((w.alloc (.cells #[.int .i64 1, .int .i64 n, .int .i64 ix] 26)).alloc (.cells #[.int .i64 0, .int .i64 0, .int .i64 0, .int .u64 0, .string ⟨#[]⟩, .slice none 0 0] 30)).alloc (.cells #[.int .i64 1, .int .i64 n, .int .i64 ix, .int .u64 0, .string ⟨#[]⟩, .slice none 0 0] 30)) W) => ((h.block (w.heap.size + 1 + 1) (by omega)).trans hb2)
  have HR := Lib.hid fun (W : World) (h : Below (w.heap.size + 3) (((w.alloc (.cells #[.int .i64 1, .int .i64 n, .int .i64 ix] 26)).alloc (.cells #[.int .i64 0, .int .i64 0, .int .i64 0, .int .u64 0, .string ⟨#[]⟩, .slice none 0 0] 30)).alloc (.cells #[.int .i64 1, .int .i64 n, .int .i64 ix, .int .u64 0, .string ⟨#[]⟩, .slice none 0 0] 30)) W) => ((h.block (w.heap.size + 1) (by omega)).trans hb1)
  have HF := Lib.hid fun (W : World) (h : Below (w.heap.size + 3) (((w.alloc (.cells #[.int .i64 1, .int .i64 n, .int .i64 ix] 26)).alloc (.cells #[.int .i64 0, .int .i64 0, .int .i64 0, .int .u64 0, .string ⟨#[]⟩, .slice none 0 0] 30)).alloc (.cells #[.int .i64 1, .int .i64 n, .int .i64 ix, .int .u64 0, .string ⟨#[]⟩, .slice none 0 0] 30)) W) => (show W.frozen? ⟨w.heap.size + 1 + 1, 4, none⟩ = false ∧ (W.cell? ⟨w.heap.size + 1 + 1, 4, none⟩).isSome = true from ⟨blk_frozen ((h.block (w.heap.size + 1 + 1) (by omega)).trans hb2) _, by rw [cell_of_row W _ _ _ _ _ ((h.block (w.heap.size + 1 + 1) (by omega)).trans hb2)]; rfl⟩)
  replace hb0 := Lib.hid hb0
  replace hb1 := Lib.hid hb1
  replace hb2 := Lib.hid hb2
  replace hB3 := Lib.hid hB3
  replace hz3 := Lib.hid hz3
  go_enter Try.func25, Try.ntmps25
  go_wp2_with fail
  clear p0 p1 p2
  generalize (((w.alloc (.cells #[.int .i64 1, .int .i64 n, .int .i64 ix] 26)).alloc (.cells #[.int .i64 0, .int .i64 0, .int .i64 0, .int .u64 0, .string ⟨#[]⟩, .slice none 0 0] 30)).alloc (.cells #[.int .i64 1, .int .i64 n, .int .i64 ix, .int .u64 0, .string ⟨#[]⟩, .slice none 0 0] 30)) = w3 at *
  have hd : Below (w.heap.size + 3) w3 w3.drew := (Below.refl _ _).drew
  have hzd : w.heap.size + 3 ≤ w3.drew.heap.size := Nat.le_of_eq hz3.out.symm
  have HPd := Lib.hid (HP.out w3.drew (hB3.out.trans (hd.mono (by omega))))
  have hS0 := HS.out _ hd
  refine region_lastp (fun W => W.cell? ⟨w.heap.size, 1, none⟩ = some (.int .i64 n)) (by kernel_rfl) rfl (by kernel_rfl) ?_
  (try simp only [List.pop_toArray, List.dropLast_cons_cons, List.dropLast_singleton, List.size_toArray, List.length_cons, List.length_nil, Nat.zero_add, Nat.reduceAdd])
  refine wpAnyH_takeL (i := 0) (v := ?v5) rfl (by kernel_rfl) (by kernel_rfl) (by kernel_rfl) (fun _ _ _ h => h) (Or.inl ⟨by rfl, ?y5⟩) (by assumption) ?r5
  case y5 => (intro W hSw; (try dsimp only at hSw); go_simp; try with_reducible rfl)
  (try simp only [Act.put, List.setIfInBounds_toArray, List.set_cons_zero, List.set_cons_succ])
  refine wpAnyH_takeL (i := 2) (v := ?v6) rfl (by kernel_rfl) (by kernel_rfl) (by kernel_rfl) (fun _ _ _ h => h) (Or.inl ⟨by rfl, ?y6⟩) (by assumption) ?r6
  case y6 => (intro W hSw; (try dsimp only at hSw); go_simp; try with_reducible rfl)
  (try simp only [Act.put, List.setIfInBounds_toArray, List.set_cons_zero, List.set_cons_succ])
  refine wpAnyH_takeL (i := 3) (v := ?v7) rfl (by kernel_rfl) (by kernel_rfl) (by kernel_rfl) (fun _ _ _ h => h) (Or.inl ⟨by rfl, ?y7⟩) (by assumption) ?r7
  case y7 => (intro W hSw; (try dsimp only at hSw); go_simp; try with_reducible rfl)
  (try simp only [Act.put, List.setIfInBounds_toArray, List.set_cons_zero, List.set_cons_succ])
  refine wpAnyH_ready (rs := [1]) (by kernel_rfl) (by simp) ?_
  refine consL rfl (fun K hK => ?_) AllReadyH.nil
  (go_simp; refine Calls.mono HPd.out ?_; rintro e w1 ⟨rfl, rfl⟩; dsimp only)
  refine hK.out _ _ (hS0) (fun hHeld => ?_)
  clear hK K
  (try simp only [Act.put, List.setIfInBounds_toArray, List.set_cons_zero, List.set_cons_succ])
  refine wpAnyH_ready (rs := [4]) (by kernel_rfl) (by simp) ?_
  refine consL rfl (fun K hK => ?_) AllReadyH.nil
  (go_simp; refine Calls.mono (HBt.out _) ?_; rintro e w2 ⟨⟨v2, rfl, hv2, hv3⟩, hw2⟩; dsimp only)
  refine hK.out _ _ (HS.out w2 (hd.trans (hw2.mono hzd))) (fun hHeld => ?_)
  clear hK K
  (try simp only [Act.put, List.setIfInBounds_toArray, List.set_cons_zero, List.set_cons_succ])
  refine wpAnyH_takeL (i := 5) (v := ?v8) rfl (by kernel_rfl) (by kernel_rfl) (by kernel_rfl) (fun _ _ _ h => h) (Or.inl ⟨by rfl, ?y8⟩) (by assumption) ?r8
  case y8 => (intro W hSw; (try dsimp only at hSw); go_simp; try with_reducible rfl)
  (try simp only [Act.put, List.setIfInBounds_toArray, List.set_cons_zero, List.set_cons_succ])
  have hm2 := hd.trans (hw2.mono hzd)
  obtain ⟨hF2, hF3⟩ := HF.out _ hm2
  obtain ⟨z0, z1, z2, z3, z4, z5⟩ := six (HO.out _ hm2)
  refine wpAnyH_done (by kernel_rfl) ?_ _
  refine lastQ_of rfl (fun K hK => ?_)
  go_simp
  refine hK.out _ _ ?_
  clear hK K
  clear hF2 hF3 z0 z1 z2 z3 z4 z5
  have hB5 : Below w.heap.size w (w2.setCell ⟨w.heap.size + 1 + 1, 4, none⟩ (.string v2)) := (hB3.out.trans (hm2.mono (by omega))).setCell (p := ⟨w.heap.size + 1 + 1, 4, none⟩) (by simp; omega) (.string v2)
  have hO5 : (w2.setCell ⟨w.heap.size + 1 + 1, 4, none⟩ (.string v2)).heap[w.heap.size + 1 + 1]? = some (.cells #[.int .i64 1, .int .i64 n, .int .i64 ix, .int .u64 0, .string v2, .slice none 0 0] 30 (0, 0)) := (blk_set (HO.out _ hm2) (.string v2)).trans rfl
  have hR5 : (w2.setCell ⟨w.heap.size + 1 + 1, 4, none⟩ (.string v2)).heap[w.heap.size + 1]? = some (.cells #[.int .i64 0, .int .i64 0, .int .i64 0, .int .u64 0, .string ⟨#[]⟩, .slice none 0 0] 30 (0, 0)) := (Below.heap_setCell w2 ⟨w.heap.size + 1 + 1, 4, none⟩ (.string v2) (w.heap.size + 1) (by simp)).trans (HR.out _ hm2)
  generalize w2.setCell ⟨w.heap.size + 1 + 1, 4, none⟩ (.string v2) = w5 at *
  obtain ⟨q0, q1, q2, q3, q4, q5⟩ := six hR5
  obtain ⟨z0, z1, z2, z3, z4, z5⟩ := six hO5
  have hf1 := blk_frozen hR5
  go_wp2_with fail
  refine bodyPost_ret (v := .agg #[.int .i64 1, .int .i64 n, .int .i64 ix, .int .u64 0, .string v2, .slice none 0 0]) (by simp [results, Try.results25, go_sem, q0, q1, q2, q3, q4, q5]) rfl ?_
  have hokx : (⟨1, n, ix, 0, v2, []⟩ : Va).ok := ⟨hi64, (show U64 0 from ⟨by decide, by decide⟩), (by show v2.size ≤ _; omega), (fun e he => by cases he), by show (0 : Nat) ≤ _; omega⟩
  refine ⟨⟨1, n, ix, 0, v2, []⟩, ⟨rfl, rfl, rfl⟩, val_of hs (by unfold valOk stOk; simp; omega), _, rfl, VaV.mk (x := ⟨1, n, ix, 0, v2, []⟩) (A := none) (c := 0) hokx (Nat.le_refl _) (fun _ => rfl) (.inl rfl), set6_below hB5 (Nat.le_succ _) _ _ _ _ _ _⟩

theorem set6_at {w : World} {b : Nat} {t : TypeId} {d0 d1 d2 d3 d4 d5 : Value} (hb : w.heap[b]? = some (.cells #[d0, d1, d2, d3, d4, d5] t (0, 0))) (c0 c1 c2 c3 c4 c5 : Value) :
    ((((((w.setCell ⟨b, 0, none⟩ c0).setCell ⟨b, 1, none⟩ c1).setCell ⟨b, 2, none⟩ c2).setCell ⟨b, 3, none⟩ c3).setCell ⟨b, 4, none⟩ c4).setCell ⟨b, 5, none⟩ c5).heap[b]? = some (.cells #[c0, c1, c2, c3, c4, c5] t (0, 0)) := by
  rw [blk_set (blk_set (blk_set (blk_set (blk_set (blk_set hb c0) c1) c2) c3) c4) c5]; rfl
end Go.Proofs.Ytedhbpceonhmcaa
