/-
  THE WALK of the reference's Of. Written by gen/genr6of.py.
  THE WALK of the reference's Of at arrays. Written by gen/genr6of.py.
-/
import Derived.Test.YtngfgohchnkidaaR6Srt
import Derived.Test.YtngfgohchnkidaaR6Put
namespace Go.Proofs.Ytngfgohchnkidaa
open Go.RowKit

/-- what Of hands back: a valid value of the sort -/
def OfPost (k n ix : Int) (w : World) (e : Ending) (w' : World) : Prop := ∃ x : Va, (x.k = k ∧ x.n = n ∧ x.ix = ix) ∧ valE x = 0 ∧ GivesV w x e w'
/-- the same, and it has at most five entries -/
def OfPost5 (k n ix : Int) (w : World) (e : Ending) (w' : World) : Prop := ∃ x : Va, (x.k = k ∧ x.n = n ∧ x.ix = ix) ∧ valE x = 0 ∧ x.m.length ≤ 5 ∧ GivesV w x e w'
theorem OfPost5.post {k n ix : Int} {w w' : World} {e : Ending} (h : OfPost5 k n ix w e w') : OfPost k n ix w e w' := by
  obtain ⟨x, h1, h2, _, h4⟩ := h
  exact ⟨x, h1, h2, h4⟩
theorem sort_i64 {k n ix : Int} (h : sortOk k n ix = true) : I64 k ∧ I64 n ∧ I64 ix := by
  rcases sort_kind h with rfl | rfl | rfl | rfl
  · simp [sortOk] at h; unfold I64; omega
  · simp [sortOk] at h; unfold I64; omega
  · simp [sortOk] at h; unfold I64; omega
  · simp [sortOk] at h; unfold I64; omega
theorem arr_val {k n ix : Int} {m : List En} (hk : k = 2 ∨ k = 3) (hs : sortOk k n ix = true) (hen : entsOk k n ix m = true) : valE ⟨k, n, ix, 0, .empty, m⟩ = 0 := by
  refine val_of hs ?_
  unfold valOk
  rw [if_neg (by show ¬ k = 0; omega), if_neg (by show ¬ k = 1; omega)]
  show ((0 : Int) == 0 && ByteArray.empty.size == 0 && entsOk k n ix m) = true
  rw [hen]; rfl
theorem gr_u64 {n v : Int} (hn : 1 ≤ n ∧ n ≤ 64) (h : 0 ≤ v ∧ v ≤ grI n) : U64 v := by
  unfold grI at h
  have h2 : (2 : Int) ^ n.toNat ≤ 2 ^ 64 := by exact_mod_cast Nat.pow_le_pow_right (by decide) (by omega)
  have h3 : (2 : Int) ^ 64 = 18446744073709551616 := by decide
  unfold U64
  omega

set_option maxHeartbeats 2000000 in
set_option maxRecDepth 100000 in
theorem r6Of0_any (n ix : Int) (w : World) (A : Option Addr) (c : Nat) (zs : List Int) (len : Nat) (hlen : len = zs.length) (hzs : ∀ z ∈ zs, I64 z) (hr : RdI w w.heap.size .i64 A zs) (hs : sortOk 0 n ix = true) : Calls Try.prog 25 #[.agg #[.int .i64 0, .int .i64 n, .int .i64 ix], .slice A len c] w fun e w' => OfPost5 0 n ix w e w' := by
  have Hlen := Lib.hid hlen
  have Hzs := Lib.hid hzs
  clear hlen hzs
  have hi64 := sort_i64 hs
  have hB3 : Below w.heap.size w (((w.alloc (.cells #[.int .i64 0, .int .i64 n, .int .i64 ix] 26)).alloc (.cells #[.int .i64 0, .int .i64 0, .int .i64 0, .int .u64 0, .string ⟨#[]⟩, .slice none 0 0] 30)).alloc (.cells #[.int .i64 0, .int .i64 n, .int .i64 ix, .int .u64 0, .string ⟨#[]⟩, .slice none 0 0] 30)) := below_alloc3v (Below.refl _ _) (Nat.le_refl _) _ _ _
  have hb0 : (((w.alloc (.cells #[.int .i64 0, .int .i64 n, .int .i64 ix] 26)).alloc (.cells #[.int .i64 0, .int .i64 0, .int .i64 0, .int .u64 0, .string ⟨#[]⟩, .slice none 0 0] 30)).alloc (.cells #[.int .i64 0, .int .i64 n, .int .i64 ix, .int .u64 0, .string ⟨#[]⟩, .slice none 0 0] 30)).heap[w.heap.size]? = some (.cells #[.int .i64 0, .int .i64 n, .int .i64 ix] 26 (0, 0)) := (heap_alloc_old _ _ _ (by simp; omega)).trans ((heap_alloc_old _ _ _ (by simp)).trans (heap_alloc_new w _))
  have hb1 : (((w.alloc (.cells #[.int .i64 0, .int .i64 n, .int .i64 ix] 26)).alloc (.cells #[.int .i64 0, .int .i64 0, .int .i64 0, .int .u64 0, .string ⟨#[]⟩, .slice none 0 0] 30)).alloc (.cells #[.int .i64 0, .int .i64 n, .int .i64 ix, .int .u64 0, .string ⟨#[]⟩, .slice none 0 0] 30)).heap[w.heap.size + 1]? = some (.cells #[.int .i64 0, .int .i64 0, .int .i64 0, .int .u64 0, .string ⟨#[]⟩, .slice none 0 0] 30 (0, 0)) := (heap_alloc_old _ _ _ (by simp)).trans (heap_alloc_new_at _ _ (by simp))
  have hb2 : (((w.alloc (.cells #[.int .i64 0, .int .i64 n, .int .i64 ix] 26)).alloc (.cells #[.int .i64 0, .int .i64 0, .int .i64 0, .int .u64 0, .string ⟨#[]⟩, .slice none 0 0] 30)).alloc (.cells #[.int .i64 0, .int .i64 n, .int .i64 ix, .int .u64 0, .string ⟨#[]⟩, .slice none 0 0] 30)).heap[w.heap.size + 1 + 1]? = some (.cells #[.int .i64 0, .int .i64 n, .int .i64 ix, .int .u64 0, .string ⟨#[]⟩, .slice none 0 0] 30 (0, 0)) := heap_alloc_new_at _ _ (by simp)
  have hz3 : (((w.alloc (.cells #[.int .i64 0, .int .i64 n, .int .i64 ix] 26)).alloc (.cells #[.int .i64 0, .int .i64 0, .int .i64 0, .int .u64 0, .string ⟨#[]⟩, .slice none 0 0] 30)).alloc (.cells #[.int .i64 0, .int .i64 n, .int .i64 ix, .int .u64 0, .string ⟨#[]⟩, .slice none 0 0] 30)).heap.size = w.heap.size + 3 := by simp
  obtain ⟨p0, p1, p2⟩ := three hb0
  have hn1 : 1 ≤ n ∧ n ≤ 64 := by simp [sortOk] at hs; omega
  obtain ⟨p, hp, hP⟩ := pick30_any A len c zs 0 Hlen.out Hzs.out
  have HP := Lib.hid fun (W : World) (h : Below w.heap.size w W) => hP W ((hr.below h).mono h.size)
  clear hP hr
  obtain ⟨v2, hv2, hB⟩ := r6Bits_any (p : Int) n (by unfold I64; omega) hn1
  have HBt := Lib.hid hB
  clear hB
  have HS := Lib.hid fun (W : World) (h : Below (w.heap.size + 3) (((w.alloc (.cells #[.int .i64 0, .int .i64 n, .int .i64 ix] 26)).alloc (.cells #[.int .i64 0, .int .i64 0, .int .i64 0, .int .u64 0, .string ⟨#[]⟩, .slice none 0 0] 30)).alloc (.cells #[.int .i64 0, .int .i64 n, .int .i64 ix, .int .u64 0, .string ⟨#[]⟩, .slice none 0 0] 30)) W) => (show W.cell? ⟨w.heap.size, 1, none⟩ = some (.int .i64 n) from (three ((h.block _ (by omega)).trans hb0)).2.1)
  have HO := Lib.hid fun (W : World) (h : Below (w.heap.size + 3) (((w.alloc (.cells #[.int .i64 0, .int .i64 n, .int .i64 ix] 26)).alloc (.cells #[.int .i64 0, .int .i64 0, .int .i64 0, .int .u64 0, .string ⟨#[]⟩, .slice none 0 0] 30)).alloc (.cells #[.int .i64 0, .int .i64 n, .int .i64 ix, .int .u64 0, .string ⟨#[]⟩, .slice none 0 0] 30)) W) => ((h.block (w.heap.size + 1 + 1) (by omega)).trans hb2)
  have HR := Lib.hid fun (W : World) (h : Below (w.heap.size + 3) (((w.alloc (.cells #[.int .i64 0, .int .i64 n, .int .i64 ix] 26)).alloc (.cells #[.int .i64 0, .int .i64 0, .int .i64 0, .int .u64 0, .string ⟨#[]⟩, .slice none 0 0] 30)).alloc (.cells #[.int .i64 0, .int .i64 n, .int .i64 ix, .int .u64 0, .string ⟨#[]⟩, .slice none 0 0] 30)) W) => ((h.block (w.heap.size + 1) (by omega)).trans hb1)
  have HF := Lib.hid fun (W : World) (h : Below (w.heap.size + 3) (((w.alloc (.cells #[.int .i64 0, .int .i64 n, .int .i64 ix] 26)).alloc (.cells #[.int .i64 0, .int .i64 0, .int .i64 0, .int .u64 0, .string ⟨#[]⟩, .slice none 0 0] 30)).alloc (.cells #[.int .i64 0, .int .i64 n, .int .i64 ix, .int .u64 0, .string ⟨#[]⟩, .slice none 0 0] 30)) W) => (show W.frozen? ⟨w.heap.size + 1 + 1, 3, none⟩ = false ∧ (W.cell? ⟨w.heap.size + 1 + 1, 3, none⟩).isSome = true from ⟨blk_frozen ((h.block (w.heap.size + 1 + 1) (by omega)).trans hb2) _, by rw [cell_of_row W _ _ _ _ _ ((h.block (w.heap.size + 1 + 1) (by omega)).trans hb2)]; rfl⟩)
  replace hb0 := Lib.hid hb0
  replace hb1 := Lib.hid hb1
  replace hb2 := Lib.hid hb2
  replace hB3 := Lib.hid hB3
  replace hz3 := Lib.hid hz3
  go_enter Try.func25, Try.ntmps25
  go_wp2_with fail
  clear p0 p1 p2
  generalize (((w.alloc (.cells #[.int .i64 0, .int .i64 n, .int .i64 ix] 26)).alloc (.cells #[.int .i64 0, .int .i64 0, .int .i64 0, .int .u64 0, .string ⟨#[]⟩, .slice none 0 0] 30)).alloc (.cells #[.int .i64 0, .int .i64 n, .int .i64 ix, .int .u64 0, .string ⟨#[]⟩, .slice none 0 0] 30)) = w3 at *
  have hd : Below (w.heap.size + 3) w3 w3.drew := (Below.refl _ _).drew
  have hzd : w.heap.size + 3 ≤ w3.drew.heap.size := Nat.le_of_eq hz3.out.symm
  have HPd := Lib.hid (HP.out w3.drew (hB3.out.trans (hd.mono (by omega))))
  have hS0 := HS.out _ hd
  refine region_lastp (fun W => W.cell? ⟨w.heap.size, 1, none⟩ = some (.int .i64 n)) (by kernel_rfl) rfl (by kernel_rfl) ?_
  (try simp only [List.pop_toArray, List.dropLast_cons_cons, List.dropLast_singleton, List.size_toArray, List.length_cons, List.length_nil, Nat.zero_add, Nat.reduceAdd])
  refine wpAnyH_takeL (i := 0) (v := ?v1) rfl (by kernel_rfl) (by kernel_rfl) (by kernel_rfl) (fun _ _ _ h => h) (Or.inl ⟨by rfl, ?y1⟩) (by assumption) ?r1
  case y1 => (intro W hSw; (try dsimp only at hSw); go_simp; try with_reducible rfl)
  (try simp only [Act.put, List.setIfInBounds_toArray, List.set_cons_zero, List.set_cons_succ])
  refine wpAnyH_takeL (i := 2) (v := ?v2) rfl (by kernel_rfl) (by kernel_rfl) (by kernel_rfl) (fun _ _ _ h => h) (Or.inl ⟨by rfl, ?y2⟩) (by assumption) ?r2
  case y2 => (intro W hSw; (try dsimp only at hSw); go_simp; try with_reducible rfl)
  (try simp only [Act.put, List.setIfInBounds_toArray, List.set_cons_zero, List.set_cons_succ])
  refine wpAnyH_takeL (i := 3) (v := ?v3) rfl (by kernel_rfl) (by kernel_rfl) (by kernel_rfl) (fun _ _ _ h => h) (Or.inl ⟨by rfl, ?y3⟩) (by assumption) ?r3
  case y3 => (intro W hSw; (try dsimp only at hSw); go_simp; try with_reducible rfl)
  (try simp only [Act.put, List.setIfInBounds_toArray, List.set_cons_zero, List.set_cons_succ])
  refine wpAnyH_ready (rs := [1]) (by kernel_rfl) (by simp) ?_
  refine consL rfl (fun K hK => ?_) AllReadyH.nil
  (go_simp; refine Calls.mono HPd.out ?_; rintro e w1 ⟨rfl, rfl⟩; dsimp only)
  refine hK.out _ _ (hS0) (fun hHeld => ?_)
  clear hK K
  (try simp only [Act.put, List.setIfInBounds_toArray, List.set_cons_zero, List.set_cons_succ])
  refine wpAnyH_ready (rs := [4]) (by kernel_rfl) (by simp) ?_
  refine consL rfl (fun K hK => ?_) AllReadyH.nil
  (go_simp; refine Calls.mono (HBt.out _) ?_; rintro e w2 ⟨rfl, rfl⟩; dsimp only)
  refine hK.out _ _ (hS0) (fun hHeld => ?_)
  clear hK K
  (try simp only [Act.put, List.setIfInBounds_toArray, List.set_cons_zero, List.set_cons_succ])
  refine wpAnyH_takeL (i := 5) (v := ?v4) rfl (by kernel_rfl) (by kernel_rfl) (by kernel_rfl) (fun _ _ _ h => h) (Or.inl ⟨by rfl, ?y4⟩) (by assumption) ?r4
  case y4 => (intro W hSw; (try dsimp only at hSw); go_simp; try with_reducible rfl)
  (try simp only [Act.put, List.setIfInBounds_toArray, List.set_cons_zero, List.set_cons_succ])
  obtain ⟨hF2, hF3⟩ := HF.out _ hd
  obtain ⟨z0, z1, z2, z3, z4, z5⟩ := six (HO.out _ hd)
  refine wpAnyH_done (by kernel_rfl) ?_ _
  refine lastQ_of rfl (fun K hK => ?_)
  go_simp
  refine hK.out _ _ ?_
  clear hK K
  clear hF2 hF3 z0 z1 z2 z3 z4 z5
  have hB5 : Below w.heap.size w ((w3.setCell ⟨w.heap.size + 1 + 1, 3, none⟩ (.int .u64 v2)).drew) := (hB3.out.trans (hd.mono (by omega))).setCell (p := ⟨w.heap.size + 1 + 1, 3, none⟩) (by simp; omega) (.int .u64 v2)
  have hO5 : ((w3.setCell ⟨w.heap.size + 1 + 1, 3, none⟩ (.int .u64 v2)).drew).heap[w.heap.size + 1 + 1]? = some (.cells #[.int .i64 0, .int .i64 n, .int .i64 ix, .int .u64 v2, .string ⟨#[]⟩, .slice none 0 0] 30 (0, 0)) := (blk_set (HO.out _ hd) (.int .u64 v2)).trans rfl
  have hR5 : ((w3.setCell ⟨w.heap.size + 1 + 1, 3, none⟩ (.int .u64 v2)).drew).heap[w.heap.size + 1]? = some (.cells #[.int .i64 0, .int .i64 0, .int .i64 0, .int .u64 0, .string ⟨#[]⟩, .slice none 0 0] 30 (0, 0)) := (Below.heap_setCell w3.drew ⟨w.heap.size + 1 + 1, 3, none⟩ (.int .u64 v2) (w.heap.size + 1) (by simp)).trans (HR.out _ hd)
  generalize (w3.setCell ⟨w.heap.size + 1 + 1, 3, none⟩ (.int .u64 v2)).drew = w5 at *
  obtain ⟨q0, q1, q2, q3, q4, q5⟩ := six hR5
  obtain ⟨z0, z1, z2, z3, z4, z5⟩ := six hO5
  have hf1 := blk_frozen hR5
  go_wp2_with fail
  refine bodyPost_ret (v := .agg #[.int .i64 0, .int .i64 n, .int .i64 ix, .int .u64 v2, .string ⟨#[]⟩, .slice none 0 0]) (by simp [results, Try.results25, go_sem, q0, q1, q2, q3, q4, q5]) rfl ?_
  have hokx : (⟨0, n, ix, v2, ⟨#[]⟩, []⟩ : Va).ok := ⟨hi64, gr_u64 hn1 hv2, (by show (0 : Nat) ≤ _; omega), (fun e he => by cases he), by show (0 : Nat) ≤ _; omega⟩
  refine ⟨⟨0, n, ix, v2, ⟨#[]⟩, []⟩, ⟨rfl, rfl, rfl⟩, val_of hs (by unfold valOk bvOk; simp; exact ⟨hv2.2, rfl⟩), Nat.zero_le _, _, rfl, VaV.mk (x := ⟨0, n, ix, v2, ⟨#[]⟩, []⟩) (A := none) (c := 0) hokx (Nat.le_refl _) (fun _ => rfl) (.inl rfl), set6_below hB5 (Nat.le_succ _) _ _ _ _ _ _⟩

set_option maxHeartbeats 2000000 in
set_option maxRecDepth 100000 in
theorem r6Of1_any (n ix : Int) (w : World) (A : Option Addr) (c : Nat) (zs : List Int) (len : Nat) (hlen : len = zs.length) (hzs : ∀ z ∈ zs, I64 z) (hr : RdI w w.heap.size .i64 A zs) (hs : sortOk 1 n ix = true) : Calls Try.prog 25 #[.agg #[.int .i64 1, .int .i64 n, .int .i64 ix], .slice A len c] w fun e w' => OfPost5 1 n ix w e w' := by
  have Hlen := Lib.hid hlen
  have Hzs := Lib.hid hzs
  clear hlen hzs
  have hi64 := sort_i64 hs
  have hB3 : Below w.heap.size w (((w.alloc (.cells #[.int .i64 1, .int .i64 n, .int .i64 ix] 26)).alloc (.cells #[.int .i64 0, .int .i64 0, .int .i64 0, .int .u64 0, .string ⟨#[]⟩, .slice none 0 0] 30)).alloc (.cells #[.int .i64 1, .int .i64 n, .int .i64 ix, .int .u64 0, .string ⟨#[]⟩, .slice none 0 0] 30)) := below_alloc3v (Below.refl _ _) (Nat.le_refl _) _ _ _
  have hb0 : (((w.alloc (.cells #[.int .i64 1, .int .i64 n, .int .i64 ix] 26)).alloc (.cells #[.int .i64 0, .int .i64 0, .int .i64 0, .int .u64 0, .string ⟨#[]⟩, .slice none 0 0] 30)).alloc (.cells #[.int .i64 1, .int .i64 n, .int .i64 ix, .int .u64 0, .string ⟨#[]⟩, .slice none 0 0] 30)).heap[w.heap.size]? = some (.cells #[.int .i64 1, .int .i64 n, .int .i64 ix] 26 (0, 0)) := (heap_alloc_old _ _ _ (by simp; omega)).trans ((heap_alloc_old _ _ _ (by simp)).trans (heap_alloc_new w _))
  have hb1 : (((w.alloc (.cells #[.int .i64 1, .int .i64 n, .int .i64 ix] 26)).alloc (.cells #[.int .i64 0, .int .i64 0, .int .i64 0, .int .u64 0, .string ⟨#[]⟩, .slice none 0 0] 30)).alloc (.cells #[.int .i64 1, .int .i64 n, .int .i64 ix, .int .u64 0, .string ⟨#[]⟩, .slice none 0 0] 30)).heap[w.heap.size + 1]? = some (.cells #[.int .i64 0, .int .i64 0, .int .i64 0, .int .u64 0, .string ⟨#[]⟩, .slice none 0 0] 30 (0, 0)) := (heap_alloc_old _ _ _ (by simp)).trans (heap_alloc_new_at _ _ (by simp))
  have hb2 : (((w.alloc (.cells #[.int .i64 1, .int .i64 n, .int .i64 ix] 26)).alloc (.cells #[.int .i64 0, .int .i64 0, .int .i64 0, .int .u64 0, .string ⟨#[]⟩, .slice none 0 0] 30)).alloc (.cells #[.int .i64 1, .int .i64 n, .int .i64 ix, .int .u64 0, .string ⟨#[]⟩, .slice none 0 0] 30)).heap[w.heap.size + 1 + 1]? = some (.cells #[.int .i64 1, .int .i64 n, .int .i64 ix, .int .u64 0, .string ⟨#[]⟩, .slice none 0 0] 30 (0, 0)) := heap_alloc_new_at _ _ (by simp)
  have hz3 : (((w.alloc (.cells #[.int .i64 1, .int .i64 n, .int .i64 ix] 26)).alloc (.cells #[.int .i64 0, .int .i64 0, .int .i64 0, .int .u64 0, .string ⟨#[]⟩, .slice none 0 0] 30)).alloc (.cells #[.int .i64 1, .int .i64 n, .int .i64 ix, .int .u64 0, .string ⟨#[]⟩, .slice none 0 0] 30)).heap.size = w.heap.size + 3 := by simp
  obtain ⟨p0, p1, p2⟩ := three hb0
  have hn1 : 0 ≤ n ∧ n ≤ 64 := by simp [sortOk] at hs; omega
  obtain ⟨p, hp, hP⟩ := pick30_any A len c zs 0 Hlen.out Hzs.out
  have HP := Lib.hid fun (W : World) (h : Below w.heap.size w W) => hP W ((hr.below h).mono h.size)
  clear hP hr
  have HBt := Lib.hid fun W => r6Short_any (p : Int) n W (by unfold I64; omega) hn1
  have HS := Lib.hid fun (W : World) (h : Below (w.heap.size + 3) (((w.alloc (.cells #[.int .i64 1, .int .i64 n, .int .i64 ix] 26)).alloc (.cells #[.int .i64 0, .int .i64 0, .int .i64 0, .int .u64 0, .string ⟨#[]⟩, .slice none 0 0] 30)).alloc (.cells #[.int .i64 1, .int .i64 n, .int .i64 ix, .int .u64 0, .string ⟨#[]⟩, .slice none 0 0] 30)) W) => (show W.cell? ⟨w.heap.size, 1, none⟩ = some (.int .i64 n) from (three ((h.block _ (by omega)).trans hb0)).2.1)
  have HO := Lib.hid fun (W : World) (h : Below (w.heap.size + 3) (((w.alloc (.cells #[.int .i64 1, .int .i64 n, .int .i64 ix] 26)).alloc (.cells #[.int .i64 0, .int .i64 0, .int .i64 0, .int .u64 0, .string ⟨#[]⟩, .slice none 0 0] 30)).alloc (.cells #[.int .i64 1, .int .i64 n, .int .i64 ix, .int .u64 0, .string ⟨#[]⟩, .slice none 0 0] 30)) W) => ((h.block (w.heap.size + 1 + 1) (by omega)).trans hb2)
  have HR := Lib.hid fun (W : World) (h : Below (w.heap.size + 3) (((w.alloc (.cells #[.int .i64 1, .int .i64 n, .int .i64 ix] 26)).alloc (.cells #[.int .i64 0, .int .i64 0, .int .i64 0, .int .u64 0, .string ⟨#[]⟩, .slice none 0 0] 30)).alloc (.cells #[.int .i64 1, .int .i64 n, .int .i64 ix, .int .u64 0, .string ⟨#[]⟩, .slice none 0 0] 30)) W) => ((h.block (w.heap.size + 1) (by omega)).trans hb1)
  have HF := Lib.hid fun (W : World) (h : Below (w.heap.size + 3) (((w.alloc (.cells #[.int .i64 1, .int .i64 n, .int .i64 ix] 26)).alloc (.cells #[.int .i64 0, .int .i64 0, .int .i64 0, .int .u64 0, .string ⟨#[]⟩, .slice none 0 0] 30)).alloc (.cells #[.int .i64 1, .int .i64 n, .int .i64 ix, .int .u64 0, .string ⟨#[]⟩, .slice none 0 0] 30)) W) => (show W.frozen? ⟨w.heap.size + 1 + 1, 4, none⟩ = false ∧ (W.cell? ⟨w.heap.size + 1 + 1, 4, none⟩).isSome = true from ⟨blk_frozen ((h.block (w.heap.size + 1 + 1) (by omega)).trans hb2) _, by rw [cell_of_row W _ _ _ _ _ ((h.block (w.heap.size + 1 + 1) (by omega)).trans hb2)]; rfl⟩)
  replace hb0 := Lib.hid hb0
  replace hb1 := Lib.hid hb1
  replace hb2 := Lib.hid hb2
  replace hB3 := Lib.hid hB3
  replace hz3 := Lib.hid hz3
  go_enter Try.func25, Try.ntmps25
  go_wp2_with fail
  clear p0 p1 p2
  generalize (((w.alloc (.cells #[.int .i64 1, .int .i64 n, .int .i64 ix] 26)).alloc (.cells #[.int .i64 0, .int .i64 0, .int .i64 0, .int .u64 0, .string ⟨#[]⟩, .slice none 0 0] 30)).alloc (.cells #[.int .i64 1, .int .i64 n, .int .i64 ix, .int .u64 0, .string ⟨#[]⟩, .slice none 0 0] 30)) = w3 at *
  have hd : Below (w.heap.size + 3) w3 w3.drew := (Below.refl _ _).drew
  have hzd : w.heap.size + 3 ≤ w3.drew.heap.size := Nat.le_of_eq hz3.out.symm
  have HPd := Lib.hid (HP.out w3.drew (hB3.out.trans (hd.mono (by omega))))
  have hS0 := HS.out _ hd
  refine region_lastp (fun W => W.cell? ⟨w.heap.size, 1, none⟩ = some (.int .i64 n)) (by kernel_rfl) rfl (by kernel_rfl) ?_
  (try simp only [List.pop_toArray, List.dropLast_cons_cons, List.dropLast_singleton, List.size_toArray, List.length_cons, List.length_nil, Nat.zero_add, Nat.reduceAdd])
  refine wpAnyH_takeL (i := 0) (v := ?v5) rfl (by kernel_rfl) (by kernel_rfl) (by kernel_rfl) (fun _ _ _ h => h) (Or.inl ⟨by rfl, ?y5⟩) (by assumption) ?r5
  case y5 => (intro W hSw; (try dsimp only at hSw); go_simp; try with_reducible rfl)
  (try simp only [Act.put, List.setIfInBounds_toArray, List.set_cons_zero, List.set_cons_succ])
  refine wpAnyH_takeL (i := 2) (v := ?v6) rfl (by kernel_rfl) (by kernel_rfl) (by kernel_rfl) (fun _ _ _ h => h) (Or.inl ⟨by rfl, ?y6⟩) (by assumption) ?r6
  case y6 => (intro W hSw; (try dsimp only at hSw); go_simp; try with_reducible rfl)
  (try simp only [Act.put, List.setIfInBounds_toArray, List.set_cons_zero, List.set_cons_succ])
  refine wpAnyH_takeL (i := 3) (v := ?v7) rfl (by kernel_rfl) (by kernel_rfl) (by kernel_rfl) (fun _ _ _ h => h) (Or.inl ⟨by rfl, ?y7⟩) (by assumption) ?r7
  case y7 => (intro W hSw; (try dsimp only at hSw); go_simp; try with_reducible rfl)
  (try simp only [Act.put, List.setIfInBounds_toArray, List.set_cons_zero, List.set_cons_succ])
  refine wpAnyH_ready (rs := [1]) (by kernel_rfl) (by simp) ?_
  refine consL rfl (fun K hK => ?_) AllReadyH.nil
  (go_simp; refine Calls.mono HPd.out ?_; rintro e w1 ⟨rfl, rfl⟩; dsimp only)
  refine hK.out _ _ (hS0) (fun hHeld => ?_)
  clear hK K
  (try simp only [Act.put, List.setIfInBounds_toArray, List.set_cons_zero, List.set_cons_succ])
  refine wpAnyH_ready (rs := [4]) (by kernel_rfl) (by simp) ?_
  refine consL rfl (fun K hK => ?_) AllReadyH.nil
  (go_simp; refine Calls.mono (HBt.out _) ?_; rintro e w2 ⟨⟨v2, rfl, hv2, hv3⟩, hw2⟩; dsimp only)
  refine hK.out _ _ (HS.out w2 (hd.trans (hw2.mono hzd))) (fun hHeld => ?_)
  clear hK K
  (try simp only [Act.put, List.setIfInBounds_toArray, List.set_cons_zero, List.set_cons_succ])
  refine wpAnyH_takeL (i := 5) (v := ?v8) rfl (by kernel_rfl) (by kernel_rfl) (by kernel_rfl) (fun _ _ _ h => h) (Or.inl ⟨by rfl, ?y8⟩) (by assumption) ?r8
  case y8 => (intro W hSw; (try dsimp only at hSw); go_simp; try with_reducible rfl)
  (try simp only [Act.put, List.setIfInBounds_toArray, List.set_cons_zero, List.set_cons_succ])
  have hm2 := hd.trans (hw2.mono hzd)
  obtain ⟨hF2, hF3⟩ := HF.out _ hm2
  obtain ⟨z0, z1, z2, z3, z4, z5⟩ := six (HO.out _ hm2)
  refine wpAnyH_done (by kernel_rfl) ?_ _
  refine lastQ_of rfl (fun K hK => ?_)
  go_simp
  refine hK.out _ _ ?_
  clear hK K
  clear hF2 hF3 z0 z1 z2 z3 z4 z5
  have hB5 : Below w.heap.size w (w2.setCell ⟨w.heap.size + 1 + 1, 4, none⟩ (.string v2)) := (hB3.out.trans (hm2.mono (by omega))).setCell (p := ⟨w.heap.size + 1 + 1, 4, none⟩) (by simp; omega) (.string v2)
  have hO5 : (w2.setCell ⟨w.heap.size + 1 + 1, 4, none⟩ (.string v2)).heap[w.heap.size + 1 + 1]? = some (.cells #[.int .i64 1, .int .i64 n, .int .i64 ix, .int .u64 0, .string v2, .slice none 0 0] 30 (0, 0)) := (blk_set (HO.out _ hm2) (.string v2)).trans rfl
  have hR5 : (w2.setCell ⟨w.heap.size + 1 + 1, 4, none⟩ (.string v2)).heap[w.heap.size + 1]? = some (.cells #[.int .i64 0, .int .i64 0, .int .i64 0, .int .u64 0, .string ⟨#[]⟩, .slice none 0 0] 30 (0, 0)) := (Below.heap_setCell w2 ⟨w.heap.size + 1 + 1, 4, none⟩ (.string v2) (w.heap.size + 1) (by simp)).trans (HR.out _ hm2)
  generalize w2.setCell ⟨w.heap.size + 1 + 1, 4, none⟩ (.string v2) = w5 at *
  obtain ⟨q0, q1, q2, q3, q4, q5⟩ := six hR5
  obtain ⟨z0, z1, z2, z3, z4, z5⟩ := six hO5
  have hf1 := blk_frozen hR5
  go_wp2_with fail
  refine bodyPost_ret (v := .agg #[.int .i64 1, .int .i64 n, .int .i64 ix, .int .u64 0, .string v2, .slice none 0 0]) (by simp [results, Try.results25, go_sem, q0, q1, q2, q3, q4, q5]) rfl ?_
  have hokx : (⟨1, n, ix, 0, v2, []⟩ : Va).ok := ⟨hi64, (show U64 0 from ⟨by decide, by decide⟩), (by show v2.size ≤ _; omega), (fun e he => by cases he), by show (0 : Nat) ≤ _; omega⟩
  refine ⟨⟨1, n, ix, 0, v2, []⟩, ⟨rfl, rfl, rfl⟩, val_of hs (by unfold valOk stOk; simp; omega), Nat.zero_le _, _, rfl, VaV.mk (x := ⟨1, n, ix, 0, v2, []⟩) (A := none) (c := 0) hokx (Nat.le_refl _) (fun _ => rfl) (.inl rfl), set6_below hB5 (Nat.le_succ _) _ _ _ _ _ _⟩

theorem set6_at {w : World} {b : Nat} {t : TypeId} {d0 d1 d2 d3 d4 d5 : Value} (hb : w.heap[b]? = some (.cells #[d0, d1, d2, d3, d4, d5] t (0, 0))) (c0 c1 c2 c3 c4 c5 : Value) :
    ((((((w.setCell ⟨b, 0, none⟩ c0).setCell ⟨b, 1, none⟩ c1).setCell ⟨b, 2, none⟩ c2).setCell ⟨b, 3, none⟩ c3).setCell ⟨b, 4, none⟩ c4).setCell ⟨b, 5, none⟩ c5).heap[b]? = some (.cells #[c0, c1, c2, c3, c4, c5] t (0, 0)) := by
  rw [blk_set (blk_set (blk_set (blk_set (blk_set (blk_set hb c0) c1) c2) c3) c4) c5]; rfl
end Go.Proofs.Ytngfgohchnkidaa

namespace Go.Proofs.Ytngfgohchnkidaa
open Go.RowKit

set_option maxHeartbeats 4000000 in
set_option maxRecDepth 100000 in
theorem r6Of2_any (n ix : Int) (w : World) (A : Option Addr) (c : Nat) (zs : List Int) (len : Nat) (hlen : len = zs.length) (hzs : ∀ z ∈ zs, I64 z) (hr : RdI w w.heap.size .i64 A zs) (hs : sortOk 2 n ix = true) : Calls Try.prog 25 #[.agg #[.int .i64 2, .int .i64 n, .int .i64 ix], .slice A len c] w fun e w' => OfPost5 2 n ix w e w' := by
  have Hlen := Lib.hid hlen
  have Hzs := Lib.hid hzs
  clear hlen hzs
  have hi64 := sort_i64 hs
  have hB3 : Below w.heap.size w (((w.alloc (.cells #[.int .i64 2, .int .i64 n, .int .i64 ix] 26)).alloc (.cells #[.int .i64 0, .int .i64 0, .int .i64 0, .int .u64 0, .string ⟨#[]⟩, .slice none 0 0] 30)).alloc (.cells #[.int .i64 2, .int .i64 n, .int .i64 ix, .int .u64 0, .string ⟨#[]⟩, .slice none 0 0] 30)) := below_alloc3v (Below.refl _ _) (Nat.le_refl _) _ _ _
  have hb0 : (((w.alloc (.cells #[.int .i64 2, .int .i64 n, .int .i64 ix] 26)).alloc (.cells #[.int .i64 0, .int .i64 0, .int .i64 0, .int .u64 0, .string ⟨#[]⟩, .slice none 0 0] 30)).alloc (.cells #[.int .i64 2, .int .i64 n, .int .i64 ix, .int .u64 0, .string ⟨#[]⟩, .slice none 0 0] 30)).heap[w.heap.size]? = some (.cells #[.int .i64 2, .int .i64 n, .int .i64 ix] 26 (0, 0)) := (heap_alloc_old _ _ _ (by simp; omega)).trans ((heap_alloc_old _ _ _ (by simp)).trans (heap_alloc_new w _))
  have hb1 : (((w.alloc (.cells #[.int .i64 2, .int .i64 n, .int .i64 ix] 26)).alloc (.cells #[.int .i64 0, .int .i64 0, .int .i64 0, .int .u64 0, .string ⟨#[]⟩, .slice none 0 0] 30)).alloc (.cells #[.int .i64 2, .int .i64 n, .int .i64 ix, .int .u64 0, .string ⟨#[]⟩, .slice none 0 0] 30)).heap[w.heap.size + 1]? = some (.cells #[.int .i64 0, .int .i64 0, .int .i64 0, .int .u64 0, .string ⟨#[]⟩, .slice none 0 0] 30 (0, 0)) := (heap_alloc_old _ _ _ (by simp)).trans (heap_alloc_new_at _ _ (by simp))
  have hb2 : (((w.alloc (.cells #[.int .i64 2, .int .i64 n, .int .i64 ix] 26)).alloc (.cells #[.int .i64 0, .int .i64 0, .int .i64 0, .int .u64 0, .string ⟨#[]⟩, .slice none 0 0] 30)).alloc (.cells #[.int .i64 2, .int .i64 n, .int .i64 ix, .int .u64 0, .string ⟨#[]⟩, .slice none 0 0] 30)).heap[w.heap.size + 1 + 1]? = some (.cells #[.int .i64 2, .int .i64 n, .int .i64 ix, .int .u64 0, .string ⟨#[]⟩, .slice none 0 0] 30 (0, 0)) := heap_alloc_new_at _ _ (by simp)
  have hz3 : (((w.alloc (.cells #[.int .i64 2, .int .i64 n, .int .i64 ix] 26)).alloc (.cells #[.int .i64 0, .int .i64 0, .int .i64 0, .int .u64 0, .string ⟨#[]⟩, .slice none 0 0] 30)).alloc (.cells #[.int .i64 2, .int .i64 n, .int .i64 ix, .int .u64 0, .string ⟨#[]⟩, .slice none 0 0] 30)).heap.size = w.heap.size + 3 := by simp
  obtain ⟨p0, p1, p2⟩ := three hb0
  have hn1 : 1 ≤ n ∧ n ≤ 64 := by simp [sortOk] at hs; omega
  have hix : 1 ≤ ix ∧ ix ≤ 16 := by simp [sortOk] at hs; omega
  have HMK := Lib.hid (show ∀ (W : World) (S : Nat → Prop) (m : List En) (A1 : Option Addr) (ml c1 : Nat), ml = m.length → (⟨2, n, ix, 0, .empty, m⟩ : Va).ok → ml ≤ c1 → (A1 = none → c1 = 0) → EnL W S m A1 → VaV W S ⟨2, n, ix, 0, .empty, m⟩ (.agg #[.int .i64 2, .int .i64 n, .int .i64 ix, .int .u64 0, .string ⟨#[]⟩, .slice A1 ml c1]) from fun W S m A1 ml c1 hm hok hc hA hl => by
    subst hm
    exact VaV.mk (x := ⟨2, n, ix, 0, .empty, m⟩) hok hc hA hl)
  go_enter Try.func25, Try.ntmps25
  go_wp2_with fail
  clear p0 p1 p2
  generalize (((w.alloc (.cells #[.int .i64 2, .int .i64 n, .int .i64 ix] 26)).alloc (.cells #[.int .i64 0, .int .i64 0, .int .i64 0, .int .u64 0, .string ⟨#[]⟩, .slice none 0 0] 30)).alloc (.cells #[.int .i64 2, .int .i64 n, .int .i64 ix, .int .u64 0, .string ⟨#[]⟩, .slice none 0 0] 30)) = w3 at *
  go_loopw [6] (fun a wr => ∃ (j : Nat) (m : List En) (A1 : Option Addr) (ml c1 : Nat), j ≤ 5 ∧ a = .int .i64 (j : Int) ∧ Hid (ml = m.length) ∧ ml ≤ j ∧ wr.heap[w.heap.size]? = some (.cells #[.int .i64 2, .int .i64 n, .int .i64 ix] 26 (0, 0)) ∧ wr.heap[w.heap.size + 1]? = some (.cells #[.int .i64 0, .int .i64 0, .int .i64 0, .int .u64 0, .string ⟨#[]⟩, .slice none 0 0] 30 (0, 0)) ∧ wr.heap[w.heap.size + 1 + 1]? = some (.cells #[.int .i64 2, .int .i64 n, .int .i64 ix, .int .u64 0, .string ⟨#[]⟩, .slice A1 ml c1] 30 (0, 0)) ∧
      Hid (ml ≤ c1) ∧ Hid (A1 = none → c1 = 0) ∧ Hid (EnL wr (MidV (w.heap.size + 3) wr.heap.size) m A1) ∧ Hid (entsOk 2 n ix m = true ∧ ∀ e ∈ m, e.ok) ∧ Below w.heap.size w wr ∧ w.heap.size + 3 ≤ wr.heap.size) (fun a _ => 5 - (intOf a).toNat)
  case atStart => exact ⟨0, [], none, 0, 0, Nat.zero_le _, rfl, Lib.hid rfl, Nat.le_refl _, hb0, hb1, hb2, Lib.hid (Nat.le_refl _), Lib.hid (fun _ => rfl), Lib.hid (.inl rfl), Lib.hid ⟨rfl, fun e he => by cases he⟩, hB3, by omega⟩
  case round =>
    clear hb0 hb1 hb2
    obtain ⟨j, m, A1, ml, c1, hj, rfl, Hm, hmj, hb0, hb1, hb2, hc1, hA1, hlm, hen, hW, hsz⟩ := hrel
    have hokm := Lib.hid (show ml = m.length → (⟨2, n, ix, 0, .empty, m⟩ : Va).ok from fun hm => ⟨hi64, (show U64 0 from ⟨by decide, by decide⟩), by show (0 : Nat) ≤ _; omega, hen.out.2, by show m.length ≤ _; omega⟩)
    obtain ⟨r0, r1, r2⟩ := three hb0
    obtain ⟨z0, z1, z2, z3, z4, z5⟩ := six hb2
    by_cases hjl : j < len
    · have g1 : decide ((j : Int) < (len : Int)) = true := decide_eq_true (by omega)
      by_cases hj5 : j < 5
      · have g2 : decide ((j : Int) < 5) = true := decide_eq_true (by omega)
        obtain ⟨p, hp, hP⟩ := pick30_any A len c zs (j : Int) Hlen.out Hzs.out
        have HP := Lib.hid (hP wr ((hr.below hW).mono hW.size))
        obtain ⟨v1, hv1, hB1⟩ := r6Bits_any ((p : Int) / 7) ix (by unfold I64; omega) ⟨hix.1, by omega⟩
        have HB1 := Lib.hid hB1
        obtain ⟨v2, hv2, hB2⟩ := r6Bits_any (p : Int) n (by unfold I64; omega) hn1
        have HB2 := Lib.hid hB2
        clear hB2
        clear hP hB1
        go_wp2_with (first | (go_at_call 60; refine Calls.mono HP.out ?_; rintro e w4 ⟨rfl, rfl⟩) | (go_at_call 59; refine Calls.mono (HB1.out _) ?_; rintro e w5 ⟨rfl, rfl⟩))
        obtain ⟨wr, rfl⟩ : ∃ wq, wq = w5 := ⟨_, rfl⟩
        clear r0 r1 r2 z0 z1 z2 z3 z4 z5
        have hd0 : Below wr.heap.size wr wr.drew := (Below.refl _ _).drew
        replace hb0 := Lib.hid hb0
        replace hb1 := Lib.hid hb1
        replace hb2 := Lib.hid hb2
        have HS := Lib.hid fun (W : World) (h : Below wr.heap.size wr W) => (show W.cell? ⟨w.heap.size + 1 + 1, 0, none⟩ = some (.int .i64 2) ∧ W.cell? ⟨w.heap.size + 1 + 1, 1, none⟩ = some (.int .i64 n) ∧ W.cell? ⟨w.heap.size + 1 + 1, 2, none⟩ = some (.int .i64 ix) ∧ W.cell? ⟨w.heap.size + 1 + 1, 3, none⟩ = some (.int .u64 0) ∧ W.cell? ⟨w.heap.size + 1 + 1, 4, none⟩ = some (.string ⟨#[]⟩) ∧ W.cell? ⟨w.heap.size + 1 + 1, 5, none⟩ = some (.slice A1 ml c1) ∧ W.cell? ⟨w.heap.size, 1, none⟩ = some (.int .i64 n) from by
          obtain ⟨a0, a1, a2, a3, a4, a5⟩ := six ((h.block (w.heap.size + 1 + 1) (by omega)).trans hb2.out)
          exact ⟨a0, a1, a2, a3, a4, a5, (three ((h.block w.heap.size (by omega)).trans hb0.out)).2.1⟩)
        have hS0 := HS.out _ hd0
        refine region_lastp (fun W => W.cell? ⟨w.heap.size + 1 + 1, 0, none⟩ = some (.int .i64 2) ∧ W.cell? ⟨w.heap.size + 1 + 1, 1, none⟩ = some (.int .i64 n) ∧ W.cell? ⟨w.heap.size + 1 + 1, 2, none⟩ = some (.int .i64 ix) ∧ W.cell? ⟨w.heap.size + 1 + 1, 3, none⟩ = some (.int .u64 0) ∧ W.cell? ⟨w.heap.size + 1 + 1, 4, none⟩ = some (.string ⟨#[]⟩) ∧ W.cell? ⟨w.heap.size + 1 + 1, 5, none⟩ = some (.slice A1 ml c1) ∧ W.cell? ⟨w.heap.size, 1, none⟩ = some (.int .i64 n)) (by kernel_rfl) rfl (by kernel_rfl) ?_
        (try simp only [List.pop_toArray, List.dropLast_cons_cons, List.dropLast_singleton, List.size_toArray, List.length_cons, List.length_nil, Nat.zero_add, Nat.reduceAdd])
        refine wpAnyH_takeL (i := 0) (v := ?v9) rfl (by kernel_rfl) (by kernel_rfl) (by kernel_rfl) (fun _ _ _ h => h) (Or.inl ⟨by rfl, ?y9⟩) (by assumption) ?r9
        case y9 => (intro W hSw; (try dsimp only at hSw); go_simp; try with_reducible rfl)
        (try simp only [Act.put, List.setIfInBounds_toArray, List.set_cons_zero, List.set_cons_succ])
        refine wpAnyH_takeL (i := 1) (v := ?v10) rfl (by kernel_rfl) (by kernel_rfl) (by kernel_rfl) (fun _ _ _ h => h) (Or.inl ⟨by rfl, ?y10⟩) (by assumption) ?r10
        case y10 => (intro W hSw; (try dsimp only at hSw); go_simp; try with_reducible rfl)
        (try simp only [Act.put, List.setIfInBounds_toArray, List.set_cons_zero, List.set_cons_succ])
        refine wpAnyH_takeL (i := 2) (v := ?v11) rfl (by kernel_rfl) (by kernel_rfl) (by kernel_rfl) (fun _ _ _ h => h) (Or.inl ⟨by rfl, ?y11⟩) (by assumption) ?r11
        case y11 => (intro W hSw; (try dsimp only at hSw); go_simp; try with_reducible rfl)
        (try simp only [Act.put, List.setIfInBounds_toArray, List.set_cons_zero, List.set_cons_succ])
        refine wpAnyH_takeL (i := 3) (v := ?v12) rfl (by kernel_rfl) (by kernel_rfl) (by kernel_rfl) (fun _ _ _ h => h) (Or.inl ⟨by rfl, ?y12⟩) (by assumption) ?r12
        case y12 => (intro W hSw; (try dsimp only at hSw); go_simp; try with_reducible rfl)
        (try simp only [Act.put, List.setIfInBounds_toArray, List.set_cons_zero, List.set_cons_succ])
        refine wpAnyH_takeL (i := 4) (v := ?v13) rfl (by kernel_rfl) (by kernel_rfl) (by kernel_rfl) (fun _ _ _ h => h) (Or.inl ⟨by rfl, ?y13⟩) (by assumption) ?r13
        case y13 => (intro W hSw; (try dsimp only at hSw); go_simp; try with_reducible rfl)
        (try simp only [Act.put, List.setIfInBounds_toArray, List.set_cons_zero, List.set_cons_succ])
        refine wpAnyH_ready (rs := [5]) (by kernel_rfl) (by simp) ?_
        refine consL rfl (fun K hK => ?_) AllReadyH.nil
        (go_simp; refine Calls.mono (HB2.out _) ?_; rintro e w6 ⟨rfl, rfl⟩; dsimp only)
        refine hK.out _ _ (hS0) (fun hHeld => ?_)
        clear hK K
        (try simp only [Act.put, List.setIfInBounds_toArray, List.set_cons_zero, List.set_cons_succ])
        have hm6 := hd0
        have hVx : VaV wr.drew (LoV wr.drew.heap.size) ⟨2, n, ix, 0, .empty, m⟩ (.agg #[.int .i64 2, .int .i64 n, .int .i64 ix, .int .u64 0, .string ⟨#[]⟩, .slice A1 ml c1]) := HMK.out _ _ _ _ _ _ Hm.out (hokm.out Hm.out) hc1.out hA1.out (hlm.out.to (fun b hb => ⟨Nat.lt_of_lt_of_le hb.2 hm6.size, hm6.block b hb.2⟩))
        have hPut := r6Put_any ⟨2, n, ix, 0, .empty, m⟩ _ v1 v2 ⟨#[]⟩ wr.drew hVx (gr_u64 ⟨by omega, by omega⟩ hv1) (gr_u64 hn1 hv2) (by decide) (by show m.length < 100000; have := Hm.out; omega)
        refine wpAnyH_ready (rs := [6]) (by kernel_rfl) (by simp) ?_
        refine consL rfl (fun K hK => ?_) AllReadyH.nil
        (go_simp; refine Calls.mono hPut ?_; rintro e w7 ⟨v7, rfl, hv7, hw7⟩; dsimp only)
        refine hK.out _ _ (HS.out w7 (hm6.trans (hw7.mono hm6.size))) (fun hHeld => ?_)
        clear hK K
        (try simp only [Act.put, List.setIfInBounds_toArray, List.set_cons_zero, List.set_cons_succ])
        have hm7 := hm6.trans (hw7.mono hm6.size)
        obtain ⟨hok7, A7, c7, hve, hc7, hA7, hl7⟩ := hv7
        obtain ⟨n7, hn7⟩ : ∃ n7, n7 = (putE v1 v2 ⟨#[]⟩ m).length := ⟨_, rfl⟩
        simp only at hve hc7 hl7
        rw [← hn7] at hve hc7
        have hve2 : v7 = .agg #[.int .i64 2, .int .i64 n, .int .i64 ix, .int .u64 0, .string ⟨#[]⟩, .slice A7 n7 c7] := hve
        subst hve2
        clear hve hHeld
        have Hn7 := Lib.hid hn7
        clear hn7
        have hO7 := (hm7.block (w.heap.size + 1 + 1) (by omega)).trans hb2.out
        obtain ⟨z0, z1, z2, z3, z4, z5⟩ := six hO7
        have hf7 := blk_frozen hO7
        have hO8 := Lib.hid (set6_at hO7 (.int .i64 2) (.int .i64 n) (.int .i64 ix) (.int .u64 0) (.string ⟨#[]⟩) (.slice A7 n7 c7))
        replace hO7 := Lib.hid hO7
        refine wpAnyH_done (by kernel_rfl) ?_ _
        refine lastQ_of rfl (fun K hK => ?_)
        go_simp
        refine hK.out _ _ ?_
        clear hK K
        go_wp2_with fail
        go_roundw
        case rel =>
          have hpl := put_len v1 v2 ⟨#[]⟩ m
          refine ⟨j + 1, putE v1 v2 ⟨#[]⟩ m, A7, n7, c7, by omega, by go_num, Hn7, by have := Hn7.out; have := Hm.out; omega, ?_, ?_, hO8.out, Lib.hid hc7, Lib.hid hA7, Lib.hid (hl7.to (fun b hb => ⟨⟨?_, ?_⟩, set6_heap _ _ _ _ _ _ ?_⟩)), Lib.hid ⟨put_ents hen.out.1 (by omega) (by unfold elOk; rw [if_neg (by decide)]; unfold bvOk; simp; exact ⟨hv2.2, rfl⟩), hok7.2.2.2.1⟩, ?_, ?_⟩
          · exact (set6_heap _ _ _ _ _ _ (by omega)).trans ((hm7.block _ (by omega)).trans hb0.out)
          · exact (set6_heap _ _ _ _ _ _ (by omega)).trans ((hm7.block _ (by omega)).trans hb1.out)
          · have h1 := hb.1; have h2 := hm6.size; omega
          · rw [set6_size]; exact hb.2
          · have h1 := hb.1; have h2 := hm6.size; omega
          · exact set6_below (hW.trans (hm7.mono hW.size)) (by omega) _ _ _ _ _ _
          · rw [set6_size]; have := hm7.size; omega
        case measure => simp [intOf]; omega
      · have g2 : decide ((j : Int) < 5) = false := decide_eq_false (by omega)
        obtain ⟨q0, q1, q2, q3, q4, q5⟩ := six hb1
        have hf1 := blk_frozen hb1
        replace hb0 := Lib.hid hb0
        replace hb1 := Lib.hid hb1
        replace hb2 := Lib.hid hb2
        go_wp2_with fail
        refine bodyPost_ret (v := .agg #[.int .i64 2, .int .i64 n, .int .i64 ix, .int .u64 0, .string ⟨#[]⟩, .slice A1 ml c1]) (by simp [results, Try.results25, go_sem, q0, q1, q2, q3, q4, q5]) rfl ?_
        exact ⟨⟨2, n, ix, 0, .empty, m⟩, ⟨rfl, rfl, rfl⟩, arr_val (by omega) hs hen.out.1, (by have := Hm.out; show m.length ≤ 5; omega), _, rfl, HMK.out _ _ _ _ _ _ Hm.out (hokm.out Hm.out) hc1.out hA1.out (hlm.out.to (fun b hb => ⟨⟨by have := hb.1; omega, by rw [set6_size]; exact hb.2⟩, set6_heap _ _ _ _ _ _ (by have := hb.1; omega)⟩)), set6_below hW (Nat.le_succ _) _ _ _ _ _ _⟩
    · have g1 : decide ((j : Int) < (len : Int)) = false := decide_eq_false (by omega)
      obtain ⟨q0, q1, q2, q3, q4, q5⟩ := six hb1
      have hf1 := blk_frozen hb1
      replace hb0 := Lib.hid hb0
      replace hb1 := Lib.hid hb1
      replace hb2 := Lib.hid hb2
      go_wp2_with fail
      refine bodyPost_ret (v := .agg #[.int .i64 2, .int .i64 n, .int .i64 ix, .int .u64 0, .string ⟨#[]⟩, .slice A1 ml c1]) (by simp [results, Try.results25, go_sem, q0, q1, q2, q3, q4, q5]) rfl ?_
      exact ⟨⟨2, n, ix, 0, .empty, m⟩, ⟨rfl, rfl, rfl⟩, arr_val (by omega) hs hen.out.1, (by have := Hm.out; show m.length ≤ 5; omega), _, rfl, HMK.out _ _ _ _ _ _ Hm.out (hokm.out Hm.out) hc1.out hA1.out (hlm.out.to (fun b hb => ⟨⟨by have := hb.1; omega, by rw [set6_size]; exact hb.2⟩, set6_heap _ _ _ _ _ _ (by have := hb.1; omega)⟩)), set6_below hW (Nat.le_succ _) _ _ _ _ _ _⟩

set_option maxHeartbeats 4000000 in
set_option maxRecDepth 100000 in
theorem r6Of3_any (n ix : Int) (w : World) (A : Option Addr) (c : Nat) (zs : List Int) (len : Nat) (hlen : len = zs.length) (hzs : ∀ z ∈ zs, I64 z) (hr : RdI w w.heap.size .i64 A zs) (hs : sortOk 3 n ix = true) : Calls Try.prog 25 #[.agg #[.int .i64 3, .int .i64 n, .int .i64 ix], .slice A len c] w fun e w' => OfPost5 3 n ix w e w' := by
  have Hlen := Lib.hid hlen
  have Hzs := Lib.hid hzs
  clear hlen hzs
  have hi64 := sort_i64 hs
  have hB3 : Below w.heap.size w (((w.alloc (.cells #[.int .i64 3, .int .i64 n, .int .i64 ix] 26)).alloc (.cells #[.int .i64 0, .int .i64 0, .int .i64 0, .int .u64 0, .string ⟨#[]⟩, .slice none 0 0] 30)).alloc (.cells #[.int .i64 3, .int .i64 n, .int .i64 ix, .int .u64 0, .string ⟨#[]⟩, .slice none 0 0] 30)) := below_alloc3v (Below.refl _ _) (Nat.le_refl _) _ _ _
  have hb0 : (((w.alloc (.cells #[.int .i64 3, .int .i64 n, .int .i64 ix] 26)).alloc (.cells #[.int .i64 0, .int .i64 0, .int .i64 0, .int .u64 0, .string ⟨#[]⟩, .slice none 0 0] 30)).alloc (.cells #[.int .i64 3, .int .i64 n, .int .i64 ix, .int .u64 0, .string ⟨#[]⟩, .slice none 0 0] 30)).heap[w.heap.size]? = some (.cells #[.int .i64 3, .int .i64 n, .int .i64 ix] 26 (0, 0)) := (heap_alloc_old _ _ _ (by simp; omega)).trans ((heap_alloc_old _ _ _ (by simp)).trans (heap_alloc_new w _))
  have hb1 : (((w.alloc (.cells #[.int .i64 3, .int .i64 n, .int .i64 ix] 26)).alloc (.cells #[.int .i64 0, .int .i64 0, .int .i64 0, .int .u64 0, .string ⟨#[]⟩, .slice none 0 0] 30)).alloc (.cells #[.int .i64 3, .int .i64 n, .int .i64 ix, .int .u64 0, .string ⟨#[]⟩, .slice none 0 0] 30)).heap[w.heap.size + 1]? = some (.cells #[.int .i64 0, .int .i64 0, .int .i64 0, .int .u64 0, .string ⟨#[]⟩, .slice none 0 0] 30 (0, 0)) := (heap_alloc_old _ _ _ (by simp)).trans (heap_alloc_new_at _ _ (by simp))
  have hb2 : (((w.alloc (.cells #[.int .i64 3, .int .i64 n, .int .i64 ix] 26)).alloc (.cells #[.int .i64 0, .int .i64 0, .int .i64 0, .int .u64 0, .string ⟨#[]⟩, .slice none 0 0] 30)).alloc (.cells #[.int .i64 3, .int .i64 n, .int .i64 ix, .int .u64 0, .string ⟨#[]⟩, .slice none 0 0] 30)).heap[w.heap.size + 1 + 1]? = some (.cells #[.int .i64 3, .int .i64 n, .int .i64 ix, .int .u64 0, .string ⟨#[]⟩, .slice none 0 0] 30 (0, 0)) := heap_alloc_new_at _ _ (by simp)
  have hz3 : (((w.alloc (.cells #[.int .i64 3, .int .i64 n, .int .i64 ix] 26)).alloc (.cells #[.int .i64 0, .int .i64 0, .int .i64 0, .int .u64 0, .string ⟨#[]⟩, .slice none 0 0] 30)).alloc (.cells #[.int .i64 3, .int .i64 n, .int .i64 ix, .int .u64 0, .string ⟨#[]⟩, .slice none 0 0] 30)).heap.size = w.heap.size + 3 := by simp
  obtain ⟨p0, p1, p2⟩ := three hb0
  have hn1 : 0 ≤ n ∧ n ≤ 64 := by simp [sortOk] at hs; omega
  have hix : 1 ≤ ix ∧ ix ≤ 16 := by simp [sortOk] at hs; omega
  have HMK := Lib.hid (show ∀ (W : World) (S : Nat → Prop) (m : List En) (A1 : Option Addr) (ml c1 : Nat), ml = m.length → (⟨3, n, ix, 0, .empty, m⟩ : Va).ok → ml ≤ c1 → (A1 = none → c1 = 0) → EnL W S m A1 → VaV W S ⟨3, n, ix, 0, .empty, m⟩ (.agg #[.int .i64 3, .int .i64 n, .int .i64 ix, .int .u64 0, .string ⟨#[]⟩, .slice A1 ml c1]) from fun W S m A1 ml c1 hm hok hc hA hl => by
    subst hm
    exact VaV.mk (x := ⟨3, n, ix, 0, .empty, m⟩) hok hc hA hl)
  go_enter Try.func25, Try.ntmps25
  go_wp2_with fail
  clear p0 p1 p2
  generalize (((w.alloc (.cells #[.int .i64 3, .int .i64 n, .int .i64 ix] 26)).alloc (.cells #[.int .i64 0, .int .i64 0, .int .i64 0, .int .u64 0, .string ⟨#[]⟩, .slice none 0 0] 30)).alloc (.cells #[.int .i64 3, .int .i64 n, .int .i64 ix, .int .u64 0, .string ⟨#[]⟩, .slice none 0 0] 30)) = w3 at *
  go_loopw [6] (fun a wr => ∃ (j : Nat) (m : List En) (A1 : Option Addr) (ml c1 : Nat), j ≤ 5 ∧ a = .int .i64 (j : Int) ∧ Hid (ml = m.length) ∧ ml ≤ j ∧ wr.heap[w.heap.size]? = some (.cells #[.int .i64 3, .int .i64 n, .int .i64 ix] 26 (0, 0)) ∧ wr.heap[w.heap.size + 1]? = some (.cells #[.int .i64 0, .int .i64 0, .int .i64 0, .int .u64 0, .string ⟨#[]⟩, .slice none 0 0] 30 (0, 0)) ∧ wr.heap[w.heap.size + 1 + 1]? = some (.cells #[.int .i64 3, .int .i64 n, .int .i64 ix, .int .u64 0, .string ⟨#[]⟩, .slice A1 ml c1] 30 (0, 0)) ∧
      Hid (ml ≤ c1) ∧ Hid (A1 = none → c1 = 0) ∧ Hid (EnL wr (MidV (w.heap.size + 3) wr.heap.size) m A1) ∧ Hid (entsOk 3 n ix m = true ∧ ∀ e ∈ m, e.ok) ∧ Below w.heap.size w wr ∧ w.heap.size + 3 ≤ wr.heap.size) (fun a _ => 5 - (intOf a).toNat)
  case atStart => exact ⟨0, [], none, 0, 0, Nat.zero_le _, rfl, Lib.hid rfl, Nat.le_refl _, hb0, hb1, hb2, Lib.hid (Nat.le_refl _), Lib.hid (fun _ => rfl), Lib.hid (.inl rfl), Lib.hid ⟨rfl, fun e he => by cases he⟩, hB3, by omega⟩
  case round =>
    clear hb0 hb1 hb2
    obtain ⟨j, m, A1, ml, c1, hj, rfl, Hm, hmj, hb0, hb1, hb2, hc1, hA1, hlm, hen, hW, hsz⟩ := hrel
    have hokm := Lib.hid (show ml = m.length → (⟨3, n, ix, 0, .empty, m⟩ : Va).ok from fun hm => ⟨hi64, (show U64 0 from ⟨by decide, by decide⟩), by show (0 : Nat) ≤ _; omega, hen.out.2, by show m.length ≤ _; omega⟩)
    obtain ⟨r0, r1, r2⟩ := three hb0
    obtain ⟨z0, z1, z2, z3, z4, z5⟩ := six hb2
    by_cases hjl : j < len
    · have g1 : decide ((j : Int) < (len : Int)) = true := decide_eq_true (by omega)
      by_cases hj5 : j < 5
      · have g2 : decide ((j : Int) < 5) = true := decide_eq_true (by omega)
        obtain ⟨p, hp, hP⟩ := pick30_any A len c zs (j : Int) Hlen.out Hzs.out
        have HP := Lib.hid (hP wr ((hr.below hW).mono hW.size))
        obtain ⟨v1, hv1, hB1⟩ := r6Bits_any ((p : Int) / 7) ix (by unfold I64; omega) ⟨hix.1, by omega⟩
        have HB1 := Lib.hid hB1
        have HB2 := Lib.hid fun W => r6Short_any (p : Int) n W (by unfold I64; omega) hn1
        clear hP hB1
        go_wp2_with (first | (go_at_call 60; refine Calls.mono HP.out ?_; rintro e w4 ⟨rfl, rfl⟩) | (go_at_call 59; refine Calls.mono (HB1.out _) ?_; rintro e w5 ⟨rfl, rfl⟩))
        obtain ⟨wr, rfl⟩ : ∃ wq, wq = w5 := ⟨_, rfl⟩
        clear r0 r1 r2 z0 z1 z2 z3 z4 z5
        have hd0 : Below wr.heap.size wr wr.drew := (Below.refl _ _).drew
        replace hb0 := Lib.hid hb0
        replace hb1 := Lib.hid hb1
        replace hb2 := Lib.hid hb2
        have HS := Lib.hid fun (W : World) (h : Below wr.heap.size wr W) => (show W.cell? ⟨w.heap.size + 1 + 1, 0, none⟩ = some (.int .i64 3) ∧ W.cell? ⟨w.heap.size + 1 + 1, 1, none⟩ = some (.int .i64 n) ∧ W.cell? ⟨w.heap.size + 1 + 1, 2, none⟩ = some (.int .i64 ix) ∧ W.cell? ⟨w.heap.size + 1 + 1, 3, none⟩ = some (.int .u64 0) ∧ W.cell? ⟨w.heap.size + 1 + 1, 4, none⟩ = some (.string ⟨#[]⟩) ∧ W.cell? ⟨w.heap.size + 1 + 1, 5, none⟩ = some (.slice A1 ml c1) ∧ W.cell? ⟨w.heap.size, 1, none⟩ = some (.int .i64 n) from by
          obtain ⟨a0, a1, a2, a3, a4, a5⟩ := six ((h.block (w.heap.size + 1 + 1) (by omega)).trans hb2.out)
          exact ⟨a0, a1, a2, a3, a4, a5, (three ((h.block w.heap.size (by omega)).trans hb0.out)).2.1⟩)
        have hS0 := HS.out _ hd0
        refine region_lastp (fun W => W.cell? ⟨w.heap.size + 1 + 1, 0, none⟩ = some (.int .i64 3) ∧ W.cell? ⟨w.heap.size + 1 + 1, 1, none⟩ = some (.int .i64 n) ∧ W.cell? ⟨w.heap.size + 1 + 1, 2, none⟩ = some (.int .i64 ix) ∧ W.cell? ⟨w.heap.size + 1 + 1, 3, none⟩ = some (.int .u64 0) ∧ W.cell? ⟨w.heap.size + 1 + 1, 4, none⟩ = some (.string ⟨#[]⟩) ∧ W.cell? ⟨w.heap.size + 1 + 1, 5, none⟩ = some (.slice A1 ml c1) ∧ W.cell? ⟨w.heap.size, 1, none⟩ = some (.int .i64 n)) (by kernel_rfl) rfl (by kernel_rfl) ?_
        (try simp only [List.pop_toArray, List.dropLast_cons_cons, List.dropLast_singleton, List.size_toArray, List.length_cons, List.length_nil, Nat.zero_add, Nat.reduceAdd])
        refine wpAnyH_takeL (i := 0) (v := ?v14) rfl (by kernel_rfl) (by kernel_rfl) (by kernel_rfl) (fun _ _ _ h => h) (Or.inl ⟨by rfl, ?y14⟩) (by assumption) ?r14
        case y14 => (intro W hSw; (try dsimp only at hSw); go_simp; try with_reducible rfl)
        (try simp only [Act.put, List.setIfInBounds_toArray, List.set_cons_zero, List.set_cons_succ])
        refine wpAnyH_takeL (i := 1) (v := ?v15) rfl (by kernel_rfl) (by kernel_rfl) (by kernel_rfl) (fun _ _ _ h => h) (Or.inl ⟨by rfl, ?y15⟩) (by assumption) ?r15
        case y15 => (intro W hSw; (try dsimp only at hSw); go_simp; try with_reducible rfl)
        (try simp only [Act.put, List.setIfInBounds_toArray, List.set_cons_zero, List.set_cons_succ])
        refine wpAnyH_takeL (i := 2) (v := ?v16) rfl (by kernel_rfl) (by kernel_rfl) (by kernel_rfl) (fun _ _ _ h => h) (Or.inl ⟨by rfl, ?y16⟩) (by assumption) ?r16
        case y16 => (intro W hSw; (try dsimp only at hSw); go_simp; try with_reducible rfl)
        (try simp only [Act.put, List.setIfInBounds_toArray, List.set_cons_zero, List.set_cons_succ])
        refine wpAnyH_takeL (i := 3) (v := ?v17) rfl (by kernel_rfl) (by kernel_rfl) (by kernel_rfl) (fun _ _ _ h => h) (Or.inl ⟨by rfl, ?y17⟩) (by assumption) ?r17
        case y17 => (intro W hSw; (try dsimp only at hSw); go_simp; try with_reducible rfl)
        (try simp only [Act.put, List.setIfInBounds_toArray, List.set_cons_zero, List.set_cons_succ])
        refine wpAnyH_takeL (i := 4) (v := ?v18) rfl (by kernel_rfl) (by kernel_rfl) (by kernel_rfl) (fun _ _ _ h => h) (Or.inl ⟨by rfl, ?y18⟩) (by assumption) ?r18
        case y18 => (intro W hSw; (try dsimp only at hSw); go_simp; try with_reducible rfl)
        (try simp only [Act.put, List.setIfInBounds_toArray, List.set_cons_zero, List.set_cons_succ])
        refine wpAnyH_ready (rs := [5]) (by kernel_rfl) (by simp) ?_
        refine consL rfl (fun K hK => ?_) AllReadyH.nil
        (go_simp; refine Calls.mono (HB2.out _) ?_; rintro e w6 ⟨⟨v3, rfl, hv3, hv33⟩, hw6⟩; dsimp only)
        refine hK.out _ _ (HS.out w6 (hd0.trans (hw6.mono (Nat.le_of_eq rfl)))) (fun hHeld => ?_)
        clear hK K
        (try simp only [Act.put, List.setIfInBounds_toArray, List.set_cons_zero, List.set_cons_succ])
        have hm6 := hd0.trans (hw6.mono (Nat.le_of_eq rfl))
        have hVx : VaV w6 (LoV w6.heap.size) ⟨3, n, ix, 0, .empty, m⟩ (.agg #[.int .i64 3, .int .i64 n, .int .i64 ix, .int .u64 0, .string ⟨#[]⟩, .slice A1 ml c1]) := HMK.out _ _ _ _ _ _ Hm.out (hokm.out Hm.out) hc1.out hA1.out (hlm.out.to (fun b hb => ⟨Nat.lt_of_lt_of_le hb.2 hm6.size, hm6.block b hb.2⟩))
        have hPut := r6Put_any ⟨3, n, ix, 0, .empty, m⟩ _ v1 0 v3 w6 hVx (gr_u64 ⟨by omega, by omega⟩ hv1) (show U64 0 from ⟨by decide, by decide⟩) (by omega) (by show m.length < 100000; have := Hm.out; omega)
        refine wpAnyH_ready (rs := [6]) (by kernel_rfl) (by simp) ?_
        refine consL rfl (fun K hK => ?_) AllReadyH.nil
        (go_simp; refine Calls.mono hPut ?_; rintro e w7 ⟨v7, rfl, hv7, hw7⟩; dsimp only)
        refine hK.out _ _ (HS.out w7 (hm6.trans (hw7.mono hm6.size))) (fun hHeld => ?_)
        clear hK K
        (try simp only [Act.put, List.setIfInBounds_toArray, List.set_cons_zero, List.set_cons_succ])
        have hm7 := hm6.trans (hw7.mono hm6.size)
        obtain ⟨hok7, A7, c7, hve, hc7, hA7, hl7⟩ := hv7
        obtain ⟨n7, hn7⟩ : ∃ n7, n7 = (putE v1 0 v3 m).length := ⟨_, rfl⟩
        simp only at hve hc7 hl7
        rw [← hn7] at hve hc7
        have hve2 : v7 = .agg #[.int .i64 3, .int .i64 n, .int .i64 ix, .int .u64 0, .string ⟨#[]⟩, .slice A7 n7 c7] := hve
        subst hve2
        clear hve hHeld
        have Hn7 := Lib.hid hn7
        clear hn7
        have hO7 := (hm7.block (w.heap.size + 1 + 1) (by omega)).trans hb2.out
        obtain ⟨z0, z1, z2, z3, z4, z5⟩ := six hO7
        have hf7 := blk_frozen hO7
        have hO8 := Lib.hid (set6_at hO7 (.int .i64 3) (.int .i64 n) (.int .i64 ix) (.int .u64 0) (.string ⟨#[]⟩) (.slice A7 n7 c7))
        replace hO7 := Lib.hid hO7
        refine wpAnyH_done (by kernel_rfl) ?_ _
        refine lastQ_of rfl (fun K hK => ?_)
        go_simp
        refine hK.out _ _ ?_
        clear hK K
        go_wp2_with fail
        go_roundw
        case rel =>
          have hpl := put_len v1 0 v3 m
          refine ⟨j + 1, putE v1 0 v3 m, A7, n7, c7, by omega, by go_num, Hn7, by have := Hn7.out; have := Hm.out; omega, ?_, ?_, hO8.out, Lib.hid hc7, Lib.hid hA7, Lib.hid (hl7.to (fun b hb => ⟨⟨?_, ?_⟩, set6_heap _ _ _ _ _ _ ?_⟩)), Lib.hid ⟨put_ents hen.out.1 (by omega) (by unfold elOk; rw [if_pos rfl]; unfold stOk; simp; omega), hok7.2.2.2.1⟩, ?_, ?_⟩
          · exact (set6_heap _ _ _ _ _ _ (by omega)).trans ((hm7.block _ (by omega)).trans hb0.out)
          · exact (set6_heap _ _ _ _ _ _ (by omega)).trans ((hm7.block _ (by omega)).trans hb1.out)
          · have h1 := hb.1; have h2 := hm6.size; omega
          · rw [set6_size]; exact hb.2
          · have h1 := hb.1; have h2 := hm6.size; omega
          · exact set6_below (hW.trans (hm7.mono hW.size)) (by omega) _ _ _ _ _ _
          · rw [set6_size]; have := hm7.size; omega
        case measure => simp [intOf]; omega
      · have g2 : decide ((j : Int) < 5) = false := decide_eq_false (by omega)
        obtain ⟨q0, q1, q2, q3, q4, q5⟩ := six hb1
        have hf1 := blk_frozen hb1
        replace hb0 := Lib.hid hb0
        replace hb1 := Lib.hid hb1
        replace hb2 := Lib.hid hb2
        go_wp2_with fail
        refine bodyPost_ret (v := .agg #[.int .i64 3, .int .i64 n, .int .i64 ix, .int .u64 0, .string ⟨#[]⟩, .slice A1 ml c1]) (by simp [results, Try.results25, go_sem, q0, q1, q2, q3, q4, q5]) rfl ?_
        exact ⟨⟨3, n, ix, 0, .empty, m⟩, ⟨rfl, rfl, rfl⟩, arr_val (by omega) hs hen.out.1, (by have := Hm.out; show m.length ≤ 5; omega), _, rfl, HMK.out _ _ _ _ _ _ Hm.out (hokm.out Hm.out) hc1.out hA1.out (hlm.out.to (fun b hb => ⟨⟨by have := hb.1; omega, by rw [set6_size]; exact hb.2⟩, set6_heap _ _ _ _ _ _ (by have := hb.1; omega)⟩)), set6_below hW (Nat.le_succ _) _ _ _ _ _ _⟩
    · have g1 : decide ((j : Int) < (len : Int)) = false := decide_eq_false (by omega)
      obtain ⟨q0, q1, q2, q3, q4, q5⟩ := six hb1
      have hf1 := blk_frozen hb1
      replace hb0 := Lib.hid hb0
      replace hb1 := Lib.hid hb1
      replace hb2 := Lib.hid hb2
      go_wp2_with fail
      refine bodyPost_ret (v := .agg #[.int .i64 3, .int .i64 n, .int .i64 ix, .int .u64 0, .string ⟨#[]⟩, .slice A1 ml c1]) (by simp [results, Try.results25, go_sem, q0, q1, q2, q3, q4, q5]) rfl ?_
      exact ⟨⟨3, n, ix, 0, .empty, m⟩, ⟨rfl, rfl, rfl⟩, arr_val (by omega) hs hen.out.1, (by have := Hm.out; show m.length ≤ 5; omega), _, rfl, HMK.out _ _ _ _ _ _ Hm.out (hokm.out Hm.out) hc1.out hA1.out (hlm.out.to (fun b hb => ⟨⟨by have := hb.1; omega, by rw [set6_size]; exact hb.2⟩, set6_heap _ _ _ _ _ _ (by have := hb.1; omega)⟩)), set6_below hW (Nat.le_succ _) _ _ _ _ _ _⟩

theorem r6Of5_any (k n ix : Int) (w : World) (A : Option Addr) (c : Nat) (zs : List Int) (len : Nat) (hlen : len = zs.length) (hzs : ∀ z ∈ zs, I64 z) (hr : RdI w w.heap.size .i64 A zs) (hs : sortOk k n ix = true) : Calls Try.prog 25 #[.agg #[.int .i64 k, .int .i64 n, .int .i64 ix], .slice A len c] w fun e w' => OfPost5 k n ix w e w' := by
  rcases sort_kind hs with rfl | rfl | rfl | rfl
  · exact r6Of0_any n ix w A c zs len hlen hzs hr hs
  · exact r6Of1_any n ix w A c zs len hlen hzs hr hs
  · exact r6Of2_any n ix w A c zs len hlen hzs hr hs
  · exact r6Of3_any n ix w A c zs len hlen hzs hr hs
theorem r6Of_any (k n ix : Int) (w : World) (A : Option Addr) (c : Nat) (zs : List Int) (len : Nat) (hlen : len = zs.length) (hzs : ∀ z ∈ zs, I64 z) (hr : RdI w w.heap.size .i64 A zs) (hs : sortOk k n ix = true) : Calls Try.prog 25 #[.agg #[.int .i64 k, .int .i64 n, .int .i64 ix], .slice A len c] w fun e w' => OfPost k n ix w e w' :=
  (r6Of5_any k n ix w A c zs len hlen hzs hr hs).mono (fun _ _ h => h.post)
end Go.Proofs.Ytngfgohchnkidaa
