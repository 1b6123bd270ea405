/-
  THE WALK of the law's some: four values, the first one valid.
-/
import Derived.Test.YtngfgohchnkidaaR6Spo
import Derived.Test.YtngfgohchnkidaaVaRow
import Derived.Test.YtngfgohchnkidaaL6Math
import Derived.Test.YtngfgohchnkidaaR6OfA
import Derived.Test.YtngfgohchnkidaaR6Srt
import Derived.Deep.RegionHeld3
namespace Go.Proofs.Ytngfgohchnkidaa
open Go.RowKit

/-- a valid value is small -/
theorem val_small {x : Va} (hok : x.ok) (h : valE x = 0) : x.s.size ≤ 64 ∧ x.m.length ≤ 65536 := by
  obtain ⟨hs, hv⟩ := val_parts h
  have hn : x.n ≤ 64 ∧ x.ix ≤ 16 ∧ 0 ≤ x.ix := by
    rcases sort_kind hs with hk | hk | hk | hk <;> (rw [hk] at hs; simp [sortOk] at hs; omega)
  rcases sort_kind hs with hk | hk | hk | hk
  · unfold valOk at hv
    rw [if_pos hk] at hv
    unfold bvOk at hv
    rw [Bool.and_eq_true, Bool.and_eq_true] at hv
    have h1 := beq_iff_eq.1 hv.1.2
    have h2 := beq_iff_eq.1 hv.2
    omega
  · unfold valOk at hv
    rw [if_neg (by omega), if_pos hk] at hv
    unfold stOk at hv
    rw [Bool.and_eq_true, Bool.and_eq_true] at hv
    have h1 := of_decide_eq_true hv.1.2
    have h2 := beq_iff_eq.1 hv.2
    omega
  all_goals
    obtain ⟨_, _, _, h2, h3⟩ := val_arr h (by rw [hk]; rfl)
    have hg : grI x.ix ≤ 65535 := by
      have hp : (2 : Int) ^ x.ix.toNat ≤ 2 ^ 16 := by exact_mod_cast Nat.pow_le_pow_right (by decide) (by omega)
      unfold grI
      omega
    have h4 := srt_len (B := 65535) (ents_srt h3) (fun e he => by
      have h5 := ents_one h3 e he
      have h6 := (hok.2.2.2.1 e he).1.1
      unfold en1 at h5
      simp at h5
      omega) (by decide)
    omega
theorem vav_len {w : World} {S : Nat → Prop} {k n ix u : Int} {s : ByteArray} {l : List En} {k' n' ix' u' : Int} {s' : ByteArray} {A : Option Addr} {ln c : Nat} (h : VaV w S ⟨k, n, ix, u, s, l⟩ (.agg #[.int .i64 k', .int .i64 n', .int .i64 ix', .int .u64 u', .string s', .slice A ln c])) : ln = l.length := by
  obtain ⟨_, A2, c2, e, _⟩ := h
  unfold vav at e
  injection e with e
  have h5 := congrArg (fun a : Array Value => a[5]?) e
  simp at h5
  exact h5.2.1
theorem quo3 {b : Int} (hb : I64 b) : ∃ q : Int, I64 q ∧ IntKind.i64.wrap (b.tdiv 3) = q := by
  obtain ⟨h1, h2⟩ := hb
  have h3 : -9223372036854775808 ≤ b.tdiv 3 ∧ b.tdiv 3 ≤ 9223372036854775807 := by
    by_cases h : 0 ≤ b
    · rw [Int.tdiv_eq_ediv_of_nonneg h]; omega
    · have h4 : b.tdiv 3 = -((-b).tdiv 3) := by rw [Int.neg_tdiv, Int.neg_neg]
      rw [h4, Int.tdiv_eq_ediv_of_nonneg (by omega)]; omega
  exact ⟨b.tdiv 3, ⟨by omega, by omega⟩, IntWalk.i64_in _ ⟨by omega, by omega⟩⟩
theorem nil_ok : nilV.ok := ⟨⟨(show I64 0 from ⟨by decide, by decide⟩), (show I64 0 from ⟨by decide, by decide⟩), (show I64 0 from ⟨by decide, by decide⟩)⟩, (show U64 0 from ⟨by decide, by decide⟩), (show (0 : Nat) ≤ 1000000 from by decide), (fun e (he : e ∈ ([] : List En)) => by cases he), (show (0 : Nat) ≤ 100000 from by decide)⟩
/-- what some hands back -/
def SomePost (n : Int) (w : World) (e : Ending) (w' : World) : Prop := ∃ (l : List Vr) (B : Nat), e = .returned (.slice (some ⟨B, 0, none⟩) 4 4) ∧ l.length = 4 ∧ w.heap.size ≤ B ∧ w'.heap[B]? = some (.cells (l.flatMap Vr.cells).toArray 30 (0, 0)) ∧ (∀ p ∈ l, VaV w' (fun b => w.heap.size ≤ b ∧ b < B) p.x p.val) ∧
  (∃ x0, l.head? = some x0 ∧ valE x0.x = 0 ∧ x0.x.k = (((aroundI n 1048576).toNat % 4 : Nat) : Int)) ∧ Below w.heap.size w w'
/-- the same, and none has more than seven entries -/
def SomePost7 (n : Int) (w : World) (e : Ending) (w' : World) : Prop := ∃ (l : List Vr) (B : Nat), (∀ p ∈ l, p.x.m.length ≤ 7) ∧ e = .returned (.slice (some ⟨B, 0, none⟩) 4 4) ∧ l.length = 4 ∧ w.heap.size ≤ B ∧ w'.heap[B]? = some (.cells (l.flatMap Vr.cells).toArray 30 (0, 0)) ∧ (∀ p ∈ l, VaV w' (fun b => w.heap.size ≤ b ∧ b < B) p.x p.val) ∧
  (∃ x0, l.head? = some x0 ∧ valE x0.x = 0 ∧ x0.x.k = (((aroundI n 1048576).toNat % 4 : Nat) : Int)) ∧ Below w.heap.size w w'
theorem SomePost7.post {n : Int} {w w' : World} {e : Ending} (h : SomePost7 n w e w') : SomePost n w e w' := by
  obtain ⟨l, B, _, h2⟩ := h
  exact ⟨l, B, h2⟩

set_option maxHeartbeats 4000000 in
set_option maxRecDepth 100000 in
theorem l6some7_any (n : Int) (A : Option Addr) (c : Nat) (zs : List Int) (len : Nat) (a h b : Int) (w : World) (hn : I64 n) (hlen : len = zs.length) (hzs : ∀ z ∈ zs, I64 z) (hr : RdI w w.heap.size .i64 A zs) (ha : I64 a) (hh : I64 h) (hb : I64 b) : Calls Try.prog 9 #[.int .i64 n, .slice A len c, .int .i64 a, .int .i64 h, .int .i64 b] w fun e w' => SomePost7 n w e w' := by
  have H := Lib.hid (And.intro hlen (And.intro hzs hr))
  have HI := Lib.hid (And.intro ha (And.intro hh hb))
  clear hlen hzs hr ha hh hb
  go_enter Try.func9, Try.ntmps9
  go_wp2_with fail
  refine Calls.mono (r6Sort_any n w hn) ?_
  rintro e w1 ⟨k, m, ix, rfl, hs, hk, hw1⟩
  have HK := Lib.hid hk
  have HS := Lib.hid hs
  clear hk hs
  go_wp2_with fail
  refine Calls.mono (r6Of5_any k m ix w1 A c zs len H.out.1 H.out.2.1 ((H.out.2.2.below hw1).mono hw1.size) HS.out) ?_
  rintro e w2 ⟨x, ⟨hxk, hxn, hxi⟩, hval, hx5, v, rfl, hv, hw2⟩
  have hB2 := hw1.trans (hw2.mono hw1.size)
  have hxk2 := Lib.hid (show x.k = (((aroundI n 1048576).toNat % 4 : Nat) : Int) from by rw [hxk]; exact HK.out)
  have hsm := val_small hv.1 hval
  have Hval := Lib.hid hval
  clear hxk hxn hxi hval HK
  obtain ⟨k1, m1, i1, u1, s1, l1⟩ := x
  obtain ⟨A2, n2, c2, hve⟩ := hv.shape
  have hve' : v = .agg #[.int .i64 k1, .int .i64 m1, .int .i64 i1, .int .u64 u1, .string s1, .slice A2 n2 c2] := hve
  subst hve'
  clear hve
  have hn2 := Lib.hid (show n2 = l1.length from vav_len hv)
  simp only at hxk2 hsm hx5
  go_wp2_with fail
  have hv3 : VaV (w2.alloc (.cells #[.int .i64 k1, .int .i64 m1, .int .i64 i1, .int .u64 u1, .string s1, .slice A2 n2 c2] 30)) (LoV (w2.alloc (.cells #[.int .i64 k1, .int .i64 m1, .int .i64 i1, .int .u64 u1, .string s1, .slice A2 n2 c2] 30)).heap.size) (⟨k1, m1, i1, u1, s1, l1⟩ : Va) (.agg #[.int .i64 k1, .int .i64 m1, .int .i64 i1, .int .u64 u1, .string s1, .slice A2 n2 c2]) := hv.to (fun b hb => ⟨Nat.lt_trans hb.2 (by simp), Below.heap_alloc w2 _ b hb.2⟩)
  have hvx3 : VaV (w2.alloc (.cells #[.int .i64 k1, .int .i64 m1, .int .i64 i1, .int .u64 u1, .string s1, .slice A2 n2 c2] 30)) (fun b => w.heap.size ≤ b ∧ b < (w2.alloc (.cells #[.int .i64 k1, .int .i64 m1, .int .i64 i1, .int .u64 u1, .string s1, .slice A2 n2 c2] 30)).heap.size) (⟨k1, m1, i1, u1, s1, l1⟩ : Va) (.agg #[.int .i64 k1, .int .i64 m1, .int .i64 i1, .int .u64 u1, .string s1, .slice A2 n2 c2]) := hv.to (fun b hb => ⟨⟨Nat.le_trans hw1.size hb.1, Nat.lt_trans hb.2 (by simp)⟩, Below.heap_alloc w2 _ b hb.2⟩)
  have hb1 := heap_alloc_new w2 (.cells #[.int .i64 k1, .int .i64 m1, .int .i64 i1, .int .u64 u1, .string s1, .slice A2 n2 c2] 30)
  have hB3 := hB2.alloc hB2.size (.cells #[.int .i64 k1, .int .i64 m1, .int .i64 i1, .int .u64 u1, .string s1, .slice A2 n2 c2] 30)
  have hz3 : (w2.alloc (.cells #[.int .i64 k1, .int .i64 m1, .int .i64 i1, .int .u64 u1, .string s1, .slice A2 n2 c2] 30)).heap.size = w2.heap.size + 1 := by simp
  have hSp := r6Spoilt_any (⟨k1, m1, i1, u1, s1, l1⟩ : Va) _ a h b _ hv3 HI.out.1 HI.out.2.1 HI.out.2.2 (by show s1.size + 2 ≤ _; omega) (by show l1.length < _; omega)
  generalize w2.alloc (.cells #[.int .i64 k1, .int .i64 m1, .int .i64 i1, .int .u64 u1, .string s1, .slice A2 n2 c2] 30) = w3 at *
  refine Calls.mono hSp ?_
  clear hSp
  rintro e w4 ⟨y, hsz, v4, rfl, hv4, hw4⟩
  have hB4 := hB3.trans (hw4.mono hB3.size)
  simp only at hsz
  obtain ⟨k4, m4, i4, u4, s4, l4⟩ := y
  obtain ⟨A5, n5, c5, hve⟩ := hv4.shape
  have hve' : v4 = .agg #[.int .i64 k4, .int .i64 m4, .int .i64 i4, .int .u64 u4, .string s4, .slice A5 n5 c5] := hve
  subst hve'
  clear hve
  have hn5 := Lib.hid (show n5 = l4.length from vav_len hv4)
  simp only at hsz
  go_wp2_with fail
  have hb4 := heap_alloc_new w4 (.cells #[.int .i64 k4, .int .i64 m4, .int .i64 i4, .int .u64 u4, .string s4, .slice A5 n5 c5] 30)
  have hB5 := hB4.alloc hB4.size (.cells #[.int .i64 k4, .int .i64 m4, .int .i64 i4, .int .u64 u4, .string s4, .slice A5 n5 c5] 30)
  have hz5 : (w4.alloc (.cells #[.int .i64 k4, .int .i64 m4, .int .i64 i4, .int .u64 u4, .string s4, .slice A5 n5 c5] 30)).heap.size = w4.heap.size + 1 := by simp
  have hst : Below w3.heap.size w3 (w4.alloc (.cells #[.int .i64 k4, .int .i64 m4, .int .i64 i4, .int .u64 u4, .string s4, .slice A5 n5 c5] 30)) := hw4.alloc hw4.size _
  have hvy : VaV (w4.alloc (.cells #[.int .i64 k4, .int .i64 m4, .int .i64 i4, .int .u64 u4, .string s4, .slice A5 n5 c5] 30)) (LoV (w4.alloc (.cells #[.int .i64 k4, .int .i64 m4, .int .i64 i4, .int .u64 u4, .string s4, .slice A5 n5 c5] 30)).heap.size) (⟨k4, m4, i4, u4, s4, l4⟩ : Va) (.agg #[.int .i64 k4, .int .i64 m4, .int .i64 i4, .int .u64 u4, .string s4, .slice A5 n5 c5]) := hv4.to (fun b hb => ⟨Nat.lt_trans hb.2 (by simp), Below.heap_alloc w4 _ b hb.2⟩)
  have hmid1 : ∀ b, MidV w1.heap.size w2.heap.size b → b < w3.heap.size := fun b hb => by have := hb.2; omega
  have hvx : VaV (w4.alloc (.cells #[.int .i64 k4, .int .i64 m4, .int .i64 i4, .int .u64 u4, .string s4, .slice A5 n5 c5] 30)) (fun b => w.heap.size ≤ b ∧ b < (w4.alloc (.cells #[.int .i64 k4, .int .i64 m4, .int .i64 i4, .int .u64 u4, .string s4, .slice A5 n5 c5] 30)).heap.size) (⟨k1, m1, i1, u1, s1, l1⟩ : Va) (.agg #[.int .i64 k1, .int .i64 m1, .int .i64 i1, .int .u64 u1, .string s1, .slice A2 n2 c2]) := hvx3.to (fun b hb => ⟨⟨hb.1, Nat.lt_of_lt_of_le hb.2 hst.size⟩, hst.block b hb.2⟩)
  have hvy2 : VaV (w4.alloc (.cells #[.int .i64 k4, .int .i64 m4, .int .i64 i4, .int .u64 u4, .string s4, .slice A5 n5 c5] 30)) (fun b => w.heap.size ≤ b ∧ b < (w4.alloc (.cells #[.int .i64 k4, .int .i64 m4, .int .i64 i4, .int .u64 u4, .string s4, .slice A5 n5 c5] 30)).heap.size) (⟨k4, m4, i4, u4, s4, l4⟩ : Va) (.agg #[.int .i64 k4, .int .i64 m4, .int .i64 i4, .int .u64 u4, .string s4, .slice A5 n5 c5]) := hv4.to (fun b hb => ⟨⟨Nat.le_trans hB3.size hb.1, Nat.lt_trans hb.2 (by simp)⟩, Below.heap_alloc w4 _ b hb.2⟩)
  have hb15 := (hst.block w2.heap.size (by omega)).trans hb1
  generalize w4.alloc (.cells #[.int .i64 k4, .int .i64 m4, .int .i64 i4, .int .u64 u4, .string s4, .slice A5 n5 c5] 30) = w5 at *
  have HSZ := Lib.hid (show s4.size + 2 ≤ 1000000 ∧ l4.length < 100000 from ⟨by omega, by omega⟩)
  have HL4 := Lib.hid (show l1.length ≤ 5 ∧ l4.length ≤ 6 from ⟨hx5, by omega⟩)
  have hd : Below w5.heap.size w5 w5.drew := (Below.refl _ _).drew
  have HSa : ∀ W, Below w5.heap.size w5 W → W.cell? ⟨w2.heap.size, 0, none⟩ = some (.int .i64 k1) ∧ W.cell? ⟨w2.heap.size, 1, none⟩ = some (.int .i64 m1) ∧ W.cell? ⟨w2.heap.size, 2, none⟩ = some (.int .i64 i1) ∧ W.cell? ⟨w2.heap.size, 3, none⟩ = some (.int .u64 u1) ∧ W.cell? ⟨w2.heap.size, 4, none⟩ = some (.string s1) ∧ W.cell? ⟨w2.heap.size, 5, none⟩ = some (.slice A2 n2 c2) := fun W hW => six ((hW.block _ (by have := hw4.size; omega)).trans hb15)
  have HSb : ∀ W, Below w5.heap.size w5 W → W.cell? ⟨w4.heap.size, 0, none⟩ = some (.int .i64 k4) ∧ W.cell? ⟨w4.heap.size, 1, none⟩ = some (.int .i64 m4) ∧ W.cell? ⟨w4.heap.size, 2, none⟩ = some (.int .i64 i4) ∧ W.cell? ⟨w4.heap.size, 3, none⟩ = some (.int .u64 u4) ∧ W.cell? ⟨w4.heap.size, 4, none⟩ = some (.string s4) ∧ W.cell? ⟨w4.heap.size, 5, none⟩ = some (.slice A5 n5 c5) := fun W hW => six ((hW.block _ (by omega)).trans hb4)
  have HS := Lib.hid (show ∀ W, Below w5.heap.size w5 W → (fun W : World => (W.cell? ⟨w2.heap.size, 0, none⟩ = some (.int .i64 k1) ∧ W.cell? ⟨w2.heap.size, 1, none⟩ = some (.int .i64 m1) ∧ W.cell? ⟨w2.heap.size, 2, none⟩ = some (.int .i64 i1) ∧ W.cell? ⟨w2.heap.size, 3, none⟩ = some (.int .u64 u1) ∧ W.cell? ⟨w2.heap.size, 4, none⟩ = some (.string s1) ∧ W.cell? ⟨w2.heap.size, 5, none⟩ = some (.slice A2 n2 c2)) ∧ W.cell? ⟨w4.heap.size, 0, none⟩ = some (.int .i64 k4) ∧ W.cell? ⟨w4.heap.size, 1, none⟩ = some (.int .i64 m4) ∧ W.cell? ⟨w4.heap.size, 2, none⟩ = some (.int .i64 i4) ∧ W.cell? ⟨w4.heap.size, 3, none⟩ = some (.int .u64 u4) ∧ W.cell? ⟨w4.heap.size, 4, none⟩ = some (.string s4) ∧ W.cell? ⟨w4.heap.size, 5, none⟩ = some (.slice A5 n5 c5)) W from fun W hW => ⟨HSa W hW, HSb W hW⟩)
  have HVY := Lib.hid (fun W (h : Below w5.heap.size w5 W) => hvy.call h)
  clear HSa HSb hb15 hb4 hb1 hvy
  obtain ⟨q, hq1, hq2⟩ : ∃ q : Int, I64 q ∧ IntKind.i64.wrap (b.tdiv 3) = q := quo3 HI.out.2.2
  have HQ := Lib.hid hq1
  go_region_held3 (fun W => (W.cell? ⟨w2.heap.size, 0, none⟩ = some (.int .i64 k1) ∧ W.cell? ⟨w2.heap.size, 1, none⟩ = some (.int .i64 m1) ∧ W.cell? ⟨w2.heap.size, 2, none⟩ = some (.int .i64 i1) ∧ W.cell? ⟨w2.heap.size, 3, none⟩ = some (.int .u64 u1) ∧ W.cell? ⟨w2.heap.size, 4, none⟩ = some (.string s1) ∧ W.cell? ⟨w2.heap.size, 5, none⟩ = some (.slice A2 n2 c2)) ∧ W.cell? ⟨w4.heap.size, 0, none⟩ = some (.int .i64 k4) ∧ W.cell? ⟨w4.heap.size, 1, none⟩ = some (.int .i64 m4) ∧ W.cell? ⟨w4.heap.size, 2, none⟩ = some (.int .i64 i4) ∧ W.cell? ⟨w4.heap.size, 3, none⟩ = some (.int .u64 u4) ∧ W.cell? ⟨w4.heap.size, 4, none⟩ = some (.string s4) ∧ W.cell? ⟨w4.heap.size, 5, none⟩ = some (.slice A5 n5 c5))
    (first | with_reducible exact HS.out _ hd | with_reducible exact HS.out _ (by assumption) | with_reducible exact HS.out _ (hc6.alloc hc6.size _) | exact HS.out _ (hc6.alloc hc6.size _))
    (first | (go_at_call 39; (with_reducible refine Calls.mono (r6Spoilt_any (⟨k4, m4, i4, u4, s4, l4⟩ : Va) _ h a q _ (HVY.out _ hd) HI.out.2.1 HI.out.1 HQ.out (HSZ.out.1) (HSZ.out.2)) ?_); rintro e w6 ⟨z, hsz6, v6, rfl, hv6, hw6⟩; have hc6 : Below w5.heap.size w5 w6 := hd.trans (hw6.mono hd.size); obtain ⟨k6, m6, i6, u6, s6, l6⟩ := z; obtain ⟨A7, n7, c7, hve⟩ := hv6.shape; have hve' : v6 = .agg #[.int .i64 k6, .int .i64 m6, .int .i64 i6, .int .u64 u6, .string s6, .slice A7 n7 c7] := hve; subst hve'; clear hve; have hn7 := Lib.hid (show n7 = l6.length from vav_len hv6)) | fail)
  go_wp2_with fail
  go_ret
  have e2 := hn2.out
  have e5 := hn5.out
  have e7 := hn7.out
  subst e2 e5 e7
  have hS56 := hc6.size
  have HL6 : l6.length ≤ l4.length + 1 := hsz6.2
  refine ⟨[⟨⟨k1, m1, i1, u1, s1, l1⟩, A2, c2⟩, ⟨⟨k4, m4, i4, u4, s4, l4⟩, A5, c5⟩, ⟨⟨k6, m6, i6, u6, s6, l6⟩, A7, c7⟩, ⟨nilV, none, 0⟩], w6.heap.size, (fun p hp => ?_), rfl, rfl, Nat.le_trans hB5.size hS56, heap_alloc_new w6 _, fun p hp => ?_, ⟨_, rfl, Hval.out, hxk2.out⟩, (hB5.trans (hc6.mono hB5.size)).alloc (Nat.le_trans hB5.size hS56) _⟩
  · have := HL4.out
    simp only [List.mem_cons, List.not_mem_nil, or_false] at hp
    rcases hp with rfl | rfl | rfl | rfl
    · show l1.length ≤ 7; omega
    · show l4.length ≤ 7; omega
    · show l6.length ≤ 7; omega
    · exact Nat.zero_le _
  simp only [List.mem_cons, List.not_mem_nil, or_false] at hp
  rcases hp with rfl | rfl | rfl | rfl
  · exact hvx.to (fun b hb => ⟨⟨hb.1, Nat.lt_of_lt_of_le hb.2 hS56⟩, (Below.heap_alloc w6 _ b (Nat.lt_of_lt_of_le hb.2 hS56)).trans (hc6.block b hb.2)⟩)
  · exact hvy2.to (fun b hb => ⟨⟨hb.1, Nat.lt_of_lt_of_le hb.2 hS56⟩, (Below.heap_alloc w6 _ b (Nat.lt_of_lt_of_le hb.2 hS56)).trans (hc6.block b hb.2)⟩)
  · exact hv6.to (fun b hb => ⟨⟨Nat.le_trans hB5.size hb.1, hb.2⟩, Below.heap_alloc w6 _ b hb.2⟩)
  · exact VaV.mk (x := nilV) nil_ok (Nat.le_refl _) (fun _ => rfl) (.inl rfl)
theorem l6some_any (n : Int) (A : Option Addr) (c : Nat) (zs : List Int) (len : Nat) (a h b : Int) (w : World) (hn : I64 n) (hlen : len = zs.length) (hzs : ∀ z ∈ zs, I64 z) (hr : RdI w w.heap.size .i64 A zs) (ha : I64 a) (hh : I64 h) (hb : I64 b) : Calls Try.prog 9 #[.int .i64 n, .slice A len c, .int .i64 a, .int .i64 h, .int .i64 b] w fun e w' => SomePost n w e w' :=
  (l6some7_any n A c zs len a h b w hn hlen hzs hr ha hh hb).mono (fun _ _ h => h.post)
end Go.Proofs.Ytngfgohchnkidaa
