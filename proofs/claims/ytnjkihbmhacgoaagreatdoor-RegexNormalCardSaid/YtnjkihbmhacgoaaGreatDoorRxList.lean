/-
  THE WALKS of list with two parts, of sequence, conjunction, expression.
-/
import Derived.Test.YtnjkihbmhacgoaaGreatDoorRxAtom
namespace Go.Proofs.YtnjkihbmhacgoaaGreatDoor
open Go.RowKit

/-- a row of one element, as a literal lays it -/
theorem own_lit {W : World} {base : Nat} {e : TypeId} (hb : base ≤ W.heap.size) (t : Tn) : (W.alloc (.cells t.cells.toArray e)).ownsRow base e 4 (.slice (some ⟨W.heap.size, 0, none⟩) 1 1) 1 t.cells :=
  ⟨rfl, .inr ⟨W.heap.size, 1, _, rfl, hb, heap_alloc_new W _, Nat.le_refl _, by decide, rfl, rfl⟩⟩

/-- two parts, one behind the other, in a row of the call's own -/
theorem rt_two {w1 w3 w4 : World} {n g' cap : Nat} {r r2 : Rx} {A1 A2 : Option Addr} {d1 d2 : Nat} {e : TypeId} (h1 : RtV w1 (Mid n w1.heap.size) r (rxv r.kind r.lo r.hi A1 r.kids.length d1)) (h2 : RtV w3 (Mid (w1.heap.size + 1) w3.heap.size) r2 (rxv r2.kind r2.lo r2.hi A2 r2.kids.length d2))
    (hn : n ≤ w1.heap.size) (hk1 : ∀ b, n ≤ b → b < w1.heap.size → w3.heap[b]? = w1.heap[b]?) (hz : w1.heap.size < w3.heap.size) {o : Obj}
    (hgr : (w3.alloc o).grownBy w4 (some w1.heap.size)) (hat : some w1.heap.size = some g' ∨ g' = w3.heap.size + 1) (hlt : g' < w4.heap.size)
    (hown : w4.ownsRow n e 4 (.slice (some ⟨g', 0, none⟩) 2 cap) 2 (Tn.cells ⟨r, A1, d1⟩ ++ Tn.cells ⟨r2, A2, d2⟩)) : RtL w4 (Mid n w4.heap.size) [r, r2] (some ⟨g', 0, none⟩) := by
  have hb4 : ∀ b, b < w3.heap.size → b ≠ w1.heap.size → w4.heap[b]? = w3.heap[b]? := fun b hb hne => (hgr.block b (by simp; omega) (fun e => by injection e with e; omega)).trans (Below.heap_alloc w3 o b hb)
  have hs4 : w3.heap.size < w4.heap.size := by have := hgr.size; simp at this; omega
  have hg0 : n ≤ g' := by rcases hat with h | h
                          · injection h with h; omega
                          · omega
  refine rtl_of_cells (w := w4) (S := Mid n w4.heap.size) (g := g') ⟨hg0, hlt⟩ [⟨r, A1, d1⟩, ⟨r2, A2, d2⟩] 0 (fun j u hj => ?_) (fun t ht => ?_)
  · rw [Nat.zero_add]
    have h := hown.cells (g := g') rfl j u (by simpa using hj)
    have hadd : (⟨g', 0, none⟩ : Addr).add j = ⟨g', j, none⟩ := by unfold Addr.add; split <;> simp_all
    rwa [hadd] at h
  · simp only [List.mem_cons, List.not_mem_nil, or_false] at ht
    rcases ht with rfl | rfl
    · exact RtV.to (fun b hb => ⟨⟨hb.1, by have := hb.2; omega⟩, (hb4 b (by have := hb.2; omega) (by have := hb.2; omega)).trans (hk1 b hb.1 hb.2)⟩) r h1
    · exact RtV.to (fun b hb => ⟨⟨by have := hb.1; omega, by have := hb.2; omega⟩, hb4 b hb.2 (by have := hb.1; omega)⟩) r2 h2

theorem grown_row {w W W4 : World} {g n : Nat} {o : Obj} (h : w.grownBy W (some g)) (hg : (W.alloc o).grownBy W4 (some n)) (hn : w.heap.size ≤ n) : w.grownBy W4 (some g) :=
  ⟨hg.os.trans h.os, hg.tape.trans h.tape, hg.output.trans h.output, Nat.le_trans h.size (by have := hg.size; simp at this; omega), fun k hk hne =>
    (hg.block k (by have := h.size; simp; omega) (fun e => by injection e with e; omega)).trans ((Below.heap_alloc W o k (by have := h.size; omega)).trans (h.block k hk hne))⟩
theorem par_row {W W4 : World} {B g n : Nat} {s : Ps} {o : Obj} (h : ParAt W B g s) (hg : (W.alloc o).grownBy W4 (some n)) (hn : B ≤ n) : ParAt W4 B g s :=
  h.low (by have := hg.size; simp at this; omega) (fun j hj => (hg.block j (by have := h.lt; simp; omega) (fun e => by injection e with e; omega)).trans (Below.heap_alloc W o j (by have := h.lt; omega)))

set_option maxHeartbeats 2000000 in
theorem list_two {F : Nat} (hF : F = 75 ∨ F = 85) {k : ByteArray} {s s1 s2 s3 : Ps} {r r2 : Rx} (hI : PC F s r s1) (hY : TakeY k s1 s2) (hI2 : PC F s2 r2 s3) (hN : TakeN k s3) : LC F k s [r, r2] s3 := by
  intro B g w hp
  have hgl := hp.lt
  obtain ⟨i0, hi, hz0, hz1, hz2⟩ := info_parts info_Regex
  rcases hF with rfl | rfl
  all_goals
    go_enter Tryz.func74, Tryz.ntmps74
    go_wp2_with (first
      | (go_at_call 75; refine (hI B g _ hp).mono ?_; rintro e w1 ⟨v, rfl, hv, hp1, hg1⟩; have hw1 := hg1.size; obtain ⟨⟨ok1, ok2, ok3, ok4⟩, A1, d1, rfl, hd1, hA1, hs1⟩ := hv.parts; simp only [rxv])
      | (go_at_call 85; refine (hI B g _ hp).mono ?_; rintro e w1 ⟨v, rfl, hv, hp1, hg1⟩; have hw1 := hg1.size; obtain ⟨⟨ok1, ok2, ok3, ok4⟩, A1, d1, rfl, hd1, hA1, hs1⟩ := hv.parts; simp only [rxv]))
    have hp2 := hp1.below ((Below.refl _ _).alloc (Nat.le_refl _) (.cells #[.int .i64 r.kind, .int .u8 r.lo, .int .u8 r.hi, .slice A1 r.kids.length d1] 30))
    have hC := takeY hY B g _ hp2
    refine wp_loop_rounds 2 ?_
    rw [rounds_succ]
    go_wp2_with (first
      | (go_at_call 84; (with_reducible refine Calls.mono hC ?_); clear hC; rintro e w2 ⟨rfl, hp3, hg2⟩; have hw2 := hg2.size; simp at hw2)
      | (go_at_call 75; refine (hI2 B g _ hp3).mono ?_; rintro e w3 ⟨v2, rfl, hv2, hp4, hg3⟩; have hw3 := hg3.size; obtain ⟨⟨ik1, ik2, ik3, ik4⟩, A2, d2, rfl, hd2, hA2, hs2⟩ := hv2.parts; have hrow := own_kept (own_lit (base := w.heap.size) (e := 30) hw1 ⟨r, A1, d1⟩) (w' := w3) (fun b hb he => by simp [Value.ownBlock] at he; subst he; exact (hg2.trans hg3).block _ (by simp) (fun e => by injection e with e; omega)); simp only [rxv])
      | (go_at_call 85; refine (hI2 B g _ hp3).mono ?_; rintro e w3 ⟨v2, rfl, hv2, hp4, hg3⟩; have hw3 := hg3.size; obtain ⟨⟨ik1, ik2, ik3, ik4⟩, A2, d2, rfl, hd2, hA2, hs2⟩ := hv2.parts; have hrow := own_kept (own_lit (base := w.heap.size) (e := 30) hw1 ⟨r, A1, d1⟩) (w' := w3) (fun b hb he => by simp [Value.ownBlock] at he; subst he; exact (hg2.trans hg3).block _ (by simp) (fun e => by injection e with e; omega)); simp only [rxv])
      | (at_builtin; refine wpList_append_lies _ rfl _ _ 28 rfl w.heap.size 30 i0 (.agg #[.int .i64 0, .int .u8 0, .int .u8 0, .slice none 0 0]) 4 40 Tryz.underlying28 hi hz0 hz1 hz2 rfl (by decide) (.slice (some ⟨w1.heap.size, 0, none⟩) 1 1) 1 _ rfl (hrow.alloc _) ⟨w3.heap.size, 0, none⟩ 1 1 (Tn.cells ⟨r2, A2, d2⟩) rfl rfl (World.news_of_block (cs := #[.int .i64 r2.kind, .int .u8 r2.lo, .int .u8 r2.hi, .slice A2 r2.kids.length d2]) (t := 30) (fr := (0, 0)) (heap_alloc_new w3 _)) (tn_one1 _) (by decide) (by decide) (by decide) (by simp; omega) (w3.heap.size + 1) (by simp) ?_; intro g' cap' w4 hown4 hgrow4 hat4 hlt4))
    have hp5 := par_row hp4 hgrow4 (show B ≤ w1.heap.size by omega)
    have hC := takeN hN B g _ hp5
    have hx := rt_two hv (rt_from hv2 (by simpa using hw2)) hw1 (fun b hb1 hb2 => ((hg2.trans hg3).block b (by simp; omega) (fun e => by injection e with e; omega)).trans (Below.heap_alloc w1 _ b hb2)) (by omega) hgrow4 hat4 hlt4 hown4
    rw [rounds_succ]
    go_wp2_with (go_at_call 84; (with_reducible refine Calls.mono hC ?_); clear hC; rintro e w5 ⟨rfl, rfl⟩)
    go_ret
    exact ⟨_, cap', rfl, own_cap hown4, (fun h => by cases h), hx, hp5, grown_row (hg1.trans ((World.grownBy_alloc _ _ _).trans (hg2.trans hg3))) hgrow4 hw1⟩

/-- single's answer, stored as a result -/
theorem single_mid (k : Int) (l : List Rx) (A : Option Addr) (c n : Nat) (w : World) (hl : RtL w (Mid n w.heap.size) l A) (hk : I64 k) (hlen : l.length ≤ 1048576) (hc : l.length ≤ c) (hA : A = none → c = 0) :
    Calls Tryz.prog 73 #[.int .i64 k, .slice A l.length c] w fun e w' => ∃ v, e = .returned v ∧ RtV w' (Mid n w'.heap.size) (sing k l) v ∧ Below w.heap.size w w' :=
  (single_any k l A c w _ (fun _ h => h.2) hl hk hlen hc hA).mono fun _ _ ⟨v, he, hv, hb⟩ => ⟨v, he, RtV.to (fun _ h => ⟨⟨h.1, Nat.lt_of_lt_of_le h.2 hb.size⟩, rfl⟩) _ hv, hb⟩
theorem grown_below {w W W' : World} {g : Nat} (h : w.grownBy W (some g)) (hb : Below W.heap.size W W') : w.grownBy W' (some g) :=
  ⟨hb.os.trans h.os, hb.tape.trans h.tape, hb.output.trans h.output, Nat.le_trans h.size hb.size, fun k hk hne => (hb.block k (Nat.lt_of_lt_of_le hk h.size)).trans (h.block k hk hne)⟩

set_option maxHeartbeats 2000000 in
theorem conj_any {s s2 : Ps} {l : List Rx} (hl1 : l.length ≤ 1000) (hL : LC 85 ⟨#[38]⟩ s l s2) : PC 75 s (sing 5 l) s2 := by
  intro B g w hp
  have hgl := hp.lt
  have hmf : ∀ (fn : Fn) (first cap : Array Value) (w : World), (Instr.makeFunc fn first cap).run Tryz.prog w = .ok (.func fn first cap) w := fun _ _ _ _ => rfl
  have hp0 := hp.below ((Below.refl _ w).alloc (Nat.le_refl _) (.cells #[.int .i64 0, .int .u8 0, .int .u8 0, .slice none 0 0] 30))
  have hC := hL B g _ hp0
  clear hp hp0
  go_enter Tryz.func75, Tryz.ntmps75
  go_wp2_with (first
    | (go_at_call 74; refine hC.mono ?_; clear hC; rintro e w1 ⟨A, c, rfl, hc, hA, hl, hp1, hg1⟩; have hw1 := hg1.size; simp at hw1)
    | (go_at_call 73; refine (single_mid 5 l A c _ _ hl (i64_small (by omega)) (by omega) hc hA).mono ?_; rintro e w2 ⟨v, rfl, hv, hb2⟩; have hw2 := hb2.size; obtain ⟨⟨ok1, ok2, ok3, ok4⟩, A1, d1, rfl, hd1, hA1, hs1⟩ := hv.parts; have n0 := one_new (by omega) (grown_below hg1 hb2); obtain ⟨⟨r0, r1, r2, r3⟩, rf0, rf1, rf2, rf3⟩ := four' n0; simp only [rxv]))
  refine bodyPost_ret (v := rxv (sing 5 l).kind (sing 5 l).lo (sing 5 l).hi A1 (sing 5 l).kids.length d1) (by unfold rxv; simp [results, Tryz.results75, go_sem, r0, r1, r2, r3]) rfl ?_
  refine ⟨_, rfl, fin4_rt hv (by simp) _ (by simp) _ _ _ _, fin4_par (hp1.below hb2) hgl.2 _ _ _ _, fin4_grown ((World.grownBy_alloc w _ _).trans (grown_below hg1 hb2)) (Nat.le_refl _) _ _ _ _⟩

set_option maxHeartbeats 2000000 in
theorem expr_any {s s2 : Ps} {l : List Rx} (hl1 : l.length ≤ 1000) (hL : LC 75 ⟨#[124]⟩ s l s2) : PC 53 s (sing 4 l) s2 := by
  intro B g w hp
  have hgl := hp.lt
  have hmf : ∀ (fn : Fn) (first cap : Array Value) (w : World), (Instr.makeFunc fn first cap).run Tryz.prog w = .ok (.func fn first cap) w := fun _ _ _ _ => rfl
  have hp0 := hp.below ((Below.refl _ w).alloc (Nat.le_refl _) (.cells #[.int .i64 0, .int .u8 0, .int .u8 0, .slice none 0 0] 30))
  have hC := hL B g _ hp0
  clear hp hp0
  go_enter Tryz.func53, Tryz.ntmps53
  go_wp2_with (first
    | (go_at_call 74; refine hC.mono ?_; clear hC; rintro e w1 ⟨A, c, rfl, hc, hA, hl, hp1, hg1⟩; have hw1 := hg1.size; simp at hw1)
    | (go_at_call 73; refine (single_mid 4 l A c _ _ hl (i64_small (by omega)) (by omega) hc hA).mono ?_; rintro e w2 ⟨v, rfl, hv, hb2⟩; have hw2 := hb2.size; obtain ⟨⟨ok1, ok2, ok3, ok4⟩, A1, d1, rfl, hd1, hA1, hs1⟩ := hv.parts; have n0 := one_new (by omega) (grown_below hg1 hb2); obtain ⟨⟨r0, r1, r2, r3⟩, rf0, rf1, rf2, rf3⟩ := four' n0; simp only [rxv]))
  refine bodyPost_ret (v := rxv (sing 4 l).kind (sing 4 l).lo (sing 4 l).hi A1 (sing 4 l).kids.length d1) (by unfold rxv; simp [results, Tryz.results53, go_sem, r0, r1, r2, r3]) rfl ?_
  refine ⟨_, rfl, fin4_rt hv (by simp) _ (by simp) _ _ _ _, fin4_par (hp1.below hb2) hgl.2 _ _ _ _, fin4_grown ((World.grownBy_alloc w _ _).trans (grown_below hg1 hb2)) (Nat.le_refl _) _ _ _ _⟩

set_option maxHeartbeats 2000000 in
theorem seq_one {s s1 : Ps} {r : Rx} (hI : PC 103 s r s1) (hN : GoR s1 false) : PC 85 s (sing 3 [r]) s1 := by
  intro B g w hp
  have hgl := hp.lt
  have hp0 := hp.below ((Below.refl _ w).alloc (Nat.le_refl _) (.cells #[.int .i64 0, .int .u8 0, .int .u8 0, .slice none 0 0] 30))
  clear hp
  go_enter Tryz.func85, Tryz.ntmps85
  go_wp2_with (go_at_call 103; refine (hI B g _ hp0).mono ?_; rintro e w1 ⟨v, rfl, hv, hp1, hg1⟩; have hw1 := hg1.size; simp at hw1; obtain ⟨⟨ok1, ok2, ok3, ok4⟩, A1, d1, rfl, hd1, hA1, hs1⟩ := hv.parts; simp only [rxv])
  have hp2 := hp1.below ((Below.refl _ _).alloc (Nat.le_refl _) (.cells #[.int .i64 r.kind, .int .u8 r.lo, .int .u8 r.hi, .slice A1 r.kids.length d1] 30))
  have hC := goesOn_any hN B g _ hp2
  have hx := rt_one hv (by simpa using hw1) (W' := w1.alloc (.cells #[.int .i64 r.kind, .int .u8 r.lo, .int .u8 r.hi, .slice A1 r.kids.length d1] 30)) (by simp) (heap_alloc_new _ _) (fun b _ hb => Below.heap_alloc _ _ b hb)
  have hS := single_mid 3 [r] _ 1 _ _ hx (i64_small (by omega)) (by simp) (Nat.le_refl 1) (fun h => by cases h)
  have hg2 := hg1.trans (World.grownBy_alloc w1 (.cells #[.int .i64 r.kind, .int .u8 r.lo, .int .u8 r.hi, .slice A1 r.kids.length d1] 30) _)
  refine wp_loop_rounds 1 ?_
  rw [rounds_succ]
  clear hx
  go_wp2_with (first
    | (go_at_call 104; (with_reducible refine Calls.mono hC ?_); clear hC; rintro e w3 ⟨rfl, rfl⟩)
    | (go_at_call 73; refine Calls.mono hS ?_; clear hS; rintro e w2 ⟨v, rfl, hv, hb2⟩; have hw2 := hb2.size; obtain ⟨⟨jk1, jk2, jk3, jk4⟩, A2, d2, rfl, hd2, hA2, hs2⟩ := hv.parts; have n0 := one_new (by omega) (grown_below hg2 hb2); obtain ⟨⟨r0, r1, r2, r3⟩, rf0, rf1, rf2, rf3⟩ := four' n0; simp only [rxv]))
  refine bodyPost_ret (v := rxv (sing 3 [r]).kind (sing 3 [r]).lo (sing 3 [r]).hi A2 (sing 3 [r]).kids.length d2) (by unfold rxv; simp [results, Tryz.results85, go_sem, r0, r1, r2, r3]) rfl ?_
  refine ⟨_, rfl, fin4_rt hv (by simp) _ (by simp) _ _ _ _, fin4_par (hp2.below hb2) hgl.2 _ _ _ _, fin4_grown ((World.grownBy_alloc w _ _).trans (grown_below hg2 hb2)) (Nat.le_refl _) _ _ _ _⟩

set_option maxHeartbeats 2000000 in
theorem seq_two {s s1 s2 : Ps} {r r2 : Rx} (hI : PC 103 s r s1) (hY : GoR s1 true) (hI2 : PC 103 s1 r2 s2) (hN : GoR s2 false) : PC 85 s (sing 3 [r, r2]) s2 := by
  intro B g w hp
  have hgl := hp.lt
  obtain ⟨i0, hi, hz0, hz1, hz2⟩ := info_parts info_Regex
  have hp0 := hp.below ((Below.refl _ w).alloc (Nat.le_refl _) (.cells #[.int .i64 0, .int .u8 0, .int .u8 0, .slice none 0 0] 30))
  clear hp
  go_enter Tryz.func85, Tryz.ntmps85
  go_wp2_with (go_at_call 103; refine (hI B g _ hp0).mono ?_; rintro e w1 ⟨v, rfl, hv, hp1, hg1⟩; have hw1 := hg1.size; simp at hw1; obtain ⟨⟨ok1, ok2, ok3, ok4⟩, A1, d1, rfl, hd1, hA1, hs1⟩ := hv.parts; simp only [rxv])
  have hp2 := hp1.below ((Below.refl _ _).alloc (Nat.le_refl _) (.cells #[.int .i64 r.kind, .int .u8 r.lo, .int .u8 r.hi, .slice A1 r.kids.length d1] 30))
  have hC := goesOn_any hY B g _ hp2
  refine wp_loop_rounds 2 ?_
  rw [rounds_succ]
  go_wp2_with (first
    | (go_at_call 104; (with_reducible refine Calls.mono hC ?_); clear hC; rintro e w3 ⟨rfl, rfl⟩)
    | (go_at_call 103; refine (hI2 B g _ hp2).mono ?_; rintro e w3 ⟨v2, rfl, hv2, hp4, hg3⟩; have hw3 := hg3.size; simp at hw3; obtain ⟨⟨ik1, ik2, ik3, ik4⟩, A2, d2, rfl, hd2, hA2, hs2⟩ := hv2.parts; have hrow := own_kept (own_lit (base := w.heap.size + 1) (e := 30) (by omega) ⟨r, A1, d1⟩) (w' := w3) (fun b hb he => by simp [Value.ownBlock] at he; subst he; exact hg3.block _ (by simp) (fun e => by injection e with e; omega)); simp only [rxv])
    | (at_builtin; refine wpList_append_lies _ rfl _ _ 28 rfl (w.heap.size + 1) 30 i0 (.agg #[.int .i64 0, .int .u8 0, .int .u8 0, .slice none 0 0]) 4 40 Tryz.underlying28 hi hz0 hz1 hz2 rfl (by decide) (.slice (some ⟨w1.heap.size, 0, none⟩) 1 1) 1 _ rfl (hrow.alloc _) ⟨w3.heap.size, 0, none⟩ 1 1 (Tn.cells ⟨r2, A2, d2⟩) rfl rfl (World.news_of_block (cs := #[.int .i64 r2.kind, .int .u8 r2.lo, .int .u8 r2.hi, .slice A2 r2.kids.length d2]) (t := 30) (fr := (0, 0)) (heap_alloc_new w3 _)) (tn_one1 _) (by decide) (by decide) (by decide) (by simp; omega) (w3.heap.size + 1) (by simp) ?_; intro g' cap' w4 hown4 hgrow4 hat4 hlt4))
  have hp5 := par_row hp4 hgrow4 (show B ≤ w1.heap.size by omega)
  have hC := goesOn_any hN B g _ hp5
  have hx := rt_two (n := w.heap.size + 1) (by simpa using hv) (by simpa using hv2) (by omega) (fun b hb1 hb2 => (hg3.block b (by simp; omega) (fun e => by injection e with e; omega)).trans (Below.heap_alloc w1 _ b hb2)) (by omega) hgrow4 hat4 hlt4 hown4
  have hS := single_mid 3 [r, r2] _ cap' _ _ hx (i64_small (by omega)) (by simp) (own_cap hown4) (fun h => by cases h)
  have hg2 : (w.alloc (.cells #[.int .i64 0, .int .u8 0, .int .u8 0, .slice none 0 0] 30)).grownBy w4 (some g) := grown_row (hg1.trans ((World.grownBy_alloc _ _ _).trans hg3)) hgrow4 (by simp; omega)
  clear hx
  rw [rounds_succ]
  go_wp2_with (first
    | (go_at_call 104; (with_reducible refine Calls.mono hC ?_); clear hC; rintro e w3 ⟨rfl, rfl⟩)
    | (go_at_call 73; refine Calls.mono hS ?_; clear hS; rintro e w6 ⟨v, rfl, hv, hb2⟩; have hw2 := hb2.size; obtain ⟨⟨jk1, jk2, jk3, jk4⟩, A6, d6, rfl, hd6, hA6, hs6⟩ := hv.parts; have n0 := one_new (by omega) (grown_below hg2 hb2); obtain ⟨⟨r0, r1, r2', r3⟩, rf0, rf1, rf2, rf3⟩ := four' n0; simp only [rxv]))
  refine bodyPost_ret (v := rxv (sing 3 [r, r2]).kind (sing 3 [r, r2]).lo (sing 3 [r, r2]).hi A6 (sing 3 [r, r2]).kids.length d6) (by unfold rxv; simp [results, Tryz.results85, go_sem, r0, r1, r2', r3]) rfl ?_
  refine ⟨_, rfl, fin4_rt hv (by simp) _ (by simp) _ _ _ _, fin4_par (hp5.below hb2) hgl.2 _ _ _ _, fin4_grown ((World.grownBy_alloc w _ _).trans (grown_below hg2 hb2)) (Nat.le_refl _) _ _ _ _⟩

end Go.Proofs.YtnjkihbmhacgoaaGreatDoor
