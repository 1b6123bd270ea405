/-
  THE WALKS of atom, item, sequence, list, conjunction, expression: rules for one and for two parts.
-/
import Derived.Test.YtnjkihbmhacgoaaGreatDoorRxPar
import Derived.LoopN
namespace Go.Proofs.YtnjkihbmhacgoaaGreatDoor
open Go.RowKit

inductive ExpR (k : ByteArray) : Ps → Ps → Prop
  | yes (s s' : Ps) : TakeY k s s' → ExpR k s s'
  | no (s : Ps) : TakeN k s → ExpR k s ⟨s.ts, true⟩
theorem expect_any {k : ByteArray} {s s' : Ps} (h : ExpR k s s') (B g : Nat) (w : World) (hp : ParAt w B g s) : Calls Tryz.prog 125 #[.pointer (some ⟨g, 0, none⟩), .string k] w (ParPost w B g (.tuple #[]) s') := by
  cases h with
  | yes _ h => exact expect_yes h B g w hp
  | no h => exact expect_no h B g w hp

theorem two_new {w w1 : World} {o1 o2 : Obj} {g : Nat} (hg : g < w.heap.size) (h : ((w.alloc o1).alloc o2).grownBy w1 (some g)) : w1.heap[w.heap.size]? = some o1 ∧ w1.heap[w.heap.size + 1]? = some o2 := by
  have h1 := h.block w.heap.size (by simp; omega) (fun e => by injection e with e; omega)
  have h2 := h.block (w.heap.size + 1) (by simp) (fun e => by injection e with e; omega)
  refine ⟨h1.trans ?_, h2.trans (heap_alloc_new_at _ _ (by simp))⟩
  rw [heap_alloc_old _ _ _ (by simp)]
  exact heap_alloc_new _ _
theorem one_new {w w1 : World} {o1 : Obj} {g : Nat} (hg : g < w.heap.size) (h : (w.alloc o1).grownBy w1 (some g)) : w1.heap[w.heap.size]? = some o1 :=
  (h.block w.heap.size (by simp) (fun e => by injection e with e; omega)).trans (heap_alloc_new _ _)
theorem four' {w : World} {b : Nat} {t : TypeId} {c0 c1 c2 c3 : Value} (hb : w.heap[b]? = some (.cells #[c0, c1, c2, c3] t (0, 0))) :
    (w.cell? ⟨b, 0, none⟩ = some c0 ∧ w.cell? ⟨b, 1, none⟩ = some c1 ∧ w.cell? ⟨b, 2, none⟩ = some c2 ∧ w.cell? ⟨b, 3, none⟩ = some c3) ∧ (w.frozen? ⟨b, 0, none⟩ = false ∧ w.frozen? ⟨b, 1, none⟩ = false ∧ w.frozen? ⟨b, 2, none⟩ = false ∧ w.frozen? ⟨b, 3, none⟩ = false) :=
  ⟨four hb, four_frozen hb 0, four_frozen hb 1, four_frozen hb 2, four_frozen hb 3⟩

set_option maxHeartbeats 1000000 in
theorem atom_span (t : Tok) (ts : List Tok) (hne : ts ≠ []) (hk : t.k = ⟨#[91]⟩) (hl : 0 ≤ t.lo ∧ t.lo < 256) (hh : 0 ≤ t.hi ∧ t.hi < 256) : PC 117 ⟨t :: ts, false⟩ (.node 2 t.lo t.hi []) ⟨ts, false⟩ := by
  intro B g w hp
  have hgl := hp.lt
  have hp0 := hp.below ((Below.refl _ w).alloc (Nat.le_refl _) (.cells #[.int .i64 0, .int .u8 0, .int .u8 0, .slice none 0 0] 30))
  have hp1 := hp0.below ((Below.refl _ _).alloc (Nat.le_refl _) (.cells #[.string t.k, .int .i64 t.at_, .int .u8 t.lo, .int .u8 t.hi] 88))
  have hC := takeY (.yes t ts hne hk) B g _ hp1
  obtain ⟨b, o, c, h1, h2, h3, h4, ⟨h5, h6⟩, h7, h8⟩ := hp0
  obtain ⟨k0, k1, k2, k3⟩ := h5
  obtain ⟨p0, p1, f0, f1⟩ := two h1
  have hz : (0 : Int) < ((ts.length + 1 : Nat) : Int) := by omega
  simp only [List.length_cons] at h2 p0
  clear h1 h2 h3 h4 h6 h8 hp hp1 hk
  go_enter Tryz.func117, Tryz.ntmps117
  go_wp2_with (go_at_call 84; refine hC.mono ?_; clear hC; rintro e w1 ⟨rfl, hp2, hg2⟩; obtain ⟨n0, n1⟩ := two_new (by omega) hg2; obtain ⟨⟨q0, q1, q2, q3⟩, qf0, qf1, qf2, qf3⟩ := four' n0; obtain ⟨⟨r0, r1, r2, r3⟩, rf⟩ := four' n1)
  refine bodyPost_ret (v := rxv 2 t.lo t.hi none 0 0) (by unfold rxv; simp [results, Tryz.results117, go_sem, q0, q1, q2, q3]) rfl ?_
  refine ⟨_, rfl, rt_leaf _ _ 2 t.lo t.hi (by unfold I64; omega) hl hh, ?_, ?_⟩
  · exact fin4_par hp2 hgl.2 _ _ _ _
  · exact fin4_grown ((grown_alloc2 (grown_refl w (some g)) _ _).trans hg2) (Nat.le_refl _) _ _ _ _

/-- what a value keeps across the end of a call: the trees beyond N lie as they lay -/
theorem fin4_rt {W : World} {N n : Nat} {x : Rx} {v : Value} (h : RtV W (Mid n W.heap.size) x v) (hn : N < n) (m : Nat) (hm : m ≤ n) (c0 c1 c2 c3 : Value) :
    RtV ((((W.setCell ⟨N, 0, none⟩ c0).setCell ⟨N, 1, none⟩ c1).setCell ⟨N, 2, none⟩ c2).setCell ⟨N, 3, none⟩ c3) (Mid m ((((W.setCell ⟨N, 0, none⟩ c0).setCell ⟨N, 1, none⟩ c1).setCell ⟨N, 2, none⟩ c2).setCell ⟨N, 3, none⟩ c3).heap.size) x v :=
  RtV.to (fun b hb => ⟨⟨Nat.le_trans hm hb.1, by rw [fin4_size]; exact hb.2⟩, fin4 _ _ _ _ (by have := hb.1; omega)⟩) x h
/-- .. across a step on the parser -/
theorem rt_par {W W' : World} {n g : Nat} {x : Rx} {v : Value} (h : RtV W (Mid n W.heap.size) x v) (hg : g < n) (hw : W.grownBy W' (some g)) : RtV W' (Mid n W'.heap.size) x v :=
  RtV.to (fun b hb => ⟨⟨hb.1, Nat.lt_of_lt_of_le hb.2 hw.size⟩, hw.block b hb.2 (fun e => by injection e with e; have := hb.1; omega)⟩) x h
theorem rt_alloc {W : World} {n : Nat} {x : Rx} {v : Value} (h : RtV W (Mid n W.heap.size) x v) (o : Obj) : RtV (W.alloc o) (Mid n (W.alloc o).heap.size) x v :=
  RtV.to (fun b hb => ⟨⟨hb.1, by have := hb.2; simp; omega⟩, Below.heap_alloc W o b hb.2⟩) x h
theorem rt_from {W : World} {n m : Nat} {x : Rx} {v : Value} (h : RtV W (Mid n W.heap.size) x v) (hm : m ≤ n) : RtV W (Mid m W.heap.size) x v :=
  RtV.to (fun _ hb => ⟨⟨Nat.le_trans hm hb.1, hb.2⟩, rfl⟩) x h

set_option maxHeartbeats 1000000 in
theorem atom_paren (t : Tok) (ts : List Tok) (hne : ts ≠ []) (hk : t.k = ⟨#[40]⟩) {r : Rx} {s2 s3 : Ps} (hE : PC 53 ⟨ts, false⟩ r s2) (hX : ExpR ⟨#[41]⟩ s2 s3) : PC 117 ⟨t :: ts, false⟩ r s3 := by
  intro B g w hp
  have hgl := hp.lt
  have hp0 := hp.below ((Below.refl _ w).alloc (Nat.le_refl _) (.cells #[.int .i64 0, .int .u8 0, .int .u8 0, .slice none 0 0] 30))
  have hp1 := hp0.below ((Below.refl _ _).alloc (Nat.le_refl _) (.cells #[.string t.k, .int .i64 t.at_, .int .u8 t.lo, .int .u8 t.hi] 88))
  have c0 := takeN (.no t ts (k := ⟨#[91]⟩) (by rw [hk]; simp [ByteArray.toList_eq])) B g _ hp1
  have hC := takeY (.yes t ts hne hk) B g _ hp1
  obtain ⟨b, o, c, h1, h2, h3, h4, ⟨h5, h6⟩, h7, h8⟩ := hp0
  obtain ⟨k0, k1, k2, k3⟩ := h5
  obtain ⟨p0, p1, f0, f1⟩ := two h1
  have hz : (0 : Int) < ((ts.length + 1 : Nat) : Int) := by omega
  simp only [List.length_cons] at h2 p0
  clear h1 h2 h3 h4 h6 h8 hp hp1 hk
  go_enter Tryz.func117, Tryz.ntmps117
  go_wp2_with (first
    | (go_at_call 84; (with_reducible refine Calls.mono c0 ?_); clear c0; rintro e w1 ⟨rfl, rfl⟩)
    | (go_at_call 84; (with_reducible refine Calls.mono hC ?_); clear hC; rintro e w1 ⟨rfl, hp2, hg2⟩; have hz1 := hg2.size; simp at hz1)
    | (go_at_call 53; refine (hE B g _ hp2).mono ?_; rintro e w2 ⟨v, rfl, hv, hp3, hg3⟩; have hz2 := hg3.size; obtain ⟨⟨ok1, ok2, ok3, ok4⟩, A1, d1, rfl, hd1, hA1, hs1⟩ := hv.parts; simp only [rxv])
    | (go_at_call 125; refine (expect_any hX B g _ (hp3.below ((Below.refl _ _).alloc (Nat.le_refl _) _))).mono ?_; rintro e w3 ⟨rfl, hp4, hg4⟩; have hz3 := hg4.size; have n2 := one_new (by omega) hg4; obtain ⟨⟨q0, q1, q2, q3⟩, qf⟩ := four' n2; obtain ⟨n0, n1⟩ := two_new (by omega) (hg2.trans (hg3.trans ((World.grownBy_alloc _ _ _).trans hg4))); obtain ⟨⟨r0, r1, r2, r3⟩, rf0, rf1, rf2, rf3⟩ := four' n0))
  refine bodyPost_ret (v := rxv r.kind r.lo r.hi A1 r.kids.length d1) (by unfold rxv; simp [results, Tryz.results117, go_sem, r0, r1, r2, r3]) rfl ?_
  have hgr := hg2.trans (hg3.trans ((World.grownBy_alloc _ _ _).trans hg4))
  have hx := rt_par (rt_alloc hv (.cells #[.int .i64 r.kind, .int .u8 r.lo, .int .u8 r.hi, .slice A1 r.kids.length d1] 30)) (by omega) hg4
  refine ⟨_, rfl, fin4_rt hx (by omega) _ (by omega) _ _ _ _, ?_, ?_⟩
  · exact fin4_par hp4 hgl.2 _ _ _ _
  · exact fin4_grown ((grown_alloc2 (grown_refl w (some g)) _ _).trans hgr) (Nat.le_refl _) _ _ _ _

/-- a call's own part -/
theorem rt_one {W : World} {n : Nat} {x : Rx} {A : Option Addr} {c : Nat} (h : RtV W (Mid n W.heap.size) x (rxv x.kind x.lo x.hi A x.kids.length c)) (hn : n ≤ W.heap.size) {W' : World} (hs : W.heap.size < W'.heap.size) {t : TypeId}
    (h0 : W'.heap[W.heap.size]? = some (.cells #[.int .i64 x.kind, .int .u8 x.lo, .int .u8 x.hi, .slice A x.kids.length c] t (0, 0))) (hk : ∀ b, n ≤ b → b < W.heap.size → W'.heap[b]? = W.heap[b]?) : RtL W' (Mid n W'.heap.size) [x] (some ⟨W.heap.size, 0, none⟩) := by
  simp only [RtL]
  obtain ⟨q0, q1, q2, q3⟩ := four h0
  exact ⟨W.heap.size, 0, A, c, rfl, ⟨hn, hs⟩, ⟨q0, q1, q2, q3⟩, RtV.to (fun b hb => ⟨⟨hb.1, Nat.lt_trans hb.2 hs⟩, hk b hb.1 hb.2⟩) x h, trivial⟩

theorem i64_small {k : Int} (h : 0 ≤ k ∧ k ≤ 7) : I64 k := by unfold I64; omega
theorem rt_node1 {W : World} {S : Nat → Prop} {k : Int} {r : Rx} {a : Addr} {c : Nat} (hk : I64 k) (hc : 1 ≤ c) (hl : RtL W S [r] (some a)) : RtV W S (.node k 0 0 [r]) (rxv k 0 0 (some a) 1 c) :=
  RtV.mk (s := [r]) ⟨hk, by omega, by omega, by simp⟩ (by simpa using hc) (fun h => by cases h) hl
set_option maxHeartbeats 1000000 in
theorem item_not {s s1 s2 : Ps} {r : Rx} (hT : TakeY ⟨#[33]⟩ s s1) (hI : PC 103 s1 r s2) : PC 103 s (.node 6 0 0 [r]) s2 := by
  intro B g w hp
  have hgl := hp.lt
  have hp0 := hp.below ((Below.refl _ w).alloc (Nat.le_refl _) (.cells #[.int .i64 0, .int .u8 0, .int .u8 0, .slice none 0 0] 30))
  have hC := takeY hT B g _ hp0
  clear hp hp0 hT
  go_enter Tryz.func103, Tryz.ntmps103
  go_wp2_with (first
    | (go_at_call 84; (with_reducible refine Calls.mono hC ?_); clear hC; rintro e w1 ⟨rfl, hp2, hg2⟩; have hz1 := hg2.size; simp at hz1)
    | (go_at_call 103; refine (hI B g _ hp2).mono ?_; rintro e w2 ⟨v, rfl, hv, hp3, hg3⟩; have hz2 := hg3.size; obtain ⟨⟨ok1, ok2, ok3, ok4⟩, A1, d1, rfl, hd1, hA1, hs1⟩ := hv.parts; have n0 := one_new (by omega) (hg2.trans (hg3.trans (World.grownBy_alloc w2 (.cells #[.int .i64 r.kind, .int .u8 r.lo, .int .u8 r.hi, .slice A1 r.kids.length d1] 30) _))); obtain ⟨⟨r0, r1, r2, r3⟩, rf0, rf1, rf2, rf3⟩ := four' n0; simp only [rxv]))
  refine bodyPost_ret (v := rxv 6 0 0 (some ⟨w2.heap.size, 0, none⟩) 1 1) (by unfold rxv; simp [results, Tryz.results103, go_sem, r0, r1, r2, r3]) rfl ?_
  have hgr := hg2.trans (hg3.trans (World.grownBy_alloc w2 (.cells #[.int .i64 r.kind, .int .u8 r.lo, .int .u8 r.hi, .slice A1 r.kids.length d1] 30) _))
  have hx := rt_one hv (by omega) (W' := w2.alloc (.cells #[.int .i64 r.kind, .int .u8 r.lo, .int .u8 r.hi, .slice A1 r.kids.length d1] 30)) (by simp) (heap_alloc_new _ _) (fun b _ hb => Below.heap_alloc _ _ b hb)
  refine ⟨_, rfl, fin4_rt (rt_node1 (i64_small (by omega)) (Nat.le_refl 1) hx) (by omega) _ (by omega) _ _ _ _, ?_, ?_⟩
  · exact fin4_par (hp3.below ((Below.refl _ _).alloc (Nat.le_refl _) _)) hgl.2 _ _ _ _
  · exact fin4_grown ((World.grownBy_alloc w _ _).trans hgr) (Nat.le_refl _) _ _ _ _

set_option maxHeartbeats 1000000 in
theorem item_atom {s s1 : Ps} {r : Rx} (hT : TakeN ⟨#[33]⟩ s) (hI : PC 117 s r s1) (hS : TakeN ⟨#[42]⟩ s1) : PC 103 s r s1 := by
  intro B g w hp
  have hgl := hp.lt
  have hp0 := hp.below ((Below.refl _ w).alloc (Nat.le_refl _) (.cells #[.int .i64 0, .int .u8 0, .int .u8 0, .slice none 0 0] 30))
  have hC := takeN hT B g _ hp0
  clear hp hT
  go_enter Tryz.func103, Tryz.ntmps103
  go_wp2_with (first
    | (go_at_call 84; (with_reducible refine Calls.mono hC ?_); clear hC; rintro e w1 ⟨rfl, rfl⟩)
    | (go_at_call 117; refine (hI B g _ hp0).mono ?_; rintro e w2 ⟨v, rfl, hv, hp3, hg3⟩; have hz2 := hg3.size; simp at hz2; obtain ⟨⟨ok1, ok2, ok3, ok4⟩, A1, d1, rfl, hd1, hA1, hs1⟩ := hv.parts; simp only [rxv]))
  have hp4 := hp3.below ((Below.refl _ _).alloc (Nat.le_refl _) (.cells #[.int .i64 r.kind, .int .u8 r.lo, .int .u8 r.hi, .slice A1 r.kids.length d1] 30))
  have hS' := takeN hS B g _ hp4
  have hgr := hg3.trans (World.grownBy_alloc w2 (.cells #[.int .i64 r.kind, .int .u8 r.lo, .int .u8 r.hi, .slice A1 r.kids.length d1] 30) _)
  have n0 := one_new (by omega) hgr
  obtain ⟨⟨r0, r1, r2, r3⟩, rf0, rf1, rf2, rf3⟩ := four' n0
  refine wp_loop_rounds 1 ?_
  rw [rounds_succ]
  go_wp2_with (go_at_call 84; (with_reducible refine Calls.mono hS' ?_); clear hS'; rintro e w1 ⟨rfl, rfl⟩)
  refine bodyPost_ret (v := rxv r.kind r.lo r.hi A1 r.kids.length d1) (by unfold rxv; simp [results, Tryz.results103, go_sem, r0, r1, r2, r3]) rfl ?_
  have hx := rt_alloc hv (.cells #[.int .i64 r.kind, .int .u8 r.lo, .int .u8 r.hi, .slice A1 r.kids.length d1] 30)
  refine ⟨_, rfl, fin4_rt hx (by simp) _ (by simp) _ _ _ _, ?_, ?_⟩
  · exact fin4_par hp4 hgl.2 _ _ _ _
  · exact fin4_grown ((World.grownBy_alloc w _ _).trans hgr) (Nat.le_refl _) _ _ _ _

set_option maxHeartbeats 1000000 in
theorem item_star {s s1 s2 : Ps} {r : Rx} (hT : TakeN ⟨#[33]⟩ s) (hI : PC 117 s r s1) (hY : TakeY ⟨#[42]⟩ s1 s2) (hS : TakeN ⟨#[42]⟩ s2) : PC 103 s (.node 7 0 0 [r]) s2 := by
  intro B g w hp
  have hgl := hp.lt
  have hp0 := hp.below ((Below.refl _ w).alloc (Nat.le_refl _) (.cells #[.int .i64 0, .int .u8 0, .int .u8 0, .slice none 0 0] 30))
  have hC := takeN hT B g _ hp0
  clear hp hT
  go_enter Tryz.func103, Tryz.ntmps103
  go_wp2_with (first
    | (go_at_call 84; (with_reducible refine Calls.mono hC ?_); clear hC; rintro e w1 ⟨rfl, rfl⟩)
    | (go_at_call 117; refine (hI B g _ hp0).mono ?_; rintro e w2 ⟨v, rfl, hv, hp3, hg3⟩; have hz2 := hg3.size; simp at hz2; obtain ⟨⟨ok1, ok2, ok3, ok4⟩, A1, d1, rfl, hd1, hA1, hs1⟩ := hv.parts; simp only [rxv]))
  have hp4 := hp3.below ((Below.refl _ _).alloc (Nat.le_refl _) (.cells #[.int .i64 r.kind, .int .u8 r.lo, .int .u8 r.hi, .slice A1 r.kids.length d1] 30))
  have hY' := takeY hY B g _ hp4
  have hgr := hg3.trans (World.grownBy_alloc w2 (.cells #[.int .i64 r.kind, .int .u8 r.lo, .int .u8 r.hi, .slice A1 r.kids.length d1] 30) _)
  refine wp_loop_rounds 2 ?_
  rw [rounds_succ]
  go_wp2_with (go_at_call 84; (with_reducible refine Calls.mono hY' ?_); clear hY'; rintro e w3 ⟨rfl, hp5, hg5⟩; have hz3 := hg5.size; simp at hz3; have n3 := one_new (by omega) hg5; obtain ⟨⟨t0, t1, t2, t3⟩, tf⟩ := four' n3; have n4 := (Below.heap_alloc w3 (.cells #[.int .i64 r.kind, .int .u8 r.lo, .int .u8 r.hi, .slice A1 r.kids.length d1] 30) w2.heap.size (by omega)).trans n3; obtain ⟨⟨s0, s1', s2', s3'⟩, sf0, sf1, sf2, sf3⟩ := four' n4)
  have hp6 := fin4_par (N := w2.heap.size) (hp5.below ((Below.refl _ _).alloc (Nat.le_refl _) (.cells #[.int .i64 r.kind, .int .u8 r.lo, .int .u8 r.hi, .slice A1 r.kids.length d1] 30))) (by omega) (.int .i64 7) (.int .u8 0) (.int .u8 0) (.slice (some ⟨w3.heap.size, 0, none⟩) 1 1)
  have hS' := takeN hS B g _ hp6
  have n0 := (fin4 (w := w3.alloc (.cells #[.int .i64 r.kind, .int .u8 r.lo, .int .u8 r.hi, .slice A1 r.kids.length d1] 30)) (N := w2.heap.size) (.int .i64 7) (.int .u8 0) (.int .u8 0) (.slice (some ⟨w3.heap.size, 0, none⟩) 1 1) (j := w.heap.size) (by omega)).trans ((Below.heap_alloc w3 _ _ (by omega)).trans (one_new (by omega) (hgr.trans hg5)))
  obtain ⟨⟨r0, r1, r2, r3⟩, rf0, rf1, rf2, rf3⟩ := four' n0
  rw [rounds_succ]
  go_wp2_with (go_at_call 84; (with_reducible refine Calls.mono hS' ?_); clear hS'; rintro e w4 ⟨rfl, rfl⟩)
  refine bodyPost_ret (v := rxv 7 0 0 (some ⟨w3.heap.size, 0, none⟩) 1 1) (by unfold rxv; simp [results, Tryz.results103, go_sem, r0, r1, r2, r3]) rfl ?_
  have hgA := fin4_grown (N := w2.heap.size) ((World.grownBy_alloc w (.cells #[.int .i64 0, .int .u8 0, .int .u8 0, .slice none 0 0] 30) _).trans (hgr.trans (hg5.trans (World.grownBy_alloc w3 (.cells #[.int .i64 r.kind, .int .u8 r.lo, .int .u8 r.hi, .slice A1 r.kids.length d1] 30) _)))) (by omega) (.int .i64 7) (.int .u8 0) (.int .u8 0) (.slice (some ⟨w3.heap.size, 0, none⟩) 1 1)
  refine ⟨_, rfl, rt_node1 (i64_small (by omega)) (Nat.le_refl 1) ?_, fin4_par hp6 hgl.2 _ _ _ _, fin4_grown hgA (Nat.le_refl _) _ _ _ _⟩
  have hn := (fin4 (w := (((((w3.alloc (.cells #[.int .i64 r.kind, .int .u8 r.lo, .int .u8 r.hi, .slice A1 r.kids.length d1] 30)).setCell ⟨w2.heap.size, 0, none⟩ (.int .i64 7)).setCell ⟨w2.heap.size, 1, none⟩ (.int .u8 0)).setCell ⟨w2.heap.size, 2, none⟩ (.int .u8 0)).setCell ⟨w2.heap.size, 3, none⟩ (.slice (some ⟨w3.heap.size, 0, none⟩) 1 1))) (N := w.heap.size) (.int .i64 7) (.int .u8 0) (.int .u8 0) (.slice (some ⟨w3.heap.size, 0, none⟩) 1 1) (j := w3.heap.size) (by omega)).trans ((fin4 (w := w3.alloc (.cells #[.int .i64 r.kind, .int .u8 r.lo, .int .u8 r.hi, .slice A1 r.kids.length d1] 30)) (N := w2.heap.size) (.int .i64 7) (.int .u8 0) (.int .u8 0) (.slice (some ⟨w3.heap.size, 0, none⟩) 1 1) (j := w3.heap.size) (by omega)).trans (heap_alloc_new w3 _))
  obtain ⟨z0, z1, z2, z3⟩ := four hn
  simp only [RtL]
  refine ⟨w3.heap.size, 0, A1, d1, rfl, ⟨by omega, by rw [fin4_size, fin4_size]; simp⟩, ⟨z0, z1, z2, z3⟩, RtV.to (fun b hb => ⟨⟨by have := hb.1; simp at this; omega, by rw [fin4_size, fin4_size]; have := hb.2; simp; omega⟩, ?_⟩) r hv, trivial⟩
  have hb1 := hb.1
  have hb2 := hb.2
  simp at hb1
  exact (fin4 _ _ _ _ (by omega)).trans ((fin4 _ _ _ _ (by omega)).trans ((Below.heap_alloc w3 _ b (by omega)).trans ((hg5.block b (by simp; omega) (fun e => by injection e with e; omega)).trans (Below.heap_alloc w2 _ b hb2))))

/-- what list hands back -/
def LPost (w : World) (B g : Nat) (l : List Rx) (s' : Ps) (e : Ending) (w' : World) : Prop :=
  ∃ A c, e = .returned (.slice A l.length c) ∧ l.length ≤ c ∧ (A = none → c = 0) ∧ RtL w' (Mid w.heap.size w'.heap.size) l A ∧ ParAt w' B g s' ∧ w.grownBy w' (some g)
def LC (F : Nat) (k : ByteArray) (s : Ps) (l : List Rx) (s' : Ps) : Prop := ∀ (B g : Nat) (w : World), ParAt w B g s → Calls Tryz.prog 74 #[.pointer (some ⟨g, 0, none⟩), .string k, .func (.func F) #[.pointer (some ⟨g, 0, none⟩)] #[]] w (LPost w B g l s')

set_option maxHeartbeats 1000000 in
theorem list_one {F : Nat} (hF : F = 75 ∨ F = 85) {k : ByteArray} {s s1 : Ps} {r : Rx} (hI : PC F s r s1) (hN : TakeN k s1) : LC F k s [r] s1 := by
  intro B g w hp
  have hgl := hp.lt
  rcases hF with rfl | rfl
  all_goals
    go_enter Tryz.func74, Tryz.ntmps74
    go_wp2_with (first
      | (go_at_call 75; refine (hI B g _ hp).mono ?_; rintro e w1 ⟨v, rfl, hv, hp1, hg1⟩; have hz1 := hg1.size; obtain ⟨⟨ok1, ok2, ok3, ok4⟩, A1, d1, rfl, hd1, hA1, hs1⟩ := hv.parts; simp only [rxv])
      | (go_at_call 85; refine (hI B g _ hp).mono ?_; rintro e w1 ⟨v, rfl, hv, hp1, hg1⟩; have hz1 := hg1.size; obtain ⟨⟨ok1, ok2, ok3, ok4⟩, A1, d1, rfl, hd1, hA1, hs1⟩ := hv.parts; simp only [rxv]))
    have hp2 := hp1.below ((Below.refl _ _).alloc (Nat.le_refl _) (.cells #[.int .i64 r.kind, .int .u8 r.lo, .int .u8 r.hi, .slice A1 r.kids.length d1] 30))
    have hC := takeN hN B g _ hp2
    have hx := rt_one hv hz1 (W' := w1.alloc (.cells #[.int .i64 r.kind, .int .u8 r.lo, .int .u8 r.hi, .slice A1 r.kids.length d1] 30)) (by simp) (heap_alloc_new _ _) (fun b _ hb => Below.heap_alloc _ _ b hb)
    refine wp_loop_rounds 1 ?_
    rw [rounds_succ]
    go_wp2_with (go_at_call 84; (with_reducible refine Calls.mono hC ?_); clear hC; rintro e w3 ⟨rfl, rfl⟩)
    go_ret
    exact ⟨_, 1, rfl, Nat.le_refl 1, (fun h => by cases h), hx, hp2, hg1.trans (World.grownBy_alloc _ _ _)⟩

end Go.Proofs.YtnjkihbmhacgoaaGreatDoor
