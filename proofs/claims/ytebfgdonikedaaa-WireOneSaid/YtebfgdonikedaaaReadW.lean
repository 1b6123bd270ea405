/-
  THE WALK of the laws' own read.
-/
import Derived.Test.YtebfgdonikedaaaLawW
namespace Go.Proofs.Ytebfgdonikedaaa
open Go.RowKit

/-- a value that was read, by value; the reader moved on -/
def ValPost (T : TypeId) (w : World) (g : Nat) (x : Vl) (s : Rst) (e : Ending) (w' : World) : Prop :=
  ∃ vb vl, e = .returned (.agg #[.int .i64 x.k, .int .u64 x.u, .int .i64 x.n, vb, vl]) ∧ RdS w' w'.heap.size .u8 vb x.b ∧ RdS w' w'.heap.size .i64 vl x.l ∧ RdrAt w' T g s ∧ w.grownBy w' (some g)
theorem rds_nil (w : World) (B : Nat) (k : IntKind) : RdS w B k (.slice none 0 0) [] := ⟨none, 0, rfl, Nat.le_refl _, fun _ => rfl, .inl rfl⟩
theorem rds_own {w : World} {base c : Nat} {e : TypeId} {k : IntKind} {A : Option Addr} {zs : List Int} (h : w.ownsRow base e 1 (.slice A zs.length c) zs.length (zs.map (Value.int k))) : RdS w w.heap.size k (.slice A zs.length c) zs := ⟨A, c, rfl, own_cap h, own_none h, rd_own h⟩
/-- five cells of a block -/
theorem five {w : World} {b : Nat} {t : TypeId} {c0 c1 c2 c3 c4 : Value} (h : w.heap[b]? = some (.cells #[c0, c1, c2, c3, c4] t (0, 0))) :
    (w.cell? ⟨b, 0, none⟩ = some c0 ∧ w.cell? ⟨b, 1, none⟩ = some c1 ∧ w.cell? ⟨b, 2, none⟩ = some c2 ∧ w.cell? ⟨b, 3, none⟩ = some c3 ∧ w.cell? ⟨b, 4, none⟩ = some c4) ∧
    (w.frozen? ⟨b, 0, none⟩ = false ∧ w.frozen? ⟨b, 1, none⟩ = false ∧ w.frozen? ⟨b, 2, none⟩ = false ∧ w.frozen? ⟨b, 3, none⟩ = false ∧ w.frozen? ⟨b, 4, none⟩ = false) := by
  refine ⟨⟨?_, ?_, ?_, ?_, ?_⟩, ⟨?_, ?_, ?_, ?_, ?_⟩⟩ <;> simp [World.cell?, World.frozen?, h]
theorem val_new {w w1 : World} {o1 o2 : Obj} {g : Nat} (hg : g < w.heap.size) (h : ((w.alloc o1).alloc o2).grownBy w1 (some g)) : w1.heap[w.heap.size]? = some o1 ∧ w1.heap[w.heap.size + 1]? = some o2 := by
  have h1 := h.block w.heap.size (by simp; omega) (fun e => by injection e with e; omega)
  have h2 := h.block (w.heap.size + 1) (by simp) (fun e => by injection e with e; omega)
  refine ⟨h1.trans ?_, h2.trans (heap_alloc_new_at _ _ (by simp))⟩
  rw [heap_alloc_old _ _ _ (by simp)]
  exact heap_alloc_new _ _
theorem grown_two {w w1 : World} {o1 o2 : Obj} {g : Nat} (h : ((w.alloc o1).alloc o2).grownBy w1 (some g)) : w.grownBy w1 (some g) :=
  ((World.grownBy_alloc w o1 (some g)).trans (World.grownBy_alloc _ o2 (some g))).trans h
theorem grown_far {w W : World} {N g : Nat} (h : w.grownBy W (some g)) (hN : w.heap.size ≤ N) (i : Nat) (x : Value) : w.grownBy (W.setCell ⟨N, i, none⟩ x) (some g) :=
  ⟨h.os, h.tape, h.output, by simp [World.setCell]; exact h.size, fun k hk hne => (Below.heap_setCell _ _ _ k (by simp; omega)).trans (h.block k hk hne)⟩
/-- five stores into the cell of the result -/
theorem fin_other {w : World} {N : Nat} (c0 c1 c2 c3 c4 : Value) {j : Nat} (hj : j ≠ N) :
    (((((w.setCell ⟨N, 0, none⟩ c0).setCell ⟨N, 1, none⟩ c1).setCell ⟨N, 2, none⟩ c2).setCell ⟨N, 3, none⟩ c3).setCell ⟨N, 4, none⟩ c4).heap[j]? = w.heap[j]? := by
  rw [Below.heap_setCell _ _ _ j hj, Below.heap_setCell _ _ _ j hj, Below.heap_setCell _ _ _ j hj, Below.heap_setCell _ _ _ j hj, Below.heap_setCell _ _ _ j hj]
/-- what the end leaves: nothing but new memory and the reader has turned -/
theorem fin_grown {w W : World} {g N : Nat} (h : w.grownBy W (some g)) (hN : w.heap.size ≤ N) (c0 c1 c2 c3 c4 : Value) :
    w.grownBy (((((W.setCell ⟨N, 0, none⟩ c0).setCell ⟨N, 1, none⟩ c1).setCell ⟨N, 2, none⟩ c2).setCell ⟨N, 3, none⟩ c3).setCell ⟨N, 4, none⟩ c4) (some g) :=
  grown_far (grown_far (grown_far (grown_far (grown_far h hN 0 c0) hN 1 c1) hN 2 c2) hN 3 c3) hN 4 c4
theorem rdr_heap {W W' : World} {T : TypeId} {g : Nat} {s : Rst} (h : RdrAt W T g s) (hk : ∀ j, j ≤ g → W'.heap[j]? = W.heap[j]?) : RdrAt W' T g s := by
  obtain ⟨A, c, hh, hc, hA, hr⟩ := h
  refine ⟨A, c, (hk g (Nat.le_refl _)).trans hh, hc, hA, ?_⟩
  rcases hr with h0 | ⟨b, o, e, hb, hcs⟩
  · exact .inl h0
  · exact .inr ⟨b, o, e, hb, fun j hj => (World.cell?_of_block (hk b (by omega))).trans (hcs j hj)⟩

theorem valpost_drew {T : TypeId} {w F : World} {g : Nat} {x : Vl} {s : Rst} {e : Ending} (h : ValPost T w g x s e F) : ValPost T w g x s e F.drew := by
  obtain ⟨vb, vl, h1, h2, h3, h4, h5⟩ := h
  exact ⟨vb, vl, h1, h2, h3, h4, ⟨h5.os, h5.tape, h5.output, h5.size, h5.block⟩⟩
theorem boolR_01 (s : Rst) : (boolR s).1 = 0 ∨ (boolR s).1 = 1 := by
  unfold boolR
  split
  · split
    · exact .inl rfl
    · split
      · exact .inl rfl
      · simp only
        split
        · exact .inr rfl
        · exact .inl rfl
  · exact .inl rfl
theorem rawR_bytes {s : Rst} (h8 : Bytes8 s.l) : Bytes8 (rawR s).1 := by
  unfold rawR
  split
  · rename_i h
    exact fun z hz => (lenR_len s h8 h).2.2 z (List.mem_of_mem_take hz)
  · exact fun z hz => by simp at hz
theorem own_kp {W W' : World} {base : Nat} {e : TypeId} {size n : Nat} {v : Value} {xs : List Value} (h : W.ownsRow base e size v n xs) (hk : ∀ j, base ≤ j → j < W.heap.size → W'.heap[j]? = W.heap[j]?) : W'.ownsRow base e size v n xs := by
  refine ⟨h.1, ?_⟩
  rcases h.2 with h0 | ⟨g, cap, cur, hv, hb, hg, rest⟩
  · exact .inl h0
  · exact .inr ⟨g, cap, cur, hv, hb, (hk g hb (Array.getElem?_eq_some_iff.1 hg).1).trans hg, rest⟩
theorem rds_block {F : World} {N cap : Nat} {t : TypeId} {C : Array Value} {fr : Nat × Nat} {k : IntKind} {zs : List Int} (hk : F.heap[N]? = some (.cells C t fr)) (hc : zs.length ≤ cap) (hC : ∀ j, j < zs.length → C[j]? = some (.int k (zs[j]?.getD 0))) : RdS F F.heap.size k (.slice (some ⟨N, 0, none⟩) zs.length cap) zs :=
  ⟨_, _, rfl, hc, (fun h => nomatch h), .inr ⟨N, 0, rfl, (Array.getElem?_eq_some_iff.1 hk).1, fun j hj => by rw [cell_of_row F N (0 + j) C t fr hk, Nat.zero_add]; exact hC j hj⟩⟩
set_option maxRecDepth 100000 in
set_option maxHeartbeats 1000000 in
theorem lRead_0 (g : Nat) (s : Rst) (w : World) (h : RdrAt w 77 g (nrm s)) (h8 : Bytes8 s.l) (hl : s.l.length ≤ 900000) :
    Calls Try.prog 22 #[.pointer (some ⟨g, 0, none⟩), .int .i64 0] w (ValPost 77 w g (readR 0 s).1 (nrm (readR 0 s).2)) := by
  have HR := Lib.hid (show readR 0 s = (⟨0, ((uintR s).1 : Int), 0, [], []⟩, (uintR s).2) by simp [readR])
  have hg := rdr_lt h
  have hC := fun (o1 o2 : Obj) => rUint_any g s _ (rdr_below h ((new_below w o1).trans ((new_below (w.alloc o1) o2).mono (by simp)))) h8 hl
  clear h
  go_enter Try.func22, Try.ntmps22
  go_wp2_with (go_at_call 45; refine (hC _ _).mono ?_; clear hC; rintro e w1 ⟨rfl, hr1, hg1⟩; obtain ⟨hk0, hk1⟩ := val_new hg hg1; obtain ⟨⟨q0, q1, q2, q3, q4⟩, f0, f1, f2, f3, f4⟩ := five hk0; obtain ⟨⟨r0, r1, r2, r3, r4⟩, e0, e1, e2, e3, e4⟩ := five hk1; have HK0 := Lib.hid hk0; have HK1 := Lib.hid hk1; clear hk0 hk1)
  refine bodyPost_ret (v := .agg #[.int .i64 0, .int .u64 ((uintR s).1 : Nat), .int .i64 0, .slice none 0 0, .slice none 0 0]) (by simp [results, Try.results22, go_sem, q0, q1, q2, q3, q4]) rfl ?_
  have hg2 := grown_far (grown_two hg1) (Nat.le_succ _) 1 (.int .u64 ((uintR s).1 : Nat))
  rw [HR.out]
  exact ⟨_, _, rfl, rds_nil _ _ _, rds_nil _ _ _, rdr_heap hr1 (fun j hj => (fin_other _ _ _ _ _ (by omega)).trans (Below.heap_setCell _ _ _ j (by simp; omega))), fin_grown hg2 (Nat.le_refl _) _ _ _ _ _⟩

set_option maxRecDepth 100000 in
set_option maxHeartbeats 1000000 in
theorem lRead_1 (g : Nat) (s : Rst) (w : World) (h : RdrAt w 77 g (nrm s)) (h8 : Bytes8 s.l) (hl : s.l.length ≤ 900000) :
    Calls Try.prog 22 #[.pointer (some ⟨g, 0, none⟩), .int .i64 1] w (ValPost 77 w g (readR 1 s).1 (nrm (readR 1 s).2)) := by
  have HR := Lib.hid (show readR 1 s = (⟨1, 0, (intR s).1, [], []⟩, (intR s).2) by simp [readR])
  have hg := rdr_lt h
  have hC := fun (o1 o2 : Obj) => rInt_any g s _ (rdr_below h ((new_below w o1).trans ((new_below (w.alloc o1) o2).mono (by simp)))) h8 hl
  clear h
  go_enter Try.func22, Try.ntmps22
  go_wp2_with (go_at_call 46; refine (hC _ _).mono ?_; clear hC; rintro e w1 ⟨rfl, hr1, hg1⟩; obtain ⟨hk0, hk1⟩ := val_new hg hg1; obtain ⟨⟨q0, q1, q2, q3, q4⟩, f0, f1, f2, f3, f4⟩ := five hk0; obtain ⟨⟨r0, r1, r2, r3, r4⟩, e0, e1, e2, e3, e4⟩ := five hk1; have HK0 := Lib.hid hk0; have HK1 := Lib.hid hk1; clear hk0 hk1)
  refine bodyPost_ret (v := .agg #[.int .i64 1, .int .u64 0, .int .i64 (intR s).1, .slice none 0 0, .slice none 0 0]) (by simp [results, Try.results22, go_sem, q0, q1, q2, q3, q4]) rfl ?_
  have hg2 := grown_far (grown_two hg1) (Nat.le_succ _) 2 (.int .i64 (intR s).1)
  rw [HR.out]
  exact ⟨_, _, rfl, rds_nil _ _ _, rds_nil _ _ _, rdr_heap hr1 (fun j hj => (fin_other _ _ _ _ _ (by omega)).trans (Below.heap_setCell _ _ _ j (by simp; omega))), fin_grown hg2 (Nat.le_refl _) _ _ _ _ _⟩

set_option maxRecDepth 100000 in
set_option maxHeartbeats 1000000 in
theorem lRead_2 (g : Nat) (s : Rst) (w : World) (h : RdrAt w 77 g (nrm s)) (h8 : Bytes8 s.l) (hl : s.l.length ≤ 900000) :
    Calls Try.prog 22 #[.pointer (some ⟨g, 0, none⟩), .int .i64 2] w (ValPost 77 w g (readR 2 s).1 (nrm (readR 2 s).2)) := by
  have hg := rdr_lt h
  have hC := fun (o1 o2 : Obj) => rBool_any g s _ (rdr_below h ((new_below w o1).trans ((new_below (w.alloc o1) o2).mono (by simp)))) h8 hl
  clear h
  rcases boolR_01 s with hb | hb
  · have HR := Lib.hid (show readR 2 s = (⟨2, 0, 0, [], []⟩, (boolR s).2) by simp [readR, hb])
    have b1 : ((boolR s).1 == 1) = false := by rw [hb]; rfl
    rw [b1] at hC
    clear hb b1
    generalize (boolR s).2 = s2 at hC HR
    go_enter Try.func22, Try.ntmps22
    go_wp2_with (go_at_call 48; refine (hC _ _).mono ?_; clear hC; rintro e w1 ⟨rfl, hr1, hg1⟩; obtain ⟨hk0, hk1⟩ := val_new hg hg1; obtain ⟨⟨q0, q1, q2, q3, q4⟩, f0, f1, f2, f3, f4⟩ := five hk0; obtain ⟨⟨r0, r1, r2, r3, r4⟩, e0, e1, e2, e3, e4⟩ := five hk1; have HK0 := Lib.hid hk0; have HK1 := Lib.hid hk1; clear hk0 hk1)
    refine bodyPost_ret (v := .agg #[.int .i64 2, .int .u64 0, .int .i64 0, .slice none 0 0, .slice none 0 0]) (by simp [results, Try.results22, go_sem, q0, q1, q2, q3, q4]) rfl ?_
    rw [HR.out]
    exact ⟨_, _, rfl, rds_nil _ _ _, rds_nil _ _ _, rdr_heap hr1 (fun j hj => fin_other _ _ _ _ _ (by omega)), fin_grown (grown_two hg1) (Nat.le_refl _) _ _ _ _ _⟩
  · have HR := Lib.hid (show readR 2 s = (⟨2, 0, 1, [], []⟩, (boolR s).2) by simp [readR, hb])
    have b1 : ((boolR s).1 == 1) = true := by rw [hb]; rfl
    rw [b1] at hC
    clear hb b1
    generalize (boolR s).2 = s2 at hC HR
    go_enter Try.func22, Try.ntmps22
    go_wp2_with (go_at_call 48; refine (hC _ _).mono ?_; clear hC; rintro e w1 ⟨rfl, hr1, hg1⟩; obtain ⟨hk0, hk1⟩ := val_new hg hg1; obtain ⟨⟨q0, q1, q2, q3, q4⟩, f0, f1, f2, f3, f4⟩ := five hk0; obtain ⟨⟨r0, r1, r2, r3, r4⟩, e0, e1, e2, e3, e4⟩ := five hk1; have HK0 := Lib.hid hk0; have HK1 := Lib.hid hk1; clear hk0 hk1)
    refine bodyPost_ret (v := .agg #[.int .i64 2, .int .u64 0, .int .i64 1, .slice none 0 0, .slice none 0 0]) (by simp [results, Try.results22, go_sem, q0, q1, q2, q3, q4]) rfl ?_
    have hg2 := grown_far (grown_two hg1) (Nat.le_succ _) 2 (.int .i64 1)
    rw [HR.out]
    exact ⟨_, _, rfl, rds_nil _ _ _, rds_nil _ _ _, rdr_heap hr1 (fun j hj => (fin_other _ _ _ _ _ (by omega)).trans (Below.heap_setCell _ _ _ j (by simp; omega))), fin_grown hg2 (Nat.le_refl _) _ _ _ _ _⟩

set_option maxRecDepth 100000 in
set_option maxHeartbeats 1000000 in
theorem lRead_4 (g : Nat) (s : Rst) (w : World) (h : RdrAt w 77 g (nrm s)) (h8 : Bytes8 s.l) (hl : s.l.length ≤ 900000) :
    Calls Try.prog 22 #[.pointer (some ⟨g, 0, none⟩), .int .i64 4] w (ValPost 77 w g (readR 4 s).1 (nrm (readR 4 s).2)) := by
  have HR := Lib.hid (show readR 4 s = (⟨4, 0, 0, (rawR s).1, []⟩, (rawR s).2) by simp [readR])
  have hg := rdr_lt h
  have hC := fun (o1 o2 : Obj) => rRaw_any g s _ (rdr_below h ((new_below w o1).trans ((new_below (w.alloc o1) o2).mono (by simp)))) h8 hl
  clear h
  generalize (rawR s).2 = s2 at hC HR
  generalize (rawR s).1 = zs at hC HR
  go_enter Try.func22, Try.ntmps22
  go_wp2_with (go_at_call 33; refine (hC _ _).mono ?_; clear hC; rintro e w1 ⟨A1, c1, rfl, hc1, hrow1, hr1, hg1⟩; obtain ⟨hk0, hk1⟩ := val_new hg hg1; obtain ⟨⟨q0, q1, q2, q3, q4⟩, f0, f1, f2, f3, f4⟩ := five hk0; obtain ⟨⟨r0, r1, r2, r3, r4⟩, e0, e1, e2, e3, e4⟩ := five hk1; have HK0 := Lib.hid hk0; have HK1 := Lib.hid hk1; clear hk0 hk1)
  refine bodyPost_ret (v := .agg #[.int .i64 4, .int .u64 0, .int .i64 0, .slice A1 zs.length c1, .slice none 0 0]) (by simp [results, Try.results22, go_sem, q0, q1, q2, q3, q4]) rfl ?_
  have hg2 := grown_far (grown_two hg1) (Nat.le_succ _) 3 (.slice A1 zs.length c1)
  rw [HR.out]
  have hoth : ∀ j, w.heap.size + 2 ≤ j → (((((( w1.setCell ⟨w.heap.size + 1, 3, none⟩ (.slice A1 zs.length c1)).setCell ⟨w.heap.size, 0, none⟩ (.int .i64 4)).setCell ⟨w.heap.size, 1, none⟩ (.int .u64 0)).setCell ⟨w.heap.size, 2, none⟩ (.int .i64 0)).setCell ⟨w.heap.size, 3, none⟩ (.slice A1 zs.length c1)).setCell ⟨w.heap.size, 4, none⟩ (.slice none 0 0)).heap[j]? = w1.heap[j]? := fun j hj => (fin_other _ _ _ _ _ (by omega)).trans (Below.heap_setCell _ _ _ j (by simp; omega))
  exact ⟨_, _, rfl, rds_own (own_kp hrow1 (fun j hj1 hj2 => hoth j (by simp at hj1; omega))), rds_nil _ _ _, rdr_heap hr1 (fun j hj => (fin_other _ _ _ _ _ (by omega)).trans (Below.heap_setCell _ _ _ j (by simp; omega))), fin_grown hg2 (Nat.le_refl _) _ _ _ _ _⟩

set_option maxRecDepth 100000 in
set_option maxHeartbeats 1000000 in
theorem lRead_5 (g : Nat) (s : Rst) (w : World) (h : RdrAt w 77 g (nrm s)) (h8 : Bytes8 s.l) (hl : s.l.length ≤ 900000) :
    Calls Try.prog 22 #[.pointer (some ⟨g, 0, none⟩), .int .i64 5] w (ValPost 77 w g (readR 5 s).1 (nrm (readR 5 s).2)) := by
  have HR := Lib.hid (show readR 5 s = (⟨5, 0, 0, [], (intsR s).1⟩, (intsR s).2) by simp [readR])
  have hg := rdr_lt h
  have hC := fun (o1 o2 : Obj) => rInts_any g s _ (rdr_below h ((new_below w o1).trans ((new_below (w.alloc o1) o2).mono (by simp)))) h8 hl
  clear h
  generalize (intsR s).2 = s2 at hC HR
  generalize (intsR s).1 = zs at hC HR
  go_enter Try.func22, Try.ntmps22
  go_wp2_with (go_at_call 35; refine (hC _ _).mono ?_; clear hC; rintro e w1 ⟨A1, c1, rfl, hc1, hrow1, hr1, hg1⟩; obtain ⟨hk0, hk1⟩ := val_new hg hg1; obtain ⟨⟨q0, q1, q2, q3, q4⟩, f0, f1, f2, f3, f4⟩ := five hk0; obtain ⟨⟨r0, r1, r2, r3, r4⟩, e0, e1, e2, e3, e4⟩ := five hk1; have HK0 := Lib.hid hk0; have HK1 := Lib.hid hk1; clear hk0 hk1)
  refine bodyPost_ret (v := .agg #[.int .i64 5, .int .u64 0, .int .i64 0, .slice none 0 0, .slice A1 zs.length c1]) (by simp [results, Try.results22, go_sem, q0, q1, q2, q3, q4]) rfl ?_
  have hg2 := grown_far (grown_two hg1) (Nat.le_succ _) 4 (.slice A1 zs.length c1)
  rw [HR.out]
  have hoth : ∀ j, w.heap.size + 2 ≤ j → (((((( w1.setCell ⟨w.heap.size + 1, 4, none⟩ (.slice A1 zs.length c1)).setCell ⟨w.heap.size, 0, none⟩ (.int .i64 5)).setCell ⟨w.heap.size, 1, none⟩ (.int .u64 0)).setCell ⟨w.heap.size, 2, none⟩ (.int .i64 0)).setCell ⟨w.heap.size, 3, none⟩ (.slice none 0 0)).setCell ⟨w.heap.size, 4, none⟩ (.slice A1 zs.length c1)).heap[j]? = w1.heap[j]? := fun j hj => (fin_other _ _ _ _ _ (by omega)).trans (Below.heap_setCell _ _ _ j (by simp; omega))
  exact ⟨_, _, rfl, rds_nil _ _ _, rds_own (own_kp hrow1 (fun j hj1 hj2 => hoth j (by simp at hj1; omega))), rdr_heap hr1 (fun j hj => (fin_other _ _ _ _ _ (by omega)).trans (Below.heap_setCell _ _ _ j (by simp; omega))), fin_grown hg2 (Nat.le_refl _) _ _ _ _ _⟩

set_option maxRecDepth 100000 in
set_option maxHeartbeats 1000000 in
theorem lRead_3 (g : Nat) (s : Rst) (w : World) (h : RdrAt w 77 g (nrm s)) (h8 : Bytes8 s.l) (hl : s.l.length ≤ 900000) :
    Calls Try.prog 22 #[.pointer (some ⟨g, 0, none⟩), .int .i64 3] w (ValPost 77 w g (readR 3 s).1 (nrm (readR 3 s).2)) := by
  have HR := Lib.hid (show readR 3 s = (⟨3, 0, 0, (rawR s).1, []⟩, (rawR s).2) by simp [readR])
  have hg := rdr_lt h
  have hz8 := rawR_bytes h8
  have hC := fun (o1 o2 : Obj) => rText_any g s _ (rdr_below h ((new_below w o1).trans ((new_below (w.alloc o1) o2).mono (by simp)))) h8 hl
  clear h
  generalize (rawR s).2 = s2 at hC HR
  generalize (rawR s).1 = zs at hC HR hz8
  have hsb := Lib.hid (sb_of_nums hz8)
  clear hz8
  go_enter Try.func22, Try.ntmps22
  go_wp2_with (go_at_call 47; refine (hC _ _).mono ?_; clear hC; rintro e w0 ⟨rfl, hr1, hg0⟩; obtain ⟨cap, C, hcap, hcv, HC⟩ := conv_bytes (strOfNums zs) w0; rw [strOfNums_size] at hcap hcv; have hg1 := hg0.trans (World.grownBy_alloc w0 (.cells C 5 (C.size, C.size + 1)) (some g)); obtain ⟨hk0, hk1⟩ := val_new hg hg1; obtain ⟨⟨q0, q1, q2, q3, q4⟩, f0, f1, f2, f3, f4⟩ := five (w := w0.alloc (.cells C 5 (C.size, C.size + 1))) hk0; obtain ⟨⟨r0, r1, r2, r3, r4⟩, e0, e1, e2, e3, e4⟩ := five (w := w0.alloc (.cells C 5 (C.size, C.size + 1))) hk1; have HK0 := Lib.hid hk0; have HK1 := Lib.hid hk1; clear hk0 hk1)
  refine bodyPost_ret (v := .agg #[.int .i64 3, .int .u64 0, .int .i64 0, .slice (some ⟨w0.heap.size, 0, none⟩) zs.length cap, .slice none 0 0]) (by simp [results, Try.results22, go_sem, q0, q1, q2, q3, q4]) rfl ?_
  have hsz : w.heap.size + 2 ≤ w0.heap.size := by have := hg0.size; simp at this; omega
  have hg2 := grown_far (grown_two hg1) (Nat.le_succ _) 3 (.slice (some ⟨w0.heap.size, 0, none⟩) zs.length cap)
  rw [HR.out]
  rw [hsb.out] at HC
  refine valpost_drew ?_
  refine ⟨_, _, rfl, rds_block ((fin_other _ _ _ _ _ (by omega)).trans ((Below.heap_setCell _ _ _ _ (by simp; omega)).trans (heap_alloc_new w0 _))) hcap HC.out, rds_nil _ _ _, rdr_heap hr1 (fun j hj => ?_), fin_grown hg2 (Nat.le_refl _) _ _ _ _ _⟩
  exact (fin_other _ _ _ _ _ (by omega)).trans ((Below.heap_setCell _ _ _ j (by simp; omega)).trans (heap_alloc_old w0 _ _ (show j < w0.heap.size by omega)))

theorem lRead_any (k : Int) (g : Nat) (s : Rst) (w : World) (h : RdrAt w 77 g (nrm s)) (h8 : Bytes8 s.l) (hl : s.l.length ≤ 900000) (hk : 0 ≤ k ∧ k ≤ 5) :
    Calls Try.prog 22 #[.pointer (some ⟨g, 0, none⟩), .int .i64 k] w (ValPost 77 w g (readR k s).1 (nrm (readR k s).2)) := by
  have hkk : k = 0 ∨ k = 1 ∨ k = 2 ∨ k = 3 ∨ k = 4 ∨ k = 5 := by omega
  rcases hkk with rfl | rfl | rfl | rfl | rfl | rfl
  · exact lRead_0 g s w h h8 hl
  · exact lRead_1 g s w h h8 hl
  · exact lRead_2 g s w h h8 hl
  · exact lRead_3 g s w h h8 hl
  · exact lRead_4 g s w h h8 hl
  · exact lRead_5 g s w h h8 hl
end Go.Proofs.Ytebfgdonikedaaa
