/-
  THE WALK of the laws' own read once more: what was read lies in blocks of bytes and of numbers, which the reader and a row of values are not.
-/
import Derived.Test.YtebfgdonikedaaaReadW
import Derived.Test.YtebfgdonikedaaaValsRd
import Derived.Test.YtebfgdonikedaaaReadM
namespace Go.Proofs.Ytebfgdonikedaaa
open Go.RowKit

/-- a slice value reads as zs, in a block of elements of type e -/
def RdT (w : World) (e : TypeId) (k : IntKind) (v : Value) (zs : List Int) : Prop :=
  ∃ A c, v = .slice A zs.length c ∧ zs.length ≤ c ∧ (A = none → c = 0) ∧ (zs = [] ∨ ∃ b o C fr, A = some ⟨b, o, none⟩ ∧ w.heap[b]? = some (.cells C e fr) ∧ ∀ j, j < zs.length → C[o + j]? = some (.int k (zs[j]?.getD 0)))
theorem rdt_rds {w : World} {e : TypeId} {k : IntKind} {v : Value} {zs : List Int} (h : RdT w e k v zs) : RdS w w.heap.size k v zs := by
  obtain ⟨A, c, hv, hc, hA, h⟩ := h
  refine ⟨A, c, hv, hc, hA, ?_⟩
  rcases h with h | ⟨b, o, C, fr, rfl, hk, hC⟩
  · exact .inl h
  · exact .inr ⟨b, o, rfl, (Array.getElem?_eq_some_iff.1 hk).1, fun j hj => by rw [cell_of_row w b (o + j) C e fr hk]; exact hC j hj⟩
theorem rdt_nil (w : World) (e : TypeId) (k : IntKind) : RdT w e k (.slice none 0 0) [] := ⟨none, 0, rfl, Nat.le_refl _, fun _ => rfl, .inl rfl⟩
theorem rdt_own {w : World} {base c : Nat} {e : TypeId} {k : IntKind} {A : Option Addr} {zs : List Int} (h : w.ownsRow base e 1 (.slice A zs.length c) zs.length (zs.map (Value.int k))) : RdT w e k (.slice A zs.length c) zs := by
  refine ⟨A, c, rfl, own_cap h, own_none h, ?_⟩
  rcases h.2 with ⟨_, h0⟩ | ⟨g, cap, cur, hv, hb, hg, hn, _, hs, ht⟩
  · exact .inl (List.eq_nil_of_length_eq_zero h0)
  · injection hv with hA
    refine .inr ⟨g, 0, cur, (0, 0), hA, hg, fun j hj => ?_⟩
    rw [Nat.zero_add]
    have hj2 : (cur.toList.take (zs.length * 1))[j]? = (zs.map (Value.int k))[j]? := by rw [ht]
    rw [List.getElem?_take_of_lt (by omega), List.getElem?_map, List.getElem?_eq_getElem hj, Array.getElem?_toList] at hj2
    rw [hj2]
    simp [hj]
theorem rdt_block {F : World} {N cap : Nat} {t : TypeId} {C : Array Value} {fr : Nat × Nat} {k : IntKind} {zs : List Int} (hk : F.heap[N]? = some (.cells C t fr)) (hc : zs.length ≤ cap) (hC : ∀ j, j < zs.length → C[j]? = some (.int k (zs[j]?.getD 0))) : RdT F t k (.slice (some ⟨N, 0, none⟩) zs.length cap) zs :=
  ⟨_, _, rfl, hc, (fun h => nomatch h), .inr ⟨N, 0, C, fr, rfl, hk, fun j hj => by rw [Nat.zero_add]; exact hC j hj⟩⟩
theorem rdt_kept {W W' : World} {e : TypeId} {k : IntKind} {v : Value} {zs : List Int} {row : Option Nat} (h : RdT W e k v zs) (hg : W.grownBy W' row) (hne : ∀ j, row = some j → ∀ C fr, W.heap[j]? ≠ some (.cells C e fr)) : RdT W' e k v zs := by
  obtain ⟨A, c, hv, hc, hA, h⟩ := h
  refine ⟨A, c, hv, hc, hA, ?_⟩
  rcases h with h | ⟨b, o, C, fr, hA2, hk, hC⟩
  · exact .inl h
  · exact .inr ⟨b, o, C, fr, hA2, (hg.block b (Array.getElem?_eq_some_iff.1 hk).1 (fun e => hne b e.symm C fr hk)).trans hk, hC⟩
/-- a value that was read, by value, in such blocks; the reader moved on -/
def ValPostT (T : TypeId) (w : World) (g : Nat) (x : Vl) (s : Rst) (e : Ending) (w' : World) : Prop :=
  ∃ vb vl, e = .returned (.agg #[.int .i64 x.k, .int .u64 x.u, .int .i64 x.n, vb, vl]) ∧ RdT w' 5 .u8 vb x.b ∧ RdT w' 3 .i64 vl x.l ∧ RdrAt w' T g s ∧ w.grownBy w' (some g)
theorem valpostT_drew {T : TypeId} {w F : World} {g : Nat} {x : Vl} {s : Rst} {e : Ending} (h : ValPostT T w g x s e F) : ValPostT T w g x s e F.drew := by
  obtain ⟨vb, vl, h1, h2, h3, h4, h5⟩ := h
  exact ⟨vb, vl, h1, h2, h3, h4, ⟨h5.os, h5.tape, h5.output, h5.size, h5.block⟩⟩
theorem vals_rd2 {w : World} {base n c : Nat} {A : Option Addr} {ts : List Vt} (h : w.ownsRow base 28 5 (.slice A n c) n (ts.flatMap Vt.cells)) (hg : ∀ t ∈ ts, RdS w w.heap.size .u8 t.vb t.x.b ∧ RdS w w.heap.size .i64 t.vl t.x.l) : RdV w w.heap.size A (ts.map Vt.x) := by
  by_cases h0 : ts = []
  · subst h0; exact .inl rfl
  · have hn : 0 < n := by
      have hl := h.1
      have : 0 < (ts.flatMap Vt.cells).length := by
        cases ts with
        | nil => exact absurd rfl h0
        | cons t ts => simp [Vt.cells]
      omega
    obtain ⟨g, cap, hv, hb, hlt⟩ := h.form hn
    injection hv with hA
    subst hA
    refine .inr ⟨g, 0, rfl, hlt, fun j x hx => ?_⟩
    rw [List.getElem?_map] at hx
    cases ht : ts[j]? with
    | none => rw [ht] at hx; cases hx
    | some t =>
      rw [ht] at hx
      simp only [Option.map_some, Option.some.injEq] at hx
      subst hx
      have hc := fun i (hi : i < 5) u (hu : t.cells[i]? = some u) => by
        have := h.cells (g := g) rfl (j * 5 + i) u (by rw [flat_get ts j i t ht hi]; exact hu)
        have hadd : (⟨g, 0, none⟩ : Addr).add (j * 5 + i) = ⟨g, j * 5 + i, none⟩ := by unfold Addr.add; split <;> simp_all
        rw [hadd] at this
        exact this
      obtain ⟨o1, o2⟩ := hg t (List.mem_of_getElem? ht)
      refine ⟨t.vb, t.vl, ?_, ?_, ?_, ?_, ?_, o1, o2⟩
      · rw [Nat.zero_add]; exact hc 0 (by decide) _ rfl
      · rw [Nat.zero_add]; exact hc 1 (by decide) _ rfl
      · rw [Nat.zero_add]; exact hc 2 (by decide) _ rfl
      · rw [Nat.zero_add]; exact hc 3 (by decide) _ rfl
      · rw [Nat.zero_add]; exact hc 4 (by decide) _ rfl
/-- the slices of a value that was read -/
def Vt.rds (t : Vt) (w : World) : Prop := RdT w 5 .u8 t.vb t.x.b ∧ RdT w 3 .i64 t.vl t.x.l

set_option maxRecDepth 100000 in
set_option maxHeartbeats 1000000 in
theorem lReadT_0 (g : Nat) (s : Rst) (w : World) (h : RdrAt w 77 g (nrm s)) (h8 : Bytes8 s.l) (hl : s.l.length ≤ 900000) :
    Calls Try.prog 22 #[.pointer (some ⟨g, 0, none⟩), .int .i64 0] w (ValPostT 77 w g (readR 0 s).1 (nrm (readR 0 s).2)) := by
  have HR := Lib.hid (show readR 0 s = (⟨0, ((uintR s).1 : Int), 0, [], []⟩, (uintR s).2) by simp [readR])
  have hg := rdr_lt h
  have hC := fun (o1 o2 : Obj) => rUint_any g s _ (rdr_below h ((new_below w o1).trans ((new_below (w.alloc o1) o2).mono (by simp)))) h8 hl
  clear h
  go_enter Try.func22, Try.ntmps22
  go_wp2_with (go_at_call 45; refine (hC _ _).mono ?_; clear hC; rintro e w1 ⟨rfl, hr1, hg1⟩; obtain ⟨hk0, hk1⟩ := val_new hg hg1; obtain ⟨⟨q0, q1, q2, q3, q4⟩, f0, f1, f2, f3, f4⟩ := five hk0; obtain ⟨⟨r0, r1, r2, r3, r4⟩, e0, e1, e2, e3, e4⟩ := five hk1; have HK0 := Lib.hid hk0; have HK1 := Lib.hid hk1; clear hk0 hk1)
  refine bodyPost_ret (v := .agg #[.int .i64 0, .int .u64 ((uintR s).1 : Nat), .int .i64 0, .slice none 0 0, .slice none 0 0]) (by simp [results, Try.results22, go_sem, q0, q1, q2, q3, q4]) rfl ?_
  have hg2 := grown_far (grown_two hg1) (Nat.le_succ _) 1 (.int .u64 ((uintR s).1 : Nat))
  rw [HR.out]
  exact ⟨_, _, rfl, rdt_nil _ _ _, rdt_nil _ _ _, rdr_heap hr1 (fun j hj => (fin_other _ _ _ _ _ (by omega)).trans (Below.heap_setCell _ _ _ j (by simp; omega))), fin_grown hg2 (Nat.le_refl _) _ _ _ _ _⟩

set_option maxRecDepth 100000 in
set_option maxHeartbeats 1000000 in
theorem lReadT_1 (g : Nat) (s : Rst) (w : World) (h : RdrAt w 77 g (nrm s)) (h8 : Bytes8 s.l) (hl : s.l.length ≤ 900000) :
    Calls Try.prog 22 #[.pointer (some ⟨g, 0, none⟩), .int .i64 1] w (ValPostT 77 w g (readR 1 s).1 (nrm (readR 1 s).2)) := by
  have HR := Lib.hid (show readR 1 s = (⟨1, 0, (intR s).1, [], []⟩, (intR s).2) by simp [readR])
  have hg := rdr_lt h
  have hC := fun (o1 o2 : Obj) => rInt_any g s _ (rdr_below h ((new_below w o1).trans ((new_below (w.alloc o1) o2).mono (by simp)))) h8 hl
  clear h
  go_enter Try.func22, Try.ntmps22
  go_wp2_with (go_at_call 46; refine (hC _ _).mono ?_; clear hC; rintro e w1 ⟨rfl, hr1, hg1⟩; obtain ⟨hk0, hk1⟩ := val_new hg hg1; obtain ⟨⟨q0, q1, q2, q3, q4⟩, f0, f1, f2, f3, f4⟩ := five hk0; obtain ⟨⟨r0, r1, r2, r3, r4⟩, e0, e1, e2, e3, e4⟩ := five hk1; have HK0 := Lib.hid hk0; have HK1 := Lib.hid hk1; clear hk0 hk1)
  refine bodyPost_ret (v := .agg #[.int .i64 1, .int .u64 0, .int .i64 (intR s).1, .slice none 0 0, .slice none 0 0]) (by simp [results, Try.results22, go_sem, q0, q1, q2, q3, q4]) rfl ?_
  have hg2 := grown_far (grown_two hg1) (Nat.le_succ _) 2 (.int .i64 (intR s).1)
  rw [HR.out]
  exact ⟨_, _, rfl, rdt_nil _ _ _, rdt_nil _ _ _, rdr_heap hr1 (fun j hj => (fin_other _ _ _ _ _ (by omega)).trans (Below.heap_setCell _ _ _ j (by simp; omega))), fin_grown hg2 (Nat.le_refl _) _ _ _ _ _⟩

set_option maxRecDepth 100000 in
set_option maxHeartbeats 1000000 in
theorem lReadT_2 (g : Nat) (s : Rst) (w : World) (h : RdrAt w 77 g (nrm s)) (h8 : Bytes8 s.l) (hl : s.l.length ≤ 900000) :
    Calls Try.prog 22 #[.pointer (some ⟨g, 0, none⟩), .int .i64 2] w (ValPostT 77 w g (readR 2 s).1 (nrm (readR 2 s).2)) := by
  have hg := rdr_lt h
  have hC := fun (o1 o2 : Obj) => rBool_any g s _ (rdr_below h ((new_below w o1).trans ((new_below (w.alloc o1) o2).mono (by simp)))) h8 hl
  clear h
  rcases boolR_01 s with hb | hb
  · have HR := Lib.hid (show readR 2 s = (⟨2, 0, 0, [], []⟩, (boolR s).2) by simp [readR, hb])
    have b1 : ((boolR s).1 == 1) = false := by rw [hb]; rfl
    rw [b1] at hC
    clear hb b1
    generalize (boolR s).2 = s2 at hC HR
    go_enter Try.func22, Try.ntmps22
    go_wp2_with (go_at_call 48; refine (hC _ _).mono ?_; clear hC; rintro e w1 ⟨rfl, hr1, hg1⟩; obtain ⟨hk0, hk1⟩ := val_new hg hg1; obtain ⟨⟨q0, q1, q2, q3, q4⟩, f0, f1, f2, f3, f4⟩ := five hk0; obtain ⟨⟨r0, r1, r2, r3, r4⟩, e0, e1, e2, e3, e4⟩ := five hk1; have HK0 := Lib.hid hk0; have HK1 := Lib.hid hk1; clear hk0 hk1)
    refine bodyPost_ret (v := .agg #[.int .i64 2, .int .u64 0, .int .i64 0, .slice none 0 0, .slice none 0 0]) (by simp [results, Try.results22, go_sem, q0, q1, q2, q3, q4]) rfl ?_
    rw [HR.out]
    exact ⟨_, _, rfl, rdt_nil _ _ _, rdt_nil _ _ _, rdr_heap hr1 (fun j hj => fin_other _ _ _ _ _ (by omega)), fin_grown (grown_two hg1) (Nat.le_refl _) _ _ _ _ _⟩
  · have HR := Lib.hid (show readR 2 s = (⟨2, 0, 1, [], []⟩, (boolR s).2) by simp [readR, hb])
    have b1 : ((boolR s).1 == 1) = true := by rw [hb]; rfl
    rw [b1] at hC
    clear hb b1
    generalize (boolR s).2 = s2 at hC HR
    go_enter Try.func22, Try.ntmps22
    go_wp2_with (go_at_call 48; refine (hC _ _).mono ?_; clear hC; rintro e w1 ⟨rfl, hr1, hg1⟩; obtain ⟨hk0, hk1⟩ := val_new hg hg1; obtain ⟨⟨q0, q1, q2, q3, q4⟩, f0, f1, f2, f3, f4⟩ := five hk0; obtain ⟨⟨r0, r1, r2, r3, r4⟩, e0, e1, e2, e3, e4⟩ := five hk1; have HK0 := Lib.hid hk0; have HK1 := Lib.hid hk1; clear hk0 hk1)
    refine bodyPost_ret (v := .agg #[.int .i64 2, .int .u64 0, .int .i64 1, .slice none 0 0, .slice none 0 0]) (by simp [results, Try.results22, go_sem, q0, q1, q2, q3, q4]) rfl ?_
    have hg2 := grown_far (grown_two hg1) (Nat.le_succ _) 2 (.int .i64 1)
    rw [HR.out]
    exact ⟨_, _, rfl, rdt_nil _ _ _, rdt_nil _ _ _, rdr_heap hr1 (fun j hj => (fin_other _ _ _ _ _ (by omega)).trans (Below.heap_setCell _ _ _ j (by simp; omega))), fin_grown hg2 (Nat.le_refl _) _ _ _ _ _⟩

set_option maxRecDepth 100000 in
set_option maxHeartbeats 1000000 in
theorem lReadT_4 (g : Nat) (s : Rst) (w : World) (h : RdrAt w 77 g (nrm s)) (h8 : Bytes8 s.l) (hl : s.l.length ≤ 900000) :
    Calls Try.prog 22 #[.pointer (some ⟨g, 0, none⟩), .int .i64 4] w (ValPostT 77 w g (readR 4 s).1 (nrm (readR 4 s).2)) := by
  have HR := Lib.hid (show readR 4 s = (⟨4, 0, 0, (rawR s).1, []⟩, (rawR s).2) by simp [readR])
  have hg := rdr_lt h
  have hC := fun (o1 o2 : Obj) => rRaw_any g s _ (rdr_below h ((new_below w o1).trans ((new_below (w.alloc o1) o2).mono (by simp)))) h8 hl
  clear h
  generalize (rawR s).2 = s2 at hC HR
  generalize (rawR s).1 = zs at hC HR
  go_enter Try.func22, Try.ntmps22
  go_wp2_with (go_at_call 33; refine (hC _ _).mono ?_; clear hC; rintro e w1 ⟨A1, c1, rfl, hc1, hrow1, hr1, hg1⟩; obtain ⟨hk0, hk1⟩ := val_new hg hg1; obtain ⟨⟨q0, q1, q2, q3, q4⟩, f0, f1, f2, f3, f4⟩ := five hk0; obtain ⟨⟨r0, r1, r2, r3, r4⟩, e0, e1, e2, e3, e4⟩ := five hk1; have HK0 := Lib.hid hk0; have HK1 := Lib.hid hk1; clear hk0 hk1)
  refine bodyPost_ret (v := .agg #[.int .i64 4, .int .u64 0, .int .i64 0, .slice A1 zs.length c1, .slice none 0 0]) (by simp [results, Try.results22, go_sem, q0, q1, q2, q3, q4]) rfl ?_
  have hg2 := grown_far (grown_two hg1) (Nat.le_succ _) 3 (.slice A1 zs.length c1)
  rw [HR.out]
  have hoth : ∀ j, w.heap.size + 2 ≤ j → (((((( w1.setCell ⟨w.heap.size + 1, 3, none⟩ (.slice A1 zs.length c1)).setCell ⟨w.heap.size, 0, none⟩ (.int .i64 4)).setCell ⟨w.heap.size, 1, none⟩ (.int .u64 0)).setCell ⟨w.heap.size, 2, none⟩ (.int .i64 0)).setCell ⟨w.heap.size, 3, none⟩ (.slice A1 zs.length c1)).setCell ⟨w.heap.size, 4, none⟩ (.slice none 0 0)).heap[j]? = w1.heap[j]? := fun j hj => (fin_other _ _ _ _ _ (by omega)).trans (Below.heap_setCell _ _ _ j (by simp; omega))
  exact ⟨_, _, rfl, rdt_own (own_kp hrow1 (fun j hj1 hj2 => hoth j (by simp at hj1; omega))), rdt_nil _ _ _, rdr_heap hr1 (fun j hj => (fin_other _ _ _ _ _ (by omega)).trans (Below.heap_setCell _ _ _ j (by simp; omega))), fin_grown hg2 (Nat.le_refl _) _ _ _ _ _⟩

set_option maxRecDepth 100000 in
set_option maxHeartbeats 1000000 in
theorem lReadT_5 (g : Nat) (s : Rst) (w : World) (h : RdrAt w 77 g (nrm s)) (h8 : Bytes8 s.l) (hl : s.l.length ≤ 900000) :
    Calls Try.prog 22 #[.pointer (some ⟨g, 0, none⟩), .int .i64 5] w (ValPostT 77 w g (readR 5 s).1 (nrm (readR 5 s).2)) := by
  have HR := Lib.hid (show readR 5 s = (⟨5, 0, 0, [], (intsR s).1⟩, (intsR s).2) by simp [readR])
  have hg := rdr_lt h
  have hC := fun (o1 o2 : Obj) => rInts_any g s _ (rdr_below h ((new_below w o1).trans ((new_below (w.alloc o1) o2).mono (by simp)))) h8 hl
  clear h
  generalize (intsR s).2 = s2 at hC HR
  generalize (intsR s).1 = zs at hC HR
  go_enter Try.func22, Try.ntmps22
  go_wp2_with (go_at_call 35; refine (hC _ _).mono ?_; clear hC; rintro e w1 ⟨A1, c1, rfl, hc1, hrow1, hr1, hg1⟩; obtain ⟨hk0, hk1⟩ := val_new hg hg1; obtain ⟨⟨q0, q1, q2, q3, q4⟩, f0, f1, f2, f3, f4⟩ := five hk0; obtain ⟨⟨r0, r1, r2, r3, r4⟩, e0, e1, e2, e3, e4⟩ := five hk1; have HK0 := Lib.hid hk0; have HK1 := Lib.hid hk1; clear hk0 hk1)
  refine bodyPost_ret (v := .agg #[.int .i64 5, .int .u64 0, .int .i64 0, .slice none 0 0, .slice A1 zs.length c1]) (by simp [results, Try.results22, go_sem, q0, q1, q2, q3, q4]) rfl ?_
  have hg2 := grown_far (grown_two hg1) (Nat.le_succ _) 4 (.slice A1 zs.length c1)
  rw [HR.out]
  have hoth : ∀ j, w.heap.size + 2 ≤ j → (((((( w1.setCell ⟨w.heap.size + 1, 4, none⟩ (.slice A1 zs.length c1)).setCell ⟨w.heap.size, 0, none⟩ (.int .i64 5)).setCell ⟨w.heap.size, 1, none⟩ (.int .u64 0)).setCell ⟨w.heap.size, 2, none⟩ (.int .i64 0)).setCell ⟨w.heap.size, 3, none⟩ (.slice none 0 0)).setCell ⟨w.heap.size, 4, none⟩ (.slice A1 zs.length c1)).heap[j]? = w1.heap[j]? := fun j hj => (fin_other _ _ _ _ _ (by omega)).trans (Below.heap_setCell _ _ _ j (by simp; omega))
  exact ⟨_, _, rfl, rdt_nil _ _ _, rdt_own (own_kp hrow1 (fun j hj1 hj2 => hoth j (by simp at hj1; omega))), rdr_heap hr1 (fun j hj => (fin_other _ _ _ _ _ (by omega)).trans (Below.heap_setCell _ _ _ j (by simp; omega))), fin_grown hg2 (Nat.le_refl _) _ _ _ _ _⟩

set_option maxRecDepth 100000 in
set_option maxHeartbeats 1000000 in
theorem lReadT_3 (g : Nat) (s : Rst) (w : World) (h : RdrAt w 77 g (nrm s)) (h8 : Bytes8 s.l) (hl : s.l.length ≤ 900000) :
    Calls Try.prog 22 #[.pointer (some ⟨g, 0, none⟩), .int .i64 3] w (ValPostT 77 w g (readR 3 s).1 (nrm (readR 3 s).2)) := by
  have HR := Lib.hid (show readR 3 s = (⟨3, 0, 0, (rawR s).1, []⟩, (rawR s).2) by simp [readR])
  have hg := rdr_lt h
  have hz8 := rawR_bytes h8
  have hC := fun (o1 o2 : Obj) => rText_any g s _ (rdr_below h ((new_below w o1).trans ((new_below (w.alloc o1) o2).mono (by simp)))) h8 hl
  clear h
  generalize (rawR s).2 = s2 at hC HR
  generalize (rawR s).1 = zs at hC HR hz8
  have hsb := Lib.hid (sb_of_nums hz8)
  clear hz8
  go_enter Try.func22, Try.ntmps22
  go_wp2_with (go_at_call 47; refine (hC _ _).mono ?_; clear hC; rintro e w0 ⟨rfl, hr1, hg0⟩; obtain ⟨cap, C, hcap, hcv, HC⟩ := conv_bytes (strOfNums zs) w0; rw [strOfNums_size] at hcap hcv; have hg1 := hg0.trans (World.grownBy_alloc w0 (.cells C 5 (C.size, C.size + 1)) (some g)); obtain ⟨hk0, hk1⟩ := val_new hg hg1; obtain ⟨⟨q0, q1, q2, q3, q4⟩, f0, f1, f2, f3, f4⟩ := five (w := w0.alloc (.cells C 5 (C.size, C.size + 1))) hk0; obtain ⟨⟨r0, r1, r2, r3, r4⟩, e0, e1, e2, e3, e4⟩ := five (w := w0.alloc (.cells C 5 (C.size, C.size + 1))) hk1; have HK0 := Lib.hid hk0; have HK1 := Lib.hid hk1; clear hk0 hk1)
  refine bodyPost_ret (v := .agg #[.int .i64 3, .int .u64 0, .int .i64 0, .slice (some ⟨w0.heap.size, 0, none⟩) zs.length cap, .slice none 0 0]) (by simp [results, Try.results22, go_sem, q0, q1, q2, q3, q4]) rfl ?_
  have hsz : w.heap.size + 2 ≤ w0.heap.size := by have := hg0.size; simp at this; omega
  have hg2 := grown_far (grown_two hg1) (Nat.le_succ _) 3 (.slice (some ⟨w0.heap.size, 0, none⟩) zs.length cap)
  rw [HR.out]
  rw [hsb.out] at HC
  refine valpostT_drew ?_
  refine ⟨_, _, rfl, rdt_block ((fin_other _ _ _ _ _ (by omega)).trans ((Below.heap_setCell _ _ _ _ (by simp; omega)).trans (heap_alloc_new w0 _))) hcap HC.out, rdt_nil _ _ _, rdr_heap hr1 (fun j hj => ?_), fin_grown hg2 (Nat.le_refl _) _ _ _ _ _⟩
  exact (fin_other _ _ _ _ _ (by omega)).trans ((Below.heap_setCell _ _ _ j (by simp; omega)).trans (heap_alloc_old w0 _ _ (show j < w0.heap.size by omega)))

theorem lReadT_any (k : Int) (g : Nat) (s : Rst) (w : World) (h : RdrAt w 77 g (nrm s)) (h8 : Bytes8 s.l) (hl : s.l.length ≤ 900000) (hk : 0 ≤ k ∧ k ≤ 5) :
    Calls Try.prog 22 #[.pointer (some ⟨g, 0, none⟩), .int .i64 k] w (ValPostT 77 w g (readR k s).1 (nrm (readR k s).2)) := by
  have hkk : k = 0 ∨ k = 1 ∨ k = 2 ∨ k = 3 ∨ k = 4 ∨ k = 5 := by omega
  rcases hkk with rfl | rfl | rfl | rfl | rfl | rfl
  · exact lReadT_0 g s w h h8 hl
  · exact lReadT_1 g s w h h8 hl
  · exact lReadT_2 g s w h h8 hl
  · exact lReadT_3 g s w h h8 hl
  · exact lReadT_4 g s w h h8 hl
  · exact lReadT_5 g s w h h8 hl
end Go.Proofs.Ytebfgdonikedaaa
