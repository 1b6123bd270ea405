/-
  THE WALK of the reference's Reader.Read of wire.
-/
import Derived.Test.YtebfgdonikedaaaWrInts
import Derived.Test.YtebfgdonikedaaaReadW
namespace Go.Proofs.Ytebfgdonikedaaa
open Go.RowKit

theorem xUint_any (g : Nat) (s : Rst) (w : World) (h : RdrAt w 47 g s) (h8 : Bytes8 s.l) (hl : s.l.length ≤ 900000) :
    Calls Try.prog 49 #[.pointer (some ⟨g, 0, none⟩)] w (RdrPost w 47 g (.int .u64 ((uintR s).1 : Nat)) (uintR s).2) := wrUint_any 47 g s w h h8 (Nat.le_trans hl (by decide))
theorem xInt_any (g : Nat) (s : Rst) (w : World) (h : RdrAt w 47 g s) (h8 : Bytes8 s.l) (hl : s.l.length ≤ 900000) :
    Calls Try.prog 50 #[.pointer (some ⟨g, 0, none⟩)] w (RdrPost w 47 g (.int .i64 (intR s).1) (intR s).2) := wrInt_any 47 g s w h h8 (Nat.le_trans hl (by decide))
theorem xBool_any (g : Nat) (s : Rst) (w : World) (h : RdrAt w 47 g s) (h8 : Bytes8 s.l) (hl : s.l.length ≤ 900000) :
    Calls Try.prog 51 #[.pointer (some ⟨g, 0, none⟩)] w (RdrPost w 47 g (.bool ((boolR s).1 == 1)) (boolR s).2) := wrBool_any 47 g s w h h8 (Nat.le_trans hl (by decide))
theorem xRaw_any (g : Nat) (s : Rst) (w : World) (h : RdrAt w 47 g s) (h8 : Bytes8 s.l) (hl : s.l.length ≤ 900000) :
    Calls Try.prog 52 #[.pointer (some ⟨g, 0, none⟩)] w (RawPost w 47 g (rawR s).1 (rawR s).2) := wrRaw_any 47 g s w h h8 (Nat.le_trans hl (by decide))
theorem xInts_any (g : Nat) (s : Rst) (w : World) (h : RdrAt w 47 g s) (h8 : Bytes8 s.l) (hl : s.l.length ≤ 900000) :
    Calls Try.prog 53 #[.pointer (some ⟨g, 0, none⟩)] w (RowPostG 47 w g 3 .i64 (intsR s).1 (intsR s).2) := wrInts_any 47 g s w h h8 hl
/-- a slice that lies below g, in a world in which what lies below is the same -/
theorem rdi_low {W F : World} {g : Nat} {k : IntKind} {A : Option Addr} {zs : List Int} (h : RdI W g k A zs) (hk : ∀ j, j < g → F.heap[j]? = W.heap[j]?) (hg : g ≤ F.heap.size) : RdI F F.heap.size k A zs := by
  rcases h with h | ⟨b, o, e, hb, hc⟩
  · exact .inl h
  · exact .inr ⟨b, o, e, by omega, fun j hj => (World.cell?_of_block (hk b hb)).trans (hc j hj)⟩

set_option maxRecDepth 100000 in
set_option maxHeartbeats 1000000 in
theorem wrRead_0 (g : Nat) (s : Rst) (w : World) (h : RdrAt w 47 g s) (h8 : Bytes8 s.l) (hl : s.l.length ≤ 900000) :
    Calls Try.prog 23 #[.pointer (some ⟨g, 0, none⟩), .int .i64 0] w (ValPost 47 w g (readR 0 s).1 (readR 0 s).2) := by
  have HR := Lib.hid (show readR 0 s = (⟨0, ((uintR s).1 : Int), 0, [], []⟩, (uintR s).2) by simp [readR])
  have hg := rdr_lt h
  have hC := fun (o1 o2 : Obj) => xUint_any g s _ (rdr_below h ((new_below w o1).trans ((new_below (w.alloc o1) o2).mono (by simp)))) h8 hl
  clear h
  go_enter Try.func23, Try.ntmps23
  go_wp2_with (go_at_call 49; refine (hC _ _).mono ?_; clear hC; rintro e w1 ⟨rfl, hr1, hg1⟩; obtain ⟨hk0, hk1⟩ := val_new hg hg1; obtain ⟨⟨q0, q1, q2, q3, q4⟩, f0, f1, f2, f3, f4⟩ := five hk0; obtain ⟨⟨r0, r1, r2, r3, r4⟩, e0, e1, e2, e3, e4⟩ := five hk1; have HK0 := Lib.hid hk0; have HK1 := Lib.hid hk1; clear hk0 hk1)
  refine bodyPost_ret (v := .agg #[.int .i64 0, .int .u64 ((uintR s).1 : Nat), .int .i64 0, .slice none 0 0, .slice none 0 0]) (by simp [results, Try.results23, go_sem, q0, q1, q2, q3, q4]) rfl ?_
  have hg2 := grown_far (grown_two hg1) (Nat.le_succ _) 1 (.int .u64 ((uintR s).1 : Nat))
  rw [HR.out]
  exact ⟨_, _, rfl, rds_nil _ _ _, rds_nil _ _ _, rdr_heap hr1 (fun j hj => (fin_other _ _ _ _ _ (by omega)).trans (Below.heap_setCell _ _ _ j (by simp; omega))), fin_grown hg2 (Nat.le_refl _) _ _ _ _ _⟩

set_option maxRecDepth 100000 in
set_option maxHeartbeats 1000000 in
theorem wrRead_1 (g : Nat) (s : Rst) (w : World) (h : RdrAt w 47 g s) (h8 : Bytes8 s.l) (hl : s.l.length ≤ 900000) :
    Calls Try.prog 23 #[.pointer (some ⟨g, 0, none⟩), .int .i64 1] w (ValPost 47 w g (readR 1 s).1 (readR 1 s).2) := by
  have HR := Lib.hid (show readR 1 s = (⟨1, 0, (intR s).1, [], []⟩, (intR s).2) by simp [readR])
  have hg := rdr_lt h
  have hC := fun (o1 o2 : Obj) => xInt_any g s _ (rdr_below h ((new_below w o1).trans ((new_below (w.alloc o1) o2).mono (by simp)))) h8 hl
  clear h
  go_enter Try.func23, Try.ntmps23
  go_wp2_with (go_at_call 50; refine (hC _ _).mono ?_; clear hC; rintro e w1 ⟨rfl, hr1, hg1⟩; obtain ⟨hk0, hk1⟩ := val_new hg hg1; obtain ⟨⟨q0, q1, q2, q3, q4⟩, f0, f1, f2, f3, f4⟩ := five hk0; obtain ⟨⟨r0, r1, r2, r3, r4⟩, e0, e1, e2, e3, e4⟩ := five hk1; have HK0 := Lib.hid hk0; have HK1 := Lib.hid hk1; clear hk0 hk1)
  refine bodyPost_ret (v := .agg #[.int .i64 1, .int .u64 0, .int .i64 (intR s).1, .slice none 0 0, .slice none 0 0]) (by simp [results, Try.results23, go_sem, q0, q1, q2, q3, q4]) rfl ?_
  have hg2 := grown_far (grown_two hg1) (Nat.le_succ _) 2 (.int .i64 (intR s).1)
  rw [HR.out]
  exact ⟨_, _, rfl, rds_nil _ _ _, rds_nil _ _ _, rdr_heap hr1 (fun j hj => (fin_other _ _ _ _ _ (by omega)).trans (Below.heap_setCell _ _ _ j (by simp; omega))), fin_grown hg2 (Nat.le_refl _) _ _ _ _ _⟩

set_option maxRecDepth 100000 in
set_option maxHeartbeats 1000000 in
theorem wrRead_2 (g : Nat) (s : Rst) (w : World) (h : RdrAt w 47 g s) (h8 : Bytes8 s.l) (hl : s.l.length ≤ 900000) :
    Calls Try.prog 23 #[.pointer (some ⟨g, 0, none⟩), .int .i64 2] w (ValPost 47 w g (readR 2 s).1 (readR 2 s).2) := by
  have hg := rdr_lt h
  have hC := fun (o1 o2 : Obj) => xBool_any g s _ (rdr_below h ((new_below w o1).trans ((new_below (w.alloc o1) o2).mono (by simp)))) h8 hl
  clear h
  rcases boolR_01 s with hb | hb
  · have HR := Lib.hid (show readR 2 s = (⟨2, 0, 0, [], []⟩, (boolR s).2) by simp [readR, hb])
    have b1 : ((boolR s).1 == 1) = false := by rw [hb]; rfl
    rw [b1] at hC
    clear hb b1
    generalize (boolR s).2 = s2 at hC HR
    go_enter Try.func23, Try.ntmps23
    go_wp2_with (go_at_call 51; refine (hC _ _).mono ?_; clear hC; rintro e w1 ⟨rfl, hr1, hg1⟩; obtain ⟨hk0, hk1⟩ := val_new hg hg1; obtain ⟨⟨q0, q1, q2, q3, q4⟩, f0, f1, f2, f3, f4⟩ := five hk0; obtain ⟨⟨r0, r1, r2, r3, r4⟩, e0, e1, e2, e3, e4⟩ := five hk1; have HK0 := Lib.hid hk0; have HK1 := Lib.hid hk1; clear hk0 hk1)
    refine bodyPost_ret (v := .agg #[.int .i64 2, .int .u64 0, .int .i64 0, .slice none 0 0, .slice none 0 0]) (by simp [results, Try.results23, go_sem, q0, q1, q2, q3, q4]) rfl ?_
    rw [HR.out]
    exact ⟨_, _, rfl, rds_nil _ _ _, rds_nil _ _ _, rdr_heap hr1 (fun j hj => fin_other _ _ _ _ _ (by omega)), fin_grown (grown_two hg1) (Nat.le_refl _) _ _ _ _ _⟩
  · have HR := Lib.hid (show readR 2 s = (⟨2, 0, 1, [], []⟩, (boolR s).2) by simp [readR, hb])
    have b1 : ((boolR s).1 == 1) = true := by rw [hb]; rfl
    rw [b1] at hC
    clear hb b1
    generalize (boolR s).2 = s2 at hC HR
    go_enter Try.func23, Try.ntmps23
    go_wp2_with (go_at_call 51; refine (hC _ _).mono ?_; clear hC; rintro e w1 ⟨rfl, hr1, hg1⟩; obtain ⟨hk0, hk1⟩ := val_new hg hg1; obtain ⟨⟨q0, q1, q2, q3, q4⟩, f0, f1, f2, f3, f4⟩ := five hk0; obtain ⟨⟨r0, r1, r2, r3, r4⟩, e0, e1, e2, e3, e4⟩ := five hk1; have HK0 := Lib.hid hk0; have HK1 := Lib.hid hk1; clear hk0 hk1)
    refine bodyPost_ret (v := .agg #[.int .i64 2, .int .u64 0, .int .i64 1, .slice none 0 0, .slice none 0 0]) (by simp [results, Try.results23, go_sem, q0, q1, q2, q3, q4]) rfl ?_
    have hg2 := grown_far (grown_two hg1) (Nat.le_succ _) 2 (.int .i64 1)
    rw [HR.out]
    exact ⟨_, _, rfl, rds_nil _ _ _, rds_nil _ _ _, rdr_heap hr1 (fun j hj => (fin_other _ _ _ _ _ (by omega)).trans (Below.heap_setCell _ _ _ j (by simp; omega))), fin_grown hg2 (Nat.le_refl _) _ _ _ _ _⟩

set_option maxRecDepth 100000 in
set_option maxHeartbeats 1000000 in
theorem wrRead_5 (g : Nat) (s : Rst) (w : World) (h : RdrAt w 47 g s) (h8 : Bytes8 s.l) (hl : s.l.length ≤ 900000) :
    Calls Try.prog 23 #[.pointer (some ⟨g, 0, none⟩), .int .i64 5] w (ValPost 47 w g (readR 5 s).1 (readR 5 s).2) := by
  have HR := Lib.hid (show readR 5 s = (⟨5, 0, 0, [], (intsR s).1⟩, (intsR s).2) by simp [readR])
  have hg := rdr_lt h
  have hC := fun (o1 o2 : Obj) => xInts_any g s _ (rdr_below h ((new_below w o1).trans ((new_below (w.alloc o1) o2).mono (by simp)))) h8 hl
  clear h
  generalize (intsR s).2 = s2 at hC HR
  generalize (intsR s).1 = zs at hC HR
  go_enter Try.func23, Try.ntmps23
  go_wp2_with (go_at_call 53; refine (hC _ _).mono ?_; clear hC; rintro e w1 ⟨A1, c1, rfl, hc1, hrow1, hr1, hg1⟩; obtain ⟨hk0, hk1⟩ := val_new hg hg1; obtain ⟨⟨q0, q1, q2, q3, q4⟩, f0, f1, f2, f3, f4⟩ := five hk0; obtain ⟨⟨r0, r1, r2, r3, r4⟩, e0, e1, e2, e3, e4⟩ := five hk1; have HK0 := Lib.hid hk0; have HK1 := Lib.hid hk1; clear hk0 hk1)
  refine bodyPost_ret (v := .agg #[.int .i64 5, .int .u64 0, .int .i64 0, .slice none 0 0, .slice A1 zs.length c1]) (by simp [results, Try.results23, go_sem, q0, q1, q2, q3, q4]) rfl ?_
  have hg2 := grown_far (grown_two hg1) (Nat.le_succ _) 4 (.slice A1 zs.length c1)
  rw [HR.out]
  have hoth : ∀ j, w.heap.size + 2 ≤ j → (((((( w1.setCell ⟨w.heap.size + 1, 4, none⟩ (.slice A1 zs.length c1)).setCell ⟨w.heap.size, 0, none⟩ (.int .i64 5)).setCell ⟨w.heap.size, 1, none⟩ (.int .u64 0)).setCell ⟨w.heap.size, 2, none⟩ (.int .i64 0)).setCell ⟨w.heap.size, 3, none⟩ (.slice none 0 0)).setCell ⟨w.heap.size, 4, none⟩ (.slice A1 zs.length c1)).heap[j]? = w1.heap[j]? := fun j hj => (fin_other _ _ _ _ _ (by omega)).trans (Below.heap_setCell _ _ _ j (by simp; omega))
  exact ⟨_, _, rfl, rds_nil _ _ _, rds_own (own_kp hrow1 (fun j hj1 hj2 => hoth j (by simp at hj1; omega))), rdr_heap hr1 (fun j hj => (fin_other _ _ _ _ _ (by omega)).trans (Below.heap_setCell _ _ _ j (by simp; omega))), fin_grown hg2 (Nat.le_refl _) _ _ _ _ _⟩

set_option maxRecDepth 100000 in
set_option maxHeartbeats 1000000 in
theorem wrRead_3 (g : Nat) (s : Rst) (w : World) (h : RdrAt w 47 g s) (h8 : Bytes8 s.l) (hl : s.l.length ≤ 900000) :
    Calls Try.prog 23 #[.pointer (some ⟨g, 0, none⟩), .int .i64 3] w (ValPost 47 w g (readR 3 s).1 (readR 3 s).2) := by
  have HR := Lib.hid (show readR 3 s = (⟨3, 0, 0, (rawR s).1, []⟩, (rawR s).2) by simp [readR])
  have hg := rdr_lt h
  have hC := fun (o1 o2 : Obj) => xRaw_any g s _ (rdr_below h ((new_below w o1).trans ((new_below (w.alloc o1) o2).mono (by simp)))) h8 hl
  clear h
  generalize (rawR s).2 = s2 at hC HR
  generalize (rawR s).1 = zs at hC HR
  go_enter Try.func23, Try.ntmps23
  go_wp2_with (go_at_call 52; refine (hC _ _).mono ?_; clear hC; rintro e w1 ⟨v1, rfl, ⟨A1, c1, rfl, hc1, hA1, hrI⟩, hr1, hg1⟩; obtain ⟨hk0, hk1⟩ := val_new hg hg1; obtain ⟨⟨q0, q1, q2, q3, q4⟩, f0, f1, f2, f3, f4⟩ := five hk0; obtain ⟨⟨r0, r1, r2, r3, r4⟩, e0, e1, e2, e3, e4⟩ := five hk1; have HK0 := Lib.hid hk0; have HK1 := Lib.hid hk1; clear hk0 hk1)
  refine bodyPost_ret (v := .agg #[.int .i64 3, .int .u64 0, .int .i64 0, .slice A1 zs.length c1, .slice none 0 0]) (by simp [results, Try.results23, go_sem, q0, q1, q2, q3, q4]) rfl ?_
  have hg2 := grown_far (grown_two hg1) (Nat.le_succ _) 3 (.slice A1 zs.length c1)
  have hg3 := fin_grown hg2 (Nat.le_refl _) (.int .i64 3) (.int .u64 0) (.int .i64 0) (.slice A1 zs.length c1) (.slice none 0 0)
  have hlow : ∀ j, j ≤ g → ((((((w1.setCell ⟨w.heap.size + 1, 3, none⟩ (.slice A1 zs.length c1)).setCell ⟨w.heap.size, 0, none⟩ (.int .i64 3)).setCell ⟨w.heap.size, 1, none⟩ (.int .u64 0)).setCell ⟨w.heap.size, 2, none⟩ (.int .i64 0)).setCell ⟨w.heap.size, 3, none⟩ (.slice A1 zs.length c1)).setCell ⟨w.heap.size, 4, none⟩ (.slice none 0 0)).heap[j]? = w1.heap[j]? := fun j hj => (fin_other _ _ _ _ _ (by omega)).trans (Below.heap_setCell _ _ _ j (by simp; omega))
  rw [HR.out]
  exact ⟨_, _, rfl, ⟨A1, c1, rfl, hc1, hA1, rdi_low hrI (fun j hj => hlow j (Nat.le_of_lt hj)) (Nat.le_trans (Nat.le_of_lt hg) hg3.size)⟩, rds_nil _ _ _, rdr_heap hr1 hlow, hg3⟩

set_option maxRecDepth 100000 in
set_option maxHeartbeats 1000000 in
theorem wrRead_4 (g : Nat) (s : Rst) (w : World) (h : RdrAt w 47 g s) (h8 : Bytes8 s.l) (hl : s.l.length ≤ 900000) :
    Calls Try.prog 23 #[.pointer (some ⟨g, 0, none⟩), .int .i64 4] w (ValPost 47 w g (readR 4 s).1 (readR 4 s).2) := by
  have HR := Lib.hid (show readR 4 s = (⟨4, 0, 0, (rawR s).1, []⟩, (rawR s).2) by simp [readR])
  have hg := rdr_lt h
  have hC := fun (o1 o2 : Obj) => xRaw_any g s _ (rdr_below h ((new_below w o1).trans ((new_below (w.alloc o1) o2).mono (by simp)))) h8 hl
  clear h
  generalize (rawR s).2 = s2 at hC HR
  generalize (rawR s).1 = zs at hC HR
  go_enter Try.func23, Try.ntmps23
  go_wp2_with (go_at_call 52; refine (hC _ _).mono ?_; clear hC; rintro e w1 ⟨v1, rfl, ⟨A1, c1, rfl, hc1, hA1, hrI⟩, hr1, hg1⟩; obtain ⟨hk0, hk1⟩ := val_new hg hg1; obtain ⟨⟨q0, q1, q2, q3, q4⟩, f0, f1, f2, f3, f4⟩ := five hk0; obtain ⟨⟨r0, r1, r2, r3, r4⟩, e0, e1, e2, e3, e4⟩ := five hk1; have HK0 := Lib.hid hk0; have HK1 := Lib.hid hk1; clear hk0 hk1)
  refine bodyPost_ret (v := .agg #[.int .i64 4, .int .u64 0, .int .i64 0, .slice A1 zs.length c1, .slice none 0 0]) (by simp [results, Try.results23, go_sem, q0, q1, q2, q3, q4]) rfl ?_
  have hg2 := grown_far (grown_two hg1) (Nat.le_succ _) 3 (.slice A1 zs.length c1)
  have hg3 := fin_grown hg2 (Nat.le_refl _) (.int .i64 4) (.int .u64 0) (.int .i64 0) (.slice A1 zs.length c1) (.slice none 0 0)
  have hlow : ∀ j, j ≤ g → ((((((w1.setCell ⟨w.heap.size + 1, 3, none⟩ (.slice A1 zs.length c1)).setCell ⟨w.heap.size, 0, none⟩ (.int .i64 4)).setCell ⟨w.heap.size, 1, none⟩ (.int .u64 0)).setCell ⟨w.heap.size, 2, none⟩ (.int .i64 0)).setCell ⟨w.heap.size, 3, none⟩ (.slice A1 zs.length c1)).setCell ⟨w.heap.size, 4, none⟩ (.slice none 0 0)).heap[j]? = w1.heap[j]? := fun j hj => (fin_other _ _ _ _ _ (by omega)).trans (Below.heap_setCell _ _ _ j (by simp; omega))
  rw [HR.out]
  exact ⟨_, _, rfl, ⟨A1, c1, rfl, hc1, hA1, rdi_low hrI (fun j hj => hlow j (Nat.le_of_lt hj)) (Nat.le_trans (Nat.le_of_lt hg) hg3.size)⟩, rds_nil _ _ _, rdr_heap hr1 hlow, hg3⟩

theorem wrRead_any (k : Int) (g : Nat) (s : Rst) (w : World) (h : RdrAt w 47 g s) (h8 : Bytes8 s.l) (hl : s.l.length ≤ 900000) (hk : 0 ≤ k ∧ k ≤ 5) :
    Calls Try.prog 23 #[.pointer (some ⟨g, 0, none⟩), .int .i64 k] w (ValPost 47 w g (readR k s).1 (readR k s).2) := by
  have hkk : k = 0 ∨ k = 1 ∨ k = 2 ∨ k = 3 ∨ k = 4 ∨ k = 5 := by omega
  rcases hkk with rfl | rfl | rfl | rfl | rfl | rfl
  · exact wrRead_0 g s w h h8 hl
  · exact wrRead_1 g s w h h8 hl
  · exact wrRead_2 g s w h h8 hl
  · exact wrRead_3 g s w h h8 hl
  · exact wrRead_4 g s w h h8 hl
  · exact wrRead_5 g s w h h8 hl
end Go.Proofs.Ytebfgdonikedaaa
