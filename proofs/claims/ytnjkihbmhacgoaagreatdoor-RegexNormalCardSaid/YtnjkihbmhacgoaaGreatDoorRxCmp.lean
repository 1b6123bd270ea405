/-
  THE WALKS of the program's Compare, of cmp.Compare, cmp.Or and slices.CompareFunc under it.
-/
import Derived.Test.YtnjkihbmhacgoaaGreatDoorRxOwn
import Derived.Deep.RegionHeld3
import Derived.LoopN
namespace Go.Proofs.YtnjkihbmhacgoaaGreatDoor
open Go.RowKit

set_option maxHeartbeats 1000000 in
theorem cmpI_any (x y : Int) (w : World) : Calls Tryz.prog 30 #[.int .i64 x, .int .i64 y] w fun e w' => e = .returned (.int .i64 (c3 x y)) ∧ w = w' := by
  by_cases h1 : x < y
  · have h0 : c3 x y = -1 := by unfold c3; rw [if_pos h1]
    go_enter Tryz.func30, Tryz.ntmps30
    go_wp2
    go_ret
    exact ⟨by first | rfl | (rw [h0]; rfl), rfl⟩
  · by_cases h2 : y < x
    · have h0 : c3 x y = 1 := by unfold c3; rw [if_neg h1, if_pos h2]
      go_enter Tryz.func30, Tryz.ntmps30
      go_wp2
      go_ret
      exact ⟨by first | rfl | (rw [h0]; rfl), rfl⟩
    · have h0 : c3 x y = 0 := by unfold c3; rw [if_neg h1, if_neg h2]
      go_enter Tryz.func30, Tryz.ntmps30
      go_wp2
      go_ret
      exact ⟨by first | rfl | (rw [h0]; rfl), rfl⟩

set_option maxHeartbeats 1000000 in
theorem cmpB_any (x y : Int) (w : World) : Calls Tryz.prog 31 #[.int .u8 x, .int .u8 y] w fun e w' => e = .returned (.int .i64 (c3 x y)) ∧ w = w' := by
  by_cases h1 : x < y
  · have h0 : c3 x y = -1 := by unfold c3; rw [if_pos h1]
    go_enter Tryz.func31, Tryz.ntmps31
    go_wp2
    go_ret
    exact ⟨by first | rfl | (rw [h0]; rfl), rfl⟩
  · by_cases h2 : y < x
    · have h0 : c3 x y = 1 := by unfold c3; rw [if_neg h1, if_pos h2]
      go_enter Tryz.func31, Tryz.ntmps31
      go_wp2
      go_ret
      exact ⟨by first | rfl | (rw [h0]; rfl), rfl⟩
    · have h0 : c3 x y = 0 := by unfold c3; rw [if_neg h1, if_neg h2]
      go_enter Tryz.func31, Tryz.ntmps31
      go_wp2
      go_ret
      exact ⟨by first | rfl | (rw [h0]; rfl), rfl⟩

set_option maxHeartbeats 1000000 in
theorem orI_any (a b c : Int) (g cap : Nat) (w : World) (h0 : w.cell? ⟨g, 0, none⟩ = some (.int .i64 a)) (h1 : w.cell? ⟨g, 1, none⟩ = some (.int .i64 b)) (h2 : w.cell? ⟨g, 2, none⟩ = some (.int .i64 c)) :
    Calls Tryz.prog 29 #[.slice (some ⟨g, 0, none⟩) 3 cap] w fun e w' => e = .returned (.int .i64 (or2 a (or2 b c))) ∧ w = w' := by
  go_enter Tryz.func29, Tryz.ntmps29
  go_wp2
  refine wp_loop_rounds 4 ?_
  rw [rounds_succ]
  by_cases e0 : a = 0
  · subst e0
    go_wp2
    rw [rounds_succ]
    by_cases e1 : b = 0
    · subst e1
      go_wp2
      rw [rounds_succ]
      by_cases e2 : c = 0
      · subst e2
        go_wp2
        rw [rounds_succ]
        go_wp2
        go_ret
        exact ⟨rfl, rfl⟩
      · go_wp2
        go_ret
        exact ⟨by unfold or2; simp, rfl⟩
    · go_wp2
      go_ret
      exact ⟨by unfold or2; simp [e1], rfl⟩
  · go_wp2
    go_ret
    exact ⟨by unfold or2; simp [e0], rfl⟩

theorem cmps_nil (t : List Rx) : cmps [] t = if t = [] then 0 else -1 := by cases t <;> simp [cmps]
theorem cmps_cons {s t : List Rx} {j : Nat} (hs : j < s.length) (ht : j < t.length) : cmps (s.drop j) (t.drop j) = or2 (cmp s[j] t[j]) (cmps (s.drop (j + 1)) (t.drop (j + 1))) := by
  rw [List.drop_eq_getElem_cons hs, List.drop_eq_getElem_cons ht, cmps]
theorem cmps_short {s t : List Rx} {j : Nat} (hs : j < s.length) (ht : t.length ≤ j) : cmps (s.drop j) (t.drop j) = 1 := by
  rw [List.drop_eq_getElem_cons hs, List.drop_of_length_le ht]; simp [cmps]
theorem cmps_end {s t : List Rx} {j : Nat} (hs : s.length ≤ j) (hj : j = s.length) : cmps (s.drop j) (t.drop j) = if s.length < t.length then -1 else 0 := by
  rw [List.drop_of_length_le hs, cmps_nil]
  subst hj
  by_cases h : s.length < t.length
  · rw [if_pos h, if_neg]; simp; omega
  · rw [if_neg h, if_pos]; simp; omega

theorem cell_one_at3 (w : World) (a b c : Value) {t : TypeId} : (w.alloc (.cells #[a, b, c] t)).cell? ⟨w.heap.size, 0, none⟩ = some a ∧ (w.alloc (.cells #[a, b, c] t)).cell? ⟨w.heap.size, 1, none⟩ = some b ∧ (w.alloc (.cells #[a, b, c] t)).cell? ⟨w.heap.size, 2, none⟩ = some c := by
  have h := heap_alloc_new w (.cells #[a, b, c] t)
  exact ⟨by rw [cell_of_row _ _ 0 _ t _ h]; rfl, by rw [cell_of_row _ _ 1 _ t _ h]; rfl, by rw [cell_of_row _ _ 2 _ t _ h]; rfl⟩

/-- what Compare's contract says of trees of at most m nodes -/
def CmpUpto (m : Nat) : Prop := ∀ (x y : Rx) (v1 v2 : Value) (w : World), nodes x ≤ m → RtV w (Lo w.heap.size) x v1 → RtV w (Lo w.heap.size) y v2 → Calls Tryz.prog 12 #[v1, v2] w fun e w' => e = .returned (.int .i64 (cmp x y)) ∧ Below w.heap.size w w' ∧ w.drawn ≤ w'.drawn

set_option maxHeartbeats 1000000 in
set_option maxRecDepth 100000 in
theorem cmpF_any (m : Nat) (ih : CmpUpto m) (s t : List Rx) (A B : Option Addr) (c d : Nat) (w : World) (hn : nodesL s ≤ m) (hsl : s.length ≤ 1048576) (_ : t.length ≤ 1048576) (hs : RtL w (Lo w.heap.size) s A) (ht : RtL w (Lo w.heap.size) t B) :
    Calls Tryz.prog 32 #[.slice A s.length c, .slice B t.length d, .func (.func 12) #[] #[]] w fun e w' => e = .returned (.int .i64 (cmps s t)) ∧ Below w.heap.size w w' ∧ w.drawn ≤ w'.drawn := by
  go_enter Tryz.func32, Tryz.ntmps32
  go_wp2_with fail
  go_loopw [13] (fun i wr => ∃ j : Nat, j ≤ s.length ∧ i = .int .i64 j ∧ Hid (cmps s t = cmps (s.drop j) (t.drop j)) ∧ (s.length ≤ j → j = s.length) ∧ j ≤ t.length ∧ Below w.heap.size w wr ∧ Hid (w.drawn ≤ wr.drawn)) (fun i _ => s.length - (intOf i).toNat)
  case atStart => exact ⟨0, Nat.zero_le _, rfl, Lib.hid rfl, by omega, Nat.zero_le _, Below.refl _ _, Lib.hid (Nat.le_refl _)⟩
  case round =>
    obtain ⟨j, hj, rfl, hcm, hjs, hjt, hW, hdr⟩ := hrel
    by_cases hlt : j < s.length
    · obtain ⟨b1, o1, A1, c1, rfl, hb1, h1, hx1⟩ := hs.get hlt
      have q1 := h1.to (hW.block b1 hb1)
      obtain ⟨e0, e1, e2, e3⟩ := q1
      by_cases hlt2 : j < t.length
      · obtain ⟨b2, o2, A2, c2, rfl, hb2, h2, hx2⟩ := ht.get hlt2
        have q2 := h2.to (hW.block b2 hb2)
        have hC : ∀ W, Below w.heap.size wr W → Calls Tryz.prog 12 #[rxv s[j].kind s[j].lo s[j].hi A1 s[j].kids.length c1, rxv t[j].kind t[j].lo t[j].hi A2 t[j].kids.length c2] W fun e w' => e = .returned (.int .i64 (cmp s[j] t[j])) ∧ Below W.heap.size W w' ∧ W.drawn ≤ w'.drawn := fun W hWW =>
          ih _ _ _ _ W (Nat.le_trans (nodes_get hlt) hn) (((hx1.below hW).below hWW).mono (Nat.le_trans hW.size hWW.size)) (((hx2.below hW).below hWW).mono (Nat.le_trans hW.size hWW.size))
        have hst := Lib.hid (cmps_cons hlt hlt2)
        clear hs ht hx1 hx2 h1 h2
        have hbW : b2 < wr.heap.size := Nat.lt_of_lt_of_le hb2 hW.size
        have hN := At4.to (w' := wr.alloc (.cells #[.int .i64 s[j].kind, .int .u8 s[j].lo, .int .u8 s[j].hi, .slice A1 s[j].kids.length c1] 30)) (Below.heap_alloc wr _ b2 hbW) q2
        obtain ⟨f0, f1, f2, f3⟩ := hN
        clear q2
        generalize s[j] = x at e0 e1 e2 e3 hC hst f0 f1 f2 f3
        generalize t[j] = y at hC hst f0 f1 f2 f3
        obtain ⟨xk, xl, xh, xs⟩ := x
        obtain ⟨yk, yl, yh, ys⟩ := y
        simp only [Rx.kind, Rx.lo, Rx.hi, Rx.kids] at e0 e1 e2 e3 hC f0 f1 f2 f3
        unfold rxv at hC
        generalize cmp (.node xk xl xh xs) (.node yk yl yh ys) = z at hC hst
        by_cases hz : z = 0
        · subst hz
          go_wp2_with (go_at_call 12; refine (hC _ (below_alloc2 (Below.refl _ _) hW.size _ _)).mono ?_; clear hC; rintro e w1 ⟨rfl, hw1, hd1⟩; replace hd1 := Lib.hid hd1)
          go_roundw
          case rel => exact ⟨j + 1, by omega, by go_num, Lib.hid (by rw [hcm.out, hst.out]; rfl), by omega, by omega, hW.trans ((below_alloc2 (Below.refl _ _) hW.size _ _).trans (hw1.mono (by have := hW.size; simp; omega))), Lib.hid (Nat.le_trans hdr.out hd1.out)⟩
          case measure => simp [intOf]; omega
        · have hz2 : or2 z (cmps (s.drop (j + 1)) (t.drop (j + 1))) = z := by unfold or2; rw [if_neg hz]
          rw [hz2] at hst
          go_wp2_with (go_at_call 12; refine (hC _ (below_alloc2 (Below.refl _ _) hW.size _ _)).mono ?_; clear hC; rintro e w1 ⟨rfl, hw1, hd1⟩; replace hd1 := Lib.hid hd1)
          go_ret
          exact ⟨by rw [hcm.out, hst.out]; rfl, hW.trans ((below_alloc2 (Below.refl _ _) hW.size _ _).trans (hw1.mono (by have := hW.size; simp; omega))), Nat.le_trans hdr.out hd1.out⟩
      · have hst := Lib.hid (cmps_short hlt (Nat.le_of_not_lt hlt2))
        obtain rfl : j = t.length := by omega
        go_wp2_with fail
        go_ret
        exact ⟨by rw [hcm.out, hst.out]; rfl, hW.alloc hW.size _, hdr.out⟩
    · obtain rfl := hjs (by omega)
      have hst := Lib.hid (cmps_end (s := s) (t := t) (j := s.length) (Nat.le_refl _) rfl)
      by_cases h5 : s.length < t.length
      · rw [if_pos h5] at hst
        go_wp2_with fail
        go_ret
        exact ⟨by rw [hcm.out, hst.out]; rfl, hW, hdr.out⟩
      · rw [if_neg h5] at hst
        go_wp2_with fail
        go_ret
        exact ⟨by rw [hcm.out, hst.out]; rfl, hW, hdr.out⟩

theorem cmp_node (k l h k2 l2 h2 : Int) (s t : List Rx) : cmp (.node k l h s) (.node k2 l2 h2 t) = or2 (or2 (c3 k k2) (or2 (c3 l l2) (c3 h h2))) (cmps s t) := by
  simp only [cmp]
  unfold or2
  repeat' split
  all_goals first | rfl | omega | simp_all

set_option maxHeartbeats 2000000 in
set_option maxRecDepth 100000 in
theorem cmp_upto (m : Nat) : CmpUpto m := by
  induction m with
  | zero => intro x y v1 v2 w h0; cases x; simp [nodes] at h0
  | succ m ih =>
    intro x y v1 v2 w hm hv1 hv2
    obtain ⟨k, l, h, s⟩ := x
    obtain ⟨k2, l2, h2, t⟩ := y
    obtain ⟨⟨hk, hl, hh, hsl⟩, A, c, rfl, hc, hA, hs⟩ := hv1.parts
    obtain ⟨⟨hk2, hl2, hh2, htl⟩, B, d, rfl, hd, hB, ht⟩ := hv2.parts
    simp only [Rx.kind, Rx.lo, Rx.hi, Rx.kids] at hk hl hh hsl hc hs hk2 hl2 hh2 htl hd ht ⊢
    have hC : ∀ W, Below w.heap.size w W → Calls Tryz.prog 32 #[.slice A s.length c, .slice B t.length d, .func (.func 12) #[] #[]] W fun e w' => e = .returned (.int .i64 (cmps s t)) ∧ Below W.heap.size W w' ∧ W.drawn ≤ w'.drawn := fun W hWW =>
      cmpF_any m ih s t A B c d W (by simp only [nodes] at hm; omega) hsl htl ((hs.below hWW).mono hWW.size) ((ht.below hWW).mono hWW.size)
    have HE := Lib.hid (cmp_node k l h k2 l2 h2 s t)
    clear hv1 hv2 hs ht ih
    unfold rxv
    have p1 := cmpI_any k k2
    have p2 := cmpB_any l l2
    have p3 := cmpB_any h h2
    generalize c3 k k2 = a1 at p1 HE
    generalize c3 l l2 = a2 at p2 HE
    generalize c3 h h2 = a3 at p3 HE
    have p4 := orI_any a1 a2 a3
    generalize or2 a1 (or2 a2 a3) = z at p4 HE
    generalize cmps s t = z2 at hC HE
    obtain ⟨W0, hW0⟩ : ∃ W0, W0 = (w.alloc (.cells #[.int .i64 k, .int .u8 l, .int .u8 h, .slice A s.length c] 30)).alloc (.cells #[.int .i64 k2, .int .u8 l2, .int .u8 h2, .slice B t.length d] 30) := ⟨_, rfl⟩
    have hz : W0.heap.size = w.heap.size + 2 := by rw [hW0]; simp
    have hB0 : Below w.heap.size w W0 := by rw [hW0]; exact below_alloc2 (Below.refl _ _) (Nat.le_refl _) _ _
    have hx0 : W0.heap[w.heap.size]? = some (.cells #[.int .i64 k, .int .u8 l, .int .u8 h, .slice A s.length c] 30 (0, 0)) := by rw [hW0]; exact (heap_alloc_old _ _ _ (by simp)).trans (heap_alloc_new w _)
    have hx1 : W0.heap[w.heap.size + 1]? = some (.cells #[.int .i64 k2, .int .u8 l2, .int .u8 h2, .slice B t.length d] 30 (0, 0)) := by rw [hW0]; exact heap_alloc_new_at _ _ (by simp)
    have HS : ∀ W, Below W0.heap.size W0 W → W.cell? ⟨w.heap.size, 0, none⟩ = some (.int .i64 k) ∧ W.cell? ⟨w.heap.size + 1, 0, none⟩ = some (.int .i64 k2) ∧ W.cell? ⟨w.heap.size, 1, none⟩ = some (.int .u8 l) ∧ W.cell? ⟨w.heap.size + 1, 1, none⟩ = some (.int .u8 l2) ∧ W.cell? ⟨w.heap.size, 2, none⟩ = some (.int .u8 h) ∧ W.cell? ⟨w.heap.size + 1, 2, none⟩ = some (.int .u8 h2) ∧ Below W0.heap.size W0 W := fun W hW => by
      obtain ⟨r0, r1, r2, _⟩ := four ((hW.block w.heap.size (by omega)).trans hx0)
      obtain ⟨r4, r5, r6, _⟩ := four ((hW.block (w.heap.size + 1) (by omega)).trans hx1)
      exact ⟨r0, r4, r1, r5, r2, r6, hW⟩
    have hd : Below W0.heap.size W0 W0.drew := (Below.refl _ _).drew
    have hD0 := Lib.hid (show W0.drawn = w.drawn by rw [hW0]; rfl)
    go_enter Tryz.func12, Tryz.ntmps12
    go_wp2_with fail
    rw [← hW0]
    clear hW0
    have hq := cell_one_at3 W0 (.int .i64 a1) (.int .i64 a2) (.int .i64 a3) (t := 3)
    rw [hz] at hq
    go_region_held3 (fun W => W.cell? ⟨w.heap.size, 0, none⟩ = some (.int .i64 k) ∧ W.cell? ⟨w.heap.size + 1, 0, none⟩ = some (.int .i64 k2) ∧ W.cell? ⟨w.heap.size, 1, none⟩ = some (.int .u8 l) ∧ W.cell? ⟨w.heap.size + 1, 1, none⟩ = some (.int .u8 l2) ∧ W.cell? ⟨w.heap.size, 2, none⟩ = some (.int .u8 h) ∧ W.cell? ⟨w.heap.size + 1, 2, none⟩ = some (.int .u8 h2) ∧ Below W0.heap.size W0 W)
      (first | exact HS _ hd | exact HS _ (hd.alloc (Nat.le_refl _) _) | exact HS _ (((Below.refl _ _).alloc (Nat.le_refl _) _).drew))
      (first
        | (go_at_call 30; (with_reducible refine Calls.mono (p1 _) ?_); rintro e' w1 ⟨rfl, rfl⟩)
        | (go_at_call 31; (with_reducible refine Calls.mono (p2 _) ?_); rintro e' w1 ⟨rfl, rfl⟩)
        | (go_at_call 31; (with_reducible refine Calls.mono (p3 _) ?_); rintro e' w1 ⟨rfl, rfl⟩)
        | (go_at_call 29; refine Calls.mono (p4 _ _ _ hq.1 hq.2.1 hq.2.2) ?_; rintro e' w1 ⟨rfl, rfl⟩))
    have hB1 : Below W0.heap.size W0 (W0.alloc (.cells #[.int .i64 a1, .int .i64 a2, .int .i64 a3] 3)).drew := ((Below.refl _ _).alloc (Nat.le_refl _) _).drew
    have hB2 := hB0.trans (hB1.mono (by omega))
    obtain ⟨_, _, _, e3⟩ := four ((hB1.block w.heap.size (by omega)).trans hx0)
    obtain ⟨_, _, _, f3⟩ := four ((hB1.block (w.heap.size + 1) (by omega)).trans hx1)
    by_cases h0 : z = 0
    · subst h0
      go_wp2_with (go_at_call 32; refine (hC _ hB2).mono ?_; clear hC; rintro e w1 ⟨rfl, hw1, hd1⟩; replace hd1 := Lib.hid hd1)
      go_ret
      exact ⟨by rw [HE.out]; rfl, hB2.trans (hw1.mono hB2.size), Nat.le_trans (Nat.le_of_eq hD0.out.symm) (Nat.le_trans (Nat.le_succ _) hd1.out)⟩
    · go_wp2_with fail
      go_ret
      exact ⟨by rw [HE.out]; unfold or2; rw [if_neg h0]; rfl, hB2, Nat.le_trans (Nat.le_of_eq hD0.out.symm) (Nat.le_succ _)⟩

/-- Compare's contract, for all trees; the count of draws does not fall -/
theorem cmpD_any (x y : Rx) (v1 v2 : Value) (w : World) (h1 : RtV w (Lo w.heap.size) x v1) (h2 : RtV w (Lo w.heap.size) y v2) : Calls Tryz.prog 12 #[v1, v2] w fun e w' => e = .returned (.int .i64 (cmp x y)) ∧ Below w.heap.size w w' ∧ w.drawn ≤ w'.drawn :=
  cmp_upto (nodes x) x y v1 v2 w (Nat.le_refl _) h1 h2
/-- Compare's contract, for all trees -/
theorem cmp_any (x y : Rx) (v1 v2 : Value) (w : World) (h1 : RtV w (Lo w.heap.size) x v1) (h2 : RtV w (Lo w.heap.size) y v2) : Calls Tryz.prog 12 #[v1, v2] w fun e w' => e = .returned (.int .i64 (cmp x y)) ∧ Below w.heap.size w w' :=
  (cmpD_any x y v1 v2 w h1 h2).mono fun _ _ ⟨he, hb, _⟩ => ⟨he, hb⟩

end Go.Proofs.YtnjkihbmhacgoaaGreatDoor
