/-
  THE WALK of the reference's Compare.
-/
import Derived.Test.YtnjkihbmhacgoaaGreatDoorRxCmp
import Derived.Deep.QuietTactic
import Derived.BigQuiet
namespace Go.Proofs.YtnjkihbmhacgoaaGreatDoor
open Go.RowKit

/-- the first of three places at which two lists part -/
def lex3 : List Int → List Int → Int
  | x :: s, y :: t => or2 (c3 x y) (lex3 s t)
  | _, _ => 0
theorem lex3_step {s t : List Int} {j : Nat} (hs : j < s.length) (ht : j < t.length) : lex3 (s.drop j) (t.drop j) = or2 (c3 s[j] t[j]) (lex3 (s.drop (j + 1)) (t.drop (j + 1))) := by
  rw [List.drop_eq_getElem_cons hs, List.drop_eq_getElem_cons ht, lex3]
theorem cmp_lex (k l h k2 l2 h2 : Int) (s t : List Rx) : cmp (.node k l h s) (.node k2 l2 h2 t) = or2 (lex3 [k, l, h] [k2, l2, h2]) (cmps s t) := by
  simp only [cmp, lex3]
  unfold or2
  repeat' split
  all_goals first | rfl | omega | simp_all

set_option maxHeartbeats 2000000 in
set_option maxRecDepth 100000 in
theorem eCmp_upto (m : Nat) : ∀ (x y : Rx) (v1 v2 : Value) (w : World), nodes x ≤ m → RtV w (Lo w.heap.size) x v1 → RtV w (Lo w.heap.size) y v2 → Calls Tryz.prog 28 #[v1, v2] w fun e w' => e = .returned (.int .i64 (cmp x y)) ∧ Below w.heap.size w w' := by
  induction m with
  | zero => intro x y v1 v2 w h0; cases x; simp [nodes] at h0
  | succ m ih =>
    intro x y v1 v2 w hm hv1 hv2
    obtain ⟨k, l, h, s⟩ := x
    obtain ⟨k2, l2, h2, t⟩ := y
    obtain ⟨⟨hk, hl, hh, hsl⟩, A, c, rfl, hc, hA, hs⟩ := hv1.parts
    obtain ⟨⟨hk2, hl2, hh2, htl⟩, B, d, rfl, hd, hB, ht⟩ := hv2.parts
    simp only [Rx.kind, Rx.lo, Rx.hi, Rx.kids] at hk hl hh hsl hc hs hk2 hl2 hh2 htl hd ht ⊢
    have HE := Lib.hid (cmp_lex k l h k2 l2 h2 s t)
    have hm' : nodesL s ≤ m := by simp only [nodes] at hm; omega
    clear hv1 hv2 hm
    unfold rxv
    obtain ⟨xs, hxs⟩ : ∃ xs, xs = [k, l, h] := ⟨_, rfl⟩
    obtain ⟨ys, hys⟩ : ∃ ys, ys = [k2, l2, h2] := ⟨_, rfl⟩
    obtain ⟨W0, hW0⟩ : ∃ W0, W0 = (((w.alloc (.cells #[.int .i64 k, .int .u8 l, .int .u8 h, .slice A s.length c] 25)).alloc (.cells #[.int .i64 k2, .int .u8 l2, .int .u8 h2, .slice B t.length d] 25)).alloc (.cells #[.int .i64 k, .int .i64 l, .int .i64 h] 3)).alloc (.cells #[.int .i64 k2, .int .i64 l2, .int .i64 h2] 3) := ⟨_, rfl⟩
    have hz : W0.heap.size = w.heap.size + 4 := by rw [hW0]; simp
    have hB0 : Below w.heap.size w W0 := by rw [hW0]; exact below_alloc2 (below_alloc2 (Below.refl _ _) (Nat.le_refl _) _ _) (by simp; omega) _ _
    have hx0 : W0.heap[w.heap.size]? = some (.cells #[.int .i64 k, .int .u8 l, .int .u8 h, .slice A s.length c] 25 (0, 0)) := by rw [hW0]; exact (heap_alloc_old _ _ _ (by simp; omega)).trans ((heap_alloc_old _ _ _ (by simp; omega)).trans ((heap_alloc_old _ _ _ (by simp)).trans (heap_alloc_new w _)))
    have hx1 : W0.heap[w.heap.size + 1]? = some (.cells #[.int .i64 k2, .int .u8 l2, .int .u8 h2, .slice B t.length d] 25 (0, 0)) := by rw [hW0]; exact (heap_alloc_old _ _ _ (by simp)).trans ((heap_alloc_old _ _ _ (by simp)).trans (heap_alloc_new_at _ _ (by simp)))
    have hx2 : W0.heap[w.heap.size + 1 + 1]? = some (.cells #[.int .i64 k, .int .i64 l, .int .i64 h] 3 (0, 0)) := by rw [hW0]; exact (heap_alloc_old _ _ _ (by simp)).trans (heap_alloc_new_at _ _ (by simp))
    have hx3 : W0.heap[w.heap.size + 1 + 1 + 1]? = some (.cells #[.int .i64 k2, .int .i64 l2, .int .i64 h2] 3 (0, 0)) := by rw [hW0]; exact heap_alloc_new_at _ _ (by simp)
    have hX : ∀ j (hj : j < xs.length), W0.cell? ⟨w.heap.size + 1 + 1, j, none⟩ = some (.int .i64 xs[j]) := fun j hj => by
      rw [cell_of_row _ _ j _ _ _ hx2]
      subst hxs
      match j, hj with
      | 0, _ => rfl
      | 1, _ => rfl
      | 2, _ => rfl
    have hY : ∀ j (hj : j < ys.length), W0.cell? ⟨w.heap.size + 1 + 1 + 1, j, none⟩ = some (.int .i64 ys[j]) := fun j hj => by
      rw [cell_of_row _ _ j _ _ _ hx3]
      subst hys
      match j, hj with
      | 0, _ => rfl
      | 1, _ => rfl
      | 2, _ => rfl
    have hlx : xs.length = 3 := by rw [hxs]; rfl
    have hly : ys.length = 3 := by rw [hys]; rfl
    rw [← hxs, ← hys] at HE
    go_enter Tryz.func28, Tryz.ntmps28
    go_wp2_with fail
    rw [← hW0]
    clear hW0 hx2 hx3 hxs hys
    go_loopw [7] (fun i wr => ∃ j : Nat, j ≤ 3 ∧ i = .int .i64 j ∧ Hid (lex3 xs ys = lex3 (xs.drop j) (ys.drop j)) ∧ Below W0.heap.size W0 wr) (fun i _ => 4 - (intOf i).toNat)
    case atStart => exact ⟨0, by omega, rfl, Lib.hid rfl, Below.refl _ _⟩
    case round =>
      obtain ⟨j, hj, rfl, hle, hW⟩ := hrel
      by_cases hlt : j < 3
      · have f1 := (hW.cell (p := ⟨w.heap.size + 1 + 1, j, none⟩) (by simp; omega)).trans (hX j (by omega))
        have f2 := (hW.cell (p := ⟨w.heap.size + 1 + 1 + 1, j, none⟩) (by simp; omega)).trans (hY j (by omega))
        have hst := Lib.hid (lex3_step (s := xs) (t := ys) (j := j) (by omega) (by omega))
        clear hX hY
        generalize xs[j] = a at f1 hst
        generalize ys[j] = b at f2 hst
        have hj3 : (j : Int) < 3 := by omega
        by_cases h1 : a < b
        · have hq : c3 a b = -1 := by unfold c3; rw [if_pos h1]
          rw [hq] at hst
          go_wp2_with fail
          go_quiet (fail)
          go_wp2_with fail
          go_ret
          exact ⟨by rw [HE.out, hle.out, hst.out]; rfl, (hB0.trans (hW.mono (by omega))).trans (below_drewN (Below.refl _ _) _)⟩
        · by_cases h2 : b < a
          · have hq : c3 a b = 1 := by unfold c3; rw [if_neg h1, if_pos h2]
            rw [hq] at hst
            go_wp2_with fail
            go_quiet (fail)
            go_wp2_with fail
            go_quiet (fail)
            go_wp2_with fail
            go_ret
            exact ⟨by rw [HE.out, hle.out, hst.out]; rfl, (hB0.trans (hW.mono (by omega))).trans (below_drewN (below_drewN (Below.refl _ _) _) _)⟩
          · have hq : c3 a b = 0 := by unfold c3; rw [if_neg h1, if_neg h2]
            rw [hq] at hst
            obtain rfl : a = b := by omega
            go_wp2_with fail
            go_quiet (fail)
            go_wp2_with fail
            go_quiet (fail)
            go_wp2_with fail
            go_roundw
            case rel => exact ⟨j + 1, by omega, by go_num, Lib.hid (by rw [hle.out, hst.out]; rfl), hW.trans (below_drewN (Below.refl _ _) _)⟩
            case measure => simp [intOf]; omega
      · have hj3 : ¬ (j : Int) < 3 := by omega
        have he3 : lex3 xs ys = 0 := by rw [hle.out, List.drop_of_length_le (by omega), List.drop_of_length_le (by omega)]; rfl
        clear hX hY
        rw [he3] at HE
        have HE2 : Hid (cmp (.node k l h s) (.node k2 l2 h2 t) = cmps s t) := Lib.hid (by rw [HE.out]; rfl)
        have hB1 := hB0.trans (hW.mono (by omega))
        have hb0 := (hW.block w.heap.size (by omega)).trans hx0
        have hb1 := (hW.block (w.heap.size + 1) (by omega)).trans hx1
        have hzr : w.heap.size + 4 ≤ wr.heap.size := by have := hW.size; omega
        clear hx0 hx1 hB0 hW hz HE hle he3 hlx hly
        obtain ⟨wo, rfl⟩ : ∃ wo, wo = wr := ⟨_, rfl⟩
        go_wp2_with fail
        go_loopw [8] (fun i wr => ∃ j : Nat, j ≤ s.length ∧ j ≤ t.length ∧ i = .int .i64 j ∧ Hid (cmps s t = cmps (s.drop j) (t.drop j)) ∧ Below wo.heap.size wo wr) (fun i _ => s.length - (intOf i).toNat)
        case atStart => exact ⟨0, by omega, by omega, rfl, Lib.hid rfl, Below.refl _ _⟩
        case round =>
          obtain ⟨n, hns, hnt, rfl, hcm, hW⟩ := hrel
          have hcb := hB1.trans (hW.mono (by omega))
          obtain ⟨_, _, _, c0⟩ := four ((hW.block w.heap.size (by omega)).trans hb0)
          obtain ⟨_, _, _, c1⟩ := four ((hW.block (w.heap.size + 1) (by omega)).trans hb1)
          have hzq : w.heap.size + 4 ≤ wr.heap.size := by have := hW.size; omega
          by_cases hlt : n < s.length
          · by_cases hlt2 : n < t.length
            · obtain ⟨b1, o1, A1, d1, rfl, hl1, h1, hx1⟩ := hs.get hlt
              obtain ⟨b2, o2, A2, d2, rfl, hl2, h2', hx2⟩ := ht.get hlt2
              have q1 := h1.to (hcb.block b1 hl1)
              have q2 := h2'.to (hcb.block b2 hl2)
              have hC : ∀ W, Below w.heap.size wr W → Calls Tryz.prog 28 #[rxv s[n].kind s[n].lo s[n].hi A1 s[n].kids.length d1, rxv t[n].kind t[n].lo t[n].hi A2 t[n].kids.length d2] W fun e w' => e = .returned (.int .i64 (cmp s[n] t[n])) ∧ Below W.heap.size W w' := fun W hWW =>
                ih _ _ _ _ W (Nat.le_trans (nodes_get hlt) hm') (((hx1.below hcb).below hWW).mono (Nat.le_trans hcb.size hWW.size)) (((hx2.below hcb).below hWW).mono (Nat.le_trans hcb.size hWW.size))
              have hst := Lib.hid (cmps_cons hlt hlt2)
              have hnz : (n : Int) < s.length := by omega
              have hnz2 : (n : Int) < t.length := by omega
              clear hs ht hx1 hx2 h1 h2' ih
              generalize s[n] = x at q1 hC hst
              generalize t[n] = y at q2 hC hst
              obtain ⟨xk, xl, xh, xs⟩ := x
              obtain ⟨yk, yl, yh, ys⟩ := y
              simp only [Rx.kind, Rx.lo, Rx.hi, Rx.kids] at q1 q2 hC
              unfold rxv at hC
              generalize cmp (.node xk xl xh xs) (.node yk yl yh ys) = z at hC hst
              have HS : ∀ W, Below (w.heap.size + 2) wr W → W.cell? ⟨w.heap.size, 3, none⟩ = some (.slice (some ⟨b1, o1, none⟩) s.length c) ∧ W.cell? ⟨w.heap.size + 1, 3, none⟩ = some (.slice (some ⟨b2, o2, none⟩) t.length d) ∧
                  W.cell? ⟨b1, o1 + n * 4, none⟩ = some (.int .i64 xk) ∧ W.cell? ⟨b1, o1 + n * 4 + 1, none⟩ = some (.int .u8 xl) ∧ W.cell? ⟨b1, o1 + n * 4 + 2, none⟩ = some (.int .u8 xh) ∧ W.cell? ⟨b1, o1 + n * 4 + 3, none⟩ = some (.slice A1 xs.length d1) ∧
                  W.cell? ⟨b2, o2 + n * 4, none⟩ = some (.int .i64 yk) ∧ W.cell? ⟨b2, o2 + n * 4 + 1, none⟩ = some (.int .u8 yl) ∧ W.cell? ⟨b2, o2 + n * 4 + 2, none⟩ = some (.int .u8 yh) ∧ W.cell? ⟨b2, o2 + n * 4 + 3, none⟩ = some (.slice A2 ys.length d2) := fun W hWW => by
                have hl1' : b1 < w.heap.size + 2 := Nat.lt_of_lt_of_le hl1 (by omega)
                have hl2' : b2 < w.heap.size + 2 := Nat.lt_of_lt_of_le hl2 (by omega)
                obtain ⟨r0, r1, r2, r3⟩ := q1.to (hWW.block b1 hl1')
                obtain ⟨s0, s1, s2, s3⟩ := q2.to (hWW.block b2 hl2')
                exact ⟨(World.cell?_of_block (hWW.block w.heap.size (by omega))).trans c0, (World.cell?_of_block (hWW.block (w.heap.size + 1) (by omega))).trans c1, r0, r1, r2, r3, s0, s1, s2, s3⟩
              have hd : Below (w.heap.size + 2) wr wr.drew := (Below.refl _ _).drew
              have hd0 : Below w.heap.size wr wr.drew := (Below.refl _ _).drew
              go_wp2_with fail
              go_region_held3 (fun W => W.cell? ⟨w.heap.size, 3, none⟩ = some (.slice (some ⟨b1, o1, none⟩) s.length c) ∧ W.cell? ⟨w.heap.size + 1, 3, none⟩ = some (.slice (some ⟨b2, o2, none⟩) t.length d) ∧
                  W.cell? ⟨b1, o1 + n * 4, none⟩ = some (.int .i64 xk) ∧ W.cell? ⟨b1, o1 + n * 4 + 1, none⟩ = some (.int .u8 xl) ∧ W.cell? ⟨b1, o1 + n * 4 + 2, none⟩ = some (.int .u8 xh) ∧ W.cell? ⟨b1, o1 + n * 4 + 3, none⟩ = some (.slice A1 xs.length d1) ∧
                  W.cell? ⟨b2, o2 + n * 4, none⟩ = some (.int .i64 yk) ∧ W.cell? ⟨b2, o2 + n * 4 + 1, none⟩ = some (.int .u8 yl) ∧ W.cell? ⟨b2, o2 + n * 4 + 2, none⟩ = some (.int .u8 yh) ∧ W.cell? ⟨b2, o2 + n * 4 + 3, none⟩ = some (.slice A2 ys.length d2))
                (first | exact HS _ hd | exact HS _ (by assumption))
                (first | (go_at_call 28; ((with_reducible refine Calls.mono (hC _ hd0) ?_)); rintro e' w1 ⟨rfl, hw1⟩; have hB9 : Below (w.heap.size + 2) wr w1 := hd.trans (hw1.mono (by simp; omega)); have hB10 : Below wo.heap.size wo w1 := (hW.drew).trans (hw1.mono hW.size)))
              by_cases hz : z = 0
              · subst hz
                go_wp2_with fail
                go_roundw
                case rel => exact ⟨n + 1, by omega, by omega, by go_num, Lib.hid (by rw [hcm.out, hst.out]; rfl), hB10⟩
                case measure => simp [intOf]; omega
              · go_wp2_with fail
                go_ret
                exact ⟨by rw [HE2.out, hcm.out, hst.out]; unfold or2; rw [if_neg hz]; rfl, hB1.trans (hB10.mono (by omega))⟩
            · have hst := Lib.hid (cmps_short hlt (Nat.le_of_not_lt hlt2))
              obtain rfl : n = t.length := by omega
              clear hs ht ih
              have hnz : (t.length : Int) < s.length := by omega
              go_wp2_with fail
              go_ret
              exact ⟨by rw [HE2.out, hcm.out, hst.out]; rfl, hcb⟩
          · obtain rfl : n = s.length := by omega
            have hst := Lib.hid (cmps_end (s := s) (t := t) (j := s.length) (Nat.le_refl _) rfl)
            clear hs ht ih
            by_cases h5 : s.length < t.length
            · rw [if_pos h5] at hst
              go_wp2_with fail
              go_ret
              exact ⟨by rw [HE2.out, hcm.out, hst.out]; rfl, hcb⟩
            · rw [if_neg h5] at hst
              have h6 : s.length = t.length := by omega
              go_wp2_with fail
              go_ret
              exact ⟨by rw [HE2.out, hcm.out, hst.out]; rfl, hcb⟩

theorem eCmp_any (x y : Rx) (v1 v2 : Value) (w : World) (h1 : RtV w (Lo w.heap.size) x v1) (h2 : RtV w (Lo w.heap.size) y v2) : Calls Tryz.prog 28 #[v1, v2] w fun e w' => e = .returned (.int .i64 (cmp x y)) ∧ Below w.heap.size w w' :=
  eCmp_upto (nodes x) x y v1 v2 w (Nat.le_refl _) h1 h2

end Go.Proofs.YtnjkihbmhacgoaaGreatDoor
