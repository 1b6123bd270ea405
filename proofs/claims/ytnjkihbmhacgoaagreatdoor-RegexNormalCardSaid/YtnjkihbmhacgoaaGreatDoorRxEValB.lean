/-
  THE WALKS of the reference's Nodes, good and Valid.
  THE WALK of the reference's Valid.
-/
import Derived.Test.YtnjkihbmhacgoaaGreatDoorRxW
import Derived.Test.YtnjkihbmhacgoaaGreatDoorBase
import Derived.BigQuiet
namespace Go.Proofs.YtnjkihbmhacgoaaGreatDoor
open Go.RowKit

theorem nodesL_more {s : List Rx} {j : Nat} (hj : j < s.length) : nodesL (s.take (j + 1)) = nodesL (s.take j) + nodes s[j] := by
  induction s generalizing j with
  | nil => simp at hj
  | cons x s ih =>
    cases j with
    | zero => simp [nodesL]
    | succ j =>
      simp only [List.take_succ_cons, nodesL, List.getElem_cons_succ]
      rw [ih (by simpa using hj)]
      omega
theorem nodesL_part {s : List Rx} (j : Nat) : nodesL (s.take j) ≤ nodesL s := by
  induction s generalizing j with
  | nil => simp
  | cons x s ih =>
    cases j with
    | zero => simp [nodesL]
    | succ j => simp only [List.take_succ_cons, nodesL]; have := ih j; omega
set_option maxHeartbeats 1000000 in
set_option maxRecDepth 100000 in
theorem eNodes_upto (m : Nat) : ∀ (x : Rx) (v : Value) (w : World), nodes x ≤ m → nodes x ≤ 1000000 → RtV w (Lo w.heap.size) x v → Calls Tryz.prog 13 #[v] w fun e w' => e = .returned (.int .i64 (nodes x : Nat)) ∧ Below w.heap.size w w' := by
  induction m with
  | zero => intro x v w h0; cases x; simp [nodes] at h0
  | succ m ih =>
    intro x v w hm hM hv
    obtain ⟨k, l, h, s⟩ := x
    obtain ⟨⟨hk, hl, hh, hsl⟩, A, c, rfl, hc, hA, hs⟩ := hv.parts
    simp only [Rx.kind, Rx.lo, Rx.hi, Rx.kids] at hk hl hh hsl hc hs ⊢
    have hnd : nodes (.node k l h s) = 1 + nodesL s := by simp only [nodes]; omega
    have hm' : nodesL s ≤ m := by omega
    have hM' : nodesL s ≤ 1000000 := by omega
    rw [hnd]
    clear hnd hM hm hv
    unfold rxv
    go_enter Tryz.func13, Tryz.ntmps13
    go_wp2_with fail
    go_loopw [3, 4] (fun nv iv wr => ∃ j z : Nat, j ≤ s.length ∧ iv = .int .i64 j ∧ nv = .int .i64 z ∧ Hid (z = 1 + nodesL (s.take j)) ∧ wr.heap[w.heap.size]? = some (.cells #[.int .i64 k, .int .u8 l, .int .u8 h, .slice A s.length c] 25 (0, 0)) ∧ Below w.heap.size w wr ∧ w.heap.size + 1 ≤ wr.heap.size) (fun _ iv _ => s.length - (intOf iv).toNat)
    case atStart => exact ⟨0, 1, Nat.zero_le _, rfl, rfl, Lib.hid (by simp [nodesL]), heap_alloc_new w _, (Below.refl _ _).alloc (Nat.le_refl _) _, by simp⟩
    case round =>
      obtain ⟨j, z, hj, rfl, rfl, hz, hb0, hW, hsz⟩ := hrel
      obtain ⟨_, _, _, c3⟩ := four hb0
      by_cases hlt : j < s.length
      · have hlt' : (j : Int) < s.length := by omega
        obtain ⟨b1, o1, A1, d1, rfl, hb1, q1, hx1⟩ := hs.get hlt
        obtain ⟨e0, e1, e2, e3⟩ := q1.to (hW.block b1 hb1)
        have hst := Lib.hid (nodesL_more hlt)
        have hbd := nodesL_part (s := s) (j + 1)
        have hnx := nodes_get hlt
        have hC := Lib.hid fun W (hWW : Below w.heap.size wr W) => ih s[j] _ W (by omega) (by omega) (((hx1.below hW).below hWW).mono (Nat.le_trans hW.size hWW.size))
        have hzb : z + nodes s[j] ≤ 1000001 := by have := hz.out; rw [hst.out] at hbd; omega
        clear hx1 hs q1 ih hbd
        generalize s[j] = x at e0 e1 e2 e3 hC hzb hst hnx
        unfold rxv at hC
        generalize nodes x = n at hC hzb hst hnx
        go_wp2_with fail
        refine (hC.out _ (Below.refl _ _)).mono ?_
        rintro e w1 ⟨rfl, hw1⟩
        go_wp2_with fail
        go_roundw
        case rel => exact ⟨j + 1, z + n, by omega, by go_num, by go_num, Lib.hid (by rw [hst.out, hz.out]; omega), (hw1.block _ (by omega)).trans hb0, hW.trans (hw1.mono hW.size), by have := hw1.size; omega⟩
        case measure => simp [intOf]; omega
      · obtain rfl : j = s.length := by omega
        have hlt' : ¬ (s.length : Int) < s.length := by omega
        have hz' : z = 1 + nodesL s := by have := hz.out; rwa [List.take_length] at this
        clear hs ih
        go_wp2_with fail
        go_ret
        exact ⟨rfl, hW⟩

/-! ### good -/
def leastK (k : Nat) : Nat := if k < 6 then 0 else 1
def mostK (k : Nat) : Nat := if k < 3 then 0 else if k < 6 then 64 else 1
theorem most_tab {W : World} {b k : Nat} (h : k < 8) (hb : W.heap[b]? = some (.cells #[.int .i64 0, .int .i64 0, .int .i64 0, .int .i64 64, .int .i64 64, .int .i64 64, .int .i64 1, .int .i64 1] 3 (0, 0))) : W.cell? ⟨b, k, none⟩ = some (.int .i64 (mostK k : Nat)) := by
  rw [cell_of_row W b k _ _ _ hb]
  obtain rfl | rfl | rfl | rfl | rfl | rfl | rfl | rfl : k = 0 ∨ k = 1 ∨ k = 2 ∨ k = 3 ∨ k = 4 ∨ k = 5 ∨ k = 6 ∨ k = 7 := by omega
  all_goals rfl
theorem least_tab {W : World} {b k : Nat} (h : k < 8) (hb : W.heap[b]? = some (.cells #[.int .i64 0, .int .i64 0, .int .i64 0, .int .i64 0, .int .i64 0, .int .i64 0, .int .i64 1, .int .i64 1] 3 (0, 0))) : W.cell? ⟨b, k, none⟩ = some (.int .i64 (leastK k : Nat)) := by
  rw [cell_of_row W b k _ _ _ hb]
  obtain rfl | rfl | rfl | rfl | rfl | rfl | rfl | rfl : k = 0 ∨ k = 1 ∨ k = 2 ∨ k = 3 ∨ k = 4 ∨ k = 5 ∨ k = 6 ∨ k = 7 := by omega
  all_goals rfl
mutual
/-- good, as the reference reckons it -/
def goodR : Rx → Bool
  | .node k l h s => decide (0 ≤ k ∧ k ≤ 7) && decide (leastK k.toNat ≤ s.length ∧ s.length ≤ mostK k.toNat) && decide (l ≤ h) && (k == 2 || decide (h ≤ 0)) && goodL s
def goodL : List Rx → Bool
  | [] => true
  | x :: s => goodR x && goodL s
end
theorem goodL_snoc : ∀ (s : List Rx) (x : Rx), goodL (s ++ [x]) = (goodL s && goodR x)
  | [], x => by simp [goodL]
  | y :: s, x => by simp only [List.cons_append, goodL, goodL_snoc s x, Bool.and_assoc]
theorem goodL_false {s : List Rx} {j : Nat} (hj : j < s.length) (h : goodR s[j] = false) : goodL s = false := by
  induction s generalizing j with
  | nil => simp at hj
  | cons x s ih =>
    cases j with
    | zero => simp only [List.getElem_cons_zero] at h; simp [goodL, h]
    | succ j => simp only [List.getElem_cons_succ] at h; simp [goodL, ih (by simpa using hj) h]
set_option maxHeartbeats 2000000 in
set_option maxRecDepth 100000 in
theorem good_upto (m : Nat) : ∀ (x : Rx) (v : Value) (w : World), nodes x ≤ m → RtV w (Lo w.heap.size) x v → Calls Tryz.prog 27 #[v] w fun e w' => e = .returned (.bool (goodR x)) ∧ Below w.heap.size w w' := by
  induction m with
  | zero => intro x v w h0; cases x; simp [nodes] at h0
  | succ m ih =>
    intro x v w hm hv
    obtain ⟨k, l, h, s⟩ := x
    obtain ⟨⟨hk, hl, hh, hsl⟩, A, c, rfl, hc, hA, hs⟩ := hv.parts
    simp only [Rx.kind, Rx.lo, Rx.hi, Rx.kids] at hk hl hh hsl hc hs ⊢
    have hm' : nodesL s ≤ m := by simp only [nodes] at hm; omega
    clear hm hv
    unfold rxv
    have hb0 := heap_alloc_new w (.cells #[.int .i64 k, .int .u8 l, .int .u8 h, .slice A s.length c] 25)
    obtain ⟨W0, hW0⟩ : ∃ W0, ((w.alloc (.cells #[.int .i64 k, .int .u8 l, .int .u8 h, .slice A s.length c] 25)).alloc (.cells #[.int .i64 0, .int .i64 0, .int .i64 0, .int .i64 64, .int .i64 64, .int .i64 64, .int .i64 1, .int .i64 1] 3)).alloc (.cells #[.int .i64 0, .int .i64 0, .int .i64 0, .int .i64 0, .int .i64 0, .int .i64 0, .int .i64 1, .int .i64 1] 3) = W0 := ⟨_, rfl⟩
    have hB0 : Below w.heap.size w W0 := by rw [← hW0]; exact below_alloc3 (Below.refl _ _) (Nat.le_refl _) _ _ _
    have hz0 : W0.heap.size = w.heap.size + 3 := by rw [← hW0]; simp
    have hx0 : W0.heap[w.heap.size]? = some (.cells #[.int .i64 k, .int .u8 l, .int .u8 h, .slice A s.length c] 25 (0, 0)) := by rw [← hW0]; exact (heap_alloc_old _ _ _ (by simp <;> omega)).trans ((heap_alloc_old _ _ _ (by simp <;> omega)).trans (heap_alloc_new w _))
    have hx1 : W0.heap[w.heap.size + 1]? = some (.cells #[.int .i64 0, .int .i64 0, .int .i64 0, .int .i64 64, .int .i64 64, .int .i64 64, .int .i64 1, .int .i64 1] 3 (0, 0)) := by rw [← hW0]; exact (heap_alloc_old _ _ _ (by simp <;> omega)).trans (heap_alloc_new_at _ _ (by simp))
    have hx2 : W0.heap[w.heap.size + 1 + 1]? = some (.cells #[.int .i64 0, .int .i64 0, .int .i64 0, .int .i64 0, .int .i64 0, .int .i64 0, .int .i64 1, .int .i64 1] 3 (0, 0)) := by rw [← hW0]; exact heap_alloc_new_at _ _ (by simp)
    obtain ⟨c0, c1, c2, c3⟩ := four hx0
    have HW0 := Lib.hid hW0
    clear hb0 hW0
    by_cases hk0 : k < 0
    · have hg : goodR (.node k l h s) = false := by unfold goodR; rw [decide_eq_false (by omega)]; rfl
      go_enter Tryz.func27, Tryz.ntmps27
      go_wp2_with fail
      rw [HW0.out]
      go_quiet (fail)
      go_wp2_with fail
      go_ret
      exact ⟨by rw [hg]; rfl, below_drewN hB0 _⟩
    · have dk0 : decide (k < 0) = false := decide_eq_false hk0
      by_cases hk7 : 7 < k
      · have hg : goodR (.node k l h s) = false := by unfold goodR; rw [decide_eq_false (by omega)]; rfl
        go_enter Tryz.func27, Tryz.ntmps27
        go_wp2_with fail
        rw [HW0.out]
        go_quiet (fail)
        go_wp2_with fail
        go_ret
        exact ⟨by rw [hg]; rfl, below_drewN hB0 _⟩
      · obtain ⟨q, rfl⟩ : ∃ q : Nat, k = q := ⟨k.toNat, by omega⟩
        have hq8 : q < 8 := by omega
        have t1 := most_tab hq8 hx1
        have t2 := least_tab hq8 hx2
        obtain ⟨lo, hlo⟩ : ∃ lo, leastK q = lo := ⟨_, rfl⟩
        obtain ⟨mo, hmo⟩ : ∃ mo, mostK q = mo := ⟨_, rfl⟩
        have hlo2 : lo ≤ 1 := by rw [← hlo]; unfold leastK; split <;> omega
        have hmo2 : mo ≤ 64 := by rw [← hmo]; unfold mostK; split <;> (try split) <;> omega
        rw [hmo] at t1
        rw [hlo] at t2
        have hq0' : ¬ ((q : Int) < 0) := by omega
        have hq7' : ¬ (7 < (q : Int)) := by omega
        have dq0 : decide ((q : Int) < 0) = false := decide_eq_false hq0'
        have dq7 : decide (7 < (q : Int)) = false := decide_eq_false hq7'
        clear dk0
        have hq8' : (q : Int) < 8 := by omega
        by_cases hl1 : s.length < lo
        · have hg : goodR (.node q l h s) = false := by unfold goodR; rw [Int.toNat_natCast, decide_eq_false (p := leastK q ≤ s.length ∧ _) (by omega), Bool.and_false]; rfl
          have hl1' : (s.length : Int) < lo := by omega
          go_enter Tryz.func27, Tryz.ntmps27
          go_wp2_with fail
          rw [HW0.out]
          go_quiet (fail)
          go_wp2_with fail
          go_ret
          exact ⟨by rw [hg]; rfl, below_drewN hB0 _⟩
        · by_cases hm1 : mo < s.length
          · have hg : goodR (.node q l h s) = false := by unfold goodR; rw [Int.toNat_natCast, decide_eq_false (p := leastK q ≤ s.length ∧ _) (by omega), Bool.and_false]; rfl
            have hl1' : ¬ (s.length : Int) < lo := by omega
            have dl1 : decide (s.length < lo) = false := decide_eq_false hl1
            have hm1' : (mo : Int) < s.length := by omega
            go_enter Tryz.func27, Tryz.ntmps27
            go_wp2_with fail
            rw [HW0.out]
            go_quiet (fail)
            go_wp2_with fail
            go_ret
            exact ⟨by rw [hg]; rfl, below_drewN hB0 _⟩
          · have hl1' : ¬ (s.length : Int) < lo := by omega
            have hm1' : ¬ (mo : Int) < s.length := by omega
            have dl1 : decide (s.length < lo) = false := decide_eq_false hl1
            have dm1 : decide (mo < s.length) = false := decide_eq_false hm1
            have HK := Lib.hid (show decide (0 ≤ (q : Int) ∧ (q : Int) ≤ 7) = true ∧ decide (leastK ((q : Int)).toNat ≤ s.length ∧ s.length ≤ mostK ((q : Int)).toNat) = true from ⟨decide_eq_true (by omega), decide_eq_true (by rw [Int.toNat_natCast, hlo, hmo]; omega)⟩)
            by_cases hlh : h < l
            · have hg : goodR (.node q l h s) = false := by unfold goodR; rw [HK.out.1, HK.out.2, decide_eq_false (p := l ≤ h) (by omega)]; rfl
              go_enter Tryz.func27, Tryz.ntmps27
              go_wp2_with fail
              rw [HW0.out]
              go_quiet (fail)
              go_wp2_with fail
              go_ret
              exact ⟨by rw [hg]; rfl, below_drewN hB0 _⟩
            · by_cases hq2 : q = 2
              · subst hq2
                rw [show ((2 : Nat) : Int) = 2 from rfl] at HW0 hx0 HK c0 ⊢
                clear dq0 dq7 hq0' hq7' hq8'
                go_enter Tryz.func27, Tryz.ntmps27
                go_wp2_with fail
                rw [HW0.out]
                go_quiet (fail)
                go_wp2_with fail
                have hxq : (W0.drewN nq).heap[w.heap.size]? = some (.cells #[.int .i64 2, .int .u8 l, .int .u8 h, .slice A s.length c] 25 (0, 0)) := hx0
                have hBq : Below w.heap.size w (W0.drewN nq) := below_drewN hB0 _
                have hzq : w.heap.size + 1 ≤ (W0.drewN nq).heap.size := by show w.heap.size + 1 ≤ W0.heap.size; omega
                have HD := Lib.hid (And.intro hxq (And.intro hBq hzq))
                clear hxq hBq hzq hx0 hx1 hx2 t1 t2 hB0 hz0 c0 c1 c2 c3 HW0
                generalize W0.drewN nq = Wq at HD
                go_loopw [5] (fun iv wr => ∃ j : Nat, j ≤ s.length ∧ iv = .int .i64 j ∧ Hid (goodL (s.take j) = true) ∧ wr.heap[w.heap.size]? = some (.cells #[.int .i64 2, .int .u8 l, .int .u8 h, .slice A s.length c] 25 (0, 0)) ∧ Below w.heap.size w wr ∧ w.heap.size + 1 ≤ wr.heap.size) (fun iv _ => s.length - (intOf iv).toNat)
                case atStart => exact ⟨0, Nat.zero_le _, rfl, Lib.hid rfl, HD.out.1, HD.out.2.1, HD.out.2.2⟩
                case round =>
                  clear HD
                  obtain ⟨j, hj, rfl, hgj, hb0, hW, hsz⟩ := hrel
                  obtain ⟨_, _, _, c3⟩ := four hb0
                  by_cases hlt : j < s.length
                  · have hlt' : (j : Int) < s.length := by omega
                    obtain ⟨b1, o1, A1, d1, rfl, hb1, q1, hx1⟩ := hs.get hlt
                    obtain ⟨e0, e1, e2, e3⟩ := q1.to (hW.block b1 hb1)
                    have hnx := nodes_get hlt
                    have hC := Lib.hid fun W (hWW : Below w.heap.size wr W) => ih s[j] _ W (by omega) (((hx1.below hW).below hWW).mono (Nat.le_trans hW.size hWW.size))
                    have hst := Lib.hid (show s.take (j + 1) = s.take j ++ [s[j]] from List.take_succ_eq_append_getElem hlt)
                    have hfl := Lib.hid (goodL_false hlt)
                    clear hx1 hs q1 ih hnx
                    generalize s[j] = x at e0 e1 e2 e3 hC hst hfl
                    unfold rxv at hC
                    obtain ⟨gx, hgx⟩ : ∃ gx, goodR x = gx := ⟨_, rfl⟩
                    rw [hgx] at hC hfl
                    have HX := Lib.hid hgx
                    clear hgx
                    go_wp2_with fail
                    refine (hC.out _ (Below.refl _ _)).mono ?_
                    rintro e w1 ⟨rfl, hw1⟩
                    cases gx with
                    | false =>
                      have hg : goodR (.node 2 l h s) = false := by unfold goodR; rw [hfl.out rfl, Bool.and_false]
                      go_wp2_with fail
                      go_ret
                      exact ⟨by rw [hg]; rfl, hW.trans (hw1.mono hW.size)⟩
                    | true =>
                      go_wp2_with fail
                      go_roundw
                      case rel => exact ⟨j + 1, by omega, by go_num, Lib.hid (by rw [hst.out, goodL_snoc, hgj.out, HX.out]; rfl), (hw1.block _ (by omega)).trans hb0, hW.trans (hw1.mono hW.size), by have := hw1.size; omega⟩
                      case measure => simp [intOf]; omega
                  · obtain rfl : j = s.length := by omega
                    have hlt' : ¬ (s.length : Int) < s.length := by omega
                    have hgl : goodL s = true := by have := hgj.out; rwa [List.take_length] at this
                    have hg : goodR (.node 2 l h s) = true := by unfold goodR; rw [HK.out.1, HK.out.2, decide_eq_true (p := l ≤ h) (by omega), hgl]; rfl
                    clear hs ih
                    go_wp2_with fail
                    go_ret
                    first | exact ⟨rfl, hW⟩ | exact ⟨by rw [hg]; rfl, hW⟩
              · have hq2' : ¬ (q : Int) = 2 := by omega
                have hqn : ((q : Int) != 2) = true := bne_iff_ne.2 hq2'
                by_cases hh0 : 0 < h
                · have hg : goodR (.node q l h s) = false := by unfold goodR; rw [HK.out.1, HK.out.2, decide_eq_true (p := l ≤ h) (by omega), decide_eq_false (p := h ≤ 0) (by omega), beq_eq_false_iff_ne.2 hq2']; rfl
                  go_enter Tryz.func27, Tryz.ntmps27
                  go_wp2_with fail
                  rw [HW0.out]
                  go_quiet (fail)
                  go_wp2_with fail
                  go_ret
                  exact ⟨by rw [hg]; rfl, below_drewN hB0 _⟩
                · have hh0' : ¬ 0 < h := hh0
                  go_enter Tryz.func27, Tryz.ntmps27
                  go_wp2_with fail
                  rw [HW0.out]
                  go_quiet (fail)
                  go_wp2_with fail
                  have hxq : (W0.drewN nq).heap[w.heap.size]? = some (.cells #[.int .i64 q, .int .u8 l, .int .u8 h, .slice A s.length c] 25 (0, 0)) := hx0
                  have hBq : Below w.heap.size w (W0.drewN nq) := below_drewN hB0 _
                  have hzq : w.heap.size + 1 ≤ (W0.drewN nq).heap.size := by show w.heap.size + 1 ≤ W0.heap.size; omega
                  have HD := Lib.hid (And.intro hxq (And.intro hBq hzq))
                  clear hxq hBq hzq hx0 hx1 hx2 t1 t2 hB0 hz0 c0 c1 c2 c3 HW0
                  generalize W0.drewN nq = Wq at HD
                  go_loopw [5] (fun iv wr => ∃ j : Nat, j ≤ s.length ∧ iv = .int .i64 j ∧ Hid (goodL (s.take j) = true) ∧ wr.heap[w.heap.size]? = some (.cells #[.int .i64 q, .int .u8 l, .int .u8 h, .slice A s.length c] 25 (0, 0)) ∧ Below w.heap.size w wr ∧ w.heap.size + 1 ≤ wr.heap.size) (fun iv _ => s.length - (intOf iv).toNat)
                  case atStart => exact ⟨0, Nat.zero_le _, rfl, Lib.hid rfl, HD.out.1, HD.out.2.1, HD.out.2.2⟩
                  case round =>
                    clear HD
                    obtain ⟨j, hj, rfl, hgj, hb0, hW, hsz⟩ := hrel
                    obtain ⟨_, _, _, c3⟩ := four hb0
                    by_cases hlt : j < s.length
                    · have hlt' : (j : Int) < s.length := by omega
                      obtain ⟨b1, o1, A1, d1, rfl, hb1, q1, hx1⟩ := hs.get hlt
                      obtain ⟨e0, e1, e2, e3⟩ := q1.to (hW.block b1 hb1)
                      have hnx := nodes_get hlt
                      have hC := Lib.hid fun W (hWW : Below w.heap.size wr W) => ih s[j] _ W (by omega) (((hx1.below hW).below hWW).mono (Nat.le_trans hW.size hWW.size))
                      have hst := Lib.hid (show s.take (j + 1) = s.take j ++ [s[j]] from List.take_succ_eq_append_getElem hlt)
                      have hfl := Lib.hid (goodL_false hlt)
                      clear hx1 hs q1 ih hnx
                      generalize s[j] = x at e0 e1 e2 e3 hC hst hfl
                      unfold rxv at hC
                      obtain ⟨gx, hgx⟩ : ∃ gx, goodR x = gx := ⟨_, rfl⟩
                      rw [hgx] at hC hfl
                      have HX := Lib.hid hgx
                      clear hgx
                      go_wp2_with fail
                      refine (hC.out _ (Below.refl _ _)).mono ?_
                      rintro e w1 ⟨rfl, hw1⟩
                      cases gx with
                      | false =>
                        have hg : goodR (.node q l h s) = false := by unfold goodR; rw [hfl.out rfl, Bool.and_false]
                        go_wp2_with fail
                        go_ret
                        exact ⟨by rw [hg]; rfl, hW.trans (hw1.mono hW.size)⟩
                      | true =>
                        go_wp2_with fail
                        go_roundw
                        case rel => exact ⟨j + 1, by omega, by go_num, Lib.hid (by rw [hst.out, goodL_snoc, hgj.out, HX.out]; rfl), (hw1.block _ (by omega)).trans hb0, hW.trans (hw1.mono hW.size), by have := hw1.size; omega⟩
                        case measure => simp [intOf]; omega
                    · obtain rfl : j = s.length := by omega
                      have hlt' : ¬ (s.length : Int) < s.length := by omega
                      have hgl : goodL s = true := by have := hgj.out; rwa [List.take_length] at this
                      have hg : goodR (.node q l h s) = true := by unfold goodR; rw [HK.out.1, HK.out.2, decide_eq_true (p := l ≤ h) (by omega), hgl]; rw [decide_eq_true (p := h ≤ 0) (by omega), Bool.or_true]; rfl
                      clear hs ih
                      go_wp2_with fail
                      go_ret
                      first | exact ⟨rfl, hW⟩ | exact ⟨by rw [hg]; rfl, hW⟩
theorem good_any (x : Rx) (v : Value) (w : World) (hv : RtV w (Lo w.heap.size) x v) : Calls Tryz.prog 27 #[v] w fun e w' => e = .returned (.bool (goodR x)) ∧ Below w.heap.size w w' := good_upto (nodes x) x v w (Nat.le_refl _) hv
end Go.Proofs.YtnjkihbmhacgoaaGreatDoor

namespace Go.Proofs.YtnjkihbmhacgoaaGreatDoor
open Go.RowKit

/-- what the reference's Valid answers -/
def evalR (x : Rx) : Int := if 64 < nodes x then 4 else if goodR x then 0 else 1
set_option maxHeartbeats 1000000 in
set_option maxRecDepth 100000 in
theorem eValid_any (x : Rx) (v : Value) (w : World) (hn : nodes x ≤ 1000000) (hv : RtV w (Lo w.heap.size) x v) : Calls Tryz.prog 10 #[v] w fun e w' => e = .returned (.int .i64 (evalR x)) ∧ Below w.heap.size w w' := by
  obtain ⟨_, A, c, rfl, _⟩ := hv.parts
  have HN := Lib.hid fun W (hW : Below w.heap.size w W) => eNodes_upto (nodes x) x _ W (Nat.le_refl _) hn (hv.call hW)
  have HG := Lib.hid fun W (hW : Below w.heap.size w W) => good_any x _ W (hv.call hW)
  unfold rxv at HN HG ⊢
  have hd : Below w.heap.size w (w.alloc (.cells #[.int .i64 x.kind, .int .u8 x.lo, .int .u8 x.hi, .slice A x.kids.length c] 25)) := (Below.refl _ _).alloc (Nat.le_refl _) _
  have HE := Lib.hid (show evalR x = if 64 < nodes x then 4 else if goodR x then 0 else 1 from rfl)
  have HB0 := fun W (hW : Below (w.alloc (.cells #[.int .i64 x.kind, .int .u8 x.lo, .int .u8 x.hi, .slice A x.kids.length c] 25)).heap.size (w.alloc (.cells #[.int .i64 x.kind, .int .u8 x.lo, .int .u8 x.hi, .slice A x.kids.length c] 25)) W) => four ((hW.block w.heap.size (by simp)).trans (heap_alloc_new w _))
  have HB := Lib.hid HB0
  clear hv HB0
  obtain ⟨r, hr⟩ : ∃ r, evalR x = r := ⟨_, rfl⟩
  rw [hr] at HE ⊢
  clear hr
  generalize goodR x = g at HG HE
  generalize hnn : nodes x = n at HN HE hn
  clear hnn
  by_cases h64 : 64 < n
  · have e := HE.out
    rw [if_pos h64] at e
    subst e
    have h64' : (64 : Int) < n := by omega
    go_enter Tryz.func10, Tryz.ntmps10
    go_wp2_with fail
    refine (HN.out _ hd).mono ?_
    rintro e w1 ⟨rfl, hw1⟩
    go_wp2_with fail
    go_ret
    exact ⟨rfl, hd.trans (hw1.mono hd.size)⟩
  · have e := HE.out
    rw [if_neg h64] at e
    have h64' : ¬ (64 : Int) < n := by omega
    go_enter Tryz.func10, Tryz.ntmps10
    go_wp2_with fail
    refine (HN.out _ hd).mono ?_
    rintro e w1 ⟨rfl, hw1⟩
    obtain ⟨c0, c1, c2, c3⟩ := HB.out w1 hw1
    have hd1 := hd.trans (hw1.mono hd.size)
    go_wp2_with fail
    refine (HG.out _ hd1).mono ?_
    rintro e w2 ⟨rfl, hw2⟩
    cases g with
    | false =>
      have e' : r = 1 := e
      clear e HE
      subst e'
      go_wp2_with fail
      go_ret
      exact ⟨rfl, hd1.trans (hw2.mono hd1.size)⟩
    | true =>
      have e' : r = 0 := e
      clear e HE
      subst e'
      go_wp2_with fail
      go_ret
      exact ⟨rfl, hd1.trans (hw2.mono hd1.size)⟩
end Go.Proofs.YtnjkihbmhacgoaaGreatDoor
