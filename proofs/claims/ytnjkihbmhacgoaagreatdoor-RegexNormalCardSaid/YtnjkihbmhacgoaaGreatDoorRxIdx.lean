/-
  THE WALKS of IndexFunc, ContainsFunc (with nullable; with the test for the absorbing expression), nullable, flat.
-/
import Derived.Test.YtnjkihbmhacgoaaGreatDoorRxFlat
namespace Go.Proofs.YtnjkihbmhacgoaaGreatDoor
open Go.RowKit

mutual
/-- whether the empty string is one of its strings -/
def nulR : Rx → Bool
  | .node k _ _ s => if k = 1 ∨ k = 7 then true else if k = 3 ∨ k = 5 then nulA s else if k = 4 then nulO s else if k = 6 then nulN s else false
def nulA : List Rx → Bool
  | [] => true
  | x :: s => nulR x && nulA s
def nulO : List Rx → Bool
  | [] => false
  | x :: s => nulR x || nulO s
def nulN : List Rx → Bool
  | [] => false
  | x :: _ => !nulR x
end
theorem nulA_all : ∀ s : List Rx, nulA s = s.all nulR
  | [] => rfl
  | x :: s => by simp only [nulA, List.all_cons, nulA_all s]
theorem nulO_any : ∀ s : List Rx, nulO s = s.any nulR
  | [] => rfl
  | x :: s => by simp only [nulO, List.any_cons, nulO_any s]

/-- which function the search is handed -/
def Pred (F : Nat) (cb : Array Value) : Prop := (F = 86 ∧ cb = #[]) ∨ (F = 59 ∧ ∃ b, cb = #[.pointer (some ⟨b, 0, none⟩)])
/-- what a predicate's contract says of a list's expressions, from a world on -/
def PredOn (F : Nat) (cb : Array Value) (p : Rx → Bool) (s : List Rx) (w : World) : Prop := ∀ x ∈ s, ∀ (v : Value) (W : World), Below w.heap.size w W → RtV W (Lo W.heap.size) x v → Calls Tryz.prog F (#[v] ++ cb) W fun e w' => e = .returned (.bool (p x)) ∧ Below W.heap.size W w'

set_option maxHeartbeats 1000000 in
set_option maxRecDepth 100000 in
theorem index_any (F : Nat) (cb : Array Value) (hF : Pred F cb) (p : Rx → Bool) (s : List Rx) (A : Option Addr) (c : Nat) (w : World) (hP : PredOn F cb p s w) (hsl : s.length ≤ 1048576) (hs : RtL w (Lo w.heap.size) s A) :
    Calls Tryz.prog 78 #[.slice A s.length c, .func (.func F) #[] cb] w fun e w' => ∃ z : Int, e = .returned (.int .i64 z) ∧ decide (0 ≤ z) = s.any p ∧ Below w.heap.size w w' := by
  rcases hF with ⟨rfl, rfl⟩ | ⟨rfl, bp, rfl⟩
  all_goals
    go_enter Tryz.func78, Tryz.ntmps78
    go_wp2_with fail
    go_loopw [8] (fun i wr => ∃ j : Nat, j ≤ s.length ∧ i = .int .i64 j ∧ Hid (s.any p = (s.drop j).any p) ∧ Below w.heap.size w wr) (fun i _ => s.length - (intOf i).toNat)
    case atStart => exact ⟨0, Nat.zero_le _, rfl, Lib.hid rfl, Below.refl _ _⟩
    case round =>
      obtain ⟨j, hj, rfl, hall, hW⟩ := hrel
      by_cases hlt : j < s.length
      · obtain ⟨b1, o1, A1, c1, rfl, hb1, q1, hx1⟩ := hs.get hlt
        obtain ⟨e0, e1, e2, e3⟩ := q1.to (hW.block b1 hb1)
        have hst := Lib.hid (show (s.drop j).any p = (p s[j] || (s.drop (j + 1)).any p) by rw [List.drop_eq_getElem_cons hlt, List.any_cons])
        have hC := hP s[j] (List.getElem_mem hlt) _ wr hW ((hx1.below hW).mono hW.size)
        clear hx1 hs q1 hP
        generalize s[j] = x at e0 e1 e2 e3 hC hst
        obtain ⟨xk, xl, xh, xs⟩ := x
        simp only [Rx.kind, Rx.lo, Rx.hi, Rx.kids] at e0 e1 e2 e3 hC
        unfold rxv at hC
        simp only [List.append_toArray, List.nil_append, List.cons_append, Array.append_empty] at hC
        cases hp : p (.node xk xl xh xs)
        · rw [hp] at hC hst
          go_wp2_with (first
            | (go_at_call 86; refine hC.mono ?_; clear hC; rintro e w1 ⟨rfl, hw1⟩)
            | (go_at_call 59; refine hC.mono ?_; clear hC; rintro e w1 ⟨rfl, hw1⟩))
          go_roundw
          case rel => exact ⟨j + 1, by omega, by go_num, Lib.hid (by rw [hall.out, hst.out]; rfl), hW.trans (hw1.mono hW.size)⟩
          case measure => simp [intOf]; omega
        · rw [hp] at hC hst
          go_wp2_with (first
            | (go_at_call 86; refine hC.mono ?_; clear hC; rintro e w1 ⟨rfl, hw1⟩)
            | (go_at_call 59; refine hC.mono ?_; clear hC; rintro e w1 ⟨rfl, hw1⟩))
          go_ret
          exact ⟨j, rfl, by rw [hall.out, hst.out]; simp, hW.trans (hw1.mono hW.size)⟩
      · obtain rfl : j = s.length := by omega
        have he := Lib.hid (show (s.drop s.length).any p = false by simp)
        clear hs hP
        go_wp2_with fail
        go_ret
        exact ⟨-1, rfl, by rw [hall.out, he.out]; rfl, hW⟩

theorem containsF_any (F : Nat) (cb : Array Value) (hF : Pred F cb) (p : Rx → Bool) (s : List Rx) (A : Option Addr) (c : Nat) (w : World) (hP : PredOn F cb p s w) (hsl : s.length ≤ 1048576) (hs : RtL w (Lo w.heap.size) s A) :
    Calls Tryz.prog 58 #[.slice A s.length c, .func (.func F) #[] cb] w fun e w' => e = .returned (.bool (s.any p)) ∧ Below w.heap.size w w' := by
  have hC := index_any F cb hF p s A c w hP hsl hs
  clear hP hs
  go_enter Tryz.func58, Tryz.ntmps58
  go_wp2_with (go_at_call 78; refine hC.mono ?_; clear hC; rintro e w1 ⟨z, rfl, hz, hw1⟩; replace hz := Lib.hid hz)
  go_ret
  exact ⟨by rw [← hz.out]; rfl, hw1⟩

/-- nullable, on trees of at most m nodes that are well formed -/
def NulUpto (m : Nat) : Prop := PredUpto 86 nulR wfR m
theorem nul_predOn {m : Nat} (ih : NulUpto m) {s : List Rx} (hm : nodesL s ≤ m) (hq : s.all wfR = true) (w : World) : PredOn 86 #[] nulR s w := fun x hx v W _ hv => by
  have := ih x v W (Nat.le_trans (nodes_mem hx) hm) (List.all_eq_true.1 hq x hx) hv
  simpa using this

set_option maxHeartbeats 2000000 in
set_option maxRecDepth 100000 in
theorem nul_step (m : Nat) (ih : NulUpto m) : NulUpto (m + 1) := by
  intro x v w hm hq hv
  obtain ⟨k, l, h, s⟩ := x
  obtain ⟨⟨hk, hl, hh, hsl⟩, A, c, rfl, hc, hA, hs⟩ := hv.parts
  simp only [Rx.kind, Rx.lo, Rx.hi, Rx.kids] at hk hl hh hsl hc hs ⊢
  have hm' : nodesL s ≤ m := by simp only [nodes] at hm; omega
  have hqs : s.all wfR = true := by rw [← wfL_all]; exact wf_kidsL hq
  rw [wfR_eq] at hq
  have hwk : wfK k s = true := by simp only [Bool.and_eq_true] at hq; exact hq.2
  have h0 := (Below.refl w.heap.size w).alloc (Nat.le_refl _) (.cells #[.int .i64 k, .int .u8 l, .int .u8 h, .slice A s.length c] 30)
  have hE : ∀ W, Below w.heap.size w W → Calls Tryz.prog 48 #[.slice A s.length c, .func (.func 86) #[] #[]] W fun e w' => e = .returned (.bool (s.all nulR)) ∧ Below W.heap.size W w' := fun W hW => every_any 86 (.inr rfl) nulR wfR m ih s A c W hm' hqs hsl ((hs.below hW).mono hW.size)
  have hO : ∀ W, Below w.heap.size w W → Calls Tryz.prog 58 #[.slice A s.length c, .func (.func 86) #[] #[]] W fun e w' => e = .returned (.bool (s.any nulR)) ∧ Below W.heap.size W w' := fun W hW => containsF_any 86 #[] (.inl ⟨rfl, rfl⟩) nulR s A c W (nul_predOn ih hm' hqs W) hsl ((hs.below hW).mono hW.size)
  have hE' := hE _ h0
  have hO' := hO _ h0
  clear hE hO
  have hkk : k = 0 ∨ k = 1 ∨ k = 2 ∨ k = 3 ∨ k = 4 ∨ k = 5 ∨ k = 6 ∨ k = 7 := by
    unfold wfK at hwk
    split at hwk
    · rename_i h1; simp only [Bool.or_eq_true, beq_iff_eq] at h1; omega
    · split at hwk
      · rename_i h1; simp only [Bool.or_eq_true, beq_iff_eq] at h1; omega
      · split at hwk
        · rename_i h1; simp only [Bool.or_eq_true, beq_iff_eq] at h1; omega
        · cases hwk
  clear hq
  unfold rxv
  rcases hkk with rfl | rfl | rfl | rfl | rfl | rfl | rfl | rfl
  · have hv : nulR (.node 0 l h s) = false := by simp [nulR]
    rw [hv]
    clear hE' hO' hs ih hwk hv
    go_enter Tryz.func86, Tryz.ntmps86
    go_wp2_with fail
    go_ret
    exact ⟨rfl, h0⟩
  · have hv : nulR (.node 1 l h s) = true := by simp [nulR]
    rw [hv]
    clear hE' hO' hs ih hwk hv
    go_enter Tryz.func86, Tryz.ntmps86
    go_wp2_with fail
    go_ret
    exact ⟨rfl, h0⟩
  · have hv : nulR (.node 2 l h s) = false := by simp [nulR]
    rw [hv]
    clear hE' hO' hs ih hwk hv
    go_enter Tryz.func86, Tryz.ntmps86
    go_wp2_with fail
    go_ret
    exact ⟨rfl, h0⟩
  · have hv : nulR (.node 3 l h s) = s.all nulR := by simp [nulR, nulA_all]
    rw [hv]
    generalize s.all nulR = p at hE'
    clear hO' hs ih hwk hv
    go_enter Tryz.func86, Tryz.ntmps86
    go_wp2_with (go_at_call 48; refine hE'.mono ?_; clear hE'; rintro e w1 ⟨rfl, hw1⟩)
    go_ret
    exact ⟨rfl, h0.trans (hw1.mono (by simp))⟩
  · have hv : nulR (.node 4 l h s) = s.any nulR := by simp [nulR, nulO_any]
    rw [hv]
    generalize s.any nulR = p at hO'
    clear hE' hs ih hwk hv
    go_enter Tryz.func86, Tryz.ntmps86
    go_wp2_with (go_at_call 58; refine hO'.mono ?_; clear hO'; rintro e w1 ⟨rfl, hw1⟩)
    go_ret
    exact ⟨rfl, h0.trans (hw1.mono (by simp))⟩
  · have hv : nulR (.node 5 l h s) = s.all nulR := by simp [nulR, nulA_all]
    rw [hv]
    generalize s.all nulR = p at hE'
    clear hO' hs ih hwk hv
    go_enter Tryz.func86, Tryz.ntmps86
    go_wp2_with (go_at_call 48; refine hE'.mono ?_; clear hE'; rintro e w1 ⟨rfl, hw1⟩)
    go_ret
    exact ⟨rfl, h0.trans (hw1.mono (by simp))⟩
  · obtain ⟨x, rfl⟩ : ∃ x, s = [x] := by
      have hz : s.length = 1 := by simp [wfK] at hwk; exact hwk.1
      match s, hz with
      | [x], _ => exact ⟨x, rfl⟩
    have hv : nulR (.node 6 l h [x]) = !nulR x := by simp [nulR, nulN]
    rw [hv]
    obtain ⟨b, o, A', c', rfl, hb, q1, hx⟩ := hs.get (j := 0) (by simp)
    simp only [List.getElem_cons_zero, Nat.zero_mul, Nat.add_zero] at q1 hx
    obtain ⟨e0, e1, e2, e3⟩ := q1.to (Below.heap_alloc w (.cells #[.int .i64 6, .int .u8 l, .int .u8 h, .slice (some ⟨b, o, none⟩) [x].length c] 30) b hb)
    have hC := ih x _ (w.alloc (.cells #[.int .i64 6, .int .u8 l, .int .u8 h, .slice (some ⟨b, o, none⟩) [x].length c] 30)) (by simpa [nodesL] using hm') (by simpa using hqs) (hx.call h0)
    clear hE' hO' hs ih hx q1 hm hm' hwk hqs hv
    generalize nulR x = p at hC
    obtain ⟨xk, xl, xh, xs⟩ := x
    simp only [Rx.kind, Rx.lo, Rx.hi, Rx.kids] at e0 e1 e2 e3 hC
    unfold rxv at hC
    simp only [List.length_cons, List.length_nil] at *
    go_enter Tryz.func86, Tryz.ntmps86
    go_wp2_with (go_at_call 86; refine hC.mono ?_; clear hC; rintro e w1 ⟨rfl, hw1⟩)
    go_ret
    exact ⟨rfl, h0.trans (hw1.mono (by simp))⟩
  · have hv : nulR (.node 7 l h s) = true := by simp [nulR]
    rw [hv]
    clear hE' hO' hs ih hwk hv
    go_enter Tryz.func86, Tryz.ntmps86
    go_wp2_with fail
    go_ret
    exact ⟨rfl, h0⟩
theorem nul_upto : ∀ m, NulUpto m
  | 0 => fun x _ _ h => by cases x; simp [nodes] at h
  | m + 1 => nul_step m (nul_upto m)
/-- nullable's contract -/
theorem nullable_any (x : Rx) (v : Value) (w : World) (hq : wfR x = true) (hv : RtV w (Lo w.heap.size) x v) : Calls Tryz.prog 86 #[v] w fun e w' => e = .returned (.bool (nulR x)) ∧ Below w.heap.size w w' := nul_upto (nodes x) x v w (Nat.le_refl _) hq hv
end Go.Proofs.YtnjkihbmhacgoaaGreatDoor
