/-
  THE REFERENCE's NORMAL FORM, IN WORDS.
  THE WALK of the reference's Everything.
-/
import Derived.Test.YtnjkihbmhacgoaaGreatDoorRxForm
namespace Go.Proofs.YtnjkihbmhacgoaaGreatDoor

/-- the kids of one's own kind laid open -/
def flatE (k : Int) : List Rx → List Rx
  | [] => []
  | x :: s => (if x.kind = k then x.kids else [x]) ++ flatE k s
/-- without the neutral ones -/
def keepE (neu : Rx) : List Rx → List Rx
  | [] => []
  | x :: s => (if cmp x neu = 0 then [] else [x]) ++ keepE neu s
/-- put one by one, in order or one behind the other -/
def putE (ord : Bool) (a : List Rx) (x : Rx) : List Rx := if ord then ins x a else a ++ [x]
/-- what the loop over the kids makes -/
def gathE (ord : Bool) (neu : Rx) (l : List Rx) : List Rx := (keepE neu l).foldl (putE ord) []
def joinE (k : Int) (neu dec : Rx) (ord : Bool) (s : List Rx) : Rx :=
  if (flatE k s).any (fun x => cmp x dec == 0) then dec else one_of k neu (gathE ord neu (flatE k s))
def notE (s : List Rx) : Rx := match s with
  | y :: _ => if y.kind = 6 then (match y.kids with | z :: _ => z | [] => .node 6 0 0 s) else .node 6 0 0 s
  | [] => .node 6 0 0 s
def starE (s : List Rx) : Rx := match s with
  | y :: _ => if y.kind < 2 then oneR else if y.kind = 7 ∨ cmp y allR = 0 then y else .node 7 0 0 s
  | [] => .node 7 0 0 s
/-- the normal form of a kind with kids in normal form -/
def normE (k : Int) (s : List Rx) : Rx :=
  if k = 3 then joinE 3 oneR nilR false s else if k = 4 then joinE 4 nilR allR true s else if k = 5 then joinE 5 allR nilR true s else if k = 6 then notE s else starE s

theorem flatE_app (k : Int) (s t : List Rx) : flatE k (s ++ t) = flatE k s ++ flatE k t := by
  induction s with
  | nil => rfl
  | cons x s ih => simp only [List.cons_append, flatE, ih, List.append_assoc]
theorem keepE_app (neu : Rx) (s t : List Rx) : keepE neu (s ++ t) = keepE neu s ++ keepE neu t := by
  induction s with
  | nil => rfl
  | cons x s ih => simp only [List.cons_append, keepE, ih, List.append_assoc]
theorem flatE_take {k : Int} {s : List Rx} {j : Nat} (hj : j < s.length) {l : List Rx} (hl : l = flatE k (s.take j)) : l ++ (if s[j].kind = k then s[j].kids else [s[j]]) = flatE k (s.take (j + 1)) := by
  rw [List.take_succ_eq_append_getElem hj, flatE_app, hl]
  simp [flatE]
theorem flatE_own {k : Int} {s : List Rx} {j : Nat} (hj : j < s.length) {l : List Rx} (h : s[j].kind = k) (hl : l = flatE k (s.take j)) : l ++ s[j].kids = flatE k (s.take (j + 1)) := by
  have := flatE_take hj hl
  rwa [if_pos h] at this
theorem flatE_other {k : Int} {s : List Rx} {j : Nat} (hj : j < s.length) {l : List Rx} (h : ¬ s[j].kind = k) (hl : l = flatE k (s.take j)) : l ++ [s[j]] = flatE k (s.take (j + 1)) := by
  have := flatE_take hj hl
  rwa [if_neg h] at this
theorem gathE_take {ord : Bool} {neu : Rx} {s : List Rx} {j : Nat} (hj : j < s.length) {l : List Rx} (hl : l = gathE ord neu (s.take j)) : (if cmp s[j] neu = 0 then l else putE ord l s[j]) = gathE ord neu (s.take (j + 1)) := by
  rw [List.take_succ_eq_append_getElem hj]
  unfold gathE at *
  rw [keepE_app, List.foldl_append, ← hl]
  simp only [keepE, List.append_nil]
  split
  · rfl
  · rfl

theorem flatE_nodes (k : Int) : ∀ s : List Rx, nodesL (flatE k s) ≤ nodesL s
  | [] => by simp [flatE]
  | x :: s => by
    have ih := flatE_nodes k s
    have e := nodes_eq x
    simp only [flatE, nodesL_app, nodesL]
    split
    · omega
    · simp only [nodesL]; omega
theorem keepE_len (neu : Rx) : ∀ l : List Rx, (keepE neu l).length ≤ l.length
  | [] => by simp [keepE]
  | x :: s => by
    have := keepE_len neu s
    simp only [keepE, List.length_append, List.length_cons]
    split
    · simp only [List.length_nil]; omega
    · simp only [List.length_cons, List.length_nil]; omega
theorem ins_len (x : Rx) : ∀ l : List Rx, (ins x l).length ≤ l.length + 1
  | [] => by simp [ins]
  | y :: s => by
    have := ins_len x s
    simp only [ins]
    split
    · simp only [List.length_cons]; omega
    · split
      · simp only [List.length_cons]; omega
      · simp only [List.length_cons]; omega
theorem putE_len (ord : Bool) : ∀ (l a : List Rx), (l.foldl (putE ord) a).length ≤ l.length + a.length
  | [], a => by simp
  | x :: s, a => by
    have h1 := putE_len ord s (putE ord a x)
    have h2 : (putE ord a x).length ≤ a.length + 1 := by
      unfold putE
      split
      · exact ins_len x a
      · simp
    simp only [List.foldl_cons, List.length_cons]
    omega
theorem gathE_len (ord : Bool) (neu : Rx) (l : List Rx) : (gathE ord neu l).length ≤ l.length := by
  have h1 := putE_len ord (keepE neu l) []
  have h2 := keepE_len neu l
  unfold gathE
  simp only [List.length_nil] at h1
  omega
end Go.Proofs.YtnjkihbmhacgoaaGreatDoor

namespace Go.Proofs.YtnjkihbmhacgoaaGreatDoor
open Go.RowKit

/-- the call returns an expression -/
def GivesE (w : World) (x : Rx) (e : Ending) (w' : World) : Prop := ∃ v, e = .returned v ∧ RtV w' (Lo w'.heap.size) x v ∧ Below w.heap.size w w'
theorem all_at {w : World} {S : Nat → Prop} {b o : Nat} (h : At4 w b o 0 0 0 (.slice none 0 0)) (hb : S b) : RtV w S allR (rxv 6 0 0 (some ⟨b, o, none⟩) 1 1) := by
  refine RtV.mk (k := 6) (l := 0) (h := 0) (s := [nilR]) ⟨by unfold I64; omega, by omega, by omega, by decide⟩ (Nat.le_refl _) (fun h => nomatch h) ?_
  simp only [RtL]
  refine ⟨b, o, none, 0, rfl, hb, h, ?_, trivial⟩
  exact RtV.mk (k := 0) (l := 0) (h := 0) (s := []) ⟨by unfold I64; omega, by omega, by omega, by decide⟩ (Nat.le_refl _) (fun _ => rfl) (by simp only [RtL])
theorem eEvery_any (w : World) : Calls Tryz.prog 62 #[] w fun e w' => ∃ b, e = .returned (.agg #[.int .i64 6, .int .u8 0, .int .u8 0, .slice (some ⟨b, 0, none⟩) 1 1]) ∧ b < w'.heap.size ∧ w.heap.size ≤ b ∧ At4 w' b 0 0 0 0 (.slice none 0 0) ∧ Below w.heap.size w w' := by
  go_enter Tryz.func62, Tryz.ntmps62
  go_wp2_with fail
  have h1 := heap_alloc_new_at (w.alloc (.cells #[.int .i64 6, .int .u8 0, .int .u8 0, .slice (some ⟨w.heap.size + 1, 0, none⟩) 1 1] 25)) (.cells #[.int .i64 0, .int .u8 0, .int .u8 0, .slice none 0 0] 25) (n := w.heap.size + 1) (by simp)
  have h0 := (heap_alloc_old (w.alloc (.cells #[.int .i64 6, .int .u8 0, .int .u8 0, .slice (some ⟨w.heap.size + 1, 0, none⟩) 1 1] 25)) (.cells #[.int .i64 0, .int .u8 0, .int .u8 0, .slice none 0 0] 25) w.heap.size (by simp)).trans (heap_alloc_new w _)
  have hB := below_alloc2 (Below.refl w.heap.size w) (Nat.le_refl _) (.cells #[.int .i64 6, .int .u8 0, .int .u8 0, .slice (some ⟨w.heap.size + 1, 0, none⟩) 1 1] 25) (.cells #[.int .i64 0, .int .u8 0, .int .u8 0, .slice none 0 0] 25)
  obtain ⟨q0, q1, q2, q3⟩ := four h0
  have hz : w.heap.size + 1 < ((w.alloc (.cells #[.int .i64 6, .int .u8 0, .int .u8 0, .slice (some ⟨w.heap.size + 1, 0, none⟩) 1 1] 25)).alloc (.cells #[.int .i64 0, .int .u8 0, .int .u8 0, .slice none 0 0] 25)).heap.size := by simp
  generalize (w.alloc (.cells #[.int .i64 6, .int .u8 0, .int .u8 0, .slice (some ⟨w.heap.size + 1, 0, none⟩) 1 1] 25)).alloc (.cells #[.int .i64 0, .int .u8 0, .int .u8 0, .slice none 0 0] 25) = w2 at *
  refine bodyPost_ret (v := rxv 6 0 0 (some ⟨w.heap.size + 1, 0, none⟩) 1 1) (by unfold rxv; simp [results, Tryz.results62, go_sem, q0, q1, q2, q3]) rfl ?_
  exact ⟨w.heap.size + 1, rfl, hz, by omega, four h1, hB⟩
theorem one_at (w : World) (S : Nat → Prop) : RtV w S oneR (rxv 1 0 0 none 0 0) :=
  RtV.mk (k := 1) (l := 0) (h := 0) (s := []) ⟨by unfold I64; omega, by omega, by omega, by decide⟩ (Nat.le_refl _) (fun _ => rfl) (by simp only [RtL])
theorem nil_at (w : World) (S : Nat → Prop) : RtV w S nilR (rxv 0 0 0 none 0 0) :=
  RtV.mk (k := 0) (l := 0) (h := 0) (s := []) ⟨by unfold I64; omega, by omega, by omega, by decide⟩ (Nat.le_refl _) (fun _ => rfl) (by simp only [RtL])
/-- a result stored in the call's own cell, block N, where none of its blocks is N -/
theorem fin_givesE {w W : World} {N : Nat} {x : Rx} {A : Option Addr} {c : Nat} (hB : Below w.heap.size w W) (hN : w.heap.size ≤ N) {T : Nat → Prop} (hv : RtV W T x (rxv x.kind x.lo x.hi A x.kids.length c)) (hT : ∀ b, T b → b ≠ N ∧ b < W.heap.size) :
    GivesE w x (.returned (rxv x.kind x.lo x.hi A x.kids.length c)) ((((W.setCell ⟨N, 0, none⟩ (.int .i64 x.kind)).setCell ⟨N, 1, none⟩ (.int .u8 x.lo)).setCell ⟨N, 2, none⟩ (.int .u8 x.hi)).setCell ⟨N, 3, none⟩ (.slice A x.kids.length c)) :=
  ⟨_, rfl, RtV.to (fun b hb => ⟨by rw [fin4_size]; exact (hT b hb).2, fin4 _ _ _ _ (hT b hb).1⟩) x hv, fin4_below hB hN _ _ _ _⟩
theorem fin_givesS {S : Nat → Prop} {w W : World} {N : Nat} {x : Rx} {A : Option Addr} {c : Nat} (hB : Below w.heap.size w W) (hN : w.heap.size ≤ N) {T : Nat → Prop} (hv : RtV W T x (rxv x.kind x.lo x.hi A x.kids.length c)) (hT : ∀ b, T b → b ≠ N ∧ Plus S w.heap.size W.heap.size b) :
    GivesS S w x (.returned (rxv x.kind x.lo x.hi A x.kids.length c)) ((((W.setCell ⟨N, 0, none⟩ (.int .i64 x.kind)).setCell ⟨N, 1, none⟩ (.int .u8 x.lo)).setCell ⟨N, 2, none⟩ (.int .u8 x.hi)).setCell ⟨N, 3, none⟩ (.slice A x.kids.length c)) :=
  ⟨_, rfl, RtV.to (fun b hb => ⟨by have := (hT b hb).2; rw [fin4_size]; exact this, fin4 _ _ _ _ (hT b hb).1⟩) x hv, fin4_below hB hN _ _ _ _⟩
theorem fin_plus {S : Nat → Prop} {n m b : Nat} (hS : SOk S n) (h : (S b ∨ n < b) ∧ b < m) : b ≠ n ∧ Plus S n m b := by
  rcases h.1 with h1 | h1
  · exact ⟨by have := hS b h1; omega, .inl h1⟩
  · exact ⟨by omega, .inr ⟨by omega, h.2⟩⟩
end Go.Proofs.YtnjkihbmhacgoaaGreatDoor
