/-
  THE WALKS of tokens and of its closure (a range over a function).
-/
import Derived.RangeFuncNested
import Derived.RangeFuncBound
import Derived.RangeFuncCalls
import Derived.RangeFuncLeaves
import Derived.RangeFuncBox
import Derived.Shelf.Abstract
import Derived.Shelf.RegionOpen
import Derived.WalkKit
import Derived.OwnWalkIn
import Derived.TacticsInMore
import Derived.LoopNIn
import Derived.LoopIn
import Derived.WalkSpells
import Derived.WalkLawsBesides
import Derived.Test.YtijcjknaphboeaaGreatDoorRxTokA
namespace Go.Proofs.YtijcjknaphboeaaGreatDoor
open Go.RowKit Go.Shelf
attribute [local go_sem] Oper.semAt_some

def Tok.vals (t : Tok) : Array Value := #[.string t.k, .int .i64 t.at_, .int .u8 t.lo, .int .u8 t.hi]
/-- strings.TrimLeft(s, " ") leaves it as it is -/
def TL (S : ByteArray) : Prop := ∀ w : World, Calls Tryz.prog 90 #[.string S, .string ⟨#[32]⟩] w fun e w' => e = .returned (.string S) ∧ Below w.heap.size w w'
/-- the tokens of the rest of a text of n bytes -/
inductive Toks (n : Nat) : ByteArray → List Tok → Prop
  | fin (S : ByteArray) (k : ByteArray) (m : Nat) : FT S ⟨k, 0, 0, 0⟩ m → (k.toList == []) = true → TL S → S.size ≤ n → n ≤ 4096 → Toks n S [⟨k, (n : Int) - S.size, 0, 0⟩]
  | more (S S' : ByteArray) (t : Tok) (m : Nat) (ts : List Tok) : FT S t m → (t.k.toList == []) = false → TL S → S.size ≤ n → n ≤ 4096 → 0 < m → m ≤ S.size → S.extract m S.size = S' → S'.size < S.size → Toks n S' ts → Toks n S (⟨t.k, (n : Int) - S.size, t.lo, t.hi⟩ :: ts)

/-- the block of the row that block g's first cell points to -/
def rowOf (W : World) (g : Nat) : Option Nat := match W.heap[g]? with
  | some (.cells cs _ _) => (cs[0]?).bind Value.ownBlock
  | _ => none
/-- WHAT A ROUND KEEPS: all cells but those of block g and of its row. -/
def KpT (g : Nat) (W W' : World) : Prop := W.heap.size ≤ W'.heap.size ∧ (∀ b o, W.heap[b]? = some o → o.isCells = true → b ≠ g → rowOf W g ≠ some b → W'.heap[b]? = W.heap[b]?) ∧
  (∀ b, rowOf W' g = some b → rowOf W g = some b ∨ (W.heap.size ≤ b ∧ b < W'.heap.size))
theorem KpT.trans {g : Nat} {A B C : World} (h : KpT g A B) (k : KpT g B C) : KpT g A C := by
  refine ⟨Nat.le_trans h.1 k.1, fun b o hb ho hg hr => ?_, fun b hb => ?_⟩
  · have h1 := h.2.1 b o hb ho hg hr
    have hlt := (Array.getElem?_eq_some_iff.1 hb).1
    refine (k.2.1 b o (h1.trans hb) ho hg (fun e => ?_)).trans h1
    rcases h.2.2 b e with h2 | h2
    · exact hr h2
    · omega
  · rcases k.2.2 b hb with h1 | h1
    · rcases h.2.2 b h1 with h2 | h2
      · exact .inl h2
      · exact .inr ⟨h2.1, Nat.lt_of_lt_of_le h2.2 k.1⟩
    · exact .inr ⟨Nat.le_trans h.1 h1.1, h1.2⟩
theorem rowOf_eq {W W' : World} {g : Nat} (h : W'.heap[g]? = W.heap[g]?) : rowOf W' g = rowOf W g := by unfold rowOf; rw [h]
theorem KpT.put {g n : Nat} (hg : g < n) (W : World) (l : Nat) (o o' : Obj) (hl : n ≤ l) (ho : W.heap[l]? = some o) (hc : o.isCells = false) : KpT g W (W.putObj l o') := by
  have hne : ∀ b, b ≠ l → (W.putObj l o').heap[b]? = W.heap[b]? := fun b hb => World.putObj_heap_other hb
  refine ⟨by simp, fun b o2 hb ho2 _ _ => hne b (fun e => ?_), fun b hb => .inl ?_⟩
  · subst e
    rw [ho] at hb
    cases hb
    rw [hc] at ho2
    cases ho2
  · rw [rowOf_eq (hne g (by omega))] at hb
    exact hb
theorem grown_of_below {W W' : World} (h : Below W.heap.size W W') : W.grownBy W' none := ⟨h.os, h.tape, h.output, h.size, fun k hk _ => h.block k hk⟩

set_option maxRecDepth 100000 in
set_option maxHeartbeats 4000000 in
theorem tok_in (n : Nat) (hn : 1 ≤ n) (l Bs g N : Nat) (T : ByteArray) (all : List Tok) (hT : Toks T.size T all) (J Jx : List Tok → World → Prop) (W : World) (hJa : AbidesFrom W.heap.size J) (hN : all.length ≤ N)
    (hY : ∀ pre x W, J pre W → pre.length < N → YieldAt Fence.wide (n - 1) Tryz.prog l #[.agg (Tok.vals x)] W fun e W' =>
      (e = .returned (.bool true) ∧ J (pre ++ [x]) W' ∧ KpT g W W') ∨ (e = .returned (.bool false) ∧ Jx (pre ++ [x]) W'))
    (hBg : Bs ≠ g) (hgl : g < W.heap.size) (hrow : rowOf W g = none) (hBs : W.cell? ⟨Bs, 0, none⟩ = some (.string T)) (h0 : J [] W) :
    CallsIn Fence.wide n Tryz.prog 89 #[.func (.yield l) #[] #[], .pointer (some ⟨Bs, 0, none⟩)] W fun e W' => (∃ v, e = .returned v) ∧
      ((∃ ys, ys = all ∧ J ys W') ∨ (∃ pre, pre <+: all ∧ Jx pre W')) := by
  have hBl0 : Bs < W.heap.size := World.block_lt_of_cell? _ _ hBs
  obtain ⟨oB, hoB, hoC⟩ : ∃ o, W.heap[Bs]? = some o ∧ o.isCells = true := by
    unfold World.cell? at hBs
    cases hh : W.heap[Bs]? with
    | none => rw [hh] at hBs; simp at hBs
    | some o => cases o with
      | cells cs t fr => exact ⟨_, rfl, rfl⟩
      | _ => rw [hh] at hBs; simp at hBs
  refine callsIn_of_wp Tryz.func89 rfl trivial ?_ rfl
  simp only [Tryz.ntmps89, List.size_toArray, List.length_cons, List.length_nil, Nat.reduceAdd, Nat.reduceSub, Array.replicate_succ, Array.replicate_zero, List.push_toArray, List.append_toArray, List.nil_append, List.cons_append]
  gi_wp2
  gi_loopw [3] (fun i wr => ∃ (pre ts : List Tok) (S : ByteArray), i = .string S ∧ Toks T.size S ts ∧ pre ++ ts = all ∧ J pre wr ∧ W.heap.size ≤ wr.heap.size ∧ wr.heap[Bs]? = W.heap[Bs]? ∧ (∀ b, rowOf wr g = some b → W.heap.size ≤ b ∧ b < wr.heap.size)) (fun i _ => match i with | .string S => S.size | _ => 0)
  case atStart => exact ⟨[], all, T, rfl, hT, rfl, h0, Nat.le_refl _, rfl, fun b hb => by rw [hrow] at hb; cases hb⟩
  case round =>
    obtain ⟨pre, ts, S, rfl, hts, hall, hJs, hsz, hkp, hro⟩ := hrel
    have hBx := (World.cell?_of_block hkp).trans hBs
    have hBl : Bs < wr.heap.size := by omega
    have hSt : ∀ (w2 : World) (x : Tok), Below wr.heap.size wr w2 → J pre (w2.alloc (.cells (Tok.vals x) 96)) := fun w2 x hb12 => hJa _ _ (w2.alloc (.cells (Tok.vals x) 96)) none hJs (grown_of_below (hb12.alloc hb12.size _)) (fun r e => by cases e)
    -- what a round that goes on leaves
    have hEnd : ∀ (w2 W3 : World) (x : Tok), Below wr.heap.size wr w2 → KpT g (w2.alloc (.cells (Tok.vals x) 96)) W3 → W3.heap[w2.heap.size]? = some (.cells (Tok.vals x) 96 (0, 0)) ∧ W.heap.size ≤ W3.heap.size ∧ W3.heap[Bs]? = W.heap[Bs]? ∧ (∀ b, rowOf W3 g = some b → W.heap.size ≤ b ∧ b < W3.heap.size) := fun w2 W3 x hb12 hk => by
      have hs2 := hb12.size
      have hrw : rowOf (w2.alloc (.cells (Tok.vals x) 96)) g = rowOf wr g := rowOf_eq ((Below.heap_alloc w2 _ g (by omega)).trans (hb12.block g (by omega)))
      obtain ⟨hk1, hk2, hk3⟩ := hk
      simp only [World.size_alloc] at hk1 hk3
      refine ⟨(hk2 _ _ (heap_alloc_new w2 _) rfl (by omega) (fun e => ?_)).trans (heap_alloc_new w2 _), by omega, ?_, fun b hb => ?_⟩
      · rw [hrw] at e
        have := hro _ e
        omega
      · have hB2 : (w2.alloc (.cells (Tok.vals x) 96)).heap[Bs]? = W.heap[Bs]? := (Below.heap_alloc w2 _ Bs (by omega)).trans ((hb12.block Bs hBl).trans hkp)
        refine (hk2 Bs oB (hB2.trans hoB) hoC hBg (fun e => ?_)).trans hB2
        rw [hrw] at e
        have := hro _ e
        omega
      · rcases hk3 b hb with h | h
        · rw [hrw] at h
          have := hro _ h
          omega
        · omega
    cases hts with
    | fin _ k m hF hk hL hS hn4 =>
      have hsub : IntKind.i64.wrap ((T.size : Int) - (S.size : Int)) = (T.size : Int) - S.size := IntWalk.i64_in _ (by omega)
      have hY1 := fun (w2 : World) (hb : Below wr.heap.size wr w2) => hY pre ⟨k, (T.size : Int) - S.size, 0, 0⟩ (w2.alloc (.cells (Tok.vals ⟨k, (T.size : Int) - S.size, 0, 0⟩) 96)) (hSt w2 ⟨k, (T.size : Int) - S.size, 0, 0⟩ hb) (by rw [← hall] at hN; simp at hN; omega)
      have hE1 := fun (w2 W3 : World) (hb : Below wr.heap.size wr w2) => hEnd w2 W3 ⟨k, (T.size : Int) - S.size, 0, 0⟩ hb
      simp only [Tok.vals] at hY1 hE1
      clear hSt hEnd hY hJa
      gi_wp2_with (first
        | (refine ⟨trivial, ?_⟩; gi_at_call 90; refine (callsIn_wide.2 (hL _)).mono ?_; rintro e w1 ⟨rfl, hb1⟩)
        | (refine ⟨trivial, ?_⟩; gi_at_call 91; refine (callsIn_wide.2 (hF _)).mono ?_; rintro e w2 ⟨rfl, hb2⟩; have hb12 := hb1.trans (hb2.mono hb1.size); have hsz2 := hb12.size; have hq := fun o : Obj => (cell_old (i := 0) (show Bs < w2.heap.size by omega) o).trans ((hb12.cell (p := ⟨Bs, 0, none⟩) hBl).trans hBx); obtain ⟨fn, tmps, assign, body, hy, hR⟩ := hY1 w2 hb12))
      refine hR.mono ?_
      rintro e W3 (⟨rfl, hJ3, hk3⟩ | ⟨rfl, hJx3⟩)
      · obtain ⟨hx1, hx2, hx3, hx4⟩ := hE1 w2 W3 hb12 hk3
        obtain ⟨⟨q0, q1, q2, q3⟩, qf⟩ := four' hx1
        clear hE1 hY1
        gi_wp2
        refine bodyPost_ret (results_none rfl _ _ _) rfl ?_
        exact ⟨⟨_, rfl⟩, .inl ⟨_, by rw [← hall], hJ3⟩⟩
      · gi_wp2
        refine bodyPost_ret (results_none rfl _ _ _) rfl ?_
        exact ⟨⟨_, rfl⟩, .inr ⟨_, by rw [← hall]; exact List.prefix_refl _, hJx3⟩⟩
    | more _ S' t m ts' hF hk hL hS hn4 hm0 hm hx hlt hts' =>
      have hsub : IntKind.i64.wrap ((T.size : Int) - (S.size : Int)) = (T.size : Int) - S.size := IntWalk.i64_in _ (by omega)
      have hY1 := fun (w2 : World) (hb : Below wr.heap.size wr w2) => hY pre ⟨t.k, (T.size : Int) - S.size, t.lo, t.hi⟩ (w2.alloc (.cells (Tok.vals ⟨t.k, (T.size : Int) - S.size, t.lo, t.hi⟩) 96)) (hSt w2 ⟨t.k, (T.size : Int) - S.size, t.lo, t.hi⟩ hb) (by rw [← hall] at hN; simp at hN; omega)
      have hE1 := fun (w2 W3 : World) (hb : Below wr.heap.size wr w2) => hEnd w2 W3 ⟨t.k, (T.size : Int) - S.size, t.lo, t.hi⟩ hb
      simp only [Tok.vals] at hY1 hE1
      clear hSt hEnd hY hJa
      have hmz : (m : Int) ≤ S.size := by omega
      gi_wp2_with (first
        | (refine ⟨trivial, ?_⟩; gi_at_call 90; refine (callsIn_wide.2 (hL _)).mono ?_; rintro e w1 ⟨rfl, hb1⟩)
        | (refine ⟨trivial, ?_⟩; gi_at_call 91; refine (callsIn_wide.2 (hF _)).mono ?_; rintro e w2 ⟨rfl, hb2⟩; have hb12 := hb1.trans (hb2.mono hb1.size); have hsz2 := hb12.size; have hq := fun o : Obj => (cell_old (i := 0) (show Bs < w2.heap.size by omega) o).trans ((hb12.cell (p := ⟨Bs, 0, none⟩) hBl).trans hBx); obtain ⟨fn, tmps, assign, body, hy, hR⟩ := hY1 w2 hb12))
      refine hR.mono ?_
      rintro e W3 (⟨rfl, hJ3, hk3⟩ | ⟨rfl, hJx3⟩)
      · obtain ⟨hx1, hx2, hx3, hx4⟩ := hE1 w2 W3 hb12 hk3
        obtain ⟨⟨q0, q1, q2, q3⟩, qf⟩ := four' hx1
        clear hE1 hY1
        gi_wp2
        go_roundw
        case rel => exact ⟨_, ts', S', rfl, hts', by rw [← hall]; simp, hJ3, hx2, hx3, hx4⟩
        case measure => exact hlt
      · gi_wp2
        refine bodyPost_ret (results_none rfl _ _ _) rfl ?_
        exact ⟨⟨_, rfl⟩, .inr ⟨_, ⟨ts', by rw [← hall]; simp⟩, hJx3⟩⟩
end Go.Proofs.YtijcjknaphboeaaGreatDoor
