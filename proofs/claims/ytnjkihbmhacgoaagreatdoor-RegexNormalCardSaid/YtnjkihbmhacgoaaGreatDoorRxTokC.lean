/-
  THE WALKS of tokens and of its closure (a range over a function).
  THE WALK of newParser: all the tokens of a text, in a row.
-/
import Derived.RangeFuncNested
import Derived.RangeFuncBound
import Derived.RangeFuncCalls
import Derived.RangeFuncLeaves
import Derived.RangeFuncBox
import Derived.Shelf.Abstract
import Derived.Shelf.RegionOpen
import Derived.WalkKit
import Derived.OwnWalkIn
import Derived.TacticsInMore
import Derived.LoopNIn
import Derived.LoopIn
import Derived.WalkSpells
import Derived.WalkLawsBesides
import Derived.Test.YtnjkihbmhacgoaaGreatDoorRxTokA
import Derived.RangeFuncFrom
import Derived.RangeFuncWrites
import Derived.OrdersIn
namespace Go.Proofs.YtnjkihbmhacgoaaGreatDoor
open Go.RowKit Go.Shelf
attribute [local go_sem] Oper.semAt_some

def Tok.vals (t : Tok) : Array Value := #[.string t.k, .int .i64 t.at_, .int .u8 t.lo, .int .u8 t.hi]
/-- strings.TrimLeft(s, " ") leaves it as it is -/
def TL (S : ByteArray) : Prop := ∀ w : World, Calls Tryz.prog 82 #[.string S, .string ⟨#[32]⟩] w fun e w' => e = .returned (.string S) ∧ Below w.heap.size w w'
/-- the tokens of the rest of a text of n bytes -/
inductive Toks (n : Nat) : ByteArray → List Tok → Prop
  | fin (S : ByteArray) (k : ByteArray) (m : Nat) : FT S ⟨k, 0, 0, 0⟩ m → (k.toList == []) = true → TL S → S.size ≤ n → n ≤ 4096 → Toks n S [⟨k, (n : Int) - S.size, 0, 0⟩]
  | more (S S' : ByteArray) (t : Tok) (m : Nat) (ts : List Tok) : FT S t m → (t.k.toList == []) = false → TL S → S.size ≤ n → n ≤ 4096 → 0 < m → m ≤ S.size → S.extract m S.size = S' → S'.size < S.size → Toks n S' ts → Toks n S (⟨t.k, (n : Int) - S.size, t.lo, t.hi⟩ :: ts)

/-- the block of the row that block g's first cell points to -/
def rowOf (W : World) (g : Nat) : Option Nat := match W.heap[g]? with
  | some (.cells cs _ _) => (cs[0]?).bind Value.ownBlock
  | _ => none
/-- WHAT A ROUND KEEPS: all cells but those of block g and of its row. -/
def KpT (g : Nat) (W W' : World) : Prop := W.heap.size ≤ W'.heap.size ∧ (∀ b o, W.heap[b]? = some o → o.isCells = true → b ≠ g → rowOf W g ≠ some b → W'.heap[b]? = W.heap[b]?) ∧
  (∀ b, rowOf W' g = some b → rowOf W g = some b ∨ (W.heap.size ≤ b ∧ b < W'.heap.size))
theorem KpT.trans {g : Nat} {A B C : World} (h : KpT g A B) (k : KpT g B C) : KpT g A C := by
  refine ⟨Nat.le_trans h.1 k.1, fun b o hb ho hg hr => ?_, fun b hb => ?_⟩
  · have h1 := h.2.1 b o hb ho hg hr
    have hlt := (Array.getElem?_eq_some_iff.1 hb).1
    refine (k.2.1 b o (h1.trans hb) ho hg (fun e => ?_)).trans h1
    rcases h.2.2 b e with h2 | h2
    · exact hr h2
    · omega
  · rcases k.2.2 b hb with h1 | h1
    · rcases h.2.2 b h1 with h2 | h2
      · exact .inl h2
      · exact .inr ⟨h2.1, Nat.lt_of_lt_of_le h2.2 k.1⟩
    · exact .inr ⟨Nat.le_trans h.1 h1.1, h1.2⟩
theorem rowOf_eq {W W' : World} {g : Nat} (h : W'.heap[g]? = W.heap[g]?) : rowOf W' g = rowOf W g := by unfold rowOf; rw [h]
theorem KpT.put {g n : Nat} (hg : g < n) (W : World) (l : Nat) (o o' : Obj) (hl : n ≤ l) (ho : W.heap[l]? = some o) (hc : o.isCells = false) : KpT g W (W.putObj l o') := by
  have hne : ∀ b, b ≠ l → (W.putObj l o').heap[b]? = W.heap[b]? := fun b hb => World.putObj_heap_other hb
  refine ⟨by simp, fun b o2 hb ho2 _ _ => hne b (fun e => ?_), fun b hb => .inl ?_⟩
  · subst e
    rw [ho] at hb
    cases hb
    rw [hc] at ho2
    cases ho2
  · rw [rowOf_eq (hne g (by omega))] at hb
    exact hb
theorem grown_of_below {W W' : World} (h : Below W.heap.size W W') : W.grownBy W' none := ⟨h.os, h.tape, h.output, h.size, fun k hk _ => h.block k hk⟩

set_option maxRecDepth 100000 in
set_option maxHeartbeats 4000000 in
theorem tok_in (n : Nat) (hn : 1 ≤ n) (l Bs g N : Nat) (T : ByteArray) (all : List Tok) (hT : Toks T.size T all) (J Jx : List Tok → World → Prop) (W : World) (hJa : AbidesFrom W.heap.size J) (hN : all.length ≤ N)
    (hY : ∀ pre x W, J pre W → pre.length < N → YieldAt Fence.wide (n - 1) Tryz.prog l #[.agg (Tok.vals x)] W fun e W' =>
      (e = .returned (.bool true) ∧ J (pre ++ [x]) W' ∧ KpT g W W') ∨ (e = .returned (.bool false) ∧ Jx (pre ++ [x]) W'))
    (hBg : Bs ≠ g) (hgl : g < W.heap.size) (hrow : rowOf W g = none) (hBs : W.cell? ⟨Bs, 0, none⟩ = some (.string T)) (h0 : J [] W) :
    CallsIn Fence.wide n Tryz.prog 81 #[.func (.yield l) #[] #[], .pointer (some ⟨Bs, 0, none⟩)] W fun e W' => (∃ v, e = .returned v) ∧
      ((∃ ys, ys = all ∧ J ys W') ∨ (∃ pre, pre <+: all ∧ Jx pre W')) := by
  have hBl0 : Bs < W.heap.size := World.block_lt_of_cell? _ _ hBs
  obtain ⟨oB, hoB, hoC⟩ : ∃ o, W.heap[Bs]? = some o ∧ o.isCells = true := by
    unfold World.cell? at hBs
    cases hh : W.heap[Bs]? with
    | none => rw [hh] at hBs; simp at hBs
    | some o => cases o with
      | cells cs t fr => exact ⟨_, rfl, rfl⟩
      | _ => rw [hh] at hBs; simp at hBs
  refine callsIn_of_wp Tryz.func81 rfl trivial ?_ rfl
  simp only [Tryz.ntmps81, List.size_toArray, List.length_cons, List.length_nil, Nat.reduceAdd, Nat.reduceSub, Array.replicate_succ, Array.replicate_zero, List.push_toArray, List.append_toArray, List.nil_append, List.cons_append]
  gi_wp2
  gi_loopw [3] (fun i wr => ∃ (pre ts : List Tok) (S : ByteArray), i = .string S ∧ Toks T.size S ts ∧ pre ++ ts = all ∧ J pre wr ∧ W.heap.size ≤ wr.heap.size ∧ wr.heap[Bs]? = W.heap[Bs]? ∧ (∀ b, rowOf wr g = some b → W.heap.size ≤ b ∧ b < wr.heap.size)) (fun i _ => match i with | .string S => S.size | _ => 0)
  case atStart => exact ⟨[], all, T, rfl, hT, rfl, h0, Nat.le_refl _, rfl, fun b hb => by rw [hrow] at hb; cases hb⟩
  case round =>
    obtain ⟨pre, ts, S, rfl, hts, hall, hJs, hsz, hkp, hro⟩ := hrel
    have hBx := (World.cell?_of_block hkp).trans hBs
    have hBl : Bs < wr.heap.size := by omega
    have hSt : ∀ (w2 : World) (x : Tok), Below wr.heap.size wr w2 → J pre (w2.alloc (.cells (Tok.vals x) 88)) := fun w2 x hb12 => hJa _ _ (w2.alloc (.cells (Tok.vals x) 88)) none hJs (grown_of_below (hb12.alloc hb12.size _)) (fun r e => by cases e)
    -- what a round that goes on leaves
    have hEnd : ∀ (w2 W3 : World) (x : Tok), Below wr.heap.size wr w2 → KpT g (w2.alloc (.cells (Tok.vals x) 88)) W3 → W3.heap[w2.heap.size]? = some (.cells (Tok.vals x) 88 (0, 0)) ∧ W.heap.size ≤ W3.heap.size ∧ W3.heap[Bs]? = W.heap[Bs]? ∧ (∀ b, rowOf W3 g = some b → W.heap.size ≤ b ∧ b < W3.heap.size) := fun w2 W3 x hb12 hk => by
      have hs2 := hb12.size
      have hrw : rowOf (w2.alloc (.cells (Tok.vals x) 88)) g = rowOf wr g := rowOf_eq ((Below.heap_alloc w2 _ g (by omega)).trans (hb12.block g (by omega)))
      obtain ⟨hk1, hk2, hk3⟩ := hk
      simp only [World.size_alloc] at hk1 hk3
      refine ⟨(hk2 _ _ (heap_alloc_new w2 _) rfl (by omega) (fun e => ?_)).trans (heap_alloc_new w2 _), by omega, ?_, fun b hb => ?_⟩
      · rw [hrw] at e
        have := hro _ e
        omega
      · have hB2 : (w2.alloc (.cells (Tok.vals x) 88)).heap[Bs]? = W.heap[Bs]? := (Below.heap_alloc w2 _ Bs (by omega)).trans ((hb12.block Bs hBl).trans hkp)
        refine (hk2 Bs oB (hB2.trans hoB) hoC hBg (fun e => ?_)).trans hB2
        rw [hrw] at e
        have := hro _ e
        omega
      · rcases hk3 b hb with h | h
        · rw [hrw] at h
          have := hro _ h
          omega
        · omega
    cases hts with
    | fin _ k m hF hk hL hS hn4 =>
      have hsub : IntKind.i64.wrap ((T.size : Int) - (S.size : Int)) = (T.size : Int) - S.size := IntWalk.i64_in _ (by omega)
      have hY1 := fun (w2 : World) (hb : Below wr.heap.size wr w2) => hY pre ⟨k, (T.size : Int) - S.size, 0, 0⟩ (w2.alloc (.cells (Tok.vals ⟨k, (T.size : Int) - S.size, 0, 0⟩) 88)) (hSt w2 ⟨k, (T.size : Int) - S.size, 0, 0⟩ hb) (by rw [← hall] at hN; simp at hN; omega)
      have hE1 := fun (w2 W3 : World) (hb : Below wr.heap.size wr w2) => hEnd w2 W3 ⟨k, (T.size : Int) - S.size, 0, 0⟩ hb
      simp only [Tok.vals] at hY1 hE1
      clear hSt hEnd hY hJa
      gi_wp2_with (first
        | (refine ⟨trivial, ?_⟩; gi_at_call 82; refine (callsIn_wide.2 (hL _)).mono ?_; rintro e w1 ⟨rfl, hb1⟩)
        | (refine ⟨trivial, ?_⟩; gi_at_call 83; refine (callsIn_wide.2 (hF _)).mono ?_; rintro e w2 ⟨rfl, hb2⟩; have hb12 := hb1.trans (hb2.mono hb1.size); have hsz2 := hb12.size; have hq := fun o : Obj => (cell_old (i := 0) (show Bs < w2.heap.size by omega) o).trans ((hb12.cell (p := ⟨Bs, 0, none⟩) hBl).trans hBx); obtain ⟨fn, tmps, assign, body, hy, hR⟩ := hY1 w2 hb12))
      refine hR.mono ?_
      rintro e W3 (⟨rfl, hJ3, hk3⟩ | ⟨rfl, hJx3⟩)
      · obtain ⟨hx1, hx2, hx3, hx4⟩ := hE1 w2 W3 hb12 hk3
        obtain ⟨⟨q0, q1, q2, q3⟩, qf⟩ := four' hx1
        clear hE1 hY1
        gi_wp2
        refine bodyPost_ret (results_none rfl _ _ _) rfl ?_
        exact ⟨⟨_, rfl⟩, .inl ⟨_, by rw [← hall], hJ3⟩⟩
      · gi_wp2
        refine bodyPost_ret (results_none rfl _ _ _) rfl ?_
        exact ⟨⟨_, rfl⟩, .inr ⟨_, by rw [← hall]; exact List.prefix_refl _, hJx3⟩⟩
    | more _ S' t m ts' hF hk hL hS hn4 hm0 hm hx hlt hts' =>
      have hsub : IntKind.i64.wrap ((T.size : Int) - (S.size : Int)) = (T.size : Int) - S.size := IntWalk.i64_in _ (by omega)
      have hY1 := fun (w2 : World) (hb : Below wr.heap.size wr w2) => hY pre ⟨t.k, (T.size : Int) - S.size, t.lo, t.hi⟩ (w2.alloc (.cells (Tok.vals ⟨t.k, (T.size : Int) - S.size, t.lo, t.hi⟩) 88)) (hSt w2 ⟨t.k, (T.size : Int) - S.size, t.lo, t.hi⟩ hb) (by rw [← hall] at hN; simp at hN; omega)
      have hE1 := fun (w2 W3 : World) (hb : Below wr.heap.size wr w2) => hEnd w2 W3 ⟨t.k, (T.size : Int) - S.size, t.lo, t.hi⟩ hb
      simp only [Tok.vals] at hY1 hE1
      clear hSt hEnd hY hJa
      have hmz : (m : Int) ≤ S.size := by omega
      gi_wp2_with (first
        | (refine ⟨trivial, ?_⟩; gi_at_call 82; refine (callsIn_wide.2 (hL _)).mono ?_; rintro e w1 ⟨rfl, hb1⟩)
        | (refine ⟨trivial, ?_⟩; gi_at_call 83; refine (callsIn_wide.2 (hF _)).mono ?_; rintro e w2 ⟨rfl, hb2⟩; have hb12 := hb1.trans (hb2.mono hb1.size); have hsz2 := hb12.size; have hq := fun o : Obj => (cell_old (i := 0) (show Bs < w2.heap.size by omega) o).trans ((hb12.cell (p := ⟨Bs, 0, none⟩) hBl).trans hBx); obtain ⟨fn, tmps, assign, body, hy, hR⟩ := hY1 w2 hb12))
      refine hR.mono ?_
      rintro e W3 (⟨rfl, hJ3, hk3⟩ | ⟨rfl, hJx3⟩)
      · obtain ⟨hx1, hx2, hx3, hx4⟩ := hE1 w2 W3 hb12 hk3
        obtain ⟨⟨q0, q1, q2, q3⟩, qf⟩ := four' hx1
        clear hE1 hY1
        gi_wp2
        go_roundw
        case rel => exact ⟨_, ts', S', rfl, hts', by rw [← hall]; simp, hJ3, hx2, hx3, hx4⟩
        case measure => exact hlt
      · gi_wp2
        refine bodyPost_ret (results_none rfl _ _ _) rfl ?_
        exact ⟨⟨_, rfl⟩, .inr ⟨_, ⟨ts', by rw [← hall]; simp⟩, hJx3⟩⟩
end Go.Proofs.YtnjkihbmhacgoaaGreatDoor

namespace Go.Proofs.YtnjkihbmhacgoaaGreatDoor
open Go.RowKit Go.Shelf
attribute [local go_sem] Oper.semAt_some

theorem info_token : (Tryz.prog.info? 88).map (fun i => (i.zero, i.size, i.bytes)) = some (some (.agg #[.string ⟨#[]⟩, .int .i64 0, .int .u8 0, .int .u8 0]), 4, 32) := by kernel_rfl

set_option maxHeartbeats 1000000 in
theorem tokens_any (T : ByteArray) (w : World) :
    Calls Tryz.prog 72 #[.string T] w fun e w' => e = .returned (.func (.func 81) #[] #[.pointer (some ⟨w.heap.size, 0, none⟩)]) ∧ w.alloc (.cells #[.string T] 9) = w' := by
  go_enter Tryz.func72, Tryz.ntmps72
  have hmf : ∀ (fn : Fn) (first cap : Array Value) (w : World), (Instr.makeFunc fn first cap).run Tryz.prog w = .ok (.func fn first cap) w := fun _ _ _ _ => rfl
  go_wp2
  go_ret
  exact ⟨rfl, rfl⟩

theorem tok_stops (n : Nat) (hn : 1 ≤ n) (Bs g : Nat) (T : ByteArray) (all : List Tok) (hT : Toks T.size T all) (w : World) (hB : Bs < w.heap.size) (hgl : g < w.heap.size) (hBg : Bs ≠ g) (hrow : rowOf w g = none) (hBs : w.cell? ⟨Bs, 0, none⟩ = some (.string T)) :
    SeqStopsK Fence.wide n Tryz.prog 81 #[.pointer (some ⟨Bs, 0, none⟩)] (fun x : Tok => #[.agg (Tok.vals x)]) (KpT g) (fun ys => ys = all) (fun pre => pre <+: all) all.length w := fun l J Jx W hW hJa _ hY h0 =>
  tok_in n hn l Bs g all.length T all hT J Jx W hJa (Nat.le_refl _) hY hBg (Nat.lt_of_lt_of_le hgl hW.size) (by rw [rowOf_eq (hW.block g hgl)]; exact hrow) ((hW.cell (p := ⟨Bs, 0, none⟩) hB).trans hBs) h0

/-- the cells of tokens -/
def Tok.cells (t : Tok) : List Value := (Tok.vals t).toList
/-- what lies between two rounds: the parser (block g), its row, the variable that points to it, the box of the text -/
def TokI (n₀ g : Nat) (W : World) (pre : List Tok) (v : Value) : Prop :=
  W.heap[g]? = some (.cells #[v, .bool false] 91 (0, 0)) ∧ W.ownsRow n₀ 88 4 v pre.length (pre.flatMap Tok.cells)

theorem toks_len {n : Nat} {S : ByteArray} {ts : List Tok} (h : Toks n S ts) : ts.length ≤ S.size + 1 ∧ n ≤ 4096 ∧ S.size ≤ n := by
  induction h with
  | fin S k m _ _ _ h1 h2 => exact ⟨by simp, h2, h1⟩
  | more S S' t m ts _ _ _ h1 h2 _ _ _ h3 _ ih => exact ⟨by simp only [List.length_cons]; omega, h2, h1⟩
theorem tok_one (t : Tok) : ∀ u ∈ Tok.cells t, u.oneCell' = true := fun u hu => by
  simp only [Tok.cells, Tok.vals, List.mem_cons, List.not_mem_nil, or_false] at hu
  rcases hu with rfl | rfl | rfl | rfl <;> rfl
theorem stepIn_append_lies {F : Fence} {n : Nat} {P : Program} (w : World) {ops : Array Oper} {o : Oper} {a : Act} {K : Act → World → Prop} {Q : Exit → Act → World → Prop} {E : Prop} (hgd : o.guard = none) (s x : Operand) (t : TypeId)
    (ho : o.op = .call { callee := .builtin .append, args := #[s, x], argTypes := #[t, t] })
    (base : Nat) (e : TypeId) (i : TypeInfo) (z : Value) (size bytes : Nat) (ht : P.underlying t = some (.slice e)) (hi : P.info? e = some i) (hz : i.zero = some z)
    (hsize : i.size = size) (hby : i.bytes = bytes) (hzs : z.cells.size = size) (hsz : 0 < size)
    (v : Value) (k : Nat) (xs : List Value) (hs : a.eval s = v) (hown : w.ownsRow base e size v k xs)
    (ad : Addr) (m c : Nat) (news : List Value) (hx : a.eval x = .slice (some ad) m c) (hl : news.length = m * size) (hnews : ∀ j u, news[j]? = some u → w.cell? (ad.add j) = some u) (h1 : ∀ u ∈ news, u.oneCell' = true)
    (hm : 0 < m) (h63 : k + m ≤ maxLen) (hbytes : (k + m) * bytes ≤ 140737488355328) (hbase : base ≤ w.heap.size) (H : Nat) (hH : w.heap.size = H)
    (h : ∀ g cap w', w'.ownsRow base e size (.slice (some ⟨g, 0, none⟩) (k + m) cap) (k + m) (xs ++ news) → w.grownBy w' v.ownBlock → (v.ownBlock = some g ∨ g = H) → g < w'.heap.size → K (a.put o.dst (.slice (some ⟨g, 0, none⟩) (k + m) cap)) w') :
    if Region.wanted o (yielded ops a.tmps) = true then Oper.wpIn F n P o a w K Q else E := by
  have hw : Region.wanted o (yielded ops a.tmps) = true := by simp [Region.wanted, hgd]
  rw [if_pos hw]
  obtain ⟨g, cap, w', hrun, h2, h3, h4, h5⟩ := run_append_lies (P := P) w t o.type base e i z size bytes ht hi hz hsize hby hzs hsz v k xs hown ad m c news hl hnews h1 hm h63 hbytes hbase H hH
  unfold Oper.wpIn
  refine ⟨?_, ?_⟩
  · simp [Oper.about, ho, resolve, Target.leads, Sem.run_pure]
  · rw [Oper.semAt_plain F _ _ (by rw [ho]; intro c hc'; cases hc')]
    simp [execOp, ho, resolve, invoke, builtin, hs, hx, hrun, Result.andThen]
    exact h g cap w' h2 h3 h4 h5
theorem dp_intro {F : Fence} {n : Nat} {P : Program} {md : Region.Mode} {ops : Array Oper} {Q : Exit → Act → World → Prop} {f0 : Nat} {l0 : Array Bool} {a0 : Act} {w0 : World}
    (H : ∀ R : Nat → Array Bool → Act → World → Prop, R = wpAnyIn F n P md ops Q → R f0 l0 a0 w0) : wpAnyIn F n P md ops Q f0 l0 a0 w0 := H _ rfl

set_option maxRecDepth 100000 in
set_option maxHeartbeats 4000000 in
theorem newParser_any (T : ByteArray) (all : List Tok) (hT : Toks T.size T all) (w : World) :
    Calls Tryz.prog 52 #[.string T] w fun e w' => ∃ v, e = .returned (.pointer (some ⟨w.heap.size, 0, none⟩)) ∧ TokI (w.heap.size + 3) w.heap.size w' all v ∧ Below w.heap.size w w' := by
  obtain ⟨i0, hi, hz0, hz1, hz2⟩ := info_parts info_token
  refine (callsIn_wide (n := 3)).1 ?_
  refine callsIn_of_wp_marks Tryz.func52 rfl trivial ?_ rfl
  simp only [Tryz.ntmps52, List.size_toArray, List.length_cons, List.length_nil, Nat.reduceAdd, Nat.reduceSub, Array.replicate_succ, Array.replicate_zero, List.push_toArray, List.append_toArray, List.nil_append, List.cons_append]
  gi_wp2_with (refine ⟨trivial, ?_⟩; gi_at_call 72; refine (callsIn_wide.2 (tokens_any _ _)).mono ?_; rintro e w' ⟨rfl, rfl⟩)
  have hp0 : ∀ W, W = (((w.alloc (.cells #[.slice none 0 0, .bool false] 91)).alloc (.cells #[.pointer (some ⟨w.heap.size, 0, none⟩)] 84)).alloc (.cells #[.string T] 9)) → W.heap[w.heap.size]? = some (.cells #[.slice none 0 0, .bool false] 91 (0, 0)) ∧ W.heap[w.heap.size + 1]? = some (.cells #[.pointer (some ⟨w.heap.size, 0, none⟩)] 84 (0, 0)) ∧ W.heap[w.heap.size + 1 + 1]? = some (.cells #[.string T] 9 (0, 0)) ∧ W.heap.size = w.heap.size + 3 ∧ Below w.heap.size w W := fun W hW => by
    subst hW
    exact ⟨(heap_alloc_old _ _ _ (by simp; omega)).trans ((heap_alloc_old _ _ _ (by simp)).trans (heap_alloc_new w _)), (heap_alloc_old _ _ _ (by simp)).trans (heap_alloc_new_at _ _ (by simp)), heap_alloc_new_at _ _ (by simp), by simp, below_alloc3 (Below.refl _ _) (Nat.le_refl _) _ _ _⟩
  obtain ⟨W0, hW0⟩ : ∃ W0, (((w.alloc (.cells #[.slice none 0 0, .bool false] 91)).alloc (.cells #[.pointer (some ⟨w.heap.size, 0, none⟩)] 84)).alloc (.cells #[.string T] 9)) = W0 := ⟨_, rfl⟩
  obtain ⟨hx0, hx1, hx2, hz, hB0⟩ := hp0 W0 hW0.symm
  rw [hW0]
  clear hp0 hW0
  have hro : rowOf W0 w.heap.size = none := by unfold rowOf; rw [hx0]; rfl
  refine wpIn_rangeFunc_ownH rfl (by decide) (gf := 81) (lb := #[.pointer (some ⟨w.heap.size + 1 + 1, 0, none⟩)]) rfl trivial (enters_of Tryz.func81 (by kernel_rfl) rfl)
    (tok_stops 2 (by decide) (w.heap.size + 1 + 1) w.heap.size T all hT W0 (by omega) (by omega) (by omega) hro (by rw [cell_of_row _ _ 0 _ _ _ hx2]; rfl))
    KpT.trans (fun W l o o' hl ho hc _ => KpT.put (n := W0.heap.size) (by omega) W l o o' hl ho hc) (Below.refl _ _) (fun _ => rfl)
    (fun pre W => (∃ v, TokI (w.heap.size + 3) w.heap.size W pre v) ∧ W.heap[w.heap.size + 1]? = some (.cells #[.pointer (some ⟨w.heap.size, 0, none⟩)] 84 (0, 0)) ∧ Below w.heap.size w W ∧ w.heap.size + 3 ≤ W.heap.size)
    (fun _ _ _ => False)
    (by
      rintro pre W W' row ⟨⟨v, ha, hb⟩, hc, hd, he⟩ hg hr
      have hk : ∀ (b : Nat) (o : Obj), W.heap[b]? = some o → o.isCells = true → W'.heap[b]? = W.heap[b]? := fun b o hbo hoc => hg.block b (Array.getElem?_eq_some_iff.1 hbo).1 (fun e => by
        obtain ⟨_, o2, h2, h3⟩ := hr b e.symm
        rw [hbo] at h2; cases h2; rw [hoc] at h3; cases h3)
      refine ⟨⟨v, (hk _ _ ha rfl).trans ha, ?_⟩, (hk _ _ hc rfl).trans hc, hd.grown hg (Nat.le_trans (by omega) he) (fun k ek => by have := (hr k ek).1; omega), Nat.le_trans he hg.size⟩
      refine ⟨hb.1, ?_⟩
      rcases hb.2 with h0 | ⟨g, cap, cur, hv, hbg, hgg, hrest⟩
      · exact .inl h0
      · exact .inr ⟨g, cap, cur, hv, hbg, (hk _ _ hgg rfl).trans hgg, hrest⟩)
    (fun _ _ _ _ _ hs _ _ => hs)
    ⟨⟨.slice none 0 0, hx0, World.ownsRow_nil _ _ _ _⟩, hx1, hB0, by omega⟩
    (fun x a' W => ∃ Bx, W.heap[Bx]? = some (.cells (Tok.vals x) 88 (0, 0)) ∧ a' = { tmps := #[.string T, undef, .pointer none, .pointer (some ⟨w.heap.size + 1, 0, none⟩), .pointer (some ⟨Bx, 0, none⟩), .agg #[.slice none 0 0, .bool false], .pointer (some ⟨w.heap.size, 0, none⟩), .string T, .func (.func 81) #[] #[.pointer (some ⟨w.heap.size + 1 + 1, 0, none⟩)], .agg (Tok.vals x), undef, undef, undef, undef, undef, undef, undef, undef, undef, undef, undef], defers := [] })
    (by
      rintro x a' s W W' row ⟨Bx, hb, ea⟩ hg hr
      exact ⟨Bx, (hg.block Bx (Array.getElem?_eq_some_iff.1 hb).1 (fun e => by
        obtain ⟨_, o2, h2, h3⟩ := hr Bx e.symm
        rw [hb] at h2; cases h2; cases h3)).trans hb, ea⟩) ?assign ?body ?done ?stop
  case assign =>
    rintro l pre x W K ⟨⟨v, ha, hb⟩, hc, hd, he⟩ hK
    unfold Tok.vals at hK ⊢
    gi_wp2
    have hlt := (Array.getElem?_eq_some_iff.1 ha).1
    have hko := KeepsOthers.alloc W (.cells #[.string x.k, .int .i64 x.at_, .int .u8 x.lo, .int .u8 x.hi] 88)
    refine hK _ _ (hko.from _) ⟨by simp, fun b o hb' _ _ _ => Below.heap_alloc W _ b (Array.getElem?_eq_some_iff.1 hb').1, fun b hb' => .inl (by rwa [rowOf_eq (Below.heap_alloc W _ _ hlt)] at hb')⟩ ⟨⟨v, (Below.heap_alloc W _ _ hlt).trans ha, hb.alloc _⟩, (Below.heap_alloc W _ _ (by omega)).trans hc, hd.alloc (by omega) _, by simp; omega⟩ ⟨W.heap.size, heap_alloc_new W _, rfl⟩
  case body =>
    rintro l pre x a' W hl ⟨r, hr⟩ ⟨⟨v, ha, hb⟩, hc, hd, he⟩ ⟨Bx, hX, rfl⟩ hlt
    obtain ⟨p0, p1, f0, f1⟩ := two ha
    have hcp : W.cell? ⟨w.heap.size + 1, 0, none⟩ = some (.pointer (some ⟨w.heap.size, 0, none⟩)) := by rw [cell_of_row _ _ 0 _ _ _ hc]; rfl
    obtain ⟨t0, t1, t2, t3⟩ := four (show W.heap[Bx]? = some (.cells #[.string x.k, .int .i64 x.at_, .int .u8 x.lo, .int .u8 x.hi] 88 (0, 0)) from hX)
    have hXl := (Array.getElem?_eq_some_iff.1 hX).1
    unfold Tok.vals
    gi_wp2
    refine wpIn_region_any (by kernel_rfl) ?_
    change wpAnyIn _ _ _ _ _ _ _ _ _ W.drew
    refine dp_intro ?_
    intro R hR
    have hlen := toks_len hT
    have d1 := fun o : Obj => (cell_old (w := W) (i := 0) (show w.heap.size + 1 < W.heap.size by omega) o).trans hcp
    have d2 := fun o : Obj => (cell_old (w := W) (i := 0) (show w.heap.size < W.heap.size by omega) o).trans p0
    have hfin : ∀ (g' cap' : Nat) (w5 : World), w5.ownsRow (w.heap.size + 3) 88 4 (.slice (some ⟨g', 0, none⟩) (pre.length + 1) cap') (pre.length + 1) (pre.flatMap Tok.cells ++ Tok.cells x) → (W.drew.alloc (.cells #[.string x.k, .int .i64 x.at_, .int .u8 x.lo, .int .u8 x.hi] 88)).grownBy w5 v.ownBlock → (v.ownBlock = some g' ∨ g' = W.heap.size + 1) → g' < w5.heap.size →
        w5.cell? ⟨w.heap.size + 1, 0, none⟩ = some (.pointer (some ⟨w.heap.size, 0, none⟩)) ∧ w5.cell? ⟨w.heap.size, 0, none⟩ = some v ∧ w5.frozen? ⟨w.heap.size, 0, none⟩ = false ∧ KeepsFrom W0.heap.size W (w5.setCell ⟨w.heap.size, 0, none⟩ (.slice (some ⟨g', 0, none⟩) (pre.length + 1) cap')) ∧ KpT w.heap.size W (w5.setCell ⟨w.heap.size, 0, none⟩ (.slice (some ⟨g', 0, none⟩) (pre.length + 1) cap')) ∧
        ((∃ v, TokI (w.heap.size + 3) w.heap.size (w5.setCell ⟨w.heap.size, 0, none⟩ (.slice (some ⟨g', 0, none⟩) (pre.length + 1) cap')) (pre ++ [x]) v) ∧ (w5.setCell ⟨w.heap.size, 0, none⟩ (.slice (some ⟨g', 0, none⟩) (pre.length + 1) cap')).heap[w.heap.size + 1]? = some (.cells #[.pointer (some ⟨w.heap.size, 0, none⟩)] 84 (0, 0)) ∧ Below w.heap.size w (w5.setCell ⟨w.heap.size, 0, none⟩ (.slice (some ⟨g', 0, none⟩) (pre.length + 1) cap')) ∧ w.heap.size + 3 ≤ (w5.setCell ⟨w.heap.size, 0, none⟩ (.slice (some ⟨g', 0, none⟩) (pre.length + 1) cap')).heap.size) := by
      intro g' cap' w5 hown5 hgrow5 hat5 hlt5
      have hrb : ∀ j, v.ownBlock = some j → w.heap.size + 3 ≤ j ∧ j < W.heap.size := fun j e => own_blk_lt hb e.symm
      have hs5 := hgrow5.size
      simp at hs5
      have hblk : ∀ b, b < W.heap.size → v.ownBlock ≠ some b → w5.heap[b]? = W.heap[b]? := fun b hb1 hb2 => (hgrow5.block b (by simp; omega) (fun e => hb2 e.symm)).trans (Below.heap_alloc W.drew _ b hb1)
      have hN : ∀ b, b < w.heap.size + 3 → w5.heap[b]? = W.heap[b]? := fun b hb1 => hblk b (by omega) (fun e => by have := hrb b e; omega)
      have hg5 := (hN w.heap.size (by omega)).trans ha
      have hset : ∀ b, b ≠ w.heap.size → (w5.setCell ⟨w.heap.size, 0, none⟩ (.slice (some ⟨g', 0, none⟩) (pre.length + 1) cap')).heap[b]? = w5.heap[b]? := fun b hb1 => Below.heap_setCell _ _ _ b (by simpa using hb1)
      have hgn : (w5.setCell ⟨w.heap.size, 0, none⟩ (.slice (some ⟨g', 0, none⟩) (pre.length + 1) cap')).heap[w.heap.size]? = some (.cells #[.slice (some ⟨g', 0, none⟩) (pre.length + 1) cap', .bool false] 91 (0, 0)) := by rw [blk_set hg5]; rfl
      have hsz5 : (w5.setCell ⟨w.heap.size, 0, none⟩ (.slice (some ⟨g', 0, none⟩) (pre.length + 1) cap')).heap.size = w5.heap.size := by simp [World.setCell]
      have hrW : rowOf W w.heap.size = v.ownBlock := by unfold rowOf; rw [ha]; rfl
      obtain ⟨q0, q1, qf0, qf1⟩ := two hg5
      refine ⟨(World.cell?_of_block (hN (w.heap.size + 1) (by omega))).trans hcp, q0, qf0, ?_, ⟨by rw [hsz5]; omega, fun b o hbo _ hbg hbr => ?_, fun b hb' => ?_⟩, ⟨⟨_, hgn, ?_⟩, ?_, ?_, by rw [hsz5]; omega⟩⟩
      · refine ⟨by rw [hsz5]; omega, fun k o hk hko ho => ?_⟩
        have hkl := (Array.getElem?_eq_some_iff.1 hko).1
        refine ((hset k (by omega)).trans (hblk k hkl (fun e => ?_))).trans hko
        rcases hb.2 with ⟨hv, _⟩ | ⟨g2, cap2, cur2, hv, _, hg2, _⟩
        · rw [hv] at e; cases e
        · rw [hv] at e
          simp only [Value.ownBlock, Option.some.injEq] at e
          subst e
          rw [hg2] at hko
          cases hko
          cases ho
      · have hbl := (Array.getElem?_eq_some_iff.1 hbo).1
        exact (hset b hbg).trans (hblk b hbl (by rw [← hrW]; exact hbr))
      · have : rowOf (w5.setCell ⟨w.heap.size, 0, none⟩ (.slice (some ⟨g', 0, none⟩) (pre.length + 1) cap')) w.heap.size = some g' := by unfold rowOf; rw [hgn]; rfl
        rw [this] at hb'
        cases hb'
        rw [hrW, hsz5]
        rcases hat5 with h | h
        · exact .inl h
        · exact .inr ⟨by omega, hlt5⟩
      · have h7 := own_kept (w' := w5.setCell ⟨w.heap.size, 0, none⟩ (.slice (some ⟨g', 0, none⟩) (pre.length + 1) cap')) hown5 (fun b hb1 _ => hset b (by omega))
        simpa [List.flatMap_append] using h7
      · exact (hset _ (by omega)).trans ((hN _ (by omega)).trans hc)
      · exact ⟨hgrow5.os.trans hd.os, hgrow5.tape.trans hd.tape, hgrow5.output.trans hd.output, by rw [hsz5]; have := hd.size; omega, fun k hk => (hset k (by omega)).trans ((hN k (by omega)).trans (hd.block k hk))⟩
    -- @gen
    have H_142 : R 4 #[true, true, true, true, true, true, true, false, false, false, false] { tmps := #[.string T, undef, .pointer none, .pointer (some ⟨w.heap.size + 1, 0, none⟩), .pointer (some ⟨Bx, 0, none⟩), .agg #[.slice none 0 0, .bool false], .pointer (some ⟨w.heap.size, 0, none⟩), .string T, .func (.func 81) #[] #[.pointer (some ⟨w.heap.size + 1 + 1, 0, none⟩)], .agg #[.string x.k, .int .i64 x.at_, .int .u8 x.lo, .int .u8 x.hi], .pointer (some ⟨w.heap.size, 0, none⟩), .pointer (some ⟨w.heap.size, 0, none⟩), .pointer (some ⟨w.heap.size, 0, none⟩), .pointer (some ⟨w.heap.size, 0, none⟩), v, .agg #[.string x.k, .int .i64 x.at_, .int .u8 x.lo, .int .u8 x.hi], .slice (some ⟨W.heap.size, 0, none⟩) 1 1, undef, undef, undef, undef], defers := [] } (W.drew.alloc (.cells #[.string x.k, .int .i64 x.at_, .int .u8 x.lo, .int .u8 x.hi] 88)) := by
      rw [hR]
      refine wpAnyIn_ready (rs := [7]) (by kernel_rfl) (by simp) ?_
      refine AllReadyIn.cons rfl (fun K hK => ?_) AllReadyIn.nil
      refine stepIn_append_lies _ rfl _ _ _ rfl (w.heap.size + 3) 88 i0 (.agg #[.string ⟨#[]⟩, .int .i64 0, .int .u8 0, .int .u8 0]) 4 32 Tryz.underlying89 hi hz0 hz1 hz2 rfl (by decide) v pre.length (pre.flatMap Tok.cells) rfl (hb.drew.alloc _) ⟨W.heap.size, 0, none⟩ 1 1 (Tok.cells x) rfl rfl (World.news_of_block (cs := Tok.vals x) (t := 88) (fr := (0, 0)) (heap_alloc_new W.drew _)) (tok_one x) (by decide) (by unfold maxLen; omega) (by omega) (by simp; omega) (W.heap.size + 1) (by simp) ?_
      intro g' cap' w5 hown5 hgrow5 hat5 hlt5
      obtain ⟨e3, e0, e1, e2⟩ := hfin g' cap' w5 hown5 hgrow5 hat5 hlt5
      refine hK _ _ ?_
      refine wpAnyIn_ready (rs := [8]) (by kernel_rfl) (by simp) ?_
      refine AllReadyIn.cons rfl (fun K hK => ?_) AllReadyIn.nil
      go_simp
      refine hK _ _ ?_
      refine wpAnyIn_ready (rs := [9]) (by kernel_rfl) (by simp) ?_
      refine AllReadyIn.cons rfl (fun K hK => ?_) AllReadyIn.nil
      go_simp
      refine hK _ _ ?_
      refine wpAnyIn_ready (rs := [10]) (by kernel_rfl) (by simp) ?_
      refine AllReadyIn.cons rfl (fun K hK => ?_) AllReadyIn.nil
      go_simp
      refine hK _ _ ?_
      refine wpAnyIn_done (by kernel_rfl) ?_ _
      exact e2
    have H_141 : R 5 #[true, true, true, true, true, true, false, false, false, false, false] { tmps := #[.string T, undef, .pointer none, .pointer (some ⟨w.heap.size + 1, 0, none⟩), .pointer (some ⟨Bx, 0, none⟩), .agg #[.slice none 0 0, .bool false], .pointer (some ⟨w.heap.size, 0, none⟩), .string T, .func (.func 81) #[] #[.pointer (some ⟨w.heap.size + 1 + 1, 0, none⟩)], .agg #[.string x.k, .int .i64 x.at_, .int .u8 x.lo, .int .u8 x.hi], .pointer (some ⟨w.heap.size, 0, none⟩), .pointer (some ⟨w.heap.size, 0, none⟩), .pointer (some ⟨w.heap.size, 0, none⟩), .pointer (some ⟨w.heap.size, 0, none⟩), v, .agg #[.string x.k, .int .i64 x.at_, .int .u8 x.lo, .int .u8 x.hi], undef, undef, undef, undef, undef], defers := [] } W.drew := by
      rw [hR]
      refine wpAnyIn_ready (rs := [6]) (by kernel_rfl) (by simp) ?_
      refine AllReadyIn.cons rfl (fun K hK => ?_) ?_
      · go_simp; refine hK _ _ ?_; rw [← hR]; exact H_142
      exact AllReadyIn.nil
    have H_132 : R 5 #[true, true, true, true, false, true, true, false, false, false, false] { tmps := #[.string T, undef, .pointer none, .pointer (some ⟨w.heap.size + 1, 0, none⟩), .pointer (some ⟨Bx, 0, none⟩), .agg #[.slice none 0 0, .bool false], .pointer (some ⟨w.heap.size, 0, none⟩), .string T, .func (.func 81) #[] #[.pointer (some ⟨w.heap.size + 1 + 1, 0, none⟩)], .agg #[.string x.k, .int .i64 x.at_, .int .u8 x.lo, .int .u8 x.hi], .pointer (some ⟨w.heap.size, 0, none⟩), .pointer (some ⟨w.heap.size, 0, none⟩), .pointer (some ⟨w.heap.size, 0, none⟩), .pointer (some ⟨w.heap.size, 0, none⟩), undef, .agg #[.string x.k, .int .i64 x.at_, .int .u8 x.lo, .int .u8 x.hi], .slice (some ⟨W.heap.size, 0, none⟩) 1 1, undef, undef, undef, undef], defers := [] } (W.drew.alloc (.cells #[.string x.k, .int .i64 x.at_, .int .u8 x.lo, .int .u8 x.hi] 88)) := by
      rw [hR]
      refine wpAnyIn_ready (rs := [4]) (by kernel_rfl) (by simp) ?_
      refine AllReadyIn.cons rfl (fun K hK => ?_) ?_
      · go_simp; refine hK _ _ ?_; rw [← hR]; exact H_142
      exact AllReadyIn.nil
    have H_042 : R 5 #[false, true, true, true, true, true, true, false, false, false, false] { tmps := #[.string T, undef, .pointer none, .pointer (some ⟨w.heap.size + 1, 0, none⟩), .pointer (some ⟨Bx, 0, none⟩), .agg #[.slice none 0 0, .bool false], .pointer (some ⟨w.heap.size, 0, none⟩), .string T, .func (.func 81) #[] #[.pointer (some ⟨w.heap.size + 1 + 1, 0, none⟩)], .agg #[.string x.k, .int .i64 x.at_, .int .u8 x.lo, .int .u8 x.hi], undef, .pointer (some ⟨w.heap.size, 0, none⟩), .pointer (some ⟨w.heap.size, 0, none⟩), .pointer (some ⟨w.heap.size, 0, none⟩), v, .agg #[.string x.k, .int .i64 x.at_, .int .u8 x.lo, .int .u8 x.hi], .slice (some ⟨W.heap.size, 0, none⟩) 1 1, undef, undef, undef, undef], defers := [] } (W.drew.alloc (.cells #[.string x.k, .int .i64 x.at_, .int .u8 x.lo, .int .u8 x.hi] 88)) := by
      rw [hR]
      refine wpAnyIn_ready (rs := [0, 7]) (by kernel_rfl) (by simp) ?_
      refine AllReadyIn.cons rfl (fun K hK => ?_) ?_
      · go_simp; refine hK _ _ ?_; rw [← hR]; exact H_142
      refine AllReadyIn.cons rfl (fun K hK => ?_) AllReadyIn.nil
      refine stepIn_append_lies _ rfl _ _ _ rfl (w.heap.size + 3) 88 i0 (.agg #[.string ⟨#[]⟩, .int .i64 0, .int .u8 0, .int .u8 0]) 4 32 Tryz.underlying89 hi hz0 hz1 hz2 rfl (by decide) v pre.length (pre.flatMap Tok.cells) rfl (hb.drew.alloc _) ⟨W.heap.size, 0, none⟩ 1 1 (Tok.cells x) rfl rfl (World.news_of_block (cs := Tok.vals x) (t := 88) (fr := (0, 0)) (heap_alloc_new W.drew _)) (tok_one x) (by decide) (by unfold maxLen; omega) (by omega) (by simp; omega) (W.heap.size + 1) (by simp) ?_
      intro g' cap' w5 hown5 hgrow5 hat5 hlt5
      obtain ⟨e3, e0, e1, e2⟩ := hfin g' cap' w5 hown5 hgrow5 hat5 hlt5
      refine hK _ _ ?_
      refine wpAnyIn_ready (rs := [0]) (by kernel_rfl) (by simp) ?_
      refine AllReadyIn.cons rfl (fun K hK => ?_) AllReadyIn.nil
      go_simp
      refine hK _ _ ?_
      refine wpAnyIn_ready (rs := [8]) (by kernel_rfl) (by simp) ?_
      refine AllReadyIn.cons rfl (fun K hK => ?_) AllReadyIn.nil
      go_simp
      refine hK _ _ ?_
      refine wpAnyIn_ready (rs := [9]) (by kernel_rfl) (by simp) ?_
      refine AllReadyIn.cons rfl (fun K hK => ?_) AllReadyIn.nil
      go_simp
      refine hK _ _ ?_
      refine wpAnyIn_ready (rs := [10]) (by kernel_rfl) (by simp) ?_
      refine AllReadyIn.cons rfl (fun K hK => ?_) AllReadyIn.nil
      go_simp
      refine hK _ _ ?_
      refine wpAnyIn_done (by kernel_rfl) ?_ _
      exact e2
    have H_140 : R 6 #[true, true, true, true, true, false, false, false, false, false, false] { tmps := #[.string T, undef, .pointer none, .pointer (some ⟨w.heap.size + 1, 0, none⟩), .pointer (some ⟨Bx, 0, none⟩), .agg #[.slice none 0 0, .bool false], .pointer (some ⟨w.heap.size, 0, none⟩), .string T, .func (.func 81) #[] #[.pointer (some ⟨w.heap.size + 1 + 1, 0, none⟩)], .agg #[.string x.k, .int .i64 x.at_, .int .u8 x.lo, .int .u8 x.hi], .pointer (some ⟨w.heap.size, 0, none⟩), .pointer (some ⟨w.heap.size, 0, none⟩), .pointer (some ⟨w.heap.size, 0, none⟩), .pointer (some ⟨w.heap.size, 0, none⟩), v, undef, undef, undef, undef, undef, undef], defers := [] } W.drew := by
      rw [hR]
      refine wpAnyIn_ready (rs := [5]) (by kernel_rfl) (by simp) ?_
      refine AllReadyIn.cons rfl (fun K hK => ?_) ?_
      · go_simp; refine hK _ _ ?_; rw [← hR]; exact H_141
      exact AllReadyIn.nil
    have H_131 : R 6 #[true, true, true, true, false, true, false, false, false, false, false] { tmps := #[.string T, undef, .pointer none, .pointer (some ⟨w.heap.size + 1, 0, none⟩), .pointer (some ⟨Bx, 0, none⟩), .agg #[.slice none 0 0, .bool false], .pointer (some ⟨w.heap.size, 0, none⟩), .string T, .func (.func 81) #[] #[.pointer (some ⟨w.heap.size + 1 + 1, 0, none⟩)], .agg #[.string x.k, .int .i64 x.at_, .int .u8 x.lo, .int .u8 x.hi], .pointer (some ⟨w.heap.size, 0, none⟩), .pointer (some ⟨w.heap.size, 0, none⟩), .pointer (some ⟨w.heap.size, 0, none⟩), .pointer (some ⟨w.heap.size, 0, none⟩), undef, .agg #[.string x.k, .int .i64 x.at_, .int .u8 x.lo, .int .u8 x.hi], undef, undef, undef, undef, undef], defers := [] } W.drew := by
      rw [hR]
      refine wpAnyIn_ready (rs := [4, 6]) (by kernel_rfl) (by simp) ?_
      refine AllReadyIn.cons rfl (fun K hK => ?_) ?_
      · go_simp; refine hK _ _ ?_; rw [← hR]; exact H_141
      refine AllReadyIn.cons rfl (fun K hK => ?_) ?_
      · go_simp; refine hK _ _ ?_; rw [← hR]; exact H_132
      exact AllReadyIn.nil
    have H_122 : R 6 #[true, true, true, false, false, true, true, false, false, false, false] { tmps := #[.string T, undef, .pointer none, .pointer (some ⟨w.heap.size + 1, 0, none⟩), .pointer (some ⟨Bx, 0, none⟩), .agg #[.slice none 0 0, .bool false], .pointer (some ⟨w.heap.size, 0, none⟩), .string T, .func (.func 81) #[] #[.pointer (some ⟨w.heap.size + 1 + 1, 0, none⟩)], .agg #[.string x.k, .int .i64 x.at_, .int .u8 x.lo, .int .u8 x.hi], .pointer (some ⟨w.heap.size, 0, none⟩), .pointer (some ⟨w.heap.size, 0, none⟩), .pointer (some ⟨w.heap.size, 0, none⟩), undef, undef, .agg #[.string x.k, .int .i64 x.at_, .int .u8 x.lo, .int .u8 x.hi], .slice (some ⟨W.heap.size, 0, none⟩) 1 1, undef, undef, undef, undef], defers := [] } (W.drew.alloc (.cells #[.string x.k, .int .i64 x.at_, .int .u8 x.lo, .int .u8 x.hi] 88)) := by
      rw [hR]
      refine wpAnyIn_ready (rs := [3]) (by kernel_rfl) (by simp) ?_
      refine AllReadyIn.cons rfl (fun K hK => ?_) ?_
      · go_simp; refine hK _ _ ?_; rw [← hR]; exact H_132
      exact AllReadyIn.nil
    have H_041 : R 6 #[false, true, true, true, true, true, false, false, false, false, false] { tmps := #[.string T, undef, .pointer none, .pointer (some ⟨w.heap.size + 1, 0, none⟩), .pointer (some ⟨Bx, 0, none⟩), .agg #[.slice none 0 0, .bool false], .pointer (some ⟨w.heap.size, 0, none⟩), .string T, .func (.func 81) #[] #[.pointer (some ⟨w.heap.size + 1 + 1, 0, none⟩)], .agg #[.string x.k, .int .i64 x.at_, .int .u8 x.lo, .int .u8 x.hi], undef, .pointer (some ⟨w.heap.size, 0, none⟩), .pointer (some ⟨w.heap.size, 0, none⟩), .pointer (some ⟨w.heap.size, 0, none⟩), v, .agg #[.string x.k, .int .i64 x.at_, .int .u8 x.lo, .int .u8 x.hi], undef, undef, undef, undef, undef], defers := [] } W.drew := by
      rw [hR]
      refine wpAnyIn_ready (rs := [0, 6]) (by kernel_rfl) (by simp) ?_
      refine AllReadyIn.cons rfl (fun K hK => ?_) ?_
      · go_simp; refine hK _ _ ?_; rw [← hR]; exact H_141
      refine AllReadyIn.cons rfl (fun K hK => ?_) ?_
      · go_simp; refine hK _ _ ?_; rw [← hR]; exact H_042
      exact AllReadyIn.nil
    have H_032 : R 6 #[false, true, true, true, false, true, true, false, false, false, false] { tmps := #[.string T, undef, .pointer none, .pointer (some ⟨w.heap.size + 1, 0, none⟩), .pointer (some ⟨Bx, 0, none⟩), .agg #[.slice none 0 0, .bool false], .pointer (some ⟨w.heap.size, 0, none⟩), .string T, .func (.func 81) #[] #[.pointer (some ⟨w.heap.size + 1 + 1, 0, none⟩)], .agg #[.string x.k, .int .i64 x.at_, .int .u8 x.lo, .int .u8 x.hi], undef, .pointer (some ⟨w.heap.size, 0, none⟩), .pointer (some ⟨w.heap.size, 0, none⟩), .pointer (some ⟨w.heap.size, 0, none⟩), undef, .agg #[.string x.k, .int .i64 x.at_, .int .u8 x.lo, .int .u8 x.hi], .slice (some ⟨W.heap.size, 0, none⟩) 1 1, undef, undef, undef, undef], defers := [] } (W.drew.alloc (.cells #[.string x.k, .int .i64 x.at_, .int .u8 x.lo, .int .u8 x.hi] 88)) := by
      rw [hR]
      refine wpAnyIn_ready (rs := [0, 4]) (by kernel_rfl) (by simp) ?_
      refine AllReadyIn.cons rfl (fun K hK => ?_) ?_
      · go_simp; refine hK _ _ ?_; rw [← hR]; exact H_132
      refine AllReadyIn.cons rfl (fun K hK => ?_) ?_
      · go_simp; refine hK _ _ ?_; rw [← hR]; exact H_042
      exact AllReadyIn.nil
    have H_130 : R 7 #[true, true, true, true, false, false, false, false, false, false, false] { tmps := #[.string T, undef, .pointer none, .pointer (some ⟨w.heap.size + 1, 0, none⟩), .pointer (some ⟨Bx, 0, none⟩), .agg #[.slice none 0 0, .bool false], .pointer (some ⟨w.heap.size, 0, none⟩), .string T, .func (.func 81) #[] #[.pointer (some ⟨w.heap.size + 1 + 1, 0, none⟩)], .agg #[.string x.k, .int .i64 x.at_, .int .u8 x.lo, .int .u8 x.hi], .pointer (some ⟨w.heap.size, 0, none⟩), .pointer (some ⟨w.heap.size, 0, none⟩), .pointer (some ⟨w.heap.size, 0, none⟩), .pointer (some ⟨w.heap.size, 0, none⟩), undef, undef, undef, undef, undef, undef, undef], defers := [] } W.drew := by
      rw [hR]
      refine wpAnyIn_ready (rs := [4, 5]) (by kernel_rfl) (by simp) ?_
      refine AllReadyIn.cons rfl (fun K hK => ?_) ?_
      · go_simp; refine hK _ _ ?_; rw [← hR]; exact H_140
      refine AllReadyIn.cons rfl (fun K hK => ?_) ?_
      · go_simp; refine hK _ _ ?_; rw [← hR]; exact H_131
      exact AllReadyIn.nil
    have H_121 : R 7 #[true, true, true, false, false, true, false, false, false, false, false] { tmps := #[.string T, undef, .pointer none, .pointer (some ⟨w.heap.size + 1, 0, none⟩), .pointer (some ⟨Bx, 0, none⟩), .agg #[.slice none 0 0, .bool false], .pointer (some ⟨w.heap.size, 0, none⟩), .string T, .func (.func 81) #[] #[.pointer (some ⟨w.heap.size + 1 + 1, 0, none⟩)], .agg #[.string x.k, .int .i64 x.at_, .int .u8 x.lo, .int .u8 x.hi], .pointer (some ⟨w.heap.size, 0, none⟩), .pointer (some ⟨w.heap.size, 0, none⟩), .pointer (some ⟨w.heap.size, 0, none⟩), undef, undef, .agg #[.string x.k, .int .i64 x.at_, .int .u8 x.lo, .int .u8 x.hi], undef, undef, undef, undef, undef], defers := [] } W.drew := by
      rw [hR]
      refine wpAnyIn_ready (rs := [3, 6]) (by kernel_rfl) (by simp) ?_
      refine AllReadyIn.cons rfl (fun K hK => ?_) ?_
      · go_simp; refine hK _ _ ?_; rw [← hR]; exact H_131
      refine AllReadyIn.cons rfl (fun K hK => ?_) ?_
      · go_simp; refine hK _ _ ?_; rw [← hR]; exact H_122
      exact AllReadyIn.nil
    have H_112 : R 7 #[true, true, false, false, false, true, true, false, false, false, false] { tmps := #[.string T, undef, .pointer none, .pointer (some ⟨w.heap.size + 1, 0, none⟩), .pointer (some ⟨Bx, 0, none⟩), .agg #[.slice none 0 0, .bool false], .pointer (some ⟨w.heap.size, 0, none⟩), .string T, .func (.func 81) #[] #[.pointer (some ⟨w.heap.size + 1 + 1, 0, none⟩)], .agg #[.string x.k, .int .i64 x.at_, .int .u8 x.lo, .int .u8 x.hi], .pointer (some ⟨w.heap.size, 0, none⟩), .pointer (some ⟨w.heap.size, 0, none⟩), undef, undef, undef, .agg #[.string x.k, .int .i64 x.at_, .int .u8 x.lo, .int .u8 x.hi], .slice (some ⟨W.heap.size, 0, none⟩) 1 1, undef, undef, undef, undef], defers := [] } (W.drew.alloc (.cells #[.string x.k, .int .i64 x.at_, .int .u8 x.lo, .int .u8 x.hi] 88)) := by
      rw [hR]
      refine wpAnyIn_ready (rs := [2]) (by kernel_rfl) (by simp) ?_
      refine AllReadyIn.cons rfl (fun K hK => ?_) ?_
      · go_simp; refine hK _ _ ?_; rw [← hR]; exact H_122
      exact AllReadyIn.nil
    have H_040 : R 7 #[false, true, true, true, true, false, false, false, false, false, false] { tmps := #[.string T, undef, .pointer none, .pointer (some ⟨w.heap.size + 1, 0, none⟩), .pointer (some ⟨Bx, 0, none⟩), .agg #[.slice none 0 0, .bool false], .pointer (some ⟨w.heap.size, 0, none⟩), .string T, .func (.func 81) #[] #[.pointer (some ⟨w.heap.size + 1 + 1, 0, none⟩)], .agg #[.string x.k, .int .i64 x.at_, .int .u8 x.lo, .int .u8 x.hi], undef, .pointer (some ⟨w.heap.size, 0, none⟩), .pointer (some ⟨w.heap.size, 0, none⟩), .pointer (some ⟨w.heap.size, 0, none⟩), v, undef, undef, undef, undef, undef, undef], defers := [] } W.drew := by
      rw [hR]
      refine wpAnyIn_ready (rs := [0, 5]) (by kernel_rfl) (by simp) ?_
      refine AllReadyIn.cons rfl (fun K hK => ?_) ?_
      · go_simp; refine hK _ _ ?_; rw [← hR]; exact H_140
      refine AllReadyIn.cons rfl (fun K hK => ?_) ?_
      · go_simp; refine hK _ _ ?_; rw [← hR]; exact H_041
      exact AllReadyIn.nil
    have H_031 : R 7 #[false, true, true, true, false, true, false, false, false, false, false] { tmps := #[.string T, undef, .pointer none, .pointer (some ⟨w.heap.size + 1, 0, none⟩), .pointer (some ⟨Bx, 0, none⟩), .agg #[.slice none 0 0, .bool false], .pointer (some ⟨w.heap.size, 0, none⟩), .string T, .func (.func 81) #[] #[.pointer (some ⟨w.heap.size + 1 + 1, 0, none⟩)], .agg #[.string x.k, .int .i64 x.at_, .int .u8 x.lo, .int .u8 x.hi], undef, .pointer (some ⟨w.heap.size, 0, none⟩), .pointer (some ⟨w.heap.size, 0, none⟩), .pointer (some ⟨w.heap.size, 0, none⟩), undef, .agg #[.string x.k, .int .i64 x.at_, .int .u8 x.lo, .int .u8 x.hi], undef, undef, undef, undef, undef], defers := [] } W.drew := by
      rw [hR]
      refine wpAnyIn_ready (rs := [0, 4, 6]) (by kernel_rfl) (by simp) ?_
      refine AllReadyIn.cons rfl (fun K hK => ?_) ?_
      · go_simp; refine hK _ _ ?_; rw [← hR]; exact H_131
      refine AllReadyIn.cons rfl (fun K hK => ?_) ?_
      · go_simp; refine hK _ _ ?_; rw [← hR]; exact H_041
      refine AllReadyIn.cons rfl (fun K hK => ?_) ?_
      · go_simp; refine hK _ _ ?_; rw [← hR]; exact H_032
      exact AllReadyIn.nil
    have H_022 : R 7 #[false, true, true, false, false, true, true, false, false, false, false] { tmps := #[.string T, undef, .pointer none, .pointer (some ⟨w.heap.size + 1, 0, none⟩), .pointer (some ⟨Bx, 0, none⟩), .agg #[.slice none 0 0, .bool false], .pointer (some ⟨w.heap.size, 0, none⟩), .string T, .func (.func 81) #[] #[.pointer (some ⟨w.heap.size + 1 + 1, 0, none⟩)], .agg #[.string x.k, .int .i64 x.at_, .int .u8 x.lo, .int .u8 x.hi], undef, .pointer (some ⟨w.heap.size, 0, none⟩), .pointer (some ⟨w.heap.size, 0, none⟩), undef, undef, .agg #[.string x.k, .int .i64 x.at_, .int .u8 x.lo, .int .u8 x.hi], .slice (some ⟨W.heap.size, 0, none⟩) 1 1, undef, undef, undef, undef], defers := [] } (W.drew.alloc (.cells #[.string x.k, .int .i64 x.at_, .int .u8 x.lo, .int .u8 x.hi] 88)) := by
      rw [hR]
      refine wpAnyIn_ready (rs := [0, 3]) (by kernel_rfl) (by simp) ?_
      refine AllReadyIn.cons rfl (fun K hK => ?_) ?_
      · go_simp; refine hK _ _ ?_; rw [← hR]; exact H_122
      refine AllReadyIn.cons rfl (fun K hK => ?_) ?_
      · go_simp; refine hK _ _ ?_; rw [← hR]; exact H_032
      exact AllReadyIn.nil
    have H_120 : R 8 #[true, true, true, false, false, false, false, false, false, false, false] { tmps := #[.string T, undef, .pointer none, .pointer (some ⟨w.heap.size + 1, 0, none⟩), .pointer (some ⟨Bx, 0, none⟩), .agg #[.slice none 0 0, .bool false], .pointer (some ⟨w.heap.size, 0, none⟩), .string T, .func (.func 81) #[] #[.pointer (some ⟨w.heap.size + 1 + 1, 0, none⟩)], .agg #[.string x.k, .int .i64 x.at_, .int .u8 x.lo, .int .u8 x.hi], .pointer (some ⟨w.heap.size, 0, none⟩), .pointer (some ⟨w.heap.size, 0, none⟩), .pointer (some ⟨w.heap.size, 0, none⟩), undef, undef, undef, undef, undef, undef, undef, undef], defers := [] } W.drew := by
      rw [hR]
      refine wpAnyIn_ready (rs := [3, 5]) (by kernel_rfl) (by simp) ?_
      refine AllReadyIn.cons rfl (fun K hK => ?_) ?_
      · go_simp; refine hK _ _ ?_; rw [← hR]; exact H_130
      refine AllReadyIn.cons rfl (fun K hK => ?_) ?_
      · go_simp; refine hK _ _ ?_; rw [← hR]; exact H_121
      exact AllReadyIn.nil
    have H_111 : R 8 #[true, true, false, false, false, true, false, false, false, false, false] { tmps := #[.string T, undef, .pointer none, .pointer (some ⟨w.heap.size + 1, 0, none⟩), .pointer (some ⟨Bx, 0, none⟩), .agg #[.slice none 0 0, .bool false], .pointer (some ⟨w.heap.size, 0, none⟩), .string T, .func (.func 81) #[] #[.pointer (some ⟨w.heap.size + 1 + 1, 0, none⟩)], .agg #[.string x.k, .int .i64 x.at_, .int .u8 x.lo, .int .u8 x.hi], .pointer (some ⟨w.heap.size, 0, none⟩), .pointer (some ⟨w.heap.size, 0, none⟩), undef, undef, undef, .agg #[.string x.k, .int .i64 x.at_, .int .u8 x.lo, .int .u8 x.hi], undef, undef, undef, undef, undef], defers := [] } W.drew := by
      rw [hR]
      refine wpAnyIn_ready (rs := [2, 6]) (by kernel_rfl) (by simp) ?_
      refine AllReadyIn.cons rfl (fun K hK => ?_) ?_
      · go_simp; refine hK _ _ ?_; rw [← hR]; exact H_121
      refine AllReadyIn.cons rfl (fun K hK => ?_) ?_
      · go_simp; refine hK _ _ ?_; rw [← hR]; exact H_112
      exact AllReadyIn.nil
    have H_102 : R 8 #[true, false, false, false, false, true, true, false, false, false, false] { tmps := #[.string T, undef, .pointer none, .pointer (some ⟨w.heap.size + 1, 0, none⟩), .pointer (some ⟨Bx, 0, none⟩), .agg #[.slice none 0 0, .bool false], .pointer (some ⟨w.heap.size, 0, none⟩), .string T, .func (.func 81) #[] #[.pointer (some ⟨w.heap.size + 1 + 1, 0, none⟩)], .agg #[.string x.k, .int .i64 x.at_, .int .u8 x.lo, .int .u8 x.hi], .pointer (some ⟨w.heap.size, 0, none⟩), undef, undef, undef, undef, .agg #[.string x.k, .int .i64 x.at_, .int .u8 x.lo, .int .u8 x.hi], .slice (some ⟨W.heap.size, 0, none⟩) 1 1, undef, undef, undef, undef], defers := [] } (W.drew.alloc (.cells #[.string x.k, .int .i64 x.at_, .int .u8 x.lo, .int .u8 x.hi] 88)) := by
      rw [hR]
      refine wpAnyIn_ready (rs := [1]) (by kernel_rfl) (by simp) ?_
      refine AllReadyIn.cons rfl (fun K hK => ?_) ?_
      · go_simp; refine hK _ _ ?_; rw [← hR]; exact H_112
      exact AllReadyIn.nil
    have H_030 : R 8 #[false, true, true, true, false, false, false, false, false, false, false] { tmps := #[.string T, undef, .pointer none, .pointer (some ⟨w.heap.size + 1, 0, none⟩), .pointer (some ⟨Bx, 0, none⟩), .agg #[.slice none 0 0, .bool false], .pointer (some ⟨w.heap.size, 0, none⟩), .string T, .func (.func 81) #[] #[.pointer (some ⟨w.heap.size + 1 + 1, 0, none⟩)], .agg #[.string x.k, .int .i64 x.at_, .int .u8 x.lo, .int .u8 x.hi], undef, .pointer (some ⟨w.heap.size, 0, none⟩), .pointer (some ⟨w.heap.size, 0, none⟩), .pointer (some ⟨w.heap.size, 0, none⟩), undef, undef, undef, undef, undef, undef, undef], defers := [] } W.drew := by
      rw [hR]
      refine wpAnyIn_ready (rs := [0, 4, 5]) (by kernel_rfl) (by simp) ?_
      refine AllReadyIn.cons rfl (fun K hK => ?_) ?_
      · go_simp; refine hK _ _ ?_; rw [← hR]; exact H_130
      refine AllReadyIn.cons rfl (fun K hK => ?_) ?_
      · go_simp; refine hK _ _ ?_; rw [← hR]; exact H_040
      refine AllReadyIn.cons rfl (fun K hK => ?_) ?_
      · go_simp; refine hK _ _ ?_; rw [← hR]; exact H_031
      exact AllReadyIn.nil
    have H_021 : R 8 #[false, true, true, false, false, true, false, false, false, false, false] { tmps := #[.string T, undef, .pointer none, .pointer (some ⟨w.heap.size + 1, 0, none⟩), .pointer (some ⟨Bx, 0, none⟩), .agg #[.slice none 0 0, .bool false], .pointer (some ⟨w.heap.size, 0, none⟩), .string T, .func (.func 81) #[] #[.pointer (some ⟨w.heap.size + 1 + 1, 0, none⟩)], .agg #[.string x.k, .int .i64 x.at_, .int .u8 x.lo, .int .u8 x.hi], undef, .pointer (some ⟨w.heap.size, 0, none⟩), .pointer (some ⟨w.heap.size, 0, none⟩), undef, undef, .agg #[.string x.k, .int .i64 x.at_, .int .u8 x.lo, .int .u8 x.hi], undef, undef, undef, undef, undef], defers := [] } W.drew := by
      rw [hR]
      refine wpAnyIn_ready (rs := [0, 3, 6]) (by kernel_rfl) (by simp) ?_
      refine AllReadyIn.cons rfl (fun K hK => ?_) ?_
      · go_simp; refine hK _ _ ?_; rw [← hR]; exact H_121
      refine AllReadyIn.cons rfl (fun K hK => ?_) ?_
      · go_simp; refine hK _ _ ?_; rw [← hR]; exact H_031
      refine AllReadyIn.cons rfl (fun K hK => ?_) ?_
      · go_simp; refine hK _ _ ?_; rw [← hR]; exact H_022
      exact AllReadyIn.nil
    have H_012 : R 8 #[false, true, false, false, false, true, true, false, false, false, false] { tmps := #[.string T, undef, .pointer none, .pointer (some ⟨w.heap.size + 1, 0, none⟩), .pointer (some ⟨Bx, 0, none⟩), .agg #[.slice none 0 0, .bool false], .pointer (some ⟨w.heap.size, 0, none⟩), .string T, .func (.func 81) #[] #[.pointer (some ⟨w.heap.size + 1 + 1, 0, none⟩)], .agg #[.string x.k, .int .i64 x.at_, .int .u8 x.lo, .int .u8 x.hi], undef, .pointer (some ⟨w.heap.size, 0, none⟩), undef, undef, undef, .agg #[.string x.k, .int .i64 x.at_, .int .u8 x.lo, .int .u8 x.hi], .slice (some ⟨W.heap.size, 0, none⟩) 1 1, undef, undef, undef, undef], defers := [] } (W.drew.alloc (.cells #[.string x.k, .int .i64 x.at_, .int .u8 x.lo, .int .u8 x.hi] 88)) := by
      rw [hR]
      refine wpAnyIn_ready (rs := [0, 2]) (by kernel_rfl) (by simp) ?_
      refine AllReadyIn.cons rfl (fun K hK => ?_) ?_
      · go_simp; refine hK _ _ ?_; rw [← hR]; exact H_112
      refine AllReadyIn.cons rfl (fun K hK => ?_) ?_
      · go_simp; refine hK _ _ ?_; rw [← hR]; exact H_022
      exact AllReadyIn.nil
    have H_110 : R 9 #[true, true, false, false, false, false, false, false, false, false, false] { tmps := #[.string T, undef, .pointer none, .pointer (some ⟨w.heap.size + 1, 0, none⟩), .pointer (some ⟨Bx, 0, none⟩), .agg #[.slice none 0 0, .bool false], .pointer (some ⟨w.heap.size, 0, none⟩), .string T, .func (.func 81) #[] #[.pointer (some ⟨w.heap.size + 1 + 1, 0, none⟩)], .agg #[.string x.k, .int .i64 x.at_, .int .u8 x.lo, .int .u8 x.hi], .pointer (some ⟨w.heap.size, 0, none⟩), .pointer (some ⟨w.heap.size, 0, none⟩), undef, undef, undef, undef, undef, undef, undef, undef, undef], defers := [] } W.drew := by
      rw [hR]
      refine wpAnyIn_ready (rs := [2, 5]) (by kernel_rfl) (by simp) ?_
      refine AllReadyIn.cons rfl (fun K hK => ?_) ?_
      · go_simp; refine hK _ _ ?_; rw [← hR]; exact H_120
      refine AllReadyIn.cons rfl (fun K hK => ?_) ?_
      · go_simp; refine hK _ _ ?_; rw [← hR]; exact H_111
      exact AllReadyIn.nil
    have H_101 : R 9 #[true, false, false, false, false, true, false, false, false, false, false] { tmps := #[.string T, undef, .pointer none, .pointer (some ⟨w.heap.size + 1, 0, none⟩), .pointer (some ⟨Bx, 0, none⟩), .agg #[.slice none 0 0, .bool false], .pointer (some ⟨w.heap.size, 0, none⟩), .string T, .func (.func 81) #[] #[.pointer (some ⟨w.heap.size + 1 + 1, 0, none⟩)], .agg #[.string x.k, .int .i64 x.at_, .int .u8 x.lo, .int .u8 x.hi], .pointer (some ⟨w.heap.size, 0, none⟩), undef, undef, undef, undef, .agg #[.string x.k, .int .i64 x.at_, .int .u8 x.lo, .int .u8 x.hi], undef, undef, undef, undef, undef], defers := [] } W.drew := by
      rw [hR]
      refine wpAnyIn_ready (rs := [1, 6]) (by kernel_rfl) (by simp) ?_
      refine AllReadyIn.cons rfl (fun K hK => ?_) ?_
      · go_simp; refine hK _ _ ?_; rw [← hR]; exact H_111
      refine AllReadyIn.cons rfl (fun K hK => ?_) ?_
      · go_simp; refine hK _ _ ?_; rw [← hR]; exact H_102
      exact AllReadyIn.nil
    have H_020 : R 9 #[false, true, true, false, false, false, false, false, false, false, false] { tmps := #[.string T, undef, .pointer none, .pointer (some ⟨w.heap.size + 1, 0, none⟩), .pointer (some ⟨Bx, 0, none⟩), .agg #[.slice none 0 0, .bool false], .pointer (some ⟨w.heap.size, 0, none⟩), .string T, .func (.func 81) #[] #[.pointer (some ⟨w.heap.size + 1 + 1, 0, none⟩)], .agg #[.string x.k, .int .i64 x.at_, .int .u8 x.lo, .int .u8 x.hi], undef, .pointer (some ⟨w.heap.size, 0, none⟩), .pointer (some ⟨w.heap.size, 0, none⟩), undef, undef, undef, undef, undef, undef, undef, undef], defers := [] } W.drew := by
      rw [hR]
      refine wpAnyIn_ready (rs := [0, 3, 5]) (by kernel_rfl) (by simp) ?_
      refine AllReadyIn.cons rfl (fun K hK => ?_) ?_
      · go_simp; refine hK _ _ ?_; rw [← hR]; exact H_120
      refine AllReadyIn.cons rfl (fun K hK => ?_) ?_
      · go_simp; refine hK _ _ ?_; rw [← hR]; exact H_030
      refine AllReadyIn.cons rfl (fun K hK => ?_) ?_
      · go_simp; refine hK _ _ ?_; rw [← hR]; exact H_021
      exact AllReadyIn.nil
    have H_011 : R 9 #[false, true, false, false, false, true, false, false, false, false, false] { tmps := #[.string T, undef, .pointer none, .pointer (some ⟨w.heap.size + 1, 0, none⟩), .pointer (some ⟨Bx, 0, none⟩), .agg #[.slice none 0 0, .bool false], .pointer (some ⟨w.heap.size, 0, none⟩), .string T, .func (.func 81) #[] #[.pointer (some ⟨w.heap.size + 1 + 1, 0, none⟩)], .agg #[.string x.k, .int .i64 x.at_, .int .u8 x.lo, .int .u8 x.hi], undef, .pointer (some ⟨w.heap.size, 0, none⟩), undef, undef, undef, .agg #[.string x.k, .int .i64 x.at_, .int .u8 x.lo, .int .u8 x.hi], undef, undef, undef, undef, undef], defers := [] } W.drew := by
      rw [hR]
      refine wpAnyIn_ready (rs := [0, 2, 6]) (by kernel_rfl) (by simp) ?_
      refine AllReadyIn.cons rfl (fun K hK => ?_) ?_
      · go_simp; refine hK _ _ ?_; rw [← hR]; exact H_111
      refine AllReadyIn.cons rfl (fun K hK => ?_) ?_
      · go_simp; refine hK _ _ ?_; rw [← hR]; exact H_021
      refine AllReadyIn.cons rfl (fun K hK => ?_) ?_
      · go_simp; refine hK _ _ ?_; rw [← hR]; exact H_012
      exact AllReadyIn.nil
    have H_002 : R 9 #[false, false, false, false, false, true, true, false, false, false, false] { tmps := #[.string T, undef, .pointer none, .pointer (some ⟨w.heap.size + 1, 0, none⟩), .pointer (some ⟨Bx, 0, none⟩), .agg #[.slice none 0 0, .bool false], .pointer (some ⟨w.heap.size, 0, none⟩), .string T, .func (.func 81) #[] #[.pointer (some ⟨w.heap.size + 1 + 1, 0, none⟩)], .agg #[.string x.k, .int .i64 x.at_, .int .u8 x.lo, .int .u8 x.hi], undef, undef, undef, undef, undef, .agg #[.string x.k, .int .i64 x.at_, .int .u8 x.lo, .int .u8 x.hi], .slice (some ⟨W.heap.size, 0, none⟩) 1 1, undef, undef, undef, undef], defers := [] } (W.drew.alloc (.cells #[.string x.k, .int .i64 x.at_, .int .u8 x.lo, .int .u8 x.hi] 88)) := by
      rw [hR]
      refine wpAnyIn_ready (rs := [0, 1]) (by kernel_rfl) (by simp) ?_
      refine AllReadyIn.cons rfl (fun K hK => ?_) ?_
      · go_simp; refine hK _ _ ?_; rw [← hR]; exact H_102
      refine AllReadyIn.cons rfl (fun K hK => ?_) ?_
      · go_simp; refine hK _ _ ?_; rw [← hR]; exact H_012
      exact AllReadyIn.nil
    have H_100 : R 10 #[true, false, false, false, false, false, false, false, false, false, false] { tmps := #[.string T, undef, .pointer none, .pointer (some ⟨w.heap.size + 1, 0, none⟩), .pointer (some ⟨Bx, 0, none⟩), .agg #[.slice none 0 0, .bool false], .pointer (some ⟨w.heap.size, 0, none⟩), .string T, .func (.func 81) #[] #[.pointer (some ⟨w.heap.size + 1 + 1, 0, none⟩)], .agg #[.string x.k, .int .i64 x.at_, .int .u8 x.lo, .int .u8 x.hi], .pointer (some ⟨w.heap.size, 0, none⟩), undef, undef, undef, undef, undef, undef, undef, undef, undef, undef], defers := [] } W.drew := by
      rw [hR]
      refine wpAnyIn_ready (rs := [1, 5]) (by kernel_rfl) (by simp) ?_
      refine AllReadyIn.cons rfl (fun K hK => ?_) ?_
      · go_simp; refine hK _ _ ?_; rw [← hR]; exact H_110
      refine AllReadyIn.cons rfl (fun K hK => ?_) ?_
      · go_simp; refine hK _ _ ?_; rw [← hR]; exact H_101
      exact AllReadyIn.nil
    have H_010 : R 10 #[false, true, false, false, false, false, false, false, false, false, false] { tmps := #[.string T, undef, .pointer none, .pointer (some ⟨w.heap.size + 1, 0, none⟩), .pointer (some ⟨Bx, 0, none⟩), .agg #[.slice none 0 0, .bool false], .pointer (some ⟨w.heap.size, 0, none⟩), .string T, .func (.func 81) #[] #[.pointer (some ⟨w.heap.size + 1 + 1, 0, none⟩)], .agg #[.string x.k, .int .i64 x.at_, .int .u8 x.lo, .int .u8 x.hi], undef, .pointer (some ⟨w.heap.size, 0, none⟩), undef, undef, undef, undef, undef, undef, undef, undef, undef], defers := [] } W.drew := by
      rw [hR]
      refine wpAnyIn_ready (rs := [0, 2, 5]) (by kernel_rfl) (by simp) ?_
      refine AllReadyIn.cons rfl (fun K hK => ?_) ?_
      · go_simp; refine hK _ _ ?_; rw [← hR]; exact H_110
      refine AllReadyIn.cons rfl (fun K hK => ?_) ?_
      · go_simp; refine hK _ _ ?_; rw [← hR]; exact H_020
      refine AllReadyIn.cons rfl (fun K hK => ?_) ?_
      · go_simp; refine hK _ _ ?_; rw [← hR]; exact H_011
      exact AllReadyIn.nil
    have H_001 : R 10 #[false, false, false, false, false, true, false, false, false, false, false] { tmps := #[.string T, undef, .pointer none, .pointer (some ⟨w.heap.size + 1, 0, none⟩), .pointer (some ⟨Bx, 0, none⟩), .agg #[.slice none 0 0, .bool false], .pointer (some ⟨w.heap.size, 0, none⟩), .string T, .func (.func 81) #[] #[.pointer (some ⟨w.heap.size + 1 + 1, 0, none⟩)], .agg #[.string x.k, .int .i64 x.at_, .int .u8 x.lo, .int .u8 x.hi], undef, undef, undef, undef, undef, .agg #[.string x.k, .int .i64 x.at_, .int .u8 x.lo, .int .u8 x.hi], undef, undef, undef, undef, undef], defers := [] } W.drew := by
      rw [hR]
      refine wpAnyIn_ready (rs := [0, 1, 6]) (by kernel_rfl) (by simp) ?_
      refine AllReadyIn.cons rfl (fun K hK => ?_) ?_
      · go_simp; refine hK _ _ ?_; rw [← hR]; exact H_101
      refine AllReadyIn.cons rfl (fun K hK => ?_) ?_
      · go_simp; refine hK _ _ ?_; rw [← hR]; exact H_011
      refine AllReadyIn.cons rfl (fun K hK => ?_) ?_
      · go_simp; refine hK _ _ ?_; rw [← hR]; exact H_002
      exact AllReadyIn.nil
    have H_000 : R 11 #[false, false, false, false, false, false, false, false, false, false, false] { tmps := #[.string T, undef, .pointer none, .pointer (some ⟨w.heap.size + 1, 0, none⟩), .pointer (some ⟨Bx, 0, none⟩), .agg #[.slice none 0 0, .bool false], .pointer (some ⟨w.heap.size, 0, none⟩), .string T, .func (.func 81) #[] #[.pointer (some ⟨w.heap.size + 1 + 1, 0, none⟩)], .agg #[.string x.k, .int .i64 x.at_, .int .u8 x.lo, .int .u8 x.hi], undef, undef, undef, undef, undef, undef, undef, undef, undef, undef, undef], defers := [] } W.drew := by
      rw [hR]
      refine wpAnyIn_ready (rs := [0, 1, 5]) (by kernel_rfl) (by simp) ?_
      refine AllReadyIn.cons rfl (fun K hK => ?_) ?_
      · go_simp; refine hK _ _ ?_; rw [← hR]; exact H_100
      refine AllReadyIn.cons rfl (fun K hK => ?_) ?_
      · go_simp; refine hK _ _ ?_; rw [← hR]; exact H_010
      refine AllReadyIn.cons rfl (fun K hK => ?_) ?_
      · go_simp; refine hK _ _ ?_; rw [← hR]; exact H_001
      exact AllReadyIn.nil
    -- @neg
    exact H_000
  case done =>
    rintro D ys W hD rfl ⟨⟨v, ha, hb⟩, hc, hd, he⟩ hK
    have hcp : W.cell? ⟨w.heap.size + 1, 0, none⟩ = some (.pointer (some ⟨w.heap.size, 0, none⟩)) := by rw [cell_of_row _ _ 0 _ _ _ hc]; rfl
    gi_wp2
    refine ⟨by simp, .inl ⟨_, _, rfl, run_takeDeferred hK, ?_⟩⟩
    refine ⟨_, results_tmp rfl _ _ _, v, rfl, ⟨?_, ownsRow_putObj hb _ hK rfl⟩, ?_⟩
    · exact (World.putObj_heap_other (by omega)).trans ha
    · exact hd.trans (belowK_b (w := w) (Nat.le_refl _) W D _ _ (by omega) hK rfl rfl)
  case stop =>
    rintro D c pre W hD _ h _
    exact h.elim
end Go.Proofs.YtnjkihbmhacgoaaGreatDoor
