/-
  THE WALKS of groups and of its closure (a range over a function): what it yields are the words of the bytes, in their order.
-/
import Derived.RangeFuncNested
import Derived.RangeFuncBound
import Derived.RangeFuncCalls
import Derived.RangeFuncLeaves
import Derived.RangeFuncBox
import Derived.Shelf.Abstract
import Derived.Shelf.RegionOpen
import Derived.WalkKit
import Derived.OwnWalkIn
import Derived.TacticsInMore
import Derived.LoopNIn
import Derived.LoopIn
import Derived.WalkSpells
import Derived.WalkLawsBesides
import Derived.Test.YtkffpfnmjadpaaaLe
namespace Go.Proofs.Ytkffpfnmjadpaaa
open Go.RowKit Go.Shelf
attribute [local go_sem] Oper.semAt_some

/-- WHAT A ROUND KEEPS: the blocks of S, as they lay. -/
def KeepX (S : Nat → Prop) (W W' : World) : Prop := ∀ b, S b → W'.heap[b]? = W.heap[b]?

theorem KeepX.refl (S : Nat → Prop) (W : World) : KeepX S W W := fun _ _ => rfl

theorem KeepX.trans {S : Nat → Prop} {A B C : World} (h : KeepX S A B) (k : KeepX S B C) : KeepX S A C := fun b hb => (k b hb).trans (h b hb)

theorem KeepX.cell {S : Nat → Prop} {A B : World} (h : KeepX S A B) {b i : Nat} (hb : S b) : B.cell? ⟨b, i, none⟩ = A.cell? ⟨b, i, none⟩ := World.cell?_of_block (h b hb)

theorem KeepX.put {S : Nat → Prop} {n : Nat} (hS : ∀ b, S b → b < n) (W : World) (l : Nat) (o' : Obj) (hl : n ≤ l) : KeepX S W (W.putObj l o') := fun b hb => by
  have hlt := hS b hb
  have hne : l ≠ b := by omega
  simp [World.putObj, Array.getElem?_setIfInBounds, hne]

set_option maxRecDepth 100000 in
set_option maxHeartbeats 2000000 in
/-- the closure: 'for i := 0; i < len(b); i += 8 { if !yield(littleEndian(..)) { return } }': for every loop body that keeps the bytes and the box of the slice -/
theorem it_in (n : Nat) (hn : 1 ≤ n) (l Bs b off cap : Nat) (zs : List Int) (S : Nat → Prop) (hlen : zs.length ≤ 140737488351232) (hcap : zs.length ≤ cap) (h8 : Bytes8 zs) (hSb : S b) (hSB : S Bs) (J Jx : List Int → World → Prop)
    (hY : ∀ pre x W, J pre W → pre.length < (zs.length + 7) / 8 → YieldAt Fence.wide (n - 1) Try.prog l #[.int .u64 x] W fun e W' =>
      (e = .returned (.bool true) ∧ J (pre ++ [x]) W' ∧ KeepX S W W') ∨ (e = .returned (.bool false) ∧ Jx (pre ++ [x]) W'))
    (W : World) (hBs : W.cell? ⟨Bs, 0, none⟩ = some (.slice (some ⟨b, off, none⟩) zs.length cap)) (hc : ∀ j, j < zs.length → W.cell? ⟨b, off + j, none⟩ = some (.int .u8 (zs[j]?.getD 0))) (h0 : J [] W) :
    CallsIn Fence.wide n Try.prog 49 #[.func (.yield l) #[] #[], .pointer (some ⟨Bs, 0, none⟩)] W fun e W' => (∃ v, e = .returned v) ∧
      ((∃ ys, ys = words zs ∧ J ys W') ∨ (∃ pre, (∃ k, pre = upto (grp zs) k) ∧ Jx pre W')) := by
  refine callsIn_of_wp Try.func49 rfl trivial ?_ rfl
  simp only [Try.ntmps49, List.size_toArray, List.length_cons, List.length_nil, Nat.reduceAdd, Nat.reduceSub, Array.replicate_succ, Array.replicate_zero, List.push_toArray, List.append_toArray, List.nil_append, List.cons_append]
  gi_wp2
  gi_loopw [3] (fun i wr => ∃ k : Nat, k ≤ (zs.length + 7) / 8 ∧ i = .int .i64 (8 * k : Nat) ∧ J (upto (grp zs) k) wr ∧ KeepX S W wr)
    (fun i _ => zs.length + 8 - (intOf i).toNat)
  case atStart => exact ⟨0, Nat.zero_le _, rfl, h0, KeepX.refl _ _⟩
  case round =>
    obtain ⟨k, hk, rfl, hJs, hnx⟩ := hrel
    have hBx := (hnx.cell (i := 0) hSB).trans hBs
    by_cases hlt : 8 * k < zs.length
    · obtain ⟨fn, tmps, assign, body, hy, hR⟩ := hY _ (grp zs k) wr hJs (by rw [upto_length]; omega)
      have hle : ∀ n c : Nat, n = min 8 (zs.length - 8 * k) → Calls Try.prog 50 #[.slice (some ⟨b, off + 8 * k, none⟩) n c] wr fun e w' => e = .returned (.int .u64 (grp zs k)) ∧ wr = w' := fun n c hn =>
        le_any _ n c (b + 1) ((zs.drop (8 * k)).take 8) wr (by rw [hn]; simp) (by simp; omega) ((h8.drop _).take _)
          (.inr ⟨b, off + 8 * k, rfl, Nat.lt_succ_self b, fun j hj => by
            rw [List.length_take, List.length_drop] at hj
            rw [Nat.add_assoc, (hnx.cell (i := off + (8 * k + j)) hSb).trans (hc (8 * k + j) (by omega))]
            rw [List.getElem?_take_of_lt (by omega), List.getElem?_drop]⟩)
      clear hc h0
      by_cases h2 : 8 * k + 8 ≤ zs.length
      all_goals
        gi_wp2_with (refine ⟨trivial, ?_⟩; gi_at_call 50; refine (callsIn_wide.2 (hle _ _ (by omega))).mono ?_; rintro e w' ⟨rfl, rfl⟩)
        refine hR.mono ?_
        rintro e W3 (⟨rfl, hJ3, hk3⟩ | ⟨rfl, hJx3⟩)
        · gi_wp2
          go_roundw
          case rel => exact ⟨k + 1, by omega, by go_num, by rw [upto_succ]; exact hJ3, hnx.trans hk3⟩
          case measure => simp [intOf]; omega
        · gi_wp2
          refine bodyPost_ret (results_none rfl _ _ _) rfl ?_
          exact ⟨⟨_, rfl⟩, .inr ⟨_, ⟨k + 1, (upto_succ _ _).symm⟩, hJx3⟩⟩
    · gi_wp2
      go_end0
      exact ⟨⟨_, rfl⟩, .inl ⟨_, rfl, by rw [words, show (zs.length + 7) / 8 = k by omega]; exact hJs⟩⟩

set_option maxRecDepth 100000 in
set_option maxHeartbeats 1000000 in
/-- .. where there are no bytes: no round -/
theorem it_nil_in (n : Nat) (l Bs cap : Nat) (A : Option Addr) (J : List Int → World → Prop) (W : World) (hBs : W.cell? ⟨Bs, 0, none⟩ = some (.slice A 0 cap)) (h0 : J [] W) :
    CallsIn Fence.wide n Try.prog 49 #[.func (.yield l) #[] #[], .pointer (some ⟨Bs, 0, none⟩)] W fun e W' => (∃ v, e = .returned v) ∧ J [] W' := by
  refine callsIn_of_wp Try.func49 rfl trivial ?_ rfl
  simp only [Try.ntmps49, List.size_toArray, List.length_cons, List.length_nil, Nat.reduceAdd, Nat.reduceSub, Array.replicate_succ, Array.replicate_zero, List.push_toArray, List.append_toArray, List.nil_append, List.cons_append]
  gi_wp2
  gi_loopw [3] (fun i wr => i = .int .i64 0 ∧ J [] wr ∧ wr.cell? ⟨Bs, 0, none⟩ = some (.slice A 0 cap)) (fun _ _ => 0)
  case atStart => exact ⟨rfl, h0, hBs⟩
  case round =>
    obtain ⟨rfl, hJs, hBx⟩ := hrel
    gi_wp2
    go_end0
    exact ⟨⟨_, rfl⟩, hJs⟩

set_option maxHeartbeats 1000000 in
/-- groups(b): the slice is boxed; the function value captures the box -/
theorem groups_any (A : Option Addr) (n c : Nat) (w : World) :
    Calls Try.prog 37 #[.slice A n c] w fun e w' => e = .returned (.func (.func 49) #[] #[.pointer (some ⟨w.heap.size, 0, none⟩)]) ∧ w.alloc (.cells #[.slice A n c] 24) = w' := by
  go_enter Try.func37, Try.ntmps37
  go_wp2
  go_ret
  exact ⟨rfl, rfl⟩

/-- WHAT groups(b) HANDS BACK, for the law of a range over a function -/
theorem groups_stops (n : Nat) (hn : 1 ≤ n) (Bs B cap : Nat) (A : Option Addr) (zs : List Int) (S : Nat → Prop) (hlen : zs.length ≤ 140737488351232) (hcap : zs.length ≤ cap) (h8 : Bytes8 zs) (w : World) (hB : Bs < w.heap.size) (hBw : B ≤ w.heap.size)
    (hSB : S Bs) (hS : zs ≠ [] → ∀ ad, A = some ad → S ad.block) (hBs : w.cell? ⟨Bs, 0, none⟩ = some (.slice A zs.length cap)) (hr : RdI w B .u8 A zs) :
    SeqStopsK Fence.wide n Try.prog 49 #[.pointer (some ⟨Bs, 0, none⟩)] (fun x : Int => #[Value.int .u64 x]) (KeepX S) (fun ys => ys = words zs) (fun pre => ∃ k, pre = upto (grp zs) k) ((zs.length + 7) / 8) w := fun l J Jx W hW _ _ hY h0 => by
  have hBs' := (hW.cell (p := ⟨Bs, 0, none⟩) hB).trans hBs
  rcases hr.below (hW.mono hBw) with rfl | ⟨b, o, rfl, hb, hc⟩
  · exact (it_nil_in n l Bs cap A J W hBs' h0).mono fun e W' ⟨he, hj⟩ => ⟨he, .inl ⟨_, rfl, hj⟩⟩
  · by_cases hz : zs = []
    · subst hz
      exact (it_nil_in n l Bs cap _ J W hBs' h0).mono fun e W' ⟨he, hj⟩ => ⟨he, .inl ⟨_, rfl, hj⟩⟩
    · exact it_in n hn l Bs b o cap zs S hlen hcap h8 (hS hz _ rfl) hSB J Jx hY W hBs' hc h0

end Go.Proofs.Ytkffpfnmjadpaaa
