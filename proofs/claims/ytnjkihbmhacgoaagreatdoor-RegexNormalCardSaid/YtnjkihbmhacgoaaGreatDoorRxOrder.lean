/-
  THE WALK of the law on the order (P4.10), lives taken as handed in.
-/
import Derived.Test.YtnjkihbmhacgoaaGreatDoorRxSpoD
import Derived.Test.YtnjkihbmhacgoaaGreatDoorRxECmp
import Derived.Deep.RegionHeld3
import Derived.LoopN
namespace Go.Proofs.YtnjkihbmhacgoaaGreatDoor
open Go.RowKit

/-- what a law's call does: true, and nothing that was there has turned -/
def RTrue (w : World) (e : Ending) (w' : World) : Prop := e = .returned (.bool true) ∧ Below w.heap.size w w'
theorem lo_below {w W : World} {x : Rx} {v : Value} (h : RtV w (Lo w.heap.size) x v) (hB : Below w.heap.size w W) : RtV W (Lo W.heap.size) x v := RtV.to (fun b hb => ⟨Nat.lt_of_lt_of_le hb hB.size, hB.block b hb⟩) x h
theorem made_lo {n : Nat} {w : World} {x : Rx} {v : Value} (h : RtV w (Mid n w.heap.size) x v) : RtV w (Lo w.heap.size) x v := RtV.to (fun _ hb => ⟨hb.2, rfl⟩) x h
/-- the tree at a place of a list, in every later world -/
theorem at_cells {W0 : World} {xs : List Rx} {B : Nat} (L : RtL W0 (Lo W0.heap.size) xs (some ⟨B, 0, none⟩)) {t : Nat} (ht : t < xs.length) : ∃ (x : Rx) (A : Option Addr) (c : Nat), ∀ W, Below W0.heap.size W0 W →
    (W.cell? ⟨B, t * 4, none⟩ = some (.int .i64 x.kind) ∧ W.cell? ⟨B, t * 4 + 1, none⟩ = some (.int .u8 x.lo) ∧ W.cell? ⟨B, t * 4 + 2, none⟩ = some (.int .u8 x.hi) ∧ W.cell? ⟨B, t * 4 + 3, none⟩ = some (.slice A x.kids.length c)) ∧
    RtV W (Lo W.heap.size) x (.agg #[.int .i64 x.kind, .int .u8 x.lo, .int .u8 x.hi, .slice A x.kids.length c]) := by
  obtain ⟨b, o, A, c, e, hb, h4, hx⟩ := L.get ht
  cases e
  refine ⟨xs[t], A, c, fun W hW => ⟨?_, hx.call hW⟩⟩
  have := h4.to (hW.block B hb)
  simpa [At4] using this
theorem x_lo {W w2 W2 : World} {x : Rx} {v : Value} (hv : RtV w2 (Mid W.heap.size w2.heap.size) x v) (hb : Below w2.heap.size w2 W2) : RtV W2 (Lo W2.heap.size) x v := RtV.to (fun b hb' => ⟨Nat.lt_of_lt_of_le hb'.2 hb.size, hb.block b hb'.2⟩) x hv
theorem neg_in {z z' : Int} (h : z' = -z) (hz : z = -1 ∨ z = 0 ∨ z = 1) : IntKind.i64.wrap (-z') = z := by
  subst h
  rcases hz with rfl | rfl | rfl <;> rfl
theorem five_row {w6 : World} {ts : List Tn} {ty : TypeId} (hT : ∀ t ∈ ts, RtV w6 (Lo w6.heap.size) t.x t.val) : RtL (w6.alloc (.cells (ts.flatMap Tn.cells).toArray ty)) (Lo (w6.alloc (.cells (ts.flatMap Tn.cells).toArray ty)).heap.size) (ts.map Tn.x) (some ⟨w6.heap.size, 0, none⟩) := by
  have hs : w6.heap.size < (w6.alloc (.cells (ts.flatMap Tn.cells).toArray ty)).heap.size := by simp
  refine rtl_of_cells (S := Lo (w6.alloc (.cells (ts.flatMap Tn.cells).toArray ty)).heap.size) (g := w6.heap.size) hs ts 0 (fun j u hj => ?_) (fun t ht => RtV.to (fun b hb => ⟨Nat.lt_trans hb hs, Below.heap_alloc w6 _ b hb⟩) _ (hT t ht))
  rw [Nat.zero_add, cell_of_row _ _ _ _ _ (0, 0) (heap_alloc_new w6 _)]
  simpa using hj
end Go.Proofs.YtnjkihbmhacgoaaGreatDoor
