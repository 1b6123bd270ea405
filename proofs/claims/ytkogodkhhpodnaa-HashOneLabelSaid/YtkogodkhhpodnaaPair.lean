/-
  THE WALKS of hash.Pair and of the reference's helpers Around and Short; how a slice that was just built reads.
-/
import Derived.Test.YtkogodkhhpodnaaSum
namespace Go.Proofs.Ytkogodkhhpodnaa
open Go.RowKit

theorem Sum_at (s : ByteArray) (A : Option Addr) (n c : Nat) (zs : List Int) (w : World) (hn : n = zs.length) (hs : s.size ≤ 140737488351232) (hz : zs.length ≤ 140737488351232) (hr : RdI w w.heap.size .i64 A zs) :
    Calls Try.prog 13 #[.string s, .slice A n c] w fun e w' => e = .returned (.int .u64 (sumI (sb s) zs)) ∧ Below w.heap.size w w' := by
  subst hn
  exact Sum_any s A c zs w hs hz hr

/-- a slice literal reads as its elements -/
theorem rd_new (w : World) (k : IntKind) (t : TypeId) (C : Array Value) (zs : List Int) (h : C = (zs.map (Value.int k)).toArray) (B : Nat) (hB : w.heap.size < B) :
    RdI (w.alloc (.cells C t)) B k (some ⟨w.heap.size, 0, none⟩) zs :=
  .inr ⟨w.heap.size, 0, rfl, hB, fun j hj => by
    subst h
    have := World.cell?_alloc_mark w (zs.map (Value.int k)).toArray t (0, 0) (0 + j)
    rw [this, Nat.zero_add]
    simp [hj]⟩

/-- the bytes of the word pair -/
def pairS : ByteArray := ⟨#[112, 97, 105, 114]⟩

theorem Pair_any (a b : Int) (w : World) :
    Calls Try.prog 19 #[.int .u64 a, .int .u64 b] w fun e w' => e = .returned (.int .u64 (sumI (sb pairS) [wrap64 a, wrap64 b])) ∧ Below w.heap.size w w' := by
  go_enter Try.func19, Try.ntmps19
  go_wp2_with (go_at_call 13; go_loud (refine (Sum_at _ _ _ _ [wrap64 a, wrap64 b] _ rfl (by decide) (by simp) (rd_new _ _ _ _ _ rfl _ (by simp))).mono ?_; rintro e w1 ⟨rfl, hb⟩))
  go_ret
  exact ⟨rfl, ((Below.refl _ w).alloc (Nat.le_refl _) _).trans (hb.mono (by simp))⟩

end Go.Proofs.Ytkogodkhhpodnaa
