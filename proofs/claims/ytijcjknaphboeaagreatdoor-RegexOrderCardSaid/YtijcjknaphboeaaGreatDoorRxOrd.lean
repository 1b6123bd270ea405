/-
  THE WALK of inOrder, where at most one Kid is left.
-/
import Derived.Test.YtijcjknaphboeaaGreatDoorRxSort
namespace Go.Proofs.YtijcjknaphboeaaGreatDoor
open Go.RowKit

theorem compact_small (A : Option Addr) (n c : Nat) (W : World) (hn : n ≤ 1) : Calls Tryz.prog 69 #[.slice A n c, .func (.func 53) #[] #[]] W fun e w' => e = .returned (.slice A n c) ∧ w' = W := by
  have h1 : (n : Int) < 2 := by omega
  go_enter Tryz.func69, Tryz.ntmps69
  go_wp2_with fail
  go_ret
  exact ⟨rfl, rfl⟩

theorem perm_small {α : Type} {l l' : List α} (h : l'.Perm l) (hl : l.length ≤ 1) : l' = l := by
  have := h.length_eq
  match l, l', hl with
  | [], [], _ => rfl
  | [x], [y], _ => exact h.eq_singleton
  | [], _ :: _, _ => simp at this
  | [_], [], _ => simp at this
  | [_], _ :: _ :: _, _ => simp at this

theorem ordR_small {l : List Rx} (hl : l.length ≤ 1) : ordR l = l := by
  match l, hl with
  | [], _ => rfl
  | [x], _ => rfl

theorem inOrder_small (l : List Rx) (hl : l.length ≤ 1) : ArrOk 50 ordR l := by
  intro W base S A c ts hrow hts hS hb
  have hlen : ts.length ≤ 1 := by rw [← List.length_map (f := Tn.x), hts]; exact hl
  have hC := sort_any W base S A c ts hrow hS (by omega)
  have hK := fun W => compact_small A ts.length c W hlen
  have hl2 : ts.length = (ordR l).length := by rw [ordR_small hl, ← hts, List.length_map]
  rw [← hl2]
  clear hrow hl2
  replace hts := Lib.hid hts
  replace hlen := Lib.hid hlen
  go_enter Tryz.func50, Tryz.ntmps50
  go_wp2_with (first
    | (go_at_call 68; refine Calls.mono hC ?_; clear hC; rintro e w1 ⟨rfl, ts', hrow', hp, hsd, hw1⟩)
    | (go_at_call 69; refine Calls.mono (hK _) ?_; rintro e w2 ⟨rfl, rfl⟩))
  go_ret
  have e1 := perm_small hp hlen.out
  subst e1
  obtain ⟨r1, r2, r3, r4⟩ := hrow'.list
  rw [ordR_small hl]
  rw [hts.out] at r4
  exact ⟨A, c, rfl, r2, r3, r4.sub (fun b hb => by
    rcases hb.1 with h | h
    · exact .inl h
    · exact .inr ⟨h, hb.2⟩), hw1⟩
end Go.Proofs.YtijcjknaphboeaaGreatDoor
