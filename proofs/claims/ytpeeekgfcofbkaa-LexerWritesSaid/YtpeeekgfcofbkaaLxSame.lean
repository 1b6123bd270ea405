/-
  SAME TOKENS. Written by gen/genlxsame.py.
-/
import Derived.Test.YtpeeekgfcofbkaaLxPlain
namespace Go.Proofs.Ytpeeekgfcofbkaa
open Go.RowKit

/-- a row that can be read -/
def TkRd (W : World) (v : Value) (n : Nat) (l : List Tk) : Prop := (v = .slice none 0 0 ∧ n = 0) ∨ ∃ g c, v = .slice (some ⟨g, 0, none⟩) n c ∧ n ≤ c ∧ g < W.heap.size ∧ ∀ W', W'.heap[g]? = W.heap[g]? → ∀ k x, l[k]? = some x → TkAt W' g k x
theorem tk_rd {W : World} {base n : Nat} {t : TypeId} {v : Value} {l : List Tk} (h : W.ownsRow base t 3 v n (tkC l)) (hn : n = l.length) : TkRd W v n l := by
  rcases Nat.eq_zero_or_pos n with h0 | h0
  · rcases h.2 with ⟨h1, h2⟩ | ⟨g, cap, cur, e1, e2, e3, e4, _, e5, e6⟩
    · exact .inl ⟨h1, h2⟩
    · subst h0
      refine .inr ⟨g, cap, e1, e4, (Array.getElem?_eq_some_iff.1 e3).1, fun W' hW k x hx => ?_⟩
      have := (List.getElem?_eq_some_iff.1 hx).1
      omega
  · obtain ⟨g, c, h1, h2, _, h3, h4⟩ := tk_own h hn h0
    exact .inr ⟨g, c, h1, h2, h3, h4⟩
theorem TkRd.below {W W' : World} {v : Value} {n : Nat} {l : List Tk} (h : TkRd W v n l) (hb : Below W.heap.size W W') : TkRd W' v n l := by
  rcases h with h | ⟨g, c, e1, e2, e3, e4⟩
  · exact .inl h
  · exact .inr ⟨g, c, e1, e2, Nat.lt_of_lt_of_le e3 hb.size, fun W2 hW => e4 W2 (hW.trans (hb.block g e3))⟩
theorem tk_rd_lit (W : World) (t : TypeId) (n : Nat) (l : List Tk) (_ : n = l.length) (cs : Array Value) (hcs : cs = (tkC l).toArray) : TkRd (W.alloc (.cells cs t)) (.slice (some ⟨W.heap.size, 0, none⟩) n n) n l := by
  refine .inr ⟨_, n, rfl, Nat.le_refl _, by simp, fun W' hW k x hx => ?_⟩
  subst hcs
  exact tk_at_cells (hW.trans (heap_alloc_new W _)) (fun i hi => by rw [← tkc_get l k x hx i hi]; simp)
set_option maxHeartbeats 8000000 in
set_option maxRecDepth 100000 in
theorem Same_any (n : Nat) (v1 v2 : Value) (l : List Tk) (w : World) (hn : n = l.length) (hl : n ≤ 100000) (h1 : TkRd w v1 n l) (h2 : TkRd w v2 n l) :
    Calls Try.prog 15 #[v1, v2] w fun e w' => e = .returned (.bool true) ∧ Below w.heap.size w w' := by
  rcases Nat.eq_zero_or_pos n with h0 | h0
  · subst h0
    have e1 : ∃ A c, v1 = .slice A 0 c := by
      rcases h1 with ⟨h, _⟩ | ⟨g, c, h, _⟩
      · exact ⟨_, _, h⟩
      · exact ⟨_, _, h⟩
    have e2 : ∃ A c, v2 = .slice A 0 c := by
      rcases h2 with ⟨h, _⟩ | ⟨g, c, h, _⟩
      · exact ⟨_, _, h⟩
      · exact ⟨_, _, h⟩
    clear h1 h2
    obtain ⟨A1, c1, rfl⟩ := e1
    obtain ⟨A2, c2, rfl⟩ := e2
    go_enter Try.func15, Try.ntmps15
    go_wp2_with fail
    go_loopw [5] (fun i wr => i = .int .i64 0 ∧ wr = w) (fun i _ => 0)
    case atStart => exact ⟨rfl, rfl⟩
    case round =>
      obtain ⟨rfl, rfl⟩ := hrel
      go_wp2_with fail
      go_ret
      exact ⟨rfl, Below.refl _ _⟩
  · rcases h1 with ⟨_, h⟩ | ⟨g1, c1, rfl, hc1, hg1, hA1⟩
    · omega
    · rcases h2 with ⟨_, h⟩ | ⟨g2, c2, rfl, hc2, hg2, hA2⟩
      · omega
      · have hlen : Hid (n = l.length) := Lib.hid hn
        replace hA1 := Lib.hid hA1
        replace hA2 := Lib.hid hA2
        clear hn
        go_enter Try.func15, Try.ntmps15
        go_wp2_with fail
        go_loopw [5] (fun i wr => ∃ (k : Nat), i = .int .i64 (k : Int) ∧ k ≤ n ∧ Below w.heap.size w wr) (fun i _ => n - (intOf i).toNat)
        case atStart => exact ⟨0, rfl, Nat.zero_le _, Below.refl _ _⟩
        case round =>
          obtain ⟨k, rfl, hk, hB⟩ := hrel
          by_cases hlt : k < n
          · have hlI : (k : Int) < (n : Int) := by omega
            have hk0 : (0 : Int) ≤ (k : Int) := by omega
            obtain ⟨⟨xk, xt, xp⟩, hx⟩ : ∃ x, l[k]? = some x := ⟨l[k]'(by have := hlen.out; omega), by rw [List.getElem?_eq_getElem]⟩
            have HS : Hid (∀ W, Below w.heap.size w W → (fun W : World => (W.cell? ⟨g1, k * 3, none⟩ = some (.int .i64 xk) ∧ W.cell? ⟨g1, k * 3 + 1, none⟩ = some (.string (strOfNums xt)) ∧ W.cell? ⟨g1, k * 3 + 2, none⟩ = some (.int .i64 (xp : Nat))) ∧ (W.cell? ⟨g2, k * 3, none⟩ = some (.int .i64 xk) ∧ W.cell? ⟨g2, k * 3 + 1, none⟩ = some (.string (strOfNums xt)) ∧ W.cell? ⟨g2, k * 3 + 2, none⟩ = some (.int .i64 (xp : Nat)))) W) := Lib.hid fun W hW => ⟨hA1.out W (hW.block g1 hg1) k _ hx, hA2.out W (hW.block g2 hg2) k _ hx⟩
            have hd : Below w.heap.size w wr.drew := hB.drew
            clear hx
            go_wp2_with fail
            refine wp_region_held_drew (S := fun W => (W.cell? ⟨g1, k * 3, none⟩ = some (.int .i64 xk) ∧ W.cell? ⟨g1, k * 3 + 1, none⟩ = some (.string (strOfNums xt)) ∧ W.cell? ⟨g1, k * 3 + 2, none⟩ = some (.int .i64 (xp : Nat))) ∧ (W.cell? ⟨g2, k * 3, none⟩ = some (.int .i64 xk) ∧ W.cell? ⟨g2, k * 3 + 1, none⟩ = some (.string (strOfNums xt)) ∧ W.cell? ⟨g2, k * 3 + 2, none⟩ = some (.int .i64 (xp : Nat)))) (by kernel_rfl) (HS.out _ hd) (fun hHeld => ?_)
            (try simp only [List.size_toArray, List.length_cons, List.length_nil, Nat.zero_add, Nat.reduceAdd])
            refine wpAnyH_takeL (i := 0) (v := ?v1) rfl (by kernel_rfl) (by kernel_rfl) (by kernel_rfl) (fun _ _ _ h => h) (Or.inl ⟨by rfl, ?y1⟩) (by assumption) ?r1
            case y1 => (intro W hSw; (try dsimp only at hSw); go_simp; try with_reducible rfl)
            (try simp only [Act.put, List.setIfInBounds_toArray, List.set_cons_zero, List.set_cons_succ])
            refine wpAnyH_takeL (i := 1) (v := ?v2) rfl (by kernel_rfl) (by kernel_rfl) (by kernel_rfl) (fun _ _ _ h => h) (Or.inl ⟨by rfl, ?y2⟩) (by assumption) ?r2
            case y2 => (intro W hSw; (try dsimp only at hSw); go_simp; try with_reducible rfl)
            (try simp only [Act.put, List.setIfInBounds_toArray, List.set_cons_zero, List.set_cons_succ])
            refine wpAnyH_takeL (i := 2) (v := ?v3) rfl (by kernel_rfl) (by kernel_rfl) (by kernel_rfl) (fun _ _ _ h => h) (Or.inl ⟨by rfl, ?y3⟩) (by assumption) ?r3
            case y3 => (intro W hSw; (try dsimp only at hSw); go_simp; try with_reducible rfl)
            (try simp only [Act.put, List.setIfInBounds_toArray, List.set_cons_zero, List.set_cons_succ])
            refine wpAnyH_takeL (i := 3) (v := ?v4) rfl (by kernel_rfl) (by kernel_rfl) (by kernel_rfl) (fun _ _ _ h => h) (Or.inl ⟨by rfl, ?y4⟩) (by assumption) ?r4
            case y4 => (intro W hSw; (try dsimp only at hSw); go_simp; try with_reducible rfl)
            (try simp only [Act.put, List.setIfInBounds_toArray, List.set_cons_zero, List.set_cons_succ])
            refine wpAnyH_takeL (i := 4) (v := ?v5) rfl (by kernel_rfl) (by kernel_rfl) (by kernel_rfl) (fun _ _ _ h => h) (Or.inl ⟨by rfl, ?y5⟩) (by assumption) ?r5
            case y5 => (intro W hSw; (try dsimp only at hSw); go_simp; try with_reducible rfl)
            (try simp only [Act.put, List.setIfInBounds_toArray, List.set_cons_zero, List.set_cons_succ])
            refine wpAnyH_takeL (i := 5) (v := ?v6) rfl (by kernel_rfl) (by kernel_rfl) (by kernel_rfl) (fun _ _ _ h => h) (Or.inl ⟨by rfl, ?y6⟩) (by assumption) ?r6
            case y6 => (intro W hSw; (try dsimp only at hSw); go_simp; try with_reducible rfl)
            (try simp only [Act.put, List.setIfInBounds_toArray, List.set_cons_zero, List.set_cons_succ])
            refine wpAnyH_takeL (i := 6) (v := ?v7) rfl (by kernel_rfl) (by kernel_rfl) (by kernel_rfl) (fun _ _ _ h => h) (Or.inl ⟨by rfl, ?y7⟩) (by assumption) ?r7
            case y7 => (intro W hSw; (try dsimp only at hSw); go_simp; try with_reducible rfl)
            (try simp only [Act.put, List.setIfInBounds_toArray, List.set_cons_zero, List.set_cons_succ])
            refine wpAnyH_takeL (i := 7) (v := ?v8) rfl (by kernel_rfl) (by kernel_rfl) (by kernel_rfl) (fun _ _ _ h => h) (Or.inl ⟨by rfl, ?y8⟩) (by assumption) ?r8
            case y8 => (intro W hSw; (try dsimp only at hSw); go_simp; try with_reducible rfl)
            (try simp only [Act.put, List.setIfInBounds_toArray, List.set_cons_zero, List.set_cons_succ])
            refine wpAnyH_takeL (i := 8) (v := .bool false) rfl (by kernel_rfl) (by kernel_rfl) (by kernel_rfl) (fun _ _ _ h => h) (Or.inl ⟨by rfl, ?y9⟩) (by assumption) ?r9
            case y9 => (intro W hSw; (try dsimp only at hSw); first | (go_simp; done) | (go_simp; simp))
            (try simp only [Act.put, List.setIfInBounds_toArray, List.set_cons_zero, List.set_cons_succ])
            refine wpAnyH_done (by kernel_rfl) ?_ _
            go_wp2_with fail
            go_roundw
            case rel => exact ⟨k + 1, by go_num, by omega, hd⟩
            case measure => simp [intOf]; omega
          · have hlI : ¬ (k : Int) < (n : Int) := by omega
            go_wp2_with fail
            go_ret
            exact ⟨rfl, hB⟩
end Go.Proofs.Ytpeeekgfcofbkaa
