/-
  WORDS FOR NORMAL FORMS IN MEMORY, and the walks of equal, clone, contains, IndexFunc, ContainsFunc.
-/
import Derived.Test.YtijcjknaphboeaaGreatDoorRxNf
import Derived.Test.YtijcjknaphboeaaGreatDoorRxCmp
import Derived.OwnWalk
namespace Go.Proofs.YtijcjknaphboeaaGreatDoor
open Go.RowKit

/-- blocks of S, and those from n on that are there -/
def Plus (S : Nat → Prop) (n m : Nat) : Nat → Prop := fun b => S b ∨ (n ≤ b ∧ b < m)
/-- A CALL THAT HANDS BACK AN EXPRESSION of blocks of S and of new ones -/
def GivesS (S : Nat → Prop) (w : World) (x : Rx) (en : Ending) (w' : World) : Prop := ∃ v, en = .returned v ∧ RtV w' (Plus S w.heap.size w'.heap.size) x v ∧ Below w.heap.size w w'
/-- a variable of its own, block b, holds an expression of S -/
def BoxAt (w : World) (S : Nat → Prop) (b : Nat) (x : Rx) : Prop := b < w.heap.size ∧ ∃ A c, w.heap[b]? = some (.cells #[.int .i64 x.kind, .int .u8 x.lo, .int .u8 x.hi, .slice A x.kids.length c] 30 (0, 0)) ∧ RtV w S x (rxv x.kind x.lo x.hi A x.kids.length c)
/-- all blocks of S lie below n -/
def SOk (S : Nat → Prop) (n : Nat) : Prop := ∀ b, S b → b < n

theorem SOk.mono {S : Nat → Prop} {n m : Nat} (h : SOk S n) (hm : n ≤ m) : SOk S m := fun b hb => Nat.lt_of_lt_of_le (h b hb) hm
theorem plus_ok {S : Nat → Prop} {n m : Nat} (h : SOk S n) (hm : n ≤ m) : SOk (Plus S n m) m := fun b hb => by
  rcases hb with hb | hb
  · exact Nat.lt_of_lt_of_le (h b hb) hm
  · exact hb.2
/-- an expression of S, across what leaves the blocks below n -/
theorem RtV.keep {n : Nat} {w w' : World} {S : Nat → Prop} {x : Rx} {v : Value} (h : RtV w S x v) (hS : SOk S n) (hb : Below n w w') : RtV w' S x v := RtV.to (fun b hb' => ⟨hb', hb.block b (hS b hb')⟩) x h
theorem RtL.keep {n : Nat} {w w' : World} {S : Nat → Prop} {s : List Rx} {A : Option Addr} (h : RtL w S s A) (hS : SOk S n) (hb : Below n w w') : RtL w' S s A := RtL.to (fun b hb' => ⟨hb', hb.block b (hS b hb')⟩) s h
theorem RtV.lo {n : Nat} {w : World} {S : Nat → Prop} {x : Rx} {v : Value} (h : RtV w S x v) (hS : SOk S n) : RtV w (Lo n) x v := RtV.to (fun b hb' => ⟨hS b hb', rfl⟩) x h
theorem RtL.lo {n : Nat} {w : World} {S : Nat → Prop} {s : List Rx} {A : Option Addr} (h : RtL w S s A) (hS : SOk S n) : RtL w (Lo n) s A := RtL.to (fun b hb' => ⟨hS b hb', rfl⟩) s h
theorem RtV.sub {w : World} {S T : Nat → Prop} {x : Rx} {v : Value} (h : RtV w S x v) (hS : ∀ b, S b → T b) : RtV w T x v := RtV.to (fun b hb' => ⟨hS b hb', rfl⟩) x h
theorem RtL.sub {w : World} {S T : Nat → Prop} {s : List Rx} {A : Option Addr} (h : RtL w S s A) (hS : ∀ b, S b → T b) : RtL w T s A := RtL.to (fun b hb' => ⟨hS b hb', rfl⟩) s h
theorem BoxAt.keep {w w' : World} {S : Nat → Prop} {b : Nat} {x : Rx} (h : BoxAt w S b x) (hS : SOk S w.heap.size) (hb : Below w.heap.size w w') : BoxAt w' S b x := by
  obtain ⟨hlt, A, c, h1, h2⟩ := h
  exact ⟨Nat.lt_of_lt_of_le hlt hb.size, A, c, (hb.block b hlt).trans h1, h2.keep hS hb⟩

/-- equal's contract -/
theorem equal_any (x y : Rx) (v1 v2 : Value) (w : World) (h1 : RtV w (Lo w.heap.size) x v1) (h2 : RtV w (Lo w.heap.size) y v2) : Calls Tryz.prog 53 #[v1, v2] w fun e w' => e = .returned (.bool (cmp x y == 0)) ∧ Below w.heap.size w w' := by
  have hC : ∀ W, Below w.heap.size w W → Calls Tryz.prog 15 #[v1, v2] W fun e w' => e = .returned (.int .i64 (cmp x y)) ∧ Below W.heap.size W w' := fun W hW => cmp_any x y v1 v2 W ((h1.below hW).mono hW.size) ((h2.below hW).mono hW.size)
  obtain ⟨_, A, c, rfl, _⟩ := h1.parts
  obtain ⟨_, B, d, rfl, _⟩ := h2.parts
  generalize cmp x y = z at hC
  clear h1 h2
  have hb : ∀ o1 o2, Below w.heap.size w ((w.alloc o1).alloc o2) := fun o1 o2 => below_alloc2 (Below.refl _ _) (Nat.le_refl _) _ _
  unfold rxv at hC ⊢
  go_enter Tryz.func53, Tryz.ntmps53
  go_wp2_with (go_at_call 15; refine (hC _ (hb _ _)).mono ?_; clear hC; rintro e w1 ⟨rfl, hw1⟩)
  go_ret
  exact ⟨rfl, (hb _ _).trans (hw1.mono (by simp; omega))⟩

/-- ONE ELEMENT MORE in a row, behind the element's own making (w1) and the making of the slice that is appended. -/
theorem row_step {wr w1 w5 : World} {base g cap : Nat} {L T : Nat → Prop} {e : TypeId} {u : Value} {ts : List Tn} {t : Tn} {o2 : Obj} (hrow : RowT wr base L e u ts) (hb : Below wr.heap.size wr w1) (hbase : base ≤ wr.heap.size)
    (ht : RtV w1 T t.x t.val) (hT : ∀ b, T b → L b ∧ b < w1.heap.size ∧ some b ≠ u.ownBlock)
    (hown : w5.ownsRow base e 4 (.slice (some ⟨g, 0, none⟩) (ts.length + 1) cap) (ts.length + 1) (ts.flatMap Tn.cells ++ t.cells)) (hgrow : (w1.alloc o2).grownBy w5 u.ownBlock) (hat : u.ownBlock = some g ∨ g = w1.heap.size + 1) :
    RowT w5 base L e (.slice (some ⟨g, 0, none⟩) (ts.length + 1) cap) (ts ++ [t]) ∧ Below base wr w5 := by
  refine ⟨RowT.snoc hrow rfl (hb.alloc hb.size o2) (RtV.to (fun b hb' => ?_) _ ht) hown hgrow (by simpa using hat), ?_⟩
  · obtain ⟨h1, h2, h3⟩ := hT b hb'
    exact ⟨⟨h1, by simp; omega, h3⟩, Below.heap_alloc w1 _ b h2⟩
  · have h1 := hb.size
    exact ((hb.mono hbase).alloc (by omega) o2).grown hgrow (by simp; omega) (fun j ej => hrow.blk j ej)
/-- the blocks of a call's result are none of a row that stood before it -/
theorem plus_far {wr : World} {base n m : Nat} {L S : Nat → Prop} {e : TypeId} {u : Value} {ts : List Tn} (hrow : RowT wr base L e u ts) (hS : SOk S base) (hn : wr.heap.size ≤ n) {b : Nat} (h : Plus S n m b) : some b ≠ u.ownBlock := fun e => by
  have h1 := own_blk_lt hrow.1 e
  rcases h with h | h
  · have := hS b h; omega
  · omega

set_option maxHeartbeats 1000000 in
set_option maxRecDepth 100000 in
/-- clone's contract: all in new memory -/
theorem clone_upto (m : Nat) : ∀ (x : Rx) (v : Value) (w : World), nodes x ≤ m → RtV w (Lo w.heap.size) x v → Calls Tryz.prog 46 #[v] w fun e w' => GivesX w x e w' := by
  induction m with
  | zero => intro x v w h0; cases x; simp [nodes] at h0
  | succ m ih =>
    intro x v w hm hv
    obtain ⟨k, l, h, s⟩ := x
    obtain ⟨⟨hk, hl, hh, hsl⟩, A, c, rfl, hc, hA, hs⟩ := hv.parts
    simp only [Rx.kind, Rx.lo, Rx.hi, Rx.kids] at hk hl hh hsl hc hs ⊢
    obtain ⟨i0, hi, hz0, hz1, hz2⟩ := info_parts info_Regex
    unfold rxv
    go_enter Tryz.func46, Tryz.ntmps46
    go_wp2_with (at_make; refine wpList_make_own _ rfl _ _ 28 rfl (w.heap.size + 2) 30 i0 (.agg #[.int .i64 0, .int .u8 0, .int .u8 0, .slice none 0 0]) 4 Tryz.underlying28 hi hz0 hz1 .i64 .i64 _ s.length rfl rfl rfl (by rw [hz2]; omega) (by unfold maxLen; omega) (by simp) ?_; intro w0 hown0 hgrow0; have hn0 := (hgrow0.block w.heap.size (by simp; omega) (by simp)).trans ((heap_alloc_old _ _ _ (by simp)).trans (heap_alloc_new w (.cells #[.int .i64 k, .int .u8 l, .int .u8 h, .slice A s.length c] 30))); have hn1 := (hgrow0.block (w.heap.size + 1) (by simp) (by simp)).trans (heap_alloc_new_at _ _ (by simp)); obtain ⟨t0, t1, t2, t3⟩ := four hn0)
    have hsz0 := hgrow0.size
    simp at hsz0
    have hB0 : Below w.heap.size w w0 := (below_alloc2 (Below.refl _ _) (Nat.le_refl _) _ _).grown hgrow0 (by simp; omega) (fun j ej => by cases ej)
    have hrow0 : RowT w0 (w.heap.size + 2) (fun b => w.heap.size + 2 ≤ b) 30 (.slice (some ⟨w.heap.size + 2, 0, none⟩) 0 s.length) [] := ⟨by simpa using hown0, by simp⟩
    clear hown0 hgrow0
    go_loopw [3, 13] (fun u i wr => ∃ (j : Nat) (ts : List Tn), j ≤ s.length ∧ i = .int .i64 j ∧ Hid (ts.map Tn.x = s.take j ∧ ts.length = j) ∧ wr.heap[w.heap.size]? = some (.cells #[.int .i64 k, .int .u8 l, .int .u8 h, .slice A s.length c] 30 (0, 0)) ∧
        wr.heap[w.heap.size + 1]? = some (.cells #[.int .i64 0, .int .u8 0, .int .u8 0, .slice none 0 0] 30 (0, 0)) ∧
        RowT wr (w.heap.size + 2) (fun b => w.heap.size + 2 ≤ b) 30 u ts ∧ Below w.heap.size w wr ∧ w.heap.size + 2 ≤ wr.heap.size) (fun _ i _ => s.length - (intOf i).toNat)
    case atStart => exact ⟨0, [], Nat.zero_le _, rfl, Lib.hid ⟨rfl, rfl⟩, hn0, hn1, by simpa using hrow0, hB0, hsz0⟩
    case round =>
      obtain ⟨j, ts, hj, rfl, hts, hb0, hb1, hrow, hW, hsz⟩ := hrel
      obtain ⟨p0, p1, p2, p3⟩ := four hb0
      clear hn0 hn1 t0 t1 t2 t3 hrow0 hB0 hsz0
      by_cases hlt : j < s.length
      · obtain ⟨bl, o, A', c', rfl, hbl, h4, hx⟩ := hs.get hlt
        have h4' := h4.to (hW.block bl hbl)
        have hx' := hx.below hW
        have hnod : nodes s[j] ≤ m := by have := nodes_get hlt; simp only [nodes] at hm; omega
        have HX := Lib.hid (fun l => rx_snoc (l := l) hlt rfl)
        generalize s[j] = x at h4' hx' hnod HX
        obtain ⟨xk, xl, xh, xs⟩ := x
        obtain ⟨e0, e1, e2, e3⟩ := h4'
        simp only [Rx.kind, Rx.lo, Rx.hi, Rx.kids] at e0 e1 e2 e3 hx'
        have hC : ∀ W, Below w.heap.size wr W → Calls Tryz.prog 46 #[rxv xk xl xh A' xs.length c'] W fun e w' => GivesX W (.node xk xl xh xs) e w' := fun W hWW =>
          ih _ _ W hnod ((hx'.below hWW).mono (Nat.le_trans hW.size hWW.size))
        clear hx' hx h4 hs ih
        have htl := hts.out.2
        subst htl
        unfold rxv at hC
        have hd : ∀ o, Below (w.heap.size + 2) wr (wr.alloc o) := fun o => (Below.refl _ _).alloc hsz _
        go_wp2_with (first
          | (go_at_call 46; refine (hC _ ((hd _).mono (by omega))).mono ?_; clear hC; rintro e' w1 ⟨v1, rfl, hv1, hw1⟩; obtain ⟨⟨ok1, ok2, ok3, ok4⟩, A1, c1, rfl, hc1, hA1, hs1⟩ := hv1.parts; have hy1 := hw1.size; simp at hy1; simp only [rxv, Rx.kind, Rx.lo, Rx.hi, Rx.kids])
          | (at_builtin; refine wpList_append_lies _ rfl _ _ 28 rfl (w.heap.size + 2) 30 i0 (.agg #[.int .i64 0, .int .u8 0, .int .u8 0, .slice none 0 0]) 4 40 Tryz.underlying28 hi hz0 hz1 hz2 rfl (by decide) _ ts.length (ts.flatMap Tn.cells) rfl ((own_below (hrow.1.alloc _) hw1).alloc _) ⟨w1.heap.size, 0, none⟩ 1 1 (Tn.cells ⟨.node xk xl xh xs, A1, c1⟩) rfl rfl (World.news_of_block (cs := #[.int .i64 xk, .int .u8 xl, .int .u8 xh, .slice A1 xs.length c1]) (t := 30) (fr := (0, 0)) (heap_alloc_new w1 _)) (tn_one1 _) (by decide) (by unfold maxLen; omega) (by omega) (by simp; omega) (w1.heap.size + 1) (by simp) ?_; intro g' cap' w5 hown5 hgrow5 hat5 hlt5))
        clear p0 p1 p2 p3
        obtain ⟨hr5, hB5⟩ := row_step (t := ⟨.node xk xl xh xs, A1, c1⟩) hrow ((Below.refl _ _ |>.alloc (Nat.le_refl _) _).trans (hw1.mono (by simp))) hsz hv1 (fun b hb => ⟨by have := hb.1; simp at this; omega, hb.2, fun e => by have h6 := (own_blk_lt hrow.1 e).2; have h7 := hb.1; simp at h7; omega⟩) hown5 hgrow5 hat5
        go_roundw
        case rel => exact ⟨ts.length + 1, _, by omega, by go_num, Lib.hid ⟨by rw [List.map_append]; exact HX.out _ hts.out.1, by rw [List.length_append]; rfl⟩, (hB5.block _ (by omega)).trans hb0, (hB5.block _ (by omega)).trans hb1, hr5, hW.trans (hB5.mono (by omega)), Nat.le_trans hsz hB5.size⟩
        case measure => simp [intOf]; omega
      · have he := Lib.hid (show s.take j = s from List.take_of_length_le (by omega))
        obtain ⟨q0, q1, q2, q3⟩ := four hb1
        have hf1 := four_frozen hb1
        obtain ⟨A1, c1, rfl⟩ := hrow.val
        clear ih hs
        go_wp2_with fail
        refine bodyPost_ret (v := .agg #[.int .i64 k, .int .u8 l, .int .u8 h, .slice A1 ts.length c1]) (by simp [results, Tryz.results46, go_sem, q0, q1, q2, q3]) rfl ?_
        have hm := fin4_below (n := w.heap.size) hW (Nat.le_succ w.heap.size) (.int .i64 k) (.int .u8 l) (.int .u8 h) (.slice A1 ts.length c1)
        have hrow' := hrow.to (w' := (((wr.setCell ⟨w.heap.size + 1, 0, none⟩ (.int .i64 k)).setCell ⟨w.heap.size + 1, 1, none⟩ (.int .u8 l)).setCell ⟨w.heap.size + 1, 2, none⟩ (.int .u8 h)).setCell ⟨w.heap.size + 1, 3, none⟩ (.slice A1 ts.length c1)) (fun _ h => h) (by rw [fin4_size]; exact Nat.le_refl _) (fun b _ hb => fin4 _ _ _ _ (by rcases hb with hb | hb <;> omega))
        obtain ⟨r1, r2, r3, r4⟩ := hrow'.list
        have hxs : ts.map Tn.x = s := by rw [hts.out.1, he.out]
        have hl2 : ts.length = s.length := by rw [← hxs, List.length_map]
        rw [hxs] at r4
        rw [hl2] at r2 r4 hm ⊢
        refine ⟨_, rfl, RtV.mk ⟨hk, hl, hh, hsl⟩ r2 r3 (RtL.to (S := fun b => (w.heap.size + 2 ≤ b ∨ w.heap.size + 2 ≤ b) ∧ b < _) (fun b hb => ⟨⟨by have := hb.1; omega, hb.2⟩, rfl⟩) _ r4), hm⟩
theorem clone_any (x : Rx) (v : Value) (w : World) (hv : RtV w (Lo w.heap.size) x v) : Calls Tryz.prog 46 #[v] w fun e w' => GivesX w x e w' := clone_upto (nodes x) x v w (Nat.le_refl _) hv
end Go.Proofs.YtijcjknaphboeaaGreatDoor
