/-
  THE WALKS of flat, and of the functions of the kinds: itself, of Cat, Alt and All (joined's closure), of Not, of Star.
-/
import Derived.Test.YtnjkihbmhacgoaaGreatDoorRxIdx
namespace Go.Proofs.YtnjkihbmhacgoaaGreatDoor
open Go.RowKit

theorem flatR_take (k : Int) (neu : Rx) {s : List Rx} {j : Nat} (hj : j < s.length) : flatR k neu (s.take (j + 1)) = flatR k neu (s.take j) ++ (if s[j].kind = k then s[j].kids else if cmp s[j] neu = 0 then [] else [s[j]]) := by
  rw [List.take_succ_eq_append_getElem hj, flatR_app]
  simp [flatR]

set_option maxHeartbeats 2000000 in
set_option maxRecDepth 100000 in
theorem flat_any (k l h : Int) (s : List Rx) (v : Value) (neu : Rx) (vn : Value) (S : Nat → Prop) (w : World) (hv : RtV w S (.node k l h s) v) (hn : RtV w S neu vn) (hS : SOk S w.heap.size) (hN : nodesL s ≤ 1000000) :
    Calls Tryz.prog 57 #[v, vn] w fun e w' => ∃ A c ts, e = .returned (.slice A ts.length c) ∧ RowT w' w.heap.size S 30 (.slice A ts.length c) ts ∧ ts.map Tn.x = flatR k neu s ∧ Below w.heap.size w w' := by
  obtain ⟨⟨hk, hl, hh, hsl⟩, A, c, rfl, hc, hA, hs⟩ := hv.parts
  simp only [Rx.kind, Rx.lo, Rx.hi, Rx.kids] at hk hl hh hsl hc hs ⊢
  have hE : ∀ (x : Rx) (vx : Value) (W : World), Below w.heap.size w W → RtV w S x vx → Calls Tryz.prog 45 #[vx, vn] W fun e w' => e = .returned (.bool (cmp x neu == 0)) ∧ Below W.heap.size W w' := fun x vx W hW hx => equal_any x neu vx vn W ((hx.keep hS hW).lo (hS.mono hW.size)) ((hn.keep hS hW).lo (hS.mono hW.size))
  obtain ⟨_, An, cn, rfl, _⟩ := hn.parts
  obtain ⟨i0, hi, hz0, hz1, hz2⟩ := info_parts info_Regex
  clear hv hn
  unfold rxv at hE ⊢
  go_enter Tryz.func57, Tryz.ntmps57
  go_wp2_with (at_make; refine wpList_make_own _ rfl _ _ 28 rfl (w.heap.size + 2) 30 i0 (.agg #[.int .i64 0, .int .u8 0, .int .u8 0, .slice none 0 0]) 4 Tryz.underlying28 hi hz0 hz1 .i64 .i64 _ s.length rfl rfl rfl (by rw [hz2]; omega) (by unfold maxLen; omega) (by simp) ?_; intro w0 hown0 hgrow0; have hn0 := (hgrow0.block w.heap.size (by simp; omega) (by simp)).trans ((heap_alloc_old _ _ _ (by simp)).trans (heap_alloc_new w (.cells #[.int .i64 k, .int .u8 l, .int .u8 h, .slice A s.length c] 30))); have hn1 := (hgrow0.block (w.heap.size + 1) (by simp) (by simp)).trans (heap_alloc_new_at _ _ (by simp)); obtain ⟨t0, t1, t2, t3⟩ := four hn0)
  have hsz0 := hgrow0.size
  simp at hsz0
  have hB0 : Below w.heap.size w w0 := (below_alloc2 (Below.refl _ _) (Nat.le_refl _) _ _).grown hgrow0 (by simp; omega) (fun j ej => by cases ej)
  have hrow0 : RowT w0 (w.heap.size + 2) S 30 (.slice (some ⟨w.heap.size + 2, 0, none⟩) 0 s.length) [] := ⟨by simpa using hown0, by simp⟩
  clear hown0 hgrow0
  go_loopw [5, 15] (fun u i wr => ∃ (j : Nat) (ts : List Tn), j ≤ s.length ∧ i = .int .i64 j ∧ Hid (ts.map Tn.x = flatR k neu (s.take j)) ∧ wr.heap[w.heap.size]? = some (.cells #[.int .i64 k, .int .u8 l, .int .u8 h, .slice A s.length c] 30 (0, 0)) ∧
      wr.heap[w.heap.size + 1]? = some (.cells #[.int .i64 neu.kind, .int .u8 neu.lo, .int .u8 neu.hi, .slice An neu.kids.length cn] 30 (0, 0)) ∧
      RowT wr (w.heap.size + 2) S 30 u ts ∧ Below w.heap.size w wr ∧ w.heap.size + 2 ≤ wr.heap.size) (fun _ i _ => s.length - (intOf i).toNat)
  case atStart => exact ⟨0, [], Nat.zero_le _, rfl, Lib.hid rfl, hn0, hn1, by simpa using hrow0, hB0, hsz0⟩
  case round =>
    obtain ⟨j, ts, hj, rfl, hts, hb0, hb1, hrow, hW, hsz⟩ := hrel
    obtain ⟨p0, p1, p2, p3⟩ := four hb0
    obtain ⟨g0, g1, g2, g3⟩ := four hb1
    clear hn0 hn1 t0 t1 t2 t3 hrow0 hB0 hsz0
    by_cases hlt : j < s.length
    · obtain ⟨bl, o, A', c', rfl, hbl, h4, hx⟩ := hs.get hlt
      have h4' := h4.to (hW.block bl (hS bl hbl))
      have HX := Lib.hid (flatR_take k neu hlt)
      have hlen : ts.length + nodes s[j] ≤ 1000000 := by
        have e1 := congrArg List.length hts.out
        rw [List.length_map] at e1
        have e2 := len_nodes (flatR k neu (s.take j))
        have e3 := flatR_nodes k neu (s.take j)
        have e4 := nodesL_take hlt
        have e5 := nodesL_le (s := s) (j + 1)
        omega
      have hE' := fun W hW => hE _ _ W hW hx
      have hx' := hx.keep hS hW
      clear hx hE h4 hs
      generalize s[j] = x at h4' hE' HX hx' hlen
      obtain ⟨xk, xl, xh, xs⟩ := x
      obtain ⟨e0, e1, e2, e3⟩ := h4'
      simp only [Rx.kind, Rx.lo, Rx.hi, Rx.kids] at e0 e1 e2 e3 hE'
      unfold rxv at hE'
      have hxl : xs.length < nodes (.node xk xl xh xs) := by have := len_nodes xs; simp only [nodes]; omega
      have hd : ∀ o, Below (w.heap.size + 2) wr (wr.alloc o) := fun o => (Below.refl _ _).alloc hsz _
      have hab := fun o : Obj => cell_old (w := wr) (B := w.heap.size) (i := 0) (by omega) o
      have hc0 := fun o : Obj => (cell_old (w := wr) (B := w.heap.size + 1) (i := 0) (by omega) o).trans g0
      have hc1 := fun o : Obj => (cell_old (w := wr) (B := w.heap.size + 1) (i := 1) (by omega) o).trans g1
      have hc2 := fun o : Obj => (cell_old (w := wr) (B := w.heap.size + 1) (i := 2) (by omega) o).trans g2
      have hc3 := fun o : Obj => (cell_old (w := wr) (B := w.heap.size + 1) (i := 3) (by omega) o).trans g3
      by_cases hkk : xk = k
      · subst hkk
        obtain ⟨_, A2, c2, eq2, hd2, hA2, hl2⟩ := hx'.parts
        obtain ⟨rfl, rfl⟩ : A' = A2 ∧ c' = c2 := by unfold rxv at eq2; injection eq2 with eq2; simp at eq2; exact eq2
        simp only [Rx.kids] at hd2 hl2
        clear hE' hx'
        go_wp2_with (at_builtin; refine wpList_append_t _ rfl _ _ 28 rfl (w.heap.size + 2) 30 i0 (.agg #[.int .i64 0, .int .u8 0, .int .u8 0, .slice none 0 0]) 40 Tryz.underlying28 hi hz0 hz1 hz2 rfl _ S S ts rfl (hrow.below ((Below.refl _ _).alloc (Nat.le_refl _) _)) A' xs.length c' xs rfl rfl hA2 hd2 (hl2.keep (hS.mono hW.size) ((Below.refl _ _).alloc (Nat.le_refl _) _)) (fun b hb => ⟨hb, Nat.lt_of_lt_of_le (hS b hb) (by omega)⟩) (by unfold maxLen; omega) (by omega) (by simp; omega) ?_; intro v5 w5 ts5 e5 hr5 hB5)
        have hB6 := (hd _).trans hB5
        go_roundw
        case rel => exact ⟨j + 1, ts ++ ts5, by omega, by go_num, Lib.hid (by rw [List.map_append, hts.out, e5, HX.out, if_pos (show (Rx.node xk xl xh xs).kind = xk from rfl)]; rfl), (hB6.block _ (by omega)).trans hb0, (hB6.block _ (by omega)).trans hb1, hr5, hW.trans (hB6.mono (by omega)), Nat.le_trans hsz hB6.size⟩
        case measure => simp [intOf]; omega
      · have hkf : (xk == k) = false := by simpa using hkk
        cases hz : (cmp (.node xk xl xh xs) neu == 0)
        · rw [hz] at hE'
          go_wp2_with (first
            | (go_at_call 45; refine (hE' _ (hW.trans ((hd _).mono (by omega)))).mono ?_; clear hE'; rintro e' w1 ⟨rfl, hw1⟩; have hy1 := hw1.size; simp at hy1; have hk1 := (hw1.block wr.heap.size (by simp)).trans (heap_alloc_new wr _); obtain ⟨r0, r1, r2, r3⟩ := four hk1)
            | (at_builtin; refine wpList_append_lies _ rfl _ _ 28 rfl (w.heap.size + 2) 30 i0 (.agg #[.int .i64 0, .int .u8 0, .int .u8 0, .slice none 0 0]) 4 40 Tryz.underlying28 hi hz0 hz1 hz2 rfl (by decide) _ ts.length (ts.flatMap Tn.cells) rfl ((own_below (hrow.1.alloc _) hw1).alloc _) ⟨w1.heap.size, 0, none⟩ 1 1 (Tn.cells ⟨.node xk xl xh xs, A', c'⟩) rfl rfl (World.news_of_block (cs := #[.int .i64 xk, .int .u8 xl, .int .u8 xh, .slice A' xs.length c']) (t := 30) (fr := (0, 0)) (heap_alloc_new w1 _)) (tn_one1 _) (by decide) (by unfold maxLen; omega) (by omega) (by simp; omega) (w1.heap.size + 1) (by simp) ?_; intro g' cap' w5 hown5 hgrow5 hat5 hlt5))
          have hw1' : Below wr.heap.size wr w1 := ((Below.refl _ _).alloc (Nat.le_refl _) _).trans (hw1.mono (by simp))
          obtain ⟨hr5, hB5⟩ := row_step (t := ⟨.node xk xl xh xs, A', c'⟩) hrow hw1' hsz (hx'.keep (hS.mono hW.size) hw1') (fun b hb => ⟨hb, by have := hS b hb; omega, fun e => by have h6 := (own_blk_lt hrow.1 e).1; have := hS b hb; omega⟩) hown5 hgrow5 hat5
          go_roundw
          case rel => exact ⟨j + 1, _, by omega, by go_num, Lib.hid (by rw [List.map_append, hts.out, HX.out, if_neg (show ¬ (Rx.node xk xl xh xs).kind = k from hkk), if_neg (by simpa using hz)]; rfl), (hB5.block _ (by omega)).trans hb0, (hB5.block _ (by omega)).trans hb1, hr5, hW.trans (hB5.mono (by omega)), Nat.le_trans hsz hB5.size⟩
          case measure => simp [intOf]; omega
        · rw [hz] at hE'
          go_wp2_with (go_at_call 45; refine (hE' _ (hW.trans ((hd _).mono (by omega)))).mono ?_; clear hE'; rintro e' w1 ⟨rfl, hw1⟩; have hy1 := hw1.size; simp at hy1)
          have hB5 : Below wr.heap.size wr w1 := ((Below.refl _ _).alloc (Nat.le_refl _) _).trans (hw1.mono (by simp))
          go_roundw
          case rel => exact ⟨j + 1, ts, by omega, by go_num, Lib.hid (by rw [hts.out, HX.out, if_neg (show ¬ (Rx.node xk xl xh xs).kind = k from hkk), if_pos (by simpa using hz), List.append_nil]), (hB5.block _ (by omega)).trans hb0, (hB5.block _ (by omega)).trans hb1, hrow.below hB5, hW.trans (hB5.mono hW.size), Nat.le_trans hsz hB5.size⟩
          case measure => simp [intOf]; omega
    · obtain rfl : j = s.length := by omega
      obtain ⟨A1, c1, rfl⟩ := hrow.val
      have he := Lib.hid (List.take_length (l := s))
      clear hE hs
      go_wp2_with fail
      go_ret
      exact ⟨A1, c1, ts, rfl, ⟨⟨hrow.1.1, hrow.1.2.imp id (fun ⟨g, cap, cur, q1, q2, q3⟩ => ⟨g, cap, cur, q1, by omega, q3⟩)⟩, hrow.2⟩, by rw [hts.out, he.out], hW⟩
end Go.Proofs.YtnjkihbmhacgoaaGreatDoor
