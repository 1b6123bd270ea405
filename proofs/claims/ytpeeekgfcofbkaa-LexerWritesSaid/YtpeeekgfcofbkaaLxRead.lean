/-
  THE CLOSURE that moves past the next token of a text. Written by gen/genlxread.py.
-/
import Derived.Test.YtpeeekgfcofbkaaLxFirst
import Derived.Test.YtpeeekgfcofbkaaRegLast
namespace Go.Proofs.Ytpeeekgfcofbkaa
open Go.RowKit

theorem qd_size : ∀ (f i : Nat) (acc l : List Int), Bytes8 l → (qdGo f i acc l).2.1 ≤ i + l.length
  | 0, i, acc, l, _ => Nat.zero_le _
  | f + 1, i, acc, [], _ => Nat.zero_le _
  | f + 1, i, acc, c :: r, h8 => by
    obtain ⟨h1, h2⟩ := item_ok h8
    show (if c = 34 then _ else if (itemF (c :: r)).2.2 = 2 then _ else if (itemF (c :: r)).2.2 = 3 then _ else qdGo f (i + (itemF (c :: r)).2.1) _ _ : Tk × Nat × Int).2.1 ≤ _
    split
    · show i + 1 ≤ i + (c :: r).length
      simp
    · split
      · exact Nat.zero_le _
      · split
        · exact Nat.zero_le _
        · have h0 : (itemF (c :: r)).2.2 = 0 := by
            rcases h1 with h1 | h1 | h1
            · exact h1
            · contradiction
            · contradiction
          obtain ⟨a1, a2, _⟩ := h2 h0
          have ih := qd_size f (i + (itemF (c :: r)).2.1) (acc ++ [(itemF (c :: r)).1]) ((c :: r).drop (itemF (c :: r)).2.1) (fun z hz => h8 z (List.mem_of_mem_drop hz))
          rw [List.length_drop] at ih
          omega
theorem qd_place : ∀ (f i : Nat) (acc l : List Int), Bytes8 l → (qdGo f i acc l).1.p ≤ i + l.length
  | 0, i, acc, l, _ => Nat.le_add_right _ _
  | f + 1, i, acc, [], _ => Nat.le_refl _
  | f + 1, i, acc, c :: r, h8 => by
    obtain ⟨h1, h2⟩ := item_ok h8
    show (if c = 34 then _ else if (itemF (c :: r)).2.2 = 2 then _ else if (itemF (c :: r)).2.2 = 3 then _ else qdGo f (i + (itemF (c :: r)).2.1) _ _ : Tk × Nat × Int).1.p ≤ _
    split
    · exact Nat.zero_le _
    · split
      · exact Nat.le_add_right _ _
      · split
        · exact Nat.le_refl _
        · have h0 : (itemF (c :: r)).2.2 = 0 := by
            rcases h1 with h1 | h1 | h1
            · exact h1
            · contradiction
            · contradiction
          obtain ⟨a1, a2, _⟩ := h2 h0
          have ih := qd_place f (i + (itemF (c :: r)).2.1) (acc ++ [(itemF (c :: r)).1]) ((c :: r).drop (itemF (c :: r)).2.1) (fun z hz => h8 z (List.mem_of_mem_drop hz))
          rw [List.length_drop] at ih
          omega
theorem first_place {l : List Int} (h8 : Bytes8 l) : (firstF l).1.p ≤ l.length := by
  cases l with
  | nil => exact Nat.le_refl _
  | cons c r =>
    rw [first_cons]
    split
    · exact Nat.zero_le _
    · split
      · exact Nat.zero_le _
      · split
        · have := qd_place r.length 1 [] r (fun z hz => h8 z (by simp [hz]))
          simp only [List.length_cons]
          omega
        · unfold bareF
          split
          · exact Nat.zero_le _
          · exact Nat.zero_le _
theorem first_size {l : List Int} (h8 : Bytes8 l) : (firstF l).2.1 ≤ l.length := by
  cases l with
  | nil => exact Nat.le_refl _
  | cons c r =>
    rw [first_cons]
    split
    · show 1 ≤ _; simp
    · split
      · show 1 ≤ _; simp
      · split
        · have := qd_size r.length 1 [] r (fun z hz => h8 z (by simp [hz]))
          simp only [List.length_cons]
          omega
        · unfold bareF
          split
          · exact span_le _ _
          · exact Nat.zero_le _
/-- the token behind a place of a text, the place behind it, the error -/
def nxT (l : List Int) (o : Nat) : Tk × Nat × Int :=
  (⟨(firstF (l.drop (o + gp false (l.drop o)))).1.k, (firstF (l.drop (o + gp false (l.drop o)))).1.t, (firstF (l.drop (o + gp false (l.drop o)))).1.p + (o + gp false (l.drop o))⟩, o + gp false (l.drop o) + (firstF (l.drop (o + gp false (l.drop o)))).2.1, (firstF (l.drop (o + gp false (l.drop o)))).2.2)
/-- the closure's two boxes: what is left of the text, the text -/
def RdX (w : World) (r b : Nat) (S rest : ByteArray) : Prop := w.heap[r]? = some (.cells #[.string rest] 9 (0, 0)) ∧ w.heap[b]? = some (.cells #[.string S] 9 (0, 0)) ∧ r ≠ b
theorem one_at {w : World} {b : Nat} {t : TypeId} {c0 : Value} (hb : w.heap[b]? = some (.cells #[c0] t (0, 0))) : w.cell? ⟨b, 0, none⟩ = some c0 ∧ ∀ i, w.frozen? ⟨b, i, none⟩ = false :=
  ⟨by rw [cell_of_row w b 0 _ t _ hb]; rfl, fun i => by simp [World.frozen?, hb]⟩
theorem RdX.lt {w : World} {r b : Nat} {S rest : ByteArray} (h : RdX w r b S rest) : r < w.heap.size ∧ b < w.heap.size := ⟨(Array.getElem?_eq_some_iff.1 h.1).1, (Array.getElem?_eq_some_iff.1 h.2.1).1⟩
theorem RdX.below {w w' : World} {r b : Nat} {S rest : ByteArray} (h : RdX w r b S rest) (hb : Below w.heap.size w w') : RdX w' r b S rest := ⟨(hb.block _ h.lt.1).trans h.1, (hb.block _ h.lt.2).trans h.2.1, h.2.2⟩
theorem RdX.put {w : World} {r b : Nat} {S rest : ByteArray} (h : RdX w r b S rest) (t : ByteArray) : RdX (w.setCell ⟨r, 0, none⟩ (.string t)) r b S t := ⟨(blk_set h.1 (.string t)).trans rfl, (Below.heap_setCell w ⟨r, 0, none⟩ (.string t) b (fun e => h.2.2 e.symm)).trans h.2.1, h.2.2⟩
theorem RdX.far {w : World} {r b N : Nat} {S rest : ByteArray} (h : RdX w r b S rest) (hr : r ≠ N) (hb : b ≠ N) (i : Nat) (v : Value) : RdX (w.setCell ⟨N, i, none⟩ v) r b S rest := ⟨(Below.heap_setCell w ⟨N, i, none⟩ v r hr).trans h.1, (Below.heap_setCell w ⟨N, i, none⟩ v b hb).trans h.2.1, h.2.2⟩
theorem grown_far3 {w W : World} {r N : Nat} (h : w.grownBy W (some r)) (hN : w.heap.size ≤ N) (i : Nat) (v : Value) : w.grownBy (W.setCell ⟨N, i, none⟩ v) (some r) :=
  ⟨h.1, h.2, h.3, by simp [World.setCell]; exact h.4, fun j hj hne => (Below.heap_setCell W ⟨N, i, none⟩ v j (by show j ≠ N; omega)).trans (h.block j hj hne)⟩
theorem grown_put {w W : World} {r : Nat} (h : w.grownBy W (some r)) (i : Nat) (v : Value) : w.grownBy (W.setCell ⟨r, i, none⟩ v) (some r) := h.trans (grown_set W r i v)
theorem grown_bel {w W W' : World} {r : Nat} (h : w.grownBy W (some r)) (hb : Below W.heap.size W W') : w.grownBy W' (some r) := h.trans ⟨hb.os, hb.tape, hb.output, hb.size, fun i hi _ => hb.block i hi⟩
set_option maxHeartbeats 4000000 in
set_option maxRecDepth 100000 in
theorem readerIt_any (r b : Nat) (S rest : ByteArray) (o : Nat) (w : World) (h : RdX w r b S rest) (hl : sb rest = (sb S).drop o) (ho : o ≤ S.size) (hs : S.size ≤ 1000000) :
    Calls Try.prog 54 #[.pointer (some ⟨r, 0, none⟩), .pointer (some ⟨b, 0, none⟩)] w fun e w' => ∃ rest', e = .returned (.tuple #[(nxT (sb S) o).1.val, .int .i64 (nxT (sb S) o).2.2]) ∧ RdX w' r b S rest' ∧ sb rest' = (sb S).drop (nxT (sb S) o).2.1 ∧ w.grownBy w' (some r) := by
  have hsz : rest.size = S.size - o := by rw [← sb_length, hl, List.length_drop, sb_length]
  obtain ⟨g, hg⟩ : ∃ g, g = gp false ((sb S).drop o) := ⟨_, rfl⟩
  have hgl : g ≤ S.size - o := by
    have := gp_le ((sb S).drop o) false
    rw [List.length_drop, sb_length] at this
    omega
  have HG := Lib.hid (fun W => gap_any rest W (by omega))
  rw [hl, ← hg] at HG
  obtain ⟨rest1, hr1⟩ : ∃ t, t = rest.extract g rest.size := ⟨_, rfl⟩
  have hl1 : sb rest1 = (sb S).drop (o + g) := by rw [hr1, sb_from, hl, List.drop_drop]
  have hsz1 : rest1.size = S.size - (o + g) := by rw [← sb_length, hl1, List.length_drop, sb_length]
  have HF := Lib.hid (fun W => first_any rest1 W (by omega))
  rw [hl1] at HF
  have hfs := first_size (l := (sb S).drop (o + g)) (fun z hz => sb_bytes S z (List.mem_of_mem_drop hz))
  rw [List.length_drop, sb_length] at hfs
  have hfp := first_place (l := (sb S).drop (o + g)) (fun z hz => sb_bytes S z (List.mem_of_mem_drop hz))
  rw [List.length_drop, sb_length] at hfp
  have HN := Lib.hid (show nxT (sb S) o = (⟨(firstF ((sb S).drop (o + g))).1.k, (firstF ((sb S).drop (o + g))).1.t, (firstF ((sb S).drop (o + g))).1.p + (o + g)⟩, o + g + (firstF ((sb S).drop (o + g))).2.1, (firstF ((sb S).drop (o + g))).2.2) from by rw [hg]; rfl)
  obtain ⟨V, hV⟩ : ∃ V, V = firstF ((sb S).drop (o + g)) := ⟨_, rfl⟩
  rw [← hV] at HF HN hfs hfp
  clear hV
  obtain ⟨NV, hNV⟩ : ∃ V, V = nxT (sb S) o := ⟨_, rfl⟩
  rw [← hNV] at HN ⊢
  clear hNV
  obtain ⟨⟨tk, tt, tp⟩, sz, er⟩ := V
  simp only at hfs hfp HN
  have hl2 := Lib.hid (show sb (rest1.extract sz rest1.size) = (sb S).drop (o + g + sz) from by rw [sb_from, hl1, List.drop_drop])
  have hc0 : (g : Int) ≤ (rest.size : Int) := by omega
  have hc1 : (sz : Int) ≤ (rest1.size : Int) := by omega
  obtain ⟨m, hm⟩ : ∃ m, m = o + g := ⟨_, rfl⟩
  obtain ⟨q, hq⟩ : ∃ q, q = tp + (o + g) := ⟨_, rfl⟩
  have hs1 : (S.size : Int) - (rest1.size : Int) = (m : Int) := by omega
  have hw1 : IntKind.i64.wrap (m : Int) = (m : Int) := IntWalk.i64_in _ ⟨by omega, by omega⟩
  have hs2 : (tp : Int) + (m : Int) = (q : Int) := by omega
  have hw2 : IntKind.i64.wrap (q : Int) = (q : Int) := IntWalk.i64_in _ ⟨by omega, by omega⟩
  rw [← hq] at HN
  replace hq := Lib.hid hq
  replace hm := Lib.hid hm
  replace hsz1 := Lib.hid hsz1
  have hlt := h.lt
  have hrN : r ≠ w.heap.size := by omega
  have hbN : b ≠ w.heap.size := by omega
  have hb0 := Lib.hid (heap_alloc_new w (.cells #[.int .i64 0, .string ⟨#[]⟩, .int .i64 0] 43))
  have hB0 := (Below.refl w.heap.size w).alloc (Nat.le_refl _) (.cells #[.int .i64 0, .string ⟨#[]⟩, .int .i64 0] 43)
  have hX0 := Lib.hid (h.below hB0)
  have hz0 : w.heap.size < (w.alloc (.cells #[.int .i64 0, .string ⟨#[]⟩, .int .i64 0] 43)).heap.size := by simp
  replace hB0 := Lib.hid hB0
  have hl := Lib.hid hl
  have hl1 := Lib.hid hl1
  clear h hsz hg hgl hfs hfp
  go_enter Try.func54, Try.ntmps54
  go_wp2_with fail
  generalize (w.alloc (.cells #[.int .i64 0, .string ⟨#[]⟩, .int .i64 0] 43)) = w0 at *
  have hd : Below w0.heap.size w0 w0.drew := (Below.refl _ _).drew
  have HC := Lib.hid (fun W (hW : Below w0.heap.size w0 W) => (one_at (hX0.out.below hW).1).1)
  have hSd := HC.out _ hd
  refine region_lastp (fun W => W.cell? ⟨r, 0, none⟩ = some (.string rest)) (by kernel_rfl) rfl (by kernel_rfl) ?_
  (try simp only [List.pop_toArray, List.dropLast_cons_cons, List.dropLast_singleton, List.size_toArray, List.length_cons, List.length_nil, Nat.zero_add, Nat.reduceAdd])
  refine wpAnyH_takeL (i := 0) (v := ?v1) rfl (by kernel_rfl) (by kernel_rfl) (by kernel_rfl) (fun _ _ _ h => h) (Or.inl ⟨by rfl, ?y1⟩) (by assumption) ?r1
  case y1 => (intro W hSw; (try dsimp only at hSw); go_simp; try with_reducible rfl)
  (try simp only [Act.put, List.setIfInBounds_toArray, List.set_cons_zero, List.set_cons_succ])
  refine wpAnyH_takeL (i := 1) (v := ?v2) rfl (by kernel_rfl) (by kernel_rfl) (by kernel_rfl) (fun _ _ _ h => h) (Or.inl ⟨by rfl, ?y2⟩) (by assumption) ?r2
  case y2 => (intro W hSw; (try dsimp only at hSw); go_simp; try with_reducible rfl)
  (try simp only [Act.put, List.setIfInBounds_toArray, List.set_cons_zero, List.set_cons_succ])
  refine wpAnyH_ready (rs := [2]) (by kernel_rfl) (by simp) ?_
  refine consL rfl (fun K hK => ?_) AllReadyH.nil
  go_simp
  refine Calls.mono (HG.out _) ?_
  rintro e w2 ⟨rfl, h2⟩
  have g2 : Below w0.heap.size w0 w2 := hd.trans (h2.mono hd.size)
  have hS2 := HC.out _ g2
  refine hK.out _ _ (hS2) (fun hHeld => ?_)
  clear hK K
  (try simp only [Act.put, List.setIfInBounds_toArray, List.set_cons_zero, List.set_cons_succ])
  refine wpAnyH_takeL (i := 3) (v := ?v3) rfl (by kernel_rfl) (by kernel_rfl) (by kernel_rfl) (fun _ _ _ h => h) (Or.inl ⟨by rfl, ?y3⟩) (by assumption) ?r3
  case y3 => (intro W hSw; (try dsimp only at hSw); go_simp; try with_reducible rfl)
  (try simp only [Act.put, List.setIfInBounds_toArray, List.set_cons_zero, List.set_cons_succ])
  have hf2 := (one_at (hX0.out.below g2).1).2
  refine wpAnyH_done (by kernel_rfl) ?_ _
  refine lastQ_of rfl (fun K hK => ?_)
  go_simp
  refine hK.out _ _ ?_
  clear hK K
  rw [← hr1]
  have hX3 := (hX0.out.below g2).put rest1
  have hB2 := hB0.out.trans (g2.mono hB0.out.size)
  have G3 : w.grownBy (w2.setCell ⟨r, 0, none⟩ (.string rest1)) (some r) := grown_put (⟨hB2.os, hB2.tape, hB2.output, hB2.size, fun i hi _ => hB2.block i hi⟩) _ _
  have hb3 : (w2.setCell ⟨r, 0, none⟩ (.string rest1)).heap[w.heap.size]? = _ := (Below.heap_setCell w2 ⟨r, 0, none⟩ (.string rest1) w.heap.size (fun e => hrN e.symm)).trans ((g2.block _ hz0).trans hb0.out)
  have hz3 : w.heap.size < (w2.setCell ⟨r, 0, none⟩ (.string rest1)).heap.size := by simp [World.setCell]; have := g2.size; omega
  clear hr1 h2 g2 hB2 hd HC hX0 hB0 hb0 hz0 hf2 hS2 hSd hHeld HG
  generalize w2.setCell ⟨r, 0, none⟩ (.string rest1) = w3 at *
  obtain ⟨c0, f0⟩ := one_at hX3.1
  replace hb3 := Lib.hid hb3
  replace hX3 := Lib.hid hX3
  replace G3 := Lib.hid G3
  go_wp2_with fail
  refine Calls.mono (HF.out _) ?_
  clear HF
  rintro e w4 ⟨rfl, h4⟩
  have hX4 := Lib.hid (hX3.out.below h4)
  have G4 := Lib.hid (grown_bel G3.out h4)
  have hb4 := Lib.hid ((h4.block _ hz3).trans hb3.out)
  have hz4 := Nat.lt_of_lt_of_le hz3 h4.size
  clear c0 f0 hX3 G3 hb3 hz3 h4
  simp only [Tk.val]
  have BA : Below w4.heap.size w4 (w4.alloc (.cells #[.int .i64 tk, .string (strOfNums tt), .int .i64 (tp : Nat)] 43)) := (Below.refl _ _).alloc (Nat.le_refl _) _
  have BB : Below w4.heap.size w4 (w4.alloc (.cells #[.int .i64 tk, .string (strOfNums tt), .int .i64 (q : Int)] 43)) := (Below.refl _ _).alloc (Nat.le_refl _) _
  obtain ⟨ca, fa⟩ := one_at (hX4.out.below BA).1
  obtain ⟨cb, fb⟩ := one_at (hX4.out.below BA).2.1
  have hX5 := hX4.out.below BB
  obtain ⟨cc, fc⟩ := one_at hX5.1
  have hX6 := hX5.put (rest1.extract sz rest1.size)
  have G6 : w.grownBy ((w4.alloc (.cells #[.int .i64 tk, .string (strOfNums tt), .int .i64 (q : Int)] 43)).setCell ⟨r, 0, none⟩ (.string (rest1.extract sz rest1.size))) (some r) := grown_put (grown_bel G4.out BB) _ _
  have hb6 : ((w4.alloc (.cells #[.int .i64 tk, .string (strOfNums tt), .int .i64 (q : Int)] 43)).setCell ⟨r, 0, none⟩ (.string (rest1.extract sz rest1.size))).heap[w.heap.size]? = _ := (Below.heap_setCell (w4.alloc (.cells #[.int .i64 tk, .string (strOfNums tt), .int .i64 (q : Int)] 43)) ⟨r, 0, none⟩ (.string (rest1.extract sz rest1.size)) w.heap.size (fun e => hrN e.symm)).trans ((BB.block _ hz4).trans hb4.out)
  obtain ⟨⟨p0, p1, p2⟩, hf⟩ := three_at3 hb6
  replace hb6 := Lib.hid hb6
  replace hX6 := Lib.hid hX6
  replace G6 := Lib.hid G6
  replace hX5 := Lib.hid hX5
  replace BA := Lib.hid BA
  replace BB := Lib.hid BB
  go_wp2_with fail
  refine bodyPost_ret (v := .tuple #[.agg #[.int .i64 tk, .string (strOfNums tt), .int .i64 (q : Nat)], .int .i64 er]) (by simp [results, Try.results54, go_sem, p0, p1, p2]) rfl ?_
  refine ⟨rest1.extract sz rest1.size, by rw [HN.out]; rfl, ((hX6.out.far hrN hbN _ _).far hrN hbN _ _).far hrN hbN _ _, by rw [HN.out]; exact hl2.out, grown_far3 (grown_far3 (grown_far3 G6.out (Nat.le_refl _) _ _) (Nat.le_refl _) _ _) (Nat.le_refl _) _ _⟩
end Go.Proofs.Ytpeeekgfcofbkaa
