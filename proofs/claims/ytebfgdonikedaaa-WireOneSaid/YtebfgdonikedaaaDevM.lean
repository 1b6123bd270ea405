/-
  THE WALKS of the program's Reader of wire, fourth part: ints, Text, Raw, Ints.
-/
import Derived.Test.YtebfgdonikedaaaDevL
namespace Go.Proofs.Ytebfgdonikedaaa
open Go.RowKit

theorem rdr_grown {W W' : World} {T : TypeId} {g : Nat} {s : Rst} {row : Option Nat} (h : RdrAt W T g s) (hg : W.grownBy W' row) (hr : ∀ j, row = some j → g < j) : RdrAt W' T g s := by
  obtain ⟨A, c, hk, hc, hA, hr0⟩ := h
  have hl : g < W.heap.size := (Array.getElem?_eq_some_iff.1 hk).1
  have hb : Below (g + 1) W W' := ⟨hg.os, hg.tape, hg.output, hg.size, fun k hk => hg.block k (by omega) (fun e => by have := hr k e.symm; omega)⟩
  exact ⟨A, c, (hb.block g (by omega)).trans hk, hc, hA, hr0.below (hb.mono (by omega))⟩
theorem grownBy_two {w W W' : World} {row : Option Nat} {g : Nat} (h : w.grownBy W (some g)) (hg : W.grownBy W' row) (hr : ∀ j, row = some j → w.heap.size ≤ j) : w.grownBy W' (some g) :=
  ⟨hg.os.trans h.os, hg.tape.trans h.tape, hg.output.trans h.output, Nat.le_trans h.size hg.size, fun k hk hne => (hg.block k (Nat.lt_of_lt_of_le hk h.size) (fun e => by have := hr k e.symm; omega)).trans (h.block k hk hne)⟩

theorem intR_len {s : Rst} (h8 : Bytes8 s.l) : (intR s).2.l.length ≤ s.l.length ∧ Bytes8 (intR s).2.l := uintR_len h8

set_option maxRecDepth 100000 in
set_option maxHeartbeats 2000000 in
theorem rints_any (g n : Nat) (t : Rst) (w : World) (h : RdrAt w 77 g (nrm t)) (h8 : Bytes8 t.l) (hl : t.l.length ≤ 900000) (hn : n ≤ 900000) :
    Calls Try.prog 58 #[.pointer (some ⟨g, 0, none⟩), .int .i64 n] w (RowPost w g 3 .i64 (intsGo n [] t).1 (nrm (intsGo n [] t).2)) := by
  obtain ⟨i0, hi, hz0, hz1, hz2⟩ := info_parts info_int
  have hgl : g < w.heap.size := by
    obtain ⟨_, _, hk, _⟩ := h
    exact (Array.getElem?_eq_some_iff.1 hk).1
  have hib : i0.bytes * n ≤ 281474976710656 := by rw [hz2]; omega
  go_enter Try.func58, Try.ntmps58
  go_wp2_with (refine wpList_make_own _ rfl _ _ 22 rfl w.heap.size 3 i0 (.int .i64 0) 1 Try.underlying22 hi hz0 hz1 .i64 .i64 n n rfl rfl rfl hib (by unfold maxLen; omega) (Nat.le_refl _) ?_; intro w1 hrow1 hg1)
  go_loopw [5, 9] (fun v i wr => ∃ (k : Nat) (acc : List Int) (t' : Rst), k ≤ n ∧ i = .int .i64 k ∧ Hid (intsGo n [] t = intsGo (n - k) acc t') ∧ Hid (acc.length = k) ∧ wr.ownsRow w.heap.size 3 1 v k (acc.map (Value.int .i64)) ∧ RdrAt wr 77 g (nrm t') ∧ w.grownBy wr (some g) ∧ Bytes8 t'.l ∧ t'.l.length ≤ 900000) (fun _ i _ => n - (intOf i).toNat)
  case atStart => exact ⟨0, [], t, Nat.zero_le _, rfl, Lib.hid rfl, Lib.hid rfl, hrow1, rdr_grown h hg1 (fun j ej => nomatch ej), grownBy_two (World.grownBy.refl w _) hg1 (fun j ej => nomatch ej), h8, hl⟩
  case round =>
    clear h hrow1 hg1 h8 hl
    obtain ⟨k, acc, t', hk, rfl, hgo, hal, hrow, hra, hW, h8', hl'⟩ := hrel
    have hsz := hW.size
    by_cases hlt : k < n
    · have hI := rInt_any g t' wr hra h8' hl'
      obtain ⟨hil, hi8⟩ := intR_len h8'
      have HG := Lib.hid (show intsGo n [] t = if (intR t').2.e = 0 then intsGo (n - (k + 1)) (acc ++ [(intR t').1]) (intR t').2 else ([], (intR t').2) by
        rw [hgo.out, show n - k = (n - (k + 1)) + 1 by omega, intsGo])
      clear hra h8'
      obtain ⟨x, hx⟩ : ∃ x, x = (intR t').1 := ⟨_, rfl⟩
      rw [← hx] at hI HG
      generalize (intR t').2 = t2 at hI HG hil hi8
      have he2 := nrm_e t2
      clear hx
      by_cases he : t2.e = 0
      · have HG2 := Lib.hid (show intsGo n [] t = intsGo (n - (k + 1)) (acc ++ [x]) t2 by rw [HG.out, if_pos he])
        have HE := Lib.hid (show (nrm t2).e = 0 by rw [he2, he])
        clear he he2
        go_wp2_with (first
          | (go_at_call 46; refine hI.mono ?_; clear hI; rintro e' w2 ⟨rfl, hr2, hg2⟩; have hrow2 := hrow.kept hg2 (.inr (fun e => by have := (hrow.lt g e).1; omega)); have hsz2 : w.heap.size ≤ w2.heap.size := Nat.le_trans hsz hg2.size)
          | (at_builtin; refine wpList_append_own _ rfl (.tmp 11) (.tmp 14) 22 rfl w.heap.size 3 i0 (.int .i64 0) 1 8 Try.underlying22 hi hz0 hz1 hz2 rfl (by decide) _ k _ rfl (hrow2.alloc _) ⟨w2.heap.size, 0, none⟩ 1 1 [.int .i64 x] rfl rfl (cell_one_new _ _ _) (by simp [Value.oneCell']) (by unfold maxLen; omega) (by omega) (by simp; omega) ?_; intro v' w3 hown' hgrow _; have hr3 := rdr_grown (rdr_grown hr2 (World.grownBy_alloc w2 _ none) (fun j ej => nomatch ej)) hgrow (fun j ej => by have := (hrow2.lt j ej).1; omega); obtain ⟨A, c, q0, q1, f0, f1, HK, hc, hA, hr⟩ := rdr_cells hr3; have hW3 := grownBy_two (grownBy_two (hW.trans hg2) (World.grownBy_alloc w2 _ none) (fun j ej => nomatch ej)) hgrow (fun j ej => (hrow2.lt j ej).1); rw [HE.out] at q1))
        go_roundw
        case rel =>
          refine ⟨k + 1, acc ++ [x], t2, by omega, by go_num, HG2, Lib.hid (by rw [List.length_append, hal.out]; rfl), ?_, hr3, hW3, hi8, by omega⟩
          rw [List.map_append]
          exact hown'
        case measure => simp [intOf]; omega
      · have HG2 := Lib.hid (show intsGo n [] t = ([], t2) by rw [HG.out, if_neg he])
        have HE := Lib.hid (show (nrm t2).e = t2.e from he2)
        have b1 : (t2.e != 0) = true := by simpa using he
        clear he he2
        go_wp2_with (first
          | (go_at_call 46; refine hI.mono ?_; clear hI; rintro e' w2 ⟨rfl, hr2, hg2⟩; have hrow2 := hrow.kept hg2 (.inr (fun e => by have := (hrow.lt g e).1; omega)); have hsz2 : w.heap.size ≤ w2.heap.size := Nat.le_trans hsz hg2.size)
          | (at_builtin; refine wpList_append_own _ rfl (.tmp 11) (.tmp 14) 22 rfl w.heap.size 3 i0 (.int .i64 0) 1 8 Try.underlying22 hi hz0 hz1 hz2 rfl (by decide) _ k _ rfl (hrow2.alloc _) ⟨w2.heap.size, 0, none⟩ 1 1 [.int .i64 x] rfl rfl (cell_one_new _ _ _) (by simp [Value.oneCell']) (by unfold maxLen; omega) (by omega) (by simp; omega) ?_; intro v' w3 hown' hgrow _; have hr3 := rdr_grown (rdr_grown hr2 (World.grownBy_alloc w2 _ none) (fun j ej => nomatch ej)) hgrow (fun j ej => by have := (hrow2.lt j ej).1; omega); obtain ⟨A, c, q0, q1, f0, f1, HK, hc, hA, hr⟩ := rdr_cells hr3; have hW3 := grownBy_two (grownBy_two (hW.trans hg2) (World.grownBy_alloc w2 _ none) (fun j ej => nomatch ej)) hgrow (fun j ej => (hrow2.lt j ej).1); rw [HE.out] at q1))
        go_ret
        refine ⟨none, 0, ?_, Nat.le_of_eq ?_, ?_, ?_, ?_⟩
        · rw [HG2.out]; rfl
        · rw [HG2.out]; rfl
        · rw [HG2.out]; exact World.ownsRow_nil _ _ _ _
        · rw [HG2.out]; exact hr3
        · exact hW3
    · obtain rfl : k = n := by omega
      have HG2 := Lib.hid (show intsGo k [] t = (acc, t') by rw [hgo.out, Nat.sub_self]; rfl)
      obtain ⟨A, c, rfl⟩ := own_slice hrow
      go_wp2
      go_ret
      refine ⟨A, c, ?_, ?_, ?_, ?_, hW⟩
      · rw [HG2.out]; simp only; rw [hal.out]; rfl
      · rw [HG2.out]; simp only; rw [hal.out]; exact own_cap hrow
      · rw [HG2.out]; simp only; rw [hal.out]; exact hrow
      · rw [HG2.out]; exact hra

theorem intsR_go (s : Rst) : intsR s = intsGo (lenR s).1 [] (lenR s).2 := by
  unfold intsR
  by_cases h : (lenR s).2.e = 0
  · rw [if_pos h]
  · rw [if_neg h, lenR_zero h]; rfl
theorem lenR_bd (s : Rst) (h8 : Bytes8 s.l) (hl : s.l.length ≤ 900000) : (lenR s).2.l.length ≤ 900000 ∧ Bytes8 (lenR s).2.l ∧ (lenR s).1 ≤ 900000 := by
  have h1 := lenR_nrm s h8
  have h2 := lenR_short s h8
  obtain ⟨h3, h4⟩ := uintR_len h8
  refine ⟨?_, ?_, by omega⟩
  · unfold lenR
    split
    · split
      · show (uintR s).2.l.length ≤ _; omega
      · show (uintR s).2.l.length ≤ _; omega
    · show (uintR s).2.l.length ≤ _; omega
  · unfold lenR
    split
    · split <;> exact h4
    · exact h4
theorem rText_any (g : Nat) (s : Rst) (w : World) (h : RdrAt w 77 g (nrm s)) (h8 : Bytes8 s.l) (hl : s.l.length ≤ 900000) :
    Calls Try.prog 47 #[.pointer (some ⟨g, 0, none⟩)] w (RdrPost w 77 g (.string (strOfNums (rawR s).1)) (nrm (rawR s).2)) := by
  have hl2 := lenR_short s h8
  have hL := listText_any g s w h h8 hl (fun W => RdrPost W 77 g (.string (strOfNums (rawR s).1)) (nrm (rawR s).2)) (fun W hW hr => by
    have := rtext_any g (lenR s).1 (nrm (lenR s).2) W hr (lenR_nrm s h8) (by omega)
    rw [(rawR_nrm s).1, (rawR_nrm s).2] at this
    exact this.mono fun e w' hp => ⟨_, hp.1, by rw [← hp.1]; exact hp⟩)
  generalize nrm (rawR s).2 = s2 at hL
  generalize (rawR s).1 = zs at hL
  clear h h8 hl hl2
  go_enter Try.func47, Try.ntmps47
  go_wp2_with (go_at_call 65; refine hL.mono ?_; clear hL; rintro e' w1 ⟨W, hW, rfl, hr1, hg1⟩)
  go_ret
  exact ⟨rfl, hr1, hW.trans hg1⟩
theorem rRaw_any (g : Nat) (s : Rst) (w : World) (h : RdrAt w 77 g (nrm s)) (h8 : Bytes8 s.l) (hl : s.l.length ≤ 900000) :
    Calls Try.prog 33 #[.pointer (some ⟨g, 0, none⟩)] w (RowPost w g 5 .u8 (rawR s).1 (nrm (rawR s).2)) := by
  have hl2 := lenR_short s h8
  have hL := listRaw_any g s w h h8 hl (fun W => RowPost W g 5 .u8 (rawR s).1 (nrm (rawR s).2)) (fun W hW hr => by
    have := rraw_any g (lenR s).1 (nrm (lenR s).2) W hr (lenR_nrm s h8) (by omega)
    rw [(rawR_nrm s).1, (rawR_nrm s).2] at this
    exact this.mono fun e w' hp => by obtain ⟨A, c, rfl, hp⟩ := hp; exact ⟨_, rfl, A, c, rfl, hp⟩)
  generalize nrm (rawR s).2 = s2 at hL
  generalize (rawR s).1 = zs at hL
  clear h h8 hl hl2
  go_enter Try.func33, Try.ntmps33
  go_wp2_with (go_at_call 55; refine hL.mono ?_; clear hL; rintro e' w1 ⟨W, hW, A1, c1, rfl, hc1, hrow1, hr1, hg1⟩)
  go_ret
  exact ⟨A1, c1, rfl, hc1, own_base hrow1 hW.size, hr1, hW.trans hg1⟩
theorem rInts_any (g : Nat) (s : Rst) (w : World) (h : RdrAt w 77 g (nrm s)) (h8 : Bytes8 s.l) (hl : s.l.length ≤ 900000) :
    Calls Try.prog 35 #[.pointer (some ⟨g, 0, none⟩)] w (RowPost w g 3 .i64 (intsR s).1 (nrm (intsR s).2)) := by
  obtain ⟨hl2, h82, hn2⟩ := lenR_bd s h8 hl
  have hL := listInts_any g s w h h8 hl (fun W => RowPost W g 3 .i64 (intsR s).1 (nrm (intsR s).2)) (fun W hW hr => by
    have := rints_any g (lenR s).1 (lenR s).2 W hr h82 hl2 hn2
    rw [← intsR_go s] at this
    exact this.mono fun e w' hp => by obtain ⟨A, c, rfl, hp⟩ := hp; exact ⟨_, rfl, A, c, rfl, hp⟩)
  generalize nrm (intsR s).2 = s2 at hL
  generalize (intsR s).1 = zs at hL
  clear h h8 hl hl2 h82 hn2
  go_enter Try.func35, Try.ntmps35
  go_wp2_with (go_at_call 57; refine hL.mono ?_; clear hL; rintro e' w1 ⟨W, hW, A1, c1, rfl, hc1, hrow1, hr1, hg1⟩)
  go_ret
  exact ⟨A1, c1, rfl, hc1, own_base hrow1 hW.size, hr1, hW.trans hg1⟩
end Go.Proofs.Ytebfgdonikedaaa
