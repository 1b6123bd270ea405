/-
  THE WALK of the reference's put: into a rising list, unless it is there.
-/
import Derived.Test.YtnjkihbmhacgoaaGreatDoorRxNfId
import Derived.Test.YtnjkihbmhacgoaaGreatDoorRxECmp
import Derived.Test.YtnjkihbmhacgoaaGreatDoorRxAft
import Derived.BigQuiet
namespace Go.Proofs.YtnjkihbmhacgoaaGreatDoor
open Go.RowKit

/-- the call returns a list of expressions -/
def GivesL (w : World) (l : List Rx) (e : Ending) (w' : World) : Prop := ∃ A c, e = .returned (.slice A l.length c) ∧ l.length ≤ c ∧ (A = none → c = 0) ∧ RtL w' (Lo w'.heap.size) l A ∧ Below w.heap.size w w'
/-- the call returns a list of expressions, in blocks of S and new ones -/
def GivesLS (S : Nat → Prop) (w : World) (l : List Rx) (e : Ending) (w' : World) : Prop := ∃ A c, e = .returned (.slice A l.length c) ∧ l.length ≤ c ∧ (A = none → c = 0) ∧ RtL w' (Plus S w.heap.size w'.heap.size) l A ∧ Below w.heap.size w w'
theorem below_dn {n N : Nat} {w w' : World} (h : Below n w w') : Below n w (w'.drewN N) := ⟨h.os, h.tape, h.output, h.size, h.block⟩
theorem ins_less {x : Rx} {s : List Rx} {k : Nat} (hk : k < s.length) (h : cmp s[k] x < 0) (hi : ins x s = s.take k ++ ins x (s.drop k)) : ins x s = s.take (k + 1) ++ ins x (s.drop (k + 1)) := by
  rw [hi, List.drop_eq_getElem_cons hk, ins, if_pos h, List.take_succ_eq_append_getElem hk, List.append_assoc]; rfl
theorem ins_same {x : Rx} {s : List Rx} {k : Nat} (hk : k < s.length) (h : cmp s[k] x = 0) (hi : ins x s = s.take k ++ ins x (s.drop k)) : ins x s = s := by
  rw [hi, List.drop_eq_getElem_cons hk, ins, if_neg (by omega), if_pos h, ← List.drop_eq_getElem_cons hk, List.take_append_drop]
theorem ins_more {x : Rx} {s : List Rx} {k : Nat} (hk : k < s.length) (h : 0 < cmp s[k] x) (hi : ins x s = s.take k ++ ins x (s.drop k)) : ins x s = s.take k ++ (x :: s.drop k) := by
  rw [hi, List.drop_eq_getElem_cons hk, ins, if_neg (by omega), if_neg (by omega)]
theorem ins_end {x : Rx} {s : List Rx} (hi : ins x s = s.take s.length ++ ins x (s.drop s.length)) : ins x s = s.take s.length ++ (x :: s.drop s.length) := by
  rw [List.drop_length] at hi ⊢; exact hi

set_option maxHeartbeats 2000000 in
set_option maxRecDepth 100000 in
theorem ePut_any (x : Rx) (v : Value) (s : List Rx) (A : Option Addr) (c : Nat) (w : World) (S : Nat → Prop) (hSk : SOk S w.heap.size) (hv : RtV w S x v) (hs : RtL w S s A) (hc : s.length ≤ c) (hA : A = none → c = 0) (hl : s.length ≤ 100000) :
    Calls Tryz.prog 63 #[.slice A s.length c, v] w (GivesLS S w (ins x s)) := by
  obtain ⟨⟨ok1, ok2, ok3, ok4⟩, B, d, rfl, hd, hB, hxs⟩ := hv.parts
  obtain ⟨i0, hi, hz0, hz1, hz2⟩ := info_parts info_eRegex
  have hC : ∀ (j : Nat) (hj : j < s.length) W, Below w.heap.size w W → ∀ A' c', RtV w S s[j] (rxv s[j].kind s[j].lo s[j].hi A' s[j].kids.length c') → Calls Tryz.prog 28 #[rxv s[j].kind s[j].lo s[j].hi A' s[j].kids.length c', rxv x.kind x.lo x.hi B x.kids.length d] W fun e w' => e = .returned (.int .i64 (cmp s[j] x)) ∧ Below W.heap.size W w' := fun j hj W hW A' c' h => eCmp_any _ _ _ _ W ((h.keep hSk hW).lo (hSk.mono hW.size)) ((hv.keep hSk hW).lo (hSk.mono hW.size))
  have hr0 := heap_alloc_new w (.cells #[.int .i64 x.kind, .int .u8 x.lo, .int .u8 x.hi, .slice B x.kids.length d] 25)
  have hB0 : Below w.heap.size w (w.alloc (.cells #[.int .i64 x.kind, .int .u8 x.lo, .int .u8 x.hi, .slice B x.kids.length d] 25)) := (Below.refl _ _).alloc (Nat.le_refl _) _
  replace hC := Lib.hid hC
  have hX := Lib.hid hxs
  have hV := Lib.hid hv
  clear hxs hv
  unfold rxv
  go_enter Tryz.func63, Tryz.ntmps63
  go_wp2_with fail
  go_loopw [5] (fun u wr => ∃ j : Nat, j ≤ s.length ∧ u = .int .i64 j ∧ Hid (ins x s = s.take j ++ ins x (s.drop j)) ∧ wr.heap[w.heap.size]? = some (.cells #[.int .i64 x.kind, .int .u8 x.lo, .int .u8 x.hi, .slice B x.kids.length d] 25 (0, 0)) ∧ Below w.heap.size w wr ∧ w.heap.size + 1 ≤ wr.heap.size) (fun u _ => s.length - (intOf u).toNat)
  case atStart => exact ⟨0, Nat.zero_le _, rfl, Lib.hid (by simp), hr0, hB0, by simp⟩
  case round =>
    obtain ⟨j, hj, rfl, hin, hb0, hW, hsz⟩ := hrel
    clear hr0 hB0
    obtain ⟨p0, p1, p2, p3⟩ := four hb0
    by_cases hlt : j < s.length
    · have hd1 : decide ((j : Int) < (s.length : Int)) = true := decide_eq_true (by omega)
      obtain ⟨bl, o, A', c', hAe, hbl, h4, hx⟩ := hs.get hlt
      have h4' := h4.to (hW.block bl (hSk _ hbl))
      have hCj := hC.out j hlt
      have hCj := fun W hW => hCj W hW _ _ hx
      have i1 := Lib.hid (fun h => ins_less (x := x) hlt h hin.out)
      have i2 := Lib.hid (fun h => ins_same (x := x) hlt h hin.out)
      have i3 := Lib.hid (fun h => ins_more (x := x) hlt h hin.out)
      have hr3 := cmp_range s[j] x
      clear hx h4
      generalize hce : cmp s[j] x = cv at hCj i1 i2 i3 hr3
      clear hce
      generalize s[j].kind = xk at *
      generalize s[j].lo = xl at *
      generalize s[j].hi = xh at *
      generalize s[j].kids.length = xn at *
      obtain ⟨e0, e1, e2, e3⟩ := h4'
      unfold rxv at hCj
      subst hAe
      have HL := Lib.hid hs
      clear hs
      have hj2 : (j : Int) < (s.length : Int) := by omega
      have hbl' : bl < w.heap.size := hSk _ hbl
      have HS := Lib.hid fun W (hWW : Below (w.heap.size + 1) wr W) => (show W.cell? ⟨w.heap.size, 0, none⟩ = some (.int .i64 x.kind) ∧ W.cell? ⟨w.heap.size, 1, none⟩ = some (.int .u8 x.lo) ∧ W.cell? ⟨w.heap.size, 2, none⟩ = some (.int .u8 x.hi) ∧ W.cell? ⟨w.heap.size, 3, none⟩ = some (.slice B x.kids.length d) ∧ W.cell? ⟨bl, o + j * 4, none⟩ = some (.int .i64 xk) ∧ W.cell? ⟨bl, o + j * 4 + 1, none⟩ = some (.int .u8 xl) ∧ W.cell? ⟨bl, o + j * 4 + 2, none⟩ = some (.int .u8 xh) ∧ W.cell? ⟨bl, o + j * 4 + 3, none⟩ = some (.slice A' xn c') from by
        obtain ⟨r0, r1, r2, r3⟩ := (show At4 wr bl (o + j * 4) xk xl xh (.slice A' xn c') from ⟨e0, e1, e2, e3⟩).to (hWW.block bl (by omega))
        obtain ⟨s0, s1, s2, s3⟩ := four ((hWW.block w.heap.size (by omega)).trans hb0)
        exact ⟨s0, s1, s2, s3, r0, r1, r2, r3⟩)
      have hd : Below (w.heap.size + 1) wr wr.drew := (Below.refl _ _).drew
      have hd0 : Below w.heap.size w wr.drew := hW.drew
      clear e0 e1 e2 e3 p0 p1 p2 p3
      by_cases hneg : cv < 0
      · have hd2 : decide (cv < 0) = true := decide_eq_true hneg
        go_wp2_with fail
        go_region_held3 (fun W => W.cell? ⟨w.heap.size, 0, none⟩ = some (.int .i64 x.kind) ∧ W.cell? ⟨w.heap.size, 1, none⟩ = some (.int .u8 x.lo) ∧ W.cell? ⟨w.heap.size, 2, none⟩ = some (.int .u8 x.hi) ∧ W.cell? ⟨w.heap.size, 3, none⟩ = some (.slice B x.kids.length d) ∧ W.cell? ⟨bl, o + j * 4, none⟩ = some (.int .i64 xk) ∧ W.cell? ⟨bl, o + j * 4 + 1, none⟩ = some (.int .u8 xl) ∧ W.cell? ⟨bl, o + j * 4 + 2, none⟩ = some (.int .u8 xh) ∧ W.cell? ⟨bl, o + j * 4 + 3, none⟩ = some (.slice A' xn c'))
          (first | exact HS.out _ hd | exact HS.out _ (by assumption))
          (first | (go_at_call 28; ((with_reducible refine Calls.mono (hCj _ hd0) ?_)); rintro e' w1 ⟨rfl, hww1⟩; have hB9 : Below (w.heap.size + 1) wr w1 := hd.trans (hww1.mono (by simp; omega)); have hB10 : Below w.heap.size w w1 := hd0.trans (hww1.mono (by simp; omega))))
        go_wp2_with fail
        go_roundw
        case rel => exact ⟨j + 1, by omega, by go_num, Lib.hid (i1.out hneg), (hB9.block _ (by omega)).trans hb0, hB10, Nat.le_trans hsz hB9.size⟩
        case measure => simp [intOf]; omega
      · have hd2 : decide (cv < 0) = false := decide_eq_false hneg
        go_wp2_with fail
        go_region_held3 (fun W => W.cell? ⟨w.heap.size, 0, none⟩ = some (.int .i64 x.kind) ∧ W.cell? ⟨w.heap.size, 1, none⟩ = some (.int .u8 x.lo) ∧ W.cell? ⟨w.heap.size, 2, none⟩ = some (.int .u8 x.hi) ∧ W.cell? ⟨w.heap.size, 3, none⟩ = some (.slice B x.kids.length d) ∧ W.cell? ⟨bl, o + j * 4, none⟩ = some (.int .i64 xk) ∧ W.cell? ⟨bl, o + j * 4 + 1, none⟩ = some (.int .u8 xl) ∧ W.cell? ⟨bl, o + j * 4 + 2, none⟩ = some (.int .u8 xh) ∧ W.cell? ⟨bl, o + j * 4 + 3, none⟩ = some (.slice A' xn c'))
          (first | exact HS.out _ hd | exact HS.out _ (by assumption))
          (first | (go_at_call 28; ((with_reducible refine Calls.mono (hCj _ hd0) ?_)); rintro e' w1 ⟨rfl, hww1⟩; have hB9 : Below (w.heap.size + 1) wr w1 := hd.trans (hww1.mono (by simp; omega)); have hB10 : Below w.heap.size w w1 := hd0.trans (hww1.mono (by simp; omega))))
        have hy1 := hB9.size
        have hd' : Below (w.heap.size + 1) wr w1.drew := hB9.drew
        have hd0' : Below w.heap.size w w1.drew := hB10.drew
        by_cases hz : cv = 0
        · subst hz
          go_wp2_with fail
          go_region_held3 (fun W => W.cell? ⟨w.heap.size, 0, none⟩ = some (.int .i64 x.kind) ∧ W.cell? ⟨w.heap.size, 1, none⟩ = some (.int .u8 x.lo) ∧ W.cell? ⟨w.heap.size, 2, none⟩ = some (.int .u8 x.hi) ∧ W.cell? ⟨w.heap.size, 3, none⟩ = some (.slice B x.kids.length d) ∧ W.cell? ⟨bl, o + j * 4, none⟩ = some (.int .i64 xk) ∧ W.cell? ⟨bl, o + j * 4 + 1, none⟩ = some (.int .u8 xl) ∧ W.cell? ⟨bl, o + j * 4 + 2, none⟩ = some (.int .u8 xh) ∧ W.cell? ⟨bl, o + j * 4 + 3, none⟩ = some (.slice A' xn c'))
            (first | exact HS.out _ hd' | exact HS.out _ (by assumption))
            (first | (go_at_call 28; ((with_reducible refine Calls.mono (hCj _ hd0') ?_)); rintro e' w2 ⟨rfl, hww2⟩; have hB9b : Below (w.heap.size + 1) wr w2 := hd'.trans (hww2.mono (by simp; omega)); have hB10b : Below w.heap.size w w2 := hd0'.trans (hww2.mono (by simp; omega))))
          go_wp2_with fail
          go_ret
          rw [show ins x s = s from by first | exact i2.out rfl | exact i2.out trivial]
          exact ⟨_, _, rfl, hc, by (intro h; cases h), (HL.out.keep hSk hB10b).sub (fun b hb => .inl hb), hB10b⟩
        · have hd3 : (cv == 0) = false := by simpa using hz
          go_wp2_with fail
          go_region_held3 (fun W => W.cell? ⟨w.heap.size, 0, none⟩ = some (.int .i64 x.kind) ∧ W.cell? ⟨w.heap.size, 1, none⟩ = some (.int .u8 x.lo) ∧ W.cell? ⟨w.heap.size, 2, none⟩ = some (.int .u8 x.hi) ∧ W.cell? ⟨w.heap.size, 3, none⟩ = some (.slice B x.kids.length d) ∧ W.cell? ⟨bl, o + j * 4, none⟩ = some (.int .i64 xk) ∧ W.cell? ⟨bl, o + j * 4 + 1, none⟩ = some (.int .u8 xl) ∧ W.cell? ⟨bl, o + j * 4 + 2, none⟩ = some (.int .u8 xh) ∧ W.cell? ⟨bl, o + j * 4 + 3, none⟩ = some (.slice A' xn c'))
            (first | exact HS.out _ hd' | exact HS.out _ (by assumption))
            (first | (go_at_call 28; ((with_reducible refine Calls.mono (hCj _ hd0') ?_)); rintro e' w2 ⟨rfl, hww2⟩; have hB9b : Below (w.heap.size + 1) wr w2 := hd'.trans (hww2.mono (by simp; omega)); have hB10b : Below w.heap.size w w2 := hd0'.trans (hww2.mono (by simp; omega))))
          have hy2 := hB9b.size
          obtain ⟨s0, s1, s2, s3, _⟩ := HS.out _ hB9b
          have hjc : (j : Int) ≤ (c : Int) := by omega
          have hj0 : (0 : Int) ≤ (j : Int) := by omega
          go_wp2_with fail
          go_region_law (first
            | (refine step_append_t _ (by rfl) _ _ _ (by rfl) (w.heap.size + 1) 25 i0 (.agg #[.int .i64 0, .int .u8 0, .int .u8 0, .slice none 0 0]) 40 Tryz.underlying23 hi hz0 hz1 hz2 rfl (.slice none 0 0) (fun b => S b ∨ w.heap.size + 1 ≤ b) S [] (by rfl) (RowT.nil _ _ _ _) (some ⟨bl, o, none⟩) j c (s.take j) (by rfl) (by rw [List.length_take]; omega) (by intro h; cases h) (by rw [List.length_take]; omega) ((HL.out.keep hSk (hB10b.drew)).take j) (fun b hb => ⟨.inl hb, by have := hSk b hb; omega⟩) (by simp; unfold maxLen; omega) (by simp; omega) (by simp <;> omega) ?_; intro v5 w5 ts5 e5 hr5 hB5; rw [List.nil_append] at hr5; obtain ⟨A5, c5, rfl⟩ := hr5.val; have hw5b : Below w.heap.size w w5 := (hB10b.drew).trans (hB5.mono (by omega)); have hy5 := hB5.size; simp at hy5; have htl : ts5.length = j := (by have := congrArg List.length e5; rw [List.length_map, List.length_take] at this; omega); replace htl := Lib.hid htl; obtain ⟨q0, q1, q2, q3, _⟩ := HS.out _ (hB9b.drew.trans hB5))
            | (refine step_append_t _ (by rfl) _ _ _ (by rfl) (w2.heap.size + 1) 25 i0 (.agg #[.int .i64 0, .int .u8 0, .int .u8 0, .slice none 0 0]) 40 Tryz.underlying23 hi hz0 hz1 hz2 rfl (.slice none 0 0) (fun b => S b ∨ w2.heap.size + 1 ≤ b) S [] (by rfl) (RowT.nil _ _ _ _) (some ⟨bl, o, none⟩) j c (s.take j) (by rfl) (by rw [List.length_take]; omega) (by intro h; cases h) (by rw [List.length_take]; omega) ((HL.out.keep hSk ((hB10b.drew).alloc (by simp <;> omega) (.cells #[.int .i64 x.kind, .int .u8 x.lo, .int .u8 x.hi, .slice B x.kids.length d] 25))).take j) (fun b hb => ⟨.inl hb, by have := hSk b hb; omega⟩) (by simp; unfold maxLen; omega) (by simp; omega) (by simp <;> omega) ?_; intro v5 w5 ts5 e5 hr5 hB5; rw [List.nil_append] at hr5; obtain ⟨A5, c5, rfl⟩ := hr5.val; have hw5b : Below w.heap.size w w5 := ((hB10b.drew).alloc (by simp; omega) (.cells #[.int .i64 x.kind, .int .u8 x.lo, .int .u8 x.hi, .slice B x.kids.length d] 25)).trans (hB5.mono (by omega)); have hy5 := hB5.size; simp at hy5; have htl : ts5.length = j := (by have := congrArg List.length e5; rw [List.length_map, List.length_take] at this; omega); replace htl := Lib.hid htl; have hlit := (hB5.block w2.heap.size (by omega)).trans (heap_alloc_new w2.drew _))
            | (refine step_append_lies _ (by rfl) _ _ _ (by rfl) (w.heap.size + 1) 25 i0 (.agg #[.int .i64 0, .int .u8 0, .int .u8 0, .slice none 0 0]) 4 40 Tryz.underlying23 hi hz0 hz1 hz2 rfl (by decide) (.slice A5 ts5.length c5) ts5.length (ts5.flatMap Tn.cells) (by rfl) (hr5.1.alloc _) ⟨w5.heap.size, 0, none⟩ 1 1 (Tn.cells ⟨x, B, d⟩) (by rfl) (by rfl) (World.news_of_block (cs := #[.int .i64 x.kind, .int .u8 x.lo, .int .u8 x.hi, .slice B x.kids.length d]) (t := 25) (fr := (0, 0)) (heap_alloc_new w5 _)) (tn_one1 _) (by decide) (by have := htl.out; unfold maxLen; omega) (by have := htl.out; omega) (by first | omega | (simp; omega) | simp) (w5.heap.size + 1) (by simp) ?_; intro g' cap' w7 hown7 hgrow7 hat7 hlt7; obtain ⟨hr7, hB7⟩ := row_step (T := S) (t := ⟨x, B, d⟩) hr5 (Below.refl _ _) (by omega) (hV.out.keep hSk hw5b) (fun b hb => ⟨.inl hb, by have := hSk b hb; omega, fun e => by have := (own_blk_lt hr5.1 e).1; have := hSk b hb; omega⟩) hown7 hgrow7 hat7; have hw7b : Below w.heap.size w w7 := hw5b.trans (hB7.mono (by omega)); have hy7 := hB7.size; obtain ⟨N, hN⟩ : ∃ N, w.heap.size + 1 = N := ⟨_, rfl⟩; rw [hN] at hr7; have hN1 : w.heap.size + 1 ≤ N := (by omega); have hN2 : N ≤ w7.heap.size := (by omega); clear hN hB7 hown7 hgrow7 hat7 hlt7 hr5 hB5)
            | (refine step_append_lies _ (by rfl) _ _ _ (by rfl) (w2.heap.size + 1) 25 i0 (.agg #[.int .i64 0, .int .u8 0, .int .u8 0, .slice none 0 0]) 4 40 Tryz.underlying23 hi hz0 hz1 hz2 rfl (by decide) (.slice A5 ts5.length c5) ts5.length (ts5.flatMap Tn.cells) (by rfl) (hr5.1) ⟨w2.heap.size, 0, none⟩ 1 1 (Tn.cells ⟨x, B, d⟩) (by rfl) (by rfl) (World.news_of_block (cs := #[.int .i64 x.kind, .int .u8 x.lo, .int .u8 x.hi, .slice B x.kids.length d]) (t := 25) (fr := (0, 0)) (hlit)) (tn_one1 _) (by decide) (by have := htl.out; unfold maxLen; omega) (by have := htl.out; omega) (by first | omega | (simp; omega) | simp) (w5.heap.size) (by simp) ?_; intro g' cap' w7 hown7 hgrow7 hat7 hlt7; have hr7 := RowT.snoc (w1 := w5) (t := ⟨x, B, d⟩) hr5 rfl (Below.refl _ _) (RtV.to (fun b (hb : S b) => ⟨⟨.inl hb, by have := hSk b hb; omega, fun e => by have := (own_blk_lt hr5.1 e).1; have := hSk b hb; omega⟩, rfl⟩) _ (hV.out.keep hSk hw5b)) hown7 hgrow7 hat7; have hw7b : Below w.heap.size w w7 := hw5b.grown hgrow7 (by omega) (fun k ek => by have := hr5.blk k ek; omega); have hy7 := hgrow7.size; obtain ⟨N, hN⟩ : ∃ N, w2.heap.size + 1 = N := ⟨_, rfl⟩; rw [hN] at hr7; have hN1 : w.heap.size + 1 ≤ N := (by omega); have hN2 : N ≤ w7.heap.size := (by omega); clear hN hown7 hgrow7 hat7 hlt7 hr5 hB5))
          all_goals
            have hcj : ¬ c = j := by omega
            have hjc2 : (s.length : Int) ≤ (c : Int) := by omega
            have hn7 := Lib.hid (show (ts5 ++ [(⟨x, B, d⟩ : Tn)]).length = j + 1 by rw [List.length_append, htl.out]; rfl)
            have hdl := Lib.hid (show s.length - j = (s.drop j).length from List.length_drop.symm)
            have hi3 := Lib.hid (i3.out (by omega))
            go_wp2_with (at_builtin; refine wpList_append_t _ rfl _ _ 23 rfl N 25 i0 (.agg #[.int .i64 0, .int .u8 0, .int .u8 0, .slice none 0 0]) 40 Tryz.underlying23 hi hz0 hz1 hz2 rfl _ _ S (ts5 ++ [⟨x, B, d⟩]) rfl hr7 (some ⟨bl, o + j * 4, none⟩) (s.length - j) (c - j) (s.drop j) rfl hdl.out (by intro h; cases h) (by rw [← hdl.out]; omega) ((HL.out.keep hSk hw7b).drop j) (fun b hb => ⟨.inl hb, by have := hSk b hb; omega⟩) (by have := hn7.out; unfold maxLen; omega) (by have := hn7.out; omega) hN2 ?_; intro v8 w8 ts8 e8 hr8 hB8; obtain ⟨A8, c8, rfl⟩ := hr8.val)
            go_ret
            obtain ⟨r1, r2, r3, r4⟩ := hr8.list
            have hm : ((ts5 ++ [(⟨x, B, d⟩ : Tn)]) ++ ts8).map Tn.x = ins x s := by rw [hi3.out, List.map_append, List.map_append, e5, e8, List.append_assoc]; rfl
            have hm2 : ((ts5 ++ [(⟨x, B, d⟩ : Tn)]) ++ ts8).length = (ins x s).length := by rw [← hm, List.length_map]
            rw [hm] at r4
            have hm3 : ts5.length + (ts8.length + 1) = (ins x s).length := by rw [← hm2]; simp only [List.length_append, List.length_cons, List.length_nil]; omega
            rw [hm2] at r2
            exact ⟨A8, c8, congrArg (fun n => Ending.returned (.slice A8 n c8)) hm3, r2, r3, r4.sub (fun b hb => by rcases hb with ⟨(h1 | h1) | h1, h2⟩; exact .inl h1; exact .inr ⟨by omega, h2⟩; exact .inr ⟨by omega, h2⟩), hw7b.trans (hB8.mono (by omega))⟩
    · obtain rfl : j = s.length := by omega
      have HL := Lib.hid hs
      have HS := Lib.hid fun W (hWW : Below (w.heap.size + 1) wr W) => (show W.cell? ⟨w.heap.size, 0, none⟩ = some (.int .i64 x.kind) ∧ W.cell? ⟨w.heap.size, 1, none⟩ = some (.int .u8 x.lo) ∧ W.cell? ⟨w.heap.size, 2, none⟩ = some (.int .u8 x.hi) ∧ W.cell? ⟨w.heap.size, 3, none⟩ = some (.slice B x.kids.length d) ∧ True from by
        obtain ⟨s0, s1, s2, s3⟩ := four ((hWW.block w.heap.size (by omega)).trans hb0)
        exact ⟨s0, s1, s2, s3, trivial⟩)
      have hd1 : decide ((s.length : Int) < (s.length : Int)) = false := decide_eq_false (by omega)
      obtain ⟨s0, s1, s2, s3⟩ := four hb0
      have hjc : (s.length : Int) ≤ (c : Int) := by omega
      have hj0 : (0 : Int) ≤ (s.length : Int) := by omega
      clear hs p0 p1 p2 p3
      cases A with
      | none =>
        obtain rfl : c = 0 := hA rfl
        have hs0 : s = [] := List.eq_nil_of_length_eq_zero (by omega)
        subst hs0
        have hend := Lib.hid (show ins x [] = [] ++ (x :: []) from rfl)
        simp only [List.length_nil] at *
        go_wp2_with fail
        go_quiet (fail)
        go_wp2_with fail
        have hB9 : Below (w.heap.size + 1) wr (wr.drewN nq) := below_dn (Below.refl _ _)
        have hB10 : Below w.heap.size w (wr.drewN nq) := below_dn hW
        have hy1 : wr.heap.size ≤ (wr.drewN nq).heap.size := Nat.le_refl _
        generalize wr.drewN nq = w1 at *
        go_quiet (fail)
        have hB9b : Below (w.heap.size + 1) wr (w1.drewN nq) := below_dn hB9
        have hB10b : Below w.heap.size w (w1.drewN nq) := below_dn hB10
        have hy2 : w1.heap.size ≤ (w1.drewN nq).heap.size := Nat.le_refl _
        clear s0 s1 s2 s3
        generalize w1.drewN nq = w2 at *
        obtain ⟨s0, s1, s2, s3, _⟩ := HS.out _ hB9b
        go_wp2_with fail
        go_region_law (first | (refine step_append_lies _ (by rfl) _ _ _ (by rfl) (w.heap.size + 1) 25 i0 (.agg #[.int .i64 0, .int .u8 0, .int .u8 0, .slice none 0 0]) 4 40 Tryz.underlying23 hi hz0 hz1 hz2 rfl (by decide) (.slice none 0 0) 0 [] (by rfl) (World.ownsRow_nil _ _ _ _) ⟨w2.heap.size, 0, none⟩ 1 1 (Tn.cells ⟨x, B, d⟩) (by rfl) (by rfl) (World.news_of_block (cs := #[.int .i64 x.kind, .int .u8 x.lo, .int .u8 x.hi, .slice B x.kids.length d]) (t := 25) (fr := (0, 0)) (heap_alloc_new w2.drew _)) (tn_one1 _) (by decide) (by decide) (by decide) (by first | omega | (simp; omega) | simp) (w2.heap.size + 1) (by first | rfl | simp) ?_; intro g' cap' w7 hown7 hgrow7 hat7 hlt7; obtain ⟨hr7, hB7⟩ := row_step (wr := w2.drew) (w1 := w2.drew) (L := fun b => S b ∨ w.heap.size + 1 ≤ b) (T := S) (t := ⟨x, B, d⟩) (RowT.nil w2.drew (w.heap.size + 1) _ 25) (Below.refl _ _) (show w.heap.size + 1 ≤ w2.heap.size by omega) (hV.out.keep hSk hB10b.drew) (fun b hb => ⟨.inl hb, Nat.lt_of_lt_of_le (hSk b hb) (show w.heap.size ≤ w2.heap.size by omega), fun e => by cases e⟩) hown7 hgrow7 hat7; have hw7b : Below w.heap.size w w7 := (hB10b.drew).trans (hB7.mono (by omega))) | fail)
        all_goals
          clear hown7 hgrow7 hat7
          have hy7 : w.heap.size + 1 ≤ w7.heap.size := by have := hB7.size; simp at this; omega
          rw [List.nil_append] at hr7
          go_wp2_with (at_builtin; refine wpList_append_t _ rfl _ _ 23 rfl (w.heap.size + 1) 25 i0 (.agg #[.int .i64 0, .int .u8 0, .int .u8 0, .slice none 0 0]) 40 Tryz.underlying23 hi hz0 hz1 hz2 rfl _ _ S [⟨x, B, d⟩] rfl hr7 none 0 0 ([] : List Rx) rfl rfl (fun _ => rfl) (Nat.le_refl _) (by simp only [RtL]) (fun b hb => ⟨.inl hb, by have := hSk b hb; omega⟩) (show 1 + 0 ≤ maxLen by decide) (show (1 + 0) * 40 ≤ 140737488355328 by decide) hy7 ?_; intro v8 w8 ts8 e8 hr8 hB8; obtain ⟨A8, c8, rfl⟩ := hr8.val; obtain rfl : ts8 = [] := (by simpa using e8))
          all_goals
            go_ret
            obtain ⟨r1, r2, r3, r4⟩ := hr8.list
            exact ⟨A8, c8, rfl, r2, r3, r4.sub (fun b hb => by rcases hb with ⟨(h1 | h1) | h1, h2⟩; exact .inl h1; exact .inr ⟨by omega, h2⟩; exact .inr ⟨by omega, h2⟩), hw7b.trans (hB8.mono (by omega))⟩
      | some ad =>
        have hend := Lib.hid (show ins x s = s ++ (x :: []) from by have := ins_end hin.out; rw [List.take_length, List.drop_length] at this; exact this)
        go_wp2_with fail
        go_quiet (fail)
        go_wp2_with fail
        have hB9 : Below (w.heap.size + 1) wr (wr.drewN nq) := below_dn (Below.refl _ _)
        have hB10 : Below w.heap.size w (wr.drewN nq) := below_dn hW
        have hy1 : wr.heap.size ≤ (wr.drewN nq).heap.size := Nat.le_refl _
        generalize wr.drewN nq = w1 at *
        go_quiet (fail)
        have hB9b : Below (w.heap.size + 1) wr (w1.drewN nq) := below_dn hB9
        have hB10b : Below w.heap.size w (w1.drewN nq) := below_dn hB10
        have hy2 : w1.heap.size ≤ (w1.drewN nq).heap.size := Nat.le_refl _
        clear s0 s1 s2 s3
        generalize w1.drewN nq = w2 at *
        obtain ⟨s0, s1, s2, s3, _⟩ := HS.out _ hB9b
        go_wp2_with fail
        go_region_law (first
          | (refine step_append_t _ (by rfl) _ _ _ (by rfl) (w.heap.size + 1) 25 i0 (.agg #[.int .i64 0, .int .u8 0, .int .u8 0, .slice none 0 0]) 40 Tryz.underlying23 hi hz0 hz1 hz2 rfl (.slice none 0 0) (fun b => S b ∨ w.heap.size + 1 ≤ b) S [] (by rfl) (RowT.nil _ _ _ _) (some ad) s.length c s (by rfl) (by first | rfl | omega | simp) (by intro h; cases h) (by first | rfl | omega | simp) (HL.out.keep hSk (by first | exact hB10b.drew | exact (hB10b.drew).alloc (by simp <;> omega) _)) (fun b hb => ⟨.inl hb, by have := hSk b hb; omega⟩) (by simp; unfold maxLen; omega) (by simp; omega) (by simp <;> omega) ?_; intro v5 w5 ts5 e5 hr5 hB5; rw [List.nil_append] at hr5; obtain ⟨A5, c5, rfl⟩ := hr5.val; have hw5b : Below w.heap.size w w5 := (hB10b.drew).trans (hB5.mono (by omega)); have hy5 := hB5.size; simp at hy5; have htl : ts5.length = s.length := (by have := congrArg List.length e5; rw [List.length_map] at this; exact this); replace htl := Lib.hid htl; obtain ⟨q0, q1, q2, q3, _⟩ := HS.out _ (hB9b.drew.trans hB5))
          | (refine step_append_t _ (by rfl) _ _ _ (by rfl) (w2.heap.size + 1) 25 i0 (.agg #[.int .i64 0, .int .u8 0, .int .u8 0, .slice none 0 0]) 40 Tryz.underlying23 hi hz0 hz1 hz2 rfl (.slice none 0 0) (fun b => S b ∨ w2.heap.size + 1 ≤ b) S [] (by rfl) (RowT.nil _ _ _ _) (some ad) s.length c s (by rfl) (by first | rfl | omega | simp) (by intro h; cases h) (by first | rfl | omega | simp) (HL.out.keep hSk (by first | exact hB10b.drew | exact (hB10b.drew).alloc (by simp <;> omega) _)) (fun b hb => ⟨.inl hb, by have := hSk b hb; omega⟩) (by simp; unfold maxLen; omega) (by simp; omega) (by simp <;> omega) ?_; intro v5 w5 ts5 e5 hr5 hB5; rw [List.nil_append] at hr5; obtain ⟨A5, c5, rfl⟩ := hr5.val; have hw5b : Below w.heap.size w w5 := ((hB10b.drew).alloc (by simp; omega) (.cells #[.int .i64 x.kind, .int .u8 x.lo, .int .u8 x.hi, .slice B x.kids.length d] 25)).trans (hB5.mono (by omega)); have hy5 := hB5.size; simp at hy5; have htl : ts5.length = s.length := (by have := congrArg List.length e5; rw [List.length_map] at this; exact this); replace htl := Lib.hid htl; have hlit := (hB5.block w2.heap.size (by omega)).trans (heap_alloc_new w2.drew _))
          | (refine step_append_lies _ (by rfl) _ _ _ (by rfl) (w.heap.size + 1) 25 i0 (.agg #[.int .i64 0, .int .u8 0, .int .u8 0, .slice none 0 0]) 4 40 Tryz.underlying23 hi hz0 hz1 hz2 rfl (by decide) (.slice A5 ts5.length c5) ts5.length (ts5.flatMap Tn.cells) (by rfl) (hr5.1.alloc _) ⟨w5.heap.size, 0, none⟩ 1 1 (Tn.cells ⟨x, B, d⟩) (by rfl) (by rfl) (World.news_of_block (cs := #[.int .i64 x.kind, .int .u8 x.lo, .int .u8 x.hi, .slice B x.kids.length d]) (t := 25) (fr := (0, 0)) (heap_alloc_new w5 _)) (tn_one1 _) (by decide) (by have := htl.out; unfold maxLen; omega) (by have := htl.out; omega) (by first | omega | (simp; omega) | simp) (w5.heap.size + 1) (by simp) ?_; intro g' cap' w7 hown7 hgrow7 hat7 hlt7; obtain ⟨hr7, hB7⟩ := row_step (T := S) (t := ⟨x, B, d⟩) hr5 (Below.refl _ _) (by omega) (hV.out.keep hSk hw5b) (fun b hb => ⟨.inl hb, by have := hSk b hb; omega, fun e => by have := (own_blk_lt hr5.1 e).1; have := hSk b hb; omega⟩) hown7 hgrow7 hat7; have hw7b : Below w.heap.size w w7 := hw5b.trans (hB7.mono (by omega)); have hy7 := hB7.size; obtain ⟨N, hN⟩ : ∃ N, w.heap.size + 1 = N := ⟨_, rfl⟩; rw [hN] at hr7; have hN1 : w.heap.size + 1 ≤ N := (by omega); have hN2 : N ≤ w7.heap.size := (by omega); clear hN hB7 hown7 hgrow7 hat7 hlt7 hr5 hB5)
          | (refine step_append_lies _ (by rfl) _ _ _ (by rfl) (w2.heap.size + 1) 25 i0 (.agg #[.int .i64 0, .int .u8 0, .int .u8 0, .slice none 0 0]) 4 40 Tryz.underlying23 hi hz0 hz1 hz2 rfl (by decide) (.slice A5 ts5.length c5) ts5.length (ts5.flatMap Tn.cells) (by rfl) (hr5.1) ⟨w2.heap.size, 0, none⟩ 1 1 (Tn.cells ⟨x, B, d⟩) (by rfl) (by rfl) (World.news_of_block (cs := #[.int .i64 x.kind, .int .u8 x.lo, .int .u8 x.hi, .slice B x.kids.length d]) (t := 25) (fr := (0, 0)) (hlit)) (tn_one1 _) (by decide) (by have := htl.out; unfold maxLen; omega) (by have := htl.out; omega) (by first | omega | (simp; omega) | simp) (w5.heap.size) (by simp) ?_; intro g' cap' w7 hown7 hgrow7 hat7 hlt7; have hr7 := RowT.snoc (w1 := w5) (t := ⟨x, B, d⟩) hr5 rfl (Below.refl _ _) (RtV.to (fun b (hb : S b) => ⟨⟨.inl hb, by have := hSk b hb; omega, fun e => by have := (own_blk_lt hr5.1 e).1; have := hSk b hb; omega⟩, rfl⟩) _ (hV.out.keep hSk hw5b)) hown7 hgrow7 hat7; have hw7b : Below w.heap.size w w7 := hw5b.grown hgrow7 (by omega) (fun k ek => by have := hr5.blk k ek; omega); have hy7 := hgrow7.size; obtain ⟨N, hN⟩ : ∃ N, w2.heap.size + 1 = N := ⟨_, rfl⟩; rw [hN] at hr7; have hN1 : w.heap.size + 1 ≤ N := (by omega); have hN2 : N ≤ w7.heap.size := (by omega); clear hN hown7 hgrow7 hat7 hlt7 hr5 hB5))
        all_goals
          have hn7 := Lib.hid (show (ts5 ++ [(⟨x, B, d⟩ : Tn)]).length = s.length + 1 by rw [List.length_append, htl.out]; rfl)
          have hdl := Lib.hid (show 0 = ([] : List Rx).length from rfl)
          have hi3 := Lib.hid (hend.out)
          go_wp2_with (at_builtin; refine wpList_append_t _ rfl _ _ 23 rfl N 25 i0 (.agg #[.int .i64 0, .int .u8 0, .int .u8 0, .slice none 0 0]) 40 Tryz.underlying23 hi hz0 hz1 hz2 rfl _ _ S (ts5 ++ [⟨x, B, d⟩]) rfl hr7 _ _ _ ([] : List Rx) rfl (by simp) (by first | (intro h; cases h) | (split <;> (intro h; cases h))) (by simp) (by simp only [RtL]) (fun b hb => ⟨.inl hb, by have := hSk b hb; omega⟩) (by have := hn7.out; unfold maxLen; omega) (by have := hn7.out; omega) hN2 ?_; intro v8 w8 ts8 e8 hr8 hB8; obtain ⟨A8, c8, rfl⟩ := hr8.val)
          all_goals
            go_ret
            obtain ⟨r1, r2, r3, r4⟩ := hr8.list
            have hm : ((ts5 ++ [(⟨x, B, d⟩ : Tn)]) ++ ts8).map Tn.x = ins x s := by rw [hi3.out, List.map_append, List.map_append, e5, e8, List.append_assoc]; rfl
            have hm2 : ((ts5 ++ [(⟨x, B, d⟩ : Tn)]) ++ ts8).length = (ins x s).length := by rw [← hm, List.length_map]
            rw [hm] at r4
            have hm3 : ts5.length + (ts8.length + 1) = (ins x s).length := by rw [← hm2]; simp only [List.length_append, List.length_cons, List.length_nil]; omega
            rw [hm2] at r2
            exact ⟨A8, c8, congrArg (fun n => Ending.returned (.slice A8 n c8)) hm3, r2, r3, r4.sub (fun b hb => by rcases hb with ⟨(h1 | h1) | h1, h2⟩; exact .inl h1; exact .inr ⟨by omega, h2⟩; exact .inr ⟨by omega, h2⟩), hw7b.trans (hB8.mono (by omega))⟩

end Go.Proofs.YtnjkihbmhacgoaaGreatDoor
