/-
  THE WALK of Parse, from the tokens' and the parser's rules.
-/
import Derived.Test.YtijcjknaphboeaaGreatDoorRxTokC
import Derived.Test.YtijcjknaphboeaaGreatDoorRxValid
namespace Go.Proofs.YtijcjknaphboeaaGreatDoor
open Go.RowKit Go.Shelf

theorem tokL_of {w : World} {g : Nat} : ∀ (ts : List Tok) (o : Nat), (∀ j u, (ts.flatMap Tok.cells)[j]? = some u → w.cell? ⟨g, o + j, none⟩ = some u) → TokL w g o ts
  | [], _, _ => trivial
  | t :: ts, o, hc => by
    refine ⟨⟨hc 0 _ (by simp [Tok.cells, Tok.vals]), hc 1 _ (by simp [Tok.cells, Tok.vals]), hc 2 _ (by simp [Tok.cells, Tok.vals]), hc 3 _ (by simp [Tok.cells, Tok.vals])⟩, tokL_of ts (o + 4) (fun j u hj => ?_)⟩
    have := hc (4 + j) u (by
      rw [List.flatMap_cons, List.getElem?_append_right (by simp [Tok.cells, Tok.vals])]
      simpa [Tok.cells, Tok.vals] using hj)
    rw [← Nat.add_assoc] at this
    exact this
theorem par_of_tok {w' : World} {N : Nat} {all : List Tok} {v : Value} (hne : all ≠ []) (h : TokI (N + 3) N w' all v) (hN : 0 < N) (hG : GW w') : ParAt w' w'.heap.size N ⟨all, false⟩ := by
  obtain ⟨h1, ⟨hl, hr⟩⟩ := h
  rcases hr with ⟨_, h0⟩ | ⟨g, cap, cur, hv, hb, hg, hnc, hcm, hcs, hct⟩
  · exact absurd (List.eq_nil_of_length_eq_zero h0) hne
  · subst hv
    have hgl := (Array.getElem?_eq_some_iff.1 hg).1
    refine ⟨g, 0, cap, h1, hnc, by omega, hgl, tokL_of all 0 (fun j u hj => ?_), ⟨hN, by omega, Nat.le_refl _⟩, hG⟩
    rw [Nat.zero_add, cell_of_row w' g j cur 96 (0, 0) hg]
    rw [← hct, List.getElem?_take] at hj
    split at hj
    · simpa using hj
    · cases hj

/-- Parse has found an error; it has found none -/
def PErr (w : World) (e : Ending) (w' : World) : Prop := ∃ v a, e = .returned (.tuple #[v, .int .i64 a, .int .i64 2]) ∧ RtV w' (Mid w.heap.size w'.heap.size) (.node 0 0 0 []) v ∧ Below w.heap.size w w'
def POk (w : World) (r : Rx) (e : Ending) (w' : World) : Prop := ∃ v, e = .returned (.tuple #[v, .int .i64 0, .int .i64 0]) ∧ RtV w' (Mid w.heap.size w'.heap.size) r v ∧ Below w.heap.size w w'
set_option maxRecDepth 100000 in
set_option maxHeartbeats 4000000 in
theorem parse_err {T : ByteArray} {all : List Tok} {r : Rx} {t : Tok} {ts : List Tok} {bad : Bool} (hT : Toks T.size T all) (hne : all ≠ []) (hE : PC 61 ⟨all, false⟩ r ⟨t :: ts, bad⟩) (hbad : bad = true ∨ t.at_ < T.size) (w : World) (hG : GW w) :
    Calls Tryz.prog 41 #[.string T] w (PErr w) := by
  obtain ⟨_, hn4, _⟩ := toks_len hT
  have hsz : ¬ (4096 : Int) < T.size := by omega
  have hP := fun o => newParser_any T all hT (w.alloc o)
  have hz : (0 : Int) < ((ts.length + 1 : Nat) : Int) := by omega
  clear hT
  have hd : (bad = true) ∨ (bad = false ∧ t.at_ < T.size) := by cases bad <;> simp_all
  clear hbad
  rcases hd with rfl | ⟨rfl, hlt⟩
  all_goals
    go_enter Tryz.func41, Tryz.ntmps41
    go_wp2_with (first
      | (go_at_call 60; refine (hP _).mono ?_; clear hP; rintro e w1 ⟨v1, rfl, hi, hb1⟩; have hz1 := hb1.size; simp at hz1; have hp1 : ParAt w1 w1.heap.size (w.heap.size + 1) ⟨all, false⟩ := (by simpa using par_of_tok hne hi (by simp) ((hG.to (Nat.le_of_lt (Nat.lt_of_lt_of_le (Nat.lt_succ_self _) hz1)) (((Below.refl w.heap.size w).alloc (Nat.le_refl _) _).trans (hb1.mono (by simp)) |>.block 0 hG.1)))))
      | (go_at_call 61; refine (hE _ _ _ hp1).mono ?_; rintro e w2 ⟨v, rfl, hv, hp2, hg2⟩; have hz2 := hg2.size; obtain ⟨⟨ok1, ok2, ok3, ok4⟩, A1, d1, rfl, hd1, hA1, hs1⟩ := hv.parts; simp only [rxv]; have hp3 := hp2.below ((Below.refl _ _).alloc (Nat.le_refl _) (.cells #[.int .i64 r.kind, .int .u8 r.lo, .int .u8 r.hi, .slice A1 r.kids.length d1] 30)); obtain ⟨b, o, c, y1, y2, y3, y4, ⟨⟨k0, k1, k2, k3⟩, y6⟩, y7, y8⟩ := hp3; obtain ⟨p0, p1, f0, f1⟩ := two y1; simp only [List.length_cons] at p0; have n0 := (Below.heap_alloc w2 (.cells #[.int .i64 r.kind, .int .u8 r.lo, .int .u8 r.hi, .slice A1 r.kids.length d1] 30) w.heap.size (by omega)).trans ((hg2.block w.heap.size (by omega) (fun e => by injection e with e; omega)).trans ((hb1.block w.heap.size (by simp)).trans (heap_alloc_new w _))); obtain ⟨⟨r0, r1, r2, r3⟩, rf0, rf1, rf2, rf3⟩ := four' n0))
    have hB : Below w.heap.size w (w2.alloc (.cells #[.int .i64 r.kind, .int .u8 r.lo, .int .u8 r.hi, .slice A1 r.kids.length d1] 30)) := ((((Below.refl w.heap.size w).alloc (Nat.le_refl _) _).trans (hb1.mono (by simp))).grown hg2 (by omega) (fun k e => by injection e with e; omega)).alloc (by omega) _
    refine bodyPost_ret (v := .tuple #[rxv 0 0 0 none 0 0, .int .i64 t.at_, .int .i64 2]) (by unfold rxv; simp [results, Tryz.results41, go_sem, r0, r1, r2, r3]) rfl ?_
    exact ⟨_, t.at_, rfl, rt_leaf _ _ 0 0 0 i64_zero (by decide) (by decide), fin4_below hB (Nat.le_refl _) _ _ _ _⟩

set_option maxRecDepth 100000 in
set_option maxHeartbeats 4000000 in
theorem parse_ok {T : ByteArray} {all : List Tok} {r : Rx} {t : Tok} {ts : List Tok} (hT : Toks T.size T all) (hne : all ≠ []) (hE : PC 61 ⟨all, false⟩ r ⟨t :: ts, false⟩) (hat : t.at_ = T.size) (hr : nodes r ≤ 64) (w : World) (hG : GW w) :
    Calls Tryz.prog 41 #[.string T] w (POk w r) := by
  obtain ⟨_, hn4, _⟩ := toks_len hT
  have hsz : ¬ (4096 : Int) < T.size := by omega
  have hP := fun o => newParser_any T all hT (w.alloc o)
  have hz : (0 : Int) < ((ts.length + 1 : Nat) : Int) := by omega
  clear hT
  go_enter Tryz.func41, Tryz.ntmps41
  go_wp2_with (first
    | (go_at_call 60; refine (hP _).mono ?_; clear hP; rintro e w1 ⟨v1, rfl, hi, hb1⟩; have hz1 := hb1.size; simp at hz1; have hp1 : ParAt w1 w1.heap.size (w.heap.size + 1) ⟨all, false⟩ := (by simpa using par_of_tok hne hi (by simp) ((hG.to (Nat.le_of_lt (Nat.lt_of_lt_of_le (Nat.lt_succ_self _) hz1)) (((Below.refl w.heap.size w).alloc (Nat.le_refl _) _).trans (hb1.mono (by simp)) |>.block 0 hG.1)))))
    | (go_at_call 61; refine (hE _ _ _ hp1).mono ?_; rintro e w2 ⟨v, rfl, hv, hp2, hg2⟩; have hz2 := hg2.size; obtain ⟨⟨ok1, ok2, ok3, ok4⟩, A1, d1, rfl, hd1, hA1, hs1⟩ := hv.parts; simp only [rxv]; have hp3 := hp2.below ((Below.refl _ _).alloc (Nat.le_refl _) (.cells #[.int .i64 r.kind, .int .u8 r.lo, .int .u8 r.hi, .slice A1 r.kids.length d1] 30)); obtain ⟨b, o, c, y1, y2, y3, y4, ⟨⟨k0, k1, k2, k3⟩, y6⟩, y7, y8⟩ := hp3; obtain ⟨p0, p1, f0, f1⟩ := two y1; simp only [List.length_cons] at p0; rw [hat] at k1; have hv3 : RtV (w2.alloc (.cells #[.int .i64 r.kind, .int .u8 r.lo, .int .u8 r.hi, .slice A1 r.kids.length d1] 30)) (Lo (w2.alloc (.cells #[.int .i64 r.kind, .int .u8 r.lo, .int .u8 r.hi, .slice A1 r.kids.length d1] 30)).heap.size) r (rxv r.kind r.lo r.hi A1 r.kids.length d1) := RtV.to (fun b hb => ⟨by have := hb.2; show b < _; simp; omega, Below.heap_alloc w2 _ b hb.2⟩) r hv; unfold rxv at hv3)
    | (go_at_call 32; refine (tooLarge_any r _ _ hv3).mono ?_; rw [decide_eq_false (show ¬ 64 < nodes r by omega)]; rintro e w3 ⟨rfl, hb3⟩; have hz3 := hb3.size; simp at hz3; have hr3 := (hb3.block w2.heap.size (by simp)).trans (heap_alloc_new w2 _); obtain ⟨s0, s1, s2, s3⟩ := four hr3; have n0 := (hb3.block w.heap.size (by simp; omega)).trans ((Below.heap_alloc w2 (.cells #[.int .i64 r.kind, .int .u8 r.lo, .int .u8 r.hi, .slice A1 r.kids.length d1] 30) w.heap.size (by omega)).trans ((hg2.block w.heap.size (by omega) (fun e => by injection e with e; omega)).trans ((hb1.block w.heap.size (by simp)).trans (heap_alloc_new w _)))); obtain ⟨⟨r0, r1, r2, r3⟩, rf0, rf1, rf2, rf3⟩ := four' n0))
  have hB : Below w.heap.size w w3 := (((((Below.refl w.heap.size w).alloc (Nat.le_refl _) _).trans (hb1.mono (by simp))).grown hg2 (by omega) (fun k e => by injection e with e; omega)).alloc (by omega) _).trans (hb3.mono (by simp; omega))
  refine bodyPost_ret (v := .tuple #[rxv r.kind r.lo r.hi A1 r.kids.length d1, .int .i64 0, .int .i64 0]) (by unfold rxv; simp [results, Tryz.results41, go_sem, r0, r1, r2, r3]) rfl ?_
  refine ⟨_, rfl, fin4_rt (n := w.heap.size + 1) (RtV.to (fun b hb => ⟨⟨by have := hb.1; omega, by have := hb.2; omega⟩, (hb3.block b (by have := hb.2; simp; omega)).trans (Below.heap_alloc w2 _ b hb.2)⟩) r hv) (by omega) _ (by omega) _ _ _ _, fin4_below hB (Nat.le_refl _) _ _ _ _⟩
end Go.Proofs.YtijcjknaphboeaaGreatDoor
