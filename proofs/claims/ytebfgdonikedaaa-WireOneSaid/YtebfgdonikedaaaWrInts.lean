/-
  THE WALK of the reference's Reader.Ints of wire.
-/
import Derived.Test.YtebfgdonikedaaaWireRdr
import Derived.Test.YtebfgdonikedaaaDevM
namespace Go.Proofs.Ytebfgdonikedaaa
open Go.RowKit

/-- what is handed back is a new row; the reader (a block of type T) moved on -/
def RowPostG (T : TypeId) (w : World) (g : Nat) (e : TypeId) (k : IntKind) (zs : List Int) (s : Rst) (en : Ending) (w' : World) : Prop :=
  ∃ A c, en = .returned (.slice A zs.length c) ∧ zs.length ≤ c ∧ w'.ownsRow w.heap.size e 1 (.slice A zs.length c) zs.length (zs.map (Value.int k)) ∧ RdrAt w' T g s ∧ w.grownBy w' (some g)

set_option maxRecDepth 100000 in
set_option maxHeartbeats 2000000 in
theorem wrInts_any (T : TypeId) (g : Nat) (s : Rst) (w : World) (h : RdrAt w T g s) (h8 : Bytes8 s.l) (hl : s.l.length ≤ 900000) :
    Calls Try.prog 53 #[.pointer (some ⟨g, 0, none⟩)] w (RowPostG T w g 3 .i64 (intsR s).1 (intsR s).2) := by
  obtain ⟨i0, hi, hz0, hz1, hz2⟩ := info_parts info_int
  have hgl : g < w.heap.size := by
    obtain ⟨_, _, hk, _⟩ := h
    exact (Array.getElem?_eq_some_iff.1 hk).1
  have hL := wrLen_any T g s w h h8 (by omega)
  obtain ⟨hl2, h82, hn2⟩ := lenR_bd s h8 hl
  have HI := Lib.hid (intsR_go s)
  have hzr := lenR_zero (s := s)
  generalize lenR s = r at hL hl2 h82 hn2 HI hzr
  generalize intsR s = q at HI
  obtain ⟨n, t⟩ := r
  simp only at hL hl2 h82 hn2 HI hzr
  clear h h8 hl
  go_enter Try.func53, Try.ntmps53
  go_wp2_with (go_at_call 68; refine hL.mono ?_; clear hL; rintro e w1 ⟨rfl, hr1, hg1⟩)
  go_loopw [4, 5] (fun v i wr => ∃ (k : Nat) (acc : List Int) (t' : Rst), k ≤ n ∧ i = .int .i64 k ∧ Hid ((t'.e = 0 ∧ intsGo n [] t = intsGo (n - k) acc t') ∨ (t'.e ≠ 0 ∧ intsGo n [] t = ([], t'))) ∧ Hid (acc.length = k) ∧ wr.ownsRow w.heap.size 3 1 v k (acc.map (Value.int .i64)) ∧ RdrAt wr T g t' ∧ w.grownBy wr (some g) ∧ Bytes8 t'.l ∧ t'.l.length ≤ 900000) (fun _ i _ => n - (intOf i).toNat)
  case atStart =>
    refine ⟨0, [], t, Nat.zero_le _, rfl, Lib.hid ?_, Lib.hid rfl, World.ownsRow_nil _ _ _ _, hr1, hg1, h82, hl2⟩
    by_cases he : t.e = 0
    · exact .inl ⟨he, rfl⟩
    · refine .inr ⟨he, ?_⟩
      rw [hzr he]; rfl
  case round =>
    clear hr1 hg1 h82 hl2 hzr
    obtain ⟨k, acc, t', hk, rfl, hgo, hal, hrow, hra, hW, h8', hl'⟩ := hrel
    have hsz := hW.size
    obtain ⟨A, c, q0, q1, f0, f1, HK, hc, hA, hrI⟩ := rdr_cells hra
    by_cases he : t'.e = 0
    · have HE := Lib.hid he
      rw [he] at q1
      have hgo2 : Hid (intsGo n [] t = intsGo (n - k) acc t') := Lib.hid (by rcases hgo.out with h | h; exact h.2; exact absurd HE.out h.1)
      by_cases hlt : k < n
      · have hI := wrInt_any T g t' wr hra h8' (by omega)
        obtain ⟨hil, hi8⟩ := intR_len h8'
        have HG := Lib.hid (show intsGo n [] t = if (intR t').2.e = 0 then intsGo (n - (k + 1)) (acc ++ [(intR t').1]) (intR t').2 else ([], (intR t').2) by
          rw [hgo2.out, show n - k = (n - (k + 1)) + 1 by omega, intsGo])
        have hb1 : decide ((k : Int) < (n : Int)) = true := decide_eq_true (by omega)
        have hb2 : decide (k < n) = true := decide_eq_true hlt
        clear hra h8' hgo hgo2 hrI he
        obtain ⟨x, hx⟩ : ∃ x, x = (intR t').1 := ⟨_, rfl⟩
        rw [← hx] at hI HG
        generalize (intR t').2 = t2 at hI HG hil hi8
        clear hx
        go_wp2_with (first
          | (go_at_call 50; refine hI.mono ?_; clear hI; rintro e' w2 ⟨rfl, hr2, hg2⟩; have hrow2 := hrow.kept hg2 (.inr (fun e => by have := (hrow.lt g e).1; omega)); have hsz2 : w.heap.size ≤ w2.heap.size := Nat.le_trans hsz hg2.size)
          | (at_builtin; refine wpList_append_own _ rfl (.tmp 20) (.tmp 23) 22 rfl w.heap.size 3 i0 (.int .i64 0) 1 8 Try.underlying22 hi hz0 hz1 hz2 rfl (by decide) _ k _ rfl (hrow2.alloc _) ⟨w2.heap.size, 0, none⟩ 1 1 [.int .i64 x] rfl rfl (cell_one_new _ _ _) (by simp [Value.oneCell']) (by unfold maxLen; omega) (by omega) (by simp; omega) ?_; intro v' w3 hown' hgrow _; have hr3 := rdr_grown (rdr_grown hr2 (World.grownBy_alloc w2 _ none) (fun j ej => nomatch ej)) hgrow (fun j ej => by have := (hrow2.lt j ej).1; omega); have hW3 := grownBy_two (grownBy_two (hW.trans hg2) (World.grownBy_alloc w2 _ none) (fun j ej => nomatch ej)) hgrow (fun j ej => (hrow2.lt j ej).1)))
        go_roundw
        case rel =>
          refine ⟨k + 1, acc ++ [x], t2, by omega, by go_num, Lib.hid ?_, Lib.hid (by rw [List.length_append, hal.out]; rfl), ?_, hr3, hW3, hi8, by omega⟩
          · by_cases h2 : t2.e = 0
            · exact .inl ⟨h2, by rw [HG.out, if_pos h2]⟩
            · exact .inr ⟨h2, by rw [HG.out, if_neg h2]⟩
          · rw [List.map_append]
            exact hown'
        case measure => simp [intOf]; omega
      · obtain rfl : k = n := by omega
        have HG2 := Lib.hid (show q = (acc, t') by rw [HI.out, hgo2.out, Nat.sub_self]; rfl)
        have hb1 : decide ((k : Int) < (k : Int)) = false := decide_eq_false (by omega)
        have hb2 : decide (k < k) = false := decide_eq_false (by omega)
        obtain ⟨A9, c9, rfl⟩ := own_slice hrow
        clear hgo hgo2 hrI he
        go_wp2
        go_ret
        refine ⟨A9, c9, ?_, ?_, ?_, ?_, hW⟩
        · rw [HG2.out]; simp only; rw [hal.out]; rfl
        · rw [HG2.out]; simp only; rw [hal.out]; exact own_cap hrow
        · rw [HG2.out]; simp only; rw [hal.out]; exact hrow
        · rw [HG2.out]; exact hra
    · have HG2 := Lib.hid (show q = ([], t') by rcases hgo.out with h | h; exact absurd h.1 he; rw [HI.out]; exact h.2)
      have b1 : (t'.e == 0) = false := by simpa using he
      have b2 : (t'.e != 0) = true := by simpa using he
      have hb3 : (decide ((k : Int) < (n : Int)) && false) = false := by simp
      clear hgo hrI
      by_cases hlt : k < n
      · have hb1 : decide ((k : Int) < (n : Int)) = true := decide_eq_true (by omega)
        have hb2 : decide (k < n) = true := decide_eq_true hlt
        go_wp2
        go_ret
        refine ⟨none, 0, ?_, Nat.le_of_eq ?_, ?_, ?_, hW⟩
        · rw [HG2.out]; rfl
        · rw [HG2.out]; rfl
        · rw [HG2.out]; exact World.ownsRow_nil _ _ _ _
        · rw [HG2.out]; exact hra
      · have hb1 : decide ((k : Int) < (n : Int)) = false := decide_eq_false (by omega)
        have hb2 : decide (k < n) = false := decide_eq_false hlt
        go_wp2
        go_ret
        refine ⟨none, 0, ?_, Nat.le_of_eq ?_, ?_, ?_, hW⟩
        · rw [HG2.out]; rfl
        · rw [HG2.out]; rfl
        · rw [HG2.out]; exact World.ownsRow_nil _ _ _ _
        · rw [HG2.out]; exact hra
end Go.Proofs.Ytebfgdonikedaaa
