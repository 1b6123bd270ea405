/-
  THE WALK of the reference's normal: of Alt.
  THE WALK of the reference's normal: of All.
-/
import Derived.Test.YtnjkihbmhacgoaaGreatDoorRxEEv
import Derived.Test.YtnjkihbmhacgoaaGreatDoorRxFlat
import Derived.Test.YtnjkihbmhacgoaaGreatDoorRxECmp
import Derived.Test.YtnjkihbmhacgoaaGreatDoorRxEPut
import Derived.BigQuiet
namespace Go.Proofs.YtnjkihbmhacgoaaGreatDoor
open Go.RowKit

set_option maxHeartbeats 2000000 in
set_option maxRecDepth 100000 in
theorem eNorm4_any (s : List Rx) (A : Option Addr) (c : Nat) (w : World) (S : Nat → Prop) (hSk : SOk S w.heap.size) (hs : RtL w S s A) (hc : s.length ≤ c) (hA : A = none → c = 0) (hN : nodesL s ≤ 100000) :
    Calls Tryz.prog 46 #[.int .i64 4, .slice A s.length c] w (GivesS S w (joinE 4 nilR allR true s)) := by
  obtain ⟨i0, hi, hz0, hz1, hz2⟩ := info_parts info_eRegex
  have hsl := len_nodes s
  go_enter Tryz.func46, Tryz.ntmps46
  go_wp2_with (go_at_call 62; refine Calls.mono (eEvery_any _) ?_; rintro e w1 ⟨ba, rfl, hba, hba2, hat, hw1⟩)
  have hy1 := hw1.size
  simp at hy1 hba2
  have h4 := (heap_alloc_old w1 (.cells #[.int .i64 6, .int .u8 0, .int .u8 0, .slice (some ⟨ba, 0, none⟩) 1 1] 25) w.heap.size (by omega)).trans ((hw1.block w.heap.size (by simp)).trans (heap_alloc_new w _))
  have h5 := heap_alloc_new w1 (.cells #[.int .i64 6, .int .u8 0, .int .u8 0, .slice (some ⟨ba, 0, none⟩) 1 1] 25)
  have hat2 := hat.to (heap_alloc_old w1 (.cells #[.int .i64 6, .int .u8 0, .int .u8 0, .slice (some ⟨ba, 0, none⟩) 1 1] 25) ba hba)
  have hB2 : Below w.heap.size w (w1.alloc (.cells #[.int .i64 6, .int .u8 0, .int .u8 0, .slice (some ⟨ba, 0, none⟩) 1 1] 25)) := (((Below.refl _ _).alloc (Nat.le_refl _) _).trans (hw1.mono (by simp))).alloc (by omega) _
  have hz2s : (w1.alloc (.cells #[.int .i64 6, .int .u8 0, .int .u8 0, .slice (some ⟨ba, 0, none⟩) 1 1] 25)).heap.size = w1.heap.size + 1 := by simp
  clear hat hw1
  generalize w1.alloc (.cells #[.int .i64 6, .int .u8 0, .int .u8 0, .slice (some ⟨ba, 0, none⟩) 1 1] 25) = w2 at *
  obtain ⟨M, hM⟩ : ∃ M, M = w1.heap.size := ⟨_, rfl⟩
  rw [← hM] at h5 hz2s hba hy1 ⊢
  clear hM
  replace hat2 := Lib.hid hat2
  replace h4 := Lib.hid h4
  replace h5 := Lib.hid h5
  replace hz2s := Lib.hid hz2s
  have HL := Lib.hid (hs.keep hSk hB2)
  clear hs
  have hS2 : ∀ b, S b → S b ∧ b < M + 1 := fun b hb => ⟨hb, by have := hSk b hb; omega⟩
  go_loopw [6, 7] (fun u i wr => ∃ (j : Nat) (ts : List Tn), j ≤ s.length ∧ i = .int .i64 j ∧ Hid (ts.map Tn.x = flatE 4 (s.take j)) ∧ RowT wr (M + 1) S 25 u ts ∧ Below (M + 1) w2 wr) (fun _ i _ => s.length - (intOf i).toNat)
  case atStart => exact ⟨0, [], Nat.zero_le _, rfl, Lib.hid rfl, RowT.nil _ _ _ _, Below.refl _ _⟩
  case round =>
    obtain ⟨j, ts, hj, rfl, hts, hrow, hW⟩ := hrel
    obtain ⟨wr1, rfl⟩ : ∃ wo, wo = wr := ⟨_, rfl⟩
    have hsz := hW.size
    have hszM : M + 1 ≤ wr1.heap.size := by rw [← hz2s.out]; exact hsz
    by_cases hlt : j < s.length
    · obtain ⟨bl, o, A', c', eA, hbl, h4', hx⟩ := HL.out.get hlt
      have hbl' : bl < w.heap.size := hSk _ hbl
      obtain ⟨e0, e1, e2, e3⟩ := h4'.to (hW.block bl (by omega))
      have HX := Lib.hid (fun h l => flatE_own (k := 4) (l := l) hlt h)
      have HX2 := Lib.hid (fun h l => flatE_other (k := 4) (l := l) hlt h)
      have hlen : ts.length + nodes s[j] ≤ 100000 := by
        have e1 := congrArg List.length hts.out
        rw [List.length_map] at e1
        have e2 := len_nodes (flatE 4 (s.take j))
        have e3 := flatE_nodes 4 (s.take j)
        have e4 := nodesL_take hlt
        have e5 := nodesL_le (s := s) (j + 1)
        omega
      have hx' := hx.keep hSk (hW.mono (show w.heap.size ≤ M + 1 by omega))
      clear hx h4'
      generalize s[j] = x at e0 e1 e2 e3 HX HX2 hx' hlen
      obtain ⟨xk, xl, xh, xs⟩ := x
      simp only [Rx.kind, Rx.lo, Rx.hi, Rx.kids] at e0 e1 e2 e3 HX HX2
      have hxl : xs.length < nodes (.node xk xl xh xs) := by have := len_nodes xs; simp only [nodes]; omega
      subst eA
      have hj2 : (j : Int) < (s.length : Int) := by omega
      have hj0 : (0 : Int) ≤ (j : Int) := by omega
      by_cases hkk : xk = 4
      · subst hkk
        obtain ⟨_, A2, c2, eq2, hd2, hA2, hl2⟩ := hx'.parts
        obtain ⟨rfl, rfl⟩ : A' = A2 ∧ c' = c2 := by simp only [Rx.kind, Rx.lo, Rx.hi, Rx.kids] at eq2; unfold rxv at eq2; injection eq2 with eq2; simp at eq2; exact eq2
        simp only [Rx.kids] at hd2 hl2
        clear hx' eq2
        replace hlen := Lib.hid hlen
        replace hxl := Lib.hid hxl
        replace hl2 := Lib.hid hl2
        replace hts := Lib.hid hts
        go_wp2_with (at_builtin; refine wpList_append_t _ rfl _ _ 23 rfl (M + 1) 25 i0 (.agg #[.int .i64 0, .int .u8 0, .int .u8 0, .slice none 0 0]) 40 Tryz.underlying23 hi hz0 hz1 hz2 rfl _ S S ts rfl hrow A' xs.length c' xs rfl rfl hA2 hd2 hl2.out hS2 (by have := hlen.out; have := hxl.out; unfold maxLen; omega) (by have := hlen.out; have := hxl.out; omega) hszM ?_; intro v5 w5 ts5 e5 hr5 hB5)
        go_roundw
        case rel => exact ⟨j + 1, ts ++ ts5, by omega, by go_num, Lib.hid (by rw [List.map_append, e5]; exact HX.out rfl _ hts.out.out), hr5, hW.trans (hB5.mono (by omega))⟩
        case measure => simp [intOf]; omega
      · have hkf : (xk == 4) = false := by simpa using hkk
        replace hlen := Lib.hid hlen
        replace hx' := Lib.hid hx'
        replace hxl := Lib.hid hxl
        go_wp2_with (at_builtin; refine wpList_append_lies _ rfl _ _ 23 rfl (M + 1) 25 i0 (.agg #[.int .i64 0, .int .u8 0, .int .u8 0, .slice none 0 0]) 4 40 Tryz.underlying23 hi hz0 hz1 hz2 rfl (by decide) _ ts.length (ts.flatMap Tn.cells) rfl (hrow.1.alloc _) ⟨wr1.heap.size, 0, none⟩ 1 1 (Tn.cells ⟨.node xk xl xh xs, A', c'⟩) rfl rfl (World.news_of_block (cs := #[.int .i64 xk, .int .u8 xl, .int .u8 xh, .slice A' xs.length c']) (t := 25) (fr := (0, 0)) (heap_alloc_new wr1 _)) (tn_one1 _) (by decide) (by have := hlen.out; unfold maxLen; omega) (by have := hlen.out; omega) (by simp; omega) (wr1.heap.size + 1) (by simp) ?_; intro g' cap' w5 hown5 hgrow5 hat5 hlt5)
        obtain ⟨hr5, hB5⟩ := row_step (T := S) (t := ⟨.node xk xl xh xs, A', c'⟩) hrow (Below.refl _ _) hszM hx'.out (fun b hb => ⟨(hS2 b hb).1, by have := (hS2 b hb).2; omega, fun e => by have := (own_blk_lt hrow.1 e).1; have := (hS2 b hb).2; omega⟩) hown5 hgrow5 hat5
        go_roundw
        case rel => exact ⟨j + 1, _, by omega, by go_num, Lib.hid (by rw [List.map_append]; exact HX2.out hkk _ hts.out), hr5, hW.trans (hB5.mono (by omega))⟩
        case measure => simp [intOf]; omega
    · have hF := Lib.hid (show ts.map Tn.x = flatE 4 s by rw [hts.out, List.take_of_length_le (by omega)])
      have hjs : j = s.length := by omega
      subst hjs
      obtain ⟨A1, c1, rfl⟩ := hrow.val
      obtain ⟨_, r2, r3, r4⟩ := hrow.list
      rw [hF.out] at r4
      have hFl := Lib.hid (r4.sub (T := fun b => (S b ∨ w.heap.size < b) ∧ b < wr1.heap.size) (fun b hb => ⟨by rcases hb.1 with h | h; exact .inl h; exact .inr (by omega), hb.2⟩))
      have hFn : ts.length = (flatE 4 s).length := by rw [← hF.out, List.length_map]
      have hFN := flatE_nodes 4 s
      have hJ0 := Lib.hid (show joinE 4 nilR allR true s = if (flatE 4 s).any (fun x => cmp x allR == 0) then allR else one_of 4 nilR (gathE true nilR (flatE 4 s)) from rfl)
      generalize hFd : flatE 4 s = F at hFl hFn hFN hJ0
      rw [hFn] at r2 ⊢
      replace hFd := Lib.hid hFd
      have hFs := len_nodes F
      have h4' := Lib.hid ((hW.block w.heap.size (by omega)).trans h4.out)
      have h5' := (hW.block M (by omega)).trans h5.out
      have hat3 := Lib.hid (hat2.out.to (hW.block ba (by omega)))
      have hB1 := hB2.trans (hW.mono (show w.heap.size ≤ M + 1 by omega))
      obtain ⟨p0, p1, p2, p3⟩ := four h5'
      have g0 := fun o : Obj => (cell_old (w := wr1) (B := M) (i := 0) (by omega) o).trans p0
      have g1 := fun o : Obj => (cell_old (w := wr1) (B := M) (i := 1) (by omega) o).trans p1
      have g2 := fun o : Obj => (cell_old (w := wr1) (B := M) (i := 2) (by omega) o).trans p2
      have g3 := fun o : Obj => (cell_old (w := wr1) (B := M) (i := 3) (by omega) o).trans p3
      have f0 := fun o o2 : Obj => (cell_old (w := wr1.alloc o) (B := M) (i := 0) (by simp; omega) o2).trans (g0 o)
      have f1 := fun o o2 : Obj => (cell_old (w := wr1.alloc o) (B := M) (i := 1) (by simp; omega) o2).trans (g1 o)
      have f2 := fun o o2 : Obj => (cell_old (w := wr1.alloc o) (B := M) (i := 2) (by simp; omega) o2).trans (g2 o)
      have f3 := fun o o2 : Obj => (cell_old (w := wr1.alloc o) (B := M) (i := 3) (by simp; omega) o2).trans (g3 o)
      clear h4 h5 hat2 hB2 HL hF hts hrow r4 hj hW hlt hS2
      have hju : ¬ ((s.length : Int) < (s.length : Int)) := by omega
      go_wp2_with fail
      have h9 := heap_alloc_new_at (((wr1.alloc (.cells #[.int .i64 1, .int .u8 0, .int .u8 0, .slice none 0 0, .int .i64 0, .int .u8 0, .int .u8 0, .slice none 0 0, .int .i64 6, .int .u8 0, .int .u8 0, .slice (some ⟨ba, 0, none⟩) 1 1] 25)).alloc (.cells #[.int .i64 0, .int .u8 0, .int .u8 0, .slice none 0 0] 25)).alloc (.cells #[.int .i64 0, .int .u8 0, .int .u8 0, .slice none 0 0, .int .i64 6, .int .u8 0, .int .u8 0, .slice (some ⟨ba, 0, none⟩) 1 1, .int .i64 0, .int .u8 0, .int .u8 0, .slice none 0 0] 25)) (.cells #[.int .i64 6, .int .u8 0, .int .u8 0, .slice (some ⟨ba, 0, none⟩) 1 1] 25) (n := wr1.heap.size + 1 + 1 + 1) (by simp)
      have h8 := (heap_alloc_old (((wr1.alloc (.cells #[.int .i64 1, .int .u8 0, .int .u8 0, .slice none 0 0, .int .i64 0, .int .u8 0, .int .u8 0, .slice none 0 0, .int .i64 6, .int .u8 0, .int .u8 0, .slice (some ⟨ba, 0, none⟩) 1 1] 25)).alloc (.cells #[.int .i64 0, .int .u8 0, .int .u8 0, .slice none 0 0] 25)).alloc (.cells #[.int .i64 0, .int .u8 0, .int .u8 0, .slice none 0 0, .int .i64 6, .int .u8 0, .int .u8 0, .slice (some ⟨ba, 0, none⟩) 1 1, .int .i64 0, .int .u8 0, .int .u8 0, .slice none 0 0] 25)) (.cells #[.int .i64 6, .int .u8 0, .int .u8 0, .slice (some ⟨ba, 0, none⟩) 1 1] 25) (wr1.heap.size + 1) (by simp <;> omega)).trans ((heap_alloc_old ((wr1.alloc (.cells #[.int .i64 1, .int .u8 0, .int .u8 0, .slice none 0 0, .int .i64 0, .int .u8 0, .int .u8 0, .slice none 0 0, .int .i64 6, .int .u8 0, .int .u8 0, .slice (some ⟨ba, 0, none⟩) 1 1] 25)).alloc (.cells #[.int .i64 0, .int .u8 0, .int .u8 0, .slice none 0 0] 25)) (.cells #[.int .i64 0, .int .u8 0, .int .u8 0, .slice none 0 0, .int .i64 6, .int .u8 0, .int .u8 0, .slice (some ⟨ba, 0, none⟩) 1 1, .int .i64 0, .int .u8 0, .int .u8 0, .slice none 0 0] 25) (wr1.heap.size + 1) (by simp)).trans (heap_alloc_new_at (wr1.alloc (.cells #[.int .i64 1, .int .u8 0, .int .u8 0, .slice none 0 0, .int .i64 0, .int .u8 0, .int .u8 0, .slice none 0 0, .int .i64 6, .int .u8 0, .int .u8 0, .slice (some ⟨ba, 0, none⟩) 1 1] 25)) (.cells #[.int .i64 0, .int .u8 0, .int .u8 0, .slice none 0 0] 25) (n := wr1.heap.size + 1) (by simp)))
      have hB4 := (below_alloc3 (Below.refl wr1.heap.size wr1) (Nat.le_refl _) (.cells #[.int .i64 1, .int .u8 0, .int .u8 0, .slice none 0 0, .int .i64 0, .int .u8 0, .int .u8 0, .slice none 0 0, .int .i64 6, .int .u8 0, .int .u8 0, .slice (some ⟨ba, 0, none⟩) 1 1] 25) (.cells #[.int .i64 0, .int .u8 0, .int .u8 0, .slice none 0 0] 25) (.cells #[.int .i64 0, .int .u8 0, .int .u8 0, .slice none 0 0, .int .i64 6, .int .u8 0, .int .u8 0, .slice (some ⟨ba, 0, none⟩) 1 1, .int .i64 0, .int .u8 0, .int .u8 0, .slice none 0 0] 25)).alloc (by simp <;> omega) (.cells #[.int .i64 6, .int .u8 0, .int .u8 0, .slice (some ⟨ba, 0, none⟩) 1 1] 25)
      have hz4 : ((((wr1.alloc (.cells #[.int .i64 1, .int .u8 0, .int .u8 0, .slice none 0 0, .int .i64 0, .int .u8 0, .int .u8 0, .slice none 0 0, .int .i64 6, .int .u8 0, .int .u8 0, .slice (some ⟨ba, 0, none⟩) 1 1] 25)).alloc (.cells #[.int .i64 0, .int .u8 0, .int .u8 0, .slice none 0 0] 25)).alloc (.cells #[.int .i64 0, .int .u8 0, .int .u8 0, .slice none 0 0, .int .i64 6, .int .u8 0, .int .u8 0, .slice (some ⟨ba, 0, none⟩) 1 1, .int .i64 0, .int .u8 0, .int .u8 0, .slice none 0 0] 25)).alloc (.cells #[.int .i64 6, .int .u8 0, .int .u8 0, .slice (some ⟨ba, 0, none⟩) 1 1] 25)).heap.size = wr1.heap.size + 4 := by simp
      clear f0 f1 f2 f3 g0 g1 g2 g3 p0 p1 p2 p3 h5'
      generalize (((wr1.alloc (.cells #[.int .i64 1, .int .u8 0, .int .u8 0, .slice none 0 0, .int .i64 0, .int .u8 0, .int .u8 0, .slice none 0 0, .int .i64 6, .int .u8 0, .int .u8 0, .slice (some ⟨ba, 0, none⟩) 1 1] 25)).alloc (.cells #[.int .i64 0, .int .u8 0, .int .u8 0, .slice none 0 0] 25)).alloc (.cells #[.int .i64 0, .int .u8 0, .int .u8 0, .slice none 0 0, .int .i64 6, .int .u8 0, .int .u8 0, .slice (some ⟨ba, 0, none⟩) 1 1, .int .i64 0, .int .u8 0, .int .u8 0, .slice none 0 0] 25)).alloc (.cells #[.int .i64 6, .int .u8 0, .int .u8 0, .slice (some ⟨ba, 0, none⟩) 1 1] 25) = w4 at *
      have h44 := Lib.hid ((hB4.block w.heap.size (by omega)).trans h4'.out)
      have hat4 := Lib.hid (hat3.out.to (hB4.block ba (by omega)))
      have hFl4 := Lib.hid (hFl.out.keep (fun b hb => hb.2) hB4)
      have hBw4 := hB1.trans (hB4.mono (by omega))
      obtain ⟨R, hR⟩ : ∃ R, R = wr1.heap.size := ⟨_, rfl⟩
      rw [← hR] at h9 h8 hz4 hFl4 hszM ⊢
      clear hFl hB4 hat3 h4' hB1 hsz hz2s hR
      replace h8 := Lib.hid h8
      replace h9 := Lib.hid h9
      replace hz4 := Lib.hid hz4
      replace hFd := Lib.hid hFd
      have hbaR : ba < R := by omega
      have hwR : w.heap.size < R := by omega
      go_loopw [10, 11] (fun u i wr => ∃ (j : Nat) (us : List Rx) (A2 : Option Addr) (c2 : Nat), j ≤ F.length ∧ i = .int .i64 j ∧ u = .slice A2 us.length c2 ∧ us.length ≤ c2 ∧ (A2 = none → c2 = 0) ∧ Hid (us = gathE true nilR (F.take j) ∧ us.length ≤ 100000) ∧ Hid ((F.take j).any (fun x => cmp x allR == 0) = false) ∧ RtL wr (fun b => (S b ∨ w.heap.size < b) ∧ b < wr.heap.size) us A2 ∧ Below (R + 4) w4 wr) (fun _ i _ => F.length - (intOf i).toNat)
      case atStart => exact ⟨0, [], none, 0, Nat.zero_le _, rfl, rfl, Nat.le_refl _, fun _ => rfl, Lib.hid ⟨rfl, Nat.zero_le _⟩, Lib.hid rfl, by simp only [RtL], Below.refl _ _⟩
      case round =>
        obtain ⟨j, us, A2, c2, hj, rfl, rfl, hc2, hA2, hus, hno, hrl, hW⟩ := hrel
        obtain ⟨wr2, rfl⟩ : ∃ wo, wo = wr := ⟨_, rfl⟩
        have hszR : R + 4 ≤ wr2.heap.size := by rw [← hz4.out]; exact hW.size
        have h44r := Lib.hid ((hW.block w.heap.size (by omega)).trans h44.out)
        have h8r := Lib.hid ((hW.block (R + 1) (by omega)).trans h8.out)
        have h9r := Lib.hid ((hW.block (R + 1 + 1 + 1) (by omega)).trans h9.out)
        have hatr := Lib.hid (hat4.out.to (hW.block ba (by omega)))
        have hBr := hBw4.trans (hW.mono (show w.heap.size ≤ R + 4 by omega))
        by_cases hlt : j < F.length
        · obtain ⟨bl, o, A', c', eA, hbl, h4x, hx⟩ := hFl4.out.get hlt
          have hblR : bl < R := hbl.2
          have h4w := h4x.to (hW.block bl (by omega))
          have hG0 := Lib.hid (fun (h : cmp F[j] nilR = 0) (l : List Rx) (hl : l = gathE true nilR (F.take j)) => show l = gathE true nilR (F.take (j + 1)) from by have := gathE_take (ord := true) (neu := nilR) hlt (l := l) hl; rwa [if_pos h] at this)
          have hG1 := Lib.hid (fun (h : ¬ cmp F[j] nilR = 0) (l : List Rx) (hl : l = gathE true nilR (F.take j)) => show putE true l F[j] = gathE true nilR (F.take (j + 1)) from by have := gathE_take (ord := true) (neu := nilR) hlt (l := l) hl; rwa [if_neg h] at this)
          have hD0 := Lib.hid (fun (h : cmp F[j] allR = 0) => show joinE 4 nilR allR true s = allR from by rw [hJ0.out, if_pos (List.any_eq_true.2 ⟨F[j], List.getElem_mem hlt, by rw [h]; rfl⟩)])
          have hD1 := Lib.hid (fun (h : ¬ cmp F[j] allR = 0) => show (F.take (j + 1)).any (fun x => cmp x allR == 0) = false from by rw [List.take_succ_eq_append_getElem hlt, List.any_append, hno.out]; simpa using h)
          have hxW := fun W' (hWW : Below wr2.heap.size wr2 W') => (show RtV W' (Lo W'.heap.size) _ _ from RtV.to (fun b hb => ⟨by have := hWW.size; have := hb.2; show b < _; omega, (hWW.block b (by have := hb.2; omega)).trans (hW.block b (by have := hb.2; omega))⟩) _ hx)
          have hxP := Lib.hid (show RtV wr2 (fun b => (S b ∨ w.heap.size < b) ∧ b < R) _ _ from RtV.to (fun b hb => ⟨hb, hW.block b (by have := hb.2; omega)⟩) _ hx)
          have hC9 : ∀ W', Below wr2.heap.size wr2 W' → Calls Tryz.prog 28 #[rxv F[j].kind F[j].lo F[j].hi A' F[j].kids.length c', (rxv 6 0 0 (some ⟨ba, 0, none⟩) 1 1)] W' fun e w' => e = .returned (.int .i64 (cmp F[j] allR)) ∧ Below W'.heap.size W' w' := fun W' hWW => eCmp_any _ _ _ _ W' (hxW W' hWW) (all_at (hatr.out.to (hWW.block ba (by omega))) (by have := hWW.size; show ba < _; omega))
          have hC8 : ∀ W', Below wr2.heap.size wr2 W' → Calls Tryz.prog 28 #[rxv F[j].kind F[j].lo F[j].hi A' F[j].kids.length c', (rxv 0 0 0 none 0 0)] W' fun e w' => e = .returned (.int .i64 (cmp F[j] nilR)) ∧ Below W'.heap.size W' w' := fun W' hWW => eCmp_any _ _ _ _ W' (hxW W' hWW) (nil_at _ _)
          have hglen := gathE_len true nilR (F.take (j + 1))
          clear hx h4x hxW
          generalize hc9 : cmp F[j] allR = cv9 at hC9 hD0 hD1
          generalize hc8 : cmp F[j] nilR = cv8 at hC8 hG0 hG1
          clear hc9 hc8
          generalize F[j] = x at *
          obtain ⟨xk, xl, xh, xs⟩ := x
          simp only [Rx.kind, Rx.lo, Rx.hi, Rx.kids] at h4w hC9 hC8 hxP
          generalize hxn : xs.length = xn at h4w hC9 hC8 hxP
          obtain ⟨e0, e1, e2, e3⟩ := h4w
          unfold rxv at hC9 hC8
          subst eA
          have hj2 : (j : Int) < (F.length : Int) := by omega
          have hj0 : (0 : Int) ≤ (j : Int) := by omega
          have HT9 := Lib.hid fun W' (hWW : Below wr2.heap.size wr2 W') => (show W'.cell? ⟨bl, o + j * 4, none⟩ = some (.int .i64 xk) ∧ W'.cell? ⟨bl, o + j * 4 + 1, none⟩ = some (.int .u8 xl) ∧ W'.cell? ⟨bl, o + j * 4 + 2, none⟩ = some (.int .u8 xh) ∧ W'.cell? ⟨bl, o + j * 4 + 3, none⟩ = some (.slice A' xn c') ∧ W'.cell? ⟨R + 1 + 1 + 1, 0, none⟩ = some (.int .i64 6) ∧ W'.cell? ⟨R + 1 + 1 + 1, 1, none⟩ = some (.int .u8 0) ∧ W'.cell? ⟨R + 1 + 1 + 1, 2, none⟩ = some (.int .u8 0) ∧ W'.cell? ⟨R + 1 + 1 + 1, 3, none⟩ = some (.slice (some ⟨ba, 0, none⟩) 1 1) from by
            obtain ⟨d0, d1, d2, d3⟩ := four ((hWW.block (R + 1 + 1 + 1) (by omega)).trans h9r.out)
            obtain ⟨k0, k1, k2, k3⟩ := (show At4 wr2 bl (o + j * 4) xk xl xh (.slice A' xn c') from ⟨e0, e1, e2, e3⟩).to (hWW.block bl (by omega))
            exact ⟨k0, k1, k2, k3, d0, d1, d2, d3⟩)
          have HT8 := Lib.hid fun W' (hWW : Below wr2.heap.size wr2 W') => (show W'.cell? ⟨bl, o + j * 4, none⟩ = some (.int .i64 xk) ∧ W'.cell? ⟨bl, o + j * 4 + 1, none⟩ = some (.int .u8 xl) ∧ W'.cell? ⟨bl, o + j * 4 + 2, none⟩ = some (.int .u8 xh) ∧ W'.cell? ⟨bl, o + j * 4 + 3, none⟩ = some (.slice A' xn c') ∧ W'.cell? ⟨R + 1, 0, none⟩ = some (.int .i64 0) ∧ W'.cell? ⟨R + 1, 1, none⟩ = some (.int .u8 0) ∧ W'.cell? ⟨R + 1, 2, none⟩ = some (.int .u8 0) ∧ W'.cell? ⟨R + 1, 3, none⟩ = some (.slice none 0 0) from by
            obtain ⟨d0, d1, d2, d3⟩ := four ((hWW.block (R + 1) (by omega)).trans h8r.out)
            obtain ⟨k0, k1, k2, k3⟩ := (show At4 wr2 bl (o + j * 4) xk xl xh (.slice A' xn c') from ⟨e0, e1, e2, e3⟩).to (hWW.block bl (by omega))
            exact ⟨k0, k1, k2, k3, d0, d1, d2, d3⟩)
          have hd : Below wr2.heap.size wr2 wr2.drew := (Below.refl _ _).drew
          clear e0 e1 e2 e3
          by_cases hz9 : cv9 = 0
          · subst hz9
            go_wp2_with fail
            go_region_held3 (fun W => W.cell? ⟨bl, o + j * 4, none⟩ = some (.int .i64 xk) ∧ W.cell? ⟨bl, o + j * 4 + 1, none⟩ = some (.int .u8 xl) ∧ W.cell? ⟨bl, o + j * 4 + 2, none⟩ = some (.int .u8 xh) ∧ W.cell? ⟨bl, o + j * 4 + 3, none⟩ = some (.slice A' xn c') ∧ W.cell? ⟨R + 1 + 1 + 1, 0, none⟩ = some (.int .i64 6) ∧ W.cell? ⟨R + 1 + 1 + 1, 1, none⟩ = some (.int .u8 0) ∧ W.cell? ⟨R + 1 + 1 + 1, 2, none⟩ = some (.int .u8 0) ∧ W.cell? ⟨R + 1 + 1 + 1, 3, none⟩ = some (.slice (some ⟨ba, 0, none⟩) 1 1))
            (first | exact (HT9.out _ hd) | exact (HT9.out _ (by assumption)))
            (first | (go_at_call 28; ((with_reducible refine Calls.mono (hC9 _ hd) ?_)); rintro e' w6 ⟨rfl, hww6⟩; have hB6 : Below wr2.heap.size wr2 w6 := hd.trans (hww6.mono (by simp))))
            obtain ⟨_, _, _, _, d0, d1, d2, d3⟩ := HT9.out _ hB6
            have h446 := (hB6.block w.heap.size (by omega)).trans h44r.out
            obtain ⟨q0, q1, q2, q3⟩ := four h446
            have hf6 := four_frozen h446
            have hBf := hBr.trans (hB6.mono (by omega))
            have hres := Lib.hid (hD0.out (by trivial))
            have hat6 := Lib.hid (hatr.out.to (hB6.block ba (by omega)))
            have hbal : ba < w6.heap.size := by have := hB6.size; omega
            clear HT9 HT8 hC9 hC8
            go_wp2_with fail
            refine bodyPost_ret (v := (rxv 6 0 0 (some ⟨ba, 0, none⟩) 1 1)) (by unfold rxv; simp [results, Tryz.results46, go_sem, q0, q1, q2, q3]) rfl ?_
            rw [hres.out]
            exact fin_givesS (x := allR) hBf (Nat.le_refl _) (T := fun b => b = ba) (all_at hat6.out rfl) (fun b hb => by subst hb; exact ⟨by omega, .inr ⟨by omega, hbal⟩⟩)
          · have hz9b : (cv9 == 0) = false := by simpa using hz9
            go_wp2_with fail
            go_region_held3 (fun W => W.cell? ⟨bl, o + j * 4, none⟩ = some (.int .i64 xk) ∧ W.cell? ⟨bl, o + j * 4 + 1, none⟩ = some (.int .u8 xl) ∧ W.cell? ⟨bl, o + j * 4 + 2, none⟩ = some (.int .u8 xh) ∧ W.cell? ⟨bl, o + j * 4 + 3, none⟩ = some (.slice A' xn c') ∧ W.cell? ⟨R + 1 + 1 + 1, 0, none⟩ = some (.int .i64 6) ∧ W.cell? ⟨R + 1 + 1 + 1, 1, none⟩ = some (.int .u8 0) ∧ W.cell? ⟨R + 1 + 1 + 1, 2, none⟩ = some (.int .u8 0) ∧ W.cell? ⟨R + 1 + 1 + 1, 3, none⟩ = some (.slice (some ⟨ba, 0, none⟩) 1 1))
            (first | exact (HT9.out _ hd) | exact (HT9.out _ (by assumption)))
            (first | (go_at_call 28; ((with_reducible refine Calls.mono (hC9 _ hd) ?_)); rintro e' w6 ⟨rfl, hww6⟩; have hB6 : Below wr2.heap.size wr2 w6 := hd.trans (hww6.mono (by simp))))
            have hd6 : Below wr2.heap.size wr2 w6.drew := hB6.drew
            have hy6 := hB6.size
            by_cases hz8 : cv8 = 0
            · subst hz8
              go_wp2_with fail
              go_region_held3 (fun W => W.cell? ⟨bl, o + j * 4, none⟩ = some (.int .i64 xk) ∧ W.cell? ⟨bl, o + j * 4 + 1, none⟩ = some (.int .u8 xl) ∧ W.cell? ⟨bl, o + j * 4 + 2, none⟩ = some (.int .u8 xh) ∧ W.cell? ⟨bl, o + j * 4 + 3, none⟩ = some (.slice A' xn c') ∧ W.cell? ⟨R + 1, 0, none⟩ = some (.int .i64 0) ∧ W.cell? ⟨R + 1, 1, none⟩ = some (.int .u8 0) ∧ W.cell? ⟨R + 1, 2, none⟩ = some (.int .u8 0) ∧ W.cell? ⟨R + 1, 3, none⟩ = some (.slice none 0 0))
              (first | exact (HT8.out _ hd6) | exact (HT8.out _ (by assumption)))
              (first | (go_at_call 28; ((with_reducible refine Calls.mono (hC8 _ hd6) ?_)); rintro e' w7 ⟨rfl, hww7⟩; have hB7 : Below wr2.heap.size wr2 w7 := hd6.trans (hww7.mono (by have := hB6.size; simp; omega))))
              go_wp2_with fail
              go_roundw
              case rel => exact ⟨j + 1, us, A2, c2, by omega, by go_num, rfl, hc2, hA2, Lib.hid ⟨by first | exact hG0.out rfl _ hus.out.1 | exact hG0.out trivial _ hus.out.1, hus.out.2⟩, Lib.hid (hD1.out hz9), RtL.to (fun b hb => ⟨⟨hb.1, Nat.lt_of_lt_of_le hb.2 hB7.size⟩, hB7.block b hb.2⟩) _ hrl, hW.trans (hB7.mono hszR)⟩
              case measure => simp [intOf]; omega
            · have hz8b : (cv8 == 0) = false := by simpa using hz8
              go_wp2_with fail
              go_region_held3 (fun W => W.cell? ⟨bl, o + j * 4, none⟩ = some (.int .i64 xk) ∧ W.cell? ⟨bl, o + j * 4 + 1, none⟩ = some (.int .u8 xl) ∧ W.cell? ⟨bl, o + j * 4 + 2, none⟩ = some (.int .u8 xh) ∧ W.cell? ⟨bl, o + j * 4 + 3, none⟩ = some (.slice A' xn c') ∧ W.cell? ⟨R + 1, 0, none⟩ = some (.int .i64 0) ∧ W.cell? ⟨R + 1, 1, none⟩ = some (.int .u8 0) ∧ W.cell? ⟨R + 1, 2, none⟩ = some (.int .u8 0) ∧ W.cell? ⟨R + 1, 3, none⟩ = some (.slice none 0 0))
              (first | exact (HT8.out _ hd6) | exact (HT8.out _ (by assumption)))
              (first | (go_at_call 28; ((with_reducible refine Calls.mono (hC8 _ hd6) ?_)); rintro e' w7 ⟨rfl, hww7⟩; have hB7 : Below wr2.heap.size wr2 w7 := hd6.trans (hww7.mono (by have := hB6.size; simp; omega))))
              subst hxn
              obtain ⟨k0, k1, k2, k3, _⟩ := HT8.out _ hB7
              have hy7 := hB7.size
              have hxv := hxP.out.keep (n := R + 4) (fun b hb => by have := hb.2; omega) (hB7.mono hszR)
              have hF100 : (F.take (j + 1)).length ≤ 100000 := by rw [List.length_take]; omega
              clear HT9 HT8 hC9 hC8 hxP
              have hP := ePut_any (.node xk xl xh xs) _ us A2 c2 w7 (fun b => (S b ∨ w.heap.size < b) ∧ b < w7.heap.size) (fun b hb => hb.2) (hxv.sub (fun b hb => ⟨hb.1, by have := hb.2; omega⟩)) (RtL.to (fun b hb => ⟨⟨hb.1, Nat.lt_of_lt_of_le hb.2 hB7.size⟩, hB7.block b hb.2⟩) _ hrl) hc2 hA2 (by have := hus.out.2; omega)
              unfold rxv at hP
              have hg1 := Lib.hid (show ins (.node xk xl xh xs) us = gathE true nilR (F.take (j + 1)) from hG1.out hz8 _ hus.out.1)
              clear hxv hrl
              go_wp2_with (go_at_call 63; refine Calls.mono hP ?_; clear hP; rintro e' w8 ⟨A8, c8, rfl, h81, h82, h83, hB8⟩)
              have hy8 := hB8.size
              go_roundw
              case rel => exact ⟨j + 1, _, A8, c8, by omega, by go_num, rfl, h81, h82, Lib.hid ⟨hg1.out, by rw [hg1.out]; omega⟩, Lib.hid (hD1.out hz9), h83.sub (fun b hb => by rcases hb with h | h; exact ⟨h.1, by have := h.2; omega⟩; exact ⟨.inr (by have := h.1; omega), h.2⟩), hW.trans ((hB7.mono hszR).trans (hB8.mono (by omega)))⟩
              case measure => simp [intOf]; omega
        · have hjF : j = F.length := by omega
          subst hjF
          rw [List.take_length] at hno
          have hJ1 := Lib.hid (show joinE 4 nilR allR true s = one_of 4 nilR (gathE true nilR F) from by rw [hJ0.out, if_neg (by rw [hno.out]; decide)])
          have hglen := gathE_len true nilR F
          have hus2 := hus.out.1
          rw [List.take_length] at hus2
          clear hus
          subst hus2
          generalize gathE true nilR F = G at *
          obtain ⟨q0, q1, q2, q3⟩ := four h44r.out
          have hf6 := four_frozen h44r.out
          clear hFl4 hno hJ0 hlt hFd h44
          have hF100 : F.length ≤ 100000 := by omega
          have hju2 : ¬ ((F.length : Int) < (F.length : Int)) := by omega
          match G, hglen, hJ1, hrl, hc2 with
          | [], _, hJ1, _, _ =>
            obtain ⟨d0, d1, d2, d3⟩ := four h8r.out
            have hres := Lib.hid (show joinE 4 nilR allR true s = nilR from hJ1.out)
            have hbal : ba < wr2.heap.size := by omega
            simp only [List.length_nil]
            go_wp2_with fail
            refine bodyPost_ret (v := (rxv 0 0 0 none 0 0)) (by unfold rxv; simp [results, Tryz.results46, go_sem, q0, q1, q2, q3]) rfl ?_
            rw [hres.out]
            exact fin_givesS (x := nilR) hBr (Nat.le_refl _) (T := fun b => b = ba) (nil_at _ _) (fun b hb => by subst hb; exact ⟨by omega, .inr ⟨by omega, hbal⟩⟩)
          | [y], _, hJ1, hrl, _ =>
            obtain ⟨by1, oy, Ay, cy, rfl, hby, hy4, hyv, _⟩ := hrl
            obtain ⟨d0, d1, d2, d3⟩ := hy4
            have hres := Lib.hid (show joinE 4 nilR allR true s = y from hJ1.out)
            replace hyv := Lib.hid hyv
            clear hrl hJ1
            simp only [List.length_cons, List.length_nil]
            go_wp2_with fail
            refine bodyPost_ret (v := rxv y.kind y.lo y.hi Ay y.kids.length cy) (by unfold rxv; simp [results, Tryz.results46, go_sem, q0, q1, q2, q3]) rfl ?_
            rw [hres.out]
            exact fin_givesS hBr (Nat.le_refl _) hyv.out (fun b hb => fin_plus hSk hb)
          | y :: z :: r, hglen, hJ1, hrl, hc2 =>
            have hres := Lib.hid (show joinE 4 nilR allR true s = .node 4 0 0 (y :: z :: r) from hJ1.out)
            have hv := Lib.hid (RtV.mk (k := 4) (l := 0) (h := 0) (s := y :: z :: r) ⟨by unfold I64; omega, by omega, by omega, by omega⟩ hc2 hA2 hrl)
            clear hrl hJ1 hA2
            have hn0 : ((y :: z :: r).length == 0) = false := rfl
            have hn1 : ((y :: z :: r).length == 1) = false := rfl
            obtain ⟨n, hn⟩ : ∃ n, n = r.length := ⟨_, rfl⟩
            simp only [List.length_cons] at hc2 hglen ⊢
            go_wp2_with fail
            refine bodyPost_ret (v := rxv 4 0 0 A2 (y :: z :: r).length c2) (by unfold rxv; simp [results, Tryz.results46, go_sem, q0, q1, q2, q3]) rfl ?_
            rw [hres.out]
            exact fin_givesS (x := .node 4 0 0 (y :: z :: r)) hBr (Nat.le_refl _) hv.out (fun b hb => fin_plus hSk hb)

end Go.Proofs.YtnjkihbmhacgoaaGreatDoor

namespace Go.Proofs.YtnjkihbmhacgoaaGreatDoor
open Go.RowKit

set_option maxHeartbeats 2000000 in
set_option maxRecDepth 100000 in
theorem eNorm5_any (s : List Rx) (A : Option Addr) (c : Nat) (w : World) (S : Nat → Prop) (hSk : SOk S w.heap.size) (hs : RtL w S s A) (hc : s.length ≤ c) (hA : A = none → c = 0) (hN : nodesL s ≤ 100000) :
    Calls Tryz.prog 46 #[.int .i64 5, .slice A s.length c] w (GivesS S w (joinE 5 allR nilR true s)) := by
  obtain ⟨i0, hi, hz0, hz1, hz2⟩ := info_parts info_eRegex
  have hsl := len_nodes s
  go_enter Tryz.func46, Tryz.ntmps46
  go_wp2_with (go_at_call 62; refine Calls.mono (eEvery_any _) ?_; rintro e w1 ⟨ba, rfl, hba, hba2, hat, hw1⟩)
  have hy1 := hw1.size
  simp at hy1 hba2
  have h4 := (heap_alloc_old w1 (.cells #[.int .i64 6, .int .u8 0, .int .u8 0, .slice (some ⟨ba, 0, none⟩) 1 1] 25) w.heap.size (by omega)).trans ((hw1.block w.heap.size (by simp)).trans (heap_alloc_new w _))
  have h5 := heap_alloc_new w1 (.cells #[.int .i64 6, .int .u8 0, .int .u8 0, .slice (some ⟨ba, 0, none⟩) 1 1] 25)
  have hat2 := hat.to (heap_alloc_old w1 (.cells #[.int .i64 6, .int .u8 0, .int .u8 0, .slice (some ⟨ba, 0, none⟩) 1 1] 25) ba hba)
  have hB2 : Below w.heap.size w (w1.alloc (.cells #[.int .i64 6, .int .u8 0, .int .u8 0, .slice (some ⟨ba, 0, none⟩) 1 1] 25)) := (((Below.refl _ _).alloc (Nat.le_refl _) _).trans (hw1.mono (by simp))).alloc (by omega) _
  have hz2s : (w1.alloc (.cells #[.int .i64 6, .int .u8 0, .int .u8 0, .slice (some ⟨ba, 0, none⟩) 1 1] 25)).heap.size = w1.heap.size + 1 := by simp
  clear hat hw1
  generalize w1.alloc (.cells #[.int .i64 6, .int .u8 0, .int .u8 0, .slice (some ⟨ba, 0, none⟩) 1 1] 25) = w2 at *
  obtain ⟨M, hM⟩ : ∃ M, M = w1.heap.size := ⟨_, rfl⟩
  rw [← hM] at h5 hz2s hba hy1 ⊢
  clear hM
  replace hat2 := Lib.hid hat2
  replace h4 := Lib.hid h4
  replace h5 := Lib.hid h5
  replace hz2s := Lib.hid hz2s
  have HL := Lib.hid (hs.keep hSk hB2)
  clear hs
  have hS2 : ∀ b, S b → S b ∧ b < M + 1 := fun b hb => ⟨hb, by have := hSk b hb; omega⟩
  go_loopw [6, 7] (fun u i wr => ∃ (j : Nat) (ts : List Tn), j ≤ s.length ∧ i = .int .i64 j ∧ Hid (ts.map Tn.x = flatE 5 (s.take j)) ∧ RowT wr (M + 1) S 25 u ts ∧ Below (M + 1) w2 wr) (fun _ i _ => s.length - (intOf i).toNat)
  case atStart => exact ⟨0, [], Nat.zero_le _, rfl, Lib.hid rfl, RowT.nil _ _ _ _, Below.refl _ _⟩
  case round =>
    obtain ⟨j, ts, hj, rfl, hts, hrow, hW⟩ := hrel
    obtain ⟨wr1, rfl⟩ : ∃ wo, wo = wr := ⟨_, rfl⟩
    have hsz := hW.size
    have hszM : M + 1 ≤ wr1.heap.size := by rw [← hz2s.out]; exact hsz
    by_cases hlt : j < s.length
    · obtain ⟨bl, o, A', c', eA, hbl, h4', hx⟩ := HL.out.get hlt
      have hbl' : bl < w.heap.size := hSk _ hbl
      obtain ⟨e0, e1, e2, e3⟩ := h4'.to (hW.block bl (by omega))
      have HX := Lib.hid (fun h l => flatE_own (k := 5) (l := l) hlt h)
      have HX2 := Lib.hid (fun h l => flatE_other (k := 5) (l := l) hlt h)
      have hlen : ts.length + nodes s[j] ≤ 100000 := by
        have e1 := congrArg List.length hts.out
        rw [List.length_map] at e1
        have e2 := len_nodes (flatE 5 (s.take j))
        have e3 := flatE_nodes 5 (s.take j)
        have e4 := nodesL_take hlt
        have e5 := nodesL_le (s := s) (j + 1)
        omega
      have hx' := hx.keep hSk (hW.mono (show w.heap.size ≤ M + 1 by omega))
      clear hx h4'
      generalize s[j] = x at e0 e1 e2 e3 HX HX2 hx' hlen
      obtain ⟨xk, xl, xh, xs⟩ := x
      simp only [Rx.kind, Rx.lo, Rx.hi, Rx.kids] at e0 e1 e2 e3 HX HX2
      have hxl : xs.length < nodes (.node xk xl xh xs) := by have := len_nodes xs; simp only [nodes]; omega
      subst eA
      have hj2 : (j : Int) < (s.length : Int) := by omega
      have hj0 : (0 : Int) ≤ (j : Int) := by omega
      by_cases hkk : xk = 5
      · subst hkk
        obtain ⟨_, A2, c2, eq2, hd2, hA2, hl2⟩ := hx'.parts
        obtain ⟨rfl, rfl⟩ : A' = A2 ∧ c' = c2 := by simp only [Rx.kind, Rx.lo, Rx.hi, Rx.kids] at eq2; unfold rxv at eq2; injection eq2 with eq2; simp at eq2; exact eq2
        simp only [Rx.kids] at hd2 hl2
        clear hx' eq2
        replace hlen := Lib.hid hlen
        replace hxl := Lib.hid hxl
        replace hl2 := Lib.hid hl2
        replace hts := Lib.hid hts
        go_wp2_with (at_builtin; refine wpList_append_t _ rfl _ _ 23 rfl (M + 1) 25 i0 (.agg #[.int .i64 0, .int .u8 0, .int .u8 0, .slice none 0 0]) 40 Tryz.underlying23 hi hz0 hz1 hz2 rfl _ S S ts rfl hrow A' xs.length c' xs rfl rfl hA2 hd2 hl2.out hS2 (by have := hlen.out; have := hxl.out; unfold maxLen; omega) (by have := hlen.out; have := hxl.out; omega) hszM ?_; intro v5 w5 ts5 e5 hr5 hB5)
        go_roundw
        case rel => exact ⟨j + 1, ts ++ ts5, by omega, by go_num, Lib.hid (by rw [List.map_append, e5]; exact HX.out rfl _ hts.out.out), hr5, hW.trans (hB5.mono (by omega))⟩
        case measure => simp [intOf]; omega
      · have hkf : (xk == 5) = false := by simpa using hkk
        replace hlen := Lib.hid hlen
        replace hx' := Lib.hid hx'
        replace hxl := Lib.hid hxl
        go_wp2_with (at_builtin; refine wpList_append_lies _ rfl _ _ 23 rfl (M + 1) 25 i0 (.agg #[.int .i64 0, .int .u8 0, .int .u8 0, .slice none 0 0]) 4 40 Tryz.underlying23 hi hz0 hz1 hz2 rfl (by decide) _ ts.length (ts.flatMap Tn.cells) rfl (hrow.1.alloc _) ⟨wr1.heap.size, 0, none⟩ 1 1 (Tn.cells ⟨.node xk xl xh xs, A', c'⟩) rfl rfl (World.news_of_block (cs := #[.int .i64 xk, .int .u8 xl, .int .u8 xh, .slice A' xs.length c']) (t := 25) (fr := (0, 0)) (heap_alloc_new wr1 _)) (tn_one1 _) (by decide) (by have := hlen.out; unfold maxLen; omega) (by have := hlen.out; omega) (by simp; omega) (wr1.heap.size + 1) (by simp) ?_; intro g' cap' w5 hown5 hgrow5 hat5 hlt5)
        obtain ⟨hr5, hB5⟩ := row_step (T := S) (t := ⟨.node xk xl xh xs, A', c'⟩) hrow (Below.refl _ _) hszM hx'.out (fun b hb => ⟨(hS2 b hb).1, by have := (hS2 b hb).2; omega, fun e => by have := (own_blk_lt hrow.1 e).1; have := (hS2 b hb).2; omega⟩) hown5 hgrow5 hat5
        go_roundw
        case rel => exact ⟨j + 1, _, by omega, by go_num, Lib.hid (by rw [List.map_append]; exact HX2.out hkk _ hts.out), hr5, hW.trans (hB5.mono (by omega))⟩
        case measure => simp [intOf]; omega
    · have hF := Lib.hid (show ts.map Tn.x = flatE 5 s by rw [hts.out, List.take_of_length_le (by omega)])
      have hjs : j = s.length := by omega
      subst hjs
      obtain ⟨A1, c1, rfl⟩ := hrow.val
      obtain ⟨_, r2, r3, r4⟩ := hrow.list
      rw [hF.out] at r4
      have hFl := Lib.hid (r4.sub (T := fun b => (S b ∨ w.heap.size < b) ∧ b < wr1.heap.size) (fun b hb => ⟨by rcases hb.1 with h | h; exact .inl h; exact .inr (by omega), hb.2⟩))
      have hFn : ts.length = (flatE 5 s).length := by rw [← hF.out, List.length_map]
      have hFN := flatE_nodes 5 s
      have hJ0 := Lib.hid (show joinE 5 allR nilR true s = if (flatE 5 s).any (fun x => cmp x nilR == 0) then nilR else one_of 5 allR (gathE true allR (flatE 5 s)) from rfl)
      generalize hFd : flatE 5 s = F at hFl hFn hFN hJ0
      rw [hFn] at r2 ⊢
      replace hFd := Lib.hid hFd
      have hFs := len_nodes F
      have h4' := Lib.hid ((hW.block w.heap.size (by omega)).trans h4.out)
      have h5' := (hW.block M (by omega)).trans h5.out
      have hat3 := Lib.hid (hat2.out.to (hW.block ba (by omega)))
      have hB1 := hB2.trans (hW.mono (show w.heap.size ≤ M + 1 by omega))
      obtain ⟨p0, p1, p2, p3⟩ := four h5'
      have g0 := fun o : Obj => (cell_old (w := wr1) (B := M) (i := 0) (by omega) o).trans p0
      have g1 := fun o : Obj => (cell_old (w := wr1) (B := M) (i := 1) (by omega) o).trans p1
      have g2 := fun o : Obj => (cell_old (w := wr1) (B := M) (i := 2) (by omega) o).trans p2
      have g3 := fun o : Obj => (cell_old (w := wr1) (B := M) (i := 3) (by omega) o).trans p3
      have f0 := fun o o2 : Obj => (cell_old (w := wr1.alloc o) (B := M) (i := 0) (by simp; omega) o2).trans (g0 o)
      have f1 := fun o o2 : Obj => (cell_old (w := wr1.alloc o) (B := M) (i := 1) (by simp; omega) o2).trans (g1 o)
      have f2 := fun o o2 : Obj => (cell_old (w := wr1.alloc o) (B := M) (i := 2) (by simp; omega) o2).trans (g2 o)
      have f3 := fun o o2 : Obj => (cell_old (w := wr1.alloc o) (B := M) (i := 3) (by simp; omega) o2).trans (g3 o)
      clear h4 h5 hat2 hB2 HL hF hts hrow r4 hj hW hlt hS2
      have hju : ¬ ((s.length : Int) < (s.length : Int)) := by omega
      go_wp2_with fail
      have h9 := heap_alloc_new_at (((wr1.alloc (.cells #[.int .i64 1, .int .u8 0, .int .u8 0, .slice none 0 0, .int .i64 0, .int .u8 0, .int .u8 0, .slice none 0 0, .int .i64 6, .int .u8 0, .int .u8 0, .slice (some ⟨ba, 0, none⟩) 1 1] 25)).alloc (.cells #[.int .i64 6, .int .u8 0, .int .u8 0, .slice (some ⟨ba, 0, none⟩) 1 1] 25)).alloc (.cells #[.int .i64 0, .int .u8 0, .int .u8 0, .slice none 0 0, .int .i64 6, .int .u8 0, .int .u8 0, .slice (some ⟨ba, 0, none⟩) 1 1, .int .i64 0, .int .u8 0, .int .u8 0, .slice none 0 0] 25)) (.cells #[.int .i64 0, .int .u8 0, .int .u8 0, .slice none 0 0] 25) (n := wr1.heap.size + 1 + 1 + 1) (by simp)
      have h8 := (heap_alloc_old (((wr1.alloc (.cells #[.int .i64 1, .int .u8 0, .int .u8 0, .slice none 0 0, .int .i64 0, .int .u8 0, .int .u8 0, .slice none 0 0, .int .i64 6, .int .u8 0, .int .u8 0, .slice (some ⟨ba, 0, none⟩) 1 1] 25)).alloc (.cells #[.int .i64 6, .int .u8 0, .int .u8 0, .slice (some ⟨ba, 0, none⟩) 1 1] 25)).alloc (.cells #[.int .i64 0, .int .u8 0, .int .u8 0, .slice none 0 0, .int .i64 6, .int .u8 0, .int .u8 0, .slice (some ⟨ba, 0, none⟩) 1 1, .int .i64 0, .int .u8 0, .int .u8 0, .slice none 0 0] 25)) (.cells #[.int .i64 0, .int .u8 0, .int .u8 0, .slice none 0 0] 25) (wr1.heap.size + 1) (by simp <;> omega)).trans ((heap_alloc_old ((wr1.alloc (.cells #[.int .i64 1, .int .u8 0, .int .u8 0, .slice none 0 0, .int .i64 0, .int .u8 0, .int .u8 0, .slice none 0 0, .int .i64 6, .int .u8 0, .int .u8 0, .slice (some ⟨ba, 0, none⟩) 1 1] 25)).alloc (.cells #[.int .i64 6, .int .u8 0, .int .u8 0, .slice (some ⟨ba, 0, none⟩) 1 1] 25)) (.cells #[.int .i64 0, .int .u8 0, .int .u8 0, .slice none 0 0, .int .i64 6, .int .u8 0, .int .u8 0, .slice (some ⟨ba, 0, none⟩) 1 1, .int .i64 0, .int .u8 0, .int .u8 0, .slice none 0 0] 25) (wr1.heap.size + 1) (by simp)).trans (heap_alloc_new_at (wr1.alloc (.cells #[.int .i64 1, .int .u8 0, .int .u8 0, .slice none 0 0, .int .i64 0, .int .u8 0, .int .u8 0, .slice none 0 0, .int .i64 6, .int .u8 0, .int .u8 0, .slice (some ⟨ba, 0, none⟩) 1 1] 25)) (.cells #[.int .i64 6, .int .u8 0, .int .u8 0, .slice (some ⟨ba, 0, none⟩) 1 1] 25) (n := wr1.heap.size + 1) (by simp)))
      have hB4 := (below_alloc3 (Below.refl wr1.heap.size wr1) (Nat.le_refl _) (.cells #[.int .i64 1, .int .u8 0, .int .u8 0, .slice none 0 0, .int .i64 0, .int .u8 0, .int .u8 0, .slice none 0 0, .int .i64 6, .int .u8 0, .int .u8 0, .slice (some ⟨ba, 0, none⟩) 1 1] 25) (.cells #[.int .i64 6, .int .u8 0, .int .u8 0, .slice (some ⟨ba, 0, none⟩) 1 1] 25) (.cells #[.int .i64 0, .int .u8 0, .int .u8 0, .slice none 0 0, .int .i64 6, .int .u8 0, .int .u8 0, .slice (some ⟨ba, 0, none⟩) 1 1, .int .i64 0, .int .u8 0, .int .u8 0, .slice none 0 0] 25)).alloc (by simp <;> omega) (.cells #[.int .i64 0, .int .u8 0, .int .u8 0, .slice none 0 0] 25)
      have hz4 : ((((wr1.alloc (.cells #[.int .i64 1, .int .u8 0, .int .u8 0, .slice none 0 0, .int .i64 0, .int .u8 0, .int .u8 0, .slice none 0 0, .int .i64 6, .int .u8 0, .int .u8 0, .slice (some ⟨ba, 0, none⟩) 1 1] 25)).alloc (.cells #[.int .i64 6, .int .u8 0, .int .u8 0, .slice (some ⟨ba, 0, none⟩) 1 1] 25)).alloc (.cells #[.int .i64 0, .int .u8 0, .int .u8 0, .slice none 0 0, .int .i64 6, .int .u8 0, .int .u8 0, .slice (some ⟨ba, 0, none⟩) 1 1, .int .i64 0, .int .u8 0, .int .u8 0, .slice none 0 0] 25)).alloc (.cells #[.int .i64 0, .int .u8 0, .int .u8 0, .slice none 0 0] 25)).heap.size = wr1.heap.size + 4 := by simp
      clear f0 f1 f2 f3 g0 g1 g2 g3 p0 p1 p2 p3 h5'
      generalize (((wr1.alloc (.cells #[.int .i64 1, .int .u8 0, .int .u8 0, .slice none 0 0, .int .i64 0, .int .u8 0, .int .u8 0, .slice none 0 0, .int .i64 6, .int .u8 0, .int .u8 0, .slice (some ⟨ba, 0, none⟩) 1 1] 25)).alloc (.cells #[.int .i64 6, .int .u8 0, .int .u8 0, .slice (some ⟨ba, 0, none⟩) 1 1] 25)).alloc (.cells #[.int .i64 0, .int .u8 0, .int .u8 0, .slice none 0 0, .int .i64 6, .int .u8 0, .int .u8 0, .slice (some ⟨ba, 0, none⟩) 1 1, .int .i64 0, .int .u8 0, .int .u8 0, .slice none 0 0] 25)).alloc (.cells #[.int .i64 0, .int .u8 0, .int .u8 0, .slice none 0 0] 25) = w4 at *
      have h44 := Lib.hid ((hB4.block w.heap.size (by omega)).trans h4'.out)
      have hat4 := Lib.hid (hat3.out.to (hB4.block ba (by omega)))
      have hFl4 := Lib.hid (hFl.out.keep (fun b hb => hb.2) hB4)
      have hBw4 := hB1.trans (hB4.mono (by omega))
      obtain ⟨R, hR⟩ : ∃ R, R = wr1.heap.size := ⟨_, rfl⟩
      rw [← hR] at h9 h8 hz4 hFl4 hszM ⊢
      clear hFl hB4 hat3 h4' hB1 hsz hz2s hR
      replace h8 := Lib.hid h8
      replace h9 := Lib.hid h9
      replace hz4 := Lib.hid hz4
      replace hFd := Lib.hid hFd
      have hbaR : ba < R := by omega
      have hwR : w.heap.size < R := by omega
      go_loopw [10, 11] (fun u i wr => ∃ (j : Nat) (us : List Rx) (A2 : Option Addr) (c2 : Nat), j ≤ F.length ∧ i = .int .i64 j ∧ u = .slice A2 us.length c2 ∧ us.length ≤ c2 ∧ (A2 = none → c2 = 0) ∧ Hid (us = gathE true allR (F.take j) ∧ us.length ≤ 100000) ∧ Hid ((F.take j).any (fun x => cmp x nilR == 0) = false) ∧ RtL wr (fun b => (S b ∨ w.heap.size < b) ∧ b < wr.heap.size) us A2 ∧ Below (R + 4) w4 wr) (fun _ i _ => F.length - (intOf i).toNat)
      case atStart => exact ⟨0, [], none, 0, Nat.zero_le _, rfl, rfl, Nat.le_refl _, fun _ => rfl, Lib.hid ⟨rfl, Nat.zero_le _⟩, Lib.hid rfl, by simp only [RtL], Below.refl _ _⟩
      case round =>
        obtain ⟨j, us, A2, c2, hj, rfl, rfl, hc2, hA2, hus, hno, hrl, hW⟩ := hrel
        obtain ⟨wr2, rfl⟩ : ∃ wo, wo = wr := ⟨_, rfl⟩
        have hszR : R + 4 ≤ wr2.heap.size := by rw [← hz4.out]; exact hW.size
        have h44r := Lib.hid ((hW.block w.heap.size (by omega)).trans h44.out)
        have h8r := Lib.hid ((hW.block (R + 1) (by omega)).trans h8.out)
        have h9r := Lib.hid ((hW.block (R + 1 + 1 + 1) (by omega)).trans h9.out)
        have hatr := Lib.hid (hat4.out.to (hW.block ba (by omega)))
        have hBr := hBw4.trans (hW.mono (show w.heap.size ≤ R + 4 by omega))
        by_cases hlt : j < F.length
        · obtain ⟨bl, o, A', c', eA, hbl, h4x, hx⟩ := hFl4.out.get hlt
          have hblR : bl < R := hbl.2
          have h4w := h4x.to (hW.block bl (by omega))
          have hG0 := Lib.hid (fun (h : cmp F[j] allR = 0) (l : List Rx) (hl : l = gathE true allR (F.take j)) => show l = gathE true allR (F.take (j + 1)) from by have := gathE_take (ord := true) (neu := allR) hlt (l := l) hl; rwa [if_pos h] at this)
          have hG1 := Lib.hid (fun (h : ¬ cmp F[j] allR = 0) (l : List Rx) (hl : l = gathE true allR (F.take j)) => show putE true l F[j] = gathE true allR (F.take (j + 1)) from by have := gathE_take (ord := true) (neu := allR) hlt (l := l) hl; rwa [if_neg h] at this)
          have hD0 := Lib.hid (fun (h : cmp F[j] nilR = 0) => show joinE 5 allR nilR true s = nilR from by rw [hJ0.out, if_pos (List.any_eq_true.2 ⟨F[j], List.getElem_mem hlt, by rw [h]; rfl⟩)])
          have hD1 := Lib.hid (fun (h : ¬ cmp F[j] nilR = 0) => show (F.take (j + 1)).any (fun x => cmp x nilR == 0) = false from by rw [List.take_succ_eq_append_getElem hlt, List.any_append, hno.out]; simpa using h)
          have hxW := fun W' (hWW : Below wr2.heap.size wr2 W') => (show RtV W' (Lo W'.heap.size) _ _ from RtV.to (fun b hb => ⟨by have := hWW.size; have := hb.2; show b < _; omega, (hWW.block b (by have := hb.2; omega)).trans (hW.block b (by have := hb.2; omega))⟩) _ hx)
          have hxP := Lib.hid (show RtV wr2 (fun b => (S b ∨ w.heap.size < b) ∧ b < R) _ _ from RtV.to (fun b hb => ⟨hb, hW.block b (by have := hb.2; omega)⟩) _ hx)
          have hC9 : ∀ W', Below wr2.heap.size wr2 W' → Calls Tryz.prog 28 #[rxv F[j].kind F[j].lo F[j].hi A' F[j].kids.length c', (rxv 0 0 0 none 0 0)] W' fun e w' => e = .returned (.int .i64 (cmp F[j] nilR)) ∧ Below W'.heap.size W' w' := fun W' hWW => eCmp_any _ _ _ _ W' (hxW W' hWW) (nil_at _ _)
          have hC8 : ∀ W', Below wr2.heap.size wr2 W' → Calls Tryz.prog 28 #[rxv F[j].kind F[j].lo F[j].hi A' F[j].kids.length c', (rxv 6 0 0 (some ⟨ba, 0, none⟩) 1 1)] W' fun e w' => e = .returned (.int .i64 (cmp F[j] allR)) ∧ Below W'.heap.size W' w' := fun W' hWW => eCmp_any _ _ _ _ W' (hxW W' hWW) (all_at (hatr.out.to (hWW.block ba (by omega))) (by have := hWW.size; show ba < _; omega))
          have hglen := gathE_len true allR (F.take (j + 1))
          clear hx h4x hxW
          generalize hc9 : cmp F[j] nilR = cv9 at hC9 hD0 hD1
          generalize hc8 : cmp F[j] allR = cv8 at hC8 hG0 hG1
          clear hc9 hc8
          generalize F[j] = x at *
          obtain ⟨xk, xl, xh, xs⟩ := x
          simp only [Rx.kind, Rx.lo, Rx.hi, Rx.kids] at h4w hC9 hC8 hxP
          generalize hxn : xs.length = xn at h4w hC9 hC8 hxP
          obtain ⟨e0, e1, e2, e3⟩ := h4w
          unfold rxv at hC9 hC8
          subst eA
          have hj2 : (j : Int) < (F.length : Int) := by omega
          have hj0 : (0 : Int) ≤ (j : Int) := by omega
          have HT9 := Lib.hid fun W' (hWW : Below wr2.heap.size wr2 W') => (show W'.cell? ⟨bl, o + j * 4, none⟩ = some (.int .i64 xk) ∧ W'.cell? ⟨bl, o + j * 4 + 1, none⟩ = some (.int .u8 xl) ∧ W'.cell? ⟨bl, o + j * 4 + 2, none⟩ = some (.int .u8 xh) ∧ W'.cell? ⟨bl, o + j * 4 + 3, none⟩ = some (.slice A' xn c') ∧ W'.cell? ⟨R + 1 + 1 + 1, 0, none⟩ = some (.int .i64 0) ∧ W'.cell? ⟨R + 1 + 1 + 1, 1, none⟩ = some (.int .u8 0) ∧ W'.cell? ⟨R + 1 + 1 + 1, 2, none⟩ = some (.int .u8 0) ∧ W'.cell? ⟨R + 1 + 1 + 1, 3, none⟩ = some (.slice none 0 0) from by
            obtain ⟨d0, d1, d2, d3⟩ := four ((hWW.block (R + 1 + 1 + 1) (by omega)).trans h9r.out)
            obtain ⟨k0, k1, k2, k3⟩ := (show At4 wr2 bl (o + j * 4) xk xl xh (.slice A' xn c') from ⟨e0, e1, e2, e3⟩).to (hWW.block bl (by omega))
            exact ⟨k0, k1, k2, k3, d0, d1, d2, d3⟩)
          have HT8 := Lib.hid fun W' (hWW : Below wr2.heap.size wr2 W') => (show W'.cell? ⟨bl, o + j * 4, none⟩ = some (.int .i64 xk) ∧ W'.cell? ⟨bl, o + j * 4 + 1, none⟩ = some (.int .u8 xl) ∧ W'.cell? ⟨bl, o + j * 4 + 2, none⟩ = some (.int .u8 xh) ∧ W'.cell? ⟨bl, o + j * 4 + 3, none⟩ = some (.slice A' xn c') ∧ W'.cell? ⟨R + 1, 0, none⟩ = some (.int .i64 6) ∧ W'.cell? ⟨R + 1, 1, none⟩ = some (.int .u8 0) ∧ W'.cell? ⟨R + 1, 2, none⟩ = some (.int .u8 0) ∧ W'.cell? ⟨R + 1, 3, none⟩ = some (.slice (some ⟨ba, 0, none⟩) 1 1) from by
            obtain ⟨d0, d1, d2, d3⟩ := four ((hWW.block (R + 1) (by omega)).trans h8r.out)
            obtain ⟨k0, k1, k2, k3⟩ := (show At4 wr2 bl (o + j * 4) xk xl xh (.slice A' xn c') from ⟨e0, e1, e2, e3⟩).to (hWW.block bl (by omega))
            exact ⟨k0, k1, k2, k3, d0, d1, d2, d3⟩)
          have hd : Below wr2.heap.size wr2 wr2.drew := (Below.refl _ _).drew
          clear e0 e1 e2 e3
          by_cases hz9 : cv9 = 0
          · subst hz9
            go_wp2_with fail
            go_region_held3 (fun W => W.cell? ⟨bl, o + j * 4, none⟩ = some (.int .i64 xk) ∧ W.cell? ⟨bl, o + j * 4 + 1, none⟩ = some (.int .u8 xl) ∧ W.cell? ⟨bl, o + j * 4 + 2, none⟩ = some (.int .u8 xh) ∧ W.cell? ⟨bl, o + j * 4 + 3, none⟩ = some (.slice A' xn c') ∧ W.cell? ⟨R + 1 + 1 + 1, 0, none⟩ = some (.int .i64 0) ∧ W.cell? ⟨R + 1 + 1 + 1, 1, none⟩ = some (.int .u8 0) ∧ W.cell? ⟨R + 1 + 1 + 1, 2, none⟩ = some (.int .u8 0) ∧ W.cell? ⟨R + 1 + 1 + 1, 3, none⟩ = some (.slice none 0 0))
            (first | exact (HT9.out _ hd) | exact (HT9.out _ (by assumption)))
            (first | (go_at_call 28; ((with_reducible refine Calls.mono (hC9 _ hd) ?_)); rintro e' w6 ⟨rfl, hww6⟩; have hB6 : Below wr2.heap.size wr2 w6 := hd.trans (hww6.mono (by simp))))
            obtain ⟨_, _, _, _, d0, d1, d2, d3⟩ := HT9.out _ hB6
            have h446 := (hB6.block w.heap.size (by omega)).trans h44r.out
            obtain ⟨q0, q1, q2, q3⟩ := four h446
            have hf6 := four_frozen h446
            have hBf := hBr.trans (hB6.mono (by omega))
            have hres := Lib.hid (hD0.out (by trivial))
            have hat6 := Lib.hid (hatr.out.to (hB6.block ba (by omega)))
            have hbal : ba < w6.heap.size := by have := hB6.size; omega
            clear HT9 HT8 hC9 hC8
            go_wp2_with fail
            refine bodyPost_ret (v := (rxv 0 0 0 none 0 0)) (by unfold rxv; simp [results, Tryz.results46, go_sem, q0, q1, q2, q3]) rfl ?_
            rw [hres.out]
            exact fin_givesS (x := nilR) hBf (Nat.le_refl _) (T := fun b => b = ba) (nil_at _ _) (fun b hb => by subst hb; exact ⟨by omega, .inr ⟨by omega, hbal⟩⟩)
          · have hz9b : (cv9 == 0) = false := by simpa using hz9
            go_wp2_with fail
            go_region_held3 (fun W => W.cell? ⟨bl, o + j * 4, none⟩ = some (.int .i64 xk) ∧ W.cell? ⟨bl, o + j * 4 + 1, none⟩ = some (.int .u8 xl) ∧ W.cell? ⟨bl, o + j * 4 + 2, none⟩ = some (.int .u8 xh) ∧ W.cell? ⟨bl, o + j * 4 + 3, none⟩ = some (.slice A' xn c') ∧ W.cell? ⟨R + 1 + 1 + 1, 0, none⟩ = some (.int .i64 0) ∧ W.cell? ⟨R + 1 + 1 + 1, 1, none⟩ = some (.int .u8 0) ∧ W.cell? ⟨R + 1 + 1 + 1, 2, none⟩ = some (.int .u8 0) ∧ W.cell? ⟨R + 1 + 1 + 1, 3, none⟩ = some (.slice none 0 0))
            (first | exact (HT9.out _ hd) | exact (HT9.out _ (by assumption)))
            (first | (go_at_call 28; ((with_reducible refine Calls.mono (hC9 _ hd) ?_)); rintro e' w6 ⟨rfl, hww6⟩; have hB6 : Below wr2.heap.size wr2 w6 := hd.trans (hww6.mono (by simp))))
            have hd6 : Below wr2.heap.size wr2 w6.drew := hB6.drew
            have hy6 := hB6.size
            by_cases hz8 : cv8 = 0
            · subst hz8
              go_wp2_with fail
              go_region_held3 (fun W => W.cell? ⟨bl, o + j * 4, none⟩ = some (.int .i64 xk) ∧ W.cell? ⟨bl, o + j * 4 + 1, none⟩ = some (.int .u8 xl) ∧ W.cell? ⟨bl, o + j * 4 + 2, none⟩ = some (.int .u8 xh) ∧ W.cell? ⟨bl, o + j * 4 + 3, none⟩ = some (.slice A' xn c') ∧ W.cell? ⟨R + 1, 0, none⟩ = some (.int .i64 6) ∧ W.cell? ⟨R + 1, 1, none⟩ = some (.int .u8 0) ∧ W.cell? ⟨R + 1, 2, none⟩ = some (.int .u8 0) ∧ W.cell? ⟨R + 1, 3, none⟩ = some (.slice (some ⟨ba, 0, none⟩) 1 1))
              (first | exact (HT8.out _ hd6) | exact (HT8.out _ (by assumption)))
              (first | (go_at_call 28; ((with_reducible refine Calls.mono (hC8 _ hd6) ?_)); rintro e' w7 ⟨rfl, hww7⟩; have hB7 : Below wr2.heap.size wr2 w7 := hd6.trans (hww7.mono (by have := hB6.size; simp; omega))))
              go_wp2_with fail
              go_roundw
              case rel => exact ⟨j + 1, us, A2, c2, by omega, by go_num, rfl, hc2, hA2, Lib.hid ⟨by first | exact hG0.out rfl _ hus.out.1 | exact hG0.out trivial _ hus.out.1, hus.out.2⟩, Lib.hid (hD1.out hz9), RtL.to (fun b hb => ⟨⟨hb.1, Nat.lt_of_lt_of_le hb.2 hB7.size⟩, hB7.block b hb.2⟩) _ hrl, hW.trans (hB7.mono hszR)⟩
              case measure => simp [intOf]; omega
            · have hz8b : (cv8 == 0) = false := by simpa using hz8
              go_wp2_with fail
              go_region_held3 (fun W => W.cell? ⟨bl, o + j * 4, none⟩ = some (.int .i64 xk) ∧ W.cell? ⟨bl, o + j * 4 + 1, none⟩ = some (.int .u8 xl) ∧ W.cell? ⟨bl, o + j * 4 + 2, none⟩ = some (.int .u8 xh) ∧ W.cell? ⟨bl, o + j * 4 + 3, none⟩ = some (.slice A' xn c') ∧ W.cell? ⟨R + 1, 0, none⟩ = some (.int .i64 6) ∧ W.cell? ⟨R + 1, 1, none⟩ = some (.int .u8 0) ∧ W.cell? ⟨R + 1, 2, none⟩ = some (.int .u8 0) ∧ W.cell? ⟨R + 1, 3, none⟩ = some (.slice (some ⟨ba, 0, none⟩) 1 1))
              (first | exact (HT8.out _ hd6) | exact (HT8.out _ (by assumption)))
              (first | (go_at_call 28; ((with_reducible refine Calls.mono (hC8 _ hd6) ?_)); rintro e' w7 ⟨rfl, hww7⟩; have hB7 : Below wr2.heap.size wr2 w7 := hd6.trans (hww7.mono (by have := hB6.size; simp; omega))))
              subst hxn
              obtain ⟨k0, k1, k2, k3, _⟩ := HT8.out _ hB7
              have hy7 := hB7.size
              have hxv := hxP.out.keep (n := R + 4) (fun b hb => by have := hb.2; omega) (hB7.mono hszR)
              have hF100 : (F.take (j + 1)).length ≤ 100000 := by rw [List.length_take]; omega
              clear HT9 HT8 hC9 hC8 hxP
              have hP := ePut_any (.node xk xl xh xs) _ us A2 c2 w7 (fun b => (S b ∨ w.heap.size < b) ∧ b < w7.heap.size) (fun b hb => hb.2) (hxv.sub (fun b hb => ⟨hb.1, by have := hb.2; omega⟩)) (RtL.to (fun b hb => ⟨⟨hb.1, Nat.lt_of_lt_of_le hb.2 hB7.size⟩, hB7.block b hb.2⟩) _ hrl) hc2 hA2 (by have := hus.out.2; omega)
              unfold rxv at hP
              have hg1 := Lib.hid (show ins (.node xk xl xh xs) us = gathE true allR (F.take (j + 1)) from hG1.out hz8 _ hus.out.1)
              clear hxv hrl
              go_wp2_with (go_at_call 63; refine Calls.mono hP ?_; clear hP; rintro e' w8 ⟨A8, c8, rfl, h81, h82, h83, hB8⟩)
              have hy8 := hB8.size
              go_roundw
              case rel => exact ⟨j + 1, _, A8, c8, by omega, by go_num, rfl, h81, h82, Lib.hid ⟨hg1.out, by rw [hg1.out]; omega⟩, Lib.hid (hD1.out hz9), h83.sub (fun b hb => by rcases hb with h | h; exact ⟨h.1, by have := h.2; omega⟩; exact ⟨.inr (by have := h.1; omega), h.2⟩), hW.trans ((hB7.mono hszR).trans (hB8.mono (by omega)))⟩
              case measure => simp [intOf]; omega
        · have hjF : j = F.length := by omega
          subst hjF
          rw [List.take_length] at hno
          have hJ1 := Lib.hid (show joinE 5 allR nilR true s = one_of 5 allR (gathE true allR F) from by rw [hJ0.out, if_neg (by rw [hno.out]; decide)])
          have hglen := gathE_len true allR F
          have hus2 := hus.out.1
          rw [List.take_length] at hus2
          clear hus
          subst hus2
          generalize gathE true allR F = G at *
          obtain ⟨q0, q1, q2, q3⟩ := four h44r.out
          have hf6 := four_frozen h44r.out
          clear hFl4 hno hJ0 hlt hFd h44
          have hF100 : F.length ≤ 100000 := by omega
          have hju2 : ¬ ((F.length : Int) < (F.length : Int)) := by omega
          match G, hglen, hJ1, hrl, hc2 with
          | [], _, hJ1, _, _ =>
            obtain ⟨d0, d1, d2, d3⟩ := four h8r.out
            have hres := Lib.hid (show joinE 5 allR nilR true s = allR from hJ1.out)
            have hbal : ba < wr2.heap.size := by omega
            simp only [List.length_nil]
            go_wp2_with fail
            refine bodyPost_ret (v := (rxv 6 0 0 (some ⟨ba, 0, none⟩) 1 1)) (by unfold rxv; simp [results, Tryz.results46, go_sem, q0, q1, q2, q3]) rfl ?_
            rw [hres.out]
            exact fin_givesS (x := allR) hBr (Nat.le_refl _) (T := fun b => b = ba) (all_at hatr.out rfl) (fun b hb => by subst hb; exact ⟨by omega, .inr ⟨by omega, hbal⟩⟩)
          | [y], _, hJ1, hrl, _ =>
            obtain ⟨by1, oy, Ay, cy, rfl, hby, hy4, hyv, _⟩ := hrl
            obtain ⟨d0, d1, d2, d3⟩ := hy4
            have hres := Lib.hid (show joinE 5 allR nilR true s = y from hJ1.out)
            replace hyv := Lib.hid hyv
            clear hrl hJ1
            simp only [List.length_cons, List.length_nil]
            go_wp2_with fail
            refine bodyPost_ret (v := rxv y.kind y.lo y.hi Ay y.kids.length cy) (by unfold rxv; simp [results, Tryz.results46, go_sem, q0, q1, q2, q3]) rfl ?_
            rw [hres.out]
            exact fin_givesS hBr (Nat.le_refl _) hyv.out (fun b hb => fin_plus hSk hb)
          | y :: z :: r, hglen, hJ1, hrl, hc2 =>
            have hres := Lib.hid (show joinE 5 allR nilR true s = .node 5 0 0 (y :: z :: r) from hJ1.out)
            have hv := Lib.hid (RtV.mk (k := 5) (l := 0) (h := 0) (s := y :: z :: r) ⟨by unfold I64; omega, by omega, by omega, by omega⟩ hc2 hA2 hrl)
            clear hrl hJ1 hA2
            have hn0 : ((y :: z :: r).length == 0) = false := rfl
            have hn1 : ((y :: z :: r).length == 1) = false := rfl
            obtain ⟨n, hn⟩ : ∃ n, n = r.length := ⟨_, rfl⟩
            simp only [List.length_cons] at hc2 hglen ⊢
            go_wp2_with fail
            refine bodyPost_ret (v := rxv 5 0 0 A2 (y :: z :: r).length c2) (by unfold rxv; simp [results, Tryz.results46, go_sem, q0, q1, q2, q3]) rfl ?_
            rw [hres.out]
            exact fin_givesS (x := .node 5 0 0 (y :: z :: r)) hBr (Nat.le_refl _) hv.out (fun b hb => fin_plus hSk hb)

end Go.Proofs.YtnjkihbmhacgoaaGreatDoor
