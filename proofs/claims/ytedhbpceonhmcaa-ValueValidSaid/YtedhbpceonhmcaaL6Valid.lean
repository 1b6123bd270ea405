/-
  THE WALK of the law ValueValid. Written by gen/genl6valid.py.
-/
import Derived.Test.YtedhbpceonhmcaaL6Some
import Derived.Test.YtedhbpceonhmcaaL6Lives
import Derived.Test.YtedhbpceonhmcaaR6Zero
import Derived.Test.YtedhbpceonhmcaaR6All
import Derived.Test.YtedhbpceonhmcaaR6Same
import Derived.Test.YtedhbpceonhmcaaVaEqv
namespace Go.Proofs.Ytedhbpceonhmcaa
open Go.RowKit

theorem zero_val {W : World} {k n ix : Int} (h : I64 k ∧ I64 n ∧ I64 ix) : VaV W (LoV W.heap.size) ⟨k, n, ix, 0, ⟨#[]⟩, []⟩ (.agg #[.int .i64 k, .int .i64 n, .int .i64 ix, .int .u64 0, .string ⟨#[]⟩, .slice none 0 0]) :=
  VaV.mk (x := ⟨k, n, ix, 0, ⟨#[]⟩, []⟩) (A := none) (c := 0) ⟨h, (show U64 0 from ⟨by decide, by decide⟩), (show (0 : Nat) ≤ 1000000 from by decide), (fun e (he : e ∈ ([] : List En)) => by cases he), (show (0 : Nat) ≤ 100000 from by decide)⟩ (Nat.le_refl _) (fun _ => rfl) (.inl rfl)
theorem row_own {w : World} {l : List Vr} {B : Nat} {ty : TypeId} {fr : Nat × Nat} (h : w.heap[B]? = some (.cells (l.flatMap Vr.cells).toArray ty fr)) (hv : ∀ p ∈ l, VaV w (LoV w.heap.size) p.x p.val) : VaL w l B :=
  ⟨⟨(Array.getElem?_eq_some_iff.1 h).1, fun j v hj => by rw [cell_of_row _ _ j _ ty fr h]; simpa using hj⟩, hv⟩

set_option maxHeartbeats 4000000 in
set_option maxRecDepth 100000 in
theorem lvalid_any (n : Int) (A : Option Addr) (c : Nat) (zs : List Int) (len : Nat) (a h b : Int) (w : World) (hn : I64 n) (hlen : len = zs.length) (hzs : ∀ z ∈ zs, I64 z) (hr : RdI w w.heap.size .i64 A zs) (ha : I64 a) (hh : I64 h) (hb : I64 b) :
    Calls Try.prog 3 #[.int .i64 n, .slice A len c, .int .i64 a, .int .i64 h, .int .i64 b] w fun e w' => e = .returned (.bool true) ∧ Below w.heap.size w w' := by
  have hSo := l6some_any n A c zs len a h b w hn hlen hzs hr ha hh hb
  clear hn hlen hzs hr ha hh hb
  go_enter Try.func3, Try.ntmps3
  go_wp2_with fail
  refine Calls.mono hSo ?_
  clear hSo
  rintro e w1 ⟨l, B, rfl, hl4, hBB, hblk, hvs, _, hw1⟩
  have L : VaL w1 l B := row_own hblk (fun p hp => (hvs p hp).sub (fun b hb => hb.2))
  have H4 := Lib.hid hl4
  have hbB := Lib.hid hw1
  clear hl4 hblk hvs hw1 hBB
  go_wp2_with fail
  go_loopw [12] (fun v wr => ∃ i : Nat, i ≤ 4 ∧ v = .int .i64 i ∧ Below w1.heap.size w1 wr) (fun v _ => 4 - (intOf v).toNat)
  case atStart => exact ⟨0, by omega, rfl, Below.refl _ _⟩
  case round =>
    obtain ⟨i, hi, rfl, hW⟩ := hrel
    by_cases hi4 : i < 4
    · obtain ⟨x, Ai, ni, ci, _, Hi'⟩ := val_cells L (H4.out ▸ hi4)
      obtain ⟨xk, xn, xix, xu, xs, xm⟩ := x
      unfold VrAt at Hi'
      simp only at Hi'
      have Hi := Lib.hid Hi'
      clear Hi'
      have hok := Lib.hid (Hi.out wr hW).2.1
      have hii : (i : Int) < 4 := by omega
      have hi0 : (0 : Int) ≤ (i : Int) := by omega
      obtain ⟨ve, hve⟩ : ∃ ve, ve = valE (⟨xk, xn, xix, xu, xs, xm⟩ : Va) := ⟨_, rfl⟩
      have HVE := Lib.hid hve
      clear hve
      obtain ⟨q0, q1, q2, q3, q4, q5⟩ := (Hi.out wr hW).1
      go_wp2_with fail
      clear q0 q1 q2 q3 q4 q5
      cases hsk : sortOk xk xn xix with
      | true =>
        have HSE := Lib.hid (show sortE xk xn xix = 0 from by unfold sortE; rw [hsk]; rfl)
        have HRS := Lib.hid (fun W => by have := r6ValidSort_any xk xn xix W; rw [HSE.out] at this; exact this)
        have HVS := Lib.hid (fun W => by have := vValidSort_any xk xn xix W; rw [HSE.out] at this; exact this)
        have HZV := Lib.hid (fun W => zero_val (W := W) hok.out.1)
        have HCZ := Lib.hid (show (vaCmp (⟨xk, xn, xix, 0, ⟨#[]⟩, []⟩ : Va) (⟨xk, xn, xix, 0, ⟨#[]⟩, []⟩ : Va) == 0) = true from by rw [(vaCmp_zero _ _).2 rfl]; rfl)
        have HZR := Lib.hid (show ∀ W, Calls Try.prog 18 #[.agg #[.int .i64 xk, .int .i64 xn, .int .i64 xix]] W fun e w' => e = .returned (.agg #[.int .i64 xk, .int .i64 xn, .int .i64 xix, .int .u64 0, .string ⟨#[]⟩, .slice none 0 0]) ∧ Below W.heap.size W w' from fun W => r6Zero_any xk xn xix W)
        have HZE := Lib.hid (fun W => by have := vZero_any xk xn xix W; rw [HSE.out, hsk] at this; exact this)
        clear hsk
        have hb1 := Lib.hid (heap_alloc_new wr (.cells #[.int .i64 xk, .int .i64 xn, .int .i64 xix] 26))
        have hc1 := hW.alloc hW.size (.cells #[.int .i64 xk, .int .i64 xn, .int .i64 xix] 26)
        have hz1 : wr.heap.size < (wr.alloc (.cells #[.int .i64 xk, .int .i64 xn, .int .i64 xix] 26)).heap.size := by simp
        generalize wr.alloc (.cells #[.int .i64 xk, .int .i64 xn, .int .i64 xix] 26) = u1 at *
        refine Calls.mono (HRS.out u1) ?_
        rintro e u2 ⟨rfl, h2⟩
        have hb2 := Lib.hid ((h2.block _ hz1).trans hb1.out)
        have hc2 := hc1.trans (h2.mono hc1.size)
        have hz2 := Nat.lt_of_lt_of_le hz1 h2.size
        clear h2 hb1 hz1 hc1 HRS
        obtain ⟨s0, s1, s2⟩ := three hb2.out
        go_wp2_with fail
        refine Calls.mono (HZE.out u2) ?_
        clear HZE
        rintro e u3 ⟨rfl, h3⟩
        simp only [if_true, vav]
        rw [show (ByteArray.empty : ByteArray) = ⟨#[]⟩ from rfl]
        have hb3 := Lib.hid ((h3.block _ hz2).trans hb2.out)
        have hc3 := hc2.trans (h3.mono hc2.size)
        have hz3 := Nat.lt_of_lt_of_le hz2 h3.size
        clear h3 hb2 hz2 hc2 s0 s1 s2
        go_wp2_with fail
        have hb4 := Lib.hid ((heap_alloc_old u3 (.cells #[.int .i64 xk, .int .i64 xn, .int .i64 xix, .int .u64 0, .string ⟨#[]⟩, .slice none 0 0] 35) _ hz3).trans hb3.out)
        have hb5 := Lib.hid (heap_alloc_new u3 (.cells #[.int .i64 xk, .int .i64 xn, .int .i64 xix, .int .u64 0, .string ⟨#[]⟩, .slice none 0 0] 35))
        have hc4 := hc3.alloc hc3.size (.cells #[.int .i64 xk, .int .i64 xn, .int .i64 xix, .int .u64 0, .string ⟨#[]⟩, .slice none 0 0] 35)
        have hz4 : u3.heap.size < (u3.alloc (.cells #[.int .i64 xk, .int .i64 xn, .int .i64 xix, .int .u64 0, .string ⟨#[]⟩, .slice none 0 0] 35)).heap.size := by simp
        have hz5 : wr.heap.size < (u3.alloc (.cells #[.int .i64 xk, .int .i64 xn, .int .i64 xix, .int .u64 0, .string ⟨#[]⟩, .slice none 0 0] 35)).heap.size := by simp; omega
        generalize (u3.alloc (.cells #[.int .i64 xk, .int .i64 xn, .int .i64 xix, .int .u64 0, .string ⟨#[]⟩, .slice none 0 0] 35)) = u4 at *
        clear hb3 hz3 hc3
        have hd : Below u4.heap.size u4 u4.drew := (Below.refl _ _).drew
        have HS := Lib.hid (show ∀ W, Below u4.heap.size u4 W → (fun W : World => (W.cell? ⟨wr.heap.size, 0, none⟩ = some (.int .i64 xk) ∧ W.cell? ⟨wr.heap.size, 1, none⟩ = some (.int .i64 xn) ∧ W.cell? ⟨wr.heap.size, 2, none⟩ = some (.int .i64 xix)) ∧ W.cell? ⟨B, i * 6, none⟩ = some (.int .i64 xk) ∧ W.cell? ⟨B, i * 6 + 1, none⟩ = some (.int .i64 xn) ∧ W.cell? ⟨B, i * 6 + 2, none⟩ = some (.int .i64 xix) ∧ W.cell? ⟨B, i * 6 + 3, none⟩ = some (.int .u64 xu) ∧ W.cell? ⟨B, i * 6 + 4, none⟩ = some (.string xs) ∧ W.cell? ⟨B, i * 6 + 5, none⟩ = some (.slice Ai ni ci)) W from fun W hW' => ⟨three ((hW'.block _ hz5).trans hb4.out), (Hi.out W (hc4.trans (hW'.mono hc4.size))).1⟩)
        have HT := Lib.hid (show ∀ W, Below u4.heap.size u4 W → (fun W : World => (W.cell? ⟨wr.heap.size, 0, none⟩ = some (.int .i64 xk) ∧ W.cell? ⟨wr.heap.size, 1, none⟩ = some (.int .i64 xn) ∧ W.cell? ⟨wr.heap.size, 2, none⟩ = some (.int .i64 xix)) ∧ W.cell? ⟨u3.heap.size, 0, none⟩ = some (.int .i64 xk) ∧ W.cell? ⟨u3.heap.size, 1, none⟩ = some (.int .i64 xn) ∧ W.cell? ⟨u3.heap.size, 2, none⟩ = some (.int .i64 xix) ∧ W.cell? ⟨u3.heap.size, 3, none⟩ = some (.int .u64 0) ∧ W.cell? ⟨u3.heap.size, 4, none⟩ = some (.string ⟨#[]⟩) ∧ W.cell? ⟨u3.heap.size, 5, none⟩ = some (.slice none 0 0)) W from fun W hW' => ⟨three ((hW'.block _ hz5).trans hb4.out), six ((hW'.block _ hz4).trans hb5.out)⟩)
        have HV := Lib.hid (fun W (hW' : Below u4.heap.size u4 W) => (Hi.out W (hc4.trans (hW'.mono hc4.size))).2)
        go_region_held3 (fun W => (W.cell? ⟨wr.heap.size, 0, none⟩ = some (.int .i64 xk) ∧ W.cell? ⟨wr.heap.size, 1, none⟩ = some (.int .i64 xn) ∧ W.cell? ⟨wr.heap.size, 2, none⟩ = some (.int .i64 xix)) ∧ W.cell? ⟨B, i * 6, none⟩ = some (.int .i64 xk) ∧ W.cell? ⟨B, i * 6 + 1, none⟩ = some (.int .i64 xn) ∧ W.cell? ⟨B, i * 6 + 2, none⟩ = some (.int .i64 xix) ∧ W.cell? ⟨B, i * 6 + 3, none⟩ = some (.int .u64 xu) ∧ W.cell? ⟨B, i * 6 + 4, none⟩ = some (.string xs) ∧ W.cell? ⟨B, i * 6 + 5, none⟩ = some (.slice Ai ni ci))
          (first | with_reducible exact HS.out _ hd | with_reducible exact HS.out _ (by assumption))
          (first
            | (go_at_call 12; (with_reducible refine Calls.mono (HVS.out _) ?_); rintro e w5 ⟨rfl, hb5'⟩; have hc5 : Below u4.heap.size u4 w5 := hd.trans (hb5'.mono hd.size))
            | (go_at_call 14; (with_reducible refine Calls.mono (l6own_any (⟨xk, xn, xix, xu, xs, xm⟩ : Va) _ _ (HV.out _ hc5)) ?_); rintro e w6 ⟨v6, rfl, hv6, hb6⟩; have hy6 : VaV w6 (LoV w6.heap.size) (⟨xk, xn, xix, xu, xs, xm⟩ : Va) v6 := hv6.sub (fun b hb => hb.2); have hc6 : Below u4.heap.size u4 w6 := hc5.trans (hb6.mono hc5.size))
            | (go_at_call 13; (with_reducible refine Calls.mono (vValid_any (⟨xk, xn, xix, xu, xs, xm⟩ : Va) _ _ hy6) ?_); rw [← HVE.out]; rintro e w7 ⟨rfl, hb7⟩; have hc7 : Below u4.heap.size u4 w7 := hc6.trans (hb7.mono hc6.size))
            | (go_at_call 15; (with_reducible refine Calls.mono (r6Valid_any (⟨xk, xn, xix, xu, xs, xm⟩ : Va) _ _ (HV.out _ hc7)) ?_); rw [← HVE.out]; rintro e w8 ⟨rfl, hb8⟩; have hc8 : Below u4.heap.size u4 w8 := hc7.trans (hb8.mono hc7.size))
            | fail)
        clear hc5 hc6 hc7 hb5' hv6 hy6 hb6 hb7 hb8 hd
        have hd : Below u4.heap.size u4 w8.drew := hc8.drew
        go_wp2_with fail
        refine wp_region_held_drew (S := fun W => (W.cell? ⟨wr.heap.size, 0, none⟩ = some (.int .i64 xk) ∧ W.cell? ⟨wr.heap.size, 1, none⟩ = some (.int .i64 xn) ∧ W.cell? ⟨wr.heap.size, 2, none⟩ = some (.int .i64 xix)) ∧ W.cell? ⟨u3.heap.size, 0, none⟩ = some (.int .i64 xk) ∧ W.cell? ⟨u3.heap.size, 1, none⟩ = some (.int .i64 xn) ∧ W.cell? ⟨u3.heap.size, 2, none⟩ = some (.int .i64 xix) ∧ W.cell? ⟨u3.heap.size, 3, none⟩ = some (.int .u64 0) ∧ W.cell? ⟨u3.heap.size, 4, none⟩ = some (.string ⟨#[]⟩) ∧ W.cell? ⟨u3.heap.size, 5, none⟩ = some (.slice none 0 0)) (by kernel_rfl) (HT.out _ hd) (fun hHeld => ?_)
        (try simp only [List.size_toArray, List.length_cons, List.length_nil, Nat.zero_add, Nat.reduceAdd])
        refine wpAnyH_takeL (i := 0) (v := ?v1) rfl (by kernel_rfl) (by kernel_rfl) (by kernel_rfl) (fun _ _ _ h => h) (Or.inl ⟨by rfl, ?y1⟩) (by assumption) ?r1
        case y1 => (intro W hSw; (try dsimp only at hSw); go_simp; try with_reducible rfl)
        (try simp only [Act.put, List.setIfInBounds_toArray, List.set_cons_zero, List.set_cons_succ])
        refine wpAnyH_takeL (i := 1) (v := ?v2) rfl (by kernel_rfl) (by kernel_rfl) (by kernel_rfl) (fun _ _ _ h => h) (Or.inl ⟨by rfl, ?y2⟩) (by assumption) ?r2
        case y2 => (intro W hSw; (try dsimp only at hSw); go_simp; try with_reducible rfl)
        (try simp only [Act.put, List.setIfInBounds_toArray, List.set_cons_zero, List.set_cons_succ])
        refine wpAnyH_takeL (i := 2) (v := ?v3) rfl (by kernel_rfl) (by kernel_rfl) (by kernel_rfl) (fun _ _ _ h => h) (Or.inl ⟨by rfl, ?y3⟩) (by assumption) ?r3
        case y3 => (intro W hSw; (try dsimp only at hSw); go_simp; try with_reducible rfl)
        (try simp only [Act.put, List.setIfInBounds_toArray, List.set_cons_zero, List.set_cons_succ])
        refine wpAnyH_takeL (i := 3) (v := ?v4) rfl (by kernel_rfl) (by kernel_rfl) (by kernel_rfl) (fun _ _ _ h => h) (Or.inl ⟨by rfl, ?y4⟩) (by assumption) ?r4
        case y4 => (intro W hSw; (try dsimp only at hSw); go_simp; try with_reducible rfl)
        (try simp only [Act.put, List.setIfInBounds_toArray, List.set_cons_zero, List.set_cons_succ])
        refine wpAnyH_takeL (i := 5) (v := ?v5) rfl (by kernel_rfl) (by kernel_rfl) (by kernel_rfl) (fun _ _ _ h => h) (Or.inl ⟨by rfl, ?y5⟩) (by assumption) ?r5
        case y5 => (intro W hSw; (try dsimp only at hSw); go_simp; try with_reducible rfl)
        (try simp only [Act.put, List.setIfInBounds_toArray, List.set_cons_zero, List.set_cons_succ])
        refine wpAnyH_ready (rs := [4]) (by kernel_rfl) (by simp) ?_
        refine consL rfl (fun K hK => ?_) AllReadyH.nil
        go_simp
        refine Calls.mono (l6plain_any (⟨xk, xn, xix, 0, ⟨#[]⟩, []⟩ : Va) _ _ (HZV.out _)) ?_
        rintro e w5 ⟨v5, rfl, hv5, hb5'⟩
        have hc5 : Below u4.heap.size u4 w5 := hd.trans (hb5'.mono hd.size)
        (try dsimp only)
        refine hK.out _ _ (HT.out _ hc5) (fun hHeld => ?_)
        clear hK K
        (try simp only [Act.put, List.setIfInBounds_toArray, List.set_cons_zero, List.set_cons_succ])
        refine wpAnyH_ready (rs := [6]) (by kernel_rfl) (by simp) ?_
        refine consL rfl (fun K hK => ?_) AllReadyH.nil
        go_simp
        refine Calls.mono (HZR.out _) ?_
        rintro e w6 ⟨rfl, hb6⟩
        have hy5 := va_lo hv5 hb6
        have hc6 : Below u4.heap.size u4 w6 := hc5.trans (hb6.mono hc5.size)
        (try dsimp only)
        refine hK.out _ _ (HT.out _ hc6) (fun hHeld => ?_)
        clear hK K
        (try simp only [Act.put, List.setIfInBounds_toArray, List.set_cons_zero, List.set_cons_succ])
        refine wpAnyH_ready (rs := [7]) (by kernel_rfl) (by simp) ?_
        refine consL rfl (fun K hK => ?_) AllReadyH.nil
        go_simp
        refine Calls.mono (r6Same_any (⟨xk, xn, xix, 0, ⟨#[]⟩, []⟩ : Va) (⟨xk, xn, xix, 0, ⟨#[]⟩, []⟩ : Va) _ _ _ hy5 (HZV.out _)) ?_
        rw [HCZ.out]
        rintro e w7 ⟨rfl, hb7⟩
        have hc7 : Below u4.heap.size u4 w7 := hc6.trans (hb7.mono hc6.size)
        (try dsimp only)
        refine hK.out _ _ (HT.out _ hc7) (fun hHeld => ?_)
        clear hK K
        (try simp only [Act.put, List.setIfInBounds_toArray, List.set_cons_zero, List.set_cons_succ])
        refine wpAnyH_takeL (i := 8) (v := ?v6) rfl (by kernel_rfl) (by kernel_rfl) (by kernel_rfl) (fun _ _ _ h => h) (Or.inl ⟨by rfl, ?y6⟩) (by assumption) ?r6
        case y6 => (intro W hSw; (try dsimp only at hSw); go_simp; try with_reducible rfl)
        (try simp only [Act.put, List.setIfInBounds_toArray, List.set_cons_zero, List.set_cons_succ])
        refine wpAnyH_takeL (i := 9) (v := ?v7) rfl (by kernel_rfl) (by kernel_rfl) (by kernel_rfl) (fun _ _ _ h => h) (Or.inl ⟨by rfl, ?y7⟩) (by assumption) ?r7
        case y7 => (intro W hSw; (try dsimp only at hSw); go_simp; try with_reducible rfl)
        (try simp only [Act.put, List.setIfInBounds_toArray, List.set_cons_zero, List.set_cons_succ])
        refine wpAnyH_takeL (i := 10) (v := ?v8) rfl (by kernel_rfl) (by kernel_rfl) (by kernel_rfl) (fun _ _ _ h => h) (Or.inl ⟨by rfl, ?y8⟩) (by assumption) ?r8
        case y8 => (intro W hSw; (try dsimp only at hSw); go_simp; try with_reducible rfl)
        (try simp only [Act.put, List.setIfInBounds_toArray, List.set_cons_zero, List.set_cons_succ])
        refine wpAnyH_takeL (i := 11) (v := ?v9) rfl (by kernel_rfl) (by kernel_rfl) (by kernel_rfl) (fun _ _ _ h => h) (Or.inl ⟨by rfl, ?y9⟩) (by assumption) ?r9
        case y9 => (intro W hSw; (try dsimp only at hSw); go_simp; try with_reducible rfl)
        (try simp only [Act.put, List.setIfInBounds_toArray, List.set_cons_zero, List.set_cons_succ])
        refine wpAnyH_takeL (i := 12) (v := ?v10) rfl (by kernel_rfl) (by kernel_rfl) (by kernel_rfl) (fun _ _ _ h => h) (Or.inl ⟨by rfl, ?y10⟩) (by assumption) ?r10
        case y10 => (intro W hSw; (try dsimp only at hSw); go_simp; try with_reducible rfl)
        (try simp only [Act.put, List.setIfInBounds_toArray, List.set_cons_zero, List.set_cons_succ])
        refine wpAnyH_takeL (i := 13) (v := ?v11) rfl (by kernel_rfl) (by kernel_rfl) (by kernel_rfl) (fun _ _ _ h => h) (Or.inl ⟨by rfl, ?y11⟩) (by assumption) ?r11
        case y11 => (intro W hSw; (try dsimp only at hSw); go_simp; try with_reducible rfl)
        (try simp only [Act.put, List.setIfInBounds_toArray, List.set_cons_zero, List.set_cons_succ])
        refine wpAnyH_takeL (i := 14) rfl (by kernel_rfl) (by kernel_rfl) (by kernel_rfl) (fun _ _ _ h => h) (Or.inr ⟨by rfl, rfl⟩) (by assumption) ?_
        (try simp only [Act.put, List.setIfInBounds_toArray, List.set_cons_zero, List.set_cons_succ])
        refine wpAnyH_takeL (i := 15) rfl (by kernel_rfl) (by kernel_rfl) (by kernel_rfl) (fun _ _ _ h => h) (Or.inr ⟨by rfl, rfl⟩) (by assumption) ?_
        (try simp only [Act.put, List.setIfInBounds_toArray, List.set_cons_zero, List.set_cons_succ])
        refine wpAnyH_takeL (i := 16) rfl (by kernel_rfl) (by kernel_rfl) (by kernel_rfl) (fun _ _ _ h => h) (Or.inr ⟨by rfl, rfl⟩) (by assumption) ?_
        (try simp only [Act.put, List.setIfInBounds_toArray, List.set_cons_zero, List.set_cons_succ])
        refine wpAnyH_takeL (i := 17) rfl (by kernel_rfl) (by kernel_rfl) (by kernel_rfl) (fun _ _ _ h => h) (Or.inr ⟨by rfl, rfl⟩) (by assumption) ?_
        (try simp only [Act.put, List.setIfInBounds_toArray, List.set_cons_zero, List.set_cons_succ])
        refine wpAnyH_takeL (i := 18) rfl (by kernel_rfl) (by kernel_rfl) (by kernel_rfl) (fun _ _ _ h => h) (Or.inr ⟨by rfl, rfl⟩) (by assumption) ?_
        (try simp only [Act.put, List.setIfInBounds_toArray, List.set_cons_zero, List.set_cons_succ])
        refine wpAnyH_takeL (i := 19) (v := ?v12) rfl (by kernel_rfl) (by kernel_rfl) (by kernel_rfl) (fun _ _ _ h => h) (Or.inl ⟨by rfl, ?y12⟩) (by assumption) ?r12
        case y12 => (intro W hSw; (try dsimp only at hSw); go_simp; try with_reducible rfl)
        (try simp only [Act.put, List.setIfInBounds_toArray, List.set_cons_zero, List.set_cons_succ])
        refine wpAnyH_takeL (i := 20) (v := ?v13) rfl (by kernel_rfl) (by kernel_rfl) (by kernel_rfl) (fun _ _ _ h => h) (Or.inl ⟨by rfl, ?y13⟩) (by assumption) ?r13
        case y13 => (intro W hSw; (try dsimp only at hSw); go_simp; try with_reducible rfl)
        (try simp only [Act.put, List.setIfInBounds_toArray, List.set_cons_zero, List.set_cons_succ])
        refine wpAnyH_done (by kernel_rfl) ?_ _
        all_goals go_wp2_with fail
        all_goals go_roundw
        all_goals first | exact ⟨i + 1, by omega, by go_num, hc4.trans (hc7.mono hc4.size)⟩ | (simp [intOf]; omega)
      | false =>
        have HSE := Lib.hid (show sortE xk xn xix = 9 from by unfold sortE; rw [hsk]; rfl)
        have HRS := Lib.hid (fun W => by have := r6ValidSort_any xk xn xix W; rw [HSE.out] at this; exact this)
        have HVS := Lib.hid (fun W => by have := vValidSort_any xk xn xix W; rw [HSE.out] at this; exact this)
        have HZV := Lib.hid (fun W => zero_val (W := W) ⟨(show I64 0 from ⟨by decide, by decide⟩), (show I64 0 from ⟨by decide, by decide⟩), (show I64 0 from ⟨by decide, by decide⟩)⟩)
        have HCZ := Lib.hid (show (vaCmp (⟨0, 0, 0, 0, ⟨#[]⟩, []⟩ : Va) (⟨0, 0, 0, 0, ⟨#[]⟩, []⟩ : Va) == 0) = true from by rw [(vaCmp_zero _ _).2 rfl]; rfl)
        have HZR := Lib.hid (show ∀ W, Calls Try.prog 18 #[.agg #[.int .i64 xk, .int .i64 xn, .int .i64 xix]] W fun e w' => e = .returned (.agg #[.int .i64 xk, .int .i64 xn, .int .i64 xix, .int .u64 0, .string ⟨#[]⟩, .slice none 0 0]) ∧ Below W.heap.size W w' from fun W => r6Zero_any xk xn xix W)
        have HZE := Lib.hid (fun W => by have := vZero_any xk xn xix W; rw [HSE.out, hsk] at this; exact this)
        clear hsk
        have hb1 := Lib.hid (heap_alloc_new wr (.cells #[.int .i64 xk, .int .i64 xn, .int .i64 xix] 26))
        have hc1 := hW.alloc hW.size (.cells #[.int .i64 xk, .int .i64 xn, .int .i64 xix] 26)
        have hz1 : wr.heap.size < (wr.alloc (.cells #[.int .i64 xk, .int .i64 xn, .int .i64 xix] 26)).heap.size := by simp
        generalize wr.alloc (.cells #[.int .i64 xk, .int .i64 xn, .int .i64 xix] 26) = u1 at *
        refine Calls.mono (HRS.out u1) ?_
        rintro e u2 ⟨rfl, h2⟩
        have hb2 := Lib.hid ((h2.block _ hz1).trans hb1.out)
        have hc2 := hc1.trans (h2.mono hc1.size)
        have hz2 := Nat.lt_of_lt_of_le hz1 h2.size
        clear h2 hb1 hz1 hc1 HRS
        obtain ⟨s0, s1, s2⟩ := three hb2.out
        go_wp2_with fail
        refine Calls.mono (HZE.out u2) ?_
        clear HZE
        rintro e u3 ⟨rfl, h3⟩
        simp only [if_false, Bool.false_eq_true, vav]
        rw [show (ByteArray.empty : ByteArray) = ⟨#[]⟩ from rfl]
        have hb3 := Lib.hid ((h3.block _ hz2).trans hb2.out)
        have hc3 := hc2.trans (h3.mono hc2.size)
        have hz3 := Nat.lt_of_lt_of_le hz2 h3.size
        clear h3 hb2 hz2 hc2 s0 s1 s2
        go_wp2_with fail
        have hb4 := Lib.hid ((heap_alloc_old u3 (.cells #[.int .i64 0, .int .i64 0, .int .i64 0, .int .u64 0, .string ⟨#[]⟩, .slice none 0 0] 35) _ hz3).trans hb3.out)
        have hb5 := Lib.hid (heap_alloc_new u3 (.cells #[.int .i64 0, .int .i64 0, .int .i64 0, .int .u64 0, .string ⟨#[]⟩, .slice none 0 0] 35))
        have hc4 := hc3.alloc hc3.size (.cells #[.int .i64 0, .int .i64 0, .int .i64 0, .int .u64 0, .string ⟨#[]⟩, .slice none 0 0] 35)
        have hz4 : u3.heap.size < (u3.alloc (.cells #[.int .i64 0, .int .i64 0, .int .i64 0, .int .u64 0, .string ⟨#[]⟩, .slice none 0 0] 35)).heap.size := by simp
        have hz5 : wr.heap.size < (u3.alloc (.cells #[.int .i64 0, .int .i64 0, .int .i64 0, .int .u64 0, .string ⟨#[]⟩, .slice none 0 0] 35)).heap.size := by simp; omega
        generalize (u3.alloc (.cells #[.int .i64 0, .int .i64 0, .int .i64 0, .int .u64 0, .string ⟨#[]⟩, .slice none 0 0] 35)) = u4 at *
        clear hb3 hz3 hc3
        have hd : Below u4.heap.size u4 u4.drew := (Below.refl _ _).drew
        have HS := Lib.hid (show ∀ W, Below u4.heap.size u4 W → (fun W : World => (W.cell? ⟨wr.heap.size, 0, none⟩ = some (.int .i64 xk) ∧ W.cell? ⟨wr.heap.size, 1, none⟩ = some (.int .i64 xn) ∧ W.cell? ⟨wr.heap.size, 2, none⟩ = some (.int .i64 xix)) ∧ W.cell? ⟨B, i * 6, none⟩ = some (.int .i64 xk) ∧ W.cell? ⟨B, i * 6 + 1, none⟩ = some (.int .i64 xn) ∧ W.cell? ⟨B, i * 6 + 2, none⟩ = some (.int .i64 xix) ∧ W.cell? ⟨B, i * 6 + 3, none⟩ = some (.int .u64 xu) ∧ W.cell? ⟨B, i * 6 + 4, none⟩ = some (.string xs) ∧ W.cell? ⟨B, i * 6 + 5, none⟩ = some (.slice Ai ni ci)) W from fun W hW' => ⟨three ((hW'.block _ hz5).trans hb4.out), (Hi.out W (hc4.trans (hW'.mono hc4.size))).1⟩)
        have HT := Lib.hid (show ∀ W, Below u4.heap.size u4 W → (fun W : World => (W.cell? ⟨wr.heap.size, 0, none⟩ = some (.int .i64 xk) ∧ W.cell? ⟨wr.heap.size, 1, none⟩ = some (.int .i64 xn) ∧ W.cell? ⟨wr.heap.size, 2, none⟩ = some (.int .i64 xix)) ∧ W.cell? ⟨u3.heap.size, 0, none⟩ = some (.int .i64 0) ∧ W.cell? ⟨u3.heap.size, 1, none⟩ = some (.int .i64 0) ∧ W.cell? ⟨u3.heap.size, 2, none⟩ = some (.int .i64 0) ∧ W.cell? ⟨u3.heap.size, 3, none⟩ = some (.int .u64 0) ∧ W.cell? ⟨u3.heap.size, 4, none⟩ = some (.string ⟨#[]⟩) ∧ W.cell? ⟨u3.heap.size, 5, none⟩ = some (.slice none 0 0)) W from fun W hW' => ⟨three ((hW'.block _ hz5).trans hb4.out), six ((hW'.block _ hz4).trans hb5.out)⟩)
        have HV := Lib.hid (fun W (hW' : Below u4.heap.size u4 W) => (Hi.out W (hc4.trans (hW'.mono hc4.size))).2)
        go_region_held3 (fun W => (W.cell? ⟨wr.heap.size, 0, none⟩ = some (.int .i64 xk) ∧ W.cell? ⟨wr.heap.size, 1, none⟩ = some (.int .i64 xn) ∧ W.cell? ⟨wr.heap.size, 2, none⟩ = some (.int .i64 xix)) ∧ W.cell? ⟨B, i * 6, none⟩ = some (.int .i64 xk) ∧ W.cell? ⟨B, i * 6 + 1, none⟩ = some (.int .i64 xn) ∧ W.cell? ⟨B, i * 6 + 2, none⟩ = some (.int .i64 xix) ∧ W.cell? ⟨B, i * 6 + 3, none⟩ = some (.int .u64 xu) ∧ W.cell? ⟨B, i * 6 + 4, none⟩ = some (.string xs) ∧ W.cell? ⟨B, i * 6 + 5, none⟩ = some (.slice Ai ni ci))
          (first | with_reducible exact HS.out _ hd | with_reducible exact HS.out _ (by assumption))
          (first
            | (go_at_call 12; (with_reducible refine Calls.mono (HVS.out _) ?_); rintro e w5 ⟨rfl, hb5'⟩; have hc5 : Below u4.heap.size u4 w5 := hd.trans (hb5'.mono hd.size))
            | (go_at_call 14; (with_reducible refine Calls.mono (l6own_any (⟨xk, xn, xix, xu, xs, xm⟩ : Va) _ _ (HV.out _ hc5)) ?_); rintro e w6 ⟨v6, rfl, hv6, hb6⟩; have hy6 : VaV w6 (LoV w6.heap.size) (⟨xk, xn, xix, xu, xs, xm⟩ : Va) v6 := hv6.sub (fun b hb => hb.2); have hc6 : Below u4.heap.size u4 w6 := hc5.trans (hb6.mono hc5.size))
            | (go_at_call 13; (with_reducible refine Calls.mono (vValid_any (⟨xk, xn, xix, xu, xs, xm⟩ : Va) _ _ hy6) ?_); rw [← HVE.out]; rintro e w7 ⟨rfl, hb7⟩; have hc7 : Below u4.heap.size u4 w7 := hc6.trans (hb7.mono hc6.size))
            | (go_at_call 15; (with_reducible refine Calls.mono (r6Valid_any (⟨xk, xn, xix, xu, xs, xm⟩ : Va) _ _ (HV.out _ hc7)) ?_); rw [← HVE.out]; rintro e w8 ⟨rfl, hb8⟩; have hc8 : Below u4.heap.size u4 w8 := hc7.trans (hb8.mono hc7.size))
            | fail)
        clear hc5 hc6 hc7 hb5' hv6 hy6 hb6 hb7 hb8 hd
        have hd : Below u4.heap.size u4 w8.drew := hc8.drew
        go_wp2_with fail
        refine wp_region_held_drew (S := fun W => (W.cell? ⟨wr.heap.size, 0, none⟩ = some (.int .i64 xk) ∧ W.cell? ⟨wr.heap.size, 1, none⟩ = some (.int .i64 xn) ∧ W.cell? ⟨wr.heap.size, 2, none⟩ = some (.int .i64 xix)) ∧ W.cell? ⟨u3.heap.size, 0, none⟩ = some (.int .i64 0) ∧ W.cell? ⟨u3.heap.size, 1, none⟩ = some (.int .i64 0) ∧ W.cell? ⟨u3.heap.size, 2, none⟩ = some (.int .i64 0) ∧ W.cell? ⟨u3.heap.size, 3, none⟩ = some (.int .u64 0) ∧ W.cell? ⟨u3.heap.size, 4, none⟩ = some (.string ⟨#[]⟩) ∧ W.cell? ⟨u3.heap.size, 5, none⟩ = some (.slice none 0 0)) (by kernel_rfl) (HT.out _ hd) (fun hHeld => ?_)
        (try simp only [List.size_toArray, List.length_cons, List.length_nil, Nat.zero_add, Nat.reduceAdd])
        refine wpAnyH_takeL (i := 0) (v := ?v14) rfl (by kernel_rfl) (by kernel_rfl) (by kernel_rfl) (fun _ _ _ h => h) (Or.inl ⟨by rfl, ?y14⟩) (by assumption) ?r14
        case y14 => (intro W hSw; (try dsimp only at hSw); go_simp; try with_reducible rfl)
        (try simp only [Act.put, List.setIfInBounds_toArray, List.set_cons_zero, List.set_cons_succ])
        refine wpAnyH_takeL (i := 1) (v := ?v15) rfl (by kernel_rfl) (by kernel_rfl) (by kernel_rfl) (fun _ _ _ h => h) (Or.inl ⟨by rfl, ?y15⟩) (by assumption) ?r15
        case y15 => (intro W hSw; (try dsimp only at hSw); go_simp; try with_reducible rfl)
        (try simp only [Act.put, List.setIfInBounds_toArray, List.set_cons_zero, List.set_cons_succ])
        refine wpAnyH_takeL (i := 2) (v := ?v16) rfl (by kernel_rfl) (by kernel_rfl) (by kernel_rfl) (fun _ _ _ h => h) (Or.inl ⟨by rfl, ?y16⟩) (by assumption) ?r16
        case y16 => (intro W hSw; (try dsimp only at hSw); go_simp; try with_reducible rfl)
        (try simp only [Act.put, List.setIfInBounds_toArray, List.set_cons_zero, List.set_cons_succ])
        refine wpAnyH_takeL (i := 3) rfl (by kernel_rfl) (by kernel_rfl) (by kernel_rfl) (fun _ _ _ h => h) (Or.inr ⟨by rfl, rfl⟩) (by assumption) ?_
        (try simp only [Act.put, List.setIfInBounds_toArray, List.set_cons_zero, List.set_cons_succ])
        refine wpAnyH_takeL (i := 4) rfl (by kernel_rfl) (by kernel_rfl) (by kernel_rfl) (fun _ _ _ h => h) (Or.inr ⟨by rfl, rfl⟩) (by assumption) ?_
        (try simp only [Act.put, List.setIfInBounds_toArray, List.set_cons_zero, List.set_cons_succ])
        refine wpAnyH_takeL (i := 5) rfl (by kernel_rfl) (by kernel_rfl) (by kernel_rfl) (fun _ _ _ h => h) (Or.inr ⟨by rfl, rfl⟩) (by assumption) ?_
        (try simp only [Act.put, List.setIfInBounds_toArray, List.set_cons_zero, List.set_cons_succ])
        refine wpAnyH_takeL (i := 6) rfl (by kernel_rfl) (by kernel_rfl) (by kernel_rfl) (fun _ _ _ h => h) (Or.inr ⟨by rfl, rfl⟩) (by assumption) ?_
        (try simp only [Act.put, List.setIfInBounds_toArray, List.set_cons_zero, List.set_cons_succ])
        refine wpAnyH_takeL (i := 7) rfl (by kernel_rfl) (by kernel_rfl) (by kernel_rfl) (fun _ _ _ h => h) (Or.inr ⟨by rfl, rfl⟩) (by assumption) ?_
        (try simp only [Act.put, List.setIfInBounds_toArray, List.set_cons_zero, List.set_cons_succ])
        refine wpAnyH_takeL (i := 8) rfl (by kernel_rfl) (by kernel_rfl) (by kernel_rfl) (fun _ _ _ h => h) (Or.inr ⟨by rfl, rfl⟩) (by assumption) ?_
        (try simp only [Act.put, List.setIfInBounds_toArray, List.set_cons_zero, List.set_cons_succ])
        refine wpAnyH_takeL (i := 9) (v := ?v17) rfl (by kernel_rfl) (by kernel_rfl) (by kernel_rfl) (fun _ _ _ h => h) (Or.inl ⟨by rfl, ?y17⟩) (by assumption) ?r17
        case y17 => (intro W hSw; (try dsimp only at hSw); go_simp; try with_reducible rfl)
        (try simp only [Act.put, List.setIfInBounds_toArray, List.set_cons_zero, List.set_cons_succ])
        refine wpAnyH_takeL (i := 10) (v := ?v18) rfl (by kernel_rfl) (by kernel_rfl) (by kernel_rfl) (fun _ _ _ h => h) (Or.inl ⟨by rfl, ?y18⟩) (by assumption) ?r18
        case y18 => (intro W hSw; (try dsimp only at hSw); go_simp; try with_reducible rfl)
        (try simp only [Act.put, List.setIfInBounds_toArray, List.set_cons_zero, List.set_cons_succ])
        refine wpAnyH_takeL (i := 11) (v := ?v19) rfl (by kernel_rfl) (by kernel_rfl) (by kernel_rfl) (fun _ _ _ h => h) (Or.inl ⟨by rfl, ?y19⟩) (by assumption) ?r19
        case y19 => (intro W hSw; (try dsimp only at hSw); go_simp; try with_reducible rfl)
        (try simp only [Act.put, List.setIfInBounds_toArray, List.set_cons_zero, List.set_cons_succ])
        refine wpAnyH_takeL (i := 12) (v := ?v20) rfl (by kernel_rfl) (by kernel_rfl) (by kernel_rfl) (fun _ _ _ h => h) (Or.inl ⟨by rfl, ?y20⟩) (by assumption) ?r20
        case y20 => (intro W hSw; (try dsimp only at hSw); go_simp; try with_reducible rfl)
        (try simp only [Act.put, List.setIfInBounds_toArray, List.set_cons_zero, List.set_cons_succ])
        refine wpAnyH_takeL (i := 13) (v := ?v21) rfl (by kernel_rfl) (by kernel_rfl) (by kernel_rfl) (fun _ _ _ h => h) (Or.inl ⟨by rfl, ?y21⟩) (by assumption) ?r21
        case y21 => (intro W hSw; (try dsimp only at hSw); go_simp; try with_reducible rfl)
        (try simp only [Act.put, List.setIfInBounds_toArray, List.set_cons_zero, List.set_cons_succ])
        refine wpAnyH_takeL (i := 14) (v := ?v22) rfl (by kernel_rfl) (by kernel_rfl) (by kernel_rfl) (fun _ _ _ h => h) (Or.inl ⟨by rfl, ?y22⟩) (by assumption) ?r22
        case y22 => (intro W hSw; (try dsimp only at hSw); go_simp; try with_reducible rfl)
        (try simp only [Act.put, List.setIfInBounds_toArray, List.set_cons_zero, List.set_cons_succ])
        refine wpAnyH_takeL (i := 16) (v := ?v23) rfl (by kernel_rfl) (by kernel_rfl) (by kernel_rfl) (fun _ _ _ h => h) (Or.inl ⟨by rfl, ?y23⟩) (by assumption) ?r23
        case y23 => (intro W hSw; (try dsimp only at hSw); go_simp; try with_reducible rfl)
        (try simp only [Act.put, List.setIfInBounds_toArray, List.set_cons_zero, List.set_cons_succ])
        refine wpAnyH_ready (rs := [15]) (by kernel_rfl) (by simp) ?_
        refine consL rfl (fun K hK => ?_) AllReadyH.nil
        go_simp
        refine Calls.mono (l6plain_any (⟨0, 0, 0, 0, ⟨#[]⟩, []⟩ : Va) _ _ (HZV.out _)) ?_
        rintro e w5 ⟨v5, rfl, hv5, hb5'⟩
        have hc5 : Below u4.heap.size u4 w5 := hd.trans (hb5'.mono hd.size)
        have hc6 := hc5
        have hy5 : VaV w5 (LoV w5.heap.size) (⟨0, 0, 0, 0, ⟨#[]⟩, []⟩ : Va) v5 := hv5.sub (fun b hb => hb.2)
        (try dsimp only)
        refine hK.out _ _ (HT.out _ hc5) (fun hHeld => ?_)
        clear hK K
        (try simp only [Act.put, List.setIfInBounds_toArray, List.set_cons_zero, List.set_cons_succ])
        refine wpAnyH_ready (rs := [17]) (by kernel_rfl) (by simp) ?_
        refine consL rfl (fun K hK => ?_) AllReadyH.nil
        go_simp
        refine Calls.mono (r6Same_any (⟨0, 0, 0, 0, ⟨#[]⟩, []⟩ : Va) (⟨0, 0, 0, 0, ⟨#[]⟩, []⟩ : Va) _ _ _ hy5 (HZV.out _)) ?_
        rw [HCZ.out]
        rintro e w7 ⟨rfl, hb7⟩
        have hc7 : Below u4.heap.size u4 w7 := hc6.trans (hb7.mono hc6.size)
        (try dsimp only)
        refine hK.out _ _ (HT.out _ hc7) (fun hHeld => ?_)
        clear hK K
        (try simp only [Act.put, List.setIfInBounds_toArray, List.set_cons_zero, List.set_cons_succ])
        refine wpAnyH_takeL (i := 18) (v := ?v24) rfl (by kernel_rfl) (by kernel_rfl) (by kernel_rfl) (fun _ _ _ h => h) (Or.inl ⟨by rfl, ?y24⟩) (by assumption) ?r24
        case y24 => (intro W hSw; (try dsimp only at hSw); go_simp; try with_reducible rfl)
        (try simp only [Act.put, List.setIfInBounds_toArray, List.set_cons_zero, List.set_cons_succ])
        refine wpAnyH_takeL (i := 19) (v := ?v25) rfl (by kernel_rfl) (by kernel_rfl) (by kernel_rfl) (fun _ _ _ h => h) (Or.inl ⟨by rfl, ?y25⟩) (by assumption) ?r25
        case y25 => (intro W hSw; (try dsimp only at hSw); go_simp; try with_reducible rfl)
        (try simp only [Act.put, List.setIfInBounds_toArray, List.set_cons_zero, List.set_cons_succ])
        refine wpAnyH_takeL (i := 20) (v := ?v26) rfl (by kernel_rfl) (by kernel_rfl) (by kernel_rfl) (fun _ _ _ h => h) (Or.inl ⟨by rfl, ?y26⟩) (by assumption) ?r26
        case y26 => (intro W hSw; (try dsimp only at hSw); go_simp; try with_reducible rfl)
        (try simp only [Act.put, List.setIfInBounds_toArray, List.set_cons_zero, List.set_cons_succ])
        refine wpAnyH_done (by kernel_rfl) ?_ _
        all_goals go_wp2_with fail
        all_goals go_roundw
        all_goals first | exact ⟨i + 1, by omega, by go_num, hc4.trans (hc7.mono hc4.size)⟩ | (simp [intOf]; omega)
    · have hi6 : ¬ (i : Int) < 4 := by omega
      go_wp2_with fail
      refine Calls.mono (l6lives_any wr) ?_
      rintro e w9 ⟨rfl, hb9⟩
      go_wp2_with fail
      go_ret
      exact ⟨rfl, hbB.out.trans ((hW.trans (hb9.mono hW.size)).mono hbB.out.size)⟩
end Go.Proofs.Ytedhbpceonhmcaa
