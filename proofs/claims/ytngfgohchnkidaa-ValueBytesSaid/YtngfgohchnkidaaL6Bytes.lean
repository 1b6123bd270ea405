/-
  THE WALK of the law ValueBytes. Written by gen/genl6bytes.py.
-/
import Derived.Test.YtngfgohchnkidaaL6Bya
import Derived.Test.YtngfgohchnkidaaL6Some
import Derived.Test.YtngfgohchnkidaaL6Lives
import Derived.Test.YtngfgohchnkidaaR6All
import Derived.Test.YtngfgohchnkidaaR6Same
import Derived.Test.YtngfgohchnkidaaVaOrd
namespace Go.Proofs.Ytngfgohchnkidaa
open Go.RowKit

set_option maxHeartbeats 40000000 in
set_option maxRecDepth 100000 in
theorem lbytes_any (n : Int) (A1 : Option Addr) (c1 : Nat) (zs1 : List Int) (len1 : Nat) (a h b : Int) (A2 : Option Addr) (c2 : Nat) (rs : List Int) (len2 : Nat) (cc : Int) (w : World) (hn : I64 n) (hlen1 : len1 = zs1.length) (hzs1 : ∀ z ∈ zs1, I64 z) (hr1 : RdI w w.heap.size .i64 A1 zs1) (ha : I64 a) (hh : I64 h) (hb : I64 b)
    (hlen2 : len2 = rs.length) (h82 : Bytes8 rs) (hr2 : RdI w w.heap.size .u8 A2 rs) (hc2 : rs.length ≤ c2) (hA2 : A2 = none → c2 = 0) (hcc : 0 ≤ cc ∧ cc < 256) :
    Calls Try.prog 6 #[.int .i64 n, .slice A1 len1 c1, .int .i64 a, .int .i64 h, .int .i64 b, .slice A2 len2 c2, .int .u8 cc] w fun e w' => e = .returned (.bool true) ∧ Below w.heap.size w w' := by
  have hSo := l6some7_any n A1 c1 zs1 len1 a h b w hn hlen1 hzs1 hr1 ha hh hb
  have H2 := Lib.hid (And.intro hlen2 (And.intro h82 (And.intro hr2 (And.intro hc2 hA2))))
  have HCC := Lib.hid hcc
  have HAI := Lib.hid ha
  obtain ⟨i8, hi8, hu0, hu1, hu2⟩ := info_parts info_u8
  replace hi8 := Lib.hid hi8
  replace hu0 := Lib.hid hu0
  replace hu1 := Lib.hid hu1
  replace hu2 := Lib.hid hu2
  clear hn hlen1 hzs1 hr1 ha hh hb hlen2 h82 hr2 hc2 hA2 hcc
  go_enter Try.func6, Try.ntmps6
  go_wp2_with fail
  refine Calls.mono hSo ?_
  clear hSo
  rintro e w1 ⟨l, B, hl7, rfl, hl4, hBB, hblk, hvs, _, hw1⟩
  have L : VaL w1 l B := row_own hblk (fun p hp => (hvs p hp).sub (fun b hb => Nat.lt_trans hb.2 (Array.getElem?_eq_some_iff.1 hblk).1))
  have H4 := Lib.hid hl4
  have hbB := Lib.hid hw1
  have H7 := Lib.hid hl7
  clear hl4 hblk hvs hw1 hBB hl7
  go_wp2_with fail
  go_loopw [16] (fun v wr => ∃ i : Nat, i ≤ 4 ∧ v = .int .i64 i ∧ Below w1.heap.size w1 wr) (fun v _ => 4 - (intOf v).toNat)
  case atStart => exact ⟨0, by omega, rfl, Below.refl _ _⟩
  case round =>
    obtain ⟨i, hi, rfl, hW⟩ := hrel
    by_cases hi4 : i < 4
    · obtain ⟨x, Ai, ni, ci, hxl, Hi'⟩ := val_cells L (H4.out ▸ hi4)
      have hx7 : x.m.length ≤ 7 := by rw [← hxl]; exact H7.out _ (List.getElem_mem _)
      have HDI := Lib.hid (dec_in (Hi' wr hW).2.1 hx7)
      replace hx7 := Lib.hid hx7
      clear hxl
      obtain ⟨xk, xn, xix, xu, xs, xm⟩ := x
      unfold VrAt at Hi'
      simp only at Hi'
      have Hi := Lib.hid Hi'
      clear Hi'
      have hok := Lib.hid (Hi.out wr hW).2.1
      have hii : (i : Int) < 4 := by omega
      have hi0 : (0 : Int) ≤ (i : Int) := by omega
      obtain ⟨ve, hve⟩ : ∃ ve, ve = valE (⟨xk, xn, xix, xu, xs, xm⟩ : Va) := ⟨_, rfl⟩
      have HVE := Lib.hid hve
      clear hve
      obtain ⟨q0, q1, q2, q3, q4, q5⟩ := (Hi.out wr hW).1
      go_wp2_with fail
      clear q0 q1 q2 q3 q4 q5
      refine Calls.mono (r6Valid_any (⟨xk, xn, xix, xu, xs, xm⟩ : Va) _ _ (Hi.out _ hW).2) ?_
      rw [← HVE.out]
      rintro e u1 ⟨rfl, h1⟩
      have g1 := hW.trans (h1.mono hW.size)
      clear h1
      obtain ⟨q0, q1, q2, q3, q4, q5⟩ := (Hi.out _ g1).1
      go_wp2_with fail
      clear q0 q1 q2 q3 q4 q5
      refine Calls.mono (l6own_any (⟨xk, xn, xix, xu, xs, xm⟩ : Va) _ _ (Hi.out _ g1).2) ?_
      rintro e u2 ⟨v2, rfl, hv2, h2⟩
      have g2 := g1.trans (h2.mono g1.size)
      clear h2
      replace hv2 := Lib.hid hv2
      go_wp2_with fail
      refine Calls.mono (vEncode_any (⟨xk, xn, xix, xu, xs, xm⟩ : Va) _ _ (hv2.out.sub (fun b hb => hb.2))) ?_
      rintro e u3 ⟨hE1, hE2, h3⟩
      have g3 := g2.trans (h3.mono g2.size)
      rw [← HVE.out] at hE1 hE2
      clear h3 hv2
      obtain ⟨q0, q1, q2, q3, q4, q5⟩ := (Hi.out _ g3).1
      obtain ⟨bs, hbs⟩ : ∃ z, z = encV (⟨xk, xn, xix, xu, xs, xm⟩ : Va) := ⟨_, rfl⟩
      rw [← hbs] at hE1
      have HBS := Lib.hid hbs
      clear hbs
      by_cases hv0 : ve = 0
      · subst hv0
        obtain ⟨Ab, cb, rfl, hcb, hAb, hrb⟩ := hE1 rfl
        clear hE1 hE2
        have hsh := encV_short hok.out HVE.out.symm hx7.out
        rw [← HBS.out] at hsh
        have hbs0 := hsh.1
        have hbs9 := hsh.2
        clear hsh
        replace hrb := Lib.hid hrb
        replace hAb := Lib.hid hAb
        obtain ⟨bl, hbl⟩ : ∃ z, z = bs.length := ⟨_, rfl⟩
        rw [← hbl] at hcb hbs0 hbs9 ⊢
        have HBL := Lib.hid hbl
        clear hbl
        have hE6 := Lib.hid (r6Encode_any (⟨xk, xn, xix, xu, xs, xm⟩ : Va) (.agg #[.int .i64 xk, .int .i64 xn, .int .i64 xix, .int .u64 xu, .string xs, .slice Ai ni ci]) u3 (Hi.out _ g3).2)
        rw [← HBS.out] at hE6
        go_wp2_with fail
        clear q0 q1 q2 q3 q4 q5
        refine Calls.mono hE6.out ?_
        clear hE6
        rintro e u4 ⟨Aw, cw, rfl, hcw, hroww, h4⟩
        have g4 := g3.trans (h4.mono g3.size)
        have hAw := Lib.hid (own_none hroww)
        have hrw := Lib.hid (rd_own hroww)
        clear hroww
        replace hcw := Lib.hid hcw
        have hrb4 := Lib.hid ((hrb.out.below h4).mono h4.size)
        clear hrb h4
        have hDe := Lib.hid (vDecode_any Aw bs.length cw bs u4 (by rw [HBS.out]; exact HDI.out) rfl hcw.out hAw.out hrw.out)
        rw [← HBL.out] at hDe ⊢
        go_wp2_with fail
        refine Calls.mono hDe.out ?_
        clear hDe
        rintro e u5 hD
        rw [HBS.out] at hD
        obtain ⟨v5, rfl, hv5, h5⟩ := dec_good hok.out HVE.out.symm hD
        clear hD
        have g5 := g4.trans (h5.mono g4.size)
        have hrb5 := Lib.hid ((hrb4.out.below h5).mono h5.size)
        have hrw5 := Lib.hid ((hrw.out.below h5).mono h5.size)
        clear hrb4 hrw h5
        obtain ⟨A5, n5, c5, hve⟩ := hv5.shape
        dsimp only at hve
        subst hve
        replace hv5 := Lib.hid hv5
        go_wp2_with fail
        have hb6 := Lib.hid (heap_alloc_new u5 (.cells #[.int .i64 xk, .int .i64 xn, .int .i64 xix, .int .u64 xu, .string xs, .slice A5 n5 c5] 35))
        have g6 := g5.alloc g5.size (.cells #[.int .i64 xk, .int .i64 xn, .int .i64 xix, .int .u64 xu, .string xs, .slice A5 n5 c5] 35)
        have hz6 : u5.heap.size < (u5.alloc (.cells #[.int .i64 xk, .int .i64 xn, .int .i64 xix, .int .u64 xu, .string xs, .slice A5 n5 c5] 35)).heap.size := by simp
        have h56 : Below u5.heap.size u5 (u5.alloc (.cells #[.int .i64 xk, .int .i64 xn, .int .i64 xix, .int .u64 xu, .string xs, .slice A5 n5 c5] 35)) := (Below.refl _ _).alloc (Nat.le_refl _) _
        have hV5 := Lib.hid (va_lo hv5.out h56)
        have hrb6 := Lib.hid ((hrb5.out.below h56).mono h56.size)
        have hrw6 := Lib.hid ((hrw5.out.below h56).mono h56.size)
        clear h56 hrb5 hrw5 hv5
        generalize (u5.alloc (.cells #[.int .i64 xk, .int .i64 xn, .int .i64 xix, .int .u64 xu, .string xs, .slice A5 n5 c5] 35)) = u6 at *
        generalize u5.heap.size = o5 at *
        have hd : Below u6.heap.size u6 u6.drew := (Below.refl _ _).drew
        have HS := Lib.hid (show ∀ W, Below u6.heap.size u6 W → (fun W : World => (W.cell? ⟨B, i * 6, none⟩ = some (.int .i64 xk) ∧ W.cell? ⟨B, i * 6 + 1, none⟩ = some (.int .i64 xn) ∧ W.cell? ⟨B, i * 6 + 2, none⟩ = some (.int .i64 xix) ∧ W.cell? ⟨B, i * 6 + 3, none⟩ = some (.int .u64 xu) ∧ W.cell? ⟨B, i * 6 + 4, none⟩ = some (.string xs) ∧ W.cell? ⟨B, i * 6 + 5, none⟩ = some (.slice Ai ni ci)) ∧ W.cell? ⟨o5, 0, none⟩ = some (.int .i64 xk) ∧ W.cell? ⟨o5, 1, none⟩ = some (.int .i64 xn) ∧ W.cell? ⟨o5, 2, none⟩ = some (.int .i64 xix) ∧ W.cell? ⟨o5, 3, none⟩ = some (.int .u64 xu) ∧ W.cell? ⟨o5, 4, none⟩ = some (.string xs) ∧ W.cell? ⟨o5, 5, none⟩ = some (.slice A5 n5 c5)) W from fun W hW' => ⟨(Hi.out W (g6.trans (hW'.mono g6.size))).1, six ((hW'.block _ hz6).trans hb6.out)⟩)
        have HVx := Lib.hid (fun W (hW' : Below u6.heap.size u6 W) => (Hi.out W (g6.trans (hW'.mono g6.size))).2)
        have HVd := Lib.hid (fun W (hW' : Below u6.heap.size u6 W) => hV5.out.call hW')
        have HRb := Lib.hid (fun W (hW' : Below u6.heap.size u6 W) => (show RdI W W.heap.size .u8 Ab bs from (hrb6.out.below hW').mono hW'.size))
        have HRw := Lib.hid (fun W (hW' : Below u6.heap.size u6 W) => (show RdI W W.heap.size .u8 Aw bs from (hrw6.out.below hW').mono hW'.size))
        have HCZ := Lib.hid (show (vaCmp (⟨xk, xn, xix, xu, xs, xm⟩ : Va) (⟨xk, xn, xix, xu, xs, xm⟩ : Va) == 0) = true from by rw [(vaCmp_zero _ _).2 rfl]; rfl)
        have hbl8 : bs.length ≤ 140737488351232 := by rw [← HBL.out]; omega
        replace hbl8 := Lib.hid hbl8
        refine wp_region_held_drew (S := fun W => (W.cell? ⟨B, i * 6, none⟩ = some (.int .i64 xk) ∧ W.cell? ⟨B, i * 6 + 1, none⟩ = some (.int .i64 xn) ∧ W.cell? ⟨B, i * 6 + 2, none⟩ = some (.int .i64 xix) ∧ W.cell? ⟨B, i * 6 + 3, none⟩ = some (.int .u64 xu) ∧ W.cell? ⟨B, i * 6 + 4, none⟩ = some (.string xs) ∧ W.cell? ⟨B, i * 6 + 5, none⟩ = some (.slice Ai ni ci)) ∧ W.cell? ⟨o5, 0, none⟩ = some (.int .i64 xk) ∧ W.cell? ⟨o5, 1, none⟩ = some (.int .i64 xn) ∧ W.cell? ⟨o5, 2, none⟩ = some (.int .i64 xix) ∧ W.cell? ⟨o5, 3, none⟩ = some (.int .u64 xu) ∧ W.cell? ⟨o5, 4, none⟩ = some (.string xs) ∧ W.cell? ⟨o5, 5, none⟩ = some (.slice A5 n5 c5)) (by kernel_rfl) (HS.out _ hd) (fun hHeld => ?_)
        (try simp only [List.size_toArray, List.length_cons, List.length_nil, Nat.zero_add, Nat.reduceAdd])
        refine wpAnyH_takeL (i := 0) (v := ?v1) rfl (by kernel_rfl) (by kernel_rfl) (by kernel_rfl) (fun _ _ _ h => h) (Or.inl ⟨by rfl, ?y1⟩) (by assumption) ?r1
        case y1 => (intro W hSw; (try dsimp only at hSw); go_simp; try with_reducible rfl)
        (try simp only [Act.put, List.setIfInBounds_toArray, List.set_cons_zero, List.set_cons_succ])
        refine wpAnyH_takeL (i := 1) (v := ?v2) rfl (by kernel_rfl) (by kernel_rfl) (by kernel_rfl) (fun _ _ _ h => h) (Or.inl ⟨by rfl, ?y2⟩) (by assumption) ?r2
        case y2 => (intro W hSw; (try dsimp only at hSw); go_simp; try with_reducible rfl)
        (try simp only [Act.put, List.setIfInBounds_toArray, List.set_cons_zero, List.set_cons_succ])
        refine wpAnyH_takeL (i := 2) (v := ?v3) rfl (by kernel_rfl) (by kernel_rfl) (by kernel_rfl) (fun _ _ _ h => h) (Or.inl ⟨by rfl, ?y3⟩) (by assumption) ?r3
        case y3 => (intro W hSw; (try dsimp only at hSw); go_simp; try with_reducible rfl)
        (try simp only [Act.put, List.setIfInBounds_toArray, List.set_cons_zero, List.set_cons_succ])
        refine wpAnyH_takeL (i := 3) (v := ?v4) rfl (by kernel_rfl) (by kernel_rfl) (by kernel_rfl) (fun _ _ _ h => h) (Or.inl ⟨by rfl, ?y4⟩) (by assumption) ?r4
        case y4 => (intro W hSw; (try dsimp only at hSw); go_simp; try with_reducible rfl)
        (try simp only [Act.put, List.setIfInBounds_toArray, List.set_cons_zero, List.set_cons_succ])
        refine wpAnyH_takeL (i := 4) (v := ?v5) rfl (by kernel_rfl) (by kernel_rfl) (by kernel_rfl) (fun _ _ _ h => h) (Or.inl ⟨by rfl, ?y5⟩) (by assumption) ?r5
        case y5 => (intro W hSw; (try dsimp only at hSw); go_simp; try with_reducible rfl)
        (try simp only [Act.put, List.setIfInBounds_toArray, List.set_cons_zero, List.set_cons_succ])
        refine wpAnyH_takeL (i := 5) (v := ?v6) rfl (by kernel_rfl) (by kernel_rfl) (by kernel_rfl) (fun _ _ _ h => h) (Or.inl ⟨by rfl, ?y6⟩) (by assumption) ?r6
        case y6 => (intro W hSw; (try dsimp only at hSw); go_simp; try with_reducible rfl)
        (try simp only [Act.put, List.setIfInBounds_toArray, List.set_cons_zero, List.set_cons_succ])
        refine wpAnyH_takeL (i := 6) (v := ?v7) rfl (by kernel_rfl) (by kernel_rfl) (by kernel_rfl) (fun _ _ _ h => h) (Or.inl ⟨by rfl, ?y7⟩) (by assumption) ?r7
        case y7 => (intro W hSw; (try dsimp only at hSw); go_simp; try with_reducible rfl)
        (try simp only [Act.put, List.setIfInBounds_toArray, List.set_cons_zero, List.set_cons_succ])
        refine wpAnyH_takeL (i := 7) (v := ?v8) rfl (by kernel_rfl) (by kernel_rfl) (by kernel_rfl) (fun _ _ _ h => h) (Or.inl ⟨by rfl, ?y8⟩) (by assumption) ?r8
        case y8 => (intro W hSw; (try dsimp only at hSw); go_simp; try with_reducible rfl)
        (try simp only [Act.put, List.setIfInBounds_toArray, List.set_cons_zero, List.set_cons_succ])
        refine wpAnyH_takeL (i := 8) (v := ?v9) rfl (by kernel_rfl) (by kernel_rfl) (by kernel_rfl) (fun _ _ _ h => h) (Or.inl ⟨by rfl, ?y9⟩) (by assumption) ?r9
        case y9 => (intro W hSw; (try dsimp only at hSw); go_simp; try with_reducible rfl)
        (try simp only [Act.put, List.setIfInBounds_toArray, List.set_cons_zero, List.set_cons_succ])
        refine wpAnyH_takeL (i := 9) (v := ?v10) rfl (by kernel_rfl) (by kernel_rfl) (by kernel_rfl) (fun _ _ _ h => h) (Or.inl ⟨by rfl, ?y10⟩) (by assumption) ?r10
        case y10 => (intro W hSw; (try dsimp only at hSw); go_simp; try with_reducible rfl)
        (try simp only [Act.put, List.setIfInBounds_toArray, List.set_cons_zero, List.set_cons_succ])
        refine wpAnyH_takeL (i := 10) (v := ?v11) rfl (by kernel_rfl) (by kernel_rfl) (by kernel_rfl) (fun _ _ _ h => h) (Or.inl ⟨by rfl, ?y11⟩) (by assumption) ?r11
        case y11 => (intro W hSw; (try dsimp only at hSw); go_simp; try with_reducible rfl)
        (try simp only [Act.put, List.setIfInBounds_toArray, List.set_cons_zero, List.set_cons_succ])
        refine wpAnyH_takeL (i := 11) (v := ?v12) rfl (by kernel_rfl) (by kernel_rfl) (by kernel_rfl) (fun _ _ _ h => h) (Or.inl ⟨by rfl, ?y12⟩) (by assumption) ?r12
        case y12 => (intro W hSw; (try dsimp only at hSw); go_simp; try with_reducible rfl)
        (try simp only [Act.put, List.setIfInBounds_toArray, List.set_cons_zero, List.set_cons_succ])
        refine wpAnyH_ready (rs := [12]) (by kernel_rfl) (by simp) ?_
        refine consL rfl (fun K hK => ?_) AllReadyH.nil
        go_simp
        refine Calls.mono (same_any Ab Aw bl bl cb cw bs bs _ HBL.out HBL.out hbl8.out (HRb.out _ hd) (HRw.out _ hd)) ?_
        rw [decide_eq_true rfl]
        rintro e w7 ⟨rfl, hb7⟩
        have hc7 : Below u6.heap.size u6 w7 := hd.trans (hb7.mono hd.size)
        (try dsimp only)
        refine hK.out _ _ (HS.out _ hc7) (fun hHeld => ?_)
        clear hK K
        (try simp only [Act.put, List.setIfInBounds_toArray, List.set_cons_zero, List.set_cons_succ])
        refine wpAnyH_takeL (i := 13) (v := ?v13) rfl (by kernel_rfl) (by kernel_rfl) (by kernel_rfl) (fun _ _ _ h => h) (Or.inl ⟨by rfl, ?y13⟩) (by assumption) ?r13
        case y13 => (intro W hSw; (try dsimp only at hSw); go_simp; try with_reducible rfl)
        (try simp only [Act.put, List.setIfInBounds_toArray, List.set_cons_zero, List.set_cons_succ])
        refine wpAnyH_takeL (i := 14) (v := ?v14) rfl (by kernel_rfl) (by kernel_rfl) (by kernel_rfl) (fun _ _ _ h => h) (Or.inl ⟨by rfl, ?y14⟩) (by assumption) ?r14
        case y14 => (intro W hSw; (try dsimp only at hSw); go_simp; try with_reducible rfl)
        (try simp only [Act.put, List.setIfInBounds_toArray, List.set_cons_zero, List.set_cons_succ])
        refine wpAnyH_takeL (i := 15) (v := ?v15) rfl (by kernel_rfl) (by kernel_rfl) (by kernel_rfl) (fun _ _ _ h => h) (Or.inl ⟨by rfl, ?y15⟩) (by assumption) ?r15
        case y15 => (intro W hSw; (try dsimp only at hSw); go_simp; try with_reducible rfl)
        (try simp only [Act.put, List.setIfInBounds_toArray, List.set_cons_zero, List.set_cons_succ])
        refine wpAnyH_takeL (i := 16) (v := ?v16) rfl (by kernel_rfl) (by kernel_rfl) (by kernel_rfl) (fun _ _ _ h => h) (Or.inl ⟨by rfl, ?y16⟩) (by assumption) ?r16
        case y16 => (intro W hSw; (try dsimp only at hSw); go_simp; try with_reducible rfl)
        (try simp only [Act.put, List.setIfInBounds_toArray, List.set_cons_zero, List.set_cons_succ])
        refine wpAnyH_takeL (i := 18) (v := ?v17) rfl (by kernel_rfl) (by kernel_rfl) (by kernel_rfl) (fun _ _ _ h => h) (Or.inl ⟨by rfl, ?y17⟩) (by assumption) ?r17
        case y17 => (intro W hSw; (try dsimp only at hSw); go_simp; try with_reducible rfl)
        (try simp only [Act.put, List.setIfInBounds_toArray, List.set_cons_zero, List.set_cons_succ])
        refine wpAnyH_takeL (i := 19) (v := ?v18) rfl (by kernel_rfl) (by kernel_rfl) (by kernel_rfl) (fun _ _ _ h => h) (Or.inl ⟨by rfl, ?y18⟩) (by assumption) ?r18
        case y18 => (intro W hSw; (try dsimp only at hSw); go_simp; try with_reducible rfl)
        (try simp only [Act.put, List.setIfInBounds_toArray, List.set_cons_zero, List.set_cons_succ])
        refine wpAnyH_takeL (i := 20) (v := ?v19) rfl (by kernel_rfl) (by kernel_rfl) (by kernel_rfl) (fun _ _ _ h => h) (Or.inl ⟨by rfl, ?y19⟩) (by assumption) ?r19
        case y19 => (intro W hSw; (try dsimp only at hSw); go_simp; try with_reducible rfl)
        (try simp only [Act.put, List.setIfInBounds_toArray, List.set_cons_zero, List.set_cons_succ])
        refine wpAnyH_takeL (i := 21) (v := ?v20) rfl (by kernel_rfl) (by kernel_rfl) (by kernel_rfl) (fun _ _ _ h => h) (Or.inl ⟨by rfl, ?y20⟩) (by assumption) ?r20
        case y20 => (intro W hSw; (try dsimp only at hSw); go_simp; try with_reducible rfl)
        (try simp only [Act.put, List.setIfInBounds_toArray, List.set_cons_zero, List.set_cons_succ])
        refine wpAnyH_ready (rs := [17]) (by kernel_rfl) (by simp) ?_
        refine consL rfl (fun K hK => ?_) AllReadyH.nil
        go_simp
        refine Calls.mono (l6plain_any (⟨xk, xn, xix, xu, xs, xm⟩ : Va) _ _ (HVd.out _ hc7)) ?_
        rintro e w8 ⟨v8, rfl, hv8, hb8⟩
        have hc8 : Below u6.heap.size u6 w8 := hc7.trans (hb8.mono hc7.size)
        (try dsimp only)
        refine hK.out _ _ (HS.out _ hc8) (fun hHeld => ?_)
        clear hK K
        (try simp only [Act.put, List.setIfInBounds_toArray, List.set_cons_zero, List.set_cons_succ])
        refine wpAnyH_ready (rs := [22]) (by kernel_rfl) (by simp) ?_
        refine consL rfl (fun K hK => ?_) AllReadyH.nil
        go_simp
        refine Calls.mono (r6Same_any (⟨xk, xn, xix, xu, xs, xm⟩ : Va) (⟨xk, xn, xix, xu, xs, xm⟩ : Va) _ _ _ (hv8.sub (fun b hb => hb.2)) (HVx.out _ hc8)) ?_
        rw [HCZ.out]
        rintro e w9 ⟨rfl, hb9⟩
        have hc9 : Below u6.heap.size u6 w9 := hc8.trans (hb9.mono hc8.size)
        (try dsimp only)
        refine hK.out _ _ (HS.out _ hc9) (fun hHeld => ?_)
        clear hK K
        (try simp only [Act.put, List.setIfInBounds_toArray, List.set_cons_zero, List.set_cons_succ])
        refine wpAnyH_takeL (i := 23) (v := ?v21) rfl (by kernel_rfl) (by kernel_rfl) (by kernel_rfl) (fun _ _ _ h => h) (Or.inl ⟨by rfl, ?y21⟩) (by assumption) ?r21
        case y21 => (intro W hSw; (try dsimp only at hSw); go_simp; try with_reducible rfl)
        (try simp only [Act.put, List.setIfInBounds_toArray, List.set_cons_zero, List.set_cons_succ])
        refine wpAnyH_takeL (i := 24) (v := ?v22) rfl (by kernel_rfl) (by kernel_rfl) (by kernel_rfl) (fun _ _ _ h => h) (Or.inl ⟨by rfl, ?y22⟩) (by assumption) ?r22
        case y22 => (intro W hSw; (try dsimp only at hSw); go_simp; try with_reducible rfl)
        (try simp only [Act.put, List.setIfInBounds_toArray, List.set_cons_zero, List.set_cons_succ])
        refine wpAnyH_takeL (i := 25) (v := ?v23) rfl (by kernel_rfl) (by kernel_rfl) (by kernel_rfl) (fun _ _ _ h => h) (Or.inl ⟨by rfl, ?y23⟩) (by assumption) ?r23
        case y23 => (intro W hSw; (try dsimp only at hSw); go_simp; try with_reducible rfl)
        (try simp only [Act.put, List.setIfInBounds_toArray, List.set_cons_zero, List.set_cons_succ])
        refine wpAnyH_takeL (i := 26) (v := ?v24) rfl (by kernel_rfl) (by kernel_rfl) (by kernel_rfl) (fun _ _ _ h => h) (Or.inl ⟨by rfl, ?y24⟩) (by assumption) ?r24
        case y24 => (intro W hSw; (try dsimp only at hSw); go_simp; try with_reducible rfl)
        (try simp only [Act.put, List.setIfInBounds_toArray, List.set_cons_zero, List.set_cons_succ])
        refine wpAnyH_takeL (i := 27) (v := ?v25) rfl (by kernel_rfl) (by kernel_rfl) (by kernel_rfl) (fun _ _ _ h => h) (Or.inl ⟨by rfl, ?y25⟩) (by assumption) ?r25
        case y25 => (intro W hSw; (try dsimp only at hSw); go_simp; try with_reducible rfl)
        (try simp only [Act.put, List.setIfInBounds_toArray, List.set_cons_zero, List.set_cons_succ])
        refine wpAnyH_takeL (i := 28) (v := ?v26) rfl (by kernel_rfl) (by kernel_rfl) (by kernel_rfl) (fun _ _ _ h => h) (Or.inl ⟨by rfl, ?y26⟩) (by assumption) ?r26
        case y26 => (intro W hSw; (try dsimp only at hSw); go_simp; try with_reducible rfl)
        (try simp only [Act.put, List.setIfInBounds_toArray, List.set_cons_zero, List.set_cons_succ])
        refine wpAnyH_takeL (i := 29) (v := ?v27) rfl (by kernel_rfl) (by kernel_rfl) (by kernel_rfl) (fun _ _ _ h => h) (Or.inl ⟨by rfl, ?y27⟩) (by assumption) ?r27
        case y27 => (intro W hSw; (try dsimp only at hSw); go_simp; try with_reducible rfl)
        (try simp only [Act.put, List.setIfInBounds_toArray, List.set_cons_zero, List.set_cons_succ])
        refine wpAnyH_takeL (i := 30) (v := ?v28) rfl (by kernel_rfl) (by kernel_rfl) (by kernel_rfl) (fun _ _ _ h => h) (Or.inl ⟨by rfl, ?y28⟩) (by assumption) ?r28
        case y28 => (intro W hSw; (try dsimp only at hSw); go_simp; try with_reducible rfl)
        (try simp only [Act.put, List.setIfInBounds_toArray, List.set_cons_zero, List.set_cons_succ])
        refine wpAnyH_takeL (i := 31) rfl (by kernel_rfl) (by kernel_rfl) (by kernel_rfl) (fun _ _ _ h => h) (Or.inr ⟨by rfl, rfl⟩) (by assumption) ?_
        (try simp only [Act.put, List.setIfInBounds_toArray, List.set_cons_zero, List.set_cons_succ])
        refine wpAnyH_takeL (i := 32) rfl (by kernel_rfl) (by kernel_rfl) (by kernel_rfl) (fun _ _ _ h => h) (Or.inr ⟨by rfl, rfl⟩) (by assumption) ?_
        (try simp only [Act.put, List.setIfInBounds_toArray, List.set_cons_zero, List.set_cons_succ])
        refine wpAnyH_takeL (i := 33) rfl (by kernel_rfl) (by kernel_rfl) (by kernel_rfl) (fun _ _ _ h => h) (Or.inr ⟨by rfl, rfl⟩) (by assumption) ?_
        (try simp only [Act.put, List.setIfInBounds_toArray, List.set_cons_zero, List.set_cons_succ])
        refine wpAnyH_takeL (i := 34) rfl (by kernel_rfl) (by kernel_rfl) (by kernel_rfl) (fun _ _ _ h => h) (Or.inr ⟨by rfl, rfl⟩) (by assumption) ?_
        (try simp only [Act.put, List.setIfInBounds_toArray, List.set_cons_zero, List.set_cons_succ])
        refine wpAnyH_takeL (i := 35) rfl (by kernel_rfl) (by kernel_rfl) (by kernel_rfl) (fun _ _ _ h => h) (Or.inr ⟨by rfl, rfl⟩) (by assumption) ?_
        (try simp only [Act.put, List.setIfInBounds_toArray, List.set_cons_zero, List.set_cons_succ])
        refine wpAnyH_takeL (i := 36) rfl (by kernel_rfl) (by kernel_rfl) (by kernel_rfl) (fun _ _ _ h => h) (Or.inr ⟨by rfl, rfl⟩) (by assumption) ?_
        (try simp only [Act.put, List.setIfInBounds_toArray, List.set_cons_zero, List.set_cons_succ])
        refine wpAnyH_takeL (i := 37) rfl (by kernel_rfl) (by kernel_rfl) (by kernel_rfl) (fun _ _ _ h => h) (Or.inr ⟨by rfl, rfl⟩) (by assumption) ?_
        (try simp only [Act.put, List.setIfInBounds_toArray, List.set_cons_zero, List.set_cons_succ])
        refine wpAnyH_takeL (i := 38) (v := ?v29) rfl (by kernel_rfl) (by kernel_rfl) (by kernel_rfl) (fun _ _ _ h => h) (Or.inl ⟨by rfl, ?y29⟩) (by assumption) ?r29
        case y29 => (intro W hSw; (try dsimp only at hSw); go_simp; try with_reducible rfl)
        (try simp only [Act.put, List.setIfInBounds_toArray, List.set_cons_zero, List.set_cons_succ])
        refine wpAnyH_takeL (i := 39) (v := ?v30) rfl (by kernel_rfl) (by kernel_rfl) (by kernel_rfl) (fun _ _ _ h => h) (Or.inl ⟨by rfl, ?y30⟩) (by assumption) ?r30
        case y30 => (intro W hSw; (try dsimp only at hSw); go_simp; try with_reducible rfl)
        (try simp only [Act.put, List.setIfInBounds_toArray, List.set_cons_zero, List.set_cons_succ])
        refine wpAnyH_done (by kernel_rfl) ?_ _
        have g9 := g6.trans (hc9.mono g6.size)
        have hrb9 := HRb.out _ hc9
        replace hrb9 := Lib.hid hrb9
        clear hc7 hc8 hc9 hb7 hb8 hb9 hv8 HS HVx HVd HRb HRw HCZ hb6 hz6 hV5 hrb6 hrw6 g6 hd
        go_wp2_with fail
        refine Calls.mono (dRead_any Ab bl cb bs w9 HBL.out (by rw [← HBL.out]; omega) (by rw [← HBL.out]; exact hcb) hAb.out hrb9.out) ?_
        rintro e u7 ⟨g, rfl, hgz, hrd, h7⟩
        have g7 := g9.trans (h7.mono g9.size)
        go_wp2_with fail
        have hd : Below u7.heap.size u7 u7.drew := (Below.refl _ _).drew
        have gd := g7.drew
        have hI := rInt_any g ⟨bs, 0⟩ u7.drew (by rw [nrm_ok rfl]; exact rdr_below hrd hd) (by rw [HBS.out]; exact encV_bytes _) (by show bs.length ≤ _; rw [← HBL.out]; omega)
        rw [show (intR ⟨bs, 0⟩).1 = xk from by rw [HBS.out]; exact intR_encV hok.out] at hI
        replace hI := Lib.hid hI
        have hg1 : w1.heap.size ≤ g := by have := g9.size; omega
        refine wp_region_held_drew (S := fun W => W.cell? ⟨B, i * 6, none⟩ = some (.int .i64 xk) ∧ W.cell? ⟨B, i * 6 + 1, none⟩ = some (.int .i64 xn) ∧ W.cell? ⟨B, i * 6 + 2, none⟩ = some (.int .i64 xix) ∧ W.cell? ⟨B, i * 6 + 3, none⟩ = some (.int .u64 xu) ∧ W.cell? ⟨B, i * 6 + 4, none⟩ = some (.string xs) ∧ W.cell? ⟨B, i * 6 + 5, none⟩ = some (.slice Ai ni ci)) (by kernel_rfl) ((Hi.out _ gd).1) (fun hHeld => ?_)
        (try simp only [List.size_toArray, List.length_cons, List.length_nil, Nat.zero_add, Nat.reduceAdd])
        refine wpAnyH_takeL (i := 0) (v := ?v31) rfl (by kernel_rfl) (by kernel_rfl) (by kernel_rfl) (fun _ _ _ h => h) (Or.inl ⟨by rfl, ?y31⟩) (by assumption) ?r31
        case y31 => (intro W hSw; (try dsimp only at hSw); go_simp; try with_reducible rfl)
        (try simp only [Act.put, List.setIfInBounds_toArray, List.set_cons_zero, List.set_cons_succ])
        refine wpAnyH_takeL (i := 1) (v := ?v32) rfl (by kernel_rfl) (by kernel_rfl) (by kernel_rfl) (fun _ _ _ h => h) (Or.inl ⟨by rfl, ?y32⟩) (by assumption) ?r32
        case y32 => (intro W hSw; (try dsimp only at hSw); go_simp; try with_reducible rfl)
        (try simp only [Act.put, List.setIfInBounds_toArray, List.set_cons_zero, List.set_cons_succ])
        refine wpAnyH_takeL (i := 2) (v := ?v33) rfl (by kernel_rfl) (by kernel_rfl) (by kernel_rfl) (fun _ _ _ h => h) (Or.inl ⟨by rfl, ?y33⟩) (by assumption) ?r33
        case y33 => (intro W hSw; (try dsimp only at hSw); go_simp; try with_reducible rfl)
        (try simp only [Act.put, List.setIfInBounds_toArray, List.set_cons_zero, List.set_cons_succ])
        refine wpAnyH_takeL (i := 3) (v := ?v34) rfl (by kernel_rfl) (by kernel_rfl) (by kernel_rfl) (fun _ _ _ h => h) (Or.inl ⟨by rfl, ?y34⟩) (by assumption) ?r34
        case y34 => (intro W hSw; (try dsimp only at hSw); go_simp; try with_reducible rfl)
        (try simp only [Act.put, List.setIfInBounds_toArray, List.set_cons_zero, List.set_cons_succ])
        refine wpAnyH_takeL (i := 5) (v := ?v35) rfl (by kernel_rfl) (by kernel_rfl) (by kernel_rfl) (fun _ _ _ h => h) (Or.inl ⟨by rfl, ?y35⟩) (by assumption) ?r35
        case y35 => (intro W hSw; (try dsimp only at hSw); go_simp; try with_reducible rfl)
        (try simp only [Act.put, List.setIfInBounds_toArray, List.set_cons_zero, List.set_cons_succ])
        refine wpAnyH_takeL (i := 6) (v := ?v36) rfl (by kernel_rfl) (by kernel_rfl) (by kernel_rfl) (fun _ _ _ h => h) (Or.inl ⟨by rfl, ?y36⟩) (by assumption) ?r36
        case y36 => (intro W hSw; (try dsimp only at hSw); go_simp; try with_reducible rfl)
        (try simp only [Act.put, List.setIfInBounds_toArray, List.set_cons_zero, List.set_cons_succ])
        refine wpAnyH_takeL (i := 7) (v := ?v37) rfl (by kernel_rfl) (by kernel_rfl) (by kernel_rfl) (fun _ _ _ h => h) (Or.inl ⟨by rfl, ?y37⟩) (by assumption) ?r37
        case y37 => (intro W hSw; (try dsimp only at hSw); go_simp; try with_reducible rfl)
        (try simp only [Act.put, List.setIfInBounds_toArray, List.set_cons_zero, List.set_cons_succ])
        refine wpAnyH_takeL (i := 8) (v := ?v38) rfl (by kernel_rfl) (by kernel_rfl) (by kernel_rfl) (fun _ _ _ h => h) (Or.inl ⟨by rfl, ?y38⟩) (by assumption) ?r38
        case y38 => (intro W hSw; (try dsimp only at hSw); go_simp; try with_reducible rfl)
        (try simp only [Act.put, List.setIfInBounds_toArray, List.set_cons_zero, List.set_cons_succ])
        refine wpAnyH_takeL (i := 9) (v := ?v39) rfl (by kernel_rfl) (by kernel_rfl) (by kernel_rfl) (fun _ _ _ h => h) (Or.inl ⟨by rfl, ?y39⟩) (by assumption) ?r39
        case y39 => (intro W hSw; (try dsimp only at hSw); go_simp; try with_reducible rfl)
        (try simp only [Act.put, List.setIfInBounds_toArray, List.set_cons_zero, List.set_cons_succ])
        refine wpAnyH_takeL (i := 10) (v := ?v40) rfl (by kernel_rfl) (by kernel_rfl) (by kernel_rfl) (fun _ _ _ h => h) (Or.inl ⟨by rfl, ?y40⟩) (by assumption) ?r40
        case y40 => (intro W hSw; (try dsimp only at hSw); go_simp; try with_reducible rfl)
        (try simp only [Act.put, List.setIfInBounds_toArray, List.set_cons_zero, List.set_cons_succ])
        refine wpAnyH_ready (rs := [4]) (by kernel_rfl) (by simp) ?_
        refine consL rfl (fun K hK => ?_) AllReadyH.nil
        go_simp
        refine Calls.mono hI.out ?_
        rintro e u8 ⟨rfl, hrd8, hg8⟩
        have g8 : Below w1.heap.size w1 u8 := gd.grown hg8 gd.size (fun j ej => by injection ej; omega)
        have k8 : Below w9.heap.size w9 u8 := h7.drew.grown hg8 h7.size (fun j ej => by injection ej; omega)
        (try dsimp only)
        refine hK.out _ _ ((Hi.out _ g8).1) (fun hHeld => ?_)
        clear hK K
        (try simp only [Act.put, List.setIfInBounds_toArray, List.set_cons_zero, List.set_cons_succ])
        refine wpAnyH_takeL (i := 11) (v := ?v41) rfl (by kernel_rfl) (by kernel_rfl) (by kernel_rfl) (fun _ _ _ h => h) (Or.inl ⟨by rfl, ?y41⟩) (by assumption) ?r41
        case y41 => (intro W hSw; (try dsimp only at hSw); go_simp; try with_reducible rfl)
        (try simp only [Act.put, List.setIfInBounds_toArray, List.set_cons_zero, List.set_cons_succ])
        refine wpAnyH_takeL (i := 12) (v := ?v42) rfl (by kernel_rfl) (by kernel_rfl) (by kernel_rfl) (fun _ _ _ h => h) (Or.inl ⟨by rfl, ?y42⟩) (by assumption) ?r42
        case y42 => (intro W hSw; (try dsimp only at hSw); go_simp; try with_reducible rfl)
        (try simp only [Act.put, List.setIfInBounds_toArray, List.set_cons_zero, List.set_cons_succ])
        refine wpAnyH_takeL (i := 13) (v := ?v43) rfl (by kernel_rfl) (by kernel_rfl) (by kernel_rfl) (fun _ _ _ h => h) (Or.inl ⟨by rfl, ?y43⟩) (by assumption) ?r43
        case y43 => (intro W hSw; (try dsimp only at hSw); go_simp; try with_reducible rfl)
        (try simp only [Act.put, List.setIfInBounds_toArray, List.set_cons_zero, List.set_cons_succ])
        refine wpAnyH_takeL (i := 14) (v := ?v44) rfl (by kernel_rfl) (by kernel_rfl) (by kernel_rfl) (fun _ _ _ h => h) (Or.inl ⟨by rfl, ?y44⟩) (by assumption) ?r44
        case y44 => (intro W hSw; (try dsimp only at hSw); go_simp; try with_reducible rfl)
        (try simp only [Act.put, List.setIfInBounds_toArray, List.set_cons_zero, List.set_cons_succ])
        refine wpAnyH_takeL (i := 15) (v := ?v45) rfl (by kernel_rfl) (by kernel_rfl) (by kernel_rfl) (fun _ _ _ h => h) (Or.inl ⟨by rfl, ?y45⟩) (by assumption) ?r45
        case y45 => (intro W hSw; (try dsimp only at hSw); go_simp; try with_reducible rfl)
        (try simp only [Act.put, List.setIfInBounds_toArray, List.set_cons_zero, List.set_cons_succ])
        refine wpAnyH_takeL (i := 16) (v := ?v46) rfl (by kernel_rfl) (by kernel_rfl) (by kernel_rfl) (fun _ _ _ h => h) (Or.inl ⟨by rfl, ?y46⟩) (by assumption) ?r46
        case y46 => (intro W hSw; (try dsimp only at hSw); go_simp; try with_reducible rfl)
        (try simp only [Act.put, List.setIfInBounds_toArray, List.set_cons_zero, List.set_cons_succ])
        refine wpAnyH_takeL (i := 17) (v := ?v47) rfl (by kernel_rfl) (by kernel_rfl) (by kernel_rfl) (fun _ _ _ h => h) (Or.inl ⟨by rfl, ?y47⟩) (by assumption) ?r47
        case y47 => (intro W hSw; (try dsimp only at hSw); go_simp; try with_reducible rfl)
        (try simp only [Act.put, List.setIfInBounds_toArray, List.set_cons_zero, List.set_cons_succ])
        refine wpAnyH_done (by kernel_rfl) ?_ _
        have hne : ((bl : Int) == 0) = false := by rw [beq_eq_false_iff_ne]; omega
        have hrb8 := (hrb9.out.below k8).mono k8.size
        clear hI hrd8 hg8 k8 gd hd hrd h7 hgz hg1 g9 hrb9
        replace hrb8 := Lib.hid hrb8
        obtain ⟨p, hp, hAr⟩ := Around_30 a bl HAI.out hbs0 (by omega)
        replace hAr := Lib.hid hAr
        have hown8 := Lib.hid (rowi_empty u8 5)
        have hB8 := (Below.refl u8.heap.size u8).alloc (Nat.le_refl _) (.cells #[] 5)
        have hrb8' := Lib.hid ((hrb8.out.below hB8).mono hB8.size)
        replace hB8 := Lib.hid hB8
        go_wp2_with (first
          | (at_builtin; refine wpList_append_rd _ rfl _ _ 48 rfl u8.heap.size 5 i8 (.int .u8 0) 1 1 Try.underlying48 hi8.out hu0.out hu1.out hu2.out rfl rfl (by decide) _ 0 [] rfl hown8.out .u8 Ab bl cb bs rfl HBL.out hAb.out (by rw [← HBL.out]; exact hcb) hrb8'.out (by unfold maxLen; omega) (by omega) hB8.out.size ?_; intro v' w12 hown' hgrow; rw [Nat.zero_add, List.nil_append] at hown'; obtain ⟨xg, xcap, rfl⟩ := own_addr hown' hbs0; obtain ⟨hx1, hx2, hx3, ⟨y, hy⟩, hfz, hrx⟩ := row_put hown' HBL.out hp cc; replace hown' := Lib.hid hown'; replace hgrow := Lib.hid hgrow; replace hrx := Lib.hid hrx)
          | (go_at_call 24; refine Calls.mono (hAr.out _) ?_; rintro e wz ⟨rfl, hwz⟩; rw [hwz]; clear hwz wz))
        clear hy hfz
        have k12 : Below u8.heap.size u8 (w12.setCell ⟨xg, p, none⟩ (.int .u8 cc)) := (hB8.out.grown hgrow.out hB8.out.size (fun j ej => Nat.le_of_eq (Option.some.inj ej))).setCell (p := ⟨xg, p, none⟩) hx1 _
        have g12 := g8.trans (k12.mono g8.size)
        have hrb12 := Lib.hid ((hrb8.out.below k12).mono k12.size)
        have hxg1 : xg < (w12.setCell ⟨xg, p, none⟩ (.int .u8 cc)).heap.size := by simp [World.setCell]; omega
        clear hrb8 hrb8' hown8 hown' hgrow hB8 k12 g8 hx1 hx2
        generalize (w12.setCell ⟨xg, p, none⟩ (.int .u8 cc)) = v0 at *
        have hraw0 := Lib.hid (show RdI v0 v0.heap.size .u8 A2 rs from ((H2.out.2.2.1.below (hbB.out.trans (g12.mono hbB.out.size))).mono (hbB.out.trans (g12.mono hbB.out.size)).size))
        obtain ⟨z0, hz0⟩ : ∃ z, z = v0.drew := ⟨_, rfl⟩
        have hd : Below v0.heap.size v0 z0 := by rw [hz0]; exact (Below.refl _ _).drew
        replace hz0 := Lib.hid hz0
        obtain ⟨rm, hrm⟩ : ∃ z, z = min len2 40 := ⟨_, rfl⟩
        have hmin := Lib.hid (show (if (40 : Int) < (len2 : Int) then (40 : Int) else (len2 : Int)) = (rm : Int) from by rw [hrm]; split <;> omega)
        have hrmc : (rm : Int) ≤ (c2 : Int) := by have h1 := H2.out.1; have h2 := H2.out.2.2.2.1; omega
        have hrm9 : rm ≤ 40 ∧ rm ≤ len2 := by omega
        have hrm0 : (0 : Int) ≤ (rm : Int) := by omega
        replace hrm := Lib.hid hrm
        replace hrm9 := Lib.hid hrm9
        obtain ⟨q, hq, hAq⟩ := Around_30 a bl HAI.out hbs0 (by omega)
        replace hAq := Lib.hid hAq
        have hqc : (q : Int) ≤ (cb : Int) := by omega
        have hq0 : (0 : Int) ≤ (q : Int) := by omega
        apply cont6 (fun T W y1 y2 y3 y4 => Below v0.heap.size v0 W ∧ Hid (W.heap[T]? = some (.cells #[.slice A2 rm c2, .slice (some ⟨xg, 0, none⟩) bl xcap, .slice Ab q cb, y4] 48 (0, 0))) ∧ T < W.heap.size ∧ Hid (∃ (A : Option Addr) (n c : Nat), y4 = .slice A n c ∧ n = (bs ++ [cc]).length ∧ n ≤ c ∧ (A = none → c = 0) ∧ RdI W W.heap.size .u8 A (bs ++ [cc])))
        case hp =>
          intro hcont
          refine wp_region_held_drew (S := fun _ => True) (by kernel_rfl) (trivial) (fun hHeld => ?_)
          (try simp only [List.size_toArray, List.length_cons, List.length_nil, Nat.zero_add, Nat.reduceAdd])
          refine wpAnyH_takeL (i := 0) (v := ?v48) rfl (by kernel_rfl) (by kernel_rfl) (by kernel_rfl) (fun _ _ _ h => h) (Or.inl ⟨by rfl, ?y48⟩) (by assumption) ?r48
          case y48 => (intro W hSw; (try dsimp only at hSw); go_simp; try with_reducible rfl)
          (try simp only [Act.put, List.setIfInBounds_toArray, List.set_cons_zero, List.set_cons_succ])
          refine wpAnyH_takeL (i := 1) (v := ?v49) rfl (by kernel_rfl) (by kernel_rfl) (by kernel_rfl) (fun _ _ _ h => h) (Or.inl ⟨by rfl, ?y49⟩) (by assumption) ?r49
          case y49 => (intro W hSw; (try dsimp only at hSw); go_simp; try with_reducible rfl)
          (try simp only [Act.put, List.setIfInBounds_toArray, List.set_cons_zero, List.set_cons_succ])
          refine wpAnyH_takeL (i := 2) (v := ?v50) rfl (by kernel_rfl) (by kernel_rfl) (by kernel_rfl) (fun _ _ _ h => h) (Or.inl ⟨by rfl, ?y50⟩) (by assumption) ?r50
          case y50 => (intro W hSw; (try dsimp only at hSw); go_simp; try with_reducible rfl)
          (try simp only [Act.put, List.setIfInBounds_toArray, List.set_cons_zero, List.set_cons_succ])
          refine wpAnyH_takeL (i := 3) (v := .int .i64 (rm : Int)) rfl (by kernel_rfl) (by kernel_rfl) (by kernel_rfl) (fun _ _ _ h => h) (Or.inl ⟨by rfl, ?ym⟩) (by assumption) ?rm
          case ym => (intro W hSw; (try dsimp only at hSw); go_simp; rw [hmin.out])
          (try simp only [Act.put, List.setIfInBounds_toArray, List.set_cons_zero, List.set_cons_succ])
          refine wpAnyH_takeL (i := 4) (v := ?v51) rfl (by kernel_rfl) (by kernel_rfl) (by kernel_rfl) (fun _ _ _ h => h) (Or.inl ⟨by rfl, ?y51⟩) (by assumption) ?r51
          case y51 => (intro W hSw; (try dsimp only at hSw); go_simp; try with_reducible rfl)
          (try simp only [Act.put, List.setIfInBounds_toArray, List.set_cons_zero, List.set_cons_succ])
          refine wpAnyH_takeL (i := 5) (v := ?v52) rfl (by kernel_rfl) (by kernel_rfl) (by kernel_rfl) (fun _ _ _ h => h) (Or.inl ⟨by rfl, ?y52⟩) (by assumption) ?r52
          case y52 => (intro W hSw; (try dsimp only at hSw); go_simp; try with_reducible rfl)
          (try simp only [Act.put, List.setIfInBounds_toArray, List.set_cons_zero, List.set_cons_succ])
          refine wpAnyH_takeL (i := 6) (v := ?v53) rfl (by kernel_rfl) (by kernel_rfl) (by kernel_rfl) (fun _ _ _ h => h) (Or.inl ⟨by rfl, ?y53⟩) (by assumption) ?r53
          case y53 => (intro W hSw; (try dsimp only at hSw); go_simp; try with_reducible rfl)
          (try simp only [Act.put, List.setIfInBounds_toArray, List.set_cons_zero, List.set_cons_succ])
          refine wpAnyH_takeL (i := 7) (v := ?v54) rfl (by kernel_rfl) (by kernel_rfl) (by kernel_rfl) (fun _ _ _ h => h) (Or.inl ⟨by rfl, ?y54⟩) (by assumption) ?r54
          case y54 => (intro W hSw; (try dsimp only at hSw); go_simp; try with_reducible rfl)
          (try simp only [Act.put, List.setIfInBounds_toArray, List.set_cons_zero, List.set_cons_succ])
          refine wpAnyH_takeL (i := 8) (v := ?v55) rfl (by kernel_rfl) (by kernel_rfl) (by kernel_rfl) (fun _ _ _ h => h) (Or.inl ⟨by rfl, ?y55⟩) (by assumption) ?r55
          case y55 => (intro W hSw; (try dsimp only at hSw); go_simp; try with_reducible rfl)
          (try simp only [Act.put, List.setIfInBounds_toArray, List.set_cons_zero, List.set_cons_succ])
          refine wpAnyH_takeL (i := 9) (v := ?v56) rfl (by kernel_rfl) (by kernel_rfl) (by kernel_rfl) (fun _ _ _ h => h) (Or.inl ⟨by rfl, ?y56⟩) (by assumption) ?r56
          case y56 => (intro W hSw; (try dsimp only at hSw); go_simp; try with_reducible rfl)
          (try simp only [Act.put, List.setIfInBounds_toArray, List.set_cons_zero, List.set_cons_succ])
          refine wpAnyH_takeL (i := 13) (v := ?v57) rfl (by kernel_rfl) (by kernel_rfl) (by kernel_rfl) (fun _ _ _ h => h) (Or.inl ⟨by rfl, ?y57⟩) (by assumption) ?r57
          case y57 => (intro W hSw; (try dsimp only at hSw); go_simp; try with_reducible rfl)
          (try simp only [Act.put, List.setIfInBounds_toArray, List.set_cons_zero, List.set_cons_succ])
          refine wpAnyH_takeL (i := 15) (v := ?v58) rfl (by kernel_rfl) (by kernel_rfl) (by kernel_rfl) (fun _ _ _ h => h) (Or.inl ⟨by rfl, ?y58⟩) (by assumption) ?r58
          case y58 => (intro W hSw; (try dsimp only at hSw); go_simp; try with_reducible rfl)
          (try simp only [Act.put, List.setIfInBounds_toArray, List.set_cons_zero, List.set_cons_succ])
          rw [← hz0.out]
          refine wpAnyH_ready (rs := [10, 12, 16]) (by kernel_rfl) (by simp) ?_
          refine consL rfl (fun K hK => ?_) (consL rfl (fun K hK => ?_) (consL rfl (fun K hK => ?_) (AllReadyH.nil)))
          · skip
            go_simp
            refine Calls.mono (hAq.out _) ?_
            rintro e wz ⟨rfl, hwz⟩
            rw [hwz]
            clear hwz wz
            (try dsimp only)
            refine hK.out _ _ trivial (fun hHeld => ?_)
            clear hK K
            (try simp only [Act.put, List.setIfInBounds_toArray, List.set_cons_zero, List.set_cons_succ])
            refine wpAnyH_takeL (i := 11) (v := ?v59) rfl (by kernel_rfl) (by kernel_rfl) (by kernel_rfl) (fun _ _ _ h => h) (Or.inl ⟨by rfl, ?y59⟩) (by assumption) ?r59
            case y59 => (intro W hSw; (try dsimp only at hSw); go_simp; try with_reducible rfl)
            (try simp only [Act.put, List.setIfInBounds_toArray, List.set_cons_zero, List.set_cons_succ])
            refine wpAnyH_ready (rs := [12, 16]) (by kernel_rfl) (by simp) ?_
            refine consL rfl (fun K hK => ?_) (consL rfl (fun K hK => ?_) (AllReadyH.nil))
            · skip
              go_simp
              (try dsimp only)
              refine hK.out _ _ trivial (fun hHeld => ?_)
              clear hK K
              (try simp only [Act.put, List.setIfInBounds_toArray, List.set_cons_zero, List.set_cons_succ])
              have b2 : Below v0.heap.size v0 (z0.alloc (.cells #[] 5)) := hd.alloc hd.size _
              have c2 : Below z0.heap.size z0 (z0.alloc (.cells #[] 5)) := (Below.refl _ _).alloc (Nat.le_refl _) _
              have hown := Lib.hid (own_base (rowi_empty z0 5) hd.size)
              have ha12 : z0.heap.size < (z0.alloc (.cells #[] 5)).heap.size := by simp
              clear c2
              generalize z0.alloc (.cells #[] 5) = z2 at *
              generalize z0.heap.size = a12 at *
              refine wpAnyH_ready (rs := [14, 16]) (by kernel_rfl) (by simp) ?_
              refine consL rfl (fun K hK => ?_) (consL rfl (fun K hK => ?_) (AllReadyH.nil))
              · skip
                refine step_append_rd z2 rfl (.tmp 149) (.tmp 150) 48 rfl v0.heap.size 5 i8 (.int .u8 0) 1 Try.underlying48 hi8.out hu0.out hu1.out hu2.out rfl .u8 _ 0 [] rfl rfl hown.out Ab bl cb bs rfl HBL.out hAb.out (by rw [← HBL.out]; exact hcb) ((hrb12.out.below b2).mono b2.size) (by unfold maxLen; omega) (by omega) b2.size ?_
                intro A14 n14 c14 z3 hn14 hrow14 hg14 hob14
                rw [List.nil_append] at hn14 hrow14
                (try dsimp only)
                refine hK.out _ _ trivial (fun hHeld => ?_)
                clear hK K
                (try simp only [Act.put, List.setIfInBounds_toArray, List.set_cons_zero, List.set_cons_succ])
                have b3 : Below v0.heap.size v0 z3 := b2.grown hg14 b2.size (fun j ej => Nat.le_trans (own_ge hown.out) (Nat.le_of_eq (Option.some.inj ej)))
                have hHn := Lib.hid hn14.out.1
                replace hrow14 := Lib.hid hrow14
                clear hown hg14 hob14 hn14 ha12
                refine wpAnyH_ready (rs := [16]) (by kernel_rfl) (by simp) ?_
                refine consL rfl (fun K hK => ?_) (AllReadyH.nil)
                go_simp
                (try dsimp only)
                refine hK.out _ _ trivial (fun hHeld => ?_)
                clear hK K
                (try simp only [Act.put, List.setIfInBounds_toArray, List.set_cons_zero, List.set_cons_succ])
                have b4 : Below v0.heap.size v0 (z3.alloc (.cells #[.int .u8 cc] 5)) := b3.alloc b3.size _
                have c4 : Below z3.heap.size z3 (z3.alloc (.cells #[.int .u8 cc] 5)) := (Below.refl _ _).alloc (Nat.le_refl _) _
                have hlit := Lib.hid (show RdI (z3.alloc (.cells #[.int .u8 cc] 5)) (z3.alloc (.cells #[.int .u8 cc] 5)).heap.size .u8 (some ⟨z3.heap.size, 0, none⟩) [cc] from lit_one z3 cc)
                have ha16 : z3.heap.size < (z3.alloc (.cells #[.int .u8 cc] 5)).heap.size := by simp
                replace hrow14 := Lib.hid (own_keep hrow14.out c4)
                clear c4
                generalize z3.alloc (.cells #[.int .u8 cc] 5) = z4 at *
                generalize z3.heap.size = a16 at *
                refine wpAnyH_ready (rs := [17]) (by kernel_rfl) (by simp) ?_
                refine consL rfl (fun K hK => ?_) (AllReadyH.nil)
                refine step_append_rd z4 rfl (.tmp 151) (.tmp 153) 48 rfl v0.heap.size 5 i8 (.int .u8 0) 1 Try.underlying48 hi8.out hu0.out hu1.out hu2.out rfl .u8 _ n14 bs hHn.out rfl hrow14.out (some ⟨a16, 0, none⟩) 1 1 [cc] rfl rfl (fun h => nomatch h) (Nat.le_refl _) hlit.out (by have h1 := hHn.out; have h2 := HBL.out; unfold maxLen; omega) (by have h1 := hHn.out; have h2 := HBL.out; omega) b4.size ?_
                intro A17 n17 c17 z5 hn17 hrow17 hg17 hob17
                (try dsimp only)
                refine hK.out _ _ trivial (fun hHeld => ?_)
                clear hK K
                (try simp only [Act.put, List.setIfInBounds_toArray, List.set_cons_zero, List.set_cons_succ])
                have b5 : Below v0.heap.size v0 z5 := b4.grown hg17 b4.size (fun j ej => own_blk_ge hrow14.out j ej)
                have hr17 := Lib.hid (rd_own hrow17)
                clear hrow17 hg17 hob17 hrow14 hlit ha16 hHn
                refine wpAnyH_ready (rs := [18]) (by kernel_rfl) (by simp) ?_
                refine consL rfl (fun K hK => ?_) (AllReadyH.nil)
                go_simp
                (try dsimp only)
                refine hK.out _ _ trivial (fun hHeld => ?_)
                clear hK K
                (try simp only [Act.put, List.setIfInBounds_toArray, List.set_cons_zero, List.set_cons_succ])
                refine wpAnyH_takeL (i := 19) (v := ?v60) rfl (by kernel_rfl) (by kernel_rfl) (by kernel_rfl) (fun _ _ _ h => h) (Or.inl ⟨by rfl, ?y60⟩) (by assumption) ?r60
                case y60 => (intro W hSw; (try dsimp only at hSw); go_simp; try with_reducible rfl)
                (try simp only [Act.put, List.setIfInBounds_toArray, List.set_cons_zero, List.set_cons_succ])
                refine wpAnyH_done (by kernel_rfl) ?_ _
                have b6 : Below v0.heap.size v0 (z5.alloc (.cells #[.slice A2 rm c2, .slice (some ⟨xg, 0, none⟩) bl xcap, .slice Ab q cb, .slice A17 n17 c17] 48)) := b5.alloc b5.size _
                have c6 : Below z5.heap.size z5 (z5.alloc (.cells #[.slice A2 rm c2, .slice (some ⟨xg, 0, none⟩) bl xcap, .slice Ab q cb, .slice A17 n17 c17] 48)) := (Below.refl _ _).alloc (Nat.le_refl _) _
                have hT := Lib.hid (heap_alloc_new z5 (.cells #[.slice A2 rm c2, .slice (some ⟨xg, 0, none⟩) bl xcap, .slice Ab q cb, .slice A17 n17 c17] 48))
                have hTl : z5.heap.size < (z5.alloc (.cells #[.slice A2 rm c2, .slice (some ⟨xg, 0, none⟩) bl xcap, .slice Ab q cb, .slice A17 n17 c17] 48)).heap.size := by simp
                replace hr17 := Lib.hid ((hr17.out.below c6).mono c6.size)
                clear c6
                generalize z5.alloc (.cells #[.slice A2 rm c2, .slice (some ⟨xg, 0, none⟩) bl xcap, .slice Ab q cb, .slice A17 n17 c17] 48) = z6 at *
                generalize z5.heap.size = T at *
                have hy4 := Lib.hid (show ∃ (A : Option Addr) (n c : Nat), Value.slice A17 n17 c17 = .slice A n c ∧ n = (bs ++ [cc]).length ∧ n ≤ c ∧ (A = none → c = 0) ∧ RdI z6 z6.heap.size .u8 A (bs ++ [cc]) from ⟨_, _, _, rfl, hn17.out.1, hn17.out.2.1, hn17.out.2.2, hr17.out⟩)
                clear hn17 hr17
                generalize (Value.slice (some ⟨a12, 0, none⟩) 0 0) = y1 at *
                generalize (Value.slice A14 n14 c14) = y2 at *
                generalize (Value.slice (some ⟨a16, 0, none⟩) 1 1) = y3 at *
                generalize (Value.slice A17 n17 c17) = y4 at *
                exact hcont T z6 y1 y2 y3 y4 ⟨b6, hT, hTl, hy4⟩
              · skip
                go_simp
                (try dsimp only)
                refine hK.out _ _ trivial (fun hHeld => ?_)
                clear hK K
                (try simp only [Act.put, List.setIfInBounds_toArray, List.set_cons_zero, List.set_cons_succ])
                have b7 : Below v0.heap.size v0 (z2.alloc (.cells #[.int .u8 cc] 5)) := b2.alloc b2.size _
                have c7 : Below z2.heap.size z2 (z2.alloc (.cells #[.int .u8 cc] 5)) := (Below.refl _ _).alloc (Nat.le_refl _) _
                have hlit := Lib.hid (show RdI (z2.alloc (.cells #[.int .u8 cc] 5)) (z2.alloc (.cells #[.int .u8 cc] 5)).heap.size .u8 (some ⟨z2.heap.size, 0, none⟩) [cc] from lit_one z2 cc)
                have ha16 : z2.heap.size < (z2.alloc (.cells #[.int .u8 cc] 5)).heap.size := by simp
                replace hown := Lib.hid (own_keep hown.out c7)
                have hne : z2.heap.size ≠ a12 := by omega
                replace ha12 : a12 < (z2.alloc (.cells #[.int .u8 cc] 5)).heap.size := by have := c7.size; omega
                clear c7
                generalize z2.alloc (.cells #[.int .u8 cc] 5) = z7 at *
                generalize z2.heap.size = a16 at *
                refine wpAnyH_ready (rs := [14]) (by kernel_rfl) (by simp) ?_
                refine consL rfl (fun K hK => ?_) (AllReadyH.nil)
                refine step_append_rd z7 rfl (.tmp 149) (.tmp 150) 48 rfl v0.heap.size 5 i8 (.int .u8 0) 1 Try.underlying48 hi8.out hu0.out hu1.out hu2.out rfl .u8 _ 0 [] rfl rfl hown.out Ab bl cb bs rfl HBL.out hAb.out (by rw [← HBL.out]; exact hcb) ((hrb12.out.below b7).mono b7.size) (by unfold maxLen; omega) (by omega) b7.size ?_
                intro A14 n14 c14 z8 hn14 hrow14 hg14 hob14
                rw [List.nil_append] at hn14 hrow14
                (try dsimp only)
                refine hK.out _ _ trivial (fun hHeld => ?_)
                clear hK K
                (try simp only [Act.put, List.setIfInBounds_toArray, List.set_cons_zero, List.set_cons_succ])
                have b8 : Below v0.heap.size v0 z8 := b7.grown hg14 b7.size (fun j ej => Nat.le_trans (own_ge hown.out) (Nat.le_of_eq (Option.some.inj ej)))
                have hHn := Lib.hid hn14.out.1
                replace hrow14 := Lib.hid hrow14
                replace hlit := Lib.hid (lit_far hlit.out hg14 ha16 (fun e => hne (Option.some.inj e).symm))
                replace ha16 : a16 < z8.heap.size := Nat.lt_of_lt_of_le ha16 hg14.size
                clear hown hg14 hob14 hn14 ha12 hne
                refine wpAnyH_ready (rs := [17]) (by kernel_rfl) (by simp) ?_
                refine consL rfl (fun K hK => ?_) (AllReadyH.nil)
                refine step_append_rd z8 rfl (.tmp 151) (.tmp 153) 48 rfl v0.heap.size 5 i8 (.int .u8 0) 1 Try.underlying48 hi8.out hu0.out hu1.out hu2.out rfl .u8 _ n14 bs hHn.out rfl hrow14.out (some ⟨a16, 0, none⟩) 1 1 [cc] rfl rfl (fun h => nomatch h) (Nat.le_refl _) hlit.out (by have h1 := hHn.out; have h2 := HBL.out; unfold maxLen; omega) (by have h1 := hHn.out; have h2 := HBL.out; omega) b8.size ?_
                intro A17 n17 c17 z9 hn17 hrow17 hg17 hob17
                (try dsimp only)
                refine hK.out _ _ trivial (fun hHeld => ?_)
                clear hK K
                (try simp only [Act.put, List.setIfInBounds_toArray, List.set_cons_zero, List.set_cons_succ])
                have b9 : Below v0.heap.size v0 z9 := b8.grown hg17 b8.size (fun j ej => own_blk_ge hrow14.out j ej)
                have hr17 := Lib.hid (rd_own hrow17)
                clear hrow17 hg17 hob17 hrow14 hlit ha16 hHn
                refine wpAnyH_ready (rs := [18]) (by kernel_rfl) (by simp) ?_
                refine consL rfl (fun K hK => ?_) (AllReadyH.nil)
                go_simp
                (try dsimp only)
                refine hK.out _ _ trivial (fun hHeld => ?_)
                clear hK K
                (try simp only [Act.put, List.setIfInBounds_toArray, List.set_cons_zero, List.set_cons_succ])
                refine wpAnyH_takeL (i := 19) (v := ?v61) rfl (by kernel_rfl) (by kernel_rfl) (by kernel_rfl) (fun _ _ _ h => h) (Or.inl ⟨by rfl, ?y61⟩) (by assumption) ?r61
                case y61 => (intro W hSw; (try dsimp only at hSw); go_simp; try with_reducible rfl)
                (try simp only [Act.put, List.setIfInBounds_toArray, List.set_cons_zero, List.set_cons_succ])
                refine wpAnyH_done (by kernel_rfl) ?_ _
                have b10 : Below v0.heap.size v0 (z9.alloc (.cells #[.slice A2 rm c2, .slice (some ⟨xg, 0, none⟩) bl xcap, .slice Ab q cb, .slice A17 n17 c17] 48)) := b9.alloc b9.size _
                have c10 : Below z9.heap.size z9 (z9.alloc (.cells #[.slice A2 rm c2, .slice (some ⟨xg, 0, none⟩) bl xcap, .slice Ab q cb, .slice A17 n17 c17] 48)) := (Below.refl _ _).alloc (Nat.le_refl _) _
                have hT := Lib.hid (heap_alloc_new z9 (.cells #[.slice A2 rm c2, .slice (some ⟨xg, 0, none⟩) bl xcap, .slice Ab q cb, .slice A17 n17 c17] 48))
                have hTl : z9.heap.size < (z9.alloc (.cells #[.slice A2 rm c2, .slice (some ⟨xg, 0, none⟩) bl xcap, .slice Ab q cb, .slice A17 n17 c17] 48)).heap.size := by simp
                replace hr17 := Lib.hid ((hr17.out.below c10).mono c10.size)
                clear c10
                generalize z9.alloc (.cells #[.slice A2 rm c2, .slice (some ⟨xg, 0, none⟩) bl xcap, .slice Ab q cb, .slice A17 n17 c17] 48) = z10 at *
                generalize z9.heap.size = T at *
                have hy4 := Lib.hid (show ∃ (A : Option Addr) (n c : Nat), Value.slice A17 n17 c17 = .slice A n c ∧ n = (bs ++ [cc]).length ∧ n ≤ c ∧ (A = none → c = 0) ∧ RdI z10 z10.heap.size .u8 A (bs ++ [cc]) from ⟨_, _, _, rfl, hn17.out.1, hn17.out.2.1, hn17.out.2.2, hr17.out⟩)
                clear hn17 hr17
                generalize (Value.slice (some ⟨a12, 0, none⟩) 0 0) = y1 at *
                generalize (Value.slice A14 n14 c14) = y2 at *
                generalize (Value.slice (some ⟨a16, 0, none⟩) 1 1) = y3 at *
                generalize (Value.slice A17 n17 c17) = y4 at *
                exact hcont T z10 y1 y2 y3 y4 ⟨b10, hT, hTl, hy4⟩
            · skip
              go_simp
              (try dsimp only)
              refine hK.out _ _ trivial (fun hHeld => ?_)
              clear hK K
              (try simp only [Act.put, List.setIfInBounds_toArray, List.set_cons_zero, List.set_cons_succ])
              have b11 : Below v0.heap.size v0 (z0.alloc (.cells #[.int .u8 cc] 5)) := hd.alloc hd.size _
              have c11 : Below z0.heap.size z0 (z0.alloc (.cells #[.int .u8 cc] 5)) := (Below.refl _ _).alloc (Nat.le_refl _) _
              have hlit := Lib.hid (show RdI (z0.alloc (.cells #[.int .u8 cc] 5)) (z0.alloc (.cells #[.int .u8 cc] 5)).heap.size .u8 (some ⟨z0.heap.size, 0, none⟩) [cc] from lit_one z0 cc)
              have ha16 : z0.heap.size < (z0.alloc (.cells #[.int .u8 cc] 5)).heap.size := by simp
              clear c11
              generalize z0.alloc (.cells #[.int .u8 cc] 5) = z11 at *
              generalize z0.heap.size = a16 at *
              refine wpAnyH_ready (rs := [12]) (by kernel_rfl) (by simp) ?_
              refine consL rfl (fun K hK => ?_) (AllReadyH.nil)
              go_simp
              (try dsimp only)
              refine hK.out _ _ trivial (fun hHeld => ?_)
              clear hK K
              (try simp only [Act.put, List.setIfInBounds_toArray, List.set_cons_zero, List.set_cons_succ])
              have b12 : Below v0.heap.size v0 (z11.alloc (.cells #[] 5)) := b11.alloc b11.size _
              have c12 : Below z11.heap.size z11 (z11.alloc (.cells #[] 5)) := (Below.refl _ _).alloc (Nat.le_refl _) _
              have hown := Lib.hid (own_base (rowi_empty z11 5) b11.size)
              have ha12 : z11.heap.size < (z11.alloc (.cells #[] 5)).heap.size := by simp
              replace hlit := Lib.hid ((hlit.out.below c12).mono c12.size)
              have hne : a16 ≠ z11.heap.size := by omega
              replace ha16 : a16 < (z11.alloc (.cells #[] 5)).heap.size := by have := c12.size; omega
              clear c12
              generalize z11.alloc (.cells #[] 5) = z12 at *
              generalize z11.heap.size = a12 at *
              refine wpAnyH_ready (rs := [14]) (by kernel_rfl) (by simp) ?_
              refine consL rfl (fun K hK => ?_) (AllReadyH.nil)
              refine step_append_rd z12 rfl (.tmp 149) (.tmp 150) 48 rfl v0.heap.size 5 i8 (.int .u8 0) 1 Try.underlying48 hi8.out hu0.out hu1.out hu2.out rfl .u8 _ 0 [] rfl rfl hown.out Ab bl cb bs rfl HBL.out hAb.out (by rw [← HBL.out]; exact hcb) ((hrb12.out.below b12).mono b12.size) (by unfold maxLen; omega) (by omega) b12.size ?_
              intro A14 n14 c14 z13 hn14 hrow14 hg14 hob14
              rw [List.nil_append] at hn14 hrow14
              (try dsimp only)
              refine hK.out _ _ trivial (fun hHeld => ?_)
              clear hK K
              (try simp only [Act.put, List.setIfInBounds_toArray, List.set_cons_zero, List.set_cons_succ])
              have b13 : Below v0.heap.size v0 z13 := b12.grown hg14 b12.size (fun j ej => Nat.le_trans (own_ge hown.out) (Nat.le_of_eq (Option.some.inj ej)))
              have hHn := Lib.hid hn14.out.1
              replace hrow14 := Lib.hid hrow14
              replace hlit := Lib.hid (lit_far hlit.out hg14 ha16 (fun e => hne (Option.some.inj e).symm))
              replace ha16 : a16 < z13.heap.size := Nat.lt_of_lt_of_le ha16 hg14.size
              clear hown hg14 hob14 hn14 ha12 hne
              refine wpAnyH_ready (rs := [17]) (by kernel_rfl) (by simp) ?_
              refine consL rfl (fun K hK => ?_) (AllReadyH.nil)
              refine step_append_rd z13 rfl (.tmp 151) (.tmp 153) 48 rfl v0.heap.size 5 i8 (.int .u8 0) 1 Try.underlying48 hi8.out hu0.out hu1.out hu2.out rfl .u8 _ n14 bs hHn.out rfl hrow14.out (some ⟨a16, 0, none⟩) 1 1 [cc] rfl rfl (fun h => nomatch h) (Nat.le_refl _) hlit.out (by have h1 := hHn.out; have h2 := HBL.out; unfold maxLen; omega) (by have h1 := hHn.out; have h2 := HBL.out; omega) b13.size ?_
              intro A17 n17 c17 z14 hn17 hrow17 hg17 hob17
              (try dsimp only)
              refine hK.out _ _ trivial (fun hHeld => ?_)
              clear hK K
              (try simp only [Act.put, List.setIfInBounds_toArray, List.set_cons_zero, List.set_cons_succ])
              have b14 : Below v0.heap.size v0 z14 := b13.grown hg17 b13.size (fun j ej => own_blk_ge hrow14.out j ej)
              have hr17 := Lib.hid (rd_own hrow17)
              clear hrow17 hg17 hob17 hrow14 hlit ha16 hHn
              refine wpAnyH_ready (rs := [18]) (by kernel_rfl) (by simp) ?_
              refine consL rfl (fun K hK => ?_) (AllReadyH.nil)
              go_simp
              (try dsimp only)
              refine hK.out _ _ trivial (fun hHeld => ?_)
              clear hK K
              (try simp only [Act.put, List.setIfInBounds_toArray, List.set_cons_zero, List.set_cons_succ])
              refine wpAnyH_takeL (i := 19) (v := ?v62) rfl (by kernel_rfl) (by kernel_rfl) (by kernel_rfl) (fun _ _ _ h => h) (Or.inl ⟨by rfl, ?y62⟩) (by assumption) ?r62
              case y62 => (intro W hSw; (try dsimp only at hSw); go_simp; try with_reducible rfl)
              (try simp only [Act.put, List.setIfInBounds_toArray, List.set_cons_zero, List.set_cons_succ])
              refine wpAnyH_done (by kernel_rfl) ?_ _
              have b15 : Below v0.heap.size v0 (z14.alloc (.cells #[.slice A2 rm c2, .slice (some ⟨xg, 0, none⟩) bl xcap, .slice Ab q cb, .slice A17 n17 c17] 48)) := b14.alloc b14.size _
              have c15 : Below z14.heap.size z14 (z14.alloc (.cells #[.slice A2 rm c2, .slice (some ⟨xg, 0, none⟩) bl xcap, .slice Ab q cb, .slice A17 n17 c17] 48)) := (Below.refl _ _).alloc (Nat.le_refl _) _
              have hT := Lib.hid (heap_alloc_new z14 (.cells #[.slice A2 rm c2, .slice (some ⟨xg, 0, none⟩) bl xcap, .slice Ab q cb, .slice A17 n17 c17] 48))
              have hTl : z14.heap.size < (z14.alloc (.cells #[.slice A2 rm c2, .slice (some ⟨xg, 0, none⟩) bl xcap, .slice Ab q cb, .slice A17 n17 c17] 48)).heap.size := by simp
              replace hr17 := Lib.hid ((hr17.out.below c15).mono c15.size)
              clear c15
              generalize z14.alloc (.cells #[.slice A2 rm c2, .slice (some ⟨xg, 0, none⟩) bl xcap, .slice Ab q cb, .slice A17 n17 c17] 48) = z15 at *
              generalize z14.heap.size = T at *
              have hy4 := Lib.hid (show ∃ (A : Option Addr) (n c : Nat), Value.slice A17 n17 c17 = .slice A n c ∧ n = (bs ++ [cc]).length ∧ n ≤ c ∧ (A = none → c = 0) ∧ RdI z15 z15.heap.size .u8 A (bs ++ [cc]) from ⟨_, _, _, rfl, hn17.out.1, hn17.out.2.1, hn17.out.2.2, hr17.out⟩)
              clear hn17 hr17
              generalize (Value.slice (some ⟨a12, 0, none⟩) 0 0) = y1 at *
              generalize (Value.slice A14 n14 c14) = y2 at *
              generalize (Value.slice (some ⟨a16, 0, none⟩) 1 1) = y3 at *
              generalize (Value.slice A17 n17 c17) = y4 at *
              exact hcont T z15 y1 y2 y3 y4 ⟨b15, hT, hTl, hy4⟩
          · skip
            go_simp
            (try dsimp only)
            refine hK.out _ _ trivial (fun hHeld => ?_)
            clear hK K
            (try simp only [Act.put, List.setIfInBounds_toArray, List.set_cons_zero, List.set_cons_succ])
            have b16 : Below v0.heap.size v0 (z0.alloc (.cells #[] 5)) := hd.alloc hd.size _
            have c16 : Below z0.heap.size z0 (z0.alloc (.cells #[] 5)) := (Below.refl _ _).alloc (Nat.le_refl _) _
            have hown := Lib.hid (own_base (rowi_empty z0 5) hd.size)
            have ha12 : z0.heap.size < (z0.alloc (.cells #[] 5)).heap.size := by simp
            clear c16
            generalize z0.alloc (.cells #[] 5) = z16 at *
            generalize z0.heap.size = a12 at *
            refine wpAnyH_ready (rs := [10, 16]) (by kernel_rfl) (by simp) ?_
            refine consL rfl (fun K hK => ?_) (consL rfl (fun K hK => ?_) (AllReadyH.nil))
            · skip
              go_simp
              refine Calls.mono (hAq.out _) ?_
              rintro e wz ⟨rfl, hwz⟩
              rw [hwz]
              clear hwz wz
              (try dsimp only)
              refine hK.out _ _ trivial (fun hHeld => ?_)
              clear hK K
              (try simp only [Act.put, List.setIfInBounds_toArray, List.set_cons_zero, List.set_cons_succ])
              refine wpAnyH_takeL (i := 11) (v := ?v63) rfl (by kernel_rfl) (by kernel_rfl) (by kernel_rfl) (fun _ _ _ h => h) (Or.inl ⟨by rfl, ?y63⟩) (by assumption) ?r63
              case y63 => (intro W hSw; (try dsimp only at hSw); go_simp; try with_reducible rfl)
              (try simp only [Act.put, List.setIfInBounds_toArray, List.set_cons_zero, List.set_cons_succ])
              refine wpAnyH_ready (rs := [14, 16]) (by kernel_rfl) (by simp) ?_
              refine consL rfl (fun K hK => ?_) (consL rfl (fun K hK => ?_) (AllReadyH.nil))
              · skip
                refine step_append_rd z16 rfl (.tmp 149) (.tmp 150) 48 rfl v0.heap.size 5 i8 (.int .u8 0) 1 Try.underlying48 hi8.out hu0.out hu1.out hu2.out rfl .u8 _ 0 [] rfl rfl hown.out Ab bl cb bs rfl HBL.out hAb.out (by rw [← HBL.out]; exact hcb) ((hrb12.out.below b16).mono b16.size) (by unfold maxLen; omega) (by omega) b16.size ?_
                intro A14 n14 c14 z18 hn14 hrow14 hg14 hob14
                rw [List.nil_append] at hn14 hrow14
                (try dsimp only)
                refine hK.out _ _ trivial (fun hHeld => ?_)
                clear hK K
                (try simp only [Act.put, List.setIfInBounds_toArray, List.set_cons_zero, List.set_cons_succ])
                have b18 : Below v0.heap.size v0 z18 := b16.grown hg14 b16.size (fun j ej => Nat.le_trans (own_ge hown.out) (Nat.le_of_eq (Option.some.inj ej)))
                have hHn := Lib.hid hn14.out.1
                replace hrow14 := Lib.hid hrow14
                clear hown hg14 hob14 hn14 ha12
                refine wpAnyH_ready (rs := [16]) (by kernel_rfl) (by simp) ?_
                refine consL rfl (fun K hK => ?_) (AllReadyH.nil)
                go_simp
                (try dsimp only)
                refine hK.out _ _ trivial (fun hHeld => ?_)
                clear hK K
                (try simp only [Act.put, List.setIfInBounds_toArray, List.set_cons_zero, List.set_cons_succ])
                have b19 : Below v0.heap.size v0 (z18.alloc (.cells #[.int .u8 cc] 5)) := b18.alloc b18.size _
                have c19 : Below z18.heap.size z18 (z18.alloc (.cells #[.int .u8 cc] 5)) := (Below.refl _ _).alloc (Nat.le_refl _) _
                have hlit := Lib.hid (show RdI (z18.alloc (.cells #[.int .u8 cc] 5)) (z18.alloc (.cells #[.int .u8 cc] 5)).heap.size .u8 (some ⟨z18.heap.size, 0, none⟩) [cc] from lit_one z18 cc)
                have ha16 : z18.heap.size < (z18.alloc (.cells #[.int .u8 cc] 5)).heap.size := by simp
                replace hrow14 := Lib.hid (own_keep hrow14.out c19)
                clear c19
                generalize z18.alloc (.cells #[.int .u8 cc] 5) = z19 at *
                generalize z18.heap.size = a16 at *
                refine wpAnyH_ready (rs := [17]) (by kernel_rfl) (by simp) ?_
                refine consL rfl (fun K hK => ?_) (AllReadyH.nil)
                refine step_append_rd z19 rfl (.tmp 151) (.tmp 153) 48 rfl v0.heap.size 5 i8 (.int .u8 0) 1 Try.underlying48 hi8.out hu0.out hu1.out hu2.out rfl .u8 _ n14 bs hHn.out rfl hrow14.out (some ⟨a16, 0, none⟩) 1 1 [cc] rfl rfl (fun h => nomatch h) (Nat.le_refl _) hlit.out (by have h1 := hHn.out; have h2 := HBL.out; unfold maxLen; omega) (by have h1 := hHn.out; have h2 := HBL.out; omega) b19.size ?_
                intro A17 n17 c17 z20 hn17 hrow17 hg17 hob17
                (try dsimp only)
                refine hK.out _ _ trivial (fun hHeld => ?_)
                clear hK K
                (try simp only [Act.put, List.setIfInBounds_toArray, List.set_cons_zero, List.set_cons_succ])
                have b20 : Below v0.heap.size v0 z20 := b19.grown hg17 b19.size (fun j ej => own_blk_ge hrow14.out j ej)
                have hr17 := Lib.hid (rd_own hrow17)
                clear hrow17 hg17 hob17 hrow14 hlit ha16 hHn
                refine wpAnyH_ready (rs := [18]) (by kernel_rfl) (by simp) ?_
                refine consL rfl (fun K hK => ?_) (AllReadyH.nil)
                go_simp
                (try dsimp only)
                refine hK.out _ _ trivial (fun hHeld => ?_)
                clear hK K
                (try simp only [Act.put, List.setIfInBounds_toArray, List.set_cons_zero, List.set_cons_succ])
                refine wpAnyH_takeL (i := 19) (v := ?v64) rfl (by kernel_rfl) (by kernel_rfl) (by kernel_rfl) (fun _ _ _ h => h) (Or.inl ⟨by rfl, ?y64⟩) (by assumption) ?r64
                case y64 => (intro W hSw; (try dsimp only at hSw); go_simp; try with_reducible rfl)
                (try simp only [Act.put, List.setIfInBounds_toArray, List.set_cons_zero, List.set_cons_succ])
                refine wpAnyH_done (by kernel_rfl) ?_ _
                have b21 : Below v0.heap.size v0 (z20.alloc (.cells #[.slice A2 rm c2, .slice (some ⟨xg, 0, none⟩) bl xcap, .slice Ab q cb, .slice A17 n17 c17] 48)) := b20.alloc b20.size _
                have c21 : Below z20.heap.size z20 (z20.alloc (.cells #[.slice A2 rm c2, .slice (some ⟨xg, 0, none⟩) bl xcap, .slice Ab q cb, .slice A17 n17 c17] 48)) := (Below.refl _ _).alloc (Nat.le_refl _) _
                have hT := Lib.hid (heap_alloc_new z20 (.cells #[.slice A2 rm c2, .slice (some ⟨xg, 0, none⟩) bl xcap, .slice Ab q cb, .slice A17 n17 c17] 48))
                have hTl : z20.heap.size < (z20.alloc (.cells #[.slice A2 rm c2, .slice (some ⟨xg, 0, none⟩) bl xcap, .slice Ab q cb, .slice A17 n17 c17] 48)).heap.size := by simp
                replace hr17 := Lib.hid ((hr17.out.below c21).mono c21.size)
                clear c21
                generalize z20.alloc (.cells #[.slice A2 rm c2, .slice (some ⟨xg, 0, none⟩) bl xcap, .slice Ab q cb, .slice A17 n17 c17] 48) = z21 at *
                generalize z20.heap.size = T at *
                have hy4 := Lib.hid (show ∃ (A : Option Addr) (n c : Nat), Value.slice A17 n17 c17 = .slice A n c ∧ n = (bs ++ [cc]).length ∧ n ≤ c ∧ (A = none → c = 0) ∧ RdI z21 z21.heap.size .u8 A (bs ++ [cc]) from ⟨_, _, _, rfl, hn17.out.1, hn17.out.2.1, hn17.out.2.2, hr17.out⟩)
                clear hn17 hr17
                generalize (Value.slice (some ⟨a12, 0, none⟩) 0 0) = y1 at *
                generalize (Value.slice A14 n14 c14) = y2 at *
                generalize (Value.slice (some ⟨a16, 0, none⟩) 1 1) = y3 at *
                generalize (Value.slice A17 n17 c17) = y4 at *
                exact hcont T z21 y1 y2 y3 y4 ⟨b21, hT, hTl, hy4⟩
              · skip
                go_simp
                (try dsimp only)
                refine hK.out _ _ trivial (fun hHeld => ?_)
                clear hK K
                (try simp only [Act.put, List.setIfInBounds_toArray, List.set_cons_zero, List.set_cons_succ])
                have b22 : Below v0.heap.size v0 (z16.alloc (.cells #[.int .u8 cc] 5)) := b16.alloc b16.size _
                have c22 : Below z16.heap.size z16 (z16.alloc (.cells #[.int .u8 cc] 5)) := (Below.refl _ _).alloc (Nat.le_refl _) _
                have hlit := Lib.hid (show RdI (z16.alloc (.cells #[.int .u8 cc] 5)) (z16.alloc (.cells #[.int .u8 cc] 5)).heap.size .u8 (some ⟨z16.heap.size, 0, none⟩) [cc] from lit_one z16 cc)
                have ha16 : z16.heap.size < (z16.alloc (.cells #[.int .u8 cc] 5)).heap.size := by simp
                replace hown := Lib.hid (own_keep hown.out c22)
                have hne : z16.heap.size ≠ a12 := by omega
                replace ha12 : a12 < (z16.alloc (.cells #[.int .u8 cc] 5)).heap.size := by have := c22.size; omega
                clear c22
                generalize z16.alloc (.cells #[.int .u8 cc] 5) = z22 at *
                generalize z16.heap.size = a16 at *
                refine wpAnyH_ready (rs := [14]) (by kernel_rfl) (by simp) ?_
                refine consL rfl (fun K hK => ?_) (AllReadyH.nil)
                refine step_append_rd z22 rfl (.tmp 149) (.tmp 150) 48 rfl v0.heap.size 5 i8 (.int .u8 0) 1 Try.underlying48 hi8.out hu0.out hu1.out hu2.out rfl .u8 _ 0 [] rfl rfl hown.out Ab bl cb bs rfl HBL.out hAb.out (by rw [← HBL.out]; exact hcb) ((hrb12.out.below b22).mono b22.size) (by unfold maxLen; omega) (by omega) b22.size ?_
                intro A14 n14 c14 z23 hn14 hrow14 hg14 hob14
                rw [List.nil_append] at hn14 hrow14
                (try dsimp only)
                refine hK.out _ _ trivial (fun hHeld => ?_)
                clear hK K
                (try simp only [Act.put, List.setIfInBounds_toArray, List.set_cons_zero, List.set_cons_succ])
                have b23 : Below v0.heap.size v0 z23 := b22.grown hg14 b22.size (fun j ej => Nat.le_trans (own_ge hown.out) (Nat.le_of_eq (Option.some.inj ej)))
                have hHn := Lib.hid hn14.out.1
                replace hrow14 := Lib.hid hrow14
                replace hlit := Lib.hid (lit_far hlit.out hg14 ha16 (fun e => hne (Option.some.inj e).symm))
                replace ha16 : a16 < z23.heap.size := Nat.lt_of_lt_of_le ha16 hg14.size
                clear hown hg14 hob14 hn14 ha12 hne
                refine wpAnyH_ready (rs := [17]) (by kernel_rfl) (by simp) ?_
                refine consL rfl (fun K hK => ?_) (AllReadyH.nil)
                refine step_append_rd z23 rfl (.tmp 151) (.tmp 153) 48 rfl v0.heap.size 5 i8 (.int .u8 0) 1 Try.underlying48 hi8.out hu0.out hu1.out hu2.out rfl .u8 _ n14 bs hHn.out rfl hrow14.out (some ⟨a16, 0, none⟩) 1 1 [cc] rfl rfl (fun h => nomatch h) (Nat.le_refl _) hlit.out (by have h1 := hHn.out; have h2 := HBL.out; unfold maxLen; omega) (by have h1 := hHn.out; have h2 := HBL.out; omega) b23.size ?_
                intro A17 n17 c17 z24 hn17 hrow17 hg17 hob17
                (try dsimp only)
                refine hK.out _ _ trivial (fun hHeld => ?_)
                clear hK K
                (try simp only [Act.put, List.setIfInBounds_toArray, List.set_cons_zero, List.set_cons_succ])
                have b24 : Below v0.heap.size v0 z24 := b23.grown hg17 b23.size (fun j ej => own_blk_ge hrow14.out j ej)
                have hr17 := Lib.hid (rd_own hrow17)
                clear hrow17 hg17 hob17 hrow14 hlit ha16 hHn
                refine wpAnyH_ready (rs := [18]) (by kernel_rfl) (by simp) ?_
                refine consL rfl (fun K hK => ?_) (AllReadyH.nil)
                go_simp
                (try dsimp only)
                refine hK.out _ _ trivial (fun hHeld => ?_)
                clear hK K
                (try simp only [Act.put, List.setIfInBounds_toArray, List.set_cons_zero, List.set_cons_succ])
                refine wpAnyH_takeL (i := 19) (v := ?v65) rfl (by kernel_rfl) (by kernel_rfl) (by kernel_rfl) (fun _ _ _ h => h) (Or.inl ⟨by rfl, ?y65⟩) (by assumption) ?r65
                case y65 => (intro W hSw; (try dsimp only at hSw); go_simp; try with_reducible rfl)
                (try simp only [Act.put, List.setIfInBounds_toArray, List.set_cons_zero, List.set_cons_succ])
                refine wpAnyH_done (by kernel_rfl) ?_ _
                have b25 : Below v0.heap.size v0 (z24.alloc (.cells #[.slice A2 rm c2, .slice (some ⟨xg, 0, none⟩) bl xcap, .slice Ab q cb, .slice A17 n17 c17] 48)) := b24.alloc b24.size _
                have c25 : Below z24.heap.size z24 (z24.alloc (.cells #[.slice A2 rm c2, .slice (some ⟨xg, 0, none⟩) bl xcap, .slice Ab q cb, .slice A17 n17 c17] 48)) := (Below.refl _ _).alloc (Nat.le_refl _) _
                have hT := Lib.hid (heap_alloc_new z24 (.cells #[.slice A2 rm c2, .slice (some ⟨xg, 0, none⟩) bl xcap, .slice Ab q cb, .slice A17 n17 c17] 48))
                have hTl : z24.heap.size < (z24.alloc (.cells #[.slice A2 rm c2, .slice (some ⟨xg, 0, none⟩) bl xcap, .slice Ab q cb, .slice A17 n17 c17] 48)).heap.size := by simp
                replace hr17 := Lib.hid ((hr17.out.below c25).mono c25.size)
                clear c25
                generalize z24.alloc (.cells #[.slice A2 rm c2, .slice (some ⟨xg, 0, none⟩) bl xcap, .slice Ab q cb, .slice A17 n17 c17] 48) = z25 at *
                generalize z24.heap.size = T at *
                have hy4 := Lib.hid (show ∃ (A : Option Addr) (n c : Nat), Value.slice A17 n17 c17 = .slice A n c ∧ n = (bs ++ [cc]).length ∧ n ≤ c ∧ (A = none → c = 0) ∧ RdI z25 z25.heap.size .u8 A (bs ++ [cc]) from ⟨_, _, _, rfl, hn17.out.1, hn17.out.2.1, hn17.out.2.2, hr17.out⟩)
                clear hn17 hr17
                generalize (Value.slice (some ⟨a12, 0, none⟩) 0 0) = y1 at *
                generalize (Value.slice A14 n14 c14) = y2 at *
                generalize (Value.slice (some ⟨a16, 0, none⟩) 1 1) = y3 at *
                generalize (Value.slice A17 n17 c17) = y4 at *
                exact hcont T z25 y1 y2 y3 y4 ⟨b25, hT, hTl, hy4⟩
            · skip
              go_simp
              (try dsimp only)
              refine hK.out _ _ trivial (fun hHeld => ?_)
              clear hK K
              (try simp only [Act.put, List.setIfInBounds_toArray, List.set_cons_zero, List.set_cons_succ])
              have b26 : Below v0.heap.size v0 (z16.alloc (.cells #[.int .u8 cc] 5)) := b16.alloc b16.size _
              have c26 : Below z16.heap.size z16 (z16.alloc (.cells #[.int .u8 cc] 5)) := (Below.refl _ _).alloc (Nat.le_refl _) _
              have hlit := Lib.hid (show RdI (z16.alloc (.cells #[.int .u8 cc] 5)) (z16.alloc (.cells #[.int .u8 cc] 5)).heap.size .u8 (some ⟨z16.heap.size, 0, none⟩) [cc] from lit_one z16 cc)
              have ha16 : z16.heap.size < (z16.alloc (.cells #[.int .u8 cc] 5)).heap.size := by simp
              replace hown := Lib.hid (own_keep hown.out c26)
              have hne : z16.heap.size ≠ a12 := by omega
              replace ha12 : a12 < (z16.alloc (.cells #[.int .u8 cc] 5)).heap.size := by have := c26.size; omega
              clear c26
              generalize z16.alloc (.cells #[.int .u8 cc] 5) = z26 at *
              generalize z16.heap.size = a16 at *
              refine wpAnyH_ready (rs := [10]) (by kernel_rfl) (by simp) ?_
              refine consL rfl (fun K hK => ?_) (AllReadyH.nil)
              go_simp
              refine Calls.mono (hAq.out _) ?_
              rintro e wz ⟨rfl, hwz⟩
              rw [hwz]
              clear hwz wz
              (try dsimp only)
              refine hK.out _ _ trivial (fun hHeld => ?_)
              clear hK K
              (try simp only [Act.put, List.setIfInBounds_toArray, List.set_cons_zero, List.set_cons_succ])
              refine wpAnyH_takeL (i := 11) (v := ?v66) rfl (by kernel_rfl) (by kernel_rfl) (by kernel_rfl) (fun _ _ _ h => h) (Or.inl ⟨by rfl, ?y66⟩) (by assumption) ?r66
              case y66 => (intro W hSw; (try dsimp only at hSw); go_simp; try with_reducible rfl)
              (try simp only [Act.put, List.setIfInBounds_toArray, List.set_cons_zero, List.set_cons_succ])
              refine wpAnyH_ready (rs := [14]) (by kernel_rfl) (by simp) ?_
              refine consL rfl (fun K hK => ?_) (AllReadyH.nil)
              refine step_append_rd z26 rfl (.tmp 149) (.tmp 150) 48 rfl v0.heap.size 5 i8 (.int .u8 0) 1 Try.underlying48 hi8.out hu0.out hu1.out hu2.out rfl .u8 _ 0 [] rfl rfl hown.out Ab bl cb bs rfl HBL.out hAb.out (by rw [← HBL.out]; exact hcb) ((hrb12.out.below b26).mono b26.size) (by unfold maxLen; omega) (by omega) b26.size ?_
              intro A14 n14 c14 z28 hn14 hrow14 hg14 hob14
              rw [List.nil_append] at hn14 hrow14
              (try dsimp only)
              refine hK.out _ _ trivial (fun hHeld => ?_)
              clear hK K
              (try simp only [Act.put, List.setIfInBounds_toArray, List.set_cons_zero, List.set_cons_succ])
              have b28 : Below v0.heap.size v0 z28 := b26.grown hg14 b26.size (fun j ej => Nat.le_trans (own_ge hown.out) (Nat.le_of_eq (Option.some.inj ej)))
              have hHn := Lib.hid hn14.out.1
              replace hrow14 := Lib.hid hrow14
              replace hlit := Lib.hid (lit_far hlit.out hg14 ha16 (fun e => hne (Option.some.inj e).symm))
              replace ha16 : a16 < z28.heap.size := Nat.lt_of_lt_of_le ha16 hg14.size
              clear hown hg14 hob14 hn14 ha12 hne
              refine wpAnyH_ready (rs := [17]) (by kernel_rfl) (by simp) ?_
              refine consL rfl (fun K hK => ?_) (AllReadyH.nil)
              refine step_append_rd z28 rfl (.tmp 151) (.tmp 153) 48 rfl v0.heap.size 5 i8 (.int .u8 0) 1 Try.underlying48 hi8.out hu0.out hu1.out hu2.out rfl .u8 _ n14 bs hHn.out rfl hrow14.out (some ⟨a16, 0, none⟩) 1 1 [cc] rfl rfl (fun h => nomatch h) (Nat.le_refl _) hlit.out (by have h1 := hHn.out; have h2 := HBL.out; unfold maxLen; omega) (by have h1 := hHn.out; have h2 := HBL.out; omega) b28.size ?_
              intro A17 n17 c17 z29 hn17 hrow17 hg17 hob17
              (try dsimp only)
              refine hK.out _ _ trivial (fun hHeld => ?_)
              clear hK K
              (try simp only [Act.put, List.setIfInBounds_toArray, List.set_cons_zero, List.set_cons_succ])
              have b29 : Below v0.heap.size v0 z29 := b28.grown hg17 b28.size (fun j ej => own_blk_ge hrow14.out j ej)
              have hr17 := Lib.hid (rd_own hrow17)
              clear hrow17 hg17 hob17 hrow14 hlit ha16 hHn
              refine wpAnyH_ready (rs := [18]) (by kernel_rfl) (by simp) ?_
              refine consL rfl (fun K hK => ?_) (AllReadyH.nil)
              go_simp
              (try dsimp only)
              refine hK.out _ _ trivial (fun hHeld => ?_)
              clear hK K
              (try simp only [Act.put, List.setIfInBounds_toArray, List.set_cons_zero, List.set_cons_succ])
              refine wpAnyH_takeL (i := 19) (v := ?v67) rfl (by kernel_rfl) (by kernel_rfl) (by kernel_rfl) (fun _ _ _ h => h) (Or.inl ⟨by rfl, ?y67⟩) (by assumption) ?r67
              case y67 => (intro W hSw; (try dsimp only at hSw); go_simp; try with_reducible rfl)
              (try simp only [Act.put, List.setIfInBounds_toArray, List.set_cons_zero, List.set_cons_succ])
              refine wpAnyH_done (by kernel_rfl) ?_ _
              have b30 : Below v0.heap.size v0 (z29.alloc (.cells #[.slice A2 rm c2, .slice (some ⟨xg, 0, none⟩) bl xcap, .slice Ab q cb, .slice A17 n17 c17] 48)) := b29.alloc b29.size _
              have c30 : Below z29.heap.size z29 (z29.alloc (.cells #[.slice A2 rm c2, .slice (some ⟨xg, 0, none⟩) bl xcap, .slice Ab q cb, .slice A17 n17 c17] 48)) := (Below.refl _ _).alloc (Nat.le_refl _) _
              have hT := Lib.hid (heap_alloc_new z29 (.cells #[.slice A2 rm c2, .slice (some ⟨xg, 0, none⟩) bl xcap, .slice Ab q cb, .slice A17 n17 c17] 48))
              have hTl : z29.heap.size < (z29.alloc (.cells #[.slice A2 rm c2, .slice (some ⟨xg, 0, none⟩) bl xcap, .slice Ab q cb, .slice A17 n17 c17] 48)).heap.size := by simp
              replace hr17 := Lib.hid ((hr17.out.below c30).mono c30.size)
              clear c30
              generalize z29.alloc (.cells #[.slice A2 rm c2, .slice (some ⟨xg, 0, none⟩) bl xcap, .slice Ab q cb, .slice A17 n17 c17] 48) = z30 at *
              generalize z29.heap.size = T at *
              have hy4 := Lib.hid (show ∃ (A : Option Addr) (n c : Nat), Value.slice A17 n17 c17 = .slice A n c ∧ n = (bs ++ [cc]).length ∧ n ≤ c ∧ (A = none → c = 0) ∧ RdI z30 z30.heap.size .u8 A (bs ++ [cc]) from ⟨_, _, _, rfl, hn17.out.1, hn17.out.2.1, hn17.out.2.2, hr17.out⟩)
              clear hn17 hr17
              generalize (Value.slice (some ⟨a12, 0, none⟩) 0 0) = y1 at *
              generalize (Value.slice A14 n14 c14) = y2 at *
              generalize (Value.slice (some ⟨a16, 0, none⟩) 1 1) = y3 at *
              generalize (Value.slice A17 n17 c17) = y4 at *
              exact hcont T z30 y1 y2 y3 y4 ⟨b30, hT, hTl, hy4⟩
          · skip
            go_simp
            (try dsimp only)
            refine hK.out _ _ trivial (fun hHeld => ?_)
            clear hK K
            (try simp only [Act.put, List.setIfInBounds_toArray, List.set_cons_zero, List.set_cons_succ])
            have b31 : Below v0.heap.size v0 (z0.alloc (.cells #[.int .u8 cc] 5)) := hd.alloc hd.size _
            have c31 : Below z0.heap.size z0 (z0.alloc (.cells #[.int .u8 cc] 5)) := (Below.refl _ _).alloc (Nat.le_refl _) _
            have hlit := Lib.hid (show RdI (z0.alloc (.cells #[.int .u8 cc] 5)) (z0.alloc (.cells #[.int .u8 cc] 5)).heap.size .u8 (some ⟨z0.heap.size, 0, none⟩) [cc] from lit_one z0 cc)
            have ha16 : z0.heap.size < (z0.alloc (.cells #[.int .u8 cc] 5)).heap.size := by simp
            clear c31
            generalize z0.alloc (.cells #[.int .u8 cc] 5) = z31 at *
            generalize z0.heap.size = a16 at *
            refine wpAnyH_ready (rs := [10, 12]) (by kernel_rfl) (by simp) ?_
            refine consL rfl (fun K hK => ?_) (consL rfl (fun K hK => ?_) (AllReadyH.nil))
            · skip
              go_simp
              refine Calls.mono (hAq.out _) ?_
              rintro e wz ⟨rfl, hwz⟩
              rw [hwz]
              clear hwz wz
              (try dsimp only)
              refine hK.out _ _ trivial (fun hHeld => ?_)
              clear hK K
              (try simp only [Act.put, List.setIfInBounds_toArray, List.set_cons_zero, List.set_cons_succ])
              refine wpAnyH_takeL (i := 11) (v := ?v68) rfl (by kernel_rfl) (by kernel_rfl) (by kernel_rfl) (fun _ _ _ h => h) (Or.inl ⟨by rfl, ?y68⟩) (by assumption) ?r68
              case y68 => (intro W hSw; (try dsimp only at hSw); go_simp; try with_reducible rfl)
              (try simp only [Act.put, List.setIfInBounds_toArray, List.set_cons_zero, List.set_cons_succ])
              refine wpAnyH_ready (rs := [12]) (by kernel_rfl) (by simp) ?_
              refine consL rfl (fun K hK => ?_) (AllReadyH.nil)
              go_simp
              (try dsimp only)
              refine hK.out _ _ trivial (fun hHeld => ?_)
              clear hK K
              (try simp only [Act.put, List.setIfInBounds_toArray, List.set_cons_zero, List.set_cons_succ])
              have b33 : Below v0.heap.size v0 (z31.alloc (.cells #[] 5)) := b31.alloc b31.size _
              have c33 : Below z31.heap.size z31 (z31.alloc (.cells #[] 5)) := (Below.refl _ _).alloc (Nat.le_refl _) _
              have hown := Lib.hid (own_base (rowi_empty z31 5) b31.size)
              have ha12 : z31.heap.size < (z31.alloc (.cells #[] 5)).heap.size := by simp
              replace hlit := Lib.hid ((hlit.out.below c33).mono c33.size)
              have hne : a16 ≠ z31.heap.size := by omega
              replace ha16 : a16 < (z31.alloc (.cells #[] 5)).heap.size := by have := c33.size; omega
              clear c33
              generalize z31.alloc (.cells #[] 5) = z33 at *
              generalize z31.heap.size = a12 at *
              refine wpAnyH_ready (rs := [14]) (by kernel_rfl) (by simp) ?_
              refine consL rfl (fun K hK => ?_) (AllReadyH.nil)
              refine step_append_rd z33 rfl (.tmp 149) (.tmp 150) 48 rfl v0.heap.size 5 i8 (.int .u8 0) 1 Try.underlying48 hi8.out hu0.out hu1.out hu2.out rfl .u8 _ 0 [] rfl rfl hown.out Ab bl cb bs rfl HBL.out hAb.out (by rw [← HBL.out]; exact hcb) ((hrb12.out.below b33).mono b33.size) (by unfold maxLen; omega) (by omega) b33.size ?_
              intro A14 n14 c14 z34 hn14 hrow14 hg14 hob14
              rw [List.nil_append] at hn14 hrow14
              (try dsimp only)
              refine hK.out _ _ trivial (fun hHeld => ?_)
              clear hK K
              (try simp only [Act.put, List.setIfInBounds_toArray, List.set_cons_zero, List.set_cons_succ])
              have b34 : Below v0.heap.size v0 z34 := b33.grown hg14 b33.size (fun j ej => Nat.le_trans (own_ge hown.out) (Nat.le_of_eq (Option.some.inj ej)))
              have hHn := Lib.hid hn14.out.1
              replace hrow14 := Lib.hid hrow14
              replace hlit := Lib.hid (lit_far hlit.out hg14 ha16 (fun e => hne (Option.some.inj e).symm))
              replace ha16 : a16 < z34.heap.size := Nat.lt_of_lt_of_le ha16 hg14.size
              clear hown hg14 hob14 hn14 ha12 hne
              refine wpAnyH_ready (rs := [17]) (by kernel_rfl) (by simp) ?_
              refine consL rfl (fun K hK => ?_) (AllReadyH.nil)
              refine step_append_rd z34 rfl (.tmp 151) (.tmp 153) 48 rfl v0.heap.size 5 i8 (.int .u8 0) 1 Try.underlying48 hi8.out hu0.out hu1.out hu2.out rfl .u8 _ n14 bs hHn.out rfl hrow14.out (some ⟨a16, 0, none⟩) 1 1 [cc] rfl rfl (fun h => nomatch h) (Nat.le_refl _) hlit.out (by have h1 := hHn.out; have h2 := HBL.out; unfold maxLen; omega) (by have h1 := hHn.out; have h2 := HBL.out; omega) b34.size ?_
              intro A17 n17 c17 z35 hn17 hrow17 hg17 hob17
              (try dsimp only)
              refine hK.out _ _ trivial (fun hHeld => ?_)
              clear hK K
              (try simp only [Act.put, List.setIfInBounds_toArray, List.set_cons_zero, List.set_cons_succ])
              have b35 : Below v0.heap.size v0 z35 := b34.grown hg17 b34.size (fun j ej => own_blk_ge hrow14.out j ej)
              have hr17 := Lib.hid (rd_own hrow17)
              clear hrow17 hg17 hob17 hrow14 hlit ha16 hHn
              refine wpAnyH_ready (rs := [18]) (by kernel_rfl) (by simp) ?_
              refine consL rfl (fun K hK => ?_) (AllReadyH.nil)
              go_simp
              (try dsimp only)
              refine hK.out _ _ trivial (fun hHeld => ?_)
              clear hK K
              (try simp only [Act.put, List.setIfInBounds_toArray, List.set_cons_zero, List.set_cons_succ])
              refine wpAnyH_takeL (i := 19) (v := ?v69) rfl (by kernel_rfl) (by kernel_rfl) (by kernel_rfl) (fun _ _ _ h => h) (Or.inl ⟨by rfl, ?y69⟩) (by assumption) ?r69
              case y69 => (intro W hSw; (try dsimp only at hSw); go_simp; try with_reducible rfl)
              (try simp only [Act.put, List.setIfInBounds_toArray, List.set_cons_zero, List.set_cons_succ])
              refine wpAnyH_done (by kernel_rfl) ?_ _
              have b36 : Below v0.heap.size v0 (z35.alloc (.cells #[.slice A2 rm c2, .slice (some ⟨xg, 0, none⟩) bl xcap, .slice Ab q cb, .slice A17 n17 c17] 48)) := b35.alloc b35.size _
              have c36 : Below z35.heap.size z35 (z35.alloc (.cells #[.slice A2 rm c2, .slice (some ⟨xg, 0, none⟩) bl xcap, .slice Ab q cb, .slice A17 n17 c17] 48)) := (Below.refl _ _).alloc (Nat.le_refl _) _
              have hT := Lib.hid (heap_alloc_new z35 (.cells #[.slice A2 rm c2, .slice (some ⟨xg, 0, none⟩) bl xcap, .slice Ab q cb, .slice A17 n17 c17] 48))
              have hTl : z35.heap.size < (z35.alloc (.cells #[.slice A2 rm c2, .slice (some ⟨xg, 0, none⟩) bl xcap, .slice Ab q cb, .slice A17 n17 c17] 48)).heap.size := by simp
              replace hr17 := Lib.hid ((hr17.out.below c36).mono c36.size)
              clear c36
              generalize z35.alloc (.cells #[.slice A2 rm c2, .slice (some ⟨xg, 0, none⟩) bl xcap, .slice Ab q cb, .slice A17 n17 c17] 48) = z36 at *
              generalize z35.heap.size = T at *
              have hy4 := Lib.hid (show ∃ (A : Option Addr) (n c : Nat), Value.slice A17 n17 c17 = .slice A n c ∧ n = (bs ++ [cc]).length ∧ n ≤ c ∧ (A = none → c = 0) ∧ RdI z36 z36.heap.size .u8 A (bs ++ [cc]) from ⟨_, _, _, rfl, hn17.out.1, hn17.out.2.1, hn17.out.2.2, hr17.out⟩)
              clear hn17 hr17
              generalize (Value.slice (some ⟨a12, 0, none⟩) 0 0) = y1 at *
              generalize (Value.slice A14 n14 c14) = y2 at *
              generalize (Value.slice (some ⟨a16, 0, none⟩) 1 1) = y3 at *
              generalize (Value.slice A17 n17 c17) = y4 at *
              exact hcont T z36 y1 y2 y3 y4 ⟨b36, hT, hTl, hy4⟩
            · skip
              go_simp
              (try dsimp only)
              refine hK.out _ _ trivial (fun hHeld => ?_)
              clear hK K
              (try simp only [Act.put, List.setIfInBounds_toArray, List.set_cons_zero, List.set_cons_succ])
              have b37 : Below v0.heap.size v0 (z31.alloc (.cells #[] 5)) := b31.alloc b31.size _
              have c37 : Below z31.heap.size z31 (z31.alloc (.cells #[] 5)) := (Below.refl _ _).alloc (Nat.le_refl _) _
              have hown := Lib.hid (own_base (rowi_empty z31 5) b31.size)
              have ha12 : z31.heap.size < (z31.alloc (.cells #[] 5)).heap.size := by simp
              replace hlit := Lib.hid ((hlit.out.below c37).mono c37.size)
              have hne : a16 ≠ z31.heap.size := by omega
              replace ha16 : a16 < (z31.alloc (.cells #[] 5)).heap.size := by have := c37.size; omega
              clear c37
              generalize z31.alloc (.cells #[] 5) = z37 at *
              generalize z31.heap.size = a12 at *
              refine wpAnyH_ready (rs := [10]) (by kernel_rfl) (by simp) ?_
              refine consL rfl (fun K hK => ?_) (AllReadyH.nil)
              go_simp
              refine Calls.mono (hAq.out _) ?_
              rintro e wz ⟨rfl, hwz⟩
              rw [hwz]
              clear hwz wz
              (try dsimp only)
              refine hK.out _ _ trivial (fun hHeld => ?_)
              clear hK K
              (try simp only [Act.put, List.setIfInBounds_toArray, List.set_cons_zero, List.set_cons_succ])
              refine wpAnyH_takeL (i := 11) (v := ?v70) rfl (by kernel_rfl) (by kernel_rfl) (by kernel_rfl) (fun _ _ _ h => h) (Or.inl ⟨by rfl, ?y70⟩) (by assumption) ?r70
              case y70 => (intro W hSw; (try dsimp only at hSw); go_simp; try with_reducible rfl)
              (try simp only [Act.put, List.setIfInBounds_toArray, List.set_cons_zero, List.set_cons_succ])
              refine wpAnyH_ready (rs := [14]) (by kernel_rfl) (by simp) ?_
              refine consL rfl (fun K hK => ?_) (AllReadyH.nil)
              refine step_append_rd z37 rfl (.tmp 149) (.tmp 150) 48 rfl v0.heap.size 5 i8 (.int .u8 0) 1 Try.underlying48 hi8.out hu0.out hu1.out hu2.out rfl .u8 _ 0 [] rfl rfl hown.out Ab bl cb bs rfl HBL.out hAb.out (by rw [← HBL.out]; exact hcb) ((hrb12.out.below b37).mono b37.size) (by unfold maxLen; omega) (by omega) b37.size ?_
              intro A14 n14 c14 z39 hn14 hrow14 hg14 hob14
              rw [List.nil_append] at hn14 hrow14
              (try dsimp only)
              refine hK.out _ _ trivial (fun hHeld => ?_)
              clear hK K
              (try simp only [Act.put, List.setIfInBounds_toArray, List.set_cons_zero, List.set_cons_succ])
              have b39 : Below v0.heap.size v0 z39 := b37.grown hg14 b37.size (fun j ej => Nat.le_trans (own_ge hown.out) (Nat.le_of_eq (Option.some.inj ej)))
              have hHn := Lib.hid hn14.out.1
              replace hrow14 := Lib.hid hrow14
              replace hlit := Lib.hid (lit_far hlit.out hg14 ha16 (fun e => hne (Option.some.inj e).symm))
              replace ha16 : a16 < z39.heap.size := Nat.lt_of_lt_of_le ha16 hg14.size
              clear hown hg14 hob14 hn14 ha12 hne
              refine wpAnyH_ready (rs := [17]) (by kernel_rfl) (by simp) ?_
              refine consL rfl (fun K hK => ?_) (AllReadyH.nil)
              refine step_append_rd z39 rfl (.tmp 151) (.tmp 153) 48 rfl v0.heap.size 5 i8 (.int .u8 0) 1 Try.underlying48 hi8.out hu0.out hu1.out hu2.out rfl .u8 _ n14 bs hHn.out rfl hrow14.out (some ⟨a16, 0, none⟩) 1 1 [cc] rfl rfl (fun h => nomatch h) (Nat.le_refl _) hlit.out (by have h1 := hHn.out; have h2 := HBL.out; unfold maxLen; omega) (by have h1 := hHn.out; have h2 := HBL.out; omega) b39.size ?_
              intro A17 n17 c17 z40 hn17 hrow17 hg17 hob17
              (try dsimp only)
              refine hK.out _ _ trivial (fun hHeld => ?_)
              clear hK K
              (try simp only [Act.put, List.setIfInBounds_toArray, List.set_cons_zero, List.set_cons_succ])
              have b40 : Below v0.heap.size v0 z40 := b39.grown hg17 b39.size (fun j ej => own_blk_ge hrow14.out j ej)
              have hr17 := Lib.hid (rd_own hrow17)
              clear hrow17 hg17 hob17 hrow14 hlit ha16 hHn
              refine wpAnyH_ready (rs := [18]) (by kernel_rfl) (by simp) ?_
              refine consL rfl (fun K hK => ?_) (AllReadyH.nil)
              go_simp
              (try dsimp only)
              refine hK.out _ _ trivial (fun hHeld => ?_)
              clear hK K
              (try simp only [Act.put, List.setIfInBounds_toArray, List.set_cons_zero, List.set_cons_succ])
              refine wpAnyH_takeL (i := 19) (v := ?v71) rfl (by kernel_rfl) (by kernel_rfl) (by kernel_rfl) (fun _ _ _ h => h) (Or.inl ⟨by rfl, ?y71⟩) (by assumption) ?r71
              case y71 => (intro W hSw; (try dsimp only at hSw); go_simp; try with_reducible rfl)
              (try simp only [Act.put, List.setIfInBounds_toArray, List.set_cons_zero, List.set_cons_succ])
              refine wpAnyH_done (by kernel_rfl) ?_ _
              have b41 : Below v0.heap.size v0 (z40.alloc (.cells #[.slice A2 rm c2, .slice (some ⟨xg, 0, none⟩) bl xcap, .slice Ab q cb, .slice A17 n17 c17] 48)) := b40.alloc b40.size _
              have c41 : Below z40.heap.size z40 (z40.alloc (.cells #[.slice A2 rm c2, .slice (some ⟨xg, 0, none⟩) bl xcap, .slice Ab q cb, .slice A17 n17 c17] 48)) := (Below.refl _ _).alloc (Nat.le_refl _) _
              have hT := Lib.hid (heap_alloc_new z40 (.cells #[.slice A2 rm c2, .slice (some ⟨xg, 0, none⟩) bl xcap, .slice Ab q cb, .slice A17 n17 c17] 48))
              have hTl : z40.heap.size < (z40.alloc (.cells #[.slice A2 rm c2, .slice (some ⟨xg, 0, none⟩) bl xcap, .slice Ab q cb, .slice A17 n17 c17] 48)).heap.size := by simp
              replace hr17 := Lib.hid ((hr17.out.below c41).mono c41.size)
              clear c41
              generalize z40.alloc (.cells #[.slice A2 rm c2, .slice (some ⟨xg, 0, none⟩) bl xcap, .slice Ab q cb, .slice A17 n17 c17] 48) = z41 at *
              generalize z40.heap.size = T at *
              have hy4 := Lib.hid (show ∃ (A : Option Addr) (n c : Nat), Value.slice A17 n17 c17 = .slice A n c ∧ n = (bs ++ [cc]).length ∧ n ≤ c ∧ (A = none → c = 0) ∧ RdI z41 z41.heap.size .u8 A (bs ++ [cc]) from ⟨_, _, _, rfl, hn17.out.1, hn17.out.2.1, hn17.out.2.2, hr17.out⟩)
              clear hn17 hr17
              generalize (Value.slice (some ⟨a12, 0, none⟩) 0 0) = y1 at *
              generalize (Value.slice A14 n14 c14) = y2 at *
              generalize (Value.slice (some ⟨a16, 0, none⟩) 1 1) = y3 at *
              generalize (Value.slice A17 n17 c17) = y4 at *
              exact hcont T z41 y1 y2 y3 y4 ⟨b41, hT, hTl, hy4⟩
        case hc =>
          clear hd hz0 z0
          intro T v1 y1 y2 y3 y4 hF
          obtain ⟨k1, hT, hTl, hy4⟩ := hF
          have g13 := g12.trans (k1.mono g12.size)
          obtain ⟨Ay, ny, cy, rfl, hny, hcy, hAy, hry⟩ := hy4.out
          clear hy4
          have HT := Lib.hid (tries_at hT.out hTl
            (show TryOk v1 A2 rm c2 (rs.take rm) from ⟨fun z hz => H2.out.2.1 z (List.mem_of_mem_take hz), by rw [List.length_take]; have := hrm9.out; omega, by rw [List.length_take]; have := hrm9.out; have := H2.out.1; omega, by rw [List.length_take]; have := H2.out.2.2.2.1; omega, H2.out.2.2.2.2, rd_take ((hraw0.out.below k1).mono k1.size) rm⟩)
            (show TryOk v1 (some ⟨xg, 0, none⟩) bl xcap (bs.set p cc) from ⟨bytes8_set (by rw [HBS.out]; exact encV_bytes _) p HCC.out, by rw [List.length_set, ← HBL.out]; omega, by rw [List.length_set]; exact HBL.out, by rw [List.length_set, ← HBL.out]; exact hx3, (fun h => nomatch h), (hrx.out.below k1).mono k1.size⟩)
            (show TryOk v1 Ab q cb (bs.take q) from ⟨fun z hz => encV_bytes _ z (HBS.out ▸ List.mem_of_mem_take hz), by rw [List.length_take, ← HBL.out]; omega, by rw [List.length_take, ← HBL.out]; omega, by rw [List.length_take, ← HBL.out]; omega, hAb.out, rd_take ((hrb12.out.below k1).mono k1.size) q⟩)
            (show TryOk v1 Ay ny cy (bs ++ [cc]) from ⟨bytes8_app (by rw [HBS.out]; exact encV_bytes _) (fun z hz => by obtain rfl := List.mem_singleton.1 hz; exact HCC.out), by rw [List.length_append, ← HBL.out]; simp; omega, hny, by rw [← hny]; exact hcy, hAy, hry⟩))
          clear hny hcy hAy hry hT
          go_wp2_with fail
          go_loopw [26] (fun v wx => ∃ k : Nat, k ≤ 4 ∧ v = .int .i64 k ∧ Below v1.heap.size v1 wx) (fun v _ => 4 - (intOf v).toNat)
          case atStart => exact ⟨0, by omega, rfl, Below.refl _ _⟩
          case round =>
            obtain ⟨k, hk, rfl, hX⟩ := hrel
            by_cases hk4 : k < 4
            · obtain ⟨At, nt, ct, zs, ⟨z8, zl, zn, zc, zA⟩, HW⟩ := HT.out k hk4
              have hkk : (k : Int) < 4 := by omega
              have hk0 : (0 : Int) ≤ (k : Int) := by omega
              have qk := (HW _ hX).1
              replace HW := Lib.hid HW
              have hDx := Lib.hid (vDecode_any At nt ct zs _ (dec_few z8 zl) zn zc zA (HW.out _ hX).2)
              have hzl8 := Lib.hid (show zs.length ≤ 140737488351232 by omega)
              replace zn := Lib.hid zn
              clear z8 zl zc zA
              go_wp2_with fail
              refine Calls.mono hDx.out ?_
              clear hDx qk
              rintro e d1 ⟨hcs, hb1⟩
              have x1 := hX.trans (hb1.mono hX.size)
              rcases hcs with ⟨y, v, rfl, hy0, hyz, hvy⟩ | ⟨rfl, _⟩
              · obtain ⟨yk, yn, yix, yu, ys, ym⟩ := y
                obtain ⟨A6, n6, c6, hve⟩ := hvy.shape
                dsimp only at hve
                subst hve
                have hvl := Lib.hid (hvy.sub (T := LoV d1.heap.size) (fun b hb => hb.2))
                have hvm := Lib.hid hvy
                have HY0 := Lib.hid hy0
                have HYZ := Lib.hid hyz
                clear hvy hy0 hyz hb1
                go_wp2_with fail
                have hb6 := Lib.hid (heap_alloc_new d1 (.cells #[.int .i64 yk, .int .i64 yn, .int .i64 yix, .int .u64 yu, .string ys, .slice A6 n6 c6] 35))
                have x2 := x1.alloc x1.size (.cells #[.int .i64 yk, .int .i64 yn, .int .i64 yix, .int .u64 yu, .string ys, .slice A6 n6 c6] 35)
                have hz6 : d1.heap.size < (d1.alloc (.cells #[.int .i64 yk, .int .i64 yn, .int .i64 yix, .int .u64 yu, .string ys, .slice A6 n6 c6] 35)).heap.size := by simp
                have h56 : Below d1.heap.size d1 (d1.alloc (.cells #[.int .i64 yk, .int .i64 yn, .int .i64 yix, .int .u64 yu, .string ys, .slice A6 n6 c6] 35)) := (Below.refl _ _).alloc (Nat.le_refl _) _
                have hV6 := Lib.hid (hvl.out.call h56)
                clear h56 hvl hvm
                generalize (d1.alloc (.cells #[.int .i64 yk, .int .i64 yn, .int .i64 yix, .int .u64 yu, .string ys, .slice A6 n6 c6] 35)) = d2 at *
                generalize d1.heap.size = o6 at *
                have hd : Below d2.heap.size d2 d2.drew := (Below.refl _ _).drew
                have HS := Lib.hid (show ∀ W, Below d2.heap.size d2 W → (fun W : World => W.cell? ⟨T, k, none⟩ = some (.slice At nt ct) ∧ W.cell? ⟨o6, 0, none⟩ = some (.int .i64 yk) ∧ W.cell? ⟨o6, 1, none⟩ = some (.int .i64 yn) ∧ W.cell? ⟨o6, 2, none⟩ = some (.int .i64 yix) ∧ W.cell? ⟨o6, 3, none⟩ = some (.int .u64 yu) ∧ W.cell? ⟨o6, 4, none⟩ = some (.string ys) ∧ W.cell? ⟨o6, 5, none⟩ = some (.slice A6 n6 c6)) W from fun W hW' => ⟨(HW.out W (x2.trans (hW'.mono x2.size))).1, six ((hW'.block _ hz6).trans hb6.out)⟩)
                have HVy := Lib.hid (fun W (hW' : Below d2.heap.size d2 W) => hV6.out.call hW')
                have HEn := Lib.hid (fun v W (h : VaV W (LoV W.heap.size) (⟨yk, yn, yix, yu, ys, ym⟩ : Va) v) => by have := r6Encode_any (⟨yk, yn, yix, yu, ys, ym⟩ : Va) v W h; rw [HYZ.out] at this; exact this)
                refine wp_region_held_drew (S := fun W => W.cell? ⟨T, k, none⟩ = some (.slice At nt ct) ∧ W.cell? ⟨o6, 0, none⟩ = some (.int .i64 yk) ∧ W.cell? ⟨o6, 1, none⟩ = some (.int .i64 yn) ∧ W.cell? ⟨o6, 2, none⟩ = some (.int .i64 yix) ∧ W.cell? ⟨o6, 3, none⟩ = some (.int .u64 yu) ∧ W.cell? ⟨o6, 4, none⟩ = some (.string ys) ∧ W.cell? ⟨o6, 5, none⟩ = some (.slice A6 n6 c6)) (by kernel_rfl) (HS.out _ hd) (fun hHeld => ?_)
                (try simp only [List.size_toArray, List.length_cons, List.length_nil, Nat.zero_add, Nat.reduceAdd])
                refine wpAnyH_takeL (i := 0) (v := ?v72) rfl (by kernel_rfl) (by kernel_rfl) (by kernel_rfl) (fun _ _ _ h => h) (Or.inl ⟨by rfl, ?y72⟩) (by assumption) ?r72
                case y72 => (intro W hSw; (try dsimp only at hSw); go_simp; try with_reducible rfl)
                (try simp only [Act.put, List.setIfInBounds_toArray, List.set_cons_zero, List.set_cons_succ])
                refine wpAnyH_takeL (i := 1) (v := ?v73) rfl (by kernel_rfl) (by kernel_rfl) (by kernel_rfl) (fun _ _ _ h => h) (Or.inl ⟨by rfl, ?y73⟩) (by assumption) ?r73
                case y73 => (intro W hSw; (try dsimp only at hSw); go_simp; try with_reducible rfl)
                (try simp only [Act.put, List.setIfInBounds_toArray, List.set_cons_zero, List.set_cons_succ])
                refine wpAnyH_takeL (i := 2) (v := ?v74) rfl (by kernel_rfl) (by kernel_rfl) (by kernel_rfl) (fun _ _ _ h => h) (Or.inl ⟨by rfl, ?y74⟩) (by assumption) ?r74
                case y74 => (intro W hSw; (try dsimp only at hSw); go_simp; try with_reducible rfl)
                (try simp only [Act.put, List.setIfInBounds_toArray, List.set_cons_zero, List.set_cons_succ])
                refine wpAnyH_takeL (i := 3) rfl (by kernel_rfl) (by kernel_rfl) (by kernel_rfl) (fun _ _ _ h => h) (Or.inr ⟨by rfl, rfl⟩) (by assumption) ?_
                (try simp only [Act.put, List.setIfInBounds_toArray, List.set_cons_zero, List.set_cons_succ])
                refine wpAnyH_takeL (i := 4) rfl (by kernel_rfl) (by kernel_rfl) (by kernel_rfl) (fun _ _ _ h => h) (Or.inr ⟨by rfl, rfl⟩) (by assumption) ?_
                (try simp only [Act.put, List.setIfInBounds_toArray, List.set_cons_zero, List.set_cons_succ])
                refine wpAnyH_takeL (i := 5) (v := ?v75) rfl (by kernel_rfl) (by kernel_rfl) (by kernel_rfl) (fun _ _ _ h => h) (Or.inl ⟨by rfl, ?y75⟩) (by assumption) ?r75
                case y75 => (intro W hSw; (try dsimp only at hSw); go_simp; try with_reducible rfl)
                (try simp only [Act.put, List.setIfInBounds_toArray, List.set_cons_zero, List.set_cons_succ])
                refine wpAnyH_takeL (i := 6) (v := ?v76) rfl (by kernel_rfl) (by kernel_rfl) (by kernel_rfl) (fun _ _ _ h => h) (Or.inl ⟨by rfl, ?y76⟩) (by assumption) ?r76
                case y76 => (intro W hSw; (try dsimp only at hSw); go_simp; try with_reducible rfl)
                (try simp only [Act.put, List.setIfInBounds_toArray, List.set_cons_zero, List.set_cons_succ])
                refine wpAnyH_takeL (i := 7) (v := ?v77) rfl (by kernel_rfl) (by kernel_rfl) (by kernel_rfl) (fun _ _ _ h => h) (Or.inl ⟨by rfl, ?y77⟩) (by assumption) ?r77
                case y77 => (intro W hSw; (try dsimp only at hSw); go_simp; try with_reducible rfl)
                (try simp only [Act.put, List.setIfInBounds_toArray, List.set_cons_zero, List.set_cons_succ])
                refine wpAnyH_takeL (i := 8) (v := ?v78) rfl (by kernel_rfl) (by kernel_rfl) (by kernel_rfl) (fun _ _ _ h => h) (Or.inl ⟨by rfl, ?y78⟩) (by assumption) ?r78
                case y78 => (intro W hSw; (try dsimp only at hSw); go_simp; try with_reducible rfl)
                (try simp only [Act.put, List.setIfInBounds_toArray, List.set_cons_zero, List.set_cons_succ])
                refine wpAnyH_takeL (i := 9) (v := ?v79) rfl (by kernel_rfl) (by kernel_rfl) (by kernel_rfl) (fun _ _ _ h => h) (Or.inl ⟨by rfl, ?y79⟩) (by assumption) ?r79
                case y79 => (intro W hSw; (try dsimp only at hSw); go_simp; try with_reducible rfl)
                (try simp only [Act.put, List.setIfInBounds_toArray, List.set_cons_zero, List.set_cons_succ])
                refine wpAnyH_takeL (i := 10) (v := ?v80) rfl (by kernel_rfl) (by kernel_rfl) (by kernel_rfl) (fun _ _ _ h => h) (Or.inl ⟨by rfl, ?y80⟩) (by assumption) ?r80
                case y80 => (intro W hSw; (try dsimp only at hSw); go_simp; try with_reducible rfl)
                (try simp only [Act.put, List.setIfInBounds_toArray, List.set_cons_zero, List.set_cons_succ])
                refine wpAnyH_ready (rs := [11]) (by kernel_rfl) (by simp) ?_
                refine consL rfl (fun K hK => ?_) AllReadyH.nil
                go_simp
                refine Calls.mono (vValid_any (⟨yk, yn, yix, yu, ys, ym⟩ : Va) _ _ (HVy.out _ hd)) ?_
                rw [HY0.out]
                rintro e d3 ⟨rfl, hb3⟩
                have hc3 : Below d2.heap.size d2 d3 := hd.trans (hb3.mono hd.size)
                (try dsimp only)
                refine hK.out _ _ (HS.out _ hc3) (fun hHeld => ?_)
                clear hK K
                (try simp only [Act.put, List.setIfInBounds_toArray, List.set_cons_zero, List.set_cons_succ])
                refine wpAnyH_takeL (i := 12) (v := ?v81) rfl (by kernel_rfl) (by kernel_rfl) (by kernel_rfl) (fun _ _ _ h => h) (Or.inl ⟨by rfl, ?y81⟩) (by assumption) ?r81
                case y81 => (intro W hSw; (try dsimp only at hSw); go_simp; try with_reducible rfl)
                (try simp only [Act.put, List.setIfInBounds_toArray, List.set_cons_zero, List.set_cons_succ])
                refine wpAnyH_takeL (i := 13) (v := ?v82) rfl (by kernel_rfl) (by kernel_rfl) (by kernel_rfl) (fun _ _ _ h => h) (Or.inl ⟨by rfl, ?y82⟩) (by assumption) ?r82
                case y82 => (intro W hSw; (try dsimp only at hSw); go_simp; try with_reducible rfl)
                (try simp only [Act.put, List.setIfInBounds_toArray, List.set_cons_zero, List.set_cons_succ])
                refine wpAnyH_takeL (i := 14) (v := ?v83) rfl (by kernel_rfl) (by kernel_rfl) (by kernel_rfl) (fun _ _ _ h => h) (Or.inl ⟨by rfl, ?y83⟩) (by assumption) ?r83
                case y83 => (intro W hSw; (try dsimp only at hSw); go_simp; try with_reducible rfl)
                (try simp only [Act.put, List.setIfInBounds_toArray, List.set_cons_zero, List.set_cons_succ])
                refine wpAnyH_takeL (i := 17) (v := ?v84) rfl (by kernel_rfl) (by kernel_rfl) (by kernel_rfl) (fun _ _ _ h => h) (Or.inl ⟨by rfl, ?y84⟩) (by assumption) ?r84
                case y84 => (intro W hSw; (try dsimp only at hSw); go_simp; try with_reducible rfl)
                (try simp only [Act.put, List.setIfInBounds_toArray, List.set_cons_zero, List.set_cons_succ])
                refine wpAnyH_takeL (i := 18) (v := ?v85) rfl (by kernel_rfl) (by kernel_rfl) (by kernel_rfl) (fun _ _ _ h => h) (Or.inl ⟨by rfl, ?y85⟩) (by assumption) ?r85
                case y85 => (intro W hSw; (try dsimp only at hSw); go_simp; try with_reducible rfl)
                (try simp only [Act.put, List.setIfInBounds_toArray, List.set_cons_zero, List.set_cons_succ])
                refine wpAnyH_takeL (i := 19) (v := ?v86) rfl (by kernel_rfl) (by kernel_rfl) (by kernel_rfl) (fun _ _ _ h => h) (Or.inl ⟨by rfl, ?y86⟩) (by assumption) ?r86
                case y86 => (intro W hSw; (try dsimp only at hSw); go_simp; try with_reducible rfl)
                (try simp only [Act.put, List.setIfInBounds_toArray, List.set_cons_zero, List.set_cons_succ])
                refine wpAnyH_takeL (i := 20) (v := ?v87) rfl (by kernel_rfl) (by kernel_rfl) (by kernel_rfl) (fun _ _ _ h => h) (Or.inl ⟨by rfl, ?y87⟩) (by assumption) ?r87
                case y87 => (intro W hSw; (try dsimp only at hSw); go_simp; try with_reducible rfl)
                (try simp only [Act.put, List.setIfInBounds_toArray, List.set_cons_zero, List.set_cons_succ])
                refine wpAnyH_ready (rs := [15]) (by kernel_rfl) (by simp) ?_
                refine consL rfl (fun K hK => ?_) AllReadyH.nil
                go_simp
                refine Calls.mono (l6plain_any (⟨yk, yn, yix, yu, ys, ym⟩ : Va) _ _ (HVy.out _ hc3)) ?_
                rintro e d4 ⟨v8, rfl, hv8, hb4⟩
                have hc4 : Below d2.heap.size d2 d4 := hc3.trans (hb4.mono hc3.size)
                (try dsimp only)
                refine hK.out _ _ (HS.out _ hc4) (fun hHeld => ?_)
                clear hK K
                (try simp only [Act.put, List.setIfInBounds_toArray, List.set_cons_zero, List.set_cons_succ])
                refine wpAnyH_ready (rs := [16]) (by kernel_rfl) (by simp) ?_
                refine consL rfl (fun K hK => ?_) AllReadyH.nil
                go_simp
                refine Calls.mono (HEn.out _ _ (hv8.sub (fun b hb => hb.2))) ?_
                rintro e d5 ⟨Ae, ce, rfl, hce, hrow5, hb5⟩
                have hc5 : Below d2.heap.size d2 d5 := hc4.trans (hb5.mono hc4.size)
                (try dsimp only)
                refine hK.out _ _ (HS.out _ hc5) (fun hHeld => ?_)
                clear hK K
                (try simp only [Act.put, List.setIfInBounds_toArray, List.set_cons_zero, List.set_cons_succ])
                refine wpAnyH_ready (rs := [21]) (by kernel_rfl) (by simp) ?_
                refine consL rfl (fun K hK => ?_) AllReadyH.nil
                go_simp
                refine Calls.mono (same_any Ae At zs.length nt ce ct zs zs _ rfl zn.out hzl8.out (rd_own hrow5) (HW.out _ (x2.trans (hc5.mono x2.size))).2) ?_
                rw [decide_eq_true rfl]
                rintro e d7 ⟨rfl, hb7⟩
                have hc7 : Below d2.heap.size d2 d7 := hc5.trans (hb7.mono hc5.size)
                (try dsimp only)
                refine hK.out _ _ (HS.out _ hc7) (fun hHeld => ?_)
                clear hK K
                (try simp only [Act.put, List.setIfInBounds_toArray, List.set_cons_zero, List.set_cons_succ])
                refine wpAnyH_takeL (i := 22) (v := ?v88) rfl (by kernel_rfl) (by kernel_rfl) (by kernel_rfl) (fun _ _ _ h => h) (Or.inl ⟨by rfl, ?y88⟩) (by assumption) ?r88
                case y88 => (intro W hSw; (try dsimp only at hSw); go_simp; try with_reducible rfl)
                (try simp only [Act.put, List.setIfInBounds_toArray, List.set_cons_zero, List.set_cons_succ])
                refine wpAnyH_takeL (i := 23) (v := ?v89) rfl (by kernel_rfl) (by kernel_rfl) (by kernel_rfl) (fun _ _ _ h => h) (Or.inl ⟨by rfl, ?y89⟩) (by assumption) ?r89
                case y89 => (intro W hSw; (try dsimp only at hSw); go_simp; try with_reducible rfl)
                (try simp only [Act.put, List.setIfInBounds_toArray, List.set_cons_zero, List.set_cons_succ])
                refine wpAnyH_takeL (i := 24) (v := ?v90) rfl (by kernel_rfl) (by kernel_rfl) (by kernel_rfl) (fun _ _ _ h => h) (Or.inl ⟨by rfl, ?y90⟩) (by assumption) ?r90
                case y90 => (intro W hSw; (try dsimp only at hSw); go_simp; try with_reducible rfl)
                (try simp only [Act.put, List.setIfInBounds_toArray, List.set_cons_zero, List.set_cons_succ])
                refine wpAnyH_takeL (i := 25) (v := ?v91) rfl (by kernel_rfl) (by kernel_rfl) (by kernel_rfl) (fun _ _ _ h => h) (Or.inl ⟨by rfl, ?y91⟩) (by assumption) ?r91
                case y91 => (intro W hSw; (try dsimp only at hSw); go_simp; try with_reducible rfl)
                (try simp only [Act.put, List.setIfInBounds_toArray, List.set_cons_zero, List.set_cons_succ])
                refine wpAnyH_done (by kernel_rfl) ?_ _
                have x7 := x2.trans (hc7.mono x2.size)
                clear hc3 hc4 hc5 hc7 hb3 hb4 hb5 hb7 hv8 hrow5
                go_wp2_with fail
                go_roundw
                case rel => exact ⟨k + 1, by omega, by go_num, x7⟩
                case measure => simp [intOf]; omega
              · rw [show (vav 0 0 0 0 .empty none 0 0) = .agg #[.int .i64 0, .int .i64 0, .int .i64 0, .int .u64 0, .string ⟨#[]⟩, .slice none 0 0] from rfl]
                go_wp2_with fail
                have x2 := x1.alloc x1.size (.cells #[.int .i64 0, .int .i64 0, .int .i64 0, .int .u64 0, .string ⟨#[]⟩, .slice none 0 0] 35)
                generalize (d1.alloc (.cells #[.int .i64 0, .int .i64 0, .int .i64 0, .int .u64 0, .string ⟨#[]⟩, .slice none 0 0] 35)) = d2 at *
                generalize d1.heap.size = o6 at *
                refine wp_region_held_drew (S := fun _ => True) (by kernel_rfl) (trivial) (fun hHeld => ?_)
                (try simp only [List.size_toArray, List.length_cons, List.length_nil, Nat.zero_add, Nat.reduceAdd])
                refine wpAnyH_takeL (i := 0) (v := ?v92) rfl (by kernel_rfl) (by kernel_rfl) (by kernel_rfl) (fun _ _ _ h => h) (Or.inl ⟨by rfl, ?y92⟩) (by assumption) ?r92
                case y92 => (intro W hSw; (try dsimp only at hSw); go_simp; try with_reducible rfl)
                (try simp only [Act.put, List.setIfInBounds_toArray, List.set_cons_zero, List.set_cons_succ])
                refine wpAnyH_takeL (i := 1) (v := ?v93) rfl (by kernel_rfl) (by kernel_rfl) (by kernel_rfl) (fun _ _ _ h => h) (Or.inl ⟨by rfl, ?y93⟩) (by assumption) ?r93
                case y93 => (intro W hSw; (try dsimp only at hSw); go_simp; try with_reducible rfl)
                (try simp only [Act.put, List.setIfInBounds_toArray, List.set_cons_zero, List.set_cons_succ])
                refine wpAnyH_takeL (i := 2) (v := ?v94) rfl (by kernel_rfl) (by kernel_rfl) (by kernel_rfl) (fun _ _ _ h => h) (Or.inl ⟨by rfl, ?y94⟩) (by assumption) ?r94
                case y94 => (intro W hSw; (try dsimp only at hSw); go_simp; try with_reducible rfl)
                (try simp only [Act.put, List.setIfInBounds_toArray, List.set_cons_zero, List.set_cons_succ])
                refine wpAnyH_takeL (i := 3) (v := ?v95) rfl (by kernel_rfl) (by kernel_rfl) (by kernel_rfl) (fun _ _ _ h => h) (Or.inl ⟨by rfl, ?y95⟩) (by assumption) ?r95
                case y95 => (intro W hSw; (try dsimp only at hSw); go_simp; try with_reducible rfl)
                (try simp only [Act.put, List.setIfInBounds_toArray, List.set_cons_zero, List.set_cons_succ])
                refine wpAnyH_takeL (i := 4) (v := ?v96) rfl (by kernel_rfl) (by kernel_rfl) (by kernel_rfl) (fun _ _ _ h => h) (Or.inl ⟨by rfl, ?y96⟩) (by assumption) ?r96
                case y96 => (intro W hSw; (try dsimp only at hSw); go_simp; try with_reducible rfl)
                (try simp only [Act.put, List.setIfInBounds_toArray, List.set_cons_zero, List.set_cons_succ])
                refine wpAnyH_takeL (i := 5) (v := ?v97) rfl (by kernel_rfl) (by kernel_rfl) (by kernel_rfl) (fun _ _ _ h => h) (Or.inl ⟨by rfl, ?y97⟩) (by assumption) ?r97
                case y97 => (intro W hSw; (try dsimp only at hSw); go_simp; try with_reducible rfl)
                (try simp only [Act.put, List.setIfInBounds_toArray, List.set_cons_zero, List.set_cons_succ])
                refine wpAnyH_takeL (i := 6) (v := ?v98) rfl (by kernel_rfl) (by kernel_rfl) (by kernel_rfl) (fun _ _ _ h => h) (Or.inl ⟨by rfl, ?y98⟩) (by assumption) ?r98
                case y98 => (intro W hSw; (try dsimp only at hSw); go_simp; try with_reducible rfl)
                (try simp only [Act.put, List.setIfInBounds_toArray, List.set_cons_zero, List.set_cons_succ])
                refine wpAnyH_takeL (i := 7) (v := ?v99) rfl (by kernel_rfl) (by kernel_rfl) (by kernel_rfl) (fun _ _ _ h => h) (Or.inl ⟨by rfl, ?y99⟩) (by assumption) ?r99
                case y99 => (intro W hSw; (try dsimp only at hSw); go_simp; try with_reducible rfl)
                (try simp only [Act.put, List.setIfInBounds_toArray, List.set_cons_zero, List.set_cons_succ])
                refine wpAnyH_takeL (i := 8) (v := ?v100) rfl (by kernel_rfl) (by kernel_rfl) (by kernel_rfl) (fun _ _ _ h => h) (Or.inl ⟨by rfl, ?y100⟩) (by assumption) ?r100
                case y100 => (intro W hSw; (try dsimp only at hSw); go_simp; try with_reducible rfl)
                (try simp only [Act.put, List.setIfInBounds_toArray, List.set_cons_zero, List.set_cons_succ])
                refine wpAnyH_takeL (i := 9) (v := ?v101) rfl (by kernel_rfl) (by kernel_rfl) (by kernel_rfl) (fun _ _ _ h => h) (Or.inl ⟨by rfl, ?y101⟩) (by assumption) ?r101
                case y101 => (intro W hSw; (try dsimp only at hSw); go_simp; try with_reducible rfl)
                (try simp only [Act.put, List.setIfInBounds_toArray, List.set_cons_zero, List.set_cons_succ])
                refine wpAnyH_takeL (i := 10) rfl (by kernel_rfl) (by kernel_rfl) (by kernel_rfl) (fun _ _ _ h => h) (Or.inr ⟨by rfl, rfl⟩) (by assumption) ?_
                (try simp only [Act.put, List.setIfInBounds_toArray, List.set_cons_zero, List.set_cons_succ])
                refine wpAnyH_takeL (i := 11) rfl (by kernel_rfl) (by kernel_rfl) (by kernel_rfl) (fun _ _ _ h => h) (Or.inr ⟨by rfl, rfl⟩) (by assumption) ?_
                (try simp only [Act.put, List.setIfInBounds_toArray, List.set_cons_zero, List.set_cons_succ])
                refine wpAnyH_takeL (i := 12) rfl (by kernel_rfl) (by kernel_rfl) (by kernel_rfl) (fun _ _ _ h => h) (Or.inr ⟨by rfl, rfl⟩) (by assumption) ?_
                (try simp only [Act.put, List.setIfInBounds_toArray, List.set_cons_zero, List.set_cons_succ])
                refine wpAnyH_takeL (i := 13) rfl (by kernel_rfl) (by kernel_rfl) (by kernel_rfl) (fun _ _ _ h => h) (Or.inr ⟨by rfl, rfl⟩) (by assumption) ?_
                (try simp only [Act.put, List.setIfInBounds_toArray, List.set_cons_zero, List.set_cons_succ])
                refine wpAnyH_takeL (i := 14) rfl (by kernel_rfl) (by kernel_rfl) (by kernel_rfl) (fun _ _ _ h => h) (Or.inr ⟨by rfl, rfl⟩) (by assumption) ?_
                (try simp only [Act.put, List.setIfInBounds_toArray, List.set_cons_zero, List.set_cons_succ])
                refine wpAnyH_takeL (i := 15) rfl (by kernel_rfl) (by kernel_rfl) (by kernel_rfl) (fun _ _ _ h => h) (Or.inr ⟨by rfl, rfl⟩) (by assumption) ?_
                (try simp only [Act.put, List.setIfInBounds_toArray, List.set_cons_zero, List.set_cons_succ])
                refine wpAnyH_takeL (i := 16) rfl (by kernel_rfl) (by kernel_rfl) (by kernel_rfl) (fun _ _ _ h => h) (Or.inr ⟨by rfl, rfl⟩) (by assumption) ?_
                (try simp only [Act.put, List.setIfInBounds_toArray, List.set_cons_zero, List.set_cons_succ])
                refine wpAnyH_takeL (i := 17) rfl (by kernel_rfl) (by kernel_rfl) (by kernel_rfl) (fun _ _ _ h => h) (Or.inr ⟨by rfl, rfl⟩) (by assumption) ?_
                (try simp only [Act.put, List.setIfInBounds_toArray, List.set_cons_zero, List.set_cons_succ])
                refine wpAnyH_takeL (i := 18) rfl (by kernel_rfl) (by kernel_rfl) (by kernel_rfl) (fun _ _ _ h => h) (Or.inr ⟨by rfl, rfl⟩) (by assumption) ?_
                (try simp only [Act.put, List.setIfInBounds_toArray, List.set_cons_zero, List.set_cons_succ])
                refine wpAnyH_takeL (i := 19) rfl (by kernel_rfl) (by kernel_rfl) (by kernel_rfl) (fun _ _ _ h => h) (Or.inr ⟨by rfl, rfl⟩) (by assumption) ?_
                (try simp only [Act.put, List.setIfInBounds_toArray, List.set_cons_zero, List.set_cons_succ])
                refine wpAnyH_takeL (i := 20) rfl (by kernel_rfl) (by kernel_rfl) (by kernel_rfl) (fun _ _ _ h => h) (Or.inr ⟨by rfl, rfl⟩) (by assumption) ?_
                (try simp only [Act.put, List.setIfInBounds_toArray, List.set_cons_zero, List.set_cons_succ])
                refine wpAnyH_takeL (i := 21) rfl (by kernel_rfl) (by kernel_rfl) (by kernel_rfl) (fun _ _ _ h => h) (Or.inr ⟨by rfl, rfl⟩) (by assumption) ?_
                (try simp only [Act.put, List.setIfInBounds_toArray, List.set_cons_zero, List.set_cons_succ])
                refine wpAnyH_takeL (i := 22) rfl (by kernel_rfl) (by kernel_rfl) (by kernel_rfl) (fun _ _ _ h => h) (Or.inr ⟨by rfl, rfl⟩) (by assumption) ?_
                (try simp only [Act.put, List.setIfInBounds_toArray, List.set_cons_zero, List.set_cons_succ])
                refine wpAnyH_takeL (i := 23) rfl (by kernel_rfl) (by kernel_rfl) (by kernel_rfl) (fun _ _ _ h => h) (Or.inr ⟨by rfl, rfl⟩) (by assumption) ?_
                (try simp only [Act.put, List.setIfInBounds_toArray, List.set_cons_zero, List.set_cons_succ])
                refine wpAnyH_takeL (i := 24) (v := ?v102) rfl (by kernel_rfl) (by kernel_rfl) (by kernel_rfl) (fun _ _ _ h => h) (Or.inl ⟨by rfl, ?y102⟩) (by assumption) ?r102
                case y102 => (intro W hSw; (try dsimp only at hSw); go_simp; try with_reducible rfl)
                (try simp only [Act.put, List.setIfInBounds_toArray, List.set_cons_zero, List.set_cons_succ])
                refine wpAnyH_takeL (i := 25) (v := ?v103) rfl (by kernel_rfl) (by kernel_rfl) (by kernel_rfl) (fun _ _ _ h => h) (Or.inl ⟨by rfl, ?y103⟩) (by assumption) ?r103
                case y103 => (intro W hSw; (try dsimp only at hSw); go_simp; try with_reducible rfl)
                (try simp only [Act.put, List.setIfInBounds_toArray, List.set_cons_zero, List.set_cons_succ])
                refine wpAnyH_done (by kernel_rfl) ?_ _
                have x7 := x2.drew
                go_wp2_with fail
                go_roundw
                case rel => exact ⟨k + 1, by omega, by go_num, x7⟩
                case measure => simp [intOf]; omega
            · have hkk : ¬ (k : Int) < 4 := by omega
              have x7 := g13.trans (hX.mono g13.size)
              go_wp2_with fail
              go_roundw
              case rel => exact ⟨i + 1, by omega, by go_num, x7⟩
              case measure => simp [intOf]; omega
      · have hE2' := hE2 hv0
        subst hE2'
        clear hE1 hE2
        have hv1 : (ve == 0) = false := by rw [beq_eq_false_iff_ne]; exact hv0
        have hvv : (ve == ve) = true := by simp
        replace hv0 := Lib.hid hv0
        have hE6 := Lib.hid (r6Encode_any (⟨xk, xn, xix, xu, xs, xm⟩ : Va) (.agg #[.int .i64 xk, .int .i64 xn, .int .i64 xix, .int .u64 xu, .string xs, .slice Ai ni ci]) u3 (Hi.out _ g3).2)
        go_wp2_with fail
        clear q0 q1 q2 q3 q4 q5
        refine Calls.mono hE6.out ?_
        clear hE6
        rintro e u4 ⟨Aw, cw, rfl, hcw, hroww, h4⟩
        have g4 := g3.trans (h4.mono g3.size)
        have hDe := Lib.hid (vDecode_any Aw _ cw _ u4 HDI.out rfl hcw (own_none hroww) (rd_own hroww))
        clear hcw hroww h4
        go_wp2_with fail
        refine Calls.mono hDe.out ?_
        clear hDe
        rintro e u5 hD
        obtain ⟨rfl, h5⟩ := dec_bad hok.out (by rw [← HVE.out]; exact hv0.out) hD
        clear hD
        have g5 := g4.trans (h5.mono g4.size)
        clear h5
        rw [show (vav 0 0 0 0 .empty none 0 0) = .agg #[.int .i64 0, .int .i64 0, .int .i64 0, .int .u64 0, .string ⟨#[]⟩, .slice none 0 0] from rfl]
        go_wp2_with fail
        have g6 := g5.alloc g5.size (.cells #[.int .i64 0, .int .i64 0, .int .i64 0, .int .u64 0, .string ⟨#[]⟩, .slice none 0 0] 35)
        generalize (u5.alloc (.cells #[.int .i64 0, .int .i64 0, .int .i64 0, .int .u64 0, .string ⟨#[]⟩, .slice none 0 0] 35)) = u6 at *
        generalize u5.heap.size = o5 at *
        refine wp_region_held_drew (S := fun _ => True) (by kernel_rfl) (trivial) (fun hHeld => ?_)
        (try simp only [List.size_toArray, List.length_cons, List.length_nil, Nat.zero_add, Nat.reduceAdd])
        refine wpAnyH_takeL (i := 0) (v := ?v104) rfl (by kernel_rfl) (by kernel_rfl) (by kernel_rfl) (fun _ _ _ h => h) (Or.inl ⟨by rfl, ?y104⟩) (by assumption) ?r104
        case y104 => (intro W hSw; (try dsimp only at hSw); go_simp; try with_reducible rfl)
        (try simp only [Act.put, List.setIfInBounds_toArray, List.set_cons_zero, List.set_cons_succ])
        refine wpAnyH_takeL (i := 1) (v := ?v105) rfl (by kernel_rfl) (by kernel_rfl) (by kernel_rfl) (fun _ _ _ h => h) (Or.inl ⟨by rfl, ?y105⟩) (by assumption) ?r105
        case y105 => (intro W hSw; (try dsimp only at hSw); go_simp; try with_reducible rfl)
        (try simp only [Act.put, List.setIfInBounds_toArray, List.set_cons_zero, List.set_cons_succ])
        refine wpAnyH_takeL (i := 2) (v := .bool false) rfl (by kernel_rfl) (by kernel_rfl) (by kernel_rfl) (fun _ _ _ h => h) (Or.inl ⟨by rfl, ?y106⟩) (by assumption) ?r106
        case y106 => (intro W hSw; (try dsimp only at hSw); first | (go_simp; done) | (go_simp; simp))
        (try simp only [Act.put, List.setIfInBounds_toArray, List.set_cons_zero, List.set_cons_succ])
        refine wpAnyH_takeL (i := 3) (v := ?v107) rfl (by kernel_rfl) (by kernel_rfl) (by kernel_rfl) (fun _ _ _ h => h) (Or.inl ⟨by rfl, ?y107⟩) (by assumption) ?r107
        case y107 => (intro W hSw; (try dsimp only at hSw); go_simp; try with_reducible rfl)
        (try simp only [Act.put, List.setIfInBounds_toArray, List.set_cons_zero, List.set_cons_succ])
        refine wpAnyH_takeL (i := 4) (v := ?v108) rfl (by kernel_rfl) (by kernel_rfl) (by kernel_rfl) (fun _ _ _ h => h) (Or.inl ⟨by rfl, ?y108⟩) (by assumption) ?r108
        case y108 => (intro W hSw; (try dsimp only at hSw); go_simp; try with_reducible rfl)
        (try simp only [Act.put, List.setIfInBounds_toArray, List.set_cons_zero, List.set_cons_succ])
        refine wpAnyH_takeL (i := 5) (v := .bool false) rfl (by kernel_rfl) (by kernel_rfl) (by kernel_rfl) (fun _ _ _ h => h) (Or.inl ⟨by rfl, ?y109⟩) (by assumption) ?r109
        case y109 => (intro W hSw; (try dsimp only at hSw); first | (go_simp; done) | (go_simp; simp [hv1]))
        (try simp only [Act.put, List.setIfInBounds_toArray, List.set_cons_zero, List.set_cons_succ])
        refine wpAnyH_takeL (i := 6) (v := ?v110) rfl (by kernel_rfl) (by kernel_rfl) (by kernel_rfl) (fun _ _ _ h => h) (Or.inl ⟨by rfl, ?y110⟩) (by assumption) ?r110
        case y110 => (intro W hSw; (try dsimp only at hSw); go_simp; try with_reducible rfl)
        (try simp only [Act.put, List.setIfInBounds_toArray, List.set_cons_zero, List.set_cons_succ])
        refine wpAnyH_takeL (i := 7) rfl (by kernel_rfl) (by kernel_rfl) (by kernel_rfl) (fun _ _ _ h => h) (Or.inr ⟨by rfl, rfl⟩) (by assumption) ?_
        (try simp only [Act.put, List.setIfInBounds_toArray, List.set_cons_zero, List.set_cons_succ])
        refine wpAnyH_takeL (i := 8) rfl (by kernel_rfl) (by kernel_rfl) (by kernel_rfl) (fun _ _ _ h => h) (Or.inr ⟨by rfl, rfl⟩) (by assumption) ?_
        (try simp only [Act.put, List.setIfInBounds_toArray, List.set_cons_zero, List.set_cons_succ])
        refine wpAnyH_takeL (i := 9) rfl (by kernel_rfl) (by kernel_rfl) (by kernel_rfl) (fun _ _ _ h => h) (Or.inr ⟨by rfl, rfl⟩) (by assumption) ?_
        (try simp only [Act.put, List.setIfInBounds_toArray, List.set_cons_zero, List.set_cons_succ])
        refine wpAnyH_takeL (i := 10) rfl (by kernel_rfl) (by kernel_rfl) (by kernel_rfl) (fun _ _ _ h => h) (Or.inr ⟨by rfl, rfl⟩) (by assumption) ?_
        (try simp only [Act.put, List.setIfInBounds_toArray, List.set_cons_zero, List.set_cons_succ])
        refine wpAnyH_takeL (i := 11) rfl (by kernel_rfl) (by kernel_rfl) (by kernel_rfl) (fun _ _ _ h => h) (Or.inr ⟨by rfl, rfl⟩) (by assumption) ?_
        (try simp only [Act.put, List.setIfInBounds_toArray, List.set_cons_zero, List.set_cons_succ])
        refine wpAnyH_takeL (i := 12) rfl (by kernel_rfl) (by kernel_rfl) (by kernel_rfl) (fun _ _ _ h => h) (Or.inr ⟨by rfl, rfl⟩) (by assumption) ?_
        (try simp only [Act.put, List.setIfInBounds_toArray, List.set_cons_zero, List.set_cons_succ])
        refine wpAnyH_takeL (i := 13) rfl (by kernel_rfl) (by kernel_rfl) (by kernel_rfl) (fun _ _ _ h => h) (Or.inr ⟨by rfl, rfl⟩) (by assumption) ?_
        (try simp only [Act.put, List.setIfInBounds_toArray, List.set_cons_zero, List.set_cons_succ])
        refine wpAnyH_takeL (i := 14) rfl (by kernel_rfl) (by kernel_rfl) (by kernel_rfl) (fun _ _ _ h => h) (Or.inr ⟨by rfl, rfl⟩) (by assumption) ?_
        (try simp only [Act.put, List.setIfInBounds_toArray, List.set_cons_zero, List.set_cons_succ])
        refine wpAnyH_takeL (i := 15) rfl (by kernel_rfl) (by kernel_rfl) (by kernel_rfl) (fun _ _ _ h => h) (Or.inr ⟨by rfl, rfl⟩) (by assumption) ?_
        (try simp only [Act.put, List.setIfInBounds_toArray, List.set_cons_zero, List.set_cons_succ])
        refine wpAnyH_takeL (i := 16) rfl (by kernel_rfl) (by kernel_rfl) (by kernel_rfl) (fun _ _ _ h => h) (Or.inr ⟨by rfl, rfl⟩) (by assumption) ?_
        (try simp only [Act.put, List.setIfInBounds_toArray, List.set_cons_zero, List.set_cons_succ])
        refine wpAnyH_takeL (i := 17) rfl (by kernel_rfl) (by kernel_rfl) (by kernel_rfl) (fun _ _ _ h => h) (Or.inr ⟨by rfl, rfl⟩) (by assumption) ?_
        (try simp only [Act.put, List.setIfInBounds_toArray, List.set_cons_zero, List.set_cons_succ])
        refine wpAnyH_takeL (i := 18) rfl (by kernel_rfl) (by kernel_rfl) (by kernel_rfl) (fun _ _ _ h => h) (Or.inr ⟨by rfl, rfl⟩) (by assumption) ?_
        (try simp only [Act.put, List.setIfInBounds_toArray, List.set_cons_zero, List.set_cons_succ])
        refine wpAnyH_takeL (i := 19) rfl (by kernel_rfl) (by kernel_rfl) (by kernel_rfl) (fun _ _ _ h => h) (Or.inr ⟨by rfl, rfl⟩) (by assumption) ?_
        (try simp only [Act.put, List.setIfInBounds_toArray, List.set_cons_zero, List.set_cons_succ])
        refine wpAnyH_takeL (i := 20) rfl (by kernel_rfl) (by kernel_rfl) (by kernel_rfl) (fun _ _ _ h => h) (Or.inr ⟨by rfl, rfl⟩) (by assumption) ?_
        (try simp only [Act.put, List.setIfInBounds_toArray, List.set_cons_zero, List.set_cons_succ])
        refine wpAnyH_takeL (i := 21) rfl (by kernel_rfl) (by kernel_rfl) (by kernel_rfl) (fun _ _ _ h => h) (Or.inr ⟨by rfl, rfl⟩) (by assumption) ?_
        (try simp only [Act.put, List.setIfInBounds_toArray, List.set_cons_zero, List.set_cons_succ])
        refine wpAnyH_takeL (i := 22) rfl (by kernel_rfl) (by kernel_rfl) (by kernel_rfl) (fun _ _ _ h => h) (Or.inr ⟨by rfl, rfl⟩) (by assumption) ?_
        (try simp only [Act.put, List.setIfInBounds_toArray, List.set_cons_zero, List.set_cons_succ])
        refine wpAnyH_takeL (i := 23) rfl (by kernel_rfl) (by kernel_rfl) (by kernel_rfl) (fun _ _ _ h => h) (Or.inr ⟨by rfl, rfl⟩) (by assumption) ?_
        (try simp only [Act.put, List.setIfInBounds_toArray, List.set_cons_zero, List.set_cons_succ])
        refine wpAnyH_takeL (i := 24) rfl (by kernel_rfl) (by kernel_rfl) (by kernel_rfl) (fun _ _ _ h => h) (Or.inr ⟨by rfl, rfl⟩) (by assumption) ?_
        (try simp only [Act.put, List.setIfInBounds_toArray, List.set_cons_zero, List.set_cons_succ])
        refine wpAnyH_takeL (i := 25) (v := ?v111) rfl (by kernel_rfl) (by kernel_rfl) (by kernel_rfl) (fun _ _ _ h => h) (Or.inl ⟨by rfl, ?y111⟩) (by assumption) ?r111
        case y111 => (intro W hSw; (try dsimp only at hSw); go_simp; try with_reducible rfl)
        (try simp only [Act.put, List.setIfInBounds_toArray, List.set_cons_zero, List.set_cons_succ])
        refine wpAnyH_takeL (i := 26) (v := ?v112) rfl (by kernel_rfl) (by kernel_rfl) (by kernel_rfl) (fun _ _ _ h => h) (Or.inl ⟨by rfl, ?y112⟩) (by assumption) ?r112
        case y112 => (intro W hSw; (try dsimp only at hSw); go_simp; try with_reducible rfl)
        (try simp only [Act.put, List.setIfInBounds_toArray, List.set_cons_zero, List.set_cons_succ])
        refine wpAnyH_takeL (i := 27) (v := ?v113) rfl (by kernel_rfl) (by kernel_rfl) (by kernel_rfl) (fun _ _ _ h => h) (Or.inl ⟨by rfl, ?y113⟩) (by assumption) ?r113
        case y113 => (intro W hSw; (try dsimp only at hSw); go_simp; try with_reducible rfl)
        (try simp only [Act.put, List.setIfInBounds_toArray, List.set_cons_zero, List.set_cons_succ])
        refine wpAnyH_takeL (i := 28) (v := ?v114) rfl (by kernel_rfl) (by kernel_rfl) (by kernel_rfl) (fun _ _ _ h => h) (Or.inl ⟨by rfl, ?y114⟩) (by assumption) ?r114
        case y114 => (intro W hSw; (try dsimp only at hSw); go_simp; try with_reducible rfl)
        (try simp only [Act.put, List.setIfInBounds_toArray, List.set_cons_zero, List.set_cons_succ])
        refine wpAnyH_takeL (i := 29) (v := .bool true) rfl (by kernel_rfl) (by kernel_rfl) (by kernel_rfl) (fun _ _ _ h => h) (Or.inl ⟨by rfl, ?y115⟩) (by assumption) ?r115
        case y115 => (intro W hSw; (try dsimp only at hSw); first | (go_simp; done) | (go_simp; exact hv0.out))
        (try simp only [Act.put, List.setIfInBounds_toArray, List.set_cons_zero, List.set_cons_succ])
        refine wpAnyH_takeL (i := 30) (v := ?v116) rfl (by kernel_rfl) (by kernel_rfl) (by kernel_rfl) (fun _ _ _ h => h) (Or.inl ⟨by rfl, ?y116⟩) (by assumption) ?r116
        case y116 => (intro W hSw; (try dsimp only at hSw); go_simp; try with_reducible rfl)
        (try simp only [Act.put, List.setIfInBounds_toArray, List.set_cons_zero, List.set_cons_succ])
        refine wpAnyH_takeL (i := 31) (v := ?v117) rfl (by kernel_rfl) (by kernel_rfl) (by kernel_rfl) (fun _ _ _ h => h) (Or.inl ⟨by rfl, ?y117⟩) (by assumption) ?r117
        case y117 => (intro W hSw; (try dsimp only at hSw); go_simp; try with_reducible rfl)
        (try simp only [Act.put, List.setIfInBounds_toArray, List.set_cons_zero, List.set_cons_succ])
        refine wpAnyH_takeL (i := 32) (v := ?v118) rfl (by kernel_rfl) (by kernel_rfl) (by kernel_rfl) (fun _ _ _ h => h) (Or.inl ⟨by rfl, ?y118⟩) (by assumption) ?r118
        case y118 => (intro W hSw; (try dsimp only at hSw); go_simp; try with_reducible rfl)
        (try simp only [Act.put, List.setIfInBounds_toArray, List.set_cons_zero, List.set_cons_succ])
        refine wpAnyH_takeL (i := 33) (v := ?v119) rfl (by kernel_rfl) (by kernel_rfl) (by kernel_rfl) (fun _ _ _ h => h) (Or.inl ⟨by rfl, ?y119⟩) (by assumption) ?r119
        case y119 => (intro W hSw; (try dsimp only at hSw); go_simp; try with_reducible rfl)
        (try simp only [Act.put, List.setIfInBounds_toArray, List.set_cons_zero, List.set_cons_succ])
        refine wpAnyH_takeL (i := 34) (v := ?v120) rfl (by kernel_rfl) (by kernel_rfl) (by kernel_rfl) (fun _ _ _ h => h) (Or.inl ⟨by rfl, ?y120⟩) (by assumption) ?r120
        case y120 => (intro W hSw; (try dsimp only at hSw); go_simp; try with_reducible rfl)
        (try simp only [Act.put, List.setIfInBounds_toArray, List.set_cons_zero, List.set_cons_succ])
        refine wpAnyH_takeL (i := 35) (v := ?v121) rfl (by kernel_rfl) (by kernel_rfl) (by kernel_rfl) (fun _ _ _ h => h) (Or.inl ⟨by rfl, ?y121⟩) (by assumption) ?r121
        case y121 => (intro W hSw; (try dsimp only at hSw); go_simp; try with_reducible rfl)
        (try simp only [Act.put, List.setIfInBounds_toArray, List.set_cons_zero, List.set_cons_succ])
        refine wpAnyH_takeL (i := 36) (v := ?v122) rfl (by kernel_rfl) (by kernel_rfl) (by kernel_rfl) (fun _ _ _ h => h) (Or.inl ⟨by rfl, ?y122⟩) (by assumption) ?r122
        case y122 => (intro W hSw; (try dsimp only at hSw); go_simp; try with_reducible rfl)
        (try simp only [Act.put, List.setIfInBounds_toArray, List.set_cons_zero, List.set_cons_succ])
        refine wpAnyH_takeL (i := 37) (v := ?v123) rfl (by kernel_rfl) (by kernel_rfl) (by kernel_rfl) (fun _ _ _ h => h) (Or.inl ⟨by rfl, ?y123⟩) (by assumption) ?r123
        case y123 => (intro W hSw; (try dsimp only at hSw); go_simp; try with_reducible rfl)
        (try simp only [Act.put, List.setIfInBounds_toArray, List.set_cons_zero, List.set_cons_succ])
        refine wpAnyH_takeL (i := 38) (v := ?v124) rfl (by kernel_rfl) (by kernel_rfl) (by kernel_rfl) (fun _ _ _ h => h) (Or.inl ⟨by rfl, ?y124⟩) (by assumption) ?r124
        case y124 => (intro W hSw; (try dsimp only at hSw); go_simp; try with_reducible rfl)
        (try simp only [Act.put, List.setIfInBounds_toArray, List.set_cons_zero, List.set_cons_succ])
        refine wpAnyH_takeL (i := 39) (v := ?v125) rfl (by kernel_rfl) (by kernel_rfl) (by kernel_rfl) (fun _ _ _ h => h) (Or.inl ⟨by rfl, ?y125⟩) (by assumption) ?r125
        case y125 => (intro W hSw; (try dsimp only at hSw); go_simp; try with_reducible rfl)
        (try simp only [Act.put, List.setIfInBounds_toArray, List.set_cons_zero, List.set_cons_succ])
        refine wpAnyH_done (by kernel_rfl) ?_ _
        have g7 := g6.drew
        go_wp2_with fail
        go_roundw
        case rel => exact ⟨i + 1, by omega, by go_num, g7⟩
        case measure => simp [intOf]; omega
    · have hi6 : ¬ (i : Int) < 4 := by omega
      go_wp2_with fail
      refine Calls.mono (l6lives_any wr) ?_
      rintro e w9 ⟨rfl, hb9⟩
      go_wp2_with fail
      go_ret
      exact ⟨rfl, hbB.out.trans ((hW.trans (hb9.mono hW.size)).mono hbB.out.size)⟩
end Go.Proofs.Ytngfgohchnkidaa
