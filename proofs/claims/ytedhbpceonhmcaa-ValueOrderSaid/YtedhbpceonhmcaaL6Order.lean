/-
  THE WALK of the law ValueOrder. Written by gen/genl6order.py.
-/
import Derived.Test.YtedhbpceonhmcaaL6Some
import Derived.Test.YtedhbpceonhmcaaVaApp
import Derived.Test.YtedhbpceonhmcaaVaOrd
import Derived.Test.YtedhbpceonhmcaaR6Cmp
import Derived.Test.YtedhbpceonhmcaaL6Lives
namespace Go.Proofs.Ytedhbpceonhmcaa
open Go.RowKit

theorem app_row2 {w1 w2 w3 : World} {n0 B1 B2 BA : Nat} {l1 l2 : List Vr} (h1 : ∀ p ∈ l1, VaV w1 (fun b => n0 ≤ b ∧ b < B1) p.x p.val) (hB1 : B1 < w1.heap.size) (h12 : Below w1.heap.size w1 w2) (h2 : ∀ p ∈ l2, VaV w2 (fun b => w1.heap.size ≤ b ∧ b < B2) p.x p.val) (hB2 : B2 < w2.heap.size)
    (hBA : BA < w3.heap.size) (hc : ∀ j u, ((l1 ++ l2).flatMap Vr.cells)[j]? = some u → w3.cell? ⟨BA, j, none⟩ = some u) (hg : w2.grownBy w3 (some B1)) : VaL w3 (l1 ++ l2) BA := by
  refine ⟨⟨hBA, hc⟩, fun p hp => ?_⟩
  rcases List.mem_append.1 hp with h | h
  · exact (h1 p h).to (fun b hb => ⟨by have h3 := h12.size; have h4 := hg.size; show b < _; have := hb.2; omega, (hg.block b (by have := h12.size; have := hb.2; omega) (fun e => by injection e with e; have := hb.2; omega)).trans (h12.block b (by have := hb.2; omega))⟩)
  · exact (h2 p h).to (fun b hb => ⟨by have h4 := hg.size; show b < _; have := hb.2; omega, hg.block b (by have := hb.2; omega) (fun e => by injection e with e; have := hb.1; omega)⟩)
theorem enc_small {x : Va} (h : x.ok) : (encV x).length ≤ 140737488351232 := by
  obtain ⟨⟨k1, k2, k3⟩, hu, hs, hm, hl⟩ := h
  unfold U64 at hu
  have z1 := uv10 (zz_lt k1.1 k1.2)
  have z2 := uv10 (zz_lt k2.1 k2.2)
  have z3 := uv10 (zz_lt k3.1 k3.2)
  have z4 := uv10 (n := x.u.toNat) (by omega)
  have z5 := uv10 (n := (sb x.s).length) (by rw [sb_length]; omega)
  have z6 := uv10 (zz_lt (n := (x.m.length : Int)) (by omega) (by omega))
  have h9 : ∀ l : List En, (∀ e ∈ l, e.ok) → (l.flatMap encEn).length ≤ 1000030 * l.length := by
    intro l
    induction l with
    | nil => intro _; simp
    | cons y l ih =>
      intro hy
      have h1 := ih (fun e he => hy e (by simp [he]))
      obtain ⟨a1, a2, a3⟩ := hy y (by simp)
      unfold U64 at a1 a2
      have b1 := uv10 (n := y.i.toNat) (by omega)
      have b2 := uv10 (n := y.u.toNat) (by omega)
      have b3 := uv10 (n := (sb y.s).length) (by rw [sb_length]; omega)
      have b4 : (encEn y).length ≤ 1000030 := by
        unfold encEn
        simp only [List.length_append, raw_len, sb_length] at *
        omega
      rw [List.flatMap_cons, List.length_append, List.length_cons]
      omega
  have h10 := h9 x.m hm
  unfold encV encH
  simp only [List.length_append, raw_len, sb_length] at *
  omega
theorem neg_wrap {x y : Va} : IntKind.i64.wrap (-(vaCmp x y)) = vaCmp y x := by
  rw [va_cmp.neg x y]
  have := va_cmp.rng x y
  exact IntWalk.i64_in _ ⟨by omega, by omega⟩

set_option maxHeartbeats 40000000 in
set_option maxRecDepth 100000 in
theorem lorder_any (n : Int) (A1 : Option Addr) (c1 : Nat) (zs1 : List Int) (len1 : Nat) (A2 : Option Addr) (c2 : Nat) (zs2 : List Int) (len2 : Nat) (a h b : Int) (w : World) (hn : I64 n) (hlen1 : len1 = zs1.length) (hzs1 : ∀ z ∈ zs1, I64 z) (hr1 : RdI w w.heap.size .i64 A1 zs1)
    (hlen2 : len2 = zs2.length) (hzs2 : ∀ z ∈ zs2, I64 z) (hr2 : RdI w w.heap.size .i64 A2 zs2) (ha : I64 a) (hh : I64 h) (hb : I64 b) :
    Calls Try.prog 4 #[.int .i64 n, .slice A1 len1 c1, .slice A2 len2 c2, .int .i64 a, .int .i64 h, .int .i64 b] w fun e w' => e = .returned (.bool true) ∧ Below w.heap.size w w' := by
  have hS1 := l6some_any n A1 c1 zs1 len1 a h b w hn hlen1 hzs1 hr1 ha hh hb
  have hS2 := Lib.hid (fun W (hW : Below w.heap.size w W) => l6some_any n A2 c2 zs2 len2 h a b W hn hlen2 hzs2 ((hr2.below hW).mono hW.size) hh ha hb)
  clear hlen1 hzs1 hr1 hlen2 hzs2 hr2 ha hh hb hn
  go_enter Try.func4, Try.ntmps4
  go_wp2_with fail
  refine Calls.mono hS1 ?_
  clear hS1
  rintro e w1 ⟨l1, B1, rfl, hl1, hB1, hb1, hv1, _, hw1⟩
  go_wp2_with fail
  refine Calls.mono (hS2.out _ hw1) ?_
  clear hS2
  rintro e w2 ⟨l2, B2, rfl, hl2, hB2, hb2, hv2, _, hw2⟩
  have h12 := hw1.trans (hw2.mono hw1.size)
  have hB1l := (Array.getElem?_eq_some_iff.1 hb1).1
  have hB2l := (Array.getElem?_eq_some_iff.1 hb2).1
  have hl8 : (l1 ++ l2).length = 8 := by rw [List.length_append]; omega
  have hl1' := Lib.hid hl1
  have hl2' := Lib.hid hl2
  have hl8' := Lib.hid hl8
  have hb1' := Lib.hid ((hw2.block B1 hB1l).trans hb1)
  have hb2' := Lib.hid hb2
  clear hl1 hl2 hl8 hb1 hb2
  go_wp2_with (at_builtin; refine wpList_append_v _ rfl _ _ rfl l1 l2 4 4 B1 B2 w.heap.size hl1'.out.symm hl2'.out.symm (by rw [hl1'.out]; decide) (by rw [hl1'.out, hl2'.out]; decide) rfl hb1'.out hB1 rfl hb2'.out h12.size ?_; rintro v' V0 ⟨BA, cA, hv', hBA, hBAl, hcA, hgA⟩; rw [hl8'.out] at hv'; subst hv')
  have LA0 := app_row2 hv1 hB1l hw2 hv2 hB2l hBAl hcA hgA
  have h10 : Below w.heap.size w V0 := h12.grown hgA h12.size (fun j ej => by injection ej with ej; omega)
  replace h10 := Lib.hid h10
  generalize l1 ++ l2 = lA at *
  clear hv1 hB1l hw2 hv2 hB2l hBAl hcA hgA hw1 h12 hb1' hb2' hl1' hl2' hB1 hB2 hBA
  go_loopw [14] (fun v wr => ∃ i : Nat, i ≤ 8 ∧ v = .int .i64 i ∧ Below V0.heap.size V0 wr) (fun v _ => 8 - (intOf v).toNat)
  case atStart => exact ⟨0, by omega, rfl, Below.refl _ _⟩
  case round =>
    obtain ⟨i, hi, rfl, hW⟩ := hrel
    by_cases hi8 : i < 8
    · skip
      obtain ⟨px, pA, pl, pc, _, Hp'⟩ := val_cells LA0 (hl8'.out ▸ hi8)
      obtain ⟨pk, pn, pix, pu, ps, pm⟩ := px
      unfold VrAt at Hp'
      simp only at Hp'
      have Hp := Lib.hid Hp'
      clear Hp'
      have ii : (i : Int) < 8 := by omega
      have i0 : (0 : Int) ≤ (i : Int) := by omega
      go_wp2_with fail
      obtain ⟨wo, rfl⟩ : ∃ wo, wo = wr := ⟨_, rfl⟩
      go_loopw [15] (fun v wr => ∃ k : Nat, k ≤ 8 ∧ v = .int .i64 k ∧ Below V0.heap.size V0 wr) (fun v _ => 8 - (intOf v).toNat)
      case atStart => exact ⟨0, by omega, rfl, hW⟩
      case round =>
        clear hW
        obtain ⟨k, hk, rfl, hW⟩ := hrel
        by_cases hk8 : k < 8
        · skip
          obtain ⟨qx, qA, ql, qc, _, Hq'⟩ := val_cells LA0 (hl8'.out ▸ hk8)
          obtain ⟨qk, qn, qix, qu, qs, qm⟩ := qx
          unfold VrAt at Hq'
          simp only at Hq'
          have Hq := Lib.hid Hq'
          clear Hq'
          have kk : (k : Int) < 8 := by omega
          have k0 : (0 : Int) ≤ (k : Int) := by omega
          obtain ⟨z, hz⟩ : ∃ z, z = vaCmp (⟨pk, pn, pix, pu, ps, pm⟩ : Va) (⟨qk, qn, qix, qu, qs, qm⟩ : Va) := ⟨_, rfl⟩
          obtain ⟨z2, hz2⟩ : ∃ z, z = vaCmp (⟨qk, qn, qix, qu, qs, qm⟩ : Va) (⟨pk, pn, pix, pu, ps, pm⟩ : Va) := ⟨_, rfl⟩
          have hneg : IntKind.i64.wrap (-z) = z2 := by rw [hz, hz2]; exact neg_wrap
          have HZ := Lib.hid hz.symm
          have HZ2 := Lib.hid hz2.symm
          clear hz hz2
          have HF1 := Lib.hid (show ∀ W, Below V0.heap.size V0 W → (fun W : World => (W.cell? ⟨BA, i * 6, none⟩ = some (.int .i64 pk) ∧ W.cell? ⟨BA, i * 6 + 1, none⟩ = some (.int .i64 pn) ∧ W.cell? ⟨BA, i * 6 + 2, none⟩ = some (.int .i64 pix) ∧ W.cell? ⟨BA, i * 6 + 3, none⟩ = some (.int .u64 pu) ∧ W.cell? ⟨BA, i * 6 + 4, none⟩ = some (.string ps) ∧ W.cell? ⟨BA, i * 6 + 5, none⟩ = some (.slice pA pl pc)) ∧ W.cell? ⟨BA, k * 6, none⟩ = some (.int .i64 qk) ∧ W.cell? ⟨BA, k * 6 + 1, none⟩ = some (.int .i64 qn) ∧ W.cell? ⟨BA, k * 6 + 2, none⟩ = some (.int .i64 qix) ∧ W.cell? ⟨BA, k * 6 + 3, none⟩ = some (.int .u64 qu) ∧ W.cell? ⟨BA, k * 6 + 4, none⟩ = some (.string qs) ∧ W.cell? ⟨BA, k * 6 + 5, none⟩ = some (.slice qA ql qc)) W from fun W h => ⟨(Hp.out W h).1, (Hq.out W h).1⟩)
          have hd : Below V0.heap.size V0 wr.drew := hW.drew
          go_wp2_with fail
          refine wp_region_held_drew (S := fun W => (W.cell? ⟨BA, i * 6, none⟩ = some (.int .i64 pk) ∧ W.cell? ⟨BA, i * 6 + 1, none⟩ = some (.int .i64 pn) ∧ W.cell? ⟨BA, i * 6 + 2, none⟩ = some (.int .i64 pix) ∧ W.cell? ⟨BA, i * 6 + 3, none⟩ = some (.int .u64 pu) ∧ W.cell? ⟨BA, i * 6 + 4, none⟩ = some (.string ps) ∧ W.cell? ⟨BA, i * 6 + 5, none⟩ = some (.slice pA pl pc)) ∧ W.cell? ⟨BA, k * 6, none⟩ = some (.int .i64 qk) ∧ W.cell? ⟨BA, k * 6 + 1, none⟩ = some (.int .i64 qn) ∧ W.cell? ⟨BA, k * 6 + 2, none⟩ = some (.int .i64 qix) ∧ W.cell? ⟨BA, k * 6 + 3, none⟩ = some (.int .u64 qu) ∧ W.cell? ⟨BA, k * 6 + 4, none⟩ = some (.string qs) ∧ W.cell? ⟨BA, k * 6 + 5, none⟩ = some (.slice qA ql qc)) (by kernel_rfl) (HF1.out _ hd) (fun hHeld => ?_)
          (try simp only [List.size_toArray, List.length_cons, List.length_nil, Nat.zero_add, Nat.reduceAdd])
          refine wpAnyH_takeL (i := 0) (v := ?v1) rfl (by kernel_rfl) (by kernel_rfl) (by kernel_rfl) (fun _ _ _ h => h) (Or.inl ⟨by rfl, ?y1⟩) (by assumption) ?r1
          case y1 => (intro W hSw; (try dsimp only at hSw); go_simp; try with_reducible rfl)
          (try simp only [Act.put, List.setIfInBounds_toArray, List.set_cons_zero, List.set_cons_succ])
          refine wpAnyH_takeL (i := 1) (v := ?v2) rfl (by kernel_rfl) (by kernel_rfl) (by kernel_rfl) (fun _ _ _ h => h) (Or.inl ⟨by rfl, ?y2⟩) (by assumption) ?r2
          case y2 => (intro W hSw; (try dsimp only at hSw); go_simp; try with_reducible rfl)
          (try simp only [Act.put, List.setIfInBounds_toArray, List.set_cons_zero, List.set_cons_succ])
          refine wpAnyH_takeL (i := 2) (v := ?v3) rfl (by kernel_rfl) (by kernel_rfl) (by kernel_rfl) (fun _ _ _ h => h) (Or.inl ⟨by rfl, ?y3⟩) (by assumption) ?r3
          case y3 => (intro W hSw; (try dsimp only at hSw); go_simp; try with_reducible rfl)
          (try simp only [Act.put, List.setIfInBounds_toArray, List.set_cons_zero, List.set_cons_succ])
          refine wpAnyH_takeL (i := 3) (v := ?v4) rfl (by kernel_rfl) (by kernel_rfl) (by kernel_rfl) (fun _ _ _ h => h) (Or.inl ⟨by rfl, ?y4⟩) (by assumption) ?r4
          case y4 => (intro W hSw; (try dsimp only at hSw); go_simp; try with_reducible rfl)
          (try simp only [Act.put, List.setIfInBounds_toArray, List.set_cons_zero, List.set_cons_succ])
          refine wpAnyH_takeL (i := 5) (v := ?v5) rfl (by kernel_rfl) (by kernel_rfl) (by kernel_rfl) (fun _ _ _ h => h) (Or.inl ⟨by rfl, ?y5⟩) (by assumption) ?r5
          case y5 => (intro W hSw; (try dsimp only at hSw); go_simp; try with_reducible rfl)
          (try simp only [Act.put, List.setIfInBounds_toArray, List.set_cons_zero, List.set_cons_succ])
          refine wpAnyH_takeL (i := 6) (v := ?v6) rfl (by kernel_rfl) (by kernel_rfl) (by kernel_rfl) (fun _ _ _ h => h) (Or.inl ⟨by rfl, ?y6⟩) (by assumption) ?r6
          case y6 => (intro W hSw; (try dsimp only at hSw); go_simp; try with_reducible rfl)
          (try simp only [Act.put, List.setIfInBounds_toArray, List.set_cons_zero, List.set_cons_succ])
          refine wpAnyH_takeL (i := 7) (v := ?v7) rfl (by kernel_rfl) (by kernel_rfl) (by kernel_rfl) (fun _ _ _ h => h) (Or.inl ⟨by rfl, ?y7⟩) (by assumption) ?r7
          case y7 => (intro W hSw; (try dsimp only at hSw); go_simp; try with_reducible rfl)
          (try simp only [Act.put, List.setIfInBounds_toArray, List.set_cons_zero, List.set_cons_succ])
          refine wpAnyH_takeL (i := 8) (v := ?v8) rfl (by kernel_rfl) (by kernel_rfl) (by kernel_rfl) (fun _ _ _ h => h) (Or.inl ⟨by rfl, ?y8⟩) (by assumption) ?r8
          case y8 => (intro W hSw; (try dsimp only at hSw); go_simp; try with_reducible rfl)
          (try simp only [Act.put, List.setIfInBounds_toArray, List.set_cons_zero, List.set_cons_succ])
          refine wpAnyH_ready (rs := [4]) (by kernel_rfl) (by simp) ?_
          refine consL rfl (fun K hK => ?_) AllReadyH.nil
          go_simp
          refine Calls.mono (l6own_any (⟨pk, pn, pix, pu, ps, pm⟩ : Va) _ _ (Hp.out _ hd).2) ?_
          rintro e w1 ⟨v1, rfl, hv1, h1⟩
          have g1 := hd.trans (h1.mono hd.size)
          (try dsimp only)
          refine hK.out _ _ (HF1.out _ g1) (fun hHeld => ?_)
          clear hK K
          (try simp only [Act.put, List.setIfInBounds_toArray, List.set_cons_zero, List.set_cons_succ])
          refine wpAnyH_ready (rs := [9]) (by kernel_rfl) (by simp) ?_
          refine consL rfl (fun K hK => ?_) AllReadyH.nil
          go_simp
          refine Calls.mono (l6own_any (⟨qk, qn, qix, qu, qs, qm⟩ : Va) _ _ (Hq.out _ g1).2) ?_
          rintro e w2 ⟨v2, rfl, hv2, h2⟩
          have g2 := g1.trans (h2.mono g1.size)
          (try dsimp only)
          refine hK.out _ _ (HF1.out _ g2) (fun hHeld => ?_)
          clear hK K
          (try simp only [Act.put, List.setIfInBounds_toArray, List.set_cons_zero, List.set_cons_succ])
          refine wpAnyH_ready (rs := [10]) (by kernel_rfl) (by simp) ?_
          refine consL rfl (fun K hK => ?_) AllReadyH.nil
          go_simp
          refine Calls.mono (vCompare_any (⟨pk, pn, pix, pu, ps, pm⟩ : Va) (⟨qk, qn, qix, qu, qs, qm⟩ : Va) v1 v2 _ (va_lo hv1 h2) (hv2.sub (fun b hb => hb.2))) ?_
          rw [HZ.out]
          rintro e w3 ⟨rfl, h3⟩
          have g3 := g2.trans (h3.mono g2.size)
          (try dsimp only)
          refine hK.out _ _ (HF1.out _ g3) (fun hHeld => ?_)
          clear hK K
          (try simp only [Act.put, List.setIfInBounds_toArray, List.set_cons_zero, List.set_cons_succ])
          refine wpAnyH_takeL (i := 11) (v := ?v9) rfl (by kernel_rfl) (by kernel_rfl) (by kernel_rfl) (fun _ _ _ h => h) (Or.inl ⟨by rfl, ?y9⟩) (by assumption) ?r9
          case y9 => (intro W hSw; (try dsimp only at hSw); go_simp; try with_reducible rfl)
          (try simp only [Act.put, List.setIfInBounds_toArray, List.set_cons_zero, List.set_cons_succ])
          refine wpAnyH_done (by kernel_rfl) ?_ _
          clear hd hv1 hv2 h1 h2 h3 g1 g2
          have hd : Below V0.heap.size V0 w3.drew := g3.drew
          go_wp2_with fail
          refine wp_region_held_drew (S := fun W => (W.cell? ⟨BA, i * 6, none⟩ = some (.int .i64 pk) ∧ W.cell? ⟨BA, i * 6 + 1, none⟩ = some (.int .i64 pn) ∧ W.cell? ⟨BA, i * 6 + 2, none⟩ = some (.int .i64 pix) ∧ W.cell? ⟨BA, i * 6 + 3, none⟩ = some (.int .u64 pu) ∧ W.cell? ⟨BA, i * 6 + 4, none⟩ = some (.string ps) ∧ W.cell? ⟨BA, i * 6 + 5, none⟩ = some (.slice pA pl pc)) ∧ W.cell? ⟨BA, k * 6, none⟩ = some (.int .i64 qk) ∧ W.cell? ⟨BA, k * 6 + 1, none⟩ = some (.int .i64 qn) ∧ W.cell? ⟨BA, k * 6 + 2, none⟩ = some (.int .i64 qix) ∧ W.cell? ⟨BA, k * 6 + 3, none⟩ = some (.int .u64 qu) ∧ W.cell? ⟨BA, k * 6 + 4, none⟩ = some (.string qs) ∧ W.cell? ⟨BA, k * 6 + 5, none⟩ = some (.slice qA ql qc)) (by kernel_rfl) (HF1.out _ hd) (fun hHeld => ?_)
          (try simp only [List.size_toArray, List.length_cons, List.length_nil, Nat.zero_add, Nat.reduceAdd])
          refine wpAnyH_takeL (i := 0) (v := ?v10) rfl (by kernel_rfl) (by kernel_rfl) (by kernel_rfl) (fun _ _ _ h => h) (Or.inl ⟨by rfl, ?y10⟩) (by assumption) ?r10
          case y10 => (intro W hSw; (try dsimp only at hSw); go_simp; try with_reducible rfl)
          (try simp only [Act.put, List.setIfInBounds_toArray, List.set_cons_zero, List.set_cons_succ])
          refine wpAnyH_takeL (i := 1) (v := ?v11) rfl (by kernel_rfl) (by kernel_rfl) (by kernel_rfl) (fun _ _ _ h => h) (Or.inl ⟨by rfl, ?y11⟩) (by assumption) ?r11
          case y11 => (intro W hSw; (try dsimp only at hSw); go_simp; try with_reducible rfl)
          (try simp only [Act.put, List.setIfInBounds_toArray, List.set_cons_zero, List.set_cons_succ])
          refine wpAnyH_takeL (i := 2) (v := ?v12) rfl (by kernel_rfl) (by kernel_rfl) (by kernel_rfl) (fun _ _ _ h => h) (Or.inl ⟨by rfl, ?y12⟩) (by assumption) ?r12
          case y12 => (intro W hSw; (try dsimp only at hSw); go_simp; try with_reducible rfl)
          (try simp only [Act.put, List.setIfInBounds_toArray, List.set_cons_zero, List.set_cons_succ])
          refine wpAnyH_takeL (i := 3) (v := ?v13) rfl (by kernel_rfl) (by kernel_rfl) (by kernel_rfl) (fun _ _ _ h => h) (Or.inl ⟨by rfl, ?y13⟩) (by assumption) ?r13
          case y13 => (intro W hSw; (try dsimp only at hSw); go_simp; try with_reducible rfl)
          (try simp only [Act.put, List.setIfInBounds_toArray, List.set_cons_zero, List.set_cons_succ])
          refine wpAnyH_takeL (i := 4) (v := ?v14) rfl (by kernel_rfl) (by kernel_rfl) (by kernel_rfl) (fun _ _ _ h => h) (Or.inl ⟨by rfl, ?y14⟩) (by assumption) ?r14
          case y14 => (intro W hSw; (try dsimp only at hSw); go_simp; try with_reducible rfl)
          (try simp only [Act.put, List.setIfInBounds_toArray, List.set_cons_zero, List.set_cons_succ])
          refine wpAnyH_takeL (i := 5) (v := ?v15) rfl (by kernel_rfl) (by kernel_rfl) (by kernel_rfl) (fun _ _ _ h => h) (Or.inl ⟨by rfl, ?y15⟩) (by assumption) ?r15
          case y15 => (intro W hSw; (try dsimp only at hSw); go_simp; try with_reducible rfl)
          (try simp only [Act.put, List.setIfInBounds_toArray, List.set_cons_zero, List.set_cons_succ])
          refine wpAnyH_takeL (i := 6) (v := ?v16) rfl (by kernel_rfl) (by kernel_rfl) (by kernel_rfl) (fun _ _ _ h => h) (Or.inl ⟨by rfl, ?y16⟩) (by assumption) ?r16
          case y16 => (intro W hSw; (try dsimp only at hSw); go_simp; try with_reducible rfl)
          (try simp only [Act.put, List.setIfInBounds_toArray, List.set_cons_zero, List.set_cons_succ])
          refine wpAnyH_takeL (i := 7) (v := ?v17) rfl (by kernel_rfl) (by kernel_rfl) (by kernel_rfl) (fun _ _ _ h => h) (Or.inl ⟨by rfl, ?y17⟩) (by assumption) ?r17
          case y17 => (intro W hSw; (try dsimp only at hSw); go_simp; try with_reducible rfl)
          (try simp only [Act.put, List.setIfInBounds_toArray, List.set_cons_zero, List.set_cons_succ])
          refine wpAnyH_takeL (i := 8) (v := ?v18) rfl (by kernel_rfl) (by kernel_rfl) (by kernel_rfl) (fun _ _ _ h => h) (Or.inl ⟨by rfl, ?y18⟩) (by assumption) ?r18
          case y18 => (intro W hSw; (try dsimp only at hSw); go_simp; try with_reducible rfl)
          (try simp only [Act.put, List.setIfInBounds_toArray, List.set_cons_zero, List.set_cons_succ])
          refine wpAnyH_ready (rs := [9]) (by kernel_rfl) (by simp) ?_
          refine consL rfl (fun K hK => ?_) AllReadyH.nil
          go_simp
          refine Calls.mono (r6Compare_any (⟨pk, pn, pix, pu, ps, pm⟩ : Va) (⟨qk, qn, qix, qu, qs, qm⟩ : Va) _ _ _ (Hp.out _ hd).2 (Hq.out _ hd).2) ?_
          rw [HZ.out]
          rintro e w4 ⟨rfl, h4⟩
          have g4 := hd.trans (h4.mono hd.size)
          (try dsimp only)
          refine hK.out _ _ (HF1.out _ g4) (fun hHeld => ?_)
          clear hK K
          (try simp only [Act.put, List.setIfInBounds_toArray, List.set_cons_zero, List.set_cons_succ])
          refine wpAnyH_takeL (i := 10) (v := ?v19) rfl (by kernel_rfl) (by kernel_rfl) (by kernel_rfl) (fun _ _ _ h => h) (Or.inl ⟨by rfl, ?y19⟩) (by assumption) ?r19
          case y19 => (intro W hSw; (try dsimp only at hSw); go_simp; try with_reducible rfl)
          (try simp only [Act.put, List.setIfInBounds_toArray, List.set_cons_zero, List.set_cons_succ])
          refine wpAnyH_takeL (i := 11) (v := ?v20) rfl (by kernel_rfl) (by kernel_rfl) (by kernel_rfl) (fun _ _ _ h => h) (Or.inl ⟨by rfl, ?y20⟩) (by assumption) ?r20
          case y20 => (intro W hSw; (try dsimp only at hSw); go_simp; try with_reducible rfl)
          (try simp only [Act.put, List.setIfInBounds_toArray, List.set_cons_zero, List.set_cons_succ])
          refine wpAnyH_takeL (i := 12) (v := ?v21) rfl (by kernel_rfl) (by kernel_rfl) (by kernel_rfl) (fun _ _ _ h => h) (Or.inl ⟨by rfl, ?y21⟩) (by assumption) ?r21
          case y21 => (intro W hSw; (try dsimp only at hSw); go_simp; try with_reducible rfl)
          (try simp only [Act.put, List.setIfInBounds_toArray, List.set_cons_zero, List.set_cons_succ])
          refine wpAnyH_takeL (i := 13) (v := ?v22) rfl (by kernel_rfl) (by kernel_rfl) (by kernel_rfl) (fun _ _ _ h => h) (Or.inl ⟨by rfl, ?y22⟩) (by assumption) ?r22
          case y22 => (intro W hSw; (try dsimp only at hSw); go_simp; try with_reducible rfl)
          (try simp only [Act.put, List.setIfInBounds_toArray, List.set_cons_zero, List.set_cons_succ])
          refine wpAnyH_takeL (i := 14) (v := ?v23) rfl (by kernel_rfl) (by kernel_rfl) (by kernel_rfl) (fun _ _ _ h => h) (Or.inl ⟨by rfl, ?y23⟩) (by assumption) ?r23
          case y23 => (intro W hSw; (try dsimp only at hSw); go_simp; try with_reducible rfl)
          (try simp only [Act.put, List.setIfInBounds_toArray, List.set_cons_zero, List.set_cons_succ])
          refine wpAnyH_takeL (i := 15) (v := ?v24) rfl (by kernel_rfl) (by kernel_rfl) (by kernel_rfl) (fun _ _ _ h => h) (Or.inl ⟨by rfl, ?y24⟩) (by assumption) ?r24
          case y24 => (intro W hSw; (try dsimp only at hSw); go_simp; try with_reducible rfl)
          (try simp only [Act.put, List.setIfInBounds_toArray, List.set_cons_zero, List.set_cons_succ])
          refine wpAnyH_takeL (i := 17) (v := ?v25) rfl (by kernel_rfl) (by kernel_rfl) (by kernel_rfl) (fun _ _ _ h => h) (Or.inl ⟨by rfl, ?y25⟩) (by assumption) ?r25
          case y25 => (intro W hSw; (try dsimp only at hSw); go_simp; try with_reducible rfl)
          (try simp only [Act.put, List.setIfInBounds_toArray, List.set_cons_zero, List.set_cons_succ])
          refine wpAnyH_takeL (i := 18) (v := ?v26) rfl (by kernel_rfl) (by kernel_rfl) (by kernel_rfl) (fun _ _ _ h => h) (Or.inl ⟨by rfl, ?y26⟩) (by assumption) ?r26
          case y26 => (intro W hSw; (try dsimp only at hSw); go_simp; try with_reducible rfl)
          (try simp only [Act.put, List.setIfInBounds_toArray, List.set_cons_zero, List.set_cons_succ])
          refine wpAnyH_takeL (i := 19) (v := ?v27) rfl (by kernel_rfl) (by kernel_rfl) (by kernel_rfl) (fun _ _ _ h => h) (Or.inl ⟨by rfl, ?y27⟩) (by assumption) ?r27
          case y27 => (intro W hSw; (try dsimp only at hSw); go_simp; try with_reducible rfl)
          (try simp only [Act.put, List.setIfInBounds_toArray, List.set_cons_zero, List.set_cons_succ])
          refine wpAnyH_takeL (i := 20) (v := ?v28) rfl (by kernel_rfl) (by kernel_rfl) (by kernel_rfl) (fun _ _ _ h => h) (Or.inl ⟨by rfl, ?y28⟩) (by assumption) ?r28
          case y28 => (intro W hSw; (try dsimp only at hSw); go_simp; try with_reducible rfl)
          (try simp only [Act.put, List.setIfInBounds_toArray, List.set_cons_zero, List.set_cons_succ])
          refine wpAnyH_takeL (i := 23) (v := ?v29) rfl (by kernel_rfl) (by kernel_rfl) (by kernel_rfl) (fun _ _ _ h => h) (Or.inl ⟨by rfl, ?y29⟩) (by assumption) ?r29
          case y29 => (intro W hSw; (try dsimp only at hSw); go_simp; try with_reducible rfl)
          (try simp only [Act.put, List.setIfInBounds_toArray, List.set_cons_zero, List.set_cons_succ])
          refine wpAnyH_takeL (i := 24) (v := ?v30) rfl (by kernel_rfl) (by kernel_rfl) (by kernel_rfl) (fun _ _ _ h => h) (Or.inl ⟨by rfl, ?y30⟩) (by assumption) ?r30
          case y30 => (intro W hSw; (try dsimp only at hSw); go_simp; try with_reducible rfl)
          (try simp only [Act.put, List.setIfInBounds_toArray, List.set_cons_zero, List.set_cons_succ])
          refine wpAnyH_ready (rs := [16]) (by kernel_rfl) (by simp) ?_
          refine consL rfl (fun K hK => ?_) AllReadyH.nil
          go_simp
          refine Calls.mono (l6own_any (⟨qk, qn, qix, qu, qs, qm⟩ : Va) _ _ (Hq.out _ g4).2) ?_
          rintro e w1 ⟨v1, rfl, hv1, h1⟩
          have g1 := g4.trans (h1.mono g4.size)
          (try dsimp only)
          refine hK.out _ _ (HF1.out _ g1) (fun hHeld => ?_)
          clear hK K
          (try simp only [Act.put, List.setIfInBounds_toArray, List.set_cons_zero, List.set_cons_succ])
          refine wpAnyH_ready (rs := [21]) (by kernel_rfl) (by simp) ?_
          refine consL rfl (fun K hK => ?_) AllReadyH.nil
          go_simp
          refine Calls.mono (l6own_any (⟨pk, pn, pix, pu, ps, pm⟩ : Va) _ _ (Hp.out _ g1).2) ?_
          rintro e w2 ⟨v2, rfl, hv2, h2⟩
          have g2 := g1.trans (h2.mono g1.size)
          (try dsimp only)
          refine hK.out _ _ (HF1.out _ g2) (fun hHeld => ?_)
          clear hK K
          (try simp only [Act.put, List.setIfInBounds_toArray, List.set_cons_zero, List.set_cons_succ])
          refine wpAnyH_ready (rs := [22]) (by kernel_rfl) (by simp) ?_
          refine consL rfl (fun K hK => ?_) AllReadyH.nil
          go_simp
          refine Calls.mono (vCompare_any (⟨qk, qn, qix, qu, qs, qm⟩ : Va) (⟨pk, pn, pix, pu, ps, pm⟩ : Va) v1 v2 _ (va_lo hv1 h2) (hv2.sub (fun b hb => hb.2))) ?_
          rw [HZ2.out]
          rintro e w5 ⟨rfl, h5⟩
          have g5 := g2.trans (h5.mono g2.size)
          (try dsimp only)
          refine hK.out _ _ (HF1.out _ g5) (fun hHeld => ?_)
          clear hK K
          (try simp only [Act.put, List.setIfInBounds_toArray, List.set_cons_zero, List.set_cons_succ])
          refine wpAnyH_takeL (i := 25) (v := ?v31) rfl (by kernel_rfl) (by kernel_rfl) (by kernel_rfl) (fun _ _ _ h => h) (Or.inl ⟨by rfl, ?y31⟩) (by assumption) ?r31
          case y31 => (intro W hSw; (try dsimp only at hSw); go_simp; try with_reducible rfl)
          (try simp only [Act.put, List.setIfInBounds_toArray, List.set_cons_zero, List.set_cons_succ])
          refine wpAnyH_takeL (i := 26) (v := ?v32) rfl (by kernel_rfl) (by kernel_rfl) (by kernel_rfl) (fun _ _ _ h => h) (Or.inl ⟨by rfl, ?y32⟩) (by assumption) ?r32
          case y32 => (intro W hSw; (try dsimp only at hSw); go_simp; try with_reducible rfl)
          (try simp only [Act.put, List.setIfInBounds_toArray, List.set_cons_zero, List.set_cons_succ])
          refine wpAnyH_done (by kernel_rfl) ?_ _
          clear hd hv1 hv2 h1 h2 h4 h5 g1 g2 g3 g4 hneg HZ2
          obtain ⟨p0, p1, p2, p3, p4, p5⟩ := (HF1.out _ g5).1
          go_wp2_with fail
          clear p0 p1 p2 p3 p4 p5
          refine Calls.mono (l6own_any (⟨pk, pn, pix, pu, ps, pm⟩ : Va) _ _ (Hp.out _ g5).2) ?_
          rintro e w6 ⟨v6, rfl, hv6, h6⟩
          have g6 := g5.trans (h6.mono g5.size)
          go_wp2_with fail
          refine Calls.mono (vEncode_any (⟨pk, pn, pix, pu, ps, pm⟩ : Va) _ _ (hv6.sub (fun b hb => hb.2))) ?_
          rintro e w7 ⟨hE1, hE2, h7⟩
          have g7 := g6.trans (h7.mono g6.size)
          obtain ⟨EP, hEP⟩ : ∃ z, z = valE (⟨pk, pn, pix, pu, ps, pm⟩ : Va) := ⟨_, rfl⟩
          obtain ⟨EQ, hEQ⟩ : ∃ z, z = valE (⟨qk, qn, qix, qu, qs, qm⟩ : Va) := ⟨_, rfl⟩
          rw [← hEP] at hE1 hE2
          have HOK := Lib.hid (And.intro (Hp.out _ g5).2.1 (Hq.out _ g5).2.1)
          clear hEP hv6 h6
          by_cases hP0 : EP = 0
          · obtain ⟨A7, c7, rfl, hc7, hA7, hr7⟩ := hE1 hP0
            subst hP0
            clear hE1 hE2
            have HLN := Lib.hid (show (encV (⟨pk, pn, pix, pu, ps, pm⟩ : Va)).length ≤ 140737488351232 from enc_small HOK.out.1)
            obtain ⟨q0, q1, q2, q3, q4, q5⟩ := (HF1.out _ g7).2
            go_wp2_with fail
            clear q0 q1 q2 q3 q4 q5
            refine Calls.mono (l6own_any (⟨qk, qn, qix, qu, qs, qm⟩ : Va) _ _ (Hq.out _ g7).2) ?_
            rintro e w8 ⟨v8, rfl, hv8, h8⟩
            have g8 := g7.trans (h8.mono g7.size)
            go_wp2_with fail
            refine Calls.mono (vEncode_any (⟨qk, qn, qix, qu, qs, qm⟩ : Va) _ _ (hv8.sub (fun b hb => hb.2))) ?_
            rintro e w9 ⟨hF1, hF2, h9⟩
            have g9 := g8.trans (h9.mono g8.size)
            rw [← hEQ] at hF1 hF2
            clear hEQ hv8
            by_cases hQ0 : EQ = 0
            · obtain ⟨A9, c9, rfl, hc9, hA9, hr9⟩ := hF1 hQ0
              subst hQ0
              clear hF1 hF2
              obtain ⟨np, hnp⟩ : ∃ z, z = (encV (⟨pk, pn, pix, pu, ps, pm⟩ : Va)).length := ⟨_, rfl⟩
              obtain ⟨nq, hnq⟩ : ∃ z, z = (encV (⟨qk, qn, qix, qu, qs, qm⟩ : Va)).length := ⟨_, rfl⟩
              have hSm := same_any A7 A9 np nq c7 c9 _ _ w9 hnp hnq HLN.out ((hr7.below (h8.trans (h9.mono h8.size))).mono (h8.trans (h9.mono h8.size)).size) hr9
              rw [show decide (encV (⟨pk, pn, pix, pu, ps, pm⟩ : Va) = encV (⟨qk, qn, qix, qu, qs, qm⟩ : Va)) = (z == 0) from by
                rw [← HZ.out]
                rw [Bool.eq_iff_iff, decide_eq_true_iff, beq_iff_eq, vaCmp_zero]
                exact ⟨fun e => enc_inj HOK.out.1 HOK.out.2 e, fun e => by rw [e]⟩] at hSm
              rw [← hnq]
              rw [← hnp]
              clear hnp hnq hr7 hr9 hc7 hc9 hA7 hA9 h8 h9
              go_wp2_with fail
              refine Calls.mono hSm ?_
              clear hSm
              rintro e w10 ⟨rfl, h10'⟩
              have gX := g9.trans (h10'.mono g9.size)
              clear h10' g5 g6 g7 g8 g9
              go_wp2_with fail
              obtain ⟨wk, rfl⟩ : ∃ wk, wk = wr := ⟨_, rfl⟩
              go_loopw [21] (fun v wr => ∃ j : Nat, j ≤ 8 ∧ v = .int .i64 j ∧ Below V0.heap.size V0 wr) (fun v _ => 8 - (intOf v).toNat)
              case atStart => exact ⟨0, by omega, rfl, gX⟩
              case round =>
                clear gX
                obtain ⟨j, hj, rfl, hJ⟩ := hrel
                by_cases hj8 : j < 8
                · skip
                  obtain ⟨rx, rA, rl, rc, _, Hr'⟩ := val_cells LA0 (hl8'.out ▸ hj8)
                  obtain ⟨rk, rn, rix, ru, rs, rm⟩ := rx
                  unfold VrAt at Hr'
                  simp only at Hr'
                  have Hr := Lib.hid Hr'
                  clear Hr'
                  have jj : (j : Int) < 8 := by omega
                  have j0 : (0 : Int) ≤ (j : Int) := by omega
                  obtain ⟨y, hy⟩ : ∃ y, y = vaCmp (⟨qk, qn, qix, qu, qs, qm⟩ : Va) (⟨rk, rn, rix, ru, rs, rm⟩ : Va) := ⟨_, rfl⟩
                  obtain ⟨t, ht⟩ : ∃ t, t = vaCmp (⟨pk, pn, pix, pu, ps, pm⟩ : Va) (⟨rk, rn, rix, ru, rs, rm⟩ : Va) := ⟨_, rfl⟩
                  have HTR := Lib.hid (show z ≤ 0 → y ≤ 0 → t ≤ 0 from by rw [← HZ.out, hy, ht]; exact va_cmp.tr _ _ _)
                  have HY := Lib.hid hy.symm
                  have HT := Lib.hid ht.symm
                  clear hy ht
                  have HF4 := Lib.hid (show ∀ W, Below V0.heap.size V0 W → (fun W : World => (W.cell? ⟨BA, i * 6, none⟩ = some (.int .i64 pk) ∧ W.cell? ⟨BA, i * 6 + 1, none⟩ = some (.int .i64 pn) ∧ W.cell? ⟨BA, i * 6 + 2, none⟩ = some (.int .i64 pix) ∧ W.cell? ⟨BA, i * 6 + 3, none⟩ = some (.int .u64 pu) ∧ W.cell? ⟨BA, i * 6 + 4, none⟩ = some (.string ps) ∧ W.cell? ⟨BA, i * 6 + 5, none⟩ = some (.slice pA pl pc)) ∧ (W.cell? ⟨BA, k * 6, none⟩ = some (.int .i64 qk) ∧ W.cell? ⟨BA, k * 6 + 1, none⟩ = some (.int .i64 qn) ∧ W.cell? ⟨BA, k * 6 + 2, none⟩ = some (.int .i64 qix) ∧ W.cell? ⟨BA, k * 6 + 3, none⟩ = some (.int .u64 qu) ∧ W.cell? ⟨BA, k * 6 + 4, none⟩ = some (.string qs) ∧ W.cell? ⟨BA, k * 6 + 5, none⟩ = some (.slice qA ql qc)) ∧ W.cell? ⟨BA, j * 6, none⟩ = some (.int .i64 rk) ∧ W.cell? ⟨BA, j * 6 + 1, none⟩ = some (.int .i64 rn) ∧ W.cell? ⟨BA, j * 6 + 2, none⟩ = some (.int .i64 rix) ∧ W.cell? ⟨BA, j * 6 + 3, none⟩ = some (.int .u64 ru) ∧ W.cell? ⟨BA, j * 6 + 4, none⟩ = some (.string rs) ∧ W.cell? ⟨BA, j * 6 + 5, none⟩ = some (.slice rA rl rc)) W from fun W h => ⟨(Hp.out W h).1, (Hq.out W h).1, (Hr.out W h).1⟩)
                  have hd : Below V0.heap.size V0 wr.drew := hJ.drew
                  go_wp2_with fail
                  by_cases hz0 : z ≤ 0
                  · have gz : decide (z ≤ 0) = true := decide_eq_true hz0
                    by_cases hy0 : y ≤ 0
                    · have gy : decide (y ≤ 0) = true := decide_eq_true hy0
                      have gt : decide (0 < t) = false := decide_eq_false (by have := HTR.out hz0 hy0; omega)
                      clear hz0 hy0
                      refine wp_region_held_drew (S := fun W => (W.cell? ⟨BA, i * 6, none⟩ = some (.int .i64 pk) ∧ W.cell? ⟨BA, i * 6 + 1, none⟩ = some (.int .i64 pn) ∧ W.cell? ⟨BA, i * 6 + 2, none⟩ = some (.int .i64 pix) ∧ W.cell? ⟨BA, i * 6 + 3, none⟩ = some (.int .u64 pu) ∧ W.cell? ⟨BA, i * 6 + 4, none⟩ = some (.string ps) ∧ W.cell? ⟨BA, i * 6 + 5, none⟩ = some (.slice pA pl pc)) ∧ (W.cell? ⟨BA, k * 6, none⟩ = some (.int .i64 qk) ∧ W.cell? ⟨BA, k * 6 + 1, none⟩ = some (.int .i64 qn) ∧ W.cell? ⟨BA, k * 6 + 2, none⟩ = some (.int .i64 qix) ∧ W.cell? ⟨BA, k * 6 + 3, none⟩ = some (.int .u64 qu) ∧ W.cell? ⟨BA, k * 6 + 4, none⟩ = some (.string qs) ∧ W.cell? ⟨BA, k * 6 + 5, none⟩ = some (.slice qA ql qc)) ∧ W.cell? ⟨BA, j * 6, none⟩ = some (.int .i64 rk) ∧ W.cell? ⟨BA, j * 6 + 1, none⟩ = some (.int .i64 rn) ∧ W.cell? ⟨BA, j * 6 + 2, none⟩ = some (.int .i64 rix) ∧ W.cell? ⟨BA, j * 6 + 3, none⟩ = some (.int .u64 ru) ∧ W.cell? ⟨BA, j * 6 + 4, none⟩ = some (.string rs) ∧ W.cell? ⟨BA, j * 6 + 5, none⟩ = some (.slice rA rl rc)) (by kernel_rfl) (HF4.out _ hd) (fun hHeld => ?_)
                      (try simp only [List.size_toArray, List.length_cons, List.length_nil, Nat.zero_add, Nat.reduceAdd])
                      refine wpAnyH_takeL (i := 0) (v := ?v33) rfl (by kernel_rfl) (by kernel_rfl) (by kernel_rfl) (fun _ _ _ h => h) (Or.inl ⟨by rfl, ?y33⟩) (by assumption) ?r33
                      case y33 => (intro W hSw; (try dsimp only at hSw); go_simp; try with_reducible rfl)
                      (try simp only [Act.put, List.setIfInBounds_toArray, List.set_cons_zero, List.set_cons_succ])
                      refine wpAnyH_takeL (i := 1) (v := ?v34) rfl (by kernel_rfl) (by kernel_rfl) (by kernel_rfl) (fun _ _ _ h => h) (Or.inl ⟨by rfl, ?y34⟩) (by assumption) ?r34
                      case y34 => (intro W hSw; (try dsimp only at hSw); go_simp; try with_reducible rfl)
                      (try simp only [Act.put, List.setIfInBounds_toArray, List.set_cons_zero, List.set_cons_succ])
                      refine wpAnyH_takeL (i := 2) (v := ?v35) rfl (by kernel_rfl) (by kernel_rfl) (by kernel_rfl) (fun _ _ _ h => h) (Or.inl ⟨by rfl, ?y35⟩) (by assumption) ?r35
                      case y35 => (intro W hSw; (try dsimp only at hSw); go_simp; try with_reducible rfl)
                      (try simp only [Act.put, List.setIfInBounds_toArray, List.set_cons_zero, List.set_cons_succ])
                      refine wpAnyH_takeL (i := 3) (v := ?v36) rfl (by kernel_rfl) (by kernel_rfl) (by kernel_rfl) (fun _ _ _ h => h) (Or.inl ⟨by rfl, ?y36⟩) (by assumption) ?r36
                      case y36 => (intro W hSw; (try dsimp only at hSw); go_simp; try with_reducible rfl)
                      (try simp only [Act.put, List.setIfInBounds_toArray, List.set_cons_zero, List.set_cons_succ])
                      refine wpAnyH_takeL (i := 4) (v := ?v37) rfl (by kernel_rfl) (by kernel_rfl) (by kernel_rfl) (fun _ _ _ h => h) (Or.inl ⟨by rfl, ?y37⟩) (by assumption) ?r37
                      case y37 => (intro W hSw; (try dsimp only at hSw); go_simp; try with_reducible rfl)
                      (try simp only [Act.put, List.setIfInBounds_toArray, List.set_cons_zero, List.set_cons_succ])
                      refine wpAnyH_takeL (i := 5) (v := ?v38) rfl (by kernel_rfl) (by kernel_rfl) (by kernel_rfl) (fun _ _ _ h => h) (Or.inl ⟨by rfl, ?y38⟩) (by assumption) ?r38
                      case y38 => (intro W hSw; (try dsimp only at hSw); go_simp; try with_reducible rfl)
                      (try simp only [Act.put, List.setIfInBounds_toArray, List.set_cons_zero, List.set_cons_succ])
                      refine wpAnyH_takeL (i := 6) (v := ?v39) rfl (by kernel_rfl) (by kernel_rfl) (by kernel_rfl) (fun _ _ _ h => h) (Or.inl ⟨by rfl, ?y39⟩) (by assumption) ?r39
                      case y39 => (intro W hSw; (try dsimp only at hSw); go_simp; try with_reducible rfl)
                      (try simp only [Act.put, List.setIfInBounds_toArray, List.set_cons_zero, List.set_cons_succ])
                      refine wpAnyH_takeL (i := 8) (v := ?v40) rfl (by kernel_rfl) (by kernel_rfl) (by kernel_rfl) (fun _ _ _ h => h) (Or.inl ⟨by rfl, ?y40⟩) (by assumption) ?r40
                      case y40 => (intro W hSw; (try dsimp only at hSw); go_simp; try with_reducible rfl)
                      (try simp only [Act.put, List.setIfInBounds_toArray, List.set_cons_zero, List.set_cons_succ])
                      refine wpAnyH_takeL (i := 9) (v := ?v41) rfl (by kernel_rfl) (by kernel_rfl) (by kernel_rfl) (fun _ _ _ h => h) (Or.inl ⟨by rfl, ?y41⟩) (by assumption) ?r41
                      case y41 => (intro W hSw; (try dsimp only at hSw); go_simp; try with_reducible rfl)
                      (try simp only [Act.put, List.setIfInBounds_toArray, List.set_cons_zero, List.set_cons_succ])
                      refine wpAnyH_takeL (i := 10) (v := ?v42) rfl (by kernel_rfl) (by kernel_rfl) (by kernel_rfl) (fun _ _ _ h => h) (Or.inl ⟨by rfl, ?y42⟩) (by assumption) ?r42
                      case y42 => (intro W hSw; (try dsimp only at hSw); go_simp; try with_reducible rfl)
                      (try simp only [Act.put, List.setIfInBounds_toArray, List.set_cons_zero, List.set_cons_succ])
                      refine wpAnyH_takeL (i := 11) (v := ?v43) rfl (by kernel_rfl) (by kernel_rfl) (by kernel_rfl) (fun _ _ _ h => h) (Or.inl ⟨by rfl, ?y43⟩) (by assumption) ?r43
                      case y43 => (intro W hSw; (try dsimp only at hSw); go_simp; try with_reducible rfl)
                      (try simp only [Act.put, List.setIfInBounds_toArray, List.set_cons_zero, List.set_cons_succ])
                      refine wpAnyH_ready (rs := [7]) (by kernel_rfl) (by simp) ?_
                      refine consL rfl (fun K hK => ?_) AllReadyH.nil
                      go_simp
                      refine Calls.mono (l6own_any (⟨qk, qn, qix, qu, qs, qm⟩ : Va) _ _ (Hq.out _ hd).2) ?_
                      rintro e w1 ⟨v1, rfl, hv1, h1⟩
                      have g1 := hd.trans (h1.mono hd.size)
                      (try dsimp only)
                      refine hK.out _ _ (HF4.out _ g1) (fun hHeld => ?_)
                      clear hK K
                      (try simp only [Act.put, List.setIfInBounds_toArray, List.set_cons_zero, List.set_cons_succ])
                      refine wpAnyH_ready (rs := [12]) (by kernel_rfl) (by simp) ?_
                      refine consL rfl (fun K hK => ?_) AllReadyH.nil
                      go_simp
                      refine Calls.mono (l6own_any (⟨rk, rn, rix, ru, rs, rm⟩ : Va) _ _ (Hr.out _ g1).2) ?_
                      rintro e w2 ⟨v2, rfl, hv2, h2⟩
                      have g2 := g1.trans (h2.mono g1.size)
                      (try dsimp only)
                      refine hK.out _ _ (HF4.out _ g2) (fun hHeld => ?_)
                      clear hK K
                      (try simp only [Act.put, List.setIfInBounds_toArray, List.set_cons_zero, List.set_cons_succ])
                      refine wpAnyH_ready (rs := [13]) (by kernel_rfl) (by simp) ?_
                      refine consL rfl (fun K hK => ?_) AllReadyH.nil
                      go_simp
                      refine Calls.mono (vCompare_any (⟨qk, qn, qix, qu, qs, qm⟩ : Va) (⟨rk, rn, rix, ru, rs, rm⟩ : Va) v1 v2 _ (va_lo hv1 h2) (hv2.sub (fun b hb => hb.2))) ?_
                      rw [HY.out]
                      rintro e w3 ⟨rfl, h3⟩
                      have g3 := g2.trans (h3.mono g2.size)
                      (try dsimp only)
                      refine hK.out _ _ (HF4.out _ g3) (fun hHeld => ?_)
                      clear hK K
                      (try simp only [Act.put, List.setIfInBounds_toArray, List.set_cons_zero, List.set_cons_succ])
                      refine wpAnyH_takeL (i := 14) (v := ?v44) rfl (by kernel_rfl) (by kernel_rfl) (by kernel_rfl) (fun _ _ _ h => h) (Or.inl ⟨by rfl, ?y44⟩) (by assumption) ?r44
                      case y44 => (intro W hSw; (try dsimp only at hSw); go_simp; try with_reducible rfl)
                      (try simp only [Act.put, List.setIfInBounds_toArray, List.set_cons_zero, List.set_cons_succ])
                      refine wpAnyH_takeL (i := 15) (v := ?v45) rfl (by kernel_rfl) (by kernel_rfl) (by kernel_rfl) (fun _ _ _ h => h) (Or.inl ⟨by rfl, ?y45⟩) (by assumption) ?r45
                      case y45 => (intro W hSw; (try dsimp only at hSw); go_simp; try with_reducible rfl)
                      (try simp only [Act.put, List.setIfInBounds_toArray, List.set_cons_zero, List.set_cons_succ])
                      refine wpAnyH_takeL (i := 16) (v := ?v46) rfl (by kernel_rfl) (by kernel_rfl) (by kernel_rfl) (fun _ _ _ h => h) (Or.inl ⟨by rfl, ?y46⟩) (by assumption) ?r46
                      case y46 => (intro W hSw; (try dsimp only at hSw); go_simp; try with_reducible rfl)
                      (try simp only [Act.put, List.setIfInBounds_toArray, List.set_cons_zero, List.set_cons_succ])
                      refine wpAnyH_takeL (i := 17) (v := ?v47) rfl (by kernel_rfl) (by kernel_rfl) (by kernel_rfl) (fun _ _ _ h => h) (Or.inl ⟨by rfl, ?y47⟩) (by assumption) ?r47
                      case y47 => (intro W hSw; (try dsimp only at hSw); go_simp; try with_reducible rfl)
                      (try simp only [Act.put, List.setIfInBounds_toArray, List.set_cons_zero, List.set_cons_succ])
                      refine wpAnyH_takeL (i := 18) (v := ?v48) rfl (by kernel_rfl) (by kernel_rfl) (by kernel_rfl) (fun _ _ _ h => h) (Or.inl ⟨by rfl, ?y48⟩) (by assumption) ?r48
                      case y48 => (intro W hSw; (try dsimp only at hSw); go_simp; try with_reducible rfl)
                      (try simp only [Act.put, List.setIfInBounds_toArray, List.set_cons_zero, List.set_cons_succ])
                      refine wpAnyH_takeL (i := 19) (v := ?v49) rfl (by kernel_rfl) (by kernel_rfl) (by kernel_rfl) (fun _ _ _ h => h) (Or.inl ⟨by rfl, ?y49⟩) (by assumption) ?r49
                      case y49 => (intro W hSw; (try dsimp only at hSw); go_simp; try with_reducible rfl)
                      (try simp only [Act.put, List.setIfInBounds_toArray, List.set_cons_zero, List.set_cons_succ])
                      refine wpAnyH_takeL (i := 20) (v := ?v50) rfl (by kernel_rfl) (by kernel_rfl) (by kernel_rfl) (fun _ _ _ h => h) (Or.inl ⟨by rfl, ?y50⟩) (by assumption) ?r50
                      case y50 => (intro W hSw; (try dsimp only at hSw); go_simp; try with_reducible rfl)
                      (try simp only [Act.put, List.setIfInBounds_toArray, List.set_cons_zero, List.set_cons_succ])
                      refine wpAnyH_takeL (i := 22) (v := ?v51) rfl (by kernel_rfl) (by kernel_rfl) (by kernel_rfl) (fun _ _ _ h => h) (Or.inl ⟨by rfl, ?y51⟩) (by assumption) ?r51
                      case y51 => (intro W hSw; (try dsimp only at hSw); go_simp; try with_reducible rfl)
                      (try simp only [Act.put, List.setIfInBounds_toArray, List.set_cons_zero, List.set_cons_succ])
                      refine wpAnyH_takeL (i := 23) (v := ?v52) rfl (by kernel_rfl) (by kernel_rfl) (by kernel_rfl) (fun _ _ _ h => h) (Or.inl ⟨by rfl, ?y52⟩) (by assumption) ?r52
                      case y52 => (intro W hSw; (try dsimp only at hSw); go_simp; try with_reducible rfl)
                      (try simp only [Act.put, List.setIfInBounds_toArray, List.set_cons_zero, List.set_cons_succ])
                      refine wpAnyH_takeL (i := 24) (v := ?v53) rfl (by kernel_rfl) (by kernel_rfl) (by kernel_rfl) (fun _ _ _ h => h) (Or.inl ⟨by rfl, ?y53⟩) (by assumption) ?r53
                      case y53 => (intro W hSw; (try dsimp only at hSw); go_simp; try with_reducible rfl)
                      (try simp only [Act.put, List.setIfInBounds_toArray, List.set_cons_zero, List.set_cons_succ])
                      refine wpAnyH_takeL (i := 25) (v := ?v54) rfl (by kernel_rfl) (by kernel_rfl) (by kernel_rfl) (fun _ _ _ h => h) (Or.inl ⟨by rfl, ?y54⟩) (by assumption) ?r54
                      case y54 => (intro W hSw; (try dsimp only at hSw); go_simp; try with_reducible rfl)
                      (try simp only [Act.put, List.setIfInBounds_toArray, List.set_cons_zero, List.set_cons_succ])
                      refine wpAnyH_ready (rs := [21]) (by kernel_rfl) (by simp) ?_
                      refine consL rfl (fun K hK => ?_) AllReadyH.nil
                      go_simp
                      refine Calls.mono (l6own_any (⟨pk, pn, pix, pu, ps, pm⟩ : Va) _ _ (Hp.out _ g3).2) ?_
                      rintro e w4 ⟨v4, rfl, hv4, h4⟩
                      have g4 := g3.trans (h4.mono g3.size)
                      (try dsimp only)
                      refine hK.out _ _ (HF4.out _ g4) (fun hHeld => ?_)
                      clear hK K
                      (try simp only [Act.put, List.setIfInBounds_toArray, List.set_cons_zero, List.set_cons_succ])
                      refine wpAnyH_ready (rs := [26]) (by kernel_rfl) (by simp) ?_
                      refine consL rfl (fun K hK => ?_) AllReadyH.nil
                      go_simp
                      refine Calls.mono (l6own_any (⟨rk, rn, rix, ru, rs, rm⟩ : Va) _ _ (Hr.out _ g4).2) ?_
                      rintro e w5 ⟨v5, rfl, hv5, h5⟩
                      have g5 := g4.trans (h5.mono g4.size)
                      (try dsimp only)
                      refine hK.out _ _ (HF4.out _ g5) (fun hHeld => ?_)
                      clear hK K
                      (try simp only [Act.put, List.setIfInBounds_toArray, List.set_cons_zero, List.set_cons_succ])
                      refine wpAnyH_ready (rs := [27]) (by kernel_rfl) (by simp) ?_
                      refine consL rfl (fun K hK => ?_) AllReadyH.nil
                      go_simp
                      refine Calls.mono (vCompare_any (⟨pk, pn, pix, pu, ps, pm⟩ : Va) (⟨rk, rn, rix, ru, rs, rm⟩ : Va) v4 v5 _ (va_lo hv4 h5) (hv5.sub (fun b hb => hb.2))) ?_
                      rw [HT.out]
                      rintro e w6 ⟨rfl, h6⟩
                      have g6 := g5.trans (h6.mono g5.size)
                      (try dsimp only)
                      refine hK.out _ _ (HF4.out _ g6) (fun hHeld => ?_)
                      clear hK K
                      (try simp only [Act.put, List.setIfInBounds_toArray, List.set_cons_zero, List.set_cons_succ])
                      refine wpAnyH_takeL (i := 28) (v := ?v55) rfl (by kernel_rfl) (by kernel_rfl) (by kernel_rfl) (fun _ _ _ h => h) (Or.inl ⟨by rfl, ?y55⟩) (by assumption) ?r55
                      case y55 => (intro W hSw; (try dsimp only at hSw); go_simp; try with_reducible rfl)
                      (try simp only [Act.put, List.setIfInBounds_toArray, List.set_cons_zero, List.set_cons_succ])
                      refine wpAnyH_takeL (i := 29) (v := ?v56) rfl (by kernel_rfl) (by kernel_rfl) (by kernel_rfl) (fun _ _ _ h => h) (Or.inl ⟨by rfl, ?y56⟩) (by assumption) ?r56
                      case y56 => (intro W hSw; (try dsimp only at hSw); go_simp; try with_reducible rfl)
                      (try simp only [Act.put, List.setIfInBounds_toArray, List.set_cons_zero, List.set_cons_succ])
                      refine wpAnyH_done (by kernel_rfl) ?_ _
                      go_wp2_with fail
                      go_roundw
                      case rel => exact ⟨j + 1, by omega, by go_num, g6⟩
                      case measure => simp [intOf]; omega
                    · have gy : decide (y ≤ 0) = false := decide_eq_false hy0
                      clear hz0 hy0
                      refine wp_region_held_drew (S := fun W => (W.cell? ⟨BA, i * 6, none⟩ = some (.int .i64 pk) ∧ W.cell? ⟨BA, i * 6 + 1, none⟩ = some (.int .i64 pn) ∧ W.cell? ⟨BA, i * 6 + 2, none⟩ = some (.int .i64 pix) ∧ W.cell? ⟨BA, i * 6 + 3, none⟩ = some (.int .u64 pu) ∧ W.cell? ⟨BA, i * 6 + 4, none⟩ = some (.string ps) ∧ W.cell? ⟨BA, i * 6 + 5, none⟩ = some (.slice pA pl pc)) ∧ (W.cell? ⟨BA, k * 6, none⟩ = some (.int .i64 qk) ∧ W.cell? ⟨BA, k * 6 + 1, none⟩ = some (.int .i64 qn) ∧ W.cell? ⟨BA, k * 6 + 2, none⟩ = some (.int .i64 qix) ∧ W.cell? ⟨BA, k * 6 + 3, none⟩ = some (.int .u64 qu) ∧ W.cell? ⟨BA, k * 6 + 4, none⟩ = some (.string qs) ∧ W.cell? ⟨BA, k * 6 + 5, none⟩ = some (.slice qA ql qc)) ∧ W.cell? ⟨BA, j * 6, none⟩ = some (.int .i64 rk) ∧ W.cell? ⟨BA, j * 6 + 1, none⟩ = some (.int .i64 rn) ∧ W.cell? ⟨BA, j * 6 + 2, none⟩ = some (.int .i64 rix) ∧ W.cell? ⟨BA, j * 6 + 3, none⟩ = some (.int .u64 ru) ∧ W.cell? ⟨BA, j * 6 + 4, none⟩ = some (.string rs) ∧ W.cell? ⟨BA, j * 6 + 5, none⟩ = some (.slice rA rl rc)) (by kernel_rfl) (HF4.out _ hd) (fun hHeld => ?_)
                      (try simp only [List.size_toArray, List.length_cons, List.length_nil, Nat.zero_add, Nat.reduceAdd])
                      refine wpAnyH_takeL (i := 0) (v := ?v57) rfl (by kernel_rfl) (by kernel_rfl) (by kernel_rfl) (fun _ _ _ h => h) (Or.inl ⟨by rfl, ?y57⟩) (by assumption) ?r57
                      case y57 => (intro W hSw; (try dsimp only at hSw); go_simp; try with_reducible rfl)
                      (try simp only [Act.put, List.setIfInBounds_toArray, List.set_cons_zero, List.set_cons_succ])
                      refine wpAnyH_takeL (i := 1) (v := ?v58) rfl (by kernel_rfl) (by kernel_rfl) (by kernel_rfl) (fun _ _ _ h => h) (Or.inl ⟨by rfl, ?y58⟩) (by assumption) ?r58
                      case y58 => (intro W hSw; (try dsimp only at hSw); go_simp; try with_reducible rfl)
                      (try simp only [Act.put, List.setIfInBounds_toArray, List.set_cons_zero, List.set_cons_succ])
                      refine wpAnyH_takeL (i := 2) (v := ?v59) rfl (by kernel_rfl) (by kernel_rfl) (by kernel_rfl) (fun _ _ _ h => h) (Or.inl ⟨by rfl, ?y59⟩) (by assumption) ?r59
                      case y59 => (intro W hSw; (try dsimp only at hSw); go_simp; try with_reducible rfl)
                      (try simp only [Act.put, List.setIfInBounds_toArray, List.set_cons_zero, List.set_cons_succ])
                      refine wpAnyH_takeL (i := 3) (v := ?v60) rfl (by kernel_rfl) (by kernel_rfl) (by kernel_rfl) (fun _ _ _ h => h) (Or.inl ⟨by rfl, ?y60⟩) (by assumption) ?r60
                      case y60 => (intro W hSw; (try dsimp only at hSw); go_simp; try with_reducible rfl)
                      (try simp only [Act.put, List.setIfInBounds_toArray, List.set_cons_zero, List.set_cons_succ])
                      refine wpAnyH_takeL (i := 4) (v := ?v61) rfl (by kernel_rfl) (by kernel_rfl) (by kernel_rfl) (fun _ _ _ h => h) (Or.inl ⟨by rfl, ?y61⟩) (by assumption) ?r61
                      case y61 => (intro W hSw; (try dsimp only at hSw); go_simp; try with_reducible rfl)
                      (try simp only [Act.put, List.setIfInBounds_toArray, List.set_cons_zero, List.set_cons_succ])
                      refine wpAnyH_takeL (i := 5) (v := ?v62) rfl (by kernel_rfl) (by kernel_rfl) (by kernel_rfl) (fun _ _ _ h => h) (Or.inl ⟨by rfl, ?y62⟩) (by assumption) ?r62
                      case y62 => (intro W hSw; (try dsimp only at hSw); go_simp; try with_reducible rfl)
                      (try simp only [Act.put, List.setIfInBounds_toArray, List.set_cons_zero, List.set_cons_succ])
                      refine wpAnyH_takeL (i := 6) (v := ?v63) rfl (by kernel_rfl) (by kernel_rfl) (by kernel_rfl) (fun _ _ _ h => h) (Or.inl ⟨by rfl, ?y63⟩) (by assumption) ?r63
                      case y63 => (intro W hSw; (try dsimp only at hSw); go_simp; try with_reducible rfl)
                      (try simp only [Act.put, List.setIfInBounds_toArray, List.set_cons_zero, List.set_cons_succ])
                      refine wpAnyH_takeL (i := 8) (v := ?v64) rfl (by kernel_rfl) (by kernel_rfl) (by kernel_rfl) (fun _ _ _ h => h) (Or.inl ⟨by rfl, ?y64⟩) (by assumption) ?r64
                      case y64 => (intro W hSw; (try dsimp only at hSw); go_simp; try with_reducible rfl)
                      (try simp only [Act.put, List.setIfInBounds_toArray, List.set_cons_zero, List.set_cons_succ])
                      refine wpAnyH_takeL (i := 9) (v := ?v65) rfl (by kernel_rfl) (by kernel_rfl) (by kernel_rfl) (fun _ _ _ h => h) (Or.inl ⟨by rfl, ?y65⟩) (by assumption) ?r65
                      case y65 => (intro W hSw; (try dsimp only at hSw); go_simp; try with_reducible rfl)
                      (try simp only [Act.put, List.setIfInBounds_toArray, List.set_cons_zero, List.set_cons_succ])
                      refine wpAnyH_takeL (i := 10) (v := ?v66) rfl (by kernel_rfl) (by kernel_rfl) (by kernel_rfl) (fun _ _ _ h => h) (Or.inl ⟨by rfl, ?y66⟩) (by assumption) ?r66
                      case y66 => (intro W hSw; (try dsimp only at hSw); go_simp; try with_reducible rfl)
                      (try simp only [Act.put, List.setIfInBounds_toArray, List.set_cons_zero, List.set_cons_succ])
                      refine wpAnyH_takeL (i := 11) (v := ?v67) rfl (by kernel_rfl) (by kernel_rfl) (by kernel_rfl) (fun _ _ _ h => h) (Or.inl ⟨by rfl, ?y67⟩) (by assumption) ?r67
                      case y67 => (intro W hSw; (try dsimp only at hSw); go_simp; try with_reducible rfl)
                      (try simp only [Act.put, List.setIfInBounds_toArray, List.set_cons_zero, List.set_cons_succ])
                      refine wpAnyH_ready (rs := [7]) (by kernel_rfl) (by simp) ?_
                      refine consL rfl (fun K hK => ?_) AllReadyH.nil
                      go_simp
                      refine Calls.mono (l6own_any (⟨qk, qn, qix, qu, qs, qm⟩ : Va) _ _ (Hq.out _ hd).2) ?_
                      rintro e w1 ⟨v1, rfl, hv1, h1⟩
                      have g1 := hd.trans (h1.mono hd.size)
                      (try dsimp only)
                      refine hK.out _ _ (HF4.out _ g1) (fun hHeld => ?_)
                      clear hK K
                      (try simp only [Act.put, List.setIfInBounds_toArray, List.set_cons_zero, List.set_cons_succ])
                      refine wpAnyH_ready (rs := [12]) (by kernel_rfl) (by simp) ?_
                      refine consL rfl (fun K hK => ?_) AllReadyH.nil
                      go_simp
                      refine Calls.mono (l6own_any (⟨rk, rn, rix, ru, rs, rm⟩ : Va) _ _ (Hr.out _ g1).2) ?_
                      rintro e w2 ⟨v2, rfl, hv2, h2⟩
                      have g2 := g1.trans (h2.mono g1.size)
                      (try dsimp only)
                      refine hK.out _ _ (HF4.out _ g2) (fun hHeld => ?_)
                      clear hK K
                      (try simp only [Act.put, List.setIfInBounds_toArray, List.set_cons_zero, List.set_cons_succ])
                      refine wpAnyH_ready (rs := [13]) (by kernel_rfl) (by simp) ?_
                      refine consL rfl (fun K hK => ?_) AllReadyH.nil
                      go_simp
                      refine Calls.mono (vCompare_any (⟨qk, qn, qix, qu, qs, qm⟩ : Va) (⟨rk, rn, rix, ru, rs, rm⟩ : Va) v1 v2 _ (va_lo hv1 h2) (hv2.sub (fun b hb => hb.2))) ?_
                      rw [HY.out]
                      rintro e w3 ⟨rfl, h3⟩
                      have g3 := g2.trans (h3.mono g2.size)
                      (try dsimp only)
                      refine hK.out _ _ (HF4.out _ g3) (fun hHeld => ?_)
                      clear hK K
                      (try simp only [Act.put, List.setIfInBounds_toArray, List.set_cons_zero, List.set_cons_succ])
                      refine wpAnyH_takeL (i := 14) (v := ?v68) rfl (by kernel_rfl) (by kernel_rfl) (by kernel_rfl) (fun _ _ _ h => h) (Or.inl ⟨by rfl, ?y68⟩) (by assumption) ?r68
                      case y68 => (intro W hSw; (try dsimp only at hSw); go_simp; try with_reducible rfl)
                      (try simp only [Act.put, List.setIfInBounds_toArray, List.set_cons_zero, List.set_cons_succ])
                      refine wpAnyH_takeL (i := 15) (v := ?v69) rfl (by kernel_rfl) (by kernel_rfl) (by kernel_rfl) (fun _ _ _ h => h) (Or.inl ⟨by rfl, ?y69⟩) (by assumption) ?r69
                      case y69 => (intro W hSw; (try dsimp only at hSw); go_simp; try with_reducible rfl)
                      (try simp only [Act.put, List.setIfInBounds_toArray, List.set_cons_zero, List.set_cons_succ])
                      refine wpAnyH_takeL (i := 16) (v := ?v70) rfl (by kernel_rfl) (by kernel_rfl) (by kernel_rfl) (fun _ _ _ h => h) (Or.inl ⟨by rfl, ?y70⟩) (by assumption) ?r70
                      case y70 => (intro W hSw; (try dsimp only at hSw); go_simp; try with_reducible rfl)
                      (try simp only [Act.put, List.setIfInBounds_toArray, List.set_cons_zero, List.set_cons_succ])
                      refine wpAnyH_takeL (i := 17) rfl (by kernel_rfl) (by kernel_rfl) (by kernel_rfl) (fun _ _ _ h => h) (Or.inr ⟨by rfl, rfl⟩) (by assumption) ?_
                      (try simp only [Act.put, List.setIfInBounds_toArray, List.set_cons_zero, List.set_cons_succ])
                      refine wpAnyH_takeL (i := 18) rfl (by kernel_rfl) (by kernel_rfl) (by kernel_rfl) (fun _ _ _ h => h) (Or.inr ⟨by rfl, rfl⟩) (by assumption) ?_
                      (try simp only [Act.put, List.setIfInBounds_toArray, List.set_cons_zero, List.set_cons_succ])
                      refine wpAnyH_takeL (i := 19) rfl (by kernel_rfl) (by kernel_rfl) (by kernel_rfl) (fun _ _ _ h => h) (Or.inr ⟨by rfl, rfl⟩) (by assumption) ?_
                      (try simp only [Act.put, List.setIfInBounds_toArray, List.set_cons_zero, List.set_cons_succ])
                      refine wpAnyH_takeL (i := 20) rfl (by kernel_rfl) (by kernel_rfl) (by kernel_rfl) (fun _ _ _ h => h) (Or.inr ⟨by rfl, rfl⟩) (by assumption) ?_
                      (try simp only [Act.put, List.setIfInBounds_toArray, List.set_cons_zero, List.set_cons_succ])
                      refine wpAnyH_takeL (i := 21) rfl (by kernel_rfl) (by kernel_rfl) (by kernel_rfl) (fun _ _ _ h => h) (Or.inr ⟨by rfl, rfl⟩) (by assumption) ?_
                      (try simp only [Act.put, List.setIfInBounds_toArray, List.set_cons_zero, List.set_cons_succ])
                      refine wpAnyH_takeL (i := 22) rfl (by kernel_rfl) (by kernel_rfl) (by kernel_rfl) (fun _ _ _ h => h) (Or.inr ⟨by rfl, rfl⟩) (by assumption) ?_
                      (try simp only [Act.put, List.setIfInBounds_toArray, List.set_cons_zero, List.set_cons_succ])
                      refine wpAnyH_takeL (i := 23) rfl (by kernel_rfl) (by kernel_rfl) (by kernel_rfl) (fun _ _ _ h => h) (Or.inr ⟨by rfl, rfl⟩) (by assumption) ?_
                      (try simp only [Act.put, List.setIfInBounds_toArray, List.set_cons_zero, List.set_cons_succ])
                      refine wpAnyH_takeL (i := 24) rfl (by kernel_rfl) (by kernel_rfl) (by kernel_rfl) (fun _ _ _ h => h) (Or.inr ⟨by rfl, rfl⟩) (by assumption) ?_
                      (try simp only [Act.put, List.setIfInBounds_toArray, List.set_cons_zero, List.set_cons_succ])
                      refine wpAnyH_takeL (i := 25) rfl (by kernel_rfl) (by kernel_rfl) (by kernel_rfl) (fun _ _ _ h => h) (Or.inr ⟨by rfl, rfl⟩) (by assumption) ?_
                      (try simp only [Act.put, List.setIfInBounds_toArray, List.set_cons_zero, List.set_cons_succ])
                      refine wpAnyH_takeL (i := 26) rfl (by kernel_rfl) (by kernel_rfl) (by kernel_rfl) (fun _ _ _ h => h) (Or.inr ⟨by rfl, rfl⟩) (by assumption) ?_
                      (try simp only [Act.put, List.setIfInBounds_toArray, List.set_cons_zero, List.set_cons_succ])
                      refine wpAnyH_takeL (i := 27) rfl (by kernel_rfl) (by kernel_rfl) (by kernel_rfl) (fun _ _ _ h => h) (Or.inr ⟨by rfl, rfl⟩) (by assumption) ?_
                      (try simp only [Act.put, List.setIfInBounds_toArray, List.set_cons_zero, List.set_cons_succ])
                      refine wpAnyH_takeL (i := 28) rfl (by kernel_rfl) (by kernel_rfl) (by kernel_rfl) (fun _ _ _ h => h) (Or.inr ⟨by rfl, rfl⟩) (by assumption) ?_
                      (try simp only [Act.put, List.setIfInBounds_toArray, List.set_cons_zero, List.set_cons_succ])
                      refine wpAnyH_takeL (i := 29) (v := ?v71) rfl (by kernel_rfl) (by kernel_rfl) (by kernel_rfl) (fun _ _ _ h => h) (Or.inl ⟨by rfl, ?y71⟩) (by assumption) ?r71
                      case y71 => (intro W hSw; (try dsimp only at hSw); go_simp; try with_reducible rfl)
                      (try simp only [Act.put, List.setIfInBounds_toArray, List.set_cons_zero, List.set_cons_succ])
                      refine wpAnyH_done (by kernel_rfl) ?_ _
                      go_wp2_with fail
                      go_roundw
                      case rel => exact ⟨j + 1, by omega, by go_num, g3⟩
                      case measure => simp [intOf]; omega
                  · have gz : decide (z ≤ 0) = false := decide_eq_false hz0
                    clear hz0
                    refine wp_region_held_drew (S := fun W => (W.cell? ⟨BA, i * 6, none⟩ = some (.int .i64 pk) ∧ W.cell? ⟨BA, i * 6 + 1, none⟩ = some (.int .i64 pn) ∧ W.cell? ⟨BA, i * 6 + 2, none⟩ = some (.int .i64 pix) ∧ W.cell? ⟨BA, i * 6 + 3, none⟩ = some (.int .u64 pu) ∧ W.cell? ⟨BA, i * 6 + 4, none⟩ = some (.string ps) ∧ W.cell? ⟨BA, i * 6 + 5, none⟩ = some (.slice pA pl pc)) ∧ (W.cell? ⟨BA, k * 6, none⟩ = some (.int .i64 qk) ∧ W.cell? ⟨BA, k * 6 + 1, none⟩ = some (.int .i64 qn) ∧ W.cell? ⟨BA, k * 6 + 2, none⟩ = some (.int .i64 qix) ∧ W.cell? ⟨BA, k * 6 + 3, none⟩ = some (.int .u64 qu) ∧ W.cell? ⟨BA, k * 6 + 4, none⟩ = some (.string qs) ∧ W.cell? ⟨BA, k * 6 + 5, none⟩ = some (.slice qA ql qc)) ∧ W.cell? ⟨BA, j * 6, none⟩ = some (.int .i64 rk) ∧ W.cell? ⟨BA, j * 6 + 1, none⟩ = some (.int .i64 rn) ∧ W.cell? ⟨BA, j * 6 + 2, none⟩ = some (.int .i64 rix) ∧ W.cell? ⟨BA, j * 6 + 3, none⟩ = some (.int .u64 ru) ∧ W.cell? ⟨BA, j * 6 + 4, none⟩ = some (.string rs) ∧ W.cell? ⟨BA, j * 6 + 5, none⟩ = some (.slice rA rl rc)) (by kernel_rfl) (HF4.out _ hd) (fun hHeld => ?_)
                    (try simp only [List.size_toArray, List.length_cons, List.length_nil, Nat.zero_add, Nat.reduceAdd])
                    refine wpAnyH_takeL (i := 0) (v := ?v72) rfl (by kernel_rfl) (by kernel_rfl) (by kernel_rfl) (fun _ _ _ h => h) (Or.inl ⟨by rfl, ?y72⟩) (by assumption) ?r72
                    case y72 => (intro W hSw; (try dsimp only at hSw); go_simp; try with_reducible rfl)
                    (try simp only [Act.put, List.setIfInBounds_toArray, List.set_cons_zero, List.set_cons_succ])
                    refine wpAnyH_takeL (i := 1) (v := ?v73) rfl (by kernel_rfl) (by kernel_rfl) (by kernel_rfl) (fun _ _ _ h => h) (Or.inl ⟨by rfl, ?y73⟩) (by assumption) ?r73
                    case y73 => (intro W hSw; (try dsimp only at hSw); go_simp; try with_reducible rfl)
                    (try simp only [Act.put, List.setIfInBounds_toArray, List.set_cons_zero, List.set_cons_succ])
                    refine wpAnyH_takeL (i := 2) (v := ?v74) rfl (by kernel_rfl) (by kernel_rfl) (by kernel_rfl) (fun _ _ _ h => h) (Or.inl ⟨by rfl, ?y74⟩) (by assumption) ?r74
                    case y74 => (intro W hSw; (try dsimp only at hSw); go_simp; try with_reducible rfl)
                    (try simp only [Act.put, List.setIfInBounds_toArray, List.set_cons_zero, List.set_cons_succ])
                    refine wpAnyH_takeL (i := 3) rfl (by kernel_rfl) (by kernel_rfl) (by kernel_rfl) (fun _ _ _ h => h) (Or.inr ⟨by rfl, rfl⟩) (by assumption) ?_
                    (try simp only [Act.put, List.setIfInBounds_toArray, List.set_cons_zero, List.set_cons_succ])
                    refine wpAnyH_takeL (i := 4) rfl (by kernel_rfl) (by kernel_rfl) (by kernel_rfl) (fun _ _ _ h => h) (Or.inr ⟨by rfl, rfl⟩) (by assumption) ?_
                    (try simp only [Act.put, List.setIfInBounds_toArray, List.set_cons_zero, List.set_cons_succ])
                    refine wpAnyH_takeL (i := 5) rfl (by kernel_rfl) (by kernel_rfl) (by kernel_rfl) (fun _ _ _ h => h) (Or.inr ⟨by rfl, rfl⟩) (by assumption) ?_
                    (try simp only [Act.put, List.setIfInBounds_toArray, List.set_cons_zero, List.set_cons_succ])
                    refine wpAnyH_takeL (i := 6) rfl (by kernel_rfl) (by kernel_rfl) (by kernel_rfl) (fun _ _ _ h => h) (Or.inr ⟨by rfl, rfl⟩) (by assumption) ?_
                    (try simp only [Act.put, List.setIfInBounds_toArray, List.set_cons_zero, List.set_cons_succ])
                    refine wpAnyH_takeL (i := 7) rfl (by kernel_rfl) (by kernel_rfl) (by kernel_rfl) (fun _ _ _ h => h) (Or.inr ⟨by rfl, rfl⟩) (by assumption) ?_
                    (try simp only [Act.put, List.setIfInBounds_toArray, List.set_cons_zero, List.set_cons_succ])
                    refine wpAnyH_takeL (i := 8) rfl (by kernel_rfl) (by kernel_rfl) (by kernel_rfl) (fun _ _ _ h => h) (Or.inr ⟨by rfl, rfl⟩) (by assumption) ?_
                    (try simp only [Act.put, List.setIfInBounds_toArray, List.set_cons_zero, List.set_cons_succ])
                    refine wpAnyH_takeL (i := 9) rfl (by kernel_rfl) (by kernel_rfl) (by kernel_rfl) (fun _ _ _ h => h) (Or.inr ⟨by rfl, rfl⟩) (by assumption) ?_
                    (try simp only [Act.put, List.setIfInBounds_toArray, List.set_cons_zero, List.set_cons_succ])
                    refine wpAnyH_takeL (i := 10) rfl (by kernel_rfl) (by kernel_rfl) (by kernel_rfl) (fun _ _ _ h => h) (Or.inr ⟨by rfl, rfl⟩) (by assumption) ?_
                    (try simp only [Act.put, List.setIfInBounds_toArray, List.set_cons_zero, List.set_cons_succ])
                    refine wpAnyH_takeL (i := 11) rfl (by kernel_rfl) (by kernel_rfl) (by kernel_rfl) (fun _ _ _ h => h) (Or.inr ⟨by rfl, rfl⟩) (by assumption) ?_
                    (try simp only [Act.put, List.setIfInBounds_toArray, List.set_cons_zero, List.set_cons_succ])
                    refine wpAnyH_takeL (i := 12) rfl (by kernel_rfl) (by kernel_rfl) (by kernel_rfl) (fun _ _ _ h => h) (Or.inr ⟨by rfl, rfl⟩) (by assumption) ?_
                    (try simp only [Act.put, List.setIfInBounds_toArray, List.set_cons_zero, List.set_cons_succ])
                    refine wpAnyH_takeL (i := 13) rfl (by kernel_rfl) (by kernel_rfl) (by kernel_rfl) (fun _ _ _ h => h) (Or.inr ⟨by rfl, rfl⟩) (by assumption) ?_
                    (try simp only [Act.put, List.setIfInBounds_toArray, List.set_cons_zero, List.set_cons_succ])
                    refine wpAnyH_takeL (i := 14) rfl (by kernel_rfl) (by kernel_rfl) (by kernel_rfl) (fun _ _ _ h => h) (Or.inr ⟨by rfl, rfl⟩) (by assumption) ?_
                    (try simp only [Act.put, List.setIfInBounds_toArray, List.set_cons_zero, List.set_cons_succ])
                    refine wpAnyH_takeL (i := 15) (v := ?v75) rfl (by kernel_rfl) (by kernel_rfl) (by kernel_rfl) (fun _ _ _ h => h) (Or.inl ⟨by rfl, ?y75⟩) (by assumption) ?r75
                    case y75 => (intro W hSw; (try dsimp only at hSw); go_simp; try with_reducible rfl)
                    (try simp only [Act.put, List.setIfInBounds_toArray, List.set_cons_zero, List.set_cons_succ])
                    refine wpAnyH_takeL (i := 16) (v := ?v76) rfl (by kernel_rfl) (by kernel_rfl) (by kernel_rfl) (fun _ _ _ h => h) (Or.inl ⟨by rfl, ?y76⟩) (by assumption) ?r76
                    case y76 => (intro W hSw; (try dsimp only at hSw); go_simp; try with_reducible rfl)
                    (try simp only [Act.put, List.setIfInBounds_toArray, List.set_cons_zero, List.set_cons_succ])
                    refine wpAnyH_takeL (i := 17) rfl (by kernel_rfl) (by kernel_rfl) (by kernel_rfl) (fun _ _ _ h => h) (Or.inr ⟨by rfl, rfl⟩) (by assumption) ?_
                    (try simp only [Act.put, List.setIfInBounds_toArray, List.set_cons_zero, List.set_cons_succ])
                    refine wpAnyH_takeL (i := 18) rfl (by kernel_rfl) (by kernel_rfl) (by kernel_rfl) (fun _ _ _ h => h) (Or.inr ⟨by rfl, rfl⟩) (by assumption) ?_
                    (try simp only [Act.put, List.setIfInBounds_toArray, List.set_cons_zero, List.set_cons_succ])
                    refine wpAnyH_takeL (i := 19) rfl (by kernel_rfl) (by kernel_rfl) (by kernel_rfl) (fun _ _ _ h => h) (Or.inr ⟨by rfl, rfl⟩) (by assumption) ?_
                    (try simp only [Act.put, List.setIfInBounds_toArray, List.set_cons_zero, List.set_cons_succ])
                    refine wpAnyH_takeL (i := 20) rfl (by kernel_rfl) (by kernel_rfl) (by kernel_rfl) (fun _ _ _ h => h) (Or.inr ⟨by rfl, rfl⟩) (by assumption) ?_
                    (try simp only [Act.put, List.setIfInBounds_toArray, List.set_cons_zero, List.set_cons_succ])
                    refine wpAnyH_takeL (i := 21) rfl (by kernel_rfl) (by kernel_rfl) (by kernel_rfl) (fun _ _ _ h => h) (Or.inr ⟨by rfl, rfl⟩) (by assumption) ?_
                    (try simp only [Act.put, List.setIfInBounds_toArray, List.set_cons_zero, List.set_cons_succ])
                    refine wpAnyH_takeL (i := 22) rfl (by kernel_rfl) (by kernel_rfl) (by kernel_rfl) (fun _ _ _ h => h) (Or.inr ⟨by rfl, rfl⟩) (by assumption) ?_
                    (try simp only [Act.put, List.setIfInBounds_toArray, List.set_cons_zero, List.set_cons_succ])
                    refine wpAnyH_takeL (i := 23) rfl (by kernel_rfl) (by kernel_rfl) (by kernel_rfl) (fun _ _ _ h => h) (Or.inr ⟨by rfl, rfl⟩) (by assumption) ?_
                    (try simp only [Act.put, List.setIfInBounds_toArray, List.set_cons_zero, List.set_cons_succ])
                    refine wpAnyH_takeL (i := 24) rfl (by kernel_rfl) (by kernel_rfl) (by kernel_rfl) (fun _ _ _ h => h) (Or.inr ⟨by rfl, rfl⟩) (by assumption) ?_
                    (try simp only [Act.put, List.setIfInBounds_toArray, List.set_cons_zero, List.set_cons_succ])
                    refine wpAnyH_takeL (i := 25) rfl (by kernel_rfl) (by kernel_rfl) (by kernel_rfl) (fun _ _ _ h => h) (Or.inr ⟨by rfl, rfl⟩) (by assumption) ?_
                    (try simp only [Act.put, List.setIfInBounds_toArray, List.set_cons_zero, List.set_cons_succ])
                    refine wpAnyH_takeL (i := 26) rfl (by kernel_rfl) (by kernel_rfl) (by kernel_rfl) (fun _ _ _ h => h) (Or.inr ⟨by rfl, rfl⟩) (by assumption) ?_
                    (try simp only [Act.put, List.setIfInBounds_toArray, List.set_cons_zero, List.set_cons_succ])
                    refine wpAnyH_takeL (i := 27) rfl (by kernel_rfl) (by kernel_rfl) (by kernel_rfl) (fun _ _ _ h => h) (Or.inr ⟨by rfl, rfl⟩) (by assumption) ?_
                    (try simp only [Act.put, List.setIfInBounds_toArray, List.set_cons_zero, List.set_cons_succ])
                    refine wpAnyH_takeL (i := 28) rfl (by kernel_rfl) (by kernel_rfl) (by kernel_rfl) (fun _ _ _ h => h) (Or.inr ⟨by rfl, rfl⟩) (by assumption) ?_
                    (try simp only [Act.put, List.setIfInBounds_toArray, List.set_cons_zero, List.set_cons_succ])
                    refine wpAnyH_takeL (i := 29) (v := ?v77) rfl (by kernel_rfl) (by kernel_rfl) (by kernel_rfl) (fun _ _ _ h => h) (Or.inl ⟨by rfl, ?y77⟩) (by assumption) ?r77
                    case y77 => (intro W hSw; (try dsimp only at hSw); go_simp; try with_reducible rfl)
                    (try simp only [Act.put, List.setIfInBounds_toArray, List.set_cons_zero, List.set_cons_succ])
                    refine wpAnyH_done (by kernel_rfl) ?_ _
                    go_wp2_with fail
                    go_roundw
                    case rel => exact ⟨j + 1, by omega, by go_num, hd⟩
                    case measure => simp [intOf]; omega
                · have hj9 : ¬ (j : Int) < 8 := by omega
                  go_wp2_with fail
                  go_roundw
                  case rel => exact ⟨k + 1, by omega, by go_num, hJ⟩
                  case measure => simp [intOf]; omega
            · obtain rfl := hF2 hQ0
              have gq : (EQ == 0) = false := by rw [beq_eq_false_iff_ne]; exact hQ0
              clear hF1 hF2 hQ0 h8 h9
              go_wp2_with fail
              obtain ⟨wk, rfl⟩ : ∃ wk, wk = wr := ⟨_, rfl⟩
              have gX := g9
              clear g5 g6 g7 g8 g9
              go_loopw [21] (fun v wr => ∃ j : Nat, j ≤ 8 ∧ v = .int .i64 j ∧ Below V0.heap.size V0 wr) (fun v _ => 8 - (intOf v).toNat)
              case atStart => exact ⟨0, by omega, rfl, gX⟩
              case round =>
                clear gX
                obtain ⟨j, hj, rfl, hJ⟩ := hrel
                by_cases hj8 : j < 8
                · skip
                  obtain ⟨rx, rA, rl, rc, _, Hr'⟩ := val_cells LA0 (hl8'.out ▸ hj8)
                  obtain ⟨rk, rn, rix, ru, rs, rm⟩ := rx
                  unfold VrAt at Hr'
                  simp only at Hr'
                  have Hr := Lib.hid Hr'
                  clear Hr'
                  have jj : (j : Int) < 8 := by omega
                  have j0 : (0 : Int) ≤ (j : Int) := by omega
                  obtain ⟨y, hy⟩ : ∃ y, y = vaCmp (⟨qk, qn, qix, qu, qs, qm⟩ : Va) (⟨rk, rn, rix, ru, rs, rm⟩ : Va) := ⟨_, rfl⟩
                  obtain ⟨t, ht⟩ : ∃ t, t = vaCmp (⟨pk, pn, pix, pu, ps, pm⟩ : Va) (⟨rk, rn, rix, ru, rs, rm⟩ : Va) := ⟨_, rfl⟩
                  have HTR := Lib.hid (show z ≤ 0 → y ≤ 0 → t ≤ 0 from by rw [← HZ.out, hy, ht]; exact va_cmp.tr _ _ _)
                  have HY := Lib.hid hy.symm
                  have HT := Lib.hid ht.symm
                  clear hy ht
                  have HF4 := Lib.hid (show ∀ W, Below V0.heap.size V0 W → (fun W : World => (W.cell? ⟨BA, i * 6, none⟩ = some (.int .i64 pk) ∧ W.cell? ⟨BA, i * 6 + 1, none⟩ = some (.int .i64 pn) ∧ W.cell? ⟨BA, i * 6 + 2, none⟩ = some (.int .i64 pix) ∧ W.cell? ⟨BA, i * 6 + 3, none⟩ = some (.int .u64 pu) ∧ W.cell? ⟨BA, i * 6 + 4, none⟩ = some (.string ps) ∧ W.cell? ⟨BA, i * 6 + 5, none⟩ = some (.slice pA pl pc)) ∧ (W.cell? ⟨BA, k * 6, none⟩ = some (.int .i64 qk) ∧ W.cell? ⟨BA, k * 6 + 1, none⟩ = some (.int .i64 qn) ∧ W.cell? ⟨BA, k * 6 + 2, none⟩ = some (.int .i64 qix) ∧ W.cell? ⟨BA, k * 6 + 3, none⟩ = some (.int .u64 qu) ∧ W.cell? ⟨BA, k * 6 + 4, none⟩ = some (.string qs) ∧ W.cell? ⟨BA, k * 6 + 5, none⟩ = some (.slice qA ql qc)) ∧ W.cell? ⟨BA, j * 6, none⟩ = some (.int .i64 rk) ∧ W.cell? ⟨BA, j * 6 + 1, none⟩ = some (.int .i64 rn) ∧ W.cell? ⟨BA, j * 6 + 2, none⟩ = some (.int .i64 rix) ∧ W.cell? ⟨BA, j * 6 + 3, none⟩ = some (.int .u64 ru) ∧ W.cell? ⟨BA, j * 6 + 4, none⟩ = some (.string rs) ∧ W.cell? ⟨BA, j * 6 + 5, none⟩ = some (.slice rA rl rc)) W from fun W h => ⟨(Hp.out W h).1, (Hq.out W h).1, (Hr.out W h).1⟩)
                  have hd : Below V0.heap.size V0 wr.drew := hJ.drew
                  go_wp2_with fail
                  by_cases hz0 : z ≤ 0
                  · have gz : decide (z ≤ 0) = true := decide_eq_true hz0
                    by_cases hy0 : y ≤ 0
                    · have gy : decide (y ≤ 0) = true := decide_eq_true hy0
                      have gt : decide (0 < t) = false := decide_eq_false (by have := HTR.out hz0 hy0; omega)
                      clear hz0 hy0
                      refine wp_region_held_drew (S := fun W => (W.cell? ⟨BA, i * 6, none⟩ = some (.int .i64 pk) ∧ W.cell? ⟨BA, i * 6 + 1, none⟩ = some (.int .i64 pn) ∧ W.cell? ⟨BA, i * 6 + 2, none⟩ = some (.int .i64 pix) ∧ W.cell? ⟨BA, i * 6 + 3, none⟩ = some (.int .u64 pu) ∧ W.cell? ⟨BA, i * 6 + 4, none⟩ = some (.string ps) ∧ W.cell? ⟨BA, i * 6 + 5, none⟩ = some (.slice pA pl pc)) ∧ (W.cell? ⟨BA, k * 6, none⟩ = some (.int .i64 qk) ∧ W.cell? ⟨BA, k * 6 + 1, none⟩ = some (.int .i64 qn) ∧ W.cell? ⟨BA, k * 6 + 2, none⟩ = some (.int .i64 qix) ∧ W.cell? ⟨BA, k * 6 + 3, none⟩ = some (.int .u64 qu) ∧ W.cell? ⟨BA, k * 6 + 4, none⟩ = some (.string qs) ∧ W.cell? ⟨BA, k * 6 + 5, none⟩ = some (.slice qA ql qc)) ∧ W.cell? ⟨BA, j * 6, none⟩ = some (.int .i64 rk) ∧ W.cell? ⟨BA, j * 6 + 1, none⟩ = some (.int .i64 rn) ∧ W.cell? ⟨BA, j * 6 + 2, none⟩ = some (.int .i64 rix) ∧ W.cell? ⟨BA, j * 6 + 3, none⟩ = some (.int .u64 ru) ∧ W.cell? ⟨BA, j * 6 + 4, none⟩ = some (.string rs) ∧ W.cell? ⟨BA, j * 6 + 5, none⟩ = some (.slice rA rl rc)) (by kernel_rfl) (HF4.out _ hd) (fun hHeld => ?_)
                      (try simp only [List.size_toArray, List.length_cons, List.length_nil, Nat.zero_add, Nat.reduceAdd])
                      refine wpAnyH_takeL (i := 0) (v := ?v78) rfl (by kernel_rfl) (by kernel_rfl) (by kernel_rfl) (fun _ _ _ h => h) (Or.inl ⟨by rfl, ?y78⟩) (by assumption) ?r78
                      case y78 => (intro W hSw; (try dsimp only at hSw); go_simp; try with_reducible rfl)
                      (try simp only [Act.put, List.setIfInBounds_toArray, List.set_cons_zero, List.set_cons_succ])
                      refine wpAnyH_takeL (i := 1) (v := ?v79) rfl (by kernel_rfl) (by kernel_rfl) (by kernel_rfl) (fun _ _ _ h => h) (Or.inl ⟨by rfl, ?y79⟩) (by assumption) ?r79
                      case y79 => (intro W hSw; (try dsimp only at hSw); go_simp; try with_reducible rfl)
                      (try simp only [Act.put, List.setIfInBounds_toArray, List.set_cons_zero, List.set_cons_succ])
                      refine wpAnyH_takeL (i := 2) (v := ?v80) rfl (by kernel_rfl) (by kernel_rfl) (by kernel_rfl) (fun _ _ _ h => h) (Or.inl ⟨by rfl, ?y80⟩) (by assumption) ?r80
                      case y80 => (intro W hSw; (try dsimp only at hSw); go_simp; try with_reducible rfl)
                      (try simp only [Act.put, List.setIfInBounds_toArray, List.set_cons_zero, List.set_cons_succ])
                      refine wpAnyH_takeL (i := 3) (v := ?v81) rfl (by kernel_rfl) (by kernel_rfl) (by kernel_rfl) (fun _ _ _ h => h) (Or.inl ⟨by rfl, ?y81⟩) (by assumption) ?r81
                      case y81 => (intro W hSw; (try dsimp only at hSw); go_simp; try with_reducible rfl)
                      (try simp only [Act.put, List.setIfInBounds_toArray, List.set_cons_zero, List.set_cons_succ])
                      refine wpAnyH_takeL (i := 4) (v := ?v82) rfl (by kernel_rfl) (by kernel_rfl) (by kernel_rfl) (fun _ _ _ h => h) (Or.inl ⟨by rfl, ?y82⟩) (by assumption) ?r82
                      case y82 => (intro W hSw; (try dsimp only at hSw); go_simp; try with_reducible rfl)
                      (try simp only [Act.put, List.setIfInBounds_toArray, List.set_cons_zero, List.set_cons_succ])
                      refine wpAnyH_takeL (i := 5) (v := ?v83) rfl (by kernel_rfl) (by kernel_rfl) (by kernel_rfl) (fun _ _ _ h => h) (Or.inl ⟨by rfl, ?y83⟩) (by assumption) ?r83
                      case y83 => (intro W hSw; (try dsimp only at hSw); go_simp; try with_reducible rfl)
                      (try simp only [Act.put, List.setIfInBounds_toArray, List.set_cons_zero, List.set_cons_succ])
                      refine wpAnyH_takeL (i := 6) (v := ?v84) rfl (by kernel_rfl) (by kernel_rfl) (by kernel_rfl) (fun _ _ _ h => h) (Or.inl ⟨by rfl, ?y84⟩) (by assumption) ?r84
                      case y84 => (intro W hSw; (try dsimp only at hSw); go_simp; try with_reducible rfl)
                      (try simp only [Act.put, List.setIfInBounds_toArray, List.set_cons_zero, List.set_cons_succ])
                      refine wpAnyH_takeL (i := 8) (v := ?v85) rfl (by kernel_rfl) (by kernel_rfl) (by kernel_rfl) (fun _ _ _ h => h) (Or.inl ⟨by rfl, ?y85⟩) (by assumption) ?r85
                      case y85 => (intro W hSw; (try dsimp only at hSw); go_simp; try with_reducible rfl)
                      (try simp only [Act.put, List.setIfInBounds_toArray, List.set_cons_zero, List.set_cons_succ])
                      refine wpAnyH_takeL (i := 9) (v := ?v86) rfl (by kernel_rfl) (by kernel_rfl) (by kernel_rfl) (fun _ _ _ h => h) (Or.inl ⟨by rfl, ?y86⟩) (by assumption) ?r86
                      case y86 => (intro W hSw; (try dsimp only at hSw); go_simp; try with_reducible rfl)
                      (try simp only [Act.put, List.setIfInBounds_toArray, List.set_cons_zero, List.set_cons_succ])
                      refine wpAnyH_takeL (i := 10) (v := ?v87) rfl (by kernel_rfl) (by kernel_rfl) (by kernel_rfl) (fun _ _ _ h => h) (Or.inl ⟨by rfl, ?y87⟩) (by assumption) ?r87
                      case y87 => (intro W hSw; (try dsimp only at hSw); go_simp; try with_reducible rfl)
                      (try simp only [Act.put, List.setIfInBounds_toArray, List.set_cons_zero, List.set_cons_succ])
                      refine wpAnyH_takeL (i := 11) (v := ?v88) rfl (by kernel_rfl) (by kernel_rfl) (by kernel_rfl) (fun _ _ _ h => h) (Or.inl ⟨by rfl, ?y88⟩) (by assumption) ?r88
                      case y88 => (intro W hSw; (try dsimp only at hSw); go_simp; try with_reducible rfl)
                      (try simp only [Act.put, List.setIfInBounds_toArray, List.set_cons_zero, List.set_cons_succ])
                      refine wpAnyH_ready (rs := [7]) (by kernel_rfl) (by simp) ?_
                      refine consL rfl (fun K hK => ?_) AllReadyH.nil
                      go_simp
                      refine Calls.mono (l6own_any (⟨qk, qn, qix, qu, qs, qm⟩ : Va) _ _ (Hq.out _ hd).2) ?_
                      rintro e w1 ⟨v1, rfl, hv1, h1⟩
                      have g1 := hd.trans (h1.mono hd.size)
                      (try dsimp only)
                      refine hK.out _ _ (HF4.out _ g1) (fun hHeld => ?_)
                      clear hK K
                      (try simp only [Act.put, List.setIfInBounds_toArray, List.set_cons_zero, List.set_cons_succ])
                      refine wpAnyH_ready (rs := [12]) (by kernel_rfl) (by simp) ?_
                      refine consL rfl (fun K hK => ?_) AllReadyH.nil
                      go_simp
                      refine Calls.mono (l6own_any (⟨rk, rn, rix, ru, rs, rm⟩ : Va) _ _ (Hr.out _ g1).2) ?_
                      rintro e w2 ⟨v2, rfl, hv2, h2⟩
                      have g2 := g1.trans (h2.mono g1.size)
                      (try dsimp only)
                      refine hK.out _ _ (HF4.out _ g2) (fun hHeld => ?_)
                      clear hK K
                      (try simp only [Act.put, List.setIfInBounds_toArray, List.set_cons_zero, List.set_cons_succ])
                      refine wpAnyH_ready (rs := [13]) (by kernel_rfl) (by simp) ?_
                      refine consL rfl (fun K hK => ?_) AllReadyH.nil
                      go_simp
                      refine Calls.mono (vCompare_any (⟨qk, qn, qix, qu, qs, qm⟩ : Va) (⟨rk, rn, rix, ru, rs, rm⟩ : Va) v1 v2 _ (va_lo hv1 h2) (hv2.sub (fun b hb => hb.2))) ?_
                      rw [HY.out]
                      rintro e w3 ⟨rfl, h3⟩
                      have g3 := g2.trans (h3.mono g2.size)
                      (try dsimp only)
                      refine hK.out _ _ (HF4.out _ g3) (fun hHeld => ?_)
                      clear hK K
                      (try simp only [Act.put, List.setIfInBounds_toArray, List.set_cons_zero, List.set_cons_succ])
                      refine wpAnyH_takeL (i := 14) (v := ?v89) rfl (by kernel_rfl) (by kernel_rfl) (by kernel_rfl) (fun _ _ _ h => h) (Or.inl ⟨by rfl, ?y89⟩) (by assumption) ?r89
                      case y89 => (intro W hSw; (try dsimp only at hSw); go_simp; try with_reducible rfl)
                      (try simp only [Act.put, List.setIfInBounds_toArray, List.set_cons_zero, List.set_cons_succ])
                      refine wpAnyH_takeL (i := 15) (v := ?v90) rfl (by kernel_rfl) (by kernel_rfl) (by kernel_rfl) (fun _ _ _ h => h) (Or.inl ⟨by rfl, ?y90⟩) (by assumption) ?r90
                      case y90 => (intro W hSw; (try dsimp only at hSw); go_simp; try with_reducible rfl)
                      (try simp only [Act.put, List.setIfInBounds_toArray, List.set_cons_zero, List.set_cons_succ])
                      refine wpAnyH_takeL (i := 16) (v := ?v91) rfl (by kernel_rfl) (by kernel_rfl) (by kernel_rfl) (fun _ _ _ h => h) (Or.inl ⟨by rfl, ?y91⟩) (by assumption) ?r91
                      case y91 => (intro W hSw; (try dsimp only at hSw); go_simp; try with_reducible rfl)
                      (try simp only [Act.put, List.setIfInBounds_toArray, List.set_cons_zero, List.set_cons_succ])
                      refine wpAnyH_takeL (i := 17) (v := ?v92) rfl (by kernel_rfl) (by kernel_rfl) (by kernel_rfl) (fun _ _ _ h => h) (Or.inl ⟨by rfl, ?y92⟩) (by assumption) ?r92
                      case y92 => (intro W hSw; (try dsimp only at hSw); go_simp; try with_reducible rfl)
                      (try simp only [Act.put, List.setIfInBounds_toArray, List.set_cons_zero, List.set_cons_succ])
                      refine wpAnyH_takeL (i := 18) (v := ?v93) rfl (by kernel_rfl) (by kernel_rfl) (by kernel_rfl) (fun _ _ _ h => h) (Or.inl ⟨by rfl, ?y93⟩) (by assumption) ?r93
                      case y93 => (intro W hSw; (try dsimp only at hSw); go_simp; try with_reducible rfl)
                      (try simp only [Act.put, List.setIfInBounds_toArray, List.set_cons_zero, List.set_cons_succ])
                      refine wpAnyH_takeL (i := 19) (v := ?v94) rfl (by kernel_rfl) (by kernel_rfl) (by kernel_rfl) (fun _ _ _ h => h) (Or.inl ⟨by rfl, ?y94⟩) (by assumption) ?r94
                      case y94 => (intro W hSw; (try dsimp only at hSw); go_simp; try with_reducible rfl)
                      (try simp only [Act.put, List.setIfInBounds_toArray, List.set_cons_zero, List.set_cons_succ])
                      refine wpAnyH_takeL (i := 20) (v := ?v95) rfl (by kernel_rfl) (by kernel_rfl) (by kernel_rfl) (fun _ _ _ h => h) (Or.inl ⟨by rfl, ?y95⟩) (by assumption) ?r95
                      case y95 => (intro W hSw; (try dsimp only at hSw); go_simp; try with_reducible rfl)
                      (try simp only [Act.put, List.setIfInBounds_toArray, List.set_cons_zero, List.set_cons_succ])
                      refine wpAnyH_takeL (i := 22) (v := ?v96) rfl (by kernel_rfl) (by kernel_rfl) (by kernel_rfl) (fun _ _ _ h => h) (Or.inl ⟨by rfl, ?y96⟩) (by assumption) ?r96
                      case y96 => (intro W hSw; (try dsimp only at hSw); go_simp; try with_reducible rfl)
                      (try simp only [Act.put, List.setIfInBounds_toArray, List.set_cons_zero, List.set_cons_succ])
                      refine wpAnyH_takeL (i := 23) (v := ?v97) rfl (by kernel_rfl) (by kernel_rfl) (by kernel_rfl) (fun _ _ _ h => h) (Or.inl ⟨by rfl, ?y97⟩) (by assumption) ?r97
                      case y97 => (intro W hSw; (try dsimp only at hSw); go_simp; try with_reducible rfl)
                      (try simp only [Act.put, List.setIfInBounds_toArray, List.set_cons_zero, List.set_cons_succ])
                      refine wpAnyH_takeL (i := 24) (v := ?v98) rfl (by kernel_rfl) (by kernel_rfl) (by kernel_rfl) (fun _ _ _ h => h) (Or.inl ⟨by rfl, ?y98⟩) (by assumption) ?r98
                      case y98 => (intro W hSw; (try dsimp only at hSw); go_simp; try with_reducible rfl)
                      (try simp only [Act.put, List.setIfInBounds_toArray, List.set_cons_zero, List.set_cons_succ])
                      refine wpAnyH_takeL (i := 25) (v := ?v99) rfl (by kernel_rfl) (by kernel_rfl) (by kernel_rfl) (fun _ _ _ h => h) (Or.inl ⟨by rfl, ?y99⟩) (by assumption) ?r99
                      case y99 => (intro W hSw; (try dsimp only at hSw); go_simp; try with_reducible rfl)
                      (try simp only [Act.put, List.setIfInBounds_toArray, List.set_cons_zero, List.set_cons_succ])
                      refine wpAnyH_ready (rs := [21]) (by kernel_rfl) (by simp) ?_
                      refine consL rfl (fun K hK => ?_) AllReadyH.nil
                      go_simp
                      refine Calls.mono (l6own_any (⟨pk, pn, pix, pu, ps, pm⟩ : Va) _ _ (Hp.out _ g3).2) ?_
                      rintro e w4 ⟨v4, rfl, hv4, h4⟩
                      have g4 := g3.trans (h4.mono g3.size)
                      (try dsimp only)
                      refine hK.out _ _ (HF4.out _ g4) (fun hHeld => ?_)
                      clear hK K
                      (try simp only [Act.put, List.setIfInBounds_toArray, List.set_cons_zero, List.set_cons_succ])
                      refine wpAnyH_ready (rs := [26]) (by kernel_rfl) (by simp) ?_
                      refine consL rfl (fun K hK => ?_) AllReadyH.nil
                      go_simp
                      refine Calls.mono (l6own_any (⟨rk, rn, rix, ru, rs, rm⟩ : Va) _ _ (Hr.out _ g4).2) ?_
                      rintro e w5 ⟨v5, rfl, hv5, h5⟩
                      have g5 := g4.trans (h5.mono g4.size)
                      (try dsimp only)
                      refine hK.out _ _ (HF4.out _ g5) (fun hHeld => ?_)
                      clear hK K
                      (try simp only [Act.put, List.setIfInBounds_toArray, List.set_cons_zero, List.set_cons_succ])
                      refine wpAnyH_ready (rs := [27]) (by kernel_rfl) (by simp) ?_
                      refine consL rfl (fun K hK => ?_) AllReadyH.nil
                      go_simp
                      refine Calls.mono (vCompare_any (⟨pk, pn, pix, pu, ps, pm⟩ : Va) (⟨rk, rn, rix, ru, rs, rm⟩ : Va) v4 v5 _ (va_lo hv4 h5) (hv5.sub (fun b hb => hb.2))) ?_
                      rw [HT.out]
                      rintro e w6 ⟨rfl, h6⟩
                      have g6 := g5.trans (h6.mono g5.size)
                      (try dsimp only)
                      refine hK.out _ _ (HF4.out _ g6) (fun hHeld => ?_)
                      clear hK K
                      (try simp only [Act.put, List.setIfInBounds_toArray, List.set_cons_zero, List.set_cons_succ])
                      refine wpAnyH_takeL (i := 28) (v := ?v100) rfl (by kernel_rfl) (by kernel_rfl) (by kernel_rfl) (fun _ _ _ h => h) (Or.inl ⟨by rfl, ?y100⟩) (by assumption) ?r100
                      case y100 => (intro W hSw; (try dsimp only at hSw); go_simp; try with_reducible rfl)
                      (try simp only [Act.put, List.setIfInBounds_toArray, List.set_cons_zero, List.set_cons_succ])
                      refine wpAnyH_takeL (i := 29) (v := ?v101) rfl (by kernel_rfl) (by kernel_rfl) (by kernel_rfl) (fun _ _ _ h => h) (Or.inl ⟨by rfl, ?y101⟩) (by assumption) ?r101
                      case y101 => (intro W hSw; (try dsimp only at hSw); go_simp; try with_reducible rfl)
                      (try simp only [Act.put, List.setIfInBounds_toArray, List.set_cons_zero, List.set_cons_succ])
                      refine wpAnyH_done (by kernel_rfl) ?_ _
                      go_wp2_with fail
                      go_roundw
                      case rel => exact ⟨j + 1, by omega, by go_num, g6⟩
                      case measure => simp [intOf]; omega
                    · have gy : decide (y ≤ 0) = false := decide_eq_false hy0
                      clear hz0 hy0
                      refine wp_region_held_drew (S := fun W => (W.cell? ⟨BA, i * 6, none⟩ = some (.int .i64 pk) ∧ W.cell? ⟨BA, i * 6 + 1, none⟩ = some (.int .i64 pn) ∧ W.cell? ⟨BA, i * 6 + 2, none⟩ = some (.int .i64 pix) ∧ W.cell? ⟨BA, i * 6 + 3, none⟩ = some (.int .u64 pu) ∧ W.cell? ⟨BA, i * 6 + 4, none⟩ = some (.string ps) ∧ W.cell? ⟨BA, i * 6 + 5, none⟩ = some (.slice pA pl pc)) ∧ (W.cell? ⟨BA, k * 6, none⟩ = some (.int .i64 qk) ∧ W.cell? ⟨BA, k * 6 + 1, none⟩ = some (.int .i64 qn) ∧ W.cell? ⟨BA, k * 6 + 2, none⟩ = some (.int .i64 qix) ∧ W.cell? ⟨BA, k * 6 + 3, none⟩ = some (.int .u64 qu) ∧ W.cell? ⟨BA, k * 6 + 4, none⟩ = some (.string qs) ∧ W.cell? ⟨BA, k * 6 + 5, none⟩ = some (.slice qA ql qc)) ∧ W.cell? ⟨BA, j * 6, none⟩ = some (.int .i64 rk) ∧ W.cell? ⟨BA, j * 6 + 1, none⟩ = some (.int .i64 rn) ∧ W.cell? ⟨BA, j * 6 + 2, none⟩ = some (.int .i64 rix) ∧ W.cell? ⟨BA, j * 6 + 3, none⟩ = some (.int .u64 ru) ∧ W.cell? ⟨BA, j * 6 + 4, none⟩ = some (.string rs) ∧ W.cell? ⟨BA, j * 6 + 5, none⟩ = some (.slice rA rl rc)) (by kernel_rfl) (HF4.out _ hd) (fun hHeld => ?_)
                      (try simp only [List.size_toArray, List.length_cons, List.length_nil, Nat.zero_add, Nat.reduceAdd])
                      refine wpAnyH_takeL (i := 0) (v := ?v102) rfl (by kernel_rfl) (by kernel_rfl) (by kernel_rfl) (fun _ _ _ h => h) (Or.inl ⟨by rfl, ?y102⟩) (by assumption) ?r102
                      case y102 => (intro W hSw; (try dsimp only at hSw); go_simp; try with_reducible rfl)
                      (try simp only [Act.put, List.setIfInBounds_toArray, List.set_cons_zero, List.set_cons_succ])
                      refine wpAnyH_takeL (i := 1) (v := ?v103) rfl (by kernel_rfl) (by kernel_rfl) (by kernel_rfl) (fun _ _ _ h => h) (Or.inl ⟨by rfl, ?y103⟩) (by assumption) ?r103
                      case y103 => (intro W hSw; (try dsimp only at hSw); go_simp; try with_reducible rfl)
                      (try simp only [Act.put, List.setIfInBounds_toArray, List.set_cons_zero, List.set_cons_succ])
                      refine wpAnyH_takeL (i := 2) (v := ?v104) rfl (by kernel_rfl) (by kernel_rfl) (by kernel_rfl) (fun _ _ _ h => h) (Or.inl ⟨by rfl, ?y104⟩) (by assumption) ?r104
                      case y104 => (intro W hSw; (try dsimp only at hSw); go_simp; try with_reducible rfl)
                      (try simp only [Act.put, List.setIfInBounds_toArray, List.set_cons_zero, List.set_cons_succ])
                      refine wpAnyH_takeL (i := 3) (v := ?v105) rfl (by kernel_rfl) (by kernel_rfl) (by kernel_rfl) (fun _ _ _ h => h) (Or.inl ⟨by rfl, ?y105⟩) (by assumption) ?r105
                      case y105 => (intro W hSw; (try dsimp only at hSw); go_simp; try with_reducible rfl)
                      (try simp only [Act.put, List.setIfInBounds_toArray, List.set_cons_zero, List.set_cons_succ])
                      refine wpAnyH_takeL (i := 4) (v := ?v106) rfl (by kernel_rfl) (by kernel_rfl) (by kernel_rfl) (fun _ _ _ h => h) (Or.inl ⟨by rfl, ?y106⟩) (by assumption) ?r106
                      case y106 => (intro W hSw; (try dsimp only at hSw); go_simp; try with_reducible rfl)
                      (try simp only [Act.put, List.setIfInBounds_toArray, List.set_cons_zero, List.set_cons_succ])
                      refine wpAnyH_takeL (i := 5) (v := ?v107) rfl (by kernel_rfl) (by kernel_rfl) (by kernel_rfl) (fun _ _ _ h => h) (Or.inl ⟨by rfl, ?y107⟩) (by assumption) ?r107
                      case y107 => (intro W hSw; (try dsimp only at hSw); go_simp; try with_reducible rfl)
                      (try simp only [Act.put, List.setIfInBounds_toArray, List.set_cons_zero, List.set_cons_succ])
                      refine wpAnyH_takeL (i := 6) (v := ?v108) rfl (by kernel_rfl) (by kernel_rfl) (by kernel_rfl) (fun _ _ _ h => h) (Or.inl ⟨by rfl, ?y108⟩) (by assumption) ?r108
                      case y108 => (intro W hSw; (try dsimp only at hSw); go_simp; try with_reducible rfl)
                      (try simp only [Act.put, List.setIfInBounds_toArray, List.set_cons_zero, List.set_cons_succ])
                      refine wpAnyH_takeL (i := 8) (v := ?v109) rfl (by kernel_rfl) (by kernel_rfl) (by kernel_rfl) (fun _ _ _ h => h) (Or.inl ⟨by rfl, ?y109⟩) (by assumption) ?r109
                      case y109 => (intro W hSw; (try dsimp only at hSw); go_simp; try with_reducible rfl)
                      (try simp only [Act.put, List.setIfInBounds_toArray, List.set_cons_zero, List.set_cons_succ])
                      refine wpAnyH_takeL (i := 9) (v := ?v110) rfl (by kernel_rfl) (by kernel_rfl) (by kernel_rfl) (fun _ _ _ h => h) (Or.inl ⟨by rfl, ?y110⟩) (by assumption) ?r110
                      case y110 => (intro W hSw; (try dsimp only at hSw); go_simp; try with_reducible rfl)
                      (try simp only [Act.put, List.setIfInBounds_toArray, List.set_cons_zero, List.set_cons_succ])
                      refine wpAnyH_takeL (i := 10) (v := ?v111) rfl (by kernel_rfl) (by kernel_rfl) (by kernel_rfl) (fun _ _ _ h => h) (Or.inl ⟨by rfl, ?y111⟩) (by assumption) ?r111
                      case y111 => (intro W hSw; (try dsimp only at hSw); go_simp; try with_reducible rfl)
                      (try simp only [Act.put, List.setIfInBounds_toArray, List.set_cons_zero, List.set_cons_succ])
                      refine wpAnyH_takeL (i := 11) (v := ?v112) rfl (by kernel_rfl) (by kernel_rfl) (by kernel_rfl) (fun _ _ _ h => h) (Or.inl ⟨by rfl, ?y112⟩) (by assumption) ?r112
                      case y112 => (intro W hSw; (try dsimp only at hSw); go_simp; try with_reducible rfl)
                      (try simp only [Act.put, List.setIfInBounds_toArray, List.set_cons_zero, List.set_cons_succ])
                      refine wpAnyH_ready (rs := [7]) (by kernel_rfl) (by simp) ?_
                      refine consL rfl (fun K hK => ?_) AllReadyH.nil
                      go_simp
                      refine Calls.mono (l6own_any (⟨qk, qn, qix, qu, qs, qm⟩ : Va) _ _ (Hq.out _ hd).2) ?_
                      rintro e w1 ⟨v1, rfl, hv1, h1⟩
                      have g1 := hd.trans (h1.mono hd.size)
                      (try dsimp only)
                      refine hK.out _ _ (HF4.out _ g1) (fun hHeld => ?_)
                      clear hK K
                      (try simp only [Act.put, List.setIfInBounds_toArray, List.set_cons_zero, List.set_cons_succ])
                      refine wpAnyH_ready (rs := [12]) (by kernel_rfl) (by simp) ?_
                      refine consL rfl (fun K hK => ?_) AllReadyH.nil
                      go_simp
                      refine Calls.mono (l6own_any (⟨rk, rn, rix, ru, rs, rm⟩ : Va) _ _ (Hr.out _ g1).2) ?_
                      rintro e w2 ⟨v2, rfl, hv2, h2⟩
                      have g2 := g1.trans (h2.mono g1.size)
                      (try dsimp only)
                      refine hK.out _ _ (HF4.out _ g2) (fun hHeld => ?_)
                      clear hK K
                      (try simp only [Act.put, List.setIfInBounds_toArray, List.set_cons_zero, List.set_cons_succ])
                      refine wpAnyH_ready (rs := [13]) (by kernel_rfl) (by simp) ?_
                      refine consL rfl (fun K hK => ?_) AllReadyH.nil
                      go_simp
                      refine Calls.mono (vCompare_any (⟨qk, qn, qix, qu, qs, qm⟩ : Va) (⟨rk, rn, rix, ru, rs, rm⟩ : Va) v1 v2 _ (va_lo hv1 h2) (hv2.sub (fun b hb => hb.2))) ?_
                      rw [HY.out]
                      rintro e w3 ⟨rfl, h3⟩
                      have g3 := g2.trans (h3.mono g2.size)
                      (try dsimp only)
                      refine hK.out _ _ (HF4.out _ g3) (fun hHeld => ?_)
                      clear hK K
                      (try simp only [Act.put, List.setIfInBounds_toArray, List.set_cons_zero, List.set_cons_succ])
                      refine wpAnyH_takeL (i := 14) (v := ?v113) rfl (by kernel_rfl) (by kernel_rfl) (by kernel_rfl) (fun _ _ _ h => h) (Or.inl ⟨by rfl, ?y113⟩) (by assumption) ?r113
                      case y113 => (intro W hSw; (try dsimp only at hSw); go_simp; try with_reducible rfl)
                      (try simp only [Act.put, List.setIfInBounds_toArray, List.set_cons_zero, List.set_cons_succ])
                      refine wpAnyH_takeL (i := 15) (v := ?v114) rfl (by kernel_rfl) (by kernel_rfl) (by kernel_rfl) (fun _ _ _ h => h) (Or.inl ⟨by rfl, ?y114⟩) (by assumption) ?r114
                      case y114 => (intro W hSw; (try dsimp only at hSw); go_simp; try with_reducible rfl)
                      (try simp only [Act.put, List.setIfInBounds_toArray, List.set_cons_zero, List.set_cons_succ])
                      refine wpAnyH_takeL (i := 16) (v := ?v115) rfl (by kernel_rfl) (by kernel_rfl) (by kernel_rfl) (fun _ _ _ h => h) (Or.inl ⟨by rfl, ?y115⟩) (by assumption) ?r115
                      case y115 => (intro W hSw; (try dsimp only at hSw); go_simp; try with_reducible rfl)
                      (try simp only [Act.put, List.setIfInBounds_toArray, List.set_cons_zero, List.set_cons_succ])
                      refine wpAnyH_takeL (i := 17) rfl (by kernel_rfl) (by kernel_rfl) (by kernel_rfl) (fun _ _ _ h => h) (Or.inr ⟨by rfl, rfl⟩) (by assumption) ?_
                      (try simp only [Act.put, List.setIfInBounds_toArray, List.set_cons_zero, List.set_cons_succ])
                      refine wpAnyH_takeL (i := 18) rfl (by kernel_rfl) (by kernel_rfl) (by kernel_rfl) (fun _ _ _ h => h) (Or.inr ⟨by rfl, rfl⟩) (by assumption) ?_
                      (try simp only [Act.put, List.setIfInBounds_toArray, List.set_cons_zero, List.set_cons_succ])
                      refine wpAnyH_takeL (i := 19) rfl (by kernel_rfl) (by kernel_rfl) (by kernel_rfl) (fun _ _ _ h => h) (Or.inr ⟨by rfl, rfl⟩) (by assumption) ?_
                      (try simp only [Act.put, List.setIfInBounds_toArray, List.set_cons_zero, List.set_cons_succ])
                      refine wpAnyH_takeL (i := 20) rfl (by kernel_rfl) (by kernel_rfl) (by kernel_rfl) (fun _ _ _ h => h) (Or.inr ⟨by rfl, rfl⟩) (by assumption) ?_
                      (try simp only [Act.put, List.setIfInBounds_toArray, List.set_cons_zero, List.set_cons_succ])
                      refine wpAnyH_takeL (i := 21) rfl (by kernel_rfl) (by kernel_rfl) (by kernel_rfl) (fun _ _ _ h => h) (Or.inr ⟨by rfl, rfl⟩) (by assumption) ?_
                      (try simp only [Act.put, List.setIfInBounds_toArray, List.set_cons_zero, List.set_cons_succ])
                      refine wpAnyH_takeL (i := 22) rfl (by kernel_rfl) (by kernel_rfl) (by kernel_rfl) (fun _ _ _ h => h) (Or.inr ⟨by rfl, rfl⟩) (by assumption) ?_
                      (try simp only [Act.put, List.setIfInBounds_toArray, List.set_cons_zero, List.set_cons_succ])
                      refine wpAnyH_takeL (i := 23) rfl (by kernel_rfl) (by kernel_rfl) (by kernel_rfl) (fun _ _ _ h => h) (Or.inr ⟨by rfl, rfl⟩) (by assumption) ?_
                      (try simp only [Act.put, List.setIfInBounds_toArray, List.set_cons_zero, List.set_cons_succ])
                      refine wpAnyH_takeL (i := 24) rfl (by kernel_rfl) (by kernel_rfl) (by kernel_rfl) (fun _ _ _ h => h) (Or.inr ⟨by rfl, rfl⟩) (by assumption) ?_
                      (try simp only [Act.put, List.setIfInBounds_toArray, List.set_cons_zero, List.set_cons_succ])
                      refine wpAnyH_takeL (i := 25) rfl (by kernel_rfl) (by kernel_rfl) (by kernel_rfl) (fun _ _ _ h => h) (Or.inr ⟨by rfl, rfl⟩) (by assumption) ?_
                      (try simp only [Act.put, List.setIfInBounds_toArray, List.set_cons_zero, List.set_cons_succ])
                      refine wpAnyH_takeL (i := 26) rfl (by kernel_rfl) (by kernel_rfl) (by kernel_rfl) (fun _ _ _ h => h) (Or.inr ⟨by rfl, rfl⟩) (by assumption) ?_
                      (try simp only [Act.put, List.setIfInBounds_toArray, List.set_cons_zero, List.set_cons_succ])
                      refine wpAnyH_takeL (i := 27) rfl (by kernel_rfl) (by kernel_rfl) (by kernel_rfl) (fun _ _ _ h => h) (Or.inr ⟨by rfl, rfl⟩) (by assumption) ?_
                      (try simp only [Act.put, List.setIfInBounds_toArray, List.set_cons_zero, List.set_cons_succ])
                      refine wpAnyH_takeL (i := 28) rfl (by kernel_rfl) (by kernel_rfl) (by kernel_rfl) (fun _ _ _ h => h) (Or.inr ⟨by rfl, rfl⟩) (by assumption) ?_
                      (try simp only [Act.put, List.setIfInBounds_toArray, List.set_cons_zero, List.set_cons_succ])
                      refine wpAnyH_takeL (i := 29) (v := ?v116) rfl (by kernel_rfl) (by kernel_rfl) (by kernel_rfl) (fun _ _ _ h => h) (Or.inl ⟨by rfl, ?y116⟩) (by assumption) ?r116
                      case y116 => (intro W hSw; (try dsimp only at hSw); go_simp; try with_reducible rfl)
                      (try simp only [Act.put, List.setIfInBounds_toArray, List.set_cons_zero, List.set_cons_succ])
                      refine wpAnyH_done (by kernel_rfl) ?_ _
                      go_wp2_with fail
                      go_roundw
                      case rel => exact ⟨j + 1, by omega, by go_num, g3⟩
                      case measure => simp [intOf]; omega
                  · have gz : decide (z ≤ 0) = false := decide_eq_false hz0
                    clear hz0
                    refine wp_region_held_drew (S := fun W => (W.cell? ⟨BA, i * 6, none⟩ = some (.int .i64 pk) ∧ W.cell? ⟨BA, i * 6 + 1, none⟩ = some (.int .i64 pn) ∧ W.cell? ⟨BA, i * 6 + 2, none⟩ = some (.int .i64 pix) ∧ W.cell? ⟨BA, i * 6 + 3, none⟩ = some (.int .u64 pu) ∧ W.cell? ⟨BA, i * 6 + 4, none⟩ = some (.string ps) ∧ W.cell? ⟨BA, i * 6 + 5, none⟩ = some (.slice pA pl pc)) ∧ (W.cell? ⟨BA, k * 6, none⟩ = some (.int .i64 qk) ∧ W.cell? ⟨BA, k * 6 + 1, none⟩ = some (.int .i64 qn) ∧ W.cell? ⟨BA, k * 6 + 2, none⟩ = some (.int .i64 qix) ∧ W.cell? ⟨BA, k * 6 + 3, none⟩ = some (.int .u64 qu) ∧ W.cell? ⟨BA, k * 6 + 4, none⟩ = some (.string qs) ∧ W.cell? ⟨BA, k * 6 + 5, none⟩ = some (.slice qA ql qc)) ∧ W.cell? ⟨BA, j * 6, none⟩ = some (.int .i64 rk) ∧ W.cell? ⟨BA, j * 6 + 1, none⟩ = some (.int .i64 rn) ∧ W.cell? ⟨BA, j * 6 + 2, none⟩ = some (.int .i64 rix) ∧ W.cell? ⟨BA, j * 6 + 3, none⟩ = some (.int .u64 ru) ∧ W.cell? ⟨BA, j * 6 + 4, none⟩ = some (.string rs) ∧ W.cell? ⟨BA, j * 6 + 5, none⟩ = some (.slice rA rl rc)) (by kernel_rfl) (HF4.out _ hd) (fun hHeld => ?_)
                    (try simp only [List.size_toArray, List.length_cons, List.length_nil, Nat.zero_add, Nat.reduceAdd])
                    refine wpAnyH_takeL (i := 0) (v := ?v117) rfl (by kernel_rfl) (by kernel_rfl) (by kernel_rfl) (fun _ _ _ h => h) (Or.inl ⟨by rfl, ?y117⟩) (by assumption) ?r117
                    case y117 => (intro W hSw; (try dsimp only at hSw); go_simp; try with_reducible rfl)
                    (try simp only [Act.put, List.setIfInBounds_toArray, List.set_cons_zero, List.set_cons_succ])
                    refine wpAnyH_takeL (i := 1) (v := ?v118) rfl (by kernel_rfl) (by kernel_rfl) (by kernel_rfl) (fun _ _ _ h => h) (Or.inl ⟨by rfl, ?y118⟩) (by assumption) ?r118
                    case y118 => (intro W hSw; (try dsimp only at hSw); go_simp; try with_reducible rfl)
                    (try simp only [Act.put, List.setIfInBounds_toArray, List.set_cons_zero, List.set_cons_succ])
                    refine wpAnyH_takeL (i := 2) (v := ?v119) rfl (by kernel_rfl) (by kernel_rfl) (by kernel_rfl) (fun _ _ _ h => h) (Or.inl ⟨by rfl, ?y119⟩) (by assumption) ?r119
                    case y119 => (intro W hSw; (try dsimp only at hSw); go_simp; try with_reducible rfl)
                    (try simp only [Act.put, List.setIfInBounds_toArray, List.set_cons_zero, List.set_cons_succ])
                    refine wpAnyH_takeL (i := 3) rfl (by kernel_rfl) (by kernel_rfl) (by kernel_rfl) (fun _ _ _ h => h) (Or.inr ⟨by rfl, rfl⟩) (by assumption) ?_
                    (try simp only [Act.put, List.setIfInBounds_toArray, List.set_cons_zero, List.set_cons_succ])
                    refine wpAnyH_takeL (i := 4) rfl (by kernel_rfl) (by kernel_rfl) (by kernel_rfl) (fun _ _ _ h => h) (Or.inr ⟨by rfl, rfl⟩) (by assumption) ?_
                    (try simp only [Act.put, List.setIfInBounds_toArray, List.set_cons_zero, List.set_cons_succ])
                    refine wpAnyH_takeL (i := 5) rfl (by kernel_rfl) (by kernel_rfl) (by kernel_rfl) (fun _ _ _ h => h) (Or.inr ⟨by rfl, rfl⟩) (by assumption) ?_
                    (try simp only [Act.put, List.setIfInBounds_toArray, List.set_cons_zero, List.set_cons_succ])
                    refine wpAnyH_takeL (i := 6) rfl (by kernel_rfl) (by kernel_rfl) (by kernel_rfl) (fun _ _ _ h => h) (Or.inr ⟨by rfl, rfl⟩) (by assumption) ?_
                    (try simp only [Act.put, List.setIfInBounds_toArray, List.set_cons_zero, List.set_cons_succ])
                    refine wpAnyH_takeL (i := 7) rfl (by kernel_rfl) (by kernel_rfl) (by kernel_rfl) (fun _ _ _ h => h) (Or.inr ⟨by rfl, rfl⟩) (by assumption) ?_
                    (try simp only [Act.put, List.setIfInBounds_toArray, List.set_cons_zero, List.set_cons_succ])
                    refine wpAnyH_takeL (i := 8) rfl (by kernel_rfl) (by kernel_rfl) (by kernel_rfl) (fun _ _ _ h => h) (Or.inr ⟨by rfl, rfl⟩) (by assumption) ?_
                    (try simp only [Act.put, List.setIfInBounds_toArray, List.set_cons_zero, List.set_cons_succ])
                    refine wpAnyH_takeL (i := 9) rfl (by kernel_rfl) (by kernel_rfl) (by kernel_rfl) (fun _ _ _ h => h) (Or.inr ⟨by rfl, rfl⟩) (by assumption) ?_
                    (try simp only [Act.put, List.setIfInBounds_toArray, List.set_cons_zero, List.set_cons_succ])
                    refine wpAnyH_takeL (i := 10) rfl (by kernel_rfl) (by kernel_rfl) (by kernel_rfl) (fun _ _ _ h => h) (Or.inr ⟨by rfl, rfl⟩) (by assumption) ?_
                    (try simp only [Act.put, List.setIfInBounds_toArray, List.set_cons_zero, List.set_cons_succ])
                    refine wpAnyH_takeL (i := 11) rfl (by kernel_rfl) (by kernel_rfl) (by kernel_rfl) (fun _ _ _ h => h) (Or.inr ⟨by rfl, rfl⟩) (by assumption) ?_
                    (try simp only [Act.put, List.setIfInBounds_toArray, List.set_cons_zero, List.set_cons_succ])
                    refine wpAnyH_takeL (i := 12) rfl (by kernel_rfl) (by kernel_rfl) (by kernel_rfl) (fun _ _ _ h => h) (Or.inr ⟨by rfl, rfl⟩) (by assumption) ?_
                    (try simp only [Act.put, List.setIfInBounds_toArray, List.set_cons_zero, List.set_cons_succ])
                    refine wpAnyH_takeL (i := 13) rfl (by kernel_rfl) (by kernel_rfl) (by kernel_rfl) (fun _ _ _ h => h) (Or.inr ⟨by rfl, rfl⟩) (by assumption) ?_
                    (try simp only [Act.put, List.setIfInBounds_toArray, List.set_cons_zero, List.set_cons_succ])
                    refine wpAnyH_takeL (i := 14) rfl (by kernel_rfl) (by kernel_rfl) (by kernel_rfl) (fun _ _ _ h => h) (Or.inr ⟨by rfl, rfl⟩) (by assumption) ?_
                    (try simp only [Act.put, List.setIfInBounds_toArray, List.set_cons_zero, List.set_cons_succ])
                    refine wpAnyH_takeL (i := 15) (v := ?v120) rfl (by kernel_rfl) (by kernel_rfl) (by kernel_rfl) (fun _ _ _ h => h) (Or.inl ⟨by rfl, ?y120⟩) (by assumption) ?r120
                    case y120 => (intro W hSw; (try dsimp only at hSw); go_simp; try with_reducible rfl)
                    (try simp only [Act.put, List.setIfInBounds_toArray, List.set_cons_zero, List.set_cons_succ])
                    refine wpAnyH_takeL (i := 16) (v := ?v121) rfl (by kernel_rfl) (by kernel_rfl) (by kernel_rfl) (fun _ _ _ h => h) (Or.inl ⟨by rfl, ?y121⟩) (by assumption) ?r121
                    case y121 => (intro W hSw; (try dsimp only at hSw); go_simp; try with_reducible rfl)
                    (try simp only [Act.put, List.setIfInBounds_toArray, List.set_cons_zero, List.set_cons_succ])
                    refine wpAnyH_takeL (i := 17) rfl (by kernel_rfl) (by kernel_rfl) (by kernel_rfl) (fun _ _ _ h => h) (Or.inr ⟨by rfl, rfl⟩) (by assumption) ?_
                    (try simp only [Act.put, List.setIfInBounds_toArray, List.set_cons_zero, List.set_cons_succ])
                    refine wpAnyH_takeL (i := 18) rfl (by kernel_rfl) (by kernel_rfl) (by kernel_rfl) (fun _ _ _ h => h) (Or.inr ⟨by rfl, rfl⟩) (by assumption) ?_
                    (try simp only [Act.put, List.setIfInBounds_toArray, List.set_cons_zero, List.set_cons_succ])
                    refine wpAnyH_takeL (i := 19) rfl (by kernel_rfl) (by kernel_rfl) (by kernel_rfl) (fun _ _ _ h => h) (Or.inr ⟨by rfl, rfl⟩) (by assumption) ?_
                    (try simp only [Act.put, List.setIfInBounds_toArray, List.set_cons_zero, List.set_cons_succ])
                    refine wpAnyH_takeL (i := 20) rfl (by kernel_rfl) (by kernel_rfl) (by kernel_rfl) (fun _ _ _ h => h) (Or.inr ⟨by rfl, rfl⟩) (by assumption) ?_
                    (try simp only [Act.put, List.setIfInBounds_toArray, List.set_cons_zero, List.set_cons_succ])
                    refine wpAnyH_takeL (i := 21) rfl (by kernel_rfl) (by kernel_rfl) (by kernel_rfl) (fun _ _ _ h => h) (Or.inr ⟨by rfl, rfl⟩) (by assumption) ?_
                    (try simp only [Act.put, List.setIfInBounds_toArray, List.set_cons_zero, List.set_cons_succ])
                    refine wpAnyH_takeL (i := 22) rfl (by kernel_rfl) (by kernel_rfl) (by kernel_rfl) (fun _ _ _ h => h) (Or.inr ⟨by rfl, rfl⟩) (by assumption) ?_
                    (try simp only [Act.put, List.setIfInBounds_toArray, List.set_cons_zero, List.set_cons_succ])
                    refine wpAnyH_takeL (i := 23) rfl (by kernel_rfl) (by kernel_rfl) (by kernel_rfl) (fun _ _ _ h => h) (Or.inr ⟨by rfl, rfl⟩) (by assumption) ?_
                    (try simp only [Act.put, List.setIfInBounds_toArray, List.set_cons_zero, List.set_cons_succ])
                    refine wpAnyH_takeL (i := 24) rfl (by kernel_rfl) (by kernel_rfl) (by kernel_rfl) (fun _ _ _ h => h) (Or.inr ⟨by rfl, rfl⟩) (by assumption) ?_
                    (try simp only [Act.put, List.setIfInBounds_toArray, List.set_cons_zero, List.set_cons_succ])
                    refine wpAnyH_takeL (i := 25) rfl (by kernel_rfl) (by kernel_rfl) (by kernel_rfl) (fun _ _ _ h => h) (Or.inr ⟨by rfl, rfl⟩) (by assumption) ?_
                    (try simp only [Act.put, List.setIfInBounds_toArray, List.set_cons_zero, List.set_cons_succ])
                    refine wpAnyH_takeL (i := 26) rfl (by kernel_rfl) (by kernel_rfl) (by kernel_rfl) (fun _ _ _ h => h) (Or.inr ⟨by rfl, rfl⟩) (by assumption) ?_
                    (try simp only [Act.put, List.setIfInBounds_toArray, List.set_cons_zero, List.set_cons_succ])
                    refine wpAnyH_takeL (i := 27) rfl (by kernel_rfl) (by kernel_rfl) (by kernel_rfl) (fun _ _ _ h => h) (Or.inr ⟨by rfl, rfl⟩) (by assumption) ?_
                    (try simp only [Act.put, List.setIfInBounds_toArray, List.set_cons_zero, List.set_cons_succ])
                    refine wpAnyH_takeL (i := 28) rfl (by kernel_rfl) (by kernel_rfl) (by kernel_rfl) (fun _ _ _ h => h) (Or.inr ⟨by rfl, rfl⟩) (by assumption) ?_
                    (try simp only [Act.put, List.setIfInBounds_toArray, List.set_cons_zero, List.set_cons_succ])
                    refine wpAnyH_takeL (i := 29) (v := ?v122) rfl (by kernel_rfl) (by kernel_rfl) (by kernel_rfl) (fun _ _ _ h => h) (Or.inl ⟨by rfl, ?y122⟩) (by assumption) ?r122
                    case y122 => (intro W hSw; (try dsimp only at hSw); go_simp; try with_reducible rfl)
                    (try simp only [Act.put, List.setIfInBounds_toArray, List.set_cons_zero, List.set_cons_succ])
                    refine wpAnyH_done (by kernel_rfl) ?_ _
                    go_wp2_with fail
                    go_roundw
                    case rel => exact ⟨j + 1, by omega, by go_num, hd⟩
                    case measure => simp [intOf]; omega
                · have hj9 : ¬ (j : Int) < 8 := by omega
                  go_wp2_with fail
                  go_roundw
                  case rel => exact ⟨k + 1, by omega, by go_num, hJ⟩
                  case measure => simp [intOf]; omega
          · obtain rfl := hE2 hP0
            have gp : (EP == 0) = false := by rw [beq_eq_false_iff_ne]; exact hP0
            clear hE1 hE2 hP0
            obtain ⟨q0, q1, q2, q3, q4, q5⟩ := (HF1.out _ g7).2
            go_wp2_with fail
            clear q0 q1 q2 q3 q4 q5
            refine Calls.mono (l6own_any (⟨qk, qn, qix, qu, qs, qm⟩ : Va) _ _ (Hq.out _ g7).2) ?_
            rintro e w8 ⟨v8, rfl, hv8, h8⟩
            have g8 := g7.trans (h8.mono g7.size)
            go_wp2_with fail
            refine Calls.mono (vEncode_any (⟨qk, qn, qix, qu, qs, qm⟩ : Va) _ _ (hv8.sub (fun b hb => hb.2))) ?_
            rintro e w9 ⟨hF1, hF2, h9⟩
            have g9 := g8.trans (h9.mono g8.size)
            rw [← hEQ] at hF1 hF2
            clear hEQ hv8
            by_cases hQ0 : EQ = 0
            · obtain ⟨A9, c9, rfl, hc9, hA9, hr9⟩ := hF1 hQ0
              subst hQ0
              clear hF1 hF2
              clear h8 h9 hr9 hc9 hA9
              go_wp2_with fail
              obtain ⟨wk, rfl⟩ : ∃ wk, wk = wr := ⟨_, rfl⟩
              have gX := g9
              clear g5 g6 g7 g8 g9
              go_loopw [21] (fun v wr => ∃ j : Nat, j ≤ 8 ∧ v = .int .i64 j ∧ Below V0.heap.size V0 wr) (fun v _ => 8 - (intOf v).toNat)
              case atStart => exact ⟨0, by omega, rfl, gX⟩
              case round =>
                clear gX
                obtain ⟨j, hj, rfl, hJ⟩ := hrel
                by_cases hj8 : j < 8
                · skip
                  obtain ⟨rx, rA, rl, rc, _, Hr'⟩ := val_cells LA0 (hl8'.out ▸ hj8)
                  obtain ⟨rk, rn, rix, ru, rs, rm⟩ := rx
                  unfold VrAt at Hr'
                  simp only at Hr'
                  have Hr := Lib.hid Hr'
                  clear Hr'
                  have jj : (j : Int) < 8 := by omega
                  have j0 : (0 : Int) ≤ (j : Int) := by omega
                  obtain ⟨y, hy⟩ : ∃ y, y = vaCmp (⟨qk, qn, qix, qu, qs, qm⟩ : Va) (⟨rk, rn, rix, ru, rs, rm⟩ : Va) := ⟨_, rfl⟩
                  obtain ⟨t, ht⟩ : ∃ t, t = vaCmp (⟨pk, pn, pix, pu, ps, pm⟩ : Va) (⟨rk, rn, rix, ru, rs, rm⟩ : Va) := ⟨_, rfl⟩
                  have HTR := Lib.hid (show z ≤ 0 → y ≤ 0 → t ≤ 0 from by rw [← HZ.out, hy, ht]; exact va_cmp.tr _ _ _)
                  have HY := Lib.hid hy.symm
                  have HT := Lib.hid ht.symm
                  clear hy ht
                  have HF4 := Lib.hid (show ∀ W, Below V0.heap.size V0 W → (fun W : World => (W.cell? ⟨BA, i * 6, none⟩ = some (.int .i64 pk) ∧ W.cell? ⟨BA, i * 6 + 1, none⟩ = some (.int .i64 pn) ∧ W.cell? ⟨BA, i * 6 + 2, none⟩ = some (.int .i64 pix) ∧ W.cell? ⟨BA, i * 6 + 3, none⟩ = some (.int .u64 pu) ∧ W.cell? ⟨BA, i * 6 + 4, none⟩ = some (.string ps) ∧ W.cell? ⟨BA, i * 6 + 5, none⟩ = some (.slice pA pl pc)) ∧ (W.cell? ⟨BA, k * 6, none⟩ = some (.int .i64 qk) ∧ W.cell? ⟨BA, k * 6 + 1, none⟩ = some (.int .i64 qn) ∧ W.cell? ⟨BA, k * 6 + 2, none⟩ = some (.int .i64 qix) ∧ W.cell? ⟨BA, k * 6 + 3, none⟩ = some (.int .u64 qu) ∧ W.cell? ⟨BA, k * 6 + 4, none⟩ = some (.string qs) ∧ W.cell? ⟨BA, k * 6 + 5, none⟩ = some (.slice qA ql qc)) ∧ W.cell? ⟨BA, j * 6, none⟩ = some (.int .i64 rk) ∧ W.cell? ⟨BA, j * 6 + 1, none⟩ = some (.int .i64 rn) ∧ W.cell? ⟨BA, j * 6 + 2, none⟩ = some (.int .i64 rix) ∧ W.cell? ⟨BA, j * 6 + 3, none⟩ = some (.int .u64 ru) ∧ W.cell? ⟨BA, j * 6 + 4, none⟩ = some (.string rs) ∧ W.cell? ⟨BA, j * 6 + 5, none⟩ = some (.slice rA rl rc)) W from fun W h => ⟨(Hp.out W h).1, (Hq.out W h).1, (Hr.out W h).1⟩)
                  have hd : Below V0.heap.size V0 wr.drew := hJ.drew
                  go_wp2_with fail
                  by_cases hz0 : z ≤ 0
                  · have gz : decide (z ≤ 0) = true := decide_eq_true hz0
                    by_cases hy0 : y ≤ 0
                    · have gy : decide (y ≤ 0) = true := decide_eq_true hy0
                      have gt : decide (0 < t) = false := decide_eq_false (by have := HTR.out hz0 hy0; omega)
                      clear hz0 hy0
                      refine wp_region_held_drew (S := fun W => (W.cell? ⟨BA, i * 6, none⟩ = some (.int .i64 pk) ∧ W.cell? ⟨BA, i * 6 + 1, none⟩ = some (.int .i64 pn) ∧ W.cell? ⟨BA, i * 6 + 2, none⟩ = some (.int .i64 pix) ∧ W.cell? ⟨BA, i * 6 + 3, none⟩ = some (.int .u64 pu) ∧ W.cell? ⟨BA, i * 6 + 4, none⟩ = some (.string ps) ∧ W.cell? ⟨BA, i * 6 + 5, none⟩ = some (.slice pA pl pc)) ∧ (W.cell? ⟨BA, k * 6, none⟩ = some (.int .i64 qk) ∧ W.cell? ⟨BA, k * 6 + 1, none⟩ = some (.int .i64 qn) ∧ W.cell? ⟨BA, k * 6 + 2, none⟩ = some (.int .i64 qix) ∧ W.cell? ⟨BA, k * 6 + 3, none⟩ = some (.int .u64 qu) ∧ W.cell? ⟨BA, k * 6 + 4, none⟩ = some (.string qs) ∧ W.cell? ⟨BA, k * 6 + 5, none⟩ = some (.slice qA ql qc)) ∧ W.cell? ⟨BA, j * 6, none⟩ = some (.int .i64 rk) ∧ W.cell? ⟨BA, j * 6 + 1, none⟩ = some (.int .i64 rn) ∧ W.cell? ⟨BA, j * 6 + 2, none⟩ = some (.int .i64 rix) ∧ W.cell? ⟨BA, j * 6 + 3, none⟩ = some (.int .u64 ru) ∧ W.cell? ⟨BA, j * 6 + 4, none⟩ = some (.string rs) ∧ W.cell? ⟨BA, j * 6 + 5, none⟩ = some (.slice rA rl rc)) (by kernel_rfl) (HF4.out _ hd) (fun hHeld => ?_)
                      (try simp only [List.size_toArray, List.length_cons, List.length_nil, Nat.zero_add, Nat.reduceAdd])
                      refine wpAnyH_takeL (i := 0) (v := ?v123) rfl (by kernel_rfl) (by kernel_rfl) (by kernel_rfl) (fun _ _ _ h => h) (Or.inl ⟨by rfl, ?y123⟩) (by assumption) ?r123
                      case y123 => (intro W hSw; (try dsimp only at hSw); go_simp; try with_reducible rfl)
                      (try simp only [Act.put, List.setIfInBounds_toArray, List.set_cons_zero, List.set_cons_succ])
                      refine wpAnyH_takeL (i := 1) (v := ?v124) rfl (by kernel_rfl) (by kernel_rfl) (by kernel_rfl) (fun _ _ _ h => h) (Or.inl ⟨by rfl, ?y124⟩) (by assumption) ?r124
                      case y124 => (intro W hSw; (try dsimp only at hSw); go_simp; try with_reducible rfl)
                      (try simp only [Act.put, List.setIfInBounds_toArray, List.set_cons_zero, List.set_cons_succ])
                      refine wpAnyH_takeL (i := 2) (v := ?v125) rfl (by kernel_rfl) (by kernel_rfl) (by kernel_rfl) (fun _ _ _ h => h) (Or.inl ⟨by rfl, ?y125⟩) (by assumption) ?r125
                      case y125 => (intro W hSw; (try dsimp only at hSw); go_simp; try with_reducible rfl)
                      (try simp only [Act.put, List.setIfInBounds_toArray, List.set_cons_zero, List.set_cons_succ])
                      refine wpAnyH_takeL (i := 3) (v := ?v126) rfl (by kernel_rfl) (by kernel_rfl) (by kernel_rfl) (fun _ _ _ h => h) (Or.inl ⟨by rfl, ?y126⟩) (by assumption) ?r126
                      case y126 => (intro W hSw; (try dsimp only at hSw); go_simp; try with_reducible rfl)
                      (try simp only [Act.put, List.setIfInBounds_toArray, List.set_cons_zero, List.set_cons_succ])
                      refine wpAnyH_takeL (i := 4) (v := ?v127) rfl (by kernel_rfl) (by kernel_rfl) (by kernel_rfl) (fun _ _ _ h => h) (Or.inl ⟨by rfl, ?y127⟩) (by assumption) ?r127
                      case y127 => (intro W hSw; (try dsimp only at hSw); go_simp; try with_reducible rfl)
                      (try simp only [Act.put, List.setIfInBounds_toArray, List.set_cons_zero, List.set_cons_succ])
                      refine wpAnyH_takeL (i := 5) (v := ?v128) rfl (by kernel_rfl) (by kernel_rfl) (by kernel_rfl) (fun _ _ _ h => h) (Or.inl ⟨by rfl, ?y128⟩) (by assumption) ?r128
                      case y128 => (intro W hSw; (try dsimp only at hSw); go_simp; try with_reducible rfl)
                      (try simp only [Act.put, List.setIfInBounds_toArray, List.set_cons_zero, List.set_cons_succ])
                      refine wpAnyH_takeL (i := 6) (v := ?v129) rfl (by kernel_rfl) (by kernel_rfl) (by kernel_rfl) (fun _ _ _ h => h) (Or.inl ⟨by rfl, ?y129⟩) (by assumption) ?r129
                      case y129 => (intro W hSw; (try dsimp only at hSw); go_simp; try with_reducible rfl)
                      (try simp only [Act.put, List.setIfInBounds_toArray, List.set_cons_zero, List.set_cons_succ])
                      refine wpAnyH_takeL (i := 8) (v := ?v130) rfl (by kernel_rfl) (by kernel_rfl) (by kernel_rfl) (fun _ _ _ h => h) (Or.inl ⟨by rfl, ?y130⟩) (by assumption) ?r130
                      case y130 => (intro W hSw; (try dsimp only at hSw); go_simp; try with_reducible rfl)
                      (try simp only [Act.put, List.setIfInBounds_toArray, List.set_cons_zero, List.set_cons_succ])
                      refine wpAnyH_takeL (i := 9) (v := ?v131) rfl (by kernel_rfl) (by kernel_rfl) (by kernel_rfl) (fun _ _ _ h => h) (Or.inl ⟨by rfl, ?y131⟩) (by assumption) ?r131
                      case y131 => (intro W hSw; (try dsimp only at hSw); go_simp; try with_reducible rfl)
                      (try simp only [Act.put, List.setIfInBounds_toArray, List.set_cons_zero, List.set_cons_succ])
                      refine wpAnyH_takeL (i := 10) (v := ?v132) rfl (by kernel_rfl) (by kernel_rfl) (by kernel_rfl) (fun _ _ _ h => h) (Or.inl ⟨by rfl, ?y132⟩) (by assumption) ?r132
                      case y132 => (intro W hSw; (try dsimp only at hSw); go_simp; try with_reducible rfl)
                      (try simp only [Act.put, List.setIfInBounds_toArray, List.set_cons_zero, List.set_cons_succ])
                      refine wpAnyH_takeL (i := 11) (v := ?v133) rfl (by kernel_rfl) (by kernel_rfl) (by kernel_rfl) (fun _ _ _ h => h) (Or.inl ⟨by rfl, ?y133⟩) (by assumption) ?r133
                      case y133 => (intro W hSw; (try dsimp only at hSw); go_simp; try with_reducible rfl)
                      (try simp only [Act.put, List.setIfInBounds_toArray, List.set_cons_zero, List.set_cons_succ])
                      refine wpAnyH_ready (rs := [7]) (by kernel_rfl) (by simp) ?_
                      refine consL rfl (fun K hK => ?_) AllReadyH.nil
                      go_simp
                      refine Calls.mono (l6own_any (⟨qk, qn, qix, qu, qs, qm⟩ : Va) _ _ (Hq.out _ hd).2) ?_
                      rintro e w1 ⟨v1, rfl, hv1, h1⟩
                      have g1 := hd.trans (h1.mono hd.size)
                      (try dsimp only)
                      refine hK.out _ _ (HF4.out _ g1) (fun hHeld => ?_)
                      clear hK K
                      (try simp only [Act.put, List.setIfInBounds_toArray, List.set_cons_zero, List.set_cons_succ])
                      refine wpAnyH_ready (rs := [12]) (by kernel_rfl) (by simp) ?_
                      refine consL rfl (fun K hK => ?_) AllReadyH.nil
                      go_simp
                      refine Calls.mono (l6own_any (⟨rk, rn, rix, ru, rs, rm⟩ : Va) _ _ (Hr.out _ g1).2) ?_
                      rintro e w2 ⟨v2, rfl, hv2, h2⟩
                      have g2 := g1.trans (h2.mono g1.size)
                      (try dsimp only)
                      refine hK.out _ _ (HF4.out _ g2) (fun hHeld => ?_)
                      clear hK K
                      (try simp only [Act.put, List.setIfInBounds_toArray, List.set_cons_zero, List.set_cons_succ])
                      refine wpAnyH_ready (rs := [13]) (by kernel_rfl) (by simp) ?_
                      refine consL rfl (fun K hK => ?_) AllReadyH.nil
                      go_simp
                      refine Calls.mono (vCompare_any (⟨qk, qn, qix, qu, qs, qm⟩ : Va) (⟨rk, rn, rix, ru, rs, rm⟩ : Va) v1 v2 _ (va_lo hv1 h2) (hv2.sub (fun b hb => hb.2))) ?_
                      rw [HY.out]
                      rintro e w3 ⟨rfl, h3⟩
                      have g3 := g2.trans (h3.mono g2.size)
                      (try dsimp only)
                      refine hK.out _ _ (HF4.out _ g3) (fun hHeld => ?_)
                      clear hK K
                      (try simp only [Act.put, List.setIfInBounds_toArray, List.set_cons_zero, List.set_cons_succ])
                      refine wpAnyH_takeL (i := 14) (v := ?v134) rfl (by kernel_rfl) (by kernel_rfl) (by kernel_rfl) (fun _ _ _ h => h) (Or.inl ⟨by rfl, ?y134⟩) (by assumption) ?r134
                      case y134 => (intro W hSw; (try dsimp only at hSw); go_simp; try with_reducible rfl)
                      (try simp only [Act.put, List.setIfInBounds_toArray, List.set_cons_zero, List.set_cons_succ])
                      refine wpAnyH_takeL (i := 15) (v := ?v135) rfl (by kernel_rfl) (by kernel_rfl) (by kernel_rfl) (fun _ _ _ h => h) (Or.inl ⟨by rfl, ?y135⟩) (by assumption) ?r135
                      case y135 => (intro W hSw; (try dsimp only at hSw); go_simp; try with_reducible rfl)
                      (try simp only [Act.put, List.setIfInBounds_toArray, List.set_cons_zero, List.set_cons_succ])
                      refine wpAnyH_takeL (i := 16) (v := ?v136) rfl (by kernel_rfl) (by kernel_rfl) (by kernel_rfl) (fun _ _ _ h => h) (Or.inl ⟨by rfl, ?y136⟩) (by assumption) ?r136
                      case y136 => (intro W hSw; (try dsimp only at hSw); go_simp; try with_reducible rfl)
                      (try simp only [Act.put, List.setIfInBounds_toArray, List.set_cons_zero, List.set_cons_succ])
                      refine wpAnyH_takeL (i := 17) (v := ?v137) rfl (by kernel_rfl) (by kernel_rfl) (by kernel_rfl) (fun _ _ _ h => h) (Or.inl ⟨by rfl, ?y137⟩) (by assumption) ?r137
                      case y137 => (intro W hSw; (try dsimp only at hSw); go_simp; try with_reducible rfl)
                      (try simp only [Act.put, List.setIfInBounds_toArray, List.set_cons_zero, List.set_cons_succ])
                      refine wpAnyH_takeL (i := 18) (v := ?v138) rfl (by kernel_rfl) (by kernel_rfl) (by kernel_rfl) (fun _ _ _ h => h) (Or.inl ⟨by rfl, ?y138⟩) (by assumption) ?r138
                      case y138 => (intro W hSw; (try dsimp only at hSw); go_simp; try with_reducible rfl)
                      (try simp only [Act.put, List.setIfInBounds_toArray, List.set_cons_zero, List.set_cons_succ])
                      refine wpAnyH_takeL (i := 19) (v := ?v139) rfl (by kernel_rfl) (by kernel_rfl) (by kernel_rfl) (fun _ _ _ h => h) (Or.inl ⟨by rfl, ?y139⟩) (by assumption) ?r139
                      case y139 => (intro W hSw; (try dsimp only at hSw); go_simp; try with_reducible rfl)
                      (try simp only [Act.put, List.setIfInBounds_toArray, List.set_cons_zero, List.set_cons_succ])
                      refine wpAnyH_takeL (i := 20) (v := ?v140) rfl (by kernel_rfl) (by kernel_rfl) (by kernel_rfl) (fun _ _ _ h => h) (Or.inl ⟨by rfl, ?y140⟩) (by assumption) ?r140
                      case y140 => (intro W hSw; (try dsimp only at hSw); go_simp; try with_reducible rfl)
                      (try simp only [Act.put, List.setIfInBounds_toArray, List.set_cons_zero, List.set_cons_succ])
                      refine wpAnyH_takeL (i := 22) (v := ?v141) rfl (by kernel_rfl) (by kernel_rfl) (by kernel_rfl) (fun _ _ _ h => h) (Or.inl ⟨by rfl, ?y141⟩) (by assumption) ?r141
                      case y141 => (intro W hSw; (try dsimp only at hSw); go_simp; try with_reducible rfl)
                      (try simp only [Act.put, List.setIfInBounds_toArray, List.set_cons_zero, List.set_cons_succ])
                      refine wpAnyH_takeL (i := 23) (v := ?v142) rfl (by kernel_rfl) (by kernel_rfl) (by kernel_rfl) (fun _ _ _ h => h) (Or.inl ⟨by rfl, ?y142⟩) (by assumption) ?r142
                      case y142 => (intro W hSw; (try dsimp only at hSw); go_simp; try with_reducible rfl)
                      (try simp only [Act.put, List.setIfInBounds_toArray, List.set_cons_zero, List.set_cons_succ])
                      refine wpAnyH_takeL (i := 24) (v := ?v143) rfl (by kernel_rfl) (by kernel_rfl) (by kernel_rfl) (fun _ _ _ h => h) (Or.inl ⟨by rfl, ?y143⟩) (by assumption) ?r143
                      case y143 => (intro W hSw; (try dsimp only at hSw); go_simp; try with_reducible rfl)
                      (try simp only [Act.put, List.setIfInBounds_toArray, List.set_cons_zero, List.set_cons_succ])
                      refine wpAnyH_takeL (i := 25) (v := ?v144) rfl (by kernel_rfl) (by kernel_rfl) (by kernel_rfl) (fun _ _ _ h => h) (Or.inl ⟨by rfl, ?y144⟩) (by assumption) ?r144
                      case y144 => (intro W hSw; (try dsimp only at hSw); go_simp; try with_reducible rfl)
                      (try simp only [Act.put, List.setIfInBounds_toArray, List.set_cons_zero, List.set_cons_succ])
                      refine wpAnyH_ready (rs := [21]) (by kernel_rfl) (by simp) ?_
                      refine consL rfl (fun K hK => ?_) AllReadyH.nil
                      go_simp
                      refine Calls.mono (l6own_any (⟨pk, pn, pix, pu, ps, pm⟩ : Va) _ _ (Hp.out _ g3).2) ?_
                      rintro e w4 ⟨v4, rfl, hv4, h4⟩
                      have g4 := g3.trans (h4.mono g3.size)
                      (try dsimp only)
                      refine hK.out _ _ (HF4.out _ g4) (fun hHeld => ?_)
                      clear hK K
                      (try simp only [Act.put, List.setIfInBounds_toArray, List.set_cons_zero, List.set_cons_succ])
                      refine wpAnyH_ready (rs := [26]) (by kernel_rfl) (by simp) ?_
                      refine consL rfl (fun K hK => ?_) AllReadyH.nil
                      go_simp
                      refine Calls.mono (l6own_any (⟨rk, rn, rix, ru, rs, rm⟩ : Va) _ _ (Hr.out _ g4).2) ?_
                      rintro e w5 ⟨v5, rfl, hv5, h5⟩
                      have g5 := g4.trans (h5.mono g4.size)
                      (try dsimp only)
                      refine hK.out _ _ (HF4.out _ g5) (fun hHeld => ?_)
                      clear hK K
                      (try simp only [Act.put, List.setIfInBounds_toArray, List.set_cons_zero, List.set_cons_succ])
                      refine wpAnyH_ready (rs := [27]) (by kernel_rfl) (by simp) ?_
                      refine consL rfl (fun K hK => ?_) AllReadyH.nil
                      go_simp
                      refine Calls.mono (vCompare_any (⟨pk, pn, pix, pu, ps, pm⟩ : Va) (⟨rk, rn, rix, ru, rs, rm⟩ : Va) v4 v5 _ (va_lo hv4 h5) (hv5.sub (fun b hb => hb.2))) ?_
                      rw [HT.out]
                      rintro e w6 ⟨rfl, h6⟩
                      have g6 := g5.trans (h6.mono g5.size)
                      (try dsimp only)
                      refine hK.out _ _ (HF4.out _ g6) (fun hHeld => ?_)
                      clear hK K
                      (try simp only [Act.put, List.setIfInBounds_toArray, List.set_cons_zero, List.set_cons_succ])
                      refine wpAnyH_takeL (i := 28) (v := ?v145) rfl (by kernel_rfl) (by kernel_rfl) (by kernel_rfl) (fun _ _ _ h => h) (Or.inl ⟨by rfl, ?y145⟩) (by assumption) ?r145
                      case y145 => (intro W hSw; (try dsimp only at hSw); go_simp; try with_reducible rfl)
                      (try simp only [Act.put, List.setIfInBounds_toArray, List.set_cons_zero, List.set_cons_succ])
                      refine wpAnyH_takeL (i := 29) (v := ?v146) rfl (by kernel_rfl) (by kernel_rfl) (by kernel_rfl) (fun _ _ _ h => h) (Or.inl ⟨by rfl, ?y146⟩) (by assumption) ?r146
                      case y146 => (intro W hSw; (try dsimp only at hSw); go_simp; try with_reducible rfl)
                      (try simp only [Act.put, List.setIfInBounds_toArray, List.set_cons_zero, List.set_cons_succ])
                      refine wpAnyH_done (by kernel_rfl) ?_ _
                      go_wp2_with fail
                      go_roundw
                      case rel => exact ⟨j + 1, by omega, by go_num, g6⟩
                      case measure => simp [intOf]; omega
                    · have gy : decide (y ≤ 0) = false := decide_eq_false hy0
                      clear hz0 hy0
                      refine wp_region_held_drew (S := fun W => (W.cell? ⟨BA, i * 6, none⟩ = some (.int .i64 pk) ∧ W.cell? ⟨BA, i * 6 + 1, none⟩ = some (.int .i64 pn) ∧ W.cell? ⟨BA, i * 6 + 2, none⟩ = some (.int .i64 pix) ∧ W.cell? ⟨BA, i * 6 + 3, none⟩ = some (.int .u64 pu) ∧ W.cell? ⟨BA, i * 6 + 4, none⟩ = some (.string ps) ∧ W.cell? ⟨BA, i * 6 + 5, none⟩ = some (.slice pA pl pc)) ∧ (W.cell? ⟨BA, k * 6, none⟩ = some (.int .i64 qk) ∧ W.cell? ⟨BA, k * 6 + 1, none⟩ = some (.int .i64 qn) ∧ W.cell? ⟨BA, k * 6 + 2, none⟩ = some (.int .i64 qix) ∧ W.cell? ⟨BA, k * 6 + 3, none⟩ = some (.int .u64 qu) ∧ W.cell? ⟨BA, k * 6 + 4, none⟩ = some (.string qs) ∧ W.cell? ⟨BA, k * 6 + 5, none⟩ = some (.slice qA ql qc)) ∧ W.cell? ⟨BA, j * 6, none⟩ = some (.int .i64 rk) ∧ W.cell? ⟨BA, j * 6 + 1, none⟩ = some (.int .i64 rn) ∧ W.cell? ⟨BA, j * 6 + 2, none⟩ = some (.int .i64 rix) ∧ W.cell? ⟨BA, j * 6 + 3, none⟩ = some (.int .u64 ru) ∧ W.cell? ⟨BA, j * 6 + 4, none⟩ = some (.string rs) ∧ W.cell? ⟨BA, j * 6 + 5, none⟩ = some (.slice rA rl rc)) (by kernel_rfl) (HF4.out _ hd) (fun hHeld => ?_)
                      (try simp only [List.size_toArray, List.length_cons, List.length_nil, Nat.zero_add, Nat.reduceAdd])
                      refine wpAnyH_takeL (i := 0) (v := ?v147) rfl (by kernel_rfl) (by kernel_rfl) (by kernel_rfl) (fun _ _ _ h => h) (Or.inl ⟨by rfl, ?y147⟩) (by assumption) ?r147
                      case y147 => (intro W hSw; (try dsimp only at hSw); go_simp; try with_reducible rfl)
                      (try simp only [Act.put, List.setIfInBounds_toArray, List.set_cons_zero, List.set_cons_succ])
                      refine wpAnyH_takeL (i := 1) (v := ?v148) rfl (by kernel_rfl) (by kernel_rfl) (by kernel_rfl) (fun _ _ _ h => h) (Or.inl ⟨by rfl, ?y148⟩) (by assumption) ?r148
                      case y148 => (intro W hSw; (try dsimp only at hSw); go_simp; try with_reducible rfl)
                      (try simp only [Act.put, List.setIfInBounds_toArray, List.set_cons_zero, List.set_cons_succ])
                      refine wpAnyH_takeL (i := 2) (v := ?v149) rfl (by kernel_rfl) (by kernel_rfl) (by kernel_rfl) (fun _ _ _ h => h) (Or.inl ⟨by rfl, ?y149⟩) (by assumption) ?r149
                      case y149 => (intro W hSw; (try dsimp only at hSw); go_simp; try with_reducible rfl)
                      (try simp only [Act.put, List.setIfInBounds_toArray, List.set_cons_zero, List.set_cons_succ])
                      refine wpAnyH_takeL (i := 3) (v := ?v150) rfl (by kernel_rfl) (by kernel_rfl) (by kernel_rfl) (fun _ _ _ h => h) (Or.inl ⟨by rfl, ?y150⟩) (by assumption) ?r150
                      case y150 => (intro W hSw; (try dsimp only at hSw); go_simp; try with_reducible rfl)
                      (try simp only [Act.put, List.setIfInBounds_toArray, List.set_cons_zero, List.set_cons_succ])
                      refine wpAnyH_takeL (i := 4) (v := ?v151) rfl (by kernel_rfl) (by kernel_rfl) (by kernel_rfl) (fun _ _ _ h => h) (Or.inl ⟨by rfl, ?y151⟩) (by assumption) ?r151
                      case y151 => (intro W hSw; (try dsimp only at hSw); go_simp; try with_reducible rfl)
                      (try simp only [Act.put, List.setIfInBounds_toArray, List.set_cons_zero, List.set_cons_succ])
                      refine wpAnyH_takeL (i := 5) (v := ?v152) rfl (by kernel_rfl) (by kernel_rfl) (by kernel_rfl) (fun _ _ _ h => h) (Or.inl ⟨by rfl, ?y152⟩) (by assumption) ?r152
                      case y152 => (intro W hSw; (try dsimp only at hSw); go_simp; try with_reducible rfl)
                      (try simp only [Act.put, List.setIfInBounds_toArray, List.set_cons_zero, List.set_cons_succ])
                      refine wpAnyH_takeL (i := 6) (v := ?v153) rfl (by kernel_rfl) (by kernel_rfl) (by kernel_rfl) (fun _ _ _ h => h) (Or.inl ⟨by rfl, ?y153⟩) (by assumption) ?r153
                      case y153 => (intro W hSw; (try dsimp only at hSw); go_simp; try with_reducible rfl)
                      (try simp only [Act.put, List.setIfInBounds_toArray, List.set_cons_zero, List.set_cons_succ])
                      refine wpAnyH_takeL (i := 8) (v := ?v154) rfl (by kernel_rfl) (by kernel_rfl) (by kernel_rfl) (fun _ _ _ h => h) (Or.inl ⟨by rfl, ?y154⟩) (by assumption) ?r154
                      case y154 => (intro W hSw; (try dsimp only at hSw); go_simp; try with_reducible rfl)
                      (try simp only [Act.put, List.setIfInBounds_toArray, List.set_cons_zero, List.set_cons_succ])
                      refine wpAnyH_takeL (i := 9) (v := ?v155) rfl (by kernel_rfl) (by kernel_rfl) (by kernel_rfl) (fun _ _ _ h => h) (Or.inl ⟨by rfl, ?y155⟩) (by assumption) ?r155
                      case y155 => (intro W hSw; (try dsimp only at hSw); go_simp; try with_reducible rfl)
                      (try simp only [Act.put, List.setIfInBounds_toArray, List.set_cons_zero, List.set_cons_succ])
                      refine wpAnyH_takeL (i := 10) (v := ?v156) rfl (by kernel_rfl) (by kernel_rfl) (by kernel_rfl) (fun _ _ _ h => h) (Or.inl ⟨by rfl, ?y156⟩) (by assumption) ?r156
                      case y156 => (intro W hSw; (try dsimp only at hSw); go_simp; try with_reducible rfl)
                      (try simp only [Act.put, List.setIfInBounds_toArray, List.set_cons_zero, List.set_cons_succ])
                      refine wpAnyH_takeL (i := 11) (v := ?v157) rfl (by kernel_rfl) (by kernel_rfl) (by kernel_rfl) (fun _ _ _ h => h) (Or.inl ⟨by rfl, ?y157⟩) (by assumption) ?r157
                      case y157 => (intro W hSw; (try dsimp only at hSw); go_simp; try with_reducible rfl)
                      (try simp only [Act.put, List.setIfInBounds_toArray, List.set_cons_zero, List.set_cons_succ])
                      refine wpAnyH_ready (rs := [7]) (by kernel_rfl) (by simp) ?_
                      refine consL rfl (fun K hK => ?_) AllReadyH.nil
                      go_simp
                      refine Calls.mono (l6own_any (⟨qk, qn, qix, qu, qs, qm⟩ : Va) _ _ (Hq.out _ hd).2) ?_
                      rintro e w1 ⟨v1, rfl, hv1, h1⟩
                      have g1 := hd.trans (h1.mono hd.size)
                      (try dsimp only)
                      refine hK.out _ _ (HF4.out _ g1) (fun hHeld => ?_)
                      clear hK K
                      (try simp only [Act.put, List.setIfInBounds_toArray, List.set_cons_zero, List.set_cons_succ])
                      refine wpAnyH_ready (rs := [12]) (by kernel_rfl) (by simp) ?_
                      refine consL rfl (fun K hK => ?_) AllReadyH.nil
                      go_simp
                      refine Calls.mono (l6own_any (⟨rk, rn, rix, ru, rs, rm⟩ : Va) _ _ (Hr.out _ g1).2) ?_
                      rintro e w2 ⟨v2, rfl, hv2, h2⟩
                      have g2 := g1.trans (h2.mono g1.size)
                      (try dsimp only)
                      refine hK.out _ _ (HF4.out _ g2) (fun hHeld => ?_)
                      clear hK K
                      (try simp only [Act.put, List.setIfInBounds_toArray, List.set_cons_zero, List.set_cons_succ])
                      refine wpAnyH_ready (rs := [13]) (by kernel_rfl) (by simp) ?_
                      refine consL rfl (fun K hK => ?_) AllReadyH.nil
                      go_simp
                      refine Calls.mono (vCompare_any (⟨qk, qn, qix, qu, qs, qm⟩ : Va) (⟨rk, rn, rix, ru, rs, rm⟩ : Va) v1 v2 _ (va_lo hv1 h2) (hv2.sub (fun b hb => hb.2))) ?_
                      rw [HY.out]
                      rintro e w3 ⟨rfl, h3⟩
                      have g3 := g2.trans (h3.mono g2.size)
                      (try dsimp only)
                      refine hK.out _ _ (HF4.out _ g3) (fun hHeld => ?_)
                      clear hK K
                      (try simp only [Act.put, List.setIfInBounds_toArray, List.set_cons_zero, List.set_cons_succ])
                      refine wpAnyH_takeL (i := 14) (v := ?v158) rfl (by kernel_rfl) (by kernel_rfl) (by kernel_rfl) (fun _ _ _ h => h) (Or.inl ⟨by rfl, ?y158⟩) (by assumption) ?r158
                      case y158 => (intro W hSw; (try dsimp only at hSw); go_simp; try with_reducible rfl)
                      (try simp only [Act.put, List.setIfInBounds_toArray, List.set_cons_zero, List.set_cons_succ])
                      refine wpAnyH_takeL (i := 15) (v := ?v159) rfl (by kernel_rfl) (by kernel_rfl) (by kernel_rfl) (fun _ _ _ h => h) (Or.inl ⟨by rfl, ?y159⟩) (by assumption) ?r159
                      case y159 => (intro W hSw; (try dsimp only at hSw); go_simp; try with_reducible rfl)
                      (try simp only [Act.put, List.setIfInBounds_toArray, List.set_cons_zero, List.set_cons_succ])
                      refine wpAnyH_takeL (i := 16) (v := ?v160) rfl (by kernel_rfl) (by kernel_rfl) (by kernel_rfl) (fun _ _ _ h => h) (Or.inl ⟨by rfl, ?y160⟩) (by assumption) ?r160
                      case y160 => (intro W hSw; (try dsimp only at hSw); go_simp; try with_reducible rfl)
                      (try simp only [Act.put, List.setIfInBounds_toArray, List.set_cons_zero, List.set_cons_succ])
                      refine wpAnyH_takeL (i := 17) rfl (by kernel_rfl) (by kernel_rfl) (by kernel_rfl) (fun _ _ _ h => h) (Or.inr ⟨by rfl, rfl⟩) (by assumption) ?_
                      (try simp only [Act.put, List.setIfInBounds_toArray, List.set_cons_zero, List.set_cons_succ])
                      refine wpAnyH_takeL (i := 18) rfl (by kernel_rfl) (by kernel_rfl) (by kernel_rfl) (fun _ _ _ h => h) (Or.inr ⟨by rfl, rfl⟩) (by assumption) ?_
                      (try simp only [Act.put, List.setIfInBounds_toArray, List.set_cons_zero, List.set_cons_succ])
                      refine wpAnyH_takeL (i := 19) rfl (by kernel_rfl) (by kernel_rfl) (by kernel_rfl) (fun _ _ _ h => h) (Or.inr ⟨by rfl, rfl⟩) (by assumption) ?_
                      (try simp only [Act.put, List.setIfInBounds_toArray, List.set_cons_zero, List.set_cons_succ])
                      refine wpAnyH_takeL (i := 20) rfl (by kernel_rfl) (by kernel_rfl) (by kernel_rfl) (fun _ _ _ h => h) (Or.inr ⟨by rfl, rfl⟩) (by assumption) ?_
                      (try simp only [Act.put, List.setIfInBounds_toArray, List.set_cons_zero, List.set_cons_succ])
                      refine wpAnyH_takeL (i := 21) rfl (by kernel_rfl) (by kernel_rfl) (by kernel_rfl) (fun _ _ _ h => h) (Or.inr ⟨by rfl, rfl⟩) (by assumption) ?_
                      (try simp only [Act.put, List.setIfInBounds_toArray, List.set_cons_zero, List.set_cons_succ])
                      refine wpAnyH_takeL (i := 22) rfl (by kernel_rfl) (by kernel_rfl) (by kernel_rfl) (fun _ _ _ h => h) (Or.inr ⟨by rfl, rfl⟩) (by assumption) ?_
                      (try simp only [Act.put, List.setIfInBounds_toArray, List.set_cons_zero, List.set_cons_succ])
                      refine wpAnyH_takeL (i := 23) rfl (by kernel_rfl) (by kernel_rfl) (by kernel_rfl) (fun _ _ _ h => h) (Or.inr ⟨by rfl, rfl⟩) (by assumption) ?_
                      (try simp only [Act.put, List.setIfInBounds_toArray, List.set_cons_zero, List.set_cons_succ])
                      refine wpAnyH_takeL (i := 24) rfl (by kernel_rfl) (by kernel_rfl) (by kernel_rfl) (fun _ _ _ h => h) (Or.inr ⟨by rfl, rfl⟩) (by assumption) ?_
                      (try simp only [Act.put, List.setIfInBounds_toArray, List.set_cons_zero, List.set_cons_succ])
                      refine wpAnyH_takeL (i := 25) rfl (by kernel_rfl) (by kernel_rfl) (by kernel_rfl) (fun _ _ _ h => h) (Or.inr ⟨by rfl, rfl⟩) (by assumption) ?_
                      (try simp only [Act.put, List.setIfInBounds_toArray, List.set_cons_zero, List.set_cons_succ])
                      refine wpAnyH_takeL (i := 26) rfl (by kernel_rfl) (by kernel_rfl) (by kernel_rfl) (fun _ _ _ h => h) (Or.inr ⟨by rfl, rfl⟩) (by assumption) ?_
                      (try simp only [Act.put, List.setIfInBounds_toArray, List.set_cons_zero, List.set_cons_succ])
                      refine wpAnyH_takeL (i := 27) rfl (by kernel_rfl) (by kernel_rfl) (by kernel_rfl) (fun _ _ _ h => h) (Or.inr ⟨by rfl, rfl⟩) (by assumption) ?_
                      (try simp only [Act.put, List.setIfInBounds_toArray, List.set_cons_zero, List.set_cons_succ])
                      refine wpAnyH_takeL (i := 28) rfl (by kernel_rfl) (by kernel_rfl) (by kernel_rfl) (fun _ _ _ h => h) (Or.inr ⟨by rfl, rfl⟩) (by assumption) ?_
                      (try simp only [Act.put, List.setIfInBounds_toArray, List.set_cons_zero, List.set_cons_succ])
                      refine wpAnyH_takeL (i := 29) (v := ?v161) rfl (by kernel_rfl) (by kernel_rfl) (by kernel_rfl) (fun _ _ _ h => h) (Or.inl ⟨by rfl, ?y161⟩) (by assumption) ?r161
                      case y161 => (intro W hSw; (try dsimp only at hSw); go_simp; try with_reducible rfl)
                      (try simp only [Act.put, List.setIfInBounds_toArray, List.set_cons_zero, List.set_cons_succ])
                      refine wpAnyH_done (by kernel_rfl) ?_ _
                      go_wp2_with fail
                      go_roundw
                      case rel => exact ⟨j + 1, by omega, by go_num, g3⟩
                      case measure => simp [intOf]; omega
                  · have gz : decide (z ≤ 0) = false := decide_eq_false hz0
                    clear hz0
                    refine wp_region_held_drew (S := fun W => (W.cell? ⟨BA, i * 6, none⟩ = some (.int .i64 pk) ∧ W.cell? ⟨BA, i * 6 + 1, none⟩ = some (.int .i64 pn) ∧ W.cell? ⟨BA, i * 6 + 2, none⟩ = some (.int .i64 pix) ∧ W.cell? ⟨BA, i * 6 + 3, none⟩ = some (.int .u64 pu) ∧ W.cell? ⟨BA, i * 6 + 4, none⟩ = some (.string ps) ∧ W.cell? ⟨BA, i * 6 + 5, none⟩ = some (.slice pA pl pc)) ∧ (W.cell? ⟨BA, k * 6, none⟩ = some (.int .i64 qk) ∧ W.cell? ⟨BA, k * 6 + 1, none⟩ = some (.int .i64 qn) ∧ W.cell? ⟨BA, k * 6 + 2, none⟩ = some (.int .i64 qix) ∧ W.cell? ⟨BA, k * 6 + 3, none⟩ = some (.int .u64 qu) ∧ W.cell? ⟨BA, k * 6 + 4, none⟩ = some (.string qs) ∧ W.cell? ⟨BA, k * 6 + 5, none⟩ = some (.slice qA ql qc)) ∧ W.cell? ⟨BA, j * 6, none⟩ = some (.int .i64 rk) ∧ W.cell? ⟨BA, j * 6 + 1, none⟩ = some (.int .i64 rn) ∧ W.cell? ⟨BA, j * 6 + 2, none⟩ = some (.int .i64 rix) ∧ W.cell? ⟨BA, j * 6 + 3, none⟩ = some (.int .u64 ru) ∧ W.cell? ⟨BA, j * 6 + 4, none⟩ = some (.string rs) ∧ W.cell? ⟨BA, j * 6 + 5, none⟩ = some (.slice rA rl rc)) (by kernel_rfl) (HF4.out _ hd) (fun hHeld => ?_)
                    (try simp only [List.size_toArray, List.length_cons, List.length_nil, Nat.zero_add, Nat.reduceAdd])
                    refine wpAnyH_takeL (i := 0) (v := ?v162) rfl (by kernel_rfl) (by kernel_rfl) (by kernel_rfl) (fun _ _ _ h => h) (Or.inl ⟨by rfl, ?y162⟩) (by assumption) ?r162
                    case y162 => (intro W hSw; (try dsimp only at hSw); go_simp; try with_reducible rfl)
                    (try simp only [Act.put, List.setIfInBounds_toArray, List.set_cons_zero, List.set_cons_succ])
                    refine wpAnyH_takeL (i := 1) (v := ?v163) rfl (by kernel_rfl) (by kernel_rfl) (by kernel_rfl) (fun _ _ _ h => h) (Or.inl ⟨by rfl, ?y163⟩) (by assumption) ?r163
                    case y163 => (intro W hSw; (try dsimp only at hSw); go_simp; try with_reducible rfl)
                    (try simp only [Act.put, List.setIfInBounds_toArray, List.set_cons_zero, List.set_cons_succ])
                    refine wpAnyH_takeL (i := 2) (v := ?v164) rfl (by kernel_rfl) (by kernel_rfl) (by kernel_rfl) (fun _ _ _ h => h) (Or.inl ⟨by rfl, ?y164⟩) (by assumption) ?r164
                    case y164 => (intro W hSw; (try dsimp only at hSw); go_simp; try with_reducible rfl)
                    (try simp only [Act.put, List.setIfInBounds_toArray, List.set_cons_zero, List.set_cons_succ])
                    refine wpAnyH_takeL (i := 3) rfl (by kernel_rfl) (by kernel_rfl) (by kernel_rfl) (fun _ _ _ h => h) (Or.inr ⟨by rfl, rfl⟩) (by assumption) ?_
                    (try simp only [Act.put, List.setIfInBounds_toArray, List.set_cons_zero, List.set_cons_succ])
                    refine wpAnyH_takeL (i := 4) rfl (by kernel_rfl) (by kernel_rfl) (by kernel_rfl) (fun _ _ _ h => h) (Or.inr ⟨by rfl, rfl⟩) (by assumption) ?_
                    (try simp only [Act.put, List.setIfInBounds_toArray, List.set_cons_zero, List.set_cons_succ])
                    refine wpAnyH_takeL (i := 5) rfl (by kernel_rfl) (by kernel_rfl) (by kernel_rfl) (fun _ _ _ h => h) (Or.inr ⟨by rfl, rfl⟩) (by assumption) ?_
                    (try simp only [Act.put, List.setIfInBounds_toArray, List.set_cons_zero, List.set_cons_succ])
                    refine wpAnyH_takeL (i := 6) rfl (by kernel_rfl) (by kernel_rfl) (by kernel_rfl) (fun _ _ _ h => h) (Or.inr ⟨by rfl, rfl⟩) (by assumption) ?_
                    (try simp only [Act.put, List.setIfInBounds_toArray, List.set_cons_zero, List.set_cons_succ])
                    refine wpAnyH_takeL (i := 7) rfl (by kernel_rfl) (by kernel_rfl) (by kernel_rfl) (fun _ _ _ h => h) (Or.inr ⟨by rfl, rfl⟩) (by assumption) ?_
                    (try simp only [Act.put, List.setIfInBounds_toArray, List.set_cons_zero, List.set_cons_succ])
                    refine wpAnyH_takeL (i := 8) rfl (by kernel_rfl) (by kernel_rfl) (by kernel_rfl) (fun _ _ _ h => h) (Or.inr ⟨by rfl, rfl⟩) (by assumption) ?_
                    (try simp only [Act.put, List.setIfInBounds_toArray, List.set_cons_zero, List.set_cons_succ])
                    refine wpAnyH_takeL (i := 9) rfl (by kernel_rfl) (by kernel_rfl) (by kernel_rfl) (fun _ _ _ h => h) (Or.inr ⟨by rfl, rfl⟩) (by assumption) ?_
                    (try simp only [Act.put, List.setIfInBounds_toArray, List.set_cons_zero, List.set_cons_succ])
                    refine wpAnyH_takeL (i := 10) rfl (by kernel_rfl) (by kernel_rfl) (by kernel_rfl) (fun _ _ _ h => h) (Or.inr ⟨by rfl, rfl⟩) (by assumption) ?_
                    (try simp only [Act.put, List.setIfInBounds_toArray, List.set_cons_zero, List.set_cons_succ])
                    refine wpAnyH_takeL (i := 11) rfl (by kernel_rfl) (by kernel_rfl) (by kernel_rfl) (fun _ _ _ h => h) (Or.inr ⟨by rfl, rfl⟩) (by assumption) ?_
                    (try simp only [Act.put, List.setIfInBounds_toArray, List.set_cons_zero, List.set_cons_succ])
                    refine wpAnyH_takeL (i := 12) rfl (by kernel_rfl) (by kernel_rfl) (by kernel_rfl) (fun _ _ _ h => h) (Or.inr ⟨by rfl, rfl⟩) (by assumption) ?_
                    (try simp only [Act.put, List.setIfInBounds_toArray, List.set_cons_zero, List.set_cons_succ])
                    refine wpAnyH_takeL (i := 13) rfl (by kernel_rfl) (by kernel_rfl) (by kernel_rfl) (fun _ _ _ h => h) (Or.inr ⟨by rfl, rfl⟩) (by assumption) ?_
                    (try simp only [Act.put, List.setIfInBounds_toArray, List.set_cons_zero, List.set_cons_succ])
                    refine wpAnyH_takeL (i := 14) rfl (by kernel_rfl) (by kernel_rfl) (by kernel_rfl) (fun _ _ _ h => h) (Or.inr ⟨by rfl, rfl⟩) (by assumption) ?_
                    (try simp only [Act.put, List.setIfInBounds_toArray, List.set_cons_zero, List.set_cons_succ])
                    refine wpAnyH_takeL (i := 15) (v := ?v165) rfl (by kernel_rfl) (by kernel_rfl) (by kernel_rfl) (fun _ _ _ h => h) (Or.inl ⟨by rfl, ?y165⟩) (by assumption) ?r165
                    case y165 => (intro W hSw; (try dsimp only at hSw); go_simp; try with_reducible rfl)
                    (try simp only [Act.put, List.setIfInBounds_toArray, List.set_cons_zero, List.set_cons_succ])
                    refine wpAnyH_takeL (i := 16) (v := ?v166) rfl (by kernel_rfl) (by kernel_rfl) (by kernel_rfl) (fun _ _ _ h => h) (Or.inl ⟨by rfl, ?y166⟩) (by assumption) ?r166
                    case y166 => (intro W hSw; (try dsimp only at hSw); go_simp; try with_reducible rfl)
                    (try simp only [Act.put, List.setIfInBounds_toArray, List.set_cons_zero, List.set_cons_succ])
                    refine wpAnyH_takeL (i := 17) rfl (by kernel_rfl) (by kernel_rfl) (by kernel_rfl) (fun _ _ _ h => h) (Or.inr ⟨by rfl, rfl⟩) (by assumption) ?_
                    (try simp only [Act.put, List.setIfInBounds_toArray, List.set_cons_zero, List.set_cons_succ])
                    refine wpAnyH_takeL (i := 18) rfl (by kernel_rfl) (by kernel_rfl) (by kernel_rfl) (fun _ _ _ h => h) (Or.inr ⟨by rfl, rfl⟩) (by assumption) ?_
                    (try simp only [Act.put, List.setIfInBounds_toArray, List.set_cons_zero, List.set_cons_succ])
                    refine wpAnyH_takeL (i := 19) rfl (by kernel_rfl) (by kernel_rfl) (by kernel_rfl) (fun _ _ _ h => h) (Or.inr ⟨by rfl, rfl⟩) (by assumption) ?_
                    (try simp only [Act.put, List.setIfInBounds_toArray, List.set_cons_zero, List.set_cons_succ])
                    refine wpAnyH_takeL (i := 20) rfl (by kernel_rfl) (by kernel_rfl) (by kernel_rfl) (fun _ _ _ h => h) (Or.inr ⟨by rfl, rfl⟩) (by assumption) ?_
                    (try simp only [Act.put, List.setIfInBounds_toArray, List.set_cons_zero, List.set_cons_succ])
                    refine wpAnyH_takeL (i := 21) rfl (by kernel_rfl) (by kernel_rfl) (by kernel_rfl) (fun _ _ _ h => h) (Or.inr ⟨by rfl, rfl⟩) (by assumption) ?_
                    (try simp only [Act.put, List.setIfInBounds_toArray, List.set_cons_zero, List.set_cons_succ])
                    refine wpAnyH_takeL (i := 22) rfl (by kernel_rfl) (by kernel_rfl) (by kernel_rfl) (fun _ _ _ h => h) (Or.inr ⟨by rfl, rfl⟩) (by assumption) ?_
                    (try simp only [Act.put, List.setIfInBounds_toArray, List.set_cons_zero, List.set_cons_succ])
                    refine wpAnyH_takeL (i := 23) rfl (by kernel_rfl) (by kernel_rfl) (by kernel_rfl) (fun _ _ _ h => h) (Or.inr ⟨by rfl, rfl⟩) (by assumption) ?_
                    (try simp only [Act.put, List.setIfInBounds_toArray, List.set_cons_zero, List.set_cons_succ])
                    refine wpAnyH_takeL (i := 24) rfl (by kernel_rfl) (by kernel_rfl) (by kernel_rfl) (fun _ _ _ h => h) (Or.inr ⟨by rfl, rfl⟩) (by assumption) ?_
                    (try simp only [Act.put, List.setIfInBounds_toArray, List.set_cons_zero, List.set_cons_succ])
                    refine wpAnyH_takeL (i := 25) rfl (by kernel_rfl) (by kernel_rfl) (by kernel_rfl) (fun _ _ _ h => h) (Or.inr ⟨by rfl, rfl⟩) (by assumption) ?_
                    (try simp only [Act.put, List.setIfInBounds_toArray, List.set_cons_zero, List.set_cons_succ])
                    refine wpAnyH_takeL (i := 26) rfl (by kernel_rfl) (by kernel_rfl) (by kernel_rfl) (fun _ _ _ h => h) (Or.inr ⟨by rfl, rfl⟩) (by assumption) ?_
                    (try simp only [Act.put, List.setIfInBounds_toArray, List.set_cons_zero, List.set_cons_succ])
                    refine wpAnyH_takeL (i := 27) rfl (by kernel_rfl) (by kernel_rfl) (by kernel_rfl) (fun _ _ _ h => h) (Or.inr ⟨by rfl, rfl⟩) (by assumption) ?_
                    (try simp only [Act.put, List.setIfInBounds_toArray, List.set_cons_zero, List.set_cons_succ])
                    refine wpAnyH_takeL (i := 28) rfl (by kernel_rfl) (by kernel_rfl) (by kernel_rfl) (fun _ _ _ h => h) (Or.inr ⟨by rfl, rfl⟩) (by assumption) ?_
                    (try simp only [Act.put, List.setIfInBounds_toArray, List.set_cons_zero, List.set_cons_succ])
                    refine wpAnyH_takeL (i := 29) (v := ?v167) rfl (by kernel_rfl) (by kernel_rfl) (by kernel_rfl) (fun _ _ _ h => h) (Or.inl ⟨by rfl, ?y167⟩) (by assumption) ?r167
                    case y167 => (intro W hSw; (try dsimp only at hSw); go_simp; try with_reducible rfl)
                    (try simp only [Act.put, List.setIfInBounds_toArray, List.set_cons_zero, List.set_cons_succ])
                    refine wpAnyH_done (by kernel_rfl) ?_ _
                    go_wp2_with fail
                    go_roundw
                    case rel => exact ⟨j + 1, by omega, by go_num, hd⟩
                    case measure => simp [intOf]; omega
                · have hj9 : ¬ (j : Int) < 8 := by omega
                  go_wp2_with fail
                  go_roundw
                  case rel => exact ⟨k + 1, by omega, by go_num, hJ⟩
                  case measure => simp [intOf]; omega
            · obtain rfl := hF2 hQ0
              have gq : (EQ == 0) = false := by rw [beq_eq_false_iff_ne]; exact hQ0
              clear hF1 hF2 hQ0 h8 h9
              go_wp2_with fail
              obtain ⟨wk, rfl⟩ : ∃ wk, wk = wr := ⟨_, rfl⟩
              have gX := g9
              clear g5 g6 g7 g8 g9
              go_loopw [21] (fun v wr => ∃ j : Nat, j ≤ 8 ∧ v = .int .i64 j ∧ Below V0.heap.size V0 wr) (fun v _ => 8 - (intOf v).toNat)
              case atStart => exact ⟨0, by omega, rfl, gX⟩
              case round =>
                clear gX
                obtain ⟨j, hj, rfl, hJ⟩ := hrel
                by_cases hj8 : j < 8
                · skip
                  obtain ⟨rx, rA, rl, rc, _, Hr'⟩ := val_cells LA0 (hl8'.out ▸ hj8)
                  obtain ⟨rk, rn, rix, ru, rs, rm⟩ := rx
                  unfold VrAt at Hr'
                  simp only at Hr'
                  have Hr := Lib.hid Hr'
                  clear Hr'
                  have jj : (j : Int) < 8 := by omega
                  have j0 : (0 : Int) ≤ (j : Int) := by omega
                  obtain ⟨y, hy⟩ : ∃ y, y = vaCmp (⟨qk, qn, qix, qu, qs, qm⟩ : Va) (⟨rk, rn, rix, ru, rs, rm⟩ : Va) := ⟨_, rfl⟩
                  obtain ⟨t, ht⟩ : ∃ t, t = vaCmp (⟨pk, pn, pix, pu, ps, pm⟩ : Va) (⟨rk, rn, rix, ru, rs, rm⟩ : Va) := ⟨_, rfl⟩
                  have HTR := Lib.hid (show z ≤ 0 → y ≤ 0 → t ≤ 0 from by rw [← HZ.out, hy, ht]; exact va_cmp.tr _ _ _)
                  have HY := Lib.hid hy.symm
                  have HT := Lib.hid ht.symm
                  clear hy ht
                  have HF4 := Lib.hid (show ∀ W, Below V0.heap.size V0 W → (fun W : World => (W.cell? ⟨BA, i * 6, none⟩ = some (.int .i64 pk) ∧ W.cell? ⟨BA, i * 6 + 1, none⟩ = some (.int .i64 pn) ∧ W.cell? ⟨BA, i * 6 + 2, none⟩ = some (.int .i64 pix) ∧ W.cell? ⟨BA, i * 6 + 3, none⟩ = some (.int .u64 pu) ∧ W.cell? ⟨BA, i * 6 + 4, none⟩ = some (.string ps) ∧ W.cell? ⟨BA, i * 6 + 5, none⟩ = some (.slice pA pl pc)) ∧ (W.cell? ⟨BA, k * 6, none⟩ = some (.int .i64 qk) ∧ W.cell? ⟨BA, k * 6 + 1, none⟩ = some (.int .i64 qn) ∧ W.cell? ⟨BA, k * 6 + 2, none⟩ = some (.int .i64 qix) ∧ W.cell? ⟨BA, k * 6 + 3, none⟩ = some (.int .u64 qu) ∧ W.cell? ⟨BA, k * 6 + 4, none⟩ = some (.string qs) ∧ W.cell? ⟨BA, k * 6 + 5, none⟩ = some (.slice qA ql qc)) ∧ W.cell? ⟨BA, j * 6, none⟩ = some (.int .i64 rk) ∧ W.cell? ⟨BA, j * 6 + 1, none⟩ = some (.int .i64 rn) ∧ W.cell? ⟨BA, j * 6 + 2, none⟩ = some (.int .i64 rix) ∧ W.cell? ⟨BA, j * 6 + 3, none⟩ = some (.int .u64 ru) ∧ W.cell? ⟨BA, j * 6 + 4, none⟩ = some (.string rs) ∧ W.cell? ⟨BA, j * 6 + 5, none⟩ = some (.slice rA rl rc)) W from fun W h => ⟨(Hp.out W h).1, (Hq.out W h).1, (Hr.out W h).1⟩)
                  have hd : Below V0.heap.size V0 wr.drew := hJ.drew
                  go_wp2_with fail
                  by_cases hz0 : z ≤ 0
                  · have gz : decide (z ≤ 0) = true := decide_eq_true hz0
                    by_cases hy0 : y ≤ 0
                    · have gy : decide (y ≤ 0) = true := decide_eq_true hy0
                      have gt : decide (0 < t) = false := decide_eq_false (by have := HTR.out hz0 hy0; omega)
                      clear hz0 hy0
                      refine wp_region_held_drew (S := fun W => (W.cell? ⟨BA, i * 6, none⟩ = some (.int .i64 pk) ∧ W.cell? ⟨BA, i * 6 + 1, none⟩ = some (.int .i64 pn) ∧ W.cell? ⟨BA, i * 6 + 2, none⟩ = some (.int .i64 pix) ∧ W.cell? ⟨BA, i * 6 + 3, none⟩ = some (.int .u64 pu) ∧ W.cell? ⟨BA, i * 6 + 4, none⟩ = some (.string ps) ∧ W.cell? ⟨BA, i * 6 + 5, none⟩ = some (.slice pA pl pc)) ∧ (W.cell? ⟨BA, k * 6, none⟩ = some (.int .i64 qk) ∧ W.cell? ⟨BA, k * 6 + 1, none⟩ = some (.int .i64 qn) ∧ W.cell? ⟨BA, k * 6 + 2, none⟩ = some (.int .i64 qix) ∧ W.cell? ⟨BA, k * 6 + 3, none⟩ = some (.int .u64 qu) ∧ W.cell? ⟨BA, k * 6 + 4, none⟩ = some (.string qs) ∧ W.cell? ⟨BA, k * 6 + 5, none⟩ = some (.slice qA ql qc)) ∧ W.cell? ⟨BA, j * 6, none⟩ = some (.int .i64 rk) ∧ W.cell? ⟨BA, j * 6 + 1, none⟩ = some (.int .i64 rn) ∧ W.cell? ⟨BA, j * 6 + 2, none⟩ = some (.int .i64 rix) ∧ W.cell? ⟨BA, j * 6 + 3, none⟩ = some (.int .u64 ru) ∧ W.cell? ⟨BA, j * 6 + 4, none⟩ = some (.string rs) ∧ W.cell? ⟨BA, j * 6 + 5, none⟩ = some (.slice rA rl rc)) (by kernel_rfl) (HF4.out _ hd) (fun hHeld => ?_)
                      (try simp only [List.size_toArray, List.length_cons, List.length_nil, Nat.zero_add, Nat.reduceAdd])
                      refine wpAnyH_takeL (i := 0) (v := ?v168) rfl (by kernel_rfl) (by kernel_rfl) (by kernel_rfl) (fun _ _ _ h => h) (Or.inl ⟨by rfl, ?y168⟩) (by assumption) ?r168
                      case y168 => (intro W hSw; (try dsimp only at hSw); go_simp; try with_reducible rfl)
                      (try simp only [Act.put, List.setIfInBounds_toArray, List.set_cons_zero, List.set_cons_succ])
                      refine wpAnyH_takeL (i := 1) (v := ?v169) rfl (by kernel_rfl) (by kernel_rfl) (by kernel_rfl) (fun _ _ _ h => h) (Or.inl ⟨by rfl, ?y169⟩) (by assumption) ?r169
                      case y169 => (intro W hSw; (try dsimp only at hSw); go_simp; try with_reducible rfl)
                      (try simp only [Act.put, List.setIfInBounds_toArray, List.set_cons_zero, List.set_cons_succ])
                      refine wpAnyH_takeL (i := 2) (v := ?v170) rfl (by kernel_rfl) (by kernel_rfl) (by kernel_rfl) (fun _ _ _ h => h) (Or.inl ⟨by rfl, ?y170⟩) (by assumption) ?r170
                      case y170 => (intro W hSw; (try dsimp only at hSw); go_simp; try with_reducible rfl)
                      (try simp only [Act.put, List.setIfInBounds_toArray, List.set_cons_zero, List.set_cons_succ])
                      refine wpAnyH_takeL (i := 3) (v := ?v171) rfl (by kernel_rfl) (by kernel_rfl) (by kernel_rfl) (fun _ _ _ h => h) (Or.inl ⟨by rfl, ?y171⟩) (by assumption) ?r171
                      case y171 => (intro W hSw; (try dsimp only at hSw); go_simp; try with_reducible rfl)
                      (try simp only [Act.put, List.setIfInBounds_toArray, List.set_cons_zero, List.set_cons_succ])
                      refine wpAnyH_takeL (i := 4) (v := ?v172) rfl (by kernel_rfl) (by kernel_rfl) (by kernel_rfl) (fun _ _ _ h => h) (Or.inl ⟨by rfl, ?y172⟩) (by assumption) ?r172
                      case y172 => (intro W hSw; (try dsimp only at hSw); go_simp; try with_reducible rfl)
                      (try simp only [Act.put, List.setIfInBounds_toArray, List.set_cons_zero, List.set_cons_succ])
                      refine wpAnyH_takeL (i := 5) (v := ?v173) rfl (by kernel_rfl) (by kernel_rfl) (by kernel_rfl) (fun _ _ _ h => h) (Or.inl ⟨by rfl, ?y173⟩) (by assumption) ?r173
                      case y173 => (intro W hSw; (try dsimp only at hSw); go_simp; try with_reducible rfl)
                      (try simp only [Act.put, List.setIfInBounds_toArray, List.set_cons_zero, List.set_cons_succ])
                      refine wpAnyH_takeL (i := 6) (v := ?v174) rfl (by kernel_rfl) (by kernel_rfl) (by kernel_rfl) (fun _ _ _ h => h) (Or.inl ⟨by rfl, ?y174⟩) (by assumption) ?r174
                      case y174 => (intro W hSw; (try dsimp only at hSw); go_simp; try with_reducible rfl)
                      (try simp only [Act.put, List.setIfInBounds_toArray, List.set_cons_zero, List.set_cons_succ])
                      refine wpAnyH_takeL (i := 8) (v := ?v175) rfl (by kernel_rfl) (by kernel_rfl) (by kernel_rfl) (fun _ _ _ h => h) (Or.inl ⟨by rfl, ?y175⟩) (by assumption) ?r175
                      case y175 => (intro W hSw; (try dsimp only at hSw); go_simp; try with_reducible rfl)
                      (try simp only [Act.put, List.setIfInBounds_toArray, List.set_cons_zero, List.set_cons_succ])
                      refine wpAnyH_takeL (i := 9) (v := ?v176) rfl (by kernel_rfl) (by kernel_rfl) (by kernel_rfl) (fun _ _ _ h => h) (Or.inl ⟨by rfl, ?y176⟩) (by assumption) ?r176
                      case y176 => (intro W hSw; (try dsimp only at hSw); go_simp; try with_reducible rfl)
                      (try simp only [Act.put, List.setIfInBounds_toArray, List.set_cons_zero, List.set_cons_succ])
                      refine wpAnyH_takeL (i := 10) (v := ?v177) rfl (by kernel_rfl) (by kernel_rfl) (by kernel_rfl) (fun _ _ _ h => h) (Or.inl ⟨by rfl, ?y177⟩) (by assumption) ?r177
                      case y177 => (intro W hSw; (try dsimp only at hSw); go_simp; try with_reducible rfl)
                      (try simp only [Act.put, List.setIfInBounds_toArray, List.set_cons_zero, List.set_cons_succ])
                      refine wpAnyH_takeL (i := 11) (v := ?v178) rfl (by kernel_rfl) (by kernel_rfl) (by kernel_rfl) (fun _ _ _ h => h) (Or.inl ⟨by rfl, ?y178⟩) (by assumption) ?r178
                      case y178 => (intro W hSw; (try dsimp only at hSw); go_simp; try with_reducible rfl)
                      (try simp only [Act.put, List.setIfInBounds_toArray, List.set_cons_zero, List.set_cons_succ])
                      refine wpAnyH_ready (rs := [7]) (by kernel_rfl) (by simp) ?_
                      refine consL rfl (fun K hK => ?_) AllReadyH.nil
                      go_simp
                      refine Calls.mono (l6own_any (⟨qk, qn, qix, qu, qs, qm⟩ : Va) _ _ (Hq.out _ hd).2) ?_
                      rintro e w1 ⟨v1, rfl, hv1, h1⟩
                      have g1 := hd.trans (h1.mono hd.size)
                      (try dsimp only)
                      refine hK.out _ _ (HF4.out _ g1) (fun hHeld => ?_)
                      clear hK K
                      (try simp only [Act.put, List.setIfInBounds_toArray, List.set_cons_zero, List.set_cons_succ])
                      refine wpAnyH_ready (rs := [12]) (by kernel_rfl) (by simp) ?_
                      refine consL rfl (fun K hK => ?_) AllReadyH.nil
                      go_simp
                      refine Calls.mono (l6own_any (⟨rk, rn, rix, ru, rs, rm⟩ : Va) _ _ (Hr.out _ g1).2) ?_
                      rintro e w2 ⟨v2, rfl, hv2, h2⟩
                      have g2 := g1.trans (h2.mono g1.size)
                      (try dsimp only)
                      refine hK.out _ _ (HF4.out _ g2) (fun hHeld => ?_)
                      clear hK K
                      (try simp only [Act.put, List.setIfInBounds_toArray, List.set_cons_zero, List.set_cons_succ])
                      refine wpAnyH_ready (rs := [13]) (by kernel_rfl) (by simp) ?_
                      refine consL rfl (fun K hK => ?_) AllReadyH.nil
                      go_simp
                      refine Calls.mono (vCompare_any (⟨qk, qn, qix, qu, qs, qm⟩ : Va) (⟨rk, rn, rix, ru, rs, rm⟩ : Va) v1 v2 _ (va_lo hv1 h2) (hv2.sub (fun b hb => hb.2))) ?_
                      rw [HY.out]
                      rintro e w3 ⟨rfl, h3⟩
                      have g3 := g2.trans (h3.mono g2.size)
                      (try dsimp only)
                      refine hK.out _ _ (HF4.out _ g3) (fun hHeld => ?_)
                      clear hK K
                      (try simp only [Act.put, List.setIfInBounds_toArray, List.set_cons_zero, List.set_cons_succ])
                      refine wpAnyH_takeL (i := 14) (v := ?v179) rfl (by kernel_rfl) (by kernel_rfl) (by kernel_rfl) (fun _ _ _ h => h) (Or.inl ⟨by rfl, ?y179⟩) (by assumption) ?r179
                      case y179 => (intro W hSw; (try dsimp only at hSw); go_simp; try with_reducible rfl)
                      (try simp only [Act.put, List.setIfInBounds_toArray, List.set_cons_zero, List.set_cons_succ])
                      refine wpAnyH_takeL (i := 15) (v := ?v180) rfl (by kernel_rfl) (by kernel_rfl) (by kernel_rfl) (fun _ _ _ h => h) (Or.inl ⟨by rfl, ?y180⟩) (by assumption) ?r180
                      case y180 => (intro W hSw; (try dsimp only at hSw); go_simp; try with_reducible rfl)
                      (try simp only [Act.put, List.setIfInBounds_toArray, List.set_cons_zero, List.set_cons_succ])
                      refine wpAnyH_takeL (i := 16) (v := ?v181) rfl (by kernel_rfl) (by kernel_rfl) (by kernel_rfl) (fun _ _ _ h => h) (Or.inl ⟨by rfl, ?y181⟩) (by assumption) ?r181
                      case y181 => (intro W hSw; (try dsimp only at hSw); go_simp; try with_reducible rfl)
                      (try simp only [Act.put, List.setIfInBounds_toArray, List.set_cons_zero, List.set_cons_succ])
                      refine wpAnyH_takeL (i := 17) (v := ?v182) rfl (by kernel_rfl) (by kernel_rfl) (by kernel_rfl) (fun _ _ _ h => h) (Or.inl ⟨by rfl, ?y182⟩) (by assumption) ?r182
                      case y182 => (intro W hSw; (try dsimp only at hSw); go_simp; try with_reducible rfl)
                      (try simp only [Act.put, List.setIfInBounds_toArray, List.set_cons_zero, List.set_cons_succ])
                      refine wpAnyH_takeL (i := 18) (v := ?v183) rfl (by kernel_rfl) (by kernel_rfl) (by kernel_rfl) (fun _ _ _ h => h) (Or.inl ⟨by rfl, ?y183⟩) (by assumption) ?r183
                      case y183 => (intro W hSw; (try dsimp only at hSw); go_simp; try with_reducible rfl)
                      (try simp only [Act.put, List.setIfInBounds_toArray, List.set_cons_zero, List.set_cons_succ])
                      refine wpAnyH_takeL (i := 19) (v := ?v184) rfl (by kernel_rfl) (by kernel_rfl) (by kernel_rfl) (fun _ _ _ h => h) (Or.inl ⟨by rfl, ?y184⟩) (by assumption) ?r184
                      case y184 => (intro W hSw; (try dsimp only at hSw); go_simp; try with_reducible rfl)
                      (try simp only [Act.put, List.setIfInBounds_toArray, List.set_cons_zero, List.set_cons_succ])
                      refine wpAnyH_takeL (i := 20) (v := ?v185) rfl (by kernel_rfl) (by kernel_rfl) (by kernel_rfl) (fun _ _ _ h => h) (Or.inl ⟨by rfl, ?y185⟩) (by assumption) ?r185
                      case y185 => (intro W hSw; (try dsimp only at hSw); go_simp; try with_reducible rfl)
                      (try simp only [Act.put, List.setIfInBounds_toArray, List.set_cons_zero, List.set_cons_succ])
                      refine wpAnyH_takeL (i := 22) (v := ?v186) rfl (by kernel_rfl) (by kernel_rfl) (by kernel_rfl) (fun _ _ _ h => h) (Or.inl ⟨by rfl, ?y186⟩) (by assumption) ?r186
                      case y186 => (intro W hSw; (try dsimp only at hSw); go_simp; try with_reducible rfl)
                      (try simp only [Act.put, List.setIfInBounds_toArray, List.set_cons_zero, List.set_cons_succ])
                      refine wpAnyH_takeL (i := 23) (v := ?v187) rfl (by kernel_rfl) (by kernel_rfl) (by kernel_rfl) (fun _ _ _ h => h) (Or.inl ⟨by rfl, ?y187⟩) (by assumption) ?r187
                      case y187 => (intro W hSw; (try dsimp only at hSw); go_simp; try with_reducible rfl)
                      (try simp only [Act.put, List.setIfInBounds_toArray, List.set_cons_zero, List.set_cons_succ])
                      refine wpAnyH_takeL (i := 24) (v := ?v188) rfl (by kernel_rfl) (by kernel_rfl) (by kernel_rfl) (fun _ _ _ h => h) (Or.inl ⟨by rfl, ?y188⟩) (by assumption) ?r188
                      case y188 => (intro W hSw; (try dsimp only at hSw); go_simp; try with_reducible rfl)
                      (try simp only [Act.put, List.setIfInBounds_toArray, List.set_cons_zero, List.set_cons_succ])
                      refine wpAnyH_takeL (i := 25) (v := ?v189) rfl (by kernel_rfl) (by kernel_rfl) (by kernel_rfl) (fun _ _ _ h => h) (Or.inl ⟨by rfl, ?y189⟩) (by assumption) ?r189
                      case y189 => (intro W hSw; (try dsimp only at hSw); go_simp; try with_reducible rfl)
                      (try simp only [Act.put, List.setIfInBounds_toArray, List.set_cons_zero, List.set_cons_succ])
                      refine wpAnyH_ready (rs := [21]) (by kernel_rfl) (by simp) ?_
                      refine consL rfl (fun K hK => ?_) AllReadyH.nil
                      go_simp
                      refine Calls.mono (l6own_any (⟨pk, pn, pix, pu, ps, pm⟩ : Va) _ _ (Hp.out _ g3).2) ?_
                      rintro e w4 ⟨v4, rfl, hv4, h4⟩
                      have g4 := g3.trans (h4.mono g3.size)
                      (try dsimp only)
                      refine hK.out _ _ (HF4.out _ g4) (fun hHeld => ?_)
                      clear hK K
                      (try simp only [Act.put, List.setIfInBounds_toArray, List.set_cons_zero, List.set_cons_succ])
                      refine wpAnyH_ready (rs := [26]) (by kernel_rfl) (by simp) ?_
                      refine consL rfl (fun K hK => ?_) AllReadyH.nil
                      go_simp
                      refine Calls.mono (l6own_any (⟨rk, rn, rix, ru, rs, rm⟩ : Va) _ _ (Hr.out _ g4).2) ?_
                      rintro e w5 ⟨v5, rfl, hv5, h5⟩
                      have g5 := g4.trans (h5.mono g4.size)
                      (try dsimp only)
                      refine hK.out _ _ (HF4.out _ g5) (fun hHeld => ?_)
                      clear hK K
                      (try simp only [Act.put, List.setIfInBounds_toArray, List.set_cons_zero, List.set_cons_succ])
                      refine wpAnyH_ready (rs := [27]) (by kernel_rfl) (by simp) ?_
                      refine consL rfl (fun K hK => ?_) AllReadyH.nil
                      go_simp
                      refine Calls.mono (vCompare_any (⟨pk, pn, pix, pu, ps, pm⟩ : Va) (⟨rk, rn, rix, ru, rs, rm⟩ : Va) v4 v5 _ (va_lo hv4 h5) (hv5.sub (fun b hb => hb.2))) ?_
                      rw [HT.out]
                      rintro e w6 ⟨rfl, h6⟩
                      have g6 := g5.trans (h6.mono g5.size)
                      (try dsimp only)
                      refine hK.out _ _ (HF4.out _ g6) (fun hHeld => ?_)
                      clear hK K
                      (try simp only [Act.put, List.setIfInBounds_toArray, List.set_cons_zero, List.set_cons_succ])
                      refine wpAnyH_takeL (i := 28) (v := ?v190) rfl (by kernel_rfl) (by kernel_rfl) (by kernel_rfl) (fun _ _ _ h => h) (Or.inl ⟨by rfl, ?y190⟩) (by assumption) ?r190
                      case y190 => (intro W hSw; (try dsimp only at hSw); go_simp; try with_reducible rfl)
                      (try simp only [Act.put, List.setIfInBounds_toArray, List.set_cons_zero, List.set_cons_succ])
                      refine wpAnyH_takeL (i := 29) (v := ?v191) rfl (by kernel_rfl) (by kernel_rfl) (by kernel_rfl) (fun _ _ _ h => h) (Or.inl ⟨by rfl, ?y191⟩) (by assumption) ?r191
                      case y191 => (intro W hSw; (try dsimp only at hSw); go_simp; try with_reducible rfl)
                      (try simp only [Act.put, List.setIfInBounds_toArray, List.set_cons_zero, List.set_cons_succ])
                      refine wpAnyH_done (by kernel_rfl) ?_ _
                      go_wp2_with fail
                      go_roundw
                      case rel => exact ⟨j + 1, by omega, by go_num, g6⟩
                      case measure => simp [intOf]; omega
                    · have gy : decide (y ≤ 0) = false := decide_eq_false hy0
                      clear hz0 hy0
                      refine wp_region_held_drew (S := fun W => (W.cell? ⟨BA, i * 6, none⟩ = some (.int .i64 pk) ∧ W.cell? ⟨BA, i * 6 + 1, none⟩ = some (.int .i64 pn) ∧ W.cell? ⟨BA, i * 6 + 2, none⟩ = some (.int .i64 pix) ∧ W.cell? ⟨BA, i * 6 + 3, none⟩ = some (.int .u64 pu) ∧ W.cell? ⟨BA, i * 6 + 4, none⟩ = some (.string ps) ∧ W.cell? ⟨BA, i * 6 + 5, none⟩ = some (.slice pA pl pc)) ∧ (W.cell? ⟨BA, k * 6, none⟩ = some (.int .i64 qk) ∧ W.cell? ⟨BA, k * 6 + 1, none⟩ = some (.int .i64 qn) ∧ W.cell? ⟨BA, k * 6 + 2, none⟩ = some (.int .i64 qix) ∧ W.cell? ⟨BA, k * 6 + 3, none⟩ = some (.int .u64 qu) ∧ W.cell? ⟨BA, k * 6 + 4, none⟩ = some (.string qs) ∧ W.cell? ⟨BA, k * 6 + 5, none⟩ = some (.slice qA ql qc)) ∧ W.cell? ⟨BA, j * 6, none⟩ = some (.int .i64 rk) ∧ W.cell? ⟨BA, j * 6 + 1, none⟩ = some (.int .i64 rn) ∧ W.cell? ⟨BA, j * 6 + 2, none⟩ = some (.int .i64 rix) ∧ W.cell? ⟨BA, j * 6 + 3, none⟩ = some (.int .u64 ru) ∧ W.cell? ⟨BA, j * 6 + 4, none⟩ = some (.string rs) ∧ W.cell? ⟨BA, j * 6 + 5, none⟩ = some (.slice rA rl rc)) (by kernel_rfl) (HF4.out _ hd) (fun hHeld => ?_)
                      (try simp only [List.size_toArray, List.length_cons, List.length_nil, Nat.zero_add, Nat.reduceAdd])
                      refine wpAnyH_takeL (i := 0) (v := ?v192) rfl (by kernel_rfl) (by kernel_rfl) (by kernel_rfl) (fun _ _ _ h => h) (Or.inl ⟨by rfl, ?y192⟩) (by assumption) ?r192
                      case y192 => (intro W hSw; (try dsimp only at hSw); go_simp; try with_reducible rfl)
                      (try simp only [Act.put, List.setIfInBounds_toArray, List.set_cons_zero, List.set_cons_succ])
                      refine wpAnyH_takeL (i := 1) (v := ?v193) rfl (by kernel_rfl) (by kernel_rfl) (by kernel_rfl) (fun _ _ _ h => h) (Or.inl ⟨by rfl, ?y193⟩) (by assumption) ?r193
                      case y193 => (intro W hSw; (try dsimp only at hSw); go_simp; try with_reducible rfl)
                      (try simp only [Act.put, List.setIfInBounds_toArray, List.set_cons_zero, List.set_cons_succ])
                      refine wpAnyH_takeL (i := 2) (v := ?v194) rfl (by kernel_rfl) (by kernel_rfl) (by kernel_rfl) (fun _ _ _ h => h) (Or.inl ⟨by rfl, ?y194⟩) (by assumption) ?r194
                      case y194 => (intro W hSw; (try dsimp only at hSw); go_simp; try with_reducible rfl)
                      (try simp only [Act.put, List.setIfInBounds_toArray, List.set_cons_zero, List.set_cons_succ])
                      refine wpAnyH_takeL (i := 3) (v := ?v195) rfl (by kernel_rfl) (by kernel_rfl) (by kernel_rfl) (fun _ _ _ h => h) (Or.inl ⟨by rfl, ?y195⟩) (by assumption) ?r195
                      case y195 => (intro W hSw; (try dsimp only at hSw); go_simp; try with_reducible rfl)
                      (try simp only [Act.put, List.setIfInBounds_toArray, List.set_cons_zero, List.set_cons_succ])
                      refine wpAnyH_takeL (i := 4) (v := ?v196) rfl (by kernel_rfl) (by kernel_rfl) (by kernel_rfl) (fun _ _ _ h => h) (Or.inl ⟨by rfl, ?y196⟩) (by assumption) ?r196
                      case y196 => (intro W hSw; (try dsimp only at hSw); go_simp; try with_reducible rfl)
                      (try simp only [Act.put, List.setIfInBounds_toArray, List.set_cons_zero, List.set_cons_succ])
                      refine wpAnyH_takeL (i := 5) (v := ?v197) rfl (by kernel_rfl) (by kernel_rfl) (by kernel_rfl) (fun _ _ _ h => h) (Or.inl ⟨by rfl, ?y197⟩) (by assumption) ?r197
                      case y197 => (intro W hSw; (try dsimp only at hSw); go_simp; try with_reducible rfl)
                      (try simp only [Act.put, List.setIfInBounds_toArray, List.set_cons_zero, List.set_cons_succ])
                      refine wpAnyH_takeL (i := 6) (v := ?v198) rfl (by kernel_rfl) (by kernel_rfl) (by kernel_rfl) (fun _ _ _ h => h) (Or.inl ⟨by rfl, ?y198⟩) (by assumption) ?r198
                      case y198 => (intro W hSw; (try dsimp only at hSw); go_simp; try with_reducible rfl)
                      (try simp only [Act.put, List.setIfInBounds_toArray, List.set_cons_zero, List.set_cons_succ])
                      refine wpAnyH_takeL (i := 8) (v := ?v199) rfl (by kernel_rfl) (by kernel_rfl) (by kernel_rfl) (fun _ _ _ h => h) (Or.inl ⟨by rfl, ?y199⟩) (by assumption) ?r199
                      case y199 => (intro W hSw; (try dsimp only at hSw); go_simp; try with_reducible rfl)
                      (try simp only [Act.put, List.setIfInBounds_toArray, List.set_cons_zero, List.set_cons_succ])
                      refine wpAnyH_takeL (i := 9) (v := ?v200) rfl (by kernel_rfl) (by kernel_rfl) (by kernel_rfl) (fun _ _ _ h => h) (Or.inl ⟨by rfl, ?y200⟩) (by assumption) ?r200
                      case y200 => (intro W hSw; (try dsimp only at hSw); go_simp; try with_reducible rfl)
                      (try simp only [Act.put, List.setIfInBounds_toArray, List.set_cons_zero, List.set_cons_succ])
                      refine wpAnyH_takeL (i := 10) (v := ?v201) rfl (by kernel_rfl) (by kernel_rfl) (by kernel_rfl) (fun _ _ _ h => h) (Or.inl ⟨by rfl, ?y201⟩) (by assumption) ?r201
                      case y201 => (intro W hSw; (try dsimp only at hSw); go_simp; try with_reducible rfl)
                      (try simp only [Act.put, List.setIfInBounds_toArray, List.set_cons_zero, List.set_cons_succ])
                      refine wpAnyH_takeL (i := 11) (v := ?v202) rfl (by kernel_rfl) (by kernel_rfl) (by kernel_rfl) (fun _ _ _ h => h) (Or.inl ⟨by rfl, ?y202⟩) (by assumption) ?r202
                      case y202 => (intro W hSw; (try dsimp only at hSw); go_simp; try with_reducible rfl)
                      (try simp only [Act.put, List.setIfInBounds_toArray, List.set_cons_zero, List.set_cons_succ])
                      refine wpAnyH_ready (rs := [7]) (by kernel_rfl) (by simp) ?_
                      refine consL rfl (fun K hK => ?_) AllReadyH.nil
                      go_simp
                      refine Calls.mono (l6own_any (⟨qk, qn, qix, qu, qs, qm⟩ : Va) _ _ (Hq.out _ hd).2) ?_
                      rintro e w1 ⟨v1, rfl, hv1, h1⟩
                      have g1 := hd.trans (h1.mono hd.size)
                      (try dsimp only)
                      refine hK.out _ _ (HF4.out _ g1) (fun hHeld => ?_)
                      clear hK K
                      (try simp only [Act.put, List.setIfInBounds_toArray, List.set_cons_zero, List.set_cons_succ])
                      refine wpAnyH_ready (rs := [12]) (by kernel_rfl) (by simp) ?_
                      refine consL rfl (fun K hK => ?_) AllReadyH.nil
                      go_simp
                      refine Calls.mono (l6own_any (⟨rk, rn, rix, ru, rs, rm⟩ : Va) _ _ (Hr.out _ g1).2) ?_
                      rintro e w2 ⟨v2, rfl, hv2, h2⟩
                      have g2 := g1.trans (h2.mono g1.size)
                      (try dsimp only)
                      refine hK.out _ _ (HF4.out _ g2) (fun hHeld => ?_)
                      clear hK K
                      (try simp only [Act.put, List.setIfInBounds_toArray, List.set_cons_zero, List.set_cons_succ])
                      refine wpAnyH_ready (rs := [13]) (by kernel_rfl) (by simp) ?_
                      refine consL rfl (fun K hK => ?_) AllReadyH.nil
                      go_simp
                      refine Calls.mono (vCompare_any (⟨qk, qn, qix, qu, qs, qm⟩ : Va) (⟨rk, rn, rix, ru, rs, rm⟩ : Va) v1 v2 _ (va_lo hv1 h2) (hv2.sub (fun b hb => hb.2))) ?_
                      rw [HY.out]
                      rintro e w3 ⟨rfl, h3⟩
                      have g3 := g2.trans (h3.mono g2.size)
                      (try dsimp only)
                      refine hK.out _ _ (HF4.out _ g3) (fun hHeld => ?_)
                      clear hK K
                      (try simp only [Act.put, List.setIfInBounds_toArray, List.set_cons_zero, List.set_cons_succ])
                      refine wpAnyH_takeL (i := 14) (v := ?v203) rfl (by kernel_rfl) (by kernel_rfl) (by kernel_rfl) (fun _ _ _ h => h) (Or.inl ⟨by rfl, ?y203⟩) (by assumption) ?r203
                      case y203 => (intro W hSw; (try dsimp only at hSw); go_simp; try with_reducible rfl)
                      (try simp only [Act.put, List.setIfInBounds_toArray, List.set_cons_zero, List.set_cons_succ])
                      refine wpAnyH_takeL (i := 15) (v := ?v204) rfl (by kernel_rfl) (by kernel_rfl) (by kernel_rfl) (fun _ _ _ h => h) (Or.inl ⟨by rfl, ?y204⟩) (by assumption) ?r204
                      case y204 => (intro W hSw; (try dsimp only at hSw); go_simp; try with_reducible rfl)
                      (try simp only [Act.put, List.setIfInBounds_toArray, List.set_cons_zero, List.set_cons_succ])
                      refine wpAnyH_takeL (i := 16) (v := ?v205) rfl (by kernel_rfl) (by kernel_rfl) (by kernel_rfl) (fun _ _ _ h => h) (Or.inl ⟨by rfl, ?y205⟩) (by assumption) ?r205
                      case y205 => (intro W hSw; (try dsimp only at hSw); go_simp; try with_reducible rfl)
                      (try simp only [Act.put, List.setIfInBounds_toArray, List.set_cons_zero, List.set_cons_succ])
                      refine wpAnyH_takeL (i := 17) rfl (by kernel_rfl) (by kernel_rfl) (by kernel_rfl) (fun _ _ _ h => h) (Or.inr ⟨by rfl, rfl⟩) (by assumption) ?_
                      (try simp only [Act.put, List.setIfInBounds_toArray, List.set_cons_zero, List.set_cons_succ])
                      refine wpAnyH_takeL (i := 18) rfl (by kernel_rfl) (by kernel_rfl) (by kernel_rfl) (fun _ _ _ h => h) (Or.inr ⟨by rfl, rfl⟩) (by assumption) ?_
                      (try simp only [Act.put, List.setIfInBounds_toArray, List.set_cons_zero, List.set_cons_succ])
                      refine wpAnyH_takeL (i := 19) rfl (by kernel_rfl) (by kernel_rfl) (by kernel_rfl) (fun _ _ _ h => h) (Or.inr ⟨by rfl, rfl⟩) (by assumption) ?_
                      (try simp only [Act.put, List.setIfInBounds_toArray, List.set_cons_zero, List.set_cons_succ])
                      refine wpAnyH_takeL (i := 20) rfl (by kernel_rfl) (by kernel_rfl) (by kernel_rfl) (fun _ _ _ h => h) (Or.inr ⟨by rfl, rfl⟩) (by assumption) ?_
                      (try simp only [Act.put, List.setIfInBounds_toArray, List.set_cons_zero, List.set_cons_succ])
                      refine wpAnyH_takeL (i := 21) rfl (by kernel_rfl) (by kernel_rfl) (by kernel_rfl) (fun _ _ _ h => h) (Or.inr ⟨by rfl, rfl⟩) (by assumption) ?_
                      (try simp only [Act.put, List.setIfInBounds_toArray, List.set_cons_zero, List.set_cons_succ])
                      refine wpAnyH_takeL (i := 22) rfl (by kernel_rfl) (by kernel_rfl) (by kernel_rfl) (fun _ _ _ h => h) (Or.inr ⟨by rfl, rfl⟩) (by assumption) ?_
                      (try simp only [Act.put, List.setIfInBounds_toArray, List.set_cons_zero, List.set_cons_succ])
                      refine wpAnyH_takeL (i := 23) rfl (by kernel_rfl) (by kernel_rfl) (by kernel_rfl) (fun _ _ _ h => h) (Or.inr ⟨by rfl, rfl⟩) (by assumption) ?_
                      (try simp only [Act.put, List.setIfInBounds_toArray, List.set_cons_zero, List.set_cons_succ])
                      refine wpAnyH_takeL (i := 24) rfl (by kernel_rfl) (by kernel_rfl) (by kernel_rfl) (fun _ _ _ h => h) (Or.inr ⟨by rfl, rfl⟩) (by assumption) ?_
                      (try simp only [Act.put, List.setIfInBounds_toArray, List.set_cons_zero, List.set_cons_succ])
                      refine wpAnyH_takeL (i := 25) rfl (by kernel_rfl) (by kernel_rfl) (by kernel_rfl) (fun _ _ _ h => h) (Or.inr ⟨by rfl, rfl⟩) (by assumption) ?_
                      (try simp only [Act.put, List.setIfInBounds_toArray, List.set_cons_zero, List.set_cons_succ])
                      refine wpAnyH_takeL (i := 26) rfl (by kernel_rfl) (by kernel_rfl) (by kernel_rfl) (fun _ _ _ h => h) (Or.inr ⟨by rfl, rfl⟩) (by assumption) ?_
                      (try simp only [Act.put, List.setIfInBounds_toArray, List.set_cons_zero, List.set_cons_succ])
                      refine wpAnyH_takeL (i := 27) rfl (by kernel_rfl) (by kernel_rfl) (by kernel_rfl) (fun _ _ _ h => h) (Or.inr ⟨by rfl, rfl⟩) (by assumption) ?_
                      (try simp only [Act.put, List.setIfInBounds_toArray, List.set_cons_zero, List.set_cons_succ])
                      refine wpAnyH_takeL (i := 28) rfl (by kernel_rfl) (by kernel_rfl) (by kernel_rfl) (fun _ _ _ h => h) (Or.inr ⟨by rfl, rfl⟩) (by assumption) ?_
                      (try simp only [Act.put, List.setIfInBounds_toArray, List.set_cons_zero, List.set_cons_succ])
                      refine wpAnyH_takeL (i := 29) (v := ?v206) rfl (by kernel_rfl) (by kernel_rfl) (by kernel_rfl) (fun _ _ _ h => h) (Or.inl ⟨by rfl, ?y206⟩) (by assumption) ?r206
                      case y206 => (intro W hSw; (try dsimp only at hSw); go_simp; try with_reducible rfl)
                      (try simp only [Act.put, List.setIfInBounds_toArray, List.set_cons_zero, List.set_cons_succ])
                      refine wpAnyH_done (by kernel_rfl) ?_ _
                      go_wp2_with fail
                      go_roundw
                      case rel => exact ⟨j + 1, by omega, by go_num, g3⟩
                      case measure => simp [intOf]; omega
                  · have gz : decide (z ≤ 0) = false := decide_eq_false hz0
                    clear hz0
                    refine wp_region_held_drew (S := fun W => (W.cell? ⟨BA, i * 6, none⟩ = some (.int .i64 pk) ∧ W.cell? ⟨BA, i * 6 + 1, none⟩ = some (.int .i64 pn) ∧ W.cell? ⟨BA, i * 6 + 2, none⟩ = some (.int .i64 pix) ∧ W.cell? ⟨BA, i * 6 + 3, none⟩ = some (.int .u64 pu) ∧ W.cell? ⟨BA, i * 6 + 4, none⟩ = some (.string ps) ∧ W.cell? ⟨BA, i * 6 + 5, none⟩ = some (.slice pA pl pc)) ∧ (W.cell? ⟨BA, k * 6, none⟩ = some (.int .i64 qk) ∧ W.cell? ⟨BA, k * 6 + 1, none⟩ = some (.int .i64 qn) ∧ W.cell? ⟨BA, k * 6 + 2, none⟩ = some (.int .i64 qix) ∧ W.cell? ⟨BA, k * 6 + 3, none⟩ = some (.int .u64 qu) ∧ W.cell? ⟨BA, k * 6 + 4, none⟩ = some (.string qs) ∧ W.cell? ⟨BA, k * 6 + 5, none⟩ = some (.slice qA ql qc)) ∧ W.cell? ⟨BA, j * 6, none⟩ = some (.int .i64 rk) ∧ W.cell? ⟨BA, j * 6 + 1, none⟩ = some (.int .i64 rn) ∧ W.cell? ⟨BA, j * 6 + 2, none⟩ = some (.int .i64 rix) ∧ W.cell? ⟨BA, j * 6 + 3, none⟩ = some (.int .u64 ru) ∧ W.cell? ⟨BA, j * 6 + 4, none⟩ = some (.string rs) ∧ W.cell? ⟨BA, j * 6 + 5, none⟩ = some (.slice rA rl rc)) (by kernel_rfl) (HF4.out _ hd) (fun hHeld => ?_)
                    (try simp only [List.size_toArray, List.length_cons, List.length_nil, Nat.zero_add, Nat.reduceAdd])
                    refine wpAnyH_takeL (i := 0) (v := ?v207) rfl (by kernel_rfl) (by kernel_rfl) (by kernel_rfl) (fun _ _ _ h => h) (Or.inl ⟨by rfl, ?y207⟩) (by assumption) ?r207
                    case y207 => (intro W hSw; (try dsimp only at hSw); go_simp; try with_reducible rfl)
                    (try simp only [Act.put, List.setIfInBounds_toArray, List.set_cons_zero, List.set_cons_succ])
                    refine wpAnyH_takeL (i := 1) (v := ?v208) rfl (by kernel_rfl) (by kernel_rfl) (by kernel_rfl) (fun _ _ _ h => h) (Or.inl ⟨by rfl, ?y208⟩) (by assumption) ?r208
                    case y208 => (intro W hSw; (try dsimp only at hSw); go_simp; try with_reducible rfl)
                    (try simp only [Act.put, List.setIfInBounds_toArray, List.set_cons_zero, List.set_cons_succ])
                    refine wpAnyH_takeL (i := 2) (v := ?v209) rfl (by kernel_rfl) (by kernel_rfl) (by kernel_rfl) (fun _ _ _ h => h) (Or.inl ⟨by rfl, ?y209⟩) (by assumption) ?r209
                    case y209 => (intro W hSw; (try dsimp only at hSw); go_simp; try with_reducible rfl)
                    (try simp only [Act.put, List.setIfInBounds_toArray, List.set_cons_zero, List.set_cons_succ])
                    refine wpAnyH_takeL (i := 3) rfl (by kernel_rfl) (by kernel_rfl) (by kernel_rfl) (fun _ _ _ h => h) (Or.inr ⟨by rfl, rfl⟩) (by assumption) ?_
                    (try simp only [Act.put, List.setIfInBounds_toArray, List.set_cons_zero, List.set_cons_succ])
                    refine wpAnyH_takeL (i := 4) rfl (by kernel_rfl) (by kernel_rfl) (by kernel_rfl) (fun _ _ _ h => h) (Or.inr ⟨by rfl, rfl⟩) (by assumption) ?_
                    (try simp only [Act.put, List.setIfInBounds_toArray, List.set_cons_zero, List.set_cons_succ])
                    refine wpAnyH_takeL (i := 5) rfl (by kernel_rfl) (by kernel_rfl) (by kernel_rfl) (fun _ _ _ h => h) (Or.inr ⟨by rfl, rfl⟩) (by assumption) ?_
                    (try simp only [Act.put, List.setIfInBounds_toArray, List.set_cons_zero, List.set_cons_succ])
                    refine wpAnyH_takeL (i := 6) rfl (by kernel_rfl) (by kernel_rfl) (by kernel_rfl) (fun _ _ _ h => h) (Or.inr ⟨by rfl, rfl⟩) (by assumption) ?_
                    (try simp only [Act.put, List.setIfInBounds_toArray, List.set_cons_zero, List.set_cons_succ])
                    refine wpAnyH_takeL (i := 7) rfl (by kernel_rfl) (by kernel_rfl) (by kernel_rfl) (fun _ _ _ h => h) (Or.inr ⟨by rfl, rfl⟩) (by assumption) ?_
                    (try simp only [Act.put, List.setIfInBounds_toArray, List.set_cons_zero, List.set_cons_succ])
                    refine wpAnyH_takeL (i := 8) rfl (by kernel_rfl) (by kernel_rfl) (by kernel_rfl) (fun _ _ _ h => h) (Or.inr ⟨by rfl, rfl⟩) (by assumption) ?_
                    (try simp only [Act.put, List.setIfInBounds_toArray, List.set_cons_zero, List.set_cons_succ])
                    refine wpAnyH_takeL (i := 9) rfl (by kernel_rfl) (by kernel_rfl) (by kernel_rfl) (fun _ _ _ h => h) (Or.inr ⟨by rfl, rfl⟩) (by assumption) ?_
                    (try simp only [Act.put, List.setIfInBounds_toArray, List.set_cons_zero, List.set_cons_succ])
                    refine wpAnyH_takeL (i := 10) rfl (by kernel_rfl) (by kernel_rfl) (by kernel_rfl) (fun _ _ _ h => h) (Or.inr ⟨by rfl, rfl⟩) (by assumption) ?_
                    (try simp only [Act.put, List.setIfInBounds_toArray, List.set_cons_zero, List.set_cons_succ])
                    refine wpAnyH_takeL (i := 11) rfl (by kernel_rfl) (by kernel_rfl) (by kernel_rfl) (fun _ _ _ h => h) (Or.inr ⟨by rfl, rfl⟩) (by assumption) ?_
                    (try simp only [Act.put, List.setIfInBounds_toArray, List.set_cons_zero, List.set_cons_succ])
                    refine wpAnyH_takeL (i := 12) rfl (by kernel_rfl) (by kernel_rfl) (by kernel_rfl) (fun _ _ _ h => h) (Or.inr ⟨by rfl, rfl⟩) (by assumption) ?_
                    (try simp only [Act.put, List.setIfInBounds_toArray, List.set_cons_zero, List.set_cons_succ])
                    refine wpAnyH_takeL (i := 13) rfl (by kernel_rfl) (by kernel_rfl) (by kernel_rfl) (fun _ _ _ h => h) (Or.inr ⟨by rfl, rfl⟩) (by assumption) ?_
                    (try simp only [Act.put, List.setIfInBounds_toArray, List.set_cons_zero, List.set_cons_succ])
                    refine wpAnyH_takeL (i := 14) rfl (by kernel_rfl) (by kernel_rfl) (by kernel_rfl) (fun _ _ _ h => h) (Or.inr ⟨by rfl, rfl⟩) (by assumption) ?_
                    (try simp only [Act.put, List.setIfInBounds_toArray, List.set_cons_zero, List.set_cons_succ])
                    refine wpAnyH_takeL (i := 15) (v := ?v210) rfl (by kernel_rfl) (by kernel_rfl) (by kernel_rfl) (fun _ _ _ h => h) (Or.inl ⟨by rfl, ?y210⟩) (by assumption) ?r210
                    case y210 => (intro W hSw; (try dsimp only at hSw); go_simp; try with_reducible rfl)
                    (try simp only [Act.put, List.setIfInBounds_toArray, List.set_cons_zero, List.set_cons_succ])
                    refine wpAnyH_takeL (i := 16) (v := ?v211) rfl (by kernel_rfl) (by kernel_rfl) (by kernel_rfl) (fun _ _ _ h => h) (Or.inl ⟨by rfl, ?y211⟩) (by assumption) ?r211
                    case y211 => (intro W hSw; (try dsimp only at hSw); go_simp; try with_reducible rfl)
                    (try simp only [Act.put, List.setIfInBounds_toArray, List.set_cons_zero, List.set_cons_succ])
                    refine wpAnyH_takeL (i := 17) rfl (by kernel_rfl) (by kernel_rfl) (by kernel_rfl) (fun _ _ _ h => h) (Or.inr ⟨by rfl, rfl⟩) (by assumption) ?_
                    (try simp only [Act.put, List.setIfInBounds_toArray, List.set_cons_zero, List.set_cons_succ])
                    refine wpAnyH_takeL (i := 18) rfl (by kernel_rfl) (by kernel_rfl) (by kernel_rfl) (fun _ _ _ h => h) (Or.inr ⟨by rfl, rfl⟩) (by assumption) ?_
                    (try simp only [Act.put, List.setIfInBounds_toArray, List.set_cons_zero, List.set_cons_succ])
                    refine wpAnyH_takeL (i := 19) rfl (by kernel_rfl) (by kernel_rfl) (by kernel_rfl) (fun _ _ _ h => h) (Or.inr ⟨by rfl, rfl⟩) (by assumption) ?_
                    (try simp only [Act.put, List.setIfInBounds_toArray, List.set_cons_zero, List.set_cons_succ])
                    refine wpAnyH_takeL (i := 20) rfl (by kernel_rfl) (by kernel_rfl) (by kernel_rfl) (fun _ _ _ h => h) (Or.inr ⟨by rfl, rfl⟩) (by assumption) ?_
                    (try simp only [Act.put, List.setIfInBounds_toArray, List.set_cons_zero, List.set_cons_succ])
                    refine wpAnyH_takeL (i := 21) rfl (by kernel_rfl) (by kernel_rfl) (by kernel_rfl) (fun _ _ _ h => h) (Or.inr ⟨by rfl, rfl⟩) (by assumption) ?_
                    (try simp only [Act.put, List.setIfInBounds_toArray, List.set_cons_zero, List.set_cons_succ])
                    refine wpAnyH_takeL (i := 22) rfl (by kernel_rfl) (by kernel_rfl) (by kernel_rfl) (fun _ _ _ h => h) (Or.inr ⟨by rfl, rfl⟩) (by assumption) ?_
                    (try simp only [Act.put, List.setIfInBounds_toArray, List.set_cons_zero, List.set_cons_succ])
                    refine wpAnyH_takeL (i := 23) rfl (by kernel_rfl) (by kernel_rfl) (by kernel_rfl) (fun _ _ _ h => h) (Or.inr ⟨by rfl, rfl⟩) (by assumption) ?_
                    (try simp only [Act.put, List.setIfInBounds_toArray, List.set_cons_zero, List.set_cons_succ])
                    refine wpAnyH_takeL (i := 24) rfl (by kernel_rfl) (by kernel_rfl) (by kernel_rfl) (fun _ _ _ h => h) (Or.inr ⟨by rfl, rfl⟩) (by assumption) ?_
                    (try simp only [Act.put, List.setIfInBounds_toArray, List.set_cons_zero, List.set_cons_succ])
                    refine wpAnyH_takeL (i := 25) rfl (by kernel_rfl) (by kernel_rfl) (by kernel_rfl) (fun _ _ _ h => h) (Or.inr ⟨by rfl, rfl⟩) (by assumption) ?_
                    (try simp only [Act.put, List.setIfInBounds_toArray, List.set_cons_zero, List.set_cons_succ])
                    refine wpAnyH_takeL (i := 26) rfl (by kernel_rfl) (by kernel_rfl) (by kernel_rfl) (fun _ _ _ h => h) (Or.inr ⟨by rfl, rfl⟩) (by assumption) ?_
                    (try simp only [Act.put, List.setIfInBounds_toArray, List.set_cons_zero, List.set_cons_succ])
                    refine wpAnyH_takeL (i := 27) rfl (by kernel_rfl) (by kernel_rfl) (by kernel_rfl) (fun _ _ _ h => h) (Or.inr ⟨by rfl, rfl⟩) (by assumption) ?_
                    (try simp only [Act.put, List.setIfInBounds_toArray, List.set_cons_zero, List.set_cons_succ])
                    refine wpAnyH_takeL (i := 28) rfl (by kernel_rfl) (by kernel_rfl) (by kernel_rfl) (fun _ _ _ h => h) (Or.inr ⟨by rfl, rfl⟩) (by assumption) ?_
                    (try simp only [Act.put, List.setIfInBounds_toArray, List.set_cons_zero, List.set_cons_succ])
                    refine wpAnyH_takeL (i := 29) (v := ?v212) rfl (by kernel_rfl) (by kernel_rfl) (by kernel_rfl) (fun _ _ _ h => h) (Or.inl ⟨by rfl, ?y212⟩) (by assumption) ?r212
                    case y212 => (intro W hSw; (try dsimp only at hSw); go_simp; try with_reducible rfl)
                    (try simp only [Act.put, List.setIfInBounds_toArray, List.set_cons_zero, List.set_cons_succ])
                    refine wpAnyH_done (by kernel_rfl) ?_ _
                    go_wp2_with fail
                    go_roundw
                    case rel => exact ⟨j + 1, by omega, by go_num, hd⟩
                    case measure => simp [intOf]; omega
                · have hj9 : ¬ (j : Int) < 8 := by omega
                  go_wp2_with fail
                  go_roundw
                  case rel => exact ⟨k + 1, by omega, by go_num, hJ⟩
                  case measure => simp [intOf]; omega
        · have hk9 : ¬ (k : Int) < 8 := by omega
          go_wp2_with fail
          go_roundw
          case rel => exact ⟨i + 1, by omega, by go_num, hW⟩
          case measure => simp [intOf]; omega
    · have hi6 : ¬ (i : Int) < 8 := by omega
      go_wp2_with fail
      refine Calls.mono (l6lives_any wr) ?_
      rintro e w9 ⟨rfl, hb9⟩
      go_wp2_with fail
      go_ret
      exact ⟨rfl, h10.out.trans ((hW.trans (hb9.mono hW.size)).mono h10.out.size)⟩
end Go.Proofs.Ytedhbpceonhmcaa
