/-
  THE WALK of the law's same: an expression of the program against one of the reference.
  THE WALK of the law on normal forms (P4.1, P4.2, P4.7), lives taken as handed in; the law. Written by gen/gennorml.py.
-/
import Derived.Test.YtnjkihbmhacgoaaGreatDoorRxPlain
import Derived.Test.YtnjkihbmhacgoaaGreatDoorRxECmp
import Derived.Test.YtnjkihbmhacgoaaGreatDoorRxOrder
import Derived.Test.YtnjkihbmhacgoaaGreatDoorRxNormF
import Derived.Test.YtnjkihbmhacgoaaGreatDoorRxMatch
import Derived.Test.YtnjkihbmhacgoaaGreatDoorRxWordB
namespace Go.Proofs.YtnjkihbmhacgoaaGreatDoor
open Go.RowKit

set_option maxHeartbeats 1000000 in
set_option maxRecDepth 100000 in
theorem same_any (x y : Rx) (v1 v2 : Value) (w : World) (h1 : RtV w (Lo w.heap.size) x v1) (h2 : RtV w (Lo w.heap.size) y v2) : Calls Tryz.prog 11 #[v1, v2] w fun e w' => e = .returned (.bool (cmp x y == 0)) ∧ Below w.heap.size w w' := by
  obtain ⟨_, A, c, rfl, _⟩ := h1.parts
  obtain ⟨_, B, d, rfl, _⟩ := h2.parts
  have hP := Lib.hid fun W (hW : Below w.heap.size w W) => plain_any (nodes x) x _ W (Nat.le_refl _) (h1.call hW)
  have hE := Lib.hid fun W (hW : Below w.heap.size w W) (v : Value) (hv : RtV W (Lo W.heap.size) x v) => eCmp_any x y v _ W hv (h2.call hW)
  unfold rxv at hP hE ⊢
  clear h1 h2
  go_enter Tryz.func11, Tryz.ntmps11
  go_wp2_with fail
  have hn0 := (heap_alloc_old (w.alloc (.cells #[.int .i64 x.kind, .int .u8 x.lo, .int .u8 x.hi, .slice A x.kids.length c] 30)) (.cells #[.int .i64 y.kind, .int .u8 y.lo, .int .u8 y.hi, .slice B y.kids.length d] 25) w.heap.size (by simp)).trans (heap_alloc_new w (.cells #[.int .i64 x.kind, .int .u8 x.lo, .int .u8 x.hi, .slice A x.kids.length c] 30))
  have hn1 := heap_alloc_new_at (w.alloc (.cells #[.int .i64 x.kind, .int .u8 x.lo, .int .u8 x.hi, .slice A x.kids.length c] 30)) (.cells #[.int .i64 y.kind, .int .u8 y.lo, .int .u8 y.hi, .slice B y.kids.length d] 25) (n := w.heap.size + 1) (by simp)
  have hB0 := below_alloc2 (Below.refl w.heap.size w) (Nat.le_refl _) (.cells #[.int .i64 x.kind, .int .u8 x.lo, .int .u8 x.hi, .slice A x.kids.length c] 30) (.cells #[.int .i64 y.kind, .int .u8 y.lo, .int .u8 y.hi, .slice B y.kids.length d] 25)
  have hz0 : ((w.alloc (.cells #[.int .i64 x.kind, .int .u8 x.lo, .int .u8 x.hi, .slice A x.kids.length c] 30)).alloc (.cells #[.int .i64 y.kind, .int .u8 y.lo, .int .u8 y.hi, .slice B y.kids.length d] 25)).heap.size = w.heap.size + 2 := by simp
  generalize (w.alloc (.cells #[.int .i64 x.kind, .int .u8 x.lo, .int .u8 x.hi, .slice A x.kids.length c] 30)).alloc (.cells #[.int .i64 y.kind, .int .u8 y.lo, .int .u8 y.hi, .slice B y.kids.length d] 25) = w0 at *
  have HS := Lib.hid fun W (hW : Below w0.heap.size w0 W) => (show W.cell? ⟨w.heap.size, 0, none⟩ = some (.int .i64 x.kind) ∧ W.cell? ⟨w.heap.size, 1, none⟩ = some (.int .u8 x.lo) ∧ W.cell? ⟨w.heap.size, 2, none⟩ = some (.int .u8 x.hi) ∧ W.cell? ⟨w.heap.size, 3, none⟩ = some (.slice A x.kids.length c) ∧ W.cell? ⟨w.heap.size + 1, 0, none⟩ = some (.int .i64 y.kind) ∧ W.cell? ⟨w.heap.size + 1, 1, none⟩ = some (.int .u8 y.lo) ∧ W.cell? ⟨w.heap.size + 1, 2, none⟩ = some (.int .u8 y.hi) ∧ W.cell? ⟨w.heap.size + 1, 3, none⟩ = some (.slice B y.kids.length d) from by
    obtain ⟨k0, k1, k2, k3⟩ := four ((hW.block w.heap.size (by omega)).trans hn0)
    obtain ⟨m0, m1, m2, m3⟩ := four ((hW.block (w.heap.size + 1) (by omega)).trans hn1)
    exact ⟨k0, k1, k2, k3, m0, m1, m2, m3⟩)
  have hd : Below w0.heap.size w0 w0.drew := (Below.refl _ _).drew
  have hd0 := hB0.trans (hd.mono (by omega))
  have hP0 := hP.out _ hd0
  go_region_held3 (fun W => W.cell? ⟨w.heap.size, 0, none⟩ = some (.int .i64 x.kind) ∧ W.cell? ⟨w.heap.size, 1, none⟩ = some (.int .u8 x.lo) ∧ W.cell? ⟨w.heap.size, 2, none⟩ = some (.int .u8 x.hi) ∧ W.cell? ⟨w.heap.size, 3, none⟩ = some (.slice A x.kids.length c) ∧ W.cell? ⟨w.heap.size + 1, 0, none⟩ = some (.int .i64 y.kind) ∧ W.cell? ⟨w.heap.size + 1, 1, none⟩ = some (.int .u8 y.lo) ∧ W.cell? ⟨w.heap.size + 1, 2, none⟩ = some (.int .u8 y.hi) ∧ W.cell? ⟨w.heap.size + 1, 3, none⟩ = some (.slice B y.kids.length d))
    (first | with_reducible exact HS.out _ hd | with_reducible exact HS.out _ hBa | with_reducible exact HS.out _ hBb)
    (first
      | (go_at_call 14; (with_reducible refine Calls.mono hP0 ?_); rintro e w1 ⟨v1, rfl, hv1, hw1⟩; have hBa : Below w0.heap.size w0 w1 := hd.trans (hw1.mono hd.size); have hBa0 := hB0.trans (hBa.mono (by omega)); have hE0 := hE.out w1 hBa0 v1 (made_lo hv1))
      | (go_at_call 28; (with_reducible refine Calls.mono hE0 ?_); rintro e w2 ⟨rfl, hw2⟩; have hBb : Below w0.heap.size w0 w2 := hBa.trans (hw2.mono hBa.size)))
  go_wp2_with fail
  go_ret
  exact ⟨rfl, hB0.trans (hBb.mono (by omega))⟩
end Go.Proofs.YtnjkihbmhacgoaaGreatDoor

namespace Go.Proofs.YtnjkihbmhacgoaaGreatDoor
open Go.RowKit

/-- the tree at a place of a list, in every later world -/
theorem at_cells3 {W0 : World} {xs : List Rx} {B : Nat} (L : RtL W0 (Lo W0.heap.size) xs (some ⟨B, 0, none⟩)) {t : Nat} (ht : t < xs.length) : ∃ (x : Rx) (A : Option Addr) (c : Nat), x ∈ xs ∧ ∀ W, Below W0.heap.size W0 W →
    (W.cell? ⟨B, t * 4, none⟩ = some (.int .i64 x.kind) ∧ W.cell? ⟨B, t * 4 + 1, none⟩ = some (.int .u8 x.lo) ∧ W.cell? ⟨B, t * 4 + 2, none⟩ = some (.int .u8 x.hi) ∧ W.cell? ⟨B, t * 4 + 3, none⟩ = some (.slice A x.kids.length c)) ∧
    RtV W (Lo W.heap.size) x (.agg #[.int .i64 x.kind, .int .u8 x.lo, .int .u8 x.hi, .slice A x.kids.length c]) := by
  obtain ⟨b, o, A, c, e, hb, h4, hx⟩ := L.get ht
  cases e
  refine ⟨xs[t], A, c, List.getElem_mem ht, fun W hW => ⟨?_, hx.call hW⟩⟩
  have := h4.to (hW.block B hb)
  simpa [At4] using this
theorem valid_mk {x : Rx} (h1 : nodes x ≤ 64) (h2 : wfR x = true) : validR x = 0 := by unfold validR; rw [if_neg (by omega), if_pos h2]
theorem normC_zero {x : Rx} (h : normC x = 0) : nodes x ≤ 64 ∧ wfR x = true ∧ nodes (nf x) ≤ 64 ∧ normV x = nf x := by
  unfold normC at h
  by_cases hv : validR x = 0
  · rw [if_pos hv] at h
    by_cases hn : nodes (nf x) ≤ 64
    · obtain ⟨h1, h2⟩ := valid_parts hv
      exact ⟨h1, h2, hn, by unfold normV; rw [if_pos ⟨hv, hn⟩]⟩
    · rw [if_neg hn] at h; omega
  · rw [if_neg hv] at h; exact absurd h hv
/-- the normal form's own normal form -/
theorem norm_again {x : Rx} (h : normC x = 0) : normC (nf x) = 0 ∧ normV (nf x) = nf x := by
  obtain ⟨h1, h2, h3, h4⟩ := normC_zero h
  have hv := valid_mk h3 (wf_nf x h2)
  constructor
  · unfold normC; rw [if_pos hv, nf_nf h2, if_pos h3]
  · unfold normV; rw [nf_nf h2, if_pos ⟨hv, h3⟩]
theorem matchE_zero {x : Rx} {n : Nat} (h1 : nodes x ≤ 64) (h2 : wfR x = true) (h3 : n ≤ 5) : matchE x n = 0 := by
  unfold matchE; rw [if_neg (by omega), if_pos h2, if_neg (by omega)]
theorem a_lo {n : Nat} {w w' : World} {x : Rx} {v : Value} (h : RtV w (Mid n w.heap.size) x v) (hb : Below w.heap.size w w') : RtV w' (Lo w'.heap.size) x v := RtV.to (fun b hb' => ⟨Nat.lt_of_lt_of_le hb'.2 hb.size, hb.block b hb'.2⟩) x h

set_option maxHeartbeats 4000000 in
set_option maxRecDepth 100000 in
theorem norml_walk (A1 A3 : Option Addr) (n1 n3 c1 c3 : Nat) (z1 z3 : List Int) (how by' : Int) (w : World) (hL1 : MkL n1 z1) (hL3 : MkL n3 z3) (hr1 : RdI w w.heap.size .i64 A1 z1) (hr3 : RdI w w.heap.size .i64 A3 z3) (hq5b : I64 how) (hb : I64 by')
    (HL : Hid (∀ W, Below w.heap.size w W → Calls Tryz.prog 17 #[] W fun e w' => e = .returned (.bool true) ∧ Below W.heap.size W w')) :
    Calls Tryz.prog 3 #[.slice A1 n1 c1, .int .i64 how, .int .i64 by', .slice A3 n3 c3] w (RTrue w) := by
  have M1 := Lib.hid (made_any A1 n1 c1 z1 w hL1 hr1)
  have H3 := Lib.hid hr3
  have HM := Lib.hid hL3
  clear hr1 hr3 hL1 hL3
  go_enter Tryz.func3, Tryz.ntmps3
  go_wp2_with fail
  refine Calls.mono M1.out ?_
  rintro e w1 ⟨x1, v1, rfl, hv1, hb1, hx1, hn1⟩
  obtain ⟨_, B1, d1, rfl, _⟩ := hv1.parts
  simp only [rxv]
  go_wp2_with fail
  obtain ⟨wA, hwA⟩ : ∃ wA, w1.alloc (.cells #[.int .i64 x1.kind, .int .u8 x1.lo, .int .u8 x1.hi, .slice B1 x1.kids.length d1] 25) = wA := ⟨_, rfl⟩
  have hsA : wA.heap.size = w1.heap.size + 1 := by rw [← hwA]; simp
  have hbA : Below w.heap.size w wA := hwA ▸ hb1.alloc hb1.size _
  have hrA : wA.heap[w1.heap.size]? = some (.cells #[.int .i64 x1.kind, .int .u8 x1.lo, .int .u8 x1.hi, .slice B1 x1.kids.length d1] 25 (0, 0)) := hwA ▸ heap_alloc_new w1 _
  have hvA : RtV wA (Lo wA.heap.size) x1 (rxv x1.kind x1.lo x1.hi B1 x1.kids.length d1) := RtV.to (fun b hb => ⟨by show b < _; have := hb.2; omega, hwA ▸ Below.heap_alloc w1 _ b hb.2⟩) x1 hv1
  have hbAw := hbA.size
  rw [hwA]
  clear hwA hv1 hb1
  have HS' := Lib.hid (show ∀ W, Below wA.heap.size wA W → W.cell? ⟨w1.heap.size, 0, none⟩ = some (.int .i64 x1.kind) ∧ W.cell? ⟨w1.heap.size, 1, none⟩ = some (.int .u8 x1.lo) ∧ W.cell? ⟨w1.heap.size, 2, none⟩ = some (.int .u8 x1.hi) ∧ W.cell? ⟨w1.heap.size, 3, none⟩ = some (.slice B1 x1.kids.length d1) from fun W hW => four ((hW.block _ (by omega)).trans hrA))
  have hd : Below wA.heap.size wA wA.drew := (Below.refl _ _).drew
  unfold rxv at hvA
  have hvA' := Lib.hid (fun W (h : Below wA.heap.size wA W) => lo_below hvA h)
  clear hvA
  go_region_held3 (fun W => W.cell? ⟨w1.heap.size, 0, none⟩ = some (.int .i64 x1.kind) ∧ W.cell? ⟨w1.heap.size, 1, none⟩ = some (.int .u8 x1.lo) ∧ W.cell? ⟨w1.heap.size, 2, none⟩ = some (.int .u8 x1.hi) ∧ W.cell? ⟨w1.heap.size, 3, none⟩ = some (.slice B1 x1.kids.length d1))
    (first | exact HS'.out _ hd | exact HS'.out _ (by assumption) | exact HS'.out _ (Below.alloc (by assumption) (by omega) _))
    (first
      | (go_at_call 5; (with_reducible refine Calls.mono (spoilt_any x1 _ how by' _ hq5b hb (hvA'.out _ hd) hn1) ?_); rintro e w4 ⟨x4, v4, rfl, hv4, hb4, hn4⟩; obtain ⟨_, B4, d4, rfl, _⟩ := hv4.parts; have hc4 : Below wA.heap.size wA w4 := hd.trans (hb4.mono hd.size); have hl4 := hc4.size; simp only [rxv]))
  go_wp2_with fail
  obtain ⟨wB, hwB⟩ : ∃ wB, w4.alloc (.cells #[.int .i64 x1.kind, .int .u8 x1.lo, .int .u8 x1.hi, .slice B1 x1.kids.length d1, .int .i64 x4.kind, .int .u8 x4.lo, .int .u8 x4.hi, .slice B4 x4.kids.length d4] 25) = wB := ⟨_, rfl⟩
  have LL : ∃ xs : List Rx, Hid (xs.length = 2) ∧ Hid (∀ x ∈ xs, nodes x ≤ 200) ∧ RtL wB (Lo wB.heap.size) xs (some ⟨w4.heap.size, 0, none⟩) := by
    have h1 := hvA'.out _ hc4
    subst hwB
    refine ⟨[⟨x1, B1, d1⟩, ⟨x4, B4, d4⟩].map Tn.x, Lib.hid rfl, Lib.hid (fun x hx => ?_), five_row (ts := [⟨x1, B1, d1⟩, ⟨x4, B4, d4⟩]) (fun t ht => ?_)⟩
    · simp only [List.map_cons, List.map_nil, List.mem_cons, List.not_mem_nil, or_false] at hx
      rcases hx with rfl | rfl
      · omega
      · exact hn4
    · simp only [List.mem_cons, List.not_mem_nil, or_false] at ht
      rcases ht with rfl | rfl
      · exact h1
      · exact hv4
  have hbB : Below w.heap.size w wB := by
    have hbA4 := hbA.trans (hc4.mono hbAw)
    rw [← hwB]
    exact hbA4.alloc hbA4.size _
  rw [hwB]
  obtain ⟨xs, hlen, hnod, L⟩ := LL
  generalize w4.heap.size = BB at L ⊢
  clear hwB hvA' HS' hd hbA hbAw hrA hsA M1 hb
  go_loopw [11] (fun v wr => ∃ i : Nat, i ≤ 2 ∧ v = .int .i64 i ∧ Below wB.heap.size wB wr) (fun v _ => 2 - (intOf v).toNat)
  case atStart => exact ⟨0, by omega, rfl, Below.refl _ _⟩
  case round =>
    obtain ⟨i, hi, rfl, hW⟩ := hrel
    by_cases hi2 : i < 2
    · obtain ⟨xi, Ai, ci, hmem, Hi'⟩ := at_cells3 L (hlen.out ▸ hi2)
      have Hi := Lib.hid Hi'
      have Hn := Lib.hid (hnod.out _ hmem)
      clear Hi' hmem
      obtain ⟨wo, rfl⟩ : ∃ wo, wo = wr := ⟨_, rfl⟩
      obtain ⟨p0, p1, p2, p3⟩ := (Hi.out _ hW).1
      go_wp2_with fail
      refine Calls.mono (own_any _ xi _ _ (Nat.le_refl _) (Hi.out _ hW).2) ?_
      rintro e w7 ⟨v7, rfl, hv7, hb7⟩
      have hc7 : Below wB.heap.size wB w7 := hW.trans (hb7.mono hW.size)
      go_wp2_with fail
      refine Calls.mono (xNormal_any xi v7 _ (x_lo hv7 (Below.refl _ _))) ?_
      rintro e w8 ⟨va, rfl, hva, hb8⟩
      have hc8 : Below wB.heap.size wB w8 := hc7.trans (hb8.mono hc7.size)
      obtain ⟨_, Aa, ca, rfl, _⟩ := hva.parts
      obtain ⟨an, han⟩ : ∃ an, normV xi = an := ⟨_, rfl⟩
      obtain ⟨ec, hec⟩ : ∃ ec, normC xi = ec := ⟨_, rfl⟩
      rw [han] at hva ⊢
      rw [hec]
      have HAN := Lib.hid han
      have HEC := Lib.hid hec
      clear han hec p0 p1 p2 p3
      simp only [rxv]
      obtain ⟨PA, hPA⟩ : ∃ PA, PA = w8.heap.size := ⟨_, rfl⟩
      have hca : Below wB.heap.size wB (w8.alloc (.cells #[.int .i64 an.kind, .int .u8 an.lo, .int .u8 an.hi, .slice Aa an.kids.length ca] 30)) := hc8.alloc hc8.size _
      have Pa := heap_alloc_new w8 (.cells #[.int .i64 an.kind, .int .u8 an.lo, .int .u8 an.hi, .slice Aa an.kids.length ca] 30)
      have hvaa := a_lo hva ((Below.refl _ _).alloc (Nat.le_refl _) (.cells #[.int .i64 an.kind, .int .u8 an.lo, .int .u8 an.hi, .slice Aa an.kids.length ca] 30))
      rw [← hPA] at Pa
      have hsa : (w8.alloc (.cells #[.int .i64 an.kind, .int .u8 an.lo, .int .u8 an.hi, .slice Aa an.kids.length ca] 30)).heap.size = PA + 1 := by simp [hPA]
      obtain ⟨p0, p1, p2, p3⟩ := (Hi.out _ hca).1
      go_wp2_with fail
      rw [← hPA]
      clear hPA hva
      generalize w8.alloc (.cells #[.int .i64 an.kind, .int .u8 an.lo, .int .u8 an.hi, .slice Aa an.kids.length ca] 30) = wa at *
      refine Calls.mono (eNormal_any xi _ _ (Nat.le_trans Hn.out (by decide)) (Hi.out _ hca).2) ?_
      unfold NOkE
      rw [HAN.out, HEC.out]
      rintro e w9 ⟨vb, rfl, hvb, hb9⟩
      have hc9 : Below wB.heap.size wB w9 := hca.trans (hb9.mono hca.size)
      obtain ⟨_, Ab, cb, rfl, _⟩ := hvb.parts
      clear p0 p1 p2 p3
      simp only [rxv]
      obtain ⟨PB, hPB⟩ : ∃ PB, PB = w9.heap.size := ⟨_, rfl⟩
      have Pb := heap_alloc_new w9 (.cells #[.int .i64 an.kind, .int .u8 an.lo, .int .u8 an.hi, .slice Ab an.kids.length cb] 25)
      rw [← hPB] at Pb
      have hsb : (w9.alloc (.cells #[.int .i64 an.kind, .int .u8 an.lo, .int .u8 an.hi, .slice Ab an.kids.length cb] 25)).heap.size = PB + 1 := by simp [hPB]
      have hcb0 : Below wa.heap.size wa (w9.alloc (.cells #[.int .i64 an.kind, .int .u8 an.lo, .int .u8 an.hi, .slice Ab an.kids.length cb] 25)) := hb9.alloc hb9.size _
      have hcb : Below wB.heap.size wB (w9.alloc (.cells #[.int .i64 an.kind, .int .u8 an.lo, .int .u8 an.hi, .slice Ab an.kids.length cb] 25)) := hca.trans (hcb0.mono hca.size)
      have hvbb := hvb.call ((Below.refl _ _).alloc (Nat.le_refl _) (.cells #[.int .i64 an.kind, .int .u8 an.lo, .int .u8 an.hi, .slice Ab an.kids.length cb] 25))
      have hvab := hvaa.call hcb0
      go_wp2_with fail
      rw [← hPB]
      clear hPB hvb hvaa
      generalize w9.alloc (.cells #[.int .i64 an.kind, .int .u8 an.lo, .int .u8 an.hi, .slice Ab an.kids.length cb] 25) = wb at *
      unfold rxv at hvab hvbb
      have hbs := hcb.size
      have hbs0 := hcb0.size
      have Hib := Lib.hid fun W (hW : Below wb.heap.size wb W) => Hi.out W (hcb.trans (hW.mono hbs))
      have HA := Lib.hid fun W (hW : Below wb.heap.size wb W) => (show (W.cell? ⟨PA, 0, none⟩ = some (.int .i64 an.kind) ∧ W.cell? ⟨PA, 1, none⟩ = some (.int .u8 an.lo) ∧ W.cell? ⟨PA, 2, none⟩ = some (.int .u8 an.hi) ∧ W.cell? ⟨PA, 3, none⟩ = some (.slice Aa an.kids.length ca)) ∧ RtV W (Lo W.heap.size) an _ from ⟨four ((hW.block PA (by omega)).trans ((hcb0.block PA (by omega)).trans Pa)), hvab.call hW⟩)
      have HB := Lib.hid fun W (hW : Below wb.heap.size wb W) => (show (W.cell? ⟨PB, 0, none⟩ = some (.int .i64 an.kind) ∧ W.cell? ⟨PB, 1, none⟩ = some (.int .u8 an.lo) ∧ W.cell? ⟨PB, 2, none⟩ = some (.int .u8 an.hi) ∧ W.cell? ⟨PB, 3, none⟩ = some (.slice Ab an.kids.length cb)) ∧ RtV W (Lo W.heap.size) an _ from ⟨four ((hW.block PB (by omega)).trans Pb), hvbb.call hW⟩)
      have HS8 := Lib.hid fun W (hW : Below wb.heap.size wb W) => (show W.cell? ⟨BB, i * 4, none⟩ = some (.int .i64 xi.kind) ∧ W.cell? ⟨BB, i * 4 + 1, none⟩ = some (.int .u8 xi.lo) ∧ W.cell? ⟨BB, i * 4 + 2, none⟩ = some (.int .u8 xi.hi) ∧ W.cell? ⟨BB, i * 4 + 3, none⟩ = some (.slice Ai xi.kids.length ci) ∧ W.cell? ⟨PA, 0, none⟩ = some (.int .i64 an.kind) ∧ W.cell? ⟨PA, 1, none⟩ = some (.int .u8 an.lo) ∧ W.cell? ⟨PA, 2, none⟩ = some (.int .u8 an.hi) ∧ W.cell? ⟨PA, 3, none⟩ = some (.slice Aa an.kids.length ca) ∧ W.cell? ⟨PB, 0, none⟩ = some (.int .i64 an.kind) ∧ W.cell? ⟨PB, 1, none⟩ = some (.int .u8 an.lo) ∧ W.cell? ⟨PB, 2, none⟩ = some (.int .u8 an.hi) ∧ W.cell? ⟨PB, 3, none⟩ = some (.slice Ab an.kids.length cb) from by
        obtain ⟨a0, a1, a2, a3⟩ := (Hib.out W hW).1
        obtain ⟨b0, b1, b2, b3⟩ := (HA.out W hW).1
        obtain ⟨d0, d1, d2, d3⟩ := (HB.out W hW).1
        exact ⟨a0, a1, a2, a3, b0, b1, b2, b3, d0, d1, d2, d3⟩)
      have HNi := Lib.hid Hn.out
      have hd : Below wb.heap.size wb wb.drew := (Below.refl _ _).drew
      have hO := own_any _ xi _ _ (Nat.le_refl _) (Hib.out _ hd).2
      have HV := Lib.hid fun W (hW : Below wb.heap.size wb W) => (show Calls Tryz.prog 10 #[.agg #[.int .i64 xi.kind, .int .u8 xi.lo, .int .u8 xi.hi, .slice Ai xi.kids.length ci]] W _ from eValid_any xi _ W (Nat.le_trans Hn.out (by decide)) (Hib.out W hW).2)
      have hvr := Lib.hid (evalR_eq (Hib.out _ hd).2)
      obtain ⟨vr, hvrd⟩ : ∃ vr, validR xi = vr := ⟨_, rfl⟩
      have HVR := Lib.hid hvrd
      have HX := Lib.hid fun (W : World) (v : Value) (hv : RtV W (Lo W.heap.size) xi v) => (show Calls Tryz.prog 9 #[v] W fun e w' => e = .returned (.int .i64 vr) ∧ Below W.heap.size W w' from by have := valid_any xi v W hv; rwa [hvrd] at this)
      have HV2 := Lib.hid fun W (hW : Below wb.heap.size wb W) => (show Calls Tryz.prog 10 #[.agg #[.int .i64 xi.kind, .int .u8 xi.lo, .int .u8 xi.hi, .slice Ai xi.kids.length ci]] W fun e w' => e = .returned (.int .i64 vr) ∧ Below W.heap.size W w' from by have := HV.out W hW; rwa [hvr.out, hvrd] at this)
      have HSm := Lib.hid fun W (hW : Below wb.heap.size wb W) => (show Calls Tryz.prog 11 #[.agg #[.int .i64 an.kind, .int .u8 an.lo, .int .u8 an.hi, .slice Aa an.kids.length ca], .agg #[.int .i64 an.kind, .int .u8 an.lo, .int .u8 an.hi, .slice Ab an.kids.length cb]] W fun e w' => e = .returned (.bool true) ∧ Below W.heap.size W w' from by have := same_any an an _ _ W (HA.out W hW).2 (HB.out W hW).2; rwa [cmp_self] at this)
      clear hvrd HV hvr Pa Pb hvab hvbb hb7 hb8 hb9 hv7 hc7 hc8 hc9
      go_region_held3 (fun W => W.cell? ⟨BB, i * 4, none⟩ = some (.int .i64 xi.kind) ∧ W.cell? ⟨BB, i * 4 + 1, none⟩ = some (.int .u8 xi.lo) ∧ W.cell? ⟨BB, i * 4 + 2, none⟩ = some (.int .u8 xi.hi) ∧ W.cell? ⟨BB, i * 4 + 3, none⟩ = some (.slice Ai xi.kids.length ci) ∧ W.cell? ⟨PA, 0, none⟩ = some (.int .i64 an.kind) ∧ W.cell? ⟨PA, 1, none⟩ = some (.int .u8 an.lo) ∧ W.cell? ⟨PA, 2, none⟩ = some (.int .u8 an.hi) ∧ W.cell? ⟨PA, 3, none⟩ = some (.slice Aa an.kids.length ca) ∧ W.cell? ⟨PB, 0, none⟩ = some (.int .i64 an.kind) ∧ W.cell? ⟨PB, 1, none⟩ = some (.int .u8 an.lo) ∧ W.cell? ⟨PB, 2, none⟩ = some (.int .u8 an.hi) ∧ W.cell? ⟨PB, 3, none⟩ = some (.slice Ab an.kids.length cb))
        (first | with_reducible exact HS8.out _ hd | with_reducible exact HS8.out _ hBa | with_reducible exact HS8.out _ hBb | with_reducible exact HS8.out _ hBc | with_reducible exact HS8.out _ hBe)
        (first
          | (go_at_call 7; (with_reducible refine Calls.mono hO ?_); rintro e wq1 ⟨vq, rfl, hvq, hq1⟩; have hBa : Below wb.heap.size wb wq1 := hd.trans (hq1.mono hd.size); have hX1 := HX.out wq1 vq (made_lo hvq))
          | (go_at_call 9; (with_reducible refine Calls.mono hX1 ?_); rintro e wq2 ⟨rfl, hq2⟩; have hBb : Below wb.heap.size wb wq2 := hBa.trans (hq2.mono hBa.size); have hV1 := HV2.out wq2 hBb)
          | (go_at_call 10; (with_reducible refine Calls.mono hV1 ?_); rintro e wq3 ⟨rfl, hq3⟩; have hBc : Below wb.heap.size wb wq3 := hBb.trans (hq3.mono hBb.size); have hS1 := HSm.out wq3 hBc)
          | (go_at_call 11; (with_reducible refine Calls.mono hS1 ?_); rintro e wq4 ⟨rfl, hq4⟩; have hBe : Below wb.heap.size wb wq4 := hBc.trans (hq4.mono hBc.size)))
      have hbe := hBe.size
      have hcE := hcb.trans (hBe.mono hbs)
      by_cases hz : ec = 0
      · subst hz
        obtain ⟨n64, nwf, a64, hnv⟩ := normC_zero HEC.out
        have hag := norm_again HEC.out
        have hann : an = nf xi := HAN.out.symm.trans hnv
        rw [← hann] at hag a64
        have hnn : nodes an ≤ 2 * nodes xi := by rw [hann]; exact nf_nodes xi
        have HMT := Lib.hid (fun (bt : Nat → Int) (n : Nat) => (show mt bt an 0 n ↔ mt bt xi 0 n from by rw [hann]; exact mt_nf bt xi nwf 0 n))
        have HM1 := Lib.hid (fun (n : Nat) (h : n ≤ 5) => matchE_zero (x := xi) n64 nwf h)
        have HM2 := Lib.hid (fun (n : Nat) (h : n ≤ 5) => matchE_zero (x := an) a64 (by rw [hann]; exact wf_nf xi nwf) h)
        have HAG := Lib.hid hag
        clear hag hann hnv n64 nwf HEC HAN
        obtain ⟨na, hna⟩ : ∃ na, nodes an = na := ⟨_, rfl⟩
        obtain ⟨nx, hnx⟩ : ∃ nx, nodes xi = nx := ⟨_, rfl⟩
        have hnx2 : nx ≤ 200 := by rw [← hnx]; exact Hn.out
        rw [hna, hnx] at hnn
        rw [hna] at a64
        have HNA := Lib.hid hna
        have HNX := Lib.hid hnx
        clear hna hnx
        obtain ⟨_, _, _, _, q0, q1, q2, q3, _⟩ := HS8.out _ hBe
        go_wp2_with fail
        refine Calls.mono (xNormal_any an _ _ (HA.out _ hBe).2) ?_
        unfold NOk
        rw [HAG.out.1, HAG.out.2]
        rintro e w12 ⟨vc, rfl, hvc, hb12⟩
        obtain ⟨_, Ac, cc, rfl, _⟩ := hvc.parts
        clear q0 q1 q2 q3
        simp only [rxv]
        obtain ⟨PC, hPC⟩ : ∃ PC, PC = w12.heap.size := ⟨_, rfl⟩
        have Pc := heap_alloc_new w12 (.cells #[.int .i64 an.kind, .int .u8 an.lo, .int .u8 an.hi, .slice Ac an.kids.length cc] 30)
        rw [← hPC] at Pc
        have hsc : (w12.alloc (.cells #[.int .i64 an.kind, .int .u8 an.lo, .int .u8 an.hi, .slice Ac an.kids.length cc] 30)).heap.size = PC + 1 := by simp [hPC]
        have hcc0 : Below wb.heap.size wb (w12.alloc (.cells #[.int .i64 an.kind, .int .u8 an.lo, .int .u8 an.hi, .slice Ac an.kids.length cc] 30)) := (hBe.trans (hb12.mono hbe)).alloc (hBe.trans (hb12.mono hbe)).size _
        have hvcc := a_lo hvc ((Below.refl _ _).alloc (Nat.le_refl _) (.cells #[.int .i64 an.kind, .int .u8 an.lo, .int .u8 an.hi, .slice Ac an.kids.length cc] 30))
        go_wp2_with fail
        rw [← hPC]
        clear hPC hvc
        generalize w12.alloc (.cells #[.int .i64 an.kind, .int .u8 an.lo, .int .u8 an.hi, .slice Ac an.kids.length cc] 30) = wc at *
        unfold rxv at hvcc
        have hcs := hcc0.size
        have hcc : Below wB.heap.size wB wc := hcb.trans (hcc0.mono hbs)
        have HiC := Lib.hid fun W (hW : Below wc.heap.size wc W) => Hib.out W (hcc0.trans (hW.mono hcs))
        have HAC := Lib.hid fun W (hW : Below wc.heap.size wc W) => HA.out W (hcc0.trans (hW.mono hcs))
        have HS12 := Lib.hid fun W (hW : Below wc.heap.size wc W) => (show W.cell? ⟨BB, i * 4, none⟩ = some (.int .i64 xi.kind) ∧ W.cell? ⟨BB, i * 4 + 1, none⟩ = some (.int .u8 xi.lo) ∧ W.cell? ⟨BB, i * 4 + 2, none⟩ = some (.int .u8 xi.hi) ∧ W.cell? ⟨BB, i * 4 + 3, none⟩ = some (.slice Ai xi.kids.length ci) ∧ W.cell? ⟨PA, 0, none⟩ = some (.int .i64 an.kind) ∧ W.cell? ⟨PA, 1, none⟩ = some (.int .u8 an.lo) ∧ W.cell? ⟨PA, 2, none⟩ = some (.int .u8 an.hi) ∧ W.cell? ⟨PA, 3, none⟩ = some (.slice Aa an.kids.length ca) ∧ W.cell? ⟨PC, 0, none⟩ = some (.int .i64 an.kind) ∧ W.cell? ⟨PC, 1, none⟩ = some (.int .u8 an.lo) ∧ W.cell? ⟨PC, 2, none⟩ = some (.int .u8 an.hi) ∧ W.cell? ⟨PC, 3, none⟩ = some (.slice Ac an.kids.length cc) from by
          obtain ⟨a0, a1, a2, a3⟩ := (HiC.out W hW).1
          obtain ⟨b0, b1, b2, b3⟩ := (HAC.out W hW).1
          obtain ⟨d0, d1, d2, d3⟩ := four ((hW.block PC (by omega)).trans Pc)
          exact ⟨a0, a1, a2, a3, b0, b1, b2, b3, d0, d1, d2, d3⟩)
        have HCm := Lib.hid fun W (hW : Below wc.heap.size wc W) => (show Calls Tryz.prog 12 #[.agg #[.int .i64 an.kind, .int .u8 an.lo, .int .u8 an.hi, .slice Aa an.kids.length ca], .agg #[.int .i64 an.kind, .int .u8 an.lo, .int .u8 an.hi, .slice Ac an.kids.length cc]] W fun e w' => e = .returned (.int .i64 0) ∧ Below W.heap.size W w' from by have := cmp_any an an _ _ W (HAC.out W hW).2 (hvcc.call hW); rwa [cmp_self] at this)
        have HPl := Lib.hid fun W (hW : Below wc.heap.size wc W) => plain_any _ an _ W (Nat.le_refl _) (HAC.out W hW).2
        have HN1 := Lib.hid fun (W : World) (v : Value) (hv : RtV W (Lo W.heap.size) an v) => (show Calls Tryz.prog 13 #[v] W fun e w' => e = .returned (.int .i64 (na : Nat)) ∧ Below W.heap.size W w' from by have := eNodes_upto _ an v W (Nat.le_refl _) (by rw [HNA.out]; omega) hv; rwa [HNA.out] at this)
        have HN2 := Lib.hid fun W (hW : Below wc.heap.size wc W) => (show Calls Tryz.prog 13 #[.agg #[.int .i64 xi.kind, .int .u8 xi.lo, .int .u8 xi.hi, .slice Ai xi.kids.length ci]] W fun e w' => e = .returned (.int .i64 (nx : Nat)) ∧ Below W.heap.size W w' from by have := eNodes_upto _ xi _ W (Nat.le_refl _) (by rw [HNX.out]; omega) (HiC.out W hW).2; rwa [HNX.out] at this)
        have hw2 : IntKind.i64.wrap (2 * (nx : Int)) = 2 * (nx : Int) := IntWalk.i64_in _ (by omega)
        have hgt : decide (2 * (nx : Int) < (na : Int)) = false := decide_eq_false (by omega)
        have hd : Below wc.heap.size wc wc.drew := (Below.refl _ _).drew
        have t1 : Hid True := Lib.hid trivial
        clear hb12 hvcc Pc HS8 HA HB Hib HSm HX HV2 HVR
        go_region_held3 (fun W => W.cell? ⟨BB, i * 4, none⟩ = some (.int .i64 xi.kind) ∧ W.cell? ⟨BB, i * 4 + 1, none⟩ = some (.int .u8 xi.lo) ∧ W.cell? ⟨BB, i * 4 + 2, none⟩ = some (.int .u8 xi.hi) ∧ W.cell? ⟨BB, i * 4 + 3, none⟩ = some (.slice Ai xi.kids.length ci) ∧ W.cell? ⟨PA, 0, none⟩ = some (.int .i64 an.kind) ∧ W.cell? ⟨PA, 1, none⟩ = some (.int .u8 an.lo) ∧ W.cell? ⟨PA, 2, none⟩ = some (.int .u8 an.hi) ∧ W.cell? ⟨PA, 3, none⟩ = some (.slice Aa an.kids.length ca) ∧ W.cell? ⟨PC, 0, none⟩ = some (.int .i64 an.kind) ∧ W.cell? ⟨PC, 1, none⟩ = some (.int .u8 an.lo) ∧ W.cell? ⟨PC, 2, none⟩ = some (.int .u8 an.hi) ∧ W.cell? ⟨PC, 3, none⟩ = some (.slice Ac an.kids.length cc))
          (first | with_reducible exact HS12.out _ hd | with_reducible exact HS12.out _ hCa | with_reducible exact HS12.out _ hCb | with_reducible exact HS12.out _ hCc | with_reducible exact HS12.out _ hCe)
          (first
            | (go_at_call 12; (with_reducible refine Calls.mono (HCm.out _ hd) ?_); rintro e wr1 ⟨rfl, hr1⟩; have hCa : Below wc.heap.size wc wr1 := hd.trans (hr1.mono hd.size); have hP1 := HPl.out wr1 hCa)
            | (go_at_call 14; (with_reducible refine Calls.mono hP1 ?_); rintro e wr2 ⟨vp, rfl, hvp, hr2⟩; have hCb : Below wc.heap.size wc wr2 := hCa.trans (hr2.mono hCa.size); have hM1 := HN1.out wr2 vp (made_lo hvp))
            | (go_at_call 13; have t2 := t1; clear t2 t1; (with_reducible refine Calls.mono hM1 ?_); rintro e wr3 ⟨rfl, hr3⟩; have hCc : Below wc.heap.size wc wr3 := hCb.trans (hr3.mono hCb.size); have hM2 := HN2.out wr3 hCc)
            | (go_at_call 13; (with_reducible refine Calls.mono hM2 ?_); rintro e wr4 ⟨rfl, hr4⟩; have hCe : Below wc.heap.size wc wr4 := hCc.trans (hr4.mono hCc.size)))
        have hce := hCe.size
        clear HS12 HCm HPl HN1 HN2 hw2 hgt hd hr1 hr2 hr3 hr4 hvp hCa hCb hCc
        go_wp2_with fail
        go_loopw [18] (fun v wr => ∃ k : Nat, k ≤ n3 ∧ k ≤ 6 ∧ v = .int .i64 k ∧ Below wc.heap.size wc wr) (fun v _ => 6 - (intOf v).toNat)
        case atStart => exact ⟨0, by omega, by omega, rfl, hCe⟩
        case round =>
          clear hCe hce hcE
          obtain ⟨k, hk, hk6, rfl, hWk⟩ := hrel
          have hEnd : Below wB.heap.size wB wr := hcc.trans (hWk.mono hcc.size)
          by_cases hlt : k < n3
          · have hlt' : (k : Int) < n3 := by omega
            by_cases h6 : k < 6
            · have h6' : (k : Int) < 6 := by omega
              obtain ⟨b, o, e, hbk, hcell⟩ := H3.out.at_ (j := k) (by have := HM.out.hn; omega)
              have hzk : I64 (z3[k]?.getD 0) := by
                have hl : k < z3.length := by have := HM.out.hn; omega
                rw [List.getElem?_eq_getElem hl]
                exact HM.out.hz _ (List.getElem_mem hl)
              subst e
              obtain ⟨z, hz⟩ : ∃ z, z3[k]?.getD 0 = z := ⟨_, rfl⟩
              rw [hz] at hcell hzk
              obtain ⟨S, hS, hC0⟩ := word_fn z hzk
              have HC := Lib.hid hC0
              have HW := Lib.hid fun W (hWW : Below wc.heap.size wc W) => (show W.cell? ⟨b, o + k, none⟩ = some (.int .i64 z) from (World.cell?_of_block ((hbB.trans ((hcc.trans (hWW.mono hcc.size)).mono hbB.size)).block b hbk)).trans hcell)
              have HS17 := Lib.hid fun W (hWW : Below wc.heap.size wc W) => (show W.cell? ⟨BB, i * 4, none⟩ = some (.int .i64 xi.kind) ∧ W.cell? ⟨BB, i * 4 + 1, none⟩ = some (.int .u8 xi.lo) ∧ W.cell? ⟨BB, i * 4 + 2, none⟩ = some (.int .u8 xi.hi) ∧ W.cell? ⟨BB, i * 4 + 3, none⟩ = some (.slice Ai xi.kids.length ci) ∧ W.cell? ⟨b, o + k, none⟩ = some (.int .i64 z) from by
                obtain ⟨a0, a1, a2, a3⟩ := (HiC.out W hWW).1
                exact ⟨a0, a1, a2, a3, HW.out W hWW⟩)
              have HS18 := Lib.hid fun W (hWW : Below wc.heap.size wc W) => (show W.cell? ⟨PA, 0, none⟩ = some (.int .i64 an.kind) ∧ W.cell? ⟨PA, 1, none⟩ = some (.int .u8 an.lo) ∧ W.cell? ⟨PA, 2, none⟩ = some (.int .u8 an.hi) ∧ W.cell? ⟨PA, 3, none⟩ = some (.slice Aa an.kids.length ca) ∧ W.cell? ⟨b, o + k, none⟩ = some (.int .i64 z) from by
                obtain ⟨a0, a1, a2, a3⟩ := (HAC.out W hWW).1
                exact ⟨a0, a1, a2, a3, HW.out W hWW⟩)
              have hS8 := Lib.hid (show S.size ≤ 1000000 by omega)
              have HMx := Lib.hid fun (W : World) (v : Value) (hv : RtV W (Lo W.heap.size) xi v) => (show Calls Tryz.prog 15 #[v, .string S] W fun e w' => ∃ r : Bool, e = .returned (.tuple #[.bool r, .int .i64 0]) ∧ (r = true ↔ mt (byt S) xi 0 S.size) ∧ Below W.heap.size W w' from (match_any xi v W S hS8.out hv).mono fun e w' ⟨r, h1, h2, h3⟩ => by
                rw [HM1.out _ hS] at h1 h2
                exact ⟨r, h1, h2.trans ⟨fun h => h.2, fun h => ⟨rfl, h⟩⟩, h3⟩)
              have HMa := Lib.hid fun (W : World) (hWW : Below wc.heap.size wc W) => (show Calls Tryz.prog 15 #[.agg #[.int .i64 an.kind, .int .u8 an.lo, .int .u8 an.hi, .slice Aa an.kids.length ca], .string S] W fun e w' => ∃ r : Bool, e = .returned (.tuple #[.bool r, .int .i64 0]) ∧ (r = true ↔ mt (byt S) xi 0 S.size) ∧ Below W.heap.size W w' from (match_any an _ W S hS8.out (HAC.out W hWW).2).mono fun e w' ⟨r, h1, h2, h3⟩ => by
                rw [HM2.out _ hS] at h1 h2
                exact ⟨r, h1, h2.trans ⟨fun h => (HMT.out _ _).1 h.2, fun h => ⟨rfl, (HMT.out _ _).2 h⟩⟩, h3⟩)
              clear hcell hz hC0 hS hzk
              have hd : Below wc.heap.size wc wr.drew := hWk.drew
              have hO := own_any _ xi _ _ (Nat.le_refl _) (HiC.out _ hd).2
              go_wp2_with fail
              go_region_held3 (fun W => W.cell? ⟨BB, i * 4, none⟩ = some (.int .i64 xi.kind) ∧ W.cell? ⟨BB, i * 4 + 1, none⟩ = some (.int .u8 xi.lo) ∧ W.cell? ⟨BB, i * 4 + 2, none⟩ = some (.int .u8 xi.hi) ∧ W.cell? ⟨BB, i * 4 + 3, none⟩ = some (.slice Ai xi.kids.length ci) ∧ W.cell? ⟨b, o + k, none⟩ = some (.int .i64 z))
                (first | with_reducible exact HS17.out _ hd | with_reducible exact HS17.out _ hDa | with_reducible exact HS17.out _ hDb | with_reducible exact HS17.out _ hDc)
                (first
                  | (go_at_call 7; (with_reducible refine Calls.mono hO ?_); rintro e wu1 ⟨vq, rfl, hvq, hq1⟩; have hDa : Below wc.heap.size wc wu1 := hd.trans (hq1.mono hd.size))
                  | (go_at_call 16; (with_reducible refine Calls.mono (HC.out _) ?_); rintro e wu2 ⟨rfl, hq2⟩; have hDb : Below wc.heap.size wc wu2 := hDa.trans (hq2.mono hDa.size); have hM1 := HMx.out wu2 vq (x_lo hvq hq2))
                  | (go_at_call 15; (with_reducible refine Calls.mono hM1 ?_); rintro e wu3 ⟨r1, rfl, hr1, hq3⟩; have hDc : Below wc.heap.size wc wu3 := hDb.trans (hq3.mono hDb.size)))
              have HR1 := Lib.hid hr1
              clear hr1 hO hd
              have hd : Below wc.heap.size wc wu3.drew := hDc.drew
              have hMa := fun W h => HMa.out W h
              go_wp2_with fail
              go_region_held3 (fun W => W.cell? ⟨PA, 0, none⟩ = some (.int .i64 an.kind) ∧ W.cell? ⟨PA, 1, none⟩ = some (.int .u8 an.lo) ∧ W.cell? ⟨PA, 2, none⟩ = some (.int .u8 an.hi) ∧ W.cell? ⟨PA, 3, none⟩ = some (.slice Aa an.kids.length ca) ∧ W.cell? ⟨b, o + k, none⟩ = some (.int .i64 z))
                (first | with_reducible exact HS18.out _ hd | with_reducible exact HS18.out _ hDd | with_reducible exact HS18.out _ hDe)
                (first
                  | (go_at_call 16; (with_reducible refine Calls.mono (HC.out _) ?_); rintro e wu4 ⟨rfl, hq4⟩; have hDd : Below wc.heap.size wc wu4 := hd.trans (hq4.mono hd.size); have hM2 := hMa wu4 hDd)
                  | (go_at_call 15; (with_reducible refine Calls.mono hM2 ?_); rintro e wu5 ⟨r2, rfl, hr2, hq5⟩; have hDe : Below wc.heap.size wc wu5 := hDd.trans (hq5.mono hDd.size)))
              have hrr : r2 = r1 := by rw [Bool.eq_iff_iff, hr2, HR1.out]
              subst hrr
              clear hr2 HR1 hd hMa
              go_wp2_with fail
              go_roundw
              case rel => exact ⟨k + 1, by omega, by omega, by go_num, hDe⟩
              case measure => simp [intOf]; omega
            · have h6' : ¬ (k : Int) < 6 := by omega
              go_wp2_with fail
              go_roundw
              case rel => exact ⟨i + 1, by omega, by go_num, hEnd⟩
              case measure => simp [intOf]; omega
          · have hlt' : ¬ (k : Int) < n3 := by omega
            have hlt2 : decide ((k : Int) < n3) = false := decide_eq_false hlt'
            go_wp2_with fail
            go_roundw
            case rel => exact ⟨i + 1, by omega, by go_num, hEnd⟩
            case measure => simp [intOf]; omega
      · have hzf : (ec == 0) = false := by simpa using hz
        go_wp2_with fail
        go_roundw
        case rel => exact ⟨i + 1, by omega, by go_num, hcE⟩
        case measure => simp [intOf]; omega
    · have hi6 : ¬ (i : Int) < 2 := by omega
      have hbw := hbB.trans (hW.mono hbB.size)
      have hLv := Lib.hid (HL.out _ hbw)
      clear L hW
      have HBw := Lib.hid hbw
      clear hbw
      go_wp2_with (first | (go_at_call 17; refine Calls.mono hLv.out ?_; rintro e wq ⟨rfl, hbq⟩))
      go_ret
      exact ⟨rfl, HBw.out.trans (hbq.mono HBw.out.size)⟩
theorem norml_any (A1 A3 : Option Addr) (n1 n3 c1 c3 : Nat) (z1 z3 : List Int) (how by' : Int) (w : World) (hL1 : MkL n1 z1) (hL3 : MkL n3 z3) (hr1 : RdI w w.heap.size .i64 A1 z1) (hr3 : RdI w w.heap.size .i64 A3 z3) (hh : I64 how) (hb : I64 by') (hG : GW w) :
    Calls Tryz.prog 3 #[.slice A1 n1 c1, .int .i64 how, .int .i64 by', .slice A3 n3 c3] w fun e w' => e = .returned (.bool true) ∧ Below w.heap.size w w' :=
  norml_walk A1 A3 n1 n3 c1 c3 z1 z3 how by' w hL1 hL3 hr1 hr3 hh hb (Lib.hid fun W hW => xlives_any W (hG.below hW))
end Go.Proofs.YtnjkihbmhacgoaaGreatDoor
