/-
  THE WALK of the law on the order (P4.10), lives taken as handed in.
-/
import Derived.Test.YtijcjknaphboeaaGreatDoorRxSpoD
import Derived.Test.YtijcjknaphboeaaGreatDoorRxECmp
import Derived.Deep.RegionHeld3
import Derived.LoopN
namespace Go.Proofs.YtijcjknaphboeaaGreatDoor
open Go.RowKit

/-- what a law's call does: true, and nothing that was there has turned -/
def RTrue (w : World) (e : Ending) (w' : World) : Prop := e = .returned (.bool true) ∧ Below w.heap.size w w'
theorem lo_below {w W : World} {x : Rx} {v : Value} (h : RtV w (Lo w.heap.size) x v) (hB : Below w.heap.size w W) : RtV W (Lo W.heap.size) x v := RtV.to (fun b hb => ⟨Nat.lt_of_lt_of_le hb hB.size, hB.block b hb⟩) x h
theorem made_lo {n : Nat} {w : World} {x : Rx} {v : Value} (h : RtV w (Mid n w.heap.size) x v) : RtV w (Lo w.heap.size) x v := RtV.to (fun _ hb => ⟨hb.2, rfl⟩) x h
/-- the tree at a place of a list, in every later world -/
theorem at_cells {W0 : World} {xs : List Rx} {B : Nat} (L : RtL W0 (Lo W0.heap.size) xs (some ⟨B, 0, none⟩)) {t : Nat} (ht : t < xs.length) : ∃ (x : Rx) (A : Option Addr) (c : Nat), ∀ W, Below W0.heap.size W0 W →
    (W.cell? ⟨B, t * 4, none⟩ = some (.int .i64 x.kind) ∧ W.cell? ⟨B, t * 4 + 1, none⟩ = some (.int .u8 x.lo) ∧ W.cell? ⟨B, t * 4 + 2, none⟩ = some (.int .u8 x.hi) ∧ W.cell? ⟨B, t * 4 + 3, none⟩ = some (.slice A x.kids.length c)) ∧
    RtV W (Lo W.heap.size) x (.agg #[.int .i64 x.kind, .int .u8 x.lo, .int .u8 x.hi, .slice A x.kids.length c]) := by
  obtain ⟨b, o, A, c, e, hb, h4, hx⟩ := L.get ht
  cases e
  refine ⟨xs[t], A, c, fun W hW => ⟨?_, hx.call hW⟩⟩
  have := h4.to (hW.block B hb)
  simpa [At4] using this
theorem x_lo {W w2 W2 : World} {x : Rx} {v : Value} (hv : RtV w2 (Mid W.heap.size w2.heap.size) x v) (hb : Below w2.heap.size w2 W2) : RtV W2 (Lo W2.heap.size) x v := RtV.to (fun b hb' => ⟨Nat.lt_of_lt_of_le hb'.2 hb.size, hb.block b hb'.2⟩) x hv
theorem neg_in {z z' : Int} (h : z' = -z) (hz : z = -1 ∨ z = 0 ∨ z = 1) : IntKind.i64.wrap (-z') = z := by
  subst h
  rcases hz with rfl | rfl | rfl <;> rfl
theorem five_row {w6 : World} {ts : List Tn} {ty : TypeId} (hT : ∀ t ∈ ts, RtV w6 (Lo w6.heap.size) t.x t.val) : RtL (w6.alloc (.cells (ts.flatMap Tn.cells).toArray ty)) (Lo (w6.alloc (.cells (ts.flatMap Tn.cells).toArray ty)).heap.size) (ts.map Tn.x) (some ⟨w6.heap.size, 0, none⟩) := by
  have hs : w6.heap.size < (w6.alloc (.cells (ts.flatMap Tn.cells).toArray ty)).heap.size := by simp
  refine rtl_of_cells (S := Lo (w6.alloc (.cells (ts.flatMap Tn.cells).toArray ty)).heap.size) (g := w6.heap.size) hs ts 0 (fun j u hj => ?_) (fun t ht => RtV.to (fun b hb => ⟨Nat.lt_trans hb hs, Below.heap_alloc w6 _ b hb⟩) _ (hT t ht))
  rw [Nat.zero_add, cell_of_row _ _ _ _ _ (0, 0) (heap_alloc_new w6 _)]
  simpa using hj
set_option maxHeartbeats 1200000 in
set_option maxRecDepth 100000 in
theorem order_first (A1 A2 A3 : Option Addr) (n1 n2 n3 c1 c2 c3 : Nat) (z1 z2 z3 : List Int) (how by' : Int) (w : World) (hL1 : MkL n1 z1) (hL2 : MkL n2 z2) (hL3 : MkL n3 z3) (hr1 : RdI w w.heap.size .i64 A1 z1) (hr2 : RdI w w.heap.size .i64 A2 z2) (hr3 : RdI w w.heap.size .i64 A3 z3) (hh : I64 how) (hb : I64 by')
    (HL : Hid (∀ W, Below w.heap.size w W → Calls Tryz.prog 20 #[] W fun e w' => e = .returned (.bool true) ∧ Below W.heap.size W w')) :
    Calls Tryz.prog 6 #[.slice A1 n1 c1, .slice A2 n2 c2, .slice A3 n3 c3, .int .i64 how, .int .i64 by'] w (RTrue w) := by
  have M1 := Lib.hid (fun W (h : Below w.heap.size w W) => made_any A1 n1 c1 z1 W hL1 ((hr1.below h).mono h.size))
  have M2 := Lib.hid (fun W (h : Below w.heap.size w W) => made_any A2 n2 c2 z2 W hL2 ((hr2.below h).mono h.size))
  have M3 := Lib.hid (fun W (h : Below w.heap.size w W) => made_any A3 n3 c3 z3 W hL3 ((hr3.below h).mono h.size))
  clear hr1 hr2 hr3 hL1 hL2 hL3
  go_enter Tryz.func6, Tryz.ntmps6
  go_wp2_with fail
  refine Calls.mono (M1.out _ (Below.refl _ _)) ?_
  rintro e w1 ⟨x1, v1, rfl, hv1, hb1, hx1, hn1⟩
  obtain ⟨_, B1, d1, rfl, _⟩ := hv1.parts
  simp only [rxv]
  go_wp2_with fail
  obtain ⟨wA, hwA⟩ : ∃ wA, w1.alloc (.cells #[.int .i64 x1.kind, .int .u8 x1.lo, .int .u8 x1.hi, .slice B1 x1.kids.length d1] 25) = wA := ⟨_, rfl⟩
  have hsA : wA.heap.size = w1.heap.size + 1 := by rw [← hwA]; simp
  have hbA : Below w.heap.size w wA := hwA ▸ hb1.alloc hb1.size _
  have hrA : wA.heap[w1.heap.size]? = some (.cells #[.int .i64 x1.kind, .int .u8 x1.lo, .int .u8 x1.hi, .slice B1 x1.kids.length d1] 25 (0, 0)) := hwA ▸ heap_alloc_new w1 _
  have hvA : RtV wA (Lo wA.heap.size) x1 (rxv x1.kind x1.lo x1.hi B1 x1.kids.length d1) := RtV.to (fun b hb => ⟨by show b < _; have := hb.2; omega, hwA ▸ Below.heap_alloc w1 _ b hb.2⟩) x1 hv1
  have hbAw := hbA.size
  rw [hwA]
  clear hwA hv1 hb1
  have HS : ∀ W, Below wA.heap.size wA W → W.cell? ⟨w1.heap.size, 0, none⟩ = some (.int .i64 x1.kind) ∧ W.cell? ⟨w1.heap.size, 1, none⟩ = some (.int .u8 x1.lo) ∧ W.cell? ⟨w1.heap.size, 2, none⟩ = some (.int .u8 x1.hi) ∧ W.cell? ⟨w1.heap.size, 3, none⟩ = some (.slice B1 x1.kids.length d1) := fun W hW => four ((hW.block _ (by omega)).trans hrA)
  have hd : Below wA.heap.size wA wA.drew := (Below.refl _ _).drew
  have hd2 := hd.size
  have t1 : Hid True := Lib.hid trivial
  have t2 : Hid True := Lib.hid trivial
  have HS' := Lib.hid HS
  unfold rxv at hvA
  have hvA' := Lib.hid (fun W (h : Below wA.heap.size wA W) => lo_below hvA h)
  clear hvA HS
  go_region_held3 (fun W => W.cell? ⟨w1.heap.size, 0, none⟩ = some (.int .i64 x1.kind) ∧ W.cell? ⟨w1.heap.size, 1, none⟩ = some (.int .u8 x1.lo) ∧ W.cell? ⟨w1.heap.size, 2, none⟩ = some (.int .u8 x1.hi) ∧ W.cell? ⟨w1.heap.size, 3, none⟩ = some (.slice B1 x1.kids.length d1))
    (first | exact HS'.out _ hd | exact HS'.out _ (by assumption) | exact HS'.out _ (Below.alloc (by assumption) (by omega) _))
    (first
      | (go_at_call 7; (have t3 := t1; clear t3 t1; with_reducible refine Calls.mono (M2.out _ (hbA.trans (hd.mono hbAw))) ?_); rintro e w2 ⟨x2, v2, rfl, hv2, hb2, hx2, hn2⟩; obtain ⟨_, B2, d2, rfl, _⟩ := hv2.parts; have hc2 : Below wA.heap.size wA w2 := hd.trans (hb2.mono hd2); have hl2 := hc2.size; simp only [rxv])
      | (go_at_call 7; (with_reducible refine Calls.mono (M3.out _ (hbA.trans (hc2.mono hbAw))) ?_); rintro e w3 ⟨x3, v3, rfl, hv3, hb3, hx3, hn3⟩; obtain ⟨_, B3, d3, rfl, _⟩ := hv3.parts; have hc3 : Below wA.heap.size wA w3 := hc2.trans (hb3.mono hl2); have hl3 := hc3.size; simp only [rxv])
      | (go_at_call 8; (have t3 := t2; clear t3 t2; with_reducible refine Calls.mono (spoilt_any x1 _ how by' _ hh hb (hvA'.out _ hc3) hn1) ?_); rintro e w4 ⟨x4, v4, rfl, hv4, hb4, hn4⟩; obtain ⟨_, B4, d4, rfl, _⟩ := hv4.parts; have hc4 : Below wA.heap.size wA w4 := hc3.trans (hb4.mono hl3); have hl4 := hc4.size; simp only [rxv])
      | (go_at_call 7; (with_reducible refine Calls.mono (M2.out _ (hbA.trans (hc4.mono hbAw))) ?_); rintro e w5 ⟨x5, v5, rfl, hv5, hb5, hx5, hn5⟩; have hy5 := made_lo hv5; obtain ⟨_, B5, d5, rfl, _⟩ := hv5.parts; have hc5 : Below wA.heap.size wA w5 := hc4.trans (hb5.mono hl4); have hl5 := hc5.size; unfold rxv at hy5; simp only [rxv])
      | (go_at_call 8; (with_reducible refine Calls.mono (spoilt_any x5 _ by' how _ hb hh hy5 hn5) ?_); rintro e w6 ⟨x6, v6, rfl, hv6, hb6, hn6⟩; obtain ⟨_, B6, d6, rfl, _⟩ := hv6.parts; have hc6 : Below wA.heap.size wA w6 := hc5.trans (hb6.mono hl5); have hl6 := hc6.size; simp only [rxv]))
  go_wp2_with fail
  obtain ⟨wB, hwB⟩ : ∃ wB, w6.alloc (.cells #[.int .i64 x1.kind, .int .u8 x1.lo, .int .u8 x1.hi, .slice B1 x1.kids.length d1, .int .i64 x2.kind, .int .u8 x2.lo, .int .u8 x2.hi, .slice B2 x2.kids.length d2, .int .i64 x3.kind, .int .u8 x3.lo, .int .u8 x3.hi, .slice B3 x3.kids.length d3, .int .i64 x4.kind, .int .u8 x4.lo, .int .u8 x4.hi, .slice B4 x4.kids.length d4, .int .i64 x6.kind, .int .u8 x6.lo, .int .u8 x6.hi, .slice B6 x6.kids.length d6] 25) = wB := ⟨_, rfl⟩
  have LL : ∃ xs : List Rx, Hid (xs.length = 5) ∧ RtL wB (Lo wB.heap.size) xs (some ⟨w6.heap.size, 0, none⟩) := by
    have e24 := hb3.trans (hb4.mono hb3.size)
    have e25 := e24.trans (hb5.mono e24.size)
    have e26 := e25.trans (hb6.mono e25.size)
    have e35 := hb4.trans (hb5.mono hb4.size)
    have e36 := e35.trans (hb6.mono e35.size)
    have e46 := hb5.trans (hb6.mono hb5.size)
    have h1 := hvA'.out _ hc6
    have h2 := x_lo hv2 e26
    have h3 := x_lo hv3 e36
    have h4 := lo_below hv4 e46
    subst hwB
    refine ⟨[⟨x1, B1, d1⟩, ⟨x2, B2, d2⟩, ⟨x3, B3, d3⟩, ⟨x4, B4, d4⟩, ⟨x6, B6, d6⟩].map Tn.x, Lib.hid rfl, five_row (ts := [⟨x1, B1, d1⟩, ⟨x2, B2, d2⟩, ⟨x3, B3, d3⟩, ⟨x4, B4, d4⟩, ⟨x6, B6, d6⟩]) (fun t ht => ?_)⟩
    simp only [List.mem_cons, List.not_mem_nil, or_false] at ht
    rcases ht with rfl | rfl | rfl | rfl | rfl
    · exact h1
    · exact h2
    · exact h3
    · exact h4
    · exact hv6
  have hbB : Below w.heap.size w wB := by
    have hbA6 := hbA.trans (hc6.mono hbAw)
    rw [← hwB]
    exact hbA6.alloc hbA6.size _
  rw [hwB]
  obtain ⟨xs, hlen, L⟩ := LL
  generalize w6.heap.size = BB at L ⊢
  clear hwB hvA' HS' hd hd2 hbA hbAw hrA hsA M1 M2 M3 hh hb
  go_loopw [13] (fun v wr => ∃ i : Nat, i ≤ 5 ∧ v = .int .i64 i ∧ Below wB.heap.size wB wr) (fun v _ => 5 - (intOf v).toNat)
  case atStart => exact ⟨0, by omega, rfl, Below.refl _ _⟩
  case round =>
    obtain ⟨i, hi, rfl, hW⟩ := hrel
    by_cases hi5 : i < 5
    · obtain ⟨xi, Ai, ci, Hi'⟩ := at_cells L (hlen.out ▸ hi5)
      have Hi := Lib.hid Hi'
      clear Hi'
      go_wp2_with fail
      rw [show decide ((i : Int) < 5) = true by simp; omega]
      obtain ⟨wo, rfl⟩ : ∃ wo, wo = wr := ⟨_, rfl⟩
      go_loopw [14] (fun v wr => ∃ j : Nat, j ≤ 5 ∧ v = .int .i64 j ∧ Below wB.heap.size wB wr) (fun v _ => 5 - (intOf v).toNat)
      case atStart => exact ⟨0, by omega, rfl, hW⟩
      case round =>
        clear hW
        obtain ⟨j, hj, rfl, hW⟩ := hrel
        by_cases hj5 : j < 5
        · obtain ⟨xj, Aj, cj, Hj'⟩ := at_cells L (hlen.out ▸ hj5)
          have Hj := Lib.hid Hj'
          clear Hj'
          obtain ⟨z, hz⟩ : ∃ z, cmp xi xj = z := ⟨_, rfl⟩
          obtain ⟨z', hz'⟩ : ∃ z', cmp xj xi = z' := ⟨_, rfl⟩
          have hneg : IntKind.i64.wrap (-z') = z := neg_in (by rw [← hz, ← hz']; exact cmp_neg xi xj) (hz ▸ cmp_range xi xj)
          have HZz := Lib.hid hz
          have HZq := Lib.hid hz'
          clear hz hz'
          have hd : Below wB.heap.size wB wr.drew := hW.drew
          have tk7 : Hid True := Lib.hid trivial
          have tk8 : Hid True := Lib.hid trivial
          go_wp2_with fail
          go_region_held3 (fun W => W.cell? ⟨BB, i * 4, none⟩ = some (.int .i64 xi.kind) ∧ W.cell? ⟨BB, i * 4 + 1, none⟩ = some (.int .u8 xi.lo) ∧ W.cell? ⟨BB, i * 4 + 2, none⟩ = some (.int .u8 xi.hi) ∧ W.cell? ⟨BB, i * 4 + 3, none⟩ = some (.slice Ai xi.kids.length ci) ∧ W.cell? ⟨BB, j * 4, none⟩ = some (.int .i64 xj.kind) ∧ W.cell? ⟨BB, j * 4 + 1, none⟩ = some (.int .u8 xj.lo) ∧ W.cell? ⟨BB, j * 4 + 2, none⟩ = some (.int .u8 xj.hi) ∧ W.cell? ⟨BB, j * 4 + 3, none⟩ = some (.slice Aj xj.kids.length cj))
            (first | exact ⟨(Hi.out _ hd).1.1, (Hi.out _ hd).1.2.1, (Hi.out _ hd).1.2.2.1, (Hi.out _ hd).1.2.2.2, (Hj.out _ hd).1.1, (Hj.out _ hd).1.2.1, (Hj.out _ hd).1.2.2.1, (Hj.out _ hd).1.2.2.2⟩ | exact ⟨(Hi.out _ (by assumption)).1.1, (Hi.out _ (by assumption)).1.2.1, (Hi.out _ (by assumption)).1.2.2.1, (Hi.out _ (by assumption)).1.2.2.2, (Hj.out _ (by assumption)).1.1, (Hj.out _ (by assumption)).1.2.1, (Hj.out _ (by assumption)).1.2.2.1, (Hj.out _ (by assumption)).1.2.2.2⟩)
            (first | (go_at_call 10; (have t07 := tk7; clear t07 tk7); (with_reducible refine Calls.mono (own_any _ xi _ _ (Nat.le_refl _) (Hi.out _ hd).2) ?_); rintro e w7 ⟨v7, rfl, hv7, hb7⟩; have hc7 : Below wB.heap.size wB w7 := (hd).trans (hb7.mono (hd).size)) | (go_at_call 10; (have t08 := tk8; clear t08 tk8); (with_reducible refine Calls.mono (own_any _ xj _ _ (Nat.le_refl _) (Hj.out _ hc7).2) ?_); rintro e w8 ⟨v8, rfl, hv8, hb8⟩; have hc8 : Below wB.heap.size wB w8 := (hc7).trans (hb8.mono (hc7).size)) | (go_at_call 15; (with_reducible refine Calls.mono (cmp_any xi xj v7 v8 _ (x_lo hv7 hb8) (x_lo hv8 (Below.refl _ _))) ?_); rw [HZz.out]; rintro e w9 ⟨rfl, hb9⟩; have hc9 : Below wB.heap.size wB w9 := (hc8).trans (hb9.mono (hc8).size)))
          clear hb7 hb8 hb9 hv7 hv8 hd hc7 hc8
          have hd : Below wB.heap.size wB w9.drew := hc9.drew
          have tk7 : Hid True := Lib.hid trivial
          have tk8 : Hid True := Lib.hid trivial
          go_wp2_with fail
          go_region_held3 (fun W => W.cell? ⟨BB, i * 4, none⟩ = some (.int .i64 xi.kind) ∧ W.cell? ⟨BB, i * 4 + 1, none⟩ = some (.int .u8 xi.lo) ∧ W.cell? ⟨BB, i * 4 + 2, none⟩ = some (.int .u8 xi.hi) ∧ W.cell? ⟨BB, i * 4 + 3, none⟩ = some (.slice Ai xi.kids.length ci) ∧ W.cell? ⟨BB, j * 4, none⟩ = some (.int .i64 xj.kind) ∧ W.cell? ⟨BB, j * 4 + 1, none⟩ = some (.int .u8 xj.lo) ∧ W.cell? ⟨BB, j * 4 + 2, none⟩ = some (.int .u8 xj.hi) ∧ W.cell? ⟨BB, j * 4 + 3, none⟩ = some (.slice Aj xj.kids.length cj))
            (first | exact ⟨(Hi.out _ hd).1.1, (Hi.out _ hd).1.2.1, (Hi.out _ hd).1.2.2.1, (Hi.out _ hd).1.2.2.2, (Hj.out _ hd).1.1, (Hj.out _ hd).1.2.1, (Hj.out _ hd).1.2.2.1, (Hj.out _ hd).1.2.2.2⟩ | exact ⟨(Hi.out _ (by assumption)).1.1, (Hi.out _ (by assumption)).1.2.1, (Hi.out _ (by assumption)).1.2.2.1, (Hi.out _ (by assumption)).1.2.2.2, (Hj.out _ (by assumption)).1.1, (Hj.out _ (by assumption)).1.2.1, (Hj.out _ (by assumption)).1.2.2.1, (Hj.out _ (by assumption)).1.2.2.2⟩)
            (first
              | (go_at_call 25; (with_reducible refine Calls.mono (eCmp_any xi xj _ _ _ (Hi.out _ hd).2 (Hj.out _ hd).2) ?_); rw [HZz.out]; rintro e wE ⟨rfl, hbE⟩; have hcE : Below wB.heap.size wB wE := hd.trans (hbE.mono hd.size))
              | (go_at_call 10; (have t07 := tk7; clear t07 tk7); (with_reducible refine Calls.mono (own_any _ xj _ _ (Nat.le_refl _) (Hj.out _ hcE).2) ?_); rintro e w7 ⟨v7, rfl, hv7, hb7⟩; have hc7 : Below wB.heap.size wB w7 := (hcE).trans (hb7.mono (hcE).size)) | (go_at_call 10; (have t08 := tk8; clear t08 tk8); (with_reducible refine Calls.mono (own_any _ xi _ _ (Nat.le_refl _) (Hi.out _ hc7).2) ?_); rintro e w8 ⟨v8, rfl, hv8, hb8⟩; have hc8 : Below wB.heap.size wB w8 := (hc7).trans (hb8.mono (hc7).size)) | (go_at_call 15; (with_reducible refine Calls.mono (cmp_any xj xi v7 v8 _ (x_lo hv7 hb8) (x_lo hv8 (Below.refl _ _))) ?_); rw [HZq.out]; rintro e w10 ⟨rfl, hb10⟩; have hc10 : Below wB.heap.size wB w10 := (hc8).trans (hb10.mono (hc8).size)))
          clear hb7 hb8 hb10 hv7 hv8 hd hc7 hc8 hcE hbE hneg HZq
          clear hc9
          go_wp2_with fail
          obtain ⟨wq, rfl⟩ : ∃ wq, wq = w10 := ⟨_, rfl⟩
          go_loopw [16] (fun v wr => ∃ n : Nat, n ≤ 5 ∧ v = .int .i64 n ∧ Below wB.heap.size wB wr) (fun v _ => 5 - (intOf v).toNat)
          case atStart => exact ⟨0, by omega, rfl, hc10⟩
          case round =>
            clear hc10
            obtain ⟨n, hn, rfl, hW⟩ := hrel
            by_cases hn5 : n < 5
            · obtain ⟨xn, An, cn, Hn'⟩ := at_cells L (hlen.out ▸ hn5)
              have Hn := Lib.hid Hn'
              clear Hn'
              have Htr := Lib.hid (cmp_le_trans xi xj xn)
              rw [HZz.out] at Htr
              obtain ⟨y, hy⟩ : ∃ y, cmp xj xn = y := ⟨_, rfl⟩
              obtain ⟨u, hu⟩ : ∃ u, cmp xi xn = u := ⟨_, rfl⟩
              rw [hy, hu] at Htr
              have HZy := Lib.hid hy
              have HZu := Lib.hid hu
              clear hy hu
              have hd : Below wB.heap.size wB wr.drew := hW.drew
              have tk7 : Hid True := Lib.hid trivial
              have tk8 : Hid True := Lib.hid trivial
              go_wp2_with fail
              go_region_held3 (fun W => W.cell? ⟨BB, j * 4, none⟩ = some (.int .i64 xj.kind) ∧ W.cell? ⟨BB, j * 4 + 1, none⟩ = some (.int .u8 xj.lo) ∧ W.cell? ⟨BB, j * 4 + 2, none⟩ = some (.int .u8 xj.hi) ∧ W.cell? ⟨BB, j * 4 + 3, none⟩ = some (.slice Aj xj.kids.length cj) ∧ W.cell? ⟨BB, n * 4, none⟩ = some (.int .i64 xn.kind) ∧ W.cell? ⟨BB, n * 4 + 1, none⟩ = some (.int .u8 xn.lo) ∧ W.cell? ⟨BB, n * 4 + 2, none⟩ = some (.int .u8 xn.hi) ∧ W.cell? ⟨BB, n * 4 + 3, none⟩ = some (.slice An xn.kids.length cn))
                (first | exact ⟨(Hj.out _ hd).1.1, (Hj.out _ hd).1.2.1, (Hj.out _ hd).1.2.2.1, (Hj.out _ hd).1.2.2.2, (Hn.out _ hd).1.1, (Hn.out _ hd).1.2.1, (Hn.out _ hd).1.2.2.1, (Hn.out _ hd).1.2.2.2⟩ | exact ⟨(Hj.out _ (by assumption)).1.1, (Hj.out _ (by assumption)).1.2.1, (Hj.out _ (by assumption)).1.2.2.1, (Hj.out _ (by assumption)).1.2.2.2, (Hn.out _ (by assumption)).1.1, (Hn.out _ (by assumption)).1.2.1, (Hn.out _ (by assumption)).1.2.2.1, (Hn.out _ (by assumption)).1.2.2.2⟩)
                (first | (go_at_call 10; (have t07 := tk7; clear t07 tk7); (with_reducible refine Calls.mono (own_any _ xj _ _ (Nat.le_refl _) (Hj.out _ hd).2) ?_); rintro e w7 ⟨v7, rfl, hv7, hb7⟩; have hc7 : Below wB.heap.size wB w7 := (hd).trans (hb7.mono (hd).size)) | (go_at_call 10; (have t08 := tk8; clear t08 tk8); (with_reducible refine Calls.mono (own_any _ xn _ _ (Nat.le_refl _) (Hn.out _ hc7).2) ?_); rintro e w8 ⟨v8, rfl, hv8, hb8⟩; have hc8 : Below wB.heap.size wB w8 := (hc7).trans (hb8.mono (hc7).size)) | (go_at_call 15; (with_reducible refine Calls.mono (cmp_any xj xn v7 v8 _ (x_lo hv7 hb8) (x_lo hv8 (Below.refl _ _))) ?_); rw [HZy.out]; rintro e w9 ⟨rfl, hb9⟩; have hc9 : Below wB.heap.size wB w9 := (hc8).trans (hb9.mono (hc8).size)))
              clear hb7 hb8 hb9 hv7 hv8 hd hc7 hc8
              go_wp2_with fail
              by_cases hz0 : z ≤ 0
              · by_cases hy0 : y ≤ 0
                · have hu0 : u ≤ 0 := Htr.out hz0 hy0
                  have hu1 : ¬ 0 < u := by omega
                  have hd : Below wB.heap.size wB w9.drew := hc9.drew
                  have tk7 : Hid True := Lib.hid trivial
                  have tk8 : Hid True := Lib.hid trivial
                  go_region_held3 (fun W => W.cell? ⟨BB, i * 4, none⟩ = some (.int .i64 xi.kind) ∧ W.cell? ⟨BB, i * 4 + 1, none⟩ = some (.int .u8 xi.lo) ∧ W.cell? ⟨BB, i * 4 + 2, none⟩ = some (.int .u8 xi.hi) ∧ W.cell? ⟨BB, i * 4 + 3, none⟩ = some (.slice Ai xi.kids.length ci) ∧ W.cell? ⟨BB, n * 4, none⟩ = some (.int .i64 xn.kind) ∧ W.cell? ⟨BB, n * 4 + 1, none⟩ = some (.int .u8 xn.lo) ∧ W.cell? ⟨BB, n * 4 + 2, none⟩ = some (.int .u8 xn.hi) ∧ W.cell? ⟨BB, n * 4 + 3, none⟩ = some (.slice An xn.kids.length cn))
                    (first | exact ⟨(Hi.out _ hd).1.1, (Hi.out _ hd).1.2.1, (Hi.out _ hd).1.2.2.1, (Hi.out _ hd).1.2.2.2, (Hn.out _ hd).1.1, (Hn.out _ hd).1.2.1, (Hn.out _ hd).1.2.2.1, (Hn.out _ hd).1.2.2.2⟩ | exact ⟨(Hi.out _ (by assumption)).1.1, (Hi.out _ (by assumption)).1.2.1, (Hi.out _ (by assumption)).1.2.2.1, (Hi.out _ (by assumption)).1.2.2.2, (Hn.out _ (by assumption)).1.1, (Hn.out _ (by assumption)).1.2.1, (Hn.out _ (by assumption)).1.2.2.1, (Hn.out _ (by assumption)).1.2.2.2⟩)
                    (first | (go_at_call 10; (have t07 := tk7; clear t07 tk7); (with_reducible refine Calls.mono (own_any _ xi _ _ (Nat.le_refl _) (Hi.out _ hd).2) ?_); rintro e w7 ⟨v7, rfl, hv7, hb7⟩; have hc7 : Below wB.heap.size wB w7 := (hd).trans (hb7.mono (hd).size)) | (go_at_call 10; (have t08 := tk8; clear t08 tk8); (with_reducible refine Calls.mono (own_any _ xn _ _ (Nat.le_refl _) (Hn.out _ hc7).2) ?_); rintro e w8 ⟨v8, rfl, hv8, hb8⟩; have hc8 : Below wB.heap.size wB w8 := (hc7).trans (hb8.mono (hc7).size)) | (go_at_call 15; (with_reducible refine Calls.mono (cmp_any xi xn v7 v8 _ (x_lo hv7 hb8) (x_lo hv8 (Below.refl _ _))) ?_); rw [HZu.out]; rintro e w10 ⟨rfl, hb10⟩; have hc10 : Below wB.heap.size wB w10 := (hc8).trans (hb10.mono (hc8).size)))
                  go_wp2_with fail
                  go_roundw
                  case rel => exact ⟨n + 1, by omega, by go_num, hc10⟩
                  case measure => simp [intOf]; omega
                · have hy1 : decide (y ≤ 0) = false := by simpa using hy0
                  go_quiet (fail)
                  go_wp2_with fail
                  go_roundw
                  case rel => exact ⟨n + 1, by omega, by go_num, below_drewN hc9 _⟩
                  case measure => simp [intOf]; omega
              · have hz1 : decide (z ≤ 0) = false := by simpa using hz0
                go_quiet (fail)
                go_wp2_with fail
                go_roundw
                case rel => exact ⟨n + 1, by omega, by go_num, below_drewN hc9 _⟩
                case measure => simp [intOf]; omega
            · have hn6 : ¬ (n : Int) < 5 := by omega
              go_wp2_with fail
              go_roundw
              case rel => exact ⟨j + 1, by omega, by go_num, hW⟩
              case measure => simp [intOf]; omega
        · have hj6 : ¬ (j : Int) < 5 := by omega
          go_wp2_with fail
          go_roundw
          case rel => exact ⟨i + 1, by omega, by go_num, hW⟩
          case measure => simp [intOf]; omega
    · have hi6 : ¬ (i : Int) < 5 := by omega
      go_wp2_with (first | (go_at_call 20; refine Calls.mono (HL.out _ (hbB.trans (hW.mono hbB.size))) ?_; rintro e w9 ⟨rfl, hb9⟩))
      go_ret
      exact ⟨rfl, hbB.trans ((hW.trans (hb9.mono hW.size)).mono hbB.size)⟩
end Go.Proofs.YtijcjknaphboeaaGreatDoor
