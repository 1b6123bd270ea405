/-
  THE WALK of the law on matching (P4.3, P4.4), lives taken as handed in. Written by gen/genmats.py.
  THE LAW on matching (P4.3, P4.4), lives put in.
-/
import Derived.Test.YtijcjknaphboeaaGreatDoorRxOrder
import Derived.Test.YtijcjknaphboeaaGreatDoorRxMat
import Derived.Test.YtijcjknaphboeaaGreatDoorRxWordB
import Derived.Test.YtijcjknaphboeaaGreatDoorRxLaw
import Derived.Test.YtijcjknaphboeaaGreatDoorRxLives
namespace Go.Proofs.YtijcjknaphboeaaGreatDoor
open Go.RowKit

/-- the tree at a place of a list, in every later world -/
theorem at_cells2 {W0 : World} {xs : List Rx} {B : Nat} (L : RtL W0 (Lo W0.heap.size) xs (some ⟨B, 0, none⟩)) {t : Nat} (ht : t < xs.length) : ∃ (x : Rx) (A : Option Addr) (c : Nat), x ∈ xs ∧ ∀ W, Below W0.heap.size W0 W →
    (W.cell? ⟨B, t * 4, none⟩ = some (.int .i64 x.kind) ∧ W.cell? ⟨B, t * 4 + 1, none⟩ = some (.int .u8 x.lo) ∧ W.cell? ⟨B, t * 4 + 2, none⟩ = some (.int .u8 x.hi) ∧ W.cell? ⟨B, t * 4 + 3, none⟩ = some (.slice A x.kids.length c)) ∧
    RtV W (Lo W.heap.size) x (.agg #[.int .i64 x.kind, .int .u8 x.lo, .int .u8 x.hi, .slice A x.kids.length c]) := by
  obtain ⟨b, o, A, c, e, hb, h4, hx⟩ := L.get ht
  cases e
  refine ⟨xs[t], A, c, List.getElem_mem ht, fun W hW => ⟨?_, hx.call hW⟩⟩
  have := h4.to (hW.block B hb)
  simpa [At4] using this
/-- the star of the byte 0 matches a row of zeros -/
theorem star_zeros {b : Nat → Int} {n : Nat} (hb : ∀ i, i < n → b i = 0) : mt b (.node 7 0 0 [.node 2 0 0 []]) 0 n := by
  rw [mt_star1]
  have key : ∀ d i, i + d = n → Star (mt b (.node 2 0 0 [])) i n := by
    intro d
    induction d with
    | zero => intro i h; obtain rfl : i = n := by omega
              exact .nil _
    | succ d ih => exact fun i h => .step (m := i + 1) (mt_rng.2 ⟨rfl, by rw [hb i (by omega)]; decide, by rw [hb i (by omega)]; decide⟩) (by omega) (ih (i + 1) (by omega))
  exact key n 0 (by omega)
theorem I64.lit' {k : Int} (h : 0 ≤ k ∧ k ≤ 7) : I64 k := ⟨by omega, by omega⟩
theorem tmod5 (z : Int) : ∃ q : Int, z.tmod 5 = q ∧ I64 q := by
  refine ⟨_, rfl, ?_⟩
  have h1 := Int.tmod_lt_of_pos z (b := 5) (by decide)
  have h2 : -5 < z.tmod 5 := by
    have := Int.tmod_lt_of_pos (-z) (b := 5) (by decide)
    rw [Int.neg_tmod] at this
    omega
  exact ⟨by omega, by omega⟩
theorem zeros_rd {w : World} (n : Nat) : RdI (w.alloc (.cells (madeCells #[.int .u8 0] n) 5)) (w.heap.size + 1) .u8 (some ⟨w.heap.size, 0, none⟩) (List.replicate n 0) :=
  .inr ⟨w.heap.size, 0, rfl, by omega, fun j hj => by
    rw [List.length_replicate] at hj
    rw [Nat.zero_add, cell_of_row _ _ j _ _ (0, 0) (heap_alloc_new w _)]
    simp [madeCells, hj, Nat.mod_one]⟩

set_option maxHeartbeats 4000000 in
set_option maxRecDepth 100000 in
theorem mats_walk (A1 A3 : Option Addr) (n1 n3 c1 c3 : Nat) (z1 z3 : List Int) (how by' long : Int) (w : World) (hL1 : MkL n1 z1) (hL3 : MkL n3 z3) (hr1 : RdI w w.heap.size .i64 A1 z1) (hr3 : RdI w w.heap.size .i64 A3 z3) (hb : I64 by') (hlg : I64 long)
    (HL : Hid (∀ W, Below w.heap.size w W → Calls Tryz.prog 20 #[] W fun e w' => e = .returned (.bool true) ∧ Below W.heap.size W w')) :
    Calls Tryz.prog 4 #[.slice A1 n1 c1, .int .i64 how, .int .i64 by', .slice A3 n3 c3, .int .i64 long] w (RTrue w) := by
  have M1 := Lib.hid (made_any A1 n1 c1 z1 w hL1 hr1)
  have H3 := Lib.hid hr3
  have HM := Lib.hid hL3
  obtain ⟨q5, hq5, hq5b⟩ := tmod5 how
  clear hr1 hr3 hL1 hL3
  go_enter Tryz.func4, Tryz.ntmps4
  go_wp2_with fail
  refine Calls.mono M1.out ?_
  rintro e w1 ⟨x1, v1, rfl, hv1, hb1, hx1, hn1⟩
  obtain ⟨_, B1, d1, rfl, _⟩ := hv1.parts
  simp only [rxv]
  go_wp2_with fail
  obtain ⟨wA, hwA⟩ : ∃ wA, w1.alloc (.cells #[.int .i64 x1.kind, .int .u8 x1.lo, .int .u8 x1.hi, .slice B1 x1.kids.length d1] 25) = wA := ⟨_, rfl⟩
  have hsA : wA.heap.size = w1.heap.size + 1 := by rw [← hwA]; simp
  have hbA : Below w.heap.size w wA := hwA ▸ hb1.alloc hb1.size _
  have hrA : wA.heap[w1.heap.size]? = some (.cells #[.int .i64 x1.kind, .int .u8 x1.lo, .int .u8 x1.hi, .slice B1 x1.kids.length d1] 25 (0, 0)) := hwA ▸ heap_alloc_new w1 _
  have hvA : RtV wA (Lo wA.heap.size) x1 (rxv x1.kind x1.lo x1.hi B1 x1.kids.length d1) := RtV.to (fun b hb => ⟨by show b < _; have := hb.2; omega, hwA ▸ Below.heap_alloc w1 _ b hb.2⟩) x1 hv1
  have hbAw := hbA.size
  rw [hwA]
  clear hwA hv1 hb1
  have HS' := Lib.hid (show ∀ W, Below wA.heap.size wA W → W.cell? ⟨w1.heap.size, 0, none⟩ = some (.int .i64 x1.kind) ∧ W.cell? ⟨w1.heap.size, 1, none⟩ = some (.int .u8 x1.lo) ∧ W.cell? ⟨w1.heap.size, 2, none⟩ = some (.int .u8 x1.hi) ∧ W.cell? ⟨w1.heap.size, 3, none⟩ = some (.slice B1 x1.kids.length d1) from fun W hW => four ((hW.block _ (by omega)).trans hrA))
  have hd : Below wA.heap.size wA wA.drew := (Below.refl _ _).drew
  unfold rxv at hvA
  have hvA' := Lib.hid (fun W (h : Below wA.heap.size wA W) => lo_below hvA h)
  clear hvA
  go_region_held3 (fun W => W.cell? ⟨w1.heap.size, 0, none⟩ = some (.int .i64 x1.kind) ∧ W.cell? ⟨w1.heap.size, 1, none⟩ = some (.int .u8 x1.lo) ∧ W.cell? ⟨w1.heap.size, 2, none⟩ = some (.int .u8 x1.hi) ∧ W.cell? ⟨w1.heap.size, 3, none⟩ = some (.slice B1 x1.kids.length d1))
    (first | exact HS'.out _ hd | exact HS'.out _ (by assumption) | exact HS'.out _ (Below.alloc (by assumption) (by omega) _))
    (first
      | (go_at_call 8; (with_reducible refine Calls.mono (spoilt_any x1 _ q5 by' _ hq5b hb (hvA'.out _ hd) hn1) ?_); rintro e w4 ⟨x4, v4, rfl, hv4, hb4, hn4⟩; obtain ⟨_, B4, d4, rfl, _⟩ := hv4.parts; have hc4 : Below wA.heap.size wA w4 := hd.trans (hb4.mono hd.size); have hl4 := hc4.size; simp only [rxv]))
  go_wp2_with fail
  obtain ⟨wB, hwB⟩ : ∃ wB, w4.alloc (.cells #[.int .i64 x1.kind, .int .u8 x1.lo, .int .u8 x1.hi, .slice B1 x1.kids.length d1, .int .i64 x4.kind, .int .u8 x4.lo, .int .u8 x4.hi, .slice B4 x4.kids.length d4] 25) = wB := ⟨_, rfl⟩
  have LL : ∃ xs : List Rx, Hid (xs.length = 2) ∧ Hid (∀ x ∈ xs, nodes x ≤ 200) ∧ RtL wB (Lo wB.heap.size) xs (some ⟨w4.heap.size, 0, none⟩) := by
    have h1 := hvA'.out _ hc4
    subst hwB
    refine ⟨[⟨x1, B1, d1⟩, ⟨x4, B4, d4⟩].map Tn.x, Lib.hid rfl, Lib.hid (fun x hx => ?_), five_row (ts := [⟨x1, B1, d1⟩, ⟨x4, B4, d4⟩]) (fun t ht => ?_)⟩
    · simp only [List.map_cons, List.map_nil, List.mem_cons, List.not_mem_nil, or_false] at hx
      rcases hx with rfl | rfl
      · omega
      · exact hn4
    · simp only [List.mem_cons, List.not_mem_nil, or_false] at ht
      rcases ht with rfl | rfl
      · exact h1
      · exact hv4
  have hbB : Below w.heap.size w wB := by
    have hbA4 := hbA.trans (hc4.mono hbAw)
    rw [← hwB]
    exact hbA4.alloc hbA4.size _
  rw [hwB]
  obtain ⟨xs, hlen, hnod, L⟩ := LL
  generalize w4.heap.size = BB at L ⊢
  clear hwB hvA' HS' hd hbA hbAw hrA hsA M1 hb
  go_loopw [13] (fun v wr => ∃ i : Nat, i ≤ 2 ∧ v = .int .i64 i ∧ Below wB.heap.size wB wr) (fun v _ => 2 - (intOf v).toNat)
  case atStart => exact ⟨0, by omega, rfl, Below.refl _ _⟩
  case round =>
    obtain ⟨i, hi, rfl, hW⟩ := hrel
    by_cases hi2 : i < 2
    · obtain ⟨xi, Ai, ci, hmem, Hi'⟩ := at_cells2 L (hlen.out ▸ hi2)
      have Hi := Lib.hid Hi'
      have Hn := Lib.hid (hnod.out _ hmem)
      clear Hi' hmem
      go_wp2_with fail
      rw [show decide ((i : Int) < 2) = true by simp; omega]
      obtain ⟨wo, rfl⟩ : ∃ wo, wo = wr := ⟨_, rfl⟩
      go_loopw [14] (fun v wr => ∃ k : Nat, k ≤ n3 ∧ k ≤ 8 ∧ v = .int .i64 k ∧ Below wB.heap.size wB wr) (fun v _ => 8 - (intOf v).toNat)
      case atStart => exact ⟨0, by omega, by omega, rfl, hW⟩
      case round =>
        clear hW
        obtain ⟨k, hk, hk8, rfl, hW⟩ := hrel
        by_cases hlt : k < n3
        · have hlt' : (k : Int) < n3 := by omega
          by_cases h8 : k < 8
          · have h8' : (k : Int) < 8 := by omega
            obtain ⟨b, o, e, hbk, hcell⟩ := H3.out.at_ (j := k) (by have := HM.out.hn; omega)
            have hzk : I64 (z3[k]?.getD 0) := by
              have hl : k < z3.length := by have := HM.out.hn; omega
              rw [List.getElem?_eq_getElem hl]
              exact HM.out.hz _ (List.getElem_mem hl)
            subst e
            obtain ⟨z, hz⟩ : ∃ z, z3[k]?.getD 0 = z := ⟨_, rfl⟩
            rw [hz] at hcell hzk
            obtain ⟨S, hS, hC0⟩ := word_fn z hzk
            have HC := Lib.hid hC0
            have HS := Lib.hid fun W (hWW : Below wB.heap.size wB W) => (show (W.cell? ⟨BB, i * 4, none⟩ = some (.int .i64 xi.kind) ∧ W.cell? ⟨BB, i * 4 + 1, none⟩ = some (.int .u8 xi.lo) ∧ W.cell? ⟨BB, i * 4 + 2, none⟩ = some (.int .u8 xi.hi) ∧ W.cell? ⟨BB, i * 4 + 3, none⟩ = some (.slice Ai xi.kids.length ci)) ∧ W.cell? ⟨b, o + k, none⟩ = some (.int .i64 z) from ⟨(Hi.out _ hWW).1, (World.cell?_of_block ((hbB.trans (hWW.mono hbB.size)).block b hbk)).trans hcell⟩)
            have hS8 := Lib.hid (show S.size ≤ 1000000 by omega)
            clear hcell hz hC0 hS hzk
            have hd : Below wB.heap.size wB wr.drew := hW.drew
            go_wp2_with fail
            go_region_held3 (fun W => W.cell? ⟨BB, i * 4, none⟩ = some (.int .i64 xi.kind) ∧ W.cell? ⟨BB, i * 4 + 1, none⟩ = some (.int .u8 xi.lo) ∧ W.cell? ⟨BB, i * 4 + 2, none⟩ = some (.int .u8 xi.hi) ∧ W.cell? ⟨BB, i * 4 + 3, none⟩ = some (.slice Ai xi.kids.length ci) ∧ W.cell? ⟨b, o + k, none⟩ = some (.int .i64 z))
              (first | exact ⟨(HS.out _ hd).1.1, (HS.out _ hd).1.2.1, (HS.out _ hd).1.2.2.1, (HS.out _ hd).1.2.2.2, (HS.out _ hd).2⟩ | exact ⟨(HS.out _ hc9).1.1, (HS.out _ hc9).1.2.1, (HS.out _ hc9).1.2.2.1, (HS.out _ hc9).1.2.2.2, (HS.out _ hc9).2⟩ | exact ⟨(HS.out _ hc8).1.1, (HS.out _ hc8).1.2.1, (HS.out _ hc8).1.2.2.1, (HS.out _ hc8).1.2.2.2, (HS.out _ hc8).2⟩ | exact ⟨(HS.out _ hc7).1.1, (HS.out _ hc7).1.2.1, (HS.out _ hc7).1.2.2.1, (HS.out _ hc7).1.2.2.2, (HS.out _ hc7).2⟩)
              (first
                | (go_at_call 10; (with_reducible refine Calls.mono (own_any _ xi _ _ (Nat.le_refl _) (Hi.out _ hd).2) ?_); rintro e w7 ⟨v7, rfl, hv7, hb7⟩; have hc7 : Below wB.heap.size wB w7 := hd.trans (hb7.mono hd.size))
                | (go_at_call 19; (with_reducible refine Calls.mono (HC.out _) ?_); rintro e w8 ⟨rfl, hb8⟩; have hc8 : Below wB.heap.size wB w8 := hc7.trans (hb8.mono hc7.size))
                | (go_at_call 18; (with_reducible refine Calls.mono (match_any xi v7 _ S hS8.out (x_lo hv7 hb8)) ?_); rintro e w9 ⟨r1, rfl, hr1, hb9⟩; have hc9 : Below wB.heap.size wB w9 := hc8.trans (hb9.mono hc8.size)))
            obtain ⟨ve, hve⟩ : ∃ ve, matchE xi S.size = ve := ⟨_, rfl⟩
            have HVE := Lib.hid hve
            have HR1 := Lib.hid hr1
            rw [hve]
            clear hve hr1 hb7 hb8 hb9 hv7 hc7 hc8 hd
            have hd : Below wB.heap.size wB w9.drew := hc9.drew
            go_wp2_with fail
            go_region_held3 (fun W => W.cell? ⟨BB, i * 4, none⟩ = some (.int .i64 xi.kind) ∧ W.cell? ⟨BB, i * 4 + 1, none⟩ = some (.int .u8 xi.lo) ∧ W.cell? ⟨BB, i * 4 + 2, none⟩ = some (.int .u8 xi.hi) ∧ W.cell? ⟨BB, i * 4 + 3, none⟩ = some (.slice Ai xi.kids.length ci) ∧ W.cell? ⟨b, o + k, none⟩ = some (.int .i64 z))
              (first | exact ⟨(HS.out _ hd).1.1, (HS.out _ hd).1.2.1, (HS.out _ hd).1.2.2.1, (HS.out _ hd).1.2.2.2, (HS.out _ hd).2⟩ | exact ⟨(HS.out _ hc8).1.1, (HS.out _ hc8).1.2.1, (HS.out _ hc8).1.2.2.1, (HS.out _ hc8).1.2.2.2, (HS.out _ hc8).2⟩ | exact ⟨(HS.out _ hc10).1.1, (HS.out _ hc10).1.2.1, (HS.out _ hc10).1.2.2.1, (HS.out _ hc10).1.2.2.2, (HS.out _ hc10).2⟩)
              (first
                | (go_at_call 19; (with_reducible refine Calls.mono (HC.out _) ?_); rintro e w8 ⟨rfl, hb8⟩; have hc8 : Below wB.heap.size wB w8 := hd.trans (hb8.mono hd.size))
                | (go_at_call 21; (with_reducible refine Calls.mono (eMatch_any xi _ _ S (Nat.le_trans Hn.out (by decide)) hS8.out (Hi.out _ hc8).2) ?_); rintro e w10 ⟨r2, rfl, hr2, hb10⟩; have hc10 : Below wB.heap.size wB w10 := hc8.trans (hb10.mono hc8.size)))
            have hrr : r2 = r1 := by rw [Bool.eq_iff_iff, hr2, HR1.out]
            rw [HVE.out]
            subst hrr
            clear hr2 HR1 HVE hb8 hb10 hc8 hd hc9
            go_wp2_with fail
            go_roundw
            case rel => exact ⟨k + 1, by omega, by omega, by go_num, hc10⟩
            case measure => simp [intOf]; omega
          · have h8' : ¬ (k : Int) < 8 := by omega
            obtain ⟨p0, p1, p2, p3⟩ := (Hi.out _ hW).1
            go_wp2_with fail
            refine Calls.mono (own_any _ xi _ _ (Nat.le_refl _) (Hi.out _ hW).2) ?_
            rintro e w7 ⟨v7, rfl, hv7, hb7⟩
            have hc7 : Below wB.heap.size wB w7 := hW.trans (hb7.mono hW.size)
            go_wp2_with fail
            refine Calls.mono (xNull_any xi v7 _ (x_lo hv7 (Below.refl _ _))) ?_
            rintro e w8 ⟨rfl, hb8⟩
            have hc8 : Below wB.heap.size wB w8 := hc7.trans (hb8.mono hc7.size)
            clear p0 p1 p2 p3
            obtain ⟨p0, p1, p2, p3⟩ := (Hi.out _ hc8).1
            obtain ⟨nb, hnb⟩ : ∃ nb, (validR xi == 0 && nulR xi) = nb := ⟨_, rfl⟩
            obtain ⟨ve, hve⟩ : ∃ ve, validR xi = ve := ⟨_, rfl⟩
            rw [hnb]
            have HNB := Lib.hid hnb
            have HVE := Lib.hid hve
            rw [hve]
            clear hnb hve
            go_wp2_with fail
            refine Calls.mono (eNull_any xi _ _ (Nat.le_trans Hn.out (by decide)) (Hi.out _ hc8).2) ?_
            unfold NullOk
            rw [HNB.out, HVE.out]
            rintro e w9 ⟨rfl, hb9⟩
            have hc9 : Below wB.heap.size wB w9 := hc8.trans (hb9.mono hc8.size)
            clear p0 p1 p2 p3
            go_wp2_with fail
            go_roundw
            case rel => exact ⟨i + 1, by omega, by go_num, hc9⟩
            case measure => simp [intOf]; omega
        · have hlt' : ¬ (k : Int) < n3 := by omega
          have hlt2 : decide ((k : Int) < n3) = false := decide_eq_false hlt'
          obtain ⟨p0, p1, p2, p3⟩ := (Hi.out _ hW).1
          go_wp2_with fail
          refine Calls.mono (own_any _ xi _ _ (Nat.le_refl _) (Hi.out _ hW).2) ?_
          rintro e w7 ⟨v7, rfl, hv7, hb7⟩
          have hc7 : Below wB.heap.size wB w7 := hW.trans (hb7.mono hW.size)
          go_wp2_with fail
          refine Calls.mono (xNull_any xi v7 _ (x_lo hv7 (Below.refl _ _))) ?_
          rintro e w8 ⟨rfl, hb8⟩
          have hc8 : Below wB.heap.size wB w8 := hc7.trans (hb8.mono hc7.size)
          clear p0 p1 p2 p3
          obtain ⟨p0, p1, p2, p3⟩ := (Hi.out _ hc8).1
          obtain ⟨nb, hnb⟩ : ∃ nb, (validR xi == 0 && nulR xi) = nb := ⟨_, rfl⟩
          obtain ⟨ve, hve⟩ : ∃ ve, validR xi = ve := ⟨_, rfl⟩
          rw [hnb]
          have HNB := Lib.hid hnb
          have HVE := Lib.hid hve
          rw [hve]
          clear hnb hve
          go_wp2_with fail
          refine Calls.mono (eNull_any xi _ _ (Nat.le_trans Hn.out (by decide)) (Hi.out _ hc8).2) ?_
          unfold NullOk
          rw [HNB.out, HVE.out]
          rintro e w9 ⟨rfl, hb9⟩
          have hc9 : Below wB.heap.size wB w9 := hc8.trans (hb9.mono hc8.size)
          clear p0 p1 p2 p3
          go_wp2_with fail
          go_roundw
          case rel => exact ⟨i + 1, by omega, by go_num, hc9⟩
          case measure => simp [intOf]; omega
    · have hi6 : ¬ (i : Int) < 2 := by omega
      obtain ⟨k9, hk9, hA⟩ := Around_nat long 9 hlg (by decide) (by decide)
      have HA := Lib.hid hA
      obtain ⟨n, hn⟩ : ∃ n : Nat, n = 60 + k9 := ⟨_, rfl⟩
      have hnI : (60 : Int) + (k9 : Int) = (n : Int) := by omega
      have hn68 : n ≤ 68 := by omega
      have hn60 : 60 ≤ n := by omega
      clear hA hn hk9
      have hbw := hbB.trans (hW.mono hbB.size)
      clear L hW
      go_wp2_with fail
      refine Calls.mono (HA.out _) ?_
      rintro e wz ⟨rfl, rfl⟩
      obtain ⟨i1, hi1, hj0, hj1, hj2⟩ := info_parts info_u8
      have hmk : ∀ W : World, (Instr.makeSlice 52 (.int .i64 n) (.int .i64 n)).run Tryz.prog W = .ok (.slice (some ⟨W.heap.size, 0, none⟩) n n) (W.alloc (.cells (madeCells #[.int .u8 0] n) 5)) := fun W => run_make_row (P := Tryz.prog) 52 5 i1 _ Tryz.underlying52 hi1 hj0 hj1 rfl .i64 .i64 n (by rw [hj2]; omega) (by omega) W
      obtain ⟨Z, hZ⟩ : ∃ Z, strOfNums (List.replicate n 0) = Z := ⟨_, rfl⟩
      have hZs : Z.size = n := by rw [← hZ, str_size, List.length_replicate]
      have hZb : sb Z = List.replicate n 0 := by rw [← hZ]; exact sb_of_nums (fun z hz => by obtain rfl := (List.mem_replicate.1 hz).2; decide)
      have e1 : Below wr.heap.size wr (wr.alloc (.cells (madeCells #[.int .u8 0] n) 5)) := (Below.refl _ _).alloc (Nat.le_refl _) _
      have LS0 : RtV (wr.alloc (.cells (madeCells #[.int .u8 0] n) 5)) (Lo (wr.alloc (.cells (madeCells #[.int .u8 0] n) 5)).heap.size) (.node 2 0 0 []) (rxv (Rx.node 2 0 0 []).kind (Rx.node 2 0 0 []).lo (Rx.node 2 0 0 []).hi none (Rx.node 2 0 0 []).kids.length 0) := RtV.mk (s := []) ⟨I64.lit' ⟨by decide, by decide⟩, ⟨by decide, by decide⟩, ⟨by decide, by decide⟩, by simp⟩ (Nat.le_refl _) (fun _ => rfl) (by simp only [RtL])
      have LS := Lib.hid (kids_one (ty := 30) (k := 7) (I64.lit' ⟨by decide, by decide⟩) LS0)
      have hsz1 : (wr.alloc (.cells (madeCells #[.int .u8 0] n) 5)).heap.size = wr.heap.size + 1 := by simp
      rw [hsz1] at LS
      have e2 := e1.alloc e1.size (.cells #[.int .i64 2, .int .u8 0, .int .u8 0, .slice none 0 0] 30)
      have hcv := conv_row (some ⟨wr.heap.size, 0, none⟩) n n (List.replicate n 0) ((wr.alloc (.cells (madeCells #[.int .u8 0] n) 5)).alloc (.cells #[.int .i64 2, .int .u8 0, .int .u8 0, .slice none 0 0] 30)) _ List.length_replicate ((zeros_rd (w := wr) n).below ((Below.refl _ _).alloc (by simp) _))
      rw [hZ] at hcv
      have HM2 := Lib.hid (match_any (.node 7 0 0 [.node 2 0 0 []]) _ _ Z (by omega) LS.out.now)
      have hE : matchE (.node 7 0 0 [.node 2 0 0 []]) Z.size = if 64 < n then 4 else 0 := by rw [hZs]; unfold matchE; simp [nodes, nodesL, wfR, wfL]
      have HE := Lib.hid hE
      have HZ := Lib.hid hZb
      have HZs := Lib.hid hZs
      clear hE hZ hZb hZs LS0
      have hn0 : (0 : Int) ≤ (n : Int) := by omega
      go_wp2_with fail
      refine Calls.mono HM2.out ?_
      rintro e wy ⟨r, rfl, hr, hby⟩
      have hbz := hbw.trans ((e2.trans (hby.mono e2.size)).mono hbw.size)
      clear e1 e2 hby hcv hmk LS HM2
      by_cases h64 : n ≤ 64
      · have hE0 : matchE (.node 7 0 0 [.node 2 0 0 []]) Z.size = 0 := by rw [HE.out, if_neg (by omega)]
        rw [hE0] at hr ⊢
        have hr1 : r = true := hr.2 ⟨rfl, by rw [HZs.out]; exact star_zeros (fun i hi => by unfold byt; rw [HZ.out]; simp [List.getD_eq_getElem?_getD, hi])⟩
        clear hr hE0 HE HZ HZs
        subst hr1
        have h64' : (n : Int) ≤ 64 := by omega
        have h64n : ¬ (64 : Int) < n := by omega
        have hd1 : decide ((64 : Int) < (n : Int)) = false := decide_eq_false h64n
        have hd2 : decide ((n : Int) ≤ 64) = true := decide_eq_true h64'
        have hLv := Lib.hid (HL.out _ hbz)
        have HB := Lib.hid hbz
        clear hbz
        go_wp2_with (first | (go_at_call 20; refine Calls.mono hLv.out ?_; rintro e wq ⟨rfl, hbq⟩))
        go_ret
        exact ⟨rfl, HB.out.trans (hbq.mono HB.out.size)⟩
      · have hE0 : matchE (.node 7 0 0 [.node 2 0 0 []]) Z.size = 4 := by rw [HE.out, if_pos (by omega)]
        rw [hE0] at hr ⊢
        have hr1 : r = false := Bool.eq_false_iff.2 fun h => by have := (hr.1 h).1; cases this
        clear hr hE0 HE HZ HZs
        subst hr1
        have h64' : ¬ (n : Int) ≤ 64 := by omega
        have h64n : (64 : Int) < n := by omega
        have hd1 : decide ((64 : Int) < (n : Int)) = true := decide_eq_true h64n
        have hd2 : decide ((n : Int) ≤ 64) = false := decide_eq_false h64'
        have hLv := Lib.hid (HL.out _ hbz)
        have HB := Lib.hid hbz
        clear hbz
        go_wp2_with (first | (go_at_call 20; refine Calls.mono hLv.out ?_; rintro e wq ⟨rfl, hbq⟩))
        go_ret
        exact ⟨rfl, HB.out.trans (hbq.mono HB.out.size)⟩
end Go.Proofs.YtijcjknaphboeaaGreatDoor

namespace Go.Proofs.YtijcjknaphboeaaGreatDoor
open Go.RowKit
theorem mats_any (A1 A3 : Option Addr) (n1 n3 c1 c3 : Nat) (z1 z3 : List Int) (how by' long : Int) (w : World) (hL1 : MkL n1 z1) (hL3 : MkL n3 z3) (hr1 : RdI w w.heap.size .i64 A1 z1) (hr3 : RdI w w.heap.size .i64 A3 z3) (hb : I64 by') (hlg : I64 long) (hG : GW w) :
    Calls Tryz.prog 4 #[.slice A1 n1 c1, .int .i64 how, .int .i64 by', .slice A3 n3 c3, .int .i64 long] w fun e w' => e = .returned (.bool true) ∧ Below w.heap.size w w' :=
  mats_walk A1 A3 n1 n3 c1 c3 z1 z3 how by' long w hL1 hL3 hr1 hr3 hb hlg (Lib.hid fun W hW => xlives_any W (hG.below hW))
end Go.Proofs.YtijcjknaphboeaaGreatDoor
