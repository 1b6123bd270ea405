/-
  THE WALK of the law on sets (P4.9), lives taken as handed in.
-/
import Derived.Test.YtijcjknaphboeaaGreatDoorRxLaw
import Derived.Test.YtijcjknaphboeaaGreatDoorRxMatch
namespace Go.Proofs.YtijcjknaphboeaaGreatDoor
open Go.RowKit

theorem I64.lit {k : Int} (h : 0 ≤ k ∧ k ≤ 7) : I64 k := ⟨by omega, by omega⟩
/-- Match of a tree that is right and small, at a string that is not too long -/
theorem match_ok (x : Rx) (v : Value) (w : World) (S : ByteArray) (hn : nodes x ≤ 64) (hw : wfR x = true) (hS : S.size ≤ 64) (hv : RtV w (Lo w.heap.size) x v) :
    Calls Tryz.prog 18 #[v, .string S] w fun e w' => ∃ r : Bool, e = .returned (.tuple #[.bool r, .int .i64 0]) ∧ (r = true ↔ mt (byt S) x 0 S.size) ∧ Below w.heap.size w w' := by
  have e : matchE x S.size = 0 := by unfold matchE; rw [if_neg (by omega), if_pos hw, if_neg (by omega)]
  refine (match_any x v w S (by omega) hv).mono ?_
  rintro en w' ⟨r, rfl, hr, hb⟩
  rw [e] at hr ⊢
  exact ⟨r, rfl, hr.trans ⟨fun h => h.2, fun h => ⟨rfl, h⟩⟩, hb⟩

set_option maxHeartbeats 8000000 in
set_option maxRecDepth 100000 in
theorem sets_walk (A1 A2 A3 : Option Addr) (n1 n2 n3 c1 c2 c3 : Nat) (z1 z2 z3 : List Int) (c : Int) (w : World) (hc : 0 ≤ c ∧ c < 256) (hL1 : MkL n1 z1) (hL2 : MkL n2 z2) (hL3 : MkL n3 z3) (hr1 : RdI w w.heap.size .i64 A1 z1) (hr2 : RdI w w.heap.size .i64 A2 z2) (hr3 : RdI w w.heap.size .i64 A3 z3)
    (HL : Hid (∀ W, Below w.heap.size w W → Calls Tryz.prog 20 #[] W fun e w' => e = .returned (.bool true) ∧ Below W.heap.size W w')) :
    Calls Tryz.prog 5 #[.slice A1 n1 c1, .slice A2 n2 c2, .slice A3 n3 c3, .int .u8 c] w (RTru w) := by
  have M1 := Lib.hid (fun W (h : Below w.heap.size w W) => made_any A1 n1 c1 z1 W hL1 ((hr1.below h).mono h.size))
  have M2 := Lib.hid (fun W (h : Below w.heap.size w W) => made_any A2 n2 c2 z2 W hL2 ((hr2.below h).mono h.size))
  have H3 := Lib.hid hr3
  have HM := Lib.hid hL3
  have HC := Lib.hid hc
  clear hr1 hr2 hr3 hL1 hL2 hL3 hc
  go_enter Tryz.func5, Tryz.ntmps5
  go_wp2_with fail
  refine Calls.mono (M1.out _ (Below.refl _ _)) ?_
  rintro e w1 ⟨x, v1, rfl, hv1, hb1, hx, hxn⟩
  go_wp2_with fail
  refine Calls.mono (own_any _ x v1 _ (Nat.le_refl _) (Late.mid hv1).now) ?_
  rintro e w2 ⟨v2, rfl, hv2, hb2⟩
  have hc2 := hb1.trans (hb2.mono hb1.size)
  obtain ⟨⟨hk2, hl2, hh2, _⟩, B1, d1, rfl, _⟩ := hv2.parts
  have L2 := Lib.hid (Late.mid hv2)
  have T2 := Lib.hid (fun W (hW : Below (w2.alloc (.cells #[.int .i64 x.kind, .int .u8 x.lo, .int .u8 x.hi, .slice B1 x.kids.length d1] 30)).heap.size (w2.alloc (.cells #[.int .i64 x.kind, .int .u8 x.lo, .int .u8 x.hi, .slice B1 x.kids.length d1] 30)) W) => four ((hW.block w2.heap.size (by simp)).trans (heap_alloc_new w2 _)))
  have hd2 : Below w.heap.size w (w2.alloc (.cells #[.int .i64 x.kind, .int .u8 x.lo, .int .u8 x.hi, .slice B1 x.kids.length d1] 30)) := hc2.alloc hc2.size _
  have hf2 : Below w2.heap.size w2 (w2.alloc (.cells #[.int .i64 x.kind, .int .u8 x.lo, .int .u8 x.hi, .slice B1 x.kids.length d1] 30)) := (Below.refl _ _).alloc (Nat.le_refl _) _
  clear hv1 hv2 hb1 hb2
  simp only [rxv]
  go_wp2_with fail
  obtain ⟨wA, hwA⟩ : ∃ wA, w2.alloc (.cells #[.int .i64 x.kind, .int .u8 x.lo, .int .u8 x.hi, .slice B1 x.kids.length d1] 30) = wA := ⟨_, rfl⟩
  rw [hwA] at T2 hd2 hf2 ⊢
  clear hwA
  refine Calls.mono (M2.out _ hd2) ?_
  rintro e w3 ⟨y, v3, rfl, hv3, hb3, hy, hyn⟩
  go_wp2_with fail
  refine Calls.mono (own_any _ y v3 _ (Nat.le_refl _) (Late.mid hv3).now) ?_
  rintro e w4 ⟨v4, rfl, hv4, hb4⟩
  have hc4 := hb3.trans (hb4.mono hb3.size)
  obtain ⟨⟨hk4, hl4, hh4, _⟩, B2, d2, rfl, _⟩ := hv4.parts
  have L4 := Lib.hid (Late.mid hv4)
  have hd4 : Below wA.heap.size wA (w4.alloc (.cells #[.int .i64 y.kind, .int .u8 y.lo, .int .u8 y.hi, .slice B2 y.kids.length d2] 30)) := hc4.alloc hc4.size _
  have T4 := Lib.hid (fun W (hW : Below (w4.alloc (.cells #[.int .i64 y.kind, .int .u8 y.lo, .int .u8 y.hi, .slice B2 y.kids.length d2] 30)).heap.size (w4.alloc (.cells #[.int .i64 y.kind, .int .u8 y.lo, .int .u8 y.hi, .slice B2 y.kids.length d2] 30)) W) => four ((hW.block w4.heap.size (by simp)).trans (heap_alloc_new w4 _)))
  have hf4 : Below w4.heap.size w4 (w4.alloc (.cells #[.int .i64 y.kind, .int .u8 y.lo, .int .u8 y.hi, .slice B2 y.kids.length d2] 30)) := (Below.refl _ _).alloc (Nat.le_refl _) _
  clear hv3 hv4 hb3 hb4
  simp only [rxv]
  go_wp2_with fail
  obtain ⟨wB, hwB⟩ : ∃ wB, w4.alloc (.cells #[.int .i64 y.kind, .int .u8 y.lo, .int .u8 y.hi, .slice B2 y.kids.length d2] 30) = wB := ⟨_, rfl⟩
  rw [hwB] at T4 hd4 hf4 ⊢
  clear hwB
  have hwB := Lib.hid (hd2.trans (hd4.mono hd2.size))
  have LX := Lib.hid ((L2.out.on hf2).on hd4)
  have LY := Lib.hid (L4.out.on hf4)
  have TX := Lib.hid (fun W (hW : Below wB.heap.size wB W) => T2.out W (hd4.trans (hW.mono hd4.size)))
  have TY := T4
  clear L2 L4 T2 T4 hd2 hd4 hf2 hf4 hc2 hc4 M1 M2
  go_loopw [12, 11] (fun iv sv wr => ∃ (j : Nat) (S : ByteArray), j ≤ n3 ∧ j ≤ 12 ∧ iv = .int .i64 j ∧ sv = .string S ∧ Hid (S.size ≤ 5 * j) ∧ Below wB.heap.size wB wr) (fun iv _ _ => 12 - (intOf iv).toNat)
  case atStart => exact ⟨0, _, Nat.zero_le _, Nat.zero_le _, rfl, rfl, Lib.hid (Nat.le_refl 0), Below.refl _ _⟩
  case round =>
    obtain ⟨j, S, hj, hj12, rfl, rfl, hS, hW⟩ := hrel
    by_cases hlt : j < n3
    · by_cases h12 : j < 12
      · have hlt' : (j : Int) < n3 := by omega
        have h12' : (j : Int) < 12 := by omega
        obtain ⟨b, o, e, hb, hcell⟩ := H3.out.at_ (j := j) (by have := HM.out.hn; omega)
        have hzj : I64 (z3[j]?.getD 0) := by
          have hl : j < z3.length := by have := HM.out.hn; omega
          rw [List.getElem?_eq_getElem hl]
          exact HM.out.hz _ (List.getElem_mem hl)
        have hbW := hwB.out.trans (hW.mono hwB.out.size)
        have f0 := (World.cell?_of_block (hbW.block b hb)).trans hcell
        subst e
        clear hcell
        generalize z3[j]?.getD 0 = z at hzj f0
        have hC := Lib.hid fun W => word_any z W hzj
        have hS' := Lib.hid (Nat.le_trans hS.out (show 5 * j ≤ 60 by omega))
        go_wp2_with fail
        refine Calls.mono (hC.out _) ?_
        rintro e w5 ⟨T, rfl, hT, hb5⟩
        have hadd : ¬ (9223372036854775807 < S.size + T.size) := by have := hS'.out; omega
        go_wp2_with fail
        go_roundw
        case rel => exact ⟨j + 1, _, by omega, by omega, by go_num, rfl, Lib.hid (by rw [ByteArray.size_append]; have := hS.out; omega), hW.trans (hb5.mono hW.size)⟩
        case measure => simp [intOf]; omega
      · have hlt' : (j : Int) < n3 := by omega
        have h12' : ¬ (j : Int) < 12 := by omega
        have hS60 := Lib.hid (Nat.le_trans hS.out (show 5 * j ≤ 60 by omega))
        have LX' := Lib.hid (LX.out.on hW)
        have LY' := Lib.hid (LY.out.on hW)
        have hwr := hW.size
        have q0 : Below wr.heap.size wr wr := Below.refl _ _
        have q1 : Below wr.heap.size wr (wr.alloc (.cells #[.int .i64 x.kind, .int .u8 x.lo, .int .u8 x.hi, .slice B1 x.kids.length d1] 30)) := q0.alloc (Nat.le_refl _) _
        have q2 : Below wr.heap.size wr ((wr.alloc (.cells #[.int .i64 x.kind, .int .u8 x.lo, .int .u8 x.hi, .slice B1 x.kids.length d1] 30)).alloc (.cells #[.int .i64 7, .int .u8 0, .int .u8 0, .slice (some ⟨wr.heap.size, 0, none⟩) 1 1] 30)) := q1.alloc (by simp) _
        have q3 : Below wr.heap.size wr (((wr.alloc (.cells #[.int .i64 x.kind, .int .u8 x.lo, .int .u8 x.hi, .slice B1 x.kids.length d1] 30)).alloc (.cells #[.int .i64 7, .int .u8 0, .int .u8 0, .slice (some ⟨wr.heap.size, 0, none⟩) 1 1] 30)).alloc (.cells #[.int .i64 2, .int .u8 c, .int .u8 c, .slice none 0 0, .int .i64 y.kind, .int .u8 y.lo, .int .u8 y.hi, .slice B2 y.kids.length d2] 30)) := q2.alloc (by simp <;> omega) _
        have q4 : Below wr.heap.size wr ((((wr.alloc (.cells #[.int .i64 x.kind, .int .u8 x.lo, .int .u8 x.hi, .slice B1 x.kids.length d1] 30)).alloc (.cells #[.int .i64 7, .int .u8 0, .int .u8 0, .slice (some ⟨wr.heap.size, 0, none⟩) 1 1] 30)).alloc (.cells #[.int .i64 2, .int .u8 c, .int .u8 c, .slice none 0 0, .int .i64 y.kind, .int .u8 y.lo, .int .u8 y.hi, .slice B2 y.kids.length d2] 30)).alloc (.cells #[.int .i64 3, .int .u8 0, .int .u8 0, .slice (some ⟨wr.heap.size + 1 + 1, 0, none⟩) 2 2] 30)) := q3.alloc (by simp <;> omega) _
        have q5 : Below wr.heap.size wr (((((wr.alloc (.cells #[.int .i64 x.kind, .int .u8 x.lo, .int .u8 x.hi, .slice B1 x.kids.length d1] 30)).alloc (.cells #[.int .i64 7, .int .u8 0, .int .u8 0, .slice (some ⟨wr.heap.size, 0, none⟩) 1 1] 30)).alloc (.cells #[.int .i64 2, .int .u8 c, .int .u8 c, .slice none 0 0, .int .i64 y.kind, .int .u8 y.lo, .int .u8 y.hi, .slice B2 y.kids.length d2] 30)).alloc (.cells #[.int .i64 3, .int .u8 0, .int .u8 0, .slice (some ⟨wr.heap.size + 1 + 1, 0, none⟩) 2 2] 30)).alloc (.cells #[.int .i64 x.kind, .int .u8 x.lo, .int .u8 x.hi, .slice B1 x.kids.length d1, .int .i64 y.kind, .int .u8 y.lo, .int .u8 y.hi, .slice B2 y.kids.length d2] 30)) := q4.alloc (by simp <;> omega) _
        obtain ⟨a0, a1, a2, a3⟩ := TX.out wr hW
        obtain ⟨b0, b1, b2, b3⟩ := TY.out _ (hW.trans (q2.mono hwr))
        obtain ⟨e0, e1, e2, e3⟩ := TX.out _ (hW.trans (q4.mono hwr))
        obtain ⟨f0, f1, f2, f3⟩ := TY.out _ (hW.trans (q4.mono hwr))
        obtain ⟨g0, g1, g2, g3⟩ := TX.out _ (hW.trans (q5.mono hwr))
        have r12 : Below (wr.alloc (.cells #[.int .i64 x.kind, .int .u8 x.lo, .int .u8 x.hi, .slice B1 x.kids.length d1] 30)).heap.size (wr.alloc (.cells #[.int .i64 x.kind, .int .u8 x.lo, .int .u8 x.hi, .slice B1 x.kids.length d1] 30)) ((wr.alloc (.cells #[.int .i64 x.kind, .int .u8 x.lo, .int .u8 x.hi, .slice B1 x.kids.length d1] 30)).alloc (.cells #[.int .i64 7, .int .u8 0, .int .u8 0, .slice (some ⟨wr.heap.size, 0, none⟩) 1 1] 30)) := (Below.refl _ _).alloc (Nat.le_refl _) _
        have r15 : Below (wr.alloc (.cells #[.int .i64 x.kind, .int .u8 x.lo, .int .u8 x.hi, .slice B1 x.kids.length d1] 30)).heap.size (wr.alloc (.cells #[.int .i64 x.kind, .int .u8 x.lo, .int .u8 x.hi, .slice B1 x.kids.length d1] 30)) (((((wr.alloc (.cells #[.int .i64 x.kind, .int .u8 x.lo, .int .u8 x.hi, .slice B1 x.kids.length d1] 30)).alloc (.cells #[.int .i64 7, .int .u8 0, .int .u8 0, .slice (some ⟨wr.heap.size, 0, none⟩) 1 1] 30)).alloc (.cells #[.int .i64 2, .int .u8 c, .int .u8 c, .slice none 0 0, .int .i64 y.kind, .int .u8 y.lo, .int .u8 y.hi, .slice B2 y.kids.length d2] 30)).alloc (.cells #[.int .i64 3, .int .u8 0, .int .u8 0, .slice (some ⟨wr.heap.size + 1 + 1, 0, none⟩) 2 2] 30)).alloc (.cells #[.int .i64 x.kind, .int .u8 x.lo, .int .u8 x.hi, .slice B1 x.kids.length d1, .int .i64 y.kind, .int .u8 y.lo, .int .u8 y.hi, .slice B2 y.kids.length d2] 30)) := ((r12.alloc r12.size _).alloc (by simp <;> omega) _).alloc (by simp <;> omega) _
        have r34 : Below (((wr.alloc (.cells #[.int .i64 x.kind, .int .u8 x.lo, .int .u8 x.hi, .slice B1 x.kids.length d1] 30)).alloc (.cells #[.int .i64 7, .int .u8 0, .int .u8 0, .slice (some ⟨wr.heap.size, 0, none⟩) 1 1] 30)).alloc (.cells #[.int .i64 2, .int .u8 c, .int .u8 c, .slice none 0 0, .int .i64 y.kind, .int .u8 y.lo, .int .u8 y.hi, .slice B2 y.kids.length d2] 30)).heap.size (((wr.alloc (.cells #[.int .i64 x.kind, .int .u8 x.lo, .int .u8 x.hi, .slice B1 x.kids.length d1] 30)).alloc (.cells #[.int .i64 7, .int .u8 0, .int .u8 0, .slice (some ⟨wr.heap.size, 0, none⟩) 1 1] 30)).alloc (.cells #[.int .i64 2, .int .u8 c, .int .u8 c, .slice none 0 0, .int .i64 y.kind, .int .u8 y.lo, .int .u8 y.hi, .slice B2 y.kids.length d2] 30)) ((((wr.alloc (.cells #[.int .i64 x.kind, .int .u8 x.lo, .int .u8 x.hi, .slice B1 x.kids.length d1] 30)).alloc (.cells #[.int .i64 7, .int .u8 0, .int .u8 0, .slice (some ⟨wr.heap.size, 0, none⟩) 1 1] 30)).alloc (.cells #[.int .i64 2, .int .u8 c, .int .u8 c, .slice none 0 0, .int .i64 y.kind, .int .u8 y.lo, .int .u8 y.hi, .slice B2 y.kids.length d2] 30)).alloc (.cells #[.int .i64 3, .int .u8 0, .int .u8 0, .slice (some ⟨wr.heap.size + 1 + 1, 0, none⟩) 2 2] 30)) := (Below.refl _ _).alloc (Nat.le_refl _) _
        have r35 : Below (((wr.alloc (.cells #[.int .i64 x.kind, .int .u8 x.lo, .int .u8 x.hi, .slice B1 x.kids.length d1] 30)).alloc (.cells #[.int .i64 7, .int .u8 0, .int .u8 0, .slice (some ⟨wr.heap.size, 0, none⟩) 1 1] 30)).alloc (.cells #[.int .i64 2, .int .u8 c, .int .u8 c, .slice none 0 0, .int .i64 y.kind, .int .u8 y.lo, .int .u8 y.hi, .slice B2 y.kids.length d2] 30)).heap.size (((wr.alloc (.cells #[.int .i64 x.kind, .int .u8 x.lo, .int .u8 x.hi, .slice B1 x.kids.length d1] 30)).alloc (.cells #[.int .i64 7, .int .u8 0, .int .u8 0, .slice (some ⟨wr.heap.size, 0, none⟩) 1 1] 30)).alloc (.cells #[.int .i64 2, .int .u8 c, .int .u8 c, .slice none 0 0, .int .i64 y.kind, .int .u8 y.lo, .int .u8 y.hi, .slice B2 y.kids.length d2] 30)) (((((wr.alloc (.cells #[.int .i64 x.kind, .int .u8 x.lo, .int .u8 x.hi, .slice B1 x.kids.length d1] 30)).alloc (.cells #[.int .i64 7, .int .u8 0, .int .u8 0, .slice (some ⟨wr.heap.size, 0, none⟩) 1 1] 30)).alloc (.cells #[.int .i64 2, .int .u8 c, .int .u8 c, .slice none 0 0, .int .i64 y.kind, .int .u8 y.lo, .int .u8 y.hi, .slice B2 y.kids.length d2] 30)).alloc (.cells #[.int .i64 3, .int .u8 0, .int .u8 0, .slice (some ⟨wr.heap.size + 1 + 1, 0, none⟩) 2 2] 30)).alloc (.cells #[.int .i64 x.kind, .int .u8 x.lo, .int .u8 x.hi, .slice B1 x.kids.length d1, .int .i64 y.kind, .int .u8 y.lo, .int .u8 y.hi, .slice B2 y.kids.length d2] 30)) := r34.alloc r34.size _
        have LS := Lib.hid ((kids_one (ty := 30) (k := 7) (I64.lit ⟨by decide, by decide⟩) LX'.out.now).on r15)
        have LF0 : RtV ((wr.alloc (.cells #[.int .i64 x.kind, .int .u8 x.lo, .int .u8 x.hi, .slice B1 x.kids.length d1] 30)).alloc (.cells #[.int .i64 7, .int .u8 0, .int .u8 0, .slice (some ⟨wr.heap.size, 0, none⟩) 1 1] 30)) (Lo ((wr.alloc (.cells #[.int .i64 x.kind, .int .u8 x.lo, .int .u8 x.hi, .slice B1 x.kids.length d1] 30)).alloc (.cells #[.int .i64 7, .int .u8 0, .int .u8 0, .slice (some ⟨wr.heap.size, 0, none⟩) 1 1] 30)).heap.size) (.node 2 c c []) (rxv (Rx.node 2 c c []).kind (Rx.node 2 c c []).lo (Rx.node 2 c c []).hi none (Rx.node 2 c c []).kids.length 0) := RtV.mk (s := []) ⟨I64.lit ⟨by decide, by decide⟩, HC.out, HC.out, by simp⟩ (Nat.le_refl _) (fun _ => rfl) (by simp only [RtL])
        have LF := Lib.hid ((kids_two (ty := 30) (k := 3) (I64.lit ⟨by decide, by decide⟩) LF0 ((LY'.out.on q2).now)).on r35)
        have LA := Lib.hid (kids_two (ty := 30) (k := 4) (I64.lit ⟨by decide, by decide⟩) ((LX'.out.on q4).now) ((LY'.out.on q4).now))
        have LB := Lib.hid (kids_two (ty := 30) (k := 5) (I64.lit ⟨by decide, by decide⟩) ((LX'.out.on q4).now) ((LY'.out.on q4).now))
        have LN := Lib.hid (kids_first (ty := 30) (k := 6) (I64.lit ⟨by decide, by decide⟩) ((LX'.out.on q4).now) ((LY'.out.on q4).now))
        have LX5 := Lib.hid (LX'.out.on q5)
        have LY5 := Lib.hid (LY'.out.on q5)
        have h2 : ((wr.alloc (.cells #[.int .i64 x.kind, .int .u8 x.lo, .int .u8 x.hi, .slice B1 x.kids.length d1] 30)).alloc (.cells #[.int .i64 7, .int .u8 0, .int .u8 0, .slice (some ⟨wr.heap.size, 0, none⟩) 1 1] 30)).heap.size = wr.heap.size + 1 + 1 := by simp
        have h4 : ((((wr.alloc (.cells #[.int .i64 x.kind, .int .u8 x.lo, .int .u8 x.hi, .slice B1 x.kids.length d1] 30)).alloc (.cells #[.int .i64 7, .int .u8 0, .int .u8 0, .slice (some ⟨wr.heap.size, 0, none⟩) 1 1] 30)).alloc (.cells #[.int .i64 2, .int .u8 c, .int .u8 c, .slice none 0 0, .int .i64 y.kind, .int .u8 y.lo, .int .u8 y.hi, .slice B2 y.kids.length d2] 30)).alloc (.cells #[.int .i64 3, .int .u8 0, .int .u8 0, .slice (some ⟨wr.heap.size + 1 + 1, 0, none⟩) 2 2] 30)).heap.size = wr.heap.size + 1 + 1 + 1 + 1 := by simp
        have TS := Lib.hid (fun W (hb : Below (((((wr.alloc (.cells #[.int .i64 x.kind, .int .u8 x.lo, .int .u8 x.hi, .slice B1 x.kids.length d1] 30)).alloc (.cells #[.int .i64 7, .int .u8 0, .int .u8 0, .slice (some ⟨wr.heap.size, 0, none⟩) 1 1] 30)).alloc (.cells #[.int .i64 2, .int .u8 c, .int .u8 c, .slice none 0 0, .int .i64 y.kind, .int .u8 y.lo, .int .u8 y.hi, .slice B2 y.kids.length d2] 30)).alloc (.cells #[.int .i64 3, .int .u8 0, .int .u8 0, .slice (some ⟨wr.heap.size + 1 + 1, 0, none⟩) 2 2] 30)).alloc (.cells #[.int .i64 x.kind, .int .u8 x.lo, .int .u8 x.hi, .slice B1 x.kids.length d1, .int .i64 y.kind, .int .u8 y.lo, .int .u8 y.hi, .slice B2 y.kids.length d2] 30)).heap.size (((((wr.alloc (.cells #[.int .i64 x.kind, .int .u8 x.lo, .int .u8 x.hi, .slice B1 x.kids.length d1] 30)).alloc (.cells #[.int .i64 7, .int .u8 0, .int .u8 0, .slice (some ⟨wr.heap.size, 0, none⟩) 1 1] 30)).alloc (.cells #[.int .i64 2, .int .u8 c, .int .u8 c, .slice none 0 0, .int .i64 y.kind, .int .u8 y.lo, .int .u8 y.hi, .slice B2 y.kids.length d2] 30)).alloc (.cells #[.int .i64 3, .int .u8 0, .int .u8 0, .slice (some ⟨wr.heap.size + 1 + 1, 0, none⟩) 2 2] 30)).alloc (.cells #[.int .i64 x.kind, .int .u8 x.lo, .int .u8 x.hi, .slice B1 x.kids.length d1, .int .i64 y.kind, .int .u8 y.lo, .int .u8 y.hi, .slice B2 y.kids.length d2] 30)) W) => four (((hb.block (wr.heap.size + 1) (by simp <;> omega)).trans ((heap_alloc_old _ _ _ (by simp <;> omega)).trans ((heap_alloc_old _ _ _ (by simp <;> omega)).trans ((heap_alloc_old _ _ _ (by simp <;> omega)).trans (heap_alloc_new_at _ _ (by simp)))))) : W.heap[wr.heap.size + 1]? = some (.cells #[.int .i64 7, .int .u8 0, .int .u8 0, .slice (some ⟨wr.heap.size, 0, none⟩) 1 1] 30 (0, 0))))
        have TF := Lib.hid (fun W (hb : Below (((((wr.alloc (.cells #[.int .i64 x.kind, .int .u8 x.lo, .int .u8 x.hi, .slice B1 x.kids.length d1] 30)).alloc (.cells #[.int .i64 7, .int .u8 0, .int .u8 0, .slice (some ⟨wr.heap.size, 0, none⟩) 1 1] 30)).alloc (.cells #[.int .i64 2, .int .u8 c, .int .u8 c, .slice none 0 0, .int .i64 y.kind, .int .u8 y.lo, .int .u8 y.hi, .slice B2 y.kids.length d2] 30)).alloc (.cells #[.int .i64 3, .int .u8 0, .int .u8 0, .slice (some ⟨wr.heap.size + 1 + 1, 0, none⟩) 2 2] 30)).alloc (.cells #[.int .i64 x.kind, .int .u8 x.lo, .int .u8 x.hi, .slice B1 x.kids.length d1, .int .i64 y.kind, .int .u8 y.lo, .int .u8 y.hi, .slice B2 y.kids.length d2] 30)).heap.size (((((wr.alloc (.cells #[.int .i64 x.kind, .int .u8 x.lo, .int .u8 x.hi, .slice B1 x.kids.length d1] 30)).alloc (.cells #[.int .i64 7, .int .u8 0, .int .u8 0, .slice (some ⟨wr.heap.size, 0, none⟩) 1 1] 30)).alloc (.cells #[.int .i64 2, .int .u8 c, .int .u8 c, .slice none 0 0, .int .i64 y.kind, .int .u8 y.lo, .int .u8 y.hi, .slice B2 y.kids.length d2] 30)).alloc (.cells #[.int .i64 3, .int .u8 0, .int .u8 0, .slice (some ⟨wr.heap.size + 1 + 1, 0, none⟩) 2 2] 30)).alloc (.cells #[.int .i64 x.kind, .int .u8 x.lo, .int .u8 x.hi, .slice B1 x.kids.length d1, .int .i64 y.kind, .int .u8 y.lo, .int .u8 y.hi, .slice B2 y.kids.length d2] 30)) W) => four (((hb.block (wr.heap.size + 1 + 1 + 1) (by simp <;> omega)).trans ((heap_alloc_old _ _ _ (by simp <;> omega)).trans (heap_alloc_new_at _ _ (by simp)))) : W.heap[wr.heap.size + 1 + 1 + 1]? = some (.cells #[.int .i64 3, .int .u8 0, .int .u8 0, .slice (some ⟨wr.heap.size + 1 + 1, 0, none⟩) 2 2] 30 (0, 0))))
        have TX5 := Lib.hid (fun W (hb : Below (((((wr.alloc (.cells #[.int .i64 x.kind, .int .u8 x.lo, .int .u8 x.hi, .slice B1 x.kids.length d1] 30)).alloc (.cells #[.int .i64 7, .int .u8 0, .int .u8 0, .slice (some ⟨wr.heap.size, 0, none⟩) 1 1] 30)).alloc (.cells #[.int .i64 2, .int .u8 c, .int .u8 c, .slice none 0 0, .int .i64 y.kind, .int .u8 y.lo, .int .u8 y.hi, .slice B2 y.kids.length d2] 30)).alloc (.cells #[.int .i64 3, .int .u8 0, .int .u8 0, .slice (some ⟨wr.heap.size + 1 + 1, 0, none⟩) 2 2] 30)).alloc (.cells #[.int .i64 x.kind, .int .u8 x.lo, .int .u8 x.hi, .slice B1 x.kids.length d1, .int .i64 y.kind, .int .u8 y.lo, .int .u8 y.hi, .slice B2 y.kids.length d2] 30)).heap.size (((((wr.alloc (.cells #[.int .i64 x.kind, .int .u8 x.lo, .int .u8 x.hi, .slice B1 x.kids.length d1] 30)).alloc (.cells #[.int .i64 7, .int .u8 0, .int .u8 0, .slice (some ⟨wr.heap.size, 0, none⟩) 1 1] 30)).alloc (.cells #[.int .i64 2, .int .u8 c, .int .u8 c, .slice none 0 0, .int .i64 y.kind, .int .u8 y.lo, .int .u8 y.hi, .slice B2 y.kids.length d2] 30)).alloc (.cells #[.int .i64 3, .int .u8 0, .int .u8 0, .slice (some ⟨wr.heap.size + 1 + 1, 0, none⟩) 2 2] 30)).alloc (.cells #[.int .i64 x.kind, .int .u8 x.lo, .int .u8 x.hi, .slice B1 x.kids.length d1, .int .i64 y.kind, .int .u8 y.lo, .int .u8 y.hi, .slice B2 y.kids.length d2] 30)) W) => TX.out W (hW.trans ((q5.trans (hb.mono q5.size)).mono hwr)))
        have TY5 := Lib.hid (fun W (hb : Below (((((wr.alloc (.cells #[.int .i64 x.kind, .int .u8 x.lo, .int .u8 x.hi, .slice B1 x.kids.length d1] 30)).alloc (.cells #[.int .i64 7, .int .u8 0, .int .u8 0, .slice (some ⟨wr.heap.size, 0, none⟩) 1 1] 30)).alloc (.cells #[.int .i64 2, .int .u8 c, .int .u8 c, .slice none 0 0, .int .i64 y.kind, .int .u8 y.lo, .int .u8 y.hi, .slice B2 y.kids.length d2] 30)).alloc (.cells #[.int .i64 3, .int .u8 0, .int .u8 0, .slice (some ⟨wr.heap.size + 1 + 1, 0, none⟩) 2 2] 30)).alloc (.cells #[.int .i64 x.kind, .int .u8 x.lo, .int .u8 x.hi, .slice B1 x.kids.length d1, .int .i64 y.kind, .int .u8 y.lo, .int .u8 y.hi, .slice B2 y.kids.length d2] 30)).heap.size (((((wr.alloc (.cells #[.int .i64 x.kind, .int .u8 x.lo, .int .u8 x.hi, .slice B1 x.kids.length d1] 30)).alloc (.cells #[.int .i64 7, .int .u8 0, .int .u8 0, .slice (some ⟨wr.heap.size, 0, none⟩) 1 1] 30)).alloc (.cells #[.int .i64 2, .int .u8 c, .int .u8 c, .slice none 0 0, .int .i64 y.kind, .int .u8 y.lo, .int .u8 y.hi, .slice B2 y.kids.length d2] 30)).alloc (.cells #[.int .i64 3, .int .u8 0, .int .u8 0, .slice (some ⟨wr.heap.size + 1 + 1, 0, none⟩) 2 2] 30)).alloc (.cells #[.int .i64 x.kind, .int .u8 x.lo, .int .u8 x.hi, .slice B1 x.kids.length d1, .int .i64 y.kind, .int .u8 y.lo, .int .u8 y.hi, .slice B2 y.kids.length d2] 30)) W) => TY.out W (hW.trans ((q5.trans (hb.mono q5.size)).mono hwr)))
        have hw5 := Lib.hid (hwB.out.trans ((hW.trans (q5.mono hwr)).mono hwB.out.size))
        clear q0 q1 q2 q3 q4 q5 r12 r15 r34 r35 LF0
        rw [h4] at LA LB LN
        rw [h2] at LF
        go_wp2_with fail
        obtain ⟨wK, hwK⟩ : ∃ wK, (((((wr.alloc (.cells #[.int .i64 x.kind, .int .u8 x.lo, .int .u8 x.hi, .slice B1 x.kids.length d1] 30)).alloc (.cells #[.int .i64 7, .int .u8 0, .int .u8 0, .slice (some ⟨wr.heap.size, 0, none⟩) 1 1] 30)).alloc (.cells #[.int .i64 2, .int .u8 c, .int .u8 c, .slice none 0 0, .int .i64 y.kind, .int .u8 y.lo, .int .u8 y.hi, .slice B2 y.kids.length d2] 30)).alloc (.cells #[.int .i64 3, .int .u8 0, .int .u8 0, .slice (some ⟨wr.heap.size + 1 + 1, 0, none⟩) 2 2] 30)).alloc (.cells #[.int .i64 x.kind, .int .u8 x.lo, .int .u8 x.hi, .slice B1 x.kids.length d1, .int .i64 y.kind, .int .u8 y.lo, .int .u8 y.hi, .slice B2 y.kids.length d2] 30)) = wK := ⟨_, rfl⟩
        rw [hwK] at LS LF LA LB LN LX5 LY5 TS TF TX5 TY5 hw5 ⊢
        clear hwK a0 a1 a2 a3 b0 b1 b2 b3 e0 e1 e2 e3 f0 f1 f2 f3 g0 g1 g2 g3 h2 h4 LX' LY' hwr LX LY TX TY
        have hS64 := Lib.hid (show S.size ≤ 64 by have := hS60.out; omega)
        have HX := Lib.hid (And.intro hx hxn)
        have HY := Lib.hid (And.intro hy hyn)
        clear hx hxn hy hyn hW hwB
        refine Calls.mono (match_ok x _ _ S (by have := HX.out.2; omega) HX.out.1 hS64.out (LX5.out _ (Below.refl _ _))) ?_
        rintro e m1 ⟨r1, rfl, hr1, hm1⟩
        have k1 := hm1
        obtain ⟨b0, b1, b2, b3⟩ := TY5.out _ k1
        go_wp2_with fail
        clear b0 b1 b2 b3
        refine Calls.mono (match_ok y _ _ S (by have := HY.out.2; omega) HY.out.1 hS64.out (LY5.out _ k1)) ?_
        rintro e m2 ⟨r2, rfl, hr2, hm2⟩
        have k2 := k1.trans (hm2.mono k1.size)
        go_wp2_with fail
        refine Calls.mono (match_ok (.node 4 0 0 [x, y]) _ _ S (by have := HX.out.2; have := HY.out.2; simp [nodes, nodesL]; omega) (by simp [wfR, wfL, HX.out.1, HY.out.1]) hS64.out (LA.out _ k2)) ?_
        rintro e m3 ⟨r3, rfl, hr3, hm3⟩
        have k3 := k2.trans (hm3.mono k2.size)
        go_wp2_with fail
        refine Calls.mono (match_ok (.node 5 0 0 [x, y]) _ _ S (by have := HX.out.2; have := HY.out.2; simp [nodes, nodesL]; omega) (by simp [wfR, wfL, HX.out.1, HY.out.1]) hS64.out (LB.out _ k3)) ?_
        rintro e m4 ⟨r4, rfl, hr4, hm4⟩
        have k4 := k3.trans (hm4.mono k3.size)
        go_wp2_with fail
        refine Calls.mono (match_ok (.node 6 0 0 [x]) _ _ S (by have := HX.out.2; simp [nodes, nodesL]; omega) (by simp [wfR, wfL, HX.out.1]) hS64.out (LN.out _ k4)) ?_
        rintro e m5 ⟨r5, rfl, hr5, hm5⟩
        have k5 := k4.trans (hm5.mono k4.size)
        obtain ⟨b0, b1, b2, b3⟩ := TS.out _ k5
        go_wp2_with fail
        clear b0 b1 b2 b3
        refine Calls.mono (match_ok (.node 7 0 0 [x]) _ _ S (by have := HX.out.2; simp [nodes, nodesL]; omega) (by simp [wfR, wfL, HX.out.1]) hS64.out (LS.out _ k5)) ?_
        rintro e m6 ⟨r6, rfl, hr6, hm6⟩
        have k6 := k5.trans (hm6.mono k5.size)
        obtain ⟨a0, a1, a2, a3⟩ := TX5.out _ k6
        obtain ⟨b0, b1, b2, b3⟩ := TS.out _ k6
        have L7 := Lib.hid (kids_two (ty := 30) (k := 3) (I64.lit ⟨by decide, by decide⟩) (LX5.out _ k6) (y := .node 7 0 0 [x]) (LS.out _ k6))
        have k6' := k6.alloc k6.size (.cells #[.int .i64 x.kind, .int .u8 x.lo, .int .u8 x.hi, .slice B1 x.kids.length d1, .int .i64 7, .int .u8 0, .int .u8 0, .slice (some ⟨wr.heap.size, 0, none⟩) 1 1] 30)
        go_wp2_with fail
        clear a0 a1 a2 a3 b0 b1 b2 b3
        refine Calls.mono (match_ok (.node 3 0 0 [x, .node 7 0 0 [x]]) _ _ S (by have := HX.out.2; simp [nodes, nodesL]; omega) (by simp [wfR, wfL, HX.out.1]) hS64.out L7.out.now) ?_
        rintro e m7 ⟨r7, rfl, hr7, hm7⟩
        have k7 := k6'.trans (hm7.mono k6'.size)
        obtain ⟨b0, b1, b2, b3⟩ := TF.out _ k7
        obtain ⟨T, hTe⟩ : ∃ T, strOfNums [c] = T := ⟨_, rfl⟩
        have hTs : T.size = 1 := by rw [← hTe, str_size]; rfl
        have hTb := Lib.hid (show sb T = [c] by rw [← hTe]; exact sb_of_nums (fun z hz => by obtain rfl := List.mem_singleton.1 hz; exact HC.out))
        have hcv := conv_row (some ⟨m7.heap.size, 0, none⟩) 1 1 [c] (m7.alloc (.cells #[.int .u8 c] 5)) _ rfl (rd_new m7 .u8 5 _ [c] rfl (m7.heap.size + 1) (by omega))
        rw [hTe] at hcv
        have hadd : ¬ (9223372036854775807 < T.size + S.size) := by have := hS64.out; omega
        have k7' := k7.alloc k7.size (.cells #[.int .u8 c] 5)
        go_wp2_with fail
        clear b0 b1 b2 b3 hcv
        refine Calls.mono (match_ok (.node 3 0 0 [.node 2 c c [], y]) _ _ (T ++ S) (by have := HY.out.2; simp [nodes, nodesL]; omega) (by simp [wfR, wfL, HY.out.1]) (by rw [ByteArray.size_append, hTs]; have := hS60.out; omega) (LF.out _ k7')) ?_
        rintro e m8 ⟨r8, rfl, hr8, hm8⟩
        have k8 := k7'.trans (hm8.mono k7'.size)
        obtain ⟨b0, b1, b2, b3⟩ := TF.out _ k8
        obtain ⟨c', hc'⟩ : ∃ c', IntKind.u8.wrap (c + 1) = c' := ⟨_, rfl⟩
        have hne : Hid (c ≠ c' ∧ 0 ≤ c' ∧ c' < 256) := Lib.hid (by rw [← hc', IntKind.wrap_u8]; have := HC.out; omega)
        obtain ⟨T2, hTe2⟩ : ∃ T2, strOfNums [c'] = T2 := ⟨_, rfl⟩
        have hTs2 : T2.size = 1 := by rw [← hTe2, str_size]; rfl
        have hTb2 := Lib.hid (show sb T2 = [c'] by rw [← hTe2]; exact sb_of_nums (fun z hz => by obtain rfl := List.mem_singleton.1 hz; exact hne.out.2))
        have hcv := conv_row (some ⟨m8.heap.size, 0, none⟩) 1 1 [c'] (m8.alloc (.cells #[.int .u8 c'] 5)) _ rfl (rd_new m8 .u8 5 _ [c'] rfl (m8.heap.size + 1) (by omega))
        rw [hTe2] at hcv
        have hadd2 : ¬ (9223372036854775807 < T2.size + S.size) := by have := hS64.out; omega
        have k8' := k8.alloc k8.size (.cells #[.int .u8 c'] 5)
        go_wp2_with fail
        clear b0 b1 b2 b3 hcv
        refine Calls.mono (match_ok (.node 3 0 0 [.node 2 c c [], y]) _ _ (T2 ++ S) (by have := HY.out.2; simp [nodes, nodesL]; omega) (by simp [wfR, wfL, HY.out.1]) (by rw [ByteArray.size_append, hTs2]; have := hS60.out; omega) (LF.out _ k8')) ?_
        rintro e m9 ⟨r9, rfl, hr9, hm9⟩
        have k9 := k8'.trans (hm9.mono k8'.size)
        have B3 : r3 = (r1 || r2) := bool_eq (hr3.trans (mt_alt2.trans (by rw [Bool.or_eq_true, hr1, hr2])))
        have B4 : r4 = (r1 && r2) := bool_eq (hr4.trans (mt_all2.trans (by rw [Bool.and_eq_true, hr1, hr2])))
        have B5 : r5 = !r1 := bool_eq (hr5.trans (mt_not1.trans (by rw [Bool.not_eq_true', ← hr1, Bool.not_eq_true])))
        have B6 : r6 = (decide (S.size = 0) || r7) := bool_eq (hr6.trans (star_more.trans (by rw [Bool.or_eq_true, hr7, decide_eq_true_iff])))
        have B8 : r8 = r2 := bool_eq (hr8.trans ((first_led (S := S) hTb.out).trans (by rw [hr2]; exact ⟨fun h => h.2, fun h => ⟨rfl, h⟩⟩)))
        have B9 : r9 = false := Bool.eq_false_iff.2 fun h => hne.out.1 ((first_led (S := S) hTb2.out).1 (hr9.1 h)).1
        clear hr1 hr2 hr3 hr4 hr5 hr6 hr7 hr8 hr9 LS LF LA LB LN LX5 LY5 TS TF TX5 TY5 L7 hTb hTb2 hne
        subst B3 B4 B5 B6 B8 B9
        have hb9 := hw5.out.trans (k9.mono hw5.out.size)
        clear k1 k2 k3 k4 k5 k6 k6' k7 k7' k8 k8' k9 hm1 hm2 hm3 hm4 hm5 hm6 hm7 hm8 hm9
        go_wp2_with fail
        obtain ⟨mE, hmE⟩ : ∃ mE, m9.alloc (.cells #[.int .i64 0, .int .i64 0, .int .i64 0, .int .i64 0, .int .i64 0, .int .i64 0, .int .i64 0, .int .i64 0] 31) = mE := ⟨_, rfl⟩
        have hcE : ∀ q, q < 8 → mE.cell? ⟨m9.heap.size, q, none⟩ = some (.int .i64 0) := fun q hq => by
          rw [← hmE, cell_of_row _ _ q _ _ (0, 0) (heap_alloc_new m9 _)]
          obtain rfl | rfl | rfl | rfl | rfl | rfl | rfl | rfl : q = 0 ∨ q = 1 ∨ q = 2 ∨ q = 3 ∨ q = 4 ∨ q = 5 ∨ q = 6 ∨ q = 7 := by omega
          all_goals rfl
        have hbE : Below w.heap.size w mE := by rw [← hmE]; exact hb9.alloc hb9.size _
        rw [hmE]
        clear hmE hb9
        have HCE := Lib.hid hcE
        have HBE := Lib.hid hbE
        clear hcE hbE
        go_loopw [35] (fun iv wq => ∃ q : Nat, q ≤ 8 ∧ iv = .int .i64 q ∧ wq = mE) (fun iv _ => 8 - (intOf iv).toNat)
        case atStart => exact ⟨0, by omega, rfl, rfl⟩
        case round =>
          obtain ⟨q, hq, rfl, rfl⟩ := hrel
          by_cases hq8 : q < 8
          · have hq8' : (q : Int) < 8 := by omega
            have hcq := HCE.out q hq8
            go_wp2_with fail
            go_roundw
            case rel => exact ⟨q + 1, by omega, by go_num, by trivial⟩
            case measure => simp [intOf]; omega
          · have hq8' : ¬ (q : Int) < 8 := by omega
            have hLv := Lib.hid (HL.out _ HBE.out)
            by_cases hSe : S = ByteArray.empty
            · subst hSe
              cases r1 <;> cases r8 <;> cases r7
              all_goals go_wp2_with (first | (go_at_call 20; refine Calls.mono hLv.out ?_; rintro e wz ⟨rfl, hbz⟩))
              all_goals (go_ret; exact ⟨rfl, HBE.out.trans (hbz.mono HBE.out.size)⟩)
            · rw [decide_eq_false hSe]
              have hst : (S.toList == []) = false := str_ne hSe
              cases r1 <;> cases r8 <;> cases r7
              all_goals go_wp2_with (first | (go_at_call 20; refine Calls.mono hLv.out ?_; rintro e wz ⟨rfl, hbz⟩))
              all_goals (go_ret; exact ⟨rfl, HBE.out.trans (hbz.mono HBE.out.size)⟩)
    · have hlt' : ¬ (j : Int) < n3 := by omega
      have hlt2 : decide ((j : Int) < n3) = false := decide_eq_false hlt'
      have hS60 := Lib.hid (Nat.le_trans hS.out (show 5 * j ≤ 60 by omega))
      have LX' := Lib.hid (LX.out.on hW)
      have LY' := Lib.hid (LY.out.on hW)
      have hwr := hW.size
      have q0 : Below wr.heap.size wr wr := Below.refl _ _
      have q1 : Below wr.heap.size wr (wr.alloc (.cells #[.int .i64 x.kind, .int .u8 x.lo, .int .u8 x.hi, .slice B1 x.kids.length d1] 30)) := q0.alloc (Nat.le_refl _) _
      have q2 : Below wr.heap.size wr ((wr.alloc (.cells #[.int .i64 x.kind, .int .u8 x.lo, .int .u8 x.hi, .slice B1 x.kids.length d1] 30)).alloc (.cells #[.int .i64 7, .int .u8 0, .int .u8 0, .slice (some ⟨wr.heap.size, 0, none⟩) 1 1] 30)) := q1.alloc (by simp) _
      have q3 : Below wr.heap.size wr (((wr.alloc (.cells #[.int .i64 x.kind, .int .u8 x.lo, .int .u8 x.hi, .slice B1 x.kids.length d1] 30)).alloc (.cells #[.int .i64 7, .int .u8 0, .int .u8 0, .slice (some ⟨wr.heap.size, 0, none⟩) 1 1] 30)).alloc (.cells #[.int .i64 2, .int .u8 c, .int .u8 c, .slice none 0 0, .int .i64 y.kind, .int .u8 y.lo, .int .u8 y.hi, .slice B2 y.kids.length d2] 30)) := q2.alloc (by simp <;> omega) _
      have q4 : Below wr.heap.size wr ((((wr.alloc (.cells #[.int .i64 x.kind, .int .u8 x.lo, .int .u8 x.hi, .slice B1 x.kids.length d1] 30)).alloc (.cells #[.int .i64 7, .int .u8 0, .int .u8 0, .slice (some ⟨wr.heap.size, 0, none⟩) 1 1] 30)).alloc (.cells #[.int .i64 2, .int .u8 c, .int .u8 c, .slice none 0 0, .int .i64 y.kind, .int .u8 y.lo, .int .u8 y.hi, .slice B2 y.kids.length d2] 30)).alloc (.cells #[.int .i64 3, .int .u8 0, .int .u8 0, .slice (some ⟨wr.heap.size + 1 + 1, 0, none⟩) 2 2] 30)) := q3.alloc (by simp <;> omega) _
      have q5 : Below wr.heap.size wr (((((wr.alloc (.cells #[.int .i64 x.kind, .int .u8 x.lo, .int .u8 x.hi, .slice B1 x.kids.length d1] 30)).alloc (.cells #[.int .i64 7, .int .u8 0, .int .u8 0, .slice (some ⟨wr.heap.size, 0, none⟩) 1 1] 30)).alloc (.cells #[.int .i64 2, .int .u8 c, .int .u8 c, .slice none 0 0, .int .i64 y.kind, .int .u8 y.lo, .int .u8 y.hi, .slice B2 y.kids.length d2] 30)).alloc (.cells #[.int .i64 3, .int .u8 0, .int .u8 0, .slice (some ⟨wr.heap.size + 1 + 1, 0, none⟩) 2 2] 30)).alloc (.cells #[.int .i64 x.kind, .int .u8 x.lo, .int .u8 x.hi, .slice B1 x.kids.length d1, .int .i64 y.kind, .int .u8 y.lo, .int .u8 y.hi, .slice B2 y.kids.length d2] 30)) := q4.alloc (by simp <;> omega) _
      obtain ⟨a0, a1, a2, a3⟩ := TX.out wr hW
      obtain ⟨b0, b1, b2, b3⟩ := TY.out _ (hW.trans (q2.mono hwr))
      obtain ⟨e0, e1, e2, e3⟩ := TX.out _ (hW.trans (q4.mono hwr))
      obtain ⟨f0, f1, f2, f3⟩ := TY.out _ (hW.trans (q4.mono hwr))
      obtain ⟨g0, g1, g2, g3⟩ := TX.out _ (hW.trans (q5.mono hwr))
      have r12 : Below (wr.alloc (.cells #[.int .i64 x.kind, .int .u8 x.lo, .int .u8 x.hi, .slice B1 x.kids.length d1] 30)).heap.size (wr.alloc (.cells #[.int .i64 x.kind, .int .u8 x.lo, .int .u8 x.hi, .slice B1 x.kids.length d1] 30)) ((wr.alloc (.cells #[.int .i64 x.kind, .int .u8 x.lo, .int .u8 x.hi, .slice B1 x.kids.length d1] 30)).alloc (.cells #[.int .i64 7, .int .u8 0, .int .u8 0, .slice (some ⟨wr.heap.size, 0, none⟩) 1 1] 30)) := (Below.refl _ _).alloc (Nat.le_refl _) _
      have r15 : Below (wr.alloc (.cells #[.int .i64 x.kind, .int .u8 x.lo, .int .u8 x.hi, .slice B1 x.kids.length d1] 30)).heap.size (wr.alloc (.cells #[.int .i64 x.kind, .int .u8 x.lo, .int .u8 x.hi, .slice B1 x.kids.length d1] 30)) (((((wr.alloc (.cells #[.int .i64 x.kind, .int .u8 x.lo, .int .u8 x.hi, .slice B1 x.kids.length d1] 30)).alloc (.cells #[.int .i64 7, .int .u8 0, .int .u8 0, .slice (some ⟨wr.heap.size, 0, none⟩) 1 1] 30)).alloc (.cells #[.int .i64 2, .int .u8 c, .int .u8 c, .slice none 0 0, .int .i64 y.kind, .int .u8 y.lo, .int .u8 y.hi, .slice B2 y.kids.length d2] 30)).alloc (.cells #[.int .i64 3, .int .u8 0, .int .u8 0, .slice (some ⟨wr.heap.size + 1 + 1, 0, none⟩) 2 2] 30)).alloc (.cells #[.int .i64 x.kind, .int .u8 x.lo, .int .u8 x.hi, .slice B1 x.kids.length d1, .int .i64 y.kind, .int .u8 y.lo, .int .u8 y.hi, .slice B2 y.kids.length d2] 30)) := ((r12.alloc r12.size _).alloc (by simp <;> omega) _).alloc (by simp <;> omega) _
      have r34 : Below (((wr.alloc (.cells #[.int .i64 x.kind, .int .u8 x.lo, .int .u8 x.hi, .slice B1 x.kids.length d1] 30)).alloc (.cells #[.int .i64 7, .int .u8 0, .int .u8 0, .slice (some ⟨wr.heap.size, 0, none⟩) 1 1] 30)).alloc (.cells #[.int .i64 2, .int .u8 c, .int .u8 c, .slice none 0 0, .int .i64 y.kind, .int .u8 y.lo, .int .u8 y.hi, .slice B2 y.kids.length d2] 30)).heap.size (((wr.alloc (.cells #[.int .i64 x.kind, .int .u8 x.lo, .int .u8 x.hi, .slice B1 x.kids.length d1] 30)).alloc (.cells #[.int .i64 7, .int .u8 0, .int .u8 0, .slice (some ⟨wr.heap.size, 0, none⟩) 1 1] 30)).alloc (.cells #[.int .i64 2, .int .u8 c, .int .u8 c, .slice none 0 0, .int .i64 y.kind, .int .u8 y.lo, .int .u8 y.hi, .slice B2 y.kids.length d2] 30)) ((((wr.alloc (.cells #[.int .i64 x.kind, .int .u8 x.lo, .int .u8 x.hi, .slice B1 x.kids.length d1] 30)).alloc (.cells #[.int .i64 7, .int .u8 0, .int .u8 0, .slice (some ⟨wr.heap.size, 0, none⟩) 1 1] 30)).alloc (.cells #[.int .i64 2, .int .u8 c, .int .u8 c, .slice none 0 0, .int .i64 y.kind, .int .u8 y.lo, .int .u8 y.hi, .slice B2 y.kids.length d2] 30)).alloc (.cells #[.int .i64 3, .int .u8 0, .int .u8 0, .slice (some ⟨wr.heap.size + 1 + 1, 0, none⟩) 2 2] 30)) := (Below.refl _ _).alloc (Nat.le_refl _) _
      have r35 : Below (((wr.alloc (.cells #[.int .i64 x.kind, .int .u8 x.lo, .int .u8 x.hi, .slice B1 x.kids.length d1] 30)).alloc (.cells #[.int .i64 7, .int .u8 0, .int .u8 0, .slice (some ⟨wr.heap.size, 0, none⟩) 1 1] 30)).alloc (.cells #[.int .i64 2, .int .u8 c, .int .u8 c, .slice none 0 0, .int .i64 y.kind, .int .u8 y.lo, .int .u8 y.hi, .slice B2 y.kids.length d2] 30)).heap.size (((wr.alloc (.cells #[.int .i64 x.kind, .int .u8 x.lo, .int .u8 x.hi, .slice B1 x.kids.length d1] 30)).alloc (.cells #[.int .i64 7, .int .u8 0, .int .u8 0, .slice (some ⟨wr.heap.size, 0, none⟩) 1 1] 30)).alloc (.cells #[.int .i64 2, .int .u8 c, .int .u8 c, .slice none 0 0, .int .i64 y.kind, .int .u8 y.lo, .int .u8 y.hi, .slice B2 y.kids.length d2] 30)) (((((wr.alloc (.cells #[.int .i64 x.kind, .int .u8 x.lo, .int .u8 x.hi, .slice B1 x.kids.length d1] 30)).alloc (.cells #[.int .i64 7, .int .u8 0, .int .u8 0, .slice (some ⟨wr.heap.size, 0, none⟩) 1 1] 30)).alloc (.cells #[.int .i64 2, .int .u8 c, .int .u8 c, .slice none 0 0, .int .i64 y.kind, .int .u8 y.lo, .int .u8 y.hi, .slice B2 y.kids.length d2] 30)).alloc (.cells #[.int .i64 3, .int .u8 0, .int .u8 0, .slice (some ⟨wr.heap.size + 1 + 1, 0, none⟩) 2 2] 30)).alloc (.cells #[.int .i64 x.kind, .int .u8 x.lo, .int .u8 x.hi, .slice B1 x.kids.length d1, .int .i64 y.kind, .int .u8 y.lo, .int .u8 y.hi, .slice B2 y.kids.length d2] 30)) := r34.alloc r34.size _
      have LS := Lib.hid ((kids_one (ty := 30) (k := 7) (I64.lit ⟨by decide, by decide⟩) LX'.out.now).on r15)
      have LF0 : RtV ((wr.alloc (.cells #[.int .i64 x.kind, .int .u8 x.lo, .int .u8 x.hi, .slice B1 x.kids.length d1] 30)).alloc (.cells #[.int .i64 7, .int .u8 0, .int .u8 0, .slice (some ⟨wr.heap.size, 0, none⟩) 1 1] 30)) (Lo ((wr.alloc (.cells #[.int .i64 x.kind, .int .u8 x.lo, .int .u8 x.hi, .slice B1 x.kids.length d1] 30)).alloc (.cells #[.int .i64 7, .int .u8 0, .int .u8 0, .slice (some ⟨wr.heap.size, 0, none⟩) 1 1] 30)).heap.size) (.node 2 c c []) (rxv (Rx.node 2 c c []).kind (Rx.node 2 c c []).lo (Rx.node 2 c c []).hi none (Rx.node 2 c c []).kids.length 0) := RtV.mk (s := []) ⟨I64.lit ⟨by decide, by decide⟩, HC.out, HC.out, by simp⟩ (Nat.le_refl _) (fun _ => rfl) (by simp only [RtL])
      have LF := Lib.hid ((kids_two (ty := 30) (k := 3) (I64.lit ⟨by decide, by decide⟩) LF0 ((LY'.out.on q2).now)).on r35)
      have LA := Lib.hid (kids_two (ty := 30) (k := 4) (I64.lit ⟨by decide, by decide⟩) ((LX'.out.on q4).now) ((LY'.out.on q4).now))
      have LB := Lib.hid (kids_two (ty := 30) (k := 5) (I64.lit ⟨by decide, by decide⟩) ((LX'.out.on q4).now) ((LY'.out.on q4).now))
      have LN := Lib.hid (kids_first (ty := 30) (k := 6) (I64.lit ⟨by decide, by decide⟩) ((LX'.out.on q4).now) ((LY'.out.on q4).now))
      have LX5 := Lib.hid (LX'.out.on q5)
      have LY5 := Lib.hid (LY'.out.on q5)
      have h2 : ((wr.alloc (.cells #[.int .i64 x.kind, .int .u8 x.lo, .int .u8 x.hi, .slice B1 x.kids.length d1] 30)).alloc (.cells #[.int .i64 7, .int .u8 0, .int .u8 0, .slice (some ⟨wr.heap.size, 0, none⟩) 1 1] 30)).heap.size = wr.heap.size + 1 + 1 := by simp
      have h4 : ((((wr.alloc (.cells #[.int .i64 x.kind, .int .u8 x.lo, .int .u8 x.hi, .slice B1 x.kids.length d1] 30)).alloc (.cells #[.int .i64 7, .int .u8 0, .int .u8 0, .slice (some ⟨wr.heap.size, 0, none⟩) 1 1] 30)).alloc (.cells #[.int .i64 2, .int .u8 c, .int .u8 c, .slice none 0 0, .int .i64 y.kind, .int .u8 y.lo, .int .u8 y.hi, .slice B2 y.kids.length d2] 30)).alloc (.cells #[.int .i64 3, .int .u8 0, .int .u8 0, .slice (some ⟨wr.heap.size + 1 + 1, 0, none⟩) 2 2] 30)).heap.size = wr.heap.size + 1 + 1 + 1 + 1 := by simp
      have TS := Lib.hid (fun W (hb : Below (((((wr.alloc (.cells #[.int .i64 x.kind, .int .u8 x.lo, .int .u8 x.hi, .slice B1 x.kids.length d1] 30)).alloc (.cells #[.int .i64 7, .int .u8 0, .int .u8 0, .slice (some ⟨wr.heap.size, 0, none⟩) 1 1] 30)).alloc (.cells #[.int .i64 2, .int .u8 c, .int .u8 c, .slice none 0 0, .int .i64 y.kind, .int .u8 y.lo, .int .u8 y.hi, .slice B2 y.kids.length d2] 30)).alloc (.cells #[.int .i64 3, .int .u8 0, .int .u8 0, .slice (some ⟨wr.heap.size + 1 + 1, 0, none⟩) 2 2] 30)).alloc (.cells #[.int .i64 x.kind, .int .u8 x.lo, .int .u8 x.hi, .slice B1 x.kids.length d1, .int .i64 y.kind, .int .u8 y.lo, .int .u8 y.hi, .slice B2 y.kids.length d2] 30)).heap.size (((((wr.alloc (.cells #[.int .i64 x.kind, .int .u8 x.lo, .int .u8 x.hi, .slice B1 x.kids.length d1] 30)).alloc (.cells #[.int .i64 7, .int .u8 0, .int .u8 0, .slice (some ⟨wr.heap.size, 0, none⟩) 1 1] 30)).alloc (.cells #[.int .i64 2, .int .u8 c, .int .u8 c, .slice none 0 0, .int .i64 y.kind, .int .u8 y.lo, .int .u8 y.hi, .slice B2 y.kids.length d2] 30)).alloc (.cells #[.int .i64 3, .int .u8 0, .int .u8 0, .slice (some ⟨wr.heap.size + 1 + 1, 0, none⟩) 2 2] 30)).alloc (.cells #[.int .i64 x.kind, .int .u8 x.lo, .int .u8 x.hi, .slice B1 x.kids.length d1, .int .i64 y.kind, .int .u8 y.lo, .int .u8 y.hi, .slice B2 y.kids.length d2] 30)) W) => four (((hb.block (wr.heap.size + 1) (by simp <;> omega)).trans ((heap_alloc_old _ _ _ (by simp <;> omega)).trans ((heap_alloc_old _ _ _ (by simp <;> omega)).trans ((heap_alloc_old _ _ _ (by simp <;> omega)).trans (heap_alloc_new_at _ _ (by simp)))))) : W.heap[wr.heap.size + 1]? = some (.cells #[.int .i64 7, .int .u8 0, .int .u8 0, .slice (some ⟨wr.heap.size, 0, none⟩) 1 1] 30 (0, 0))))
      have TF := Lib.hid (fun W (hb : Below (((((wr.alloc (.cells #[.int .i64 x.kind, .int .u8 x.lo, .int .u8 x.hi, .slice B1 x.kids.length d1] 30)).alloc (.cells #[.int .i64 7, .int .u8 0, .int .u8 0, .slice (some ⟨wr.heap.size, 0, none⟩) 1 1] 30)).alloc (.cells #[.int .i64 2, .int .u8 c, .int .u8 c, .slice none 0 0, .int .i64 y.kind, .int .u8 y.lo, .int .u8 y.hi, .slice B2 y.kids.length d2] 30)).alloc (.cells #[.int .i64 3, .int .u8 0, .int .u8 0, .slice (some ⟨wr.heap.size + 1 + 1, 0, none⟩) 2 2] 30)).alloc (.cells #[.int .i64 x.kind, .int .u8 x.lo, .int .u8 x.hi, .slice B1 x.kids.length d1, .int .i64 y.kind, .int .u8 y.lo, .int .u8 y.hi, .slice B2 y.kids.length d2] 30)).heap.size (((((wr.alloc (.cells #[.int .i64 x.kind, .int .u8 x.lo, .int .u8 x.hi, .slice B1 x.kids.length d1] 30)).alloc (.cells #[.int .i64 7, .int .u8 0, .int .u8 0, .slice (some ⟨wr.heap.size, 0, none⟩) 1 1] 30)).alloc (.cells #[.int .i64 2, .int .u8 c, .int .u8 c, .slice none 0 0, .int .i64 y.kind, .int .u8 y.lo, .int .u8 y.hi, .slice B2 y.kids.length d2] 30)).alloc (.cells #[.int .i64 3, .int .u8 0, .int .u8 0, .slice (some ⟨wr.heap.size + 1 + 1, 0, none⟩) 2 2] 30)).alloc (.cells #[.int .i64 x.kind, .int .u8 x.lo, .int .u8 x.hi, .slice B1 x.kids.length d1, .int .i64 y.kind, .int .u8 y.lo, .int .u8 y.hi, .slice B2 y.kids.length d2] 30)) W) => four (((hb.block (wr.heap.size + 1 + 1 + 1) (by simp <;> omega)).trans ((heap_alloc_old _ _ _ (by simp <;> omega)).trans (heap_alloc_new_at _ _ (by simp)))) : W.heap[wr.heap.size + 1 + 1 + 1]? = some (.cells #[.int .i64 3, .int .u8 0, .int .u8 0, .slice (some ⟨wr.heap.size + 1 + 1, 0, none⟩) 2 2] 30 (0, 0))))
      have TX5 := Lib.hid (fun W (hb : Below (((((wr.alloc (.cells #[.int .i64 x.kind, .int .u8 x.lo, .int .u8 x.hi, .slice B1 x.kids.length d1] 30)).alloc (.cells #[.int .i64 7, .int .u8 0, .int .u8 0, .slice (some ⟨wr.heap.size, 0, none⟩) 1 1] 30)).alloc (.cells #[.int .i64 2, .int .u8 c, .int .u8 c, .slice none 0 0, .int .i64 y.kind, .int .u8 y.lo, .int .u8 y.hi, .slice B2 y.kids.length d2] 30)).alloc (.cells #[.int .i64 3, .int .u8 0, .int .u8 0, .slice (some ⟨wr.heap.size + 1 + 1, 0, none⟩) 2 2] 30)).alloc (.cells #[.int .i64 x.kind, .int .u8 x.lo, .int .u8 x.hi, .slice B1 x.kids.length d1, .int .i64 y.kind, .int .u8 y.lo, .int .u8 y.hi, .slice B2 y.kids.length d2] 30)).heap.size (((((wr.alloc (.cells #[.int .i64 x.kind, .int .u8 x.lo, .int .u8 x.hi, .slice B1 x.kids.length d1] 30)).alloc (.cells #[.int .i64 7, .int .u8 0, .int .u8 0, .slice (some ⟨wr.heap.size, 0, none⟩) 1 1] 30)).alloc (.cells #[.int .i64 2, .int .u8 c, .int .u8 c, .slice none 0 0, .int .i64 y.kind, .int .u8 y.lo, .int .u8 y.hi, .slice B2 y.kids.length d2] 30)).alloc (.cells #[.int .i64 3, .int .u8 0, .int .u8 0, .slice (some ⟨wr.heap.size + 1 + 1, 0, none⟩) 2 2] 30)).alloc (.cells #[.int .i64 x.kind, .int .u8 x.lo, .int .u8 x.hi, .slice B1 x.kids.length d1, .int .i64 y.kind, .int .u8 y.lo, .int .u8 y.hi, .slice B2 y.kids.length d2] 30)) W) => TX.out W (hW.trans ((q5.trans (hb.mono q5.size)).mono hwr)))
      have TY5 := Lib.hid (fun W (hb : Below (((((wr.alloc (.cells #[.int .i64 x.kind, .int .u8 x.lo, .int .u8 x.hi, .slice B1 x.kids.length d1] 30)).alloc (.cells #[.int .i64 7, .int .u8 0, .int .u8 0, .slice (some ⟨wr.heap.size, 0, none⟩) 1 1] 30)).alloc (.cells #[.int .i64 2, .int .u8 c, .int .u8 c, .slice none 0 0, .int .i64 y.kind, .int .u8 y.lo, .int .u8 y.hi, .slice B2 y.kids.length d2] 30)).alloc (.cells #[.int .i64 3, .int .u8 0, .int .u8 0, .slice (some ⟨wr.heap.size + 1 + 1, 0, none⟩) 2 2] 30)).alloc (.cells #[.int .i64 x.kind, .int .u8 x.lo, .int .u8 x.hi, .slice B1 x.kids.length d1, .int .i64 y.kind, .int .u8 y.lo, .int .u8 y.hi, .slice B2 y.kids.length d2] 30)).heap.size (((((wr.alloc (.cells #[.int .i64 x.kind, .int .u8 x.lo, .int .u8 x.hi, .slice B1 x.kids.length d1] 30)).alloc (.cells #[.int .i64 7, .int .u8 0, .int .u8 0, .slice (some ⟨wr.heap.size, 0, none⟩) 1 1] 30)).alloc (.cells #[.int .i64 2, .int .u8 c, .int .u8 c, .slice none 0 0, .int .i64 y.kind, .int .u8 y.lo, .int .u8 y.hi, .slice B2 y.kids.length d2] 30)).alloc (.cells #[.int .i64 3, .int .u8 0, .int .u8 0, .slice (some ⟨wr.heap.size + 1 + 1, 0, none⟩) 2 2] 30)).alloc (.cells #[.int .i64 x.kind, .int .u8 x.lo, .int .u8 x.hi, .slice B1 x.kids.length d1, .int .i64 y.kind, .int .u8 y.lo, .int .u8 y.hi, .slice B2 y.kids.length d2] 30)) W) => TY.out W (hW.trans ((q5.trans (hb.mono q5.size)).mono hwr)))
      have hw5 := Lib.hid (hwB.out.trans ((hW.trans (q5.mono hwr)).mono hwB.out.size))
      clear q0 q1 q2 q3 q4 q5 r12 r15 r34 r35 LF0
      rw [h4] at LA LB LN
      rw [h2] at LF
      go_wp2_with fail
      obtain ⟨wK, hwK⟩ : ∃ wK, (((((wr.alloc (.cells #[.int .i64 x.kind, .int .u8 x.lo, .int .u8 x.hi, .slice B1 x.kids.length d1] 30)).alloc (.cells #[.int .i64 7, .int .u8 0, .int .u8 0, .slice (some ⟨wr.heap.size, 0, none⟩) 1 1] 30)).alloc (.cells #[.int .i64 2, .int .u8 c, .int .u8 c, .slice none 0 0, .int .i64 y.kind, .int .u8 y.lo, .int .u8 y.hi, .slice B2 y.kids.length d2] 30)).alloc (.cells #[.int .i64 3, .int .u8 0, .int .u8 0, .slice (some ⟨wr.heap.size + 1 + 1, 0, none⟩) 2 2] 30)).alloc (.cells #[.int .i64 x.kind, .int .u8 x.lo, .int .u8 x.hi, .slice B1 x.kids.length d1, .int .i64 y.kind, .int .u8 y.lo, .int .u8 y.hi, .slice B2 y.kids.length d2] 30)) = wK := ⟨_, rfl⟩
      rw [hwK] at LS LF LA LB LN LX5 LY5 TS TF TX5 TY5 hw5 ⊢
      clear hwK a0 a1 a2 a3 b0 b1 b2 b3 e0 e1 e2 e3 f0 f1 f2 f3 g0 g1 g2 g3 h2 h4 LX' LY' hwr LX LY TX TY
      have hS64 := Lib.hid (show S.size ≤ 64 by have := hS60.out; omega)
      have HX := Lib.hid (And.intro hx hxn)
      have HY := Lib.hid (And.intro hy hyn)
      clear hx hxn hy hyn hW hwB
      refine Calls.mono (match_ok x _ _ S (by have := HX.out.2; omega) HX.out.1 hS64.out (LX5.out _ (Below.refl _ _))) ?_
      rintro e m1 ⟨r1, rfl, hr1, hm1⟩
      have k1 := hm1
      obtain ⟨b0, b1, b2, b3⟩ := TY5.out _ k1
      go_wp2_with fail
      clear b0 b1 b2 b3
      refine Calls.mono (match_ok y _ _ S (by have := HY.out.2; omega) HY.out.1 hS64.out (LY5.out _ k1)) ?_
      rintro e m2 ⟨r2, rfl, hr2, hm2⟩
      have k2 := k1.trans (hm2.mono k1.size)
      go_wp2_with fail
      refine Calls.mono (match_ok (.node 4 0 0 [x, y]) _ _ S (by have := HX.out.2; have := HY.out.2; simp [nodes, nodesL]; omega) (by simp [wfR, wfL, HX.out.1, HY.out.1]) hS64.out (LA.out _ k2)) ?_
      rintro e m3 ⟨r3, rfl, hr3, hm3⟩
      have k3 := k2.trans (hm3.mono k2.size)
      go_wp2_with fail
      refine Calls.mono (match_ok (.node 5 0 0 [x, y]) _ _ S (by have := HX.out.2; have := HY.out.2; simp [nodes, nodesL]; omega) (by simp [wfR, wfL, HX.out.1, HY.out.1]) hS64.out (LB.out _ k3)) ?_
      rintro e m4 ⟨r4, rfl, hr4, hm4⟩
      have k4 := k3.trans (hm4.mono k3.size)
      go_wp2_with fail
      refine Calls.mono (match_ok (.node 6 0 0 [x]) _ _ S (by have := HX.out.2; simp [nodes, nodesL]; omega) (by simp [wfR, wfL, HX.out.1]) hS64.out (LN.out _ k4)) ?_
      rintro e m5 ⟨r5, rfl, hr5, hm5⟩
      have k5 := k4.trans (hm5.mono k4.size)
      obtain ⟨b0, b1, b2, b3⟩ := TS.out _ k5
      go_wp2_with fail
      clear b0 b1 b2 b3
      refine Calls.mono (match_ok (.node 7 0 0 [x]) _ _ S (by have := HX.out.2; simp [nodes, nodesL]; omega) (by simp [wfR, wfL, HX.out.1]) hS64.out (LS.out _ k5)) ?_
      rintro e m6 ⟨r6, rfl, hr6, hm6⟩
      have k6 := k5.trans (hm6.mono k5.size)
      obtain ⟨a0, a1, a2, a3⟩ := TX5.out _ k6
      obtain ⟨b0, b1, b2, b3⟩ := TS.out _ k6
      have L7 := Lib.hid (kids_two (ty := 30) (k := 3) (I64.lit ⟨by decide, by decide⟩) (LX5.out _ k6) (y := .node 7 0 0 [x]) (LS.out _ k6))
      have k6' := k6.alloc k6.size (.cells #[.int .i64 x.kind, .int .u8 x.lo, .int .u8 x.hi, .slice B1 x.kids.length d1, .int .i64 7, .int .u8 0, .int .u8 0, .slice (some ⟨wr.heap.size, 0, none⟩) 1 1] 30)
      go_wp2_with fail
      clear a0 a1 a2 a3 b0 b1 b2 b3
      refine Calls.mono (match_ok (.node 3 0 0 [x, .node 7 0 0 [x]]) _ _ S (by have := HX.out.2; simp [nodes, nodesL]; omega) (by simp [wfR, wfL, HX.out.1]) hS64.out L7.out.now) ?_
      rintro e m7 ⟨r7, rfl, hr7, hm7⟩
      have k7 := k6'.trans (hm7.mono k6'.size)
      obtain ⟨b0, b1, b2, b3⟩ := TF.out _ k7
      obtain ⟨T, hTe⟩ : ∃ T, strOfNums [c] = T := ⟨_, rfl⟩
      have hTs : T.size = 1 := by rw [← hTe, str_size]; rfl
      have hTb := Lib.hid (show sb T = [c] by rw [← hTe]; exact sb_of_nums (fun z hz => by obtain rfl := List.mem_singleton.1 hz; exact HC.out))
      have hcv := conv_row (some ⟨m7.heap.size, 0, none⟩) 1 1 [c] (m7.alloc (.cells #[.int .u8 c] 5)) _ rfl (rd_new m7 .u8 5 _ [c] rfl (m7.heap.size + 1) (by omega))
      rw [hTe] at hcv
      have hadd : ¬ (9223372036854775807 < T.size + S.size) := by have := hS64.out; omega
      have k7' := k7.alloc k7.size (.cells #[.int .u8 c] 5)
      go_wp2_with fail
      clear b0 b1 b2 b3 hcv
      refine Calls.mono (match_ok (.node 3 0 0 [.node 2 c c [], y]) _ _ (T ++ S) (by have := HY.out.2; simp [nodes, nodesL]; omega) (by simp [wfR, wfL, HY.out.1]) (by rw [ByteArray.size_append, hTs]; have := hS60.out; omega) (LF.out _ k7')) ?_
      rintro e m8 ⟨r8, rfl, hr8, hm8⟩
      have k8 := k7'.trans (hm8.mono k7'.size)
      obtain ⟨b0, b1, b2, b3⟩ := TF.out _ k8
      obtain ⟨c', hc'⟩ : ∃ c', IntKind.u8.wrap (c + 1) = c' := ⟨_, rfl⟩
      have hne : Hid (c ≠ c' ∧ 0 ≤ c' ∧ c' < 256) := Lib.hid (by rw [← hc', IntKind.wrap_u8]; have := HC.out; omega)
      obtain ⟨T2, hTe2⟩ : ∃ T2, strOfNums [c'] = T2 := ⟨_, rfl⟩
      have hTs2 : T2.size = 1 := by rw [← hTe2, str_size]; rfl
      have hTb2 := Lib.hid (show sb T2 = [c'] by rw [← hTe2]; exact sb_of_nums (fun z hz => by obtain rfl := List.mem_singleton.1 hz; exact hne.out.2))
      have hcv := conv_row (some ⟨m8.heap.size, 0, none⟩) 1 1 [c'] (m8.alloc (.cells #[.int .u8 c'] 5)) _ rfl (rd_new m8 .u8 5 _ [c'] rfl (m8.heap.size + 1) (by omega))
      rw [hTe2] at hcv
      have hadd2 : ¬ (9223372036854775807 < T2.size + S.size) := by have := hS64.out; omega
      have k8' := k8.alloc k8.size (.cells #[.int .u8 c'] 5)
      go_wp2_with fail
      clear b0 b1 b2 b3 hcv
      refine Calls.mono (match_ok (.node 3 0 0 [.node 2 c c [], y]) _ _ (T2 ++ S) (by have := HY.out.2; simp [nodes, nodesL]; omega) (by simp [wfR, wfL, HY.out.1]) (by rw [ByteArray.size_append, hTs2]; have := hS60.out; omega) (LF.out _ k8')) ?_
      rintro e m9 ⟨r9, rfl, hr9, hm9⟩
      have k9 := k8'.trans (hm9.mono k8'.size)
      have B3 : r3 = (r1 || r2) := bool_eq (hr3.trans (mt_alt2.trans (by rw [Bool.or_eq_true, hr1, hr2])))
      have B4 : r4 = (r1 && r2) := bool_eq (hr4.trans (mt_all2.trans (by rw [Bool.and_eq_true, hr1, hr2])))
      have B5 : r5 = !r1 := bool_eq (hr5.trans (mt_not1.trans (by rw [Bool.not_eq_true', ← hr1, Bool.not_eq_true])))
      have B6 : r6 = (decide (S.size = 0) || r7) := bool_eq (hr6.trans (star_more.trans (by rw [Bool.or_eq_true, hr7, decide_eq_true_iff])))
      have B8 : r8 = r2 := bool_eq (hr8.trans ((first_led (S := S) hTb.out).trans (by rw [hr2]; exact ⟨fun h => h.2, fun h => ⟨rfl, h⟩⟩)))
      have B9 : r9 = false := Bool.eq_false_iff.2 fun h => hne.out.1 ((first_led (S := S) hTb2.out).1 (hr9.1 h)).1
      clear hr1 hr2 hr3 hr4 hr5 hr6 hr7 hr8 hr9 LS LF LA LB LN LX5 LY5 TS TF TX5 TY5 L7 hTb hTb2 hne
      subst B3 B4 B5 B6 B8 B9
      have hb9 := hw5.out.trans (k9.mono hw5.out.size)
      clear k1 k2 k3 k4 k5 k6 k6' k7 k7' k8 k8' k9 hm1 hm2 hm3 hm4 hm5 hm6 hm7 hm8 hm9
      go_wp2_with fail
      obtain ⟨mE, hmE⟩ : ∃ mE, m9.alloc (.cells #[.int .i64 0, .int .i64 0, .int .i64 0, .int .i64 0, .int .i64 0, .int .i64 0, .int .i64 0, .int .i64 0] 31) = mE := ⟨_, rfl⟩
      have hcE : ∀ q, q < 8 → mE.cell? ⟨m9.heap.size, q, none⟩ = some (.int .i64 0) := fun q hq => by
        rw [← hmE, cell_of_row _ _ q _ _ (0, 0) (heap_alloc_new m9 _)]
        obtain rfl | rfl | rfl | rfl | rfl | rfl | rfl | rfl : q = 0 ∨ q = 1 ∨ q = 2 ∨ q = 3 ∨ q = 4 ∨ q = 5 ∨ q = 6 ∨ q = 7 := by omega
        all_goals rfl
      have hbE : Below w.heap.size w mE := by rw [← hmE]; exact hb9.alloc hb9.size _
      rw [hmE]
      clear hmE hb9
      have HCE := Lib.hid hcE
      have HBE := Lib.hid hbE
      clear hcE hbE
      go_loopw [35] (fun iv wq => ∃ q : Nat, q ≤ 8 ∧ iv = .int .i64 q ∧ wq = mE) (fun iv _ => 8 - (intOf iv).toNat)
      case atStart => exact ⟨0, by omega, rfl, rfl⟩
      case round =>
        obtain ⟨q, hq, rfl, rfl⟩ := hrel
        by_cases hq8 : q < 8
        · have hq8' : (q : Int) < 8 := by omega
          have hcq := HCE.out q hq8
          go_wp2_with fail
          go_roundw
          case rel => exact ⟨q + 1, by omega, by go_num, by trivial⟩
          case measure => simp [intOf]; omega
        · have hq8' : ¬ (q : Int) < 8 := by omega
          have hLv := Lib.hid (HL.out _ HBE.out)
          by_cases hSe : S = ByteArray.empty
          · subst hSe
            cases r1 <;> cases r8 <;> cases r7
            all_goals go_wp2_with (first | (go_at_call 20; refine Calls.mono hLv.out ?_; rintro e wz ⟨rfl, hbz⟩))
            all_goals (go_ret; exact ⟨rfl, HBE.out.trans (hbz.mono HBE.out.size)⟩)
          · rw [decide_eq_false hSe]
            have hst : (S.toList == []) = false := str_ne hSe
            cases r1 <;> cases r8 <;> cases r7
            all_goals go_wp2_with (first | (go_at_call 20; refine Calls.mono hLv.out ?_; rintro e wz ⟨rfl, hbz⟩))
            all_goals (go_ret; exact ⟨rfl, HBE.out.trans (hbz.mono HBE.out.size)⟩)
end Go.Proofs.YtijcjknaphboeaaGreatDoor
