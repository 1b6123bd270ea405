/-
  THE WALK of the reference's normal: of Not and Star.
  THE REFERENCE's NORMAL FORM on kids in normal form is the program's.
  THE WALKS of the reference's simple, few and Normal.
-/
import Derived.Test.YtnjkihbmhacgoaaGreatDoorRxEEv
import Derived.Test.YtnjkihbmhacgoaaGreatDoorRxECmp
import Derived.BigQuiet
import Derived.Test.YtnjkihbmhacgoaaGreatDoorRxNfId
import Derived.Test.YtnjkihbmhacgoaaGreatDoorRxEN3
import Derived.Test.YtnjkihbmhacgoaaGreatDoorRxEN5
import Derived.Test.YtnjkihbmhacgoaaGreatDoorRxEValB
namespace Go.Proofs.YtnjkihbmhacgoaaGreatDoor
open Go.RowKit

set_option maxHeartbeats 2000000 in
set_option maxRecDepth 100000 in
theorem eNorm6_any (y : Rx) (A : Option Addr) (c : Nat) (w : World) (S : Nat → Prop) (hS : SOk S w.heap.size) (hs : RtL w S [y] A) (hc : 1 ≤ c) (hw6 : y.kind = 6 → y.kids.length = 1) :
    Calls Tryz.prog 46 #[.int .i64 6, .slice A 1 c] w (GivesS S w (notE [y])) := by
  have hs0 := hs
  simp only [RtL] at hs
  obtain ⟨bl, o, Ay, cy, rfl, hbl, hy4, hyv, _⟩ := hs
  have hbl' : bl < w.heap.size := hS _ hbl
  by_cases hk : y.kind = 6
  · have hl1 := hw6 hk
    obtain ⟨_, Ay2, cy2, eq2, hcy, hAy, hkl⟩ := hyv.parts
    obtain ⟨rfl, rfl⟩ : Ay = Ay2 ∧ cy = cy2 := by unfold rxv at eq2; injection eq2 with eq2; simp at eq2; exact eq2
    obtain ⟨z, hz⟩ : ∃ z, y.kids = [z] := by
      match h : y.kids, hl1 with
      | [z], _ => exact ⟨z, rfl⟩
    rw [hz] at hkl
    have hres := Lib.hid (show notE [y] = z from by simp only [notE]; rw [if_pos hk, hz])
    simp only [RtL] at hkl
    obtain ⟨b2, o2, Az, cz, rfl, hb2, hz4, hzv, _⟩ := hkl
    have hb2' : b2 < w.heap.size := hS _ hb2
    rw [hk, hz] at hy4
    simp only [List.length_cons, List.length_nil] at hy4
    replace hzv := Lib.hid hzv
    clear hyv hs0 hw6 hl1 eq2
    go_enter Tryz.func46, Tryz.ntmps46
    go_wp2_with (go_at_call 62; refine Calls.mono (eEvery_any _) ?_; rintro e w1 ⟨ba, rfl, hba, hba2, hat, hw1⟩; have hy1 := hw1.size; simp at hy1 hba2; have hBz : Below w.heap.size w w1 := ((Below.refl _ _).alloc (Nat.le_refl _) _).trans (hw1.mono (by simp)); have h40 := (heap_alloc_old w1 (.cells #[.int .i64 6, .int .u8 0, .int .u8 0, .slice (some ⟨ba, 0, none⟩) 1 1] 25) w.heap.size (by omega)).trans ((hw1.block w.heap.size (by simp)).trans (heap_alloc_new w _)); obtain ⟨q0, q1, q2, q3⟩ := four h40; have hf4 := four_frozen h40; obtain ⟨d0, d1, d2, d3⟩ := hy4.to ((heap_alloc_old w1 (.cells #[.int .i64 6, .int .u8 0, .int .u8 0, .slice (some ⟨ba, 0, none⟩) 1 1] 25) bl (by omega)).trans (hBz.block bl hbl')); obtain ⟨g0, g1, g2, g3⟩ := hz4.to ((heap_alloc_old w1 (.cells #[.int .i64 6, .int .u8 0, .int .u8 0, .slice (some ⟨ba, 0, none⟩) 1 1] 25) b2 (by omega)).trans (hBz.block b2 hb2')); have hBf := hBz.alloc (by omega) (.cells #[.int .i64 6, .int .u8 0, .int .u8 0, .slice (some ⟨ba, 0, none⟩) 1 1] 25); have hzs := (show (w1.alloc (.cells #[.int .i64 6, .int .u8 0, .int .u8 0, .slice (some ⟨ba, 0, none⟩) 1 1] 25)).heap.size = w1.heap.size + 1 by simp))
    refine bodyPost_ret (v := rxv z.kind z.lo z.hi Az z.kids.length cz) (by unfold rxv; simp [results, Tryz.results46, go_sem, q0, q1, q2, q3]) rfl ?_
    rw [hres.out]
    exact fin_givesS hBf (Nat.le_refl _) (hzv.out.keep hS hBf) (fun b hb => by have := hS b hb; exact ⟨by omega, .inl hb⟩)
  · have hkf : (y.kind == 6) = false := by simpa using hk
    have hres := Lib.hid (show notE [y] = .node 6 0 0 [y] from by simp only [notE]; rw [if_neg hk])
    have hv := Lib.hid (RtV.mk (k := 6) (l := 0) (h := 0) (s := [y]) (A := some ⟨bl, o, none⟩) (c := c) ⟨by unfold I64; omega, by omega, by omega, by show 1 ≤ 1048576; decide⟩ hc (by intro h; cases h) hs0)
    clear hyv hs0 hw6
    go_enter Tryz.func46, Tryz.ntmps46
    go_wp2_with (go_at_call 62; refine Calls.mono (eEvery_any _) ?_; rintro e w1 ⟨ba, rfl, hba, hba2, hat, hw1⟩; have hy1 := hw1.size; simp at hy1 hba2; have hBz : Below w.heap.size w w1 := ((Below.refl _ _).alloc (Nat.le_refl _) _).trans (hw1.mono (by simp)); have h40 := (heap_alloc_old w1 (.cells #[.int .i64 6, .int .u8 0, .int .u8 0, .slice (some ⟨ba, 0, none⟩) 1 1] 25) w.heap.size (by omega)).trans ((hw1.block w.heap.size (by simp)).trans (heap_alloc_new w _)); obtain ⟨q0, q1, q2, q3⟩ := four h40; have hf4 := four_frozen h40; obtain ⟨d0, d1, d2, d3⟩ := hy4.to ((heap_alloc_old w1 (.cells #[.int .i64 6, .int .u8 0, .int .u8 0, .slice (some ⟨ba, 0, none⟩) 1 1] 25) bl (by omega)).trans (hBz.block bl hbl')); have hBf := hBz.alloc (by omega) (.cells #[.int .i64 6, .int .u8 0, .int .u8 0, .slice (some ⟨ba, 0, none⟩) 1 1] 25); have hzs := (show (w1.alloc (.cells #[.int .i64 6, .int .u8 0, .int .u8 0, .slice (some ⟨ba, 0, none⟩) 1 1] 25)).heap.size = w1.heap.size + 1 by simp))
    refine bodyPost_ret (v := rxv 6 0 0 (some ⟨bl, o, none⟩) 1 c) (by unfold rxv; simp [results, Tryz.results46, go_sem, q0, q1, q2, q3]) rfl ?_
    rw [hres.out]
    exact fin_givesS (x := .node 6 0 0 [y]) hBf (Nat.le_refl _) (hv.out.keep hS hBf) (fun b hb => by have := hS b hb; exact ⟨by omega, .inl hb⟩)

set_option maxHeartbeats 2000000 in
set_option maxRecDepth 100000 in
theorem eNorm7_any (y : Rx) (A : Option Addr) (c : Nat) (w : World) (S : Nat → Prop) (hS : SOk S w.heap.size) (hs : RtL w S [y] A) (hc : 1 ≤ c) :
    Calls Tryz.prog 46 #[.int .i64 7, .slice A 1 c] w (GivesS S w (starE [y])) := by
  have hs0 := hs
  simp only [RtL] at hs
  obtain ⟨bl, o, Ay, cy, rfl, hbl, hy4, hyv, _⟩ := hs
  have hbl' : bl < w.heap.size := hS _ hbl
  have hv := Lib.hid (RtV.mk (k := 7) (l := 0) (h := 0) (s := [y]) (A := some ⟨bl, o, none⟩) (c := c) ⟨by unfold I64; omega, by omega, by omega, by show 1 ≤ 1048576; decide⟩ hc (by intro h; cases h) hs0)
  have hr0 := Lib.hid (fun (h : y.kind < 2) => show starE [y] = oneR from by simp only [starE]; rw [if_pos h])
  have hr1 := Lib.hid (fun (h : ¬ y.kind < 2) (h2 : y.kind = 7 ∨ cmp y allR = 0) => show starE [y] = y from by simp only [starE]; rw [if_neg h, if_pos h2])
  have hr2 := Lib.hid (fun (h : ¬ y.kind < 2) (h2 : ¬ (y.kind = 7 ∨ cmp y allR = 0)) => show starE [y] = .node 7 0 0 [y] from by simp only [starE]; rw [if_neg h, if_neg h2])
  have hCE := Lib.hid (fun (W : World) (hW : Below w.heap.size w W) (b : Nat) (hb : b < W.heap.size) (hb4 : At4 W b 0 0 0 0 (.slice none 0 0)) => eCmp_any y allR _ _ W (hyv.keep hS hW |>.lo (hS.mono hW.size)) (all_at hb4 (show Lo W.heap.size b from hb)))
  replace hyv := Lib.hid hyv
  clear hs0
  generalize hcv : cmp y allR = cv at hCE hr1 hr2
  clear hcv
  by_cases hk2 : y.kind < 2
  · have hres := Lib.hid (hr0.out hk2)
    clear hCE hr0 hr1 hr2
    go_enter Tryz.func46, Tryz.ntmps46
    go_wp2_with (go_at_call 62; refine Calls.mono (eEvery_any _) ?_; rintro e w1 ⟨ba, rfl, hba, hba2, hat, hw1⟩; have hy1 := hw1.size; simp at hy1 hba2; have hBz : Below w.heap.size w w1 := ((Below.refl _ _).alloc (Nat.le_refl _) _).trans (hw1.mono (by simp)); have h40 := (heap_alloc_old w1 (.cells #[.int .i64 6, .int .u8 0, .int .u8 0, .slice (some ⟨ba, 0, none⟩) 1 1] 25) w.heap.size (by omega)).trans ((hw1.block w.heap.size (by simp)).trans (heap_alloc_new w _)); have h50 := heap_alloc_new w1 (.cells #[.int .i64 6, .int .u8 0, .int .u8 0, .slice (some ⟨ba, 0, none⟩) 1 1] 25); obtain ⟨q0, q1, q2, q3⟩ := four h40; have hf4 := four_frozen h40; obtain ⟨d0, d1, d2, d3⟩ := hy4.to ((heap_alloc_old w1 (.cells #[.int .i64 6, .int .u8 0, .int .u8 0, .slice (some ⟨ba, 0, none⟩) 1 1] 25) bl (by omega)).trans (hBz.block bl hbl')); have hBf := hBz.alloc (by omega) (.cells #[.int .i64 6, .int .u8 0, .int .u8 0, .slice (some ⟨ba, 0, none⟩) 1 1] 25); have hat5 := hat.to (heap_alloc_old w1 (.cells #[.int .i64 6, .int .u8 0, .int .u8 0, .slice (some ⟨ba, 0, none⟩) 1 1] 25) ba hba); have hzs := (show (w1.alloc (.cells #[.int .i64 6, .int .u8 0, .int .u8 0, .slice (some ⟨ba, 0, none⟩) 1 1] 25)).heap.size = w1.heap.size + 1 by simp))
    refine bodyPost_ret (v := rxv 1 0 0 none 0 0) (by unfold rxv; simp [results, Tryz.results46, go_sem, q0, q1, q2, q3]) rfl ?_
    rw [hres.out]
    exact fin_givesS (x := oneR) hBf (Nat.le_refl _) (T := fun _ => False) (one_at _ _) (fun b hb => hb.elim)
  · have hres1 := Lib.hid (hr1.out hk2)
    have hres2 := Lib.hid (hr2.out hk2)
    clear hr0 hr1 hr2
    by_cases hk7 : y.kind = 7
    · have hres := Lib.hid (hres1.out (.inl hk7))
      clear hCE hres1 hres2
      obtain ⟨yk, yl, yh, ys⟩ := y
      have hk7' : yk = 7 := hk7
      subst hk7'
      clear hk7 hk2
      simp only [Rx.kind, Rx.lo, Rx.hi, Rx.kids] at hy4
      go_enter Tryz.func46, Tryz.ntmps46
      go_wp2_with (go_at_call 62; refine Calls.mono (eEvery_any _) ?_; rintro e w1 ⟨ba, rfl, hba, hba2, hat, hw1⟩; have hy1 := hw1.size; simp at hy1 hba2; have hBz : Below w.heap.size w w1 := ((Below.refl _ _).alloc (Nat.le_refl _) _).trans (hw1.mono (by simp)); have h40 := (heap_alloc_old w1 (.cells #[.int .i64 6, .int .u8 0, .int .u8 0, .slice (some ⟨ba, 0, none⟩) 1 1] 25) w.heap.size (by omega)).trans ((hw1.block w.heap.size (by simp)).trans (heap_alloc_new w _)); have h50 := heap_alloc_new w1 (.cells #[.int .i64 6, .int .u8 0, .int .u8 0, .slice (some ⟨ba, 0, none⟩) 1 1] 25); obtain ⟨q0, q1, q2, q3⟩ := four h40; have hf4 := four_frozen h40; obtain ⟨d0, d1, d2, d3⟩ := hy4.to ((heap_alloc_old w1 (.cells #[.int .i64 6, .int .u8 0, .int .u8 0, .slice (some ⟨ba, 0, none⟩) 1 1] 25) bl (by omega)).trans (hBz.block bl hbl')); have hBf := hBz.alloc (by omega) (.cells #[.int .i64 6, .int .u8 0, .int .u8 0, .slice (some ⟨ba, 0, none⟩) 1 1] 25); have hat5 := hat.to (heap_alloc_old w1 (.cells #[.int .i64 6, .int .u8 0, .int .u8 0, .slice (some ⟨ba, 0, none⟩) 1 1] 25) ba hba); have hzs := (show (w1.alloc (.cells #[.int .i64 6, .int .u8 0, .int .u8 0, .slice (some ⟨ba, 0, none⟩) 1 1] 25)).heap.size = w1.heap.size + 1 by simp))
      generalize w1.alloc (.cells #[.int .i64 6, .int .u8 0, .int .u8 0, .slice (some ⟨ba, 0, none⟩) 1 1] 25) = w2 at *
      have hy4w := Lib.hid (fun W (hW : Below w2.heap.size w2 W) => (hy4.to ((hW.block bl (by omega)).trans (hBf.block bl hbl'))))
      have h4w := Lib.hid (fun W (hW : Below w2.heap.size w2 W) => (hW.block w.heap.size (by omega)).trans h40)
      go_quiet (fail)
      have hB9 : Below w2.heap.size w2 (w2.drewN nq) := ⟨rfl, rfl, rfl, Nat.le_refl _, fun _ _ => rfl⟩
      clear q0 q1 q2 q3 hf4 d0 d1 d2 d3
      obtain ⟨d0, d1, d2, d3⟩ := hy4w.out _ hB9
      obtain ⟨q0, q1, q2, q3⟩ := four (h4w.out _ hB9)
      have hf4 := four_frozen (h4w.out _ hB9)
      have hBg := hBf.trans (hB9.mono (by omega))
      have hzg : w2.heap.size ≤ (w2.drewN nq).heap.size := Nat.le_refl _
      generalize w2.drewN nq = w3 at *
      go_wp2_with fail
      refine bodyPost_ret (v := rxv 7 yl yh Ay ys.length cy) (by unfold rxv; simp [results, Tryz.results46, go_sem, q0, q1, q2, q3]) rfl ?_
      rw [hres.out]
      exact fin_givesS (x := .node 7 yl yh ys) hBg (Nat.le_refl _) (hyv.out.keep hS hBg) (fun b hb => by have := hS b hb; exact ⟨by omega, .inl hb⟩)
    · have hk7f : (y.kind == 7) = false := by simpa using hk7
      by_cases hz : cv = 0
      · have hres := Lib.hid (hres1.out (.inr hz))
        clear hres1 hres2
        subst hz
        go_enter Tryz.func46, Tryz.ntmps46
        go_wp2_with (go_at_call 62; refine Calls.mono (eEvery_any _) ?_; rintro e w1 ⟨ba, rfl, hba, hba2, hat, hw1⟩; have hy1 := hw1.size; simp at hy1 hba2; have hBz : Below w.heap.size w w1 := ((Below.refl _ _).alloc (Nat.le_refl _) _).trans (hw1.mono (by simp)); have h40 := (heap_alloc_old w1 (.cells #[.int .i64 6, .int .u8 0, .int .u8 0, .slice (some ⟨ba, 0, none⟩) 1 1] 25) w.heap.size (by omega)).trans ((hw1.block w.heap.size (by simp)).trans (heap_alloc_new w _)); have h50 := heap_alloc_new w1 (.cells #[.int .i64 6, .int .u8 0, .int .u8 0, .slice (some ⟨ba, 0, none⟩) 1 1] 25); obtain ⟨q0, q1, q2, q3⟩ := four h40; have hf4 := four_frozen h40; obtain ⟨d0, d1, d2, d3⟩ := hy4.to ((heap_alloc_old w1 (.cells #[.int .i64 6, .int .u8 0, .int .u8 0, .slice (some ⟨ba, 0, none⟩) 1 1] 25) bl (by omega)).trans (hBz.block bl hbl')); have hBf := hBz.alloc (by omega) (.cells #[.int .i64 6, .int .u8 0, .int .u8 0, .slice (some ⟨ba, 0, none⟩) 1 1] 25); have hat5 := hat.to (heap_alloc_old w1 (.cells #[.int .i64 6, .int .u8 0, .int .u8 0, .slice (some ⟨ba, 0, none⟩) 1 1] 25) ba hba); have hzs := (show (w1.alloc (.cells #[.int .i64 6, .int .u8 0, .int .u8 0, .slice (some ⟨ba, 0, none⟩) 1 1] 25)).heap.size = w1.heap.size + 1 by simp))
        have h5c : ∃ w2, w2 = w1.alloc (.cells #[.int .i64 6, .int .u8 0, .int .u8 0, .slice (some ⟨ba, 0, none⟩) 1 1] 25) := ⟨_, rfl⟩
        obtain ⟨w2, hw2⟩ := h5c
        rw [← hw2] at h40 h50 q0 q1 q2 q3 hf4 d0 d1 d2 d3 hBf hat5 hzs ⊢
        clear hw2
        have hCW := Lib.hid (fun W (hW : Below w2.heap.size w2 W) => hCE.out W (hBf.trans (hW.mono (by omega))) ba (by have := hW.size; omega) (hat5.to (hW.block ba (by omega))))
        have h4w := Lib.hid (fun W (hW : Below w2.heap.size w2 W) => (hW.block w.heap.size (by omega)).trans h40)
        have HT := Lib.hid (fun W (hW : Below w2.heap.size w2 W) => (show W.cell? ⟨bl, o, none⟩ = some (.int .i64 y.kind) ∧ W.cell? ⟨bl, o + 1, none⟩ = some (.int .u8 y.lo) ∧ W.cell? ⟨bl, o + 2, none⟩ = some (.int .u8 y.hi) ∧ W.cell? ⟨bl, o + 3, none⟩ = some (.slice Ay y.kids.length cy) ∧ W.cell? ⟨w1.heap.size, 0, none⟩ = some (.int .i64 6) ∧ W.cell? ⟨w1.heap.size, 1, none⟩ = some (.int .u8 0) ∧ W.cell? ⟨w1.heap.size, 2, none⟩ = some (.int .u8 0) ∧ W.cell? ⟨w1.heap.size, 3, none⟩ = some (.slice (some ⟨ba, 0, none⟩) 1 1) from by
          obtain ⟨k0, k1, k2, k3⟩ := hy4.to ((hW.block bl (by omega)).trans (hBf.block bl hbl'))
          obtain ⟨m0, m1, m2, m3⟩ := four ((hW.block w1.heap.size (by omega)).trans h50)
          exact ⟨k0, k1, k2, k3, m0, m1, m2, m3⟩))
        have hd : Below w2.heap.size w2 w2.drew := (Below.refl _ _).drew
        unfold rxv at hCW
        clear hCE q0 q1 q2 q3 hf4 d0 d1 d2 d3 h50 hat hat5
        go_region_held3 (fun W => W.cell? ⟨bl, o, none⟩ = some (.int .i64 y.kind) ∧ W.cell? ⟨bl, o + 1, none⟩ = some (.int .u8 y.lo) ∧ W.cell? ⟨bl, o + 2, none⟩ = some (.int .u8 y.hi) ∧ W.cell? ⟨bl, o + 3, none⟩ = some (.slice Ay y.kids.length cy) ∧ W.cell? ⟨w1.heap.size, 0, none⟩ = some (.int .i64 6) ∧ W.cell? ⟨w1.heap.size, 1, none⟩ = some (.int .u8 0) ∧ W.cell? ⟨w1.heap.size, 2, none⟩ = some (.int .u8 0) ∧ W.cell? ⟨w1.heap.size, 3, none⟩ = some (.slice (some ⟨ba, 0, none⟩) 1 1))
          (first | exact HT.out _ hd | exact HT.out _ (by assumption))
          (first | (go_at_call 28; ((with_reducible refine Calls.mono (hCW.out _ hd) ?_)); rintro e' w3 ⟨rfl, hww3⟩; have hB9 : Below w2.heap.size w2 w3 := hd.trans (hww3.mono (by simp))))
        obtain ⟨d0, d1, d2, d3, _⟩ := HT.out _ hB9
        obtain ⟨q0, q1, q2, q3⟩ := four (h4w.out _ hB9)
        have hf4 := four_frozen (h4w.out _ hB9)
        have hBg := hBf.trans (hB9.mono (by omega))
        have hzg := hB9.size
        go_wp2_with fail
        refine bodyPost_ret (v := rxv y.kind y.lo y.hi Ay y.kids.length cy) (by unfold rxv; simp [results, Tryz.results46, go_sem, q0, q1, q2, q3]) rfl ?_
        rw [hres.out]
        exact fin_givesS hBg (Nat.le_refl _) (hyv.out.keep hS hBg) (fun b hb => by have := hS b hb; exact ⟨by omega, .inl hb⟩)
      · have hz2 : (cv == 0) = false := by simpa using hz
        have hres := Lib.hid (hres2.out (fun h => h.elim hk7 hz))
        clear hres1 hres2
        go_enter Tryz.func46, Tryz.ntmps46
        go_wp2_with (go_at_call 62; refine Calls.mono (eEvery_any _) ?_; rintro e w1 ⟨ba, rfl, hba, hba2, hat, hw1⟩; have hy1 := hw1.size; simp at hy1 hba2; have hBz : Below w.heap.size w w1 := ((Below.refl _ _).alloc (Nat.le_refl _) _).trans (hw1.mono (by simp)); have h40 := (heap_alloc_old w1 (.cells #[.int .i64 6, .int .u8 0, .int .u8 0, .slice (some ⟨ba, 0, none⟩) 1 1] 25) w.heap.size (by omega)).trans ((hw1.block w.heap.size (by simp)).trans (heap_alloc_new w _)); have h50 := heap_alloc_new w1 (.cells #[.int .i64 6, .int .u8 0, .int .u8 0, .slice (some ⟨ba, 0, none⟩) 1 1] 25); obtain ⟨q0, q1, q2, q3⟩ := four h40; have hf4 := four_frozen h40; obtain ⟨d0, d1, d2, d3⟩ := hy4.to ((heap_alloc_old w1 (.cells #[.int .i64 6, .int .u8 0, .int .u8 0, .slice (some ⟨ba, 0, none⟩) 1 1] 25) bl (by omega)).trans (hBz.block bl hbl')); have hBf := hBz.alloc (by omega) (.cells #[.int .i64 6, .int .u8 0, .int .u8 0, .slice (some ⟨ba, 0, none⟩) 1 1] 25); have hat5 := hat.to (heap_alloc_old w1 (.cells #[.int .i64 6, .int .u8 0, .int .u8 0, .slice (some ⟨ba, 0, none⟩) 1 1] 25) ba hba); have hzs := (show (w1.alloc (.cells #[.int .i64 6, .int .u8 0, .int .u8 0, .slice (some ⟨ba, 0, none⟩) 1 1] 25)).heap.size = w1.heap.size + 1 by simp))
        have h5c : ∃ w2, w2 = w1.alloc (.cells #[.int .i64 6, .int .u8 0, .int .u8 0, .slice (some ⟨ba, 0, none⟩) 1 1] 25) := ⟨_, rfl⟩
        obtain ⟨w2, hw2⟩ := h5c
        rw [← hw2] at h40 h50 q0 q1 q2 q3 hf4 d0 d1 d2 d3 hBf hat5 hzs ⊢
        clear hw2
        have hCW := Lib.hid (fun W (hW : Below w2.heap.size w2 W) => hCE.out W (hBf.trans (hW.mono (by omega))) ba (by have := hW.size; omega) (hat5.to (hW.block ba (by omega))))
        have h4w := Lib.hid (fun W (hW : Below w2.heap.size w2 W) => (hW.block w.heap.size (by omega)).trans h40)
        have HT := Lib.hid (fun W (hW : Below w2.heap.size w2 W) => (show W.cell? ⟨bl, o, none⟩ = some (.int .i64 y.kind) ∧ W.cell? ⟨bl, o + 1, none⟩ = some (.int .u8 y.lo) ∧ W.cell? ⟨bl, o + 2, none⟩ = some (.int .u8 y.hi) ∧ W.cell? ⟨bl, o + 3, none⟩ = some (.slice Ay y.kids.length cy) ∧ W.cell? ⟨w1.heap.size, 0, none⟩ = some (.int .i64 6) ∧ W.cell? ⟨w1.heap.size, 1, none⟩ = some (.int .u8 0) ∧ W.cell? ⟨w1.heap.size, 2, none⟩ = some (.int .u8 0) ∧ W.cell? ⟨w1.heap.size, 3, none⟩ = some (.slice (some ⟨ba, 0, none⟩) 1 1) from by
          obtain ⟨k0, k1, k2, k3⟩ := hy4.to ((hW.block bl (by omega)).trans (hBf.block bl hbl'))
          obtain ⟨m0, m1, m2, m3⟩ := four ((hW.block w1.heap.size (by omega)).trans h50)
          exact ⟨k0, k1, k2, k3, m0, m1, m2, m3⟩))
        have hd : Below w2.heap.size w2 w2.drew := (Below.refl _ _).drew
        unfold rxv at hCW
        clear hCE q0 q1 q2 q3 hf4 d0 d1 d2 d3 h50 hat hat5
        go_region_held3 (fun W => W.cell? ⟨bl, o, none⟩ = some (.int .i64 y.kind) ∧ W.cell? ⟨bl, o + 1, none⟩ = some (.int .u8 y.lo) ∧ W.cell? ⟨bl, o + 2, none⟩ = some (.int .u8 y.hi) ∧ W.cell? ⟨bl, o + 3, none⟩ = some (.slice Ay y.kids.length cy) ∧ W.cell? ⟨w1.heap.size, 0, none⟩ = some (.int .i64 6) ∧ W.cell? ⟨w1.heap.size, 1, none⟩ = some (.int .u8 0) ∧ W.cell? ⟨w1.heap.size, 2, none⟩ = some (.int .u8 0) ∧ W.cell? ⟨w1.heap.size, 3, none⟩ = some (.slice (some ⟨ba, 0, none⟩) 1 1))
          (first | exact HT.out _ hd | exact HT.out _ (by assumption))
          (first | (go_at_call 28; ((with_reducible refine Calls.mono (hCW.out _ hd) ?_)); rintro e' w3 ⟨rfl, hww3⟩; have hB9 : Below w2.heap.size w2 w3 := hd.trans (hww3.mono (by simp))))
        obtain ⟨d0, d1, d2, d3, _⟩ := HT.out _ hB9
        obtain ⟨q0, q1, q2, q3⟩ := four (h4w.out _ hB9)
        have hf4 := four_frozen (h4w.out _ hB9)
        have hBg := hBf.trans (hB9.mono (by omega))
        have hzg := hB9.size
        go_wp2_with fail
        refine bodyPost_ret (v := rxv 7 0 0 (some ⟨bl, o, none⟩) 1 c) (by unfold rxv; simp [results, Tryz.results46, go_sem, q0, q1, q2, q3]) rfl ?_
        rw [hres.out]
        exact fin_givesS (x := .node 7 0 0 [y]) hBg (Nat.le_refl _) (hv.out.keep hS hBg) (fun b hb => by have := hS b hb; exact ⟨by omega, .inl hb⟩)
end Go.Proofs.YtnjkihbmhacgoaaGreatDoor

namespace Go.Proofs.YtnjkihbmhacgoaaGreatDoor

theorem keepE_self {neu : Rx} : ∀ {l : List Rx}, (∀ z ∈ l, z ≠ neu) → keepE neu l = l
  | [], _ => rfl
  | x :: s, h => by
    simp only [keepE]
    rw [if_neg (fun e => h x (by simp) (cmp_eq _ _ e)), keepE_self (fun z hz => h z (List.mem_cons_of_mem _ hz))]
    rfl
theorem keep_flat {k : Int} {neu : Rx} : ∀ {s : List Rx}, (∀ x ∈ s, x.kind = k → ∀ z ∈ x.kids, z ≠ neu) → keepE neu (flatE k s) = flatR k neu s
  | [], _ => rfl
  | x :: s, h => by
    simp only [flatE, flatR, keepE_app]
    rw [keep_flat (fun y hy => h y (List.mem_cons_of_mem _ hy))]
    congr 1
    split
    · rename_i hk; exact keepE_self (h x (by simp) hk)
    · simp only [keepE, List.append_nil]
theorem any_keep {neu dec : Rx} (hne : dec ≠ neu) : ∀ l : List Rx, (keepE neu l).any (fun x => cmp x dec == 0) = l.any (fun x => cmp x dec == 0)
  | [] => rfl
  | x :: s => by
    simp only [keepE, List.any_append, List.any_cons, any_keep hne s]
    split
    · rename_i h
      have e := cmp_eq _ _ h
      have : (cmp x dec == 0) = false := by
        rw [e]
        cases hb : cmp neu dec == 0
        · rfl
        · exact absurd (cmp_eq _ _ (by simpa using hb)).symm hne
      rw [this]; rfl
    · simp
theorem gath_seq (l : List Rx) : ∀ a : List Rx, l.foldl (putE false) a = a ++ l := by
  induction l with
  | nil => intro a; simp
  | cons x s ih => intro a; rw [List.foldl_cons, ih]; simp [putE]
theorem gath_ord (l : List Rx) : l.foldl (putE true) [] = ordR l := rfl
theorem joinE_joinR {k : Int} {neu dec : Rx} {ord : Bool} {s : List Rx} (hne : dec ≠ neu) (h : ∀ x ∈ s, x.kind = k → ∀ z ∈ x.kids, z ≠ neu) : joinE k neu dec ord s = joinR k neu dec ord s := by
  unfold joinE joinR gathE
  rw [← any_keep hne (flatE k s), keep_flat h]
  cases ord
  · rw [gath_seq]; rfl
  · rw [gath_ord]; rfl

theorem wf_kind2 {x : Rx} (hw : wfR x = true) : 0 ≤ x.kind ∧ x.kind < 8 := by
  rw [wfR_parts] at hw
  simp only [Bool.and_eq_true] at hw
  have hwk := hw.2
  unfold wfK at hwk
  split at hwk
  · rename_i h1; simp only [Bool.or_eq_true, beq_iff_eq] at h1; omega
  · split at hwk
    · rename_i h1; simp only [Bool.or_eq_true, beq_iff_eq] at h1; omega
    · split at hwk
      · rename_i h1; simp only [Bool.or_eq_true, beq_iff_eq] at h1; omega
      · cases hwk
theorem nil_one : nilR ≠ oneR := by simp [nilR, oneR]
theorem all_nil : allR ≠ nilR := by simp [allR, nilR]
theorem nil_all : nilR ≠ allR := by simp [allR, nilR]
/-- ON KIDS IN NORMAL FORM. -/
theorem normE_nfK {k : Int} {s : List Rx} (hk : 3 ≤ k ∧ k ≤ 7) (hs : ∀ x ∈ s, NfT x) (hw : ∀ x ∈ s, wfR x = true) : normE k s = nfK (.node k 0 0 s) := by
  have hown : ∀ x ∈ s, x.kind = k → ∀ z ∈ x.kids, okK k z := fun x hx e z hz => by have := (hs x hx).own z hz; rwa [e] at this
  obtain h | h | h | h | h : k = 3 ∨ k = 4 ∨ k = 5 ∨ k = 6 ∨ k = 7 := by omega
  · subst h
    rw [nfK_3 rfl]
    exact joinE_joinR nil_one (fun x hx e z hz => ((hown x hx e z hz).1 rfl).2.1)
  · subst h
    rw [nfK_4 rfl]
    exact joinE_joinR all_nil (fun x hx e z hz => ((hown x hx e z hz).2.1 rfl).2.1)
  · subst h
    rw [nfK_5 rfl]
    exact joinE_joinR nil_all (fun x hx e z hz => ((hown x hx e z hz).2.2.1 rfl).2.1)
  · subst h
    rw [nfK_6 rfl]
    rfl
  · subst h
    rw [nfK_7 rfl]
    show starE s = starK _
    unfold starE starK
    match s, hw with
    | [], _ => rfl
    | y :: t, hw =>
      have hy := hw y (by simp)
      have h0 : 0 ≤ y.kind := by
        exact (wf_kind2 hy).1
      simp only [Rx.kids]
      by_cases h1 : y.kind = 0 ∨ y.kind = 1
      · rw [if_pos h1, if_pos (by omega)]
      · rw [if_neg h1, if_neg (by omega)]
theorem simple_nf {k l h : Int} {s : List Rx} (hk : 3 ≤ k) (hw : wfR (.node k l h s) = true) : normE k (nfs s) = nf (.node k l h s) := by
  have hk7 : k ≤ 7 := by have := (wf_kind2 hw).2; simp only [Rx.kind] at this; omega
  have hwk := wf_kidsL hw
  have hz : l = 0 ∧ h = 0 := by
    rw [wfR_parts] at hw
    simp only [Rx.kind, Rx.lo, Rx.hi, Bool.and_eq_true, Bool.or_eq_true, beq_iff_eq] at hw
    rcases hw.1.1 with h1 | h1
    · omega
    · exact h1
  obtain ⟨rfl, rfl⟩ := hz
  rw [normE_nfK ⟨hk, hk7⟩ ((nfL_all _).1 (nfl_nfs s hwk)) (wf_all.1 (wf_nfs s hwk))]
  simp only [nf]
theorem simple_low {k l h : Int} {s : List Rx} (hk : k < 3) (hw : wfR (.node k l h s) = true) : nf (.node k l h s) = .node k l h s := by
  have hk0 := (wf_kind2 hw).1
  simp only [Rx.kind] at hk0
  have hs : s = [] := by
    rw [wfR_eq] at hw
    simp only [Bool.and_eq_true] at hw
    have h2 := hw.2
    unfold wfK at h2
    have hb : (k == 0 || k == 1 || k == 2) = true := by
      simp only [Bool.or_eq_true, beq_iff_eq]
      omega
    rw [if_pos hb] at h2
    exact List.eq_nil_of_length_eq_zero (by simpa using h2)
  subst hs
  simp only [nf, nfs]
  exact nfK_0 (by simp only [Rx.kind]; omega)
end Go.Proofs.YtnjkihbmhacgoaaGreatDoor

namespace Go.Proofs.YtnjkihbmhacgoaaGreatDoor
open Go.RowKit

theorem eNormalK_any (k : Int) (hk : 3 ≤ k ∧ k ≤ 7) (s : List Rx) (A : Option Addr) (c : Nat) (w : World) (S : Nat → Prop) (hSk : SOk S w.heap.size) (hs : RtL w S s A) (hc : s.length ≤ c) (hA : A = none → c = 0) (hN : nodesL s ≤ 100000) (h1 : k = 6 ∨ k = 7 → s.length = 1) (hw : wfL s = true) :
    Calls Tryz.prog 46 #[.int .i64 k, .slice A s.length c] w (GivesS S w (normE k s)) := by
  obtain h | h | h | h | h : k = 3 ∨ k = 4 ∨ k = 5 ∨ k = 6 ∨ k = 7 := by omega
  · subst h; exact eNorm3_any s A c w S hSk hs hc hA hN
  · subst h; exact eNorm4_any s A c w S hSk hs hc hA hN
  · subst h; exact eNorm5_any s A c w S hSk hs hc hA hN
  · subst h
    match s, h1 (.inl rfl) with
    | [y], _ => exact eNorm6_any y A c w S hSk hs hc (fun hy => by
        have hwy := wf_all.1 hw y (by simp)
        obtain ⟨k, l, h, u⟩ := y
        simp only [Rx.kind] at hy
        obtain ⟨z, hz, _⟩ := wf_single hwy (.inl hy)
        simp only [Rx.kids, hz, List.length_cons, List.length_nil])
  · subst h
    match s, h1 (.inr rfl) with
    | [y], _ => exact eNorm7_any y A c w S hSk hs hc

set_option maxHeartbeats 2000000 in
set_option maxRecDepth 100000 in
theorem eSimple_upto (m : Nat) : ∀ (x : Rx) (v : Value) (S : Nat → Prop) (w : World), nodes x ≤ m → nodes x ≤ 40000 → wfR x = true → RtV w S x v → SOk S w.heap.size → Calls Tryz.prog 24 #[v] w (GivesS S w (nf x)) := by
  induction m with
  | zero => intro x v S w h0; cases x; simp [nodes] at h0
  | succ m ih =>
    intro x v S w hm hbig hwf hv hS
    have hv0 := hv
    obtain ⟨k, l, h, s⟩ := x
    obtain ⟨⟨hk, hl, hh, hsl⟩, A, c, rfl, hc, hA, hs⟩ := hv.parts
    simp only [Rx.kind, Rx.lo, Rx.hi, Rx.kids] at hk hl hh hsl hc hs hv0 ⊢
    obtain ⟨i0, hi, hz0, hz1, hz2⟩ := info_parts info_eRegex
    by_cases hk3 : k < 3
    · have hres := Lib.hid (simple_low hk3 hwf)
      clear hs hv ih
      replace hv0 := Lib.hid hv0
      unfold rxv
      go_enter Tryz.func24, Tryz.ntmps24
      go_wp2_with fail
      have h1 := heap_alloc_new_at (w.alloc (.cells #[.int .i64 k, .int .u8 l, .int .u8 h, .slice A s.length c] 25)) (.cells #[.int .i64 k, .int .u8 l, .int .u8 h, .slice A s.length c] 25) (n := w.heap.size + 1) (by simp)
      have hB := below_alloc2 (Below.refl w.heap.size w) (Nat.le_refl _) (.cells #[.int .i64 k, .int .u8 l, .int .u8 h, .slice A s.length c] 25) (.cells #[.int .i64 k, .int .u8 l, .int .u8 h, .slice A s.length c] 25)
      obtain ⟨q0, q1, q2, q3⟩ := four h1
      generalize (w.alloc (.cells #[.int .i64 k, .int .u8 l, .int .u8 h, .slice A s.length c] 25)).alloc (.cells #[.int .i64 k, .int .u8 l, .int .u8 h, .slice A s.length c] 25) = w2 at *
      refine bodyPost_ret (v := rxv k l h A s.length c) (by unfold rxv; simp [results, Tryz.results24, go_sem, q0, q1, q2, q3]) rfl ?_
      rw [hres.out]
      exact ⟨_, rfl, (hv0.out.keep hS hB).sub (fun b hb => .inl hb), hB⟩
    · have hk7 : 3 ≤ k ∧ k ≤ 7 := by have := wf_kind hwf; omega
      have hres := Lib.hid (simple_nf (by omega) hwf)
      have hwk : wfL s = true := wf_kidsL hwf
      have h17 : k = 6 ∨ k = 7 → (nfs s).length = 1 := fun hk67 => by
        obtain ⟨z, hz, _⟩ := wf_single hwf hk67
        rw [nfs_len, hz]; rfl
      have hnn := nfs_nodes s
      have hnd : nodes (.node k l h s) = nodesL s + 1 := rfl
      have hwn := wf_nfs s hwk
      clear hv hv0 hwf
      unfold rxv
      go_enter Tryz.func24, Tryz.ntmps24
      go_wp2_with fail
      have hn0 := (heap_alloc_old (w.alloc (.cells #[.int .i64 k, .int .u8 l, .int .u8 h, .slice A s.length c] 25)) (.cells #[.int .i64 0, .int .u8 0, .int .u8 0, .slice none 0 0] 25) w.heap.size (by simp)).trans (heap_alloc_new w (.cells #[.int .i64 k, .int .u8 l, .int .u8 h, .slice A s.length c] 25))
      have hn1 := heap_alloc_new_at (w.alloc (.cells #[.int .i64 k, .int .u8 l, .int .u8 h, .slice A s.length c] 25)) (.cells #[.int .i64 0, .int .u8 0, .int .u8 0, .slice none 0 0] 25) (n := w.heap.size + 1) (by simp)
      have hB0 := below_alloc2 (Below.refl w.heap.size w) (Nat.le_refl _) (.cells #[.int .i64 k, .int .u8 l, .int .u8 h, .slice A s.length c] 25) (.cells #[.int .i64 0, .int .u8 0, .int .u8 0, .slice none 0 0] 25)
      have hz0s : ((w.alloc (.cells #[.int .i64 k, .int .u8 l, .int .u8 h, .slice A s.length c] 25)).alloc (.cells #[.int .i64 0, .int .u8 0, .int .u8 0, .slice none 0 0] 25)).heap.size = w.heap.size + 2 := by simp
      generalize (w.alloc (.cells #[.int .i64 k, .int .u8 l, .int .u8 h, .slice A s.length c] 25)).alloc (.cells #[.int .i64 0, .int .u8 0, .int .u8 0, .slice none 0 0] 25) = w0 at *
      go_loopw [3, 4] (fun u i wr => ∃ (j : Nat) (ts : List Tn), j ≤ s.length ∧ i = .int .i64 j ∧ Hid (ts.map Tn.x = nfs (s.take j) ∧ ts.length = j) ∧ wr.heap[w.heap.size]? = some (.cells #[.int .i64 k, .int .u8 l, .int .u8 h, .slice A s.length c] 25 (0, 0)) ∧
          wr.heap[w.heap.size + 1]? = some (.cells #[.int .i64 0, .int .u8 0, .int .u8 0, .slice none 0 0] 25 (0, 0)) ∧
          RowT wr (w.heap.size + 2) (fun b => S b ∨ w.heap.size + 2 ≤ b) 25 u ts ∧ Below w.heap.size w wr ∧ w.heap.size + 2 ≤ wr.heap.size) (fun _ i _ => s.length - (intOf i).toNat)
      case atStart => exact ⟨0, [], Nat.zero_le _, rfl, Lib.hid ⟨rfl, rfl⟩, hn0, hn1, RowT.nil _ _ _ _, hB0, by omega⟩
      case round =>
        obtain ⟨j, ts, hj, rfl, hts, hb0, hb1, hrow, hW, hsz⟩ := hrel
        obtain ⟨wr1, rfl⟩ : ∃ wo, wo = wr := ⟨_, rfl⟩
        obtain ⟨p0, p1, p2, p3⟩ := four hb0
        clear hn0 hn1 hB0 hz0s
        by_cases hlt : j < s.length
        · obtain ⟨bl, o, A', c', rfl, hbl, h4, hx⟩ := hs.get hlt
          have h4' := h4.to (hW.block bl (hS bl hbl))
          have hnod : nodes s[j] ≤ m ∧ nodes s[j] ≤ 40000 := by have := nodes_get hlt; simp only [nodes] at hm hbig; omega
          have HX := Lib.hid (fun l => nfs_take (l := l) hlt)
          have hwj := wfL.get hwk hlt
          have hC : ∀ W, Below w.heap.size w W → Calls Tryz.prog 24 #[rxv s[j].kind s[j].lo s[j].hi A' s[j].kids.length c'] W fun e w' => GivesS S W (nf s[j]) e w' := fun W hWW =>
            ih _ _ S W hnod.1 hnod.2 hwj (hx.keep hS hWW) (hS.mono hWW.size)
          clear hx h4 hs ih hwk hwj hwn h17 hnn
          generalize s[j] = x at h4' hnod HX hC
          obtain ⟨xk, xl, xh, xs⟩ := x
          obtain ⟨e0, e1, e2, e3⟩ := h4'
          simp only [Rx.kind, Rx.lo, Rx.hi, Rx.kids] at e0 e1 e2 e3 hC
          have htl := hts.out.2
          subst htl
          unfold rxv at hC
          generalize nf (.node xk xl xh xs) = y at hC HX
          have hj2 : (ts.length : Int) < (s.length : Int) := by omega
          have hj0 : (0 : Int) ≤ (ts.length : Int) := by omega
          go_wp2_with (first
            | (go_at_call 24; refine (hC _ hW).mono ?_; clear hC; rintro e' w1 ⟨v1, rfl, hv1, hw1⟩; obtain ⟨⟨ok1, ok2, ok3, ok4⟩, A1, c1, rfl, hc1, hA1, hs1⟩ := hv1.parts; have hy1 := hw1.size; simp only [rxv])
            | (at_builtin; refine wpList_append_lies _ rfl _ _ 23 rfl (w.heap.size + 2) 25 i0 (.agg #[.int .i64 0, .int .u8 0, .int .u8 0, .slice none 0 0]) 4 40 Tryz.underlying23 hi hz0 hz1 hz2 rfl (by decide) _ ts.length (ts.flatMap Tn.cells) rfl ((own_below hrow.1 hw1).alloc _) ⟨w1.heap.size, 0, none⟩ 1 1 (Tn.cells ⟨y, A1, c1⟩) rfl rfl (World.news_of_block (cs := #[.int .i64 y.kind, .int .u8 y.lo, .int .u8 y.hi, .slice A1 y.kids.length c1]) (t := 25) (fr := (0, 0)) (heap_alloc_new w1 _)) (tn_one1 _) (by decide) (by unfold maxLen; omega) (by omega) (by simp; omega) (w1.heap.size + 1) (by simp) ?_; intro g' cap' w5 hown5 hgrow5 hat5 hlt5))
          clear p0 p1 p2 p3
          obtain ⟨hr5, hB5⟩ := row_step (t := ⟨y, A1, c1⟩) hrow hw1 hsz hv1 (fun b hb => ⟨by
              rcases hb with hb | hb
              · exact .inl hb
              · exact .inr (by have := hb.1; omega), by
              rcases hb with hb | hb
              · have := hS b hb; omega
              · exact hb.2, plus_far hrow (hS.mono (by omega)) (Nat.le_refl _) hb⟩) hown5 hgrow5 hat5
          go_roundw
          case rel => exact ⟨ts.length + 1, _, by omega, by go_num, Lib.hid ⟨by rw [List.map_append]; exact HX.out _ hts.out.1, by rw [List.length_append]; rfl⟩, (hB5.block _ (by omega)).trans hb0, (hB5.block _ (by omega)).trans hb1, hr5, hW.trans (hB5.mono (by omega)), Nat.le_trans hsz hB5.size⟩
          case measure => simp [intOf]; omega
        · have he := Lib.hid (show s.take j = s from List.take_of_length_le (by omega))
          obtain ⟨A1, c1, rfl⟩ := hrow.val
          obtain ⟨S2, hS2d⟩ : ∃ S2, S2 = Plus S (w.heap.size + 2) wr1.heap.size := ⟨_, rfl⟩
          have hS2 : SOk S2 wr1.heap.size := by subst hS2d; exact plus_ok (hS.mono (by omega)) hsz
          obtain ⟨r1, r2, r3, r4⟩ := hrow.list
          have hxs : ts.map Tn.x = nfs s := by rw [hts.out.1, he.out]
          have hl2 : ts.length = (nfs s).length := by rw [← hxs, List.length_map]
          rw [hxs] at r4
          have hC := eNormalK_any k hk7 (nfs s) A1 c1 wr1 S2 hS2 (r4.sub (fun b hb => by
            subst hS2d
            rcases hb with ⟨(h1 | h1) | h1, h2⟩
            · exact .inl h1
            · exact .inr ⟨h1, h2⟩
            · exact .inr ⟨h1, h2⟩)) (by rw [← hl2]; exact r2) r3 (by omega) h17 hwn
          rw [hres.out, ← hl2] at hC
          obtain ⟨res, hres2⟩ : ∃ res, nf (.node k l h s) = res := ⟨_, rfl⟩
          rw [hres2] at hC
          replace hres2 := Lib.hid hres2
          clear ih hs r4 hres hwk hwn hl2 hnn hxs h17 hts
          have hju : ¬ ((j : Int) < (s.length : Int)) := by omega
          have hfin : ∀ (e : Ending) (w1 : World), GivesS S2 wr1 res e w1 → ∃ A2 d2, e = .returned (rxv res.kind res.lo res.hi A2 res.kids.length d2) ∧ RtV w1 (Plus S (w.heap.size + 1 + 1) w1.heap.size) res (rxv res.kind res.lo res.hi A2 res.kids.length d2) ∧ Below w.heap.size w w1 ∧ w1.heap[w.heap.size + 1]? = some (.cells #[.int .i64 0, .int .u8 0, .int .u8 0, .slice none 0 0] 25 (0, 0)) := fun e w1 ⟨v1, he1, hv1, hw1⟩ => by
            obtain ⟨_, A2, d2, rfl, _⟩ := hv1.parts
            refine ⟨A2, d2, he1, hv1.sub (fun b hb => ?_), hW.trans (hw1.mono hW.size), (hw1.block _ (by omega)).trans hb1⟩
            subst hS2d
            have hw1s := hw1.size
            rcases hb with (h1 | h1) | h1
            · exact .inl h1
            · exact .inr ⟨h1.1, by omega⟩
            · exact .inr ⟨by omega, h1.2⟩
          go_wp2_with (go_at_call 46; refine Calls.mono hC ?_; clear hC; intro e w1 hg; obtain ⟨A2, d2, rfl, hv2, hB2, hn2⟩ := hfin e w1 hg; obtain ⟨q0, q1, q2, q3⟩ := four hn2; have hf2 := four_frozen hn2; simp only [rxv])
          refine bodyPost_ret (v := rxv res.kind res.lo res.hi A2 res.kids.length d2) (by unfold rxv; simp [results, Tryz.results24, go_sem, q0, q1, q2, q3]) rfl ?_
          rw [hres2.out]
          exact fin_givesS hB2 (Nat.le_succ _) hv2 (fun b hb => plus_sub hS hb)
theorem eSimple_any (x : Rx) (v : Value) (S : Nat → Prop) (w : World) (hn : nodes x ≤ 40000) (hwf : wfR x = true) (hv : RtV w S x v) (hS : SOk S w.heap.size) : Calls Tryz.prog 24 #[v] w (GivesS S w (nf x)) := eSimple_upto (nodes x) x v S w (Nat.le_refl _) hn hwf hv hS
end Go.Proofs.YtnjkihbmhacgoaaGreatDoor
