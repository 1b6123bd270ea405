/-
  THE WALK of the program's find: the place of an index among entries whose indices grow.
-/
import Derived.Test.YtngfgohchnkidaaVaCmp
namespace Go.Proofs.Ytngfgohchnkidaa
open Go.RowKit

/-- the indices grow -/
def Srt (l : List En) : Prop := l.Pairwise (fun x y => x.i < y.i)
/-- the entries before an index -/
def lowE (i : Int) (l : List En) : List En := l.takeWhile (fun x => decide (x.i < i))
def posE (i : Int) (l : List En) : Nat := (lowE i l).length
def hasE (i : Int) (l : List En) : Bool := ((l.drop (posE i l)).head?.map (fun x => x.i == i)).getD false
theorem posE_le (i : Int) (l : List En) : posE i l ≤ l.length := by
  unfold posE lowE
  exact (List.takeWhile_prefix _).length_le
theorem posE_cons (i : Int) (x : En) (l : List En) : posE i (x :: l) = if x.i < i then posE i l + 1 else 0 := by
  unfold posE lowE
  rw [List.takeWhile_cons]
  by_cases h : x.i < i
  · simp [h]
  · simp [h]
theorem posE_lt {i : Int} : ∀ {l : List En}, Srt l → ∀ {h : Nat} (hh : h < l.length), (l[h].i < i ↔ h < posE i l)
  | [], _, h, hh => by simp at hh
  | x :: l, hs, h, hh => by
    obtain ⟨h1, h2⟩ := List.pairwise_cons.1 hs
    rw [posE_cons]
    cases h with
    | zero =>
      by_cases hx : x.i < i
      · simp [hx]
      · simp [hx]
    | succ h =>
      have hh' : h < l.length := by simpa using hh
      have ih := posE_lt (i := i) h2 hh'
      by_cases hx : x.i < i
      · simp only [List.getElem_cons_succ, if_pos hx]; omega
      · have := h1 l[h] (List.getElem_mem hh')
        simp only [List.getElem_cons_succ, if_neg hx]
        omega
theorem hasE_at {i : Int} {l : List En} (h : posE i l < l.length) : hasE i l = (l[posE i l].i == i) := by
  unfold hasE
  rw [List.drop_eq_getElem_cons h]
  rfl
theorem hasE_end {i : Int} {l : List En} (h : ¬ posE i l < l.length) : hasE i l = false := by
  unfold hasE
  rw [List.drop_eq_nil_of_le (by omega)]
  rfl

theorem vfind1_any (x : En) (i : Int) (w : World) : Calls Try.prog 88 #[x.val, .int .u64 i] w fun e w' => e = .returned (.int .i64 (sg x.i i)) ∧ Below w.heap.size w w' := by
  obtain ⟨xi, xu, xs⟩ := x
  show Calls Try.prog 88 #[.agg #[.int .u64 xi, .int .u64 xu, .string xs], .int .u64 i] w _
  have HC := Lib.hid fun W => cmpU64_any xi i W
  simp only
  obtain ⟨cv, hcv⟩ : ∃ cv, cv = sg xi i := ⟨_, rfl⟩
  rw [← hcv] at HC ⊢
  obtain ⟨q0, q1, q2⟩ := three (heap_alloc_new w (.cells #[.int .u64 xi, .int .u64 xu, .string xs] 85))
  have hB := (Below.refl w.heap.size w).alloc (Nat.le_refl _) (.cells #[.int .u64 xi, .int .u64 xu, .string xs] 85)
  clear hcv
  go_enter Try.func88, Try.ntmps88
  go_wp2_with (go_at_call 49; refine Calls.mono (HC.out _) ?_; rintro e w1 ⟨rfl, rfl⟩)
  go_ret
  exact ⟨rfl, hB⟩

set_option maxHeartbeats 1000000 in
set_option maxRecDepth 100000 in
theorem vBinSearch_any (i : Int) (l : List En) (A : Option Addr) (c : Nat) (w : World) (hs : Srt l) (hl : EnL w (LoV w.heap.size) l A) (hll : l.length ≤ 100000) :
    Calls Try.prog 87 #[.slice A l.length c, .int .u64 i, .func (.func 88) #[] #[]] w fun e w' => e = .returned (.tuple #[.int .i64 (posE i l : Nat), .bool (hasE i l)]) ∧ Below w.heap.size w w' := by
  have HL := Lib.hid hl
  obtain ⟨P, hP⟩ : ∃ P, P = posE i l := ⟨_, rfl⟩
  obtain ⟨F, hF⟩ : ∃ F, F = hasE i l := ⟨_, rfl⟩
  have hPl : P ≤ l.length := hP ▸ posE_le i l
  have HLT := Lib.hid (fun (h : Nat) (hh : h < l.length) => (show l[h].i < i ↔ h < P from hP ▸ posE_lt hs hh))
  have HF1 := Lib.hid (fun (h : P < l.length) => (show F = (l[P].i == i) from by subst hP; rw [hF]; exact hasE_at h))
  have HF0 := Lib.hid (fun (h : ¬ P < l.length) => (show F = false from by subst hP; rw [hF]; exact hasE_end h))
  rw [← hP, ← hF]
  clear hs hl hP hF
  go_enter Try.func87, Try.ntmps87
  go_wp2_with fail
  go_loopw [9, 10] (fun u v wr => ∃ a b : Nat, a ≤ P ∧ P ≤ b ∧ b ≤ l.length ∧ u = .int .i64 (a : Int) ∧ v = .int .i64 (b : Int) ∧ Below w.heap.size w wr) (fun u v _ => (intOf v).toNat - (intOf u).toNat)
  case atStart => exact ⟨0, l.length, Nat.zero_le _, hPl, Nat.le_refl _, rfl, rfl, Below.refl _ _⟩
  case round =>
    obtain ⟨a, b, ha, hb, hbl, rfl, rfl, hW⟩ := hrel
    by_cases hlt : a < b
    · have hhl : (a + b) / 2 < l.length := by omega
      obtain ⟨b1, o1, rfl, hb1, x3⟩ := HL.out.get hhl
      have hb1' : b1 < w.heap.size := hb1
      obtain ⟨x, hx⟩ : ∃ x, x = l[(a + b) / 2] := ⟨_, rfl⟩
      rw [← hx] at x3
      have HX : x.i < i ↔ (a + b) / 2 < P := hx ▸ HLT.out _ hhl
      obtain ⟨c0, c1, c2⟩ := x3.to (hW.block b1 hb1')
      have HC := Lib.hid fun W => vfind1_any x i W
      unfold En.val at HC
      have q1 : (a : Int) < (b : Int) := by omega
      have q2 : (((a + b) / 2 : Nat) : Int) < (l.length : Int) := by omega
      have qs : IntKind.i64.wrap ((a : Int) + (b : Int)) = ((a + b : Nat) : Int) := by rw [← Int.natCast_add]; exact IntWalk.i64_in _ (by omega)
      have qe : IntKind.i64.wrap ((((a + b) / 2 : Nat) : Int) + 1) = (((a + b) / 2 + 1 : Nat) : Int) := by rw [show (((a + b) / 2 : Nat) : Int) + 1 = (((a + b) / 2 + 1 : Nat) : Int) by omega]; exact IntWalk.i64_in _ (by omega)
      obtain ⟨cv, hcv⟩ : ∃ cv, cv = sg x.i i := ⟨_, rfl⟩
      rw [← hcv] at HC
      by_cases hlo : x.i < i
      · have hc1 : cv = -1 := by rw [hcv]; unfold sg; rw [if_pos hlo]
        have h5 := HX.1 hlo
        subst hc1
        clear x3 hx hcv HX hlo
        go_wp2_with (go_at_call 88; refine Calls.mono (HC.out _) ?_; rintro e w1 ⟨rfl, hw1⟩)
        go_roundw
        case rel => exact ⟨(a + b) / 2 + 1, b, by omega, hb, hbl, by go_num, rfl, hW.trans (hw1.mono hW.size)⟩
        case measure => simp [intOf]; omega
      · have hc1 : ¬ cv < 0 := by rw [hcv]; unfold sg; rw [if_neg hlo]; split <;> omega
        have h5 : ¬ (a + b) / 2 < P := fun h => hlo (HX.2 h)
        clear x3 hx hcv HX hlo
        go_wp2_with (go_at_call 88; refine Calls.mono (HC.out _) ?_; rintro e w1 ⟨rfl, hw1⟩)
        go_roundw
        case rel => exact ⟨a, (a + b) / 2, ha, by omega, by omega, rfl, by go_num, hW.trans (hw1.mono hW.size)⟩
        case measure => simp [intOf]; omega
    · obtain rfl : a = P := by omega
      obtain rfl : b = a := by omega
      have q1 : ¬ (b : Int) < (b : Int) := by omega
      by_cases hbn : b < l.length
      · obtain ⟨b1, o1, rfl, hb1, x3⟩ := HL.out.get hbn
        have hb1' : b1 < w.heap.size := hb1
        obtain ⟨x, hx⟩ : ∃ x, x = l[b] := ⟨_, rfl⟩
        rw [← hx] at x3
        have HF := Lib.hid (show F = (x.i == i) from hx ▸ HF1.out hbn)
        obtain ⟨c0, c1, c2⟩ := x3.to (hW.block b1 hb1')
        have HC := Lib.hid fun W => vfind1_any x i W
        unfold En.val at HC
        obtain ⟨cv, hcv⟩ : ∃ cv, cv = sg x.i i := ⟨_, rfl⟩
        rw [← hcv] at HC
        have q2 : (b : Int) < (l.length : Int) := by omega
        have HCV := Lib.hid (show (cv == 0) = (x.i == i) from by
          rw [hcv]; unfold sg
          by_cases h1 : x.i < i
          · rw [if_pos h1, show (x.i == i) = false by simp; omega]; rfl
          · rw [if_neg h1]
            by_cases h2 : i < x.i
            · rw [if_pos h2, show (x.i == i) = false by simp; omega]; rfl
            · rw [if_neg h2, show (x.i == i) = true by simp; omega]; rfl)
        clear x3 hx hcv
        go_wp2_with (go_at_call 88; refine Calls.mono (HC.out _) ?_; rintro e w1 ⟨rfl, hw1⟩)
        go_ret2
        exact ⟨by rw [HF.out, ← HCV.out]; rfl, hW.trans (hw1.mono hW.size)⟩
      · have HF := Lib.hid (HF0.out hbn)
        have q2 : ¬ (b : Int) < (l.length : Int) := by omega
        go_wp2_with fail
        go_ret2
        exact ⟨by rw [HF.out]; rfl, hW⟩
theorem vfind_any (i : Int) (l : List En) (A : Option Addr) (c : Nat) (w : World) (hs : Srt l) (hl : EnL w (LoV w.heap.size) l A) (hll : l.length ≤ 100000) :
    Calls Try.prog 64 #[.slice A l.length c, .int .u64 i] w fun e w' => e = .returned (.tuple #[.int .i64 (posE i l : Nat), .bool (hasE i l)]) ∧ Below w.heap.size w w' := by
  have H := vBinSearch_any i l A c w hs hl hll
  clear hs hl
  generalize posE i l = P at *
  generalize hasE i l = F at *
  go_enter Try.func64, Try.ntmps64
  go_wp2_with (go_at_call 87; refine Calls.mono H ?_; rintro e w1 ⟨rfl, hw1⟩)
  go_ret2
  exact ⟨rfl, hw1⟩
end Go.Proofs.Ytngfgohchnkidaa
