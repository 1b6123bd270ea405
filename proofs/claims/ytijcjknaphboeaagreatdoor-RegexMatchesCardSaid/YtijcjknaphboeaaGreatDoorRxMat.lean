/-
  Match and Nullable of the reference, and the program's Nullable, in the words of the program's Match.
-/
import Derived.Test.YtijcjknaphboeaaGreatDoorRxMatch
import Derived.Test.YtijcjknaphboeaaGreatDoorRxEMtC
import Derived.Test.YtijcjknaphboeaaGreatDoorRxIdx
namespace Go.Proofs.YtijcjknaphboeaaGreatDoor
open Go.RowKit

theorem len_le_nodes : ∀ s : List Rx, s.length ≤ nodesL s
  | [] => Nat.zero_le _
  | x :: s => by
    have := len_le_nodes s
    have h1 : 1 ≤ nodes x := by cases x; simp [nodes]
    simp only [List.length_cons, nodesL]
    omega
theorem bool5 (a b c d d' e f : Bool) (e1 : (d && c) = (d' && c)) (e2 : (a && b && e) = f) : (a && b && c && d && e) = (d' && c && f) := by
  subst e2; revert e1
  cases a <;> cases b <;> cases c <;> cases d <;> cases d' <;> cases e <;> decide
theorem good_e1 (k l h : Int) (hl : 0 ≤ l) : ((k == 2 || decide (h ≤ 0)) && decide (l ≤ h)) = ((k == 2 || l == 0 && h == 0) && decide (l ≤ h)) := by
  rw [Bool.eq_iff_iff]
  simp only [Bool.and_eq_true, Bool.or_eq_true, beq_iff_eq, decide_eq_true_eq]
  constructor
  · rintro ⟨h1 | h1, h2⟩
    · exact ⟨.inl h1, h2⟩
    · exact ⟨.inr ⟨by omega, by omega⟩, h2⟩
  · rintro ⟨h1 | h1, h2⟩
    · exact ⟨.inl h1, h2⟩
    · exact ⟨.inr (by omega), h2⟩
theorem good_e2 (k : Int) (s : List Rx) (h64 : s.length ≤ 64) : (decide (0 ≤ k ∧ k ≤ 7) && decide (leastK k.toNat ≤ s.length ∧ s.length ≤ mostK k.toNat) && wfL s) = (if k == 0 || k == 1 || k == 2 then s.length == 0 else if k == 6 || k == 7 then s.length == 1 && wfL s else if k == 3 || k == 4 || k == 5 then wfL s else false) := by
  by_cases hk : 0 ≤ k ∧ k ≤ 7
  · obtain ⟨q, rfl⟩ : ∃ q : Nat, k = q := ⟨k.toNat, by omega⟩
    rw [decide_eq_true hk, Int.toNat_natCast]
    have hq : q = 0 ∨ q = 1 ∨ q = 2 ∨ q = 3 ∨ q = 4 ∨ q = 5 ∨ q = 6 ∨ q = 7 := by omega
    have c0 : (decide (0 ≤ s.length ∧ s.length ≤ 0) && wfL s) = (s.length == 0) := by
      cases s with
      | nil => rfl
      | cons x t => simp
    have c64 : (decide (0 ≤ s.length ∧ s.length ≤ 64) && wfL s) = wfL s := by rw [decide_eq_true ⟨Nat.zero_le _, h64⟩, Bool.true_and]
    have c1 : (decide (1 ≤ s.length ∧ s.length ≤ 1) && wfL s) = (s.length == 1 && wfL s) := by
      congr 1
      rw [Bool.eq_iff_iff, decide_eq_true_iff, beq_iff_eq]; omega
    rw [Bool.true_and]
    rcases hq with rfl | rfl | rfl | rfl | rfl | rfl | rfl | rfl
    · exact c0
    · exact c0
    · exact c0
    · exact c64
    · exact c64
    · exact c64
    · exact c1
    · exact c1
  · rw [decide_eq_false hk, Bool.false_and, Bool.false_and]
    have n : ∀ q : Int, 0 ≤ q ∧ q ≤ 7 → (k == q) = false := fun q hq => beq_eq_false_iff_ne.2 (fun e => hk (e ▸ hq))
    rw [n 0 (by decide), n 1 (by decide), n 2 (by decide), n 3 (by decide), n 4 (by decide), n 5 (by decide), n 6 (by decide), n 7 (by decide)]
    rfl
mutual
theorem good_wf {w : World} {S : Nat → Prop} : ∀ (x : Rx) {v : Value}, RtV w S x v → nodes x ≤ 64 → goodR x = wfR x
  | .node k l h s, v, hv, hn => by
    obtain ⟨⟨hk, hl, hh, hsl⟩, A, c, rfl, hc, hA, hs⟩ := hv.parts
    simp only [Rx.kind, Rx.lo, Rx.hi, Rx.kids] at hk hl hh hsl hc hs
    have hn' : nodesL s ≤ 63 := by simp only [nodes] at hn; omega
    have hlen := len_le_nodes s
    have ih := good_wfL s hs (by omega)
    simp only [goodR, wfR, ih]
    exact bool5 _ _ _ _ _ _ _ (good_e1 k l h hl.1) (good_e2 k s (by omega))
theorem good_wfL {w : World} {S : Nat → Prop} : ∀ (s : List Rx) {A : Option Addr}, RtL w S s A → nodesL s ≤ 64 → goodL s = wfL s
  | [], A, h, hn => rfl
  | x :: s, A, h, hn => by
    simp only [RtL] at h
    obtain ⟨b, o, A', c', e, h1, h2, h3, h4⟩ := h
    simp only [nodesL] at hn
    simp only [goodL, wfL, good_wf x h3 (by omega), good_wfL s h4 (by omega)]
end
theorem evalR_eq {w : World} {S : Nat → Prop} {x : Rx} {v : Value} (h : RtV w S x v) : evalR x = validR x := by
  unfold evalR validR
  by_cases h64 : 64 < nodes x
  · rw [if_pos h64, if_pos h64]
  · rw [if_neg h64, if_neg h64, good_wf x h (by omega)]
mutual
theorem nul_mt (b : Nat → Int) : ∀ x : Rx, wfR x = true → (nulR x = true ↔ mt b x 0 0)
  | .node k l h s, hw => by
    have hL : wfL s = true := by rw [wfL_all, List.all_eq_true]; exact fun x hx => by obtain ⟨i, hi, rfl⟩ := List.getElem_of_mem hx; exact wf_kid hw hi
    have iA := nulA_mt b s hL
    have iO := nulO_mt b s hL
    have iN : k = 6 → (nulN s = true ↔ ¬ mtFst b s 0 0) := fun e => by
      subst e
      simp only [wfR, Bool.and_eq_true] at hw
      have h2 := hw.2
      simp at h2
      exact nulN_mt b s hL h2.1
    simp only [nulR, mt]
    by_cases h1 : k = 1
    · subst h1; simp
    · by_cases h7 : k = 7
      · subst h7; simp; exact .nil _
      · rw [if_neg (by omega)]
        by_cases h3 : k = 3
        · subst h3; simp; exact iA.1
        · by_cases h5 : k = 5
          · subst h5; simp; exact iA.2
          · rw [if_neg (by omega)]
            by_cases h4 : k = 4
            · subst h4; simp; exact iO
            · rw [if_neg h4]
              by_cases h6 : k = 6
              · subst h6; simp; exact iN rfl
              · rw [if_neg h6]; simp [h1, h3, h4, h5, h6, h7]
theorem nulA_mt (b : Nat → Int) : ∀ s : List Rx, wfL s = true → (nulA s = true ↔ mtCat b s 0 0) ∧ (nulA s = true ↔ mtAll b s 0 0)
  | [], _ => by simp [nulA, mtCat, mtAll]
  | x :: s, hw => by
    simp only [wfL, Bool.and_eq_true] at hw
    have hx := nul_mt b x hw.1
    have hs := nulA_mt b s hw.2
    simp only [nulA, mtCat, mtAll, Bool.and_eq_true]
    constructor
    · rw [hx, hs.1]
      constructor
      · exact fun h => ⟨0, h.1, h.2⟩
      · rintro ⟨q, h1, h2⟩
        have := mtCat_le b s h2
        obtain rfl : q = 0 := by omega
        exact ⟨h1, h2⟩
    · rw [hx, hs.2]
theorem nulO_mt (b : Nat → Int) : ∀ s : List Rx, wfL s = true → (nulO s = true ↔ mtAny b s 0 0)
  | [], _ => by simp [nulO, mtAny]
  | x :: s, hw => by
    simp only [wfL, Bool.and_eq_true] at hw
    simp only [nulO, mtAny, Bool.or_eq_true]
    rw [nul_mt b x hw.1, nulO_mt b s hw.2]
theorem nulN_mt (b : Nat → Int) : ∀ s : List Rx, wfL s = true → s.length = 1 → (nulN s = true ↔ ¬ mtFst b s 0 0)
  | x :: s, hw, _ => by
    simp only [wfL, Bool.and_eq_true] at hw
    simp only [nulN, mtFst]
    rw [← nul_mt b x hw.1]
    cases nulR x <;> simp
end
set_option maxHeartbeats 1000000 in
set_option maxRecDepth 100000 in
theorem eMatch_any (x : Rx) (v : Value) (w : World) (S : ByteArray) (hn : nodes x ≤ 1000000) (hS : S.size ≤ 1000000) (hv : RtV w (Lo w.heap.size) x v) : Calls Tryz.prog 21 #[v, .string S] w (MatchOk w S x) := by
  have HG := Lib.hid fun h => good_wf x hv h
  have HR := Lib.hid (evalR_eq hv)
  obtain ⟨_, A, c, rfl, _⟩ := hv.parts
  have HV := Lib.hid fun W (hW : Below w.heap.size w W) => eValid_any x _ W hn (hv.call hW)
  have HE := Lib.hid fun W (hW : Below w.heap.size w W) (h1 : goodR x = true) (h2 : S.size ≤ 64) => em_any (nodes x) x _ W S (Nat.le_refl _) h1 h2 (hv.call hW)
  unfold rxv at HV HE ⊢
  rw [HR.out] at HV
  have hd : Below w.heap.size w (w.alloc (.cells #[.int .i64 x.kind, .int .u8 x.lo, .int .u8 x.hi, .slice A x.kids.length c] 25)) := (Below.refl _ _).alloc (Nat.le_refl _) _
  clear hv HR
  unfold MatchOk matchE
  by_cases h1 : 64 < nodes x
  · have hv : validR x = 4 := by unfold validR; rw [if_pos h1]
    simp only [if_pos h1]
    rw [hv] at HV
    go_enter Tryz.func21, Tryz.ntmps21
    go_wp2_with (first | (go_at_call 13; refine (HV.out _ hd).mono ?_; rintro e w1 ⟨rfl, hw1⟩))
    go_ret2
    exact ⟨false, rfl, by simp, hd.trans (hw1.mono hd.size)⟩
  · by_cases h2 : wfR x = true
    · have hv : validR x = 0 := by unfold validR; rw [if_neg h1, if_pos h2]
      simp only [if_neg h1, if_pos h2]
      rw [hv] at HV
      by_cases h3 : 64 < S.size
      · simp only [if_pos h3]
        have h3' : (64 : Int) < S.size := by omega
        go_enter Tryz.func21, Tryz.ntmps21
        go_wp2_with (first | (go_at_call 13; refine (HV.out _ hd).mono ?_; rintro e w1 ⟨rfl, hw1⟩))
        go_ret2
        exact ⟨false, rfl, by simp, hd.trans (hw1.mono hd.size)⟩
      · simp only [if_neg h3]
        have h3' : ¬ (64 : Int) < S.size := by omega
        have h4 := Lib.hid (show S.size ≤ 64 by omega)
        have H2 := Lib.hid (show goodR x = true by rw [HG.out (by omega), h2])
        clear h2 h1 hv HG
        go_enter Tryz.func21, Tryz.ntmps21
        go_wp2_with fail
        refine (HV.out _ hd).mono ?_
        rintro e w1 ⟨rfl, hw1⟩
        have hd1 := hd.trans (hw1.mono hd.size)
        obtain ⟨c0, c1, c2, c3⟩ := at_four rfl (hw1.mono (by simp))
        go_wp2_with fail
        refine (HE.out _ hd1 H2.out h4.out).mono ?_
        rintro e w2 ⟨r, rfl, hr, hw2⟩
        go_wp2_with fail
        go_ret2
        exact ⟨r, rfl, hr.trans ⟨fun h => ⟨trivial, h⟩, fun h => h.2⟩, hd1.trans (hw2.mono hd1.size)⟩
    · have hv : validR x = 1 := by unfold validR; rw [if_neg h1, if_neg h2]
      simp only [if_neg h1, if_neg h2]
      rw [hv] at HV
      go_enter Tryz.func21, Tryz.ntmps21
      go_wp2_with (first | (go_at_call 13; refine (HV.out _ hd).mono ?_; rintro e w1 ⟨rfl, hw1⟩))
      go_ret2
      exact ⟨false, rfl, by simp, hd.trans (hw1.mono hd.size)⟩
/-- what Nullable hands back, in either package -/
def NullOk (w : World) (x : Rx) (e : Ending) (w' : World) : Prop := e = .returned (.tuple #[.bool (validR x == 0 && nulR x), .int .i64 (validR x)]) ∧ Below w.heap.size w w'
set_option maxHeartbeats 1000000 in
set_option maxRecDepth 100000 in
theorem eNull_any (x : Rx) (v : Value) (w : World) (hn : nodes x ≤ 1000000) (hv : RtV w (Lo w.heap.size) x v) : Calls Tryz.prog 23 #[v] w (NullOk w x) := by
  have HG := Lib.hid fun h => good_wf x hv h
  have HR := Lib.hid (evalR_eq hv)
  obtain ⟨_, A, c, rfl, _⟩ := hv.parts
  have HV := Lib.hid fun W (hW : Below w.heap.size w W) => eValid_any x _ W hn (hv.call hW)
  have HE := Lib.hid fun W (hW : Below w.heap.size w W) (h1 : goodR x = true) => em_any (nodes x) x _ W ⟨#[]⟩ (Nat.le_refl _) h1 (Nat.zero_le _) (hv.call hW)
  unfold rxv at HV HE ⊢
  rw [HR.out] at HV
  have hd : Below w.heap.size w (w.alloc (.cells #[.int .i64 x.kind, .int .u8 x.lo, .int .u8 x.hi, .slice A x.kids.length c] 25)) := (Below.refl _ _).alloc (Nat.le_refl _) _
  clear hv HR
  unfold NullOk
  by_cases h0 : validR x = 0
  · have h12 : ¬ 64 < nodes x ∧ wfR x = true := by
      unfold validR at h0
      by_cases h1 : 64 < nodes x
      · rw [if_pos h1] at h0; cases h0
      · by_cases h2 : wfR x = true
        · exact ⟨h1, h2⟩
        · rw [if_neg h1, if_neg h2] at h0; cases h0
    have H2 := Lib.hid (show goodR x = true by rw [HG.out (by omega), h12.2])
    have HN := Lib.hid (nul_mt (bytS ⟨#[]⟩) x h12.2)
    rw [h0] at HV ⊢
    clear h0 h12 HG
    go_enter Tryz.func23, Tryz.ntmps23
    go_wp2_with fail
    refine (HV.out _ hd).mono ?_
    rintro e w1 ⟨rfl, hw1⟩
    have hd1 := hd.trans (hw1.mono hd.size)
    obtain ⟨c0, c1, c2, c3⟩ := at_four rfl (hw1.mono (by simp))
    go_wp2_with fail
    refine (HE.out _ hd1 H2.out).mono ?_
    rintro e w2 ⟨r, rfl, hr, hw2⟩
    have hrn : r = nulR x := by rw [Bool.eq_iff_iff, HN.out]; exact hr
    subst hrn
    clear hr HN
    go_wp2_with fail
    go_ret2
    exact ⟨by simp, hd1.trans (hw2.mono hd1.size)⟩
  · have hne : ((validR x) == 0) = false := beq_eq_false_iff_ne.2 h0
    rw [hne, Bool.false_and]
    generalize validR x = ve at HV h0 hne
    have hne2 : ((ve : Int) != 0) = true := bne_iff_ne.2 h0
    go_enter Tryz.func23, Tryz.ntmps23
    go_wp2_with (first | (go_at_call 13; refine (HV.out _ hd).mono ?_; rintro e w1 ⟨rfl, hw1⟩))
    go_ret2
    exact ⟨rfl, hd.trans (hw1.mono hd.size)⟩
set_option maxHeartbeats 1000000 in
set_option maxRecDepth 100000 in
theorem xNull_any (x : Rx) (v : Value) (w : World) (hv : RtV w (Lo w.heap.size) x v) : Calls Tryz.prog 22 #[v] w (NullOk w x) := by
  obtain ⟨_, A, c, rfl, _⟩ := hv.parts
  have HV := Lib.hid fun W (hW : Below w.heap.size w W) => valid_any x _ W (hv.call hW)
  have HE := Lib.hid fun W (hW : Below w.heap.size w W) (h1 : wfR x = true) => nullable_any x _ W h1 (hv.call hW)
  unfold rxv at HV HE ⊢
  have hd : Below w.heap.size w (w.alloc (.cells #[.int .i64 x.kind, .int .u8 x.lo, .int .u8 x.hi, .slice A x.kids.length c] 30)) := (Below.refl _ _).alloc (Nat.le_refl _) _
  clear hv
  unfold NullOk
  by_cases h0 : validR x = 0
  · have h2 : wfR x = true := by
      unfold validR at h0
      by_cases h1 : 64 < nodes x
      · rw [if_pos h1] at h0; cases h0
      · by_cases h2 : wfR x = true
        · exact h2
        · rw [if_neg h1, if_neg h2] at h0; cases h0
    have H2 := Lib.hid h2
    rw [h0] at HV ⊢
    clear h0 h2
    go_enter Tryz.func22, Tryz.ntmps22
    go_wp2_with fail
    refine (HV.out _ hd).mono ?_
    rintro e w1 ⟨rfl, hw1⟩
    have hd1 := hd.trans (hw1.mono hd.size)
    obtain ⟨c0, c1, c2, c3⟩ := at_four rfl (hw1.mono (by simp))
    go_wp2_with fail
    refine (HE.out _ hd1 H2.out).mono ?_
    rintro e w2 ⟨rfl, hw2⟩
    go_wp2_with fail
    go_ret2
    exact ⟨by simp, hd1.trans (hw2.mono hd1.size)⟩
  · have hne : ((validR x) == 0) = false := beq_eq_false_iff_ne.2 h0
    rw [hne, Bool.false_and]
    generalize validR x = ve at HV h0 hne
    have hne2 : ((ve : Int) != 0) = true := bne_iff_ne.2 h0
    go_enter Tryz.func22, Tryz.ntmps22
    go_wp2_with (first | (go_at_call 12; refine (HV.out _ hd).mono ?_; rintro e w1 ⟨rfl, hw1⟩))
    go_ret2
    exact ⟨rfl, hd.trans (hw1.mono hd.size)⟩
end Go.Proofs.YtijcjknaphboeaaGreatDoor
