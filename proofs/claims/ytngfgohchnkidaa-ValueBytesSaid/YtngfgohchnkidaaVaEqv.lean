/-
  COMPARE IS 0 FOR EQUAL VALUES ALONE.
-/
import Derived.Test.YtngfgohchnkidaaVaCompare
import Derived.Test.YtngfgohchnkidaaVaTexts
namespace Go.Proofs.Ytngfgohchnkidaa
open Go.RowKit

theorem txL_zero : ∀ s t : List Int, txL s t = 0 ↔ s = t
  | [], [] => by simp [txL, sg]
  | [], y :: t => by
    have := (sg_len t.length).1
    simp only [txL, List.length_cons, Int.natCast_add, Int.natCast_one]
    simp [this]
  | x :: s, [] => by
    have := (sg_len s.length).2
    simp only [txL, List.length_cons, Int.natCast_add, Int.natCast_one]
    simp [this]
  | x :: s, y :: t => by
    have ih := txL_zero s t
    have h := sg_zero x y
    unfold txL
    by_cases hxy : sg x y = 0
    · rw [if_pos hxy, ih]
      simp [h.1 hxy]
    · rw [if_neg hxy]
      have : ¬ x = y := fun e => hxy (h.2 e)
      simp [hxy, this]
theorem sb_inj {a b : ByteArray} (h : sb a = sb b) : a = b := by
  obtain ⟨⟨l⟩⟩ := a
  obtain ⟨⟨m⟩⟩ := b
  simp only [sb] at h
  have h2 : l = m := by
    refine List.map_inj_right (f := fun c : UInt8 => (c.toNat : Int)) (fun x y hxy => ?_) |>.1 h
    have : x.toNat = y.toNat := by omega
    exact UInt8.toNat.inj this
  rw [h2]
theorem sgS_zero (a b : ByteArray) : sgS a b = 0 ↔ a = b := by
  rw [← txL_sgS, txL_zero]
  exact ⟨sb_inj, fun h => by rw [h]⟩
theorem cmpEn_zero (x y : En) : cmpEn x y = 0 ↔ x = y := by
  obtain ⟨i, u, s⟩ := x
  obtain ⟨j, v, t⟩ := y
  have h1 := sg_zero i j
  have h2 := sg_zero u v
  have h3 := sgS_zero s t
  simp only [cmpEn, fst0, En.mk.injEq]
  by_cases a1 : sg i j = 0
  · by_cases a2 : sg u v = 0
    · by_cases a3 : sgS s t = 0
      · exact ⟨fun _ => ⟨h1.1 a1, h2.1 a2, h3.1 a3⟩, fun _ => by simp [a1, a2, a3]⟩
      · have : ¬ s = t := fun e => a3 (h3.2 e)
        simp [a1, a2, a3, this]
    · have : ¬ u = v := fun e => a2 (h2.2 e)
      simp [a1, a2, this]
  · have : ¬ i = j := fun e => a1 (h1.2 e)
    simp [a1, this]
theorem ceO_zero : ∀ l m : List En, ceO l m = 0 ↔ l = m
  | [], [] => by simp [ceO, sg]
  | [], y :: t => by
    have := (sg_len t.length).1
    simp only [ceO, List.length_cons, Int.natCast_add, Int.natCast_one]
    simp [this]
  | x :: s, [] => by
    have := (sg_len s.length).2
    simp only [ceO, List.length_cons, Int.natCast_add, Int.natCast_one]
    simp [this]
  | x :: s, y :: t => by
    have ih := ceO_zero s t
    have h := cmpEn_zero x y
    unfold ceO
    by_cases hxy : cmpEn x y = 0
    · rw [if_pos hxy, ih]
      simp [h.1 hxy]
    · rw [if_neg hxy]
      have : ¬ x = y := fun e => hxy (h.2 e)
      simp [hxy, this]
theorem vaCmp_zero (x y : Va) : vaCmp x y = 0 ↔ x = y := by
  obtain ⟨k, n, ix, u, s, m⟩ := x
  obtain ⟨k2, n2, ix2, u2, s2, m2⟩ := y
  have h1 := sg_zero k k2
  have h2 := sg_zero n n2
  have h3 := sg_zero ix ix2
  have h4 := sg_zero u u2
  have h5 := sgS_zero s s2
  have h6 := ceO_zero m m2
  simp only [vaCmp, fst0, Va.mk.injEq]
  by_cases a1 : sg k k2 = 0
  · by_cases a2 : sg n n2 = 0
    · by_cases a3 : sg ix ix2 = 0
      · by_cases a4 : sg u u2 = 0
        · by_cases a5 : sgS s s2 = 0
          · by_cases a6 : ceO m m2 = 0
            · exact ⟨fun _ => ⟨h1.1 a1, h2.1 a2, h3.1 a3, h4.1 a4, h5.1 a5, h6.1 a6⟩, fun _ => by simp [a1, a2, a3, a4, a5, a6]⟩
            · have : ¬ m = m2 := fun e => a6 (h6.2 e)
              simp [a1, a2, a3, a4, a5, a6, this]
          · have : ¬ s = s2 := fun e => a5 (h5.2 e)
            simp [a1, a2, a3, a4, a5, this]
        · have : ¬ u = u2 := fun e => a4 (h4.2 e)
          simp [a1, a2, a3, a4, this]
      · have : ¬ ix = ix2 := fun e => a3 (h3.2 e)
        simp [a1, a2, a3, this]
    · have : ¬ n = n2 := fun e => a2 (h2.2 e)
      simp [a1, a2, this]
  · have : ¬ k = k2 := fun e => a1 (h1.2 e)
    simp [a1, this]
end Go.Proofs.Ytngfgohchnkidaa
