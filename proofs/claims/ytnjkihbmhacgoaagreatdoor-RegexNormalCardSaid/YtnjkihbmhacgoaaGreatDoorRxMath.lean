namespace Go.Proofs.YtnjkihbmhacgoaaGreatDoor

/-- A regular expression, as the two packages hold it. -/
inductive Rx where
  | node (k lo hi : Int) (ks : List Rx) : Rx

namespace Rx
def kind : Rx → Int | .node k _ _ _ => k
def lo : Rx → Int | .node _ l _ _ => l
def hi : Rx → Int | .node _ _ h _ => h
def kids : Rx → List Rx | .node _ _ _ s => s
end Rx

/-- Three ways two integers lie. -/
def c3 (a b : Int) : Int := if a < b then -1 else if b < a then 1 else 0
/-- The first of two numbers that is not 0. -/
def or2 (x y : Int) : Int := if x = 0 then y else x

mutual
def cmp : Rx → Rx → Int
  | .node k l h s, .node k2 l2 h2 s2 => or2 (c3 k k2) (or2 (c3 l l2) (or2 (c3 h h2) (cmps s s2)))
def cmps : List Rx → List Rx → Int
  | [], [] => 0
  | [], _ :: _ => -1
  | _ :: _, [] => 1
  | a :: s, b :: t => or2 (cmp a b) (cmps s t)
end

mutual
def nodes : Rx → Nat
  | .node _ _ _ s => nodesL s + 1
def nodesL : List Rx → Nat
  | [] => 0
  | a :: s => nodes a + nodesL s
end

theorem c3_range (a b : Int) : c3 a b = -1 ∨ c3 a b = 0 ∨ c3 a b = 1 := by
  unfold c3; repeat' split
  all_goals omega
theorem c3_neg (a b : Int) : c3 b a = - c3 a b := by
  unfold c3; repeat' split
  all_goals omega
theorem c3_zero (a b : Int) : c3 a b = 0 ↔ a = b := by
  unfold c3; repeat' split
  all_goals omega
theorem c3_lt (a b : Int) : c3 a b < 0 ↔ a < b := by
  unfold c3; repeat' split
  all_goals omega
theorem or2_neg (x y : Int) : or2 (-x) (-y) = - or2 x y := by
  unfold or2; repeat' split
  all_goals omega
theorem or2_zero (x y : Int) : or2 x y = 0 ↔ x = 0 ∧ y = 0 := by
  unfold or2; repeat' split
  all_goals omega
theorem or2_range {x y : Int} (hx : x = -1 ∨ x = 0 ∨ x = 1) (hy : y = -1 ∨ y = 0 ∨ y = 1) : or2 x y = -1 ∨ or2 x y = 0 ∨ or2 x y = 1 := by
  unfold or2; repeat' split
  all_goals omega

mutual
theorem cmp_range : ∀ a b : Rx, cmp a b = -1 ∨ cmp a b = 0 ∨ cmp a b = 1
  | .node k l h s, .node k2 l2 h2 s2 => by
    simp only [cmp]
    exact or2_range (c3_range _ _) (or2_range (c3_range _ _) (or2_range (c3_range _ _) (cmps_range s s2)))
theorem cmps_range : ∀ a b : List Rx, cmps a b = -1 ∨ cmps a b = 0 ∨ cmps a b = 1
  | [], [] => by simp [cmps]
  | [], _ :: _ => by simp [cmps]
  | _ :: _, [] => by simp [cmps]
  | a :: s, b :: t => by
    simp only [cmps]
    exact or2_range (cmp_range a b) (cmps_range s t)
end

mutual
theorem cmp_neg : ∀ a b : Rx, cmp b a = - cmp a b
  | .node k l h s, .node k2 l2 h2 s2 => by
    simp only [cmp]
    rw [c3_neg k k2, c3_neg l l2, c3_neg h h2, cmps_neg s s2, or2_neg, or2_neg, or2_neg]
theorem cmps_neg : ∀ a b : List Rx, cmps b a = - cmps a b
  | [], [] => by simp [cmps]
  | [], _ :: _ => by simp [cmps]
  | _ :: _, [] => by simp [cmps]
  | a :: s, b :: t => by
    simp only [cmps]
    rw [cmp_neg a b, cmps_neg s t, or2_neg]
end

mutual
theorem cmp_eq : ∀ a b : Rx, cmp a b = 0 → a = b
  | .node k l h s, .node k2 l2 h2 s2 => by
    simp only [cmp, or2_zero, c3_zero]
    intro ⟨h1, h2, h3, h4⟩
    rw [h1, h2, h3, cmps_eq s s2 h4]
theorem cmps_eq : ∀ a b : List Rx, cmps a b = 0 → a = b
  | [], [] => by simp
  | [], _ :: _ => by simp [cmps]
  | _ :: _, [] => by simp [cmps]
  | a :: s, b :: t => by
    simp only [cmps, or2_zero]
    intro ⟨h1, h2⟩
    rw [cmp_eq a b h1, cmps_eq s t h2]
end

theorem cmp_self (a : Rx) : cmp a a = 0 := by have := cmp_neg a a; omega
theorem cmps_self (a : List Rx) : cmps a a = 0 := by have := cmps_neg a a; omega
theorem cmp_zero (a b : Rx) : cmp a b = 0 ↔ a = b := ⟨cmp_eq a b, fun h => h ▸ cmp_self a⟩
theorem cmps_zero (a b : List Rx) : cmps a b = 0 ↔ a = b := ⟨cmps_eq a b, fun h => h ▸ cmps_self a⟩

/-- Two stages of a comparison: what goes on in order in each goes on in both. -/
theorem or2_trans {x1 x2 x3 y1 y2 y3 : Int} (hz : x1 = 0 → x3 = x2) (hz1 : x2 = 0 → x3 = x1) (hx : x1 < 0 → x2 < 0 → x3 < 0) (hy : x1 = 0 → x2 = 0 → y1 < 0 → y2 < 0 → y3 < 0) (h1 : or2 x1 y1 < 0) (h2 : or2 x2 y2 < 0) : or2 x3 y3 < 0 := by
  unfold or2 at *
  by_cases a1 : x1 = 0
  · rw [if_pos a1] at h1
    by_cases a2 : x2 = 0
    · rw [if_pos a2] at h2
      rw [hz a1, if_pos a2]; exact hy a1 a2 h1 h2
    · rw [if_neg a2] at h2
      rw [hz a1, if_neg a2]; exact h2
  · rw [if_neg a1] at h1
    by_cases a2 : x2 = 0
    · rw [hz1 a2, if_neg a1]; exact h1
    · rw [if_neg a2] at h2
      have := hx h1 h2
      rw [if_neg (by omega)]; exact this

theorem c3_trans (a b c : Int) : (c3 a b = 0 → c3 a c = c3 b c) ∧ (c3 b c = 0 → c3 a c = c3 a b) ∧ (c3 a b < 0 → c3 b c < 0 → c3 a c < 0) := by
  simp only [c3_zero, c3_lt]
  refine ⟨fun h => by rw [h], fun h => by rw [h], by omega⟩

mutual
theorem cmp_trans : ∀ a b c : Rx, cmp a b < 0 → cmp b c < 0 → cmp a c < 0
  | .node k l h s, .node k2 l2 h2 s2, .node k3 l3 h3 s3 => by
    simp only [cmp]
    have A := c3_trans k k2 k3
    have B := c3_trans l l2 l3
    have C := c3_trans h h2 h3
    refine or2_trans A.1 A.2.1 A.2.2 (fun _ _ => or2_trans B.1 B.2.1 B.2.2 (fun _ _ => or2_trans C.1 C.2.1 C.2.2 (fun _ _ => cmps_trans s s2 s3)))
theorem cmps_trans : ∀ a b c : List Rx, cmps a b < 0 → cmps b c < 0 → cmps a c < 0
  | [], [], _ => by simp [cmps]
  | [], _ :: _, [] => by simp [cmps]
  | [], _ :: _, _ :: _ => by simp [cmps]
  | _ :: _, [], _ => by simp [cmps]
  | _ :: _, _ :: _, [] => by simp [cmps]
  | a :: s, b :: t, c :: u => by
    simp only [cmps]
    refine or2_trans (fun h => by rw [(cmp_zero a b).1 h]) (fun h => by rw [(cmp_zero b c).1 h]) (cmp_trans a b c) (fun _ _ => cmps_trans s t u)
end

theorem cmp_le_trans (a b c : Rx) (h1 : cmp a b ≤ 0) (h2 : cmp b c ≤ 0) : cmp a c ≤ 0 := by
  by_cases e1 : cmp a b = 0
  · rw [(cmp_zero a b).1 e1]; exact h2
  · by_cases e2 : cmp b c = 0
    · rw [← (cmp_zero b c).1 e2]; exact h1
    · have := cmp_trans a b c (by omega) (by omega); omega

end Go.Proofs.YtnjkihbmhacgoaaGreatDoor
