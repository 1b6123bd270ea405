/-
  THE MATHEMATICS of the law ValueOrder: Compare is an order; equal encodings are encodings of equal values. And SameBytes of any two rows.
-/
import Derived.Test.YtngfgohchnkidaaVaEnc
import Derived.Test.YtngfgohchnkidaaVaEqv
import Derived.Test.YtngfgohchnkidaaRef
namespace Go.Proofs.Ytngfgohchnkidaa
open Go.RowKit

structure Cmp {α : Type} (f : α → α → Int) : Prop where
  rng : ∀ x y, f x y = -1 ∨ f x y = 0 ∨ f x y = 1
  neg : ∀ x y, f y x = -f x y
  tr : ∀ x y z, f x y ≤ 0 → f y z ≤ 0 → f x z ≤ 0
theorem Cmp.eql {α : Type} {f : α → α → Int} (h : Cmp f) {x y : α} (e : f x y = 0) (z : α) : f x z = f y z := by
  have e2 : f y x = 0 := by rw [h.neg, e]; rfl
  have a1 := h.tr x y z (by omega)
  have a2 := h.tr y x z (by omega)
  have a3 := h.tr z y x
  have a4 := h.tr z x y
  have n1 := h.neg x z
  have n2 := h.neg y z
  have r1 := h.rng x z
  have r2 := h.rng y z
  omega
theorem Cmp.eqr {α : Type} {f : α → α → Int} (h : Cmp f) {x y : α} (e : f x y = 0) (z : α) : f z x = f z y := by
  rw [h.neg x z, h.neg y z, h.eql e]
theorem Cmp.lex {α : Type} {f g : α → α → Int} (hf : Cmp f) (hg : Cmp g) : Cmp (fun x y => if f x y = 0 then g x y else f x y) where
  rng x y := by
    show (if f x y = 0 then g x y else f x y) = -1 ∨ (if f x y = 0 then g x y else f x y) = 0 ∨ (if f x y = 0 then g x y else f x y) = 1
    split
    · exact hg.rng x y
    · exact hf.rng x y
  neg x y := by
    show (if f y x = 0 then g y x else f y x) = -(if f x y = 0 then g x y else f x y)
    have h1 := hf.neg x y
    have h2 := hg.neg x y
    by_cases h : f x y = 0
    · rw [if_pos h, if_pos (by omega)]; exact h2
    · rw [if_neg h, if_neg (by omega)]; exact h1
  tr x y z := by
    show (if f x y = 0 then g x y else f x y) ≤ 0 → (if f y z = 0 then g y z else f y z) ≤ 0 → (if f x z = 0 then g x z else f x z) ≤ 0
    have t1 := hf.tr x y z
    have t2 := hg.tr x y z
    by_cases h : f x y = 0
    · rw [if_pos h, hf.eql h z]
      intro h3 h4
      split
      · rename_i h5
        rw [if_pos h5] at h4
        exact t2 h3 h4
      · rename_i h5
        rw [if_neg h5] at h4
        exact h4
    · rw [if_neg h]
      intro h3 h4
      by_cases h5 : f y z = 0
      · rw [← hf.eqr h5 x, if_neg h]; exact h3
      · rw [if_neg h5] at h4
        have h6 := t1 h3 h4
        have h7 : f x z ≠ 0 := fun e => by
          have h8 := hf.eql e y
          have h9 := hf.neg y z
          have r := hf.rng x y
          omega
        rw [if_neg h7]; exact h6
theorem Cmp.comap {α β : Type} {f : β → β → Int} (h : Cmp f) (p : α → β) : Cmp (fun x y => f (p x) (p y)) := ⟨fun x y => h.rng _ _, fun x y => h.neg _ _, fun x y z => h.tr _ _ _⟩
theorem cmp_zero {α : Type} : Cmp (fun (_ _ : α) => (0 : Int)) := ⟨fun _ _ => .inr (.inl rfl), fun _ _ => rfl, fun _ _ _ _ _ => Int.le_refl _⟩
theorem sg_cmp : Cmp sg where
  rng x y := by unfold sg; split <;> (try split) <;> simp
  neg x y := by unfold sg; split <;> split <;> (try split) <;> (try split) <;> omega
  tr x y z := by unfold sg; split <;> split <;> split <;> (try split) <;> (try split) <;> (try split) <;> omega
theorem list_cmp {α : Type} {f : α → α → Int} {L : List α → List α → Int} (hf : Cmp f) (h1 : ∀ x s y t, L (x :: s) (y :: t) = if f x y = 0 then L s t else f x y) (h2 : ∀ t, L [] t = sg 0 t.length) (h3 : ∀ s, L s [] = sg s.length 0) : Cmp L where
  rng := by
    intro a
    induction a with
    | nil => intro b; rw [h2]; exact sg_cmp.rng _ _
    | cons x s ih =>
      intro b
      cases b with
      | nil => rw [h3]; exact sg_cmp.rng _ _
      | cons y t =>
        rw [h1]
        split
        · exact ih t
        · exact hf.rng x y
  neg := by
    intro a
    induction a with
    | nil => intro b; rw [h2, h3]; exact sg_cmp.neg _ _
    | cons x s ih =>
      intro b
      cases b with
      | nil => rw [h3, h2]; exact sg_cmp.neg _ _
      | cons y t =>
        rw [h1, h1]
        have h := hf.neg x y
        by_cases e : f x y = 0
        · rw [if_pos e, if_pos (by omega)]; exact ih t
        · rw [if_neg e, if_neg (by omega)]; exact h
  tr := by
    intro a
    induction a with
    | nil => intro b c _ _; rw [h2]; unfold sg; split <;> (try split) <;> omega
    | cons x s ih =>
      intro b c
      cases b with
      | nil => intro h; rw [h3] at h; simp [sg] at h; split at h <;> omega
      | cons y t =>
        cases c with
        | nil => intro _ h; rw [h3] at h; simp [sg] at h; split at h <;> omega
        | cons z r =>
          rw [h1, h1, h1]
          by_cases e : f x y = 0
          · rw [if_pos e, hf.eql e z]
            intro h4 h5
            split
            · rename_i h6
              rw [if_pos h6] at h5
              exact ih t r h4 h5
            · rename_i h6
              rw [if_neg h6] at h5
              exact h5
          · rw [if_neg e]
            intro h4 h5
            by_cases e2 : f y z = 0
            · rw [← hf.eqr e2 x, if_neg e]; exact h4
            · rw [if_neg e2] at h5
              have h6 := hf.tr x y z h4 h5
              have h7 : f x z ≠ 0 := fun e => by
                have h8 := hf.eql e y
                have h9 := hf.neg y z
                have r := hf.rng x y
                omega
              rw [if_neg h7]; exact h6
theorem tx_cmp : Cmp txL := list_cmp sg_cmp (fun x s y t => by rw [txL]) (fun t => by cases t <;> rfl) (fun s => by cases s <;> rfl)
theorem sgS_cmp : Cmp sgS := by
  have h : sgS = fun a b => txL (sb a) (sb b) := funext fun a => funext fun b => (txL_sgS a b).symm
  rw [h]
  exact tx_cmp.comap sb
theorem cmpEn_cmp : Cmp cmpEn := (sg_cmp.comap En.i).lex ((sg_cmp.comap En.u).lex ((sgS_cmp.comap En.s).lex cmp_zero))
theorem ce_cmp : Cmp ceO := list_cmp cmpEn_cmp (fun x s y t => by rw [ceO]) (fun t => by cases t <;> rfl) (fun s => by cases s <;> rfl)
theorem va_cmp : Cmp vaCmp := (sg_cmp.comap Va.k).lex ((sg_cmp.comap Va.n).lex ((sg_cmp.comap Va.ix).lex ((sg_cmp.comap Va.u).lex ((sgS_cmp.comap Va.s).lex ((ce_cmp.comap Va.m).lex cmp_zero)))))

theorem uv_cut {m n : Nat} (h1 : m < 18446744073709551616) (h2 : n < 18446744073709551616) {r t : List Int} (e : uv m ++ r = uv n ++ t) : m = n ∧ r = t := by
  have a := uintR_uv h1 r
  rw [e, uintR_uv h2 t] at a
  injection a with a b
  injection b with b _
  exact ⟨a.symm, b.symm⟩
theorem int_cut {m n : Int} (h1 : I64 m) (h2 : I64 n) {r t : List Int} (e : uv (zz m) ++ r = uv (zz n) ++ t) : m = n ∧ r = t := by
  have a := intR_uv h1 r
  rw [e, intR_uv h2 t] at a
  injection a with a b
  injection b with b _
  exact ⟨a.symm, b.symm⟩
theorem raw_cut {b c : List Int} (h1 : b.length ≤ 1000000) (h2 : c.length ≤ 1000000) {r t : List Int} (e : raw b ++ r = raw c ++ t) : b = c ∧ r = t := by
  have a := rawR_raw h1 r
  rw [e, rawR_raw h2 t] at a
  injection a with a b
  injection b with b _
  exact ⟨a.symm, b.symm⟩
theorem encEn_app (z : En) (r : List Int) : encEn z ++ r = uv z.i.toNat ++ (uv z.u.toNat ++ (raw (sb z.s) ++ r)) := by
  unfold encEn
  simp only [List.append_assoc]
theorem ens_cut : ∀ {l m : List En}, (∀ e ∈ l, e.ok) → (∀ e ∈ m, e.ok) → l.length = m.length → l.flatMap encEn = m.flatMap encEn → l = m
  | [], [], _, _, _, _ => rfl
  | [], _ :: _, _, _, h, _ => by simp at h
  | _ :: _, [], _, _, h, _ => by simp at h
  | x :: l, y :: m, h1, h2, h, e => by
    have hx := h1 x (by simp)
    have hy := h2 y (by simp)
    rw [List.flatMap_cons, List.flatMap_cons] at e
    rw [encEn_app, encEn_app] at e
    obtain ⟨hx1, hx2, hx3⟩ := hx
    obtain ⟨hy1, hy2, hy3⟩ := hy
    unfold U64 at hx1 hx2 hy1 hy2
    obtain ⟨a1, e⟩ := uv_cut (by omega) (by omega) e
    obtain ⟨a2, e⟩ := uv_cut (by omega) (by omega) e
    obtain ⟨a3, e⟩ := raw_cut (by rw [sb_length]; exact hx3) (by rw [sb_length]; exact hy3) e
    have ih := ens_cut (fun z hz => h1 z (by simp [hz])) (fun z hz => h2 z (by simp [hz])) (by simpa using h) e
    obtain ⟨i, u, s⟩ := x
    obtain ⟨j, v, t⟩ := y
    simp only at *
    rw [ih, sb_inj a3, show i = j by omega, show u = v by omega]
/-- equal encodings -/
theorem enc_inj {x y : Va} (hx : x.ok) (hy : y.ok) (e : encV x = encV y) : x = y := by
  unfold encV encH at e
  simp only [List.append_assoc] at e
  obtain ⟨⟨k1, k2, k3⟩, hu, hs, hm, hl⟩ := hx
  obtain ⟨⟨q1, q2, q3⟩, hu', hs', hm', hl'⟩ := hy
  unfold U64 at hu hu'
  obtain ⟨a1, e⟩ := int_cut k1 q1 e
  obtain ⟨a2, e⟩ := int_cut k2 q2 e
  obtain ⟨a3, e⟩ := int_cut k3 q3 e
  obtain ⟨a4, e⟩ := uv_cut (by omega) (by omega) e
  obtain ⟨a5, e⟩ := raw_cut (by rw [sb_length]; exact hs) (by rw [sb_length]; exact hs') e
  obtain ⟨a6, e⟩ := int_cut (show I64 _ from ⟨by omega, by omega⟩) (show I64 _ from ⟨by omega, by omega⟩) e
  have a7 := ens_cut hm hm' (by omega) e
  obtain ⟨k, n, ix, u, s, m⟩ := x
  obtain ⟨k', n', ix', u', s', m'⟩ := y
  simp only at *
  rw [a1, a2, a3, a7, sb_inj a5, show u = u' by omega]
theorem same_any (A1 A2 : Option Addr) (n1 n2 c1 c2 : Nat) (zs1 zs2 : List Int) (w : World) (h1 : n1 = zs1.length) (h2 : n2 = zs2.length) (hn : zs1.length ≤ 140737488351232) (hr1 : RdI w w.heap.size .u8 A1 zs1) (hr2 : RdI w w.heap.size .u8 A2 zs2) :
    Calls Try.prog 23 #[.slice A1 n1 c1, .slice A2 n2 c2] w fun e w' => e = .returned (.bool (decide (zs1 = zs2))) ∧ Below w.heap.size w w' := by
  by_cases h : zs1.length = zs2.length
  · rw [h1, h2, ← h]
    exact SameBytes_eq A1 A2 zs1.length c1 c2 zs1 zs2 w rfl h.symm hn hr1 hr2
  · have hd : decide (zs1 = zs2) = false := decide_eq_false (fun e => h (by rw [e]))
    rw [hd]
    have hne : ((n1 : Int) == (n2 : Int)) = false := by rw [beq_eq_false_iff_ne]; omega
    have hne2 : ¬ n1 = n2 := by omega
    clear hr1 hr2 h1 h2 h hn hd
    go_enter Try.func23, Try.ntmps23
    go_wp2_with fail
    go_ret
    exact ⟨rfl, Below.refl _ _⟩
end Go.Proofs.Ytngfgohchnkidaa
