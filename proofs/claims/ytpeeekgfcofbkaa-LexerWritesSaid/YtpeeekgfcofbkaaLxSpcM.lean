/-
  THE TOKENS of a text with more spaces: behind some line ends more of them are put in.
-/
import Derived.Test.YtpeeekgfcofbkaaLxJoinM
namespace Go.Proofs.Ytpeeekgfcofbkaa
open Go.RowKit

/-- the text with 'm' behind each marked byte -/
def ins (m : List Int) : List (Int × Bool) → List Int
  | [] => []
  | x :: z => x.1 :: ((if x.2 then m else []) ++ ins m z)
/-- only line ends are marked -/
def Mk10 (z : List (Int × Bool)) : Prop := ∀ x ∈ z, x.2 = true → x.1 = 10
/-- 'm' is spaces and comments -/
def Gap (m : List Int) : Prop := ∀ r, gp false (m ++ r) = m.length + gp false r
theorem ins_app (m : List Int) : ∀ a b, ins m (a ++ b) = ins m a ++ ins m b
  | [], b => rfl
  | x :: a, b => by
    show x.1 :: (_ ++ ins m (a ++ b)) = x.1 :: (_ ++ ins m a) ++ ins m b
    rw [ins_app m a b]
    simp
theorem ins_none (m : List Int) : ∀ z, Mk10 z → (∀ c ∈ z.map Prod.fst, c ≠ 10) → ins m z = z.map Prod.fst
  | [], _, _ => rfl
  | x :: z, hz, hn => by
    have hx : x.2 = false := by
      cases h : x.2
      · rfl
      · exact absurd (hz x (by simp) h) (hn x.1 (by simp))
    show x.1 :: ((if x.2 then m else []) ++ ins m z) = _
    rw [hx, ins_none m z (fun y hy => hz y (by simp [hy])) (fun c hc => hn c (by simp only [List.map_cons, List.mem_cons]; exact .inr hc))]
    rfl
theorem ins_len (m : List Int) : ∀ z, z.length ≤ (ins m z).length
  | [] => Nat.le_refl _
  | x :: z => by
    have := ins_len m z
    show _ ≤ ((if x.2 then m else []) ++ ins m z).length + 1
    rw [List.length_append, List.length_cons]
    omega
theorem gp_ins {m : List Int} (hm : Gap m) : ∀ (z : List (Int × Bool)) (b : Bool), Mk10 z → gp b (ins m z) = (ins m (z.take (gp b (z.map Prod.fst)))).length
  | [], b, _ => by cases b <;> rfl
  | x :: z, b, hz => by
    have hz' : Mk10 z := fun y hy => hz y (by simp [hy])
    have h1 := gp_ins hm z false hz'
    have h2 := gp_ins hm z true hz'
    have hk : ∀ k, (ins m ((x :: z).take (k + 1))).length = (if x.2 then m else []).length + (ins m (z.take k)).length + 1 := fun k => by
      show ((if x.2 then m else []) ++ ins m (z.take k)).length + 1 = _
      rw [List.length_append]
    have hg : gp false ((if x.2 then m else []) ++ ins m z) = (if x.2 then m else []).length + gp false (ins m z) := by
      cases x.2
      · simp
      · exact hm _
    have hn : x.1 ≠ 10 → (if x.2 then m else []) = [] := fun h => by
      cases hx : x.2
      · rfl
      · exact absurd (hz x (by simp) hx) h
    show gp b (x.1 :: ((if x.2 then m else []) ++ ins m z)) = (ins m ((x :: z).take (gp b (x.1 :: z.map Prod.fst)))).length
    cases b
    · rw [gp_cons, gp_cons]
      by_cases hs : inR SP x.1 = true
      · rw [if_pos hs, if_pos hs, hk, hg, h1]
      · rw [if_neg hs, if_neg hs]
        by_cases h59 : x.1 = 59
        · have h10 : x.1 ≠ 10 := by omega
          rw [if_pos h59, if_pos h59, hk, hn h10, List.nil_append, h2]
          simp
        · rw [if_neg h59, if_neg h59]
          rfl
    · rw [gp_cons2, gp_cons2]
      by_cases h10 : x.1 = 10
      · rw [if_pos h10, if_pos h10, hk, hg, h1]
      · rw [if_neg h10, if_neg h10, hk, hn h10, List.nil_append, h2]
        simp
/-- where a place of the text lies in the text with more spaces -/
def phi (m : List Int) (z : List (Int × Bool)) (i : Nat) : Nat := m.length + (ins m (z.take i)).length
theorem phi_add (m : List Int) (z : List (Int × Bool)) (i k : Nat) : phi m z (i + k) = phi m z i + (ins m ((z.drop i).take k)).length := by
  unfold phi
  rw [List.take_add, ins_app, List.length_append]
  omega
theorem phi_drop (m : List Int) (z : List (Int × Bool)) (i : Nat) : (m ++ ins m z).drop (phi m z i) = ins m (z.drop i) := by
  unfold phi
  have h : ins m z = ins m (z.take i) ++ ins m (z.drop i) := by rw [← ins_app, List.take_append_drop]
  rw [← List.drop_drop, List.drop_left' rfl, h, List.drop_left' rfl]
theorem phi_le (m : List Int) (z : List (Int × Bool)) {i : Nat} (hi : i ≤ z.length) : m.length + i ≤ phi m z i := by
  have := ins_len m (z.take i)
  rw [List.length_take] at this
  unfold phi
  omega
theorem nx_ins {m : List Int} (hm : Gap m) {z : List (Int × Bool)} (hz : Mk10 z) {l : List Int} (hl : l = z.map Prod.fst) {i : Nat} (hi : i ≤ l.length) (h : (nxT l i).2.2 = 0) :
    nxT (m ++ ins m z) (phi m z i) = (⟨(nxT l i).1.k, (nxT l i).1.t, phi m z (nxT l i).1.p⟩, phi m z (nxT l i).2.1, 0) := by
  have hzd : Mk10 (z.drop i) := fun y hy => hz y (List.mem_of_mem_drop hy)
  have hld : l.drop i = (z.drop i).map Prod.fst := by rw [hl, List.map_drop]
  have hg := gp_ins hm (z.drop i) false hzd
  rw [← phi_drop m z i, ← hld] at hg
  have hpg : phi m z i + gp false ((m ++ ins m z).drop (phi m z i)) = phi m z (i + gp false (l.drop i)) := by rw [hg, phi_add]
  have hgl := gp_le (l.drop i) false
  rw [List.length_drop] at hgl
  unfold nxT at h ⊢
  rw [hpg, phi_drop]
  have hlg : i + gp false (l.drop i) ≤ l.length := by omega
  generalize i + gp false (l.drop i) = j at h hlg ⊢
  have hjl : l.drop j = (z.drop j).map Prod.fst := by rw [hl, List.map_drop]
  cases hd : l.drop j with
  | nil =>
    have hzn : z.drop j = [] := by
      have := congrArg List.length hd
      rw [hjl, List.length_map, List.length_nil] at this
      exact List.length_eq_zero_iff.1 this
    rw [hzn]
    show ((⟨6, [], 0 + phi m z j⟩, phi m z j + 0, 0) : Tk × Nat × Int) = (⟨6, [], phi m z (0 + j)⟩, phi m z (j + 0), 0)
    rw [Nat.zero_add, Nat.zero_add, Nat.add_zero, Nat.add_zero]
  | cons c r =>
    rw [hd] at h
    obtain ⟨n, hn, hn1, hn2, hn10, _, hp, hs, _⟩ := first_ext h
    have hzj : Mk10 (z.drop j) := fun y hy => hz y (List.mem_of_mem_drop hy)
    have htk : ins m ((z.drop j).take n) = (c :: r).take n := by
      rw [ins_none m _ (fun y hy => hzj y (List.mem_of_mem_take hy)) (fun x hx => hn10 x (by rw [← hd, hjl, ← List.map_take]; exact hx)), List.map_take, ← hjl, hd]
    have hsplit : ins m (z.drop j) = (c :: r).take n ++ ins m ((z.drop j).drop n) := by rw [← htk, ← ins_app, List.take_append_drop]
    have hf : firstF (ins m (z.drop j)) = firstF (c :: r) := by
      rw [hsplit]
      refine hs _ fun d q hdq => ?_
      cases hq : (z.drop j).drop n with
      | nil => rw [hq] at hdq; cases hdq
      | cons y q2 =>
        rw [hq] at hdq
        injection hdq with hdq _
        refine .inr ⟨q2.map Prod.fst, ?_⟩
        rw [← hd, hjl, ← List.map_drop, hq, List.map_cons, hdq]
    have hph : phi m z (j + n) = phi m z j + n := by
      rw [phi_add, htk, List.length_take]
      omega
    rw [hf, h, ← hn, hp, Nat.zero_add, Nat.zero_add, hph]
theorem yl_ins {m : List Int} (hm : Gap m) {z : List (Int × Bool)} (hz : Mk10 z) {l : List Int} (hl : l = z.map Prod.fst) (h8 : Bytes8 l) : ∀ (f i : Nat), i ≤ l.length → (∀ y ∈ yl f l i, y.2 = 0) →
    yl f (m ++ ins m z) (phi m z i) = (yl f l i).map fun y => ((⟨y.1.k, y.1.t, phi m z y.1.p⟩ : Tk), (0 : Int))
  | 0, i, hi, ha => rfl
  | f + 1, i, hi, ha => by
    rw [yl_one] at ha
    have h0 : (nxT l i).2.2 = 0 := ha _ (List.mem_cons.2 (.inl rfl))
    have e := nx_ins hm hz hl hi h0
    rw [yl_one, yl_one, e]
    show _ :: (if (0 : Int) ≠ 0 ∨ (nxT l i).1.k = 6 then [] else yl f (m ++ ins m z) (phi m z (nxT l i).2.1)) = _
    by_cases h6 : (nxT l i).1.k = 6
    · rw [if_pos (.inr h6), if_pos (.inr h6)]
      rfl
    · have hno : ¬ ((nxT l i).2.2 ≠ 0 ∨ (nxT l i).1.k = 6) := fun h => h.elim (fun h => h h0) h6
      rw [if_neg (fun h => h.elim (fun h => h rfl) h6), if_neg hno, yl_ins hm hz hl h8 f _ (nx_len h8 hi) (fun y hy => ha y (by rw [if_neg hno]; exact List.mem_cons.2 (.inr hy)))]
      rfl
/-- more steps than are wanted change nothing -/
theorem yl_more : ∀ (f g : Nat) (l : List Int) (i : Nat) (pre : List (Tk × Int)) (x : Tk × Int), yl f l i = pre ++ [x] → (x.2 ≠ 0 ∨ x.1.k = 6) → f ≤ g → yl g l i = pre ++ [x]
  | 0, g, l, i, pre, x, hy, hx, hf => by
    have := congrArg List.length hy
    simp [yl] at this
  | f + 1, 0, l, i, pre, x, hy, hx, hf => by omega
  | f + 1, g + 1, l, i, pre, x, hy, hx, hf => by
    rw [yl_one] at hy ⊢
    by_cases h : (nxT l i).2.2 ≠ 0 ∨ (nxT l i).1.k = 6
    · rw [if_pos h] at hy ⊢
      exact hy
    · rw [if_neg h] at hy ⊢
      cases pre with
      | nil =>
        injection hy with hy _
        subst hy
        exact absurd hx h
      | cons y pre =>
        injection hy with hy1 hy
        rw [hy1, yl_more f g l _ pre x hy hx (by omega)]
        rfl
/-- the places grow -/
theorem yl_grow : ∀ (f : Nat) (l : List Int) (i : Nat), Bytes8 l → i ≤ l.length → (∀ y ∈ yl f l i, y.2 = 0) → (∀ y ∈ yl f l i, i ≤ y.1.p) ∧ (yl f l i).Pairwise fun a b => a.1.p < b.1.p
  | 0, l, i, h8, hi, ha => ⟨fun y hy => (by cases hy), List.Pairwise.nil⟩
  | f + 1, l, i, h8, hi, ha => by
    rw [yl_one] at ha ⊢
    have h0 : (nxT l i).2.2 = 0 := ha _ (List.mem_cons.2 (.inl rfl))
    have hpl : i ≤ (nxT l i).1.p := by
      show i ≤ (firstF (l.drop (i + gp false (l.drop i)))).1.p + (i + gp false (l.drop i))
      omega
    by_cases h6 : (nxT l i).1.k = 6
    · rw [if_pos (.inr h6)]
      refine ⟨fun y hy => ?_, List.pairwise_singleton _ _⟩
      obtain rfl := List.mem_singleton.1 hy
      exact hpl
    · have hno : ¬ ((nxT l i).2.2 ≠ 0 ∨ (nxT l i).1.k = 6) := fun h => h.elim (fun h => h h0) h6
      rw [if_neg hno] at ha ⊢
      obtain ⟨g1, g2⟩ := yl_grow f l (nxT l i).2.1 h8 (nx_len h8 hi) (fun y hy => ha y (List.mem_cons.2 (.inr hy)))
      have hpn : (nxT l i).1.p < (nxT l i).2.1 := by
        have hgl := gp_le (l.drop i) false
        unfold nxT at h0 h6 ⊢
        generalize i + gp false (l.drop i) = j at h0 h6 ⊢
        cases hd : l.drop j with
        | nil => rw [hd] at h6; exact absurd rfl h6
        | cons c r =>
          rw [hd] at h0
          obtain ⟨n, hn, hn1, _, _, _, hp, _⟩ := first_ext h0
          show (firstF (c :: r)).1.p + j < j + (firstF (c :: r)).2.1
          rw [hp, ← hn]
          omega
      refine ⟨fun y hy => ?_, List.pairwise_cons.2 ⟨fun y hy => ?_, g2⟩⟩
      · rcases List.mem_cons.1 hy with rfl | hy
        · exact hpl
        · have := g1 y hy
          omega
      · have := g1 y hy
        exact Nat.lt_of_lt_of_le hpn this
theorem gap_space : Gap [32] := fun r => by
  show gp false (32 :: r) = 1 + gp false r
  rw [gp_cons, if_pos (by decide)]
  omega
theorem gap_comment : Gap [59, 32, 40, 34, 10] := fun r => by
  show gp false (59 :: 32 :: 40 :: 34 :: 10 :: r) = 5 + gp false r
  rw [gp_cons, if_neg (by decide), if_pos rfl, gp_cons2, if_neg (by decide), gp_cons2, if_neg (by decide), gp_cons2, if_neg (by decide), gp_cons2, if_pos rfl]
  omega
theorem gap_tab : Gap [9, 13, 10] := fun r => by
  show gp false (9 :: 13 :: 10 :: r) = 3 + gp false r
  rw [gp_cons, if_pos (by decide), gp_cons, if_pos (by decide), gp_cons, if_pos (by decide)]
  omega
theorem gap_two : Gap [32, 59, 10, 59, 10] := fun r => by
  show gp false (32 :: 59 :: 10 :: 59 :: 10 :: r) = 5 + gp false r
  rw [gp_cons, if_pos (by decide), gp_cons, if_neg (by decide), if_pos rfl, gp_cons2, if_pos rfl, gp_cons, if_neg (by decide), if_pos rfl, gp_cons2, if_pos rfl]
  omega
/-- the tokens of the wide text -/
theorem yl_wide {m : List Int} (hm : Gap m) {z : List (Int × Bool)} (hz : Mk10 z) {l : List Int} (hl : l = z.map Prod.fst) (h8 : Bytes8 (m ++ ins m z)) {a : List (Tk × Int)} {x : Tk × Int} (hy : yl (l.length + 1) l 0 = a ++ [x]) (hx : x.2 = 0) :
    yl ((m ++ ins m z).length + 1) (m ++ ins m z) 0 = (a ++ [x]).map fun y => ((⟨y.1.k, y.1.t, phi m z y.1.p⟩ : Tk), (0 : Int)) := by
  have h8l : Bytes8 l := fun c hc => by
    rw [hl] at hc
    refine h8 c (List.mem_append.2 (.inr ?_))
    clear hy hl h8 hz
    induction z with
    | nil => cases hc
    | cons p z ih =>
      show c ∈ p.1 :: (_ ++ ins m z)
      rcases List.mem_cons.1 hc with rfl | hc
      · simp
      · have := ih hc
        simp [this]
  obtain ⟨hxe, hp⟩ := yl_last _ _ _ _ _ h8l (Nat.zero_le _) (by omega) hy hx
  have h := yl_ins hm hz hl h8l (l.length + 1) 0 (Nat.zero_le _) (fun y hyy => by
    rw [hy] at hyy
    rcases List.mem_append.1 hyy with h | h
    · exact (hp y h).1
    · obtain rfl := List.mem_singleton.1 h
      exact hx)
  rw [hy] at h
  have hph : phi m z 0 = m.length := by unfold phi; rfl
  have hll := ins_len m z
  have hlz : l.length = z.length := by rw [hl, List.length_map]
  have hlen : (m ++ ins m z).length = m.length + (ins m z).length := List.length_append
  have hgap : nxT (m ++ ins m z) 0 = nxT (m ++ ins m z) (0 + m.length) := nx_gap (by rw [List.drop_zero, Nat.zero_add, List.drop_left' rfl]; exact hm _)
  rw [hph, List.map_append] at h
  rw [yl_step hgap, Nat.zero_add, List.map_append]
  exact yl_more _ _ _ _ _ _ h (.inr (by rw [hxe])) (by omega)
end Go.Proofs.Ytpeeekgfcofbkaa
