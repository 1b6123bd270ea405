/-
  THE NORMAL FORM MATCHES THE SAME PARTS OF A STRING.
  THE NORMAL FORM IS ITS OWN NORMAL FORM.
-/
import Derived.Test.YtnjkihbmhacgoaaGreatDoorRxNorm
import Derived.Test.YtnjkihbmhacgoaaGreatDoorRxMt
namespace Go.Proofs.YtnjkihbmhacgoaaGreatDoor

theorem mtAny_iff (b : Nat → Int) : ∀ (s : List Rx) (i j : Nat), mtAny b s i j ↔ ∃ x ∈ s, mt b x i j
  | [], i, j => by simp [mtAny]
  | x :: s, i, j => by simp only [mtAny, mtAny_iff b s i j, List.mem_cons, exists_eq_or_imp]
theorem mtAll_iff (b : Nat → Int) : ∀ (s : List Rx) (i j : Nat), mtAll b s i j ↔ ∀ x ∈ s, mt b x i j
  | [], i, j => by simp [mtAll]
  | x :: s, i, j => by simp only [mtAll, mtAll_iff b s i j, List.mem_cons, forall_eq_or_imp]
theorem mtCat_app (b : Nat → Int) : ∀ (s t : List Rx) (i j : Nat), mtCat b (s ++ t) i j ↔ ∃ m, mtCat b s i m ∧ mtCat b t m j
  | [], t, i, j => by simp [mtCat]
  | x :: s, t, i, j => by
    simp only [List.cons_append, mtCat]
    constructor
    · rintro ⟨m, h1, h2⟩
      obtain ⟨q, h3, h4⟩ := (mtCat_app b s t m j).1 h2
      exact ⟨q, ⟨m, h1, h3⟩, h4⟩
    · rintro ⟨q, ⟨m, h1, h3⟩, h4⟩
      exact ⟨m, h1, (mtCat_app b s t m j).2 ⟨q, h3, h4⟩⟩

theorem mt_k0 {b : Nat → Int} {x : Rx} (h : x.kind = 0) (i j : Nat) : ¬ mt b x i j := by
  obtain ⟨k, l, u, s⟩ := x; simp only [Rx.kind] at h; subst h; simp [mt]
theorem mt_k1 {b : Nat → Int} {x : Rx} (h : x.kind = 1) (i j : Nat) : mt b x i j ↔ i = j := by
  obtain ⟨k, l, u, s⟩ := x; simp only [Rx.kind] at h; subst h; simp [mt]
theorem mt_k3 {b : Nat → Int} {x : Rx} (h : x.kind = 3) (i j : Nat) : mt b x i j ↔ mtCat b x.kids i j := by
  obtain ⟨k, l, u, s⟩ := x; simp only [Rx.kind] at h; subst h; simp [mt, Rx.kids]
theorem mt_k4 {b : Nat → Int} {x : Rx} (h : x.kind = 4) (i j : Nat) : mt b x i j ↔ ∃ y ∈ x.kids, mt b y i j := by
  obtain ⟨k, l, u, s⟩ := x; simp only [Rx.kind] at h; subst h; simp [mt, Rx.kids, mtAny_iff]
theorem mt_k5 {b : Nat → Int} {x : Rx} (h : x.kind = 5) (i j : Nat) : mt b x i j ↔ i ≤ j ∧ ∀ y ∈ x.kids, mt b y i j := by
  obtain ⟨k, l, u, s⟩ := x; simp only [Rx.kind] at h; subst h; simp [mt, Rx.kids, mtAll_iff]
theorem mt_k6 {b : Nat → Int} {x : Rx} (h : x.kind = 6) (i j : Nat) : mt b x i j ↔ i ≤ j ∧ ¬ mtFst b x.kids i j := by
  obtain ⟨k, l, u, s⟩ := x; simp only [Rx.kind] at h; subst h; simp [mt, Rx.kids]
theorem mt_k7 {b : Nat → Int} {x : Rx} (h : x.kind = 7) (i j : Nat) : mt b x i j ↔ Star (mtFst b x.kids) i j := by
  obtain ⟨k, l, u, s⟩ := x; simp only [Rx.kind] at h; subst h; simp [mt, Rx.kids]
theorem mt_allR (b : Nat → Int) (i j : Nat) : mt b allR i j ↔ i ≤ j := by
  rw [mt_k6 rfl]; simp only [allR, Rx.kids, mtFst]
  exact ⟨fun h => h.1, fun h => ⟨h, mt_k0 rfl i j⟩⟩

theorem mtCat_flat (b : Nat → Int) : ∀ (s : List Rx) (i j : Nat), mtCat b (flatR 3 oneR s) i j ↔ mtCat b s i j
  | [], i, j => by simp [flatR]
  | x :: s, i, j => by
    simp only [flatR, mtCat_app, mtCat]
    refine exists_congr fun m => and_congr ?_ (mtCat_flat b s m j)
    split
    · rename_i h; rw [mt_k3 h]
    · split
      · rename_i h; rw [cmp_eq _ _ h, mt_k1 rfl]; simp [mtCat]
      · simp [mtCat]
theorem any_flat (b : Nat → Int) : ∀ (s : List Rx) (i j : Nat), (∃ x ∈ flatR 4 nilR s, mt b x i j) ↔ ∃ x ∈ s, mt b x i j
  | [], i, j => by simp [flatR]
  | x :: s, i, j => by
    have ih := any_flat b s i j
    simp only [flatR, List.mem_append, or_and_right, exists_or, ih, List.mem_cons, exists_eq_left]
    refine or_congr ?_ Iff.rfl
    split
    · rename_i h; rw [mt_k4 h]
    · split
      · rename_i h; rw [cmp_eq _ _ h]; simp [mt_k0 (b := b) (x := nilR) rfl i j]
      · simp
theorem all_flat (b : Nat → Int) (i j : Nat) (hij : i ≤ j) : ∀ s : List Rx, (∀ x ∈ flatR 5 allR s, mt b x i j) ↔ ∀ x ∈ s, mt b x i j
  | [] => by simp [flatR]
  | x :: s => by
    have ih := all_flat b i j hij s
    simp only [flatR, List.mem_append, or_imp, forall_and, ih, List.mem_cons, forall_eq]
    refine and_congr ?_ Iff.rfl
    split
    · rename_i h; rw [mt_k5 h]; exact ⟨fun h => ⟨hij, h⟩, fun h => h.2⟩
    · split
      · rename_i h; rw [cmp_eq _ _ h, mt_allR]; simp [hij]
      · simp

theorem any_abs {abs : Rx} {l : List Rx} (h : l.any (fun x => cmp x abs == 0) = true) : abs ∈ l := by
  obtain ⟨x, hx, e⟩ := List.any_eq_true.1 h
  rw [beq_iff_eq] at e
  exact cmp_eq _ _ e ▸ hx
theorem mt_joinCat (b : Nat → Int) (s : List Rx) (i j : Nat) : mt b (joinR 3 oneR nilR false s) i j ↔ mtCat b s i j := by
  rw [← mtCat_flat]
  unfold joinR
  generalize flatR 3 oneR s = l
  split
  · rename_i h
    have hm := any_abs h
    refine iff_of_false (mt_k0 rfl i j) ?_
    clear h
    induction l generalizing i with
    | nil => cases hm
    | cons x l ih =>
      simp only [mtCat]
      rintro ⟨m, h1, h2⟩
      rcases List.mem_cons.1 hm with e | e
      · subst e; exact mt_k0 rfl i m h1
      · exact ih m e h2
  · match l with
    | [] => simp only [if_neg (show ¬ (false = true) by decide), one_of, mtCat]; rw [mt_k1 rfl]
    | [x] => simp [one_of, mtCat]
    | x :: y :: l => simp only [if_neg (show ¬ (false = true) by decide), one_of]; rw [mt_k3 rfl]; rfl
theorem mt_joinAny (b : Nat → Int) (s : List Rx) (i j : Nat) : mt b (joinR 4 nilR allR true s) i j ↔ ∃ x ∈ s, mt b x i j := by
  rw [← any_flat]
  unfold joinR
  generalize flatR 4 nilR s = l
  split
  · rename_i h
    have hm := any_abs h
    rw [mt_allR]
    exact ⟨fun h => ⟨allR, hm, (mt_allR b i j).2 h⟩, fun ⟨x, _, h⟩ => mt_le b x h⟩
  · rw [if_pos rfl]
    have hm : (∃ x ∈ l, mt b x i j) ↔ ∃ x ∈ ordR l, mt b x i j := by simp only [ordR_mem]
    rw [hm]
    match ordR l with
    | [] => simp only [one_of]; exact iff_of_false (mt_k0 rfl i j) (by simp)
    | [x] => simp [one_of]
    | x :: y :: l => simp only [one_of]; rw [mt_k4 rfl]; rfl
theorem mt_joinAll (b : Nat → Int) (s : List Rx) (i j : Nat) : mt b (joinR 5 allR nilR true s) i j ↔ i ≤ j ∧ ∀ x ∈ s, mt b x i j := by
  by_cases hij : i ≤ j
  · rw [← all_flat b i j hij]
    unfold joinR
    generalize flatR 5 allR s = l
    split
    · rename_i h
      have hm := any_abs h
      exact iff_of_false (mt_k0 rfl i j) (fun h => mt_k0 rfl i j (h.2 _ hm))
    · rw [if_pos rfl]
      have hm : (∀ x ∈ l, mt b x i j) ↔ ∀ x ∈ ordR l, mt b x i j := by simp only [ordR_mem]
      rw [hm]
      match ordR l with
      | [] => simp only [one_of]; rw [mt_allR]; simp
      | [x] => simp [one_of, hij]
      | x :: y :: l => simp only [one_of]; rw [mt_k5 rfl]; rfl
  · exact iff_of_false (fun h => hij (mt_le b _ h)) (fun h => hij h.1)

theorem star_id {R : Nat → Nat → Prop} (hR : ∀ i m, R i m → i = m) {i j : Nat} : Star R i j ↔ i = j := by
  constructor
  · intro h
    cases h with
    | nil => rfl
    | step g1 g2 _ => have := hR _ _ g1; omega
  · rintro rfl; exact .nil _
theorem Star.trans {R : Nat → Nat → Prop} {i m j : Nat} (h : Star R i m) (h2 : Star R m j) : Star R i j := by
  induction h with
  | nil i => exact h2
  | step g1 g2 _ ih => exact .step g1 g2 (ih h2)
theorem star_star {R : Nat → Nat → Prop} {i j : Nat} : Star (Star R) i j ↔ Star R i j := by
  constructor
  · intro h
    induction h with
    | nil i => exact .nil _
    | step g1 _ _ ih => exact g1.trans ih
  · intro h
    by_cases e : i = j
    · subst e; exact .nil _
    · exact .step h (by have := h.le; omega) (.nil _)
theorem star_le {i j : Nat} : Star (fun a c => a ≤ c) i j ↔ i ≤ j := by
  refine ⟨fun h => h.le, fun h => ?_⟩
  by_cases e : i = j
  · subst e; exact .nil _
  · exact .step h (by omega) (.nil _)
theorem star_congr {R Q : Nat → Nat → Prop} (h : ∀ i j, R i j ↔ Q i j) (i j : Nat) : Star R i j ↔ Star Q i j := by
  have : R = Q := by funext a c; exact propext (h a c)
  rw [this]
theorem mt_notK (b : Nat → Int) (l h : Int) (y : Rx) (hy : wfR y = true) (i j : Nat) : mt b (notK (.node 6 l h [y])) i j ↔ i ≤ j ∧ ¬ mt b y i j := by
  simp only [notK, Rx.kids]
  split
  · rename_i hk
    obtain ⟨yk, yl, yh, ys⟩ := y
    simp only [Rx.kind] at hk
    subst hk
    obtain ⟨z, rfl, _⟩ := wf_single hy (by simp)
    simp only
    rw [mt_k6 (x := .node 6 yl yh [z]) rfl]
    simp only [Rx.kids, mtFst]
    refine ⟨fun hz => ⟨mt_le b z hz, fun hn => hn.2 hz⟩, fun hn => ?_⟩
    refine Classical.byContradiction fun hz => hn.2 ⟨hn.1, hz⟩
  · rw [mt_k6 rfl]; simp only [Rx.kids, mtFst]
theorem mt_starK (b : Nat → Int) (l h : Int) (y : Rx) (i j : Nat) : mt b (starK (.node 7 l h [y])) i j ↔ Star (mt b y) i j := by
  simp only [starK, Rx.kids]
  split
  · rename_i hk
    rw [mt_k1 rfl]
    rcases hk with hk | hk
    · exact (star_id fun i m hm => absurd hm (mt_k0 hk i m)).symm
    · exact (star_id fun i m hm => (mt_k1 hk i m).1 hm).symm
  · split
    · rename_i hk
      rcases hk with hk | hk
      · rw [mt_k7 hk, star_congr (mt_k7 hk), star_star]
      · rw [cmp_eq _ _ hk, mt_allR, star_congr (mt_allR b), star_le]
    · rw [mt_k7 rfl]
      exact star_congr (fun _ _ => Iff.rfl) i j

theorem nfK_3 {x : Rx} (e : x.kind = 3) : nfK x = joinR 3 oneR nilR false x.kids := by unfold nfK; rw [if_pos e]
theorem nfK_4 {x : Rx} (e : x.kind = 4) : nfK x = joinR 4 nilR allR true x.kids := by unfold nfK; rw [if_neg (by omega), if_pos e]
theorem nfK_5 {x : Rx} (e : x.kind = 5) : nfK x = joinR 5 allR nilR true x.kids := by unfold nfK; rw [if_neg (by omega), if_neg (by omega), if_pos e]
theorem nfK_6 {x : Rx} (e : x.kind = 6) : nfK x = notK x := by unfold nfK; rw [if_neg (by omega), if_neg (by omega), if_neg (by omega), if_pos e]
theorem nfK_7 {x : Rx} (e : x.kind = 7) : nfK x = starK x := by unfold nfK; rw [if_neg (by omega), if_neg (by omega), if_neg (by omega), if_neg (by omega), if_pos e]
theorem nfK_0 {x : Rx} (e : x.kind = 0 ∨ x.kind = 1 ∨ x.kind = 2) : nfK x = x := by unfold nfK; rw [if_neg (by omega), if_neg (by omega), if_neg (by omega), if_neg (by omega), if_neg (by omega)]
mutual
theorem mt_nf (b : Nat → Int) : ∀ x : Rx, wfR x = true → ∀ i j : Nat, mt b (nf x) i j ↔ mt b x i j
  | .node k l h s, hw, i, j => by
    have hs := wf_kidsL hw
    simp only [Rx.kids] at hs
    have hC := mtCat_nfs b s hs
    have hM := mem_nfs b s hs
    have hk8 := wf_kind hw
    simp only [nf]
    have hk : k = 0 ∨ k = 1 ∨ k = 2 ∨ k = 3 ∨ k = 4 ∨ k = 5 ∨ k = 6 ∨ k = 7 := by omega
    clear hk8
    rcases hk with rfl | rfl | rfl | rfl | rfl | rfl | rfl | rfl
    · rw [nfK_0 (by simp [Rx.kind])]; simp [mt]
    · rw [nfK_0 (by simp [Rx.kind])]; simp [mt]
    · rw [nfK_0 (by simp [Rx.kind])]; simp [mt]
    · rw [nfK_3 rfl, mt_joinCat, mt_k3 rfl]; exact hC i j
    · rw [nfK_4 rfl, mt_joinAny, mt_k4 rfl]
      simp only [Rx.kids]
      rw [← mtAny_iff, ← mtAny_iff]; exact (hM i j).1
    · rw [nfK_5 rfl, mt_joinAll, mt_k5 rfl]
      simp only [Rx.kids]
      rw [← mtAll_iff, ← mtAll_iff]; exact and_congr Iff.rfl (hM i j).2.1
    · rw [nfK_6 rfl, mt_k6 (x := .node 6 l h s) rfl]
      obtain ⟨y, rfl, hy⟩ := wf_single hw (by simp)
      have := (hM i j).2.2
      simp only [nfs, mtFst, Rx.kids] at this ⊢
      rw [mt_notK b l h (nf y) (wf_nf y hy), this]
    · rw [nfK_7 rfl, mt_k7 (x := .node 7 l h s) rfl]
      obtain ⟨y, rfl, hy⟩ := wf_single hw (by simp)
      simp only [nfs, Rx.kids]
      rw [mt_starK]
      refine star_congr (fun i j => ?_) i j
      have := (hM i j).2.2
      simp only [nfs, mtFst] at this
      simp only [mtFst]
      exact this
theorem mtCat_nfs (b : Nat → Int) : ∀ s : List Rx, wfL s = true → ∀ i j : Nat, mtCat b (nfs s) i j ↔ mtCat b s i j
  | [], _, i, j => by simp only [nfs]
  | x :: s, hw, i, j => by
    have hx := wf_all.1 hw x (by simp)
    have hs : wfL s = true := wf_all.2 fun y hy => wf_all.1 hw y (List.mem_cons_of_mem _ hy)
    simp only [nfs, mtCat]
    exact exists_congr fun m => and_congr (mt_nf b x hx i m) (mtCat_nfs b s hs m j)
theorem mem_nfs (b : Nat → Int) : ∀ s : List Rx, wfL s = true → ∀ i j : Nat, (mtAny b (nfs s) i j ↔ mtAny b s i j) ∧ (mtAll b (nfs s) i j ↔ mtAll b s i j) ∧ (mtFst b (nfs s) i j ↔ mtFst b s i j)
  | [], _, i, j => ⟨Iff.rfl, Iff.rfl, Iff.rfl⟩
  | x :: s, hw, i, j => by
    have hx := mt_nf b x (wf_all.1 hw x (by simp)) i j
    have hs := mem_nfs b s (wf_all.2 fun y hy => wf_all.1 hw y (List.mem_cons_of_mem _ hy)) i j
    simp only [nfs, mtAny, mtAll, mtFst]
    exact ⟨or_congr hx hs.1, and_congr hx hs.2.1, hx⟩
end
end Go.Proofs.YtnjkihbmhacgoaaGreatDoor

namespace Go.Proofs.YtnjkihbmhacgoaaGreatDoor

/-- what a kid of a node of a kind in normal form is not -/
def okK (k : Int) (z : Rx) : Prop := (k = 3 → z.kind ≠ 3 ∧ z ≠ oneR ∧ z ≠ nilR) ∧ (k = 4 → z.kind ≠ 4 ∧ z ≠ nilR ∧ z ≠ allR) ∧ (k = 5 → z.kind ≠ 5 ∧ z ≠ allR ∧ z ≠ nilR) ∧
  (k = 6 → z.kind ≠ 6) ∧ (k = 7 → z.kind ≠ 0 ∧ z.kind ≠ 1 ∧ z.kind ≠ 7 ∧ z ≠ allR)
/-- a node in normal form, by its own kids -/
def NfN (k l h : Int) (s : List Rx) : Prop := (∀ z ∈ s, okK k z) ∧ (k = 3 ∨ k = 4 ∨ k = 5 → 2 ≤ s.length ∧ l = 0 ∧ h = 0) ∧ (k = 4 ∨ k = 5 → Rising s)
mutual
def NfT : Rx → Prop
  | .node k l h s => NfL s ∧ NfN k l h s
def NfL : List Rx → Prop
  | [] => True
  | x :: s => NfT x ∧ NfL s
end
theorem nfL_all : ∀ s : List Rx, NfL s ↔ ∀ x ∈ s, NfT x
  | [] => by simp [NfL]
  | x :: s => by simp only [NfL, nfL_all s, List.mem_cons, forall_eq_or_imp]
theorem NfT.kids {x : Rx} (h : NfT x) : ∀ z ∈ x.kids, NfT z := by cases x; exact (nfL_all _).1 h.1
theorem NfT.own {x : Rx} (h : NfT x) : ∀ z ∈ x.kids, okK x.kind z := by cases x; exact h.2.1
theorem nft_nil : NfT nilR := ⟨trivial, fun z (hz : z ∈ ([] : List Rx)) => by simp at hz, fun h => by omega, fun h => by omega⟩
theorem nft_one : NfT oneR := ⟨trivial, fun z (hz : z ∈ ([] : List Rx)) => by simp at hz, fun h => by omega, fun h => by omega⟩
theorem nft_all : NfT allR := by
  refine ⟨⟨nft_nil, trivial⟩, fun z hz => ?_, fun h => by omega, fun h => by omega⟩
  obtain rfl := List.mem_singleton.1 hz
  exact ⟨fun h => by omega, fun h => by omega, fun h => by omega, fun _ => by simp [nilR, Rx.kind], fun h => by omega⟩

/-- the kids laid open: what each of them is -/
theorem flat_ok {k : Int} {neu : Rx} : ∀ {s : List Rx}, (∀ x ∈ s, NfT x) → (∀ x ∈ s, x.kind = k → ∀ z ∈ x.kids, z.kind ≠ k ∧ z ≠ neu) → ∀ z ∈ flatR k neu s, NfT z ∧ z.kind ≠ k ∧ z ≠ neu
  | [], _, _, z, hz => by simp [flatR] at hz
  | x :: s, h1, h2, z, hz => by
    simp only [flatR, List.mem_append] at hz
    rcases hz with hz | hz
    · split at hz
      · rename_i hk
        exact ⟨(h1 x (by simp)).kids z hz, h2 x (by simp) hk z hz⟩
      · rename_i hk
        split at hz
        · simp at hz
        · rename_i hc
          obtain rfl := List.mem_singleton.1 hz
          exact ⟨h1 z (by simp), hk, fun e => hc ((cmp_zero _ _).2 e)⟩
    · exact flat_ok (fun y hy => h1 y (List.mem_cons_of_mem _ hy)) (fun y hy => h2 y (List.mem_cons_of_mem _ hy)) z hz
theorem flat_self {k : Int} {neu : Rx} : ∀ {s : List Rx}, (∀ z ∈ s, z.kind ≠ k ∧ z ≠ neu) → flatR k neu s = s
  | [], _ => rfl
  | x :: s, h => by
    have hx := h x (by simp)
    simp only [flatR]
    rw [if_neg hx.1, if_neg (fun e => hx.2 (cmp_eq _ _ e)), flat_self (fun z hz => h z (List.mem_cons_of_mem _ hz))]
    rfl
theorem not_abs {abs : Rx} {l : List Rx} (h : ¬ l.any (fun x => cmp x abs == 0) = true) : ∀ z ∈ l, z ≠ abs := fun z hz e => h (List.any_eq_true.2 ⟨z, hz, by rw [beq_iff_eq, e]; exact cmp_self _⟩)
theorem no_abs {abs : Rx} {l : List Rx} (h : ∀ z ∈ l, z ≠ abs) : ¬ l.any (fun x => cmp x abs == 0) = true := fun e => by
  exact h _ (any_abs e) rfl
theorem ordR_self {l : List Rx} (h : Rising l) : ordR l = l := rising_unique (ordR_rising l) h (ordR_mem l)

/-- a joined node is one in normal form -/
theorem nft_join {k : Int} {neu abs : Rx} {ord : Bool} {s : List Rx} (hn : NfT neu) (ha : NfT abs) (hs : ∀ x ∈ s, NfT x) (hown : ∀ x ∈ s, x.kind = k → ∀ z ∈ x.kids, z.kind ≠ k ∧ z ≠ neu)
    (hok : ∀ z, z.kind ≠ k ∧ z ≠ neu ∧ z ≠ abs → okK k z) (hord : k = 4 ∨ k = 5 → ord = true) : NfT (joinR k neu abs ord s) := by
  have hf := flat_ok hs hown
  unfold joinR
  generalize flatR k neu s = l at hf
  split
  · exact ha
  · rename_i hna
    have hna := not_abs hna
    have hm : ∀ z ∈ (if ord = true then ordR l else l), NfT z ∧ okK k z := fun z hz => by
      have hz' : z ∈ l := by
        split at hz
        · exact (ordR_mem l z).1 hz
        · exact hz
      exact ⟨(hf z hz').1, hok z ⟨(hf z hz').2.1, (hf z hz').2.2, hna z hz'⟩⟩
    have hr : k = 4 ∨ k = 5 → Rising (if ord = true then ordR l else l) := fun e => by rw [if_pos (hord e)]; exact ordR_rising l
    generalize (if ord = true then ordR l else l) = t at hm hr
    match t, hm, hr with
    | [], _, _ => exact hn
    | [x], hm, _ => exact (hm x (by simp)).1
    | x :: y :: t, hm, hr => exact ⟨(nfL_all _).2 fun z hz => (hm z hz).1, fun z hz => (hm z hz).2, fun _ => ⟨by simp, rfl, rfl⟩, hr⟩
/-- and stays as it is -/
theorem join_self {k : Int} {neu abs : Rx} {ord : Bool} {s : List Rx} (h : ∀ z ∈ s, z.kind ≠ k ∧ z ≠ neu ∧ z ≠ abs) (h2 : 2 ≤ s.length) (hr : ord = true → Rising s) : joinR k neu abs ord s = .node k 0 0 s := by
  unfold joinR
  rw [flat_self (fun z hz => ⟨(h z hz).1, (h z hz).2.1⟩), if_neg (no_abs fun z hz => (h z hz).2.2)]
  have e : (if ord = true then ordR s else s) = s := by
    split
    · rename_i h3; exact ordR_self (hr h3)
    · rfl
  rw [e]
  match s, h2 with
  | x :: y :: s, _ => rfl

theorem nft_nfK {x : Rx} (hw : wfR x = true) (hs : ∀ z ∈ x.kids, NfT z) : NfT (nfK x) := by
  obtain ⟨k, l, h, s⟩ := x
  have hk8 := wf_kind hw
  simp only [Rx.kids] at hs
  have hk : k = 0 ∨ k = 1 ∨ k = 2 ∨ k = 3 ∨ k = 4 ∨ k = 5 ∨ k = 6 ∨ k = 7 := by omega
  have base : k = 0 ∨ k = 1 ∨ k = 2 → NfT (.node k l h s) := fun e =>
    ⟨(nfL_all _).2 hs, fun z _ => ⟨fun _ => by omega, fun _ => by omega, fun _ => by omega, fun _ => by omega, fun _ => by omega⟩, fun _ => by omega, fun _ => by omega⟩
  clear hk8
  rcases hk with rfl | rfl | rfl | rfl | rfl | rfl | rfl | rfl
  · rw [nfK_0 (by simp [Rx.kind])]; exact base (by simp)
  · rw [nfK_0 (by simp [Rx.kind])]; exact base (by simp)
  · rw [nfK_0 (by simp [Rx.kind])]; exact base (by simp)
  · rw [nfK_3 rfl]
    refine nft_join nft_one nft_nil hs (fun x hx e z hz => ?_) (fun z hz => ⟨fun _ => hz, fun h => by omega, fun h => by omega, fun h => by omega, fun h => by omega⟩) (fun h => by omega)
    have := ((hs x hx).own z hz).1 e
    exact ⟨this.1, this.2.1⟩
  · rw [nfK_4 rfl]
    refine nft_join nft_nil nft_all hs (fun x hx e z hz => ?_) (fun z hz => ⟨fun h => by omega, fun _ => hz, fun h => by omega, fun h => by omega, fun h => by omega⟩) (fun _ => rfl)
    have := ((hs x hx).own z hz).2.1 e
    exact ⟨this.1, this.2.1⟩
  · rw [nfK_5 rfl]
    refine nft_join nft_all nft_nil hs (fun x hx e z hz => ?_) (fun z hz => ⟨fun h => by omega, fun h => by omega, fun _ => hz, fun h => by omega, fun h => by omega⟩) (fun _ => rfl)
    have := ((hs x hx).own z hz).2.2.1 e
    exact ⟨this.1, this.2.1⟩
  · rw [nfK_6 rfl]
    obtain ⟨y, rfl, hy⟩ := wf_single hw (by simp)
    have hy' := hs y (by simp)
    simp only [notK, Rx.kids]
    split
    · rename_i hk
      obtain ⟨yk, yl, yh, ys⟩ := y
      simp only [Rx.kind] at hk
      subst hk
      obtain ⟨z, rfl, _⟩ := wf_single hy (by simp)
      exact hy'.kids z (by simp [Rx.kids])
    · rename_i hk
      refine ⟨(nfL_all _).2 hs, fun z hz => ?_, fun h => by omega, fun h => by omega⟩
      obtain rfl := List.mem_singleton.1 hz
      exact ⟨fun h => by omega, fun h => by omega, fun h => by omega, fun _ => hk, fun h => by omega⟩
  · rw [nfK_7 rfl]
    obtain ⟨y, rfl, hy⟩ := wf_single hw (by simp)
    have hy' := hs y (by simp)
    simp only [starK, Rx.kids]
    split
    · exact nft_one
    · rename_i h1
      split
      · exact hy'
      · rename_i h2
        refine ⟨(nfL_all _).2 hs, fun z hz => ?_, fun h => by omega, fun h => by omega⟩
        obtain rfl := List.mem_singleton.1 hz
        exact ⟨fun h => by omega, fun h => by omega, fun h => by omega, fun h => by omega, fun _ => ⟨fun e => h1 (.inl e), fun e => h1 (.inr e), fun e => h2 (.inl e), fun e => h2 (.inr ((cmp_zero _ _).2 e))⟩⟩
theorem wf_node_nfs {k l h : Int} {s : List Rx} (hwf : wfR (.node k l h s) = true) : wfR (.node k l h (nfs s)) = true := by
  have h1 := wf_nfs s (wf_kidsL hwf)
  rw [wfR_eq] at hwf ⊢
  simp only [Bool.and_eq_true] at hwf ⊢
  refine ⟨hwf.1, ?_⟩
  have h2 := hwf.2
  unfold wfK at h2 ⊢
  rw [nfs_len, h1]
  split
  · rename_i hk; rw [if_pos hk] at h2; exact h2
  · rename_i hk
    rw [if_neg hk] at h2
    split
    · rename_i hk2
      rw [if_pos hk2] at h2
      simp only [Bool.and_eq_true] at h2 ⊢
      exact ⟨h2.1, trivial⟩
    · rename_i hk2
      rw [if_neg hk2] at h2
      split
      · rfl
      · rename_i hk3; rw [if_neg hk3] at h2; exact h2
mutual
theorem nft_nf : ∀ x : Rx, wfR x = true → NfT (nf x)
  | .node k l h s, hw => by
    simp only [nf]
    exact nft_nfK (wf_node_nfs hw) ((nfL_all _).1 (nfl_nfs s (wf_kidsL hw)))
theorem nfl_nfs : ∀ s : List Rx, wfL s = true → NfL (nfs s)
  | [], _ => trivial
  | x :: s, hw => ⟨nft_nf x (wf_all.1 hw x (by simp)), nfl_nfs s (wf_all.2 fun y hy => wf_all.1 hw y (List.mem_cons_of_mem _ hy))⟩
end
theorem nfK_self {x : Rx} (hw : wfR x = true) (h : NfT x) : nfK x = x := by
  obtain ⟨k, l, u, s⟩ := x
  have hk8 := wf_kind hw
  have hk : k = 0 ∨ k = 1 ∨ k = 2 ∨ k = 3 ∨ k = 4 ∨ k = 5 ∨ k = 6 ∨ k = 7 := by omega
  clear hk8
  obtain ⟨hs, h1, h2, h3⟩ := h
  rcases hk with rfl | rfl | rfl | rfl | rfl | rfl | rfl | rfl
  · exact nfK_0 (by simp [Rx.kind])
  · exact nfK_0 (by simp [Rx.kind])
  · exact nfK_0 (by simp [Rx.kind])
  · obtain ⟨n2, rfl, rfl⟩ := h2 (by simp)
    rw [nfK_3 rfl]; exact join_self (fun z hz => (h1 z hz).1 rfl) n2 (fun e => by cases e)
  · obtain ⟨n2, rfl, rfl⟩ := h2 (by simp)
    rw [nfK_4 rfl]; exact join_self (fun z hz => (h1 z hz).2.1 rfl) n2 (fun _ => h3 (by simp))
  · obtain ⟨n2, rfl, rfl⟩ := h2 (by simp)
    rw [nfK_5 rfl]; exact join_self (fun z hz => (h1 z hz).2.2.1 rfl) n2 (fun _ => h3 (by simp))
  · rw [nfK_6 rfl]
    obtain ⟨y, rfl, hy⟩ := wf_single hw (by simp)
    simp only [notK, Rx.kids]
    rw [if_neg ((h1 y (by simp)).2.2.2.1 rfl)]
  · rw [nfK_7 rfl]
    obtain ⟨y, rfl, hy⟩ := wf_single hw (by simp)
    obtain ⟨a1, a2, a3, a4⟩ := (h1 y (by simp)).2.2.2.2 rfl
    simp only [starK, Rx.kids]
    rw [if_neg (fun e => e.elim a1 a2), if_neg (fun e => e.elim a3 fun e => a4 (cmp_eq _ _ e))]
mutual
theorem nf_self : ∀ x : Rx, wfR x = true → NfT x → nf x = x
  | .node k l h s, hw, hn => by
    simp only [nf]
    rw [nfs_self s (wf_kidsL hw) hn.1]
    exact nfK_self hw hn
theorem nfs_self : ∀ s : List Rx, wfL s = true → NfL s → nfs s = s
  | [], _, _ => rfl
  | x :: s, hw, hn => by
    simp only [nfs]
    rw [nf_self x (wf_all.1 hw x (by simp)) hn.1, nfs_self s (wf_all.2 fun y hy => wf_all.1 hw y (List.mem_cons_of_mem _ hy)) hn.2]
end
theorem nf_nf {x : Rx} (hw : wfR x = true) : nf (nf x) = nf x := nf_self _ (wf_nf x hw) (nft_nf x hw)
end Go.Proofs.YtnjkihbmhacgoaaGreatDoor
