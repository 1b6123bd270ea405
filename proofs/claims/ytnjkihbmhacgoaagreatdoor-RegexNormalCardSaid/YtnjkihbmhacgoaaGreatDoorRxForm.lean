/-
  NORMAL FORMS AND DERIVATIVES OF EXPRESSIONS, as the program makes them: what they are, how large they get, that they are well formed.
  WORDS FOR NORMAL FORMS IN MEMORY, and the walks of equal, clone, contains, IndexFunc, ContainsFunc.
-/
import Derived.Test.YtnjkihbmhacgoaaGreatDoorRxValid
import Derived.Test.YtnjkihbmhacgoaaGreatDoorRxCmp
import Derived.OwnWalk
namespace Go.Proofs.YtnjkihbmhacgoaaGreatDoor

def nilR : Rx := .node 0 0 0 []
def oneR : Rx := .node 1 0 0 []
def allR : Rx := .node 6 0 0 [nilR]

/-- the kids of one's own kind laid open, the neutral ones left out -/
def flatR (k : Int) (neu : Rx) : List Rx → List Rx
  | [] => []
  | x :: s => (if x.kind = k then x.kids else if cmp x neu = 0 then [] else [x]) ++ flatR k neu s
/-- neighbours that are equal, once -/
def compF (p : Rx) : List Rx → List Rx
  | [] => []
  | x :: s => if cmp x p = 0 then compF x s else x :: compF x s
def comp : List Rx → List Rx
  | [] => []
  | x :: s => x :: compF x s
/-- into a rising list, unless it is there -/
def ins (x : Rx) : List Rx → List Rx
  | [] => [x]
  | y :: s => if cmp y x < 0 then y :: ins x s else if cmp y x = 0 then y :: s else x :: y :: s
def ordR (l : List Rx) : List Rx := l.foldl (fun a x => ins x a) []

def one_of (k : Int) (neu : Rx) : List Rx → Rx
  | [] => neu
  | [x] => x
  | x :: y :: s => .node k 0 0 (x :: y :: s)
def joinR (k : Int) (neu abs : Rx) (ord : Bool) (ks : List Rx) : Rx :=
  if (flatR k neu ks).any (fun x => cmp x abs == 0) then abs else one_of k neu (if ord then ordR (flatR k neu ks) else flatR k neu ks)
def notK (x : Rx) : Rx := match x.kids with
  | y :: _ => if y.kind = 6 then (match y.kids with | z :: _ => z | [] => x) else x
  | [] => x
def starK (x : Rx) : Rx := match x.kids with
  | y :: _ => if y.kind = 0 ∨ y.kind = 1 then oneR else if y.kind = 7 ∨ cmp y allR = 0 then y else x
  | [] => x
/-- the normal form of an expression whose kids are in normal form -/
def nfK (x : Rx) : Rx :=
  if x.kind = 3 then joinR 3 oneR nilR false x.kids
  else if x.kind = 4 then joinR 4 nilR allR true x.kids
  else if x.kind = 5 then joinR 5 allR nilR true x.kids
  else if x.kind = 6 then notK x
  else if x.kind = 7 then starK x
  else x
mutual
def nf : Rx → Rx
  | .node k l h s => nfK (.node k l h (nfs s))
def nfs : List Rx → List Rx
  | [] => []
  | x :: s => nf x :: nfs s
end
theorem nfs_map : ∀ s : List Rx, nfs s = s.map nf
  | [] => rfl
  | x :: s => by simp [nfs, nfs_map s]
theorem nfs_len (s : List Rx) : (nfs s).length = s.length := by rw [nfs_map]; simp

/-! ### neighbours -/
theorem compF_snoc (y : Rx) : ∀ (s : List Rx) (p : Rx), compF p (s ++ [y]) = compF p s ++ (if cmp y ((p :: s).getLast (by simp)) = 0 then [] else [y])
  | [], p => by
    by_cases h : cmp y p = 0 <;> simp [compF, h]
  | x :: s, p => by
    have ih := compF_snoc y s x
    simp only [List.cons_append, compF]
    rw [ih]
    have e : (p :: x :: s).getLast (by simp) = (x :: s).getLast (by simp) := by rw [List.getLast_cons]
    rw [e]
    split <;> simp
theorem comp_snoc (y : Rx) (l : List Rx) (h : l ≠ []) : comp (l ++ [y]) = comp l ++ (if cmp y (l.getLast h) = 0 then [] else [y]) := by
  cases l with
  | nil => exact absurd rfl h
  | cons p s => simp only [List.cons_append, comp]; rw [compF_snoc]
theorem comp_take (l : List Rx) (j : Nat) (h : j + 1 < l.length) : comp (l.take (j + 2)) = comp (l.take (j + 1)) ++ (if cmp l[j + 1] l[j] = 0 then [] else [l[j + 1]]) := by
  have hne : l.take (j + 1) ≠ [] := by
    intro e
    have := congrArg List.length e
    rw [List.length_take, List.length_nil] at this
    omega
  rw [List.take_succ_eq_append_getElem (by omega), comp_snoc _ _ hne]
  congr 2
  have : (l.take (j + 1)).getLast hne = l[j] := by
    rw [List.getLast_eq_getElem]
    simp only [List.length_take, List.getElem_take]
    congr 1
    omega
  rw [this]
theorem comp_one (l : List Rx) (h : l.length ≤ 1) : comp l = l := by
  match l, h with
  | [], _ => rfl
  | [x], _ => rfl

theorem compF_mem (z : Rx) : ∀ (s : List Rx) (p : Rx), z ∈ p :: compF p s ↔ z ∈ p :: s
  | [], p => by simp [compF]
  | x :: s, p => by
    have ih := compF_mem z s x
    simp only [compF]
    split
    · rename_i h
      obtain rfl := cmp_eq _ _ h
      rw [List.mem_cons, List.mem_cons] at ih ⊢
      constructor
      · rintro (h1 | h1)
        · exact .inl h1
        · exact .inr (List.mem_cons.2 (ih.1 (.inr h1)))
      · rintro (h1 | h1)
        · exact .inl h1
        · rcases List.mem_cons.1 h1 with h2 | h2
          · exact .inl h2
          · rcases ih.2 (.inr h2) with h3 | h3
            · exact .inl h3
            · exact .inr h3
    · rw [List.mem_cons, ih, List.mem_cons (a := z) (b := p)]
theorem comp_mem (z : Rx) (l : List Rx) : z ∈ comp l ↔ z ∈ l := by
  cases l with
  | nil => simp [comp]
  | cons p s => exact compF_mem z s p

/-! ### rising lists -/
def Rising (l : List Rx) : Prop := l.Pairwise (fun a b => cmp a b < 0)
def Sorted (l : List Rx) : Prop := l.Pairwise (fun a b => cmp a b ≤ 0)
theorem cmp_lt_of_le {a b c : Rx} (h1 : cmp a b ≤ 0) (h2 : cmp b c < 0) : cmp a c < 0 := by
  by_cases e : cmp a b = 0
  · rw [cmp_eq _ _ e]; exact h2
  · exact cmp_trans a b c (by omega) h2
theorem compF_rising : ∀ (s : List Rx) (p : Rx), Sorted (p :: s) → Rising (p :: compF p s)
  | [], p, _ => by simp [compF, Rising]
  | x :: s, p, h => by
    have h' := h
    rw [Sorted, List.pairwise_cons] at h'
    have ih := compF_rising s x h'.2
    simp only [compF]
    split
    · rename_i e
      obtain rfl := cmp_eq _ _ e
      exact ih
    · rename_i e
      have hlt : cmp p x < 0 := by
        have h1 := h'.1 x (by simp)
        have h2 := cmp_neg x p
        omega
      refine List.pairwise_cons.2 ⟨fun z hz => ?_, ih⟩
      rcases List.mem_cons.1 hz with rfl | h1
      · exact hlt
      · exact cmp_trans p x z hlt ((List.pairwise_cons.1 ih).1 z h1)
theorem comp_rising (l : List Rx) (h : Sorted l) : Rising (comp l) := by
  cases l with
  | nil => exact List.Pairwise.nil
  | cons p s => exact compF_rising s p h
theorem rising_unique : ∀ {l1 l2 : List Rx}, Rising l1 → Rising l2 → (∀ z, z ∈ l1 ↔ z ∈ l2) → l1 = l2
  | [], [], _, _, _ => rfl
  | [], y :: t, _, _, h => by have := (h y).2 (by simp); simp at this
  | x :: s, [], _, _, h => by have := (h x).1 (by simp); simp at this
  | x :: s, y :: t, h1, h2, h => by
    obtain ⟨a1, b1⟩ := List.pairwise_cons.1 h1
    obtain ⟨a2, b2⟩ := List.pairwise_cons.1 h2
    have e : x = y := by
      rcases List.mem_cons.1 ((h x).1 (by simp)) with e | e
      · exact e
      · rcases List.mem_cons.1 ((h y).2 (by simp)) with e2 | e2
        · exact e2.symm
        · have q1 := a2 x e
          have q2 := a1 y e2
          have := cmp_neg x y
          omega
    subst e
    congr 1
    refine rising_unique b1 b2 (fun z => ⟨fun hz => ?_, fun hz => ?_⟩)
    · rcases List.mem_cons.1 ((h z).1 (List.mem_cons_of_mem _ hz)) with e | e
      · subst e; have := a1 z hz; rw [cmp_self] at this; omega
      · exact e
    · rcases List.mem_cons.1 ((h z).2 (List.mem_cons_of_mem _ hz)) with e | e
      · subst e; have := a2 z hz; rw [cmp_self] at this; omega
      · exact e
theorem ins_mem (x z : Rx) : ∀ l : List Rx, z ∈ ins x l ↔ z = x ∨ z ∈ l
  | [] => by simp [ins]
  | y :: s => by
    simp only [ins]
    split
    · rw [List.mem_cons, ins_mem x z s, List.mem_cons]
      constructor
      · rintro (h | h | h)
        · exact .inr (.inl h)
        · exact .inl h
        · exact .inr (.inr h)
      · rintro (h | h | h)
        · exact .inr (.inl h)
        · exact .inl h
        · exact .inr (.inr h)
    · split
      · rename_i h
        obtain rfl := cmp_eq _ _ h
        constructor
        · exact .inr
        · rintro (h | h)
          · subst h; simp
          · exact h
      · rw [List.mem_cons]
theorem ins_rising (x : Rx) : ∀ l : List Rx, Rising l → Rising (ins x l)
  | [], _ => by simp [ins, Rising]
  | y :: s, h => by
    obtain ⟨a, b⟩ := List.pairwise_cons.1 h
    simp only [ins]
    split
    · rename_i h1
      refine List.pairwise_cons.2 ⟨fun z hz => ?_, ins_rising x s b⟩
      rcases (ins_mem x z s).1 hz with rfl | h2
      · exact h1
      · exact a z h2
    · split
      · exact h
      · rename_i h1 h2
        have h3 : cmp x y < 0 := by have := cmp_neg y x; omega
        refine List.pairwise_cons.2 ⟨fun z hz => ?_, h⟩
        rcases List.mem_cons.1 hz with rfl | h4
        · exact h3
        · exact cmp_trans x y z h3 (a z h4)
theorem foldl_ins (l : List Rx) : ∀ acc : List Rx, Rising acc → Rising (l.foldl (fun a x => ins x a) acc) ∧ ∀ z, z ∈ l.foldl (fun a x => ins x a) acc ↔ z ∈ acc ∨ z ∈ l := by
  induction l with
  | nil => intro acc h; exact ⟨h, by simp⟩
  | cons x s ih =>
    intro acc h
    obtain ⟨h1, h2⟩ := ih (ins x acc) (ins_rising x acc h)
    refine ⟨h1, fun z => ?_⟩
    rw [List.foldl_cons, h2, ins_mem, List.mem_cons]
    constructor
    · rintro ((h | h) | h)
      · exact .inr (.inl h)
      · exact .inl h
      · exact .inr (.inr h)
    · rintro (h | h | h)
      · exact .inl (.inr h)
      · exact .inl (.inl h)
      · exact .inr h
theorem ordR_rising (l : List Rx) : Rising (ordR l) := (foldl_ins l [] List.Pairwise.nil).1
theorem ordR_mem (l : List Rx) (z : Rx) : z ∈ ordR l ↔ z ∈ l := by
  have := (foldl_ins l [] List.Pairwise.nil).2 z
  unfold ordR; simpa using this
/-- WHAT SORTING AND LEAVING OUT EQUAL NEIGHBOURS COMES TO. -/
theorem comp_sorted {l l' : List Rx} (hm : ∀ z, z ∈ l' ↔ z ∈ l) (hs : Sorted l') : comp l' = ordR l :=
  rising_unique (comp_rising l' hs) (ordR_rising l) (fun z => by rw [comp_mem, hm, ordR_mem])

/-! ### sizes -/
theorem nodes_pos (x : Rx) : 0 < nodes x := by cases x; simp [nodes]
theorem nodes_eq (x : Rx) : nodes x = nodesL x.kids + 1 := by cases x; rfl
theorem nodesL_app (s t : List Rx) : nodesL (s ++ t) = nodesL s + nodesL t := by
  induction s with
  | nil => simp [nodesL]
  | cons x s ih => simp only [List.cons_append, nodesL, ih]; omega
theorem len_nodes (s : List Rx) : s.length ≤ nodesL s := by
  induction s with
  | nil => simp
  | cons x s ih => have := nodes_pos x; simp only [List.length_cons, nodesL]; omega
theorem nodes_mem {x : Rx} {s : List Rx} (h : x ∈ s) : nodes x ≤ nodesL s := by
  induction s with
  | nil => simp at h
  | cons y s ih =>
    simp only [nodesL]
    rcases List.mem_cons.1 h with rfl | h1
    · omega
    · have := ih h1; omega
theorem flatR_nodes (k : Int) (neu : Rx) : ∀ s : List Rx, nodesL (flatR k neu s) ≤ nodesL s
  | [] => by simp [flatR]
  | x :: s => by
    have ih := flatR_nodes k neu s
    have e := nodes_eq x
    simp only [flatR, nodesL_app, nodesL]
    split
    · omega
    · split
      · simp only [nodesL]; omega
      · simp only [nodesL]; omega
theorem flatR_app (k : Int) (neu : Rx) (s t : List Rx) : flatR k neu (s ++ t) = flatR k neu s ++ flatR k neu t := by
  induction s with
  | nil => rfl
  | cons x s ih => simp only [List.cons_append, flatR, ih, List.append_assoc]
theorem ins_nodes (x : Rx) : ∀ l : List Rx, nodesL (ins x l) ≤ nodes x + nodesL l
  | [] => by simp [ins, nodesL]
  | y :: s => by
    have := ins_nodes x s
    simp only [ins]
    split
    · simp only [nodesL]; omega
    · split
      · simp only [nodesL]; omega
      · simp only [nodesL]; omega
theorem ordR_nodes (l : List Rx) : nodesL (ordR l) ≤ nodesL l := by
  have : ∀ (l acc : List Rx), nodesL (l.foldl (fun a x => ins x a) acc) ≤ nodesL l + nodesL acc := by
    intro l
    induction l with
    | nil => intro acc; simp [nodesL]
    | cons x s ih =>
      intro acc
      have h1 := ih (ins x acc)
      have h2 := ins_nodes x acc
      simp only [List.foldl_cons, nodesL]
      omega
  unfold ordR; simpa [nodesL] using this l []
theorem one_of_nodes (k : Int) (neu : Rx) (l : List Rx) : nodes (one_of k neu l) ≤ max (nodes neu) (nodesL l + 1) := by
  match l with
  | [] => simp only [one_of]; omega
  | [x] => simp only [one_of, nodesL]; omega
  | x :: y :: s => simp only [one_of, nodes]; omega
theorem joinR_nodes (k : Int) (neu abs : Rx) (ord : Bool) (s : List Rx) (h : nodes neu ≤ 2) : nodes (joinR k neu abs ord s) ≤ max 2 (nodesL s + 1) := by
  have hf := flatR_nodes k neu s
  unfold joinR
  split
  · rename_i ha
    obtain ⟨x, hx, he⟩ := List.any_eq_true.1 ha
    have e := cmp_eq _ _ (by simpa using he)
    subst e
    have := nodes_mem hx
    omega
  · have h1 := one_of_nodes k neu (if ord then ordR (flatR k neu s) else flatR k neu s)
    have h2 : nodesL (if ord then ordR (flatR k neu s) else flatR k neu s) ≤ nodesL s := by
      split
      · have := ordR_nodes (flatR k neu s); omega
      · exact hf
    omega
theorem nodes_nil : nodes nilR = 1 := rfl
theorem nodes_one : nodes oneR = 1 := rfl
theorem nodes_all : nodes allR = 2 := rfl
theorem nfK_nodes (x : Rx) : nodes (nfK x) ≤ max 2 (nodes x) := by
  have e := nodes_eq x
  unfold nfK
  split
  · have := joinR_nodes 3 oneR nilR false x.kids (by decide); omega
  · split
    · have := joinR_nodes 4 nilR allR true x.kids (by decide); omega
    · split
      · have := joinR_nodes 5 allR nilR true x.kids (by decide); omega
      · split
        · unfold notK
          split
          · rename_i y t hk
            split
            · split
              · rename_i z u hz
                have e2 := nodes_eq y
                rw [hk] at e
                rw [hz] at e2
                simp only [nodesL] at e e2
                omega
              · omega
            · omega
          · omega
        · split
          · unfold starK
            split
            · rename_i y t hk
              rw [hk] at e
              simp only [nodesL] at e
              split
              · rw [nodes_one]; omega
              · split
                · omega
                · omega
            · omega
          · omega
mutual
theorem nf_nodes : ∀ x : Rx, nodes (nf x) ≤ 2 * nodes x
  | .node k l h s => by
    have h1 := nfs_nodes s
    have h2 := nfK_nodes (.node k l h (nfs s))
    simp only [nf, nodes] at *
    omega
theorem nfs_nodes : ∀ s : List Rx, nodesL (nfs s) ≤ 2 * nodesL s
  | [] => by simp [nfs, nodesL]
  | x :: s => by
    have h1 := nf_nodes x
    have h2 := nfs_nodes s
    simp only [nfs, nodesL]
    omega
end

/-! ### well formed -/
theorem wfR_parts (x : Rx) : wfR x = ((x.kind == 2 || x.lo == 0 && x.hi == 0) && decide (x.lo ≤ x.hi) && wfK x.kind x.kids) := by
  cases x with | node k l h s => exact wfR_eq k l h s
theorem wf_kidsL {x : Rx} (h : wfR x = true) : wfL x.kids = true := by
  rw [wfR_parts] at h
  simp only [Bool.and_eq_true] at h
  have h2 := h.2
  unfold wfK at h2
  split at h2
  · have h3 : x.kids = [] := List.eq_nil_of_length_eq_zero (by simpa using h2)
    rw [h3]; rfl
  · split at h2
    · exact (Bool.and_eq_true _ _ ▸ h2).2
    · split at h2
      · exact h2
      · cases h2
theorem wf_all {s : List Rx} : wfL s = true ↔ ∀ x ∈ s, wfR x = true := by rw [wfL_all]; exact List.all_eq_true
theorem wf_flatR (k : Int) (neu : Rx) {s : List Rx} (h : wfL s = true) : wfL (flatR k neu s) = true := by
  induction s with
  | nil => rfl
  | cons x s ih =>
    have h1 := wf_all.1 h
    have h2 := ih (wf_all.2 fun y hy => h1 y (List.mem_cons_of_mem _ hy))
    have hx := h1 x (by simp)
    refine wf_all.2 fun y hy => ?_
    simp only [flatR, List.mem_append] at hy
    rcases hy with hy | hy
    · split at hy
      · exact wf_all.1 (wf_kidsL hx) y hy
      · split at hy
        · simp at hy
        · simp only [List.mem_singleton] at hy; rw [hy]; exact hx
    · exact wf_all.1 h2 y hy
theorem wf_one_of {k : Int} {neu : Rx} {l : List Rx} (hk : k = 3 ∨ k = 4 ∨ k = 5) (hn : wfR neu = true) (h : wfL l = true) : wfR (one_of k neu l) = true := by
  match l, h with
  | [], _ => exact hn
  | [x], h => exact wf_all.1 h x (by simp)
  | x :: y :: s, h =>
    simp only [one_of, wfR_eq]
    rcases hk with rfl | rfl | rfl <;> simp [wfK, h]
theorem wf_joinR {k : Int} {neu abs : Rx} (ord : Bool) {s : List Rx} (hk : k = 3 ∨ k = 4 ∨ k = 5) (hn : wfR neu = true) (ha : wfR abs = true) (h : wfL s = true) : wfR (joinR k neu abs ord s) = true := by
  unfold joinR
  have hf := wf_flatR k neu h
  split
  · exact ha
  · refine wf_one_of hk hn ?_
    split
    · exact wf_all.2 fun y hy => wf_all.1 hf y ((ordR_mem _ _).1 hy)
    · exact hf
theorem wf_nil : wfR nilR = true := by decide
theorem wf_oneR : wfR oneR = true := by decide
theorem wf_allR : wfR allR = true := by decide
theorem wf_nfK {x : Rx} (h : wfR x = true) : wfR (nfK x) = true := by
  have hL := wf_kidsL h
  unfold nfK
  split
  · exact wf_joinR false (by simp) wf_oneR wf_nil hL
  · split
    · exact wf_joinR true (by simp) wf_nil wf_allR hL
    · split
      · exact wf_joinR true (by simp) wf_allR wf_nil hL
      · split
        · unfold notK
          split
          · rename_i y t hk
            have hy := wf_all.1 hL y (by rw [hk]; simp)
            split
            · split
              · rename_i z u hz
                exact wf_all.1 (wf_kidsL hy) z (by rw [hz]; simp)
              · exact h
            · exact h
          · exact h
        · split
          · unfold starK
            split
            · rename_i y t hk
              have hy := wf_all.1 hL y (by rw [hk]; simp)
              split
              · exact wf_oneR
              · split
                · exact hy
                · exact h
            · exact h
          · exact h
mutual
theorem wf_nf : ∀ x : Rx, wfR x = true → wfR (nf x) = true
  | .node k l h s, hw => by
    have hs := wf_nfs s (wf_kidsL hw)
    simp only [nf]
    refine wf_nfK ?_
    rw [wfR_eq] at hw ⊢
    simp only [Bool.and_eq_true] at hw ⊢
    refine ⟨hw.1, ?_⟩
    have h2 := hw.2
    unfold wfK at h2 ⊢
    rw [nfs_len, hs]
    split
    · rename_i hk; rw [if_pos hk] at h2; exact h2
    · rename_i hk
      rw [if_neg hk] at h2
      split
      · rename_i hk2
        rw [if_pos hk2] at h2
        simp only [Bool.and_eq_true] at h2 ⊢
        exact ⟨h2.1, trivial⟩
      · rename_i hk2
        rw [if_neg hk2] at h2
        split
        · rfl
        · rename_i hk3; rw [if_neg hk3] at h2; exact h2
theorem wf_nfs : ∀ s : List Rx, wfL s = true → wfL (nfs s) = true
  | [], _ => rfl
  | x :: s, hw => by
    have h1 := wf_all.1 hw
    refine wf_all.2 fun y hy => ?_
    simp only [nfs, List.mem_cons] at hy
    rcases hy with rfl | hy
    · exact wf_nf x (h1 x (by simp))
    · exact wf_all.1 (wf_nfs s (wf_all.2 fun z hz => h1 z (List.mem_cons_of_mem _ hz))) y hy
end

end Go.Proofs.YtnjkihbmhacgoaaGreatDoor

namespace Go.Proofs.YtnjkihbmhacgoaaGreatDoor
open Go.RowKit

/-- blocks of S, and those from n on that are there -/
def Plus (S : Nat → Prop) (n m : Nat) : Nat → Prop := fun b => S b ∨ (n ≤ b ∧ b < m)
/-- A CALL THAT HANDS BACK AN EXPRESSION of blocks of S and of new ones -/
def GivesS (S : Nat → Prop) (w : World) (x : Rx) (en : Ending) (w' : World) : Prop := ∃ v, en = .returned v ∧ RtV w' (Plus S w.heap.size w'.heap.size) x v ∧ Below w.heap.size w w'
/-- a variable of its own, block b, holds an expression of S -/
def BoxAt (w : World) (S : Nat → Prop) (b : Nat) (x : Rx) : Prop := b < w.heap.size ∧ ∃ A c, w.heap[b]? = some (.cells #[.int .i64 x.kind, .int .u8 x.lo, .int .u8 x.hi, .slice A x.kids.length c] 30 (0, 0)) ∧ RtV w S x (rxv x.kind x.lo x.hi A x.kids.length c)
/-- all blocks of S lie below n -/
def SOk (S : Nat → Prop) (n : Nat) : Prop := ∀ b, S b → b < n

theorem SOk.mono {S : Nat → Prop} {n m : Nat} (h : SOk S n) (hm : n ≤ m) : SOk S m := fun b hb => Nat.lt_of_lt_of_le (h b hb) hm
theorem plus_ok {S : Nat → Prop} {n m : Nat} (h : SOk S n) (hm : n ≤ m) : SOk (Plus S n m) m := fun b hb => by
  rcases hb with hb | hb
  · exact Nat.lt_of_lt_of_le (h b hb) hm
  · exact hb.2
/-- an expression of S, across what leaves the blocks below n -/
theorem RtV.keep {n : Nat} {w w' : World} {S : Nat → Prop} {x : Rx} {v : Value} (h : RtV w S x v) (hS : SOk S n) (hb : Below n w w') : RtV w' S x v := RtV.to (fun b hb' => ⟨hb', hb.block b (hS b hb')⟩) x h
theorem RtL.keep {n : Nat} {w w' : World} {S : Nat → Prop} {s : List Rx} {A : Option Addr} (h : RtL w S s A) (hS : SOk S n) (hb : Below n w w') : RtL w' S s A := RtL.to (fun b hb' => ⟨hb', hb.block b (hS b hb')⟩) s h
theorem RtV.lo {n : Nat} {w : World} {S : Nat → Prop} {x : Rx} {v : Value} (h : RtV w S x v) (hS : SOk S n) : RtV w (Lo n) x v := RtV.to (fun b hb' => ⟨hS b hb', rfl⟩) x h
theorem RtL.lo {n : Nat} {w : World} {S : Nat → Prop} {s : List Rx} {A : Option Addr} (h : RtL w S s A) (hS : SOk S n) : RtL w (Lo n) s A := RtL.to (fun b hb' => ⟨hS b hb', rfl⟩) s h
theorem RtV.sub {w : World} {S T : Nat → Prop} {x : Rx} {v : Value} (h : RtV w S x v) (hS : ∀ b, S b → T b) : RtV w T x v := RtV.to (fun b hb' => ⟨hS b hb', rfl⟩) x h
theorem RtL.sub {w : World} {S T : Nat → Prop} {s : List Rx} {A : Option Addr} (h : RtL w S s A) (hS : ∀ b, S b → T b) : RtL w T s A := RtL.to (fun b hb' => ⟨hS b hb', rfl⟩) s h
theorem BoxAt.keep {w w' : World} {S : Nat → Prop} {b : Nat} {x : Rx} (h : BoxAt w S b x) (hS : SOk S w.heap.size) (hb : Below w.heap.size w w') : BoxAt w' S b x := by
  obtain ⟨hlt, A, c, h1, h2⟩ := h
  exact ⟨Nat.lt_of_lt_of_le hlt hb.size, A, c, (hb.block b hlt).trans h1, h2.keep hS hb⟩

/-- equal's contract -/
theorem equal_any (x y : Rx) (v1 v2 : Value) (w : World) (h1 : RtV w (Lo w.heap.size) x v1) (h2 : RtV w (Lo w.heap.size) y v2) : Calls Tryz.prog 45 #[v1, v2] w fun e w' => e = .returned (.bool (cmp x y == 0)) ∧ Below w.heap.size w w' := by
  have hC : ∀ W, Below w.heap.size w W → Calls Tryz.prog 12 #[v1, v2] W fun e w' => e = .returned (.int .i64 (cmp x y)) ∧ Below W.heap.size W w' := fun W hW => cmp_any x y v1 v2 W ((h1.below hW).mono hW.size) ((h2.below hW).mono hW.size)
  obtain ⟨_, A, c, rfl, _⟩ := h1.parts
  obtain ⟨_, B, d, rfl, _⟩ := h2.parts
  generalize cmp x y = z at hC
  clear h1 h2
  have hb : ∀ o1 o2, Below w.heap.size w ((w.alloc o1).alloc o2) := fun o1 o2 => below_alloc2 (Below.refl _ _) (Nat.le_refl _) _ _
  unfold rxv at hC ⊢
  go_enter Tryz.func45, Tryz.ntmps45
  go_wp2_with (go_at_call 12; refine (hC _ (hb _ _)).mono ?_; clear hC; rintro e w1 ⟨rfl, hw1⟩)
  go_ret
  exact ⟨rfl, (hb _ _).trans (hw1.mono (by simp; omega))⟩

/-- ONE ELEMENT MORE in a row, behind the element's own making (w1) and the making of the slice that is appended. -/
theorem row_step {wr w1 w5 : World} {base g cap : Nat} {L T : Nat → Prop} {e : TypeId} {u : Value} {ts : List Tn} {t : Tn} {o2 : Obj} (hrow : RowT wr base L e u ts) (hb : Below wr.heap.size wr w1) (hbase : base ≤ wr.heap.size)
    (ht : RtV w1 T t.x t.val) (hT : ∀ b, T b → L b ∧ b < w1.heap.size ∧ some b ≠ u.ownBlock)
    (hown : w5.ownsRow base e 4 (.slice (some ⟨g, 0, none⟩) (ts.length + 1) cap) (ts.length + 1) (ts.flatMap Tn.cells ++ t.cells)) (hgrow : (w1.alloc o2).grownBy w5 u.ownBlock) (hat : u.ownBlock = some g ∨ g = w1.heap.size + 1) :
    RowT w5 base L e (.slice (some ⟨g, 0, none⟩) (ts.length + 1) cap) (ts ++ [t]) ∧ Below base wr w5 := by
  refine ⟨RowT.snoc hrow rfl (hb.alloc hb.size o2) (RtV.to (fun b hb' => ?_) _ ht) hown hgrow (by simpa using hat), ?_⟩
  · obtain ⟨h1, h2, h3⟩ := hT b hb'
    exact ⟨⟨h1, by simp; omega, h3⟩, Below.heap_alloc w1 _ b h2⟩
  · have h1 := hb.size
    exact ((hb.mono hbase).alloc (by omega) o2).grown hgrow (by simp; omega) (fun j ej => hrow.blk j ej)
/-- the blocks of a call's result are none of a row that stood before it -/
theorem plus_far {wr : World} {base n m : Nat} {L S : Nat → Prop} {e : TypeId} {u : Value} {ts : List Tn} (hrow : RowT wr base L e u ts) (hS : SOk S base) (hn : wr.heap.size ≤ n) {b : Nat} (h : Plus S n m b) : some b ≠ u.ownBlock := fun e => by
  have h1 := own_blk_lt hrow.1 e
  rcases h with h | h
  · have := hS b h; omega
  · omega

set_option maxHeartbeats 1000000 in
set_option maxRecDepth 100000 in
/-- clone's contract: all in new memory -/
theorem clone_upto (m : Nat) : ∀ (x : Rx) (v : Value) (w : World), nodes x ≤ m → RtV w (Lo w.heap.size) x v → Calls Tryz.prog 38 #[v] w fun e w' => GivesX w x e w' := by
  induction m with
  | zero => intro x v w h0; cases x; simp [nodes] at h0
  | succ m ih =>
    intro x v w hm hv
    obtain ⟨k, l, h, s⟩ := x
    obtain ⟨⟨hk, hl, hh, hsl⟩, A, c, rfl, hc, hA, hs⟩ := hv.parts
    simp only [Rx.kind, Rx.lo, Rx.hi, Rx.kids] at hk hl hh hsl hc hs ⊢
    obtain ⟨i0, hi, hz0, hz1, hz2⟩ := info_parts info_Regex
    unfold rxv
    go_enter Tryz.func38, Tryz.ntmps38
    go_wp2_with (at_make; refine wpList_make_own _ rfl _ _ 28 rfl (w.heap.size + 2) 30 i0 (.agg #[.int .i64 0, .int .u8 0, .int .u8 0, .slice none 0 0]) 4 Tryz.underlying28 hi hz0 hz1 .i64 .i64 _ s.length rfl rfl rfl (by rw [hz2]; omega) (by unfold maxLen; omega) (by simp) ?_; intro w0 hown0 hgrow0; have hn0 := (hgrow0.block w.heap.size (by simp; omega) (by simp)).trans ((heap_alloc_old _ _ _ (by simp)).trans (heap_alloc_new w (.cells #[.int .i64 k, .int .u8 l, .int .u8 h, .slice A s.length c] 30))); have hn1 := (hgrow0.block (w.heap.size + 1) (by simp) (by simp)).trans (heap_alloc_new_at _ _ (by simp)); obtain ⟨t0, t1, t2, t3⟩ := four hn0)
    have hsz0 := hgrow0.size
    simp at hsz0
    have hB0 : Below w.heap.size w w0 := (below_alloc2 (Below.refl _ _) (Nat.le_refl _) _ _).grown hgrow0 (by simp; omega) (fun j ej => by cases ej)
    have hrow0 : RowT w0 (w.heap.size + 2) (fun b => w.heap.size + 2 ≤ b) 30 (.slice (some ⟨w.heap.size + 2, 0, none⟩) 0 s.length) [] := ⟨by simpa using hown0, by simp⟩
    clear hown0 hgrow0
    go_loopw [3, 13] (fun u i wr => ∃ (j : Nat) (ts : List Tn), j ≤ s.length ∧ i = .int .i64 j ∧ Hid (ts.map Tn.x = s.take j ∧ ts.length = j) ∧ wr.heap[w.heap.size]? = some (.cells #[.int .i64 k, .int .u8 l, .int .u8 h, .slice A s.length c] 30 (0, 0)) ∧
        wr.heap[w.heap.size + 1]? = some (.cells #[.int .i64 0, .int .u8 0, .int .u8 0, .slice none 0 0] 30 (0, 0)) ∧
        RowT wr (w.heap.size + 2) (fun b => w.heap.size + 2 ≤ b) 30 u ts ∧ Below w.heap.size w wr ∧ w.heap.size + 2 ≤ wr.heap.size) (fun _ i _ => s.length - (intOf i).toNat)
    case atStart => exact ⟨0, [], Nat.zero_le _, rfl, Lib.hid ⟨rfl, rfl⟩, hn0, hn1, by simpa using hrow0, hB0, hsz0⟩
    case round =>
      obtain ⟨j, ts, hj, rfl, hts, hb0, hb1, hrow, hW, hsz⟩ := hrel
      obtain ⟨p0, p1, p2, p3⟩ := four hb0
      clear hn0 hn1 t0 t1 t2 t3 hrow0 hB0 hsz0
      by_cases hlt : j < s.length
      · obtain ⟨bl, o, A', c', rfl, hbl, h4, hx⟩ := hs.get hlt
        have h4' := h4.to (hW.block bl hbl)
        have hx' := hx.below hW
        have hnod : nodes s[j] ≤ m := by have := nodes_get hlt; simp only [nodes] at hm; omega
        have HX := Lib.hid (fun l => rx_snoc (l := l) hlt rfl)
        generalize s[j] = x at h4' hx' hnod HX
        obtain ⟨xk, xl, xh, xs⟩ := x
        obtain ⟨e0, e1, e2, e3⟩ := h4'
        simp only [Rx.kind, Rx.lo, Rx.hi, Rx.kids] at e0 e1 e2 e3 hx'
        have hC : ∀ W, Below w.heap.size wr W → Calls Tryz.prog 38 #[rxv xk xl xh A' xs.length c'] W fun e w' => GivesX W (.node xk xl xh xs) e w' := fun W hWW =>
          ih _ _ W hnod ((hx'.below hWW).mono (Nat.le_trans hW.size hWW.size))
        clear hx' hx h4 hs ih
        have htl := hts.out.2
        subst htl
        unfold rxv at hC
        have hd : ∀ o, Below (w.heap.size + 2) wr (wr.alloc o) := fun o => (Below.refl _ _).alloc hsz _
        go_wp2_with (first
          | (go_at_call 38; refine (hC _ ((hd _).mono (by omega))).mono ?_; clear hC; rintro e' w1 ⟨v1, rfl, hv1, hw1⟩; obtain ⟨⟨ok1, ok2, ok3, ok4⟩, A1, c1, rfl, hc1, hA1, hs1⟩ := hv1.parts; have hy1 := hw1.size; simp at hy1; simp only [rxv, Rx.kind, Rx.lo, Rx.hi, Rx.kids])
          | (at_builtin; refine wpList_append_lies _ rfl _ _ 28 rfl (w.heap.size + 2) 30 i0 (.agg #[.int .i64 0, .int .u8 0, .int .u8 0, .slice none 0 0]) 4 40 Tryz.underlying28 hi hz0 hz1 hz2 rfl (by decide) _ ts.length (ts.flatMap Tn.cells) rfl ((own_below (hrow.1.alloc _) hw1).alloc _) ⟨w1.heap.size, 0, none⟩ 1 1 (Tn.cells ⟨.node xk xl xh xs, A1, c1⟩) rfl rfl (World.news_of_block (cs := #[.int .i64 xk, .int .u8 xl, .int .u8 xh, .slice A1 xs.length c1]) (t := 30) (fr := (0, 0)) (heap_alloc_new w1 _)) (tn_one1 _) (by decide) (by unfold maxLen; omega) (by omega) (by simp; omega) (w1.heap.size + 1) (by simp) ?_; intro g' cap' w5 hown5 hgrow5 hat5 hlt5))
        clear p0 p1 p2 p3
        obtain ⟨hr5, hB5⟩ := row_step (t := ⟨.node xk xl xh xs, A1, c1⟩) hrow ((Below.refl _ _ |>.alloc (Nat.le_refl _) _).trans (hw1.mono (by simp))) hsz hv1 (fun b hb => ⟨by have := hb.1; simp at this; omega, hb.2, fun e => by have h6 := (own_blk_lt hrow.1 e).2; have h7 := hb.1; simp at h7; omega⟩) hown5 hgrow5 hat5
        go_roundw
        case rel => exact ⟨ts.length + 1, _, by omega, by go_num, Lib.hid ⟨by rw [List.map_append]; exact HX.out _ hts.out.1, by rw [List.length_append]; rfl⟩, (hB5.block _ (by omega)).trans hb0, (hB5.block _ (by omega)).trans hb1, hr5, hW.trans (hB5.mono (by omega)), Nat.le_trans hsz hB5.size⟩
        case measure => simp [intOf]; omega
      · have he := Lib.hid (show s.take j = s from List.take_of_length_le (by omega))
        obtain ⟨q0, q1, q2, q3⟩ := four hb1
        have hf1 := four_frozen hb1
        obtain ⟨A1, c1, rfl⟩ := hrow.val
        clear ih hs
        go_wp2_with fail
        refine bodyPost_ret (v := .agg #[.int .i64 k, .int .u8 l, .int .u8 h, .slice A1 ts.length c1]) (by simp [results, Tryz.results38, go_sem, q0, q1, q2, q3]) rfl ?_
        have hm := fin4_below (n := w.heap.size) hW (Nat.le_succ w.heap.size) (.int .i64 k) (.int .u8 l) (.int .u8 h) (.slice A1 ts.length c1)
        have hrow' := hrow.to (w' := (((wr.setCell ⟨w.heap.size + 1, 0, none⟩ (.int .i64 k)).setCell ⟨w.heap.size + 1, 1, none⟩ (.int .u8 l)).setCell ⟨w.heap.size + 1, 2, none⟩ (.int .u8 h)).setCell ⟨w.heap.size + 1, 3, none⟩ (.slice A1 ts.length c1)) (fun _ h => h) (by rw [fin4_size]; exact Nat.le_refl _) (fun b _ hb => fin4 _ _ _ _ (by rcases hb with hb | hb <;> omega))
        obtain ⟨r1, r2, r3, r4⟩ := hrow'.list
        have hxs : ts.map Tn.x = s := by rw [hts.out.1, he.out]
        have hl2 : ts.length = s.length := by rw [← hxs, List.length_map]
        rw [hxs] at r4
        rw [hl2] at r2 r4 hm ⊢
        refine ⟨_, rfl, RtV.mk ⟨hk, hl, hh, hsl⟩ r2 r3 (RtL.to (S := fun b => (w.heap.size + 2 ≤ b ∨ w.heap.size + 2 ≤ b) ∧ b < _) (fun b hb => ⟨⟨by have := hb.1; omega, hb.2⟩, rfl⟩) _ r4), hm⟩
theorem clone_any (x : Rx) (v : Value) (w : World) (hv : RtV w (Lo w.heap.size) x v) : Calls Tryz.prog 38 #[v] w fun e w' => GivesX w x e w' := clone_upto (nodes x) x v w (Nat.le_refl _) hv
end Go.Proofs.YtnjkihbmhacgoaaGreatDoor
