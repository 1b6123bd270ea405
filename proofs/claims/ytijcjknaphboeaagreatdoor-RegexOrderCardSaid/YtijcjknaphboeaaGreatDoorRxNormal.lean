/-
  THE WALKS of normal and join: a kind's function is looked up and called.
-/
import Derived.Test.YtijcjknaphboeaaGreatDoorRxNew
import Derived.Test.YtijcjknaphboeaaGreatDoorRxOrd
namespace Go.Proofs.YtijcjknaphboeaaGreatDoor
open Go.RowKit

theorem FormsAt.sub {w : World} {S T : Nat → Prop} {f : Value} (h : FormsAt w S f) (hS : ∀ b, S b → T b) : FormsAt w T f := by
  have hB : ∀ b x, BoxAt w S b x → BoxAt w T b x := fun b x ⟨h1, A, c, h2, h3⟩ => ⟨h1, A, c, h2, h3.sub hS⟩
  have hJ : ∀ v neu abs F, JAt w S v neu abs F → JAt w T v neu abs F := fun v neu abs F ⟨b1, b2, b3, e, h1, h2, h3⟩ => ⟨b1, b2, b3, e, hB _ _ h1, hB _ _ h2, h3⟩
  obtain ⟨m, es, clock, e, h1, h2⟩ := h
  refine ⟨m, es, clock, e, h1, fun k h3 h4 => ?_⟩
  obtain ⟨j, v, h5, h6⟩ := h2 k h3 h4
  refine ⟨j, v, h5, ?_⟩
  rcases h6 with h | ⟨e, h⟩ | ⟨e, h⟩ | ⟨e, h⟩ | h | ⟨e, b1, b2, e2, h1, h2⟩
  · exact .inl h
  · exact .inr (.inl ⟨e, hJ _ _ _ _ h⟩)
  · exact .inr (.inr (.inl ⟨e, hJ _ _ _ _ h⟩))
  · exact .inr (.inr (.inr (.inl ⟨e, hJ _ _ _ _ h⟩)))
  · exact .inr (.inr (.inr (.inr (.inl h))))
  · exact .inr (.inr (.inr (.inr (.inr ⟨e, b1, b2, e2, hB _ _ h1, hB _ _ h2⟩))))

/-- what the lists that are put in order must be fit for -/
def Fit1 (x : Rx) : Prop := (x.kind = 4 → ArrOk 50 ordR (flatR 4 nilR x.kids)) ∧ (x.kind = 5 → ArrOk 50 ordR (flatR 5 allR x.kids))

theorem wf_single {k l h : Int} {s : List Rx} (hw : wfR (.node k l h s) = true) (hk : k = 6 ∨ k = 7) : ∃ y, s = [y] ∧ wfR y = true := by
  rw [wfR_eq] at hw
  simp only [Bool.and_eq_true] at hw
  have h2 := hw.2
  have hz : s.length = 1 ∧ wfL s = true := by
    rcases hk with rfl | rfl <;> simpa [wfK] using h2
  match s, hz with
  | [y], ⟨_, h3⟩ => exact ⟨y, rfl, by simpa [wfL] using h3⟩

/-- A KIND's FUNCTION, CALLED: which one it is, and what it gives. -/
theorem kind_cases {w : World} {S : Nat → Prop} {fv : Value} {x : Rx} (hk : KindV w S x.kind fv) (hS : SOk S w.heap.size) (hwf : wfR x = true) (hN : nodesL x.kids ≤ 1000000) (hF : Fit1 x) {v : Value} (hv : RtV w S x v) :
    (fv = .func (.func 47) #[] #[] ∧ Calls Tryz.prog 47 #[v] w fun e w' => GivesS S w (nfK x) e w') ∨
    (∃ b1 b2 b3, fv = .func (.func 65) #[] #[.pointer (some ⟨b1, 0, none⟩), .pointer (some ⟨b2, 0, none⟩), .pointer (some ⟨b3, 0, none⟩)] ∧ Calls Tryz.prog 65 #[v, .pointer (some ⟨b1, 0, none⟩), .pointer (some ⟨b2, 0, none⟩), .pointer (some ⟨b3, 0, none⟩)] w fun e w' => GivesS S w (nfK x) e w') ∨
    (fv = .func (.func 51) #[] #[] ∧ Calls Tryz.prog 51 #[v] w fun e w' => GivesS S w (nfK x) e w') ∨
    (∃ b1 b2, fv = .func (.func 52) #[] #[.pointer (some ⟨b1, 0, none⟩), .pointer (some ⟨b2, 0, none⟩)] ∧ Calls Tryz.prog 52 #[v, .pointer (some ⟨b1, 0, none⟩), .pointer (some ⟨b2, 0, none⟩)] w fun e w' => GivesS S w (nfK x) e w') := by
  have hlen : ∀ neu, (ordR (flatR x.kind neu x.kids)).length ≤ 1048576 := fun neu => by
    have h1 := len_nodes (ordR (flatR x.kind neu x.kids))
    have h2 := ordR_nodes (flatR x.kind neu x.kids)
    have h3 := flatR_nodes x.kind neu x.kids
    omega
  rcases hk with ⟨h, e⟩ | ⟨e, h⟩ | ⟨e, h⟩ | ⟨e, h⟩ | ⟨e, h⟩ | ⟨e, b1, b2, e2, h1, h2⟩
  · refine .inl ⟨e, ?_⟩
    have : nfK x = x := by unfold nfK; rw [if_neg (by omega), if_neg (by omega), if_neg (by omega), if_neg (by omega), if_neg (by omega)]
    rw [this]
    exact nf1_any x v S w hv hS
  · obtain ⟨b1, b2, b3, ev, h1, h2, h3, h4⟩ := h
    refine .inr (.inl ⟨b1, b2, b3, ev, ?_⟩)
    have h5 := joined1_any 49 (.inl rfl) id x oneR nilR v b1 b2 b3 S w hv hS h1 h2 h3 h4 hN (inSeq_any _) (by
      have h2 := len_nodes (flatR x.kind oneR x.kids)
      have h3 := flatR_nodes x.kind oneR x.kids
      simp only [id]; omega)
    rw [joinG_seq] at h5
    have : nfK x = joinR 3 oneR nilR false x.kids := by unfold nfK; rw [if_pos e]
    rw [this, ← e]
    exact h5
  · obtain ⟨b1, b2, b3, ev, h1, h2, h3, h4⟩ := h
    refine .inr (.inl ⟨b1, b2, b3, ev, ?_⟩)
    have h5 := joined1_any 50 (.inr rfl) ordR x nilR allR v b1 b2 b3 S w hv hS h1 h2 h3 h4 hN (by rw [e]; exact hF.1 e) (hlen _)
    rw [joinG_ord] at h5
    have : nfK x = joinR 4 nilR allR true x.kids := by unfold nfK; rw [if_neg (by omega), if_pos e]
    rw [this, ← e]
    exact h5
  · obtain ⟨b1, b2, b3, ev, h1, h2, h3, h4⟩ := h
    refine .inr (.inl ⟨b1, b2, b3, ev, ?_⟩)
    have h5 := joined1_any 50 (.inr rfl) ordR x allR nilR v b1 b2 b3 S w hv hS h1 h2 h3 h4 hN (by rw [e]; exact hF.2 e) (hlen _)
    rw [joinG_ord] at h5
    have : nfK x = joinR 5 allR nilR true x.kids := by unfold nfK; rw [if_neg (by omega), if_neg (by omega), if_pos e]
    rw [this, ← e]
    exact h5
  · refine .inr (.inr (.inl ⟨h, ?_⟩))
    have hx : nfK x = notK x := by unfold nfK; rw [if_neg (by omega), if_neg (by omega), if_neg (by omega), if_pos e]
    rw [hx]
    obtain ⟨k, l, h', s⟩ := x
    simp only [Rx.kind] at e
    subst e
    obtain ⟨y, rfl, hy⟩ := wf_single hwf (by simp)
    refine nf2_any 6 l h' y v S w hv hS (fun hk6 => ?_)
    obtain ⟨yk, yl, yh, ys⟩ := y
    simp only [Rx.kind] at hk6
    subst hk6
    obtain ⟨z, rfl, _⟩ := wf_single hy (by simp)
    exact ⟨z, [], rfl⟩
  · refine .inr (.inr (.inr ⟨b1, b2, e2, ?_⟩))
    have hx : nfK x = starK x := by unfold nfK; rw [if_neg (by omega), if_neg (by omega), if_neg (by omega), if_neg (by omega), if_pos e]
    rw [hx]
    obtain ⟨k, l, h', s⟩ := x
    simp only [Rx.kind] at e
    subst e
    obtain ⟨y, rfl, hy⟩ := wf_single hwf (by simp)
    exact nf3_any 7 l h' y v b1 b2 S w hv hS h1 h2
end Go.Proofs.YtijcjknaphboeaaGreatDoor
