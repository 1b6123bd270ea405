/-
  THE FUNCTIONS OF THE KINDS, the others: itself, Not's, Star's.
-/
import Derived.Test.YtnjkihbmhacgoaaGreatDoorRxKinds
namespace Go.Proofs.YtnjkihbmhacgoaaGreatDoor
open Go.RowKit

theorem gives_old {S : Nat → Prop} {w W : World} {x : Rx} {v : Value} (hv : RtV w S x v) (hS : SOk S w.heap.size) (hB : Below w.heap.size w W) : GivesS S w x (.returned v) W := ⟨v, rfl, (hv.keep hS hB).sub (fun _ h => .inl h), hB⟩

theorem nf1_any (x : Rx) (v : Value) (S : Nat → Prop) (w : World) (hv : RtV w S x v) (hS : SOk S w.heap.size) : Calls Tryz.prog 39 #[v] w fun e w' => GivesS S w x e w' := by
  have hb0 : ∀ o1 o2, Below w.heap.size w ((w.alloc o1).alloc o2) := fun o1 o2 => below_alloc2 (Below.refl _ _) (Nat.le_refl _) _ _
  have hv0 := hv
  obtain ⟨_, A, c, rfl, hc, hA, hs⟩ := hv.parts
  unfold rxv
  go_enter Tryz.func39, Tryz.ntmps39
  go_wp2_with fail
  refine bodyPost_ret (v := rxv x.kind x.lo x.hi A x.kids.length c) (by unfold rxv; simp [results, Tryz.results39, go_sem]) rfl ?_
  exact gives_old hv0 hS (hb0 _ _)

set_option maxHeartbeats 1000000 in
/-- Not of a Kid -/
theorem nf2_any (k l h : Int) (y : Rx) (v : Value) (S : Nat → Prop) (w : World) (hv : RtV w S (.node k l h [y]) v) (hS : SOk S w.heap.size) (hy : y.kind = 6 → ∃ z t, y.kids = z :: t) : Calls Tryz.prog 43 #[v] w fun e w' => GivesS S w (notK (.node k l h [y])) e w' := by
  have hb0 : ∀ o1 o2 o3, Below w.heap.size w (((w.alloc o1).alloc o2).alloc o3) := fun o1 o2 o3 => below_alloc3 (Below.refl _ _) (Nat.le_refl _) _ _ _
  have hv0 := hv
  obtain ⟨hok, A, c, rfl, hc, hA, hs⟩ := hv.parts
  simp only [Rx.kind, Rx.lo, Rx.hi, Rx.kids, List.length_cons, List.length_nil, Nat.zero_add] at hv0 hok hc hs ⊢
  obtain ⟨b, o, A1, c1, rfl, hb, h4, hyv, _⟩ := hs.one
  have hob : ∀ o1 o2, At4 ((w.alloc o1).alloc o2) b o y.kind y.lo y.hi (.slice A1 y.kids.length c1) := fun o1 o2 => h4.to ((below_alloc2 (Below.refl w.heap.size w) (Nat.le_refl _) o1 o2).block b (hS b hb))
  have e0 := fun o1 o2 => (hob o1 o2).1
  have e1 := fun o1 o2 => (hob o1 o2).2.1
  have e2 := fun o1 o2 => (hob o1 o2).2.2.1
  have e3 := fun o1 o2 => (hob o1 o2).2.2.2
  clear hob
  by_cases hk : y.kind = 6
  · obtain ⟨z, t, hz⟩ := hy hk
    have hr : notK (.node k l h [y]) = z := by
      obtain ⟨yk, yl, yh, ys⟩ := y
      simp only [Rx.kind, Rx.kids] at hk hz
      subst hk hz
      simp [notK, Rx.kids, Rx.kind]
    rw [hr]
    obtain ⟨_, A2, c2, eq2, hc2, hA2, hs2⟩ := hyv.parts
    obtain ⟨rfl, rfl⟩ : A1 = A2 ∧ c1 = c2 := by unfold rxv at eq2; injection eq2 with eq2; simp at eq2; exact eq2
    rw [hz] at hs2 hc2 e3
    obtain ⟨bz, oz, Az, cz, hAz, hbz, hz4, hzv⟩ := hs2.get (j := 0) (by simp)
    subst hAz
    simp only [List.getElem_cons_zero, Nat.zero_mul, Nat.add_zero] at hz4 hzv
    have hob : ∀ o1 o2 o3, At4 (((w.alloc o1).alloc o2).alloc o3) bz oz z.kind z.lo z.hi (.slice Az z.kids.length cz) := fun o1 o2 o3 => hz4.to ((hb0 o1 o2 o3).block bz (hS bz hbz))
    have f0 := fun o1 o2 o3 => (hob o1 o2 o3).1
    have f1 := fun o1 o2 o3 => (hob o1 o2 o3).2.1
    have f2 := fun o1 o2 o3 => (hob o1 o2 o3).2.2.1
    have f3 := fun o1 o2 o3 => (hob o1 o2 o3).2.2.2
    have hkt : (y.kind == 6) = true := by simpa using hk
    have hl0 : (0 : Int) < ((z :: t).length : Int) := by simp only [List.length_cons]; omega
    generalize (z :: t).length = nt at *
    clear hob hyv hs hs2 hz4 h4 hv hz hr
    unfold rxv
    go_enter Tryz.func43, Tryz.ntmps43
    go_wp2_with fail
    refine bodyPost_ret (v := rxv z.kind z.lo z.hi Az z.kids.length cz) (by unfold rxv; simp [results, Tryz.results43, go_sem]) rfl ?_
    exact gives_old hzv hS (by first | exact hb0 _ _ _ | exact fin4_below (hb0 _ _ _) (Nat.le_succ _) _ _ _ _)
  · have hr : notK (.node k l h [y]) = .node k l h [y] := by simp [notK, Rx.kids, hk]
    rw [hr]
    have hkf : (y.kind == 6) = false := by simpa using hk
    clear hyv hs h4 hv hr
    unfold rxv
    go_enter Tryz.func43, Tryz.ntmps43
    go_wp2_with fail
    refine bodyPost_ret (v := rxv k l h (some ⟨b, o, none⟩) 1 c) (by unfold rxv; simp [results, Tryz.results43, go_sem]) rfl ?_
    exact gives_old hv0 hS (by first | exact hb0 _ _ _ | exact fin4_below (hb0 _ _ _) (Nat.le_succ _) _ _ _ _)

theorem cells4_of {w W : World} {b : Nat} {x : Rx} {A : Option Addr} {c : Nat} (hb : w.heap[b]? = some (.cells #[.int .i64 x.kind, .int .u8 x.lo, .int .u8 x.hi, .slice A x.kids.length c] 30 (0, 0))) (hlt : b < w.heap.size) (hB : Below w.heap.size w W) :
    W.cell? ⟨b, 0, none⟩ = some (.int .i64 x.kind) ∧ W.cell? ⟨b, 1, none⟩ = some (.int .u8 x.lo) ∧ W.cell? ⟨b, 2, none⟩ = some (.int .u8 x.hi) ∧ W.cell? ⟨b, 3, none⟩ = some (.slice A x.kids.length c) := four ((hB.block b hlt).trans hb)

set_option maxHeartbeats 1000000 in
/-- Star of a Kid -/
theorem nf3_any (k l h : Int) (y : Rx) (v : Value) (b1 b2 : Nat) (S : Nat → Prop) (w : World) (hv : RtV w S (.node k l h [y]) v) (hS : SOk S w.heap.size) (h1 : BoxAt w S b1 oneR) (h2 : BoxAt w S b2 allR) :
    Calls Tryz.prog 44 #[v, .pointer (some ⟨b1, 0, none⟩), .pointer (some ⟨b2, 0, none⟩)] w fun e w' => GivesS S w (starK (.node k l h [y])) e w' := by
  have hb0 : ∀ o1 o2 o3, Below w.heap.size w (((w.alloc o1).alloc o2).alloc o3) := fun o1 o2 o3 => below_alloc3 (Below.refl _ _) (Nat.le_refl _) _ _ _
  have hv0 := hv
  obtain ⟨hok, A, c, rfl, hc, hA, hs⟩ := hv.parts
  simp only [Rx.kind, Rx.lo, Rx.hi, Rx.kids, List.length_cons, List.length_nil, Nat.zero_add] at hv0 hok hc hs ⊢
  obtain ⟨b, o, A1, c1, rfl, hb, h4, hyv, _⟩ := hs.one
  have hob : ∀ o1 o2, At4 ((w.alloc o1).alloc o2) b o y.kind y.lo y.hi (.slice A1 y.kids.length c1) := fun o1 o2 => h4.to ((below_alloc2 (Below.refl w.heap.size w) (Nat.le_refl _) o1 o2).block b (hS b hb))
  have e0 := fun o1 o2 => (hob o1 o2).1
  have e1 := fun o1 o2 => (hob o1 o2).2.1
  have e2 := fun o1 o2 => (hob o1 o2).2.2.1
  have e3 := fun o1 o2 => (hob o1 o2).2.2.2
  clear hob
  obtain ⟨hlt1, B1, d1, hbb1, hn1⟩ := h1
  obtain ⟨hlt2, B2, d2, hbb2, hn2⟩ := h2
  have q0 := fun o1 o2 o3 => (cells4_of hbb1 hlt1 (hb0 o1 o2 o3)).1
  have q1 := fun o1 o2 o3 => (cells4_of hbb1 hlt1 (hb0 o1 o2 o3)).2.1
  have q2 := fun o1 o2 o3 => (cells4_of hbb1 hlt1 (hb0 o1 o2 o3)).2.2.1
  have q3 := fun o1 o2 o3 => (cells4_of hbb1 hlt1 (hb0 o1 o2 o3)).2.2.2
  have r0 := fun o1 o2 o3 => (cells4_of hbb2 hlt2 (hb0 o1 o2 o3)).1
  have r1 := fun o1 o2 o3 => (cells4_of hbb2 hlt2 (hb0 o1 o2 o3)).2.1
  have r2 := fun o1 o2 o3 => (cells4_of hbb2 hlt2 (hb0 o1 o2 o3)).2.2.1
  have r3 := fun o1 o2 o3 => (cells4_of hbb2 hlt2 (hb0 o1 o2 o3)).2.2.2
  simp only [oneR, allR, Rx.kind, Rx.lo, Rx.hi, Rx.kids] at q0 q1 q2 q3 r0 r1 r2 r3
  have hE : ∀ W, Below w.heap.size w W → Calls Tryz.prog 45 #[rxv y.kind y.lo y.hi A1 y.kids.length c1, rxv 6 0 0 B2 1 d2] W fun e w' => e = .returned (.bool (cmp y allR == 0)) ∧ Below W.heap.size W w' := fun W hW => equal_any y allR _ _ W ((hyv.keep hS hW).lo (hS.mono hW.size)) ((hn2.keep hS hW).lo (hS.mono hW.size))
  clear hs h4 hv
  by_cases hk0 : y.kind = 0
  · have hr : starK (.node k l h [y]) = oneR := by simp [starK, Rx.kids, hk0]
    rw [hr]
    have hkt : (y.kind == 0) = true := by simpa using hk0
    clear hE hr
    unfold rxv
    go_enter Tryz.func44, Tryz.ntmps44
    go_wp2_with fail
    refine bodyPost_ret (v := rxv 1 0 0 B1 0 d1) (by unfold rxv; simp [results, Tryz.results44, go_sem]) rfl ?_
    exact gives_old hn1 hS (by first | exact hb0 _ _ _ | exact fin4_below (hb0 _ _ _) (Nat.le_succ _) _ _ _ _)
  have hkf0 : (y.kind == 0) = false := by simpa using hk0
  by_cases hk1 : y.kind = 1
  · have hr : starK (.node k l h [y]) = oneR := by simp [starK, Rx.kids, hk1]
    rw [hr]
    have hkt : (y.kind == 1) = true := by simpa using hk1
    clear hE hr
    unfold rxv
    go_enter Tryz.func44, Tryz.ntmps44
    go_wp2_with fail
    refine bodyPost_ret (v := rxv 1 0 0 B1 0 d1) (by unfold rxv; simp [results, Tryz.results44, go_sem]) rfl ?_
    exact gives_old hn1 hS (by first | exact hb0 _ _ _ | exact fin4_below (hb0 _ _ _) (Nat.le_succ _) _ _ _ _)
  have hkf1 : (y.kind == 1) = false := by simpa using hk1
  by_cases hk7 : y.kind = 7
  · have hr : starK (.node k l h [y]) = y := by
      show (if y.kind = 0 ∨ y.kind = 1 then oneR else if y.kind = 7 ∨ cmp y allR = 0 then y else .node k l h [y]) = y
      rw [if_neg (by omega), if_pos (.inl hk7)]
    rw [hr]
    have hkt : (y.kind == 7) = true := by simpa using hk7
    clear hE hr
    unfold rxv
    go_enter Tryz.func44, Tryz.ntmps44
    go_wp2_with fail
    refine bodyPost_ret (v := rxv y.kind y.lo y.hi A1 y.kids.length c1) (by unfold rxv; simp [results, Tryz.results44, go_sem, hk7]) rfl ?_
    exact gives_old hyv hS (by first | exact hb0 _ _ _ | exact fin4_below (hb0 _ _ _) (Nat.le_succ _) _ _ _ _)
  have hkf7 : (y.kind == 7) = false := by simpa using hk7
  have hE' := fun o1 o2 o3 => hE _ (hb0 o1 o2 o3)
  clear hE
  have hfresh : ∀ (o1 o2 o3 : Obj) (w1 : World), Below (((w.alloc o1).alloc o2).alloc o3).heap.size (((w.alloc o1).alloc o2).alloc o3) w1 → w1.heap[w.heap.size]? = some o1 ∧ w1.heap[w.heap.size + 1]? = some o2 ∧ w1.heap[w.heap.size + 1 + 1]? = some o3 ∧ Below w.heap.size w w1 := fun o1 o2 o3 w1 hw => ⟨(hw.block _ (by simp; omega)).trans ((heap_alloc_old _ _ _ (by simp; omega)).trans ((heap_alloc_old _ _ _ (by simp)).trans (heap_alloc_new w _))), (hw.block _ (by simp)).trans ((heap_alloc_old _ _ _ (by simp)).trans (heap_alloc_new_at _ _ (by simp))), (hw.block _ (by simp)).trans (heap_alloc_new_at _ _ (by simp)), (hb0 _ _ _).trans (hw.mono (by simp; omega))⟩
  cases hz : (cmp y allR == 0)
  · have hr : starK (.node k l h [y]) = .node k l h [y] := by
      show (if y.kind = 0 ∨ y.kind = 1 then oneR else if y.kind = 7 ∨ cmp y allR = 0 then y else .node k l h [y]) = .node k l h [y]
      rw [if_neg (by omega), if_neg (by simp [hk7]; simpa using hz)]
    rw [hr]
    rw [hz] at hE'
    clear hr
    unfold rxv at hE' ⊢
    go_enter Tryz.func44, Tryz.ntmps44
    go_wp2_with (go_at_call 45; refine (hE' _ _ _).mono ?_; clear hE'; rintro e w1 ⟨rfl, hw1⟩; obtain ⟨f0, f1, f2, hB1⟩ := hfresh _ _ _ _ hw1; obtain ⟨x0, x1, x2, x3⟩ := four f0; obtain ⟨z0, z1, z2, z3⟩ := four f1; have hf1 := four_frozen f1)
    refine bodyPost_ret (v := rxv k l h (some ⟨b, o, none⟩) 1 c) (by unfold rxv; simp [results, Tryz.results44, go_sem, z0, z1, z2, z3]) rfl ?_
    exact fin_gives hB1 (Nat.le_succ _) hS (hv0.keep hS hB1) (fun b hb => ⟨by have := hS b hb; omega, .inl hb⟩)
  · have hr : starK (.node k l h [y]) = y := by
      show (if y.kind = 0 ∨ y.kind = 1 then oneR else if y.kind = 7 ∨ cmp y allR = 0 then y else .node k l h [y]) = y
      rw [if_neg (by omega), if_pos (.inr (by simpa using hz))]
    rw [hr]
    rw [hz] at hE'
    clear hr
    unfold rxv at hE' ⊢
    go_enter Tryz.func44, Tryz.ntmps44
    go_wp2_with (go_at_call 45; refine (hE' _ _ _).mono ?_; clear hE'; rintro e w1 ⟨rfl, hw1⟩; obtain ⟨f0, f1, f2, hB1⟩ := hfresh _ _ _ _ hw1; obtain ⟨x0, x1, x2, x3⟩ := four f2; obtain ⟨z0, z1, z2, z3⟩ := four f1; have hf1 := four_frozen f1)
    refine bodyPost_ret (v := rxv y.kind y.lo y.hi A1 y.kids.length c1) (by unfold rxv; simp [results, Tryz.results44, go_sem, z0, z1, z2, z3]) rfl ?_
    exact fin_gives hB1 (Nat.le_succ _) hS (hyv.keep hS hB1) (fun b hb => ⟨by have := hS b hb; omega, .inl hb⟩)
end Go.Proofs.YtnjkihbmhacgoaaGreatDoor
