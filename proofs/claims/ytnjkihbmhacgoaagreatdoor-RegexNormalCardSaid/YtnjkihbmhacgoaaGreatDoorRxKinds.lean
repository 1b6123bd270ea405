/-
  THE FUNCTIONS OF THE KINDS: the test for the absorbing expression, joined's closure, itself, Not's, Star's; Kids in sequence.
-/
import Derived.Test.YtnjkihbmhacgoaaGreatDoorRxJoin
namespace Go.Proofs.YtnjkihbmhacgoaaGreatDoor
open Go.RowKit

theorem BoxAt.parts {w : World} {S : Nat → Prop} {b : Nat} {x : Rx} (h : BoxAt w S b x) : b < w.heap.size ∧ ∃ A c, w.heap[b]? = some (.cells #[.int .i64 x.kind, .int .u8 x.lo, .int .u8 x.hi, .slice A x.kids.length c] 30 (0, 0)) ∧ RtV w S x (rxv x.kind x.lo x.hi A x.kids.length c) := h

/-- the test for the absorbing expression -/
theorem joined11_any (x abs : Rx) (v : Value) (b : Nat) (S : Nat → Prop) (w : World) (hv : RtV w (Lo w.heap.size) x v) (hb : BoxAt w S b abs) (hS : SOk S w.heap.size) :
    Calls Tryz.prog 59 #[v, .pointer (some ⟨b, 0, none⟩)] w fun e w' => e = .returned (.bool (cmp x abs == 0)) ∧ Below w.heap.size w w' := by
  obtain ⟨hlt, B, d, hbb, hab⟩ := hb
  have hE := fun o : Obj => equal_any x abs v _ (w.alloc o) (hv.call ((Below.refl _ w).alloc (Nat.le_refl _) o)) ((hab.keep hS ((Below.refl _ w).alloc (Nat.le_refl _) o)).lo (hS.mono (by simp)))
  obtain ⟨_, A, c, rfl, _⟩ := hv.parts
  generalize (cmp x abs == 0) = z at hE
  clear hv hab
  unfold rxv at hE ⊢
  obtain ⟨q0, q1, q2, q3⟩ := four hbb
  have r0 := fun o : Obj => (cell_old (w := w) (B := b) (i := 0) hlt o).trans q0
  have r1 := fun o : Obj => (cell_old (w := w) (B := b) (i := 1) hlt o).trans q1
  have r2 := fun o : Obj => (cell_old (w := w) (B := b) (i := 2) hlt o).trans q2
  have r3 := fun o : Obj => (cell_old (w := w) (B := b) (i := 3) hlt o).trans q3
  go_enter Tryz.func59, Tryz.ntmps59
  go_wp2_with (go_at_call 45; refine (hE _).mono ?_; clear hE; rintro e w1 ⟨rfl, hw1⟩)
  go_ret
  exact ⟨rfl, ((Below.refl _ _).alloc (Nat.le_refl _) _).trans (hw1.mono (by simp))⟩

/-- what a function that arranges Kids does to a list -/
def ArrOk (F : Nat) (ord : List Rx → List Rx) (l : List Rx) : Prop := ∀ (W : World) (base : Nat) (S : Nat → Prop) (A : Option Addr) (c : Nat) (ts : List Tn), RowT W base S 30 (.slice A ts.length c) ts → ts.map Tn.x = l → SOk S base → base ≤ W.heap.size →
  Calls Tryz.prog F #[.slice A ts.length c] W fun e w' => ∃ A c, e = .returned (.slice A (ord l).length c) ∧ (ord l).length ≤ c ∧ (A = none → c = 0) ∧ RtL w' (Plus S base w'.heap.size) (ord l) A ∧ Below base W w'

theorem inSeq_any (l : List Rx) : ArrOk 41 id l := by
  intro W base S A c ts hrow hl hS hb
  obtain ⟨r1, r2, r3, r4⟩ := hrow.list
  rw [hl] at r4
  have hl2 : ts.length = l.length := by rw [← hl, List.length_map]
  rw [hl2] at r2 ⊢
  clear hrow
  go_enter Tryz.func41, Tryz.ntmps41
  go_wp2_with fail
  go_ret
  exact ⟨A, c, rfl, r2, r3, r4.sub (fun b hb => by
    rcases hb.1 with h | h
    · exact .inl h
    · exact .inr ⟨h, hb.2⟩), Below.refl _ _⟩

/-- the normal form by a function that arranges -/
def joinG (k : Int) (neu abs : Rx) (ord : List Rx → List Rx) (ks : List Rx) : Rx :=
  if (flatR k neu ks).any (fun x => cmp x abs == 0) then abs else one_of k neu (ord (flatR k neu ks))
theorem joinG_seq (k : Int) (neu abs : Rx) (ks : List Rx) : joinG k neu abs id ks = joinR k neu abs false ks := rfl
theorem joinG_ord (k : Int) (neu abs : Rx) (ks : List Rx) : joinG k neu abs ordR ks = joinR k neu abs true ks := rfl

/-- a result stored in the call's own cell, block N, where none of its blocks is N -/
theorem fin_gives {S : Nat → Prop} {w W : World} {N : Nat} {x : Rx} {A : Option Addr} {c : Nat} (hB : Below w.heap.size w W) (hN : w.heap.size ≤ N) (hS : SOk S w.heap.size) {T : Nat → Prop} (hv : RtV W T x (rxv x.kind x.lo x.hi A x.kids.length c)) (hT : ∀ b, T b → b ≠ N ∧ Plus S w.heap.size W.heap.size b) :
    GivesS S w x (.returned (rxv x.kind x.lo x.hi A x.kids.length c)) ((((W.setCell ⟨N, 0, none⟩ (.int .i64 x.kind)).setCell ⟨N, 1, none⟩ (.int .u8 x.lo)).setCell ⟨N, 2, none⟩ (.int .u8 x.hi)).setCell ⟨N, 3, none⟩ (.slice A x.kids.length c)) :=
  ⟨_, rfl, RtV.to (fun b hb => ⟨by have := (hT b hb).2; rw [fin4_size]; exact this, fin4 _ _ _ _ (hT b hb).1⟩) x hv, fin4_below hB hN _ _ _ _⟩

theorem RtL.one {w : World} {S : Nat → Prop} {x : Rx} {A : Option Addr} (h : RtL w S [x] A) : ∃ b o A' c', A = some ⟨b, o, none⟩ ∧ S b ∧ At4 w b o x.kind x.lo x.hi (.slice A' x.kids.length c') ∧ RtV w S x (rxv x.kind x.lo x.hi A' x.kids.length c') ∧ True := by
  simp only [RtL] at h
  obtain ⟨b, o, A', c', e, h1, h2, h3, _⟩ := h
  exact ⟨b, o, A', c', e, h1, h2, h3, trivial⟩
theorem plus_sub {S : Nat → Prop} {n m b : Nat} (hS : SOk S n) (hb : Plus S (n + 1 + 1) m b) : b ≠ n + 1 ∧ Plus S n m b := by
  rcases hb with hb | ⟨h1, h2⟩
  · exact ⟨by have := hS b hb; omega, .inl hb⟩
  · exact ⟨by omega, .inr ⟨by omega, h2⟩⟩

set_option maxHeartbeats 2000000 in
set_option maxRecDepth 100000 in
theorem joined1_any (F : Nat) (hF : F = 41 ∨ F = 42) (ord : List Rx → List Rx) (x neu abs : Rx) (v : Value) (b1 b2 b3 : Nat) (S : Nat → Prop) (w : World) (hv : RtV w S x v) (hS : SOk S w.heap.size) (h1 : BoxAt w S b1 neu) (h2 : BoxAt w S b2 abs)
    (h3 : b3 < w.heap.size) (h3b : w.heap[b3]? = some (.cells #[.func (.func F) #[] #[]] 76 (0, 0))) (hN : nodesL x.kids ≤ 1000000) (hArr : ArrOk F ord (flatR x.kind neu x.kids)) (hO : (ord (flatR x.kind neu x.kids)).length ≤ 1048576) :
    Calls Tryz.prog 56 #[v, .pointer (some ⟨b1, 0, none⟩), .pointer (some ⟨b2, 0, none⟩), .pointer (some ⟨b3, 0, none⟩)] w fun e w' => GivesS S w (joinG x.kind neu abs ord x.kids) e w' := by
  have hk64 := hv.okn.1
  have hb0 : ∀ o1 o2, Below w.heap.size w ((w.alloc o1).alloc o2) := fun o1 o2 => below_alloc2 (Below.refl _ _) (Nat.le_refl _) _ _
  obtain ⟨hlt1, B1, d1, hbb1, hn1⟩ := h1
  have hlt2 := h2.1
  have hab2 := h2
  obtain ⟨_, B2, d2, hbb2, hn2⟩ := h2
  have hFl : ∀ W, Below w.heap.size w W → Calls Tryz.prog 57 #[v, rxv neu.kind neu.lo neu.hi B1 neu.kids.length d1] W fun e w' => ∃ A c ts, e = .returned (.slice A ts.length c) ∧ RowT w' W.heap.size S 30 (.slice A ts.length c) ts ∧ ts.map Tn.x = flatR x.kind neu x.kids ∧ Below W.heap.size W w' := fun W hW => by
    cases x with | node k l h s => exact flat_any k l h s v neu _ S W (hv.keep hS hW) (hn1.keep hS hW) (hS.mono hW.size) hN
  obtain ⟨_, A, c, rfl, hc, hA, hs⟩ := hv.parts
  have hflen := flatR_nodes x.kind neu x.kids
  have hflen2 := len_nodes (flatR x.kind neu x.kids)
  unfold joinG
  generalize flatR x.kind neu x.kids = fl at *
  obtain ⟨q0, q1, q2, q3⟩ := four hbb1
  have cellk : ∀ (b : Nat), b < w.heap.size → ∀ i W, Below w.heap.size w W → W.cell? ⟨b, i, none⟩ = w.cell? ⟨b, i, none⟩ := fun b hb i W hW => World.cell?_of_block (hW.block b hb)
  have r0 := fun o1 o2 => (cellk b1 hlt1 0 _ (hb0 o1 o2)).trans q0
  have r1 := fun o1 o2 => (cellk b1 hlt1 1 _ (hb0 o1 o2)).trans q1
  have r2 := fun o1 o2 => (cellk b1 hlt1 2 _ (hb0 o1 o2)).trans q2
  have r3 := fun o1 o2 => (cellk b1 hlt1 3 _ (hb0 o1 o2)).trans q3
  have e3 := cell_of_row w b3 0 _ _ _ h3b
  simp only [List.getElem?_toArray, List.getElem?_cons_zero] at e3
  obtain ⟨s0, s1, s2, s3⟩ := four hbb2
  clear hv
  have hCF : ∀ (W : World) (base : Nat) (A : Option Addr) (c : Nat) (ts : List Tn), w.heap.size ≤ base → base ≤ W.heap.size → Below w.heap.size w W → RowT W base S 30 (.slice A ts.length c) ts → ts.map Tn.x = fl →
      Calls Tryz.prog 58 #[.slice A ts.length c, .func (.func 59) #[] #[.pointer (some ⟨b2, 0, none⟩)]] W fun e w' => e = .returned (.bool (fl.any fun x => cmp x abs == 0)) ∧ Below W.heap.size W w' := fun W base A c ts hB1 hB2 hW hrow hl => by
    obtain ⟨t1, t2, t3, t4⟩ := hrow.list
    have hl2 : ts.length = fl.length := by rw [← hl, List.length_map]
    rw [hl] at t4
    rw [hl2]
    refine containsF_any 59 _ (.inr ⟨rfl, b2, rfl⟩) (fun x => cmp x abs == 0) fl A c W ?_ (by omega) (t4.sub fun b hb => hb.2)
    intro y _ vy W' hW' hvy
    have := joined11_any y abs vy b2 S W' hvy ((hab2.keep hS hW).keep (hS.mono hW.size) hW') (hS.mono (Nat.le_trans hW.size hW'.size))
    simpa using this
  unfold rxv at hFl ⊢
  by_cases hany : (fl.any fun x => cmp x abs == 0) = true
  · rw [if_pos hany]
    rw [hany] at hCF
    go_enter Tryz.func56, Tryz.ntmps56
    go_wp2_with (first
      | (go_at_call 57; refine (hFl _ (hb0 _ _)).mono ?_; clear hFl; rintro e w1 ⟨A1, c1, ts, rfl, hrow, hts, hw1⟩; have hy1 := hw1.size; simp at hy1; have hB1 := (hb0 _ _).trans (hw1.mono (by simp; omega)); have hn := (hw1.block (w.heap.size + 1) (by simp)).trans (heap_alloc_new_at _ _ (by simp)))
      | (go_at_call 58; refine (hCF _ _ _ _ ts (by simp; omega) hw1.size hB1 hrow hts).mono ?_; clear hCF; rintro e w2 ⟨rfl, hw2⟩; have hB2 := hB1.trans (hw2.mono hB1.size); have hn2' := (hw2.block (w.heap.size + 1) (by omega)).trans hn; obtain ⟨t0, t1, t2, t3⟩ := four hn2'; have hf2 := four_frozen hn2'; have u0 := (cellk b2 hlt2 0 _ hB2).trans s0; have u1 := (cellk b2 hlt2 1 _ hB2).trans s1; have u2 := (cellk b2 hlt2 2 _ hB2).trans s2; have u3 := (cellk b2 hlt2 3 _ hB2).trans s3))
    refine bodyPost_ret (v := rxv abs.kind abs.lo abs.hi B2 abs.kids.length d2) (by unfold rxv; simp [results, Tryz.results56, go_sem, t0, t1, t2, t3]) rfl ?_
    exact fin_gives hB2 (Nat.le_succ _) hS (hn2.keep hS hB2) (fun b hb => ⟨by have := hS b hb; omega, .inl hb⟩)
  · rw [if_neg hany]
    have hanyf : (fl.any fun x => cmp x abs == 0) = false := by simpa using hany
    rw [hanyf] at hCF
    unfold ArrOk at hArr
    rcases hF with rfl | rfl
    · rcases hol : ord fl with _ | ⟨y, _ | ⟨z, zs⟩⟩
      · rw [hol] at hArr hO
        go_enter Tryz.func56, Tryz.ntmps56
        go_wp2_with (first
      | (go_at_call 57; refine (hFl _ (hb0 _ _)).mono ?_; clear hFl; rintro e w1 ⟨A1, c1, ts, rfl, hrow, hts, hw1⟩; have hy1 := hw1.size; simp at hy1; have hB1 := (hb0 _ _).trans (hw1.mono (by simp; omega)); have hn := (hw1.block (w.heap.size + 1) (by simp)).trans (heap_alloc_new_at _ _ (by simp)); have hm := (hw1.block w.heap.size (by simp; omega)).trans ((heap_alloc_old _ _ _ (by simp)).trans (heap_alloc_new w (.cells #[.int .i64 x.kind, .int .u8 x.lo, .int .u8 x.hi, .slice A x.kids.length c] 30))))
      | (go_at_call 58; refine (hCF _ _ _ _ ts (by simp; omega) hw1.size hB1 hrow hts).mono ?_; clear hCF; rintro e w2 ⟨rfl, hw2⟩; have hB2 := hB1.trans (hw2.mono hB1.size); have hz2 := hw2.size; have e3' := (cellk b3 h3 0 _ hB2).trans e3; have hrow2 := hrow.below hw2)
      | (go_at_call 41; refine (hArr _ _ _ _ _ ts hrow2 hts (hS.mono (by simp; omega)) (by simp; omega)).mono ?_; clear hArr; rintro e w3 ⟨A3, c3, rfl, hc3, hA3, hl3, hw3⟩; have hz3 := hw3.size; simp at hw3 hl3; have hB3 := hB2.trans (hw3.mono (by omega)); have hn3 := (hw3.block (w.heap.size + 1) (by omega)).trans ((hw2.block (w.heap.size + 1) (by omega)).trans hn); obtain ⟨t0, t1, t2, t3⟩ := four hn3; have hf3 := four_frozen hn3; have hm3 := (hw3.block w.heap.size (by omega)).trans ((hw2.block w.heap.size (by omega)).trans hm); obtain ⟨k0, k1, k2, k3⟩ := four hm3; have u0 := (cellk b1 hlt1 0 _ hB3).trans q0; have u1 := (cellk b1 hlt1 1 _ hB3).trans q1; have u2 := (cellk b1 hlt1 2 _ hB3).trans q2; have u3 := (cellk b1 hlt1 3 _ hB3).trans q3))
        refine bodyPost_ret (v := rxv neu.kind neu.lo neu.hi B1 neu.kids.length d1) (by unfold rxv; simp [results, Tryz.results56, go_sem, t0, t1, t2, t3]) rfl ?_
        exact fin_gives hB3 (Nat.le_succ _) hS (hn1.keep hS hB3) (fun b hb => ⟨by have := hS b hb; omega, .inl hb⟩)
      · rw [hol] at hArr hO
        go_enter Tryz.func56, Tryz.ntmps56
        go_wp2_with (first
      | (go_at_call 57; refine (hFl _ (hb0 _ _)).mono ?_; clear hFl; rintro e w1 ⟨A1, c1, ts, rfl, hrow, hts, hw1⟩; have hy1 := hw1.size; simp at hy1; have hB1 := (hb0 _ _).trans (hw1.mono (by simp; omega)); have hn := (hw1.block (w.heap.size + 1) (by simp)).trans (heap_alloc_new_at _ _ (by simp)); have hm := (hw1.block w.heap.size (by simp; omega)).trans ((heap_alloc_old _ _ _ (by simp)).trans (heap_alloc_new w (.cells #[.int .i64 x.kind, .int .u8 x.lo, .int .u8 x.hi, .slice A x.kids.length c] 30))))
      | (go_at_call 58; refine (hCF _ _ _ _ ts (by simp; omega) hw1.size hB1 hrow hts).mono ?_; clear hCF; rintro e w2 ⟨rfl, hw2⟩; have hB2 := hB1.trans (hw2.mono hB1.size); have hz2 := hw2.size; have e3' := (cellk b3 h3 0 _ hB2).trans e3; have hrow2 := hrow.below hw2)
      | (go_at_call 41; refine (hArr _ _ _ _ _ ts hrow2 hts (hS.mono (by simp; omega)) (by simp; omega)).mono ?_; clear hArr; rintro e w3 ⟨A3, c3, rfl, hc3, hA3, hl3, hw3⟩; have hz3 := hw3.size; simp at hw3 hl3; have hB3 := hB2.trans (hw3.mono (by omega)); have hn3 := (hw3.block (w.heap.size + 1) (by omega)).trans ((hw2.block (w.heap.size + 1) (by omega)).trans hn); obtain ⟨t0, t1, t2, t3⟩ := four hn3; have hf3 := four_frozen hn3; have hm3 := (hw3.block w.heap.size (by omega)).trans ((hw2.block w.heap.size (by omega)).trans hm); obtain ⟨k0, k1, k2, k3⟩ := four hm3; obtain ⟨b4, o4, A4, c4, rfl, hb4, ⟨v0, v1, v2, v3⟩, hv4, _⟩ := hl3.one))
        refine bodyPost_ret (v := rxv y.kind y.lo y.hi A4 y.kids.length c4) (by unfold rxv; simp [results, Tryz.results56, go_sem, t0, t1, t2, t3]) rfl ?_
        exact fin_gives hB3 (Nat.le_succ _) hS hv4 (fun b hb => plus_sub hS hb)
      · rw [hol] at hArr hO
        have hnode : one_of x.kind neu (y :: z :: zs) = .node x.kind 0 0 (y :: z :: zs) := rfl
        rw [hnode]
        have hlen : 2 ≤ (y :: z :: zs).length := by simp
        generalize y :: z :: zs = l at hArr hO hlen
        have hl0 : ((l.length : Int) == 0) = false := beq_eq_false_iff_ne.2 (by omega)
        have hl1 : ((l.length : Int) == 1) = false := beq_eq_false_iff_ne.2 (by omega)
        have hl2 : ¬ (l.length : Int) = 0 := by omega
        have hl3 : ¬ (l.length : Int) = 1 := by omega
        have hl4 : ¬ l.length = 0 := by omega
        have hl5 : ¬ l.length = 1 := by omega
        have hl6 : ¬ l = [] := by rintro rfl; simp at hlen
        go_enter Tryz.func56, Tryz.ntmps56
        go_wp2_with (first
      | (go_at_call 57; refine (hFl _ (hb0 _ _)).mono ?_; clear hFl; rintro e w1 ⟨A1, c1, ts, rfl, hrow, hts, hw1⟩; have hy1 := hw1.size; simp at hy1; have hB1 := (hb0 _ _).trans (hw1.mono (by simp; omega)); have hn := (hw1.block (w.heap.size + 1) (by simp)).trans (heap_alloc_new_at _ _ (by simp)); have hm := (hw1.block w.heap.size (by simp; omega)).trans ((heap_alloc_old _ _ _ (by simp)).trans (heap_alloc_new w (.cells #[.int .i64 x.kind, .int .u8 x.lo, .int .u8 x.hi, .slice A x.kids.length c] 30))))
      | (go_at_call 58; refine (hCF _ _ _ _ ts (by simp; omega) hw1.size hB1 hrow hts).mono ?_; clear hCF; rintro e w2 ⟨rfl, hw2⟩; have hB2 := hB1.trans (hw2.mono hB1.size); have hz2 := hw2.size; have e3' := (cellk b3 h3 0 _ hB2).trans e3; have hrow2 := hrow.below hw2)
      | (go_at_call 41; refine (hArr _ _ _ _ _ ts hrow2 hts (hS.mono (by simp; omega)) (by simp; omega)).mono ?_; clear hArr; rintro e w3 ⟨A3, c3, rfl, hc3, hA3, hl3, hw3⟩; have hz3 := hw3.size; simp at hw3 hl3; have hB3 := hB2.trans (hw3.mono (by omega)); have hn3 := (hw3.block (w.heap.size + 1) (by omega)).trans ((hw2.block (w.heap.size + 1) (by omega)).trans hn); obtain ⟨t0, t1, t2, t3⟩ := four hn3; have hf3 := four_frozen hn3; have hm3 := (hw3.block w.heap.size (by omega)).trans ((hw2.block w.heap.size (by omega)).trans hm); obtain ⟨k0, k1, k2, k3⟩ := four hm3))
        refine bodyPost_ret (v := rxv x.kind 0 0 A3 l.length c3) (by unfold rxv; simp [results, Tryz.results56, go_sem, t0, t1, t2, t3]) rfl ?_
        exact fin_gives (x := .node x.kind 0 0 l) hB3 (Nat.le_succ _) hS (RtV.mk ⟨hk64, by decide, by decide, hO⟩ hc3 hA3 hl3) (fun b hb => plus_sub hS hb)
    · rcases hol : ord fl with _ | ⟨y, _ | ⟨z, zs⟩⟩
      · rw [hol] at hArr hO
        go_enter Tryz.func56, Tryz.ntmps56
        go_wp2_with (first
      | (go_at_call 57; refine (hFl _ (hb0 _ _)).mono ?_; clear hFl; rintro e w1 ⟨A1, c1, ts, rfl, hrow, hts, hw1⟩; have hy1 := hw1.size; simp at hy1; have hB1 := (hb0 _ _).trans (hw1.mono (by simp; omega)); have hn := (hw1.block (w.heap.size + 1) (by simp)).trans (heap_alloc_new_at _ _ (by simp)); have hm := (hw1.block w.heap.size (by simp; omega)).trans ((heap_alloc_old _ _ _ (by simp)).trans (heap_alloc_new w (.cells #[.int .i64 x.kind, .int .u8 x.lo, .int .u8 x.hi, .slice A x.kids.length c] 30))))
      | (go_at_call 58; refine (hCF _ _ _ _ ts (by simp; omega) hw1.size hB1 hrow hts).mono ?_; clear hCF; rintro e w2 ⟨rfl, hw2⟩; have hB2 := hB1.trans (hw2.mono hB1.size); have hz2 := hw2.size; have e3' := (cellk b3 h3 0 _ hB2).trans e3; have hrow2 := hrow.below hw2)
      | (go_at_call 42; refine (hArr _ _ _ _ _ ts hrow2 hts (hS.mono (by simp; omega)) (by simp; omega)).mono ?_; clear hArr; rintro e w3 ⟨A3, c3, rfl, hc3, hA3, hl3, hw3⟩; have hz3 := hw3.size; simp at hw3 hl3; have hB3 := hB2.trans (hw3.mono (by omega)); have hn3 := (hw3.block (w.heap.size + 1) (by omega)).trans ((hw2.block (w.heap.size + 1) (by omega)).trans hn); obtain ⟨t0, t1, t2, t3⟩ := four hn3; have hf3 := four_frozen hn3; have hm3 := (hw3.block w.heap.size (by omega)).trans ((hw2.block w.heap.size (by omega)).trans hm); obtain ⟨k0, k1, k2, k3⟩ := four hm3; have u0 := (cellk b1 hlt1 0 _ hB3).trans q0; have u1 := (cellk b1 hlt1 1 _ hB3).trans q1; have u2 := (cellk b1 hlt1 2 _ hB3).trans q2; have u3 := (cellk b1 hlt1 3 _ hB3).trans q3))
        refine bodyPost_ret (v := rxv neu.kind neu.lo neu.hi B1 neu.kids.length d1) (by unfold rxv; simp [results, Tryz.results56, go_sem, t0, t1, t2, t3]) rfl ?_
        exact fin_gives hB3 (Nat.le_succ _) hS (hn1.keep hS hB3) (fun b hb => ⟨by have := hS b hb; omega, .inl hb⟩)
      · rw [hol] at hArr hO
        go_enter Tryz.func56, Tryz.ntmps56
        go_wp2_with (first
      | (go_at_call 57; refine (hFl _ (hb0 _ _)).mono ?_; clear hFl; rintro e w1 ⟨A1, c1, ts, rfl, hrow, hts, hw1⟩; have hy1 := hw1.size; simp at hy1; have hB1 := (hb0 _ _).trans (hw1.mono (by simp; omega)); have hn := (hw1.block (w.heap.size + 1) (by simp)).trans (heap_alloc_new_at _ _ (by simp)); have hm := (hw1.block w.heap.size (by simp; omega)).trans ((heap_alloc_old _ _ _ (by simp)).trans (heap_alloc_new w (.cells #[.int .i64 x.kind, .int .u8 x.lo, .int .u8 x.hi, .slice A x.kids.length c] 30))))
      | (go_at_call 58; refine (hCF _ _ _ _ ts (by simp; omega) hw1.size hB1 hrow hts).mono ?_; clear hCF; rintro e w2 ⟨rfl, hw2⟩; have hB2 := hB1.trans (hw2.mono hB1.size); have hz2 := hw2.size; have e3' := (cellk b3 h3 0 _ hB2).trans e3; have hrow2 := hrow.below hw2)
      | (go_at_call 42; refine (hArr _ _ _ _ _ ts hrow2 hts (hS.mono (by simp; omega)) (by simp; omega)).mono ?_; clear hArr; rintro e w3 ⟨A3, c3, rfl, hc3, hA3, hl3, hw3⟩; have hz3 := hw3.size; simp at hw3 hl3; have hB3 := hB2.trans (hw3.mono (by omega)); have hn3 := (hw3.block (w.heap.size + 1) (by omega)).trans ((hw2.block (w.heap.size + 1) (by omega)).trans hn); obtain ⟨t0, t1, t2, t3⟩ := four hn3; have hf3 := four_frozen hn3; have hm3 := (hw3.block w.heap.size (by omega)).trans ((hw2.block w.heap.size (by omega)).trans hm); obtain ⟨k0, k1, k2, k3⟩ := four hm3; obtain ⟨b4, o4, A4, c4, rfl, hb4, ⟨v0, v1, v2, v3⟩, hv4, _⟩ := hl3.one))
        refine bodyPost_ret (v := rxv y.kind y.lo y.hi A4 y.kids.length c4) (by unfold rxv; simp [results, Tryz.results56, go_sem, t0, t1, t2, t3]) rfl ?_
        exact fin_gives hB3 (Nat.le_succ _) hS hv4 (fun b hb => plus_sub hS hb)
      · rw [hol] at hArr hO
        have hnode : one_of x.kind neu (y :: z :: zs) = .node x.kind 0 0 (y :: z :: zs) := rfl
        rw [hnode]
        have hlen : 2 ≤ (y :: z :: zs).length := by simp
        generalize y :: z :: zs = l at hArr hO hlen
        have hl0 : ((l.length : Int) == 0) = false := beq_eq_false_iff_ne.2 (by omega)
        have hl1 : ((l.length : Int) == 1) = false := beq_eq_false_iff_ne.2 (by omega)
        have hl2 : ¬ (l.length : Int) = 0 := by omega
        have hl3 : ¬ (l.length : Int) = 1 := by omega
        have hl4 : ¬ l.length = 0 := by omega
        have hl5 : ¬ l.length = 1 := by omega
        have hl6 : ¬ l = [] := by rintro rfl; simp at hlen
        go_enter Tryz.func56, Tryz.ntmps56
        go_wp2_with (first
      | (go_at_call 57; refine (hFl _ (hb0 _ _)).mono ?_; clear hFl; rintro e w1 ⟨A1, c1, ts, rfl, hrow, hts, hw1⟩; have hy1 := hw1.size; simp at hy1; have hB1 := (hb0 _ _).trans (hw1.mono (by simp; omega)); have hn := (hw1.block (w.heap.size + 1) (by simp)).trans (heap_alloc_new_at _ _ (by simp)); have hm := (hw1.block w.heap.size (by simp; omega)).trans ((heap_alloc_old _ _ _ (by simp)).trans (heap_alloc_new w (.cells #[.int .i64 x.kind, .int .u8 x.lo, .int .u8 x.hi, .slice A x.kids.length c] 30))))
      | (go_at_call 58; refine (hCF _ _ _ _ ts (by simp; omega) hw1.size hB1 hrow hts).mono ?_; clear hCF; rintro e w2 ⟨rfl, hw2⟩; have hB2 := hB1.trans (hw2.mono hB1.size); have hz2 := hw2.size; have e3' := (cellk b3 h3 0 _ hB2).trans e3; have hrow2 := hrow.below hw2)
      | (go_at_call 42; refine (hArr _ _ _ _ _ ts hrow2 hts (hS.mono (by simp; omega)) (by simp; omega)).mono ?_; clear hArr; rintro e w3 ⟨A3, c3, rfl, hc3, hA3, hl3, hw3⟩; have hz3 := hw3.size; simp at hw3 hl3; have hB3 := hB2.trans (hw3.mono (by omega)); have hn3 := (hw3.block (w.heap.size + 1) (by omega)).trans ((hw2.block (w.heap.size + 1) (by omega)).trans hn); obtain ⟨t0, t1, t2, t3⟩ := four hn3; have hf3 := four_frozen hn3; have hm3 := (hw3.block w.heap.size (by omega)).trans ((hw2.block w.heap.size (by omega)).trans hm); obtain ⟨k0, k1, k2, k3⟩ := four hm3))
        refine bodyPost_ret (v := rxv x.kind 0 0 A3 l.length c3) (by unfold rxv; simp [results, Tryz.results56, go_sem, t0, t1, t2, t3]) rfl ?_
        exact fin_gives (x := .node x.kind 0 0 l) hB3 (Nat.le_succ _) hS (RtV.mk ⟨hk64, by decide, by decide, hO⟩ hc3 hA3 hl3) (fun b hb => plus_sub hS hb)
end Go.Proofs.YtnjkihbmhacgoaaGreatDoor
