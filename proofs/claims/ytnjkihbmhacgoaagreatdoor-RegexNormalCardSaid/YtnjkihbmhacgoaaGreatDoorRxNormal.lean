/-
  SORTING A ROW OF EXPRESSIONS: the shelf's contract of slices.SortFunc at this program's Compare.
  THE WALK of inOrder, where at most one Kid is left.
  THE WALKS of normal and join: a kind's function is looked up and called.
-/
import Derived.Test.YtnjkihbmhacgoaaGreatDoorRxNew
import Derived.Test.YtnjkihbmhacgoaaGreatDoorShelf
namespace Go.Proofs.YtnjkihbmhacgoaaGreatDoor
open Go.RowKit

/-- new blocks and draws alone -/
theorem grow_of_below {w w' : World} (h : Below w.heap.size w w') (hd : w.drawn ≤ w'.drawn) : ∃ q os, w' = Go.Sort.grow (w.drewN q) os := by
  refine ⟨w'.drawn - w.drawn, w'.heap.extract w.heap.size w'.heap.size, ?_⟩
  have hh : w'.heap = w.heap ++ w'.heap.extract w.heap.size w'.heap.size := by
    apply Array.ext_getElem?
    intro i
    have hsz := h.size
    rw [Array.getElem?_append]
    split
    · rename_i hi; exact h.block i hi
    · rename_i hi
      rw [Array.getElem?_extract]
      by_cases h2 : i < w'.heap.size
      · rw [if_pos (by omega)]; congr 1; omega
      · rw [if_neg (by omega), Array.getElem?_eq_none (by omega)]
  have e1 := h.os
  have e2 := h.tape
  have e3 := h.output
  cases w'
  cases w
  simp only [World.drewN, Go.Sort.grow] at *
  subst e1 e2 e3
  congr 1
  omega

theorem nil_rt (w : World) (S : Nat → Prop) : RtV w S nilR (rxv 0 0 0 none 0 0) := by
  simp only [nilR, RtV, RtL]
  exact ⟨⟨by unfold I64; omega, by decide, by decide, by decide⟩, none, 0, rfl, Nat.le_refl _, fun _ => rfl, trivial⟩
/-- an element of a row, and that it reads -/
def Tt (w : World) (T : Nat → Prop) : Type := { t : Tn // RtV w T t.x t.val }
instance (w : World) (T : Nat → Prop) : Inhabited (Tt w T) := ⟨⟨⟨nilR, none, 0⟩, nil_rt w T⟩⟩
def Tt.t {w : World} {T : Nat → Prop} (t : Tt w T) : Tn := t.1
theorem tt_list {w : World} {T : Nat → Prop} : ∀ ts : List Tn, (∀ t ∈ ts, RtV w T t.x t.val) → ∃ d : List (Tt w T), d.map Tt.t = ts
  | [], _ => ⟨[], rfl⟩
  | t :: ts, h => by
    obtain ⟨d, hd⟩ := tt_list ts (fun t' h' => h t' (List.mem_cons_of_mem _ h'))
    exact ⟨(show Tt w T from ⟨t, h t (by simp)⟩) :: d, congrArg (List.cons t) hd⟩
def Tt.enc {w : World} {T : Nat → Prop} (t : Tt w T) : List Value := t.1.cells
def Tt.cf {w : World} {T : Nat → Prop} (a b : Tt w T) : Int := cmp a.1.x b.1.x

theorem swo (w : World) (T : Nat → Prop) : Go.Sort.SWO (ltOf (Tt.cf (w := w) (T := T))) where
  irrefl x := by unfold ltOf Tt.cf; rw [cmp_self]; rfl
  trans x y z h1 h2 := by
    unfold ltOf Tt.cf at *
    simp only [decide_eq_true_eq] at *
    exact cmp_trans _ _ _ h1 h2
  ntrans x y z h1 h2 := by
    unfold ltOf Tt.cf at *
    simp only [decide_eq_false_iff_not] at *
    have e1 := cmp_neg x.1.x y.1.x
    have e2 := cmp_neg y.1.x z.1.x
    have e3 := cmp_neg x.1.x z.1.x
    have := cmp_le_trans z.1.x y.1.x x.1.x (by omega) (by omega)
    omega

theorem heap_sortWorld {α : Type} [Inhabited α] (enc : α → List Value) (k : Nat) (w : World) (g m : Nat) (d : Array α) (os : Array Obj) {b : Nat} (hb : b < w.heap.size) (hne : b ≠ g) : (sortWorldK enc k w g 0 m d os).heap[b]? = w.heap[b]? := by
  unfold sortWorldK
  rw [Go.Sort.heap_grow_old _ _ (by simpa [Go.Sort.putRowK, Go.Sort.putRow, Go.Sort.mapBlock, Go.Sort.ahead] using hb)]
  simp [Go.Sort.putRowK, Go.Sort.putRow, Go.Sort.mapBlock, Go.Sort.ahead, Array.getElem?_modify, Ne.symm hne]
theorem heap_sortWorld_own {α : Type} [Inhabited α] (enc : α → List Value) (k : Nat) (w : World) (g m : Nat) (d : Array α) (os : Array Obj) {cs : Array Value} {t : TypeId} (hg : w.heap[g]? = some (.cells cs t (0, 0))) :
    (sortWorldK enc k w g 0 m d os).heap[g]? = some (.cells (Go.Sort.putCells id 0 (Go.Sort.flatK enc k d) cs) t (0, 0)) := by
  have hlt : g < w.heap.size := (Array.getElem?_eq_some_iff.1 hg).1
  unfold sortWorldK
  rw [Go.Sort.heap_grow_old _ _ (by simpa [Go.Sort.putRowK, Go.Sort.putRow, Go.Sort.mapBlock, Go.Sort.ahead] using hlt)]
  simp only [Go.Sort.putRowK, Go.Sort.putRow, Go.Sort.mapBlock, Go.Sort.ahead, Array.getElem?_modify, if_true, hg]
  rfl
theorem size_sortWorld {α : Type} [Inhabited α] (enc : α → List Value) (k : Nat) (w : World) (g m : Nat) (d : Array α) (os : Array Obj) : w.heap.size ≤ (sortWorldK enc k w g 0 m d os).heap.size := by
  unfold sortWorldK
  rw [Go.Sort.size_grow]
  simp [Go.Sort.putRowK, Go.Sort.putRow, Go.Sort.mapBlock, Go.Sort.ahead]

theorem cmp_lays (w : World) (T : Nat → Prop) (g size : Nat) (hT : ∀ b, T b → b < w.heap.size ∧ b ≠ g) : CmpLays Tryz.prog 12 #[] (Tt.enc (w := w) (T := T)) 4 Tt.cf g 0 size w := by
  intro m os dk _ x y
  have hk : ∀ (t : Tt w T), RtV (sortWorldK Tt.enc 4 w g 0 m dk os) (Lo (sortWorldK Tt.enc 4 w g 0 m dk os).heap.size) t.1.x t.1.val := fun t => RtV.to (fun b hb => ⟨Nat.lt_of_lt_of_le (hT b hb).1 (size_sortWorld _ _ _ _ _ _ _), heap_sortWorld _ _ _ _ _ _ _ (hT b hb).1 (hT b hb).2⟩) _ t.2
  have h := cmpD_any x.1.x y.1.x x.1.val y.1.val _ (hk x) (hk y)
  have e : #[Value.agg (Tt.enc x).toArray, Value.agg (Tt.enc y).toArray] ++ (#[] : Array Value) = #[x.1.val, y.1.val] := rfl
  rw [e]
  exact h.mono fun _ _ ⟨h1, h2, h3⟩ => ⟨h1, grow_of_below h2 h3⟩

theorem flat_get {α : Type} [Inhabited α] (enc : α → List Value) (h4 : ∀ x, (enc x).length = 4) : ∀ (l : List α) (j : Nat), j < l.length * 4 → (l.flatMap enc)[j]? = some ((enc l[j / 4]!)[j % 4]!)
  | [], j, h => by simp at h
  | x :: l, j, h => by
    rw [List.flatMap_cons]
    by_cases hj : j < 4
    · rw [List.getElem?_append_left (by rw [h4]; exact hj), show j / 4 = 0 by omega, show j % 4 = j by omega]
      simp only [List.getElem!_cons_zero]
      rw [List.getElem?_eq_getElem (by rw [h4]; exact hj)]
      congr 1
      simp [h4, hj]
    · rw [List.getElem?_append_right (by rw [h4]; omega), h4, flat_get enc h4 l (j - 4) (by rw [List.length_cons] at h; omega)]
      rw [show (j - 4) % 4 = j % 4 by omega, show j / 4 = (j - 4) / 4 + 1 by omega]
      simp

set_option maxHeartbeats 1000000 in
/-- A ROW OF EXPRESSIONS, SORTED. -/
theorem sort_any (W : World) (base : Nat) (S : Nat → Prop) (A : Option Addr) (c : Nat) (ts : List Tn) (hrow : RowT W base S 30 (.slice A ts.length c) ts) (_hS : SOk S base) (hlen : ts.length ≤ 1048576) :
    Calls Tryz.prog 60 #[.slice A ts.length c, .func (.func 12) #[] #[]] W fun e w' => e = .returned (.tuple #[]) ∧ ∃ ts', RowT w' base S 30 (.slice A ts.length c) ts' ∧ ts'.Perm ts ∧ Sorted (ts'.map Tn.x) ∧ Below base W w' := by
  rcases hrow.1.2 with ⟨hv, h0⟩ | ⟨g, cap, cur, hv, hb, hg, hnc, hcm, hcs, hct⟩
  · obtain rfl : ts = [] := List.eq_nil_of_length_eq_zero h0
    exact (AnyF.slices_SortFunc_none (P := Tryz.prog) Tryz.sortF A c (.func (.func 12) #[] #[]) W).mono fun _ _ ⟨h1, h2⟩ => ⟨h1, [], by rw [h2]; exact hrow, List.Perm.refl _, List.Pairwise.nil, by rw [h2]; exact Below.refl _ _⟩
  · injection hv with h1 h2 h3
    subst h1 h3
    clear h2
    have hglt : g < W.heap.size := (Array.getElem?_eq_some_iff.1 hg).1
    obtain ⟨T, hTd⟩ : ∃ T, T = Lay S W (.slice (some ⟨g, 0, none⟩) ts.length c) := ⟨_, rfl⟩
    have hT : ∀ b, T b → S b ∧ b < W.heap.size ∧ b ≠ g := fun b hb' => by
      subst hTd
      exact ⟨hb'.1, hb'.2.1, fun e => hb'.2.2 (by rw [e]; rfl)⟩
    have hel : ∀ t ∈ ts, RtV W T t.x t.val := by subst hTd; exact hrow.2
    obtain ⟨dl, hdl⟩ := tt_list ts hel
    obtain ⟨d, hd⟩ : ∃ d : Array (Tt W T), d.toList.map Tt.t = ts := ⟨dl.toArray, hdl⟩
    have hds : d.size = ts.length := by rw [← hd, List.length_map, Array.length_toList]
    have hfm : ∀ l : List (Tt W T), l.flatMap Tt.enc = (l.map Tt.t).flatMap Tn.cells := fun l => by rw [List.flatMap_map]; rfl
    have h4 : ∀ x : Tt W T, (Tt.enc x).length = 4 := fun _ => rfl
    have hget : ∀ (d : Array (Tt W T)) j, j < d.size * 4 → (d.toList.flatMap Tt.enc)[j]? = some ((Go.Sort.flatK Tt.enc 4 d)[j]!) := fun d j hj => by
      rw [flat_get Tt.enc h4 d.toList j (by simpa using hj), Go.Sort.get_flatK _ _ _ _ hj]
      congr 3
      rw [List.getElem!_eq_getElem?_getD, Array.getElem!_eq_getD, Array.getD_eq_getD_getElem?, Array.getElem?_toList]
    have hH : Go.Sort.HoldsK Tt.enc 4 W g 0 d := fun j hj => by
      rw [Go.Sort.size_flatK] at hj
      refine ⟨?_, four_frozen hg _⟩
      have e1 := hget d j hj
      rw [hfm, hd, ← hct, List.getElem?_take_of_lt (by omega)] at e1
      rw [Nat.zero_add, cell_of_row W g j cur 30 (0, 0) hg]
      simpa using e1
    have hC := AnyQ.slices_SortFunc (P := Tryz.prog) Tryz.sortF 4 Tryz.isAgg30 Tryz.sizeOf30 Tt.enc h4 (fun x v hv => tn_one1 x.1 v hv) Tt.cf (swo W T) 12 #[] g 0 c d W (enters_of Tryz.func12 (by kernel_rfl) rfl) (cmp_lays W T g d.size (fun b hb' => (hT b hb').2)) hH hglt (by omega)
    rw [hds] at hC
    refine Calls.mono hC ?_
    rintro e w' ⟨rfl, d', n, os, ⟨hp1, _, hp3⟩, hsd, rfl⟩
    have hlen' : (d'.toList.map Tt.t).length = ts.length := by rw [List.length_map, Array.length_toList, hp1, hds]
    have hkeep : ∀ b, b < W.heap.size → b ≠ g → (sortWorldK Tt.enc 4 W g 0 n d' os).heap[b]? = W.heap[b]? := fun b h1 h2 => heap_sortWorld _ _ _ _ _ _ _ h1 h2
    have hsz := size_sortWorld Tt.enc 4 W g n d' os
    refine ⟨rfl, d'.toList.map Tt.t, ?_, ?_, ?_, ?_⟩
    · unfold RowT
      rw [hlen']
      refine ⟨⟨?_, .inr ⟨g, c, _, rfl, hb, heap_sortWorld_own _ _ _ _ _ _ _ hg, hnc, hcm, ?_, ?_⟩⟩, ?_⟩
      · rw [tn_cells_len, hlen']
      · rw [← hcs]; simp [Go.Sort.putCells]
      · apply List.ext_getElem?
        intro j
        rw [← hfm]
        by_cases hj : j < ts.length * 4
        · rw [List.getElem?_take_of_lt hj, hget d' j (by rw [hp1, hds]; exact hj), Array.getElem?_toList]
          have hjc : j < cur.size := by rw [hcs]; omega
          simp only [Go.Sort.putCells, Array.getElem?_mapIdx, Array.getElem?_eq_getElem hjc, Option.map_some, Go.Sort.size_flatK, Nat.zero_le, true_and, Nat.zero_add, Nat.sub_zero, id]
          rw [if_pos (by rw [hp1, hds]; exact hj)]
        · rw [List.getElem?_eq_none (by rw [List.length_take]; omega), List.getElem?_eq_none (by rw [hfm, tn_cells_len, hlen']; omega)]
      · intro t' ht'
        obtain ⟨x, hx, rfl⟩ := List.mem_map.1 ht'
        exact RtV.to (fun b hb' => ⟨⟨(hT b hb').1, Nat.lt_of_lt_of_le (hT b hb').2.1 hsz, fun e => (hT b hb').2.2 (by simpa [Value.ownBlock] using e)⟩, hkeep b (hT b hb').2.1 (hT b hb').2.2⟩) _ x.2
    · have e1 : d'.extract 0 d.size = d' := by rw [← hp1]; exact Array.extract_size
      have e2 : d.extract 0 d.size = d := Array.extract_size
      rw [← hds, e1, e2] at hp3
      have := hp3.map Tt.t
      rwa [hd] at this
    · unfold Sorted
      rw [List.pairwise_iff_getElem]
      intro i j hi hj hij
      simp only [List.length_map, Array.length_toList] at hi hj
      have h1 := hsd i j (Nat.zero_le _) hij (by rw [← hds, ← hp1]; exact hj)
      simp only [List.getElem_map, Array.getElem_toList]
      rw [getElem!_pos d' j hj, getElem!_pos d' i hi] at h1
      unfold ltOf Tt.cf at h1
      have h2 : cmp (d'[i]).t.x (d'[j]).t.x = - cmp (d'[j]).1.x (d'[i]).1.x := cmp_neg (d'[j]).1.x (d'[i]).1.x
      simp only [decide_eq_false_iff_not] at h1
      omega
    · refine ⟨rfl, rfl, rfl, hsz, fun b hb' => hkeep b (by omega) (by omega)⟩
end Go.Proofs.YtnjkihbmhacgoaaGreatDoor

namespace Go.Proofs.YtnjkihbmhacgoaaGreatDoor
open Go.RowKit

theorem compact_small (A : Option Addr) (n c : Nat) (W : World) (hn : n ≤ 1) : Calls Tryz.prog 61 #[.slice A n c, .func (.func 45) #[] #[]] W fun e w' => e = .returned (.slice A n c) ∧ w' = W := by
  have h1 : (n : Int) < 2 := by omega
  go_enter Tryz.func61, Tryz.ntmps61
  go_wp2_with fail
  go_ret
  exact ⟨rfl, rfl⟩

theorem perm_small {α : Type} {l l' : List α} (h : l'.Perm l) (hl : l.length ≤ 1) : l' = l := by
  have := h.length_eq
  match l, l', hl with
  | [], [], _ => rfl
  | [x], [y], _ => exact h.eq_singleton
  | [], _ :: _, _ => simp at this
  | [_], [], _ => simp at this
  | [_], _ :: _ :: _, _ => simp at this

theorem ordR_small {l : List Rx} (hl : l.length ≤ 1) : ordR l = l := by
  match l, hl with
  | [], _ => rfl
  | [x], _ => rfl

theorem inOrder_small (l : List Rx) (hl : l.length ≤ 1) : ArrOk 42 ordR l := by
  intro W base S A c ts hrow hts hS hb
  have hlen : ts.length ≤ 1 := by rw [← List.length_map (f := Tn.x), hts]; exact hl
  have hC := sort_any W base S A c ts hrow hS (by omega)
  have hK := fun W => compact_small A ts.length c W hlen
  have hl2 : ts.length = (ordR l).length := by rw [ordR_small hl, ← hts, List.length_map]
  rw [← hl2]
  clear hrow hl2
  replace hts := Lib.hid hts
  replace hlen := Lib.hid hlen
  go_enter Tryz.func42, Tryz.ntmps42
  go_wp2_with (first
    | (go_at_call 60; refine Calls.mono hC ?_; clear hC; rintro e w1 ⟨rfl, ts', hrow', hp, hsd, hw1⟩)
    | (go_at_call 61; refine Calls.mono (hK _) ?_; rintro e w2 ⟨rfl, rfl⟩))
  go_ret
  have e1 := perm_small hp hlen.out
  subst e1
  obtain ⟨r1, r2, r3, r4⟩ := hrow'.list
  rw [ordR_small hl]
  rw [hts.out] at r4
  exact ⟨A, c, rfl, r2, r3, r4.sub (fun b hb => by
    rcases hb.1 with h | h
    · exact .inl h
    · exact .inr ⟨h, hb.2⟩), hw1⟩
end Go.Proofs.YtnjkihbmhacgoaaGreatDoor

namespace Go.Proofs.YtnjkihbmhacgoaaGreatDoor
open Go.RowKit

theorem FormsAt.sub {w : World} {S T : Nat → Prop} {f : Value} (h : FormsAt w S f) (hS : ∀ b, S b → T b) : FormsAt w T f := by
  have hB : ∀ b x, BoxAt w S b x → BoxAt w T b x := fun b x ⟨h1, A, c, h2, h3⟩ => ⟨h1, A, c, h2, h3.sub hS⟩
  have hJ : ∀ v neu abs F, JAt w S v neu abs F → JAt w T v neu abs F := fun v neu abs F ⟨b1, b2, b3, e, h1, h2, h3⟩ => ⟨b1, b2, b3, e, hB _ _ h1, hB _ _ h2, h3⟩
  obtain ⟨m, es, clock, e, h1, h2⟩ := h
  refine ⟨m, es, clock, e, h1, fun k h3 h4 => ?_⟩
  obtain ⟨j, v, h5, h6⟩ := h2 k h3 h4
  refine ⟨j, v, h5, ?_⟩
  rcases h6 with h | ⟨e, h⟩ | ⟨e, h⟩ | ⟨e, h⟩ | h | ⟨e, b1, b2, e2, h1, h2⟩
  · exact .inl h
  · exact .inr (.inl ⟨e, hJ _ _ _ _ h⟩)
  · exact .inr (.inr (.inl ⟨e, hJ _ _ _ _ h⟩))
  · exact .inr (.inr (.inr (.inl ⟨e, hJ _ _ _ _ h⟩)))
  · exact .inr (.inr (.inr (.inr (.inl h))))
  · exact .inr (.inr (.inr (.inr (.inr ⟨e, b1, b2, e2, hB _ _ h1, hB _ _ h2⟩))))

/-- what the lists that are put in order must be fit for -/
def Fit1 (x : Rx) : Prop := (x.kind = 4 → ArrOk 42 ordR (flatR 4 nilR x.kids)) ∧ (x.kind = 5 → ArrOk 42 ordR (flatR 5 allR x.kids))

theorem wf_single {k l h : Int} {s : List Rx} (hw : wfR (.node k l h s) = true) (hk : k = 6 ∨ k = 7) : ∃ y, s = [y] ∧ wfR y = true := by
  rw [wfR_eq] at hw
  simp only [Bool.and_eq_true] at hw
  have h2 := hw.2
  have hz : s.length = 1 ∧ wfL s = true := by
    rcases hk with rfl | rfl <;> simpa [wfK] using h2
  match s, hz with
  | [y], ⟨_, h3⟩ => exact ⟨y, rfl, by simpa [wfL] using h3⟩

/-- A KIND's FUNCTION, CALLED: which one it is, and what it gives. -/
theorem kind_cases {w : World} {S : Nat → Prop} {fv : Value} {x : Rx} (hk : KindV w S x.kind fv) (hS : SOk S w.heap.size) (hwf : wfR x = true) (hN : nodesL x.kids ≤ 1000000) (hF : Fit1 x) {v : Value} (hv : RtV w S x v) :
    (fv = .func (.func 39) #[] #[] ∧ Calls Tryz.prog 39 #[v] w fun e w' => GivesS S w (nfK x) e w') ∨
    (∃ b1 b2 b3, fv = .func (.func 56) #[] #[.pointer (some ⟨b1, 0, none⟩), .pointer (some ⟨b2, 0, none⟩), .pointer (some ⟨b3, 0, none⟩)] ∧ Calls Tryz.prog 56 #[v, .pointer (some ⟨b1, 0, none⟩), .pointer (some ⟨b2, 0, none⟩), .pointer (some ⟨b3, 0, none⟩)] w fun e w' => GivesS S w (nfK x) e w') ∨
    (fv = .func (.func 43) #[] #[] ∧ Calls Tryz.prog 43 #[v] w fun e w' => GivesS S w (nfK x) e w') ∨
    (∃ b1 b2, fv = .func (.func 44) #[] #[.pointer (some ⟨b1, 0, none⟩), .pointer (some ⟨b2, 0, none⟩)] ∧ Calls Tryz.prog 44 #[v, .pointer (some ⟨b1, 0, none⟩), .pointer (some ⟨b2, 0, none⟩)] w fun e w' => GivesS S w (nfK x) e w') := by
  have hlen : ∀ neu, (ordR (flatR x.kind neu x.kids)).length ≤ 1048576 := fun neu => by
    have h1 := len_nodes (ordR (flatR x.kind neu x.kids))
    have h2 := ordR_nodes (flatR x.kind neu x.kids)
    have h3 := flatR_nodes x.kind neu x.kids
    omega
  rcases hk with ⟨h, e⟩ | ⟨e, h⟩ | ⟨e, h⟩ | ⟨e, h⟩ | ⟨e, h⟩ | ⟨e, b1, b2, e2, h1, h2⟩
  · refine .inl ⟨e, ?_⟩
    have : nfK x = x := by unfold nfK; rw [if_neg (by omega), if_neg (by omega), if_neg (by omega), if_neg (by omega), if_neg (by omega)]
    rw [this]
    exact nf1_any x v S w hv hS
  · obtain ⟨b1, b2, b3, ev, h1, h2, h3, h4⟩ := h
    refine .inr (.inl ⟨b1, b2, b3, ev, ?_⟩)
    have h5 := joined1_any 41 (.inl rfl) id x oneR nilR v b1 b2 b3 S w hv hS h1 h2 h3 h4 hN (inSeq_any _) (by
      have h2 := len_nodes (flatR x.kind oneR x.kids)
      have h3 := flatR_nodes x.kind oneR x.kids
      simp only [id]; omega)
    rw [joinG_seq] at h5
    have : nfK x = joinR 3 oneR nilR false x.kids := by unfold nfK; rw [if_pos e]
    rw [this, ← e]
    exact h5
  · obtain ⟨b1, b2, b3, ev, h1, h2, h3, h4⟩ := h
    refine .inr (.inl ⟨b1, b2, b3, ev, ?_⟩)
    have h5 := joined1_any 42 (.inr rfl) ordR x nilR allR v b1 b2 b3 S w hv hS h1 h2 h3 h4 hN (by rw [e]; exact hF.1 e) (hlen _)
    rw [joinG_ord] at h5
    have : nfK x = joinR 4 nilR allR true x.kids := by unfold nfK; rw [if_neg (by omega), if_pos e]
    rw [this, ← e]
    exact h5
  · obtain ⟨b1, b2, b3, ev, h1, h2, h3, h4⟩ := h
    refine .inr (.inl ⟨b1, b2, b3, ev, ?_⟩)
    have h5 := joined1_any 42 (.inr rfl) ordR x allR nilR v b1 b2 b3 S w hv hS h1 h2 h3 h4 hN (by rw [e]; exact hF.2 e) (hlen _)
    rw [joinG_ord] at h5
    have : nfK x = joinR 5 allR nilR true x.kids := by unfold nfK; rw [if_neg (by omega), if_neg (by omega), if_pos e]
    rw [this, ← e]
    exact h5
  · refine .inr (.inr (.inl ⟨h, ?_⟩))
    have hx : nfK x = notK x := by unfold nfK; rw [if_neg (by omega), if_neg (by omega), if_neg (by omega), if_pos e]
    rw [hx]
    obtain ⟨k, l, h', s⟩ := x
    simp only [Rx.kind] at e
    subst e
    obtain ⟨y, rfl, hy⟩ := wf_single hwf (by simp)
    refine nf2_any 6 l h' y v S w hv hS (fun hk6 => ?_)
    obtain ⟨yk, yl, yh, ys⟩ := y
    simp only [Rx.kind] at hk6
    subst hk6
    obtain ⟨z, rfl, _⟩ := wf_single hy (by simp)
    exact ⟨z, [], rfl⟩
  · refine .inr (.inr (.inr ⟨b1, b2, e2, ?_⟩))
    have hx : nfK x = starK x := by unfold nfK; rw [if_neg (by omega), if_neg (by omega), if_neg (by omega), if_neg (by omega), if_pos e]
    rw [hx]
    obtain ⟨k, l, h', s⟩ := x
    simp only [Rx.kind] at e
    subst e
    obtain ⟨y, rfl, hy⟩ := wf_single hwf (by simp)
    exact nf3_any 7 l h' y v b1 b2 S w hv hS h1 h2
end Go.Proofs.YtnjkihbmhacgoaaGreatDoor
