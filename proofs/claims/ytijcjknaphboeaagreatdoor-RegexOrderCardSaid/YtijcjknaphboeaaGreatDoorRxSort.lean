/-
  SORTING A ROW OF EXPRESSIONS: the shelf's contract of slices.SortFunc at this program's Compare.
-/
import Derived.Test.YtijcjknaphboeaaGreatDoorRxMap
import Derived.Test.YtijcjknaphboeaaGreatDoorShelf
namespace Go.Proofs.YtijcjknaphboeaaGreatDoor
open Go.RowKit

/-- new blocks and draws alone -/
theorem grow_of_below {w w' : World} (h : Below w.heap.size w w') (hd : w.drawn ≤ w'.drawn) : ∃ q os, w' = Go.Sort.grow (w.drewN q) os := by
  refine ⟨w'.drawn - w.drawn, w'.heap.extract w.heap.size w'.heap.size, ?_⟩
  have hh : w'.heap = w.heap ++ w'.heap.extract w.heap.size w'.heap.size := by
    apply Array.ext_getElem?
    intro i
    have hsz := h.size
    rw [Array.getElem?_append]
    split
    · rename_i hi; exact h.block i hi
    · rename_i hi
      rw [Array.getElem?_extract]
      by_cases h2 : i < w'.heap.size
      · rw [if_pos (by omega)]; congr 1; omega
      · rw [if_neg (by omega), Array.getElem?_eq_none (by omega)]
  have e1 := h.os
  have e2 := h.tape
  have e3 := h.output
  cases w'
  cases w
  simp only [World.drewN, Go.Sort.grow] at *
  subst e1 e2 e3
  congr 1
  omega

theorem nil_rt (w : World) (S : Nat → Prop) : RtV w S nilR (rxv 0 0 0 none 0 0) := by
  simp only [nilR, RtV, RtL]
  exact ⟨⟨by unfold I64; omega, by decide, by decide, by decide⟩, none, 0, rfl, Nat.le_refl _, fun _ => rfl, trivial⟩
/-- an element of a row, and that it reads -/
def Tt (w : World) (T : Nat → Prop) : Type := { t : Tn // RtV w T t.x t.val }
instance (w : World) (T : Nat → Prop) : Inhabited (Tt w T) := ⟨⟨⟨nilR, none, 0⟩, nil_rt w T⟩⟩
def Tt.t {w : World} {T : Nat → Prop} (t : Tt w T) : Tn := t.1
theorem tt_list {w : World} {T : Nat → Prop} : ∀ ts : List Tn, (∀ t ∈ ts, RtV w T t.x t.val) → ∃ d : List (Tt w T), d.map Tt.t = ts
  | [], _ => ⟨[], rfl⟩
  | t :: ts, h => by
    obtain ⟨d, hd⟩ := tt_list ts (fun t' h' => h t' (List.mem_cons_of_mem _ h'))
    exact ⟨(show Tt w T from ⟨t, h t (by simp)⟩) :: d, congrArg (List.cons t) hd⟩
def Tt.enc {w : World} {T : Nat → Prop} (t : Tt w T) : List Value := t.1.cells
def Tt.cf {w : World} {T : Nat → Prop} (a b : Tt w T) : Int := cmp a.1.x b.1.x

theorem swo (w : World) (T : Nat → Prop) : Go.Sort.SWO (ltOf (Tt.cf (w := w) (T := T))) where
  irrefl x := by unfold ltOf Tt.cf; rw [cmp_self]; rfl
  trans x y z h1 h2 := by
    unfold ltOf Tt.cf at *
    simp only [decide_eq_true_eq] at *
    exact cmp_trans _ _ _ h1 h2
  ntrans x y z h1 h2 := by
    unfold ltOf Tt.cf at *
    simp only [decide_eq_false_iff_not] at *
    have e1 := cmp_neg x.1.x y.1.x
    have e2 := cmp_neg y.1.x z.1.x
    have e3 := cmp_neg x.1.x z.1.x
    have := cmp_le_trans z.1.x y.1.x x.1.x (by omega) (by omega)
    omega

theorem heap_sortWorld {α : Type} [Inhabited α] (enc : α → List Value) (k : Nat) (w : World) (g m : Nat) (d : Array α) (os : Array Obj) {b : Nat} (hb : b < w.heap.size) (hne : b ≠ g) : (sortWorldK enc k w g 0 m d os).heap[b]? = w.heap[b]? := by
  unfold sortWorldK
  rw [Go.Sort.heap_grow_old _ _ (by simpa [Go.Sort.putRowK, Go.Sort.putRow, Go.Sort.mapBlock, Go.Sort.ahead] using hb)]
  simp [Go.Sort.putRowK, Go.Sort.putRow, Go.Sort.mapBlock, Go.Sort.ahead, Array.getElem?_modify, Ne.symm hne]
theorem heap_sortWorld_own {α : Type} [Inhabited α] (enc : α → List Value) (k : Nat) (w : World) (g m : Nat) (d : Array α) (os : Array Obj) {cs : Array Value} {t : TypeId} (hg : w.heap[g]? = some (.cells cs t (0, 0))) :
    (sortWorldK enc k w g 0 m d os).heap[g]? = some (.cells (Go.Sort.putCells id 0 (Go.Sort.flatK enc k d) cs) t (0, 0)) := by
  have hlt : g < w.heap.size := (Array.getElem?_eq_some_iff.1 hg).1
  unfold sortWorldK
  rw [Go.Sort.heap_grow_old _ _ (by simpa [Go.Sort.putRowK, Go.Sort.putRow, Go.Sort.mapBlock, Go.Sort.ahead] using hlt)]
  simp only [Go.Sort.putRowK, Go.Sort.putRow, Go.Sort.mapBlock, Go.Sort.ahead, Array.getElem?_modify, if_true, hg]
  rfl
theorem size_sortWorld {α : Type} [Inhabited α] (enc : α → List Value) (k : Nat) (w : World) (g m : Nat) (d : Array α) (os : Array Obj) : w.heap.size ≤ (sortWorldK enc k w g 0 m d os).heap.size := by
  unfold sortWorldK
  rw [Go.Sort.size_grow]
  simp [Go.Sort.putRowK, Go.Sort.putRow, Go.Sort.mapBlock, Go.Sort.ahead]

theorem cmp_lays (w : World) (T : Nat → Prop) (g size : Nat) (hT : ∀ b, T b → b < w.heap.size ∧ b ≠ g) : CmpLays Tryz.prog 15 #[] (Tt.enc (w := w) (T := T)) 4 Tt.cf g 0 size w := by
  intro m os dk _ x y
  have hk : ∀ (t : Tt w T), RtV (sortWorldK Tt.enc 4 w g 0 m dk os) (Lo (sortWorldK Tt.enc 4 w g 0 m dk os).heap.size) t.1.x t.1.val := fun t => RtV.to (fun b hb => ⟨Nat.lt_of_lt_of_le (hT b hb).1 (size_sortWorld _ _ _ _ _ _ _), heap_sortWorld _ _ _ _ _ _ _ (hT b hb).1 (hT b hb).2⟩) _ t.2
  have h := cmpD_any x.1.x y.1.x x.1.val y.1.val _ (hk x) (hk y)
  have e : #[Value.agg (Tt.enc x).toArray, Value.agg (Tt.enc y).toArray] ++ (#[] : Array Value) = #[x.1.val, y.1.val] := rfl
  rw [e]
  exact h.mono fun _ _ ⟨h1, h2, h3⟩ => ⟨h1, grow_of_below h2 h3⟩

theorem flat_get {α : Type} [Inhabited α] (enc : α → List Value) (h4 : ∀ x, (enc x).length = 4) : ∀ (l : List α) (j : Nat), j < l.length * 4 → (l.flatMap enc)[j]? = some ((enc l[j / 4]!)[j % 4]!)
  | [], j, h => by simp at h
  | x :: l, j, h => by
    rw [List.flatMap_cons]
    by_cases hj : j < 4
    · rw [List.getElem?_append_left (by rw [h4]; exact hj), show j / 4 = 0 by omega, show j % 4 = j by omega]
      simp only [List.getElem!_cons_zero]
      rw [List.getElem?_eq_getElem (by rw [h4]; exact hj)]
      congr 1
      simp [h4, hj]
    · rw [List.getElem?_append_right (by rw [h4]; omega), h4, flat_get enc h4 l (j - 4) (by rw [List.length_cons] at h; omega)]
      rw [show (j - 4) % 4 = j % 4 by omega, show j / 4 = (j - 4) / 4 + 1 by omega]
      simp

set_option maxHeartbeats 1000000 in
/-- A ROW OF EXPRESSIONS, SORTED. -/
theorem sort_any (W : World) (base : Nat) (S : Nat → Prop) (A : Option Addr) (c : Nat) (ts : List Tn) (hrow : RowT W base S 30 (.slice A ts.length c) ts) (hS : SOk S base) (hlen : ts.length ≤ 1048576) :
    Calls Tryz.prog 68 #[.slice A ts.length c, .func (.func 15) #[] #[]] W fun e w' => e = .returned (.tuple #[]) ∧ ∃ ts', RowT w' base S 30 (.slice A ts.length c) ts' ∧ ts'.Perm ts ∧ Sorted (ts'.map Tn.x) ∧ Below base W w' := by
  rcases hrow.1.2 with ⟨hv, h0⟩ | ⟨g, cap, cur, hv, hb, hg, hnc, hcm, hcs, hct⟩
  · obtain rfl : ts = [] := List.eq_nil_of_length_eq_zero h0
    exact (AnyF.slices_SortFunc_none (P := Tryz.prog) Tryz.sortF A c (.func (.func 15) #[] #[]) W).mono fun _ _ ⟨h1, h2⟩ => ⟨h1, [], by rw [h2]; exact hrow, List.Perm.refl _, List.Pairwise.nil, by rw [h2]; exact Below.refl _ _⟩
  · injection hv with h1 h2 h3
    subst h1 h3
    clear h2
    have hglt : g < W.heap.size := (Array.getElem?_eq_some_iff.1 hg).1
    obtain ⟨T, hTd⟩ : ∃ T, T = Lay S W (.slice (some ⟨g, 0, none⟩) ts.length c) := ⟨_, rfl⟩
    have hT : ∀ b, T b → S b ∧ b < W.heap.size ∧ b ≠ g := fun b hb' => by
      subst hTd
      exact ⟨hb'.1, hb'.2.1, fun e => hb'.2.2 (by rw [e]; rfl)⟩
    have hel : ∀ t ∈ ts, RtV W T t.x t.val := by subst hTd; exact hrow.2
    obtain ⟨dl, hdl⟩ := tt_list ts hel
    obtain ⟨d, hd⟩ : ∃ d : Array (Tt W T), d.toList.map Tt.t = ts := ⟨dl.toArray, hdl⟩
    have hds : d.size = ts.length := by rw [← hd, List.length_map, Array.length_toList]
    have hfm : ∀ l : List (Tt W T), l.flatMap Tt.enc = (l.map Tt.t).flatMap Tn.cells := fun l => by rw [List.flatMap_map]; rfl
    have h4 : ∀ x : Tt W T, (Tt.enc x).length = 4 := fun _ => rfl
    have hget : ∀ (d : Array (Tt W T)) j, j < d.size * 4 → (d.toList.flatMap Tt.enc)[j]? = some ((Go.Sort.flatK Tt.enc 4 d)[j]!) := fun d j hj => by
      rw [flat_get Tt.enc h4 d.toList j (by simpa using hj), Go.Sort.get_flatK _ _ _ _ hj]
      congr 3
      rw [List.getElem!_eq_getElem?_getD, Array.getElem!_eq_getD, Array.getD_eq_getD_getElem?, Array.getElem?_toList]
    have hH : Go.Sort.HoldsK Tt.enc 4 W g 0 d := fun j hj => by
      rw [Go.Sort.size_flatK] at hj
      refine ⟨?_, four_frozen hg _⟩
      have e1 := hget d j hj
      rw [hfm, hd, ← hct, List.getElem?_take_of_lt (by omega)] at e1
      rw [Nat.zero_add, cell_of_row W g j cur 30 (0, 0) hg]
      simpa using e1
    have hC := AnyQ.slices_SortFunc (P := Tryz.prog) Tryz.sortF 4 Tryz.isAgg30 Tryz.sizeOf30 Tt.enc h4 (fun x v hv => tn_one1 x.1 v hv) Tt.cf (swo W T) 15 #[] g 0 c d W (enters_of Tryz.func15 (by kernel_rfl) rfl) (cmp_lays W T g d.size (fun b hb' => (hT b hb').2)) hH hglt (by omega)
    rw [hds] at hC
    refine Calls.mono hC ?_
    rintro e w' ⟨rfl, d', n, os, ⟨hp1, _, hp3⟩, hsd, rfl⟩
    have hlen' : (d'.toList.map Tt.t).length = ts.length := by rw [List.length_map, Array.length_toList, hp1, hds]
    have hkeep : ∀ b, b < W.heap.size → b ≠ g → (sortWorldK Tt.enc 4 W g 0 n d' os).heap[b]? = W.heap[b]? := fun b h1 h2 => heap_sortWorld _ _ _ _ _ _ _ h1 h2
    have hsz := size_sortWorld Tt.enc 4 W g n d' os
    refine ⟨rfl, d'.toList.map Tt.t, ?_, ?_, ?_, ?_⟩
    · unfold RowT
      rw [hlen']
      refine ⟨⟨?_, .inr ⟨g, c, _, rfl, hb, heap_sortWorld_own _ _ _ _ _ _ _ hg, hnc, hcm, ?_, ?_⟩⟩, ?_⟩
      · rw [tn_cells_len, hlen']
      · rw [← hcs]; simp [Go.Sort.putCells]
      · apply List.ext_getElem?
        intro j
        rw [← hfm]
        by_cases hj : j < ts.length * 4
        · rw [List.getElem?_take_of_lt hj, hget d' j (by rw [hp1, hds]; exact hj), Array.getElem?_toList]
          have hjc : j < cur.size := by rw [hcs]; omega
          simp only [Go.Sort.putCells, Array.getElem?_mapIdx, Array.getElem?_eq_getElem hjc, Option.map_some, Go.Sort.size_flatK, Nat.zero_le, true_and, Nat.zero_add, Nat.sub_zero, id]
          rw [if_pos (by rw [hp1, hds]; exact hj)]
        · rw [List.getElem?_eq_none (by rw [List.length_take]; omega), List.getElem?_eq_none (by rw [hfm, tn_cells_len, hlen']; omega)]
      · intro t' ht'
        obtain ⟨x, hx, rfl⟩ := List.mem_map.1 ht'
        exact RtV.to (fun b hb' => ⟨⟨(hT b hb').1, Nat.lt_of_lt_of_le (hT b hb').2.1 hsz, fun e => (hT b hb').2.2 (by simpa [Value.ownBlock] using e)⟩, hkeep b (hT b hb').2.1 (hT b hb').2.2⟩) _ x.2
    · have e1 : d'.extract 0 d.size = d' := by rw [← hp1]; exact Array.extract_size
      have e2 : d.extract 0 d.size = d := Array.extract_size
      rw [← hds, e1, e2] at hp3
      have := hp3.map Tt.t
      rwa [hd] at this
    · unfold Sorted
      rw [List.pairwise_iff_getElem]
      intro i j hi hj hij
      simp only [List.length_map, Array.length_toList] at hi hj
      have h1 := hsd i j (Nat.zero_le _) hij (by rw [← hds, ← hp1]; exact hj)
      simp only [List.getElem_map, Array.getElem_toList]
      rw [getElem!_pos d' j hj, getElem!_pos d' i hi] at h1
      unfold ltOf Tt.cf at h1
      have h2 : cmp (d'[i]).t.x (d'[j]).t.x = - cmp (d'[j]).1.x (d'[i]).1.x := cmp_neg (d'[j]).1.x (d'[i]).1.x
      simp only [decide_eq_false_iff_not] at h1
      omega
    · refine ⟨rfl, rfl, rfl, hsz, fun b hb' => hkeep b (by omega) (by omega)⟩
end Go.Proofs.YtijcjknaphboeaaGreatDoor
