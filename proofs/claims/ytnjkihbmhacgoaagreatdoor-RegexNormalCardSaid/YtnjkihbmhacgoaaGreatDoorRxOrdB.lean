/-
  THE WALK of slices.CompactFunc at a row of expressions: neighbours that are equal are left once.
  THE WALK of slices.CompactFunc at a row of expressions: neighbours that are equal are left once.
  THE WALK of inOrder: a row of expressions of any length put in order, each once.
-/
import Derived.Test.YtnjkihbmhacgoaaGreatDoorRxForm
import Derived.Deep.MidRow
import Derived.Lib.SliceRun
import Derived.Test.YtnjkihbmhacgoaaGreatDoorRxNormal
namespace Go.Proofs.YtnjkihbmhacgoaaGreatDoor
open Go.RowKit

/-- trees that lie one behind the other in a block of which no other tree is -/
def Arr (w : World) (g n : Nat) (T : Nat → Prop) (ts : List Tn) : Prop :=
  ts.length = n ∧ w.rangeAt g 0 (ts.flatMap Tn.cells) ∧ (∀ i, w.frozen? ⟨g, i, none⟩ = false) ∧ (∀ t ∈ ts, RtV w T t.x t.val) ∧ ∀ b, T b → b ≠ g ∧ b < w.heap.size

theorem tns_get (ts : List Tn) : ∀ (j : Nat) (hj : j < ts.length) (i : Nat), i < 4 → (ts.flatMap Tn.cells)[j * 4 + i]? = ts[j].cells[i]? := by
  induction ts with
  | nil => intro j hj; simp at hj
  | cons t ts ih =>
    intro j hj i hi
    rw [List.flatMap_cons]
    have hl : t.cells.length = 4 := rfl
    cases j with
    | zero => rw [List.getElem?_append_left (by rw [hl]; omega)]; simp
    | succ j =>
      rw [List.getElem?_append_right (by rw [hl]; omega), hl, show (j + 1) * 4 + i - 4 = j * 4 + i by omega]
      exact ih j (by simpa using hj) i hi

theorem Arr.at {w : World} {g n : Nat} {T : Nat → Prop} {ts : List Tn} (h : Arr w g n T ts) {j : Nat} (hj : j < ts.length) :
    w.cell? ⟨g, j * 4, none⟩ = some (.int .i64 ts[j].x.kind) ∧ w.cell? ⟨g, j * 4 + 1, none⟩ = some (.int .u8 ts[j].x.lo) ∧ w.cell? ⟨g, j * 4 + 2, none⟩ = some (.int .u8 ts[j].x.hi) ∧ w.cell? ⟨g, j * 4 + 3, none⟩ = some (.slice ts[j].A ts[j].x.kids.length ts[j].c) := by
  have h1 : ∀ i v, i < 4 → ts[j].cells[i]? = some v → w.cell? ⟨g, j * 4 + i, none⟩ = some v := fun i v hi hv => by
    have := h.2.1 (j * 4 + i) v (by rw [tns_get ts j hj i hi]; exact hv)
    rwa [Nat.zero_add] at this
  exact ⟨h1 0 _ (by omega) rfl, h1 1 _ (by omega) rfl, h1 2 _ (by omega) rfl, h1 3 _ (by omega) rfl⟩
theorem Arr.tree {w : World} {g n : Nat} {T : Nat → Prop} {ts : List Tn} (h : Arr w g n T ts) {j : Nat} (hj : j < ts.length) : RtV w T ts[j].x (rxv ts[j].x.kind ts[j].x.lo ts[j].x.hi ts[j].A ts[j].x.kids.length ts[j].c) := h.2.2.2.1 _ (List.getElem_mem hj)
theorem Arr.lo {w : World} {g n : Nat} {T : Nat → Prop} {ts : List Tn} (h : Arr w g n T ts) : SOk T w.heap.size := fun b hb => (h.2.2.2.2 b hb).2

/-- across what leaves the block and the trees' blocks as they lay -/
theorem Arr.below {w w' : World} {g n : Nat} {T : Nat → Prop} {ts : List Tn} (h : Arr w g n T ts) (hg : g < w.heap.size) (hb : Below w.heap.size w w') : Arr w' g n T ts :=
  ⟨h.1, fun j v hv => (World.cell?_of_block (hb.block g hg)).trans (h.2.1 j v hv), fun i => (World.frozen?_of_block (hb.block g hg)).trans (h.2.2.1 i), fun t ht => RtV.to (fun b hb' => ⟨hb', hb.block b (h.2.2.2.2 b hb').2⟩) _ (h.2.2.2.1 t ht), fun b hb' => ⟨(h.2.2.2.2 b hb').1, Nat.lt_of_lt_of_le (h.2.2.2.2 b hb').2 hb.size⟩⟩

theorem heap_setCells_other (g : Nat) : ∀ (vs : List Value) (o : Nat) (w : World) (b : Nat), b ≠ g → (w.setCells g o vs).heap[b]? = w.heap[b]?
  | [], _, _, _, _ => rfl
  | v :: r, o, w, b, hb => by
    rw [World.setCells, heap_setCells_other g r (o + 1) _ b hb]
    exact Below.heap_setCell _ _ _ b hb
theorem size_setCells (g : Nat) : ∀ (vs : List Value) (o : Nat) (w : World), (w.setCells g o vs).heap.size = w.heap.size
  | [], _, _ => rfl
  | v :: r, o, w => by rw [World.setCells, size_setCells g r (o + 1) _]; simp [World.setCell]
theorem below_setCells (g : Nat) {n : Nat} (hg : n ≤ g) : ∀ (vs : List Value) (o : Nat) (a w : World), Below n a w → Below n a (w.setCells g o vs)
  | [], _, _, _, h => h
  | v :: r, o, a, w, h => by
    rw [World.setCells]
    exact below_setCells g hg r (o + 1) a _ (h.setCell (p := ⟨g, o, none⟩) hg v)

/-- one of them stored at another's place -/
theorem Arr.set {w : World} {g n : Nat} {T : Nat → Prop} {ts : List Tn} (h : Arr w g n T ts) {k : Nat} (hk : k < ts.length) {t : Tn} (ht : RtV w T t.x t.val) : Arr (w.setCells g (k * 4) t.cells) g n T (ts.set k t) := by
  obtain ⟨h1, h2, h3, h4, h5⟩ := h
  have hs : ts = ts.take k ++ ts[k] :: ts.drop (k + 1) := by rw [← List.drop_eq_getElem_cons hk, List.take_append_drop]
  have hset : ts.set k t = ts.take k ++ t :: ts.drop (k + 1) := List.set_eq_take_append_cons_drop .. |>.trans (by rw [if_pos hk])
  have hp : (ts.take k).length = k := List.length_take_of_le (by omega)
  have hkeep : ∀ (x : Rx) (v : Value), RtV w T x v → RtV (w.setCells g (k * 4) t.cells) T x v := fun x v hv => RtV.to (fun b hb => ⟨hb, heap_setCells_other g _ _ _ b (h5 b hb).1⟩) x hv
  refine ⟨by rw [List.length_set, h1], ?_, fun i => ?_, fun u hu => ?_, fun b hb => ⟨(h5 b hb).1, by rw [size_setCells]; exact (h5 b hb).2⟩⟩
  · have hthere : w.there g (k * 4) t.cells.length := fun i hi => ⟨by
      have hi' : i < 4 := hi
      have := h2 (k * 4 + i) ts[k].cells[i] (by rw [tns_get ts k hk i hi']; exact List.getElem?_eq_getElem _)
      rw [Nat.zero_add] at this
      rw [this]; rfl, h3 _⟩
    intro j v hv
    rw [hset, List.flatMap_append, List.flatMap_cons] at hv
    have hpl : ((ts.take k).flatMap Tn.cells).length = k * 4 := by rw [tn_cells_len, hp]
    have hcl : t.cells.length = 4 := rfl
    rw [Nat.zero_add]
    rcases Nat.lt_or_ge j (k * 4) with hj | hj
    · rw [List.getElem?_append_left (by omega)] at hv
      have h6 := World.rangeAt_setCells_apart (b' := g) (o' := 0) (cs := (ts.take k).flatMap Tn.cells) (fun j' v' hv' => by
        refine h2 j' v' ?_
        rw [hs, List.flatMap_append, List.getElem?_append_left (List.getElem?_eq_some_iff.1 hv').1]
        exact hv') g (k * 4) t.cells (by omega)
      have := h6 j v hv
      rwa [Nat.zero_add] at this
    · rcases Nat.lt_or_ge j (k * 4 + 4) with hj2 | hj2
      · rw [List.getElem?_append_right (by omega), List.getElem?_append_left (by omega), hpl] at hv
        have := World.rangeAt_setCells_same w g (k * 4) t.cells hthere (j - k * 4) v hv
        rwa [show k * 4 + (j - k * 4) = j by omega] at this
      · rw [List.getElem?_append_right (by omega), List.getElem?_append_right (by omega), hpl, hcl] at hv
        have h6 := World.rangeAt_setCells_apart (b' := g) (o' := k * 4 + 4) (cs := (ts.drop (k + 1)).flatMap Tn.cells) (fun j' v' hv' => by
          have := h2 (k * 4 + 4 + j') v' (by
            conv => lhs; rw [hs]
            rw [List.flatMap_append, List.flatMap_cons, List.getElem?_append_right (by omega), List.getElem?_append_right (by rw [hpl]; show 4 ≤ _; omega), hpl]
            rw [show k * 4 + 4 + j' - k * 4 - ts[k].cells.length = j' by show k * 4 + 4 + j' - k * 4 - 4 = j'; omega]
            exact hv')
          rwa [Nat.zero_add] at this) g (k * 4) t.cells (by omega)
        have := h6 (j - k * 4 - 4) v hv
        rwa [show k * 4 + 4 + (j - k * 4 - 4) = j by omega] at this
  · rw [World.frozen?_setCells]; exact h3 i
  · rcases List.mem_or_eq_of_mem_set hu with hu | rfl
    · exact hkeep _ _ (h4 u hu)
    · exact hkeep _ _ ht

/-- all behind a place overwritten: what is ahead of it stays -/
theorem Arr.cut {w : World} {g n : Nat} {T : Nat → Prop} {ts : List Tn} (h : Arr w g n T ts) {k : Nat} (hk : k ≤ ts.length) (vs : List Value) : Arr (w.setCells g (k * 4) vs) g k T (ts.take k) := by
  obtain ⟨h1, h2, h3, h4, h5⟩ := h
  have hp : (ts.take k).length = k := List.length_take_of_le (by omega)
  refine ⟨hp, ?_, fun i => by rw [World.frozen?_setCells]; exact h3 i, fun u hu => RtV.to (fun b hb => ⟨hb, heap_setCells_other g _ _ _ b (h5 b hb).1⟩) _ (h4 u (List.mem_of_mem_take hu)), fun b hb => ⟨(h5 b hb).1, by rw [size_setCells]; exact (h5 b hb).2⟩⟩
  have hpl : ((ts.take k).flatMap Tn.cells).length = k * 4 := by rw [tn_cells_len, hp]
  refine World.rangeAt_setCells_apart (fun j v hv => h2 j v ?_) g (k * 4) vs (by omega)
  have hs : ts = ts.take k ++ ts.drop k := (List.take_append_drop k ts).symm
  rw [hs, List.flatMap_append, List.getElem?_append_left (List.getElem?_eq_some_iff.1 hv).1]
  exact hv

theorem Arr.list {w : World} {g n : Nat} {T : Nat → Prop} {ts : List Tn} (h : Arr w g n T ts) {S : Nat → Prop} (hg : S g) (hS : ∀ b, T b → S b) : RtL w S (ts.map Tn.x) (some ⟨g, 0, none⟩) :=
  rtl_of_cells hg ts 0 (fun j u hj => h.2.1 j u hj) (fun t ht => (h.2.2.2.1 t ht).sub hS)
end Go.Proofs.YtnjkihbmhacgoaaGreatDoor

namespace Go.Proofs.YtnjkihbmhacgoaaGreatDoor
open Go.RowKit

/-- what clear stores -/
def zs (n : Nat) : List Value := (Builtin.zeroCells #[.int .i64 0, .int .u8 0, .int .u8 0, .slice none 0 0] n).toList
theorem run_clear_rx (w : World) (ty : TypeId) (b o n c : Nat) (hn : 0 < n) (hc : w.there b o (n * 4)) :
    (Builtin.clear_ #[28] ty #[.slice (some ⟨b, o, none⟩) n c]).run Tryz.prog w = .ok (.tuple #[]) (w.setCells b o (zs n)) := by
  have hv : (zeroValue 30).run Tryz.prog w = .ok (.agg #[.int .i64 0, .int .u8 0, .int .u8 0, .slice none 0 0]) w := by kernel_rfl
  have hl : (zs n).length = n * 4 := by simp [zs, Builtin.zeroCells]
  have hone : ∀ v ∈ zs n, v.oneCell' = true := fun v hv => by
    simp only [zs, Builtin.zeroCells, Array.toList_map, List.mem_map] at hv
    obtain ⟨i, _, rfl⟩ := hv
    have h4 : i % 4 = 0 ∨ i % 4 = 1 ∨ i % 4 = 2 ∨ i % 4 = 3 := by omega
    show (#[Value.int .i64 0, .int .u8 0, .int .u8 0, .slice none 0 0][i % 4]!).oneCell' = true
    rcases h4 with h | h | h | h <;> rw [h] <;> rfl
  have hst := run_storeCells_cells (P := Tryz.prog) b o (zs n) 0 w (fun j hj => (hc j (by omega)).1) (fun j hj => (hc j (by omega)).2) hone
  simp only [Nat.add_zero] at hst
  obtain ⟨m, rfl⟩ : ∃ m, n = m + 1 := ⟨n - 1, by omega⟩
  have hst2 : (storeCells ⟨b, o, none⟩ (Builtin.zeroCells (#[Value.int .i64 0, .int .u8 0, .int .u8 0, .slice none 0 0]) (m + 1)).toList 0).run Tryz.prog w = .ok () (w.setCells b o (zs (m + 1))) := hst
  simp [Builtin.clear_, run_underlying Tryz.underlying28, hv, Value.cells, hst2]

theorem set_take {ts : List Tn} {k : Nat} (hk : k < ts.length) (t : Tn) : ((ts.set k t).map Tn.x).take (k + 1) = (ts.map Tn.x).take k ++ [t.x] := by
  rw [← List.map_take, ← List.map_take, List.take_succ_eq_append_getElem (by rw [List.length_set]; exact hk), List.getElem_set_self, List.take_set_of_le (Nat.le_refl _), List.map_append]
  rfl

set_option maxHeartbeats 1000000 in
set_option maxRecDepth 100000 in
theorem compact_any (W : World) (base g n c : Nat) (T : Nat → Prop) (ts : List Tn) (hA : Arr W g n T ts) (hbg : base ≤ g) (hg : g < W.heap.size) (hn : n ≤ 1048576) (hnc : n ≤ c) :
    Calls Tryz.prog 61 #[.slice (some ⟨g, 0, none⟩) n c, .func (.func 45) #[] #[]] W fun e w' => ∃ k us, e = .returned (.slice (some ⟨g, 0, none⟩) k c) ∧ k ≤ c ∧ Arr w' g k T us ∧ us.map Tn.x = comp (ts.map Tn.x) ∧ Below base W w' := by
  have hlen := hA.1
  by_cases h2 : n < 2
  · have hsm := comp_one (ts.map Tn.x) (by rw [List.length_map]; omega)
    replace hA := Lib.hid hA
    replace hsm := Lib.hid hsm
    replace hlen := Lib.hid hlen
    have h1 : (n : Int) < 2 := by omega
    go_enter Tryz.func61, Tryz.ntmps61
    go_wp2_with fail
    go_ret
    exact ⟨n, ts, rfl, hnc, hA.out, hsm.out.symm, Below.refl _ _⟩
  · have h1 : ¬ (n : Int) < 2 := by omega
    replace hlen := Lib.hid hlen
    replace hA := Lib.hid hA
    go_enter Tryz.func61, Tryz.ntmps61
    go_wp2_with fail
    go_loopw [5] (fun u wr => ∃ k : Nat, k + 1 ≤ n ∧ u = .int .i64 ((k : Int) + 1) ∧ Hid (comp ((ts.map Tn.x).take (k + 1)) = (ts.map Tn.x).take (k + 1)) ∧ Below W.heap.size W wr) (fun u _ => n - (intOf u).toNat)
    case atStart => exact ⟨0, by omega, rfl, Lib.hid (comp_one _ (by rw [List.length_take]; omega)), Below.refl _ _⟩
    case round =>
      obtain ⟨k, hk, rfl, hcmp, hW⟩ := hrel
      have hsz := hW.size
      by_cases hlt : k + 1 < n
      · have hAr := hA.out.below hg hW
        have hk1 : k + 1 < ts.length := by rw [hlen.out]; exact hlt
        have hk0 : k < ts.length := by omega
        have hstep := Lib.hid (comp_take (ts.map Tn.x) k (by rw [List.length_map]; exact hk1))
        have htk := Lib.hid (show (ts.map Tn.x).take (k + 2) = (ts.map Tn.x).take (k + 1) ++ [ts[k + 1].x] from by rw [List.take_succ_eq_append_getElem (i := k + 1) (by rw [List.length_map]; exact hk1), List.getElem_map])
        simp only [List.getElem_map] at hstep
        have hAW := Lib.hid fun W' (hWW : Below wr.heap.size wr W') => hAr.below (by omega) hWW
        have HS := Lib.hid fun W' (hWW : Below wr.heap.size wr W') => (show _ ∧ _ from ⟨(hAr.below (by omega) hWW).at hk1, (hAr.below (by omega) hWW).at hk0⟩)
        have hC : ∀ W', Below wr.heap.size wr W' → Calls Tryz.prog 45 #[rxv ts[k + 1].x.kind ts[k + 1].x.lo ts[k + 1].x.hi ts[k + 1].A ts[k + 1].x.kids.length ts[k + 1].c, rxv ts[k].x.kind ts[k].x.lo ts[k].x.hi ts[k].A ts[k].x.kids.length ts[k].c] W' fun e w' => e = .returned (.bool (cmp ts[k + 1].x ts[k].x == 0)) ∧ Below W'.heap.size W' w' := fun W' hWW =>
          equal_any _ _ _ _ W' (((hAr.below (by omega) hWW).tree hk1).lo (hAr.below (by omega) hWW).lo) (((hAr.below (by omega) hWW).tree hk0).lo (hAr.below (by omega) hWW).lo)
        have hE0 := HS.out wr (Below.refl _ _)
        clear hAr
        generalize hcv : cmp ts[k + 1].x ts[k].x = cv at hC hstep
        clear hcv
        generalize ts[k + 1].x.kind = xk at *
        generalize ts[k + 1].x.lo = xl at *
        generalize ts[k + 1].x.hi = xh at *
        generalize ts[k + 1].x.kids.length = xn at *
        generalize ts[k + 1].A = xA at *
        generalize ts[k + 1].c = xc at *
        generalize ts[k].x.kind = yk at *
        generalize ts[k].x.lo = yl at *
        generalize ts[k].x.hi = yh at *
        generalize ts[k].x.kids.length = yn at *
        generalize ts[k].A = yA at *
        generalize ts[k].c = yc at *
        obtain ⟨⟨e0, e1, e2, e3⟩, p0, p1, p2, p3⟩ := hE0
        unfold rxv at hC
        have hd : Below wr.heap.size wr wr.drew := (Below.refl _ _).drew
        clear e0 e1 e2 e3 p0 p1 p2 p3
        have HT := Lib.hid fun W' (hWW : Below wr.heap.size wr W') => (show W'.cell? ⟨g, (k + 1) * 4, none⟩ = some (.int .i64 xk) ∧ W'.cell? ⟨g, (k + 1) * 4 + 1, none⟩ = some (.int .u8 xl) ∧ W'.cell? ⟨g, (k + 1) * 4 + 2, none⟩ = some (.int .u8 xh) ∧ W'.cell? ⟨g, (k + 1) * 4 + 3, none⟩ = some (.slice xA xn xc) ∧ W'.cell? ⟨g, k * 4, none⟩ = some (.int .i64 yk) ∧ W'.cell? ⟨g, k * 4 + 1, none⟩ = some (.int .u8 yl) ∧ W'.cell? ⟨g, k * 4 + 2, none⟩ = some (.int .u8 yh) ∧ W'.cell? ⟨g, k * 4 + 3, none⟩ = some (.slice yA yn yc) from by
          obtain ⟨⟨e0, e1, e2, e3⟩, p0, p1, p2, p3⟩ := HS.out W' hWW
          exact ⟨e0, e1, e2, e3, p0, p1, p2, p3⟩)
        have q1 : (0 : Int) ≤ (k : Int) + 1 := by omega
        have q2 : (k : Int) + 1 < (n : Int) := by omega
        have q3 : (0 : Int) ≤ (k : Int) := by omega
        have q4 : (k : Int) < (n : Int) := by omega
        have q5 : ((k : Int) + 1).toNat = k + 1 := by omega
        have q6 : IntKind.i64.wrap ((k : Int) + 1 - 1) = (k : Int) := by rw [show (k : Int) + 1 - 1 = (k : Int) by omega]; exact IntWalk.i64_in _ (by omega)
        have q7 : IntKind.i64.wrap (k : Int) = (k : Int) := IntWalk.i64_in _ (by omega)
        by_cases hz : cv = 0
        · subst hz
          go_wp2_with fail
          go_region_held3 (fun W => W.cell? ⟨g, (k + 1) * 4, none⟩ = some (.int .i64 xk) ∧ W.cell? ⟨g, (k + 1) * 4 + 1, none⟩ = some (.int .u8 xl) ∧ W.cell? ⟨g, (k + 1) * 4 + 2, none⟩ = some (.int .u8 xh) ∧ W.cell? ⟨g, (k + 1) * 4 + 3, none⟩ = some (.slice xA xn xc) ∧ W.cell? ⟨g, k * 4, none⟩ = some (.int .i64 yk) ∧ W.cell? ⟨g, k * 4 + 1, none⟩ = some (.int .u8 yl) ∧ W.cell? ⟨g, k * 4 + 2, none⟩ = some (.int .u8 yh) ∧ W.cell? ⟨g, k * 4 + 3, none⟩ = some (.slice yA yn yc))
            (first | exact HT.out _ hd | exact HT.out _ (by assumption))
            (first | (go_at_call 45; ((with_reducible refine Calls.mono (hC _ hd) ?_)); rintro e' w1 ⟨rfl, hww1⟩; have hB9 : Below wr.heap.size wr w1 := hd.trans (hww1.mono (by simp))))
          go_wp2_with fail
          obtain ⟨L, hL⟩ : ∃ L, L = n - (k + 1) := ⟨_, rfl⟩
          rw [← hL]
          have hLn : L + (k + 1) = n := by omega
          clear hL
          have hw1 : Below base W w1 := (hW.trans (hB9.mono hsz)).mono (by omega)
          have hstart := Lib.hid (show (ts.map Tn.x).take (k + 1) = comp ((ts.map Tn.x).take (k + 1 + (0 + 1))) from by
            show _ = comp ((ts.map Tn.x).take (k + 2))
            rw [hstep.out, if_pos (by trivial), List.append_nil, hcmp.out])
          have hgw1 : g < w1.heap.size := by have := hB9.size; omega
          have hA1 := Lib.hid (hAW.out w1 hB9)
          clear HS HT hd hstep htk hC hB9 hAW hww1
          go_loopw [5, 7] (fun u v wr => ∃ (q m : Nat) (us : List Tn), m + 1 ≤ L ∧ u = .int .i64 (q : Int) ∧ v = .int .i64 ((m : Int) + 1) ∧ q ≤ k + 1 + m ∧ Hid (Arr wr g n T us) ∧ Hid ((us.map Tn.x).take q = comp ((ts.map Tn.x).take (k + 1 + (m + 1)))) ∧ Hid (∀ j, k + 1 + m ≤ j → us[j]? = ts[j]?) ∧ Below base W wr ∧ g < wr.heap.size) (fun _ v _ => L - (intOf v).toNat)
          case atStart => exact ⟨k + 1, 0, ts, by omega, by go_num, by go_num, by omega, hA1, hstart, Lib.hid (fun _ _ => rfl), hw1, hgw1⟩
          case round =>
            clear hA1 hstart hw1 hgw1 hW hsz
            obtain ⟨q, m, us, hm, rfl, rfl, hq, hA2, hcq, hsame, hW2, hg2⟩ := hrel
            obtain ⟨wr2, rfl⟩ : ∃ wo, wo = wr := ⟨_, rfl⟩
            by_cases hlt2 : m + 1 < L
            · have hul := hA2.out.1
              have hp1 : k + 1 + (m + 1) < us.length := by omega
              have hp0 : k + 1 + m < us.length := by omega
              have hqu : q < us.length := by omega
              have hs1 : ts[k + 1 + (m + 1)]'(by rw [hlen.out]; omega) = us[k + 1 + (m + 1)] := by have := hsame.out (k + 1 + (m + 1)) (by omega); rw [List.getElem?_eq_getElem hp1, List.getElem?_eq_getElem (by rw [hlen.out]; omega)] at this; exact (Option.some.inj this).symm
              have hs0 : ts[k + 1 + m]'(by rw [hlen.out]; omega) = us[k + 1 + m] := by have := hsame.out (k + 1 + m) (by omega); rw [List.getElem?_eq_getElem hp0, List.getElem?_eq_getElem (by rw [hlen.out]; omega)] at this; exact (Option.some.inj this).symm
              have hstep2 := Lib.hid (show comp ((ts.map Tn.x).take (k + 1 + (m + 1 + 1))) = comp ((ts.map Tn.x).take (k + 1 + (m + 1))) ++ (if cmp us[k + 1 + (m + 1)].x us[k + 1 + m].x = 0 then [] else [us[k + 1 + (m + 1)].x]) from by
                have := comp_take (ts.map Tn.x) (k + 1 + m) (by rw [List.length_map, hlen.out]; omega)
                simp only [List.getElem_map] at this
                rw [← hs1, ← hs0]
                exact this)
              clear hs1 hs0
              have hA3 := Lib.hid fun W' (hWW : Below wr2.heap.size wr2 W') => hA2.out.below hg2 hWW
              have HS2 := Lib.hid fun W' (hWW : Below wr2.heap.size wr2 W') => (show _ ∧ _ from ⟨(hA2.out.below hg2 hWW).at hp1, (hA2.out.below hg2 hWW).at hp0⟩)
              have HO := Lib.hid fun W' (hWW : Below wr2.heap.size wr2 W') => (hA2.out.below hg2 hWW).at hqu
              have HSet := Lib.hid fun W' (hWW : Below wr2.heap.size wr2 W') => (hA2.out.below hg2 hWW).set hqu ((hA2.out.below hg2 hWW).tree hp1)
              have hC2 : ∀ W', Below wr2.heap.size wr2 W' → Calls Tryz.prog 45 #[rxv us[k + 1 + (m + 1)].x.kind us[k + 1 + (m + 1)].x.lo us[k + 1 + (m + 1)].x.hi us[k + 1 + (m + 1)].A us[k + 1 + (m + 1)].x.kids.length us[k + 1 + (m + 1)].c, rxv us[k + 1 + m].x.kind us[k + 1 + m].x.lo us[k + 1 + m].x.hi us[k + 1 + m].A us[k + 1 + m].x.kids.length us[k + 1 + m].c] W' fun e w' => e = .returned (.bool (cmp us[k + 1 + (m + 1)].x us[k + 1 + m].x == 0)) ∧ Below W'.heap.size W' w' := fun W' hWW =>
                equal_any _ _ _ _ W' (((hA2.out.below hg2 hWW).tree hp1).lo (hA2.out.below hg2 hWW).lo) (((hA2.out.below hg2 hWW).tree hp0).lo (hA2.out.below hg2 hWW).lo)
              have hnx := Lib.hid (show (us.set q us[k + 1 + (m + 1)]).map Tn.x = (us.set q us[k + 1 + (m + 1)]).map Tn.x ∧ ((us.set q us[k + 1 + (m + 1)]).map Tn.x).take (q + 1) = (us.map Tn.x).take q ++ [us[k + 1 + (m + 1)].x] from ⟨rfl, set_take hqu _⟩)
              have hns := Lib.hid (show ∀ j, k + 1 + (m + 1) ≤ j → (us.set q us[k + 1 + (m + 1)])[j]? = ts[j]? from fun j hj => by rw [List.getElem?_set_ne (by omega)]; exact hsame.out j (by omega))
              have hfz : ∀ i, (wr2.frozen? ⟨g, i, none⟩) = false := hA2.out.2.2.1
              replace hfz := Lib.hid hfz
              generalize hcv2 : cmp us[k + 1 + (m + 1)].x us[k + 1 + m].x = cv2 at hC2 hstep2
              clear hcv2
              generalize us[k + 1 + (m + 1)] = ta at *
              generalize us[k + 1 + m] = tb at *
              generalize us[q] = to at *
              clear hp1 hp0 hqu hul
              obtain ⟨⟨ak, al, ah, aks⟩, aA, ac⟩ := ta
              obtain ⟨⟨bk, bl, bh, bks⟩, bA, bc⟩ := tb
              simp only [Rx.kind, Rx.lo, Rx.hi, Rx.kids] at HS2 hC2 HSet
              generalize han : aks.length = an at HS2 hC2
              generalize hbn : bks.length = bn at HS2 hC2
              unfold rxv at hC2
              have hd2 : Below wr2.heap.size wr2 wr2.drew := (Below.refl _ _).drew
              have HT2 := Lib.hid fun W' (hWW : Below wr2.heap.size wr2 W') => (show W'.cell? ⟨g, (k + 1) * 4 + (m + 1) * 4, none⟩ = some (.int .i64 ak) ∧ W'.cell? ⟨g, (k + 1) * 4 + (m + 1) * 4 + 1, none⟩ = some (.int .u8 al) ∧ W'.cell? ⟨g, (k + 1) * 4 + (m + 1) * 4 + 2, none⟩ = some (.int .u8 ah) ∧ W'.cell? ⟨g, (k + 1) * 4 + (m + 1) * 4 + 3, none⟩ = some (.slice aA an ac) ∧ W'.cell? ⟨g, (k + 1) * 4 + m * 4, none⟩ = some (.int .i64 bk) ∧ W'.cell? ⟨g, (k + 1) * 4 + m * 4 + 1, none⟩ = some (.int .u8 bl) ∧ W'.cell? ⟨g, (k + 1) * 4 + m * 4 + 2, none⟩ = some (.int .u8 bh) ∧ W'.cell? ⟨g, (k + 1) * 4 + m * 4 + 3, none⟩ = some (.slice bA bn bc) from by
                obtain ⟨⟨e0, e1, e2, e3⟩, p0, p1, p2, p3⟩ := HS2.out W' hWW
                rw [Nat.add_mul (k + 1) (m + 1)] at e0 e1 e2 e3
                rw [Nat.add_mul (k + 1) m] at p0 p1 p2 p3
                exact ⟨e0, e1, e2, e3, p0, p1, p2, p3⟩)
              have r1 : (0 : Int) ≤ (m : Int) + 1 := by omega
              have r2 : (m : Int) + 1 < (L : Int) := by omega
              have r3 : (0 : Int) ≤ (m : Int) := by omega
              have r4 : (m : Int) < (L : Int) := by omega
              have r5 : ((m : Int) + 1).toNat = m + 1 := by omega
              have r6 : IntKind.i64.wrap ((m : Int) + 1 - 1) = (m : Int) := by rw [show (m : Int) + 1 - 1 = (m : Int) by omega]; exact IntWalk.i64_in _ (by omega)
              have r7 : IntKind.i64.wrap (m : Int) = (m : Int) := IntWalk.i64_in _ (by omega)
              by_cases hz2 : cv2 = 0
              · subst hz2
                go_wp2_with fail
                go_region_held3 (fun W => W.cell? ⟨g, (k + 1) * 4 + (m + 1) * 4, none⟩ = some (.int .i64 ak) ∧ W.cell? ⟨g, (k + 1) * 4 + (m + 1) * 4 + 1, none⟩ = some (.int .u8 al) ∧ W.cell? ⟨g, (k + 1) * 4 + (m + 1) * 4 + 2, none⟩ = some (.int .u8 ah) ∧ W.cell? ⟨g, (k + 1) * 4 + (m + 1) * 4 + 3, none⟩ = some (.slice aA an ac) ∧ W.cell? ⟨g, (k + 1) * 4 + m * 4, none⟩ = some (.int .i64 bk) ∧ W.cell? ⟨g, (k + 1) * 4 + m * 4 + 1, none⟩ = some (.int .u8 bl) ∧ W.cell? ⟨g, (k + 1) * 4 + m * 4 + 2, none⟩ = some (.int .u8 bh) ∧ W.cell? ⟨g, (k + 1) * 4 + m * 4 + 3, none⟩ = some (.slice bA bn bc))
                (first | exact HT2.out _ hd2 | exact HT2.out _ (by assumption))
                (first | (go_at_call 45; ((with_reducible refine Calls.mono (hC2 _ hd2) ?_)); rintro e' w2 ⟨rfl, hww2⟩; have hB2 : Below wr2.heap.size wr2 w2 := hd2.trans (hww2.mono (by simp))))
                go_wp2_with fail
                go_roundw
                case rel => exact ⟨q, m + 1, us, by omega, rfl, by go_num, by omega, Lib.hid (hA3.out _ hB2), Lib.hid (by rw [hstep2.out, if_pos (by trivial), List.append_nil, hcq.out]), Lib.hid (fun j hj => hsame.out j (by omega)), hW2.trans (hB2.mono (by omega)), Nat.lt_of_lt_of_le hg2 hB2.size⟩
                case measure => simp [intOf]; omega
              · have hz3 : (cv2 == 0) = false := by simpa using hz2
                go_wp2_with fail
                go_region_held3 (fun W => W.cell? ⟨g, (k + 1) * 4 + (m + 1) * 4, none⟩ = some (.int .i64 ak) ∧ W.cell? ⟨g, (k + 1) * 4 + (m + 1) * 4 + 1, none⟩ = some (.int .u8 al) ∧ W.cell? ⟨g, (k + 1) * 4 + (m + 1) * 4 + 2, none⟩ = some (.int .u8 ah) ∧ W.cell? ⟨g, (k + 1) * 4 + (m + 1) * 4 + 3, none⟩ = some (.slice aA an ac) ∧ W.cell? ⟨g, (k + 1) * 4 + m * 4, none⟩ = some (.int .i64 bk) ∧ W.cell? ⟨g, (k + 1) * 4 + m * 4 + 1, none⟩ = some (.int .u8 bl) ∧ W.cell? ⟨g, (k + 1) * 4 + m * 4 + 2, none⟩ = some (.int .u8 bh) ∧ W.cell? ⟨g, (k + 1) * 4 + m * 4 + 3, none⟩ = some (.slice bA bn bc))
                (first | exact HT2.out _ hd2 | exact HT2.out _ (by assumption))
                (first | (go_at_call 45; ((with_reducible refine Calls.mono (hC2 _ hd2) ?_)); rintro e' w2 ⟨rfl, hww2⟩; have hB2 : Below wr2.heap.size wr2 w2 := hd2.trans (hww2.mono (by simp))))
                obtain ⟨e0, e1, e2, e3, p0, p1, p2, p3⟩ := HT2.out _ hB2
                obtain ⟨o0, o1, o2, o3⟩ := HO.out _ hB2
                have hfz2 : ∀ i, w2.frozen? ⟨g, i, none⟩ = false := fun i => (World.frozen?_of_block (hB2.block g hg2)).trans (hfz.out i)
                have s1 : (0 : Int) ≤ (q : Int) := by omega
                have s2 : (q : Int) < (n : Int) := by omega
                go_wp2_with fail
                go_roundw
                case rel => exact ⟨q + 1, m + 1, us.set q ⟨.node ak al ah aks, aA, ac⟩, by omega, by go_num, by go_num, by omega, Lib.hid (by subst han; exact HSet.out _ hB2), Lib.hid (by rw [hnx.out.2, hstep2.out, if_neg hz2, hcq.out]), Lib.hid (fun j hj => hns.out j (by omega)), below_setCells g hbg [.int .i64 ak, .int .u8 al, .int .u8 ah, .slice aA an ac] (q * 4) _ _ (hW2.trans (hB2.mono (by omega))), by rw [show (((((w2.setCell ⟨g, q * 4, none⟩ (.int .i64 ak)).setCell ⟨g, q * 4 + 1, none⟩ (.int .u8 al)).setCell ⟨g, q * 4 + 2, none⟩ (.int .u8 ah)).setCell ⟨g, q * 4 + 3, none⟩ (.slice aA an ac)).heap.size) = w2.heap.size by simp [World.setCell]]; have := hB2.size; omega⟩
                case measure => simp [intOf]; omega
            · have hmL : m + 1 = L := by omega
              have hul := hA2.out.1
              have hthere : wr2.there g (q * 4) ((n - q) * 4) := fun i hi => ⟨by
                have hj : q + i / 4 < us.length := by omega
                have := hA2.out.2.1 ((q + i / 4) * 4 + i % 4) (us[q + i / 4].cells[i % 4]'(by show i % 4 < 4; omega)) (by rw [tns_get us _ hj _ (Nat.mod_lt _ (by omega))]; exact List.getElem?_eq_getElem _)
                rw [Nat.zero_add, show (q + i / 4) * 4 + i % 4 = q * 4 + i by omega] at this
                rw [this]; rfl, hA2.out.2.2.1 _⟩
              have hcl : ∀ ty, (Builtin.clear_ #[28] ty #[.slice (some ⟨g, q * 4, none⟩) (n - q) (c - q)]).run Tryz.prog wr2 = .ok (.tuple #[]) (wr2.setCells g (q * 4) (zs (n - q))) := fun ty => run_clear_rx wr2 ty g (q * 4) (n - q) (c - q) (by omega) hthere
              have hfin := Lib.hid (hA2.out.cut (k := q) (by omega) (zs (n - q)))
              have hcq2 := Lib.hid (show (us.take q).map Tn.x = comp (ts.map Tn.x) from by
                rw [List.map_take, hcq.out, List.take_of_length_le (by rw [List.length_map, hlen.out]; omega)])
              have s1 : (0 : Int) ≤ (q : Int) := by omega
              have s2 : (q : Int) ≤ (n : Int) := by omega
              have s3 : (q : Int) ≤ (c : Int) := by omega
              have hq2 : ¬ n - q = 0 := by omega
              clear hthere hsame hcq hul
              go_wp2_with (simp only [hcl])
              go_ret
              exact ⟨q, us.take q, rfl, by omega, hfin.out, hcq2.out, below_setCells g hbg _ _ _ _ hW2⟩
        · have hz2 : (cv == 0) = false := by simpa using hz
          go_wp2_with fail
          go_region_held3 (fun W => W.cell? ⟨g, (k + 1) * 4, none⟩ = some (.int .i64 xk) ∧ W.cell? ⟨g, (k + 1) * 4 + 1, none⟩ = some (.int .u8 xl) ∧ W.cell? ⟨g, (k + 1) * 4 + 2, none⟩ = some (.int .u8 xh) ∧ W.cell? ⟨g, (k + 1) * 4 + 3, none⟩ = some (.slice xA xn xc) ∧ W.cell? ⟨g, k * 4, none⟩ = some (.int .i64 yk) ∧ W.cell? ⟨g, k * 4 + 1, none⟩ = some (.int .u8 yl) ∧ W.cell? ⟨g, k * 4 + 2, none⟩ = some (.int .u8 yh) ∧ W.cell? ⟨g, k * 4 + 3, none⟩ = some (.slice yA yn yc))
            (first | exact HT.out _ hd | exact HT.out _ (by assumption))
            (first | (go_at_call 45; ((with_reducible refine Calls.mono (hC _ hd) ?_)); rintro e' w1 ⟨rfl, hww1⟩; have hB9 : Below wr.heap.size wr w1 := hd.trans (hww1.mono (by simp))))
          go_wp2_with fail
          go_roundw
          case rel => exact ⟨k + 1, by omega, by go_num, Lib.hid (by rw [hstep.out, if_neg hz, hcmp.out, htk.out]), hW.trans (hB9.mono hsz)⟩
          case measure => simp [intOf]; omega
      · have hkn : k + 1 = n := by omega
        have he := Lib.hid (show comp (ts.map Tn.x) = ts.map Tn.x from by have := hcmp.out; rw [hkn, List.take_of_length_le (by rw [List.length_map, hlen.out]; omega)] at this; exact this)
        go_wp2_with fail
        go_ret
        exact ⟨n, ts, rfl, hnc, hA.out.below hg hW, he.out.symm, hW.mono (by omega)⟩
end Go.Proofs.YtnjkihbmhacgoaaGreatDoor

namespace Go.Proofs.YtnjkihbmhacgoaaGreatDoor
open Go.RowKit

theorem arr_of_row {w : World} {base g c cap : Nat} {S : Nat → Prop} {ts : List Tn} {cur : Array Value} (h : RowT w base S 30 (.slice (some ⟨g, 0, none⟩) ts.length c) ts) (hg : w.heap[g]? = some (.cells cur 30 (0, 0))) (hct : cur.toList.take (ts.length * 4) = ts.flatMap Tn.cells) (_hcs : cur.size = cap) :
    Arr w g ts.length (Lay S w (.slice (some ⟨g, 0, none⟩) ts.length c)) ts := by
  refine ⟨rfl, fun j v hj => ?_, fun i => four_frozen hg i, h.2, fun b hb => ⟨fun e => hb.2.2 (by rw [e]; rfl), hb.2.1⟩⟩
  rw [Nat.zero_add, cell_of_row w g j cur 30 (0, 0) hg]
  rw [← hct, List.getElem?_take] at hj
  split at hj
  · simpa using hj
  · cases hj

theorem inOrder_any (l : List Rx) (hl : l.length ≤ 1048576) : ArrOk 42 ordR l := by
  by_cases h1 : l.length ≤ 1
  · exact inOrder_small l h1
  intro W base S A c ts hrow hts hS hb
  have hlen : ts.length = l.length := by rw [← hts, List.length_map]
  have hC := sort_any W base S A c ts hrow hS (by omega)
  clear hrow
  replace hts := Lib.hid hts
  replace hlen := Lib.hid hlen
  replace hC := Lib.hid hC
  have hK : ∀ (ts' : List Tn) (w1 : World), RowT w1 base S 30 (.slice A ts.length c) ts' ∧ ts'.Perm ts ∧ Sorted (ts'.map Tn.x) ∧ Below base W w1 → Calls Tryz.prog 61 #[.slice A ts.length c, .func (.func 45) #[] #[]] w1 fun e w' => ∃ A2 c2, e = .returned (.slice A2 (ordR l).length c2) ∧ (ordR l).length ≤ c2 ∧ (A2 = none → c2 = 0) ∧ RtL w' (Plus S base w'.heap.size) (ordR l) A2 ∧ Below base W w' := fun ts' w1 ⟨hrow', hp, hsd, hw1⟩ => by
    have hl2 : ts'.length = ts.length := hp.length_eq
    have hx := comp_sorted (l := l) (l' := ts'.map Tn.x) (fun z => by rw [← hts.out]; exact (hp.map Tn.x).mem_iff) hsd
    rw [← hl2] at hrow' ⊢
    rcases hrow'.1.2 with ⟨hv, h0⟩ | ⟨g, cap, cur, hv, hbg, hg, hnc, hcm, hcs, hct⟩
    · exact absurd h0 (by rw [hl2, hlen.out]; omega)
    · injection hv with e1 e2 e3
      subst e1 e3
      clear e2
      have hgl : g < w1.heap.size := (Array.getElem?_eq_some_iff.1 hg).1
      refine (compact_any w1 base g ts'.length c _ ts' (arr_of_row hrow' hg hct rfl) hbg hgl (by rw [hl2, hlen.out]; exact hl) hnc).mono ?_
      rintro e w2 ⟨k, us, rfl, hkc, hA2, hus, hw2⟩
      rw [hx] at hus
      have hk : k = (ordR l).length := by rw [← hA2.1, ← hus, List.length_map]
      subst hk
      refine ⟨_, _, rfl, hkc, (fun h => nomatch h), ?_, hw1.trans hw2⟩
      rw [← hus]
      exact hA2.list (.inr ⟨hbg, Nat.lt_of_lt_of_le hgl hw2.size⟩) (fun b hb => .inl hb.1)
  replace hK := Lib.hid hK
  go_enter Tryz.func42, Tryz.ntmps42
  go_wp2_with (first
    | (go_at_call 60; refine Calls.mono hC.out ?_; clear hC; rintro e w1 ⟨rfl, hs1⟩)
    | (go_at_call 61; obtain ⟨ts', hs1⟩ := hs1; refine Calls.mono (hK.out ts' _ hs1) ?_; clear hK hs1; rintro e w2 ⟨A2, c2, rfl, r1, r2, r3, r4⟩))
  go_ret
  exact ⟨A2, c2, rfl, r1, r2, r3, r4⟩
end Go.Proofs.YtnjkihbmhacgoaaGreatDoor
