/-
  THE WALK of hash.Bytes: for every label and every byte slice it returns 'bytesI', and nothing that lay has turned.
-/
import Derived.Test.YtkffpfnmjadpaaaSum
import Derived.Maps.AppendAt
namespace Go.Proofs.Ytkffpfnmjadpaaa
open Go.RowKit Go.Shelf
attribute [local go_sem] Oper.semAt_some

/-- make([]int, 0, n/8 + 2) -/
theorem make_words (n : Nat) (hn : n ≤ 140737488351232) (w : World) : ∃ cap M, M.size = cap ∧ cap ≤ maxLen ∧
    (Instr.makeSlice 22 (.int .i64 0) (.int .i64 ((n : Int) / 8 + 2))).run Try.prog w = .ok (.slice (some ⟨w.heap.size, 0, none⟩) 0 cap) (w.alloc (.cells M 3)) := by
  obtain ⟨i0, hi, hz0, hz1, hz2⟩ := info_parts info_int
  refine ⟨_, _, ?_, ?_, run_make (P := Try.prog) w 22 3 i0 (.int .i64 0) Try.underlying22 hi hz0 .i64 .i64 0 ((n : Int) / 8 + 2) (by decide) (by omega) (by rw [hz2]; omega) (by omega)⟩
  · rw [size_madeCells, hz1, Nat.mul_one]
  · unfold maxLen; omega

theorem KeepX.appended {S : Nat → Prop} {W w1 : World} {tmp : Obj} {row : Option Nat} {B : Nat} (v' : Value) (hS : ∀ b, S b → b < W.heap.size ∧ some b ≠ row ∧ b ≠ B) (hg : (W.alloc tmp).grownBy w1 row) :
    KeepX S W (w1.setCell ⟨B, 0, none⟩ v') := fun b hb => by
  obtain ⟨h1, h2, h3⟩ := hS b hb
  exact (Below.heap_setCell w1 _ v' b h3).trans ((hg.block b (by simp; omega) h2).trans (Below.heap_alloc W tmp b h1))

set_option maxRecDepth 100000 in
set_option maxHeartbeats 2000000 in
theorem Bytes_any (s : ByteArray) (A : Option Addr) (c : Nat) (zs : List Int) (w : World) (hs : s.size ≤ 140737488351232) (hz : zs.length ≤ 140737488351232) (hcap : zs.length ≤ c) (h8 : Bytes8 zs) (hr : RdI w w.heap.size .u8 A zs) :
    Calls Try.prog 23 #[.string s, .slice A zs.length c] w fun e w' => e = .returned (.int .u64 (bytesI (sb s) zs)) ∧ Below w.heap.size w w' := by
  obtain ⟨cap, M, hM, hcm, hmk⟩ := make_words zs.length hz w
  obtain ⟨i0, hi, hz0, hz1, hz2⟩ := info_parts info_int
  refine (callsIn_wide (n := 3)).1 ?_
  refine callsIn_of_wp_marks Try.func23 rfl trivial ?_ rfl
  simp only [Try.ntmps23, List.size_toArray, List.length_cons, List.length_nil, Nat.reduceAdd, Nat.reduceSub, Array.replicate_succ, Array.replicate_zero, List.push_toArray, List.append_toArray, List.nil_append, List.cons_append]
  have HM := Lib.hid hM
  clear hM
  gi_wp2_with (refine ⟨trivial, ?_⟩; gi_at_call 37; refine (callsIn_wide.2 (groups_any _ _ _ _)).mono ?_; rintro e w' ⟨rfl, rfl⟩)
  have bS := (Boxed.new (w.alloc (.cells M 3)) 22 (.slice (some ⟨w.heap.size, 0, none⟩) 0 cap)).alloc (.cells #[.slice A zs.length c] 24)
  have bB := Boxed.new ((w.alloc (.cells M 3)).alloc (.cells #[.slice (some ⟨w.heap.size, 0, none⟩) 0 cap] 22)) 24 (.slice A zs.length c)
  simp only [World.size_alloc] at bB bS
  have hrow0 := ((World.ownsRow_made (base := w.heap.size) (e := 3) (size := 1) w M cap (Nat.le_refl _) hcm (by rw [HM.out, Nat.mul_one])).alloc (.cells #[.slice (some ⟨w.heap.size, 0, none⟩) 0 cap] 22)).alloc (.cells #[.slice A zs.length c] 24)
  have hB0 : Below w.heap.size w (((w.alloc (.cells M 3)).alloc (.cells #[.slice (some ⟨w.heap.size, 0, none⟩) 0 cap] 22)).alloc (.cells #[.slice A zs.length c] 24)) :=
    (((Below.refl _ w).alloc (Nat.le_refl _) _).alloc (by simp) _).alloc (by simp; omega) _
  refine wpIn_rangeFunc_ownF rfl (by decide) (gf := 49) (lb := #[.pointer (some ⟨w.heap.size + 1 + 1, 0, none⟩)]) rfl trivial (enters_of Try.func49 (by kernel_rfl) rfl)
    (groups_stops 2 (by decide) (w.heap.size + 1 + 1) w.heap.size c A zs (fun b => b < w.heap.size ∨ b = w.heap.size + 1 + 1) hz hcap h8 _
      (by simp) (by simp; omega) (.inr rfl) (fun hne ad e => by
        rcases hr with h | ⟨b, o, e', hb, _⟩
        · exact absurd h hne
        · rw [e'] at e; cases e; exact .inl hb) bB.cell (hr.below hB0))
    KeepX.trans (fun W l o o' hl _ _ _ => KeepX.put (n := w.heap.size + 3) (by rintro b (h | rfl) <;> omega) W l o' (by simp at hl; omega)) (Below.refl _ _) (fun _ => rfl)
    (fun pre W => (∃ v, Boxed W (w.heap.size + 1) 22 v ∧ W.ownsRow w.heap.size 3 1 v pre.length ((pre.map wrap64).map (Value.int .i64)) ∧ True) ∧ Boxed W (w.heap.size + 1 + 1) 24 (.slice A zs.length c) ∧ Below w.heap.size w W)
    (fun _ _ _ => False)
    (OwnFrom.and (Own.from (holdsRow_own w.heap.size (w.heap.size + 1) 22 3 1 (fun pre : List Int => pre.length) (fun pre : List Int => (pre.map wrap64).map (Value.int .i64)) (fun _ _ => True)) _) (OwnFrom.and (Own.from (boxed_own _ _ _) _) (ownFrom_below (Nat.le_refl _) (by simp; omega))))
    (fun _ _ _ _ _ hs _ _ => hs)
    ⟨⟨_, bS, hrow0, trivial⟩, bB, hB0⟩
    (fun x => { tmps :=
        #[Value.string s, Value.slice A zs.length c, undef, undef, Value.int IntKind.u64 0,
          Value.pointer (some { block := w.heap.size + 1, off := 0 }), .int .u64 x, Value.slice A zs.length c,
          Value.int IntKind.i64 ↑zs.length, Value.int IntKind.i64 (↑zs.length / 8),
          Value.int IntKind.i64 (↑zs.length / 8 + 2), Value.slice (some { block := w.heap.size, off := 0 }) 0 cap,
          Value.slice A zs.length c,
          Value.func (Fn.func 49) #[] #[Value.pointer (some { block := w.heap.size + 1 + 1, off := 0 })], .int .u64 x, undef,
          undef, undef, undef, undef, undef, undef, undef, undef, undef, undef, undef], defers := [] }) ?assign ?body ?done ?stop
  case assign =>
    intro l x W K hK
    gi_wp2
    exact hK
  case body =>
    rintro l pre x W ⟨⟨v, hv, hrow, _⟩, hBx, hW⟩ hlt
    have hc := hv.cell
    have hsz := hW.size
    have hlt2 := hv.lt
    have hne := hBx.not_row (by decide) hrow
    gi_wp2_with (gi_at_builtin; refine wpListIn_append_own _ rfl _ _ 22 rfl w.heap.size 3 i0 (.int .i64 0) 1 8 Try.underlying22 hi hz0 hz1 hz2 rfl (by decide) _ _ _ rfl (hrow.alloc _) ⟨W.heap.size, 0, none⟩ 1 1 [.int .i64 (wrap64 x)] rfl rfl (cell_one_new _ _ _) (by simp [Value.oneCell']) (by unfold maxLen; omega) (by omega) (by simp; omega) ?_; intro v' w1 hown' hgrow _; obtain ⟨g', cap', rfl⟩ := ownsRow_succ hown'; obtain ⟨hv1, hv2, hr2, hk2, hb2⟩ := hv.appended (by decide) hrow hsz (Nat.le_succ _) hown' hgrow; have hc1 := hv1.cell; have hf1 := hv1.frozen)
    exact ⟨hk2, KeepX.appended _ (fun b hb => by
        rcases hb with hb | rfl
        · exact ⟨by omega, fun e => by have := hrow.lt b e.symm; omega, by omega⟩
        · exact ⟨hBx.lt, hne, by omega⟩) hgrow, ⟨_, hv2, by simpa using hr2, trivial⟩, ((hBx.alloc _).kept hgrow hne).other (by omega) _, hW.trans hb2⟩
  case done =>
    rintro D ys W hD rfl ⟨⟨v, hv, hrow, _⟩, hBx, hW⟩ hK
    have hc := hv.cell
    have hsz := hW.size
    have hwl : (words zs).length < zs.length + 7 := by rw [words, upto_length]; omega
    gi_wp2_with (gi_at_builtin; refine wpListIn_append_own _ rfl _ _ 22 rfl w.heap.size 3 i0 (.int .i64 0) 1 8 Try.underlying22 hi hz0 hz1 hz2 rfl (by decide) _ _ _ rfl (hrow.alloc _) ⟨W.heap.size, 0, none⟩ 1 1 [.int .i64 (zs.length : Int)] rfl rfl (cell_one_new _ _ _) (by simp [Value.oneCell']) (by unfold maxLen; omega) (by rw [words, upto_length]; omega) (by simp; omega) ?_; intro v' w1 hown' hgrow _; obtain ⟨g', cap', rfl⟩ := ownsRow_succ hown')
    have hg1 : (W.alloc (.cells #[.int .i64 (zs.length : Int)] 3)).grownBy w1 v.ownBlock := hgrow
    have hk : KeepsOthers W w1 := keeps_appended hrow hg1
    have hb1 : Below w.heap.size W w1 := ((Below.refl _ W).alloc hsz _).grown hg1 (by simp; omega) fun j ej => (hrow.lt j ej).1
    have ho2 : w1.ownsRow w.heap.size 3 1 (.slice (some ⟨g', 0, none⟩) ((words zs).length + 1) cap') ((words zs).length + 1) (((words zs).map wrap64 ++ [(zs.length : Int)]).map (Value.int .i64)) := by simpa using hown'
    refine ⟨trivial, ?_⟩
    refine (callsIn_wide.2 (Sum_at s _ _ _ ((words zs).map wrap64 ++ [(zs.length : Int)]) w1 (by simp) hs (by simp only [List.length_append, List.length_map, List.length_cons, List.length_nil, words, upto_length]; omega) (rd_own ho2))).mono ?_
    rintro e w2 ⟨rfl, hb⟩
    have hK1 := hk.same D _ hK rfl
    have hK2 := (hb.block D (Array.getElem?_eq_some_iff.1 hK1).1).trans hK1
    gi_wp2
    refine ⟨by simp, .inl ⟨_, _, rfl, run_takeDeferred hK2, ?_⟩⟩
    refine ⟨_, results_tmp rfl _ _ _, rfl, ((hW.trans hb1).trans (hb.mono (Nat.le_trans hsz hb1.size))).trans (belowK_b (w := w) (Nat.le_refl _) w2 D _ _ (by simp at hD; omega) hK2 rfl rfl)⟩
  case stop =>
    rintro D c pre W hD _ h _
    exact h.elim

theorem Bytes_at (s : ByteArray) (A : Option Addr) (n c : Nat) (zs : List Int) (w : World) (hn : n = zs.length) (hs : s.size ≤ 140737488351232) (hz : zs.length ≤ 140737488351232) (hcap : zs.length ≤ c) (h8 : Bytes8 zs) (hr : RdI w w.heap.size .u8 A zs) :
    Calls Try.prog 23 #[.string s, .slice A n c] w fun e w' => e = .returned (.int .u64 (bytesI (sb s) zs)) ∧ Below w.heap.size w w' := by
  subst hn
  exact Bytes_any s A c zs w hs hz hcap h8 hr

end Go.Proofs.Ytkffpfnmjadpaaa
