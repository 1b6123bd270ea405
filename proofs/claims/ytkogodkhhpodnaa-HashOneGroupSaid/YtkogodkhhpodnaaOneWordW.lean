/-
  THE WALK of the law on one word (P1.3).
-/
import Derived.Test.YtkogodkhhpodnaaGroupsW
import Derived.Deep.RegionHeld3
namespace Go.Proofs.Ytkogodkhhpodnaa
open Go.RowKit

theorem aroundI_bounds {n most : Int} (hm : 1 ≤ most) : 0 ≤ aroundI n most ∧ aroundI n most < most := by
  unfold aroundI
  split
  · exact ⟨Int.emod_nonneg _ (by omega), Int.emod_lt_of_pos _ (by omega)⟩
  · exact ⟨Int.emod_nonneg _ (by omega), Int.emod_lt_of_pos _ (by omega)⟩
theorem Around_nat (n : Int) (m : Nat) (hn : I64 n) (hm : 1 ≤ m) (hm2 : m ≤ 1000000) : ∃ k : Nat, k < m ∧ ∀ w : World, Calls Try.prog 21 #[.int .i64 n, .int .i64 m] w fun e w' => e = .returned (.int .i64 k) ∧ w = w' := by
  have hb := aroundI_bounds (n := n) (most := m) (by omega)
  refine ⟨(aroundI n m).toNat, by omega, fun w => ?_⟩
  have := Around_any n m w hn (by omega) (by omega)
  rwa [show aroundI n m = ((aroundI n m).toNat : Int) by omega] at this

theorem rd_set {w : World} {B : Nat} {k : IntKind} {b o : Nat} {zs : List Int} (h : RdI w B k (some ⟨b, o, none⟩) zs) {i : Nat} (hi : i < zs.length) (v : Int) :
    RdI (w.setCell ⟨b, o + i, none⟩ (.int k v)) B k (some ⟨b, o, none⟩) (zs.set i v) := by
  rcases h with rfl | ⟨b', o', e, hb, hc⟩
  · simp at hi
  · injection e with e
    obtain ⟨rfl, rfl⟩ : b = b' ∧ o = o' := by cases e; exact ⟨rfl, rfl⟩
    refine .inr ⟨b, o, rfl, hb, fun j hj => ?_⟩
    rw [List.length_set] at hj
    by_cases hij : j = i
    · subst hij
      rw [World.cell?_setCell_same' _ _ _ (by rw [hc j hj]; rfl)]
      simp [hj]
    · rw [World.cell?_setCell_other _ _ _ _ (by intro e; injection e with _ e2 _; omega), hc j hj, List.getElem?_set_ne (Ne.symm hij)]
theorem rd_far {w : World} {B : Nat} {k : IntKind} {A : Option Addr} {zs : List Int} (h : RdI w B k A zs) {p : Addr} (hp : B ≤ p.block) (u : Value) : RdI (w.setCell p u) B k A zs := by
  rcases h with h | ⟨b, o, e, hb, hc⟩
  · exact .inl h
  · exact .inr ⟨b, o, e, hb, fun j hj => by rw [World.cell?_setCell_other _ _ _ _ (by rintro rfl; simp at hp; omega)]; exact hc j hj⟩
/-- a row of the call's own that is not empty: its block -/
theorem own_block {w : World} {base : Nat} {e : TypeId} {n c : Nat} {A : Option Addr} {xs : List Value} (h : w.ownsRow base e 1 (.slice A n c) n xs) (hn : 0 < n) :
    ∃ g, A = some ⟨g, 0, none⟩ ∧ base ≤ g ∧ g < w.heap.size ∧ ∀ i, w.frozen? ⟨g, i, none⟩ = false := by
  rcases h.2 with ⟨_, h0⟩ | ⟨g, cap, cur, hv, hb, hg, _⟩
  · omega
  · injection hv with hA
    exact ⟨g, hA, hb, (Array.getElem?_eq_some_iff.1 hg).1, fun i => by simp [World.frozen?, hg]⟩

theorem set_split {l : List Int} {k : Nat} (hk : k < l.length) (v : Int) : l = l.take k ++ (l[k]?.getD 0) :: l.drop (k + 1) ∧ l.set k v = l.take k ++ v :: l.drop (k + 1) := by
  refine ⟨?_, ?_⟩
  · conv => lhs; rw [← List.take_append_drop k l, List.drop_eq_getElem_cons hk]
    simp [hk]
  · rw [List.set_eq_take_append_cons_drop, if_pos hk]
theorem sumI_set {lab l : List Int} {k : Nat} {v : Int} (hlab : Bytes8 lab) (hl : lab.length ≤ 140737488351232) (hw : l.length ≤ 140737488351232) (hk : k < l.length) (hx : I64 (l[k]?.getD 0)) (hv : I64 v) :
    sumI lab l = sumI lab (l.set k v) ↔ l[k]?.getD 0 = v := by
  obtain ⟨h1, h2⟩ := set_split hk v
  have := sumI_one (l := l.take k) (r := l.drop (k + 1)) (x := l[k]?.getD 0) (y := v) hlab hl (by rw [← h1]; exact hw)
  rw [← h1, ← h2, w64_inj hx hv] at this
  exact this

theorem rd_some {w : World} {B : Nat} {k : IntKind} {g : Nat} {zs : List Int} (h : RdI w B k (some ⟨g, 0, none⟩) zs) {j : Nat} (hj : j < zs.length) : ∃ x, x = zs[j]?.getD 0 ∧ w.cell? ⟨g, j, none⟩ = some (.int k x) := by
  obtain ⟨b, o, e, _, hc⟩ := h.at_ hj
  cases e
  rw [Nat.zero_add] at hc
  exact ⟨_, rfl, hc⟩

/-- a copy of a slice that is not empty: in a block of its own -/
theorem Ints_whole (A : Option Addr) (n c : Nat) (zs : List Int) (W : World) (hn : n = zs.length) (h0 : 0 < n) (h10 : n ≤ 10) (hcap : n ≤ c) (hr : RdI W W.heap.size .i64 A zs) :
    Calls Try.prog 12 #[.slice A n c, .int .i64 10] W fun e w' => ∃ g d, e = .returned (.slice (some ⟨g, 0, none⟩) n d) ∧ W.heap.size ≤ g ∧ g < w'.heap.size ∧ (∀ i, w'.frozen? ⟨g, i, none⟩ = false) ∧ RdI w' w'.heap.size .i64 (some ⟨g, 0, none⟩) zs ∧ Below W.heap.size W w' := by
  subst hn
  have hA : A = none → c = 0 := fun h => by
    subst h
    rcases hr with h | ⟨b, o, e, _⟩
    · rw [h] at h0; simp at h0
    · cases e
  have := Ints_any A zs.length c 10 zs W rfl (by unfold maxLen; omega) (by decide) hcap hA hr
  rw [List.take_of_length_le h10] at this
  refine this.mono fun e w' ⟨A', d, he, _, hrow, hb⟩ => ?_
  obtain ⟨g, rfl, h1, h2, h3⟩ := own_block hrow h0
  exact ⟨g, d, he, h1, h2, h3, rd_own hrow, hb⟩

set_option maxHeartbeats 400000 in
theorem oneWord_any (s : ByteArray) (A : Option Addr) (c : Nat) (zs : List Int) (n v : Int) (w : World) (hs : s.size ≤ maxLen) (hz : zs.length ≤ maxLen) (hcap : zs.length ≤ c) (hA : A = none → c = 0) (hr : RdI w w.heap.size .i64 A zs) (hzi : ∀ z ∈ zs, I64 z) (hn : I64 n) (hv : I64 v) :
    Calls Try.prog 5 #[.string s, .slice A zs.length c, .int .i64 n, .int .i64 v] w fun e w' => e = .returned (.bool true) ∧ Below w.heap.size w w' := by
  obtain ⟨i0, hi, hz0, hz1, hz2⟩ := info_parts info_int
  have hI := Ints_any A zs.length c 9 zs w rfl hz (by decide) hcap hA hr
  have hS := Short_any s 20 w hs
  have hl : (zs.take 9).length ≤ 9 := by rw [List.length_take]; omega
  have hli : ∀ z ∈ zs.take 9, I64 z := fun z hz => hzi z (List.mem_of_mem_take hz)
  generalize zs.take 9 = l at hI hl hli
  clear hr hA hzi
  have hll : Hid ((l ++ [7]).length = l.length + 1) := Lib.hid (by simp)
  have hlai : ∀ z ∈ l ++ [7], I64 z := fun z hz => by
    rcases List.mem_append.1 hz with h | h
    · exact hli z h
    · simp at h; subst h; exact ⟨by omega, by omega⟩
  obtain ⟨la, hla⟩ : ∃ la, la = l ++ [7] := ⟨_, rfl⟩
  rw [← hla] at hll hlai
  have HLA := Lib.hid hla
  have HLI := Lib.hid hlai
  clear hla hlai hli
  obtain ⟨k, hk, hAr0⟩ := Around_nat n (l.length + 1) hn (by omega) (by omega)
  have hAr : ∀ (m : Int) (W : World), m = l.length + 1 → Calls Try.prog 21 #[.int .i64 n, .int .i64 m] W fun e w' => e = .returned (.int .i64 k) ∧ W = w' := fun m W hm => by
    subst hm; exact hAr0 W
  clear hAr0
  have tok0 : True := trivial
  go_enter Try.func5, Try.ntmps5
  go_wp2_with (first
    | (go_at_call 11; refine hS.mono ?_; clear hS; rintro e w0 ⟨t, rfl, ht, rfl⟩)
    | (go_at_call 12; have _t := tok0; refine hI.mono ?_; clear hI tok0; rintro e w1 ⟨A1, c1, rfl, hc1, hrow1, hb1⟩; have tok1 : True := trivial)
    | (at_builtin; have _t := tok1; refine wpList_append_own _ rfl (.tmp 16) (.tmp 17) 22 rfl w.heap.size 3 i0 (.int .i64 0) 1 8 Try.underlying22 hi hz0 hz1 hz2 rfl (by decide) _ l.length _ rfl (hrow1.alloc _) ⟨w1.heap.size, 0, none⟩ 1 1 [.int .i64 7] rfl rfl (cell_one_new _ _ _) (by simp [Value.oneCell']) (by unfold maxLen; omega) (by omega) (by have := hb1.size; simp; omega) ?_; clear tok1; intro v' w2 hown2 hgrow2 _; obtain ⟨g2, c2, rfl⟩ := ownsRow_succ hown2; have tok2 : True := trivial)
    | (go_at_call 12; have _t := tok2; refine (Ints_whole _ _ _ la _ hll.out.symm (by omega) (by omega) (own_cap hown2) (rd_own (base := w.heap.size) (n := l.length + 1) (e := 3) (by rw [HLA.out]; simpa using hown2))).mono ?_; clear tok2; rintro e w3 ⟨g3, c3, rfl, hg3, hg3', hfz, hr3, hb3⟩)
    | (go_at_call 21; refine (hAr _ _ (by omega)).mono ?_; rintro e w' ⟨rfl, rfl⟩; have hfk := hfz k; obtain ⟨y, hyv, hy⟩ := rd_some hr3 (show k < la.length by rw [hll.out]; exact hk); clear hyv hfz))
  have e2 := ((Below.refl w.heap.size w1).alloc hb1.size _).grown hgrow2 (by have := hb1.size; simp; omega) (fun j ej => (hrow1.lt j ej).1)
  have d2 := hb1.trans e2
  have d3 := d2.trans (hb3.mono d2.size)
  have d4 := d3.setCell (p := ⟨g3, k, none⟩) (Nat.le_trans d2.size hg3) (.int .i64 v)
  have hkl : k < la.length := by rw [hll.out]; exact hk
  have hown2' : w2.ownsRow w.heap.size 3 1 (.slice (some ⟨g2, 0, none⟩) (l.length + 1) c2) (l.length + 1) (la.map (Value.int .i64)) := by rw [HLA.out]; simpa using hown2
  have hra := (rd_far ((rd_own hown2').below hb3) (p := ⟨g3, k, none⟩) hg3 (.int .i64 v)).mono (Nat.le_trans hb3.size (by simp [World.setCell]) : w2.heap.size ≤ (w3.setCell ⟨g3, k, none⟩ (.int .i64 v)).heap.size)
  have hrb : RdI (w3.setCell ⟨g3, k, none⟩ (.int .i64 v)) (w3.setCell ⟨g3, k, none⟩ (.int .i64 v)).heap.size .i64 (some ⟨g3, 0, none⟩) (la.set k v) := by
    have := rd_set hr3 hkl v
    rw [Nat.zero_add] at this
    exact this.mono (by simp [World.setCell])
  obtain ⟨x, hxv, hx⟩ := rd_some hra hkl
  have hxi : I64 (la[k]?.getD 0) := by
    rw [List.getElem?_eq_getElem hkl]
    exact HLI.out _ (List.getElem_mem hkl)
  have hXY : ((sumI (sb t) la == sumI (sb t) (la.set k v)) == (x == v)) = true := by
    rw [beq_iff_eq, Bool.eq_iff_iff, beq_iff_eq, beq_iff_eq, hxv]
    exact sumI_set (sb_bytes t) (by rw [sb_length]; omega) (by rw [hll.out]; omega) hkl hxi hv
  have hwit : ∀ l : List Int, l.length ≤ 20 → l.length ≤ 140737488351232 := fun _ h => by omega
  generalize w3.setCell ⟨g3, k, none⟩ (.int .i64 v) = W4 at d4 hra hrb hx ⊢
  have hSa : ∀ W, Below W4.heap.size W4 W → Calls Try.prog 13 #[.string t, .slice (some ⟨g2, 0, none⟩) (l.length + 1) c2] W fun e w' => e = .returned (.int .u64 (sumI (sb t) la)) ∧ Below W4.heap.size W4 w' := fun W hW =>
    (Sum_at t _ _ c2 la W hll.out.symm (by omega) (by rw [hll.out]; omega) ((hra.below hW).mono hW.size)).mono fun e w' h => ⟨h.1, hW.trans (h.2.mono hW.size)⟩
  have hSb : ∀ W, Below W4.heap.size W4 W → Calls Try.prog 13 #[.string t, .slice (some ⟨g3, 0, none⟩) (l.length + 1) c3] W fun e w' => e = .returned (.int .u64 (sumI (sb t) (la.set k v))) ∧ Below W4.heap.size W4 w' := fun W hW =>
    (Sum_at t _ _ c3 (la.set k v) W (by rw [List.length_set]; exact hll.out.symm) (by omega) (by rw [List.length_set, hll.out]; omega) ((hrb.below hW).mono hW.size)).mono fun e w' h => ⟨h.1, hW.trans (h.2.mono hW.size)⟩
  have hLv : ∀ W, Below W4.heap.size W4 W → Calls Try.prog 15 #[] W fun e w' => e = .returned (.bool true) ∧ Below W4.heap.size W4 w' := fun W hW =>
    (lives_any W).mono fun e w' h => ⟨h.1, hW.trans (h.2.mono hW.size)⟩
  obtain ⟨X, hX⟩ : ∃ X, X = sumI (sb t) la := ⟨_, rfl⟩
  obtain ⟨Y, hY⟩ : ∃ Y, Y = sumI (sb t) (la.set k v) := ⟨_, rfl⟩
  rw [← hX] at hSa hXY
  rw [← hY] at hSb hXY
  have hg2 : g2 < W4.heap.size := World.block_lt_of_cell? _ _ hx
  have HX := Lib.hid hx
  have hkn : (k : Int) < (l.length : Int) + 1 := by omega
  clear hX hY hxv hxi hwit hra hrb hown2 hown2' hr3 hrow1 hgrow2 hb1 hb3 e2 d2 d3 hy hfk hAr
  go_region_held3 (fun w' => w'.cell? ⟨g2, k, none⟩ = some (.int .i64 x) ∧ Below W4.heap.size W4 w')
    (first | exact ⟨HX.out, (Below.refl _ _).drew⟩ | exact ⟨(Below.cell (p := ⟨g2, k, none⟩) (by assumption) hg2).trans HX.out, by assumption⟩)
    (first
      | (go_at_call 13; ((with_reducible refine Calls.mono (hSa _ ?_) ?_); focus (go_split_ands; assumption)); rintro e w' ⟨rfl, hb⟩)
      | (go_at_call 13; ((with_reducible refine Calls.mono (hSb _ ?_) ?_); focus (go_split_ands; assumption)); rintro e w' ⟨rfl, hb⟩)
      | (go_at_call 15; ((with_reducible refine Calls.mono (hLv _ ?_) ?_); focus (go_split_ands; assumption)); rintro e w' ⟨rfl, hb⟩))
  all_goals
    go_wp2
    go_ret
    exact ⟨rfl, d4.trans (hb.mono d4.size)⟩
end Go.Proofs.Ytkogodkhhpodnaa
