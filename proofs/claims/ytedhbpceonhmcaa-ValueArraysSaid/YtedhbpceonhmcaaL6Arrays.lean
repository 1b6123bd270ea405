/-
  THE WALK of the law ValueArrays. Written by gen/genl6arrays.py.
-/
import Derived.Test.YtedhbpceonhmcaaL6Some
import Derived.Test.YtedhbpceonhmcaaVaApp
import Derived.Test.YtedhbpceonhmcaaR6Sto
import Derived.Test.YtedhbpceonhmcaaVaDifE
import Derived.Test.YtedhbpceonhmcaaL6Lives
namespace Go.Proofs.Ytedhbpceonhmcaa
open Go.RowKit

/-- two rows put together hold all their values -/
theorem app_row {w1 w2 w3 : World} {n0 B1 B2 BA : Nat} {l1 l2 : List Vr} (h1 : ∀ p ∈ l1, VaV w1 (fun b => n0 ≤ b ∧ b < B1) p.x p.val) (hB1 : B1 < w1.heap.size) (h12 : Below w1.heap.size w1 w2) (h2 : ∀ p ∈ l2, VaV w2 (fun b => w1.heap.size ≤ b ∧ b < B2) p.x p.val) (hB2 : B2 < w2.heap.size)
    (hBA : BA < w3.heap.size) (hc : ∀ j u, ((l1 ++ l2).flatMap Vr.cells)[j]? = some u → w3.cell? ⟨BA, j, none⟩ = some u) (hg : w2.grownBy w3 (some B1)) : VaL w3 (l1 ++ l2) BA := by
  refine ⟨⟨hBA, hc⟩, fun p hp => ?_⟩
  rcases List.mem_append.1 hp with h | h
  · exact (h1 p h).to (fun b hb => ⟨by have h3 := h12.size; have h4 := hg.size; show b < _; have := hb.2; omega, (hg.block b (by have := h12.size; have := hb.2; omega) (fun e => by injection e with e; have := hb.2; omega)).trans (h12.block b (by have := hb.2; omega))⟩)
  · exact (h2 p h).to (fun b hb => ⟨by have h4 := hg.size; show b < _; have := hb.2; omega, hg.block b (by have := hb.2; omega) (fun e => by injection e with e; have := hb.1; omega)⟩)
theorem idx_cells {w7 : World} (ix0 : Int) : ∀ k, k < 7 → ∃ u, U64 u ∧ ∀ W, Below (w7.alloc (.cells #[.int .u64 0, .int .u64 1, .int .u64 (IntKind.u64.wrap ix0), .int .u64 3, .int .u64 4, .int .u64 65535, .int .u64 65536] 27)).heap.size (w7.alloc (.cells #[.int .u64 0, .int .u64 1, .int .u64 (IntKind.u64.wrap ix0), .int .u64 3, .int .u64 4, .int .u64 65535, .int .u64 65536] 27)) W → W.cell? ⟨w7.heap.size, k, none⟩ = some (.int .u64 u) := fun k hk => by
  have hb := heap_alloc_new w7 (.cells #[.int .u64 0, .int .u64 1, .int .u64 (IntKind.u64.wrap ix0), .int .u64 3, .int .u64 4, .int .u64 65535, .int .u64 65536] 27)
  have h1 : ∀ W, Below (w7.alloc (.cells #[.int .u64 0, .int .u64 1, .int .u64 (IntKind.u64.wrap ix0), .int .u64 3, .int .u64 4, .int .u64 65535, .int .u64 65536] 27)).heap.size (w7.alloc (.cells #[.int .u64 0, .int .u64 1, .int .u64 (IntKind.u64.wrap ix0), .int .u64 3, .int .u64 4, .int .u64 65535, .int .u64 65536] 27)) W → W.heap[w7.heap.size]? = _ := fun W h => (h.block w7.heap.size (by simp)).trans hb
  rcases (show k = 0 ∨ k = 1 ∨ k = 2 ∨ k = 3 ∨ k = 4 ∨ k = 5 ∨ k = 6 by omega) with rfl | rfl | rfl | rfl | rfl | rfl | rfl
  · exact ⟨0, ⟨by decide, by decide⟩, fun W h => by rw [cell_of_row _ _ _ _ _ _ (h1 W h)]; rfl⟩
  · exact ⟨1, ⟨by decide, by decide⟩, fun W h => by rw [cell_of_row _ _ _ _ _ _ (h1 W h)]; rfl⟩
  · exact ⟨_, u64_wrap ix0, fun W h => by rw [cell_of_row _ _ _ _ _ _ (h1 W h)]; rfl⟩
  · exact ⟨3, ⟨by decide, by decide⟩, fun W h => by rw [cell_of_row _ _ _ _ _ _ (h1 W h)]; rfl⟩
  · exact ⟨4, ⟨by decide, by decide⟩, fun W h => by rw [cell_of_row _ _ _ _ _ _ (h1 W h)]; rfl⟩
  · exact ⟨65535, ⟨by decide, by decide⟩, fun W h => by rw [cell_of_row _ _ _ _ _ _ (h1 W h)]; rfl⟩
  · exact ⟨65536, ⟨by decide, by decide⟩, fun W h => by rw [cell_of_row _ _ _ _ _ _ (h1 W h)]; rfl⟩
theorem elk_i64 (k : Int) : I64 (elK k) := by
  unfold elK
  split
  · exact (show I64 1 from ⟨by decide, by decide⟩)
  · exact (show I64 0 from ⟨by decide, by decide⟩)
/-- Store of both -/
theorem sto_both (x y : Va) (u : Int) (hu : U64 u) : ∃ (sv : Va) (se : Int),
    (∀ v1 v2 W, VaV W (LoV W.heap.size) x v1 → VaV W (LoV W.heap.size) y v2 → Calls Try.prog 29 #[v1, .int .u64 u, v2] W fun e w' => GivesVE W sv se e w') ∧
    (∀ v1 v2 W, VaV W (LoV W.heap.size) x v1 → VaV W (LoV W.heap.size) y v2 → Calls Try.prog 30 #[v1, .int .u64 u, v2] W fun e w' => GivesVE W sv se e w') :=
  ⟨stoV x u y, stoE x u y, fun v1 v2 W h1 h2 => vStore_any x y v1 v2 u W h1 h2 hu, fun v1 v2 W h1 h2 => r6Store_any x y v1 v2 u W h1 h2 hu⟩
theorem dif_both (x y : Va) : ∃ (dv de : Int),
    (∀ v1 v2 W, VaV W (LoV W.heap.size) x v1 → VaV W (LoV W.heap.size) y v2 → Calls Try.prog 31 #[v1, v2] W fun e w' => e = .returned (.tuple #[.int .u64 dv, .int .i64 de]) ∧ Below W.heap.size W w') ∧
    (∀ v1 v2 W, VaV W (LoV W.heap.size) x v1 → VaV W (LoV W.heap.size) y v2 → Calls Try.prog 32 #[v1, v2] W fun e w' => e = .returned (.tuple #[.int .u64 dv, .int .i64 de]) ∧ Below W.heap.size W w') :=
  ⟨difV x y, difE x y, fun v1 v2 W h1 h2 => vDiffE_any x y v1 v2 W h1 h2, fun v1 v2 W h1 h2 => r6Diff_any x y v1 v2 W h1 h2⟩
/-- Select of both -/
theorem sel_both (x : Va) (u : Int) (hu : U64 u) (hok : x.ok) : ∃ (rk rn ru : Int) (rs : ByteArray) (re : Int), (⟨rk, rn, 0, ru, rs, []⟩ : Va).ok ∧
    (∀ v W, VaV W (LoV W.heap.size) x v → Calls Try.prog 27 #[v, .int .u64 u] W fun e w' => e = .returned (.tuple #[.agg #[.int .i64 rk, .int .i64 rn, .int .i64 0, .int .u64 ru, .string rs, .slice none 0 0], .int .i64 re]) ∧ Below W.heap.size W w') ∧
    (∀ v W, VaV W (LoV W.heap.size) x v → Calls Try.prog 28 #[v, .int .u64 u] W fun e w' => e = .returned (.tuple #[.agg #[.int .i64 rk, .int .i64 rn, .int .i64 0, .int .u64 ru, .string rs, .slice none 0 0], .int .i64 re]) ∧ Below W.heap.size W w') := by
  refine ⟨(selV x u).k, (selV x u).n, (selV x u).u, (selV x u).s, selE x u, ?_, fun v W h => vSelect_any x v u W h, fun v W h => r6Select_any x v u W h hu⟩
  unfold selV
  split
  · exact el_ok ⟨elk_i64 _, hok.1.2.1, (show I64 0 from ⟨by decide, by decide⟩)⟩ (at_ok hok.2.2.2.1 u)
  · exact nil_ok
theorem cont2 {G : Prop} {R : Nat → World → Prop} (F : Nat → World → Prop) (hp : (∀ g W, F g W → R g W) → G) (hc : ∀ g W, F g W → R g W) : G := hp hc
theorem cont5 {G : Prop} {R : Nat → World → Option Addr → Nat → Nat → Prop} (F : Nat → World → Option Addr → Nat → Nat → Prop) (hp : (∀ g W A n c, F g W A n c → R g W A n c) → G) (hc : ∀ g W A n c, F g W A n c → R g W A n c) : G := hp hc
theorem cont8 {G : Prop} {R : Nat → World → Option Addr → Nat → Nat → Option Addr → Nat → Nat → Prop} (F : Nat → World → Option Addr → Nat → Nat → Option Addr → Nat → Nat → Prop) (hp : (∀ g W A n c B m d, F g W A n c B m d → R g W A n c B m d) → G) (hc : ∀ g W A n c B m d, F g W A n c B m d → R g W A n c B m d) : G := hp hc
theorem set6_low {V W : World} (h : Below V.heap.size V W) {b : Nat} (hb : V.heap.size ≤ b) {c0 c1 c2 c3 c4 c5 : Value} : Below V.heap.size V ((((((W.setCell ⟨b, 0, none⟩ c0).setCell ⟨b, 1, none⟩ c1).setCell ⟨b, 2, none⟩ c2).setCell ⟨b, 3, none⟩ c3).setCell ⟨b, 4, none⟩ c4).setCell ⟨b, 5, none⟩ c5) := set6_below h hb c0 c1 c2 c3 c4 c5
def strV : Va := ⟨1, 0, 0, 0, ⟨#[]⟩, []⟩
theorem str_ok : strV.ok := ⟨⟨(show I64 1 from ⟨by decide, by decide⟩), (show I64 0 from ⟨by decide, by decide⟩), (show I64 0 from ⟨by decide, by decide⟩)⟩, (show U64 0 from ⟨by decide, by decide⟩), (show (0 : Nat) ≤ 1000000 from by decide), (fun e (he : e ∈ ([] : List En)) => by cases he), (show (0 : Nat) ≤ 100000 from by decide)⟩

set_option maxHeartbeats 40000000 in
set_option maxRecDepth 100000 in
theorem larrays_any (n : Int) (A1 : Option Addr) (c1 : Nat) (zs1 : List Int) (len1 : Nat) (A2 : Option Addr) (c2 : Nat) (zs2 : List Int) (len2 : Nat) (a h b ix0 : Int) (w : World) (hn : I64 n) (hlen1 : len1 = zs1.length) (hzs1 : ∀ z ∈ zs1, I64 z) (hr1 : RdI w w.heap.size .i64 A1 zs1)
    (hlen2 : len2 = zs2.length) (hzs2 : ∀ z ∈ zs2, I64 z) (hr2 : RdI w w.heap.size .i64 A2 zs2) (ha : I64 a) (hh : I64 h) (hb : I64 b) :
    Calls Try.prog 5 #[.int .i64 n, .slice A1 len1 c1, .slice A2 len2 c2, .int .i64 a, .int .i64 h, .int .i64 b, .int .i64 ix0] w fun e w' => e = .returned (.bool true) ∧ Below w.heap.size w w' := by
  obtain ⟨p, hp, hA0⟩ := Around_30 n 262144 hn (by omega) (by omega)
  obtain ⟨q, hq, hB0⟩ := Around_30 a 2 ha (by omega) (by omega)
  have HA := Lib.hid fun W => around_lit 262144 262144 rfl hA0 W
  have HB := Lib.hid fun W => around_lit 2 2 rfl hB0 W
  clear hA0 hB0
  have H2 := Lib.hid (And.intro hlen2 (And.intro hzs2 hr2))
  have HI := Lib.hid (And.intro ha (And.intro hh hb))
  have hS1 := l6some_any (4 * (p : Int) + 2 + (q : Int)) A1 c1 zs1 len1 a h b w (by unfold I64; omega) hlen1 hzs1 hr1 ha hh hb
  have HQ4 := Lib.hid (show (((aroundI (4 * (p : Int) + 2 + (q : Int)) 1048576).toNat % 4 : Nat) : Int) = 2 ∨ (((aroundI (4 * (p : Int) + 2 + (q : Int)) 1048576).toNat % 4 : Nat) : Int) = 3 by unfold aroundI; rw [if_neg (by omega)]; omega)
  have hqi : I64 (4 * (p : Int) + 2 + (q : Int)) := by unfold I64; omega
  have hS2 := Lib.hid (fun W (hW : Below w.heap.size w W) => l6some_any (4 * (p : Int) + 2 + (q : Int)) A2 c2 zs2 len2 h a b W hqi hlen2 hzs2 ((hr2.below hW).mono hW.size) hh ha hb)
  have hq3 : I64 (4 * (p : Int) + (q : Int)) := by unfold I64; omega
  have hS3 := (fun W (hW : Below w.heap.size w W) => l6some_any (4 * (p : Int) + (q : Int)) A2 c2 zs2 len2 a h b W hq3 hlen2 hzs2 ((hr2.below hW).mono hW.size) ha hh hb)
  obtain ⟨m4, hm4⟩ : ∃ z : Int, z = 4 * (p : Int) := ⟨_, rfl⟩
  obtain ⟨m5, hm5⟩ : ∃ z : Int, z = m4 + (q : Int) := ⟨_, rfl⟩
  rw [← hm4, ← hm5] at hS3
  have hw4 : IntKind.i64.wrap (4 * (p : Int)) = m4 := by rw [hm4]; exact IntWalk.i64_in _ ⟨by omega, by omega⟩
  have hw5 : IntKind.i64.wrap (m4 + (q : Int)) = m5 := by rw [hm5]; exact IntWalk.i64_in _ ⟨by omega, by omega⟩
  have HS3 := Lib.hid hS3
  have HW45 := Lib.hid (And.intro hw4 hw5)
  clear hS3 hm4 hm5 hw4 hw5 hlen1 hzs1 hr1 hlen2 hzs2 hr2 ha hh hb hn hqi hq3
  go_enter Try.func5, Try.ntmps5
  go_wp2_with fail
  refine Calls.mono (HA.out _) ?_
  rintro e wz ⟨rfl, hwz⟩
  rw [hwz]
  clear hwz wz
  go_wp2_with fail
  refine Calls.mono (HB.out _) ?_
  rintro e wz ⟨rfl, hwz⟩
  rw [hwz]
  clear hwz wz
  go_wp2_with fail
  refine Calls.mono hS1 ?_
  clear hS1
  rintro e w1 ⟨l1, B1, rfl, hl1, hB1, hb1, hv1, ⟨x0, hx0, hx1, hx2⟩, hw1⟩
  go_wp2_with fail
  refine Calls.mono (HA.out _) ?_
  rintro e wz ⟨rfl, hwz⟩
  rw [hwz]
  clear hwz wz
  go_wp2_with fail
  refine Calls.mono (HB.out _) ?_
  rintro e wz ⟨rfl, hwz⟩
  rw [hwz]
  clear hwz wz
  go_wp2_with fail
  refine Calls.mono (hS2.out _ hw1) ?_
  clear hS2
  rintro e w2 ⟨l2, B2, rfl, hl2, hB2, hb2, hv2, _, hw2⟩
  have h12 := hw1.trans (hw2.mono hw1.size)
  have hB1l := (Array.getElem?_eq_some_iff.1 hb1).1
  have hB2l := (Array.getElem?_eq_some_iff.1 hb2).1
  have hl8 : (l1 ++ l2).length = 8 := by rw [List.length_append]; omega
  have hl1' := Lib.hid hl1
  have hl2' := Lib.hid hl2
  have hl8' := Lib.hid hl8
  have hx := Lib.hid (And.intro hx0 (And.intro hx1 hx2))
  have hb1' := Lib.hid ((hw2.block B1 hB1l).trans hb1)
  have hb2' := Lib.hid hb2
  clear hl1 hl2 hl8 hx0 hx1 hx2 hb1 hb2
  go_wp2_with (at_builtin; refine wpList_append_v _ rfl _ _ rfl l1 l2 4 4 B1 B2 w.heap.size hl1'.out.symm hl2'.out.symm (by rw [hl1'.out]; decide) (by rw [hl1'.out, hl2'.out]; decide) rfl hb1'.out hB1 rfl hb2'.out h12.size ?_; rintro v' w3 ⟨BA, cA, hv', hBA, hBAl, hcA, hgA⟩; rw [hl8'.out] at hv'; subst hv')
  have L := app_row hv1 hB1l hw2 hv2 hB2l hBAl hcA hgA
  have h13 : Below w.heap.size w w3 := h12.grown hgA h12.size (fun j ej => by injection ej with ej; omega)
  have hxz0 := Lib.hid (show ∃ h : 0 < (l1 ++ l2).length, (l1 ++ l2)[0].x = x0.x from by
    have h0 := hx.out.1
    cases l1 with
    | nil => simp at h0
    | cons y t => simp at h0; subst h0; exact ⟨by simp, rfl⟩)
  generalize l1 ++ l2 = lA at *
  obtain ⟨hz0, hz1⟩ := hxz0.out
  obtain ⟨xz, Az, nz, cz, hxz, HXZ⟩ := val_cells L hz0
  rw [hz1] at hxz
  have hzv : valE xz = 0 := hxz ▸ hx.out.2.1
  have hzk : xz.k = 2 ∨ xz.k = 3 := by have h := hx.out.2.2; rw [hxz] at h; rw [h]; exact HQ4.out
  obtain ⟨zk, zn, zi, zu, zs, zm⟩ := xz
  dsimp only at hzv hzk
  have HSZ := Lib.hid (show ∀ W, Below w3.heap.size w3 W → (fun W : World => W.cell? ⟨BA, 0, none⟩ = some (.int .i64 zk) ∧ W.cell? ⟨BA, 1, none⟩ = some (.int .i64 zn) ∧ W.cell? ⟨BA, 2, none⟩ = some (.int .i64 zi)) W from fun W h => ⟨(HXZ W h).1.1, (HXZ W h).1.2.1, (HXZ W h).1.2.2.1⟩)
  obtain ⟨ek, hek⟩ : ∃ e : Int, e = if zk = 2 then 0 else 1 := ⟨_, rfl⟩
  have HEl := Lib.hid (fun W => by have := r6Element_any zk zn zi W; rw [← hek] at this; exact this)
  have HSO := Lib.hid (show sortOk ek zn 0 = true from by
    have h := (sort_el hzk (val_parts hzv).1).1
    rw [hek]
    rcases hzk with h2 | h2 <;> (rw [h2] at h ⊢; exact h))
  have L' := Lib.hid L
  have h13' := Lib.hid h13
  have hd : Below w3.heap.size w3 w3.drew := (Below.refl _ _).drew
  have hw4 := HW45.out.1
  have hw5 := HW45.out.2
  clear hv1 hB1l hw2 hv2 hB2l hcA hgA hw1 h12 hb1' hb2' hl1' hl2' hx HQ4 hz0 hz1 hxz hzv hzk HXZ hek hB1 hB2 hBA hBAl L h13 hxz0
  refine wp_region_held_drew (S := fun W => W.cell? ⟨BA, 0, none⟩ = some (.int .i64 zk) ∧ W.cell? ⟨BA, 1, none⟩ = some (.int .i64 zn) ∧ W.cell? ⟨BA, 2, none⟩ = some (.int .i64 zi)) (by kernel_rfl) (HSZ.out _ hd) (fun hHeld => ?_)
  (try simp only [List.size_toArray, List.length_cons, List.length_nil, Nat.zero_add, Nat.reduceAdd])
  refine wpAnyH_takeL (i := 0) (v := ?v1) rfl (by kernel_rfl) (by kernel_rfl) (by kernel_rfl) (fun _ _ _ h => h) (Or.inl ⟨by rfl, ?y1⟩) (by assumption) ?r1
  case y1 => (intro W hSw; (try dsimp only at hSw); go_simp; try with_reducible rfl)
  (try simp only [Act.put, List.setIfInBounds_toArray, List.set_cons_zero, List.set_cons_succ])
  refine wpAnyH_takeL (i := 3) (v := ?v2) rfl (by kernel_rfl) (by kernel_rfl) (by kernel_rfl) (fun _ _ _ h => h) (Or.inl ⟨by rfl, ?y2⟩) (by assumption) ?r2
  case y2 => (intro W hSw; (try dsimp only at hSw); go_simp; try with_reducible rfl)
  (try simp only [Act.put, List.setIfInBounds_toArray, List.set_cons_zero, List.set_cons_succ])
  refine wpAnyH_takeL (i := 6) (v := ?v3) rfl (by kernel_rfl) (by kernel_rfl) (by kernel_rfl) (fun _ _ _ h => h) (Or.inl ⟨by rfl, ?y3⟩) (by assumption) ?r3
  case y3 => (intro W hSw; (try dsimp only at hSw); go_simp; try with_reducible rfl)
  (try simp only [Act.put, List.setIfInBounds_toArray, List.set_cons_zero, List.set_cons_succ])
  refine wpAnyH_takeL (i := 7) (v := ?v4) rfl (by kernel_rfl) (by kernel_rfl) (by kernel_rfl) (fun _ _ _ h => h) (Or.inl ⟨by rfl, ?y4⟩) (by assumption) ?r4
  case y4 => (intro W hSw; (try dsimp only at hSw); go_simp; try with_reducible rfl)
  (try simp only [Act.put, List.setIfInBounds_toArray, List.set_cons_zero, List.set_cons_succ])
  refine wpAnyH_takeL (i := 8) (v := ?v5) rfl (by kernel_rfl) (by kernel_rfl) (by kernel_rfl) (fun _ _ _ h => h) (Or.inl ⟨by rfl, ?y5⟩) (by assumption) ?r5
  case y5 => (intro W hSw; (try dsimp only at hSw); go_simp; try with_reducible rfl)
  (try simp only [Act.put, List.setIfInBounds_toArray, List.set_cons_zero, List.set_cons_succ])
  refine wpAnyH_takeL (i := 9) (v := ?v6) rfl (by kernel_rfl) (by kernel_rfl) (by kernel_rfl) (fun _ _ _ h => h) (Or.inl ⟨by rfl, ?y6⟩) (by assumption) ?r6
  case y6 => (intro W hSw; (try dsimp only at hSw); go_simp; try with_reducible rfl)
  (try simp only [Act.put, List.setIfInBounds_toArray, List.set_cons_zero, List.set_cons_succ])
  refine wpAnyH_takeL (i := 11) (v := ?v7) rfl (by kernel_rfl) (by kernel_rfl) (by kernel_rfl) (fun _ _ _ h => h) (Or.inl ⟨by rfl, ?y7⟩) (by assumption) ?r7
  case y7 => (intro W hSw; (try dsimp only at hSw); go_simp; try with_reducible rfl)
  (try simp only [Act.put, List.setIfInBounds_toArray, List.set_cons_zero, List.set_cons_succ])
  refine wpAnyH_takeL (i := 12) (v := ?v8) rfl (by kernel_rfl) (by kernel_rfl) (by kernel_rfl) (fun _ _ _ h => h) (Or.inl ⟨by rfl, ?y8⟩) (by assumption) ?r8
  case y8 => (intro W hSw; (try dsimp only at hSw); go_simp; try with_reducible rfl)
  (try simp only [Act.put, List.setIfInBounds_toArray, List.set_cons_zero, List.set_cons_succ])
  refine wpAnyH_takeL (i := 13) (v := ?v9) rfl (by kernel_rfl) (by kernel_rfl) (by kernel_rfl) (fun _ _ _ h => h) (Or.inl ⟨by rfl, ?y9⟩) (by assumption) ?r9
  case y9 => (intro W hSw; (try dsimp only at hSw); go_simp; try with_reducible rfl)
  (try simp only [Act.put, List.setIfInBounds_toArray, List.set_cons_zero, List.set_cons_succ])
  refine wpAnyH_takeL (i := 14) (v := ?v10) rfl (by kernel_rfl) (by kernel_rfl) (by kernel_rfl) (fun _ _ _ h => h) (Or.inl ⟨by rfl, ?y10⟩) (by assumption) ?r10
  case y10 => (intro W hSw; (try dsimp only at hSw); go_simp; try with_reducible rfl)
  (try simp only [Act.put, List.setIfInBounds_toArray, List.set_cons_zero, List.set_cons_succ])
  refine wpAnyH_takeL (i := 16) (v := ?v11) rfl (by kernel_rfl) (by kernel_rfl) (by kernel_rfl) (fun _ _ _ h => h) (Or.inl ⟨by rfl, ?y11⟩) (by assumption) ?r11
  case y11 => (intro W hSw; (try dsimp only at hSw); go_simp; try with_reducible rfl)
  (try simp only [Act.put, List.setIfInBounds_toArray, List.set_cons_zero, List.set_cons_succ])
  refine wpAnyH_takeL (i := 18) (v := ?v12) rfl (by kernel_rfl) (by kernel_rfl) (by kernel_rfl) (fun _ _ _ h => h) (Or.inl ⟨by rfl, ?y12⟩) (by assumption) ?r12
  case y12 => (intro W hSw; (try dsimp only at hSw); go_simp; try with_reducible rfl)
  (try simp only [Act.put, List.setIfInBounds_toArray, List.set_cons_zero, List.set_cons_succ])
  refine wpAnyH_takeL (i := 19) (v := ?v13) rfl (by kernel_rfl) (by kernel_rfl) (by kernel_rfl) (fun _ _ _ h => h) (Or.inl ⟨by rfl, ?y13⟩) (by assumption) ?r13
  case y13 => (intro W hSw; (try dsimp only at hSw); go_simp; try with_reducible rfl)
  (try simp only [Act.put, List.setIfInBounds_toArray, List.set_cons_zero, List.set_cons_succ])
  refine wpAnyH_ready (rs := [1]) (by kernel_rfl) (by simp) ?_
  refine consL rfl (fun K hK => ?_) AllReadyH.nil
  go_simp
  refine Calls.mono (HA.out _) ?_
  rintro e wz ⟨rfl, hwz⟩
  rw [hwz]
  clear hwz wz
  (try dsimp only)
  refine hK.out _ _ (HSZ.out _ hd) (fun hHeld => ?_)
  clear hK K
  (try simp only [Act.put, List.setIfInBounds_toArray, List.set_cons_zero, List.set_cons_succ])
  refine wpAnyH_takeL (i := 2) (v := ?v14) rfl (by kernel_rfl) (by kernel_rfl) (by kernel_rfl) (fun _ _ _ h => h) (Or.inl ⟨by rfl, ?y14⟩) (by assumption) ?r14
  case y14 => (intro W hSw; (try dsimp only at hSw); go_simp; try with_reducible rfl)
  (try simp only [Act.put, List.setIfInBounds_toArray, List.set_cons_zero, List.set_cons_succ])
  refine wpAnyH_ready (rs := [4]) (by kernel_rfl) (by simp) ?_
  refine consL rfl (fun K hK => ?_) AllReadyH.nil
  go_simp
  refine Calls.mono (HB.out _) ?_
  rintro e wz ⟨rfl, hwz⟩
  rw [hwz]
  clear hwz wz
  (try dsimp only)
  refine hK.out _ _ (HSZ.out _ hd) (fun hHeld => ?_)
  clear hK K
  (try simp only [Act.put, List.setIfInBounds_toArray, List.set_cons_zero, List.set_cons_succ])
  refine wpAnyH_takeL (i := 5) (v := ?v15) rfl (by kernel_rfl) (by kernel_rfl) (by kernel_rfl) (fun _ _ _ h => h) (Or.inl ⟨by rfl, ?y15⟩) (by assumption) ?r15
  case y15 => (intro W hSw; (try dsimp only at hSw); go_simp; try with_reducible rfl)
  (try simp only [Act.put, List.setIfInBounds_toArray, List.set_cons_zero, List.set_cons_succ])
  refine wpAnyH_ready (rs := [10]) (by kernel_rfl) (by simp) ?_
  refine consL rfl (fun K hK => ?_) AllReadyH.nil
  go_simp
  refine Calls.mono (HS3.out _ h13'.out.drew) ?_
  rintro e w4 ⟨l3, B3, rfl, hl3, hB3, hb3, hv3, _, hw4'⟩
  have g4 : Below w3.heap.size w3 w4 := hd.trans (hw4'.mono hd.size)
  have hl3' := Lib.hid hl3
  have hb3' := Lib.hid hb3
  clear hl3 hb3
  (try dsimp only)
  refine hK.out _ _ (HSZ.out _ g4) (fun hHeld => ?_)
  clear hK K
  (try simp only [Act.put, List.setIfInBounds_toArray, List.set_cons_zero, List.set_cons_succ])
  refine wpAnyH_ready (rs := [15]) (by kernel_rfl) (by simp) ?_
  refine consL rfl (fun K hK => ?_) AllReadyH.nil
  go_simp
  refine Calls.mono (HEl.out _) ?_
  rintro e w5 ⟨rfl, h5⟩
  have g5 := g4.trans (h5.mono g4.size)
  (try dsimp only)
  refine hK.out _ _ (HSZ.out _ g5) (fun hHeld => ?_)
  clear hK K
  (try simp only [Act.put, List.setIfInBounds_toArray, List.set_cons_zero, List.set_cons_succ])
  refine wpAnyH_ready (rs := [17]) (by kernel_rfl) (by simp) ?_
  refine consL rfl (fun K hK => ?_) AllReadyH.nil
  go_simp
  refine Calls.mono (r6Of_any ek zn 0 _ A2 c2 zs2 len2 H2.out.1 H2.out.2.1 ((H2.out.2.2.below (h13'.out.trans (g5.mono h13'.out.size))).mono (h13'.out.trans (g5.mono h13'.out.size)).size) HSO.out) ?_
  rintro e w6 ⟨xo, _, _, vo, rfl, hvo, h6⟩
  have g6 := g5.trans (h6.mono g5.size)
  obtain ⟨ok, on, oi, ou, os, om⟩ := xo
  obtain ⟨A6, n6, c6, hve⟩ := hvo.shape
  have hve' : vo = .agg #[.int .i64 ok, .int .i64 on, .int .i64 oi, .int .u64 ou, .string os, .slice A6 n6 c6] := hve
  subst hve'
  clear hve
  have e6 := vav_len hvo
  subst e6
  (try dsimp only)
  refine hK.out _ _ (HSZ.out _ g6) (fun hHeld => ?_)
  clear hK K
  (try simp only [Act.put, List.setIfInBounds_toArray, List.set_cons_zero, List.set_cons_succ])
  refine wpAnyH_ready (rs := [20]) (by kernel_rfl) (by simp) ?_
  refine consL rfl (fun K hK => ?_) AllReadyH.nil
  go_simp
  have g7 := g6.alloc g6.size (.cells #[.int .i64 ok, .int .i64 on, .int .i64 oi, .int .u64 ou, .string os, .slice A6 om.length c6, .int .i64 1, .int .i64 0, .int .i64 0, .int .u64 0, .string ⟨#[]⟩, .slice none 0 0] 30)
  have hb37 := Lib.hid ((heap_alloc_old w6 (.cells #[.int .i64 ok, .int .i64 on, .int .i64 oi, .int .u64 ou, .string os, .slice A6 om.length c6, .int .i64 1, .int .i64 0, .int .i64 0, .int .u64 0, .string ⟨#[]⟩, .slice none 0 0] 30) B3 (by have h1 := (Array.getElem?_eq_some_iff.1 hb3'.out).1; have h2 := h5.size; have h3 := h6.size; omega)).trans ((h6.block B3 (by have h1 := (Array.getElem?_eq_some_iff.1 hb3'.out).1; have h2 := h5.size; omega)).trans ((h5.block B3 (Array.getElem?_eq_some_iff.1 hb3'.out).1).trans hb3'.out)))
  have hbN := Lib.hid (heap_alloc_new w6 (.cells #[.int .i64 ok, .int .i64 on, .int .i64 oi, .int .u64 ou, .string os, .slice A6 om.length c6, .int .i64 1, .int .i64 0, .int .i64 0, .int .u64 0, .string ⟨#[]⟩, .slice none 0 0] 30))
  have hn7 : w6.heap.size < (w6.alloc (.cells #[.int .i64 ok, .int .i64 on, .int .i64 oi, .int .u64 ou, .string os, .slice A6 om.length c6, .int .i64 1, .int .i64 0, .int .i64 0, .int .u64 0, .string ⟨#[]⟩, .slice none 0 0] 30)).heap.size := by simp
  have h47 : Below w4.heap.size w4 (w6.alloc (.cells #[.int .i64 ok, .int .i64 on, .int .i64 oi, .int .u64 ou, .string os, .slice A6 om.length c6, .int .i64 1, .int .i64 0, .int .i64 0, .int .u64 0, .string ⟨#[]⟩, .slice none 0 0] 30)) := (h5.trans (h6.mono h5.size)).alloc (Nat.le_trans h5.size h6.size) (.cells #[.int .i64 ok, .int .i64 on, .int .i64 oi, .int .u64 ou, .string os, .slice A6 om.length c6, .int .i64 1, .int .i64 0, .int .i64 0, .int .u64 0, .string ⟨#[]⟩, .slice none 0 0] 30)
  have hv7 : ∀ p ∈ [(⟨⟨ok, on, oi, ou, os, om⟩, A6, c6⟩ : Vr), ⟨strV, none, 0⟩], VaV (w6.alloc (.cells #[.int .i64 ok, .int .i64 on, .int .i64 oi, .int .u64 ou, .string os, .slice A6 om.length c6, .int .i64 1, .int .i64 0, .int .i64 0, .int .u64 0, .string ⟨#[]⟩, .slice none 0 0] 30)) (fun b => w4.heap.size ≤ b ∧ b < w6.heap.size) p.x p.val := fun p hp => by
    simp only [List.mem_cons, List.not_mem_nil, or_false] at hp
    rcases hp with rfl | rfl
    · exact hvo.to (fun b hb => ⟨⟨Nat.le_trans h5.size hb.1, hb.2⟩, Below.heap_alloc w6 _ b hb.2⟩)
    · exact VaV.mk (x := strV) str_ok (Nat.le_refl _) (fun _ => rfl) (.inl rfl)
  (try dsimp only)
  refine hK.out _ _ (HSZ.out _ g7) (fun hHeld => ?_)
  clear hK K
  (try simp only [Act.put, List.setIfInBounds_toArray, List.set_cons_zero, List.set_cons_succ])
  refine wpAnyH_ready (rs := [21]) (by kernel_rfl) (by simp) ?_
  refine consL rfl (fun K hK => ?_) AllReadyH.nil
  refine step_append_v _ (by rfl) _ _ (by rfl) l3 [(⟨⟨ok, on, oi, ou, os, om⟩, A6, c6⟩ : Vr), ⟨strV, none, 0⟩] 4 2 B3 w6.heap.size w3.heap.size hl3'.out.symm rfl (by rw [hl3'.out]; decide) (by rw [hl3'.out]; show 4 + 2 ≤ 1000; decide) (by rfl) hb37.out hB3 (by rfl) hbN.out g7.size ?_
  rintro v' w7 ⟨BE, cE, hv', hBE, hBEl, hcE, hgE⟩
  rw [show (l3 ++ [(⟨⟨ok, on, oi, ou, os, om⟩, A6, c6⟩ : Vr), ⟨strV, none, 0⟩]).length = 6 by rw [List.length_append, hl3'.out]; rfl] at hv'
  subst hv'
  have g8 : Below w3.heap.size w3 w7 := g7.grown hgE g7.size (fun j ej => by injection ej with ej; have h1 : w3.heap.size ≤ B3 := hB3; omega)
  (try dsimp only)
  refine hK.out _ _ (HSZ.out _ g8) (fun hHeld => ?_)
  clear hK K
  (try simp only [Act.put, List.setIfInBounds_toArray, List.set_cons_zero, List.set_cons_succ])
  refine wpAnyH_takeL (i := 22) (v := ?v16) rfl (by kernel_rfl) (by kernel_rfl) (by kernel_rfl) (fun _ _ _ h => h) (Or.inl ⟨by rfl, ?y16⟩) (by assumption) ?r16
  case y16 => (intro W hSw; (try dsimp only at hSw); go_simp; try with_reducible rfl)
  (try simp only [Act.put, List.setIfInBounds_toArray, List.set_cons_zero, List.set_cons_succ])
  refine wpAnyH_done (by kernel_rfl) ?_ _
  have LE := app_row (n0 := w3.heap.size) hv3 (Array.getElem?_eq_some_iff.1 hb3'.out).1 h47 hv7 hn7 hBEl hcE hgE
  have hlE := Lib.hid (show (l3 ++ [(⟨⟨ok, on, oi, ou, os, om⟩, A6, c6⟩ : Vr), ⟨strV, none, 0⟩]).length = 6 by rw [List.length_append, hl3'.out]; rfl)
  generalize l3 ++ [(⟨⟨ok, on, oi, ou, os, om⟩, A6, c6⟩ : Vr), ⟨strV, none, 0⟩] = lE at *
  have LA := L'.out.call g8
  have h17 : Below w.heap.size w w7 := h13'.out.trans (g8.mono h13'.out.size)
  clear hv3 hv7 hn7 hBEl hcE hgE hb37 hbN hb3' h47 hl3' hvo h6 h5 g4 g5 g6 g7 hw4' HSZ HEl HSO HW45 HS3 L' h13' hd hw4 hw5 g8 hB3 hBE
  go_wp2_with fail
  have hIX := Lib.hid (idx_cells (w7 := w7) ix0)
  have LA0 := LA.call ((Below.refl w7.heap.size w7).alloc (Nat.le_refl _) (.cells #[.int .u64 0, .int .u64 1, .int .u64 (IntKind.u64.wrap ix0), .int .u64 3, .int .u64 4, .int .u64 65535, .int .u64 65536] 27))
  have LE0 := LE.call ((Below.refl w7.heap.size w7).alloc (Nat.le_refl _) (.cells #[.int .u64 0, .int .u64 1, .int .u64 (IntKind.u64.wrap ix0), .int .u64 3, .int .u64 4, .int .u64 65535, .int .u64 65536] 27))
  have h10 := Lib.hid (h17.alloc h17.size (.cells #[.int .u64 0, .int .u64 1, .int .u64 (IntKind.u64.wrap ix0), .int .u64 3, .int .u64 4, .int .u64 65535, .int .u64 65536] 27))
  obtain ⟨BI, hBI⟩ : ∃ z, z = w7.heap.size := ⟨_, rfl⟩
  rw [← hBI] at hIX ⊢
  have hIL : BI < (w7.alloc (.cells #[.int .u64 0, .int .u64 1, .int .u64 (IntKind.u64.wrap ix0), .int .u64 3, .int .u64 4, .int .u64 65535, .int .u64 65536] 27)).heap.size := by rw [hBI]; simp
  clear LA LE h17 hBI
  generalize w7.alloc (.cells #[.int .u64 0, .int .u64 1, .int .u64 (IntKind.u64.wrap ix0), .int .u64 3, .int .u64 4, .int .u64 65535, .int .u64 65536] 27) = V0 at *
  go_loopw [18] (fun v wr => ∃ i : Nat, i ≤ 8 ∧ v = .int .i64 i ∧ Below V0.heap.size V0 wr) (fun v _ => 8 - (intOf v).toNat)
  case atStart => exact ⟨0, by omega, rfl, Below.refl _ _⟩
  case round =>
    obtain ⟨i, hi, rfl, hW⟩ := hrel
    by_cases hi8 : i < 8
    · obtain ⟨x, Ai, ni, ci, _, Hi'⟩ := val_cells LA0 (hl8'.out ▸ hi8)
      obtain ⟨xk, xn, xix, xu, xs, xm⟩ := x
      unfold VrAt at Hi'
      simp only at Hi'
      have Hi := Lib.hid Hi'
      clear Hi'
      have hii : (i : Int) < 8 := by omega
      have hi0 : (0 : Int) ≤ (i : Int) := by omega
      obtain ⟨q0, q1, q2, q3, q4, q5⟩ := (Hi.out wr hW).1
      go_wp2_with fail
      clear q0 q1 q2 q3 q4 q5
      refine Calls.mono (l6own_any (⟨xk, xn, xix, xu, xs, xm⟩ : Va) _ _ (Hi.out wr hW).2) ?_
      rintro e w1 ⟨va, rfl, hva, h1⟩
      obtain ⟨Aa, na, ca, hve⟩ := hva.shape
      have hve' : va = .agg #[.int .i64 xk, .int .i64 xn, .int .i64 xix, .int .u64 xu, .string xs, .slice Aa na ca] := hve
      subst hve'
      clear hve
      go_wp2_with fail
      obtain ⟨wo, rfl⟩ : ∃ wo, wo = wr := ⟨_, rfl⟩
      have hba := Lib.hid (heap_alloc_new w1 (.cells #[.int .i64 xk, .int .i64 xn, .int .i64 xix, .int .u64 xu, .string xs, .slice Aa na ca] 35))
      have hga : w1.heap.size < (w1.alloc (.cells #[.int .i64 xk, .int .i64 xn, .int .i64 xix, .int .u64 xu, .string xs, .slice Aa na ca] 35)).heap.size := by simp
      have h01 := hW.trans (h1.mono hW.size)
      have h02 := h01.alloc h01.size (.cells #[.int .i64 xk, .int .i64 xn, .int .i64 xix, .int .u64 xu, .string xs, .slice Aa na ca] 35)
      have hvA : VaV (w1.alloc (.cells #[.int .i64 xk, .int .i64 xn, .int .i64 xix, .int .u64 xu, .string xs, .slice Aa na ca] 35)) (LoV (w1.alloc (.cells #[.int .i64 xk, .int .i64 xn, .int .i64 xix, .int .u64 xu, .string xs, .slice Aa na ca] 35)).heap.size) (⟨xk, xn, xix, xu, xs, xm⟩ : Va) (.agg #[.int .i64 xk, .int .i64 xn, .int .i64 xix, .int .u64 xu, .string xs, .slice Aa na ca]) := hva.to (fun b hb => ⟨Nat.lt_trans hb.2 hga, Below.heap_alloc w1 _ b hb.2⟩)
      obtain ⟨ga, hgae⟩ : ∃ z, z = w1.heap.size := ⟨_, rfl⟩
      rw [← hgae] at hba hga ⊢
      clear hva h1 h01 hgae
      generalize w1.alloc (.cells #[.int .i64 xk, .int .i64 xn, .int .i64 xix, .int .u64 xu, .string xs, .slice Aa na ca] 35) = V1 at *
      have H02 := Lib.hid h02
      have HXI := Lib.hid (fun W (h : Below V1.heap.size V1 W) => Hi.out W (h02.trans (h.mono h02.size)))
      have HXA := Lib.hid (fun W (h : Below V1.heap.size V1 W) => And.intro (six ((h.block ga hga).trans hba.out)) (hvA.call h))
      have hxok := Lib.hid (Hi.out wo hW).2.1
      clear hvA hba h02
      go_loopw [20] (fun v wr => ∃ k : Nat, k ≤ 7 ∧ v = .int .i64 k ∧ Below V1.heap.size V1 wr) (fun v _ => 7 - (intOf v).toNat)
      case atStart => exact ⟨0, by omega, rfl, Below.refl _ _⟩
      case round =>
        clear hW
        obtain ⟨k, hk, rfl, hW⟩ := hrel
        by_cases hk7 : k < 7
        · obtain ⟨u, hu, hIu⟩ := hIX.out k hk7
          have HU := Lib.hid hu
          have HIU := Lib.hid (fun W (h : Below V1.heap.size V1 W) => hIu W (H02.out.trans (h.mono H02.out.size)))
          have hkk : (k : Int) < 7 := by omega
          have hk0 : (0 : Int) ≤ (k : Int) := by omega
          clear hu hIu
          obtain ⟨wk, rfl⟩ : ∃ wk, wk = wr := ⟨_, rfl⟩
          obtain ⟨rk, rn, ru, rs, re, hrok, hSv, hSr⟩ := sel_both (⟨xk, xn, xix, xu, xs, xm⟩ : Va) u HU.out hxok.out
          have HRok := Lib.hid hrok
          have HSv := Lib.hid (fun W (h : Below V1.heap.size V1 W) => hSv _ W (HXA.out W h).2)
          have HSr := Lib.hid (fun W (h : Below V1.heap.size V1 W) => hSr _ W (HXI.out W h).2)
          clear hrok hSv hSr
          go_wp2_with fail
          have HF1 := Lib.hid (show ∀ W, Below V1.heap.size V1 W → (fun W : World => (W.cell? ⟨ga, 0, none⟩ = some (.int .i64 xk) ∧ W.cell? ⟨ga, 1, none⟩ = some (.int .i64 xn) ∧ W.cell? ⟨ga, 2, none⟩ = some (.int .i64 xix) ∧ W.cell? ⟨ga, 3, none⟩ = some (.int .u64 xu) ∧ W.cell? ⟨ga, 4, none⟩ = some (.string xs) ∧ W.cell? ⟨ga, 5, none⟩ = some (.slice Aa na ca)) ∧ W.cell? ⟨BI, k, none⟩ = some (.int .u64 u)) W from fun W h => ⟨(HXA.out W h).1, HIU.out W h⟩)
          have hd : Below wk.heap.size wk wk.drew := (Below.refl _ _).drew
          apply cont2 (fun g W => Below wk.heap.size wk W ∧ Hid (W.heap[g]? = some (.cells #[.int .i64 rk, .int .i64 rn, .int .i64 0, .int .u64 ru, .string rs, .slice none 0 0] 35 (0, 0))) ∧ g < W.heap.size)
          case hp =>
            intro hcont
            refine wp_region_held_drew (S := fun W => (W.cell? ⟨ga, 0, none⟩ = some (.int .i64 xk) ∧ W.cell? ⟨ga, 1, none⟩ = some (.int .i64 xn) ∧ W.cell? ⟨ga, 2, none⟩ = some (.int .i64 xix) ∧ W.cell? ⟨ga, 3, none⟩ = some (.int .u64 xu) ∧ W.cell? ⟨ga, 4, none⟩ = some (.string xs) ∧ W.cell? ⟨ga, 5, none⟩ = some (.slice Aa na ca)) ∧ W.cell? ⟨BI, k, none⟩ = some (.int .u64 u)) (by kernel_rfl) (HF1.out _ (hW.trans (hd.mono hW.size))) (fun hHeld => ?_)
            (try simp only [List.size_toArray, List.length_cons, List.length_nil, Nat.zero_add, Nat.reduceAdd])
            refine wpAnyH_takeL (i := 0) (v := ?v17) rfl (by kernel_rfl) (by kernel_rfl) (by kernel_rfl) (fun _ _ _ h => h) (Or.inl ⟨by rfl, ?y17⟩) (by assumption) ?r17
            case y17 => (intro W hSw; (try dsimp only at hSw); go_simp; try with_reducible rfl)
            (try simp only [Act.put, List.setIfInBounds_toArray, List.set_cons_zero, List.set_cons_succ])
            refine wpAnyH_takeL (i := 1) (v := ?v18) rfl (by kernel_rfl) (by kernel_rfl) (by kernel_rfl) (fun _ _ _ h => h) (Or.inl ⟨by rfl, ?y18⟩) (by assumption) ?r18
            case y18 => (intro W hSw; (try dsimp only at hSw); go_simp; try with_reducible rfl)
            (try simp only [Act.put, List.setIfInBounds_toArray, List.set_cons_zero, List.set_cons_succ])
            refine wpAnyH_takeL (i := 2) (v := ?v19) rfl (by kernel_rfl) (by kernel_rfl) (by kernel_rfl) (fun _ _ _ h => h) (Or.inl ⟨by rfl, ?y19⟩) (by assumption) ?r19
            case y19 => (intro W hSw; (try dsimp only at hSw); go_simp; try with_reducible rfl)
            (try simp only [Act.put, List.setIfInBounds_toArray, List.set_cons_zero, List.set_cons_succ])
            refine wpAnyH_takeL (i := 3) (v := ?v20) rfl (by kernel_rfl) (by kernel_rfl) (by kernel_rfl) (fun _ _ _ h => h) (Or.inl ⟨by rfl, ?y20⟩) (by assumption) ?r20
            case y20 => (intro W hSw; (try dsimp only at hSw); go_simp; try with_reducible rfl)
            (try simp only [Act.put, List.setIfInBounds_toArray, List.set_cons_zero, List.set_cons_succ])
            refine wpAnyH_takeL (i := 4) (v := ?v21) rfl (by kernel_rfl) (by kernel_rfl) (by kernel_rfl) (fun _ _ _ h => h) (Or.inl ⟨by rfl, ?y21⟩) (by assumption) ?r21
            case y21 => (intro W hSw; (try dsimp only at hSw); go_simp; try with_reducible rfl)
            (try simp only [Act.put, List.setIfInBounds_toArray, List.set_cons_zero, List.set_cons_succ])
            refine wpAnyH_ready (rs := [5, 9]) (by kernel_rfl) (by simp) ?_
            refine consL rfl (fun K hK => ?_) (consL rfl (fun K hK => ?_) AllReadyH.nil)
            · skip
              go_simp
              refine Calls.mono (HSv.out _ (hW.trans (hd.mono hW.size))) ?_
              rintro e w5 ⟨rfl, h5⟩
              have g5 := hd.trans (h5.mono hd.size)
              (try dsimp only)
              refine hK.out _ _ (HF1.out _ (hW.trans (g5.mono hW.size))) (fun hHeld => ?_)
              clear hK K
              (try simp only [Act.put, List.setIfInBounds_toArray, List.set_cons_zero, List.set_cons_succ])
              refine wpAnyH_takeL (i := 6) (v := ?v22) rfl (by kernel_rfl) (by kernel_rfl) (by kernel_rfl) (fun _ _ _ h => h) (Or.inl ⟨by rfl, ?y22⟩) (by assumption) ?r22
              case y22 => (intro W hSw; (try dsimp only at hSw); go_simp; try with_reducible rfl)
              (try simp only [Act.put, List.setIfInBounds_toArray, List.set_cons_zero, List.set_cons_succ])
              refine wpAnyH_takeL (i := 7) (v := ?v23) rfl (by kernel_rfl) (by kernel_rfl) (by kernel_rfl) (fun _ _ _ h => h) (Or.inl ⟨by rfl, ?y23⟩) (by assumption) ?r23
              case y23 => (intro W hSw; (try dsimp only at hSw); go_simp; try with_reducible rfl)
              (try simp only [Act.put, List.setIfInBounds_toArray, List.set_cons_zero, List.set_cons_succ])
              refine wpAnyH_takeL (i := 8) (v := ?v24) rfl (by kernel_rfl) (by kernel_rfl) (by kernel_rfl) (fun _ _ _ h => h) (Or.inl ⟨by rfl, ?y24⟩) (by assumption) ?r24
              case y24 => (intro W hSw; (try dsimp only at hSw); go_simp; try with_reducible rfl)
              (try simp only [Act.put, List.setIfInBounds_toArray, List.set_cons_zero, List.set_cons_succ])
              refine wpAnyH_ready (rs := [9]) (by kernel_rfl) (by simp) ?_
              refine consL rfl (fun K hK => ?_) AllReadyH.nil
              go_simp
              have faz1 := g5.alloc g5.size (.cells #[.int .i64 0, .int .i64 0, .int .i64 0, .int .u64 0, .string ⟨#[]⟩, .slice none 0 0] 35)
              (try dsimp only)
              refine hK.out _ _ (HF1.out _ (hW.trans (faz1.mono hW.size))) (fun hHeld => ?_)
              clear hK K
              (try simp only [Act.put, List.setIfInBounds_toArray, List.set_cons_zero, List.set_cons_succ])
              refine wpAnyH_ready (rs := [10]) (by kernel_rfl) (by simp) ?_
              refine consL rfl (fun K hK => ?_) AllReadyH.nil
              go_simp
              have fag := g5.alloc g5.size (.cells #[.int .i64 rk, .int .i64 rn, .int .i64 0, .int .u64 ru, .string rs, .slice none 0 0] 35)
              (try dsimp only)
              refine hK.out _ _ (HF1.out _ (hW.trans (fag.mono hW.size))) (fun hHeld => ?_)
              clear hK K
              (try simp only [Act.put, List.setIfInBounds_toArray, List.set_cons_zero, List.set_cons_succ])
              refine wpAnyH_takeL (i := 11) (v := ?v25) rfl (by kernel_rfl) (by kernel_rfl) (by kernel_rfl) (fun _ _ _ h => h) (Or.inl ⟨by rfl, ?y25⟩) (by assumption) ?r25
              case y25 => (intro W hSw; (try dsimp only at hSw); go_simp; try with_reducible rfl)
              (try simp only [Act.put, List.setIfInBounds_toArray, List.set_cons_zero, List.set_cons_succ])
              refine wpAnyH_done (by kernel_rfl) ?_ _
              have fab := Lib.hid (heap_alloc_new w5 (.cells #[.int .i64 rk, .int .i64 rn, .int .i64 0, .int .u64 ru, .string rs, .slice none 0 0] 35))
              have fal : w5.heap.size < (w5.alloc (.cells #[.int .i64 rk, .int .i64 rn, .int .i64 0, .int .u64 ru, .string rs, .slice none 0 0] 35)).heap.size := by simp
              obtain ⟨fak, fae⟩ : ∃ z, z = w5.heap.size := ⟨_, rfl⟩
              rw [← fae] at fab fal ⊢
              clear fae
              generalize w5.alloc (.cells #[.int .i64 rk, .int .i64 rn, .int .i64 0, .int .u64 ru, .string rs, .slice none 0 0] 35) = faW at *
              exact hcont fak faW ⟨fag, fab, fal⟩
            · skip
              go_simp
              have faz0 : Below wk.heap.size wk (wk.alloc (.cells #[.int .i64 0, .int .i64 0, .int .i64 0, .int .u64 0, .string ⟨#[]⟩, .slice none 0 0] 35)).drew := hd.alloc hd.size (.cells #[.int .i64 0, .int .i64 0, .int .i64 0, .int .u64 0, .string ⟨#[]⟩, .slice none 0 0] 35)
              have famb := Lib.hid (show (wk.alloc (.cells #[.int .i64 0, .int .i64 0, .int .i64 0, .int .u64 0, .string ⟨#[]⟩, .slice none 0 0] 35)).drew.heap[wk.heap.size]? = some (.cells #[.int .i64 0, .int .i64 0, .int .i64 0, .int .u64 0, .string ⟨#[]⟩, .slice none 0 0] 35 (0, 0)) from heap_alloc_new wk (.cells #[.int .i64 0, .int .i64 0, .int .i64 0, .int .u64 0, .string ⟨#[]⟩, .slice none 0 0] 35))
              have faml : wk.heap.size < (wk.alloc (.cells #[.int .i64 0, .int .i64 0, .int .i64 0, .int .u64 0, .string ⟨#[]⟩, .slice none 0 0] 35)).drew.heap.size := (by simp)
              have famv : wk.heap.size ≤ wk.heap.size := hd.size
              (try dsimp only)
              refine hK.out _ _ (HF1.out _ (hW.trans (faz0.mono hW.size))) (fun hHeld => ?_)
              clear hK K
              (try simp only [Act.put, List.setIfInBounds_toArray, List.set_cons_zero, List.set_cons_succ])
              refine wpAnyH_ready (rs := [5]) (by kernel_rfl) (by simp) ?_
              refine consL rfl (fun K hK => ?_) AllReadyH.nil
              go_simp
              refine Calls.mono (HSv.out _ (hW.trans (faz0.mono hW.size))) ?_
              rintro e w5 ⟨rfl, h5⟩
              have g5 := faz0.trans (h5.mono faz0.size)
              have famk := faml
              replace famb := Lib.hid ((h5.block _ faml).trans famb.out)
              replace faml := Nat.lt_of_lt_of_le faml h5.size
              (try dsimp only)
              refine hK.out _ _ (HF1.out _ (hW.trans (g5.mono hW.size))) (fun hHeld => ?_)
              clear hK K
              (try simp only [Act.put, List.setIfInBounds_toArray, List.set_cons_zero, List.set_cons_succ])
              refine wpAnyH_takeL (i := 6) (v := ?v26) rfl (by kernel_rfl) (by kernel_rfl) (by kernel_rfl) (fun _ _ _ h => h) (Or.inl ⟨by rfl, ?y26⟩) (by assumption) ?r26
              case y26 => (intro W hSw; (try dsimp only at hSw); go_simp; try with_reducible rfl)
              (try simp only [Act.put, List.setIfInBounds_toArray, List.set_cons_zero, List.set_cons_succ])
              refine wpAnyH_takeL (i := 7) (v := ?v27) rfl (by kernel_rfl) (by kernel_rfl) (by kernel_rfl) (fun _ _ _ h => h) (Or.inl ⟨by rfl, ?y27⟩) (by assumption) ?r27
              case y27 => (intro W hSw; (try dsimp only at hSw); go_simp; try with_reducible rfl)
              (try simp only [Act.put, List.setIfInBounds_toArray, List.set_cons_zero, List.set_cons_succ])
              refine wpAnyH_takeL (i := 8) (v := ?v28) rfl (by kernel_rfl) (by kernel_rfl) (by kernel_rfl) (fun _ _ _ h => h) (Or.inl ⟨by rfl, ?y28⟩) (by assumption) ?r28
              case y28 => (intro W hSw; (try dsimp only at hSw); go_simp; try with_reducible rfl)
              (try simp only [Act.put, List.setIfInBounds_toArray, List.set_cons_zero, List.set_cons_succ])
              refine wpAnyH_ready (rs := [10]) (by kernel_rfl) (by simp) ?_
              refine consL rfl (fun K hK => ?_) AllReadyH.nil
              obtain ⟨m0, m1, m2, m3, m4x, m5x⟩ := six famb.out
              have mf := blk_frozen famb.out
              go_simp
              have fag : Below wk.heap.size wk ((((((w5.setCell ⟨wk.heap.size, 0, none⟩ (.int .i64 rk)).setCell ⟨wk.heap.size, 1, none⟩ (.int .i64 rn)).setCell ⟨wk.heap.size, 2, none⟩ (.int .i64 0)).setCell ⟨wk.heap.size, 3, none⟩ (.int .u64 ru)).setCell ⟨wk.heap.size, 4, none⟩ (.string rs)).setCell ⟨wk.heap.size, 5, none⟩ (.slice none 0 0)) := set6_low g5 famv
              (try dsimp only)
              refine hK.out _ _ (HF1.out _ (hW.trans (fag.mono hW.size))) (fun hHeld => ?_)
              clear hK K
              (try simp only [Act.put, List.setIfInBounds_toArray, List.set_cons_zero, List.set_cons_succ])
              refine wpAnyH_takeL (i := 11) (v := ?v29) rfl (by kernel_rfl) (by kernel_rfl) (by kernel_rfl) (fun _ _ _ h => h) (Or.inl ⟨by rfl, ?y29⟩) (by assumption) ?r29
              case y29 => (intro W hSw; (try dsimp only at hSw); go_simp; try with_reducible rfl)
              (try simp only [Act.put, List.setIfInBounds_toArray, List.set_cons_zero, List.set_cons_succ])
              refine wpAnyH_done (by kernel_rfl) ?_ _
              clear m0 m1 m2 m3 m4x m5x mf
              have fab := Lib.hid (set6_at famb.out (.int .i64 rk) (.int .i64 rn) (.int .i64 0) (.int .u64 ru) (.string rs) (.slice none 0 0))
              have fal : wk.heap.size < ((((((w5.setCell ⟨wk.heap.size, 0, none⟩ (.int .i64 rk)).setCell ⟨wk.heap.size, 1, none⟩ (.int .i64 rn)).setCell ⟨wk.heap.size, 2, none⟩ (.int .i64 0)).setCell ⟨wk.heap.size, 3, none⟩ (.int .u64 ru)).setCell ⟨wk.heap.size, 4, none⟩ (.string rs)).setCell ⟨wk.heap.size, 5, none⟩ (.slice none 0 0)).heap.size := by rw [set6_size]; exact faml
              generalize ((((((w5.setCell ⟨wk.heap.size, 0, none⟩ (.int .i64 rk)).setCell ⟨wk.heap.size, 1, none⟩ (.int .i64 rn)).setCell ⟨wk.heap.size, 2, none⟩ (.int .i64 0)).setCell ⟨wk.heap.size, 3, none⟩ (.int .u64 ru)).setCell ⟨wk.heap.size, 4, none⟩ (.string rs)).setCell ⟨wk.heap.size, 5, none⟩ (.slice none 0 0)) = faW at *
              obtain ⟨fak, fae⟩ : ∃ z, z = wk.heap.size := ⟨_, rfl⟩
              rw [← fae] at fab fal ⊢
              clear fae
              exact hcont fak faW ⟨fag, fab, fal⟩
          case hc =>
            clear hd
            intro fak faW faF
            obtain ⟨fag, fab, fal⟩ := faF
            have hV5 := (hW.trans (fag.mono hW.size))
            go_wp2_with fail
            have HF2 := Lib.hid (show ∀ W, Below V1.heap.size V1 W → (fun W : World => (W.cell? ⟨BA, i * 6, none⟩ = some (.int .i64 xk) ∧ W.cell? ⟨BA, i * 6 + 1, none⟩ = some (.int .i64 xn) ∧ W.cell? ⟨BA, i * 6 + 2, none⟩ = some (.int .i64 xix) ∧ W.cell? ⟨BA, i * 6 + 3, none⟩ = some (.int .u64 xu) ∧ W.cell? ⟨BA, i * 6 + 4, none⟩ = some (.string xs) ∧ W.cell? ⟨BA, i * 6 + 5, none⟩ = some (.slice Ai ni ci)) ∧ W.cell? ⟨BI, k, none⟩ = some (.int .u64 u)) W from fun W h => ⟨(HXI.out W h).1, HIU.out W h⟩)
            have hd : Below faW.heap.size faW faW.drew := (Below.refl _ _).drew
            apply cont2 (fun g W => Below faW.heap.size faW W ∧ Hid (W.heap[g]? = some (.cells #[.int .i64 rk, .int .i64 rn, .int .i64 0, .int .u64 ru, .string rs, .slice none 0 0] 30 (0, 0))) ∧ g < W.heap.size)
            case hp =>
              intro hcont
              refine wp_region_held_drew (S := fun W => (W.cell? ⟨BA, i * 6, none⟩ = some (.int .i64 xk) ∧ W.cell? ⟨BA, i * 6 + 1, none⟩ = some (.int .i64 xn) ∧ W.cell? ⟨BA, i * 6 + 2, none⟩ = some (.int .i64 xix) ∧ W.cell? ⟨BA, i * 6 + 3, none⟩ = some (.int .u64 xu) ∧ W.cell? ⟨BA, i * 6 + 4, none⟩ = some (.string xs) ∧ W.cell? ⟨BA, i * 6 + 5, none⟩ = some (.slice Ai ni ci)) ∧ W.cell? ⟨BI, k, none⟩ = some (.int .u64 u)) (by kernel_rfl) (HF2.out _ (hV5.trans (hd.mono hV5.size))) (fun hHeld => ?_)
              (try simp only [List.size_toArray, List.length_cons, List.length_nil, Nat.zero_add, Nat.reduceAdd])
              refine wpAnyH_takeL (i := 0) (v := ?v30) rfl (by kernel_rfl) (by kernel_rfl) (by kernel_rfl) (fun _ _ _ h => h) (Or.inl ⟨by rfl, ?y30⟩) (by assumption) ?r30
              case y30 => (intro W hSw; (try dsimp only at hSw); go_simp; try with_reducible rfl)
              (try simp only [Act.put, List.setIfInBounds_toArray, List.set_cons_zero, List.set_cons_succ])
              refine wpAnyH_takeL (i := 1) (v := ?v31) rfl (by kernel_rfl) (by kernel_rfl) (by kernel_rfl) (fun _ _ _ h => h) (Or.inl ⟨by rfl, ?y31⟩) (by assumption) ?r31
              case y31 => (intro W hSw; (try dsimp only at hSw); go_simp; try with_reducible rfl)
              (try simp only [Act.put, List.setIfInBounds_toArray, List.set_cons_zero, List.set_cons_succ])
              refine wpAnyH_takeL (i := 2) (v := ?v32) rfl (by kernel_rfl) (by kernel_rfl) (by kernel_rfl) (fun _ _ _ h => h) (Or.inl ⟨by rfl, ?y32⟩) (by assumption) ?r32
              case y32 => (intro W hSw; (try dsimp only at hSw); go_simp; try with_reducible rfl)
              (try simp only [Act.put, List.setIfInBounds_toArray, List.set_cons_zero, List.set_cons_succ])
              refine wpAnyH_takeL (i := 3) (v := ?v33) rfl (by kernel_rfl) (by kernel_rfl) (by kernel_rfl) (fun _ _ _ h => h) (Or.inl ⟨by rfl, ?y33⟩) (by assumption) ?r33
              case y33 => (intro W hSw; (try dsimp only at hSw); go_simp; try with_reducible rfl)
              (try simp only [Act.put, List.setIfInBounds_toArray, List.set_cons_zero, List.set_cons_succ])
              refine wpAnyH_takeL (i := 4) (v := ?v34) rfl (by kernel_rfl) (by kernel_rfl) (by kernel_rfl) (fun _ _ _ h => h) (Or.inl ⟨by rfl, ?y34⟩) (by assumption) ?r34
              case y34 => (intro W hSw; (try dsimp only at hSw); go_simp; try with_reducible rfl)
              (try simp only [Act.put, List.setIfInBounds_toArray, List.set_cons_zero, List.set_cons_succ])
              refine wpAnyH_takeL (i := 5) (v := ?v35) rfl (by kernel_rfl) (by kernel_rfl) (by kernel_rfl) (fun _ _ _ h => h) (Or.inl ⟨by rfl, ?y35⟩) (by assumption) ?r35
              case y35 => (intro W hSw; (try dsimp only at hSw); go_simp; try with_reducible rfl)
              (try simp only [Act.put, List.setIfInBounds_toArray, List.set_cons_zero, List.set_cons_succ])
              refine wpAnyH_takeL (i := 6) (v := ?v36) rfl (by kernel_rfl) (by kernel_rfl) (by kernel_rfl) (fun _ _ _ h => h) (Or.inl ⟨by rfl, ?y36⟩) (by assumption) ?r36
              case y36 => (intro W hSw; (try dsimp only at hSw); go_simp; try with_reducible rfl)
              (try simp only [Act.put, List.setIfInBounds_toArray, List.set_cons_zero, List.set_cons_succ])
              refine wpAnyH_takeL (i := 7) (v := ?v37) rfl (by kernel_rfl) (by kernel_rfl) (by kernel_rfl) (fun _ _ _ h => h) (Or.inl ⟨by rfl, ?y37⟩) (by assumption) ?r37
              case y37 => (intro W hSw; (try dsimp only at hSw); go_simp; try with_reducible rfl)
              (try simp only [Act.put, List.setIfInBounds_toArray, List.set_cons_zero, List.set_cons_succ])
              refine wpAnyH_ready (rs := [8, 12]) (by kernel_rfl) (by simp) ?_
              refine consL rfl (fun K hK => ?_) (consL rfl (fun K hK => ?_) AllReadyH.nil)
              · skip
                go_simp
                refine Calls.mono (HSr.out _ (hV5.trans (hd.mono hV5.size))) ?_
                rintro e w5 ⟨rfl, h5⟩
                have g5 := hd.trans (h5.mono hd.size)
                (try dsimp only)
                refine hK.out _ _ (HF2.out _ (hV5.trans (g5.mono hV5.size))) (fun hHeld => ?_)
                clear hK K
                (try simp only [Act.put, List.setIfInBounds_toArray, List.set_cons_zero, List.set_cons_succ])
                refine wpAnyH_takeL (i := 9) (v := ?v38) rfl (by kernel_rfl) (by kernel_rfl) (by kernel_rfl) (fun _ _ _ h => h) (Or.inl ⟨by rfl, ?y38⟩) (by assumption) ?r38
                case y38 => (intro W hSw; (try dsimp only at hSw); go_simp; try with_reducible rfl)
                (try simp only [Act.put, List.setIfInBounds_toArray, List.set_cons_zero, List.set_cons_succ])
                refine wpAnyH_takeL (i := 10) (v := ?v39) rfl (by kernel_rfl) (by kernel_rfl) (by kernel_rfl) (fun _ _ _ h => h) (Or.inl ⟨by rfl, ?y39⟩) (by assumption) ?r39
                case y39 => (intro W hSw; (try dsimp only at hSw); go_simp; try with_reducible rfl)
                (try simp only [Act.put, List.setIfInBounds_toArray, List.set_cons_zero, List.set_cons_succ])
                refine wpAnyH_takeL (i := 11) (v := ?v40) rfl (by kernel_rfl) (by kernel_rfl) (by kernel_rfl) (fun _ _ _ h => h) (Or.inl ⟨by rfl, ?y40⟩) (by assumption) ?r40
                case y40 => (intro W hSw; (try dsimp only at hSw); go_simp; try with_reducible rfl)
                (try simp only [Act.put, List.setIfInBounds_toArray, List.set_cons_zero, List.set_cons_succ])
                refine wpAnyH_ready (rs := [12]) (by kernel_rfl) (by simp) ?_
                refine consL rfl (fun K hK => ?_) AllReadyH.nil
                go_simp
                have fbz1 := g5.alloc g5.size (.cells #[.int .i64 0, .int .i64 0, .int .i64 0, .int .u64 0, .string ⟨#[]⟩, .slice none 0 0] 30)
                (try dsimp only)
                refine hK.out _ _ (HF2.out _ (hV5.trans (fbz1.mono hV5.size))) (fun hHeld => ?_)
                clear hK K
                (try simp only [Act.put, List.setIfInBounds_toArray, List.set_cons_zero, List.set_cons_succ])
                refine wpAnyH_ready (rs := [13]) (by kernel_rfl) (by simp) ?_
                refine consL rfl (fun K hK => ?_) AllReadyH.nil
                go_simp
                have fbg := g5.alloc g5.size (.cells #[.int .i64 rk, .int .i64 rn, .int .i64 0, .int .u64 ru, .string rs, .slice none 0 0] 30)
                (try dsimp only)
                refine hK.out _ _ (HF2.out _ (hV5.trans (fbg.mono hV5.size))) (fun hHeld => ?_)
                clear hK K
                (try simp only [Act.put, List.setIfInBounds_toArray, List.set_cons_zero, List.set_cons_succ])
                refine wpAnyH_takeL (i := 14) (v := ?v41) rfl (by kernel_rfl) (by kernel_rfl) (by kernel_rfl) (fun _ _ _ h => h) (Or.inl ⟨by rfl, ?y41⟩) (by assumption) ?r41
                case y41 => (intro W hSw; (try dsimp only at hSw); go_simp; try with_reducible rfl)
                (try simp only [Act.put, List.setIfInBounds_toArray, List.set_cons_zero, List.set_cons_succ])
                refine wpAnyH_done (by kernel_rfl) ?_ _
                have fbb := Lib.hid (heap_alloc_new w5 (.cells #[.int .i64 rk, .int .i64 rn, .int .i64 0, .int .u64 ru, .string rs, .slice none 0 0] 30))
                have fbl : w5.heap.size < (w5.alloc (.cells #[.int .i64 rk, .int .i64 rn, .int .i64 0, .int .u64 ru, .string rs, .slice none 0 0] 30)).heap.size := by simp
                obtain ⟨fbk, fbe⟩ : ∃ z, z = w5.heap.size := ⟨_, rfl⟩
                rw [← fbe] at fbb fbl ⊢
                clear fbe
                generalize w5.alloc (.cells #[.int .i64 rk, .int .i64 rn, .int .i64 0, .int .u64 ru, .string rs, .slice none 0 0] 30) = fbW at *
                exact hcont fbk fbW ⟨fbg, fbb, fbl⟩
              · skip
                go_simp
                have fbz0 : Below faW.heap.size faW (faW.alloc (.cells #[.int .i64 0, .int .i64 0, .int .i64 0, .int .u64 0, .string ⟨#[]⟩, .slice none 0 0] 30)).drew := hd.alloc hd.size (.cells #[.int .i64 0, .int .i64 0, .int .i64 0, .int .u64 0, .string ⟨#[]⟩, .slice none 0 0] 30)
                have fbmb := Lib.hid (show (faW.alloc (.cells #[.int .i64 0, .int .i64 0, .int .i64 0, .int .u64 0, .string ⟨#[]⟩, .slice none 0 0] 30)).drew.heap[faW.heap.size]? = some (.cells #[.int .i64 0, .int .i64 0, .int .i64 0, .int .u64 0, .string ⟨#[]⟩, .slice none 0 0] 30 (0, 0)) from heap_alloc_new faW (.cells #[.int .i64 0, .int .i64 0, .int .i64 0, .int .u64 0, .string ⟨#[]⟩, .slice none 0 0] 30))
                have fbml : faW.heap.size < (faW.alloc (.cells #[.int .i64 0, .int .i64 0, .int .i64 0, .int .u64 0, .string ⟨#[]⟩, .slice none 0 0] 30)).drew.heap.size := (by simp)
                have fbmv : faW.heap.size ≤ faW.heap.size := hd.size
                (try dsimp only)
                refine hK.out _ _ (HF2.out _ (hV5.trans (fbz0.mono hV5.size))) (fun hHeld => ?_)
                clear hK K
                (try simp only [Act.put, List.setIfInBounds_toArray, List.set_cons_zero, List.set_cons_succ])
                refine wpAnyH_ready (rs := [8]) (by kernel_rfl) (by simp) ?_
                refine consL rfl (fun K hK => ?_) AllReadyH.nil
                go_simp
                refine Calls.mono (HSr.out _ (hV5.trans (fbz0.mono hV5.size))) ?_
                rintro e w5 ⟨rfl, h5⟩
                have g5 := fbz0.trans (h5.mono fbz0.size)
                have fbmk := fbml
                replace fbmb := Lib.hid ((h5.block _ fbml).trans fbmb.out)
                replace fbml := Nat.lt_of_lt_of_le fbml h5.size
                (try dsimp only)
                refine hK.out _ _ (HF2.out _ (hV5.trans (g5.mono hV5.size))) (fun hHeld => ?_)
                clear hK K
                (try simp only [Act.put, List.setIfInBounds_toArray, List.set_cons_zero, List.set_cons_succ])
                refine wpAnyH_takeL (i := 9) (v := ?v42) rfl (by kernel_rfl) (by kernel_rfl) (by kernel_rfl) (fun _ _ _ h => h) (Or.inl ⟨by rfl, ?y42⟩) (by assumption) ?r42
                case y42 => (intro W hSw; (try dsimp only at hSw); go_simp; try with_reducible rfl)
                (try simp only [Act.put, List.setIfInBounds_toArray, List.set_cons_zero, List.set_cons_succ])
                refine wpAnyH_takeL (i := 10) (v := ?v43) rfl (by kernel_rfl) (by kernel_rfl) (by kernel_rfl) (fun _ _ _ h => h) (Or.inl ⟨by rfl, ?y43⟩) (by assumption) ?r43
                case y43 => (intro W hSw; (try dsimp only at hSw); go_simp; try with_reducible rfl)
                (try simp only [Act.put, List.setIfInBounds_toArray, List.set_cons_zero, List.set_cons_succ])
                refine wpAnyH_takeL (i := 11) (v := ?v44) rfl (by kernel_rfl) (by kernel_rfl) (by kernel_rfl) (fun _ _ _ h => h) (Or.inl ⟨by rfl, ?y44⟩) (by assumption) ?r44
                case y44 => (intro W hSw; (try dsimp only at hSw); go_simp; try with_reducible rfl)
                (try simp only [Act.put, List.setIfInBounds_toArray, List.set_cons_zero, List.set_cons_succ])
                refine wpAnyH_ready (rs := [13]) (by kernel_rfl) (by simp) ?_
                refine consL rfl (fun K hK => ?_) AllReadyH.nil
                obtain ⟨m0, m1, m2, m3, m4x, m5x⟩ := six fbmb.out
                have mf := blk_frozen fbmb.out
                go_simp
                have fbg : Below faW.heap.size faW ((((((w5.setCell ⟨faW.heap.size, 0, none⟩ (.int .i64 rk)).setCell ⟨faW.heap.size, 1, none⟩ (.int .i64 rn)).setCell ⟨faW.heap.size, 2, none⟩ (.int .i64 0)).setCell ⟨faW.heap.size, 3, none⟩ (.int .u64 ru)).setCell ⟨faW.heap.size, 4, none⟩ (.string rs)).setCell ⟨faW.heap.size, 5, none⟩ (.slice none 0 0)) := set6_low g5 fbmv
                (try dsimp only)
                refine hK.out _ _ (HF2.out _ (hV5.trans (fbg.mono hV5.size))) (fun hHeld => ?_)
                clear hK K
                (try simp only [Act.put, List.setIfInBounds_toArray, List.set_cons_zero, List.set_cons_succ])
                refine wpAnyH_takeL (i := 14) (v := ?v45) rfl (by kernel_rfl) (by kernel_rfl) (by kernel_rfl) (fun _ _ _ h => h) (Or.inl ⟨by rfl, ?y45⟩) (by assumption) ?r45
                case y45 => (intro W hSw; (try dsimp only at hSw); go_simp; try with_reducible rfl)
                (try simp only [Act.put, List.setIfInBounds_toArray, List.set_cons_zero, List.set_cons_succ])
                refine wpAnyH_done (by kernel_rfl) ?_ _
                clear m0 m1 m2 m3 m4x m5x mf
                have fbb := Lib.hid (set6_at fbmb.out (.int .i64 rk) (.int .i64 rn) (.int .i64 0) (.int .u64 ru) (.string rs) (.slice none 0 0))
                have fbl : faW.heap.size < ((((((w5.setCell ⟨faW.heap.size, 0, none⟩ (.int .i64 rk)).setCell ⟨faW.heap.size, 1, none⟩ (.int .i64 rn)).setCell ⟨faW.heap.size, 2, none⟩ (.int .i64 0)).setCell ⟨faW.heap.size, 3, none⟩ (.int .u64 ru)).setCell ⟨faW.heap.size, 4, none⟩ (.string rs)).setCell ⟨faW.heap.size, 5, none⟩ (.slice none 0 0)).heap.size := by rw [set6_size]; exact fbml
                generalize ((((((w5.setCell ⟨faW.heap.size, 0, none⟩ (.int .i64 rk)).setCell ⟨faW.heap.size, 1, none⟩ (.int .i64 rn)).setCell ⟨faW.heap.size, 2, none⟩ (.int .i64 0)).setCell ⟨faW.heap.size, 3, none⟩ (.int .u64 ru)).setCell ⟨faW.heap.size, 4, none⟩ (.string rs)).setCell ⟨faW.heap.size, 5, none⟩ (.slice none 0 0)) = fbW at *
                obtain ⟨fbk, fbe⟩ : ∃ z, z = faW.heap.size := ⟨_, rfl⟩
                rw [← fbe] at fbb fbl ⊢
                clear fbe
                exact hcont fbk fbW ⟨fbg, fbb, fbl⟩
            case hc =>
              clear hd
              intro fbk fbW fbF
              obtain ⟨fbg, fbb, fbl⟩ := fbF
              have hV6 := (hV5.trans (fbg.mono hV5.size))
              have hab := Lib.hid ((fbg.block fak fal).trans fab.out)
              have hal := Nat.lt_of_lt_of_le fal fbg.size
              have HF3 := Lib.hid (show ∀ W, Below fbW.heap.size fbW W → (fun W : World => (W.cell? ⟨fak, 0, none⟩ = some (.int .i64 rk) ∧ W.cell? ⟨fak, 1, none⟩ = some (.int .i64 rn) ∧ W.cell? ⟨fak, 2, none⟩ = some (.int .i64 0) ∧ W.cell? ⟨fak, 3, none⟩ = some (.int .u64 ru) ∧ W.cell? ⟨fak, 4, none⟩ = some (.string rs) ∧ W.cell? ⟨fak, 5, none⟩ = some (.slice none 0 0)) ∧ W.cell? ⟨fbk, 0, none⟩ = some (.int .i64 rk) ∧ W.cell? ⟨fbk, 1, none⟩ = some (.int .i64 rn) ∧ W.cell? ⟨fbk, 2, none⟩ = some (.int .i64 0) ∧ W.cell? ⟨fbk, 3, none⟩ = some (.int .u64 ru) ∧ W.cell? ⟨fbk, 4, none⟩ = some (.string rs) ∧ W.cell? ⟨fbk, 5, none⟩ = some (.slice none 0 0)) W from fun W h => ⟨six ((h.block _ hal).trans hab.out), six ((h.block _ fbl).trans fbb.out)⟩)
              have HCR := Lib.hid (show (vaCmp (⟨rk, rn, 0, ru, rs, []⟩ : Va) (⟨rk, rn, 0, ru, rs, []⟩ : Va) == 0) = true from by rw [(vaCmp_zero _ _).2 rfl]; rfl)
              go_wp2_with fail
              have hd : Below fbW.heap.size fbW fbW.drew := (Below.refl _ _).drew
              refine wp_region_held_drew (S := fun W => (W.cell? ⟨fak, 0, none⟩ = some (.int .i64 rk) ∧ W.cell? ⟨fak, 1, none⟩ = some (.int .i64 rn) ∧ W.cell? ⟨fak, 2, none⟩ = some (.int .i64 0) ∧ W.cell? ⟨fak, 3, none⟩ = some (.int .u64 ru) ∧ W.cell? ⟨fak, 4, none⟩ = some (.string rs) ∧ W.cell? ⟨fak, 5, none⟩ = some (.slice none 0 0)) ∧ W.cell? ⟨fbk, 0, none⟩ = some (.int .i64 rk) ∧ W.cell? ⟨fbk, 1, none⟩ = some (.int .i64 rn) ∧ W.cell? ⟨fbk, 2, none⟩ = some (.int .i64 0) ∧ W.cell? ⟨fbk, 3, none⟩ = some (.int .u64 ru) ∧ W.cell? ⟨fbk, 4, none⟩ = some (.string rs) ∧ W.cell? ⟨fbk, 5, none⟩ = some (.slice none 0 0)) (by kernel_rfl) (HF3.out _ hd) (fun hHeld => ?_)
              (try simp only [List.size_toArray, List.length_cons, List.length_nil, Nat.zero_add, Nat.reduceAdd])
              refine wpAnyH_takeL (i := 0) (v := ?v46) rfl (by kernel_rfl) (by kernel_rfl) (by kernel_rfl) (fun _ _ _ h => h) (Or.inl ⟨by rfl, ?y46⟩) (by assumption) ?r46
              case y46 => (intro W hSw; (try dsimp only at hSw); go_simp; try with_reducible rfl)
              (try simp only [Act.put, List.setIfInBounds_toArray, List.set_cons_zero, List.set_cons_succ])
              refine wpAnyH_takeL (i := 1) (v := ?v47) rfl (by kernel_rfl) (by kernel_rfl) (by kernel_rfl) (fun _ _ _ h => h) (Or.inl ⟨by rfl, ?y47⟩) (by assumption) ?r47
              case y47 => (intro W hSw; (try dsimp only at hSw); go_simp; try with_reducible rfl)
              (try simp only [Act.put, List.setIfInBounds_toArray, List.set_cons_zero, List.set_cons_succ])
              refine wpAnyH_takeL (i := 2) (v := ?v48) rfl (by kernel_rfl) (by kernel_rfl) (by kernel_rfl) (fun _ _ _ h => h) (Or.inl ⟨by rfl, ?y48⟩) (by assumption) ?r48
              case y48 => (intro W hSw; (try dsimp only at hSw); go_simp; try with_reducible rfl)
              (try simp only [Act.put, List.setIfInBounds_toArray, List.set_cons_zero, List.set_cons_succ])
              refine wpAnyH_takeL (i := 3) (v := ?v49) rfl (by kernel_rfl) (by kernel_rfl) (by kernel_rfl) (fun _ _ _ h => h) (Or.inl ⟨by rfl, ?y49⟩) (by assumption) ?r49
              case y49 => (intro W hSw; (try dsimp only at hSw); go_simp; try with_reducible rfl)
              (try simp only [Act.put, List.setIfInBounds_toArray, List.set_cons_zero, List.set_cons_succ])
              refine wpAnyH_takeL (i := 4) (v := ?v50) rfl (by kernel_rfl) (by kernel_rfl) (by kernel_rfl) (fun _ _ _ h => h) (Or.inl ⟨by rfl, ?y50⟩) (by assumption) ?r50
              case y50 => (intro W hSw; (try dsimp only at hSw); go_simp; try with_reducible rfl)
              (try simp only [Act.put, List.setIfInBounds_toArray, List.set_cons_zero, List.set_cons_succ])
              refine wpAnyH_takeL (i := 6) (v := ?v51) rfl (by kernel_rfl) (by kernel_rfl) (by kernel_rfl) (fun _ _ _ h => h) (Or.inl ⟨by rfl, ?y51⟩) (by assumption) ?r51
              case y51 => (intro W hSw; (try dsimp only at hSw); go_simp; try with_reducible rfl)
              (try simp only [Act.put, List.setIfInBounds_toArray, List.set_cons_zero, List.set_cons_succ])
              refine wpAnyH_ready (rs := [5]) (by kernel_rfl) (by simp) ?_
              refine consL rfl (fun K hK => ?_) AllReadyH.nil
              go_simp
              refine Calls.mono (l6plain_any (⟨rk, rn, 0, ru, rs, []⟩ : Va) _ _ (elVal HRok.out)) ?_
              rintro e w7 ⟨v7, rfl, hv7, h7⟩
              have hy7 : VaV w7 (LoV w7.heap.size) (⟨rk, rn, 0, ru, rs, []⟩ : Va) v7 := hv7.sub (fun b hb => hb.2)
              have g7 := hd.trans (h7.mono hd.size)
              (try dsimp only)
              refine hK.out _ _ (HF3.out _ g7) (fun hHeld => ?_)
              clear hK K
              (try simp only [Act.put, List.setIfInBounds_toArray, List.set_cons_zero, List.set_cons_succ])
              refine wpAnyH_ready (rs := [7]) (by kernel_rfl) (by simp) ?_
              refine consL rfl (fun K hK => ?_) AllReadyH.nil
              go_simp
              refine Calls.mono (r6Same_any (⟨rk, rn, 0, ru, rs, []⟩ : Va) (⟨rk, rn, 0, ru, rs, []⟩ : Va) _ _ _ hy7 (elVal HRok.out)) ?_
              rw [HCR.out]
              rintro e w8 ⟨rfl, h8⟩
              have g8 := g7.trans (h8.mono g7.size)
              (try dsimp only)
              refine hK.out _ _ (HF3.out _ g8) (fun hHeld => ?_)
              clear hK K
              (try simp only [Act.put, List.setIfInBounds_toArray, List.set_cons_zero, List.set_cons_succ])
              refine wpAnyH_takeL (i := 8) (v := ?v52) rfl (by kernel_rfl) (by kernel_rfl) (by kernel_rfl) (fun _ _ _ h => h) (Or.inl ⟨by rfl, ?y52⟩) (by assumption) ?r52
              case y52 => (intro W hSw; (try dsimp only at hSw); go_simp; try with_reducible rfl)
              (try simp only [Act.put, List.setIfInBounds_toArray, List.set_cons_zero, List.set_cons_succ])
              refine wpAnyH_takeL (i := 9) (v := ?v53) rfl (by kernel_rfl) (by kernel_rfl) (by kernel_rfl) (fun _ _ _ h => h) (Or.inl ⟨by rfl, ?y53⟩) (by assumption) ?r53
              case y53 => (intro W hSw; (try dsimp only at hSw); go_simp; try with_reducible rfl)
              (try simp only [Act.put, List.setIfInBounds_toArray, List.set_cons_zero, List.set_cons_succ])
              refine wpAnyH_done (by kernel_rfl) ?_ _
              have hV8 := (hV6.trans (g8.mono hV6.size))
              clear hd g7 g8 hv7 hy7 h7 h8 hab hal fag fab fal fbg fbb fbl hV5 hV6 HF2 HF1 HF3 HCR
              go_wp2_with fail
              go_loopw [25] (fun v wr => ∃ j : Nat, j ≤ 6 ∧ v = .int .i64 j ∧ Below V1.heap.size V1 wr) (fun v _ => 6 - (intOf v).toNat)
              case atStart => exact ⟨0, by omega, rfl, hV8⟩
              case round =>
                clear hV8
                obtain ⟨j, hj, rfl, hJ⟩ := hrel
                by_cases hj6 : j < 6
                · obtain ⟨y, Ay, ny, cy, _, Hj'⟩ := val_cells LE0 (hlE.out ▸ hj6)
                  obtain ⟨yk, yn, yi, yu, ys, ym⟩ := y
                  unfold VrAt at Hj'
                  simp only at Hj'
                  have HXJ := Lib.hid (fun W (h : Below V1.heap.size V1 W) => Hj' W (H02.out.trans (h.mono H02.out.size)))
                  clear Hj'
                  have hjj : (j : Int) < 6 := by omega
                  have hj0 : (0 : Int) ≤ (j : Int) := by omega
                  obtain ⟨sv, se, hst1, hst2⟩ := sto_both (⟨xk, xn, xix, xu, xs, xm⟩ : Va) (⟨yk, yn, yi, yu, ys, ym⟩ : Va) u HU.out
                  obtain ⟨sk, sn, si, su, ss, sm⟩ := sv
                  have HS1 := Lib.hid hst1
                  have HS2 := Lib.hid hst2
                  clear hst1 hst2
                  go_wp2_with fail
                  have HF4 := Lib.hid (show ∀ W, Below V1.heap.size V1 W → (fun W : World => (W.cell? ⟨ga, 0, none⟩ = some (.int .i64 xk) ∧ W.cell? ⟨ga, 1, none⟩ = some (.int .i64 xn) ∧ W.cell? ⟨ga, 2, none⟩ = some (.int .i64 xix) ∧ W.cell? ⟨ga, 3, none⟩ = some (.int .u64 xu) ∧ W.cell? ⟨ga, 4, none⟩ = some (.string xs) ∧ W.cell? ⟨ga, 5, none⟩ = some (.slice Aa na ca)) ∧ W.cell? ⟨BI, k, none⟩ = some (.int .u64 u) ∧ W.cell? ⟨BE, j * 6, none⟩ = some (.int .i64 yk) ∧ W.cell? ⟨BE, j * 6 + 1, none⟩ = some (.int .i64 yn) ∧ W.cell? ⟨BE, j * 6 + 2, none⟩ = some (.int .i64 yi) ∧ W.cell? ⟨BE, j * 6 + 3, none⟩ = some (.int .u64 yu) ∧ W.cell? ⟨BE, j * 6 + 4, none⟩ = some (.string ys) ∧ W.cell? ⟨BE, j * 6 + 5, none⟩ = some (.slice Ay ny cy)) W from fun W h => ⟨(HXA.out W h).1, HIU.out W h, (HXJ.out W h).1⟩)
                  have hd : Below wr.heap.size wr wr.drew := (Below.refl _ _).drew
                  apply cont8 (fun g W Aq nq cq As ns cs => Below wr.heap.size wr W ∧ Hid (W.heap[g]? = some (.cells #[.int .i64 sk, .int .i64 sn, .int .i64 si, .int .u64 su, .string ss, .slice As ns cs] 35 (0, 0))) ∧ g < W.heap.size ∧ VaV W (LoV W.heap.size) (⟨sk, sn, si, su, ss, sm⟩ : Va) (.agg #[.int .i64 sk, .int .i64 sn, .int .i64 si, .int .u64 su, .string ss, .slice As ns cs]))
                  case hp =>
                    intro hcont
                    refine wp_region_held_drew (S := fun W => (W.cell? ⟨ga, 0, none⟩ = some (.int .i64 xk) ∧ W.cell? ⟨ga, 1, none⟩ = some (.int .i64 xn) ∧ W.cell? ⟨ga, 2, none⟩ = some (.int .i64 xix) ∧ W.cell? ⟨ga, 3, none⟩ = some (.int .u64 xu) ∧ W.cell? ⟨ga, 4, none⟩ = some (.string xs) ∧ W.cell? ⟨ga, 5, none⟩ = some (.slice Aa na ca)) ∧ W.cell? ⟨BI, k, none⟩ = some (.int .u64 u) ∧ W.cell? ⟨BE, j * 6, none⟩ = some (.int .i64 yk) ∧ W.cell? ⟨BE, j * 6 + 1, none⟩ = some (.int .i64 yn) ∧ W.cell? ⟨BE, j * 6 + 2, none⟩ = some (.int .i64 yi) ∧ W.cell? ⟨BE, j * 6 + 3, none⟩ = some (.int .u64 yu) ∧ W.cell? ⟨BE, j * 6 + 4, none⟩ = some (.string ys) ∧ W.cell? ⟨BE, j * 6 + 5, none⟩ = some (.slice Ay ny cy)) (by kernel_rfl) (HF4.out _ (hJ.trans (hd.mono hJ.size))) (fun hHeld => ?_)
                    (try simp only [List.size_toArray, List.length_cons, List.length_nil, Nat.zero_add, Nat.reduceAdd])
                    refine wpAnyH_takeL (i := 0) (v := ?v54) rfl (by kernel_rfl) (by kernel_rfl) (by kernel_rfl) (fun _ _ _ h => h) (Or.inl ⟨by rfl, ?y54⟩) (by assumption) ?r54
                    case y54 => (intro W hSw; (try dsimp only at hSw); go_simp; try with_reducible rfl)
                    (try simp only [Act.put, List.setIfInBounds_toArray, List.set_cons_zero, List.set_cons_succ])
                    refine wpAnyH_takeL (i := 1) (v := ?v55) rfl (by kernel_rfl) (by kernel_rfl) (by kernel_rfl) (fun _ _ _ h => h) (Or.inl ⟨by rfl, ?y55⟩) (by assumption) ?r55
                    case y55 => (intro W hSw; (try dsimp only at hSw); go_simp; try with_reducible rfl)
                    (try simp only [Act.put, List.setIfInBounds_toArray, List.set_cons_zero, List.set_cons_succ])
                    refine wpAnyH_takeL (i := 2) (v := ?v56) rfl (by kernel_rfl) (by kernel_rfl) (by kernel_rfl) (fun _ _ _ h => h) (Or.inl ⟨by rfl, ?y56⟩) (by assumption) ?r56
                    case y56 => (intro W hSw; (try dsimp only at hSw); go_simp; try with_reducible rfl)
                    (try simp only [Act.put, List.setIfInBounds_toArray, List.set_cons_zero, List.set_cons_succ])
                    refine wpAnyH_takeL (i := 3) (v := ?v57) rfl (by kernel_rfl) (by kernel_rfl) (by kernel_rfl) (fun _ _ _ h => h) (Or.inl ⟨by rfl, ?y57⟩) (by assumption) ?r57
                    case y57 => (intro W hSw; (try dsimp only at hSw); go_simp; try with_reducible rfl)
                    (try simp only [Act.put, List.setIfInBounds_toArray, List.set_cons_zero, List.set_cons_succ])
                    refine wpAnyH_takeL (i := 4) (v := ?v58) rfl (by kernel_rfl) (by kernel_rfl) (by kernel_rfl) (fun _ _ _ h => h) (Or.inl ⟨by rfl, ?y58⟩) (by assumption) ?r58
                    case y58 => (intro W hSw; (try dsimp only at hSw); go_simp; try with_reducible rfl)
                    (try simp only [Act.put, List.setIfInBounds_toArray, List.set_cons_zero, List.set_cons_succ])
                    refine wpAnyH_takeL (i := 5) (v := ?v59) rfl (by kernel_rfl) (by kernel_rfl) (by kernel_rfl) (fun _ _ _ h => h) (Or.inl ⟨by rfl, ?y59⟩) (by assumption) ?r59
                    case y59 => (intro W hSw; (try dsimp only at hSw); go_simp; try with_reducible rfl)
                    (try simp only [Act.put, List.setIfInBounds_toArray, List.set_cons_zero, List.set_cons_succ])
                    refine wpAnyH_takeL (i := 6) (v := ?v60) rfl (by kernel_rfl) (by kernel_rfl) (by kernel_rfl) (fun _ _ _ h => h) (Or.inl ⟨by rfl, ?y60⟩) (by assumption) ?r60
                    case y60 => (intro W hSw; (try dsimp only at hSw); go_simp; try with_reducible rfl)
                    (try simp only [Act.put, List.setIfInBounds_toArray, List.set_cons_zero, List.set_cons_succ])
                    refine wpAnyH_takeL (i := 7) (v := ?v61) rfl (by kernel_rfl) (by kernel_rfl) (by kernel_rfl) (fun _ _ _ h => h) (Or.inl ⟨by rfl, ?y61⟩) (by assumption) ?r61
                    case y61 => (intro W hSw; (try dsimp only at hSw); go_simp; try with_reducible rfl)
                    (try simp only [Act.put, List.setIfInBounds_toArray, List.set_cons_zero, List.set_cons_succ])
                    refine wpAnyH_takeL (i := 8) (v := ?v62) rfl (by kernel_rfl) (by kernel_rfl) (by kernel_rfl) (fun _ _ _ h => h) (Or.inl ⟨by rfl, ?y62⟩) (by assumption) ?r62
                    case y62 => (intro W hSw; (try dsimp only at hSw); go_simp; try with_reducible rfl)
                    (try simp only [Act.put, List.setIfInBounds_toArray, List.set_cons_zero, List.set_cons_succ])
                    refine wpAnyH_ready (rs := [9, 14]) (by kernel_rfl) (by simp) ?_
                    refine consL rfl (fun K hK => ?_) (consL rfl (fun K hK => ?_) AllReadyH.nil)
                    · skip
                      go_simp
                      refine Calls.mono (l6own_any (⟨yk, yn, yi, yu, ys, ym⟩ : Va) _ _ (HXJ.out _ (hJ.trans (hd.mono hJ.size))).2) ?_
                      rintro e w5 ⟨vq, rfl, hvq, h5⟩
                      have g5 := hd.trans (h5.mono hd.size)
                      obtain ⟨Aq, nq, cq, hve⟩ := hvq.shape
                      have hve' : vq = .agg #[.int .i64 yk, .int .i64 yn, .int .i64 yi, .int .u64 yu, .string ys, .slice Aq nq cq] := hve
                      subst hve'
                      clear hve
                      have hvq2 : VaV w5 (LoV w5.heap.size) (⟨yk, yn, yi, yu, ys, ym⟩ : Va) (.agg #[.int .i64 yk, .int .i64 yn, .int .i64 yi, .int .u64 yu, .string ys, .slice Aq nq cq]) := hvq.sub (fun b hb => hb.2)
                      clear hvq
                      (try dsimp only)
                      refine hK.out _ _ (HF4.out _ (hJ.trans (g5.mono hJ.size))) (fun hHeld => ?_)
                      clear hK K
                      (try simp only [Act.put, List.setIfInBounds_toArray, List.set_cons_zero, List.set_cons_succ])
                      refine wpAnyH_ready (rs := [10, 14]) (by kernel_rfl) (by simp) ?_
                      refine consL rfl (fun K hK => ?_) (consL rfl (fun K hK => ?_) AllReadyH.nil)
                      · skip
                        go_simp
                        refine Calls.mono (HS1.out _ _ _ (HXA.out _ (hJ.trans (g5.mono hJ.size))).2 (hvq2)) ?_
                        rintro e w6 ⟨vs, rfl, hvs, h6⟩
                        have g6 := g5.trans (h6.mono g5.size)
                        obtain ⟨As, ns, cs, hve⟩ := hvs.shape
                        have hve' : vs = .agg #[.int .i64 sk, .int .i64 sn, .int .i64 si, .int .u64 su, .string ss, .slice As ns cs] := hve
                        subst hve'
                        clear hve
                        (try dsimp only)
                        refine hK.out _ _ (HF4.out _ (hJ.trans (g6.mono hJ.size))) (fun hHeld => ?_)
                        clear hK K
                        (try simp only [Act.put, List.setIfInBounds_toArray, List.set_cons_zero, List.set_cons_succ])
                        refine wpAnyH_takeL (i := 11) (v := ?v63) rfl (by kernel_rfl) (by kernel_rfl) (by kernel_rfl) (fun _ _ _ h => h) (Or.inl ⟨by rfl, ?y63⟩) (by assumption) ?r63
                        case y63 => (intro W hSw; (try dsimp only at hSw); go_simp; try with_reducible rfl)
                        (try simp only [Act.put, List.setIfInBounds_toArray, List.set_cons_zero, List.set_cons_succ])
                        refine wpAnyH_takeL (i := 12) (v := ?v64) rfl (by kernel_rfl) (by kernel_rfl) (by kernel_rfl) (fun _ _ _ h => h) (Or.inl ⟨by rfl, ?y64⟩) (by assumption) ?r64
                        case y64 => (intro W hSw; (try dsimp only at hSw); go_simp; try with_reducible rfl)
                        (try simp only [Act.put, List.setIfInBounds_toArray, List.set_cons_zero, List.set_cons_succ])
                        refine wpAnyH_takeL (i := 13) (v := ?v65) rfl (by kernel_rfl) (by kernel_rfl) (by kernel_rfl) (fun _ _ _ h => h) (Or.inl ⟨by rfl, ?y65⟩) (by assumption) ?r65
                        case y65 => (intro W hSw; (try dsimp only at hSw); go_simp; try with_reducible rfl)
                        (try simp only [Act.put, List.setIfInBounds_toArray, List.set_cons_zero, List.set_cons_succ])
                        refine wpAnyH_ready (rs := [14]) (by kernel_rfl) (by simp) ?_
                        refine consL rfl (fun K hK => ?_) AllReadyH.nil
                        go_simp
                        have fcz2 := g6.alloc g6.size (.cells #[.int .i64 0, .int .i64 0, .int .i64 0, .int .u64 0, .string ⟨#[]⟩, .slice none 0 0] 35)
                        (try dsimp only)
                        refine hK.out _ _ (HF4.out _ (hJ.trans (fcz2.mono hJ.size))) (fun hHeld => ?_)
                        clear hK K
                        (try simp only [Act.put, List.setIfInBounds_toArray, List.set_cons_zero, List.set_cons_succ])
                        refine wpAnyH_ready (rs := [15]) (by kernel_rfl) (by simp) ?_
                        refine consL rfl (fun K hK => ?_) AllReadyH.nil
                        go_simp
                        have fcg := g6.alloc g6.size (.cells #[.int .i64 sk, .int .i64 sn, .int .i64 si, .int .u64 su, .string ss, .slice As ns cs] 35)
                        (try dsimp only)
                        refine hK.out _ _ (HF4.out _ (hJ.trans (fcg.mono hJ.size))) (fun hHeld => ?_)
                        clear hK K
                        (try simp only [Act.put, List.setIfInBounds_toArray, List.set_cons_zero, List.set_cons_succ])
                        refine wpAnyH_takeL (i := 16) (v := ?v66) rfl (by kernel_rfl) (by kernel_rfl) (by kernel_rfl) (fun _ _ _ h => h) (Or.inl ⟨by rfl, ?y66⟩) (by assumption) ?r66
                        case y66 => (intro W hSw; (try dsimp only at hSw); go_simp; try with_reducible rfl)
                        (try simp only [Act.put, List.setIfInBounds_toArray, List.set_cons_zero, List.set_cons_succ])
                        refine wpAnyH_done (by kernel_rfl) ?_ _
                        have fcb := Lib.hid (heap_alloc_new w6 (.cells #[.int .i64 sk, .int .i64 sn, .int .i64 si, .int .u64 su, .string ss, .slice As ns cs] 35))
                        have fcl : w6.heap.size < (w6.alloc (.cells #[.int .i64 sk, .int .i64 sn, .int .i64 si, .int .u64 su, .string ss, .slice As ns cs] 35)).heap.size := by simp
                        have fcv : VaV (w6.alloc (.cells #[.int .i64 sk, .int .i64 sn, .int .i64 si, .int .u64 su, .string ss, .slice As ns cs] 35)) (LoV (w6.alloc (.cells #[.int .i64 sk, .int .i64 sn, .int .i64 si, .int .u64 su, .string ss, .slice As ns cs] 35)).heap.size) (⟨sk, sn, si, su, ss, sm⟩ : Va) (.agg #[.int .i64 sk, .int .i64 sn, .int .i64 si, .int .u64 su, .string ss, .slice As ns cs]) := hvs.to (fun b hb => ⟨Nat.lt_trans hb.2 (by simp), Below.heap_alloc w6 _ b hb.2⟩)
                        obtain ⟨fck, fce⟩ : ∃ z, z = w6.heap.size := ⟨_, rfl⟩
                        rw [← fce] at fcb fcl ⊢
                        clear fce
                        generalize w6.alloc (.cells #[.int .i64 sk, .int .i64 sn, .int .i64 si, .int .u64 su, .string ss, .slice As ns cs] 35) = fcW at *
                        exact hcont fck fcW Aq nq cq As ns cs ⟨fcg, fcb, fcl, fcv⟩
                      · skip
                        go_simp
                        have fcz1 : Below wr.heap.size wr (w5.alloc (.cells #[.int .i64 0, .int .i64 0, .int .i64 0, .int .u64 0, .string ⟨#[]⟩, .slice none 0 0] 35)) := g5.alloc g5.size (.cells #[.int .i64 0, .int .i64 0, .int .i64 0, .int .u64 0, .string ⟨#[]⟩, .slice none 0 0] 35)
                        have fcmb := Lib.hid (show (w5.alloc (.cells #[.int .i64 0, .int .i64 0, .int .i64 0, .int .u64 0, .string ⟨#[]⟩, .slice none 0 0] 35)).heap[w5.heap.size]? = some (.cells #[.int .i64 0, .int .i64 0, .int .i64 0, .int .u64 0, .string ⟨#[]⟩, .slice none 0 0] 35 (0, 0)) from heap_alloc_new w5 (.cells #[.int .i64 0, .int .i64 0, .int .i64 0, .int .u64 0, .string ⟨#[]⟩, .slice none 0 0] 35))
                        have fcml : w5.heap.size < (w5.alloc (.cells #[.int .i64 0, .int .i64 0, .int .i64 0, .int .u64 0, .string ⟨#[]⟩, .slice none 0 0] 35)).heap.size := (by simp)
                        have fcmv : wr.heap.size ≤ w5.heap.size := g5.size
                        (try dsimp only)
                        refine hK.out _ _ (HF4.out _ (hJ.trans (fcz1.mono hJ.size))) (fun hHeld => ?_)
                        clear hK K
                        (try simp only [Act.put, List.setIfInBounds_toArray, List.set_cons_zero, List.set_cons_succ])
                        refine wpAnyH_ready (rs := [10]) (by kernel_rfl) (by simp) ?_
                        refine consL rfl (fun K hK => ?_) AllReadyH.nil
                        go_simp
                        refine Calls.mono (HS1.out _ _ _ (HXA.out _ (hJ.trans (fcz1.mono hJ.size))).2 (hvq2.call ((Below.refl _ _).alloc (Nat.le_refl _) _))) ?_
                        rintro e w6 ⟨vs, rfl, hvs, h6⟩
                        have g6 := fcz1.trans (h6.mono fcz1.size)
                        obtain ⟨As, ns, cs, hve⟩ := hvs.shape
                        have hve' : vs = .agg #[.int .i64 sk, .int .i64 sn, .int .i64 si, .int .u64 su, .string ss, .slice As ns cs] := hve
                        subst hve'
                        clear hve
                        have fcmk := fcml
                        replace fcmb := Lib.hid ((h6.block _ fcml).trans fcmb.out)
                        replace fcml := Nat.lt_of_lt_of_le fcml h6.size
                        (try dsimp only)
                        refine hK.out _ _ (HF4.out _ (hJ.trans (g6.mono hJ.size))) (fun hHeld => ?_)
                        clear hK K
                        (try simp only [Act.put, List.setIfInBounds_toArray, List.set_cons_zero, List.set_cons_succ])
                        refine wpAnyH_takeL (i := 11) (v := ?v67) rfl (by kernel_rfl) (by kernel_rfl) (by kernel_rfl) (fun _ _ _ h => h) (Or.inl ⟨by rfl, ?y67⟩) (by assumption) ?r67
                        case y67 => (intro W hSw; (try dsimp only at hSw); go_simp; try with_reducible rfl)
                        (try simp only [Act.put, List.setIfInBounds_toArray, List.set_cons_zero, List.set_cons_succ])
                        refine wpAnyH_takeL (i := 12) (v := ?v68) rfl (by kernel_rfl) (by kernel_rfl) (by kernel_rfl) (fun _ _ _ h => h) (Or.inl ⟨by rfl, ?y68⟩) (by assumption) ?r68
                        case y68 => (intro W hSw; (try dsimp only at hSw); go_simp; try with_reducible rfl)
                        (try simp only [Act.put, List.setIfInBounds_toArray, List.set_cons_zero, List.set_cons_succ])
                        refine wpAnyH_takeL (i := 13) (v := ?v69) rfl (by kernel_rfl) (by kernel_rfl) (by kernel_rfl) (fun _ _ _ h => h) (Or.inl ⟨by rfl, ?y69⟩) (by assumption) ?r69
                        case y69 => (intro W hSw; (try dsimp only at hSw); go_simp; try with_reducible rfl)
                        (try simp only [Act.put, List.setIfInBounds_toArray, List.set_cons_zero, List.set_cons_succ])
                        refine wpAnyH_ready (rs := [15]) (by kernel_rfl) (by simp) ?_
                        refine consL rfl (fun K hK => ?_) AllReadyH.nil
                        obtain ⟨m0, m1, m2, m3, m4x, m5x⟩ := six fcmb.out
                        have mf := blk_frozen fcmb.out
                        go_simp
                        have fcg : Below wr.heap.size wr ((((((w6.setCell ⟨w5.heap.size, 0, none⟩ (.int .i64 sk)).setCell ⟨w5.heap.size, 1, none⟩ (.int .i64 sn)).setCell ⟨w5.heap.size, 2, none⟩ (.int .i64 si)).setCell ⟨w5.heap.size, 3, none⟩ (.int .u64 su)).setCell ⟨w5.heap.size, 4, none⟩ (.string ss)).setCell ⟨w5.heap.size, 5, none⟩ (.slice As ns cs)) := set6_low g6 fcmv
                        (try dsimp only)
                        refine hK.out _ _ (HF4.out _ (hJ.trans (fcg.mono hJ.size))) (fun hHeld => ?_)
                        clear hK K
                        (try simp only [Act.put, List.setIfInBounds_toArray, List.set_cons_zero, List.set_cons_succ])
                        refine wpAnyH_takeL (i := 16) (v := ?v70) rfl (by kernel_rfl) (by kernel_rfl) (by kernel_rfl) (fun _ _ _ h => h) (Or.inl ⟨by rfl, ?y70⟩) (by assumption) ?r70
                        case y70 => (intro W hSw; (try dsimp only at hSw); go_simp; try with_reducible rfl)
                        (try simp only [Act.put, List.setIfInBounds_toArray, List.set_cons_zero, List.set_cons_succ])
                        refine wpAnyH_done (by kernel_rfl) ?_ _
                        clear m0 m1 m2 m3 m4x m5x mf
                        have fcb := Lib.hid (set6_at fcmb.out (.int .i64 sk) (.int .i64 sn) (.int .i64 si) (.int .u64 su) (.string ss) (.slice As ns cs))
                        have fcl : w5.heap.size < ((((((w6.setCell ⟨w5.heap.size, 0, none⟩ (.int .i64 sk)).setCell ⟨w5.heap.size, 1, none⟩ (.int .i64 sn)).setCell ⟨w5.heap.size, 2, none⟩ (.int .i64 si)).setCell ⟨w5.heap.size, 3, none⟩ (.int .u64 su)).setCell ⟨w5.heap.size, 4, none⟩ (.string ss)).setCell ⟨w5.heap.size, 5, none⟩ (.slice As ns cs)).heap.size := by rw [set6_size]; exact fcml
                        have fcv : VaV ((((((w6.setCell ⟨w5.heap.size, 0, none⟩ (.int .i64 sk)).setCell ⟨w5.heap.size, 1, none⟩ (.int .i64 sn)).setCell ⟨w5.heap.size, 2, none⟩ (.int .i64 si)).setCell ⟨w5.heap.size, 3, none⟩ (.int .u64 su)).setCell ⟨w5.heap.size, 4, none⟩ (.string ss)).setCell ⟨w5.heap.size, 5, none⟩ (.slice As ns cs)) (LoV ((((((w6.setCell ⟨w5.heap.size, 0, none⟩ (.int .i64 sk)).setCell ⟨w5.heap.size, 1, none⟩ (.int .i64 sn)).setCell ⟨w5.heap.size, 2, none⟩ (.int .i64 si)).setCell ⟨w5.heap.size, 3, none⟩ (.int .u64 su)).setCell ⟨w5.heap.size, 4, none⟩ (.string ss)).setCell ⟨w5.heap.size, 5, none⟩ (.slice As ns cs)).heap.size) (⟨sk, sn, si, su, ss, sm⟩ : Va) (.agg #[.int .i64 sk, .int .i64 sn, .int .i64 si, .int .u64 su, .string ss, .slice As ns cs]) := hvs.to (fun b hb => ⟨(by show b < _; rw [set6_size]; exact hb.2), set6_heap _ _ _ _ _ _ (fun e => Nat.lt_irrefl _ (Nat.lt_of_lt_of_le (e ▸ fcmk) hb.1))⟩)
                        generalize ((((((w6.setCell ⟨w5.heap.size, 0, none⟩ (.int .i64 sk)).setCell ⟨w5.heap.size, 1, none⟩ (.int .i64 sn)).setCell ⟨w5.heap.size, 2, none⟩ (.int .i64 si)).setCell ⟨w5.heap.size, 3, none⟩ (.int .u64 su)).setCell ⟨w5.heap.size, 4, none⟩ (.string ss)).setCell ⟨w5.heap.size, 5, none⟩ (.slice As ns cs)) = fcW at *
                        obtain ⟨fck, fce⟩ : ∃ z, z = w5.heap.size := ⟨_, rfl⟩
                        rw [← fce] at fcb fcl ⊢
                        clear fce
                        exact hcont fck fcW Aq nq cq As ns cs ⟨fcg, fcb, fcl, fcv⟩
                    · skip
                      go_simp
                      have fcz0 : Below wr.heap.size wr (wr.alloc (.cells #[.int .i64 0, .int .i64 0, .int .i64 0, .int .u64 0, .string ⟨#[]⟩, .slice none 0 0] 35)).drew := hd.alloc hd.size (.cells #[.int .i64 0, .int .i64 0, .int .i64 0, .int .u64 0, .string ⟨#[]⟩, .slice none 0 0] 35)
                      have fcmb := Lib.hid (show (wr.alloc (.cells #[.int .i64 0, .int .i64 0, .int .i64 0, .int .u64 0, .string ⟨#[]⟩, .slice none 0 0] 35)).drew.heap[wr.heap.size]? = some (.cells #[.int .i64 0, .int .i64 0, .int .i64 0, .int .u64 0, .string ⟨#[]⟩, .slice none 0 0] 35 (0, 0)) from heap_alloc_new wr (.cells #[.int .i64 0, .int .i64 0, .int .i64 0, .int .u64 0, .string ⟨#[]⟩, .slice none 0 0] 35))
                      have fcml : wr.heap.size < (wr.alloc (.cells #[.int .i64 0, .int .i64 0, .int .i64 0, .int .u64 0, .string ⟨#[]⟩, .slice none 0 0] 35)).drew.heap.size := (by simp)
                      have fcmv : wr.heap.size ≤ wr.heap.size := hd.size
                      (try dsimp only)
                      refine hK.out _ _ (HF4.out _ (hJ.trans (fcz0.mono hJ.size))) (fun hHeld => ?_)
                      clear hK K
                      (try simp only [Act.put, List.setIfInBounds_toArray, List.set_cons_zero, List.set_cons_succ])
                      refine wpAnyH_ready (rs := [9]) (by kernel_rfl) (by simp) ?_
                      refine consL rfl (fun K hK => ?_) AllReadyH.nil
                      go_simp
                      refine Calls.mono (l6own_any (⟨yk, yn, yi, yu, ys, ym⟩ : Va) _ _ (HXJ.out _ (hJ.trans (fcz0.mono hJ.size))).2) ?_
                      rintro e w5 ⟨vq, rfl, hvq, h5⟩
                      have g5 := fcz0.trans (h5.mono fcz0.size)
                      obtain ⟨Aq, nq, cq, hve⟩ := hvq.shape
                      have hve' : vq = .agg #[.int .i64 yk, .int .i64 yn, .int .i64 yi, .int .u64 yu, .string ys, .slice Aq nq cq] := hve
                      subst hve'
                      clear hve
                      have hvq2 : VaV w5 (LoV w5.heap.size) (⟨yk, yn, yi, yu, ys, ym⟩ : Va) (.agg #[.int .i64 yk, .int .i64 yn, .int .i64 yi, .int .u64 yu, .string ys, .slice Aq nq cq]) := hvq.sub (fun b hb => hb.2)
                      clear hvq
                      have fcmk := fcml
                      replace fcmb := Lib.hid ((h5.block _ fcml).trans fcmb.out)
                      replace fcml := Nat.lt_of_lt_of_le fcml h5.size
                      (try dsimp only)
                      refine hK.out _ _ (HF4.out _ (hJ.trans (g5.mono hJ.size))) (fun hHeld => ?_)
                      clear hK K
                      (try simp only [Act.put, List.setIfInBounds_toArray, List.set_cons_zero, List.set_cons_succ])
                      refine wpAnyH_ready (rs := [10]) (by kernel_rfl) (by simp) ?_
                      refine consL rfl (fun K hK => ?_) AllReadyH.nil
                      go_simp
                      refine Calls.mono (HS1.out _ _ _ (HXA.out _ (hJ.trans (g5.mono hJ.size))).2 (hvq2)) ?_
                      rintro e w6 ⟨vs, rfl, hvs, h6⟩
                      have g6 := g5.trans (h6.mono g5.size)
                      obtain ⟨As, ns, cs, hve⟩ := hvs.shape
                      have hve' : vs = .agg #[.int .i64 sk, .int .i64 sn, .int .i64 si, .int .u64 su, .string ss, .slice As ns cs] := hve
                      subst hve'
                      clear hve
                      have fcmk := fcml
                      replace fcmb := Lib.hid ((h6.block _ fcml).trans fcmb.out)
                      replace fcml := Nat.lt_of_lt_of_le fcml h6.size
                      (try dsimp only)
                      refine hK.out _ _ (HF4.out _ (hJ.trans (g6.mono hJ.size))) (fun hHeld => ?_)
                      clear hK K
                      (try simp only [Act.put, List.setIfInBounds_toArray, List.set_cons_zero, List.set_cons_succ])
                      refine wpAnyH_takeL (i := 11) (v := ?v71) rfl (by kernel_rfl) (by kernel_rfl) (by kernel_rfl) (fun _ _ _ h => h) (Or.inl ⟨by rfl, ?y71⟩) (by assumption) ?r71
                      case y71 => (intro W hSw; (try dsimp only at hSw); go_simp; try with_reducible rfl)
                      (try simp only [Act.put, List.setIfInBounds_toArray, List.set_cons_zero, List.set_cons_succ])
                      refine wpAnyH_takeL (i := 12) (v := ?v72) rfl (by kernel_rfl) (by kernel_rfl) (by kernel_rfl) (fun _ _ _ h => h) (Or.inl ⟨by rfl, ?y72⟩) (by assumption) ?r72
                      case y72 => (intro W hSw; (try dsimp only at hSw); go_simp; try with_reducible rfl)
                      (try simp only [Act.put, List.setIfInBounds_toArray, List.set_cons_zero, List.set_cons_succ])
                      refine wpAnyH_takeL (i := 13) (v := ?v73) rfl (by kernel_rfl) (by kernel_rfl) (by kernel_rfl) (fun _ _ _ h => h) (Or.inl ⟨by rfl, ?y73⟩) (by assumption) ?r73
                      case y73 => (intro W hSw; (try dsimp only at hSw); go_simp; try with_reducible rfl)
                      (try simp only [Act.put, List.setIfInBounds_toArray, List.set_cons_zero, List.set_cons_succ])
                      refine wpAnyH_ready (rs := [15]) (by kernel_rfl) (by simp) ?_
                      refine consL rfl (fun K hK => ?_) AllReadyH.nil
                      obtain ⟨m0, m1, m2, m3, m4x, m5x⟩ := six fcmb.out
                      have mf := blk_frozen fcmb.out
                      go_simp
                      have fcg : Below wr.heap.size wr ((((((w6.setCell ⟨wr.heap.size, 0, none⟩ (.int .i64 sk)).setCell ⟨wr.heap.size, 1, none⟩ (.int .i64 sn)).setCell ⟨wr.heap.size, 2, none⟩ (.int .i64 si)).setCell ⟨wr.heap.size, 3, none⟩ (.int .u64 su)).setCell ⟨wr.heap.size, 4, none⟩ (.string ss)).setCell ⟨wr.heap.size, 5, none⟩ (.slice As ns cs)) := set6_low g6 fcmv
                      (try dsimp only)
                      refine hK.out _ _ (HF4.out _ (hJ.trans (fcg.mono hJ.size))) (fun hHeld => ?_)
                      clear hK K
                      (try simp only [Act.put, List.setIfInBounds_toArray, List.set_cons_zero, List.set_cons_succ])
                      refine wpAnyH_takeL (i := 16) (v := ?v74) rfl (by kernel_rfl) (by kernel_rfl) (by kernel_rfl) (fun _ _ _ h => h) (Or.inl ⟨by rfl, ?y74⟩) (by assumption) ?r74
                      case y74 => (intro W hSw; (try dsimp only at hSw); go_simp; try with_reducible rfl)
                      (try simp only [Act.put, List.setIfInBounds_toArray, List.set_cons_zero, List.set_cons_succ])
                      refine wpAnyH_done (by kernel_rfl) ?_ _
                      clear m0 m1 m2 m3 m4x m5x mf
                      have fcb := Lib.hid (set6_at fcmb.out (.int .i64 sk) (.int .i64 sn) (.int .i64 si) (.int .u64 su) (.string ss) (.slice As ns cs))
                      have fcl : wr.heap.size < ((((((w6.setCell ⟨wr.heap.size, 0, none⟩ (.int .i64 sk)).setCell ⟨wr.heap.size, 1, none⟩ (.int .i64 sn)).setCell ⟨wr.heap.size, 2, none⟩ (.int .i64 si)).setCell ⟨wr.heap.size, 3, none⟩ (.int .u64 su)).setCell ⟨wr.heap.size, 4, none⟩ (.string ss)).setCell ⟨wr.heap.size, 5, none⟩ (.slice As ns cs)).heap.size := by rw [set6_size]; exact fcml
                      have fcv : VaV ((((((w6.setCell ⟨wr.heap.size, 0, none⟩ (.int .i64 sk)).setCell ⟨wr.heap.size, 1, none⟩ (.int .i64 sn)).setCell ⟨wr.heap.size, 2, none⟩ (.int .i64 si)).setCell ⟨wr.heap.size, 3, none⟩ (.int .u64 su)).setCell ⟨wr.heap.size, 4, none⟩ (.string ss)).setCell ⟨wr.heap.size, 5, none⟩ (.slice As ns cs)) (LoV ((((((w6.setCell ⟨wr.heap.size, 0, none⟩ (.int .i64 sk)).setCell ⟨wr.heap.size, 1, none⟩ (.int .i64 sn)).setCell ⟨wr.heap.size, 2, none⟩ (.int .i64 si)).setCell ⟨wr.heap.size, 3, none⟩ (.int .u64 su)).setCell ⟨wr.heap.size, 4, none⟩ (.string ss)).setCell ⟨wr.heap.size, 5, none⟩ (.slice As ns cs)).heap.size) (⟨sk, sn, si, su, ss, sm⟩ : Va) (.agg #[.int .i64 sk, .int .i64 sn, .int .i64 si, .int .u64 su, .string ss, .slice As ns cs]) := hvs.to (fun b hb => ⟨(by show b < _; rw [set6_size]; exact hb.2), set6_heap _ _ _ _ _ _ (fun e => Nat.lt_irrefl _ (Nat.lt_of_lt_of_le (e ▸ fcmk) hb.1))⟩)
                      generalize ((((((w6.setCell ⟨wr.heap.size, 0, none⟩ (.int .i64 sk)).setCell ⟨wr.heap.size, 1, none⟩ (.int .i64 sn)).setCell ⟨wr.heap.size, 2, none⟩ (.int .i64 si)).setCell ⟨wr.heap.size, 3, none⟩ (.int .u64 su)).setCell ⟨wr.heap.size, 4, none⟩ (.string ss)).setCell ⟨wr.heap.size, 5, none⟩ (.slice As ns cs)) = fcW at *
                      obtain ⟨fck, fce⟩ : ∃ z, z = wr.heap.size := ⟨_, rfl⟩
                      rw [← fce] at fcb fcl ⊢
                      clear fce
                      exact hcont fck fcW Aq nq cq As ns cs ⟨fcg, fcb, fcl, fcv⟩
                  case hc =>
                    clear hd
                    intro fck fcW Aq nq cq As ns cs fcF
                    obtain ⟨fcg, fcb, fcl, fcv⟩ := fcF
                    have hV5 := (hJ.trans (fcg.mono hJ.size))
                    go_wp2_with fail
                    have HF5 := Lib.hid (show ∀ W, Below V1.heap.size V1 W → (fun W : World => (W.cell? ⟨BA, i * 6, none⟩ = some (.int .i64 xk) ∧ W.cell? ⟨BA, i * 6 + 1, none⟩ = some (.int .i64 xn) ∧ W.cell? ⟨BA, i * 6 + 2, none⟩ = some (.int .i64 xix) ∧ W.cell? ⟨BA, i * 6 + 3, none⟩ = some (.int .u64 xu) ∧ W.cell? ⟨BA, i * 6 + 4, none⟩ = some (.string xs) ∧ W.cell? ⟨BA, i * 6 + 5, none⟩ = some (.slice Ai ni ci)) ∧ W.cell? ⟨BI, k, none⟩ = some (.int .u64 u) ∧ W.cell? ⟨BE, j * 6, none⟩ = some (.int .i64 yk) ∧ W.cell? ⟨BE, j * 6 + 1, none⟩ = some (.int .i64 yn) ∧ W.cell? ⟨BE, j * 6 + 2, none⟩ = some (.int .i64 yi) ∧ W.cell? ⟨BE, j * 6 + 3, none⟩ = some (.int .u64 yu) ∧ W.cell? ⟨BE, j * 6 + 4, none⟩ = some (.string ys) ∧ W.cell? ⟨BE, j * 6 + 5, none⟩ = some (.slice Ay ny cy)) W from fun W h => ⟨(HXI.out W h).1, HIU.out W h, (HXJ.out W h).1⟩)
                    have hd : Below fcW.heap.size fcW fcW.drew := (Below.refl _ _).drew
                    apply cont5 (fun g W At nt ct => Below fcW.heap.size fcW W ∧ Hid (W.heap[g]? = some (.cells #[.int .i64 sk, .int .i64 sn, .int .i64 si, .int .u64 su, .string ss, .slice At nt ct] 30 (0, 0))) ∧ g < W.heap.size ∧ VaV W (LoV W.heap.size) (⟨sk, sn, si, su, ss, sm⟩ : Va) (.agg #[.int .i64 sk, .int .i64 sn, .int .i64 si, .int .u64 su, .string ss, .slice At nt ct]))
                    case hp =>
                      intro hcont
                      refine wp_region_held_drew (S := fun W => (W.cell? ⟨BA, i * 6, none⟩ = some (.int .i64 xk) ∧ W.cell? ⟨BA, i * 6 + 1, none⟩ = some (.int .i64 xn) ∧ W.cell? ⟨BA, i * 6 + 2, none⟩ = some (.int .i64 xix) ∧ W.cell? ⟨BA, i * 6 + 3, none⟩ = some (.int .u64 xu) ∧ W.cell? ⟨BA, i * 6 + 4, none⟩ = some (.string xs) ∧ W.cell? ⟨BA, i * 6 + 5, none⟩ = some (.slice Ai ni ci)) ∧ W.cell? ⟨BI, k, none⟩ = some (.int .u64 u) ∧ W.cell? ⟨BE, j * 6, none⟩ = some (.int .i64 yk) ∧ W.cell? ⟨BE, j * 6 + 1, none⟩ = some (.int .i64 yn) ∧ W.cell? ⟨BE, j * 6 + 2, none⟩ = some (.int .i64 yi) ∧ W.cell? ⟨BE, j * 6 + 3, none⟩ = some (.int .u64 yu) ∧ W.cell? ⟨BE, j * 6 + 4, none⟩ = some (.string ys) ∧ W.cell? ⟨BE, j * 6 + 5, none⟩ = some (.slice Ay ny cy)) (by kernel_rfl) (HF5.out _ (hV5.trans (hd.mono hV5.size))) (fun hHeld => ?_)
                      (try simp only [List.size_toArray, List.length_cons, List.length_nil, Nat.zero_add, Nat.reduceAdd])
                      refine wpAnyH_takeL (i := 0) (v := ?v75) rfl (by kernel_rfl) (by kernel_rfl) (by kernel_rfl) (fun _ _ _ h => h) (Or.inl ⟨by rfl, ?y75⟩) (by assumption) ?r75
                      case y75 => (intro W hSw; (try dsimp only at hSw); go_simp; try with_reducible rfl)
                      (try simp only [Act.put, List.setIfInBounds_toArray, List.set_cons_zero, List.set_cons_succ])
                      refine wpAnyH_takeL (i := 1) (v := ?v76) rfl (by kernel_rfl) (by kernel_rfl) (by kernel_rfl) (fun _ _ _ h => h) (Or.inl ⟨by rfl, ?y76⟩) (by assumption) ?r76
                      case y76 => (intro W hSw; (try dsimp only at hSw); go_simp; try with_reducible rfl)
                      (try simp only [Act.put, List.setIfInBounds_toArray, List.set_cons_zero, List.set_cons_succ])
                      refine wpAnyH_takeL (i := 2) (v := ?v77) rfl (by kernel_rfl) (by kernel_rfl) (by kernel_rfl) (fun _ _ _ h => h) (Or.inl ⟨by rfl, ?y77⟩) (by assumption) ?r77
                      case y77 => (intro W hSw; (try dsimp only at hSw); go_simp; try with_reducible rfl)
                      (try simp only [Act.put, List.setIfInBounds_toArray, List.set_cons_zero, List.set_cons_succ])
                      refine wpAnyH_takeL (i := 3) (v := ?v78) rfl (by kernel_rfl) (by kernel_rfl) (by kernel_rfl) (fun _ _ _ h => h) (Or.inl ⟨by rfl, ?y78⟩) (by assumption) ?r78
                      case y78 => (intro W hSw; (try dsimp only at hSw); go_simp; try with_reducible rfl)
                      (try simp only [Act.put, List.setIfInBounds_toArray, List.set_cons_zero, List.set_cons_succ])
                      refine wpAnyH_takeL (i := 4) (v := ?v79) rfl (by kernel_rfl) (by kernel_rfl) (by kernel_rfl) (fun _ _ _ h => h) (Or.inl ⟨by rfl, ?y79⟩) (by assumption) ?r79
                      case y79 => (intro W hSw; (try dsimp only at hSw); go_simp; try with_reducible rfl)
                      (try simp only [Act.put, List.setIfInBounds_toArray, List.set_cons_zero, List.set_cons_succ])
                      refine wpAnyH_takeL (i := 5) (v := ?v80) rfl (by kernel_rfl) (by kernel_rfl) (by kernel_rfl) (fun _ _ _ h => h) (Or.inl ⟨by rfl, ?y80⟩) (by assumption) ?r80
                      case y80 => (intro W hSw; (try dsimp only at hSw); go_simp; try with_reducible rfl)
                      (try simp only [Act.put, List.setIfInBounds_toArray, List.set_cons_zero, List.set_cons_succ])
                      refine wpAnyH_takeL (i := 6) (v := ?v81) rfl (by kernel_rfl) (by kernel_rfl) (by kernel_rfl) (fun _ _ _ h => h) (Or.inl ⟨by rfl, ?y81⟩) (by assumption) ?r81
                      case y81 => (intro W hSw; (try dsimp only at hSw); go_simp; try with_reducible rfl)
                      (try simp only [Act.put, List.setIfInBounds_toArray, List.set_cons_zero, List.set_cons_succ])
                      refine wpAnyH_takeL (i := 7) (v := ?v82) rfl (by kernel_rfl) (by kernel_rfl) (by kernel_rfl) (fun _ _ _ h => h) (Or.inl ⟨by rfl, ?y82⟩) (by assumption) ?r82
                      case y82 => (intro W hSw; (try dsimp only at hSw); go_simp; try with_reducible rfl)
                      (try simp only [Act.put, List.setIfInBounds_toArray, List.set_cons_zero, List.set_cons_succ])
                      refine wpAnyH_takeL (i := 8) (v := ?v83) rfl (by kernel_rfl) (by kernel_rfl) (by kernel_rfl) (fun _ _ _ h => h) (Or.inl ⟨by rfl, ?y83⟩) (by assumption) ?r83
                      case y83 => (intro W hSw; (try dsimp only at hSw); go_simp; try with_reducible rfl)
                      (try simp only [Act.put, List.setIfInBounds_toArray, List.set_cons_zero, List.set_cons_succ])
                      refine wpAnyH_takeL (i := 9) (v := ?v84) rfl (by kernel_rfl) (by kernel_rfl) (by kernel_rfl) (fun _ _ _ h => h) (Or.inl ⟨by rfl, ?y84⟩) (by assumption) ?r84
                      case y84 => (intro W hSw; (try dsimp only at hSw); go_simp; try with_reducible rfl)
                      (try simp only [Act.put, List.setIfInBounds_toArray, List.set_cons_zero, List.set_cons_succ])
                      refine wpAnyH_takeL (i := 10) (v := ?v85) rfl (by kernel_rfl) (by kernel_rfl) (by kernel_rfl) (fun _ _ _ h => h) (Or.inl ⟨by rfl, ?y85⟩) (by assumption) ?r85
                      case y85 => (intro W hSw; (try dsimp only at hSw); go_simp; try with_reducible rfl)
                      (try simp only [Act.put, List.setIfInBounds_toArray, List.set_cons_zero, List.set_cons_succ])
                      refine wpAnyH_takeL (i := 11) (v := ?v86) rfl (by kernel_rfl) (by kernel_rfl) (by kernel_rfl) (fun _ _ _ h => h) (Or.inl ⟨by rfl, ?y86⟩) (by assumption) ?r86
                      case y86 => (intro W hSw; (try dsimp only at hSw); go_simp; try with_reducible rfl)
                      (try simp only [Act.put, List.setIfInBounds_toArray, List.set_cons_zero, List.set_cons_succ])
                      refine wpAnyH_ready (rs := [12, 16]) (by kernel_rfl) (by simp) ?_
                      refine consL rfl (fun K hK => ?_) (consL rfl (fun K hK => ?_) AllReadyH.nil)
                      · skip
                        go_simp
                        refine Calls.mono (HS2.out _ _ _ (HXI.out _ (hV5.trans (hd.mono hV5.size))).2 (HXJ.out _ (hV5.trans (hd.mono hV5.size))).2) ?_
                        rintro e w5 ⟨vt, rfl, hvt, h5⟩
                        have g5 := hd.trans (h5.mono hd.size)
                        obtain ⟨At, nt, ct, hve⟩ := hvt.shape
                        have hve' : vt = .agg #[.int .i64 sk, .int .i64 sn, .int .i64 si, .int .u64 su, .string ss, .slice At nt ct] := hve
                        subst hve'
                        clear hve
                        (try dsimp only)
                        refine hK.out _ _ (HF5.out _ (hV5.trans (g5.mono hV5.size))) (fun hHeld => ?_)
                        clear hK K
                        (try simp only [Act.put, List.setIfInBounds_toArray, List.set_cons_zero, List.set_cons_succ])
                        refine wpAnyH_takeL (i := 13) (v := ?v87) rfl (by kernel_rfl) (by kernel_rfl) (by kernel_rfl) (fun _ _ _ h => h) (Or.inl ⟨by rfl, ?y87⟩) (by assumption) ?r87
                        case y87 => (intro W hSw; (try dsimp only at hSw); go_simp; try with_reducible rfl)
                        (try simp only [Act.put, List.setIfInBounds_toArray, List.set_cons_zero, List.set_cons_succ])
                        refine wpAnyH_takeL (i := 14) (v := ?v88) rfl (by kernel_rfl) (by kernel_rfl) (by kernel_rfl) (fun _ _ _ h => h) (Or.inl ⟨by rfl, ?y88⟩) (by assumption) ?r88
                        case y88 => (intro W hSw; (try dsimp only at hSw); go_simp; try with_reducible rfl)
                        (try simp only [Act.put, List.setIfInBounds_toArray, List.set_cons_zero, List.set_cons_succ])
                        refine wpAnyH_takeL (i := 15) (v := ?v89) rfl (by kernel_rfl) (by kernel_rfl) (by kernel_rfl) (fun _ _ _ h => h) (Or.inl ⟨by rfl, ?y89⟩) (by assumption) ?r89
                        case y89 => (intro W hSw; (try dsimp only at hSw); go_simp; try with_reducible rfl)
                        (try simp only [Act.put, List.setIfInBounds_toArray, List.set_cons_zero, List.set_cons_succ])
                        refine wpAnyH_ready (rs := [16]) (by kernel_rfl) (by simp) ?_
                        refine consL rfl (fun K hK => ?_) AllReadyH.nil
                        go_simp
                        have fdz1 := g5.alloc g5.size (.cells #[.int .i64 0, .int .i64 0, .int .i64 0, .int .u64 0, .string ⟨#[]⟩, .slice none 0 0] 30)
                        (try dsimp only)
                        refine hK.out _ _ (HF5.out _ (hV5.trans (fdz1.mono hV5.size))) (fun hHeld => ?_)
                        clear hK K
                        (try simp only [Act.put, List.setIfInBounds_toArray, List.set_cons_zero, List.set_cons_succ])
                        refine wpAnyH_ready (rs := [17]) (by kernel_rfl) (by simp) ?_
                        refine consL rfl (fun K hK => ?_) AllReadyH.nil
                        go_simp
                        have fdg := g5.alloc g5.size (.cells #[.int .i64 sk, .int .i64 sn, .int .i64 si, .int .u64 su, .string ss, .slice At nt ct] 30)
                        (try dsimp only)
                        refine hK.out _ _ (HF5.out _ (hV5.trans (fdg.mono hV5.size))) (fun hHeld => ?_)
                        clear hK K
                        (try simp only [Act.put, List.setIfInBounds_toArray, List.set_cons_zero, List.set_cons_succ])
                        refine wpAnyH_takeL (i := 18) (v := ?v90) rfl (by kernel_rfl) (by kernel_rfl) (by kernel_rfl) (fun _ _ _ h => h) (Or.inl ⟨by rfl, ?y90⟩) (by assumption) ?r90
                        case y90 => (intro W hSw; (try dsimp only at hSw); go_simp; try with_reducible rfl)
                        (try simp only [Act.put, List.setIfInBounds_toArray, List.set_cons_zero, List.set_cons_succ])
                        refine wpAnyH_done (by kernel_rfl) ?_ _
                        have fdb := Lib.hid (heap_alloc_new w5 (.cells #[.int .i64 sk, .int .i64 sn, .int .i64 si, .int .u64 su, .string ss, .slice At nt ct] 30))
                        have fdl : w5.heap.size < (w5.alloc (.cells #[.int .i64 sk, .int .i64 sn, .int .i64 si, .int .u64 su, .string ss, .slice At nt ct] 30)).heap.size := by simp
                        have fdv : VaV (w5.alloc (.cells #[.int .i64 sk, .int .i64 sn, .int .i64 si, .int .u64 su, .string ss, .slice At nt ct] 30)) (LoV (w5.alloc (.cells #[.int .i64 sk, .int .i64 sn, .int .i64 si, .int .u64 su, .string ss, .slice At nt ct] 30)).heap.size) (⟨sk, sn, si, su, ss, sm⟩ : Va) (.agg #[.int .i64 sk, .int .i64 sn, .int .i64 si, .int .u64 su, .string ss, .slice At nt ct]) := hvt.to (fun b hb => ⟨Nat.lt_trans hb.2 (by simp), Below.heap_alloc w5 _ b hb.2⟩)
                        obtain ⟨fdk, fde⟩ : ∃ z, z = w5.heap.size := ⟨_, rfl⟩
                        rw [← fde] at fdb fdl ⊢
                        clear fde
                        generalize w5.alloc (.cells #[.int .i64 sk, .int .i64 sn, .int .i64 si, .int .u64 su, .string ss, .slice At nt ct] 30) = fdW at *
                        exact hcont fdk fdW At nt ct ⟨fdg, fdb, fdl, fdv⟩
                      · skip
                        go_simp
                        have fdz0 : Below fcW.heap.size fcW (fcW.alloc (.cells #[.int .i64 0, .int .i64 0, .int .i64 0, .int .u64 0, .string ⟨#[]⟩, .slice none 0 0] 30)).drew := hd.alloc hd.size (.cells #[.int .i64 0, .int .i64 0, .int .i64 0, .int .u64 0, .string ⟨#[]⟩, .slice none 0 0] 30)
                        have fdmb := Lib.hid (show (fcW.alloc (.cells #[.int .i64 0, .int .i64 0, .int .i64 0, .int .u64 0, .string ⟨#[]⟩, .slice none 0 0] 30)).drew.heap[fcW.heap.size]? = some (.cells #[.int .i64 0, .int .i64 0, .int .i64 0, .int .u64 0, .string ⟨#[]⟩, .slice none 0 0] 30 (0, 0)) from heap_alloc_new fcW (.cells #[.int .i64 0, .int .i64 0, .int .i64 0, .int .u64 0, .string ⟨#[]⟩, .slice none 0 0] 30))
                        have fdml : fcW.heap.size < (fcW.alloc (.cells #[.int .i64 0, .int .i64 0, .int .i64 0, .int .u64 0, .string ⟨#[]⟩, .slice none 0 0] 30)).drew.heap.size := (by simp)
                        have fdmv : fcW.heap.size ≤ fcW.heap.size := hd.size
                        (try dsimp only)
                        refine hK.out _ _ (HF5.out _ (hV5.trans (fdz0.mono hV5.size))) (fun hHeld => ?_)
                        clear hK K
                        (try simp only [Act.put, List.setIfInBounds_toArray, List.set_cons_zero, List.set_cons_succ])
                        refine wpAnyH_ready (rs := [12]) (by kernel_rfl) (by simp) ?_
                        refine consL rfl (fun K hK => ?_) AllReadyH.nil
                        go_simp
                        refine Calls.mono (HS2.out _ _ _ (HXI.out _ (hV5.trans (fdz0.mono hV5.size))).2 (HXJ.out _ (hV5.trans (fdz0.mono hV5.size))).2) ?_
                        rintro e w5 ⟨vt, rfl, hvt, h5⟩
                        have g5 := fdz0.trans (h5.mono fdz0.size)
                        obtain ⟨At, nt, ct, hve⟩ := hvt.shape
                        have hve' : vt = .agg #[.int .i64 sk, .int .i64 sn, .int .i64 si, .int .u64 su, .string ss, .slice At nt ct] := hve
                        subst hve'
                        clear hve
                        have fdmk := fdml
                        replace fdmb := Lib.hid ((h5.block _ fdml).trans fdmb.out)
                        replace fdml := Nat.lt_of_lt_of_le fdml h5.size
                        (try dsimp only)
                        refine hK.out _ _ (HF5.out _ (hV5.trans (g5.mono hV5.size))) (fun hHeld => ?_)
                        clear hK K
                        (try simp only [Act.put, List.setIfInBounds_toArray, List.set_cons_zero, List.set_cons_succ])
                        refine wpAnyH_takeL (i := 13) (v := ?v91) rfl (by kernel_rfl) (by kernel_rfl) (by kernel_rfl) (fun _ _ _ h => h) (Or.inl ⟨by rfl, ?y91⟩) (by assumption) ?r91
                        case y91 => (intro W hSw; (try dsimp only at hSw); go_simp; try with_reducible rfl)
                        (try simp only [Act.put, List.setIfInBounds_toArray, List.set_cons_zero, List.set_cons_succ])
                        refine wpAnyH_takeL (i := 14) (v := ?v92) rfl (by kernel_rfl) (by kernel_rfl) (by kernel_rfl) (fun _ _ _ h => h) (Or.inl ⟨by rfl, ?y92⟩) (by assumption) ?r92
                        case y92 => (intro W hSw; (try dsimp only at hSw); go_simp; try with_reducible rfl)
                        (try simp only [Act.put, List.setIfInBounds_toArray, List.set_cons_zero, List.set_cons_succ])
                        refine wpAnyH_takeL (i := 15) (v := ?v93) rfl (by kernel_rfl) (by kernel_rfl) (by kernel_rfl) (fun _ _ _ h => h) (Or.inl ⟨by rfl, ?y93⟩) (by assumption) ?r93
                        case y93 => (intro W hSw; (try dsimp only at hSw); go_simp; try with_reducible rfl)
                        (try simp only [Act.put, List.setIfInBounds_toArray, List.set_cons_zero, List.set_cons_succ])
                        refine wpAnyH_ready (rs := [17]) (by kernel_rfl) (by simp) ?_
                        refine consL rfl (fun K hK => ?_) AllReadyH.nil
                        obtain ⟨m0, m1, m2, m3, m4x, m5x⟩ := six fdmb.out
                        have mf := blk_frozen fdmb.out
                        go_simp
                        have fdg : Below fcW.heap.size fcW ((((((w5.setCell ⟨fcW.heap.size, 0, none⟩ (.int .i64 sk)).setCell ⟨fcW.heap.size, 1, none⟩ (.int .i64 sn)).setCell ⟨fcW.heap.size, 2, none⟩ (.int .i64 si)).setCell ⟨fcW.heap.size, 3, none⟩ (.int .u64 su)).setCell ⟨fcW.heap.size, 4, none⟩ (.string ss)).setCell ⟨fcW.heap.size, 5, none⟩ (.slice At nt ct)) := set6_low g5 fdmv
                        (try dsimp only)
                        refine hK.out _ _ (HF5.out _ (hV5.trans (fdg.mono hV5.size))) (fun hHeld => ?_)
                        clear hK K
                        (try simp only [Act.put, List.setIfInBounds_toArray, List.set_cons_zero, List.set_cons_succ])
                        refine wpAnyH_takeL (i := 18) (v := ?v94) rfl (by kernel_rfl) (by kernel_rfl) (by kernel_rfl) (fun _ _ _ h => h) (Or.inl ⟨by rfl, ?y94⟩) (by assumption) ?r94
                        case y94 => (intro W hSw; (try dsimp only at hSw); go_simp; try with_reducible rfl)
                        (try simp only [Act.put, List.setIfInBounds_toArray, List.set_cons_zero, List.set_cons_succ])
                        refine wpAnyH_done (by kernel_rfl) ?_ _
                        clear m0 m1 m2 m3 m4x m5x mf
                        have fdb := Lib.hid (set6_at fdmb.out (.int .i64 sk) (.int .i64 sn) (.int .i64 si) (.int .u64 su) (.string ss) (.slice At nt ct))
                        have fdl : fcW.heap.size < ((((((w5.setCell ⟨fcW.heap.size, 0, none⟩ (.int .i64 sk)).setCell ⟨fcW.heap.size, 1, none⟩ (.int .i64 sn)).setCell ⟨fcW.heap.size, 2, none⟩ (.int .i64 si)).setCell ⟨fcW.heap.size, 3, none⟩ (.int .u64 su)).setCell ⟨fcW.heap.size, 4, none⟩ (.string ss)).setCell ⟨fcW.heap.size, 5, none⟩ (.slice At nt ct)).heap.size := by rw [set6_size]; exact fdml
                        have fdv : VaV ((((((w5.setCell ⟨fcW.heap.size, 0, none⟩ (.int .i64 sk)).setCell ⟨fcW.heap.size, 1, none⟩ (.int .i64 sn)).setCell ⟨fcW.heap.size, 2, none⟩ (.int .i64 si)).setCell ⟨fcW.heap.size, 3, none⟩ (.int .u64 su)).setCell ⟨fcW.heap.size, 4, none⟩ (.string ss)).setCell ⟨fcW.heap.size, 5, none⟩ (.slice At nt ct)) (LoV ((((((w5.setCell ⟨fcW.heap.size, 0, none⟩ (.int .i64 sk)).setCell ⟨fcW.heap.size, 1, none⟩ (.int .i64 sn)).setCell ⟨fcW.heap.size, 2, none⟩ (.int .i64 si)).setCell ⟨fcW.heap.size, 3, none⟩ (.int .u64 su)).setCell ⟨fcW.heap.size, 4, none⟩ (.string ss)).setCell ⟨fcW.heap.size, 5, none⟩ (.slice At nt ct)).heap.size) (⟨sk, sn, si, su, ss, sm⟩ : Va) (.agg #[.int .i64 sk, .int .i64 sn, .int .i64 si, .int .u64 su, .string ss, .slice At nt ct]) := hvt.to (fun b hb => ⟨(by show b < _; rw [set6_size]; exact hb.2), set6_heap _ _ _ _ _ _ (fun e => Nat.lt_irrefl _ (Nat.lt_of_lt_of_le (e ▸ fdmk) hb.1))⟩)
                        generalize ((((((w5.setCell ⟨fcW.heap.size, 0, none⟩ (.int .i64 sk)).setCell ⟨fcW.heap.size, 1, none⟩ (.int .i64 sn)).setCell ⟨fcW.heap.size, 2, none⟩ (.int .i64 si)).setCell ⟨fcW.heap.size, 3, none⟩ (.int .u64 su)).setCell ⟨fcW.heap.size, 4, none⟩ (.string ss)).setCell ⟨fcW.heap.size, 5, none⟩ (.slice At nt ct)) = fdW at *
                        obtain ⟨fdk, fde⟩ : ∃ z, z = fcW.heap.size := ⟨_, rfl⟩
                        rw [← fde] at fdb fdl ⊢
                        clear fde
                        exact hcont fdk fdW At nt ct ⟨fdg, fdb, fdl, fdv⟩
                    case hc =>
                      clear hd
                      intro fdk fdW At nt ct fdF
                      obtain ⟨fdg, fdb, fdl, fdv⟩ := fdF
                      have hV6 := (hV5.trans (fdg.mono hV5.size))
                      have hab := Lib.hid ((fdg.block fck fcl).trans fcb.out)
                      have hal := Nat.lt_of_lt_of_le fcl fdg.size
                      have HF6 := Lib.hid (show ∀ W, Below fdW.heap.size fdW W → (fun W : World => (W.cell? ⟨fck, 0, none⟩ = some (.int .i64 sk) ∧ W.cell? ⟨fck, 1, none⟩ = some (.int .i64 sn) ∧ W.cell? ⟨fck, 2, none⟩ = some (.int .i64 si) ∧ W.cell? ⟨fck, 3, none⟩ = some (.int .u64 su) ∧ W.cell? ⟨fck, 4, none⟩ = some (.string ss) ∧ W.cell? ⟨fck, 5, none⟩ = some (.slice As ns cs)) ∧ W.cell? ⟨fdk, 0, none⟩ = some (.int .i64 sk) ∧ W.cell? ⟨fdk, 1, none⟩ = some (.int .i64 sn) ∧ W.cell? ⟨fdk, 2, none⟩ = some (.int .i64 si) ∧ W.cell? ⟨fdk, 3, none⟩ = some (.int .u64 su) ∧ W.cell? ⟨fdk, 4, none⟩ = some (.string ss) ∧ W.cell? ⟨fdk, 5, none⟩ = some (.slice At nt ct)) W from fun W h => ⟨six ((h.block _ hal).trans hab.out), six ((h.block _ fdl).trans fdb.out)⟩)
                      have HCR := Lib.hid (show (vaCmp (⟨sk, sn, si, su, ss, sm⟩ : Va) (⟨sk, sn, si, su, ss, sm⟩ : Va) == 0) = true from by rw [(vaCmp_zero _ _).2 rfl]; rfl)
                      have HVA := Lib.hid (fun W (h : Below fdW.heap.size fdW W) => (fcv.call fdg).call h)
                      have HVB := Lib.hid (fun W (h : Below fdW.heap.size fdW W) => fdv.call h)
                      clear fcv fdv
                      go_wp2_with fail
                      have hd : Below fdW.heap.size fdW fdW.drew := (Below.refl _ _).drew
                      refine wp_region_held_drew (S := fun W => (W.cell? ⟨fck, 0, none⟩ = some (.int .i64 sk) ∧ W.cell? ⟨fck, 1, none⟩ = some (.int .i64 sn) ∧ W.cell? ⟨fck, 2, none⟩ = some (.int .i64 si) ∧ W.cell? ⟨fck, 3, none⟩ = some (.int .u64 su) ∧ W.cell? ⟨fck, 4, none⟩ = some (.string ss) ∧ W.cell? ⟨fck, 5, none⟩ = some (.slice As ns cs)) ∧ W.cell? ⟨fdk, 0, none⟩ = some (.int .i64 sk) ∧ W.cell? ⟨fdk, 1, none⟩ = some (.int .i64 sn) ∧ W.cell? ⟨fdk, 2, none⟩ = some (.int .i64 si) ∧ W.cell? ⟨fdk, 3, none⟩ = some (.int .u64 su) ∧ W.cell? ⟨fdk, 4, none⟩ = some (.string ss) ∧ W.cell? ⟨fdk, 5, none⟩ = some (.slice At nt ct)) (by kernel_rfl) (HF6.out _ hd) (fun hHeld => ?_)
                      (try simp only [List.size_toArray, List.length_cons, List.length_nil, Nat.zero_add, Nat.reduceAdd])
                      refine wpAnyH_takeL (i := 0) (v := ?v95) rfl (by kernel_rfl) (by kernel_rfl) (by kernel_rfl) (fun _ _ _ h => h) (Or.inl ⟨by rfl, ?y95⟩) (by assumption) ?r95
                      case y95 => (intro W hSw; (try dsimp only at hSw); go_simp; try with_reducible rfl)
                      (try simp only [Act.put, List.setIfInBounds_toArray, List.set_cons_zero, List.set_cons_succ])
                      refine wpAnyH_takeL (i := 1) (v := ?v96) rfl (by kernel_rfl) (by kernel_rfl) (by kernel_rfl) (fun _ _ _ h => h) (Or.inl ⟨by rfl, ?y96⟩) (by assumption) ?r96
                      case y96 => (intro W hSw; (try dsimp only at hSw); go_simp; try with_reducible rfl)
                      (try simp only [Act.put, List.setIfInBounds_toArray, List.set_cons_zero, List.set_cons_succ])
                      refine wpAnyH_takeL (i := 2) (v := ?v97) rfl (by kernel_rfl) (by kernel_rfl) (by kernel_rfl) (fun _ _ _ h => h) (Or.inl ⟨by rfl, ?y97⟩) (by assumption) ?r97
                      case y97 => (intro W hSw; (try dsimp only at hSw); go_simp; try with_reducible rfl)
                      (try simp only [Act.put, List.setIfInBounds_toArray, List.set_cons_zero, List.set_cons_succ])
                      refine wpAnyH_takeL (i := 3) (v := ?v98) rfl (by kernel_rfl) (by kernel_rfl) (by kernel_rfl) (fun _ _ _ h => h) (Or.inl ⟨by rfl, ?y98⟩) (by assumption) ?r98
                      case y98 => (intro W hSw; (try dsimp only at hSw); go_simp; try with_reducible rfl)
                      (try simp only [Act.put, List.setIfInBounds_toArray, List.set_cons_zero, List.set_cons_succ])
                      refine wpAnyH_takeL (i := 4) (v := ?v99) rfl (by kernel_rfl) (by kernel_rfl) (by kernel_rfl) (fun _ _ _ h => h) (Or.inl ⟨by rfl, ?y99⟩) (by assumption) ?r99
                      case y99 => (intro W hSw; (try dsimp only at hSw); go_simp; try with_reducible rfl)
                      (try simp only [Act.put, List.setIfInBounds_toArray, List.set_cons_zero, List.set_cons_succ])
                      refine wpAnyH_takeL (i := 6) (v := ?v100) rfl (by kernel_rfl) (by kernel_rfl) (by kernel_rfl) (fun _ _ _ h => h) (Or.inl ⟨by rfl, ?y100⟩) (by assumption) ?r100
                      case y100 => (intro W hSw; (try dsimp only at hSw); go_simp; try with_reducible rfl)
                      (try simp only [Act.put, List.setIfInBounds_toArray, List.set_cons_zero, List.set_cons_succ])
                      refine wpAnyH_ready (rs := [5]) (by kernel_rfl) (by simp) ?_
                      refine consL rfl (fun K hK => ?_) AllReadyH.nil
                      go_simp
                      refine Calls.mono (l6plain_any (⟨sk, sn, si, su, ss, sm⟩ : Va) _ _ (HVA.out _ hd)) ?_
                      rintro e w7 ⟨v7, rfl, hv7, h7⟩
                      have hy7 : VaV w7 (LoV w7.heap.size) (⟨sk, sn, si, su, ss, sm⟩ : Va) v7 := hv7.sub (fun b hb => hb.2)
                      have g7 := hd.trans (h7.mono hd.size)
                      (try dsimp only)
                      refine hK.out _ _ (HF6.out _ g7) (fun hHeld => ?_)
                      clear hK K
                      (try simp only [Act.put, List.setIfInBounds_toArray, List.set_cons_zero, List.set_cons_succ])
                      refine wpAnyH_ready (rs := [7]) (by kernel_rfl) (by simp) ?_
                      refine consL rfl (fun K hK => ?_) AllReadyH.nil
                      go_simp
                      refine Calls.mono (r6Same_any (⟨sk, sn, si, su, ss, sm⟩ : Va) (⟨sk, sn, si, su, ss, sm⟩ : Va) _ _ _ hy7 (HVB.out _ g7)) ?_
                      rw [HCR.out]
                      rintro e w8 ⟨rfl, h8⟩
                      have g8 := g7.trans (h8.mono g7.size)
                      (try dsimp only)
                      refine hK.out _ _ (HF6.out _ g8) (fun hHeld => ?_)
                      clear hK K
                      (try simp only [Act.put, List.setIfInBounds_toArray, List.set_cons_zero, List.set_cons_succ])
                      refine wpAnyH_takeL (i := 8) (v := ?v101) rfl (by kernel_rfl) (by kernel_rfl) (by kernel_rfl) (fun _ _ _ h => h) (Or.inl ⟨by rfl, ?y101⟩) (by assumption) ?r101
                      case y101 => (intro W hSw; (try dsimp only at hSw); go_simp; try with_reducible rfl)
                      (try simp only [Act.put, List.setIfInBounds_toArray, List.set_cons_zero, List.set_cons_succ])
                      refine wpAnyH_takeL (i := 9) (v := ?v102) rfl (by kernel_rfl) (by kernel_rfl) (by kernel_rfl) (fun _ _ _ h => h) (Or.inl ⟨by rfl, ?y102⟩) (by assumption) ?r102
                      case y102 => (intro W hSw; (try dsimp only at hSw); go_simp; try with_reducible rfl)
                      (try simp only [Act.put, List.setIfInBounds_toArray, List.set_cons_zero, List.set_cons_succ])
                      refine wpAnyH_done (by kernel_rfl) ?_ _
                      have hV8 := (hV6.trans (g8.mono hV6.size))
                      go_wp2_with fail
                      go_roundw
                      case rel => exact ⟨j + 1, by omega, by go_num, hV8⟩
                      case measure => simp [intOf]; omega
                · have hj7 : ¬ (j : Int) < 6 := by omega
                  go_wp2_with fail
                  go_roundw
                  case rel => exact ⟨k + 1, by omega, by go_num, hJ⟩
                  case measure => simp [intOf]; omega
        · have hk6 : ¬ (k : Int) < 7 := by omega
          go_wp2_with fail
          obtain ⟨wk, rfl⟩ : ∃ wk, wk = wr := ⟨_, rfl⟩
          go_loopw [30] (fun v wr => ∃ mm : Nat, mm ≤ 8 ∧ v = .int .i64 mm ∧ Below V1.heap.size V1 wr) (fun v _ => 8 - (intOf v).toNat)
          case atStart => exact ⟨0, by omega, rfl, hW⟩
          case round =>
            clear hW
            obtain ⟨mm, hm, rfl, hM⟩ := hrel
            by_cases hm8 : mm < 8
            · obtain ⟨z, Az2, nz2, cz2, _, Hm'⟩ := val_cells LA0 (hl8'.out ▸ hm8)
              obtain ⟨zk2, zn2, zi2, zu2, zs2x, zm2⟩ := z
              unfold VrAt at Hm'
              simp only at Hm'
              have HXM := Lib.hid (fun W (h : Below V1.heap.size V1 W) => Hm' W (H02.out.trans (h.mono H02.out.size)))
              clear Hm'
              have hmm : (mm : Int) < 8 := by omega
              have hm0 : (0 : Int) ≤ (mm : Int) := by omega
              obtain ⟨dv, de, hd1, hd2⟩ := dif_both (⟨xk, xn, xix, xu, xs, xm⟩ : Va) (⟨zk2, zn2, zi2, zu2, zs2x, zm2⟩ : Va)
              have HD1 := Lib.hid hd1
              have HD2 := Lib.hid hd2
              clear hd1 hd2
              go_wp2_with fail
              have hd : Below V1.heap.size V1 wr.drew := hM.drew
              have HF7 := Lib.hid (show ∀ W, Below V1.heap.size V1 W → (fun W : World => (W.cell? ⟨ga, 0, none⟩ = some (.int .i64 xk) ∧ W.cell? ⟨ga, 1, none⟩ = some (.int .i64 xn) ∧ W.cell? ⟨ga, 2, none⟩ = some (.int .i64 xix) ∧ W.cell? ⟨ga, 3, none⟩ = some (.int .u64 xu) ∧ W.cell? ⟨ga, 4, none⟩ = some (.string xs) ∧ W.cell? ⟨ga, 5, none⟩ = some (.slice Aa na ca)) ∧ W.cell? ⟨BA, mm * 6, none⟩ = some (.int .i64 zk2) ∧ W.cell? ⟨BA, mm * 6 + 1, none⟩ = some (.int .i64 zn2) ∧ W.cell? ⟨BA, mm * 6 + 2, none⟩ = some (.int .i64 zi2) ∧ W.cell? ⟨BA, mm * 6 + 3, none⟩ = some (.int .u64 zu2) ∧ W.cell? ⟨BA, mm * 6 + 4, none⟩ = some (.string zs2x) ∧ W.cell? ⟨BA, mm * 6 + 5, none⟩ = some (.slice Az2 nz2 cz2)) W from fun W h => ⟨(HXA.out W h).1, (HXM.out W h).1⟩)
              refine wp_region_held_drew (S := fun W => (W.cell? ⟨ga, 0, none⟩ = some (.int .i64 xk) ∧ W.cell? ⟨ga, 1, none⟩ = some (.int .i64 xn) ∧ W.cell? ⟨ga, 2, none⟩ = some (.int .i64 xix) ∧ W.cell? ⟨ga, 3, none⟩ = some (.int .u64 xu) ∧ W.cell? ⟨ga, 4, none⟩ = some (.string xs) ∧ W.cell? ⟨ga, 5, none⟩ = some (.slice Aa na ca)) ∧ W.cell? ⟨BA, mm * 6, none⟩ = some (.int .i64 zk2) ∧ W.cell? ⟨BA, mm * 6 + 1, none⟩ = some (.int .i64 zn2) ∧ W.cell? ⟨BA, mm * 6 + 2, none⟩ = some (.int .i64 zi2) ∧ W.cell? ⟨BA, mm * 6 + 3, none⟩ = some (.int .u64 zu2) ∧ W.cell? ⟨BA, mm * 6 + 4, none⟩ = some (.string zs2x) ∧ W.cell? ⟨BA, mm * 6 + 5, none⟩ = some (.slice Az2 nz2 cz2)) (by kernel_rfl) (HF7.out _ hd) (fun hHeld => ?_)
              (try simp only [List.size_toArray, List.length_cons, List.length_nil, Nat.zero_add, Nat.reduceAdd])
              refine wpAnyH_takeL (i := 0) (v := ?v103) rfl (by kernel_rfl) (by kernel_rfl) (by kernel_rfl) (fun _ _ _ h => h) (Or.inl ⟨by rfl, ?y103⟩) (by assumption) ?r103
              case y103 => (intro W hSw; (try dsimp only at hSw); go_simp; try with_reducible rfl)
              (try simp only [Act.put, List.setIfInBounds_toArray, List.set_cons_zero, List.set_cons_succ])
              refine wpAnyH_takeL (i := 1) (v := ?v104) rfl (by kernel_rfl) (by kernel_rfl) (by kernel_rfl) (fun _ _ _ h => h) (Or.inl ⟨by rfl, ?y104⟩) (by assumption) ?r104
              case y104 => (intro W hSw; (try dsimp only at hSw); go_simp; try with_reducible rfl)
              (try simp only [Act.put, List.setIfInBounds_toArray, List.set_cons_zero, List.set_cons_succ])
              refine wpAnyH_takeL (i := 2) (v := ?v105) rfl (by kernel_rfl) (by kernel_rfl) (by kernel_rfl) (fun _ _ _ h => h) (Or.inl ⟨by rfl, ?y105⟩) (by assumption) ?r105
              case y105 => (intro W hSw; (try dsimp only at hSw); go_simp; try with_reducible rfl)
              (try simp only [Act.put, List.setIfInBounds_toArray, List.set_cons_zero, List.set_cons_succ])
              refine wpAnyH_takeL (i := 3) (v := ?v106) rfl (by kernel_rfl) (by kernel_rfl) (by kernel_rfl) (fun _ _ _ h => h) (Or.inl ⟨by rfl, ?y106⟩) (by assumption) ?r106
              case y106 => (intro W hSw; (try dsimp only at hSw); go_simp; try with_reducible rfl)
              (try simp only [Act.put, List.setIfInBounds_toArray, List.set_cons_zero, List.set_cons_succ])
              refine wpAnyH_takeL (i := 4) (v := ?v107) rfl (by kernel_rfl) (by kernel_rfl) (by kernel_rfl) (fun _ _ _ h => h) (Or.inl ⟨by rfl, ?y107⟩) (by assumption) ?r107
              case y107 => (intro W hSw; (try dsimp only at hSw); go_simp; try with_reducible rfl)
              (try simp only [Act.put, List.setIfInBounds_toArray, List.set_cons_zero, List.set_cons_succ])
              refine wpAnyH_ready (rs := [5]) (by kernel_rfl) (by simp) ?_
              refine consL rfl (fun K hK => ?_) AllReadyH.nil
              go_simp
              refine Calls.mono (l6own_any (⟨zk2, zn2, zi2, zu2, zs2x, zm2⟩ : Va) _ _ (HXM.out _ hd).2) ?_
              rintro e w5 ⟨vq, rfl, hvq, h5⟩
              have g5 := hd.trans (h5.mono hd.size)
              have hvq2 : VaV w5 (LoV w5.heap.size) (⟨zk2, zn2, zi2, zu2, zs2x, zm2⟩ : Va) vq := hvq.sub (fun b hb => hb.2)
              (try dsimp only)
              refine hK.out _ _ (HF7.out _ g5) (fun hHeld => ?_)
              clear hK K
              (try simp only [Act.put, List.setIfInBounds_toArray, List.set_cons_zero, List.set_cons_succ])
              refine wpAnyH_ready (rs := [6]) (by kernel_rfl) (by simp) ?_
              refine consL rfl (fun K hK => ?_) AllReadyH.nil
              go_simp
              refine Calls.mono (HD1.out _ _ _ (HXA.out _ g5).2 hvq2) ?_
              rintro e w6 ⟨rfl, h6⟩
              have g6 := g5.trans (h6.mono g5.size)
              (try dsimp only)
              refine hK.out _ _ (HF7.out _ g6) (fun hHeld => ?_)
              clear hK K
              (try simp only [Act.put, List.setIfInBounds_toArray, List.set_cons_zero, List.set_cons_succ])
              refine wpAnyH_takeL (i := 7) (v := ?v108) rfl (by kernel_rfl) (by kernel_rfl) (by kernel_rfl) (fun _ _ _ h => h) (Or.inl ⟨by rfl, ?y108⟩) (by assumption) ?r108
              case y108 => (intro W hSw; (try dsimp only at hSw); go_simp; try with_reducible rfl)
              (try simp only [Act.put, List.setIfInBounds_toArray, List.set_cons_zero, List.set_cons_succ])
              refine wpAnyH_takeL (i := 8) (v := ?v109) rfl (by kernel_rfl) (by kernel_rfl) (by kernel_rfl) (fun _ _ _ h => h) (Or.inl ⟨by rfl, ?y109⟩) (by assumption) ?r109
              case y109 => (intro W hSw; (try dsimp only at hSw); go_simp; try with_reducible rfl)
              (try simp only [Act.put, List.setIfInBounds_toArray, List.set_cons_zero, List.set_cons_succ])
              refine wpAnyH_takeL (i := 9) (v := ?v110) rfl (by kernel_rfl) (by kernel_rfl) (by kernel_rfl) (fun _ _ _ h => h) (Or.inl ⟨by rfl, ?y110⟩) (by assumption) ?r110
              case y110 => (intro W hSw; (try dsimp only at hSw); go_simp; try with_reducible rfl)
              (try simp only [Act.put, List.setIfInBounds_toArray, List.set_cons_zero, List.set_cons_succ])
              refine wpAnyH_takeL (i := 10) (v := ?v111) rfl (by kernel_rfl) (by kernel_rfl) (by kernel_rfl) (fun _ _ _ h => h) (Or.inl ⟨by rfl, ?y111⟩) (by assumption) ?r111
              case y111 => (intro W hSw; (try dsimp only at hSw); go_simp; try with_reducible rfl)
              (try simp only [Act.put, List.setIfInBounds_toArray, List.set_cons_zero, List.set_cons_succ])
              refine wpAnyH_takeL (i := 11) (v := ?v112) rfl (by kernel_rfl) (by kernel_rfl) (by kernel_rfl) (fun _ _ _ h => h) (Or.inl ⟨by rfl, ?y112⟩) (by assumption) ?r112
              case y112 => (intro W hSw; (try dsimp only at hSw); go_simp; try with_reducible rfl)
              (try simp only [Act.put, List.setIfInBounds_toArray, List.set_cons_zero, List.set_cons_succ])
              refine wpAnyH_done (by kernel_rfl) ?_ _
              go_wp2_with fail
              clear hd
              have hd : Below V1.heap.size V1 w6.drew := g6.drew
              have HF8 := Lib.hid (show ∀ W, Below V1.heap.size V1 W → (fun W : World => (W.cell? ⟨BA, i * 6, none⟩ = some (.int .i64 xk) ∧ W.cell? ⟨BA, i * 6 + 1, none⟩ = some (.int .i64 xn) ∧ W.cell? ⟨BA, i * 6 + 2, none⟩ = some (.int .i64 xix) ∧ W.cell? ⟨BA, i * 6 + 3, none⟩ = some (.int .u64 xu) ∧ W.cell? ⟨BA, i * 6 + 4, none⟩ = some (.string xs) ∧ W.cell? ⟨BA, i * 6 + 5, none⟩ = some (.slice Ai ni ci)) ∧ W.cell? ⟨BA, mm * 6, none⟩ = some (.int .i64 zk2) ∧ W.cell? ⟨BA, mm * 6 + 1, none⟩ = some (.int .i64 zn2) ∧ W.cell? ⟨BA, mm * 6 + 2, none⟩ = some (.int .i64 zi2) ∧ W.cell? ⟨BA, mm * 6 + 3, none⟩ = some (.int .u64 zu2) ∧ W.cell? ⟨BA, mm * 6 + 4, none⟩ = some (.string zs2x) ∧ W.cell? ⟨BA, mm * 6 + 5, none⟩ = some (.slice Az2 nz2 cz2)) W from fun W h => ⟨(HXI.out W h).1, (HXM.out W h).1⟩)
              refine wp_region_held_drew (S := fun W => (W.cell? ⟨BA, i * 6, none⟩ = some (.int .i64 xk) ∧ W.cell? ⟨BA, i * 6 + 1, none⟩ = some (.int .i64 xn) ∧ W.cell? ⟨BA, i * 6 + 2, none⟩ = some (.int .i64 xix) ∧ W.cell? ⟨BA, i * 6 + 3, none⟩ = some (.int .u64 xu) ∧ W.cell? ⟨BA, i * 6 + 4, none⟩ = some (.string xs) ∧ W.cell? ⟨BA, i * 6 + 5, none⟩ = some (.slice Ai ni ci)) ∧ W.cell? ⟨BA, mm * 6, none⟩ = some (.int .i64 zk2) ∧ W.cell? ⟨BA, mm * 6 + 1, none⟩ = some (.int .i64 zn2) ∧ W.cell? ⟨BA, mm * 6 + 2, none⟩ = some (.int .i64 zi2) ∧ W.cell? ⟨BA, mm * 6 + 3, none⟩ = some (.int .u64 zu2) ∧ W.cell? ⟨BA, mm * 6 + 4, none⟩ = some (.string zs2x) ∧ W.cell? ⟨BA, mm * 6 + 5, none⟩ = some (.slice Az2 nz2 cz2)) (by kernel_rfl) (HF8.out _ hd) (fun hHeld => ?_)
              (try simp only [List.size_toArray, List.length_cons, List.length_nil, Nat.zero_add, Nat.reduceAdd])
              refine wpAnyH_takeL (i := 0) (v := ?v113) rfl (by kernel_rfl) (by kernel_rfl) (by kernel_rfl) (fun _ _ _ h => h) (Or.inl ⟨by rfl, ?y113⟩) (by assumption) ?r113
              case y113 => (intro W hSw; (try dsimp only at hSw); go_simp; try with_reducible rfl)
              (try simp only [Act.put, List.setIfInBounds_toArray, List.set_cons_zero, List.set_cons_succ])
              refine wpAnyH_takeL (i := 1) (v := ?v114) rfl (by kernel_rfl) (by kernel_rfl) (by kernel_rfl) (fun _ _ _ h => h) (Or.inl ⟨by rfl, ?y114⟩) (by assumption) ?r114
              case y114 => (intro W hSw; (try dsimp only at hSw); go_simp; try with_reducible rfl)
              (try simp only [Act.put, List.setIfInBounds_toArray, List.set_cons_zero, List.set_cons_succ])
              refine wpAnyH_takeL (i := 2) (v := ?v115) rfl (by kernel_rfl) (by kernel_rfl) (by kernel_rfl) (fun _ _ _ h => h) (Or.inl ⟨by rfl, ?y115⟩) (by assumption) ?r115
              case y115 => (intro W hSw; (try dsimp only at hSw); go_simp; try with_reducible rfl)
              (try simp only [Act.put, List.setIfInBounds_toArray, List.set_cons_zero, List.set_cons_succ])
              refine wpAnyH_takeL (i := 3) (v := ?v116) rfl (by kernel_rfl) (by kernel_rfl) (by kernel_rfl) (fun _ _ _ h => h) (Or.inl ⟨by rfl, ?y116⟩) (by assumption) ?r116
              case y116 => (intro W hSw; (try dsimp only at hSw); go_simp; try with_reducible rfl)
              (try simp only [Act.put, List.setIfInBounds_toArray, List.set_cons_zero, List.set_cons_succ])
              refine wpAnyH_takeL (i := 4) (v := ?v117) rfl (by kernel_rfl) (by kernel_rfl) (by kernel_rfl) (fun _ _ _ h => h) (Or.inl ⟨by rfl, ?y117⟩) (by assumption) ?r117
              case y117 => (intro W hSw; (try dsimp only at hSw); go_simp; try with_reducible rfl)
              (try simp only [Act.put, List.setIfInBounds_toArray, List.set_cons_zero, List.set_cons_succ])
              refine wpAnyH_takeL (i := 5) (v := ?v118) rfl (by kernel_rfl) (by kernel_rfl) (by kernel_rfl) (fun _ _ _ h => h) (Or.inl ⟨by rfl, ?y118⟩) (by assumption) ?r118
              case y118 => (intro W hSw; (try dsimp only at hSw); go_simp; try with_reducible rfl)
              (try simp only [Act.put, List.setIfInBounds_toArray, List.set_cons_zero, List.set_cons_succ])
              refine wpAnyH_takeL (i := 6) (v := ?v119) rfl (by kernel_rfl) (by kernel_rfl) (by kernel_rfl) (fun _ _ _ h => h) (Or.inl ⟨by rfl, ?y119⟩) (by assumption) ?r119
              case y119 => (intro W hSw; (try dsimp only at hSw); go_simp; try with_reducible rfl)
              (try simp only [Act.put, List.setIfInBounds_toArray, List.set_cons_zero, List.set_cons_succ])
              refine wpAnyH_takeL (i := 7) (v := ?v120) rfl (by kernel_rfl) (by kernel_rfl) (by kernel_rfl) (fun _ _ _ h => h) (Or.inl ⟨by rfl, ?y120⟩) (by assumption) ?r120
              case y120 => (intro W hSw; (try dsimp only at hSw); go_simp; try with_reducible rfl)
              (try simp only [Act.put, List.setIfInBounds_toArray, List.set_cons_zero, List.set_cons_succ])
              refine wpAnyH_ready (rs := [8]) (by kernel_rfl) (by simp) ?_
              refine consL rfl (fun K hK => ?_) AllReadyH.nil
              go_simp
              refine Calls.mono (HD2.out _ _ _ (HXI.out _ hd).2 (HXM.out _ hd).2) ?_
              rintro e w7 ⟨rfl, h7⟩
              have g7 := hd.trans (h7.mono hd.size)
              (try dsimp only)
              refine hK.out _ _ (HF8.out _ g7) (fun hHeld => ?_)
              clear hK K
              (try simp only [Act.put, List.setIfInBounds_toArray, List.set_cons_zero, List.set_cons_succ])
              refine wpAnyH_takeL (i := 9) (v := ?v121) rfl (by kernel_rfl) (by kernel_rfl) (by kernel_rfl) (fun _ _ _ h => h) (Or.inl ⟨by rfl, ?y121⟩) (by assumption) ?r121
              case y121 => (intro W hSw; (try dsimp only at hSw); go_simp; try with_reducible rfl)
              (try simp only [Act.put, List.setIfInBounds_toArray, List.set_cons_zero, List.set_cons_succ])
              refine wpAnyH_takeL (i := 10) (v := ?v122) rfl (by kernel_rfl) (by kernel_rfl) (by kernel_rfl) (fun _ _ _ h => h) (Or.inl ⟨by rfl, ?y122⟩) (by assumption) ?r122
              case y122 => (intro W hSw; (try dsimp only at hSw); go_simp; try with_reducible rfl)
              (try simp only [Act.put, List.setIfInBounds_toArray, List.set_cons_zero, List.set_cons_succ])
              refine wpAnyH_takeL (i := 11) (v := ?v123) rfl (by kernel_rfl) (by kernel_rfl) (by kernel_rfl) (fun _ _ _ h => h) (Or.inl ⟨by rfl, ?y123⟩) (by assumption) ?r123
              case y123 => (intro W hSw; (try dsimp only at hSw); go_simp; try with_reducible rfl)
              (try simp only [Act.put, List.setIfInBounds_toArray, List.set_cons_zero, List.set_cons_succ])
              refine wpAnyH_takeL (i := 12) (v := ?v124) rfl (by kernel_rfl) (by kernel_rfl) (by kernel_rfl) (fun _ _ _ h => h) (Or.inl ⟨by rfl, ?y124⟩) (by assumption) ?r124
              case y124 => (intro W hSw; (try dsimp only at hSw); go_simp; try with_reducible rfl)
              (try simp only [Act.put, List.setIfInBounds_toArray, List.set_cons_zero, List.set_cons_succ])
              refine wpAnyH_takeL (i := 13) (v := ?v125) rfl (by kernel_rfl) (by kernel_rfl) (by kernel_rfl) (fun _ _ _ h => h) (Or.inl ⟨by rfl, ?y125⟩) (by assumption) ?r125
              case y125 => (intro W hSw; (try dsimp only at hSw); go_simp; try with_reducible rfl)
              (try simp only [Act.put, List.setIfInBounds_toArray, List.set_cons_zero, List.set_cons_succ])
              refine wpAnyH_done (by kernel_rfl) ?_ _
              go_wp2_with fail
              go_roundw
              case rel => exact ⟨mm + 1, by omega, by go_num, g7⟩
              case measure => simp [intOf]; omega
            · have hm9 : ¬ (mm : Int) < 8 := by omega
              go_wp2_with fail
              go_roundw
              case rel => exact ⟨i + 1, by omega, by go_num, H02.out.trans (hM.mono H02.out.size)⟩
              case measure => simp [intOf]; omega
    · have hi6 : ¬ (i : Int) < 8 := by omega
      go_wp2_with fail
      refine Calls.mono (l6lives_any wr) ?_
      rintro e w9 ⟨rfl, hb9⟩
      go_wp2_with fail
      go_ret
      exact ⟨rfl, h10.out.trans ((hW.trans (hb9.mono hW.size)).mono h10.out.size)⟩
end Go.Proofs.Ytedhbpceonhmcaa
