/-
  THE WALKS of own and plain: a value copied from one package's type to the other's. Written by gen/genvown.py.
-/
import Derived.Test.YtngfgohchnkidaaVaEl
import Derived.Test.YtngfgohchnkidaaRegLast
import Derived.Deep.RegionLaw
namespace Go.Proofs.Ytngfgohchnkidaa
open Go.RowKit

theorem info_vEntry : (Try.prog.info? 85).map (fun i => (i.zero, i.size, i.bytes)) = some (some (.agg #[.int .u64 0, .int .u64 0, .string ⟨#[]⟩]), 3, 32) := by kernel_rfl
theorem info_rEntry : (Try.prog.info? 84).map (fun i => (i.zero, i.size, i.bytes)) = some (some (.agg #[.int .u64 0, .int .u64 0, .string ⟨#[]⟩]), 3, 32) := by kernel_rfl
theorem info_partsV {t : TypeId} {z : Value} {s b : Nat} (h : (Try.prog.info? t).map (fun i => (i.zero, i.size, i.bytes)) = some (some z, s, b)) : ∃ i, Try.prog.info? t = some i ∧ i.zero = some z ∧ i.size = s ∧ i.bytes = b := by
  cases h1 : Try.prog.info? t with
  | none => rw [h1] at h; cases h
  | some i => rw [h1] at h; simp at h; exact ⟨i, rfl, h.1, h.2.1, h.2.2⟩
/-- fresh blocks -/
def MidV (n m : Nat) : Nat → Prop := fun b => n ≤ b ∧ b < m
/-- A CALL THAT HANDS BACK A VALUE, in new memory -/
def GivesV (w : World) (x : Va) (e : Ending) (w' : World) : Prop := ∃ v, e = .returned v ∧ VaV w' (MidV w.heap.size w'.heap.size) x v ∧ Below w.heap.size w w'
theorem grown_lowv {w1 w5 : World} {row : Option Nat} {B n : Nat} (hg : w1.grownBy w5 row) (hr : ∀ j, row = some j → n ≤ j) (hB : B < n) (hn : n ≤ w1.heap.size) : w5.heap[B]? = w1.heap[B]? :=
  hg.block B (Nat.lt_of_lt_of_le hB hn) (fun e => by have := hr B e.symm; omega)
theorem cell_oldv {w : World} {B i : Nat} (h : B < w.heap.size) (o : Obj) : (w.alloc o).cell? ⟨B, i, none⟩ = w.cell? ⟨B, i, none⟩ := World.cell?_of_block (Below.heap_alloc w o B h)
theorem frozen_oldv {w : World} {B i : Nat} (h : B < w.heap.size) (o : Obj) : (w.alloc o).frozen? ⟨B, i, none⟩ = w.frozen? ⟨B, i, none⟩ := World.frozen?_of_block (Below.heap_alloc w o B h)
theorem six_set5 {w : World} {b : Nat} {t : TypeId} {c0 c1 c2 c3 c4 c5 : Value} (hb : w.heap[b]? = some (.cells #[c0, c1, c2, c3, c4, c5] t (0, 0))) (u : Value) : (w.setCell ⟨b, 5, none⟩ u).heap[b]? = some (.cells #[c0, c1, c2, c3, c4, u] t (0, 0)) := by
  rw [blk_set hb]; rfl
theorem own_keptv {w w' : World} {base n size : Nat} {e : TypeId} {v : Value} {xs : List Value} (h : w.ownsRow base e size v n xs) (hk : ∀ b, base ≤ b → b < w.heap.size → w'.heap[b]? = w.heap[b]?) : w'.ownsRow base e size v n xs := by
  refine ⟨h.1, ?_⟩
  rcases h.2 with h0 | ⟨g, cap, cur, hv, hb, hg, hr⟩
  · exact .inl h0
  · exact .inr ⟨g, cap, cur, hv, hb, by rw [hk g hb (Array.getElem?_eq_some_iff.1 hg).1]; exact hg, hr⟩
theorem en_snoc {s l : List En} {j : Nat} {x : En} (hj : j < s.length) (hx : s[j] = x) (hl : l = s.take j) : l ++ [x] = s.take (j + 1) := by
  rw [List.take_succ_eq_append_getElem hj, hl, hx]
/-- a value is made of its parts -/
theorem VaV.mk {w : World} {S : Nat → Prop} {x : Va} {A : Option Addr} {c : Nat} (h : x.ok) (hc : x.m.length ≤ c) (hA : A = none → c = 0) (hl : EnL w S x.m A) : VaV w S x (vav x.k x.n x.ix x.u x.s A x.m.length c) := ⟨h, A, c, rfl, hc, hA, hl⟩
theorem RowE.snoc {w2 : World} {base g cap n : Nat} {e : TypeId} {l : List En} {x : En} (hn : n = l.length + 1) (hown : w2.ownsRow base e 3 (.slice (some ⟨g, 0, none⟩) n cap) n (l.flatMap En.cells ++ x.cells)) : RowE w2 base e (.slice (some ⟨g, 0, none⟩) (l ++ [x]).length cap) (l ++ [x]) := by
  subst hn
  unfold RowE
  rw [List.length_append, List.flatMap_append]
  simpa using hown

set_option maxHeartbeats 1000000 in
set_option maxRecDepth 100000 in
theorem l6own_any (x : Va) (v : Value) (w : World) (hv : VaV w (LoV w.heap.size) x v) : Calls Try.prog 14 #[v] w fun e w' => GivesV w x e w' := by
  obtain ⟨hok, A, c, rfl, hc, hA, hl⟩ := hv
  have Hok := Lib.hid hok
  obtain ⟨_, _, _, hxe, hxl⟩ := hok
  obtain ⟨k, n, ix, u, s, l⟩ := x
  simp only at hc hl hxe hxl
  obtain ⟨i0, hi, hz0, hz1, hz2⟩ := info_partsV info_vEntry
  unfold vav
  simp only
  go_enter Try.func14, Try.ntmps14
  go_wp2_with fail
  go_loopw [4] (fun i wr => ∃ (j : Nat) (cu : Value), j ≤ l.length ∧ i = .int .i64 j ∧ wr.heap[w.heap.size]? = some (.cells #[.int .i64 k, .int .i64 n, .int .i64 ix, .int .u64 u, .string s, .slice A l.length c] 30 (0, 0)) ∧
      wr.heap[w.heap.size + 1]? = some (.cells #[.int .i64 0, .int .i64 0, .int .i64 0, .int .u64 0, .string ⟨#[]⟩, .slice none 0 0] 35 (0, 0)) ∧ wr.heap[w.heap.size + 1 + 1]? = some (.cells #[.int .i64 k, .int .i64 n, .int .i64 ix, .int .u64 u, .string s, cu] 35 (0, 0)) ∧
      RowE wr (w.heap.size + 3) 85 cu (l.take j) ∧ Below w.heap.size w wr ∧ w.heap.size + 3 ≤ wr.heap.size) (fun i _ => l.length - (intOf i).toNat)
  case atStart =>
    refine ⟨0, .slice none 0 0, Nat.zero_le _, rfl, ?_, ?_, ?_, RowE.nil _ _ _, ?_, ?_⟩
    · exact (heap_alloc_old _ _ _ (by simp; omega)).trans ((heap_alloc_old _ _ _ (by simp)).trans (heap_alloc_new w _))
    · exact (heap_alloc_old _ _ _ (by simp)).trans (heap_alloc_new_at _ _ (by simp))
    · exact heap_alloc_new_at _ _ (by simp)
    · exact below_alloc3v (Below.refl _ _) (Nat.le_refl _) _ _ _
    · simp
  case round =>
    obtain ⟨j, cu, hj, rfl, hb0, hb1, hb2, hrow, hW, hsz⟩ := hrel
    by_cases hlt : j < l.length
    · obtain ⟨bl, o, rfl, hbl, h3⟩ := hl.get hlt
      have hbl' : bl < w.heap.size := hbl
      have h3' := h3.to (hW.block bl hbl')
      have HX := Lib.hid (fun t => en_snoc (l := t) hlt rfl)
      have hxo := hxe _ (List.getElem_mem hlt)
      generalize l[j] = y at h3' HX hxo
      obtain ⟨xi, xu, xs⟩ := y
      have hjl : (l.take j).length = j := List.length_take_of_le (by omega)
      have HR1 : ((wr.drew).alloc (.cells #[.int .u64 xi, .int .u64 xu, .string xs] 85)).ownsRow (w.heap.size + 3) 85 3 cu (l.take j).length ((l.take j).flatMap En.cells) := (own_below hrow (Below.refl _ _).drew).alloc _
      have HN1 := World.news_of_block (cs := #[.int .u64 xi, .int .u64 xu, .string xs]) (t := 85) (fr := (0, 0)) (heap_alloc_new_at wr.drew (.cells #[.int .u64 xi, .int .u64 xu, .string xs] 85) (n := wr.heap.size) rfl)
      have HB1 : w.heap.size + 3 ≤ ((wr.drew).alloc (.cells #[.int .u64 xi, .int .u64 xu, .string xs] 85)).heap.size := by simp; omega
      have HH1 : ((wr.drew).alloc (.cells #[.int .u64 xi, .int .u64 xu, .string xs] 85)).heap.size = wr.heap.size + 1 := by simp
      have hcub : ∀ b, cu.ownBlock = some b → w.heap.size + 3 ≤ b := hrow.blk
      have HL5 : ∀ w5, ((wr.drew).alloc (.cells #[.int .u64 xi, .int .u64 xu, .string xs] 85)).grownBy w5 cu.ownBlock → ∀ B, B < w.heap.size + 3 → w5.heap[B]? = wr.heap[B]? := fun w5 hg B hB => (grown_lowv hg hcub hB HB1).trans (Below.heap_alloc wr.drew _ B (by show B < wr.heap.size; omega))
      have HF5 : ∀ w5, ((wr.drew).alloc (.cells #[.int .u64 xi, .int .u64 xu, .string xs] 85)).grownBy w5 cu.ownBlock → w5.frozen? ⟨w.heap.size + 1 + 1, 5, none⟩ = false := fun w5 hg => blk_frozen ((HL5 w5 hg _ (by omega)).trans hb2) 5
      have hjn : (j : Int) < (l.length : Int) := by omega
      have hj0 : (0 : Int) ≤ (j : Int) := by omega
      have hc0 := (six hb0).2.2.2.2.2
      have g5 := (six hb2).2.2.2.2.2
      have hf2 := blk_frozen hb2 5
      have HS0 : ∀ W : World, W.heap[w.heap.size]? = wr.heap[w.heap.size]? → W.heap[bl]? = wr.heap[bl]? → W.heap[w.heap.size + 1 + 1]? = wr.heap[w.heap.size + 1 + 1]? → (W.cell? ⟨w.heap.size, 5, none⟩ = some (.slice (some ⟨bl, o, none⟩) l.length c) ∧ W.cell? ⟨bl, o + j * 3, none⟩ = some (.int .u64 xi) ∧ W.cell? ⟨bl, o + j * 3 + 1, none⟩ = some (.int .u64 xu) ∧ W.cell? ⟨bl, o + j * 3 + 2, none⟩ = some (.string xs) ∧ W.cell? ⟨w.heap.size + 1 + 1, 5, none⟩ = some cu) := fun W h1 h2 h3 => ⟨(World.cell?_of_block h1).trans hc0, (World.cell?_of_block h2).trans h3'.1, (World.cell?_of_block h2).trans h3'.2.1, (World.cell?_of_block h2).trans h3'.2.2, (World.cell?_of_block h3).trans g5⟩
      have hS1 := HS0 wr.drew rfl rfl rfl
      have hS2 := HS0 (wr.drew.alloc (.cells #[.int .u64 xi, .int .u64 xu, .string xs] 85)) (Below.heap_alloc wr.drew _ _ (by show _ < wr.heap.size; omega)) (Below.heap_alloc wr.drew _ _ (by show _ < wr.heap.size; omega)) (Below.heap_alloc wr.drew _ _ (by show _ < wr.heap.size; omega))
      have hS3 := fun (w5 : World) (hg : ((wr.drew).alloc (.cells #[.int .u64 xi, .int .u64 xu, .string xs] 85)).grownBy w5 cu.ownBlock) => HS0 w5 (HL5 w5 hg _ (by omega)) (HL5 w5 hg _ (by omega)) (HL5 w5 hg _ (by omega))
      have HX2 := Lib.hid (HX.out _ rfl)
      clear HS0 h3 h3' HX
      replace HX2 := HX2
      replace hb0 := Lib.hid hb0
      replace hb1 := Lib.hid hb1
      replace hb2 := Lib.hid hb2
      replace hxe := Lib.hid hxe
      replace HL5 := Lib.hid HL5
      have hc0k := hc0
      clear hl
      go_wp2_with fail
      refine region_lastp (fun W => W.cell? ⟨w.heap.size, 5, none⟩ = some (.slice (some ⟨bl, o, none⟩) l.length c) ∧ W.cell? ⟨bl, o + j * 3, none⟩ = some (.int .u64 xi) ∧ W.cell? ⟨bl, o + j * 3 + 1, none⟩ = some (.int .u64 xu) ∧ W.cell? ⟨bl, o + j * 3 + 2, none⟩ = some (.string xs) ∧ W.cell? ⟨w.heap.size + 1 + 1, 5, none⟩ = some cu) (by kernel_rfl) rfl (by kernel_rfl) ?_
      (try simp only [List.pop_toArray, List.dropLast_cons_cons, List.dropLast_singleton, List.size_toArray, List.length_cons, List.length_nil, Nat.zero_add, Nat.reduceAdd])
      refine wpAnyH_takeL (i := 0) (v := ?v1) rfl (by kernel_rfl) (by kernel_rfl) (by kernel_rfl) (fun _ _ _ h => h) (Or.inl ⟨by rfl, ?y1⟩) (by assumption) ?r1
      case y1 => (intro W hSw; (try dsimp only at hSw); go_simp; try with_reducible rfl)
      (try simp only [Act.put, List.setIfInBounds_toArray, List.set_cons_zero, List.set_cons_succ])
      refine wpAnyH_takeL (i := 1) (v := ?v2) rfl (by kernel_rfl) (by kernel_rfl) (by kernel_rfl) (fun _ _ _ h => h) (Or.inl ⟨by rfl, ?y2⟩) (by assumption) ?r2
      case y2 => (intro W hSw; (try dsimp only at hSw); go_simp; try with_reducible rfl)
      (try simp only [Act.put, List.setIfInBounds_toArray, List.set_cons_zero, List.set_cons_succ])
      refine wpAnyH_takeL (i := 2) (v := ?v3) rfl (by kernel_rfl) (by kernel_rfl) (by kernel_rfl) (fun _ _ _ h => h) (Or.inl ⟨by rfl, ?y3⟩) (by assumption) ?r3
      case y3 => (intro W hSw; (try dsimp only at hSw); go_simp; try with_reducible rfl)
      (try simp only [Act.put, List.setIfInBounds_toArray, List.set_cons_zero, List.set_cons_succ])
      refine wpAnyH_takeL (i := 3) (v := ?v4) rfl (by kernel_rfl) (by kernel_rfl) (by kernel_rfl) (fun _ _ _ h => h) (Or.inl ⟨by rfl, ?y4⟩) (by assumption) ?r4
      case y4 => (intro W hSw; (try dsimp only at hSw); go_simp; try with_reducible rfl)
      (try simp only [Act.put, List.setIfInBounds_toArray, List.set_cons_zero, List.set_cons_succ])
      refine wpAnyH_takeL (i := 4) (v := ?v5) rfl (by kernel_rfl) (by kernel_rfl) (by kernel_rfl) (fun _ _ _ h => h) (Or.inl ⟨by rfl, ?y5⟩) (by assumption) ?r5
      case y5 => (intro W hSw; (try dsimp only at hSw); go_simp; try with_reducible rfl)
      (try simp only [Act.put, List.setIfInBounds_toArray, List.set_cons_zero, List.set_cons_succ])
      refine wpAnyH_takeL (i := 5) (v := ?v6) rfl (by kernel_rfl) (by kernel_rfl) (by kernel_rfl) (fun _ _ _ h => h) (Or.inl ⟨by rfl, ?y6⟩) (by assumption) ?r6
      case y6 => (intro W hSw; (try dsimp only at hSw); go_simp; try with_reducible rfl)
      (try simp only [Act.put, List.setIfInBounds_toArray, List.set_cons_zero, List.set_cons_succ])
      refine wpAnyH_takeL (i := 6) (v := ?v7) rfl (by kernel_rfl) (by kernel_rfl) (by kernel_rfl) (fun _ _ _ h => h) (Or.inl ⟨by rfl, ?y7⟩) (by assumption) ?r7
      case y7 => (intro W hSw; (try dsimp only at hSw); go_simp; try with_reducible rfl)
      (try simp only [Act.put, List.setIfInBounds_toArray, List.set_cons_zero, List.set_cons_succ])
      refine wpAnyH_takeL (i := 7) (v := ?v8) rfl (by kernel_rfl) (by kernel_rfl) (by kernel_rfl) (fun _ _ _ h => h) (Or.inl ⟨by rfl, ?y8⟩) (by assumption) ?r8
      case y8 => (intro W hSw; (try dsimp only at hSw); go_simp; try with_reducible rfl)
      (try simp only [Act.put, List.setIfInBounds_toArray, List.set_cons_zero, List.set_cons_succ])
      refine wpAnyH_takeL (i := 8) (v := ?v9) rfl (by kernel_rfl) (by kernel_rfl) (by kernel_rfl) (fun _ _ _ h => h) (Or.inl ⟨by rfl, ?y9⟩) (by assumption) ?r9
      case y9 => (intro W hSw; (try dsimp only at hSw); go_simp; try with_reducible rfl)
      (try simp only [Act.put, List.setIfInBounds_toArray, List.set_cons_zero, List.set_cons_succ])
      refine wpAnyH_takeL (i := 9) (v := ?v10) rfl (by kernel_rfl) (by kernel_rfl) (by kernel_rfl) (fun _ _ _ h => h) (Or.inl ⟨by rfl, ?y10⟩) (by assumption) ?r10
      case y10 => (intro W hSw; (try dsimp only at hSw); go_simp; try with_reducible rfl)
      (try simp only [Act.put, List.setIfInBounds_toArray, List.set_cons_zero, List.set_cons_succ])
      refine wpAnyH_takeL (i := 10) (v := ?v11) rfl (by kernel_rfl) (by kernel_rfl) (by kernel_rfl) (fun _ _ _ h => h) (Or.inl ⟨by rfl, ?y11⟩) (by assumption) ?r11
      case y11 => (intro W hSw; (try dsimp only at hSw); go_simp; try with_reducible rfl)
      (try simp only [Act.put, List.setIfInBounds_toArray, List.set_cons_zero, List.set_cons_succ])
      refine wpAnyH_takeL (i := 11) (v := ?v12) rfl (by kernel_rfl) (by kernel_rfl) (by kernel_rfl) (fun _ _ _ h => h) (Or.inl ⟨by rfl, ?y12⟩) (by assumption) ?r12
      case y12 => (intro W hSw; (try dsimp only at hSw); go_simp; try with_reducible rfl)
      (try simp only [Act.put, List.setIfInBounds_toArray, List.set_cons_zero, List.set_cons_succ])
      refine wpAnyH_takeL (i := 12) (v := ?v13) rfl (by kernel_rfl) (by kernel_rfl) (by kernel_rfl) (fun _ _ _ h => h) (Or.inl ⟨by rfl, ?y13⟩) (by assumption) ?r13
      case y13 => (intro W hSw; (try dsimp only at hSw); go_simp; try with_reducible rfl)
      (try simp only [Act.put, List.setIfInBounds_toArray, List.set_cons_zero, List.set_cons_succ])
      refine wpAnyH_takeL (i := 13) (v := ?v14) rfl (by kernel_rfl) (by kernel_rfl) (by kernel_rfl) (fun _ _ _ h => h) (Or.inl ⟨by rfl, ?y14⟩) (by assumption) ?r14
      case y14 => (intro W hSw; (try dsimp only at hSw); go_simp; try with_reducible rfl)
      (try simp only [Act.put, List.setIfInBounds_toArray, List.set_cons_zero, List.set_cons_succ])
      refine wpAnyH_takeL (i := 14) (v := ?v15) rfl (by kernel_rfl) (by kernel_rfl) (by kernel_rfl) (fun _ _ _ h => h) (Or.inl ⟨by rfl, ?y15⟩) (by assumption) ?r15
      case y15 => (intro W hSw; (try dsimp only at hSw); go_simp; try with_reducible rfl)
      (try simp only [Act.put, List.setIfInBounds_toArray, List.set_cons_zero, List.set_cons_succ])
      refine wpAnyH_takeL (i := 15) (v := ?v16) rfl (by kernel_rfl) (by kernel_rfl) (by kernel_rfl) (fun _ _ _ h => h) (Or.inl ⟨by rfl, ?y16⟩) (by assumption) ?r16
      case y16 => (intro W hSw; (try dsimp only at hSw); go_simp; try with_reducible rfl)
      (try simp only [Act.put, List.setIfInBounds_toArray, List.set_cons_zero, List.set_cons_succ])
      refine wpAnyH_takeL (i := 16) (v := ?v17) rfl (by kernel_rfl) (by kernel_rfl) (by kernel_rfl) (fun _ _ _ h => h) (Or.inl ⟨by rfl, ?y17⟩) (by assumption) ?r17
      case y17 => (intro W hSw; (try dsimp only at hSw); go_simp; try with_reducible rfl)
      (try simp only [Act.put, List.setIfInBounds_toArray, List.set_cons_zero, List.set_cons_succ])
      refine wpAnyH_takeL (i := 17) (v := ?v18) rfl (by kernel_rfl) (by kernel_rfl) (by kernel_rfl) (fun _ _ _ h => h) (Or.inl ⟨by rfl, ?y18⟩) (by assumption) ?r18
      case y18 => (intro W hSw; (try dsimp only at hSw); go_simp; try with_reducible rfl)
      (try simp only [Act.put, List.setIfInBounds_toArray, List.set_cons_zero, List.set_cons_succ])
      refine wpAnyH_takeL (i := 18) (v := ?v19) rfl (by kernel_rfl) (by kernel_rfl) (by kernel_rfl) (fun _ _ _ h => h) (Or.inl ⟨by rfl, ?y19⟩) (by assumption) ?r19
      case y19 => (intro W hSw; (try dsimp only at hSw); go_simp; try with_reducible rfl)
      (try simp only [Act.put, List.setIfInBounds_toArray, List.set_cons_zero, List.set_cons_succ])
      refine wpAnyH_takeL (i := 19) (v := ?v20) rfl (by kernel_rfl) (by kernel_rfl) (by kernel_rfl) (fun _ _ _ h => h) (Or.inl ⟨by rfl, ?y20⟩) (by assumption) ?r20
      case y20 => (intro W hSw; (try dsimp only at hSw); go_simp; try with_reducible rfl)
      (try simp only [Act.put, List.setIfInBounds_toArray, List.set_cons_zero, List.set_cons_succ])
      refine wpAnyH_takeL (i := 20) (v := ?v21) rfl (by kernel_rfl) (by kernel_rfl) (by kernel_rfl) (fun _ _ _ h => h) (Or.inl ⟨by rfl, ?y21⟩) (by assumption) ?r21
      case y21 => (intro W hSw; (try dsimp only at hSw); go_simp; try with_reducible rfl)
      (try simp only [Act.put, List.setIfInBounds_toArray, List.set_cons_zero, List.set_cons_succ])
      refine wpAnyH_ready (rs := [21]) (by kernel_rfl) (by simp) ?_
      refine consL rfl (fun K hK => ?_) AllReadyH.nil
      go_simp
      refine hK.out _ _ (hS2) (fun hHeld => ?_)
      clear hK K
      (try simp only [Act.put, List.setIfInBounds_toArray, List.set_cons_zero, List.set_cons_succ])
      refine wpAnyH_ready (rs := [22]) (by kernel_rfl) (by simp) ?_
      refine consL rfl (fun K hK => ?_) AllReadyH.nil
      (refine step_append_lies _ (by rfl) _ _ _ (by rfl) (w.heap.size + 3) 85 i0 (.agg #[.int .u64 0, .int .u64 0, .string ⟨#[]⟩]) 3 32 Try.underlying33 hi hz0 hz1 hz2 rfl (by decide) cu (l.take j).length ((l.take j).flatMap En.cells) (by rfl) HR1 ⟨wr.heap.size, 0, none⟩ 1 1 (En.cells ⟨xi, xu, xs⟩) (by rfl) (by rfl) HN1 (en_one _) (by decide) (by unfold maxLen; omega) (by omega) HB1 (wr.heap.size + 1) HH1 ?_; intro g' cap' w5 hown5 hgrow5 hat5 hlt5; have hf5 := HF5 w5 hgrow5; have hS5 := hS3 w5 hgrow5; have hg5 := hS5.2.2.2.2)
      refine hK.out _ _ (hS5) (fun hHeld => ?_)
      clear hK K
      (try simp only [Act.put, List.setIfInBounds_toArray, List.set_cons_zero, List.set_cons_succ])
      refine wpAnyH_takeL (i := 23) (v := ?v22) rfl (by kernel_rfl) (by kernel_rfl) (by kernel_rfl) (fun _ _ _ h => h) (Or.inl ⟨by rfl, ?y22⟩) (by assumption) ?r22
      case y22 => (intro W hSw; (try dsimp only at hSw); go_simp; try with_reducible rfl)
      (try simp only [Act.put, List.setIfInBounds_toArray, List.set_cons_zero, List.set_cons_succ])
      refine wpAnyH_done (by kernel_rfl) ?_ _
      refine lastQ_of rfl (fun K hK => ?_)
      go_simp
      refine hK.out _ _ ?_
      clear hK K
      go_wp2_with fail
      go_roundw
      case rel =>
        have hlow5 := HL5.out _ hgrow5
        refine ⟨j + 1, .slice (some ⟨g', 0, none⟩) (j + 1) cap', by omega, by go_num, ?_, ?_, ?_, ?_, ?_, ?_⟩
        · exact (Below.heap_setCell _ _ _ _ (by simp; omega)).trans ((hlow5 _ (by omega)).trans hb0.out)
        · exact (Below.heap_setCell _ _ _ _ (by simp)).trans ((hlow5 _ (by omega)).trans hb1.out)
        · exact six_set5 ((hlow5 _ (by omega)).trans hb2.out) _
        · have hr := RowE.snoc (x := ⟨xi, xu, xs⟩) rfl hown5
          rw [HX2.out] at hr
          rw [show (l.take (j + 1)).length = j + 1 from List.length_take_of_le (by omega)] at hr
          exact own_keptv hr (fun b h1 _ => Below.heap_setCell _ _ _ b (by simp; omega))
        · exact (hW.trans (((Below.refl _ _).drew.alloc (Nat.le_trans (Nat.le_add_right _ 3) hsz) _).grown hgrow5 (by simp; omega) (fun j ej => Nat.le_trans (by omega) (hcub j ej)))).setCell (p := ⟨w.heap.size + 1 + 1, 5, none⟩) (by simp; omega) _
        · have h7 : wr.heap.size + 1 ≤ w5.heap.size := (by have := hgrow5.size; simpa using this); simp [World.setCell]; omega
      case measure => simp [intOf]; omega
    · have he := Lib.hid (show l.take j = l from List.take_of_length_le (by omega))
      rw [he.out] at hrow
      have hjn : ¬ (j : Int) < (l.length : Int) := by omega
      have hc0 := (six hb0).2.2.2.2.2
      obtain ⟨q0, q1, q2, q3, q4, q5⟩ := six hb1
      obtain ⟨z0, z1, z2, z3, z4, z5⟩ := six hb2
      have hf1 := blk_frozen hb1
      obtain ⟨A1, c1, rfl, hc1, hA1⟩ := hrow.val
      replace hb0 := Lib.hid hb0
      replace hb1 := Lib.hid hb1
      replace hb2 := Lib.hid hb2
      go_wp2_with fail
      refine bodyPost_ret (v := .agg #[.int .i64 k, .int .i64 n, .int .i64 ix, .int .u64 u, .string s, .slice A1 l.length c1]) (by simp [results, Try.results14, go_sem, q0, q1, q2, q3, q4, q5]) rfl ?_
      have hm := set6_below (N := w.heap.size + 1) hW (Nat.le_succ w.heap.size) (.int .i64 k) (.int .i64 n) (.int .i64 ix) (.int .u64 u) (.string s) (.slice A1 l.length c1)
      refine ⟨_, rfl, VaV.mk Hok.out hc1 hA1 (hrow.list.to (fun b hb => ⟨⟨by have := hb.1; omega, by rw [set6_size]; exact hb.2⟩, set6_heap _ _ _ _ _ _ (by have := hb.1; omega)⟩)), hm⟩

set_option maxHeartbeats 1000000 in
set_option maxRecDepth 100000 in
theorem l6plain_any (x : Va) (v : Value) (w : World) (hv : VaV w (LoV w.heap.size) x v) : Calls Try.prog 17 #[v] w fun e w' => GivesV w x e w' := by
  obtain ⟨hok, A, c, rfl, hc, hA, hl⟩ := hv
  have Hok := Lib.hid hok
  obtain ⟨_, _, _, hxe, hxl⟩ := hok
  obtain ⟨k, n, ix, u, s, l⟩ := x
  simp only at hc hl hxe hxl
  obtain ⟨i0, hi, hz0, hz1, hz2⟩ := info_partsV info_rEntry
  unfold vav
  simp only
  go_enter Try.func17, Try.ntmps17
  go_wp2_with fail
  go_loopw [4] (fun i wr => ∃ (j : Nat) (cu : Value), j ≤ l.length ∧ i = .int .i64 j ∧ wr.heap[w.heap.size]? = some (.cells #[.int .i64 k, .int .i64 n, .int .i64 ix, .int .u64 u, .string s, .slice A l.length c] 35 (0, 0)) ∧
      wr.heap[w.heap.size + 1]? = some (.cells #[.int .i64 0, .int .i64 0, .int .i64 0, .int .u64 0, .string ⟨#[]⟩, .slice none 0 0] 30 (0, 0)) ∧ wr.heap[w.heap.size + 1 + 1]? = some (.cells #[.int .i64 k, .int .i64 n, .int .i64 ix, .int .u64 u, .string s, cu] 30 (0, 0)) ∧
      RowE wr (w.heap.size + 3) 84 cu (l.take j) ∧ Below w.heap.size w wr ∧ w.heap.size + 3 ≤ wr.heap.size) (fun i _ => l.length - (intOf i).toNat)
  case atStart =>
    refine ⟨0, .slice none 0 0, Nat.zero_le _, rfl, ?_, ?_, ?_, RowE.nil _ _ _, ?_, ?_⟩
    · exact (heap_alloc_old _ _ _ (by simp; omega)).trans ((heap_alloc_old _ _ _ (by simp)).trans (heap_alloc_new w _))
    · exact (heap_alloc_old _ _ _ (by simp)).trans (heap_alloc_new_at _ _ (by simp))
    · exact heap_alloc_new_at _ _ (by simp)
    · exact below_alloc3v (Below.refl _ _) (Nat.le_refl _) _ _ _
    · simp
  case round =>
    obtain ⟨j, cu, hj, rfl, hb0, hb1, hb2, hrow, hW, hsz⟩ := hrel
    by_cases hlt : j < l.length
    · obtain ⟨bl, o, rfl, hbl, h3⟩ := hl.get hlt
      have hbl' : bl < w.heap.size := hbl
      have h3' := h3.to (hW.block bl hbl')
      have HX := Lib.hid (fun t => en_snoc (l := t) hlt rfl)
      have hxo := hxe _ (List.getElem_mem hlt)
      generalize l[j] = y at h3' HX hxo
      obtain ⟨xi, xu, xs⟩ := y
      have hjl : (l.take j).length = j := List.length_take_of_le (by omega)
      have HR1 : ((wr.drew).alloc (.cells #[.int .u64 xi, .int .u64 xu, .string xs] 84)).ownsRow (w.heap.size + 3) 84 3 cu (l.take j).length ((l.take j).flatMap En.cells) := (own_below hrow (Below.refl _ _).drew).alloc _
      have HN1 := World.news_of_block (cs := #[.int .u64 xi, .int .u64 xu, .string xs]) (t := 84) (fr := (0, 0)) (heap_alloc_new_at wr.drew (.cells #[.int .u64 xi, .int .u64 xu, .string xs] 84) (n := wr.heap.size) rfl)
      have HB1 : w.heap.size + 3 ≤ ((wr.drew).alloc (.cells #[.int .u64 xi, .int .u64 xu, .string xs] 84)).heap.size := by simp; omega
      have HH1 : ((wr.drew).alloc (.cells #[.int .u64 xi, .int .u64 xu, .string xs] 84)).heap.size = wr.heap.size + 1 := by simp
      have hcub : ∀ b, cu.ownBlock = some b → w.heap.size + 3 ≤ b := hrow.blk
      have HL5 : ∀ w5, ((wr.drew).alloc (.cells #[.int .u64 xi, .int .u64 xu, .string xs] 84)).grownBy w5 cu.ownBlock → ∀ B, B < w.heap.size + 3 → w5.heap[B]? = wr.heap[B]? := fun w5 hg B hB => (grown_lowv hg hcub hB HB1).trans (Below.heap_alloc wr.drew _ B (by show B < wr.heap.size; omega))
      have HF5 : ∀ w5, ((wr.drew).alloc (.cells #[.int .u64 xi, .int .u64 xu, .string xs] 84)).grownBy w5 cu.ownBlock → w5.frozen? ⟨w.heap.size + 1 + 1, 5, none⟩ = false := fun w5 hg => blk_frozen ((HL5 w5 hg _ (by omega)).trans hb2) 5
      have hjn : (j : Int) < (l.length : Int) := by omega
      have hj0 : (0 : Int) ≤ (j : Int) := by omega
      have hc0 := (six hb0).2.2.2.2.2
      have g5 := (six hb2).2.2.2.2.2
      have hf2 := blk_frozen hb2 5
      have HS0 : ∀ W : World, W.heap[w.heap.size]? = wr.heap[w.heap.size]? → W.heap[bl]? = wr.heap[bl]? → W.heap[w.heap.size + 1 + 1]? = wr.heap[w.heap.size + 1 + 1]? → (W.cell? ⟨w.heap.size, 5, none⟩ = some (.slice (some ⟨bl, o, none⟩) l.length c) ∧ W.cell? ⟨bl, o + j * 3, none⟩ = some (.int .u64 xi) ∧ W.cell? ⟨bl, o + j * 3 + 1, none⟩ = some (.int .u64 xu) ∧ W.cell? ⟨bl, o + j * 3 + 2, none⟩ = some (.string xs) ∧ W.cell? ⟨w.heap.size + 1 + 1, 5, none⟩ = some cu) := fun W h1 h2 h3 => ⟨(World.cell?_of_block h1).trans hc0, (World.cell?_of_block h2).trans h3'.1, (World.cell?_of_block h2).trans h3'.2.1, (World.cell?_of_block h2).trans h3'.2.2, (World.cell?_of_block h3).trans g5⟩
      have hS1 := HS0 wr.drew rfl rfl rfl
      have hS2 := HS0 (wr.drew.alloc (.cells #[.int .u64 xi, .int .u64 xu, .string xs] 84)) (Below.heap_alloc wr.drew _ _ (by show _ < wr.heap.size; omega)) (Below.heap_alloc wr.drew _ _ (by show _ < wr.heap.size; omega)) (Below.heap_alloc wr.drew _ _ (by show _ < wr.heap.size; omega))
      have hS3 := fun (w5 : World) (hg : ((wr.drew).alloc (.cells #[.int .u64 xi, .int .u64 xu, .string xs] 84)).grownBy w5 cu.ownBlock) => HS0 w5 (HL5 w5 hg _ (by omega)) (HL5 w5 hg _ (by omega)) (HL5 w5 hg _ (by omega))
      have HX2 := Lib.hid (HX.out _ rfl)
      clear HS0 h3 h3' HX
      replace HX2 := HX2
      replace hb0 := Lib.hid hb0
      replace hb1 := Lib.hid hb1
      replace hb2 := Lib.hid hb2
      replace hxe := Lib.hid hxe
      replace HL5 := Lib.hid HL5
      have hc0k := hc0
      clear hl
      go_wp2_with fail
      refine region_lastp (fun W => W.cell? ⟨w.heap.size, 5, none⟩ = some (.slice (some ⟨bl, o, none⟩) l.length c) ∧ W.cell? ⟨bl, o + j * 3, none⟩ = some (.int .u64 xi) ∧ W.cell? ⟨bl, o + j * 3 + 1, none⟩ = some (.int .u64 xu) ∧ W.cell? ⟨bl, o + j * 3 + 2, none⟩ = some (.string xs) ∧ W.cell? ⟨w.heap.size + 1 + 1, 5, none⟩ = some cu) (by kernel_rfl) rfl (by kernel_rfl) ?_
      (try simp only [List.pop_toArray, List.dropLast_cons_cons, List.dropLast_singleton, List.size_toArray, List.length_cons, List.length_nil, Nat.zero_add, Nat.reduceAdd])
      refine wpAnyH_takeL (i := 0) (v := ?v23) rfl (by kernel_rfl) (by kernel_rfl) (by kernel_rfl) (fun _ _ _ h => h) (Or.inl ⟨by rfl, ?y23⟩) (by assumption) ?r23
      case y23 => (intro W hSw; (try dsimp only at hSw); go_simp; try with_reducible rfl)
      (try simp only [Act.put, List.setIfInBounds_toArray, List.set_cons_zero, List.set_cons_succ])
      refine wpAnyH_takeL (i := 1) (v := ?v24) rfl (by kernel_rfl) (by kernel_rfl) (by kernel_rfl) (fun _ _ _ h => h) (Or.inl ⟨by rfl, ?y24⟩) (by assumption) ?r24
      case y24 => (intro W hSw; (try dsimp only at hSw); go_simp; try with_reducible rfl)
      (try simp only [Act.put, List.setIfInBounds_toArray, List.set_cons_zero, List.set_cons_succ])
      refine wpAnyH_takeL (i := 2) (v := ?v25) rfl (by kernel_rfl) (by kernel_rfl) (by kernel_rfl) (fun _ _ _ h => h) (Or.inl ⟨by rfl, ?y25⟩) (by assumption) ?r25
      case y25 => (intro W hSw; (try dsimp only at hSw); go_simp; try with_reducible rfl)
      (try simp only [Act.put, List.setIfInBounds_toArray, List.set_cons_zero, List.set_cons_succ])
      refine wpAnyH_takeL (i := 3) (v := ?v26) rfl (by kernel_rfl) (by kernel_rfl) (by kernel_rfl) (fun _ _ _ h => h) (Or.inl ⟨by rfl, ?y26⟩) (by assumption) ?r26
      case y26 => (intro W hSw; (try dsimp only at hSw); go_simp; try with_reducible rfl)
      (try simp only [Act.put, List.setIfInBounds_toArray, List.set_cons_zero, List.set_cons_succ])
      refine wpAnyH_takeL (i := 4) (v := ?v27) rfl (by kernel_rfl) (by kernel_rfl) (by kernel_rfl) (fun _ _ _ h => h) (Or.inl ⟨by rfl, ?y27⟩) (by assumption) ?r27
      case y27 => (intro W hSw; (try dsimp only at hSw); go_simp; try with_reducible rfl)
      (try simp only [Act.put, List.setIfInBounds_toArray, List.set_cons_zero, List.set_cons_succ])
      refine wpAnyH_takeL (i := 5) (v := ?v28) rfl (by kernel_rfl) (by kernel_rfl) (by kernel_rfl) (fun _ _ _ h => h) (Or.inl ⟨by rfl, ?y28⟩) (by assumption) ?r28
      case y28 => (intro W hSw; (try dsimp only at hSw); go_simp; try with_reducible rfl)
      (try simp only [Act.put, List.setIfInBounds_toArray, List.set_cons_zero, List.set_cons_succ])
      refine wpAnyH_takeL (i := 6) (v := ?v29) rfl (by kernel_rfl) (by kernel_rfl) (by kernel_rfl) (fun _ _ _ h => h) (Or.inl ⟨by rfl, ?y29⟩) (by assumption) ?r29
      case y29 => (intro W hSw; (try dsimp only at hSw); go_simp; try with_reducible rfl)
      (try simp only [Act.put, List.setIfInBounds_toArray, List.set_cons_zero, List.set_cons_succ])
      refine wpAnyH_takeL (i := 7) (v := ?v30) rfl (by kernel_rfl) (by kernel_rfl) (by kernel_rfl) (fun _ _ _ h => h) (Or.inl ⟨by rfl, ?y30⟩) (by assumption) ?r30
      case y30 => (intro W hSw; (try dsimp only at hSw); go_simp; try with_reducible rfl)
      (try simp only [Act.put, List.setIfInBounds_toArray, List.set_cons_zero, List.set_cons_succ])
      refine wpAnyH_takeL (i := 8) (v := ?v31) rfl (by kernel_rfl) (by kernel_rfl) (by kernel_rfl) (fun _ _ _ h => h) (Or.inl ⟨by rfl, ?y31⟩) (by assumption) ?r31
      case y31 => (intro W hSw; (try dsimp only at hSw); go_simp; try with_reducible rfl)
      (try simp only [Act.put, List.setIfInBounds_toArray, List.set_cons_zero, List.set_cons_succ])
      refine wpAnyH_takeL (i := 9) (v := ?v32) rfl (by kernel_rfl) (by kernel_rfl) (by kernel_rfl) (fun _ _ _ h => h) (Or.inl ⟨by rfl, ?y32⟩) (by assumption) ?r32
      case y32 => (intro W hSw; (try dsimp only at hSw); go_simp; try with_reducible rfl)
      (try simp only [Act.put, List.setIfInBounds_toArray, List.set_cons_zero, List.set_cons_succ])
      refine wpAnyH_takeL (i := 10) (v := ?v33) rfl (by kernel_rfl) (by kernel_rfl) (by kernel_rfl) (fun _ _ _ h => h) (Or.inl ⟨by rfl, ?y33⟩) (by assumption) ?r33
      case y33 => (intro W hSw; (try dsimp only at hSw); go_simp; try with_reducible rfl)
      (try simp only [Act.put, List.setIfInBounds_toArray, List.set_cons_zero, List.set_cons_succ])
      refine wpAnyH_takeL (i := 11) (v := ?v34) rfl (by kernel_rfl) (by kernel_rfl) (by kernel_rfl) (fun _ _ _ h => h) (Or.inl ⟨by rfl, ?y34⟩) (by assumption) ?r34
      case y34 => (intro W hSw; (try dsimp only at hSw); go_simp; try with_reducible rfl)
      (try simp only [Act.put, List.setIfInBounds_toArray, List.set_cons_zero, List.set_cons_succ])
      refine wpAnyH_takeL (i := 12) (v := ?v35) rfl (by kernel_rfl) (by kernel_rfl) (by kernel_rfl) (fun _ _ _ h => h) (Or.inl ⟨by rfl, ?y35⟩) (by assumption) ?r35
      case y35 => (intro W hSw; (try dsimp only at hSw); go_simp; try with_reducible rfl)
      (try simp only [Act.put, List.setIfInBounds_toArray, List.set_cons_zero, List.set_cons_succ])
      refine wpAnyH_takeL (i := 13) (v := ?v36) rfl (by kernel_rfl) (by kernel_rfl) (by kernel_rfl) (fun _ _ _ h => h) (Or.inl ⟨by rfl, ?y36⟩) (by assumption) ?r36
      case y36 => (intro W hSw; (try dsimp only at hSw); go_simp; try with_reducible rfl)
      (try simp only [Act.put, List.setIfInBounds_toArray, List.set_cons_zero, List.set_cons_succ])
      refine wpAnyH_takeL (i := 14) (v := ?v37) rfl (by kernel_rfl) (by kernel_rfl) (by kernel_rfl) (fun _ _ _ h => h) (Or.inl ⟨by rfl, ?y37⟩) (by assumption) ?r37
      case y37 => (intro W hSw; (try dsimp only at hSw); go_simp; try with_reducible rfl)
      (try simp only [Act.put, List.setIfInBounds_toArray, List.set_cons_zero, List.set_cons_succ])
      refine wpAnyH_takeL (i := 15) (v := ?v38) rfl (by kernel_rfl) (by kernel_rfl) (by kernel_rfl) (fun _ _ _ h => h) (Or.inl ⟨by rfl, ?y38⟩) (by assumption) ?r38
      case y38 => (intro W hSw; (try dsimp only at hSw); go_simp; try with_reducible rfl)
      (try simp only [Act.put, List.setIfInBounds_toArray, List.set_cons_zero, List.set_cons_succ])
      refine wpAnyH_takeL (i := 16) (v := ?v39) rfl (by kernel_rfl) (by kernel_rfl) (by kernel_rfl) (fun _ _ _ h => h) (Or.inl ⟨by rfl, ?y39⟩) (by assumption) ?r39
      case y39 => (intro W hSw; (try dsimp only at hSw); go_simp; try with_reducible rfl)
      (try simp only [Act.put, List.setIfInBounds_toArray, List.set_cons_zero, List.set_cons_succ])
      refine wpAnyH_takeL (i := 17) (v := ?v40) rfl (by kernel_rfl) (by kernel_rfl) (by kernel_rfl) (fun _ _ _ h => h) (Or.inl ⟨by rfl, ?y40⟩) (by assumption) ?r40
      case y40 => (intro W hSw; (try dsimp only at hSw); go_simp; try with_reducible rfl)
      (try simp only [Act.put, List.setIfInBounds_toArray, List.set_cons_zero, List.set_cons_succ])
      refine wpAnyH_takeL (i := 18) (v := ?v41) rfl (by kernel_rfl) (by kernel_rfl) (by kernel_rfl) (fun _ _ _ h => h) (Or.inl ⟨by rfl, ?y41⟩) (by assumption) ?r41
      case y41 => (intro W hSw; (try dsimp only at hSw); go_simp; try with_reducible rfl)
      (try simp only [Act.put, List.setIfInBounds_toArray, List.set_cons_zero, List.set_cons_succ])
      refine wpAnyH_takeL (i := 19) (v := ?v42) rfl (by kernel_rfl) (by kernel_rfl) (by kernel_rfl) (fun _ _ _ h => h) (Or.inl ⟨by rfl, ?y42⟩) (by assumption) ?r42
      case y42 => (intro W hSw; (try dsimp only at hSw); go_simp; try with_reducible rfl)
      (try simp only [Act.put, List.setIfInBounds_toArray, List.set_cons_zero, List.set_cons_succ])
      refine wpAnyH_takeL (i := 20) (v := ?v43) rfl (by kernel_rfl) (by kernel_rfl) (by kernel_rfl) (fun _ _ _ h => h) (Or.inl ⟨by rfl, ?y43⟩) (by assumption) ?r43
      case y43 => (intro W hSw; (try dsimp only at hSw); go_simp; try with_reducible rfl)
      (try simp only [Act.put, List.setIfInBounds_toArray, List.set_cons_zero, List.set_cons_succ])
      refine wpAnyH_ready (rs := [21]) (by kernel_rfl) (by simp) ?_
      refine consL rfl (fun K hK => ?_) AllReadyH.nil
      go_simp
      refine hK.out _ _ (hS2) (fun hHeld => ?_)
      clear hK K
      (try simp only [Act.put, List.setIfInBounds_toArray, List.set_cons_zero, List.set_cons_succ])
      refine wpAnyH_ready (rs := [22]) (by kernel_rfl) (by simp) ?_
      refine consL rfl (fun K hK => ?_) AllReadyH.nil
      (refine step_append_lies _ (by rfl) _ _ _ (by rfl) (w.heap.size + 3) 84 i0 (.agg #[.int .u64 0, .int .u64 0, .string ⟨#[]⟩]) 3 32 Try.underlying28 hi hz0 hz1 hz2 rfl (by decide) cu (l.take j).length ((l.take j).flatMap En.cells) (by rfl) HR1 ⟨wr.heap.size, 0, none⟩ 1 1 (En.cells ⟨xi, xu, xs⟩) (by rfl) (by rfl) HN1 (en_one _) (by decide) (by unfold maxLen; omega) (by omega) HB1 (wr.heap.size + 1) HH1 ?_; intro g' cap' w5 hown5 hgrow5 hat5 hlt5; have hf5 := HF5 w5 hgrow5; have hS5 := hS3 w5 hgrow5; have hg5 := hS5.2.2.2.2)
      refine hK.out _ _ (hS5) (fun hHeld => ?_)
      clear hK K
      (try simp only [Act.put, List.setIfInBounds_toArray, List.set_cons_zero, List.set_cons_succ])
      refine wpAnyH_takeL (i := 23) (v := ?v44) rfl (by kernel_rfl) (by kernel_rfl) (by kernel_rfl) (fun _ _ _ h => h) (Or.inl ⟨by rfl, ?y44⟩) (by assumption) ?r44
      case y44 => (intro W hSw; (try dsimp only at hSw); go_simp; try with_reducible rfl)
      (try simp only [Act.put, List.setIfInBounds_toArray, List.set_cons_zero, List.set_cons_succ])
      refine wpAnyH_done (by kernel_rfl) ?_ _
      refine lastQ_of rfl (fun K hK => ?_)
      go_simp
      refine hK.out _ _ ?_
      clear hK K
      go_wp2_with fail
      go_roundw
      case rel =>
        have hlow5 := HL5.out _ hgrow5
        refine ⟨j + 1, .slice (some ⟨g', 0, none⟩) (j + 1) cap', by omega, by go_num, ?_, ?_, ?_, ?_, ?_, ?_⟩
        · exact (Below.heap_setCell _ _ _ _ (by simp; omega)).trans ((hlow5 _ (by omega)).trans hb0.out)
        · exact (Below.heap_setCell _ _ _ _ (by simp)).trans ((hlow5 _ (by omega)).trans hb1.out)
        · exact six_set5 ((hlow5 _ (by omega)).trans hb2.out) _
        · have hr := RowE.snoc (x := ⟨xi, xu, xs⟩) rfl hown5
          rw [HX2.out] at hr
          rw [show (l.take (j + 1)).length = j + 1 from List.length_take_of_le (by omega)] at hr
          exact own_keptv hr (fun b h1 _ => Below.heap_setCell _ _ _ b (by simp; omega))
        · exact (hW.trans (((Below.refl _ _).drew.alloc (Nat.le_trans (Nat.le_add_right _ 3) hsz) _).grown hgrow5 (by simp; omega) (fun j ej => Nat.le_trans (by omega) (hcub j ej)))).setCell (p := ⟨w.heap.size + 1 + 1, 5, none⟩) (by simp; omega) _
        · have h7 : wr.heap.size + 1 ≤ w5.heap.size := (by have := hgrow5.size; simpa using this); simp [World.setCell]; omega
      case measure => simp [intOf]; omega
    · have he := Lib.hid (show l.take j = l from List.take_of_length_le (by omega))
      rw [he.out] at hrow
      have hjn : ¬ (j : Int) < (l.length : Int) := by omega
      have hc0 := (six hb0).2.2.2.2.2
      obtain ⟨q0, q1, q2, q3, q4, q5⟩ := six hb1
      obtain ⟨z0, z1, z2, z3, z4, z5⟩ := six hb2
      have hf1 := blk_frozen hb1
      obtain ⟨A1, c1, rfl, hc1, hA1⟩ := hrow.val
      replace hb0 := Lib.hid hb0
      replace hb1 := Lib.hid hb1
      replace hb2 := Lib.hid hb2
      go_wp2_with fail
      refine bodyPost_ret (v := .agg #[.int .i64 k, .int .i64 n, .int .i64 ix, .int .u64 u, .string s, .slice A1 l.length c1]) (by simp [results, Try.results17, go_sem, q0, q1, q2, q3, q4, q5]) rfl ?_
      have hm := set6_below (N := w.heap.size + 1) hW (Nat.le_succ w.heap.size) (.int .i64 k) (.int .i64 n) (.int .i64 ix) (.int .u64 u) (.string s) (.slice A1 l.length c1)
      refine ⟨_, rfl, VaV.mk Hok.out hc1 hA1 (hrow.list.to (fun b hb => ⟨⟨by have := hb.1; omega, by rw [set6_size]; exact hb.2⟩, set6_heap _ _ _ _ _ _ (by have := hb.1; omega)⟩)), hm⟩
end Go.Proofs.Ytngfgohchnkidaa
