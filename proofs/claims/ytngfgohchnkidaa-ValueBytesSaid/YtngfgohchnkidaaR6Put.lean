/-
  THE WALK of the reference's Put. Written by gen/genr6put.py.
-/
import Derived.Test.YtngfgohchnkidaaVaPut
import Derived.Test.YtngfgohchnkidaaVaCat
namespace Go.Proofs.Ytngfgohchnkidaa
open Go.RowKit

/-- append of a row of entries, nil let in; the result as a slice -/
theorem wpList_append_en {P : Program} (w : World) {ops : Array Oper} {rest : List Oper} {o : Oper} {a : Act} {Q : Exit → Act → World → Prop} (hgd : o.guard = none) (s x : Operand) (t : TypeId)
    (ho : o.op = .call { callee := .builtin .append, args := #[s, x], argTypes := #[t, t] })
    (base : Nat) (e : TypeId) (i : TypeInfo) (z : Value) (bytes : Nat) (ht : P.underlying t = some (.slice e)) (hi : P.info? e = some i) (hz : i.zero = some z)
    (hsize : i.size = 3) (hby : i.bytes = bytes) (hzs : z.cells.size = 3)
    (v : Value) (l : List En) (hs : a.eval s = v) (hrow : RowE w base e v l) (S : Nat → Prop)
    (A : Option Addr) (m c : Nat) (xs : List En) (hx : a.eval x = .slice A m c) (hm : m = xs.length) (hA : A = none → c = 0) (hc : xs.length ≤ c) (hr : EnL w S xs A)
    (h63 : l.length + m ≤ maxLen) (hbytes : (l.length + m) * bytes ≤ 140737488355328) (hbase : base ≤ w.heap.size)
    (h : ∀ A' n' c' w', Hid (n' = (l ++ xs).length ∧ n' ≤ c' ∧ (A' = none → c' = 0)) → RowE w' base e (.slice A' n' c') (l ++ xs) → w.grownBy w' v.ownBlock → wpList P ops Q rest (a.put o.dst (.slice A' n' c')) w') : wpList P ops Q (o :: rest) a w :=
  wpList_append_e w hgd s x t ho base e i z bytes ht hi hz hsize hby hzs v l hs hrow S A m c xs hx hm hA hc hr h63 hbytes hbase (fun v' w' h1 h2 => by
    obtain ⟨A', c', rfl, hc', hA'⟩ := h1.val
    exact h A' _ c' w' (Lib.hid ⟨rfl, hc', hA'⟩) h1 h2)
theorem step_append_en {P : Program} (w : World) {ops : Array Oper} {o : Oper} {a : Act} {K : Act → World → Prop} {Q : Exit → Act → World → Prop} {E : Prop} (hgd : o.guard = none) (s x : Operand) (t : TypeId)
    (ho : o.op = .call { callee := .builtin .append, args := #[s, x], argTypes := #[t, t] })
    (base : Nat) (e : TypeId) (i : TypeInfo) (z : Value) (bytes : Nat) (ht : P.underlying t = some (.slice e)) (hi : P.info? e = some i) (hz : i.zero = some z)
    (hsize : i.size = 3) (hby : i.bytes = bytes) (hzs : z.cells.size = 3)
    (v : Value) (l : List En) (hs : a.eval s = v) (hrow : RowE w base e v l) (S : Nat → Prop)
    (A : Option Addr) (m c : Nat) (xs : List En) (hx : a.eval x = .slice A m c) (hm : m = xs.length) (hA : A = none → c = 0) (hc : xs.length ≤ c) (hr : EnL w S xs A)
    (h63 : l.length + m ≤ maxLen) (hbytes : (l.length + m) * bytes ≤ 140737488355328) (hbase : base ≤ w.heap.size)
    (h : ∀ A' n' c' w', Hid (n' = (l ++ xs).length ∧ n' ≤ c' ∧ (A' = none → c' = 0)) → RowE w' base e (.slice A' n' c') (l ++ xs) → w.grownBy w' v.ownBlock → K (a.put o.dst (.slice A' n' c')) w') : if Region.wanted o (yielded ops a.tmps) = true then Oper.wp P o a w K Q else E := by
  have hw : Region.wanted o (yielded ops a.tmps) = true := by simp [Region.wanted, hgd]
  rw [if_pos hw]
  subst hm
  have hfin : ∀ v' w', w'.ownsRow base e 3 v' (l.length + xs.length) (l.flatMap En.cells ++ xs.flatMap En.cells) → RowE w' base e v' (l ++ xs) := fun v' w' h => by
    unfold RowE
    rw [List.length_append, List.flatMap_append]
    exact h
  have hgo : ∀ v' w', RowE w' base e v' (l ++ xs) → w.grownBy w' v.ownBlock → K (a.put o.dst v') w' := fun v' w' h1 h2 => by
    obtain ⟨A', c', rfl, hc', hA'⟩ := h1.val
    exact h A' _ c' w' (Lib.hid ⟨rfl, hc', hA'⟩) h1 h2
  cases A with
  | none =>
    obtain rfl : c = 0 := hA rfl
    obtain rfl : xs = [] := List.eq_nil_of_length_eq_zero (by omega)
    have hrun := run_append_owned_none (P := P) (w := w) base t o.type e i 3 ht hi v l.length _ hrow
    have hK := hgo v w (by simpa using hrow) ⟨rfl, rfl, rfl, Nat.le_refl _, fun _ _ _ => rfl⟩
    unfold Oper.wp
    simp [execOp, ho, resolve, invoke, builtin, hs, hx, hrun, Result.andThen]
    exact hK
  | some ad =>
    exact wp_append_own w s x t ho base e i z 3 bytes ht hi hz hsize hby hzs (by decide) v l.length _ hs hrow ad xs.length c (xs.flatMap En.cells) hx (ens_len xs) (ens_cells hr) (ens_one xs) h63 hbytes hbase
      (fun v' w' h2 h3 _ => hgo v' w' (hfin v' w' h2) h3)
theorem EnL.after {w : World} {S : Nat → Prop} {l : List En} {b o c : Nat} (h : EnL w S l (some ⟨b, o, none⟩)) (hc : l.length ≤ c) (j : Nat) : EnL w S (l.drop j) (if c = j then some ⟨b, o, none⟩ else some ⟨b, o + j * 3, none⟩) := by
  split
  · exact .inl (List.drop_eq_nil_of_le (by omega))
  · exact h.drop j
theorem if_some {p : Prop} [Decidable p] {a b : Addr} {q : Prop} (h : (if p then some a else some b) = none) : q := by
  split at h <;> cases h
theorem posE_at {i : Int} {l : List En} {j : Nat} (hj : j < l.length) (hp : j ≤ posE i l) : (j < posE i l ↔ l[j].i < i) := by
  induction l generalizing j with
  | nil => simp at hj
  | cons x l ih =>
    rw [posE_cons] at hp ⊢
    cases j with
    | zero => by_cases h : x.i < i <;> simp [h]
    | succ j =>
      by_cases h : x.i < i
      · rw [if_pos h] at hp ⊢
        have := ih (j := j) (by simpa using hj) (by omega)
        simp only [List.getElem_cons_succ]
        omega
      · rw [if_neg h] at hp; omega

set_option maxHeartbeats 4000000 in
set_option maxRecDepth 100000 in
theorem r6Put_any (x : Va) (v : Value) (i u : Int) (s : ByteArray) (w : World) (hv : VaV w (LoV w.heap.size) x v) (hi : U64 i) (hu : U64 u) (hs : s.size ≤ 1000000) (hlen : x.m.length < 100000) : Calls Try.prog 62 #[v, .int .u64 i, .int .u64 u, .string s] w fun e w' => GivesV w ⟨x.k, x.n, x.ix, 0, .empty, putE i u s x.m⟩ e w' := by
  obtain ⟨hok, A, c, rfl, hc, hA, hl⟩ := hv
  have Hok := Lib.hid (show (⟨x.k, x.n, x.ix, 0, .empty, putE i u s x.m⟩ : Va).ok from ⟨hok.1, (show U64 0 from ⟨by decide, by decide⟩), by show (0 : Nat) ≤ _; omega, fun e he => by
    rcases put_mem he with h | ⟨rfl, _⟩
    · exact hok.2.2.2.1 e h
    · exact ⟨hi, hu, hs⟩, by have := put_len i u s x.m; show (putE i u s x.m).length ≤ 100000; omega⟩)
  obtain ⟨k, n, ix, u0, s0, m⟩ := x
  simp only at hc hl hlen
  obtain ⟨ml, hml0⟩ : ∃ z, z = m.length := ⟨_, rfl⟩
  have HML := Lib.hid hml0
  show Calls Try.prog 62 #[vav k n ix u0 s0 A m.length c, .int .u64 i, .int .u64 u, .string s] w _
  rw [← hml0] at hc hlen ⊢
  clear hml0 hok
  obtain ⟨P, hP⟩ : ∃ P, P = posE i m := ⟨_, rfl⟩
  obtain ⟨F, hF⟩ : ∃ F, F = hasE i m := ⟨_, rfl⟩
  have hPl : P ≤ ml := by rw [HML.out, hP]; exact posE_le i m
  have HPut := Lib.hid (show putE i u s m = m.take P ++ newE i u s ++ m.drop (if F then P + 1 else P) from by rw [hP, hF]; rfl)
  have HLo := Lib.hid (fun (j : Nat) (hj : j < m.length) (hp : j ≤ P) => (show j < P ↔ m[j].i < i from hP ▸ posE_at hj (hP ▸ hp)))
  have HFa := Lib.hid (fun (h : P < m.length) => (show F = (m[P].i == i) from by subst hP; rw [hF]; exact hasE_at h))
  have HFz := Lib.hid (fun (h : ¬ P < m.length) => (show F = false from by subst hP; rw [hF]; exact hasE_end h))
  clear hP hF
  obtain ⟨i0, hi0, hz0, hz1, hz2⟩ := info_partsV info_rEntry
  replace hu := Lib.hid hu
  unfold vav
  simp only
  go_enter Try.func62, Try.ntmps62
  go_wp2_with fail
  go_loopw [10] (fun a wr => ∃ (j : Nat) (cu : Value), j ≤ P ∧ a = .int .i64 j ∧ wr.heap[w.heap.size]? = some (.cells #[.int .i64 k, .int .i64 n, .int .i64 ix, .int .u64 u0, .string s0, .slice A ml c] 30 (0, 0)) ∧
      wr.heap[w.heap.size + 1]? = some (.cells #[.int .i64 0, .int .i64 0, .int .i64 0, .int .u64 0, .string ⟨#[]⟩, .slice none 0 0] 30 (0, 0)) ∧ wr.heap[w.heap.size + 1 + 1]? = some (.cells #[.int .i64 k, .int .i64 n, .int .i64 ix, .int .u64 0, .string ⟨#[]⟩, cu] 30 (0, 0)) ∧
      RowE wr (w.heap.size + 3) 84 cu (m.take j) ∧ Below w.heap.size w wr ∧ w.heap.size + 3 ≤ wr.heap.size) (fun a _ => ml - (intOf a).toNat)
  case atStart =>
    refine ⟨0, .slice none 0 0, Nat.zero_le _, rfl, ?_, ?_, ?_, RowE.nil _ _ _, ?_, ?_⟩
    · exact (heap_alloc_old _ _ _ (by simp; omega)).trans ((heap_alloc_old _ _ _ (by simp)).trans (heap_alloc_new w _))
    · exact (heap_alloc_old _ _ _ (by simp)).trans (heap_alloc_new_at _ _ (by simp))
    · exact heap_alloc_new_at _ _ (by simp)
    · exact below_alloc3v (Below.refl _ _) (Nat.le_refl _) _ _ _
    · simp
  case round =>
    obtain ⟨j, cu, hj, rfl, hb0, hb1, hb2, hrow, hW, hsz⟩ := hrel
    have hcub : ∀ b, cu.ownBlock = some b → w.heap.size + 3 ≤ b := hrow.blk
    by_cases hlt : j < P
    · have hjm : j < m.length := by have := HML.out; omega
      obtain ⟨bl, o, rfl, hbl, h3⟩ := hl.get hjm
      have hbl' : bl < w.heap.size := hbl
      have h3' := h3.to (hW.block bl hbl)
      have hlo := (HLo.out j hjm hj).1 hlt
      have HX := Lib.hid (fun t => en_snoc (l := t) hjm rfl)
      generalize m[j] = y at h3' HX hlo
      obtain ⟨xi, xu, xs⟩ := y
      simp only at hlo
      have hjl : (m.take j).length = j := List.length_take_of_le (by omega)
      have HX2 := Lib.hid (HX.out _ rfl)
      have HN1 : EnL ((wr.drew).alloc (.cells #[.int .u64 xi, .int .u64 xu, .string xs] 84)) (fun _ => True) [⟨xi, xu, xs⟩] (some ⟨wr.heap.size, 0, none⟩) := enl_one (heap_alloc_new_at wr.drew (.cells #[.int .u64 xi, .int .u64 xu, .string xs] 84) (n := wr.heap.size) rfl) trivial
      have HR1 : RowE ((wr.drew).alloc (.cells #[.int .u64 xi, .int .u64 xu, .string xs] 84)) (w.heap.size + 3) 84 cu (m.take j) := hrow.below ((Below.refl _ _).drew.alloc (Nat.le_refl _) _)
      have HB1 : w.heap.size + 3 ≤ ((wr.drew).alloc (.cells #[.int .u64 xi, .int .u64 xu, .string xs] 84)).heap.size := by simp; omega
      have HL5 : ∀ w5, ((wr.drew).alloc (.cells #[.int .u64 xi, .int .u64 xu, .string xs] 84)).grownBy w5 cu.ownBlock → ∀ B, B < w.heap.size + 3 → w5.heap[B]? = wr.heap[B]? := fun w5 hg B hB => (grown_lowv hg hcub hB HB1).trans (Below.heap_alloc wr.drew _ B (by show B < wr.heap.size; omega))
      have HF5 : ∀ w5, ((wr.drew).alloc (.cells #[.int .u64 xi, .int .u64 xu, .string xs] 84)).grownBy w5 cu.ownBlock → w5.frozen? ⟨w.heap.size + 1 + 1, 5, none⟩ = false := fun w5 hg => blk_frozen ((HL5 w5 hg _ (by omega)).trans hb2) 5
      have hjn : (j : Int) < (ml : Int) := by omega
      have gj : decide ((j : Int) < (ml : Int)) = true := decide_eq_true hjn
      have gl : decide (xi < i) = true := decide_eq_true hlo
      have hj0 : (0 : Int) ≤ (j : Int) := by omega
      have hc0 := (six hb0).2.2.2.2.2
      have c0 := h3'.1
      have g5 := (six hb2).2.2.2.2.2
      have HS0 : ∀ W : World, W.heap[w.heap.size]? = wr.heap[w.heap.size]? → W.heap[bl]? = wr.heap[bl]? → W.heap[w.heap.size + 1 + 1]? = wr.heap[w.heap.size + 1 + 1]? → (W.cell? ⟨w.heap.size, 5, none⟩ = some (.slice (some ⟨bl, o, none⟩) ml c) ∧ W.cell? ⟨bl, o + j * 3, none⟩ = some (.int .u64 xi) ∧ W.cell? ⟨bl, o + j * 3 + 1, none⟩ = some (.int .u64 xu) ∧ W.cell? ⟨bl, o + j * 3 + 2, none⟩ = some (.string xs) ∧ W.cell? ⟨w.heap.size + 1 + 1, 5, none⟩ = some cu) := fun W h1 h2 h3 => ⟨(World.cell?_of_block h1).trans hc0, (World.cell?_of_block h2).trans h3'.1, (World.cell?_of_block h2).trans h3'.2.1, (World.cell?_of_block h2).trans h3'.2.2, (World.cell?_of_block h3).trans g5⟩
      have hS1 := HS0 wr.drew rfl rfl rfl
      have hS2 := HS0 (wr.drew.alloc (.cells #[.int .u64 xi, .int .u64 xu, .string xs] 84)) (Below.heap_alloc wr.drew _ _ (by show _ < wr.heap.size; omega)) (Below.heap_alloc wr.drew _ _ (by show _ < wr.heap.size; omega)) (Below.heap_alloc wr.drew _ _ (by show _ < wr.heap.size; omega))
      have hS3 := fun (w5 : World) (hg : ((wr.drew).alloc (.cells #[.int .u64 xi, .int .u64 xu, .string xs] 84)).grownBy w5 cu.ownBlock) => HS0 w5 (HL5 w5 hg _ (by omega)) (HL5 w5 hg _ (by omega)) (HL5 w5 hg _ (by omega))
      clear HS0 h3 h3' HX hlo
      replace hb0 := Lib.hid hb0
      replace hb1 := Lib.hid hb1
      replace hb2 := Lib.hid hb2
      replace HL5 := Lib.hid HL5
      replace hjl := Lib.hid hjl
      clear hl
      go_wp2_with fail
      refine region_lastp (fun W => W.cell? ⟨w.heap.size, 5, none⟩ = some (.slice (some ⟨bl, o, none⟩) ml c) ∧ W.cell? ⟨bl, o + j * 3, none⟩ = some (.int .u64 xi) ∧ W.cell? ⟨bl, o + j * 3 + 1, none⟩ = some (.int .u64 xu) ∧ W.cell? ⟨bl, o + j * 3 + 2, none⟩ = some (.string xs) ∧ W.cell? ⟨w.heap.size + 1 + 1, 5, none⟩ = some cu) (by kernel_rfl) rfl (by kernel_rfl) ?_
      (try simp only [List.pop_toArray, List.dropLast_cons_cons, List.dropLast_singleton, List.size_toArray, List.length_cons, List.length_nil, Nat.zero_add, Nat.reduceAdd])
      refine wpAnyH_takeL (i := 0) (v := ?v1) rfl (by kernel_rfl) (by kernel_rfl) (by kernel_rfl) (fun _ _ _ h => h) (Or.inl ⟨by rfl, ?y1⟩) (by assumption) ?r1
      case y1 => (intro W hSw; (try dsimp only at hSw); go_simp; try with_reducible rfl)
      (try simp only [Act.put, List.setIfInBounds_toArray, List.set_cons_zero, List.set_cons_succ])
      refine wpAnyH_takeL (i := 1) (v := ?v2) rfl (by kernel_rfl) (by kernel_rfl) (by kernel_rfl) (fun _ _ _ h => h) (Or.inl ⟨by rfl, ?y2⟩) (by assumption) ?r2
      case y2 => (intro W hSw; (try dsimp only at hSw); go_simp; try with_reducible rfl)
      (try simp only [Act.put, List.setIfInBounds_toArray, List.set_cons_zero, List.set_cons_succ])
      refine wpAnyH_takeL (i := 2) (v := ?v3) rfl (by kernel_rfl) (by kernel_rfl) (by kernel_rfl) (fun _ _ _ h => h) (Or.inl ⟨by rfl, ?y3⟩) (by assumption) ?r3
      case y3 => (intro W hSw; (try dsimp only at hSw); go_simp; try with_reducible rfl)
      (try simp only [Act.put, List.setIfInBounds_toArray, List.set_cons_zero, List.set_cons_succ])
      refine wpAnyH_takeL (i := 3) (v := ?v4) rfl (by kernel_rfl) (by kernel_rfl) (by kernel_rfl) (fun _ _ _ h => h) (Or.inl ⟨by rfl, ?y4⟩) (by assumption) ?r4
      case y4 => (intro W hSw; (try dsimp only at hSw); go_simp; try with_reducible rfl)
      (try simp only [Act.put, List.setIfInBounds_toArray, List.set_cons_zero, List.set_cons_succ])
      refine wpAnyH_takeL (i := 4) (v := ?v5) rfl (by kernel_rfl) (by kernel_rfl) (by kernel_rfl) (fun _ _ _ h => h) (Or.inl ⟨by rfl, ?y5⟩) (by assumption) ?r5
      case y5 => (intro W hSw; (try dsimp only at hSw); go_simp; try with_reducible rfl)
      (try simp only [Act.put, List.setIfInBounds_toArray, List.set_cons_zero, List.set_cons_succ])
      refine wpAnyH_takeL (i := 5) (v := ?v6) rfl (by kernel_rfl) (by kernel_rfl) (by kernel_rfl) (fun _ _ _ h => h) (Or.inl ⟨by rfl, ?y6⟩) (by assumption) ?r6
      case y6 => (intro W hSw; (try dsimp only at hSw); go_simp; try with_reducible rfl)
      (try simp only [Act.put, List.setIfInBounds_toArray, List.set_cons_zero, List.set_cons_succ])
      refine wpAnyH_takeL (i := 6) (v := ?v7) rfl (by kernel_rfl) (by kernel_rfl) (by kernel_rfl) (fun _ _ _ h => h) (Or.inl ⟨by rfl, ?y7⟩) (by assumption) ?r7
      case y7 => (intro W hSw; (try dsimp only at hSw); go_simp; try with_reducible rfl)
      (try simp only [Act.put, List.setIfInBounds_toArray, List.set_cons_zero, List.set_cons_succ])
      refine wpAnyH_ready (rs := [7]) (by kernel_rfl) (by simp) ?_
      refine consL rfl (fun K hK => ?_) AllReadyH.nil
      go_simp
      refine hK.out _ _ (hS2) (fun hHeld => ?_)
      clear hK K
      (try simp only [Act.put, List.setIfInBounds_toArray, List.set_cons_zero, List.set_cons_succ])
      refine wpAnyH_ready (rs := [8]) (by kernel_rfl) (by simp) ?_
      refine consL rfl (fun K hK => ?_) AllReadyH.nil
      (refine step_append_en _ (by rfl) _ _ 28 (by rfl) (w.heap.size + 3) 84 i0 (.agg #[.int .u64 0, .int .u64 0, .string ⟨#[]⟩]) 32 Try.underlying28 hi0 hz0 hz1 hz2 rfl cu (m.take j) (by rfl) HR1 (fun _ => True) (some ⟨wr.heap.size, 0, none⟩) 1 1 [⟨xi, xu, xs⟩] (by rfl) rfl (fun h => by cases h) (Nat.le_refl _) HN1 (by rw [hjl.out]; unfold maxLen; omega) (by rw [hjl.out]; omega) HB1 ?_; intro A6 n6 c6 w5 h6 hrow6 hgrow5; have hf5 := HF5 w5 hgrow5; have hS5 := hS3 w5 hgrow5; have hg5 := hS5.2.2.2.2)
      refine hK.out _ _ (hS5) (fun hHeld => ?_)
      clear hK K
      (try simp only [Act.put, List.setIfInBounds_toArray, List.set_cons_zero, List.set_cons_succ])
      refine wpAnyH_takeL (i := 9) (v := ?v8) rfl (by kernel_rfl) (by kernel_rfl) (by kernel_rfl) (fun _ _ _ h => h) (Or.inl ⟨by rfl, ?y8⟩) (by assumption) ?r8
      case y8 => (intro W hSw; (try dsimp only at hSw); go_simp; try with_reducible rfl)
      (try simp only [Act.put, List.setIfInBounds_toArray, List.set_cons_zero, List.set_cons_succ])
      refine wpAnyH_done (by kernel_rfl) ?_ _
      refine lastQ_of rfl (fun K hK => ?_)
      go_simp
      refine hK.out _ _ ?_
      clear hK K
      go_wp2_with fail
      go_roundw
      case rel =>
        have hlow5 := HL5.out _ hgrow5
        refine ⟨j + 1, .slice A6 n6 c6, by omega, by go_num, ?_, ?_, ?_, ?_, ?_, ?_⟩
        · exact (Below.heap_setCell _ _ _ _ (by simp; omega)).trans ((hlow5 _ (by omega)).trans hb0.out)
        · exact (Below.heap_setCell _ _ _ _ (by simp)).trans ((hlow5 _ (by omega)).trans hb1.out)
        · exact six_set5 ((hlow5 _ (by omega)).trans hb2.out) _
        · rw [HX2.out] at hrow6
          exact own_keptv hrow6 (fun b h1 _ => Below.heap_setCell _ _ _ b (by simp; omega))
        · exact (hW.trans (((Below.refl _ _).drew.alloc (Nat.le_trans (Nat.le_add_right _ 3) hsz) _).grown hgrow5 (by simp; omega) (fun j ej => Nat.le_trans (by omega) (hcub j ej)))).setCell (p := ⟨w.heap.size + 1 + 1, 5, none⟩) (by simp; omega) _
        · have h7 : wr.heap.size + 1 ≤ w5.heap.size := (by have := hgrow5.size; simpa using this); simp [World.setCell]; omega
      case measure => simp [intOf]; omega
    · obtain rfl : j = P := by omega
      have hjl : (m.take j).length = j := List.length_take_of_le (by have := HML.out; omega)
      by_cases hm0 : ml = 0
      · subst hm0
        obtain rfl : j = 0 := by omega
        have hFf : F = false := HFz.out (by have := HML.out; omega)
        subst hFf
        cases A with
        | none =>
          have hc0 : c = 0 := hA rfl
          subst hc0
          by_cases hu0 : 0 < u
          · have gu : decide (0 < u) = true := decide_eq_true hu0
            have hnew : newE i u s = [⟨i, u, s⟩] := by unfold newE; rw [show (u == 0) = false by simp; omega]; rfl
            have HRn : RowE (wr.alloc (.cells #[.int .u64 i, .int .u64 u, .string s] 84)) (w.heap.size + 3) 84 cu (m.take 0) := hrow.below ((Below.refl _ _).alloc (Nat.le_refl _) _)
            have HNn : EnL (wr.alloc (.cells #[.int .u64 i, .int .u64 u, .string s] 84)) (fun _ => True) [⟨i, u, s⟩] (some ⟨wr.heap.size, 0, none⟩) := enl_one (heap_alloc_new wr (.cells #[.int .u64 i, .int .u64 u, .string s] 84)) trivial
            have HBn : w.heap.size + 3 ≤ (wr.alloc (.cells #[.int .u64 i, .int .u64 u, .string s] 84)).heap.size := by simp; omega
            have HLn : ∀ w6, (wr.alloc (.cells #[.int .u64 i, .int .u64 u, .string s] 84)).grownBy w6 cu.ownBlock → ∀ B, B < w.heap.size + 3 → w6.heap[B]? = wr.heap[B]? := fun w6 hg B hB => (grown_lowv hg hcub hB HBn).trans (Below.heap_alloc wr _ B (by omega))
            have HWn : ∀ w6, (wr.alloc (.cells #[.int .u64 i, .int .u64 u, .string s] 84)).grownBy w6 cu.ownBlock → Below w.heap.size w w6 := fun w6 hg => hW.trans (((Below.refl _ _).alloc (Nat.le_trans (Nat.le_add_right _ 3) hsz) _).grown hg (by simp; omega) (fun j ej => Nat.le_trans (by omega) (hcub j ej)))
            have HZn : ∀ w6, (wr.alloc (.cells #[.int .u64 i, .int .u64 u, .string s] 84)).grownBy w6 cu.ownBlock → w.heap.size + 3 ≤ w6.heap.size := fun w6 hg => by have := hg.size; simp at this; omega
            have g50 := (cell_oldv (w := wr) (B := w.heap.size + 1 + 1) (i := 5) (by omega) (.cells #[.int .u64 i, .int .u64 u, .string s] 84)).trans (six hb2).2.2.2.2.2
            have p50 := (six hb0).2.2.2.2.2
            have g51 := (six hb2).2.2.2.2.2
            have hf51 := blk_frozen hb2 5
            replace hb0 := Lib.hid hb0
            replace hb1 := Lib.hid hb1
            replace hb2 := Lib.hid hb2
            have HWr := Lib.hid hW
            replace HLn := Lib.hid HLn
            replace HWn := Lib.hid HWn
            replace HZn := Lib.hid HZn
            replace hjl := Lib.hid hjl
            go_wp2_with (at_builtin; refine wpList_append_en _ rfl _ _ 28 rfl (w.heap.size + 3) 84 i0 (.agg #[.int .u64 0, .int .u64 0, .string ⟨#[]⟩]) 32 Try.underlying28 hi0 hz0 hz1 hz2 rfl cu (m.take 0) rfl HRn (fun _ => True) (some ⟨wr.heap.size, 0, none⟩) 1 1 [⟨i, u, s⟩] rfl rfl (fun h => by cases h) (Nat.le_refl _) HNn (by rw [hjl.out]; unfold maxLen; omega) (by rw [hjl.out]; omega) HBn ?_; intro A6 n6 c6 w6 h6 hrow6 hg6; have hl6 := HLn.out w6 hg6; have hf6 := blk_frozen ((hl6 _ (by omega)).trans hb2.out) 5; have g56 := (six ((hl6 _ (by omega)).trans hb2.out)).2.2.2.2.2; have p57 := (World.cell?_of_block (a := ⟨w.heap.size, 5, none⟩) ((Below.heap_setCell w6 ⟨w.heap.size + 1 + 1, 5, none⟩ (.slice A6 n6 c6) w.heap.size (by simp; omega)).trans (hl6 _ (by omega)))).trans p50; replace hl6 := Lib.hid hl6)
            have hb07 := (Below.heap_setCell w6 ⟨w.heap.size + 1 + 1, 5, none⟩ (.slice A6 n6 c6) w.heap.size (by simp; omega)).trans ((hl6.out _ (by omega)).trans hb0.out)
            have hb17 := (Below.heap_setCell w6 ⟨w.heap.size + 1 + 1, 5, none⟩ (.slice A6 n6 c6) (w.heap.size + 1) (by simp)).trans ((hl6.out _ (by omega)).trans hb1.out)
            have hb27 := six_set5 ((hl6.out _ (by omega)).trans hb2.out) (.slice A6 n6 c6)
            have hW7 := (HWn.out w6 hg6).setCell (p := ⟨w.heap.size + 1 + 1, 5, none⟩) (by simp; omega) (.slice A6 n6 c6)
            have hsz7 : w.heap.size + 3 ≤ (w6.setCell ⟨w.heap.size + 1 + 1, 5, none⟩ (.slice A6 n6 c6)).heap.size := by have := HZn.out w6 hg6; simpa [World.setCell] using this
            have hrow7 : RowE (w6.setCell ⟨w.heap.size + 1 + 1, 5, none⟩ (.slice A6 n6 c6)) (w.heap.size + 3) 84 (.slice A6 n6 c6) ((m.take 0) ++ [(⟨i, u, s⟩ : En)]) := own_keptv hrow6 (fun b h1 _ => Below.heap_setCell _ _ _ b (by simp; omega))
            clear p50 g50 g51 hf51 hf6 g56 p57
            generalize w6.setCell ⟨w.heap.size + 1 + 1, 5, none⟩ (.slice A6 n6 c6) = w7 at *
            have hl7 : ((m.take 0) ++ [(⟨i, u, s⟩ : En)]).length ≤ 100001 := by rw [List.length_append, hjl.out, List.length_singleton]; omega
            have hl3 := (show EnL w7.drew (LoV w.heap.size) (m.drop 0) none from .inl (by have := HML.out; exact List.drop_eq_nil_of_le (by omega)))
            have p57 := (six hb07).2.2.2.2.2
            have g57 := (six hb27).2.2.2.2.2
            have hcub7 : ∀ b, ((.slice A6 n6 c6) : Value).ownBlock = some b → w.heap.size + 3 ≤ b := hrow7.blk
            have HL8 : ∀ w8, (w7.drew).grownBy w8 ((.slice A6 n6 c6) : Value).ownBlock → ∀ B, B < w.heap.size + 3 → w8.heap[B]? = w7.heap[B]? := fun w8 hg B hB => (show w8.heap[B]? = w7.drew.heap[B]? from grown_lowv (w1 := w7.drew) hg hcub7 hB hsz7)
            have hS1 : w7.drew.cell? ⟨w.heap.size, 5, none⟩ = some (.slice none 0 0) ∧ w7.drew.cell? ⟨w.heap.size + 1 + 1, 5, none⟩ = some (.slice A6 n6 c6) := ⟨p57, g57⟩
            have hS8 := fun (w8 : World) (hg : (w7.drew).grownBy w8 ((.slice A6 n6 c6) : Value).ownBlock) => (show w8.cell? ⟨w.heap.size, 5, none⟩ = some (.slice none 0 0) ∧ w8.cell? ⟨w.heap.size + 1 + 1, 5, none⟩ = some (.slice A6 n6 c6) from ⟨(World.cell?_of_block (a := ⟨w.heap.size, 5, none⟩) (HL8 w8 hg w.heap.size (by omega))).trans p57, (World.cell?_of_block (a := ⟨w.heap.size + 1 + 1, 5, none⟩) (HL8 w8 hg (w.heap.size + 1 + 1) (by omega))).trans g57⟩)
            have hF8 := fun (w8 : World) (hg : (w7.drew).grownBy w8 ((.slice A6 n6 c6) : Value).ownBlock) => blk_frozen ((HL8 w8 hg (w.heap.size + 1 + 1) (by omega)).trans hb27) 5
            replace HL8 := Lib.hid HL8
            replace hb07 := Lib.hid hb07
            replace hb17 := Lib.hid hb17
            replace hb27 := Lib.hid hb27
            refine region_lastp (fun W => W.cell? ⟨w.heap.size, 5, none⟩ = some (.slice none 0 0) ∧ W.cell? ⟨w.heap.size + 1 + 1, 5, none⟩ = some (.slice A6 n6 c6)) (by kernel_rfl) rfl (by kernel_rfl) ?_
            (try simp only [List.pop_toArray, List.dropLast_cons_cons, List.dropLast_singleton, List.size_toArray, List.length_cons, List.length_nil, Nat.zero_add, Nat.reduceAdd])
            refine wpAnyH_takeL (i := 0) (v := ?v9) rfl (by kernel_rfl) (by kernel_rfl) (by kernel_rfl) (fun _ _ _ h => h) (Or.inl ⟨by rfl, ?y9⟩) (by assumption) ?r9
            case y9 => (intro W hSw; (try dsimp only at hSw); go_simp; try with_reducible rfl)
            (try simp only [Act.put, List.setIfInBounds_toArray, List.set_cons_zero, List.set_cons_succ])
            refine wpAnyH_takeL (i := 1) (v := ?v10) rfl (by kernel_rfl) (by kernel_rfl) (by kernel_rfl) (fun _ _ _ h => h) (Or.inl ⟨by rfl, ?y10⟩) (by assumption) ?r10
            case y10 => (intro W hSw; (try dsimp only at hSw); go_simp; try with_reducible rfl)
            (try simp only [Act.put, List.setIfInBounds_toArray, List.set_cons_zero, List.set_cons_succ])
            refine wpAnyH_takeL (i := 2) (v := ?v11) rfl (by kernel_rfl) (by kernel_rfl) (by kernel_rfl) (fun _ _ _ h => h) (Or.inl ⟨by rfl, ?y11⟩) (by assumption) ?r11
            case y11 => (intro W hSw; (try dsimp only at hSw); go_simp; try with_reducible rfl)
            (try simp only [Act.put, List.setIfInBounds_toArray, List.set_cons_zero, List.set_cons_succ])
            refine wpAnyH_takeL (i := 3) (v := ?v12) rfl (by kernel_rfl) (by kernel_rfl) (by kernel_rfl) (fun _ _ _ h => h) (Or.inl ⟨by rfl, ?y12⟩) (by assumption) ?r12
            case y12 => (intro W hSw; (try dsimp only at hSw); go_simp; try with_reducible rfl)
            (try simp only [Act.put, List.setIfInBounds_toArray, List.set_cons_zero, List.set_cons_succ])
            refine wpAnyH_takeL (i := 4) (v := ?v13) rfl (by kernel_rfl) (by kernel_rfl) (by kernel_rfl) (fun _ _ _ h => h) (Or.inl ⟨by rfl, ?y13⟩) (by assumption) ?r13
            case y13 => (intro W hSw; (try dsimp only at hSw); go_simp; try with_reducible rfl)
            (try simp only [Act.put, List.setIfInBounds_toArray, List.set_cons_zero, List.set_cons_succ])
            refine wpAnyH_takeL (i := 5) (v := ?v14) rfl (by kernel_rfl) (by kernel_rfl) (by kernel_rfl) (fun _ _ _ h => h) (Or.inl ⟨by rfl, ?y14⟩) (by assumption) ?r14
            case y14 => (intro W hSw; (try dsimp only at hSw); go_simp; try with_reducible rfl)
            (try simp only [Act.put, List.setIfInBounds_toArray, List.set_cons_zero, List.set_cons_succ])
            refine wpAnyH_ready (rs := [6]) (by kernel_rfl) (by simp) ?_
            refine consL rfl (fun K hK => ?_) AllReadyH.nil
            (refine step_append_en _ (by rfl) _ _ 28 (by rfl) (w.heap.size + 3) 84 i0 (.agg #[.int .u64 0, .int .u64 0, .string ⟨#[]⟩]) 32 Try.underlying28 hi0 hz0 hz1 hz2 rfl (.slice A6 n6 c6) ((m.take 0) ++ [(⟨i, u, s⟩ : En)]) (by rfl) (hrow7.below (Below.refl _ _).drew) (LoV w.heap.size) none 0 0 (m.drop 0) (by rfl) (by rw [List.length_drop]; have := HML.out; omega) (fun _ => rfl) (by rw [List.length_drop]; have := HML.out; omega) hl3 (by unfold maxLen; omega) (by omega) hsz7 ?_; intro A8 n8 c8 w8 h8 hrow8 hg8; have hf8 := hF8 w8 hg8; have hS9 := hS8 w8 hg8; have g58 := hS9.2)
            refine hK.out _ _ (hS9) (fun hHeld => ?_)
            clear hK K
            (try simp only [Act.put, List.setIfInBounds_toArray, List.set_cons_zero, List.set_cons_succ])
            refine wpAnyH_takeL (i := 7) (v := ?v15) rfl (by kernel_rfl) (by kernel_rfl) (by kernel_rfl) (fun _ _ _ h => h) (Or.inl ⟨by rfl, ?y15⟩) (by assumption) ?r15
            case y15 => (intro W hSw; (try dsimp only at hSw); go_simp; try with_reducible rfl)
            (try simp only [Act.put, List.setIfInBounds_toArray, List.set_cons_zero, List.set_cons_succ])
            refine wpAnyH_done (by kernel_rfl) ?_ _
            refine lastQ_of rfl (fun K hK => ?_)
            go_simp
            refine hK.out _ _ ?_
            clear hK K
            have hb19 := (Below.heap_setCell w8 ⟨w.heap.size + 1 + 1, 5, none⟩ (.slice A8 n8 c8) (w.heap.size + 1) (by simp)).trans ((HL8.out w8 hg8 _ (by omega)).trans hb17.out)
            have hb29 := six_set5 ((HL8.out w8 hg8 _ (by omega)).trans hb27.out) (.slice A8 n8 c8)
            have hW9 := (hW7.trans ((Below.refl _ _).drew.grown hg8 (Nat.le_trans (Nat.le_add_right _ 3) hsz7) (fun j ej => Nat.le_trans (by omega) (hcub7 j ej)))).setCell (p := ⟨w.heap.size + 1 + 1, 5, none⟩) (by simp; omega) (.slice A8 n8 c8)
            have hrow9 : RowE (w8.setCell ⟨w.heap.size + 1 + 1, 5, none⟩ (.slice A8 n8 c8)) (w.heap.size + 3) 84 (.slice A8 n8 c8) (((m.take 0) ++ [(⟨i, u, s⟩ : En)]) ++ m.drop 0) := own_keptv hrow8 (fun b h1 _ => Below.heap_setCell _ _ _ b (by simp; omega))
            clear hf8 g58
            generalize w8.setCell ⟨w.heap.size + 1 + 1, 5, none⟩ (.slice A8 n8 c8) = w9 at *
            obtain ⟨q0, q1, q2, q3, q4, q5⟩ := six hb19
            obtain ⟨z0, z1, z2, z3, z4, z5⟩ := six hb29
            have hf1 := blk_frozen hb19
            replace hb19 := Lib.hid hb19
            replace hb29 := Lib.hid hb29
            go_wp2_with fail
            all_goals
              refine bodyPost_ret (v := .agg #[.int .i64 k, .int .i64 n, .int .i64 ix, .int .u64 0, .string ⟨#[]⟩, .slice A8 n8 c8]) (by simp [results, Try.results62, go_sem, q0, q1, q2, q3, q4, q5]) rfl ?_
              obtain ⟨e1, e2, e3⟩ := h8.out
              have hm := set6_below (N := w.heap.size + 1) hW9 (Nat.le_succ w.heap.size) (.int .i64 k) (.int .i64 n) (.int .i64 ix) (.int .u64 0) (.string ⟨#[]⟩) (.slice A8 n8 c8)
              have HPf := HPut.out
              rw [hnew] at HPf
              simp only [Bool.false_eq_true, if_false] at HPf hrow9 e1
              have Hokf := Hok.out
              rw [HPf] at Hokf ⊢
              subst e1
              refine ⟨_, rfl, VaV.mk Hokf e2 e3 (hrow9.list.to (fun b hb => ⟨⟨by have := hb.1; omega, by rw [set6_size]; exact hb.2⟩, set6_heap _ _ _ _ _ _ (by have := hb.1; omega)⟩)), hm⟩
          · have gu : decide (0 < u) = false := decide_eq_false hu0
            have huz : u = 0 := by have := hu.out.1; omega
            by_cases hs0 : 0 < s.size
            · have gs : decide (0 < (s.size : Int)) = true := decide_eq_true (by omega)
              have hnew : newE i u s = [⟨i, u, s⟩] := by unfold newE; rw [show (s.size == 0) = false by rw [beq_eq_false_iff_ne]; omega, Bool.and_false]; rfl
              clear huz
              have HRn : RowE (wr.alloc (.cells #[.int .u64 i, .int .u64 u, .string s] 84)) (w.heap.size + 3) 84 cu (m.take 0) := hrow.below ((Below.refl _ _).alloc (Nat.le_refl _) _)
              have HNn : EnL (wr.alloc (.cells #[.int .u64 i, .int .u64 u, .string s] 84)) (fun _ => True) [⟨i, u, s⟩] (some ⟨wr.heap.size, 0, none⟩) := enl_one (heap_alloc_new wr (.cells #[.int .u64 i, .int .u64 u, .string s] 84)) trivial
              have HBn : w.heap.size + 3 ≤ (wr.alloc (.cells #[.int .u64 i, .int .u64 u, .string s] 84)).heap.size := by simp; omega
              have HLn : ∀ w6, (wr.alloc (.cells #[.int .u64 i, .int .u64 u, .string s] 84)).grownBy w6 cu.ownBlock → ∀ B, B < w.heap.size + 3 → w6.heap[B]? = wr.heap[B]? := fun w6 hg B hB => (grown_lowv hg hcub hB HBn).trans (Below.heap_alloc wr _ B (by omega))
              have HWn : ∀ w6, (wr.alloc (.cells #[.int .u64 i, .int .u64 u, .string s] 84)).grownBy w6 cu.ownBlock → Below w.heap.size w w6 := fun w6 hg => hW.trans (((Below.refl _ _).alloc (Nat.le_trans (Nat.le_add_right _ 3) hsz) _).grown hg (by simp; omega) (fun j ej => Nat.le_trans (by omega) (hcub j ej)))
              have HZn : ∀ w6, (wr.alloc (.cells #[.int .u64 i, .int .u64 u, .string s] 84)).grownBy w6 cu.ownBlock → w.heap.size + 3 ≤ w6.heap.size := fun w6 hg => by have := hg.size; simp at this; omega
              have g50 := (cell_oldv (w := wr) (B := w.heap.size + 1 + 1) (i := 5) (by omega) (.cells #[.int .u64 i, .int .u64 u, .string s] 84)).trans (six hb2).2.2.2.2.2
              have p50 := (six hb0).2.2.2.2.2
              have g51 := (six hb2).2.2.2.2.2
              have hf51 := blk_frozen hb2 5
              replace hb0 := Lib.hid hb0
              replace hb1 := Lib.hid hb1
              replace hb2 := Lib.hid hb2
              have HWr := Lib.hid hW
              replace HLn := Lib.hid HLn
              replace HWn := Lib.hid HWn
              replace HZn := Lib.hid HZn
              replace hjl := Lib.hid hjl
              go_wp2_with (at_builtin; refine wpList_append_en _ rfl _ _ 28 rfl (w.heap.size + 3) 84 i0 (.agg #[.int .u64 0, .int .u64 0, .string ⟨#[]⟩]) 32 Try.underlying28 hi0 hz0 hz1 hz2 rfl cu (m.take 0) rfl HRn (fun _ => True) (some ⟨wr.heap.size, 0, none⟩) 1 1 [⟨i, u, s⟩] rfl rfl (fun h => by cases h) (Nat.le_refl _) HNn (by rw [hjl.out]; unfold maxLen; omega) (by rw [hjl.out]; omega) HBn ?_; intro A6 n6 c6 w6 h6 hrow6 hg6; have hl6 := HLn.out w6 hg6; have hf6 := blk_frozen ((hl6 _ (by omega)).trans hb2.out) 5; have g56 := (six ((hl6 _ (by omega)).trans hb2.out)).2.2.2.2.2; have p57 := (World.cell?_of_block (a := ⟨w.heap.size, 5, none⟩) ((Below.heap_setCell w6 ⟨w.heap.size + 1 + 1, 5, none⟩ (.slice A6 n6 c6) w.heap.size (by simp; omega)).trans (hl6 _ (by omega)))).trans p50; replace hl6 := Lib.hid hl6)
              have hb07 := (Below.heap_setCell w6 ⟨w.heap.size + 1 + 1, 5, none⟩ (.slice A6 n6 c6) w.heap.size (by simp; omega)).trans ((hl6.out _ (by omega)).trans hb0.out)
              have hb17 := (Below.heap_setCell w6 ⟨w.heap.size + 1 + 1, 5, none⟩ (.slice A6 n6 c6) (w.heap.size + 1) (by simp)).trans ((hl6.out _ (by omega)).trans hb1.out)
              have hb27 := six_set5 ((hl6.out _ (by omega)).trans hb2.out) (.slice A6 n6 c6)
              have hW7 := (HWn.out w6 hg6).setCell (p := ⟨w.heap.size + 1 + 1, 5, none⟩) (by simp; omega) (.slice A6 n6 c6)
              have hsz7 : w.heap.size + 3 ≤ (w6.setCell ⟨w.heap.size + 1 + 1, 5, none⟩ (.slice A6 n6 c6)).heap.size := by have := HZn.out w6 hg6; simpa [World.setCell] using this
              have hrow7 : RowE (w6.setCell ⟨w.heap.size + 1 + 1, 5, none⟩ (.slice A6 n6 c6)) (w.heap.size + 3) 84 (.slice A6 n6 c6) ((m.take 0) ++ [(⟨i, u, s⟩ : En)]) := own_keptv hrow6 (fun b h1 _ => Below.heap_setCell _ _ _ b (by simp; omega))
              clear p50 g50 g51 hf51 hf6 g56 p57
              generalize w6.setCell ⟨w.heap.size + 1 + 1, 5, none⟩ (.slice A6 n6 c6) = w7 at *
              have hl7 : ((m.take 0) ++ [(⟨i, u, s⟩ : En)]).length ≤ 100001 := by rw [List.length_append, hjl.out, List.length_singleton]; omega
              have hl3 := (show EnL w7.drew (LoV w.heap.size) (m.drop 0) none from .inl (by have := HML.out; exact List.drop_eq_nil_of_le (by omega)))
              have p57 := (six hb07).2.2.2.2.2
              have g57 := (six hb27).2.2.2.2.2
              have hcub7 : ∀ b, ((.slice A6 n6 c6) : Value).ownBlock = some b → w.heap.size + 3 ≤ b := hrow7.blk
              have HL8 : ∀ w8, (w7.drew).grownBy w8 ((.slice A6 n6 c6) : Value).ownBlock → ∀ B, B < w.heap.size + 3 → w8.heap[B]? = w7.heap[B]? := fun w8 hg B hB => (show w8.heap[B]? = w7.drew.heap[B]? from grown_lowv (w1 := w7.drew) hg hcub7 hB hsz7)
              have hS1 : w7.drew.cell? ⟨w.heap.size, 5, none⟩ = some (.slice none 0 0) ∧ w7.drew.cell? ⟨w.heap.size + 1 + 1, 5, none⟩ = some (.slice A6 n6 c6) := ⟨p57, g57⟩
              have hS8 := fun (w8 : World) (hg : (w7.drew).grownBy w8 ((.slice A6 n6 c6) : Value).ownBlock) => (show w8.cell? ⟨w.heap.size, 5, none⟩ = some (.slice none 0 0) ∧ w8.cell? ⟨w.heap.size + 1 + 1, 5, none⟩ = some (.slice A6 n6 c6) from ⟨(World.cell?_of_block (a := ⟨w.heap.size, 5, none⟩) (HL8 w8 hg w.heap.size (by omega))).trans p57, (World.cell?_of_block (a := ⟨w.heap.size + 1 + 1, 5, none⟩) (HL8 w8 hg (w.heap.size + 1 + 1) (by omega))).trans g57⟩)
              have hF8 := fun (w8 : World) (hg : (w7.drew).grownBy w8 ((.slice A6 n6 c6) : Value).ownBlock) => blk_frozen ((HL8 w8 hg (w.heap.size + 1 + 1) (by omega)).trans hb27) 5
              replace HL8 := Lib.hid HL8
              replace hb07 := Lib.hid hb07
              replace hb17 := Lib.hid hb17
              replace hb27 := Lib.hid hb27
              refine region_lastp (fun W => W.cell? ⟨w.heap.size, 5, none⟩ = some (.slice none 0 0) ∧ W.cell? ⟨w.heap.size + 1 + 1, 5, none⟩ = some (.slice A6 n6 c6)) (by kernel_rfl) rfl (by kernel_rfl) ?_
              (try simp only [List.pop_toArray, List.dropLast_cons_cons, List.dropLast_singleton, List.size_toArray, List.length_cons, List.length_nil, Nat.zero_add, Nat.reduceAdd])
              refine wpAnyH_takeL (i := 0) (v := ?v16) rfl (by kernel_rfl) (by kernel_rfl) (by kernel_rfl) (fun _ _ _ h => h) (Or.inl ⟨by rfl, ?y16⟩) (by assumption) ?r16
              case y16 => (intro W hSw; (try dsimp only at hSw); go_simp; try with_reducible rfl)
              (try simp only [Act.put, List.setIfInBounds_toArray, List.set_cons_zero, List.set_cons_succ])
              refine wpAnyH_takeL (i := 1) (v := ?v17) rfl (by kernel_rfl) (by kernel_rfl) (by kernel_rfl) (fun _ _ _ h => h) (Or.inl ⟨by rfl, ?y17⟩) (by assumption) ?r17
              case y17 => (intro W hSw; (try dsimp only at hSw); go_simp; try with_reducible rfl)
              (try simp only [Act.put, List.setIfInBounds_toArray, List.set_cons_zero, List.set_cons_succ])
              refine wpAnyH_takeL (i := 2) (v := ?v18) rfl (by kernel_rfl) (by kernel_rfl) (by kernel_rfl) (fun _ _ _ h => h) (Or.inl ⟨by rfl, ?y18⟩) (by assumption) ?r18
              case y18 => (intro W hSw; (try dsimp only at hSw); go_simp; try with_reducible rfl)
              (try simp only [Act.put, List.setIfInBounds_toArray, List.set_cons_zero, List.set_cons_succ])
              refine wpAnyH_takeL (i := 3) (v := ?v19) rfl (by kernel_rfl) (by kernel_rfl) (by kernel_rfl) (fun _ _ _ h => h) (Or.inl ⟨by rfl, ?y19⟩) (by assumption) ?r19
              case y19 => (intro W hSw; (try dsimp only at hSw); go_simp; try with_reducible rfl)
              (try simp only [Act.put, List.setIfInBounds_toArray, List.set_cons_zero, List.set_cons_succ])
              refine wpAnyH_takeL (i := 4) (v := ?v20) rfl (by kernel_rfl) (by kernel_rfl) (by kernel_rfl) (fun _ _ _ h => h) (Or.inl ⟨by rfl, ?y20⟩) (by assumption) ?r20
              case y20 => (intro W hSw; (try dsimp only at hSw); go_simp; try with_reducible rfl)
              (try simp only [Act.put, List.setIfInBounds_toArray, List.set_cons_zero, List.set_cons_succ])
              refine wpAnyH_takeL (i := 5) (v := ?v21) rfl (by kernel_rfl) (by kernel_rfl) (by kernel_rfl) (fun _ _ _ h => h) (Or.inl ⟨by rfl, ?y21⟩) (by assumption) ?r21
              case y21 => (intro W hSw; (try dsimp only at hSw); go_simp; try with_reducible rfl)
              (try simp only [Act.put, List.setIfInBounds_toArray, List.set_cons_zero, List.set_cons_succ])
              refine wpAnyH_ready (rs := [6]) (by kernel_rfl) (by simp) ?_
              refine consL rfl (fun K hK => ?_) AllReadyH.nil
              (refine step_append_en _ (by rfl) _ _ 28 (by rfl) (w.heap.size + 3) 84 i0 (.agg #[.int .u64 0, .int .u64 0, .string ⟨#[]⟩]) 32 Try.underlying28 hi0 hz0 hz1 hz2 rfl (.slice A6 n6 c6) ((m.take 0) ++ [(⟨i, u, s⟩ : En)]) (by rfl) (hrow7.below (Below.refl _ _).drew) (LoV w.heap.size) none 0 0 (m.drop 0) (by rfl) (by rw [List.length_drop]; have := HML.out; omega) (fun _ => rfl) (by rw [List.length_drop]; have := HML.out; omega) hl3 (by unfold maxLen; omega) (by omega) hsz7 ?_; intro A8 n8 c8 w8 h8 hrow8 hg8; have hf8 := hF8 w8 hg8; have hS9 := hS8 w8 hg8; have g58 := hS9.2)
              refine hK.out _ _ (hS9) (fun hHeld => ?_)
              clear hK K
              (try simp only [Act.put, List.setIfInBounds_toArray, List.set_cons_zero, List.set_cons_succ])
              refine wpAnyH_takeL (i := 7) (v := ?v22) rfl (by kernel_rfl) (by kernel_rfl) (by kernel_rfl) (fun _ _ _ h => h) (Or.inl ⟨by rfl, ?y22⟩) (by assumption) ?r22
              case y22 => (intro W hSw; (try dsimp only at hSw); go_simp; try with_reducible rfl)
              (try simp only [Act.put, List.setIfInBounds_toArray, List.set_cons_zero, List.set_cons_succ])
              refine wpAnyH_done (by kernel_rfl) ?_ _
              refine lastQ_of rfl (fun K hK => ?_)
              go_simp
              refine hK.out _ _ ?_
              clear hK K
              have hb19 := (Below.heap_setCell w8 ⟨w.heap.size + 1 + 1, 5, none⟩ (.slice A8 n8 c8) (w.heap.size + 1) (by simp)).trans ((HL8.out w8 hg8 _ (by omega)).trans hb17.out)
              have hb29 := six_set5 ((HL8.out w8 hg8 _ (by omega)).trans hb27.out) (.slice A8 n8 c8)
              have hW9 := (hW7.trans ((Below.refl _ _).drew.grown hg8 (Nat.le_trans (Nat.le_add_right _ 3) hsz7) (fun j ej => Nat.le_trans (by omega) (hcub7 j ej)))).setCell (p := ⟨w.heap.size + 1 + 1, 5, none⟩) (by simp; omega) (.slice A8 n8 c8)
              have hrow9 : RowE (w8.setCell ⟨w.heap.size + 1 + 1, 5, none⟩ (.slice A8 n8 c8)) (w.heap.size + 3) 84 (.slice A8 n8 c8) (((m.take 0) ++ [(⟨i, u, s⟩ : En)]) ++ m.drop 0) := own_keptv hrow8 (fun b h1 _ => Below.heap_setCell _ _ _ b (by simp; omega))
              clear hf8 g58
              generalize w8.setCell ⟨w.heap.size + 1 + 1, 5, none⟩ (.slice A8 n8 c8) = w9 at *
              obtain ⟨q0, q1, q2, q3, q4, q5⟩ := six hb19
              obtain ⟨z0, z1, z2, z3, z4, z5⟩ := six hb29
              have hf1 := blk_frozen hb19
              replace hb19 := Lib.hid hb19
              replace hb29 := Lib.hid hb29
              go_wp2_with fail
              all_goals
                refine bodyPost_ret (v := .agg #[.int .i64 k, .int .i64 n, .int .i64 ix, .int .u64 0, .string ⟨#[]⟩, .slice A8 n8 c8]) (by simp [results, Try.results62, go_sem, q0, q1, q2, q3, q4, q5]) rfl ?_
                obtain ⟨e1, e2, e3⟩ := h8.out
                have hm := set6_below (N := w.heap.size + 1) hW9 (Nat.le_succ w.heap.size) (.int .i64 k) (.int .i64 n) (.int .i64 ix) (.int .u64 0) (.string ⟨#[]⟩) (.slice A8 n8 c8)
                have HPf := HPut.out
                rw [hnew] at HPf
                simp only [Bool.false_eq_true, if_false] at HPf hrow9 e1
                have Hokf := Hok.out
                rw [HPf] at Hokf ⊢
                subst e1
                refine ⟨_, rfl, VaV.mk Hokf e2 e3 (hrow9.list.to (fun b hb => ⟨⟨by have := hb.1; omega, by rw [set6_size]; exact hb.2⟩, set6_heap _ _ _ _ _ _ (by have := hb.1; omega)⟩)), hm⟩
            · have gs : decide (0 < (s.size : Int)) = false := decide_eq_false (by omega)
              have hnew : newE i u s = [] := by unfold newE; rw [show (s.size == 0) = true by rw [beq_iff_eq]; omega, huz]; rfl
              clear huz
              have p50 := (six hb0).2.2.2.2.2
              have g51 := (six hb2).2.2.2.2.2
              have hf51 := blk_frozen hb2 5
              replace hb0 := Lib.hid hb0
              replace hb1 := Lib.hid hb1
              replace hb2 := Lib.hid hb2
              have HWr := Lib.hid hW
              go_wp2_with fail
              have hb07 := hb0.out
              have hb17 := hb1.out
              have hb27 := hb2.out
              have hW7 := HWr.out
              have hsz7 := hsz
              have hrow7 := hrow
              have hl7 : (m.take 0).length ≤ 100001 := by rw [hjl]; omega
              clear p50 g51 hf51 hb0 hb1 hb2 hrow hW hsz
              obtain ⟨w7, rfl⟩ : ∃ w7, w7 = wr := ⟨_, rfl⟩
              have hl3 := (show EnL w7.drew (LoV w.heap.size) (m.drop 0) none from .inl (by have := HML.out; exact List.drop_eq_nil_of_le (by omega)))
              have p57 := (six hb07).2.2.2.2.2
              have g57 := (six hb27).2.2.2.2.2
              have hcub7 : ∀ b, ((cu) : Value).ownBlock = some b → w.heap.size + 3 ≤ b := hrow7.blk
              have HL8 : ∀ w8, (w7.drew).grownBy w8 ((cu) : Value).ownBlock → ∀ B, B < w.heap.size + 3 → w8.heap[B]? = w7.heap[B]? := fun w8 hg B hB => (show w8.heap[B]? = w7.drew.heap[B]? from grown_lowv (w1 := w7.drew) hg hcub7 hB hsz7)
              have hS1 : w7.drew.cell? ⟨w.heap.size, 5, none⟩ = some (.slice none 0 0) ∧ w7.drew.cell? ⟨w.heap.size + 1 + 1, 5, none⟩ = some (cu) := ⟨p57, g57⟩
              have hS8 := fun (w8 : World) (hg : (w7.drew).grownBy w8 ((cu) : Value).ownBlock) => (show w8.cell? ⟨w.heap.size, 5, none⟩ = some (.slice none 0 0) ∧ w8.cell? ⟨w.heap.size + 1 + 1, 5, none⟩ = some (cu) from ⟨(World.cell?_of_block (a := ⟨w.heap.size, 5, none⟩) (HL8 w8 hg w.heap.size (by omega))).trans p57, (World.cell?_of_block (a := ⟨w.heap.size + 1 + 1, 5, none⟩) (HL8 w8 hg (w.heap.size + 1 + 1) (by omega))).trans g57⟩)
              have hF8 := fun (w8 : World) (hg : (w7.drew).grownBy w8 ((cu) : Value).ownBlock) => blk_frozen ((HL8 w8 hg (w.heap.size + 1 + 1) (by omega)).trans hb27) 5
              replace HL8 := Lib.hid HL8
              replace hb07 := Lib.hid hb07
              replace hb17 := Lib.hid hb17
              replace hb27 := Lib.hid hb27
              refine region_lastp (fun W => W.cell? ⟨w.heap.size, 5, none⟩ = some (.slice none 0 0) ∧ W.cell? ⟨w.heap.size + 1 + 1, 5, none⟩ = some (cu)) (by kernel_rfl) rfl (by kernel_rfl) ?_
              (try simp only [List.pop_toArray, List.dropLast_cons_cons, List.dropLast_singleton, List.size_toArray, List.length_cons, List.length_nil, Nat.zero_add, Nat.reduceAdd])
              refine wpAnyH_takeL (i := 0) (v := ?v23) rfl (by kernel_rfl) (by kernel_rfl) (by kernel_rfl) (fun _ _ _ h => h) (Or.inl ⟨by rfl, ?y23⟩) (by assumption) ?r23
              case y23 => (intro W hSw; (try dsimp only at hSw); go_simp; try with_reducible rfl)
              (try simp only [Act.put, List.setIfInBounds_toArray, List.set_cons_zero, List.set_cons_succ])
              refine wpAnyH_takeL (i := 1) (v := ?v24) rfl (by kernel_rfl) (by kernel_rfl) (by kernel_rfl) (fun _ _ _ h => h) (Or.inl ⟨by rfl, ?y24⟩) (by assumption) ?r24
              case y24 => (intro W hSw; (try dsimp only at hSw); go_simp; try with_reducible rfl)
              (try simp only [Act.put, List.setIfInBounds_toArray, List.set_cons_zero, List.set_cons_succ])
              refine wpAnyH_takeL (i := 2) (v := ?v25) rfl (by kernel_rfl) (by kernel_rfl) (by kernel_rfl) (fun _ _ _ h => h) (Or.inl ⟨by rfl, ?y25⟩) (by assumption) ?r25
              case y25 => (intro W hSw; (try dsimp only at hSw); go_simp; try with_reducible rfl)
              (try simp only [Act.put, List.setIfInBounds_toArray, List.set_cons_zero, List.set_cons_succ])
              refine wpAnyH_takeL (i := 3) (v := ?v26) rfl (by kernel_rfl) (by kernel_rfl) (by kernel_rfl) (fun _ _ _ h => h) (Or.inl ⟨by rfl, ?y26⟩) (by assumption) ?r26
              case y26 => (intro W hSw; (try dsimp only at hSw); go_simp; try with_reducible rfl)
              (try simp only [Act.put, List.setIfInBounds_toArray, List.set_cons_zero, List.set_cons_succ])
              refine wpAnyH_takeL (i := 4) (v := ?v27) rfl (by kernel_rfl) (by kernel_rfl) (by kernel_rfl) (fun _ _ _ h => h) (Or.inl ⟨by rfl, ?y27⟩) (by assumption) ?r27
              case y27 => (intro W hSw; (try dsimp only at hSw); go_simp; try with_reducible rfl)
              (try simp only [Act.put, List.setIfInBounds_toArray, List.set_cons_zero, List.set_cons_succ])
              refine wpAnyH_takeL (i := 5) (v := ?v28) rfl (by kernel_rfl) (by kernel_rfl) (by kernel_rfl) (fun _ _ _ h => h) (Or.inl ⟨by rfl, ?y28⟩) (by assumption) ?r28
              case y28 => (intro W hSw; (try dsimp only at hSw); go_simp; try with_reducible rfl)
              (try simp only [Act.put, List.setIfInBounds_toArray, List.set_cons_zero, List.set_cons_succ])
              refine wpAnyH_ready (rs := [6]) (by kernel_rfl) (by simp) ?_
              refine consL rfl (fun K hK => ?_) AllReadyH.nil
              (refine step_append_en _ (by rfl) _ _ 28 (by rfl) (w.heap.size + 3) 84 i0 (.agg #[.int .u64 0, .int .u64 0, .string ⟨#[]⟩]) 32 Try.underlying28 hi0 hz0 hz1 hz2 rfl (cu) (m.take 0) (by rfl) (hrow7.below (Below.refl _ _).drew) (LoV w.heap.size) none 0 0 (m.drop 0) (by rfl) (by rw [List.length_drop]; have := HML.out; omega) (fun _ => rfl) (by rw [List.length_drop]; have := HML.out; omega) hl3 (by unfold maxLen; omega) (by omega) hsz7 ?_; intro A8 n8 c8 w8 h8 hrow8 hg8; have hf8 := hF8 w8 hg8; have hS9 := hS8 w8 hg8; have g58 := hS9.2)
              refine hK.out _ _ (hS9) (fun hHeld => ?_)
              clear hK K
              (try simp only [Act.put, List.setIfInBounds_toArray, List.set_cons_zero, List.set_cons_succ])
              refine wpAnyH_takeL (i := 7) (v := ?v29) rfl (by kernel_rfl) (by kernel_rfl) (by kernel_rfl) (fun _ _ _ h => h) (Or.inl ⟨by rfl, ?y29⟩) (by assumption) ?r29
              case y29 => (intro W hSw; (try dsimp only at hSw); go_simp; try with_reducible rfl)
              (try simp only [Act.put, List.setIfInBounds_toArray, List.set_cons_zero, List.set_cons_succ])
              refine wpAnyH_done (by kernel_rfl) ?_ _
              refine lastQ_of rfl (fun K hK => ?_)
              go_simp
              refine hK.out _ _ ?_
              clear hK K
              have hb19 := (Below.heap_setCell w8 ⟨w.heap.size + 1 + 1, 5, none⟩ (.slice A8 n8 c8) (w.heap.size + 1) (by simp)).trans ((HL8.out w8 hg8 _ (by omega)).trans hb17.out)
              have hb29 := six_set5 ((HL8.out w8 hg8 _ (by omega)).trans hb27.out) (.slice A8 n8 c8)
              have hW9 := (hW7.trans ((Below.refl _ _).drew.grown hg8 (Nat.le_trans (Nat.le_add_right _ 3) hsz7) (fun j ej => Nat.le_trans (by omega) (hcub7 j ej)))).setCell (p := ⟨w.heap.size + 1 + 1, 5, none⟩) (by simp; omega) (.slice A8 n8 c8)
              have hrow9 : RowE (w8.setCell ⟨w.heap.size + 1 + 1, 5, none⟩ (.slice A8 n8 c8)) (w.heap.size + 3) 84 (.slice A8 n8 c8) ((m.take 0) ++ m.drop 0) := own_keptv hrow8 (fun b h1 _ => Below.heap_setCell _ _ _ b (by simp; omega))
              clear hf8 g58
              generalize w8.setCell ⟨w.heap.size + 1 + 1, 5, none⟩ (.slice A8 n8 c8) = w9 at *
              obtain ⟨q0, q1, q2, q3, q4, q5⟩ := six hb19
              obtain ⟨z0, z1, z2, z3, z4, z5⟩ := six hb29
              have hf1 := blk_frozen hb19
              replace hb19 := Lib.hid hb19
              replace hb29 := Lib.hid hb29
              go_wp2_with fail
              all_goals
                refine bodyPost_ret (v := .agg #[.int .i64 k, .int .i64 n, .int .i64 ix, .int .u64 0, .string ⟨#[]⟩, .slice A8 n8 c8]) (by simp [results, Try.results62, go_sem, q0, q1, q2, q3, q4, q5]) rfl ?_
                obtain ⟨e1, e2, e3⟩ := h8.out
                have hm := set6_below (N := w.heap.size + 1) hW9 (Nat.le_succ w.heap.size) (.int .i64 k) (.int .i64 n) (.int .i64 ix) (.int .u64 0) (.string ⟨#[]⟩) (.slice A8 n8 c8)
                have HPf := HPut.out
                rw [hnew] at HPf
                simp only [Bool.false_eq_true, if_false, List.append_nil] at HPf hrow9 e1
                have Hokf := Hok.out
                rw [HPf] at Hokf ⊢
                subst e1
                refine ⟨_, rfl, VaV.mk Hokf e2 e3 (hrow9.list.to (fun b hb => ⟨⟨by have := hb.1; omega, by rw [set6_size]; exact hb.2⟩, set6_heap _ _ _ _ _ _ (by have := hb.1; omega)⟩)), hm⟩

        | some ad =>
          obtain ⟨b1, o1, o2⟩ := ad
          by_cases hc1 : c = 0
          · subst hc1
            by_cases hu0 : 0 < u
            · have gu : decide (0 < u) = true := decide_eq_true hu0
              have hnew : newE i u s = [⟨i, u, s⟩] := by unfold newE; rw [show (u == 0) = false by simp; omega]; rfl
              have HRn : RowE (wr.alloc (.cells #[.int .u64 i, .int .u64 u, .string s] 84)) (w.heap.size + 3) 84 cu (m.take 0) := hrow.below ((Below.refl _ _).alloc (Nat.le_refl _) _)
              have HNn : EnL (wr.alloc (.cells #[.int .u64 i, .int .u64 u, .string s] 84)) (fun _ => True) [⟨i, u, s⟩] (some ⟨wr.heap.size, 0, none⟩) := enl_one (heap_alloc_new wr (.cells #[.int .u64 i, .int .u64 u, .string s] 84)) trivial
              have HBn : w.heap.size + 3 ≤ (wr.alloc (.cells #[.int .u64 i, .int .u64 u, .string s] 84)).heap.size := by simp; omega
              have HLn : ∀ w6, (wr.alloc (.cells #[.int .u64 i, .int .u64 u, .string s] 84)).grownBy w6 cu.ownBlock → ∀ B, B < w.heap.size + 3 → w6.heap[B]? = wr.heap[B]? := fun w6 hg B hB => (grown_lowv hg hcub hB HBn).trans (Below.heap_alloc wr _ B (by omega))
              have HWn : ∀ w6, (wr.alloc (.cells #[.int .u64 i, .int .u64 u, .string s] 84)).grownBy w6 cu.ownBlock → Below w.heap.size w w6 := fun w6 hg => hW.trans (((Below.refl _ _).alloc (Nat.le_trans (Nat.le_add_right _ 3) hsz) _).grown hg (by simp; omega) (fun j ej => Nat.le_trans (by omega) (hcub j ej)))
              have HZn : ∀ w6, (wr.alloc (.cells #[.int .u64 i, .int .u64 u, .string s] 84)).grownBy w6 cu.ownBlock → w.heap.size + 3 ≤ w6.heap.size := fun w6 hg => by have := hg.size; simp at this; omega
              have g50 := (cell_oldv (w := wr) (B := w.heap.size + 1 + 1) (i := 5) (by omega) (.cells #[.int .u64 i, .int .u64 u, .string s] 84)).trans (six hb2).2.2.2.2.2
              have p50 := (six hb0).2.2.2.2.2
              have g51 := (six hb2).2.2.2.2.2
              have hf51 := blk_frozen hb2 5
              replace hb0 := Lib.hid hb0
              replace hb1 := Lib.hid hb1
              replace hb2 := Lib.hid hb2
              have HWr := Lib.hid hW
              replace HLn := Lib.hid HLn
              replace HWn := Lib.hid HWn
              replace HZn := Lib.hid HZn
              replace hjl := Lib.hid hjl
              go_wp2_with (at_builtin; refine wpList_append_en _ rfl _ _ 28 rfl (w.heap.size + 3) 84 i0 (.agg #[.int .u64 0, .int .u64 0, .string ⟨#[]⟩]) 32 Try.underlying28 hi0 hz0 hz1 hz2 rfl cu (m.take 0) rfl HRn (fun _ => True) (some ⟨wr.heap.size, 0, none⟩) 1 1 [⟨i, u, s⟩] rfl rfl (fun h => by cases h) (Nat.le_refl _) HNn (by rw [hjl.out]; unfold maxLen; omega) (by rw [hjl.out]; omega) HBn ?_; intro A6 n6 c6 w6 h6 hrow6 hg6; have hl6 := HLn.out w6 hg6; have hf6 := blk_frozen ((hl6 _ (by omega)).trans hb2.out) 5; have g56 := (six ((hl6 _ (by omega)).trans hb2.out)).2.2.2.2.2; have p57 := (World.cell?_of_block (a := ⟨w.heap.size, 5, none⟩) ((Below.heap_setCell w6 ⟨w.heap.size + 1 + 1, 5, none⟩ (.slice A6 n6 c6) w.heap.size (by simp; omega)).trans (hl6 _ (by omega)))).trans p50; replace hl6 := Lib.hid hl6)
              have hb07 := (Below.heap_setCell w6 ⟨w.heap.size + 1 + 1, 5, none⟩ (.slice A6 n6 c6) w.heap.size (by simp; omega)).trans ((hl6.out _ (by omega)).trans hb0.out)
              have hb17 := (Below.heap_setCell w6 ⟨w.heap.size + 1 + 1, 5, none⟩ (.slice A6 n6 c6) (w.heap.size + 1) (by simp)).trans ((hl6.out _ (by omega)).trans hb1.out)
              have hb27 := six_set5 ((hl6.out _ (by omega)).trans hb2.out) (.slice A6 n6 c6)
              have hW7 := (HWn.out w6 hg6).setCell (p := ⟨w.heap.size + 1 + 1, 5, none⟩) (by simp; omega) (.slice A6 n6 c6)
              have hsz7 : w.heap.size + 3 ≤ (w6.setCell ⟨w.heap.size + 1 + 1, 5, none⟩ (.slice A6 n6 c6)).heap.size := by have := HZn.out w6 hg6; simpa [World.setCell] using this
              have hrow7 : RowE (w6.setCell ⟨w.heap.size + 1 + 1, 5, none⟩ (.slice A6 n6 c6)) (w.heap.size + 3) 84 (.slice A6 n6 c6) ((m.take 0) ++ [(⟨i, u, s⟩ : En)]) := own_keptv hrow6 (fun b h1 _ => Below.heap_setCell _ _ _ b (by simp; omega))
              clear p50 g50 g51 hf51 hf6 g56 p57
              generalize w6.setCell ⟨w.heap.size + 1 + 1, 5, none⟩ (.slice A6 n6 c6) = w7 at *
              have hl7 : ((m.take 0) ++ [(⟨i, u, s⟩ : En)]).length ≤ 100001 := by rw [List.length_append, hjl.out, List.length_singleton]; omega
              have hl3 := (show EnL w7.drew (LoV w.heap.size) (m.drop 0) (some ⟨b1, o1, o2⟩) from .inl (by have := HML.out; exact List.drop_eq_nil_of_le (by omega)))
              have p57 := (six hb07).2.2.2.2.2
              have g57 := (six hb27).2.2.2.2.2
              have hcub7 : ∀ b, ((.slice A6 n6 c6) : Value).ownBlock = some b → w.heap.size + 3 ≤ b := hrow7.blk
              have HL8 : ∀ w8, (w7.drew).grownBy w8 ((.slice A6 n6 c6) : Value).ownBlock → ∀ B, B < w.heap.size + 3 → w8.heap[B]? = w7.heap[B]? := fun w8 hg B hB => (show w8.heap[B]? = w7.drew.heap[B]? from grown_lowv (w1 := w7.drew) hg hcub7 hB hsz7)
              have hS1 : w7.drew.cell? ⟨w.heap.size, 5, none⟩ = some (.slice (some ⟨b1, o1, o2⟩) 0 0) ∧ w7.drew.cell? ⟨w.heap.size + 1 + 1, 5, none⟩ = some (.slice A6 n6 c6) := ⟨p57, g57⟩
              have hS8 := fun (w8 : World) (hg : (w7.drew).grownBy w8 ((.slice A6 n6 c6) : Value).ownBlock) => (show w8.cell? ⟨w.heap.size, 5, none⟩ = some (.slice (some ⟨b1, o1, o2⟩) 0 0) ∧ w8.cell? ⟨w.heap.size + 1 + 1, 5, none⟩ = some (.slice A6 n6 c6) from ⟨(World.cell?_of_block (a := ⟨w.heap.size, 5, none⟩) (HL8 w8 hg w.heap.size (by omega))).trans p57, (World.cell?_of_block (a := ⟨w.heap.size + 1 + 1, 5, none⟩) (HL8 w8 hg (w.heap.size + 1 + 1) (by omega))).trans g57⟩)
              have hF8 := fun (w8 : World) (hg : (w7.drew).grownBy w8 ((.slice A6 n6 c6) : Value).ownBlock) => blk_frozen ((HL8 w8 hg (w.heap.size + 1 + 1) (by omega)).trans hb27) 5
              replace HL8 := Lib.hid HL8
              replace hb07 := Lib.hid hb07
              replace hb17 := Lib.hid hb17
              replace hb27 := Lib.hid hb27
              refine region_lastp (fun W => W.cell? ⟨w.heap.size, 5, none⟩ = some (.slice (some ⟨b1, o1, o2⟩) 0 0) ∧ W.cell? ⟨w.heap.size + 1 + 1, 5, none⟩ = some (.slice A6 n6 c6)) (by kernel_rfl) rfl (by kernel_rfl) ?_
              (try simp only [List.pop_toArray, List.dropLast_cons_cons, List.dropLast_singleton, List.size_toArray, List.length_cons, List.length_nil, Nat.zero_add, Nat.reduceAdd])
              refine wpAnyH_takeL (i := 0) (v := ?v30) rfl (by kernel_rfl) (by kernel_rfl) (by kernel_rfl) (fun _ _ _ h => h) (Or.inl ⟨by rfl, ?y30⟩) (by assumption) ?r30
              case y30 => (intro W hSw; (try dsimp only at hSw); go_simp; try with_reducible rfl)
              (try simp only [Act.put, List.setIfInBounds_toArray, List.set_cons_zero, List.set_cons_succ])
              refine wpAnyH_takeL (i := 1) (v := ?v31) rfl (by kernel_rfl) (by kernel_rfl) (by kernel_rfl) (fun _ _ _ h => h) (Or.inl ⟨by rfl, ?y31⟩) (by assumption) ?r31
              case y31 => (intro W hSw; (try dsimp only at hSw); go_simp; try with_reducible rfl)
              (try simp only [Act.put, List.setIfInBounds_toArray, List.set_cons_zero, List.set_cons_succ])
              refine wpAnyH_takeL (i := 2) (v := ?v32) rfl (by kernel_rfl) (by kernel_rfl) (by kernel_rfl) (fun _ _ _ h => h) (Or.inl ⟨by rfl, ?y32⟩) (by assumption) ?r32
              case y32 => (intro W hSw; (try dsimp only at hSw); go_simp; try with_reducible rfl)
              (try simp only [Act.put, List.setIfInBounds_toArray, List.set_cons_zero, List.set_cons_succ])
              refine wpAnyH_takeL (i := 3) (v := ?v33) rfl (by kernel_rfl) (by kernel_rfl) (by kernel_rfl) (fun _ _ _ h => h) (Or.inl ⟨by rfl, ?y33⟩) (by assumption) ?r33
              case y33 => (intro W hSw; (try dsimp only at hSw); go_simp; try with_reducible rfl)
              (try simp only [Act.put, List.setIfInBounds_toArray, List.set_cons_zero, List.set_cons_succ])
              refine wpAnyH_takeL (i := 4) (v := ?v34) rfl (by kernel_rfl) (by kernel_rfl) (by kernel_rfl) (fun _ _ _ h => h) (Or.inl ⟨by rfl, ?y34⟩) (by assumption) ?r34
              case y34 => (intro W hSw; (try dsimp only at hSw); go_simp; try with_reducible rfl)
              (try simp only [Act.put, List.setIfInBounds_toArray, List.set_cons_zero, List.set_cons_succ])
              refine wpAnyH_takeL (i := 5) (v := ?v35) rfl (by kernel_rfl) (by kernel_rfl) (by kernel_rfl) (fun _ _ _ h => h) (Or.inl ⟨by rfl, ?y35⟩) (by assumption) ?r35
              case y35 => (intro W hSw; (try dsimp only at hSw); go_simp; try with_reducible rfl)
              (try simp only [Act.put, List.setIfInBounds_toArray, List.set_cons_zero, List.set_cons_succ])
              refine wpAnyH_ready (rs := [6]) (by kernel_rfl) (by simp) ?_
              refine consL rfl (fun K hK => ?_) AllReadyH.nil
              (refine step_append_en _ (by rfl) _ _ 28 (by rfl) (w.heap.size + 3) 84 i0 (.agg #[.int .u64 0, .int .u64 0, .string ⟨#[]⟩]) 32 Try.underlying28 hi0 hz0 hz1 hz2 rfl (.slice A6 n6 c6) ((m.take 0) ++ [(⟨i, u, s⟩ : En)]) (by rfl) (hrow7.below (Below.refl _ _).drew) (LoV w.heap.size) (some ⟨b1, o1, o2⟩) 0 0 (m.drop 0) (by rfl) (by rw [List.length_drop]; have := HML.out; omega) (fun _ => rfl) (by rw [List.length_drop]; have := HML.out; omega) hl3 (by unfold maxLen; omega) (by omega) hsz7 ?_; intro A8 n8 c8 w8 h8 hrow8 hg8; have hf8 := hF8 w8 hg8; have hS9 := hS8 w8 hg8; have g58 := hS9.2)
              refine hK.out _ _ (hS9) (fun hHeld => ?_)
              clear hK K
              (try simp only [Act.put, List.setIfInBounds_toArray, List.set_cons_zero, List.set_cons_succ])
              refine wpAnyH_takeL (i := 7) (v := ?v36) rfl (by kernel_rfl) (by kernel_rfl) (by kernel_rfl) (fun _ _ _ h => h) (Or.inl ⟨by rfl, ?y36⟩) (by assumption) ?r36
              case y36 => (intro W hSw; (try dsimp only at hSw); go_simp; try with_reducible rfl)
              (try simp only [Act.put, List.setIfInBounds_toArray, List.set_cons_zero, List.set_cons_succ])
              refine wpAnyH_done (by kernel_rfl) ?_ _
              refine lastQ_of rfl (fun K hK => ?_)
              go_simp
              refine hK.out _ _ ?_
              clear hK K
              have hb19 := (Below.heap_setCell w8 ⟨w.heap.size + 1 + 1, 5, none⟩ (.slice A8 n8 c8) (w.heap.size + 1) (by simp)).trans ((HL8.out w8 hg8 _ (by omega)).trans hb17.out)
              have hb29 := six_set5 ((HL8.out w8 hg8 _ (by omega)).trans hb27.out) (.slice A8 n8 c8)
              have hW9 := (hW7.trans ((Below.refl _ _).drew.grown hg8 (Nat.le_trans (Nat.le_add_right _ 3) hsz7) (fun j ej => Nat.le_trans (by omega) (hcub7 j ej)))).setCell (p := ⟨w.heap.size + 1 + 1, 5, none⟩) (by simp; omega) (.slice A8 n8 c8)
              have hrow9 : RowE (w8.setCell ⟨w.heap.size + 1 + 1, 5, none⟩ (.slice A8 n8 c8)) (w.heap.size + 3) 84 (.slice A8 n8 c8) (((m.take 0) ++ [(⟨i, u, s⟩ : En)]) ++ m.drop 0) := own_keptv hrow8 (fun b h1 _ => Below.heap_setCell _ _ _ b (by simp; omega))
              clear hf8 g58
              generalize w8.setCell ⟨w.heap.size + 1 + 1, 5, none⟩ (.slice A8 n8 c8) = w9 at *
              obtain ⟨q0, q1, q2, q3, q4, q5⟩ := six hb19
              obtain ⟨z0, z1, z2, z3, z4, z5⟩ := six hb29
              have hf1 := blk_frozen hb19
              replace hb19 := Lib.hid hb19
              replace hb29 := Lib.hid hb29
              go_wp2_with fail
              all_goals
                refine bodyPost_ret (v := .agg #[.int .i64 k, .int .i64 n, .int .i64 ix, .int .u64 0, .string ⟨#[]⟩, .slice A8 n8 c8]) (by simp [results, Try.results62, go_sem, q0, q1, q2, q3, q4, q5]) rfl ?_
                obtain ⟨e1, e2, e3⟩ := h8.out
                have hm := set6_below (N := w.heap.size + 1) hW9 (Nat.le_succ w.heap.size) (.int .i64 k) (.int .i64 n) (.int .i64 ix) (.int .u64 0) (.string ⟨#[]⟩) (.slice A8 n8 c8)
                have HPf := HPut.out
                rw [hnew] at HPf
                simp only [Bool.false_eq_true, if_false] at HPf hrow9 e1
                have Hokf := Hok.out
                rw [HPf] at Hokf ⊢
                subst e1
                refine ⟨_, rfl, VaV.mk Hokf e2 e3 (hrow9.list.to (fun b hb => ⟨⟨by have := hb.1; omega, by rw [set6_size]; exact hb.2⟩, set6_heap _ _ _ _ _ _ (by have := hb.1; omega)⟩)), hm⟩
            · have gu : decide (0 < u) = false := decide_eq_false hu0
              have huz : u = 0 := by have := hu.out.1; omega
              by_cases hs0 : 0 < s.size
              · have gs : decide (0 < (s.size : Int)) = true := decide_eq_true (by omega)
                have hnew : newE i u s = [⟨i, u, s⟩] := by unfold newE; rw [show (s.size == 0) = false by rw [beq_eq_false_iff_ne]; omega, Bool.and_false]; rfl
                clear huz
                have HRn : RowE (wr.alloc (.cells #[.int .u64 i, .int .u64 u, .string s] 84)) (w.heap.size + 3) 84 cu (m.take 0) := hrow.below ((Below.refl _ _).alloc (Nat.le_refl _) _)
                have HNn : EnL (wr.alloc (.cells #[.int .u64 i, .int .u64 u, .string s] 84)) (fun _ => True) [⟨i, u, s⟩] (some ⟨wr.heap.size, 0, none⟩) := enl_one (heap_alloc_new wr (.cells #[.int .u64 i, .int .u64 u, .string s] 84)) trivial
                have HBn : w.heap.size + 3 ≤ (wr.alloc (.cells #[.int .u64 i, .int .u64 u, .string s] 84)).heap.size := by simp; omega
                have HLn : ∀ w6, (wr.alloc (.cells #[.int .u64 i, .int .u64 u, .string s] 84)).grownBy w6 cu.ownBlock → ∀ B, B < w.heap.size + 3 → w6.heap[B]? = wr.heap[B]? := fun w6 hg B hB => (grown_lowv hg hcub hB HBn).trans (Below.heap_alloc wr _ B (by omega))
                have HWn : ∀ w6, (wr.alloc (.cells #[.int .u64 i, .int .u64 u, .string s] 84)).grownBy w6 cu.ownBlock → Below w.heap.size w w6 := fun w6 hg => hW.trans (((Below.refl _ _).alloc (Nat.le_trans (Nat.le_add_right _ 3) hsz) _).grown hg (by simp; omega) (fun j ej => Nat.le_trans (by omega) (hcub j ej)))
                have HZn : ∀ w6, (wr.alloc (.cells #[.int .u64 i, .int .u64 u, .string s] 84)).grownBy w6 cu.ownBlock → w.heap.size + 3 ≤ w6.heap.size := fun w6 hg => by have := hg.size; simp at this; omega
                have g50 := (cell_oldv (w := wr) (B := w.heap.size + 1 + 1) (i := 5) (by omega) (.cells #[.int .u64 i, .int .u64 u, .string s] 84)).trans (six hb2).2.2.2.2.2
                have p50 := (six hb0).2.2.2.2.2
                have g51 := (six hb2).2.2.2.2.2
                have hf51 := blk_frozen hb2 5
                replace hb0 := Lib.hid hb0
                replace hb1 := Lib.hid hb1
                replace hb2 := Lib.hid hb2
                have HWr := Lib.hid hW
                replace HLn := Lib.hid HLn
                replace HWn := Lib.hid HWn
                replace HZn := Lib.hid HZn
                replace hjl := Lib.hid hjl
                go_wp2_with (at_builtin; refine wpList_append_en _ rfl _ _ 28 rfl (w.heap.size + 3) 84 i0 (.agg #[.int .u64 0, .int .u64 0, .string ⟨#[]⟩]) 32 Try.underlying28 hi0 hz0 hz1 hz2 rfl cu (m.take 0) rfl HRn (fun _ => True) (some ⟨wr.heap.size, 0, none⟩) 1 1 [⟨i, u, s⟩] rfl rfl (fun h => by cases h) (Nat.le_refl _) HNn (by rw [hjl.out]; unfold maxLen; omega) (by rw [hjl.out]; omega) HBn ?_; intro A6 n6 c6 w6 h6 hrow6 hg6; have hl6 := HLn.out w6 hg6; have hf6 := blk_frozen ((hl6 _ (by omega)).trans hb2.out) 5; have g56 := (six ((hl6 _ (by omega)).trans hb2.out)).2.2.2.2.2; have p57 := (World.cell?_of_block (a := ⟨w.heap.size, 5, none⟩) ((Below.heap_setCell w6 ⟨w.heap.size + 1 + 1, 5, none⟩ (.slice A6 n6 c6) w.heap.size (by simp; omega)).trans (hl6 _ (by omega)))).trans p50; replace hl6 := Lib.hid hl6)
                have hb07 := (Below.heap_setCell w6 ⟨w.heap.size + 1 + 1, 5, none⟩ (.slice A6 n6 c6) w.heap.size (by simp; omega)).trans ((hl6.out _ (by omega)).trans hb0.out)
                have hb17 := (Below.heap_setCell w6 ⟨w.heap.size + 1 + 1, 5, none⟩ (.slice A6 n6 c6) (w.heap.size + 1) (by simp)).trans ((hl6.out _ (by omega)).trans hb1.out)
                have hb27 := six_set5 ((hl6.out _ (by omega)).trans hb2.out) (.slice A6 n6 c6)
                have hW7 := (HWn.out w6 hg6).setCell (p := ⟨w.heap.size + 1 + 1, 5, none⟩) (by simp; omega) (.slice A6 n6 c6)
                have hsz7 : w.heap.size + 3 ≤ (w6.setCell ⟨w.heap.size + 1 + 1, 5, none⟩ (.slice A6 n6 c6)).heap.size := by have := HZn.out w6 hg6; simpa [World.setCell] using this
                have hrow7 : RowE (w6.setCell ⟨w.heap.size + 1 + 1, 5, none⟩ (.slice A6 n6 c6)) (w.heap.size + 3) 84 (.slice A6 n6 c6) ((m.take 0) ++ [(⟨i, u, s⟩ : En)]) := own_keptv hrow6 (fun b h1 _ => Below.heap_setCell _ _ _ b (by simp; omega))
                clear p50 g50 g51 hf51 hf6 g56 p57
                generalize w6.setCell ⟨w.heap.size + 1 + 1, 5, none⟩ (.slice A6 n6 c6) = w7 at *
                have hl7 : ((m.take 0) ++ [(⟨i, u, s⟩ : En)]).length ≤ 100001 := by rw [List.length_append, hjl.out, List.length_singleton]; omega
                have hl3 := (show EnL w7.drew (LoV w.heap.size) (m.drop 0) (some ⟨b1, o1, o2⟩) from .inl (by have := HML.out; exact List.drop_eq_nil_of_le (by omega)))
                have p57 := (six hb07).2.2.2.2.2
                have g57 := (six hb27).2.2.2.2.2
                have hcub7 : ∀ b, ((.slice A6 n6 c6) : Value).ownBlock = some b → w.heap.size + 3 ≤ b := hrow7.blk
                have HL8 : ∀ w8, (w7.drew).grownBy w8 ((.slice A6 n6 c6) : Value).ownBlock → ∀ B, B < w.heap.size + 3 → w8.heap[B]? = w7.heap[B]? := fun w8 hg B hB => (show w8.heap[B]? = w7.drew.heap[B]? from grown_lowv (w1 := w7.drew) hg hcub7 hB hsz7)
                have hS1 : w7.drew.cell? ⟨w.heap.size, 5, none⟩ = some (.slice (some ⟨b1, o1, o2⟩) 0 0) ∧ w7.drew.cell? ⟨w.heap.size + 1 + 1, 5, none⟩ = some (.slice A6 n6 c6) := ⟨p57, g57⟩
                have hS8 := fun (w8 : World) (hg : (w7.drew).grownBy w8 ((.slice A6 n6 c6) : Value).ownBlock) => (show w8.cell? ⟨w.heap.size, 5, none⟩ = some (.slice (some ⟨b1, o1, o2⟩) 0 0) ∧ w8.cell? ⟨w.heap.size + 1 + 1, 5, none⟩ = some (.slice A6 n6 c6) from ⟨(World.cell?_of_block (a := ⟨w.heap.size, 5, none⟩) (HL8 w8 hg w.heap.size (by omega))).trans p57, (World.cell?_of_block (a := ⟨w.heap.size + 1 + 1, 5, none⟩) (HL8 w8 hg (w.heap.size + 1 + 1) (by omega))).trans g57⟩)
                have hF8 := fun (w8 : World) (hg : (w7.drew).grownBy w8 ((.slice A6 n6 c6) : Value).ownBlock) => blk_frozen ((HL8 w8 hg (w.heap.size + 1 + 1) (by omega)).trans hb27) 5
                replace HL8 := Lib.hid HL8
                replace hb07 := Lib.hid hb07
                replace hb17 := Lib.hid hb17
                replace hb27 := Lib.hid hb27
                refine region_lastp (fun W => W.cell? ⟨w.heap.size, 5, none⟩ = some (.slice (some ⟨b1, o1, o2⟩) 0 0) ∧ W.cell? ⟨w.heap.size + 1 + 1, 5, none⟩ = some (.slice A6 n6 c6)) (by kernel_rfl) rfl (by kernel_rfl) ?_
                (try simp only [List.pop_toArray, List.dropLast_cons_cons, List.dropLast_singleton, List.size_toArray, List.length_cons, List.length_nil, Nat.zero_add, Nat.reduceAdd])
                refine wpAnyH_takeL (i := 0) (v := ?v37) rfl (by kernel_rfl) (by kernel_rfl) (by kernel_rfl) (fun _ _ _ h => h) (Or.inl ⟨by rfl, ?y37⟩) (by assumption) ?r37
                case y37 => (intro W hSw; (try dsimp only at hSw); go_simp; try with_reducible rfl)
                (try simp only [Act.put, List.setIfInBounds_toArray, List.set_cons_zero, List.set_cons_succ])
                refine wpAnyH_takeL (i := 1) (v := ?v38) rfl (by kernel_rfl) (by kernel_rfl) (by kernel_rfl) (fun _ _ _ h => h) (Or.inl ⟨by rfl, ?y38⟩) (by assumption) ?r38
                case y38 => (intro W hSw; (try dsimp only at hSw); go_simp; try with_reducible rfl)
                (try simp only [Act.put, List.setIfInBounds_toArray, List.set_cons_zero, List.set_cons_succ])
                refine wpAnyH_takeL (i := 2) (v := ?v39) rfl (by kernel_rfl) (by kernel_rfl) (by kernel_rfl) (fun _ _ _ h => h) (Or.inl ⟨by rfl, ?y39⟩) (by assumption) ?r39
                case y39 => (intro W hSw; (try dsimp only at hSw); go_simp; try with_reducible rfl)
                (try simp only [Act.put, List.setIfInBounds_toArray, List.set_cons_zero, List.set_cons_succ])
                refine wpAnyH_takeL (i := 3) (v := ?v40) rfl (by kernel_rfl) (by kernel_rfl) (by kernel_rfl) (fun _ _ _ h => h) (Or.inl ⟨by rfl, ?y40⟩) (by assumption) ?r40
                case y40 => (intro W hSw; (try dsimp only at hSw); go_simp; try with_reducible rfl)
                (try simp only [Act.put, List.setIfInBounds_toArray, List.set_cons_zero, List.set_cons_succ])
                refine wpAnyH_takeL (i := 4) (v := ?v41) rfl (by kernel_rfl) (by kernel_rfl) (by kernel_rfl) (fun _ _ _ h => h) (Or.inl ⟨by rfl, ?y41⟩) (by assumption) ?r41
                case y41 => (intro W hSw; (try dsimp only at hSw); go_simp; try with_reducible rfl)
                (try simp only [Act.put, List.setIfInBounds_toArray, List.set_cons_zero, List.set_cons_succ])
                refine wpAnyH_takeL (i := 5) (v := ?v42) rfl (by kernel_rfl) (by kernel_rfl) (by kernel_rfl) (fun _ _ _ h => h) (Or.inl ⟨by rfl, ?y42⟩) (by assumption) ?r42
                case y42 => (intro W hSw; (try dsimp only at hSw); go_simp; try with_reducible rfl)
                (try simp only [Act.put, List.setIfInBounds_toArray, List.set_cons_zero, List.set_cons_succ])
                refine wpAnyH_ready (rs := [6]) (by kernel_rfl) (by simp) ?_
                refine consL rfl (fun K hK => ?_) AllReadyH.nil
                (refine step_append_en _ (by rfl) _ _ 28 (by rfl) (w.heap.size + 3) 84 i0 (.agg #[.int .u64 0, .int .u64 0, .string ⟨#[]⟩]) 32 Try.underlying28 hi0 hz0 hz1 hz2 rfl (.slice A6 n6 c6) ((m.take 0) ++ [(⟨i, u, s⟩ : En)]) (by rfl) (hrow7.below (Below.refl _ _).drew) (LoV w.heap.size) (some ⟨b1, o1, o2⟩) 0 0 (m.drop 0) (by rfl) (by rw [List.length_drop]; have := HML.out; omega) (fun _ => rfl) (by rw [List.length_drop]; have := HML.out; omega) hl3 (by unfold maxLen; omega) (by omega) hsz7 ?_; intro A8 n8 c8 w8 h8 hrow8 hg8; have hf8 := hF8 w8 hg8; have hS9 := hS8 w8 hg8; have g58 := hS9.2)
                refine hK.out _ _ (hS9) (fun hHeld => ?_)
                clear hK K
                (try simp only [Act.put, List.setIfInBounds_toArray, List.set_cons_zero, List.set_cons_succ])
                refine wpAnyH_takeL (i := 7) (v := ?v43) rfl (by kernel_rfl) (by kernel_rfl) (by kernel_rfl) (fun _ _ _ h => h) (Or.inl ⟨by rfl, ?y43⟩) (by assumption) ?r43
                case y43 => (intro W hSw; (try dsimp only at hSw); go_simp; try with_reducible rfl)
                (try simp only [Act.put, List.setIfInBounds_toArray, List.set_cons_zero, List.set_cons_succ])
                refine wpAnyH_done (by kernel_rfl) ?_ _
                refine lastQ_of rfl (fun K hK => ?_)
                go_simp
                refine hK.out _ _ ?_
                clear hK K
                have hb19 := (Below.heap_setCell w8 ⟨w.heap.size + 1 + 1, 5, none⟩ (.slice A8 n8 c8) (w.heap.size + 1) (by simp)).trans ((HL8.out w8 hg8 _ (by omega)).trans hb17.out)
                have hb29 := six_set5 ((HL8.out w8 hg8 _ (by omega)).trans hb27.out) (.slice A8 n8 c8)
                have hW9 := (hW7.trans ((Below.refl _ _).drew.grown hg8 (Nat.le_trans (Nat.le_add_right _ 3) hsz7) (fun j ej => Nat.le_trans (by omega) (hcub7 j ej)))).setCell (p := ⟨w.heap.size + 1 + 1, 5, none⟩) (by simp; omega) (.slice A8 n8 c8)
                have hrow9 : RowE (w8.setCell ⟨w.heap.size + 1 + 1, 5, none⟩ (.slice A8 n8 c8)) (w.heap.size + 3) 84 (.slice A8 n8 c8) (((m.take 0) ++ [(⟨i, u, s⟩ : En)]) ++ m.drop 0) := own_keptv hrow8 (fun b h1 _ => Below.heap_setCell _ _ _ b (by simp; omega))
                clear hf8 g58
                generalize w8.setCell ⟨w.heap.size + 1 + 1, 5, none⟩ (.slice A8 n8 c8) = w9 at *
                obtain ⟨q0, q1, q2, q3, q4, q5⟩ := six hb19
                obtain ⟨z0, z1, z2, z3, z4, z5⟩ := six hb29
                have hf1 := blk_frozen hb19
                replace hb19 := Lib.hid hb19
                replace hb29 := Lib.hid hb29
                go_wp2_with fail
                all_goals
                  refine bodyPost_ret (v := .agg #[.int .i64 k, .int .i64 n, .int .i64 ix, .int .u64 0, .string ⟨#[]⟩, .slice A8 n8 c8]) (by simp [results, Try.results62, go_sem, q0, q1, q2, q3, q4, q5]) rfl ?_
                  obtain ⟨e1, e2, e3⟩ := h8.out
                  have hm := set6_below (N := w.heap.size + 1) hW9 (Nat.le_succ w.heap.size) (.int .i64 k) (.int .i64 n) (.int .i64 ix) (.int .u64 0) (.string ⟨#[]⟩) (.slice A8 n8 c8)
                  have HPf := HPut.out
                  rw [hnew] at HPf
                  simp only [Bool.false_eq_true, if_false] at HPf hrow9 e1
                  have Hokf := Hok.out
                  rw [HPf] at Hokf ⊢
                  subst e1
                  refine ⟨_, rfl, VaV.mk Hokf e2 e3 (hrow9.list.to (fun b hb => ⟨⟨by have := hb.1; omega, by rw [set6_size]; exact hb.2⟩, set6_heap _ _ _ _ _ _ (by have := hb.1; omega)⟩)), hm⟩
              · have gs : decide (0 < (s.size : Int)) = false := decide_eq_false (by omega)
                have hnew : newE i u s = [] := by unfold newE; rw [show (s.size == 0) = true by rw [beq_iff_eq]; omega, huz]; rfl
                clear huz
                have p50 := (six hb0).2.2.2.2.2
                have g51 := (six hb2).2.2.2.2.2
                have hf51 := blk_frozen hb2 5
                replace hb0 := Lib.hid hb0
                replace hb1 := Lib.hid hb1
                replace hb2 := Lib.hid hb2
                have HWr := Lib.hid hW
                go_wp2_with fail
                have hb07 := hb0.out
                have hb17 := hb1.out
                have hb27 := hb2.out
                have hW7 := HWr.out
                have hsz7 := hsz
                have hrow7 := hrow
                have hl7 : (m.take 0).length ≤ 100001 := by rw [hjl]; omega
                clear p50 g51 hf51 hb0 hb1 hb2 hrow hW hsz
                obtain ⟨w7, rfl⟩ : ∃ w7, w7 = wr := ⟨_, rfl⟩
                have hl3 := (show EnL w7.drew (LoV w.heap.size) (m.drop 0) (some ⟨b1, o1, o2⟩) from .inl (by have := HML.out; exact List.drop_eq_nil_of_le (by omega)))
                have p57 := (six hb07).2.2.2.2.2
                have g57 := (six hb27).2.2.2.2.2
                have hcub7 : ∀ b, ((cu) : Value).ownBlock = some b → w.heap.size + 3 ≤ b := hrow7.blk
                have HL8 : ∀ w8, (w7.drew).grownBy w8 ((cu) : Value).ownBlock → ∀ B, B < w.heap.size + 3 → w8.heap[B]? = w7.heap[B]? := fun w8 hg B hB => (show w8.heap[B]? = w7.drew.heap[B]? from grown_lowv (w1 := w7.drew) hg hcub7 hB hsz7)
                have hS1 : w7.drew.cell? ⟨w.heap.size, 5, none⟩ = some (.slice (some ⟨b1, o1, o2⟩) 0 0) ∧ w7.drew.cell? ⟨w.heap.size + 1 + 1, 5, none⟩ = some (cu) := ⟨p57, g57⟩
                have hS8 := fun (w8 : World) (hg : (w7.drew).grownBy w8 ((cu) : Value).ownBlock) => (show w8.cell? ⟨w.heap.size, 5, none⟩ = some (.slice (some ⟨b1, o1, o2⟩) 0 0) ∧ w8.cell? ⟨w.heap.size + 1 + 1, 5, none⟩ = some (cu) from ⟨(World.cell?_of_block (a := ⟨w.heap.size, 5, none⟩) (HL8 w8 hg w.heap.size (by omega))).trans p57, (World.cell?_of_block (a := ⟨w.heap.size + 1 + 1, 5, none⟩) (HL8 w8 hg (w.heap.size + 1 + 1) (by omega))).trans g57⟩)
                have hF8 := fun (w8 : World) (hg : (w7.drew).grownBy w8 ((cu) : Value).ownBlock) => blk_frozen ((HL8 w8 hg (w.heap.size + 1 + 1) (by omega)).trans hb27) 5
                replace HL8 := Lib.hid HL8
                replace hb07 := Lib.hid hb07
                replace hb17 := Lib.hid hb17
                replace hb27 := Lib.hid hb27
                refine region_lastp (fun W => W.cell? ⟨w.heap.size, 5, none⟩ = some (.slice (some ⟨b1, o1, o2⟩) 0 0) ∧ W.cell? ⟨w.heap.size + 1 + 1, 5, none⟩ = some (cu)) (by kernel_rfl) rfl (by kernel_rfl) ?_
                (try simp only [List.pop_toArray, List.dropLast_cons_cons, List.dropLast_singleton, List.size_toArray, List.length_cons, List.length_nil, Nat.zero_add, Nat.reduceAdd])
                refine wpAnyH_takeL (i := 0) (v := ?v44) rfl (by kernel_rfl) (by kernel_rfl) (by kernel_rfl) (fun _ _ _ h => h) (Or.inl ⟨by rfl, ?y44⟩) (by assumption) ?r44
                case y44 => (intro W hSw; (try dsimp only at hSw); go_simp; try with_reducible rfl)
                (try simp only [Act.put, List.setIfInBounds_toArray, List.set_cons_zero, List.set_cons_succ])
                refine wpAnyH_takeL (i := 1) (v := ?v45) rfl (by kernel_rfl) (by kernel_rfl) (by kernel_rfl) (fun _ _ _ h => h) (Or.inl ⟨by rfl, ?y45⟩) (by assumption) ?r45
                case y45 => (intro W hSw; (try dsimp only at hSw); go_simp; try with_reducible rfl)
                (try simp only [Act.put, List.setIfInBounds_toArray, List.set_cons_zero, List.set_cons_succ])
                refine wpAnyH_takeL (i := 2) (v := ?v46) rfl (by kernel_rfl) (by kernel_rfl) (by kernel_rfl) (fun _ _ _ h => h) (Or.inl ⟨by rfl, ?y46⟩) (by assumption) ?r46
                case y46 => (intro W hSw; (try dsimp only at hSw); go_simp; try with_reducible rfl)
                (try simp only [Act.put, List.setIfInBounds_toArray, List.set_cons_zero, List.set_cons_succ])
                refine wpAnyH_takeL (i := 3) (v := ?v47) rfl (by kernel_rfl) (by kernel_rfl) (by kernel_rfl) (fun _ _ _ h => h) (Or.inl ⟨by rfl, ?y47⟩) (by assumption) ?r47
                case y47 => (intro W hSw; (try dsimp only at hSw); go_simp; try with_reducible rfl)
                (try simp only [Act.put, List.setIfInBounds_toArray, List.set_cons_zero, List.set_cons_succ])
                refine wpAnyH_takeL (i := 4) (v := ?v48) rfl (by kernel_rfl) (by kernel_rfl) (by kernel_rfl) (fun _ _ _ h => h) (Or.inl ⟨by rfl, ?y48⟩) (by assumption) ?r48
                case y48 => (intro W hSw; (try dsimp only at hSw); go_simp; try with_reducible rfl)
                (try simp only [Act.put, List.setIfInBounds_toArray, List.set_cons_zero, List.set_cons_succ])
                refine wpAnyH_takeL (i := 5) (v := ?v49) rfl (by kernel_rfl) (by kernel_rfl) (by kernel_rfl) (fun _ _ _ h => h) (Or.inl ⟨by rfl, ?y49⟩) (by assumption) ?r49
                case y49 => (intro W hSw; (try dsimp only at hSw); go_simp; try with_reducible rfl)
                (try simp only [Act.put, List.setIfInBounds_toArray, List.set_cons_zero, List.set_cons_succ])
                refine wpAnyH_ready (rs := [6]) (by kernel_rfl) (by simp) ?_
                refine consL rfl (fun K hK => ?_) AllReadyH.nil
                (refine step_append_en _ (by rfl) _ _ 28 (by rfl) (w.heap.size + 3) 84 i0 (.agg #[.int .u64 0, .int .u64 0, .string ⟨#[]⟩]) 32 Try.underlying28 hi0 hz0 hz1 hz2 rfl (cu) (m.take 0) (by rfl) (hrow7.below (Below.refl _ _).drew) (LoV w.heap.size) (some ⟨b1, o1, o2⟩) 0 0 (m.drop 0) (by rfl) (by rw [List.length_drop]; have := HML.out; omega) (fun _ => rfl) (by rw [List.length_drop]; have := HML.out; omega) hl3 (by unfold maxLen; omega) (by omega) hsz7 ?_; intro A8 n8 c8 w8 h8 hrow8 hg8; have hf8 := hF8 w8 hg8; have hS9 := hS8 w8 hg8; have g58 := hS9.2)
                refine hK.out _ _ (hS9) (fun hHeld => ?_)
                clear hK K
                (try simp only [Act.put, List.setIfInBounds_toArray, List.set_cons_zero, List.set_cons_succ])
                refine wpAnyH_takeL (i := 7) (v := ?v50) rfl (by kernel_rfl) (by kernel_rfl) (by kernel_rfl) (fun _ _ _ h => h) (Or.inl ⟨by rfl, ?y50⟩) (by assumption) ?r50
                case y50 => (intro W hSw; (try dsimp only at hSw); go_simp; try with_reducible rfl)
                (try simp only [Act.put, List.setIfInBounds_toArray, List.set_cons_zero, List.set_cons_succ])
                refine wpAnyH_done (by kernel_rfl) ?_ _
                refine lastQ_of rfl (fun K hK => ?_)
                go_simp
                refine hK.out _ _ ?_
                clear hK K
                have hb19 := (Below.heap_setCell w8 ⟨w.heap.size + 1 + 1, 5, none⟩ (.slice A8 n8 c8) (w.heap.size + 1) (by simp)).trans ((HL8.out w8 hg8 _ (by omega)).trans hb17.out)
                have hb29 := six_set5 ((HL8.out w8 hg8 _ (by omega)).trans hb27.out) (.slice A8 n8 c8)
                have hW9 := (hW7.trans ((Below.refl _ _).drew.grown hg8 (Nat.le_trans (Nat.le_add_right _ 3) hsz7) (fun j ej => Nat.le_trans (by omega) (hcub7 j ej)))).setCell (p := ⟨w.heap.size + 1 + 1, 5, none⟩) (by simp; omega) (.slice A8 n8 c8)
                have hrow9 : RowE (w8.setCell ⟨w.heap.size + 1 + 1, 5, none⟩ (.slice A8 n8 c8)) (w.heap.size + 3) 84 (.slice A8 n8 c8) ((m.take 0) ++ m.drop 0) := own_keptv hrow8 (fun b h1 _ => Below.heap_setCell _ _ _ b (by simp; omega))
                clear hf8 g58
                generalize w8.setCell ⟨w.heap.size + 1 + 1, 5, none⟩ (.slice A8 n8 c8) = w9 at *
                obtain ⟨q0, q1, q2, q3, q4, q5⟩ := six hb19
                obtain ⟨z0, z1, z2, z3, z4, z5⟩ := six hb29
                have hf1 := blk_frozen hb19
                replace hb19 := Lib.hid hb19
                replace hb29 := Lib.hid hb29
                go_wp2_with fail
                all_goals
                  refine bodyPost_ret (v := .agg #[.int .i64 k, .int .i64 n, .int .i64 ix, .int .u64 0, .string ⟨#[]⟩, .slice A8 n8 c8]) (by simp [results, Try.results62, go_sem, q0, q1, q2, q3, q4, q5]) rfl ?_
                  obtain ⟨e1, e2, e3⟩ := h8.out
                  have hm := set6_below (N := w.heap.size + 1) hW9 (Nat.le_succ w.heap.size) (.int .i64 k) (.int .i64 n) (.int .i64 ix) (.int .u64 0) (.string ⟨#[]⟩) (.slice A8 n8 c8)
                  have HPf := HPut.out
                  rw [hnew] at HPf
                  simp only [Bool.false_eq_true, if_false, List.append_nil] at HPf hrow9 e1
                  have Hokf := Hok.out
                  rw [HPf] at Hokf ⊢
                  subst e1
                  refine ⟨_, rfl, VaV.mk Hokf e2 e3 (hrow9.list.to (fun b hb => ⟨⟨by have := hb.1; omega, by rw [set6_size]; exact hb.2⟩, set6_heap _ _ _ _ _ _ (by have := hb.1; omega)⟩)), hm⟩

          · have hc2 : (0 : Int) < (c : Int) := by omega
            have hc3 : ¬ 0 = c := by omega
            by_cases hu0 : 0 < u
            · have gu : decide (0 < u) = true := decide_eq_true hu0
              have hnew : newE i u s = [⟨i, u, s⟩] := by unfold newE; rw [show (u == 0) = false by simp; omega]; rfl
              have HRn : RowE (wr.alloc (.cells #[.int .u64 i, .int .u64 u, .string s] 84)) (w.heap.size + 3) 84 cu (m.take 0) := hrow.below ((Below.refl _ _).alloc (Nat.le_refl _) _)
              have HNn : EnL (wr.alloc (.cells #[.int .u64 i, .int .u64 u, .string s] 84)) (fun _ => True) [⟨i, u, s⟩] (some ⟨wr.heap.size, 0, none⟩) := enl_one (heap_alloc_new wr (.cells #[.int .u64 i, .int .u64 u, .string s] 84)) trivial
              have HBn : w.heap.size + 3 ≤ (wr.alloc (.cells #[.int .u64 i, .int .u64 u, .string s] 84)).heap.size := by simp; omega
              have HLn : ∀ w6, (wr.alloc (.cells #[.int .u64 i, .int .u64 u, .string s] 84)).grownBy w6 cu.ownBlock → ∀ B, B < w.heap.size + 3 → w6.heap[B]? = wr.heap[B]? := fun w6 hg B hB => (grown_lowv hg hcub hB HBn).trans (Below.heap_alloc wr _ B (by omega))
              have HWn : ∀ w6, (wr.alloc (.cells #[.int .u64 i, .int .u64 u, .string s] 84)).grownBy w6 cu.ownBlock → Below w.heap.size w w6 := fun w6 hg => hW.trans (((Below.refl _ _).alloc (Nat.le_trans (Nat.le_add_right _ 3) hsz) _).grown hg (by simp; omega) (fun j ej => Nat.le_trans (by omega) (hcub j ej)))
              have HZn : ∀ w6, (wr.alloc (.cells #[.int .u64 i, .int .u64 u, .string s] 84)).grownBy w6 cu.ownBlock → w.heap.size + 3 ≤ w6.heap.size := fun w6 hg => by have := hg.size; simp at this; omega
              have g50 := (cell_oldv (w := wr) (B := w.heap.size + 1 + 1) (i := 5) (by omega) (.cells #[.int .u64 i, .int .u64 u, .string s] 84)).trans (six hb2).2.2.2.2.2
              have p50 := (six hb0).2.2.2.2.2
              have g51 := (six hb2).2.2.2.2.2
              have hf51 := blk_frozen hb2 5
              replace hb0 := Lib.hid hb0
              replace hb1 := Lib.hid hb1
              replace hb2 := Lib.hid hb2
              have HWr := Lib.hid hW
              replace HLn := Lib.hid HLn
              replace HWn := Lib.hid HWn
              replace HZn := Lib.hid HZn
              replace hjl := Lib.hid hjl
              go_wp2_with (at_builtin; refine wpList_append_en _ rfl _ _ 28 rfl (w.heap.size + 3) 84 i0 (.agg #[.int .u64 0, .int .u64 0, .string ⟨#[]⟩]) 32 Try.underlying28 hi0 hz0 hz1 hz2 rfl cu (m.take 0) rfl HRn (fun _ => True) (some ⟨wr.heap.size, 0, none⟩) 1 1 [⟨i, u, s⟩] rfl rfl (fun h => by cases h) (Nat.le_refl _) HNn (by rw [hjl.out]; unfold maxLen; omega) (by rw [hjl.out]; omega) HBn ?_; intro A6 n6 c6 w6 h6 hrow6 hg6; have hl6 := HLn.out w6 hg6; have hf6 := blk_frozen ((hl6 _ (by omega)).trans hb2.out) 5; have g56 := (six ((hl6 _ (by omega)).trans hb2.out)).2.2.2.2.2; have p57 := (World.cell?_of_block (a := ⟨w.heap.size, 5, none⟩) ((Below.heap_setCell w6 ⟨w.heap.size + 1 + 1, 5, none⟩ (.slice A6 n6 c6) w.heap.size (by simp; omega)).trans (hl6 _ (by omega)))).trans p50; replace hl6 := Lib.hid hl6)
              have hb07 := (Below.heap_setCell w6 ⟨w.heap.size + 1 + 1, 5, none⟩ (.slice A6 n6 c6) w.heap.size (by simp; omega)).trans ((hl6.out _ (by omega)).trans hb0.out)
              have hb17 := (Below.heap_setCell w6 ⟨w.heap.size + 1 + 1, 5, none⟩ (.slice A6 n6 c6) (w.heap.size + 1) (by simp)).trans ((hl6.out _ (by omega)).trans hb1.out)
              have hb27 := six_set5 ((hl6.out _ (by omega)).trans hb2.out) (.slice A6 n6 c6)
              have hW7 := (HWn.out w6 hg6).setCell (p := ⟨w.heap.size + 1 + 1, 5, none⟩) (by simp; omega) (.slice A6 n6 c6)
              have hsz7 : w.heap.size + 3 ≤ (w6.setCell ⟨w.heap.size + 1 + 1, 5, none⟩ (.slice A6 n6 c6)).heap.size := by have := HZn.out w6 hg6; simpa [World.setCell] using this
              have hrow7 : RowE (w6.setCell ⟨w.heap.size + 1 + 1, 5, none⟩ (.slice A6 n6 c6)) (w.heap.size + 3) 84 (.slice A6 n6 c6) ((m.take 0) ++ [(⟨i, u, s⟩ : En)]) := own_keptv hrow6 (fun b h1 _ => Below.heap_setCell _ _ _ b (by simp; omega))
              clear p50 g50 g51 hf51 hf6 g56 p57
              generalize w6.setCell ⟨w.heap.size + 1 + 1, 5, none⟩ (.slice A6 n6 c6) = w7 at *
              have hl7 : ((m.take 0) ++ [(⟨i, u, s⟩ : En)]).length ≤ 100001 := by rw [List.length_append, hjl.out, List.length_singleton]; omega
              have hl3 := (show EnL w7.drew (LoV w.heap.size) (m.drop 0) (some ⟨b1, o1, o2⟩) from .inl (by have := HML.out; exact List.drop_eq_nil_of_le (by omega)))
              have p57 := (six hb07).2.2.2.2.2
              have g57 := (six hb27).2.2.2.2.2
              have hcub7 : ∀ b, ((.slice A6 n6 c6) : Value).ownBlock = some b → w.heap.size + 3 ≤ b := hrow7.blk
              have HL8 : ∀ w8, (w7.drew).grownBy w8 ((.slice A6 n6 c6) : Value).ownBlock → ∀ B, B < w.heap.size + 3 → w8.heap[B]? = w7.heap[B]? := fun w8 hg B hB => (show w8.heap[B]? = w7.drew.heap[B]? from grown_lowv (w1 := w7.drew) hg hcub7 hB hsz7)
              have hS1 : w7.drew.cell? ⟨w.heap.size, 5, none⟩ = some (.slice (some ⟨b1, o1, o2⟩) 0 c) ∧ w7.drew.cell? ⟨w.heap.size + 1 + 1, 5, none⟩ = some (.slice A6 n6 c6) := ⟨p57, g57⟩
              have hS8 := fun (w8 : World) (hg : (w7.drew).grownBy w8 ((.slice A6 n6 c6) : Value).ownBlock) => (show w8.cell? ⟨w.heap.size, 5, none⟩ = some (.slice (some ⟨b1, o1, o2⟩) 0 c) ∧ w8.cell? ⟨w.heap.size + 1 + 1, 5, none⟩ = some (.slice A6 n6 c6) from ⟨(World.cell?_of_block (a := ⟨w.heap.size, 5, none⟩) (HL8 w8 hg w.heap.size (by omega))).trans p57, (World.cell?_of_block (a := ⟨w.heap.size + 1 + 1, 5, none⟩) (HL8 w8 hg (w.heap.size + 1 + 1) (by omega))).trans g57⟩)
              have hF8 := fun (w8 : World) (hg : (w7.drew).grownBy w8 ((.slice A6 n6 c6) : Value).ownBlock) => blk_frozen ((HL8 w8 hg (w.heap.size + 1 + 1) (by omega)).trans hb27) 5
              replace HL8 := Lib.hid HL8
              replace hb07 := Lib.hid hb07
              replace hb17 := Lib.hid hb17
              replace hb27 := Lib.hid hb27
              refine region_lastp (fun W => W.cell? ⟨w.heap.size, 5, none⟩ = some (.slice (some ⟨b1, o1, o2⟩) 0 c) ∧ W.cell? ⟨w.heap.size + 1 + 1, 5, none⟩ = some (.slice A6 n6 c6)) (by kernel_rfl) rfl (by kernel_rfl) ?_
              (try simp only [List.pop_toArray, List.dropLast_cons_cons, List.dropLast_singleton, List.size_toArray, List.length_cons, List.length_nil, Nat.zero_add, Nat.reduceAdd])
              refine wpAnyH_takeL (i := 0) (v := ?v51) rfl (by kernel_rfl) (by kernel_rfl) (by kernel_rfl) (fun _ _ _ h => h) (Or.inl ⟨by rfl, ?y51⟩) (by assumption) ?r51
              case y51 => (intro W hSw; (try dsimp only at hSw); go_simp; try with_reducible rfl)
              (try simp only [Act.put, List.setIfInBounds_toArray, List.set_cons_zero, List.set_cons_succ])
              refine wpAnyH_takeL (i := 1) (v := ?v52) rfl (by kernel_rfl) (by kernel_rfl) (by kernel_rfl) (fun _ _ _ h => h) (Or.inl ⟨by rfl, ?y52⟩) (by assumption) ?r52
              case y52 => (intro W hSw; (try dsimp only at hSw); go_simp; try with_reducible rfl)
              (try simp only [Act.put, List.setIfInBounds_toArray, List.set_cons_zero, List.set_cons_succ])
              refine wpAnyH_takeL (i := 2) (v := ?v53) rfl (by kernel_rfl) (by kernel_rfl) (by kernel_rfl) (fun _ _ _ h => h) (Or.inl ⟨by rfl, ?y53⟩) (by assumption) ?r53
              case y53 => (intro W hSw; (try dsimp only at hSw); go_simp; try with_reducible rfl)
              (try simp only [Act.put, List.setIfInBounds_toArray, List.set_cons_zero, List.set_cons_succ])
              refine wpAnyH_takeL (i := 3) (v := ?v54) rfl (by kernel_rfl) (by kernel_rfl) (by kernel_rfl) (fun _ _ _ h => h) (Or.inl ⟨by rfl, ?y54⟩) (by assumption) ?r54
              case y54 => (intro W hSw; (try dsimp only at hSw); go_simp; try with_reducible rfl)
              (try simp only [Act.put, List.setIfInBounds_toArray, List.set_cons_zero, List.set_cons_succ])
              refine wpAnyH_takeL (i := 4) (v := ?v55) rfl (by kernel_rfl) (by kernel_rfl) (by kernel_rfl) (fun _ _ _ h => h) (Or.inl ⟨by rfl, ?y55⟩) (by assumption) ?r55
              case y55 => (intro W hSw; (try dsimp only at hSw); go_simp; try with_reducible rfl)
              (try simp only [Act.put, List.setIfInBounds_toArray, List.set_cons_zero, List.set_cons_succ])
              refine wpAnyH_takeL (i := 5) (v := ?v56) rfl (by kernel_rfl) (by kernel_rfl) (by kernel_rfl) (fun _ _ _ h => h) (Or.inl ⟨by rfl, ?y56⟩) (by assumption) ?r56
              case y56 => (intro W hSw; (try dsimp only at hSw); go_simp; try with_reducible rfl)
              (try simp only [Act.put, List.setIfInBounds_toArray, List.set_cons_zero, List.set_cons_succ])
              refine wpAnyH_ready (rs := [6]) (by kernel_rfl) (by simp) ?_
              refine consL rfl (fun K hK => ?_) AllReadyH.nil
              (refine step_append_en _ (by rfl) _ _ 28 (by rfl) (w.heap.size + 3) 84 i0 (.agg #[.int .u64 0, .int .u64 0, .string ⟨#[]⟩]) 32 Try.underlying28 hi0 hz0 hz1 hz2 rfl (.slice A6 n6 c6) ((m.take 0) ++ [(⟨i, u, s⟩ : En)]) (by rfl) (hrow7.below (Below.refl _ _).drew) (LoV w.heap.size) (some ⟨b1, o1, o2⟩) 0 c (m.drop 0) (by rfl) (by rw [List.length_drop]; have := HML.out; omega) (fun h => by cases h) (by rw [List.length_drop]; have := HML.out; omega) hl3 (by unfold maxLen; omega) (by omega) hsz7 ?_; intro A8 n8 c8 w8 h8 hrow8 hg8; have hf8 := hF8 w8 hg8; have hS9 := hS8 w8 hg8; have g58 := hS9.2)
              refine hK.out _ _ (hS9) (fun hHeld => ?_)
              clear hK K
              (try simp only [Act.put, List.setIfInBounds_toArray, List.set_cons_zero, List.set_cons_succ])
              refine wpAnyH_takeL (i := 7) (v := ?v57) rfl (by kernel_rfl) (by kernel_rfl) (by kernel_rfl) (fun _ _ _ h => h) (Or.inl ⟨by rfl, ?y57⟩) (by assumption) ?r57
              case y57 => (intro W hSw; (try dsimp only at hSw); go_simp; try with_reducible rfl)
              (try simp only [Act.put, List.setIfInBounds_toArray, List.set_cons_zero, List.set_cons_succ])
              refine wpAnyH_done (by kernel_rfl) ?_ _
              refine lastQ_of rfl (fun K hK => ?_)
              go_simp
              refine hK.out _ _ ?_
              clear hK K
              have hb19 := (Below.heap_setCell w8 ⟨w.heap.size + 1 + 1, 5, none⟩ (.slice A8 n8 c8) (w.heap.size + 1) (by simp)).trans ((HL8.out w8 hg8 _ (by omega)).trans hb17.out)
              have hb29 := six_set5 ((HL8.out w8 hg8 _ (by omega)).trans hb27.out) (.slice A8 n8 c8)
              have hW9 := (hW7.trans ((Below.refl _ _).drew.grown hg8 (Nat.le_trans (Nat.le_add_right _ 3) hsz7) (fun j ej => Nat.le_trans (by omega) (hcub7 j ej)))).setCell (p := ⟨w.heap.size + 1 + 1, 5, none⟩) (by simp; omega) (.slice A8 n8 c8)
              have hrow9 : RowE (w8.setCell ⟨w.heap.size + 1 + 1, 5, none⟩ (.slice A8 n8 c8)) (w.heap.size + 3) 84 (.slice A8 n8 c8) (((m.take 0) ++ [(⟨i, u, s⟩ : En)]) ++ m.drop 0) := own_keptv hrow8 (fun b h1 _ => Below.heap_setCell _ _ _ b (by simp; omega))
              clear hf8 g58
              generalize w8.setCell ⟨w.heap.size + 1 + 1, 5, none⟩ (.slice A8 n8 c8) = w9 at *
              obtain ⟨q0, q1, q2, q3, q4, q5⟩ := six hb19
              obtain ⟨z0, z1, z2, z3, z4, z5⟩ := six hb29
              have hf1 := blk_frozen hb19
              replace hb19 := Lib.hid hb19
              replace hb29 := Lib.hid hb29
              go_wp2_with fail
              all_goals
                refine bodyPost_ret (v := .agg #[.int .i64 k, .int .i64 n, .int .i64 ix, .int .u64 0, .string ⟨#[]⟩, .slice A8 n8 c8]) (by simp [results, Try.results62, go_sem, q0, q1, q2, q3, q4, q5]) rfl ?_
                obtain ⟨e1, e2, e3⟩ := h8.out
                have hm := set6_below (N := w.heap.size + 1) hW9 (Nat.le_succ w.heap.size) (.int .i64 k) (.int .i64 n) (.int .i64 ix) (.int .u64 0) (.string ⟨#[]⟩) (.slice A8 n8 c8)
                have HPf := HPut.out
                rw [hnew] at HPf
                simp only [Bool.false_eq_true, if_false] at HPf hrow9 e1
                have Hokf := Hok.out
                rw [HPf] at Hokf ⊢
                subst e1
                refine ⟨_, rfl, VaV.mk Hokf e2 e3 (hrow9.list.to (fun b hb => ⟨⟨by have := hb.1; omega, by rw [set6_size]; exact hb.2⟩, set6_heap _ _ _ _ _ _ (by have := hb.1; omega)⟩)), hm⟩
            · have gu : decide (0 < u) = false := decide_eq_false hu0
              have huz : u = 0 := by have := hu.out.1; omega
              by_cases hs0 : 0 < s.size
              · have gs : decide (0 < (s.size : Int)) = true := decide_eq_true (by omega)
                have hnew : newE i u s = [⟨i, u, s⟩] := by unfold newE; rw [show (s.size == 0) = false by rw [beq_eq_false_iff_ne]; omega, Bool.and_false]; rfl
                clear huz
                have HRn : RowE (wr.alloc (.cells #[.int .u64 i, .int .u64 u, .string s] 84)) (w.heap.size + 3) 84 cu (m.take 0) := hrow.below ((Below.refl _ _).alloc (Nat.le_refl _) _)
                have HNn : EnL (wr.alloc (.cells #[.int .u64 i, .int .u64 u, .string s] 84)) (fun _ => True) [⟨i, u, s⟩] (some ⟨wr.heap.size, 0, none⟩) := enl_one (heap_alloc_new wr (.cells #[.int .u64 i, .int .u64 u, .string s] 84)) trivial
                have HBn : w.heap.size + 3 ≤ (wr.alloc (.cells #[.int .u64 i, .int .u64 u, .string s] 84)).heap.size := by simp; omega
                have HLn : ∀ w6, (wr.alloc (.cells #[.int .u64 i, .int .u64 u, .string s] 84)).grownBy w6 cu.ownBlock → ∀ B, B < w.heap.size + 3 → w6.heap[B]? = wr.heap[B]? := fun w6 hg B hB => (grown_lowv hg hcub hB HBn).trans (Below.heap_alloc wr _ B (by omega))
                have HWn : ∀ w6, (wr.alloc (.cells #[.int .u64 i, .int .u64 u, .string s] 84)).grownBy w6 cu.ownBlock → Below w.heap.size w w6 := fun w6 hg => hW.trans (((Below.refl _ _).alloc (Nat.le_trans (Nat.le_add_right _ 3) hsz) _).grown hg (by simp; omega) (fun j ej => Nat.le_trans (by omega) (hcub j ej)))
                have HZn : ∀ w6, (wr.alloc (.cells #[.int .u64 i, .int .u64 u, .string s] 84)).grownBy w6 cu.ownBlock → w.heap.size + 3 ≤ w6.heap.size := fun w6 hg => by have := hg.size; simp at this; omega
                have g50 := (cell_oldv (w := wr) (B := w.heap.size + 1 + 1) (i := 5) (by omega) (.cells #[.int .u64 i, .int .u64 u, .string s] 84)).trans (six hb2).2.2.2.2.2
                have p50 := (six hb0).2.2.2.2.2
                have g51 := (six hb2).2.2.2.2.2
                have hf51 := blk_frozen hb2 5
                replace hb0 := Lib.hid hb0
                replace hb1 := Lib.hid hb1
                replace hb2 := Lib.hid hb2
                have HWr := Lib.hid hW
                replace HLn := Lib.hid HLn
                replace HWn := Lib.hid HWn
                replace HZn := Lib.hid HZn
                replace hjl := Lib.hid hjl
                go_wp2_with (at_builtin; refine wpList_append_en _ rfl _ _ 28 rfl (w.heap.size + 3) 84 i0 (.agg #[.int .u64 0, .int .u64 0, .string ⟨#[]⟩]) 32 Try.underlying28 hi0 hz0 hz1 hz2 rfl cu (m.take 0) rfl HRn (fun _ => True) (some ⟨wr.heap.size, 0, none⟩) 1 1 [⟨i, u, s⟩] rfl rfl (fun h => by cases h) (Nat.le_refl _) HNn (by rw [hjl.out]; unfold maxLen; omega) (by rw [hjl.out]; omega) HBn ?_; intro A6 n6 c6 w6 h6 hrow6 hg6; have hl6 := HLn.out w6 hg6; have hf6 := blk_frozen ((hl6 _ (by omega)).trans hb2.out) 5; have g56 := (six ((hl6 _ (by omega)).trans hb2.out)).2.2.2.2.2; have p57 := (World.cell?_of_block (a := ⟨w.heap.size, 5, none⟩) ((Below.heap_setCell w6 ⟨w.heap.size + 1 + 1, 5, none⟩ (.slice A6 n6 c6) w.heap.size (by simp; omega)).trans (hl6 _ (by omega)))).trans p50; replace hl6 := Lib.hid hl6)
                have hb07 := (Below.heap_setCell w6 ⟨w.heap.size + 1 + 1, 5, none⟩ (.slice A6 n6 c6) w.heap.size (by simp; omega)).trans ((hl6.out _ (by omega)).trans hb0.out)
                have hb17 := (Below.heap_setCell w6 ⟨w.heap.size + 1 + 1, 5, none⟩ (.slice A6 n6 c6) (w.heap.size + 1) (by simp)).trans ((hl6.out _ (by omega)).trans hb1.out)
                have hb27 := six_set5 ((hl6.out _ (by omega)).trans hb2.out) (.slice A6 n6 c6)
                have hW7 := (HWn.out w6 hg6).setCell (p := ⟨w.heap.size + 1 + 1, 5, none⟩) (by simp; omega) (.slice A6 n6 c6)
                have hsz7 : w.heap.size + 3 ≤ (w6.setCell ⟨w.heap.size + 1 + 1, 5, none⟩ (.slice A6 n6 c6)).heap.size := by have := HZn.out w6 hg6; simpa [World.setCell] using this
                have hrow7 : RowE (w6.setCell ⟨w.heap.size + 1 + 1, 5, none⟩ (.slice A6 n6 c6)) (w.heap.size + 3) 84 (.slice A6 n6 c6) ((m.take 0) ++ [(⟨i, u, s⟩ : En)]) := own_keptv hrow6 (fun b h1 _ => Below.heap_setCell _ _ _ b (by simp; omega))
                clear p50 g50 g51 hf51 hf6 g56 p57
                generalize w6.setCell ⟨w.heap.size + 1 + 1, 5, none⟩ (.slice A6 n6 c6) = w7 at *
                have hl7 : ((m.take 0) ++ [(⟨i, u, s⟩ : En)]).length ≤ 100001 := by rw [List.length_append, hjl.out, List.length_singleton]; omega
                have hl3 := (show EnL w7.drew (LoV w.heap.size) (m.drop 0) (some ⟨b1, o1, o2⟩) from .inl (by have := HML.out; exact List.drop_eq_nil_of_le (by omega)))
                have p57 := (six hb07).2.2.2.2.2
                have g57 := (six hb27).2.2.2.2.2
                have hcub7 : ∀ b, ((.slice A6 n6 c6) : Value).ownBlock = some b → w.heap.size + 3 ≤ b := hrow7.blk
                have HL8 : ∀ w8, (w7.drew).grownBy w8 ((.slice A6 n6 c6) : Value).ownBlock → ∀ B, B < w.heap.size + 3 → w8.heap[B]? = w7.heap[B]? := fun w8 hg B hB => (show w8.heap[B]? = w7.drew.heap[B]? from grown_lowv (w1 := w7.drew) hg hcub7 hB hsz7)
                have hS1 : w7.drew.cell? ⟨w.heap.size, 5, none⟩ = some (.slice (some ⟨b1, o1, o2⟩) 0 c) ∧ w7.drew.cell? ⟨w.heap.size + 1 + 1, 5, none⟩ = some (.slice A6 n6 c6) := ⟨p57, g57⟩
                have hS8 := fun (w8 : World) (hg : (w7.drew).grownBy w8 ((.slice A6 n6 c6) : Value).ownBlock) => (show w8.cell? ⟨w.heap.size, 5, none⟩ = some (.slice (some ⟨b1, o1, o2⟩) 0 c) ∧ w8.cell? ⟨w.heap.size + 1 + 1, 5, none⟩ = some (.slice A6 n6 c6) from ⟨(World.cell?_of_block (a := ⟨w.heap.size, 5, none⟩) (HL8 w8 hg w.heap.size (by omega))).trans p57, (World.cell?_of_block (a := ⟨w.heap.size + 1 + 1, 5, none⟩) (HL8 w8 hg (w.heap.size + 1 + 1) (by omega))).trans g57⟩)
                have hF8 := fun (w8 : World) (hg : (w7.drew).grownBy w8 ((.slice A6 n6 c6) : Value).ownBlock) => blk_frozen ((HL8 w8 hg (w.heap.size + 1 + 1) (by omega)).trans hb27) 5
                replace HL8 := Lib.hid HL8
                replace hb07 := Lib.hid hb07
                replace hb17 := Lib.hid hb17
                replace hb27 := Lib.hid hb27
                refine region_lastp (fun W => W.cell? ⟨w.heap.size, 5, none⟩ = some (.slice (some ⟨b1, o1, o2⟩) 0 c) ∧ W.cell? ⟨w.heap.size + 1 + 1, 5, none⟩ = some (.slice A6 n6 c6)) (by kernel_rfl) rfl (by kernel_rfl) ?_
                (try simp only [List.pop_toArray, List.dropLast_cons_cons, List.dropLast_singleton, List.size_toArray, List.length_cons, List.length_nil, Nat.zero_add, Nat.reduceAdd])
                refine wpAnyH_takeL (i := 0) (v := ?v58) rfl (by kernel_rfl) (by kernel_rfl) (by kernel_rfl) (fun _ _ _ h => h) (Or.inl ⟨by rfl, ?y58⟩) (by assumption) ?r58
                case y58 => (intro W hSw; (try dsimp only at hSw); go_simp; try with_reducible rfl)
                (try simp only [Act.put, List.setIfInBounds_toArray, List.set_cons_zero, List.set_cons_succ])
                refine wpAnyH_takeL (i := 1) (v := ?v59) rfl (by kernel_rfl) (by kernel_rfl) (by kernel_rfl) (fun _ _ _ h => h) (Or.inl ⟨by rfl, ?y59⟩) (by assumption) ?r59
                case y59 => (intro W hSw; (try dsimp only at hSw); go_simp; try with_reducible rfl)
                (try simp only [Act.put, List.setIfInBounds_toArray, List.set_cons_zero, List.set_cons_succ])
                refine wpAnyH_takeL (i := 2) (v := ?v60) rfl (by kernel_rfl) (by kernel_rfl) (by kernel_rfl) (fun _ _ _ h => h) (Or.inl ⟨by rfl, ?y60⟩) (by assumption) ?r60
                case y60 => (intro W hSw; (try dsimp only at hSw); go_simp; try with_reducible rfl)
                (try simp only [Act.put, List.setIfInBounds_toArray, List.set_cons_zero, List.set_cons_succ])
                refine wpAnyH_takeL (i := 3) (v := ?v61) rfl (by kernel_rfl) (by kernel_rfl) (by kernel_rfl) (fun _ _ _ h => h) (Or.inl ⟨by rfl, ?y61⟩) (by assumption) ?r61
                case y61 => (intro W hSw; (try dsimp only at hSw); go_simp; try with_reducible rfl)
                (try simp only [Act.put, List.setIfInBounds_toArray, List.set_cons_zero, List.set_cons_succ])
                refine wpAnyH_takeL (i := 4) (v := ?v62) rfl (by kernel_rfl) (by kernel_rfl) (by kernel_rfl) (fun _ _ _ h => h) (Or.inl ⟨by rfl, ?y62⟩) (by assumption) ?r62
                case y62 => (intro W hSw; (try dsimp only at hSw); go_simp; try with_reducible rfl)
                (try simp only [Act.put, List.setIfInBounds_toArray, List.set_cons_zero, List.set_cons_succ])
                refine wpAnyH_takeL (i := 5) (v := ?v63) rfl (by kernel_rfl) (by kernel_rfl) (by kernel_rfl) (fun _ _ _ h => h) (Or.inl ⟨by rfl, ?y63⟩) (by assumption) ?r63
                case y63 => (intro W hSw; (try dsimp only at hSw); go_simp; try with_reducible rfl)
                (try simp only [Act.put, List.setIfInBounds_toArray, List.set_cons_zero, List.set_cons_succ])
                refine wpAnyH_ready (rs := [6]) (by kernel_rfl) (by simp) ?_
                refine consL rfl (fun K hK => ?_) AllReadyH.nil
                (refine step_append_en _ (by rfl) _ _ 28 (by rfl) (w.heap.size + 3) 84 i0 (.agg #[.int .u64 0, .int .u64 0, .string ⟨#[]⟩]) 32 Try.underlying28 hi0 hz0 hz1 hz2 rfl (.slice A6 n6 c6) ((m.take 0) ++ [(⟨i, u, s⟩ : En)]) (by rfl) (hrow7.below (Below.refl _ _).drew) (LoV w.heap.size) (some ⟨b1, o1, o2⟩) 0 c (m.drop 0) (by rfl) (by rw [List.length_drop]; have := HML.out; omega) (fun h => by cases h) (by rw [List.length_drop]; have := HML.out; omega) hl3 (by unfold maxLen; omega) (by omega) hsz7 ?_; intro A8 n8 c8 w8 h8 hrow8 hg8; have hf8 := hF8 w8 hg8; have hS9 := hS8 w8 hg8; have g58 := hS9.2)
                refine hK.out _ _ (hS9) (fun hHeld => ?_)
                clear hK K
                (try simp only [Act.put, List.setIfInBounds_toArray, List.set_cons_zero, List.set_cons_succ])
                refine wpAnyH_takeL (i := 7) (v := ?v64) rfl (by kernel_rfl) (by kernel_rfl) (by kernel_rfl) (fun _ _ _ h => h) (Or.inl ⟨by rfl, ?y64⟩) (by assumption) ?r64
                case y64 => (intro W hSw; (try dsimp only at hSw); go_simp; try with_reducible rfl)
                (try simp only [Act.put, List.setIfInBounds_toArray, List.set_cons_zero, List.set_cons_succ])
                refine wpAnyH_done (by kernel_rfl) ?_ _
                refine lastQ_of rfl (fun K hK => ?_)
                go_simp
                refine hK.out _ _ ?_
                clear hK K
                have hb19 := (Below.heap_setCell w8 ⟨w.heap.size + 1 + 1, 5, none⟩ (.slice A8 n8 c8) (w.heap.size + 1) (by simp)).trans ((HL8.out w8 hg8 _ (by omega)).trans hb17.out)
                have hb29 := six_set5 ((HL8.out w8 hg8 _ (by omega)).trans hb27.out) (.slice A8 n8 c8)
                have hW9 := (hW7.trans ((Below.refl _ _).drew.grown hg8 (Nat.le_trans (Nat.le_add_right _ 3) hsz7) (fun j ej => Nat.le_trans (by omega) (hcub7 j ej)))).setCell (p := ⟨w.heap.size + 1 + 1, 5, none⟩) (by simp; omega) (.slice A8 n8 c8)
                have hrow9 : RowE (w8.setCell ⟨w.heap.size + 1 + 1, 5, none⟩ (.slice A8 n8 c8)) (w.heap.size + 3) 84 (.slice A8 n8 c8) (((m.take 0) ++ [(⟨i, u, s⟩ : En)]) ++ m.drop 0) := own_keptv hrow8 (fun b h1 _ => Below.heap_setCell _ _ _ b (by simp; omega))
                clear hf8 g58
                generalize w8.setCell ⟨w.heap.size + 1 + 1, 5, none⟩ (.slice A8 n8 c8) = w9 at *
                obtain ⟨q0, q1, q2, q3, q4, q5⟩ := six hb19
                obtain ⟨z0, z1, z2, z3, z4, z5⟩ := six hb29
                have hf1 := blk_frozen hb19
                replace hb19 := Lib.hid hb19
                replace hb29 := Lib.hid hb29
                go_wp2_with fail
                all_goals
                  refine bodyPost_ret (v := .agg #[.int .i64 k, .int .i64 n, .int .i64 ix, .int .u64 0, .string ⟨#[]⟩, .slice A8 n8 c8]) (by simp [results, Try.results62, go_sem, q0, q1, q2, q3, q4, q5]) rfl ?_
                  obtain ⟨e1, e2, e3⟩ := h8.out
                  have hm := set6_below (N := w.heap.size + 1) hW9 (Nat.le_succ w.heap.size) (.int .i64 k) (.int .i64 n) (.int .i64 ix) (.int .u64 0) (.string ⟨#[]⟩) (.slice A8 n8 c8)
                  have HPf := HPut.out
                  rw [hnew] at HPf
                  simp only [Bool.false_eq_true, if_false] at HPf hrow9 e1
                  have Hokf := Hok.out
                  rw [HPf] at Hokf ⊢
                  subst e1
                  refine ⟨_, rfl, VaV.mk Hokf e2 e3 (hrow9.list.to (fun b hb => ⟨⟨by have := hb.1; omega, by rw [set6_size]; exact hb.2⟩, set6_heap _ _ _ _ _ _ (by have := hb.1; omega)⟩)), hm⟩
              · have gs : decide (0 < (s.size : Int)) = false := decide_eq_false (by omega)
                have hnew : newE i u s = [] := by unfold newE; rw [show (s.size == 0) = true by rw [beq_iff_eq]; omega, huz]; rfl
                clear huz
                have p50 := (six hb0).2.2.2.2.2
                have g51 := (six hb2).2.2.2.2.2
                have hf51 := blk_frozen hb2 5
                replace hb0 := Lib.hid hb0
                replace hb1 := Lib.hid hb1
                replace hb2 := Lib.hid hb2
                have HWr := Lib.hid hW
                go_wp2_with fail
                have hb07 := hb0.out
                have hb17 := hb1.out
                have hb27 := hb2.out
                have hW7 := HWr.out
                have hsz7 := hsz
                have hrow7 := hrow
                have hl7 : (m.take 0).length ≤ 100001 := by rw [hjl]; omega
                clear p50 g51 hf51 hb0 hb1 hb2 hrow hW hsz
                obtain ⟨w7, rfl⟩ : ∃ w7, w7 = wr := ⟨_, rfl⟩
                have hl3 := (show EnL w7.drew (LoV w.heap.size) (m.drop 0) (some ⟨b1, o1, o2⟩) from .inl (by have := HML.out; exact List.drop_eq_nil_of_le (by omega)))
                have p57 := (six hb07).2.2.2.2.2
                have g57 := (six hb27).2.2.2.2.2
                have hcub7 : ∀ b, ((cu) : Value).ownBlock = some b → w.heap.size + 3 ≤ b := hrow7.blk
                have HL8 : ∀ w8, (w7.drew).grownBy w8 ((cu) : Value).ownBlock → ∀ B, B < w.heap.size + 3 → w8.heap[B]? = w7.heap[B]? := fun w8 hg B hB => (show w8.heap[B]? = w7.drew.heap[B]? from grown_lowv (w1 := w7.drew) hg hcub7 hB hsz7)
                have hS1 : w7.drew.cell? ⟨w.heap.size, 5, none⟩ = some (.slice (some ⟨b1, o1, o2⟩) 0 c) ∧ w7.drew.cell? ⟨w.heap.size + 1 + 1, 5, none⟩ = some (cu) := ⟨p57, g57⟩
                have hS8 := fun (w8 : World) (hg : (w7.drew).grownBy w8 ((cu) : Value).ownBlock) => (show w8.cell? ⟨w.heap.size, 5, none⟩ = some (.slice (some ⟨b1, o1, o2⟩) 0 c) ∧ w8.cell? ⟨w.heap.size + 1 + 1, 5, none⟩ = some (cu) from ⟨(World.cell?_of_block (a := ⟨w.heap.size, 5, none⟩) (HL8 w8 hg w.heap.size (by omega))).trans p57, (World.cell?_of_block (a := ⟨w.heap.size + 1 + 1, 5, none⟩) (HL8 w8 hg (w.heap.size + 1 + 1) (by omega))).trans g57⟩)
                have hF8 := fun (w8 : World) (hg : (w7.drew).grownBy w8 ((cu) : Value).ownBlock) => blk_frozen ((HL8 w8 hg (w.heap.size + 1 + 1) (by omega)).trans hb27) 5
                replace HL8 := Lib.hid HL8
                replace hb07 := Lib.hid hb07
                replace hb17 := Lib.hid hb17
                replace hb27 := Lib.hid hb27
                refine region_lastp (fun W => W.cell? ⟨w.heap.size, 5, none⟩ = some (.slice (some ⟨b1, o1, o2⟩) 0 c) ∧ W.cell? ⟨w.heap.size + 1 + 1, 5, none⟩ = some (cu)) (by kernel_rfl) rfl (by kernel_rfl) ?_
                (try simp only [List.pop_toArray, List.dropLast_cons_cons, List.dropLast_singleton, List.size_toArray, List.length_cons, List.length_nil, Nat.zero_add, Nat.reduceAdd])
                refine wpAnyH_takeL (i := 0) (v := ?v65) rfl (by kernel_rfl) (by kernel_rfl) (by kernel_rfl) (fun _ _ _ h => h) (Or.inl ⟨by rfl, ?y65⟩) (by assumption) ?r65
                case y65 => (intro W hSw; (try dsimp only at hSw); go_simp; try with_reducible rfl)
                (try simp only [Act.put, List.setIfInBounds_toArray, List.set_cons_zero, List.set_cons_succ])
                refine wpAnyH_takeL (i := 1) (v := ?v66) rfl (by kernel_rfl) (by kernel_rfl) (by kernel_rfl) (fun _ _ _ h => h) (Or.inl ⟨by rfl, ?y66⟩) (by assumption) ?r66
                case y66 => (intro W hSw; (try dsimp only at hSw); go_simp; try with_reducible rfl)
                (try simp only [Act.put, List.setIfInBounds_toArray, List.set_cons_zero, List.set_cons_succ])
                refine wpAnyH_takeL (i := 2) (v := ?v67) rfl (by kernel_rfl) (by kernel_rfl) (by kernel_rfl) (fun _ _ _ h => h) (Or.inl ⟨by rfl, ?y67⟩) (by assumption) ?r67
                case y67 => (intro W hSw; (try dsimp only at hSw); go_simp; try with_reducible rfl)
                (try simp only [Act.put, List.setIfInBounds_toArray, List.set_cons_zero, List.set_cons_succ])
                refine wpAnyH_takeL (i := 3) (v := ?v68) rfl (by kernel_rfl) (by kernel_rfl) (by kernel_rfl) (fun _ _ _ h => h) (Or.inl ⟨by rfl, ?y68⟩) (by assumption) ?r68
                case y68 => (intro W hSw; (try dsimp only at hSw); go_simp; try with_reducible rfl)
                (try simp only [Act.put, List.setIfInBounds_toArray, List.set_cons_zero, List.set_cons_succ])
                refine wpAnyH_takeL (i := 4) (v := ?v69) rfl (by kernel_rfl) (by kernel_rfl) (by kernel_rfl) (fun _ _ _ h => h) (Or.inl ⟨by rfl, ?y69⟩) (by assumption) ?r69
                case y69 => (intro W hSw; (try dsimp only at hSw); go_simp; try with_reducible rfl)
                (try simp only [Act.put, List.setIfInBounds_toArray, List.set_cons_zero, List.set_cons_succ])
                refine wpAnyH_takeL (i := 5) (v := ?v70) rfl (by kernel_rfl) (by kernel_rfl) (by kernel_rfl) (fun _ _ _ h => h) (Or.inl ⟨by rfl, ?y70⟩) (by assumption) ?r70
                case y70 => (intro W hSw; (try dsimp only at hSw); go_simp; try with_reducible rfl)
                (try simp only [Act.put, List.setIfInBounds_toArray, List.set_cons_zero, List.set_cons_succ])
                refine wpAnyH_ready (rs := [6]) (by kernel_rfl) (by simp) ?_
                refine consL rfl (fun K hK => ?_) AllReadyH.nil
                (refine step_append_en _ (by rfl) _ _ 28 (by rfl) (w.heap.size + 3) 84 i0 (.agg #[.int .u64 0, .int .u64 0, .string ⟨#[]⟩]) 32 Try.underlying28 hi0 hz0 hz1 hz2 rfl (cu) (m.take 0) (by rfl) (hrow7.below (Below.refl _ _).drew) (LoV w.heap.size) (some ⟨b1, o1, o2⟩) 0 c (m.drop 0) (by rfl) (by rw [List.length_drop]; have := HML.out; omega) (fun h => by cases h) (by rw [List.length_drop]; have := HML.out; omega) hl3 (by unfold maxLen; omega) (by omega) hsz7 ?_; intro A8 n8 c8 w8 h8 hrow8 hg8; have hf8 := hF8 w8 hg8; have hS9 := hS8 w8 hg8; have g58 := hS9.2)
                refine hK.out _ _ (hS9) (fun hHeld => ?_)
                clear hK K
                (try simp only [Act.put, List.setIfInBounds_toArray, List.set_cons_zero, List.set_cons_succ])
                refine wpAnyH_takeL (i := 7) (v := ?v71) rfl (by kernel_rfl) (by kernel_rfl) (by kernel_rfl) (fun _ _ _ h => h) (Or.inl ⟨by rfl, ?y71⟩) (by assumption) ?r71
                case y71 => (intro W hSw; (try dsimp only at hSw); go_simp; try with_reducible rfl)
                (try simp only [Act.put, List.setIfInBounds_toArray, List.set_cons_zero, List.set_cons_succ])
                refine wpAnyH_done (by kernel_rfl) ?_ _
                refine lastQ_of rfl (fun K hK => ?_)
                go_simp
                refine hK.out _ _ ?_
                clear hK K
                have hb19 := (Below.heap_setCell w8 ⟨w.heap.size + 1 + 1, 5, none⟩ (.slice A8 n8 c8) (w.heap.size + 1) (by simp)).trans ((HL8.out w8 hg8 _ (by omega)).trans hb17.out)
                have hb29 := six_set5 ((HL8.out w8 hg8 _ (by omega)).trans hb27.out) (.slice A8 n8 c8)
                have hW9 := (hW7.trans ((Below.refl _ _).drew.grown hg8 (Nat.le_trans (Nat.le_add_right _ 3) hsz7) (fun j ej => Nat.le_trans (by omega) (hcub7 j ej)))).setCell (p := ⟨w.heap.size + 1 + 1, 5, none⟩) (by simp; omega) (.slice A8 n8 c8)
                have hrow9 : RowE (w8.setCell ⟨w.heap.size + 1 + 1, 5, none⟩ (.slice A8 n8 c8)) (w.heap.size + 3) 84 (.slice A8 n8 c8) ((m.take 0) ++ m.drop 0) := own_keptv hrow8 (fun b h1 _ => Below.heap_setCell _ _ _ b (by simp; omega))
                clear hf8 g58
                generalize w8.setCell ⟨w.heap.size + 1 + 1, 5, none⟩ (.slice A8 n8 c8) = w9 at *
                obtain ⟨q0, q1, q2, q3, q4, q5⟩ := six hb19
                obtain ⟨z0, z1, z2, z3, z4, z5⟩ := six hb29
                have hf1 := blk_frozen hb19
                replace hb19 := Lib.hid hb19
                replace hb29 := Lib.hid hb29
                go_wp2_with fail
                all_goals
                  refine bodyPost_ret (v := .agg #[.int .i64 k, .int .i64 n, .int .i64 ix, .int .u64 0, .string ⟨#[]⟩, .slice A8 n8 c8]) (by simp [results, Try.results62, go_sem, q0, q1, q2, q3, q4, q5]) rfl ?_
                  obtain ⟨e1, e2, e3⟩ := h8.out
                  have hm := set6_below (N := w.heap.size + 1) hW9 (Nat.le_succ w.heap.size) (.int .i64 k) (.int .i64 n) (.int .i64 ix) (.int .u64 0) (.string ⟨#[]⟩) (.slice A8 n8 c8)
                  have HPf := HPut.out
                  rw [hnew] at HPf
                  simp only [Bool.false_eq_true, if_false, List.append_nil] at HPf hrow9 e1
                  have Hokf := Hok.out
                  rw [HPf] at Hokf ⊢
                  subst e1
                  refine ⟨_, rfl, VaV.mk Hokf e2 e3 (hrow9.list.to (fun b hb => ⟨⟨by have := hb.1; omega, by rw [set6_size]; exact hb.2⟩, set6_heap _ _ _ _ _ _ (by have := hb.1; omega)⟩)), hm⟩

      · obtain ⟨b1, o1, rfl, hbB⟩ := hl.addr (by have := HML.out; omega)
        have hP1 : (j : Int) ≤ (ml : Int) := by omega
        have hP0 : (0 : Int) ≤ (j : Int) := by omega
        have hPc : (j : Int) ≤ (c : Int) := by omega
        have hmc : (ml : Int) ≤ (c : Int) := by omega
        have hmcN := Lib.hid (show m.length ≤ c from by have := HML.out; omega)
        by_cases hjm : j < ml
        · have hjm2 : j < m.length := by have := HML.out; omega
          obtain ⟨bl, o, hAe, _, h3p⟩ := hl.get hjm2
          obtain rfl : b1 = bl := by injection hAe with h; injection h
          obtain rfl : o1 = o := by injection hAe with h; injection h
          clear hAe
          have gP : decide ((j : Int) < (ml : Int)) = true := decide_eq_true (by omega)
          have hnl := fun h => Nat.lt_irrefl j ((HLo.out j hjm2 (Nat.le_refl _)).2 h)
          have hFv := HFa.out hjm2
          have HG := Lib.hid (fun (W : World) (h : Below w.heap.size w W) => (show EnL W (LoV w.heap.size) m (some ⟨b1, o1, none⟩) from hl.to (fun b hb => ⟨hb, h.block b hb⟩)))
          generalize m[j] = y at h3p hnl hFv
          obtain ⟨yi, yu, ys⟩ := y
          simp only at hnl hFv
          have hbC : b1 < w.heap.size := hbB
          have gl : decide (yi < i) = false := decide_eq_false hnl
          clear hnl
          by_cases hyi : yi = i
          · have hFt : F = true := by rw [hFv]; simpa using hyi
            subst hFt
            have ge : (yi == i) = true := by simpa using hyi
            have qe : IntKind.i64.wrap ((j : Int) + 1) = ((j + 1 : Nat) : Int) := by rw [show (j : Int) + 1 = ((j + 1 : Nat) : Int) by omega]; exact IntWalk.i64_in _ (by omega)
            clear hFv hyi
            have hc3 : (j : Int) + 1 ≤ (ml : Int) := by omega
            have hc5 : (0 : Int) ≤ (j : Int) + 1 := by omega
            have hc4 : ((j + 1 : Nat) : Int) ≤ (c : Int) := by omega
            by_cases hu0 : 0 < u
            · have gu : decide (0 < u) = true := decide_eq_true hu0
              have hnew : newE i u s = [⟨i, u, s⟩] := by unfold newE; rw [show (u == 0) = false by simp; omega]; rfl
              have HRn : RowE (wr.alloc (.cells #[.int .u64 i, .int .u64 u, .string s] 84)) (w.heap.size + 3) 84 cu (m.take j) := hrow.below ((Below.refl _ _).alloc (Nat.le_refl _) _)
              have HNn : EnL (wr.alloc (.cells #[.int .u64 i, .int .u64 u, .string s] 84)) (fun _ => True) [⟨i, u, s⟩] (some ⟨wr.heap.size, 0, none⟩) := enl_one (heap_alloc_new wr (.cells #[.int .u64 i, .int .u64 u, .string s] 84)) trivial
              have HBn : w.heap.size + 3 ≤ (wr.alloc (.cells #[.int .u64 i, .int .u64 u, .string s] 84)).heap.size := by simp; omega
              have HLn : ∀ w6, (wr.alloc (.cells #[.int .u64 i, .int .u64 u, .string s] 84)).grownBy w6 cu.ownBlock → ∀ B, B < w.heap.size + 3 → w6.heap[B]? = wr.heap[B]? := fun w6 hg B hB => (grown_lowv hg hcub hB HBn).trans (Below.heap_alloc wr _ B (by omega))
              have HWn : ∀ w6, (wr.alloc (.cells #[.int .u64 i, .int .u64 u, .string s] 84)).grownBy w6 cu.ownBlock → Below w.heap.size w w6 := fun w6 hg => hW.trans (((Below.refl _ _).alloc (Nat.le_trans (Nat.le_add_right _ 3) hsz) _).grown hg (by simp; omega) (fun j ej => Nat.le_trans (by omega) (hcub j ej)))
              have HZn : ∀ w6, (wr.alloc (.cells #[.int .u64 i, .int .u64 u, .string s] 84)).grownBy w6 cu.ownBlock → w.heap.size + 3 ≤ w6.heap.size := fun w6 hg => by have := hg.size; simp at this; omega
              have g50 := (cell_oldv (w := wr) (B := w.heap.size + 1 + 1) (i := 5) (by omega) (.cells #[.int .u64 i, .int .u64 u, .string s] 84)).trans (six hb2).2.2.2.2.2
              have p50 := (six hb0).2.2.2.2.2
              have g51 := (six hb2).2.2.2.2.2
              have hf51 := blk_frozen hb2 5
              obtain ⟨y0, _, _⟩ := h3p.to (hW.block b1 hbB)
              replace hb0 := Lib.hid hb0
              replace hb1 := Lib.hid hb1
              replace hb2 := Lib.hid hb2
              have HWr := Lib.hid hW
              replace HLn := Lib.hid HLn
              replace HWn := Lib.hid HWn
              replace HZn := Lib.hid HZn
              replace hjl := Lib.hid hjl
              go_wp2_with (at_builtin; refine wpList_append_en _ rfl _ _ 28 rfl (w.heap.size + 3) 84 i0 (.agg #[.int .u64 0, .int .u64 0, .string ⟨#[]⟩]) 32 Try.underlying28 hi0 hz0 hz1 hz2 rfl cu (m.take j) rfl HRn (fun _ => True) (some ⟨wr.heap.size, 0, none⟩) 1 1 [⟨i, u, s⟩] rfl rfl (fun h => by cases h) (Nat.le_refl _) HNn (by rw [hjl.out]; unfold maxLen; omega) (by rw [hjl.out]; omega) HBn ?_; intro A6 n6 c6 w6 h6 hrow6 hg6; have hl6 := HLn.out w6 hg6; have hf6 := blk_frozen ((hl6 _ (by omega)).trans hb2.out) 5; have g56 := (six ((hl6 _ (by omega)).trans hb2.out)).2.2.2.2.2; have p57 := (World.cell?_of_block (a := ⟨w.heap.size, 5, none⟩) ((Below.heap_setCell w6 ⟨w.heap.size + 1 + 1, 5, none⟩ (.slice A6 n6 c6) w.heap.size (by simp; omega)).trans (hl6 _ (by omega)))).trans p50; have y7 := (World.cell?_of_block (a := ⟨b1, o1 + j * 3, none⟩) ((Below.heap_setCell w6 ⟨w.heap.size + 1 + 1, 5, none⟩ (.slice A6 n6 c6) b1 (by simp; omega)).trans (hl6 _ (by omega)))).trans y0; replace hl6 := Lib.hid hl6)
              have hb07 := (Below.heap_setCell w6 ⟨w.heap.size + 1 + 1, 5, none⟩ (.slice A6 n6 c6) w.heap.size (by simp; omega)).trans ((hl6.out _ (by omega)).trans hb0.out)
              have hb17 := (Below.heap_setCell w6 ⟨w.heap.size + 1 + 1, 5, none⟩ (.slice A6 n6 c6) (w.heap.size + 1) (by simp)).trans ((hl6.out _ (by omega)).trans hb1.out)
              have hb27 := six_set5 ((hl6.out _ (by omega)).trans hb2.out) (.slice A6 n6 c6)
              have hW7 := (HWn.out w6 hg6).setCell (p := ⟨w.heap.size + 1 + 1, 5, none⟩) (by simp; omega) (.slice A6 n6 c6)
              have hsz7 : w.heap.size + 3 ≤ (w6.setCell ⟨w.heap.size + 1 + 1, 5, none⟩ (.slice A6 n6 c6)).heap.size := by have := HZn.out w6 hg6; simpa [World.setCell] using this
              have hrow7 : RowE (w6.setCell ⟨w.heap.size + 1 + 1, 5, none⟩ (.slice A6 n6 c6)) (w.heap.size + 3) 84 (.slice A6 n6 c6) ((m.take j) ++ [(⟨i, u, s⟩ : En)]) := own_keptv hrow6 (fun b h1 _ => Below.heap_setCell _ _ _ b (by simp; omega))
              clear p50 g50 g51 hf51 hf6 g56 p57 y0 y7
              generalize w6.setCell ⟨w.heap.size + 1 + 1, 5, none⟩ (.slice A6 n6 c6) = w7 at *
              have hl7 : ((m.take j) ++ [(⟨i, u, s⟩ : En)]).length ≤ 100001 := by rw [List.length_append, hjl.out, List.length_singleton]; omega
              have hl3 := ((HG.out w7.drew hW7.drew).after hmcN.out (j + 1))
              have p57 := (six hb07).2.2.2.2.2
              have g57 := (six hb27).2.2.2.2.2
              have hcub7 : ∀ b, ((.slice A6 n6 c6) : Value).ownBlock = some b → w.heap.size + 3 ≤ b := hrow7.blk
              have HL8 : ∀ w8, (w7.drew).grownBy w8 ((.slice A6 n6 c6) : Value).ownBlock → ∀ B, B < w.heap.size + 3 → w8.heap[B]? = w7.heap[B]? := fun w8 hg B hB => (show w8.heap[B]? = w7.drew.heap[B]? from grown_lowv (w1 := w7.drew) hg hcub7 hB hsz7)
              have hS1 : w7.drew.cell? ⟨w.heap.size, 5, none⟩ = some (.slice (some ⟨b1, o1, none⟩) ml c) ∧ w7.drew.cell? ⟨w.heap.size + 1 + 1, 5, none⟩ = some (.slice A6 n6 c6) := ⟨p57, g57⟩
              have hS8 := fun (w8 : World) (hg : (w7.drew).grownBy w8 ((.slice A6 n6 c6) : Value).ownBlock) => (show w8.cell? ⟨w.heap.size, 5, none⟩ = some (.slice (some ⟨b1, o1, none⟩) ml c) ∧ w8.cell? ⟨w.heap.size + 1 + 1, 5, none⟩ = some (.slice A6 n6 c6) from ⟨(World.cell?_of_block (a := ⟨w.heap.size, 5, none⟩) (HL8 w8 hg w.heap.size (by omega))).trans p57, (World.cell?_of_block (a := ⟨w.heap.size + 1 + 1, 5, none⟩) (HL8 w8 hg (w.heap.size + 1 + 1) (by omega))).trans g57⟩)
              have hF8 := fun (w8 : World) (hg : (w7.drew).grownBy w8 ((.slice A6 n6 c6) : Value).ownBlock) => blk_frozen ((HL8 w8 hg (w.heap.size + 1 + 1) (by omega)).trans hb27) 5
              replace HL8 := Lib.hid HL8
              replace hb07 := Lib.hid hb07
              replace hb17 := Lib.hid hb17
              replace hb27 := Lib.hid hb27
              refine region_lastp (fun W => W.cell? ⟨w.heap.size, 5, none⟩ = some (.slice (some ⟨b1, o1, none⟩) ml c) ∧ W.cell? ⟨w.heap.size + 1 + 1, 5, none⟩ = some (.slice A6 n6 c6)) (by kernel_rfl) rfl (by kernel_rfl) ?_
              (try simp only [List.pop_toArray, List.dropLast_cons_cons, List.dropLast_singleton, List.size_toArray, List.length_cons, List.length_nil, Nat.zero_add, Nat.reduceAdd])
              refine wpAnyH_takeL (i := 0) (v := ?v72) rfl (by kernel_rfl) (by kernel_rfl) (by kernel_rfl) (fun _ _ _ h => h) (Or.inl ⟨by rfl, ?y72⟩) (by assumption) ?r72
              case y72 => (intro W hSw; (try dsimp only at hSw); go_simp; try with_reducible rfl)
              (try simp only [Act.put, List.setIfInBounds_toArray, List.set_cons_zero, List.set_cons_succ])
              refine wpAnyH_takeL (i := 1) (v := ?v73) rfl (by kernel_rfl) (by kernel_rfl) (by kernel_rfl) (fun _ _ _ h => h) (Or.inl ⟨by rfl, ?y73⟩) (by assumption) ?r73
              case y73 => (intro W hSw; (try dsimp only at hSw); go_simp; try with_reducible rfl)
              (try simp only [Act.put, List.setIfInBounds_toArray, List.set_cons_zero, List.set_cons_succ])
              refine wpAnyH_takeL (i := 2) (v := ?v74) rfl (by kernel_rfl) (by kernel_rfl) (by kernel_rfl) (fun _ _ _ h => h) (Or.inl ⟨by rfl, ?y74⟩) (by assumption) ?r74
              case y74 => (intro W hSw; (try dsimp only at hSw); go_simp; try with_reducible rfl)
              (try simp only [Act.put, List.setIfInBounds_toArray, List.set_cons_zero, List.set_cons_succ])
              refine wpAnyH_takeL (i := 3) (v := ?v75) rfl (by kernel_rfl) (by kernel_rfl) (by kernel_rfl) (fun _ _ _ h => h) (Or.inl ⟨by rfl, ?y75⟩) (by assumption) ?r75
              case y75 => (intro W hSw; (try dsimp only at hSw); go_simp; try with_reducible rfl)
              (try simp only [Act.put, List.setIfInBounds_toArray, List.set_cons_zero, List.set_cons_succ])
              refine wpAnyH_takeL (i := 4) (v := ?v76) rfl (by kernel_rfl) (by kernel_rfl) (by kernel_rfl) (fun _ _ _ h => h) (Or.inl ⟨by rfl, ?y76⟩) (by assumption) ?r76
              case y76 => (intro W hSw; (try dsimp only at hSw); go_simp; try with_reducible rfl)
              (try simp only [Act.put, List.setIfInBounds_toArray, List.set_cons_zero, List.set_cons_succ])
              refine wpAnyH_takeL (i := 5) (v := ?v77) rfl (by kernel_rfl) (by kernel_rfl) (by kernel_rfl) (fun _ _ _ h => h) (Or.inl ⟨by rfl, ?y77⟩) (by assumption) ?r77
              case y77 => (intro W hSw; (try dsimp only at hSw); go_simp; try with_reducible rfl)
              (try simp only [Act.put, List.setIfInBounds_toArray, List.set_cons_zero, List.set_cons_succ])
              refine wpAnyH_ready (rs := [6]) (by kernel_rfl) (by simp) ?_
              refine consL rfl (fun K hK => ?_) AllReadyH.nil
              (refine step_append_en _ (by rfl) _ _ 28 (by rfl) (w.heap.size + 3) 84 i0 (.agg #[.int .u64 0, .int .u64 0, .string ⟨#[]⟩]) 32 Try.underlying28 hi0 hz0 hz1 hz2 rfl (.slice A6 n6 c6) ((m.take j) ++ [(⟨i, u, s⟩ : En)]) (by rfl) (hrow7.below (Below.refl _ _).drew) (LoV w.heap.size) (if c = j + 1 then some ⟨b1, o1, none⟩ else some ⟨b1, o1 + (j + 1) * 3, none⟩) (ml - (j + 1)) (c - (j + 1)) (m.drop (j + 1)) (by rfl) (by rw [List.length_drop]; have := HML.out; omega) (fun h => if_some h) (by rw [List.length_drop]; have := HML.out; omega) hl3 (by unfold maxLen; omega) (by omega) hsz7 ?_; intro A8 n8 c8 w8 h8 hrow8 hg8; have hf8 := hF8 w8 hg8; have hS9 := hS8 w8 hg8; have g58 := hS9.2)
              refine hK.out _ _ (hS9) (fun hHeld => ?_)
              clear hK K
              (try simp only [Act.put, List.setIfInBounds_toArray, List.set_cons_zero, List.set_cons_succ])
              refine wpAnyH_takeL (i := 7) (v := ?v78) rfl (by kernel_rfl) (by kernel_rfl) (by kernel_rfl) (fun _ _ _ h => h) (Or.inl ⟨by rfl, ?y78⟩) (by assumption) ?r78
              case y78 => (intro W hSw; (try dsimp only at hSw); go_simp; try with_reducible rfl)
              (try simp only [Act.put, List.setIfInBounds_toArray, List.set_cons_zero, List.set_cons_succ])
              refine wpAnyH_done (by kernel_rfl) ?_ _
              refine lastQ_of rfl (fun K hK => ?_)
              go_simp
              refine hK.out _ _ ?_
              clear hK K
              have hb19 := (Below.heap_setCell w8 ⟨w.heap.size + 1 + 1, 5, none⟩ (.slice A8 n8 c8) (w.heap.size + 1) (by simp)).trans ((HL8.out w8 hg8 _ (by omega)).trans hb17.out)
              have hb29 := six_set5 ((HL8.out w8 hg8 _ (by omega)).trans hb27.out) (.slice A8 n8 c8)
              have hW9 := (hW7.trans ((Below.refl _ _).drew.grown hg8 (Nat.le_trans (Nat.le_add_right _ 3) hsz7) (fun j ej => Nat.le_trans (by omega) (hcub7 j ej)))).setCell (p := ⟨w.heap.size + 1 + 1, 5, none⟩) (by simp; omega) (.slice A8 n8 c8)
              have hrow9 : RowE (w8.setCell ⟨w.heap.size + 1 + 1, 5, none⟩ (.slice A8 n8 c8)) (w.heap.size + 3) 84 (.slice A8 n8 c8) (((m.take j) ++ [(⟨i, u, s⟩ : En)]) ++ m.drop (j + 1)) := own_keptv hrow8 (fun b h1 _ => Below.heap_setCell _ _ _ b (by simp; omega))
              clear hf8 g58
              generalize w8.setCell ⟨w.heap.size + 1 + 1, 5, none⟩ (.slice A8 n8 c8) = w9 at *
              obtain ⟨q0, q1, q2, q3, q4, q5⟩ := six hb19
              obtain ⟨z0, z1, z2, z3, z4, z5⟩ := six hb29
              have hf1 := blk_frozen hb19
              replace hb19 := Lib.hid hb19
              replace hb29 := Lib.hid hb29
              go_wp2_with fail
              all_goals
                refine bodyPost_ret (v := .agg #[.int .i64 k, .int .i64 n, .int .i64 ix, .int .u64 0, .string ⟨#[]⟩, .slice A8 n8 c8]) (by simp [results, Try.results62, go_sem, q0, q1, q2, q3, q4, q5]) rfl ?_
                obtain ⟨e1, e2, e3⟩ := h8.out
                have hm := set6_below (N := w.heap.size + 1) hW9 (Nat.le_succ w.heap.size) (.int .i64 k) (.int .i64 n) (.int .i64 ix) (.int .u64 0) (.string ⟨#[]⟩) (.slice A8 n8 c8)
                have HPf := HPut.out
                rw [hnew] at HPf
                simp only [if_true] at HPf hrow9 e1
                have Hokf := Hok.out
                rw [HPf] at Hokf ⊢
                subst e1
                refine ⟨_, rfl, VaV.mk Hokf e2 e3 (hrow9.list.to (fun b hb => ⟨⟨by have := hb.1; omega, by rw [set6_size]; exact hb.2⟩, set6_heap _ _ _ _ _ _ (by have := hb.1; omega)⟩)), hm⟩
            · have gu : decide (0 < u) = false := decide_eq_false hu0
              have huz : u = 0 := by have := hu.out.1; omega
              by_cases hs0 : 0 < s.size
              · have gs : decide (0 < (s.size : Int)) = true := decide_eq_true (by omega)
                have hnew : newE i u s = [⟨i, u, s⟩] := by unfold newE; rw [show (s.size == 0) = false by rw [beq_eq_false_iff_ne]; omega, Bool.and_false]; rfl
                clear huz
                have HRn : RowE (wr.alloc (.cells #[.int .u64 i, .int .u64 u, .string s] 84)) (w.heap.size + 3) 84 cu (m.take j) := hrow.below ((Below.refl _ _).alloc (Nat.le_refl _) _)
                have HNn : EnL (wr.alloc (.cells #[.int .u64 i, .int .u64 u, .string s] 84)) (fun _ => True) [⟨i, u, s⟩] (some ⟨wr.heap.size, 0, none⟩) := enl_one (heap_alloc_new wr (.cells #[.int .u64 i, .int .u64 u, .string s] 84)) trivial
                have HBn : w.heap.size + 3 ≤ (wr.alloc (.cells #[.int .u64 i, .int .u64 u, .string s] 84)).heap.size := by simp; omega
                have HLn : ∀ w6, (wr.alloc (.cells #[.int .u64 i, .int .u64 u, .string s] 84)).grownBy w6 cu.ownBlock → ∀ B, B < w.heap.size + 3 → w6.heap[B]? = wr.heap[B]? := fun w6 hg B hB => (grown_lowv hg hcub hB HBn).trans (Below.heap_alloc wr _ B (by omega))
                have HWn : ∀ w6, (wr.alloc (.cells #[.int .u64 i, .int .u64 u, .string s] 84)).grownBy w6 cu.ownBlock → Below w.heap.size w w6 := fun w6 hg => hW.trans (((Below.refl _ _).alloc (Nat.le_trans (Nat.le_add_right _ 3) hsz) _).grown hg (by simp; omega) (fun j ej => Nat.le_trans (by omega) (hcub j ej)))
                have HZn : ∀ w6, (wr.alloc (.cells #[.int .u64 i, .int .u64 u, .string s] 84)).grownBy w6 cu.ownBlock → w.heap.size + 3 ≤ w6.heap.size := fun w6 hg => by have := hg.size; simp at this; omega
                have g50 := (cell_oldv (w := wr) (B := w.heap.size + 1 + 1) (i := 5) (by omega) (.cells #[.int .u64 i, .int .u64 u, .string s] 84)).trans (six hb2).2.2.2.2.2
                have p50 := (six hb0).2.2.2.2.2
                have g51 := (six hb2).2.2.2.2.2
                have hf51 := blk_frozen hb2 5
                obtain ⟨y0, _, _⟩ := h3p.to (hW.block b1 hbB)
                replace hb0 := Lib.hid hb0
                replace hb1 := Lib.hid hb1
                replace hb2 := Lib.hid hb2
                have HWr := Lib.hid hW
                replace HLn := Lib.hid HLn
                replace HWn := Lib.hid HWn
                replace HZn := Lib.hid HZn
                replace hjl := Lib.hid hjl
                go_wp2_with (at_builtin; refine wpList_append_en _ rfl _ _ 28 rfl (w.heap.size + 3) 84 i0 (.agg #[.int .u64 0, .int .u64 0, .string ⟨#[]⟩]) 32 Try.underlying28 hi0 hz0 hz1 hz2 rfl cu (m.take j) rfl HRn (fun _ => True) (some ⟨wr.heap.size, 0, none⟩) 1 1 [⟨i, u, s⟩] rfl rfl (fun h => by cases h) (Nat.le_refl _) HNn (by rw [hjl.out]; unfold maxLen; omega) (by rw [hjl.out]; omega) HBn ?_; intro A6 n6 c6 w6 h6 hrow6 hg6; have hl6 := HLn.out w6 hg6; have hf6 := blk_frozen ((hl6 _ (by omega)).trans hb2.out) 5; have g56 := (six ((hl6 _ (by omega)).trans hb2.out)).2.2.2.2.2; have p57 := (World.cell?_of_block (a := ⟨w.heap.size, 5, none⟩) ((Below.heap_setCell w6 ⟨w.heap.size + 1 + 1, 5, none⟩ (.slice A6 n6 c6) w.heap.size (by simp; omega)).trans (hl6 _ (by omega)))).trans p50; have y7 := (World.cell?_of_block (a := ⟨b1, o1 + j * 3, none⟩) ((Below.heap_setCell w6 ⟨w.heap.size + 1 + 1, 5, none⟩ (.slice A6 n6 c6) b1 (by simp; omega)).trans (hl6 _ (by omega)))).trans y0; replace hl6 := Lib.hid hl6)
                have hb07 := (Below.heap_setCell w6 ⟨w.heap.size + 1 + 1, 5, none⟩ (.slice A6 n6 c6) w.heap.size (by simp; omega)).trans ((hl6.out _ (by omega)).trans hb0.out)
                have hb17 := (Below.heap_setCell w6 ⟨w.heap.size + 1 + 1, 5, none⟩ (.slice A6 n6 c6) (w.heap.size + 1) (by simp)).trans ((hl6.out _ (by omega)).trans hb1.out)
                have hb27 := six_set5 ((hl6.out _ (by omega)).trans hb2.out) (.slice A6 n6 c6)
                have hW7 := (HWn.out w6 hg6).setCell (p := ⟨w.heap.size + 1 + 1, 5, none⟩) (by simp; omega) (.slice A6 n6 c6)
                have hsz7 : w.heap.size + 3 ≤ (w6.setCell ⟨w.heap.size + 1 + 1, 5, none⟩ (.slice A6 n6 c6)).heap.size := by have := HZn.out w6 hg6; simpa [World.setCell] using this
                have hrow7 : RowE (w6.setCell ⟨w.heap.size + 1 + 1, 5, none⟩ (.slice A6 n6 c6)) (w.heap.size + 3) 84 (.slice A6 n6 c6) ((m.take j) ++ [(⟨i, u, s⟩ : En)]) := own_keptv hrow6 (fun b h1 _ => Below.heap_setCell _ _ _ b (by simp; omega))
                clear p50 g50 g51 hf51 hf6 g56 p57 y0 y7
                generalize w6.setCell ⟨w.heap.size + 1 + 1, 5, none⟩ (.slice A6 n6 c6) = w7 at *
                have hl7 : ((m.take j) ++ [(⟨i, u, s⟩ : En)]).length ≤ 100001 := by rw [List.length_append, hjl.out, List.length_singleton]; omega
                have hl3 := ((HG.out w7.drew hW7.drew).after hmcN.out (j + 1))
                have p57 := (six hb07).2.2.2.2.2
                have g57 := (six hb27).2.2.2.2.2
                have hcub7 : ∀ b, ((.slice A6 n6 c6) : Value).ownBlock = some b → w.heap.size + 3 ≤ b := hrow7.blk
                have HL8 : ∀ w8, (w7.drew).grownBy w8 ((.slice A6 n6 c6) : Value).ownBlock → ∀ B, B < w.heap.size + 3 → w8.heap[B]? = w7.heap[B]? := fun w8 hg B hB => (show w8.heap[B]? = w7.drew.heap[B]? from grown_lowv (w1 := w7.drew) hg hcub7 hB hsz7)
                have hS1 : w7.drew.cell? ⟨w.heap.size, 5, none⟩ = some (.slice (some ⟨b1, o1, none⟩) ml c) ∧ w7.drew.cell? ⟨w.heap.size + 1 + 1, 5, none⟩ = some (.slice A6 n6 c6) := ⟨p57, g57⟩
                have hS8 := fun (w8 : World) (hg : (w7.drew).grownBy w8 ((.slice A6 n6 c6) : Value).ownBlock) => (show w8.cell? ⟨w.heap.size, 5, none⟩ = some (.slice (some ⟨b1, o1, none⟩) ml c) ∧ w8.cell? ⟨w.heap.size + 1 + 1, 5, none⟩ = some (.slice A6 n6 c6) from ⟨(World.cell?_of_block (a := ⟨w.heap.size, 5, none⟩) (HL8 w8 hg w.heap.size (by omega))).trans p57, (World.cell?_of_block (a := ⟨w.heap.size + 1 + 1, 5, none⟩) (HL8 w8 hg (w.heap.size + 1 + 1) (by omega))).trans g57⟩)
                have hF8 := fun (w8 : World) (hg : (w7.drew).grownBy w8 ((.slice A6 n6 c6) : Value).ownBlock) => blk_frozen ((HL8 w8 hg (w.heap.size + 1 + 1) (by omega)).trans hb27) 5
                replace HL8 := Lib.hid HL8
                replace hb07 := Lib.hid hb07
                replace hb17 := Lib.hid hb17
                replace hb27 := Lib.hid hb27
                refine region_lastp (fun W => W.cell? ⟨w.heap.size, 5, none⟩ = some (.slice (some ⟨b1, o1, none⟩) ml c) ∧ W.cell? ⟨w.heap.size + 1 + 1, 5, none⟩ = some (.slice A6 n6 c6)) (by kernel_rfl) rfl (by kernel_rfl) ?_
                (try simp only [List.pop_toArray, List.dropLast_cons_cons, List.dropLast_singleton, List.size_toArray, List.length_cons, List.length_nil, Nat.zero_add, Nat.reduceAdd])
                refine wpAnyH_takeL (i := 0) (v := ?v79) rfl (by kernel_rfl) (by kernel_rfl) (by kernel_rfl) (fun _ _ _ h => h) (Or.inl ⟨by rfl, ?y79⟩) (by assumption) ?r79
                case y79 => (intro W hSw; (try dsimp only at hSw); go_simp; try with_reducible rfl)
                (try simp only [Act.put, List.setIfInBounds_toArray, List.set_cons_zero, List.set_cons_succ])
                refine wpAnyH_takeL (i := 1) (v := ?v80) rfl (by kernel_rfl) (by kernel_rfl) (by kernel_rfl) (fun _ _ _ h => h) (Or.inl ⟨by rfl, ?y80⟩) (by assumption) ?r80
                case y80 => (intro W hSw; (try dsimp only at hSw); go_simp; try with_reducible rfl)
                (try simp only [Act.put, List.setIfInBounds_toArray, List.set_cons_zero, List.set_cons_succ])
                refine wpAnyH_takeL (i := 2) (v := ?v81) rfl (by kernel_rfl) (by kernel_rfl) (by kernel_rfl) (fun _ _ _ h => h) (Or.inl ⟨by rfl, ?y81⟩) (by assumption) ?r81
                case y81 => (intro W hSw; (try dsimp only at hSw); go_simp; try with_reducible rfl)
                (try simp only [Act.put, List.setIfInBounds_toArray, List.set_cons_zero, List.set_cons_succ])
                refine wpAnyH_takeL (i := 3) (v := ?v82) rfl (by kernel_rfl) (by kernel_rfl) (by kernel_rfl) (fun _ _ _ h => h) (Or.inl ⟨by rfl, ?y82⟩) (by assumption) ?r82
                case y82 => (intro W hSw; (try dsimp only at hSw); go_simp; try with_reducible rfl)
                (try simp only [Act.put, List.setIfInBounds_toArray, List.set_cons_zero, List.set_cons_succ])
                refine wpAnyH_takeL (i := 4) (v := ?v83) rfl (by kernel_rfl) (by kernel_rfl) (by kernel_rfl) (fun _ _ _ h => h) (Or.inl ⟨by rfl, ?y83⟩) (by assumption) ?r83
                case y83 => (intro W hSw; (try dsimp only at hSw); go_simp; try with_reducible rfl)
                (try simp only [Act.put, List.setIfInBounds_toArray, List.set_cons_zero, List.set_cons_succ])
                refine wpAnyH_takeL (i := 5) (v := ?v84) rfl (by kernel_rfl) (by kernel_rfl) (by kernel_rfl) (fun _ _ _ h => h) (Or.inl ⟨by rfl, ?y84⟩) (by assumption) ?r84
                case y84 => (intro W hSw; (try dsimp only at hSw); go_simp; try with_reducible rfl)
                (try simp only [Act.put, List.setIfInBounds_toArray, List.set_cons_zero, List.set_cons_succ])
                refine wpAnyH_ready (rs := [6]) (by kernel_rfl) (by simp) ?_
                refine consL rfl (fun K hK => ?_) AllReadyH.nil
                (refine step_append_en _ (by rfl) _ _ 28 (by rfl) (w.heap.size + 3) 84 i0 (.agg #[.int .u64 0, .int .u64 0, .string ⟨#[]⟩]) 32 Try.underlying28 hi0 hz0 hz1 hz2 rfl (.slice A6 n6 c6) ((m.take j) ++ [(⟨i, u, s⟩ : En)]) (by rfl) (hrow7.below (Below.refl _ _).drew) (LoV w.heap.size) (if c = j + 1 then some ⟨b1, o1, none⟩ else some ⟨b1, o1 + (j + 1) * 3, none⟩) (ml - (j + 1)) (c - (j + 1)) (m.drop (j + 1)) (by rfl) (by rw [List.length_drop]; have := HML.out; omega) (fun h => if_some h) (by rw [List.length_drop]; have := HML.out; omega) hl3 (by unfold maxLen; omega) (by omega) hsz7 ?_; intro A8 n8 c8 w8 h8 hrow8 hg8; have hf8 := hF8 w8 hg8; have hS9 := hS8 w8 hg8; have g58 := hS9.2)
                refine hK.out _ _ (hS9) (fun hHeld => ?_)
                clear hK K
                (try simp only [Act.put, List.setIfInBounds_toArray, List.set_cons_zero, List.set_cons_succ])
                refine wpAnyH_takeL (i := 7) (v := ?v85) rfl (by kernel_rfl) (by kernel_rfl) (by kernel_rfl) (fun _ _ _ h => h) (Or.inl ⟨by rfl, ?y85⟩) (by assumption) ?r85
                case y85 => (intro W hSw; (try dsimp only at hSw); go_simp; try with_reducible rfl)
                (try simp only [Act.put, List.setIfInBounds_toArray, List.set_cons_zero, List.set_cons_succ])
                refine wpAnyH_done (by kernel_rfl) ?_ _
                refine lastQ_of rfl (fun K hK => ?_)
                go_simp
                refine hK.out _ _ ?_
                clear hK K
                have hb19 := (Below.heap_setCell w8 ⟨w.heap.size + 1 + 1, 5, none⟩ (.slice A8 n8 c8) (w.heap.size + 1) (by simp)).trans ((HL8.out w8 hg8 _ (by omega)).trans hb17.out)
                have hb29 := six_set5 ((HL8.out w8 hg8 _ (by omega)).trans hb27.out) (.slice A8 n8 c8)
                have hW9 := (hW7.trans ((Below.refl _ _).drew.grown hg8 (Nat.le_trans (Nat.le_add_right _ 3) hsz7) (fun j ej => Nat.le_trans (by omega) (hcub7 j ej)))).setCell (p := ⟨w.heap.size + 1 + 1, 5, none⟩) (by simp; omega) (.slice A8 n8 c8)
                have hrow9 : RowE (w8.setCell ⟨w.heap.size + 1 + 1, 5, none⟩ (.slice A8 n8 c8)) (w.heap.size + 3) 84 (.slice A8 n8 c8) (((m.take j) ++ [(⟨i, u, s⟩ : En)]) ++ m.drop (j + 1)) := own_keptv hrow8 (fun b h1 _ => Below.heap_setCell _ _ _ b (by simp; omega))
                clear hf8 g58
                generalize w8.setCell ⟨w.heap.size + 1 + 1, 5, none⟩ (.slice A8 n8 c8) = w9 at *
                obtain ⟨q0, q1, q2, q3, q4, q5⟩ := six hb19
                obtain ⟨z0, z1, z2, z3, z4, z5⟩ := six hb29
                have hf1 := blk_frozen hb19
                replace hb19 := Lib.hid hb19
                replace hb29 := Lib.hid hb29
                go_wp2_with fail
                all_goals
                  refine bodyPost_ret (v := .agg #[.int .i64 k, .int .i64 n, .int .i64 ix, .int .u64 0, .string ⟨#[]⟩, .slice A8 n8 c8]) (by simp [results, Try.results62, go_sem, q0, q1, q2, q3, q4, q5]) rfl ?_
                  obtain ⟨e1, e2, e3⟩ := h8.out
                  have hm := set6_below (N := w.heap.size + 1) hW9 (Nat.le_succ w.heap.size) (.int .i64 k) (.int .i64 n) (.int .i64 ix) (.int .u64 0) (.string ⟨#[]⟩) (.slice A8 n8 c8)
                  have HPf := HPut.out
                  rw [hnew] at HPf
                  simp only [if_true] at HPf hrow9 e1
                  have Hokf := Hok.out
                  rw [HPf] at Hokf ⊢
                  subst e1
                  refine ⟨_, rfl, VaV.mk Hokf e2 e3 (hrow9.list.to (fun b hb => ⟨⟨by have := hb.1; omega, by rw [set6_size]; exact hb.2⟩, set6_heap _ _ _ _ _ _ (by have := hb.1; omega)⟩)), hm⟩
              · have gs : decide (0 < (s.size : Int)) = false := decide_eq_false (by omega)
                have hnew : newE i u s = [] := by unfold newE; rw [show (s.size == 0) = true by rw [beq_iff_eq]; omega, huz]; rfl
                clear huz
                have p50 := (six hb0).2.2.2.2.2
                have g51 := (six hb2).2.2.2.2.2
                have hf51 := blk_frozen hb2 5
                obtain ⟨y0, _, _⟩ := h3p.to (hW.block b1 hbB)
                replace hb0 := Lib.hid hb0
                replace hb1 := Lib.hid hb1
                replace hb2 := Lib.hid hb2
                have HWr := Lib.hid hW
                go_wp2_with fail
                have hb07 := hb0.out
                have hb17 := hb1.out
                have hb27 := hb2.out
                have hW7 := HWr.out
                have hsz7 := hsz
                have hrow7 := hrow
                have hl7 : (m.take j).length ≤ 100001 := by rw [hjl]; omega
                clear p50 g51 hf51 y0 hb0 hb1 hb2 hrow hW hsz
                obtain ⟨w7, rfl⟩ : ∃ w7, w7 = wr := ⟨_, rfl⟩
                have hl3 := ((HG.out w7.drew hW7.drew).after hmcN.out (j + 1))
                have p57 := (six hb07).2.2.2.2.2
                have g57 := (six hb27).2.2.2.2.2
                have hcub7 : ∀ b, ((cu) : Value).ownBlock = some b → w.heap.size + 3 ≤ b := hrow7.blk
                have HL8 : ∀ w8, (w7.drew).grownBy w8 ((cu) : Value).ownBlock → ∀ B, B < w.heap.size + 3 → w8.heap[B]? = w7.heap[B]? := fun w8 hg B hB => (show w8.heap[B]? = w7.drew.heap[B]? from grown_lowv (w1 := w7.drew) hg hcub7 hB hsz7)
                have hS1 : w7.drew.cell? ⟨w.heap.size, 5, none⟩ = some (.slice (some ⟨b1, o1, none⟩) ml c) ∧ w7.drew.cell? ⟨w.heap.size + 1 + 1, 5, none⟩ = some (cu) := ⟨p57, g57⟩
                have hS8 := fun (w8 : World) (hg : (w7.drew).grownBy w8 ((cu) : Value).ownBlock) => (show w8.cell? ⟨w.heap.size, 5, none⟩ = some (.slice (some ⟨b1, o1, none⟩) ml c) ∧ w8.cell? ⟨w.heap.size + 1 + 1, 5, none⟩ = some (cu) from ⟨(World.cell?_of_block (a := ⟨w.heap.size, 5, none⟩) (HL8 w8 hg w.heap.size (by omega))).trans p57, (World.cell?_of_block (a := ⟨w.heap.size + 1 + 1, 5, none⟩) (HL8 w8 hg (w.heap.size + 1 + 1) (by omega))).trans g57⟩)
                have hF8 := fun (w8 : World) (hg : (w7.drew).grownBy w8 ((cu) : Value).ownBlock) => blk_frozen ((HL8 w8 hg (w.heap.size + 1 + 1) (by omega)).trans hb27) 5
                replace HL8 := Lib.hid HL8
                replace hb07 := Lib.hid hb07
                replace hb17 := Lib.hid hb17
                replace hb27 := Lib.hid hb27
                refine region_lastp (fun W => W.cell? ⟨w.heap.size, 5, none⟩ = some (.slice (some ⟨b1, o1, none⟩) ml c) ∧ W.cell? ⟨w.heap.size + 1 + 1, 5, none⟩ = some (cu)) (by kernel_rfl) rfl (by kernel_rfl) ?_
                (try simp only [List.pop_toArray, List.dropLast_cons_cons, List.dropLast_singleton, List.size_toArray, List.length_cons, List.length_nil, Nat.zero_add, Nat.reduceAdd])
                refine wpAnyH_takeL (i := 0) (v := ?v86) rfl (by kernel_rfl) (by kernel_rfl) (by kernel_rfl) (fun _ _ _ h => h) (Or.inl ⟨by rfl, ?y86⟩) (by assumption) ?r86
                case y86 => (intro W hSw; (try dsimp only at hSw); go_simp; try with_reducible rfl)
                (try simp only [Act.put, List.setIfInBounds_toArray, List.set_cons_zero, List.set_cons_succ])
                refine wpAnyH_takeL (i := 1) (v := ?v87) rfl (by kernel_rfl) (by kernel_rfl) (by kernel_rfl) (fun _ _ _ h => h) (Or.inl ⟨by rfl, ?y87⟩) (by assumption) ?r87
                case y87 => (intro W hSw; (try dsimp only at hSw); go_simp; try with_reducible rfl)
                (try simp only [Act.put, List.setIfInBounds_toArray, List.set_cons_zero, List.set_cons_succ])
                refine wpAnyH_takeL (i := 2) (v := ?v88) rfl (by kernel_rfl) (by kernel_rfl) (by kernel_rfl) (fun _ _ _ h => h) (Or.inl ⟨by rfl, ?y88⟩) (by assumption) ?r88
                case y88 => (intro W hSw; (try dsimp only at hSw); go_simp; try with_reducible rfl)
                (try simp only [Act.put, List.setIfInBounds_toArray, List.set_cons_zero, List.set_cons_succ])
                refine wpAnyH_takeL (i := 3) (v := ?v89) rfl (by kernel_rfl) (by kernel_rfl) (by kernel_rfl) (fun _ _ _ h => h) (Or.inl ⟨by rfl, ?y89⟩) (by assumption) ?r89
                case y89 => (intro W hSw; (try dsimp only at hSw); go_simp; try with_reducible rfl)
                (try simp only [Act.put, List.setIfInBounds_toArray, List.set_cons_zero, List.set_cons_succ])
                refine wpAnyH_takeL (i := 4) (v := ?v90) rfl (by kernel_rfl) (by kernel_rfl) (by kernel_rfl) (fun _ _ _ h => h) (Or.inl ⟨by rfl, ?y90⟩) (by assumption) ?r90
                case y90 => (intro W hSw; (try dsimp only at hSw); go_simp; try with_reducible rfl)
                (try simp only [Act.put, List.setIfInBounds_toArray, List.set_cons_zero, List.set_cons_succ])
                refine wpAnyH_takeL (i := 5) (v := ?v91) rfl (by kernel_rfl) (by kernel_rfl) (by kernel_rfl) (fun _ _ _ h => h) (Or.inl ⟨by rfl, ?y91⟩) (by assumption) ?r91
                case y91 => (intro W hSw; (try dsimp only at hSw); go_simp; try with_reducible rfl)
                (try simp only [Act.put, List.setIfInBounds_toArray, List.set_cons_zero, List.set_cons_succ])
                refine wpAnyH_ready (rs := [6]) (by kernel_rfl) (by simp) ?_
                refine consL rfl (fun K hK => ?_) AllReadyH.nil
                (refine step_append_en _ (by rfl) _ _ 28 (by rfl) (w.heap.size + 3) 84 i0 (.agg #[.int .u64 0, .int .u64 0, .string ⟨#[]⟩]) 32 Try.underlying28 hi0 hz0 hz1 hz2 rfl (cu) (m.take j) (by rfl) (hrow7.below (Below.refl _ _).drew) (LoV w.heap.size) (if c = j + 1 then some ⟨b1, o1, none⟩ else some ⟨b1, o1 + (j + 1) * 3, none⟩) (ml - (j + 1)) (c - (j + 1)) (m.drop (j + 1)) (by rfl) (by rw [List.length_drop]; have := HML.out; omega) (fun h => if_some h) (by rw [List.length_drop]; have := HML.out; omega) hl3 (by unfold maxLen; omega) (by omega) hsz7 ?_; intro A8 n8 c8 w8 h8 hrow8 hg8; have hf8 := hF8 w8 hg8; have hS9 := hS8 w8 hg8; have g58 := hS9.2)
                refine hK.out _ _ (hS9) (fun hHeld => ?_)
                clear hK K
                (try simp only [Act.put, List.setIfInBounds_toArray, List.set_cons_zero, List.set_cons_succ])
                refine wpAnyH_takeL (i := 7) (v := ?v92) rfl (by kernel_rfl) (by kernel_rfl) (by kernel_rfl) (fun _ _ _ h => h) (Or.inl ⟨by rfl, ?y92⟩) (by assumption) ?r92
                case y92 => (intro W hSw; (try dsimp only at hSw); go_simp; try with_reducible rfl)
                (try simp only [Act.put, List.setIfInBounds_toArray, List.set_cons_zero, List.set_cons_succ])
                refine wpAnyH_done (by kernel_rfl) ?_ _
                refine lastQ_of rfl (fun K hK => ?_)
                go_simp
                refine hK.out _ _ ?_
                clear hK K
                have hb19 := (Below.heap_setCell w8 ⟨w.heap.size + 1 + 1, 5, none⟩ (.slice A8 n8 c8) (w.heap.size + 1) (by simp)).trans ((HL8.out w8 hg8 _ (by omega)).trans hb17.out)
                have hb29 := six_set5 ((HL8.out w8 hg8 _ (by omega)).trans hb27.out) (.slice A8 n8 c8)
                have hW9 := (hW7.trans ((Below.refl _ _).drew.grown hg8 (Nat.le_trans (Nat.le_add_right _ 3) hsz7) (fun j ej => Nat.le_trans (by omega) (hcub7 j ej)))).setCell (p := ⟨w.heap.size + 1 + 1, 5, none⟩) (by simp; omega) (.slice A8 n8 c8)
                have hrow9 : RowE (w8.setCell ⟨w.heap.size + 1 + 1, 5, none⟩ (.slice A8 n8 c8)) (w.heap.size + 3) 84 (.slice A8 n8 c8) ((m.take j) ++ m.drop (j + 1)) := own_keptv hrow8 (fun b h1 _ => Below.heap_setCell _ _ _ b (by simp; omega))
                clear hf8 g58
                generalize w8.setCell ⟨w.heap.size + 1 + 1, 5, none⟩ (.slice A8 n8 c8) = w9 at *
                obtain ⟨q0, q1, q2, q3, q4, q5⟩ := six hb19
                obtain ⟨z0, z1, z2, z3, z4, z5⟩ := six hb29
                have hf1 := blk_frozen hb19
                replace hb19 := Lib.hid hb19
                replace hb29 := Lib.hid hb29
                go_wp2_with fail
                all_goals
                  refine bodyPost_ret (v := .agg #[.int .i64 k, .int .i64 n, .int .i64 ix, .int .u64 0, .string ⟨#[]⟩, .slice A8 n8 c8]) (by simp [results, Try.results62, go_sem, q0, q1, q2, q3, q4, q5]) rfl ?_
                  obtain ⟨e1, e2, e3⟩ := h8.out
                  have hm := set6_below (N := w.heap.size + 1) hW9 (Nat.le_succ w.heap.size) (.int .i64 k) (.int .i64 n) (.int .i64 ix) (.int .u64 0) (.string ⟨#[]⟩) (.slice A8 n8 c8)
                  have HPf := HPut.out
                  rw [hnew] at HPf
                  simp only [if_true, List.append_nil] at HPf hrow9 e1
                  have Hokf := Hok.out
                  rw [HPf] at Hokf ⊢
                  subst e1
                  refine ⟨_, rfl, VaV.mk Hokf e2 e3 (hrow9.list.to (fun b hb => ⟨⟨by have := hb.1; omega, by rw [set6_size]; exact hb.2⟩, set6_heap _ _ _ _ _ _ (by have := hb.1; omega)⟩)), hm⟩

          · have hFt : F = false := by rw [hFv]; simpa using hyi
            subst hFt
            have ge : (yi == i) = false := by simpa using hyi
            clear hFv hyi
            by_cases hu0 : 0 < u
            · have gu : decide (0 < u) = true := decide_eq_true hu0
              have hnew : newE i u s = [⟨i, u, s⟩] := by unfold newE; rw [show (u == 0) = false by simp; omega]; rfl
              have HRn : RowE (wr.alloc (.cells #[.int .u64 i, .int .u64 u, .string s] 84)) (w.heap.size + 3) 84 cu (m.take j) := hrow.below ((Below.refl _ _).alloc (Nat.le_refl _) _)
              have HNn : EnL (wr.alloc (.cells #[.int .u64 i, .int .u64 u, .string s] 84)) (fun _ => True) [⟨i, u, s⟩] (some ⟨wr.heap.size, 0, none⟩) := enl_one (heap_alloc_new wr (.cells #[.int .u64 i, .int .u64 u, .string s] 84)) trivial
              have HBn : w.heap.size + 3 ≤ (wr.alloc (.cells #[.int .u64 i, .int .u64 u, .string s] 84)).heap.size := by simp; omega
              have HLn : ∀ w6, (wr.alloc (.cells #[.int .u64 i, .int .u64 u, .string s] 84)).grownBy w6 cu.ownBlock → ∀ B, B < w.heap.size + 3 → w6.heap[B]? = wr.heap[B]? := fun w6 hg B hB => (grown_lowv hg hcub hB HBn).trans (Below.heap_alloc wr _ B (by omega))
              have HWn : ∀ w6, (wr.alloc (.cells #[.int .u64 i, .int .u64 u, .string s] 84)).grownBy w6 cu.ownBlock → Below w.heap.size w w6 := fun w6 hg => hW.trans (((Below.refl _ _).alloc (Nat.le_trans (Nat.le_add_right _ 3) hsz) _).grown hg (by simp; omega) (fun j ej => Nat.le_trans (by omega) (hcub j ej)))
              have HZn : ∀ w6, (wr.alloc (.cells #[.int .u64 i, .int .u64 u, .string s] 84)).grownBy w6 cu.ownBlock → w.heap.size + 3 ≤ w6.heap.size := fun w6 hg => by have := hg.size; simp at this; omega
              have g50 := (cell_oldv (w := wr) (B := w.heap.size + 1 + 1) (i := 5) (by omega) (.cells #[.int .u64 i, .int .u64 u, .string s] 84)).trans (six hb2).2.2.2.2.2
              have p50 := (six hb0).2.2.2.2.2
              have g51 := (six hb2).2.2.2.2.2
              have hf51 := blk_frozen hb2 5
              obtain ⟨y0, _, _⟩ := h3p.to (hW.block b1 hbB)
              replace hb0 := Lib.hid hb0
              replace hb1 := Lib.hid hb1
              replace hb2 := Lib.hid hb2
              have HWr := Lib.hid hW
              replace HLn := Lib.hid HLn
              replace HWn := Lib.hid HWn
              replace HZn := Lib.hid HZn
              replace hjl := Lib.hid hjl
              go_wp2_with (at_builtin; refine wpList_append_en _ rfl _ _ 28 rfl (w.heap.size + 3) 84 i0 (.agg #[.int .u64 0, .int .u64 0, .string ⟨#[]⟩]) 32 Try.underlying28 hi0 hz0 hz1 hz2 rfl cu (m.take j) rfl HRn (fun _ => True) (some ⟨wr.heap.size, 0, none⟩) 1 1 [⟨i, u, s⟩] rfl rfl (fun h => by cases h) (Nat.le_refl _) HNn (by rw [hjl.out]; unfold maxLen; omega) (by rw [hjl.out]; omega) HBn ?_; intro A6 n6 c6 w6 h6 hrow6 hg6; have hl6 := HLn.out w6 hg6; have hf6 := blk_frozen ((hl6 _ (by omega)).trans hb2.out) 5; have g56 := (six ((hl6 _ (by omega)).trans hb2.out)).2.2.2.2.2; have p57 := (World.cell?_of_block (a := ⟨w.heap.size, 5, none⟩) ((Below.heap_setCell w6 ⟨w.heap.size + 1 + 1, 5, none⟩ (.slice A6 n6 c6) w.heap.size (by simp; omega)).trans (hl6 _ (by omega)))).trans p50; have y7 := (World.cell?_of_block (a := ⟨b1, o1 + j * 3, none⟩) ((Below.heap_setCell w6 ⟨w.heap.size + 1 + 1, 5, none⟩ (.slice A6 n6 c6) b1 (by simp; omega)).trans (hl6 _ (by omega)))).trans y0; replace hl6 := Lib.hid hl6)
              have hb07 := (Below.heap_setCell w6 ⟨w.heap.size + 1 + 1, 5, none⟩ (.slice A6 n6 c6) w.heap.size (by simp; omega)).trans ((hl6.out _ (by omega)).trans hb0.out)
              have hb17 := (Below.heap_setCell w6 ⟨w.heap.size + 1 + 1, 5, none⟩ (.slice A6 n6 c6) (w.heap.size + 1) (by simp)).trans ((hl6.out _ (by omega)).trans hb1.out)
              have hb27 := six_set5 ((hl6.out _ (by omega)).trans hb2.out) (.slice A6 n6 c6)
              have hW7 := (HWn.out w6 hg6).setCell (p := ⟨w.heap.size + 1 + 1, 5, none⟩) (by simp; omega) (.slice A6 n6 c6)
              have hsz7 : w.heap.size + 3 ≤ (w6.setCell ⟨w.heap.size + 1 + 1, 5, none⟩ (.slice A6 n6 c6)).heap.size := by have := HZn.out w6 hg6; simpa [World.setCell] using this
              have hrow7 : RowE (w6.setCell ⟨w.heap.size + 1 + 1, 5, none⟩ (.slice A6 n6 c6)) (w.heap.size + 3) 84 (.slice A6 n6 c6) ((m.take j) ++ [(⟨i, u, s⟩ : En)]) := own_keptv hrow6 (fun b h1 _ => Below.heap_setCell _ _ _ b (by simp; omega))
              clear p50 g50 g51 hf51 hf6 g56 p57 y0 y7
              generalize w6.setCell ⟨w.heap.size + 1 + 1, 5, none⟩ (.slice A6 n6 c6) = w7 at *
              have hl7 : ((m.take j) ++ [(⟨i, u, s⟩ : En)]).length ≤ 100001 := by rw [List.length_append, hjl.out, List.length_singleton]; omega
              have hl3 := ((HG.out w7.drew hW7.drew).after hmcN.out j)
              have p57 := (six hb07).2.2.2.2.2
              have g57 := (six hb27).2.2.2.2.2
              have hcub7 : ∀ b, ((.slice A6 n6 c6) : Value).ownBlock = some b → w.heap.size + 3 ≤ b := hrow7.blk
              have HL8 : ∀ w8, (w7.drew).grownBy w8 ((.slice A6 n6 c6) : Value).ownBlock → ∀ B, B < w.heap.size + 3 → w8.heap[B]? = w7.heap[B]? := fun w8 hg B hB => (show w8.heap[B]? = w7.drew.heap[B]? from grown_lowv (w1 := w7.drew) hg hcub7 hB hsz7)
              have hS1 : w7.drew.cell? ⟨w.heap.size, 5, none⟩ = some (.slice (some ⟨b1, o1, none⟩) ml c) ∧ w7.drew.cell? ⟨w.heap.size + 1 + 1, 5, none⟩ = some (.slice A6 n6 c6) := ⟨p57, g57⟩
              have hS8 := fun (w8 : World) (hg : (w7.drew).grownBy w8 ((.slice A6 n6 c6) : Value).ownBlock) => (show w8.cell? ⟨w.heap.size, 5, none⟩ = some (.slice (some ⟨b1, o1, none⟩) ml c) ∧ w8.cell? ⟨w.heap.size + 1 + 1, 5, none⟩ = some (.slice A6 n6 c6) from ⟨(World.cell?_of_block (a := ⟨w.heap.size, 5, none⟩) (HL8 w8 hg w.heap.size (by omega))).trans p57, (World.cell?_of_block (a := ⟨w.heap.size + 1 + 1, 5, none⟩) (HL8 w8 hg (w.heap.size + 1 + 1) (by omega))).trans g57⟩)
              have hF8 := fun (w8 : World) (hg : (w7.drew).grownBy w8 ((.slice A6 n6 c6) : Value).ownBlock) => blk_frozen ((HL8 w8 hg (w.heap.size + 1 + 1) (by omega)).trans hb27) 5
              replace HL8 := Lib.hid HL8
              replace hb07 := Lib.hid hb07
              replace hb17 := Lib.hid hb17
              replace hb27 := Lib.hid hb27
              refine region_lastp (fun W => W.cell? ⟨w.heap.size, 5, none⟩ = some (.slice (some ⟨b1, o1, none⟩) ml c) ∧ W.cell? ⟨w.heap.size + 1 + 1, 5, none⟩ = some (.slice A6 n6 c6)) (by kernel_rfl) rfl (by kernel_rfl) ?_
              (try simp only [List.pop_toArray, List.dropLast_cons_cons, List.dropLast_singleton, List.size_toArray, List.length_cons, List.length_nil, Nat.zero_add, Nat.reduceAdd])
              refine wpAnyH_takeL (i := 0) (v := ?v93) rfl (by kernel_rfl) (by kernel_rfl) (by kernel_rfl) (fun _ _ _ h => h) (Or.inl ⟨by rfl, ?y93⟩) (by assumption) ?r93
              case y93 => (intro W hSw; (try dsimp only at hSw); go_simp; try with_reducible rfl)
              (try simp only [Act.put, List.setIfInBounds_toArray, List.set_cons_zero, List.set_cons_succ])
              refine wpAnyH_takeL (i := 1) (v := ?v94) rfl (by kernel_rfl) (by kernel_rfl) (by kernel_rfl) (fun _ _ _ h => h) (Or.inl ⟨by rfl, ?y94⟩) (by assumption) ?r94
              case y94 => (intro W hSw; (try dsimp only at hSw); go_simp; try with_reducible rfl)
              (try simp only [Act.put, List.setIfInBounds_toArray, List.set_cons_zero, List.set_cons_succ])
              refine wpAnyH_takeL (i := 2) (v := ?v95) rfl (by kernel_rfl) (by kernel_rfl) (by kernel_rfl) (fun _ _ _ h => h) (Or.inl ⟨by rfl, ?y95⟩) (by assumption) ?r95
              case y95 => (intro W hSw; (try dsimp only at hSw); go_simp; try with_reducible rfl)
              (try simp only [Act.put, List.setIfInBounds_toArray, List.set_cons_zero, List.set_cons_succ])
              refine wpAnyH_takeL (i := 3) (v := ?v96) rfl (by kernel_rfl) (by kernel_rfl) (by kernel_rfl) (fun _ _ _ h => h) (Or.inl ⟨by rfl, ?y96⟩) (by assumption) ?r96
              case y96 => (intro W hSw; (try dsimp only at hSw); go_simp; try with_reducible rfl)
              (try simp only [Act.put, List.setIfInBounds_toArray, List.set_cons_zero, List.set_cons_succ])
              refine wpAnyH_takeL (i := 4) (v := ?v97) rfl (by kernel_rfl) (by kernel_rfl) (by kernel_rfl) (fun _ _ _ h => h) (Or.inl ⟨by rfl, ?y97⟩) (by assumption) ?r97
              case y97 => (intro W hSw; (try dsimp only at hSw); go_simp; try with_reducible rfl)
              (try simp only [Act.put, List.setIfInBounds_toArray, List.set_cons_zero, List.set_cons_succ])
              refine wpAnyH_takeL (i := 5) (v := ?v98) rfl (by kernel_rfl) (by kernel_rfl) (by kernel_rfl) (fun _ _ _ h => h) (Or.inl ⟨by rfl, ?y98⟩) (by assumption) ?r98
              case y98 => (intro W hSw; (try dsimp only at hSw); go_simp; try with_reducible rfl)
              (try simp only [Act.put, List.setIfInBounds_toArray, List.set_cons_zero, List.set_cons_succ])
              refine wpAnyH_ready (rs := [6]) (by kernel_rfl) (by simp) ?_
              refine consL rfl (fun K hK => ?_) AllReadyH.nil
              (refine step_append_en _ (by rfl) _ _ 28 (by rfl) (w.heap.size + 3) 84 i0 (.agg #[.int .u64 0, .int .u64 0, .string ⟨#[]⟩]) 32 Try.underlying28 hi0 hz0 hz1 hz2 rfl (.slice A6 n6 c6) ((m.take j) ++ [(⟨i, u, s⟩ : En)]) (by rfl) (hrow7.below (Below.refl _ _).drew) (LoV w.heap.size) (if c = j then some ⟨b1, o1, none⟩ else some ⟨b1, o1 + j * 3, none⟩) (ml - j) (c - j) (m.drop j) (by rfl) (by rw [List.length_drop]; have := HML.out; omega) (fun h => if_some h) (by rw [List.length_drop]; have := HML.out; omega) hl3 (by unfold maxLen; omega) (by omega) hsz7 ?_; intro A8 n8 c8 w8 h8 hrow8 hg8; have hf8 := hF8 w8 hg8; have hS9 := hS8 w8 hg8; have g58 := hS9.2)
              refine hK.out _ _ (hS9) (fun hHeld => ?_)
              clear hK K
              (try simp only [Act.put, List.setIfInBounds_toArray, List.set_cons_zero, List.set_cons_succ])
              refine wpAnyH_takeL (i := 7) (v := ?v99) rfl (by kernel_rfl) (by kernel_rfl) (by kernel_rfl) (fun _ _ _ h => h) (Or.inl ⟨by rfl, ?y99⟩) (by assumption) ?r99
              case y99 => (intro W hSw; (try dsimp only at hSw); go_simp; try with_reducible rfl)
              (try simp only [Act.put, List.setIfInBounds_toArray, List.set_cons_zero, List.set_cons_succ])
              refine wpAnyH_done (by kernel_rfl) ?_ _
              refine lastQ_of rfl (fun K hK => ?_)
              go_simp
              refine hK.out _ _ ?_
              clear hK K
              have hb19 := (Below.heap_setCell w8 ⟨w.heap.size + 1 + 1, 5, none⟩ (.slice A8 n8 c8) (w.heap.size + 1) (by simp)).trans ((HL8.out w8 hg8 _ (by omega)).trans hb17.out)
              have hb29 := six_set5 ((HL8.out w8 hg8 _ (by omega)).trans hb27.out) (.slice A8 n8 c8)
              have hW9 := (hW7.trans ((Below.refl _ _).drew.grown hg8 (Nat.le_trans (Nat.le_add_right _ 3) hsz7) (fun j ej => Nat.le_trans (by omega) (hcub7 j ej)))).setCell (p := ⟨w.heap.size + 1 + 1, 5, none⟩) (by simp; omega) (.slice A8 n8 c8)
              have hrow9 : RowE (w8.setCell ⟨w.heap.size + 1 + 1, 5, none⟩ (.slice A8 n8 c8)) (w.heap.size + 3) 84 (.slice A8 n8 c8) (((m.take j) ++ [(⟨i, u, s⟩ : En)]) ++ m.drop j) := own_keptv hrow8 (fun b h1 _ => Below.heap_setCell _ _ _ b (by simp; omega))
              clear hf8 g58
              generalize w8.setCell ⟨w.heap.size + 1 + 1, 5, none⟩ (.slice A8 n8 c8) = w9 at *
              obtain ⟨q0, q1, q2, q3, q4, q5⟩ := six hb19
              obtain ⟨z0, z1, z2, z3, z4, z5⟩ := six hb29
              have hf1 := blk_frozen hb19
              replace hb19 := Lib.hid hb19
              replace hb29 := Lib.hid hb29
              go_wp2_with fail
              all_goals
                refine bodyPost_ret (v := .agg #[.int .i64 k, .int .i64 n, .int .i64 ix, .int .u64 0, .string ⟨#[]⟩, .slice A8 n8 c8]) (by simp [results, Try.results62, go_sem, q0, q1, q2, q3, q4, q5]) rfl ?_
                obtain ⟨e1, e2, e3⟩ := h8.out
                have hm := set6_below (N := w.heap.size + 1) hW9 (Nat.le_succ w.heap.size) (.int .i64 k) (.int .i64 n) (.int .i64 ix) (.int .u64 0) (.string ⟨#[]⟩) (.slice A8 n8 c8)
                have HPf := HPut.out
                rw [hnew] at HPf
                simp only [Bool.false_eq_true, if_false] at HPf hrow9 e1
                have Hokf := Hok.out
                rw [HPf] at Hokf ⊢
                subst e1
                refine ⟨_, rfl, VaV.mk Hokf e2 e3 (hrow9.list.to (fun b hb => ⟨⟨by have := hb.1; omega, by rw [set6_size]; exact hb.2⟩, set6_heap _ _ _ _ _ _ (by have := hb.1; omega)⟩)), hm⟩
            · have gu : decide (0 < u) = false := decide_eq_false hu0
              have huz : u = 0 := by have := hu.out.1; omega
              by_cases hs0 : 0 < s.size
              · have gs : decide (0 < (s.size : Int)) = true := decide_eq_true (by omega)
                have hnew : newE i u s = [⟨i, u, s⟩] := by unfold newE; rw [show (s.size == 0) = false by rw [beq_eq_false_iff_ne]; omega, Bool.and_false]; rfl
                clear huz
                have HRn : RowE (wr.alloc (.cells #[.int .u64 i, .int .u64 u, .string s] 84)) (w.heap.size + 3) 84 cu (m.take j) := hrow.below ((Below.refl _ _).alloc (Nat.le_refl _) _)
                have HNn : EnL (wr.alloc (.cells #[.int .u64 i, .int .u64 u, .string s] 84)) (fun _ => True) [⟨i, u, s⟩] (some ⟨wr.heap.size, 0, none⟩) := enl_one (heap_alloc_new wr (.cells #[.int .u64 i, .int .u64 u, .string s] 84)) trivial
                have HBn : w.heap.size + 3 ≤ (wr.alloc (.cells #[.int .u64 i, .int .u64 u, .string s] 84)).heap.size := by simp; omega
                have HLn : ∀ w6, (wr.alloc (.cells #[.int .u64 i, .int .u64 u, .string s] 84)).grownBy w6 cu.ownBlock → ∀ B, B < w.heap.size + 3 → w6.heap[B]? = wr.heap[B]? := fun w6 hg B hB => (grown_lowv hg hcub hB HBn).trans (Below.heap_alloc wr _ B (by omega))
                have HWn : ∀ w6, (wr.alloc (.cells #[.int .u64 i, .int .u64 u, .string s] 84)).grownBy w6 cu.ownBlock → Below w.heap.size w w6 := fun w6 hg => hW.trans (((Below.refl _ _).alloc (Nat.le_trans (Nat.le_add_right _ 3) hsz) _).grown hg (by simp; omega) (fun j ej => Nat.le_trans (by omega) (hcub j ej)))
                have HZn : ∀ w6, (wr.alloc (.cells #[.int .u64 i, .int .u64 u, .string s] 84)).grownBy w6 cu.ownBlock → w.heap.size + 3 ≤ w6.heap.size := fun w6 hg => by have := hg.size; simp at this; omega
                have g50 := (cell_oldv (w := wr) (B := w.heap.size + 1 + 1) (i := 5) (by omega) (.cells #[.int .u64 i, .int .u64 u, .string s] 84)).trans (six hb2).2.2.2.2.2
                have p50 := (six hb0).2.2.2.2.2
                have g51 := (six hb2).2.2.2.2.2
                have hf51 := blk_frozen hb2 5
                obtain ⟨y0, _, _⟩ := h3p.to (hW.block b1 hbB)
                replace hb0 := Lib.hid hb0
                replace hb1 := Lib.hid hb1
                replace hb2 := Lib.hid hb2
                have HWr := Lib.hid hW
                replace HLn := Lib.hid HLn
                replace HWn := Lib.hid HWn
                replace HZn := Lib.hid HZn
                replace hjl := Lib.hid hjl
                go_wp2_with (at_builtin; refine wpList_append_en _ rfl _ _ 28 rfl (w.heap.size + 3) 84 i0 (.agg #[.int .u64 0, .int .u64 0, .string ⟨#[]⟩]) 32 Try.underlying28 hi0 hz0 hz1 hz2 rfl cu (m.take j) rfl HRn (fun _ => True) (some ⟨wr.heap.size, 0, none⟩) 1 1 [⟨i, u, s⟩] rfl rfl (fun h => by cases h) (Nat.le_refl _) HNn (by rw [hjl.out]; unfold maxLen; omega) (by rw [hjl.out]; omega) HBn ?_; intro A6 n6 c6 w6 h6 hrow6 hg6; have hl6 := HLn.out w6 hg6; have hf6 := blk_frozen ((hl6 _ (by omega)).trans hb2.out) 5; have g56 := (six ((hl6 _ (by omega)).trans hb2.out)).2.2.2.2.2; have p57 := (World.cell?_of_block (a := ⟨w.heap.size, 5, none⟩) ((Below.heap_setCell w6 ⟨w.heap.size + 1 + 1, 5, none⟩ (.slice A6 n6 c6) w.heap.size (by simp; omega)).trans (hl6 _ (by omega)))).trans p50; have y7 := (World.cell?_of_block (a := ⟨b1, o1 + j * 3, none⟩) ((Below.heap_setCell w6 ⟨w.heap.size + 1 + 1, 5, none⟩ (.slice A6 n6 c6) b1 (by simp; omega)).trans (hl6 _ (by omega)))).trans y0; replace hl6 := Lib.hid hl6)
                have hb07 := (Below.heap_setCell w6 ⟨w.heap.size + 1 + 1, 5, none⟩ (.slice A6 n6 c6) w.heap.size (by simp; omega)).trans ((hl6.out _ (by omega)).trans hb0.out)
                have hb17 := (Below.heap_setCell w6 ⟨w.heap.size + 1 + 1, 5, none⟩ (.slice A6 n6 c6) (w.heap.size + 1) (by simp)).trans ((hl6.out _ (by omega)).trans hb1.out)
                have hb27 := six_set5 ((hl6.out _ (by omega)).trans hb2.out) (.slice A6 n6 c6)
                have hW7 := (HWn.out w6 hg6).setCell (p := ⟨w.heap.size + 1 + 1, 5, none⟩) (by simp; omega) (.slice A6 n6 c6)
                have hsz7 : w.heap.size + 3 ≤ (w6.setCell ⟨w.heap.size + 1 + 1, 5, none⟩ (.slice A6 n6 c6)).heap.size := by have := HZn.out w6 hg6; simpa [World.setCell] using this
                have hrow7 : RowE (w6.setCell ⟨w.heap.size + 1 + 1, 5, none⟩ (.slice A6 n6 c6)) (w.heap.size + 3) 84 (.slice A6 n6 c6) ((m.take j) ++ [(⟨i, u, s⟩ : En)]) := own_keptv hrow6 (fun b h1 _ => Below.heap_setCell _ _ _ b (by simp; omega))
                clear p50 g50 g51 hf51 hf6 g56 p57 y0 y7
                generalize w6.setCell ⟨w.heap.size + 1 + 1, 5, none⟩ (.slice A6 n6 c6) = w7 at *
                have hl7 : ((m.take j) ++ [(⟨i, u, s⟩ : En)]).length ≤ 100001 := by rw [List.length_append, hjl.out, List.length_singleton]; omega
                have hl3 := ((HG.out w7.drew hW7.drew).after hmcN.out j)
                have p57 := (six hb07).2.2.2.2.2
                have g57 := (six hb27).2.2.2.2.2
                have hcub7 : ∀ b, ((.slice A6 n6 c6) : Value).ownBlock = some b → w.heap.size + 3 ≤ b := hrow7.blk
                have HL8 : ∀ w8, (w7.drew).grownBy w8 ((.slice A6 n6 c6) : Value).ownBlock → ∀ B, B < w.heap.size + 3 → w8.heap[B]? = w7.heap[B]? := fun w8 hg B hB => (show w8.heap[B]? = w7.drew.heap[B]? from grown_lowv (w1 := w7.drew) hg hcub7 hB hsz7)
                have hS1 : w7.drew.cell? ⟨w.heap.size, 5, none⟩ = some (.slice (some ⟨b1, o1, none⟩) ml c) ∧ w7.drew.cell? ⟨w.heap.size + 1 + 1, 5, none⟩ = some (.slice A6 n6 c6) := ⟨p57, g57⟩
                have hS8 := fun (w8 : World) (hg : (w7.drew).grownBy w8 ((.slice A6 n6 c6) : Value).ownBlock) => (show w8.cell? ⟨w.heap.size, 5, none⟩ = some (.slice (some ⟨b1, o1, none⟩) ml c) ∧ w8.cell? ⟨w.heap.size + 1 + 1, 5, none⟩ = some (.slice A6 n6 c6) from ⟨(World.cell?_of_block (a := ⟨w.heap.size, 5, none⟩) (HL8 w8 hg w.heap.size (by omega))).trans p57, (World.cell?_of_block (a := ⟨w.heap.size + 1 + 1, 5, none⟩) (HL8 w8 hg (w.heap.size + 1 + 1) (by omega))).trans g57⟩)
                have hF8 := fun (w8 : World) (hg : (w7.drew).grownBy w8 ((.slice A6 n6 c6) : Value).ownBlock) => blk_frozen ((HL8 w8 hg (w.heap.size + 1 + 1) (by omega)).trans hb27) 5
                replace HL8 := Lib.hid HL8
                replace hb07 := Lib.hid hb07
                replace hb17 := Lib.hid hb17
                replace hb27 := Lib.hid hb27
                refine region_lastp (fun W => W.cell? ⟨w.heap.size, 5, none⟩ = some (.slice (some ⟨b1, o1, none⟩) ml c) ∧ W.cell? ⟨w.heap.size + 1 + 1, 5, none⟩ = some (.slice A6 n6 c6)) (by kernel_rfl) rfl (by kernel_rfl) ?_
                (try simp only [List.pop_toArray, List.dropLast_cons_cons, List.dropLast_singleton, List.size_toArray, List.length_cons, List.length_nil, Nat.zero_add, Nat.reduceAdd])
                refine wpAnyH_takeL (i := 0) (v := ?v100) rfl (by kernel_rfl) (by kernel_rfl) (by kernel_rfl) (fun _ _ _ h => h) (Or.inl ⟨by rfl, ?y100⟩) (by assumption) ?r100
                case y100 => (intro W hSw; (try dsimp only at hSw); go_simp; try with_reducible rfl)
                (try simp only [Act.put, List.setIfInBounds_toArray, List.set_cons_zero, List.set_cons_succ])
                refine wpAnyH_takeL (i := 1) (v := ?v101) rfl (by kernel_rfl) (by kernel_rfl) (by kernel_rfl) (fun _ _ _ h => h) (Or.inl ⟨by rfl, ?y101⟩) (by assumption) ?r101
                case y101 => (intro W hSw; (try dsimp only at hSw); go_simp; try with_reducible rfl)
                (try simp only [Act.put, List.setIfInBounds_toArray, List.set_cons_zero, List.set_cons_succ])
                refine wpAnyH_takeL (i := 2) (v := ?v102) rfl (by kernel_rfl) (by kernel_rfl) (by kernel_rfl) (fun _ _ _ h => h) (Or.inl ⟨by rfl, ?y102⟩) (by assumption) ?r102
                case y102 => (intro W hSw; (try dsimp only at hSw); go_simp; try with_reducible rfl)
                (try simp only [Act.put, List.setIfInBounds_toArray, List.set_cons_zero, List.set_cons_succ])
                refine wpAnyH_takeL (i := 3) (v := ?v103) rfl (by kernel_rfl) (by kernel_rfl) (by kernel_rfl) (fun _ _ _ h => h) (Or.inl ⟨by rfl, ?y103⟩) (by assumption) ?r103
                case y103 => (intro W hSw; (try dsimp only at hSw); go_simp; try with_reducible rfl)
                (try simp only [Act.put, List.setIfInBounds_toArray, List.set_cons_zero, List.set_cons_succ])
                refine wpAnyH_takeL (i := 4) (v := ?v104) rfl (by kernel_rfl) (by kernel_rfl) (by kernel_rfl) (fun _ _ _ h => h) (Or.inl ⟨by rfl, ?y104⟩) (by assumption) ?r104
                case y104 => (intro W hSw; (try dsimp only at hSw); go_simp; try with_reducible rfl)
                (try simp only [Act.put, List.setIfInBounds_toArray, List.set_cons_zero, List.set_cons_succ])
                refine wpAnyH_takeL (i := 5) (v := ?v105) rfl (by kernel_rfl) (by kernel_rfl) (by kernel_rfl) (fun _ _ _ h => h) (Or.inl ⟨by rfl, ?y105⟩) (by assumption) ?r105
                case y105 => (intro W hSw; (try dsimp only at hSw); go_simp; try with_reducible rfl)
                (try simp only [Act.put, List.setIfInBounds_toArray, List.set_cons_zero, List.set_cons_succ])
                refine wpAnyH_ready (rs := [6]) (by kernel_rfl) (by simp) ?_
                refine consL rfl (fun K hK => ?_) AllReadyH.nil
                (refine step_append_en _ (by rfl) _ _ 28 (by rfl) (w.heap.size + 3) 84 i0 (.agg #[.int .u64 0, .int .u64 0, .string ⟨#[]⟩]) 32 Try.underlying28 hi0 hz0 hz1 hz2 rfl (.slice A6 n6 c6) ((m.take j) ++ [(⟨i, u, s⟩ : En)]) (by rfl) (hrow7.below (Below.refl _ _).drew) (LoV w.heap.size) (if c = j then some ⟨b1, o1, none⟩ else some ⟨b1, o1 + j * 3, none⟩) (ml - j) (c - j) (m.drop j) (by rfl) (by rw [List.length_drop]; have := HML.out; omega) (fun h => if_some h) (by rw [List.length_drop]; have := HML.out; omega) hl3 (by unfold maxLen; omega) (by omega) hsz7 ?_; intro A8 n8 c8 w8 h8 hrow8 hg8; have hf8 := hF8 w8 hg8; have hS9 := hS8 w8 hg8; have g58 := hS9.2)
                refine hK.out _ _ (hS9) (fun hHeld => ?_)
                clear hK K
                (try simp only [Act.put, List.setIfInBounds_toArray, List.set_cons_zero, List.set_cons_succ])
                refine wpAnyH_takeL (i := 7) (v := ?v106) rfl (by kernel_rfl) (by kernel_rfl) (by kernel_rfl) (fun _ _ _ h => h) (Or.inl ⟨by rfl, ?y106⟩) (by assumption) ?r106
                case y106 => (intro W hSw; (try dsimp only at hSw); go_simp; try with_reducible rfl)
                (try simp only [Act.put, List.setIfInBounds_toArray, List.set_cons_zero, List.set_cons_succ])
                refine wpAnyH_done (by kernel_rfl) ?_ _
                refine lastQ_of rfl (fun K hK => ?_)
                go_simp
                refine hK.out _ _ ?_
                clear hK K
                have hb19 := (Below.heap_setCell w8 ⟨w.heap.size + 1 + 1, 5, none⟩ (.slice A8 n8 c8) (w.heap.size + 1) (by simp)).trans ((HL8.out w8 hg8 _ (by omega)).trans hb17.out)
                have hb29 := six_set5 ((HL8.out w8 hg8 _ (by omega)).trans hb27.out) (.slice A8 n8 c8)
                have hW9 := (hW7.trans ((Below.refl _ _).drew.grown hg8 (Nat.le_trans (Nat.le_add_right _ 3) hsz7) (fun j ej => Nat.le_trans (by omega) (hcub7 j ej)))).setCell (p := ⟨w.heap.size + 1 + 1, 5, none⟩) (by simp; omega) (.slice A8 n8 c8)
                have hrow9 : RowE (w8.setCell ⟨w.heap.size + 1 + 1, 5, none⟩ (.slice A8 n8 c8)) (w.heap.size + 3) 84 (.slice A8 n8 c8) (((m.take j) ++ [(⟨i, u, s⟩ : En)]) ++ m.drop j) := own_keptv hrow8 (fun b h1 _ => Below.heap_setCell _ _ _ b (by simp; omega))
                clear hf8 g58
                generalize w8.setCell ⟨w.heap.size + 1 + 1, 5, none⟩ (.slice A8 n8 c8) = w9 at *
                obtain ⟨q0, q1, q2, q3, q4, q5⟩ := six hb19
                obtain ⟨z0, z1, z2, z3, z4, z5⟩ := six hb29
                have hf1 := blk_frozen hb19
                replace hb19 := Lib.hid hb19
                replace hb29 := Lib.hid hb29
                go_wp2_with fail
                all_goals
                  refine bodyPost_ret (v := .agg #[.int .i64 k, .int .i64 n, .int .i64 ix, .int .u64 0, .string ⟨#[]⟩, .slice A8 n8 c8]) (by simp [results, Try.results62, go_sem, q0, q1, q2, q3, q4, q5]) rfl ?_
                  obtain ⟨e1, e2, e3⟩ := h8.out
                  have hm := set6_below (N := w.heap.size + 1) hW9 (Nat.le_succ w.heap.size) (.int .i64 k) (.int .i64 n) (.int .i64 ix) (.int .u64 0) (.string ⟨#[]⟩) (.slice A8 n8 c8)
                  have HPf := HPut.out
                  rw [hnew] at HPf
                  simp only [Bool.false_eq_true, if_false] at HPf hrow9 e1
                  have Hokf := Hok.out
                  rw [HPf] at Hokf ⊢
                  subst e1
                  refine ⟨_, rfl, VaV.mk Hokf e2 e3 (hrow9.list.to (fun b hb => ⟨⟨by have := hb.1; omega, by rw [set6_size]; exact hb.2⟩, set6_heap _ _ _ _ _ _ (by have := hb.1; omega)⟩)), hm⟩
              · have gs : decide (0 < (s.size : Int)) = false := decide_eq_false (by omega)
                have hnew : newE i u s = [] := by unfold newE; rw [show (s.size == 0) = true by rw [beq_iff_eq]; omega, huz]; rfl
                clear huz
                have p50 := (six hb0).2.2.2.2.2
                have g51 := (six hb2).2.2.2.2.2
                have hf51 := blk_frozen hb2 5
                obtain ⟨y0, _, _⟩ := h3p.to (hW.block b1 hbB)
                replace hb0 := Lib.hid hb0
                replace hb1 := Lib.hid hb1
                replace hb2 := Lib.hid hb2
                have HWr := Lib.hid hW
                go_wp2_with fail
                have hb07 := hb0.out
                have hb17 := hb1.out
                have hb27 := hb2.out
                have hW7 := HWr.out
                have hsz7 := hsz
                have hrow7 := hrow
                have hl7 : (m.take j).length ≤ 100001 := by rw [hjl]; omega
                clear p50 g51 hf51 y0 hb0 hb1 hb2 hrow hW hsz
                obtain ⟨w7, rfl⟩ : ∃ w7, w7 = wr := ⟨_, rfl⟩
                have hl3 := ((HG.out w7.drew hW7.drew).after hmcN.out j)
                have p57 := (six hb07).2.2.2.2.2
                have g57 := (six hb27).2.2.2.2.2
                have hcub7 : ∀ b, ((cu) : Value).ownBlock = some b → w.heap.size + 3 ≤ b := hrow7.blk
                have HL8 : ∀ w8, (w7.drew).grownBy w8 ((cu) : Value).ownBlock → ∀ B, B < w.heap.size + 3 → w8.heap[B]? = w7.heap[B]? := fun w8 hg B hB => (show w8.heap[B]? = w7.drew.heap[B]? from grown_lowv (w1 := w7.drew) hg hcub7 hB hsz7)
                have hS1 : w7.drew.cell? ⟨w.heap.size, 5, none⟩ = some (.slice (some ⟨b1, o1, none⟩) ml c) ∧ w7.drew.cell? ⟨w.heap.size + 1 + 1, 5, none⟩ = some (cu) := ⟨p57, g57⟩
                have hS8 := fun (w8 : World) (hg : (w7.drew).grownBy w8 ((cu) : Value).ownBlock) => (show w8.cell? ⟨w.heap.size, 5, none⟩ = some (.slice (some ⟨b1, o1, none⟩) ml c) ∧ w8.cell? ⟨w.heap.size + 1 + 1, 5, none⟩ = some (cu) from ⟨(World.cell?_of_block (a := ⟨w.heap.size, 5, none⟩) (HL8 w8 hg w.heap.size (by omega))).trans p57, (World.cell?_of_block (a := ⟨w.heap.size + 1 + 1, 5, none⟩) (HL8 w8 hg (w.heap.size + 1 + 1) (by omega))).trans g57⟩)
                have hF8 := fun (w8 : World) (hg : (w7.drew).grownBy w8 ((cu) : Value).ownBlock) => blk_frozen ((HL8 w8 hg (w.heap.size + 1 + 1) (by omega)).trans hb27) 5
                replace HL8 := Lib.hid HL8
                replace hb07 := Lib.hid hb07
                replace hb17 := Lib.hid hb17
                replace hb27 := Lib.hid hb27
                refine region_lastp (fun W => W.cell? ⟨w.heap.size, 5, none⟩ = some (.slice (some ⟨b1, o1, none⟩) ml c) ∧ W.cell? ⟨w.heap.size + 1 + 1, 5, none⟩ = some (cu)) (by kernel_rfl) rfl (by kernel_rfl) ?_
                (try simp only [List.pop_toArray, List.dropLast_cons_cons, List.dropLast_singleton, List.size_toArray, List.length_cons, List.length_nil, Nat.zero_add, Nat.reduceAdd])
                refine wpAnyH_takeL (i := 0) (v := ?v107) rfl (by kernel_rfl) (by kernel_rfl) (by kernel_rfl) (fun _ _ _ h => h) (Or.inl ⟨by rfl, ?y107⟩) (by assumption) ?r107
                case y107 => (intro W hSw; (try dsimp only at hSw); go_simp; try with_reducible rfl)
                (try simp only [Act.put, List.setIfInBounds_toArray, List.set_cons_zero, List.set_cons_succ])
                refine wpAnyH_takeL (i := 1) (v := ?v108) rfl (by kernel_rfl) (by kernel_rfl) (by kernel_rfl) (fun _ _ _ h => h) (Or.inl ⟨by rfl, ?y108⟩) (by assumption) ?r108
                case y108 => (intro W hSw; (try dsimp only at hSw); go_simp; try with_reducible rfl)
                (try simp only [Act.put, List.setIfInBounds_toArray, List.set_cons_zero, List.set_cons_succ])
                refine wpAnyH_takeL (i := 2) (v := ?v109) rfl (by kernel_rfl) (by kernel_rfl) (by kernel_rfl) (fun _ _ _ h => h) (Or.inl ⟨by rfl, ?y109⟩) (by assumption) ?r109
                case y109 => (intro W hSw; (try dsimp only at hSw); go_simp; try with_reducible rfl)
                (try simp only [Act.put, List.setIfInBounds_toArray, List.set_cons_zero, List.set_cons_succ])
                refine wpAnyH_takeL (i := 3) (v := ?v110) rfl (by kernel_rfl) (by kernel_rfl) (by kernel_rfl) (fun _ _ _ h => h) (Or.inl ⟨by rfl, ?y110⟩) (by assumption) ?r110
                case y110 => (intro W hSw; (try dsimp only at hSw); go_simp; try with_reducible rfl)
                (try simp only [Act.put, List.setIfInBounds_toArray, List.set_cons_zero, List.set_cons_succ])
                refine wpAnyH_takeL (i := 4) (v := ?v111) rfl (by kernel_rfl) (by kernel_rfl) (by kernel_rfl) (fun _ _ _ h => h) (Or.inl ⟨by rfl, ?y111⟩) (by assumption) ?r111
                case y111 => (intro W hSw; (try dsimp only at hSw); go_simp; try with_reducible rfl)
                (try simp only [Act.put, List.setIfInBounds_toArray, List.set_cons_zero, List.set_cons_succ])
                refine wpAnyH_takeL (i := 5) (v := ?v112) rfl (by kernel_rfl) (by kernel_rfl) (by kernel_rfl) (fun _ _ _ h => h) (Or.inl ⟨by rfl, ?y112⟩) (by assumption) ?r112
                case y112 => (intro W hSw; (try dsimp only at hSw); go_simp; try with_reducible rfl)
                (try simp only [Act.put, List.setIfInBounds_toArray, List.set_cons_zero, List.set_cons_succ])
                refine wpAnyH_ready (rs := [6]) (by kernel_rfl) (by simp) ?_
                refine consL rfl (fun K hK => ?_) AllReadyH.nil
                (refine step_append_en _ (by rfl) _ _ 28 (by rfl) (w.heap.size + 3) 84 i0 (.agg #[.int .u64 0, .int .u64 0, .string ⟨#[]⟩]) 32 Try.underlying28 hi0 hz0 hz1 hz2 rfl (cu) (m.take j) (by rfl) (hrow7.below (Below.refl _ _).drew) (LoV w.heap.size) (if c = j then some ⟨b1, o1, none⟩ else some ⟨b1, o1 + j * 3, none⟩) (ml - j) (c - j) (m.drop j) (by rfl) (by rw [List.length_drop]; have := HML.out; omega) (fun h => if_some h) (by rw [List.length_drop]; have := HML.out; omega) hl3 (by unfold maxLen; omega) (by omega) hsz7 ?_; intro A8 n8 c8 w8 h8 hrow8 hg8; have hf8 := hF8 w8 hg8; have hS9 := hS8 w8 hg8; have g58 := hS9.2)
                refine hK.out _ _ (hS9) (fun hHeld => ?_)
                clear hK K
                (try simp only [Act.put, List.setIfInBounds_toArray, List.set_cons_zero, List.set_cons_succ])
                refine wpAnyH_takeL (i := 7) (v := ?v113) rfl (by kernel_rfl) (by kernel_rfl) (by kernel_rfl) (fun _ _ _ h => h) (Or.inl ⟨by rfl, ?y113⟩) (by assumption) ?r113
                case y113 => (intro W hSw; (try dsimp only at hSw); go_simp; try with_reducible rfl)
                (try simp only [Act.put, List.setIfInBounds_toArray, List.set_cons_zero, List.set_cons_succ])
                refine wpAnyH_done (by kernel_rfl) ?_ _
                refine lastQ_of rfl (fun K hK => ?_)
                go_simp
                refine hK.out _ _ ?_
                clear hK K
                have hb19 := (Below.heap_setCell w8 ⟨w.heap.size + 1 + 1, 5, none⟩ (.slice A8 n8 c8) (w.heap.size + 1) (by simp)).trans ((HL8.out w8 hg8 _ (by omega)).trans hb17.out)
                have hb29 := six_set5 ((HL8.out w8 hg8 _ (by omega)).trans hb27.out) (.slice A8 n8 c8)
                have hW9 := (hW7.trans ((Below.refl _ _).drew.grown hg8 (Nat.le_trans (Nat.le_add_right _ 3) hsz7) (fun j ej => Nat.le_trans (by omega) (hcub7 j ej)))).setCell (p := ⟨w.heap.size + 1 + 1, 5, none⟩) (by simp; omega) (.slice A8 n8 c8)
                have hrow9 : RowE (w8.setCell ⟨w.heap.size + 1 + 1, 5, none⟩ (.slice A8 n8 c8)) (w.heap.size + 3) 84 (.slice A8 n8 c8) ((m.take j) ++ m.drop j) := own_keptv hrow8 (fun b h1 _ => Below.heap_setCell _ _ _ b (by simp; omega))
                clear hf8 g58
                generalize w8.setCell ⟨w.heap.size + 1 + 1, 5, none⟩ (.slice A8 n8 c8) = w9 at *
                obtain ⟨q0, q1, q2, q3, q4, q5⟩ := six hb19
                obtain ⟨z0, z1, z2, z3, z4, z5⟩ := six hb29
                have hf1 := blk_frozen hb19
                replace hb19 := Lib.hid hb19
                replace hb29 := Lib.hid hb29
                go_wp2_with fail
                all_goals
                  refine bodyPost_ret (v := .agg #[.int .i64 k, .int .i64 n, .int .i64 ix, .int .u64 0, .string ⟨#[]⟩, .slice A8 n8 c8]) (by simp [results, Try.results62, go_sem, q0, q1, q2, q3, q4, q5]) rfl ?_
                  obtain ⟨e1, e2, e3⟩ := h8.out
                  have hm := set6_below (N := w.heap.size + 1) hW9 (Nat.le_succ w.heap.size) (.int .i64 k) (.int .i64 n) (.int .i64 ix) (.int .u64 0) (.string ⟨#[]⟩) (.slice A8 n8 c8)
                  have HPf := HPut.out
                  rw [hnew] at HPf
                  simp only [Bool.false_eq_true, if_false, List.append_nil] at HPf hrow9 e1
                  have Hokf := Hok.out
                  rw [HPf] at Hokf ⊢
                  subst e1
                  refine ⟨_, rfl, VaV.mk Hokf e2 e3 (hrow9.list.to (fun b hb => ⟨⟨by have := hb.1; omega, by rw [set6_size]; exact hb.2⟩, set6_heap _ _ _ _ _ _ (by have := hb.1; omega)⟩)), hm⟩

        · have gP : decide ((j : Int) < (ml : Int)) = false := decide_eq_false (by omega)
          have hFt : F = false := HFz.out (by have := HML.out; omega)
          subst hFt
          have HG := Lib.hid (fun (W : World) (h : Below w.heap.size w W) => (show EnL W (LoV w.heap.size) m (some ⟨b1, o1, none⟩) from hl.to (fun b hb => ⟨hb, h.block b hb⟩)))
          by_cases hu0 : 0 < u
          · have gu : decide (0 < u) = true := decide_eq_true hu0
            have hnew : newE i u s = [⟨i, u, s⟩] := by unfold newE; rw [show (u == 0) = false by simp; omega]; rfl
            have HRn : RowE (wr.alloc (.cells #[.int .u64 i, .int .u64 u, .string s] 84)) (w.heap.size + 3) 84 cu (m.take j) := hrow.below ((Below.refl _ _).alloc (Nat.le_refl _) _)
            have HNn : EnL (wr.alloc (.cells #[.int .u64 i, .int .u64 u, .string s] 84)) (fun _ => True) [⟨i, u, s⟩] (some ⟨wr.heap.size, 0, none⟩) := enl_one (heap_alloc_new wr (.cells #[.int .u64 i, .int .u64 u, .string s] 84)) trivial
            have HBn : w.heap.size + 3 ≤ (wr.alloc (.cells #[.int .u64 i, .int .u64 u, .string s] 84)).heap.size := by simp; omega
            have HLn : ∀ w6, (wr.alloc (.cells #[.int .u64 i, .int .u64 u, .string s] 84)).grownBy w6 cu.ownBlock → ∀ B, B < w.heap.size + 3 → w6.heap[B]? = wr.heap[B]? := fun w6 hg B hB => (grown_lowv hg hcub hB HBn).trans (Below.heap_alloc wr _ B (by omega))
            have HWn : ∀ w6, (wr.alloc (.cells #[.int .u64 i, .int .u64 u, .string s] 84)).grownBy w6 cu.ownBlock → Below w.heap.size w w6 := fun w6 hg => hW.trans (((Below.refl _ _).alloc (Nat.le_trans (Nat.le_add_right _ 3) hsz) _).grown hg (by simp; omega) (fun j ej => Nat.le_trans (by omega) (hcub j ej)))
            have HZn : ∀ w6, (wr.alloc (.cells #[.int .u64 i, .int .u64 u, .string s] 84)).grownBy w6 cu.ownBlock → w.heap.size + 3 ≤ w6.heap.size := fun w6 hg => by have := hg.size; simp at this; omega
            have g50 := (cell_oldv (w := wr) (B := w.heap.size + 1 + 1) (i := 5) (by omega) (.cells #[.int .u64 i, .int .u64 u, .string s] 84)).trans (six hb2).2.2.2.2.2
            have p50 := (six hb0).2.2.2.2.2
            have g51 := (six hb2).2.2.2.2.2
            have hf51 := blk_frozen hb2 5
            replace hb0 := Lib.hid hb0
            replace hb1 := Lib.hid hb1
            replace hb2 := Lib.hid hb2
            have HWr := Lib.hid hW
            replace HLn := Lib.hid HLn
            replace HWn := Lib.hid HWn
            replace HZn := Lib.hid HZn
            replace hjl := Lib.hid hjl
            go_wp2_with (at_builtin; refine wpList_append_en _ rfl _ _ 28 rfl (w.heap.size + 3) 84 i0 (.agg #[.int .u64 0, .int .u64 0, .string ⟨#[]⟩]) 32 Try.underlying28 hi0 hz0 hz1 hz2 rfl cu (m.take j) rfl HRn (fun _ => True) (some ⟨wr.heap.size, 0, none⟩) 1 1 [⟨i, u, s⟩] rfl rfl (fun h => by cases h) (Nat.le_refl _) HNn (by rw [hjl.out]; unfold maxLen; omega) (by rw [hjl.out]; omega) HBn ?_; intro A6 n6 c6 w6 h6 hrow6 hg6; have hl6 := HLn.out w6 hg6; have hf6 := blk_frozen ((hl6 _ (by omega)).trans hb2.out) 5; have g56 := (six ((hl6 _ (by omega)).trans hb2.out)).2.2.2.2.2; have p57 := (World.cell?_of_block (a := ⟨w.heap.size, 5, none⟩) ((Below.heap_setCell w6 ⟨w.heap.size + 1 + 1, 5, none⟩ (.slice A6 n6 c6) w.heap.size (by simp; omega)).trans (hl6 _ (by omega)))).trans p50; replace hl6 := Lib.hid hl6)
            have hb07 := (Below.heap_setCell w6 ⟨w.heap.size + 1 + 1, 5, none⟩ (.slice A6 n6 c6) w.heap.size (by simp; omega)).trans ((hl6.out _ (by omega)).trans hb0.out)
            have hb17 := (Below.heap_setCell w6 ⟨w.heap.size + 1 + 1, 5, none⟩ (.slice A6 n6 c6) (w.heap.size + 1) (by simp)).trans ((hl6.out _ (by omega)).trans hb1.out)
            have hb27 := six_set5 ((hl6.out _ (by omega)).trans hb2.out) (.slice A6 n6 c6)
            have hW7 := (HWn.out w6 hg6).setCell (p := ⟨w.heap.size + 1 + 1, 5, none⟩) (by simp; omega) (.slice A6 n6 c6)
            have hsz7 : w.heap.size + 3 ≤ (w6.setCell ⟨w.heap.size + 1 + 1, 5, none⟩ (.slice A6 n6 c6)).heap.size := by have := HZn.out w6 hg6; simpa [World.setCell] using this
            have hrow7 : RowE (w6.setCell ⟨w.heap.size + 1 + 1, 5, none⟩ (.slice A6 n6 c6)) (w.heap.size + 3) 84 (.slice A6 n6 c6) ((m.take j) ++ [(⟨i, u, s⟩ : En)]) := own_keptv hrow6 (fun b h1 _ => Below.heap_setCell _ _ _ b (by simp; omega))
            clear p50 g50 g51 hf51 hf6 g56 p57
            generalize w6.setCell ⟨w.heap.size + 1 + 1, 5, none⟩ (.slice A6 n6 c6) = w7 at *
            have hl7 : ((m.take j) ++ [(⟨i, u, s⟩ : En)]).length ≤ 100001 := by rw [List.length_append, hjl.out, List.length_singleton]; omega
            have hl3 := ((HG.out w7.drew hW7.drew).after hmcN.out j)
            have p57 := (six hb07).2.2.2.2.2
            have g57 := (six hb27).2.2.2.2.2
            have hcub7 : ∀ b, ((.slice A6 n6 c6) : Value).ownBlock = some b → w.heap.size + 3 ≤ b := hrow7.blk
            have HL8 : ∀ w8, (w7.drew).grownBy w8 ((.slice A6 n6 c6) : Value).ownBlock → ∀ B, B < w.heap.size + 3 → w8.heap[B]? = w7.heap[B]? := fun w8 hg B hB => (show w8.heap[B]? = w7.drew.heap[B]? from grown_lowv (w1 := w7.drew) hg hcub7 hB hsz7)
            have hS1 : w7.drew.cell? ⟨w.heap.size, 5, none⟩ = some (.slice (some ⟨b1, o1, none⟩) ml c) ∧ w7.drew.cell? ⟨w.heap.size + 1 + 1, 5, none⟩ = some (.slice A6 n6 c6) := ⟨p57, g57⟩
            have hS8 := fun (w8 : World) (hg : (w7.drew).grownBy w8 ((.slice A6 n6 c6) : Value).ownBlock) => (show w8.cell? ⟨w.heap.size, 5, none⟩ = some (.slice (some ⟨b1, o1, none⟩) ml c) ∧ w8.cell? ⟨w.heap.size + 1 + 1, 5, none⟩ = some (.slice A6 n6 c6) from ⟨(World.cell?_of_block (a := ⟨w.heap.size, 5, none⟩) (HL8 w8 hg w.heap.size (by omega))).trans p57, (World.cell?_of_block (a := ⟨w.heap.size + 1 + 1, 5, none⟩) (HL8 w8 hg (w.heap.size + 1 + 1) (by omega))).trans g57⟩)
            have hF8 := fun (w8 : World) (hg : (w7.drew).grownBy w8 ((.slice A6 n6 c6) : Value).ownBlock) => blk_frozen ((HL8 w8 hg (w.heap.size + 1 + 1) (by omega)).trans hb27) 5
            replace HL8 := Lib.hid HL8
            replace hb07 := Lib.hid hb07
            replace hb17 := Lib.hid hb17
            replace hb27 := Lib.hid hb27
            refine region_lastp (fun W => W.cell? ⟨w.heap.size, 5, none⟩ = some (.slice (some ⟨b1, o1, none⟩) ml c) ∧ W.cell? ⟨w.heap.size + 1 + 1, 5, none⟩ = some (.slice A6 n6 c6)) (by kernel_rfl) rfl (by kernel_rfl) ?_
            (try simp only [List.pop_toArray, List.dropLast_cons_cons, List.dropLast_singleton, List.size_toArray, List.length_cons, List.length_nil, Nat.zero_add, Nat.reduceAdd])
            refine wpAnyH_takeL (i := 0) (v := ?v114) rfl (by kernel_rfl) (by kernel_rfl) (by kernel_rfl) (fun _ _ _ h => h) (Or.inl ⟨by rfl, ?y114⟩) (by assumption) ?r114
            case y114 => (intro W hSw; (try dsimp only at hSw); go_simp; try with_reducible rfl)
            (try simp only [Act.put, List.setIfInBounds_toArray, List.set_cons_zero, List.set_cons_succ])
            refine wpAnyH_takeL (i := 1) (v := ?v115) rfl (by kernel_rfl) (by kernel_rfl) (by kernel_rfl) (fun _ _ _ h => h) (Or.inl ⟨by rfl, ?y115⟩) (by assumption) ?r115
            case y115 => (intro W hSw; (try dsimp only at hSw); go_simp; try with_reducible rfl)
            (try simp only [Act.put, List.setIfInBounds_toArray, List.set_cons_zero, List.set_cons_succ])
            refine wpAnyH_takeL (i := 2) (v := ?v116) rfl (by kernel_rfl) (by kernel_rfl) (by kernel_rfl) (fun _ _ _ h => h) (Or.inl ⟨by rfl, ?y116⟩) (by assumption) ?r116
            case y116 => (intro W hSw; (try dsimp only at hSw); go_simp; try with_reducible rfl)
            (try simp only [Act.put, List.setIfInBounds_toArray, List.set_cons_zero, List.set_cons_succ])
            refine wpAnyH_takeL (i := 3) (v := ?v117) rfl (by kernel_rfl) (by kernel_rfl) (by kernel_rfl) (fun _ _ _ h => h) (Or.inl ⟨by rfl, ?y117⟩) (by assumption) ?r117
            case y117 => (intro W hSw; (try dsimp only at hSw); go_simp; try with_reducible rfl)
            (try simp only [Act.put, List.setIfInBounds_toArray, List.set_cons_zero, List.set_cons_succ])
            refine wpAnyH_takeL (i := 4) (v := ?v118) rfl (by kernel_rfl) (by kernel_rfl) (by kernel_rfl) (fun _ _ _ h => h) (Or.inl ⟨by rfl, ?y118⟩) (by assumption) ?r118
            case y118 => (intro W hSw; (try dsimp only at hSw); go_simp; try with_reducible rfl)
            (try simp only [Act.put, List.setIfInBounds_toArray, List.set_cons_zero, List.set_cons_succ])
            refine wpAnyH_takeL (i := 5) (v := ?v119) rfl (by kernel_rfl) (by kernel_rfl) (by kernel_rfl) (fun _ _ _ h => h) (Or.inl ⟨by rfl, ?y119⟩) (by assumption) ?r119
            case y119 => (intro W hSw; (try dsimp only at hSw); go_simp; try with_reducible rfl)
            (try simp only [Act.put, List.setIfInBounds_toArray, List.set_cons_zero, List.set_cons_succ])
            refine wpAnyH_ready (rs := [6]) (by kernel_rfl) (by simp) ?_
            refine consL rfl (fun K hK => ?_) AllReadyH.nil
            (refine step_append_en _ (by rfl) _ _ 28 (by rfl) (w.heap.size + 3) 84 i0 (.agg #[.int .u64 0, .int .u64 0, .string ⟨#[]⟩]) 32 Try.underlying28 hi0 hz0 hz1 hz2 rfl (.slice A6 n6 c6) ((m.take j) ++ [(⟨i, u, s⟩ : En)]) (by rfl) (hrow7.below (Below.refl _ _).drew) (LoV w.heap.size) (if c = j then some ⟨b1, o1, none⟩ else some ⟨b1, o1 + j * 3, none⟩) (ml - j) (c - j) (m.drop j) (by rfl) (by rw [List.length_drop]; have := HML.out; omega) (fun h => if_some h) (by rw [List.length_drop]; have := HML.out; omega) hl3 (by unfold maxLen; omega) (by omega) hsz7 ?_; intro A8 n8 c8 w8 h8 hrow8 hg8; have hf8 := hF8 w8 hg8; have hS9 := hS8 w8 hg8; have g58 := hS9.2)
            refine hK.out _ _ (hS9) (fun hHeld => ?_)
            clear hK K
            (try simp only [Act.put, List.setIfInBounds_toArray, List.set_cons_zero, List.set_cons_succ])
            refine wpAnyH_takeL (i := 7) (v := ?v120) rfl (by kernel_rfl) (by kernel_rfl) (by kernel_rfl) (fun _ _ _ h => h) (Or.inl ⟨by rfl, ?y120⟩) (by assumption) ?r120
            case y120 => (intro W hSw; (try dsimp only at hSw); go_simp; try with_reducible rfl)
            (try simp only [Act.put, List.setIfInBounds_toArray, List.set_cons_zero, List.set_cons_succ])
            refine wpAnyH_done (by kernel_rfl) ?_ _
            refine lastQ_of rfl (fun K hK => ?_)
            go_simp
            refine hK.out _ _ ?_
            clear hK K
            have hb19 := (Below.heap_setCell w8 ⟨w.heap.size + 1 + 1, 5, none⟩ (.slice A8 n8 c8) (w.heap.size + 1) (by simp)).trans ((HL8.out w8 hg8 _ (by omega)).trans hb17.out)
            have hb29 := six_set5 ((HL8.out w8 hg8 _ (by omega)).trans hb27.out) (.slice A8 n8 c8)
            have hW9 := (hW7.trans ((Below.refl _ _).drew.grown hg8 (Nat.le_trans (Nat.le_add_right _ 3) hsz7) (fun j ej => Nat.le_trans (by omega) (hcub7 j ej)))).setCell (p := ⟨w.heap.size + 1 + 1, 5, none⟩) (by simp; omega) (.slice A8 n8 c8)
            have hrow9 : RowE (w8.setCell ⟨w.heap.size + 1 + 1, 5, none⟩ (.slice A8 n8 c8)) (w.heap.size + 3) 84 (.slice A8 n8 c8) (((m.take j) ++ [(⟨i, u, s⟩ : En)]) ++ m.drop j) := own_keptv hrow8 (fun b h1 _ => Below.heap_setCell _ _ _ b (by simp; omega))
            clear hf8 g58
            generalize w8.setCell ⟨w.heap.size + 1 + 1, 5, none⟩ (.slice A8 n8 c8) = w9 at *
            obtain ⟨q0, q1, q2, q3, q4, q5⟩ := six hb19
            obtain ⟨z0, z1, z2, z3, z4, z5⟩ := six hb29
            have hf1 := blk_frozen hb19
            replace hb19 := Lib.hid hb19
            replace hb29 := Lib.hid hb29
            go_wp2_with fail
            all_goals
              refine bodyPost_ret (v := .agg #[.int .i64 k, .int .i64 n, .int .i64 ix, .int .u64 0, .string ⟨#[]⟩, .slice A8 n8 c8]) (by simp [results, Try.results62, go_sem, q0, q1, q2, q3, q4, q5]) rfl ?_
              obtain ⟨e1, e2, e3⟩ := h8.out
              have hm := set6_below (N := w.heap.size + 1) hW9 (Nat.le_succ w.heap.size) (.int .i64 k) (.int .i64 n) (.int .i64 ix) (.int .u64 0) (.string ⟨#[]⟩) (.slice A8 n8 c8)
              have HPf := HPut.out
              rw [hnew] at HPf
              simp only [Bool.false_eq_true, if_false] at HPf hrow9 e1
              have Hokf := Hok.out
              rw [HPf] at Hokf ⊢
              subst e1
              refine ⟨_, rfl, VaV.mk Hokf e2 e3 (hrow9.list.to (fun b hb => ⟨⟨by have := hb.1; omega, by rw [set6_size]; exact hb.2⟩, set6_heap _ _ _ _ _ _ (by have := hb.1; omega)⟩)), hm⟩
          · have gu : decide (0 < u) = false := decide_eq_false hu0
            have huz : u = 0 := by have := hu.out.1; omega
            by_cases hs0 : 0 < s.size
            · have gs : decide (0 < (s.size : Int)) = true := decide_eq_true (by omega)
              have hnew : newE i u s = [⟨i, u, s⟩] := by unfold newE; rw [show (s.size == 0) = false by rw [beq_eq_false_iff_ne]; omega, Bool.and_false]; rfl
              clear huz
              have HRn : RowE (wr.alloc (.cells #[.int .u64 i, .int .u64 u, .string s] 84)) (w.heap.size + 3) 84 cu (m.take j) := hrow.below ((Below.refl _ _).alloc (Nat.le_refl _) _)
              have HNn : EnL (wr.alloc (.cells #[.int .u64 i, .int .u64 u, .string s] 84)) (fun _ => True) [⟨i, u, s⟩] (some ⟨wr.heap.size, 0, none⟩) := enl_one (heap_alloc_new wr (.cells #[.int .u64 i, .int .u64 u, .string s] 84)) trivial
              have HBn : w.heap.size + 3 ≤ (wr.alloc (.cells #[.int .u64 i, .int .u64 u, .string s] 84)).heap.size := by simp; omega
              have HLn : ∀ w6, (wr.alloc (.cells #[.int .u64 i, .int .u64 u, .string s] 84)).grownBy w6 cu.ownBlock → ∀ B, B < w.heap.size + 3 → w6.heap[B]? = wr.heap[B]? := fun w6 hg B hB => (grown_lowv hg hcub hB HBn).trans (Below.heap_alloc wr _ B (by omega))
              have HWn : ∀ w6, (wr.alloc (.cells #[.int .u64 i, .int .u64 u, .string s] 84)).grownBy w6 cu.ownBlock → Below w.heap.size w w6 := fun w6 hg => hW.trans (((Below.refl _ _).alloc (Nat.le_trans (Nat.le_add_right _ 3) hsz) _).grown hg (by simp; omega) (fun j ej => Nat.le_trans (by omega) (hcub j ej)))
              have HZn : ∀ w6, (wr.alloc (.cells #[.int .u64 i, .int .u64 u, .string s] 84)).grownBy w6 cu.ownBlock → w.heap.size + 3 ≤ w6.heap.size := fun w6 hg => by have := hg.size; simp at this; omega
              have g50 := (cell_oldv (w := wr) (B := w.heap.size + 1 + 1) (i := 5) (by omega) (.cells #[.int .u64 i, .int .u64 u, .string s] 84)).trans (six hb2).2.2.2.2.2
              have p50 := (six hb0).2.2.2.2.2
              have g51 := (six hb2).2.2.2.2.2
              have hf51 := blk_frozen hb2 5
              replace hb0 := Lib.hid hb0
              replace hb1 := Lib.hid hb1
              replace hb2 := Lib.hid hb2
              have HWr := Lib.hid hW
              replace HLn := Lib.hid HLn
              replace HWn := Lib.hid HWn
              replace HZn := Lib.hid HZn
              replace hjl := Lib.hid hjl
              go_wp2_with (at_builtin; refine wpList_append_en _ rfl _ _ 28 rfl (w.heap.size + 3) 84 i0 (.agg #[.int .u64 0, .int .u64 0, .string ⟨#[]⟩]) 32 Try.underlying28 hi0 hz0 hz1 hz2 rfl cu (m.take j) rfl HRn (fun _ => True) (some ⟨wr.heap.size, 0, none⟩) 1 1 [⟨i, u, s⟩] rfl rfl (fun h => by cases h) (Nat.le_refl _) HNn (by rw [hjl.out]; unfold maxLen; omega) (by rw [hjl.out]; omega) HBn ?_; intro A6 n6 c6 w6 h6 hrow6 hg6; have hl6 := HLn.out w6 hg6; have hf6 := blk_frozen ((hl6 _ (by omega)).trans hb2.out) 5; have g56 := (six ((hl6 _ (by omega)).trans hb2.out)).2.2.2.2.2; have p57 := (World.cell?_of_block (a := ⟨w.heap.size, 5, none⟩) ((Below.heap_setCell w6 ⟨w.heap.size + 1 + 1, 5, none⟩ (.slice A6 n6 c6) w.heap.size (by simp; omega)).trans (hl6 _ (by omega)))).trans p50; replace hl6 := Lib.hid hl6)
              have hb07 := (Below.heap_setCell w6 ⟨w.heap.size + 1 + 1, 5, none⟩ (.slice A6 n6 c6) w.heap.size (by simp; omega)).trans ((hl6.out _ (by omega)).trans hb0.out)
              have hb17 := (Below.heap_setCell w6 ⟨w.heap.size + 1 + 1, 5, none⟩ (.slice A6 n6 c6) (w.heap.size + 1) (by simp)).trans ((hl6.out _ (by omega)).trans hb1.out)
              have hb27 := six_set5 ((hl6.out _ (by omega)).trans hb2.out) (.slice A6 n6 c6)
              have hW7 := (HWn.out w6 hg6).setCell (p := ⟨w.heap.size + 1 + 1, 5, none⟩) (by simp; omega) (.slice A6 n6 c6)
              have hsz7 : w.heap.size + 3 ≤ (w6.setCell ⟨w.heap.size + 1 + 1, 5, none⟩ (.slice A6 n6 c6)).heap.size := by have := HZn.out w6 hg6; simpa [World.setCell] using this
              have hrow7 : RowE (w6.setCell ⟨w.heap.size + 1 + 1, 5, none⟩ (.slice A6 n6 c6)) (w.heap.size + 3) 84 (.slice A6 n6 c6) ((m.take j) ++ [(⟨i, u, s⟩ : En)]) := own_keptv hrow6 (fun b h1 _ => Below.heap_setCell _ _ _ b (by simp; omega))
              clear p50 g50 g51 hf51 hf6 g56 p57
              generalize w6.setCell ⟨w.heap.size + 1 + 1, 5, none⟩ (.slice A6 n6 c6) = w7 at *
              have hl7 : ((m.take j) ++ [(⟨i, u, s⟩ : En)]).length ≤ 100001 := by rw [List.length_append, hjl.out, List.length_singleton]; omega
              have hl3 := ((HG.out w7.drew hW7.drew).after hmcN.out j)
              have p57 := (six hb07).2.2.2.2.2
              have g57 := (six hb27).2.2.2.2.2
              have hcub7 : ∀ b, ((.slice A6 n6 c6) : Value).ownBlock = some b → w.heap.size + 3 ≤ b := hrow7.blk
              have HL8 : ∀ w8, (w7.drew).grownBy w8 ((.slice A6 n6 c6) : Value).ownBlock → ∀ B, B < w.heap.size + 3 → w8.heap[B]? = w7.heap[B]? := fun w8 hg B hB => (show w8.heap[B]? = w7.drew.heap[B]? from grown_lowv (w1 := w7.drew) hg hcub7 hB hsz7)
              have hS1 : w7.drew.cell? ⟨w.heap.size, 5, none⟩ = some (.slice (some ⟨b1, o1, none⟩) ml c) ∧ w7.drew.cell? ⟨w.heap.size + 1 + 1, 5, none⟩ = some (.slice A6 n6 c6) := ⟨p57, g57⟩
              have hS8 := fun (w8 : World) (hg : (w7.drew).grownBy w8 ((.slice A6 n6 c6) : Value).ownBlock) => (show w8.cell? ⟨w.heap.size, 5, none⟩ = some (.slice (some ⟨b1, o1, none⟩) ml c) ∧ w8.cell? ⟨w.heap.size + 1 + 1, 5, none⟩ = some (.slice A6 n6 c6) from ⟨(World.cell?_of_block (a := ⟨w.heap.size, 5, none⟩) (HL8 w8 hg w.heap.size (by omega))).trans p57, (World.cell?_of_block (a := ⟨w.heap.size + 1 + 1, 5, none⟩) (HL8 w8 hg (w.heap.size + 1 + 1) (by omega))).trans g57⟩)
              have hF8 := fun (w8 : World) (hg : (w7.drew).grownBy w8 ((.slice A6 n6 c6) : Value).ownBlock) => blk_frozen ((HL8 w8 hg (w.heap.size + 1 + 1) (by omega)).trans hb27) 5
              replace HL8 := Lib.hid HL8
              replace hb07 := Lib.hid hb07
              replace hb17 := Lib.hid hb17
              replace hb27 := Lib.hid hb27
              refine region_lastp (fun W => W.cell? ⟨w.heap.size, 5, none⟩ = some (.slice (some ⟨b1, o1, none⟩) ml c) ∧ W.cell? ⟨w.heap.size + 1 + 1, 5, none⟩ = some (.slice A6 n6 c6)) (by kernel_rfl) rfl (by kernel_rfl) ?_
              (try simp only [List.pop_toArray, List.dropLast_cons_cons, List.dropLast_singleton, List.size_toArray, List.length_cons, List.length_nil, Nat.zero_add, Nat.reduceAdd])
              refine wpAnyH_takeL (i := 0) (v := ?v121) rfl (by kernel_rfl) (by kernel_rfl) (by kernel_rfl) (fun _ _ _ h => h) (Or.inl ⟨by rfl, ?y121⟩) (by assumption) ?r121
              case y121 => (intro W hSw; (try dsimp only at hSw); go_simp; try with_reducible rfl)
              (try simp only [Act.put, List.setIfInBounds_toArray, List.set_cons_zero, List.set_cons_succ])
              refine wpAnyH_takeL (i := 1) (v := ?v122) rfl (by kernel_rfl) (by kernel_rfl) (by kernel_rfl) (fun _ _ _ h => h) (Or.inl ⟨by rfl, ?y122⟩) (by assumption) ?r122
              case y122 => (intro W hSw; (try dsimp only at hSw); go_simp; try with_reducible rfl)
              (try simp only [Act.put, List.setIfInBounds_toArray, List.set_cons_zero, List.set_cons_succ])
              refine wpAnyH_takeL (i := 2) (v := ?v123) rfl (by kernel_rfl) (by kernel_rfl) (by kernel_rfl) (fun _ _ _ h => h) (Or.inl ⟨by rfl, ?y123⟩) (by assumption) ?r123
              case y123 => (intro W hSw; (try dsimp only at hSw); go_simp; try with_reducible rfl)
              (try simp only [Act.put, List.setIfInBounds_toArray, List.set_cons_zero, List.set_cons_succ])
              refine wpAnyH_takeL (i := 3) (v := ?v124) rfl (by kernel_rfl) (by kernel_rfl) (by kernel_rfl) (fun _ _ _ h => h) (Or.inl ⟨by rfl, ?y124⟩) (by assumption) ?r124
              case y124 => (intro W hSw; (try dsimp only at hSw); go_simp; try with_reducible rfl)
              (try simp only [Act.put, List.setIfInBounds_toArray, List.set_cons_zero, List.set_cons_succ])
              refine wpAnyH_takeL (i := 4) (v := ?v125) rfl (by kernel_rfl) (by kernel_rfl) (by kernel_rfl) (fun _ _ _ h => h) (Or.inl ⟨by rfl, ?y125⟩) (by assumption) ?r125
              case y125 => (intro W hSw; (try dsimp only at hSw); go_simp; try with_reducible rfl)
              (try simp only [Act.put, List.setIfInBounds_toArray, List.set_cons_zero, List.set_cons_succ])
              refine wpAnyH_takeL (i := 5) (v := ?v126) rfl (by kernel_rfl) (by kernel_rfl) (by kernel_rfl) (fun _ _ _ h => h) (Or.inl ⟨by rfl, ?y126⟩) (by assumption) ?r126
              case y126 => (intro W hSw; (try dsimp only at hSw); go_simp; try with_reducible rfl)
              (try simp only [Act.put, List.setIfInBounds_toArray, List.set_cons_zero, List.set_cons_succ])
              refine wpAnyH_ready (rs := [6]) (by kernel_rfl) (by simp) ?_
              refine consL rfl (fun K hK => ?_) AllReadyH.nil
              (refine step_append_en _ (by rfl) _ _ 28 (by rfl) (w.heap.size + 3) 84 i0 (.agg #[.int .u64 0, .int .u64 0, .string ⟨#[]⟩]) 32 Try.underlying28 hi0 hz0 hz1 hz2 rfl (.slice A6 n6 c6) ((m.take j) ++ [(⟨i, u, s⟩ : En)]) (by rfl) (hrow7.below (Below.refl _ _).drew) (LoV w.heap.size) (if c = j then some ⟨b1, o1, none⟩ else some ⟨b1, o1 + j * 3, none⟩) (ml - j) (c - j) (m.drop j) (by rfl) (by rw [List.length_drop]; have := HML.out; omega) (fun h => if_some h) (by rw [List.length_drop]; have := HML.out; omega) hl3 (by unfold maxLen; omega) (by omega) hsz7 ?_; intro A8 n8 c8 w8 h8 hrow8 hg8; have hf8 := hF8 w8 hg8; have hS9 := hS8 w8 hg8; have g58 := hS9.2)
              refine hK.out _ _ (hS9) (fun hHeld => ?_)
              clear hK K
              (try simp only [Act.put, List.setIfInBounds_toArray, List.set_cons_zero, List.set_cons_succ])
              refine wpAnyH_takeL (i := 7) (v := ?v127) rfl (by kernel_rfl) (by kernel_rfl) (by kernel_rfl) (fun _ _ _ h => h) (Or.inl ⟨by rfl, ?y127⟩) (by assumption) ?r127
              case y127 => (intro W hSw; (try dsimp only at hSw); go_simp; try with_reducible rfl)
              (try simp only [Act.put, List.setIfInBounds_toArray, List.set_cons_zero, List.set_cons_succ])
              refine wpAnyH_done (by kernel_rfl) ?_ _
              refine lastQ_of rfl (fun K hK => ?_)
              go_simp
              refine hK.out _ _ ?_
              clear hK K
              have hb19 := (Below.heap_setCell w8 ⟨w.heap.size + 1 + 1, 5, none⟩ (.slice A8 n8 c8) (w.heap.size + 1) (by simp)).trans ((HL8.out w8 hg8 _ (by omega)).trans hb17.out)
              have hb29 := six_set5 ((HL8.out w8 hg8 _ (by omega)).trans hb27.out) (.slice A8 n8 c8)
              have hW9 := (hW7.trans ((Below.refl _ _).drew.grown hg8 (Nat.le_trans (Nat.le_add_right _ 3) hsz7) (fun j ej => Nat.le_trans (by omega) (hcub7 j ej)))).setCell (p := ⟨w.heap.size + 1 + 1, 5, none⟩) (by simp; omega) (.slice A8 n8 c8)
              have hrow9 : RowE (w8.setCell ⟨w.heap.size + 1 + 1, 5, none⟩ (.slice A8 n8 c8)) (w.heap.size + 3) 84 (.slice A8 n8 c8) (((m.take j) ++ [(⟨i, u, s⟩ : En)]) ++ m.drop j) := own_keptv hrow8 (fun b h1 _ => Below.heap_setCell _ _ _ b (by simp; omega))
              clear hf8 g58
              generalize w8.setCell ⟨w.heap.size + 1 + 1, 5, none⟩ (.slice A8 n8 c8) = w9 at *
              obtain ⟨q0, q1, q2, q3, q4, q5⟩ := six hb19
              obtain ⟨z0, z1, z2, z3, z4, z5⟩ := six hb29
              have hf1 := blk_frozen hb19
              replace hb19 := Lib.hid hb19
              replace hb29 := Lib.hid hb29
              go_wp2_with fail
              all_goals
                refine bodyPost_ret (v := .agg #[.int .i64 k, .int .i64 n, .int .i64 ix, .int .u64 0, .string ⟨#[]⟩, .slice A8 n8 c8]) (by simp [results, Try.results62, go_sem, q0, q1, q2, q3, q4, q5]) rfl ?_
                obtain ⟨e1, e2, e3⟩ := h8.out
                have hm := set6_below (N := w.heap.size + 1) hW9 (Nat.le_succ w.heap.size) (.int .i64 k) (.int .i64 n) (.int .i64 ix) (.int .u64 0) (.string ⟨#[]⟩) (.slice A8 n8 c8)
                have HPf := HPut.out
                rw [hnew] at HPf
                simp only [Bool.false_eq_true, if_false] at HPf hrow9 e1
                have Hokf := Hok.out
                rw [HPf] at Hokf ⊢
                subst e1
                refine ⟨_, rfl, VaV.mk Hokf e2 e3 (hrow9.list.to (fun b hb => ⟨⟨by have := hb.1; omega, by rw [set6_size]; exact hb.2⟩, set6_heap _ _ _ _ _ _ (by have := hb.1; omega)⟩)), hm⟩
            · have gs : decide (0 < (s.size : Int)) = false := decide_eq_false (by omega)
              have hnew : newE i u s = [] := by unfold newE; rw [show (s.size == 0) = true by rw [beq_iff_eq]; omega, huz]; rfl
              clear huz
              have p50 := (six hb0).2.2.2.2.2
              have g51 := (six hb2).2.2.2.2.2
              have hf51 := blk_frozen hb2 5
              replace hb0 := Lib.hid hb0
              replace hb1 := Lib.hid hb1
              replace hb2 := Lib.hid hb2
              have HWr := Lib.hid hW
              go_wp2_with fail
              have hb07 := hb0.out
              have hb17 := hb1.out
              have hb27 := hb2.out
              have hW7 := HWr.out
              have hsz7 := hsz
              have hrow7 := hrow
              have hl7 : (m.take j).length ≤ 100001 := by rw [hjl]; omega
              clear p50 g51 hf51 hb0 hb1 hb2 hrow hW hsz
              obtain ⟨w7, rfl⟩ : ∃ w7, w7 = wr := ⟨_, rfl⟩
              have hl3 := ((HG.out w7.drew hW7.drew).after hmcN.out j)
              have p57 := (six hb07).2.2.2.2.2
              have g57 := (six hb27).2.2.2.2.2
              have hcub7 : ∀ b, ((cu) : Value).ownBlock = some b → w.heap.size + 3 ≤ b := hrow7.blk
              have HL8 : ∀ w8, (w7.drew).grownBy w8 ((cu) : Value).ownBlock → ∀ B, B < w.heap.size + 3 → w8.heap[B]? = w7.heap[B]? := fun w8 hg B hB => (show w8.heap[B]? = w7.drew.heap[B]? from grown_lowv (w1 := w7.drew) hg hcub7 hB hsz7)
              have hS1 : w7.drew.cell? ⟨w.heap.size, 5, none⟩ = some (.slice (some ⟨b1, o1, none⟩) ml c) ∧ w7.drew.cell? ⟨w.heap.size + 1 + 1, 5, none⟩ = some (cu) := ⟨p57, g57⟩
              have hS8 := fun (w8 : World) (hg : (w7.drew).grownBy w8 ((cu) : Value).ownBlock) => (show w8.cell? ⟨w.heap.size, 5, none⟩ = some (.slice (some ⟨b1, o1, none⟩) ml c) ∧ w8.cell? ⟨w.heap.size + 1 + 1, 5, none⟩ = some (cu) from ⟨(World.cell?_of_block (a := ⟨w.heap.size, 5, none⟩) (HL8 w8 hg w.heap.size (by omega))).trans p57, (World.cell?_of_block (a := ⟨w.heap.size + 1 + 1, 5, none⟩) (HL8 w8 hg (w.heap.size + 1 + 1) (by omega))).trans g57⟩)
              have hF8 := fun (w8 : World) (hg : (w7.drew).grownBy w8 ((cu) : Value).ownBlock) => blk_frozen ((HL8 w8 hg (w.heap.size + 1 + 1) (by omega)).trans hb27) 5
              replace HL8 := Lib.hid HL8
              replace hb07 := Lib.hid hb07
              replace hb17 := Lib.hid hb17
              replace hb27 := Lib.hid hb27
              refine region_lastp (fun W => W.cell? ⟨w.heap.size, 5, none⟩ = some (.slice (some ⟨b1, o1, none⟩) ml c) ∧ W.cell? ⟨w.heap.size + 1 + 1, 5, none⟩ = some (cu)) (by kernel_rfl) rfl (by kernel_rfl) ?_
              (try simp only [List.pop_toArray, List.dropLast_cons_cons, List.dropLast_singleton, List.size_toArray, List.length_cons, List.length_nil, Nat.zero_add, Nat.reduceAdd])
              refine wpAnyH_takeL (i := 0) (v := ?v128) rfl (by kernel_rfl) (by kernel_rfl) (by kernel_rfl) (fun _ _ _ h => h) (Or.inl ⟨by rfl, ?y128⟩) (by assumption) ?r128
              case y128 => (intro W hSw; (try dsimp only at hSw); go_simp; try with_reducible rfl)
              (try simp only [Act.put, List.setIfInBounds_toArray, List.set_cons_zero, List.set_cons_succ])
              refine wpAnyH_takeL (i := 1) (v := ?v129) rfl (by kernel_rfl) (by kernel_rfl) (by kernel_rfl) (fun _ _ _ h => h) (Or.inl ⟨by rfl, ?y129⟩) (by assumption) ?r129
              case y129 => (intro W hSw; (try dsimp only at hSw); go_simp; try with_reducible rfl)
              (try simp only [Act.put, List.setIfInBounds_toArray, List.set_cons_zero, List.set_cons_succ])
              refine wpAnyH_takeL (i := 2) (v := ?v130) rfl (by kernel_rfl) (by kernel_rfl) (by kernel_rfl) (fun _ _ _ h => h) (Or.inl ⟨by rfl, ?y130⟩) (by assumption) ?r130
              case y130 => (intro W hSw; (try dsimp only at hSw); go_simp; try with_reducible rfl)
              (try simp only [Act.put, List.setIfInBounds_toArray, List.set_cons_zero, List.set_cons_succ])
              refine wpAnyH_takeL (i := 3) (v := ?v131) rfl (by kernel_rfl) (by kernel_rfl) (by kernel_rfl) (fun _ _ _ h => h) (Or.inl ⟨by rfl, ?y131⟩) (by assumption) ?r131
              case y131 => (intro W hSw; (try dsimp only at hSw); go_simp; try with_reducible rfl)
              (try simp only [Act.put, List.setIfInBounds_toArray, List.set_cons_zero, List.set_cons_succ])
              refine wpAnyH_takeL (i := 4) (v := ?v132) rfl (by kernel_rfl) (by kernel_rfl) (by kernel_rfl) (fun _ _ _ h => h) (Or.inl ⟨by rfl, ?y132⟩) (by assumption) ?r132
              case y132 => (intro W hSw; (try dsimp only at hSw); go_simp; try with_reducible rfl)
              (try simp only [Act.put, List.setIfInBounds_toArray, List.set_cons_zero, List.set_cons_succ])
              refine wpAnyH_takeL (i := 5) (v := ?v133) rfl (by kernel_rfl) (by kernel_rfl) (by kernel_rfl) (fun _ _ _ h => h) (Or.inl ⟨by rfl, ?y133⟩) (by assumption) ?r133
              case y133 => (intro W hSw; (try dsimp only at hSw); go_simp; try with_reducible rfl)
              (try simp only [Act.put, List.setIfInBounds_toArray, List.set_cons_zero, List.set_cons_succ])
              refine wpAnyH_ready (rs := [6]) (by kernel_rfl) (by simp) ?_
              refine consL rfl (fun K hK => ?_) AllReadyH.nil
              (refine step_append_en _ (by rfl) _ _ 28 (by rfl) (w.heap.size + 3) 84 i0 (.agg #[.int .u64 0, .int .u64 0, .string ⟨#[]⟩]) 32 Try.underlying28 hi0 hz0 hz1 hz2 rfl (cu) (m.take j) (by rfl) (hrow7.below (Below.refl _ _).drew) (LoV w.heap.size) (if c = j then some ⟨b1, o1, none⟩ else some ⟨b1, o1 + j * 3, none⟩) (ml - j) (c - j) (m.drop j) (by rfl) (by rw [List.length_drop]; have := HML.out; omega) (fun h => if_some h) (by rw [List.length_drop]; have := HML.out; omega) hl3 (by unfold maxLen; omega) (by omega) hsz7 ?_; intro A8 n8 c8 w8 h8 hrow8 hg8; have hf8 := hF8 w8 hg8; have hS9 := hS8 w8 hg8; have g58 := hS9.2)
              refine hK.out _ _ (hS9) (fun hHeld => ?_)
              clear hK K
              (try simp only [Act.put, List.setIfInBounds_toArray, List.set_cons_zero, List.set_cons_succ])
              refine wpAnyH_takeL (i := 7) (v := ?v134) rfl (by kernel_rfl) (by kernel_rfl) (by kernel_rfl) (fun _ _ _ h => h) (Or.inl ⟨by rfl, ?y134⟩) (by assumption) ?r134
              case y134 => (intro W hSw; (try dsimp only at hSw); go_simp; try with_reducible rfl)
              (try simp only [Act.put, List.setIfInBounds_toArray, List.set_cons_zero, List.set_cons_succ])
              refine wpAnyH_done (by kernel_rfl) ?_ _
              refine lastQ_of rfl (fun K hK => ?_)
              go_simp
              refine hK.out _ _ ?_
              clear hK K
              have hb19 := (Below.heap_setCell w8 ⟨w.heap.size + 1 + 1, 5, none⟩ (.slice A8 n8 c8) (w.heap.size + 1) (by simp)).trans ((HL8.out w8 hg8 _ (by omega)).trans hb17.out)
              have hb29 := six_set5 ((HL8.out w8 hg8 _ (by omega)).trans hb27.out) (.slice A8 n8 c8)
              have hW9 := (hW7.trans ((Below.refl _ _).drew.grown hg8 (Nat.le_trans (Nat.le_add_right _ 3) hsz7) (fun j ej => Nat.le_trans (by omega) (hcub7 j ej)))).setCell (p := ⟨w.heap.size + 1 + 1, 5, none⟩) (by simp; omega) (.slice A8 n8 c8)
              have hrow9 : RowE (w8.setCell ⟨w.heap.size + 1 + 1, 5, none⟩ (.slice A8 n8 c8)) (w.heap.size + 3) 84 (.slice A8 n8 c8) ((m.take j) ++ m.drop j) := own_keptv hrow8 (fun b h1 _ => Below.heap_setCell _ _ _ b (by simp; omega))
              clear hf8 g58
              generalize w8.setCell ⟨w.heap.size + 1 + 1, 5, none⟩ (.slice A8 n8 c8) = w9 at *
              obtain ⟨q0, q1, q2, q3, q4, q5⟩ := six hb19
              obtain ⟨z0, z1, z2, z3, z4, z5⟩ := six hb29
              have hf1 := blk_frozen hb19
              replace hb19 := Lib.hid hb19
              replace hb29 := Lib.hid hb29
              go_wp2_with fail
              all_goals
                refine bodyPost_ret (v := .agg #[.int .i64 k, .int .i64 n, .int .i64 ix, .int .u64 0, .string ⟨#[]⟩, .slice A8 n8 c8]) (by simp [results, Try.results62, go_sem, q0, q1, q2, q3, q4, q5]) rfl ?_
                obtain ⟨e1, e2, e3⟩ := h8.out
                have hm := set6_below (N := w.heap.size + 1) hW9 (Nat.le_succ w.heap.size) (.int .i64 k) (.int .i64 n) (.int .i64 ix) (.int .u64 0) (.string ⟨#[]⟩) (.slice A8 n8 c8)
                have HPf := HPut.out
                rw [hnew] at HPf
                simp only [Bool.false_eq_true, if_false, List.append_nil] at HPf hrow9 e1
                have Hokf := Hok.out
                rw [HPf] at Hokf ⊢
                subst e1
                refine ⟨_, rfl, VaV.mk Hokf e2 e3 (hrow9.list.to (fun b hb => ⟨⟨by have := hb.1; omega, by rw [set6_size]; exact hb.2⟩, set6_heap _ _ _ _ _ _ (by have := hb.1; omega)⟩)), hm⟩

end Go.Proofs.Ytngfgohchnkidaa
