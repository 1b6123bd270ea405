/-
  THE WALKS of slices.Grow and slices.Concat at rows of entries.
-/
import Derived.Test.YtngfgohchnkidaaVaOwn
import Derived.Lib.AppendZerosOnto
namespace Go.Proofs.Ytngfgohchnkidaa
open Go.RowKit

theorem ens_cells {w : World} {S : Nat → Prop} {l : List En} {ad : Addr} (h : EnL w S l (some ad)) : ∀ j u, (l.flatMap En.cells)[j]? = some u → w.cell? (ad.add j) = some u := by
  intro j u hj
  rcases h with rfl | ⟨b, o, e, _, hr⟩
  · simp at hj
  · injection e with e
    subst e
    have hadd : (⟨b, o, none⟩ : Addr).add j = ⟨b, o + j, none⟩ := by unfold Addr.add; split <;> simp_all
    rw [hadd]
    exact hr j u hj
/-- append of a row of entries, nil let in -/
theorem wpList_append_e {P : Program} (w : World) {ops : Array Oper} {rest : List Oper} {o : Oper} {a : Act} {Q : Exit → Act → World → Prop} (hgd : o.guard = none) (s x : Operand) (t : TypeId)
    (ho : o.op = .call { callee := .builtin .append, args := #[s, x], argTypes := #[t, t] })
    (base : Nat) (e : TypeId) (i : TypeInfo) (z : Value) (bytes : Nat) (ht : P.underlying t = some (.slice e)) (hi : P.info? e = some i) (hz : i.zero = some z)
    (hsize : i.size = 3) (hby : i.bytes = bytes) (hzs : z.cells.size = 3)
    (v : Value) (l : List En) (hs : a.eval s = v) (hrow : RowE w base e v l) (S : Nat → Prop)
    (A : Option Addr) (m c : Nat) (xs : List En) (hx : a.eval x = .slice A m c) (hm : m = xs.length) (hA : A = none → c = 0) (hc : xs.length ≤ c) (hr : EnL w S xs A)
    (h63 : l.length + m ≤ maxLen) (hbytes : (l.length + m) * bytes ≤ 140737488355328) (hbase : base ≤ w.heap.size)
    (h : ∀ v' w', RowE w' base e v' (l ++ xs) → w.grownBy w' v.ownBlock → wpList P ops Q rest (a.put o.dst v') w') : wpList P ops Q (o :: rest) a w := by
  subst hm
  have hfin : ∀ v' w', w'.ownsRow base e 3 v' (l.length + xs.length) (l.flatMap En.cells ++ xs.flatMap En.cells) → RowE w' base e v' (l ++ xs) := fun v' w' h => by
    unfold RowE
    rw [List.length_append, List.flatMap_append]
    exact h
  cases A with
  | none =>
    obtain rfl : c = 0 := hA rfl
    obtain rfl : xs = [] := List.eq_nil_of_length_eq_zero (by omega)
    exact wpList_append_own_none hgd s x t ho base e i 3 ht hi v l.length _ hs hrow hx (h v w (by simpa using hrow) ⟨rfl, rfl, rfl, Nat.le_refl _, fun _ _ _ => rfl⟩)
  | some ad =>
    exact wpList_append_own w hgd s x t ho base e i z 3 bytes ht hi hz hsize hby hzs (by decide) v l.length _ hs hrow ad xs.length c (xs.flatMap En.cells) hx (ens_len xs) (ens_cells hr) (ens_one xs) h63 hbytes hbase
      (fun v' w' h2 h3 _ => h v' w' (hfin v' w' h2) h3)

set_option maxHeartbeats 1000000 in
set_option maxRecDepth 100000 in
theorem vGrow_any (n : Nat) (w : World) (hn : n ≤ 1000000) : Calls Try.prog 89 #[.slice none 0 0, .int .i64 (n : Int)] w fun e w' => (∃ v, e = .returned v ∧ RowE w' w.heap.size 85 v []) ∧ Below w.heap.size w w' := by
  obtain ⟨i0, hi, hz0, hz1, hz2⟩ := info_partsV info_vEntry
  by_cases h0 : n = 0
  · subst h0
    go_enter Try.func89, Try.ntmps89
    go_wp2_with fail
    go_ret
    exact ⟨⟨_, rfl, RowE.nil _ _ _⟩, Below.refl _ _⟩
  · have h1 : ¬ ((n : Int) < 0) := by omega
    have h3 : wrap64 ((n : Int) - 0) = (n : Int) := by unfold wrap64; omega
    have h3b : wrap64 (n : Int) = (n : Int) := by unfold wrap64; omega
    have h4 : (0 : Int) < (n : Int) := by omega
    have hrz := Lib.run_append_grow_zeros (P := Try.prog) w 33 3 33 85 i0 _ .i64 .i64 Try.underlying33 Try.underlying3 hi hz0 none 0 0 [] (run_firstCells_none w.drew i0.size 0 0 0) n (by omega) (by omega) (by omega) (by omega) (by rw [hz2]; omega) (by rw [hz2]; simp [Builtin.nextslicecap]; split <;> omega)
    obtain ⟨G, hG⟩ : ∃ G, G = grownCap w (0 + n) 0 85 := ⟨_, rfl⟩
    have hGn : 0 + n ≤ G := hG ▸ grownCap_ge w _ _ _
    have hGm : G ≤ maxLen := hG ▸ grownCap_le_maxLen w _ _ _ (by unfold maxLen; omega)
    obtain ⟨cur, hcur⟩ : ∃ cur, cur = ([] : List Value).toArray ++ Builtin.zeroCells (Value.agg #[.int .u64 0, .int .u64 0, .string ⟨#[]⟩]).cells n ++ Builtin.zeroCells (Value.agg #[.int .u64 0, .int .u64 0, .string ⟨#[]⟩]).cells (G - (0 + n)) := ⟨_, rfl⟩
    have hcs : cur.size = G * 3 := by
      rw [hcur, Array.size_append, Array.size_append, size_zeroCells, size_zeroCells]
      simp [Value.cells]
      omega
    rw [← hG] at hrz
    rw [← hcur] at hrz
    rw [Nat.zero_add] at hrz hGn
    clear hG hcur
    have hG63 : G ≤ 9223372036854775807 := by unfold maxLen at hGm; omega
    have hfin : RowE (w.drew.alloc (.cells cur 85)) w.heap.size 85 (.slice (some ⟨w.heap.size, 0, none⟩) 0 G) [] :=
      ⟨rfl, .inr ⟨w.heap.size, G, cur, rfl, Nat.le_refl _, heap_alloc_new_at w.drew _ rfl, Nat.zero_le _, hGm, hcs, by simp⟩⟩
    have hB : Below w.heap.size w (w.drew.alloc (.cells cur 85)) := (Below.refl _ _).drew.alloc (Nat.le_refl _) _
    go_enter Try.func89, Try.ntmps89
    go_wp2_with (at_builtin; refine Lib.wpList_append_run _ rfl _ _ 33 3 rfl _ _ rfl rfl _ _ hrz ?_)
    all_goals
      go_ret
      exact ⟨⟨_, rfl, hfin⟩, hB⟩

def cat3 (l1 l2 l3 : List En) : Nat → List En
  | 0 => []
  | 1 => l1
  | 2 => l1 ++ l2
  | _ => l1 ++ l2 ++ l3
set_option maxHeartbeats 1000000 in
set_option maxRecDepth 100000 in
theorem vConcat_any (l1 l2 l3 : List En) (A1 A2 A3 : Option Addr) (c1 c2 c3 g cc : Nat) (w : World) (hg : w.heap[g]? = some (.cells #[.slice A1 l1.length c1, .slice A2 l2.length c2, .slice A3 l3.length c3] 33 (0, 0)))
    (h1 : EnL w (LoV w.heap.size) l1 A1) (h2 : EnL w (LoV w.heap.size) l2 A2) (h3 : EnL w (LoV w.heap.size) l3 A3) (k1 : l1.length ≤ c1 ∧ (A1 = none → c1 = 0)) (k2 : l2.length ≤ c2 ∧ (A2 = none → c2 = 0)) (k3 : l3.length ≤ c3 ∧ (A3 = none → c3 = 0))
    (hlen : l1.length + l2.length + l3.length ≤ 1000000) :
    Calls Try.prog 70 #[.slice (some ⟨g, 0, none⟩) 3 cc] w fun e w' => (∃ v, e = .returned v ∧ RowE w' w.heap.size 85 v (l1 ++ l2 ++ l3)) ∧ Below w.heap.size w w' := by
  obtain ⟨i0, hi, hz0, hz1, hz2⟩ := info_partsV info_vEntry
  have hgl := (Array.getElem?_eq_some_iff.1 hg).1
  obtain ⟨n1, hn1⟩ : ∃ n : Nat, n = l1.length := ⟨_, rfl⟩
  obtain ⟨n2, hn2⟩ : ∃ n : Nat, n = l2.length := ⟨_, rfl⟩
  obtain ⟨n3, hn3⟩ : ∃ n : Nat, n = l3.length := ⟨_, rfl⟩
  rw [← hn1, ← hn2, ← hn3] at hg hlen
  rw [← hn1] at k1
  rw [← hn2] at k2
  rw [← hn3] at k3
  have Hn := Lib.hid (And.intro hn1 (And.intro hn2 hn3))
  have w1 : IntKind.i64.wrap (n1 : Int) = (n1 : Int) := IntWalk.i64_in _ (by omega)
  have w2 : IntKind.i64.wrap ((n1 : Int) + (n2 : Int)) = ((n1 + n2 : Nat) : Int) := by rw [← Int.natCast_add]; exact IntWalk.i64_in _ (by omega)
  have w3 : IntKind.i64.wrap (((n1 + n2 : Nat) : Int) + (n3 : Int)) = ((n1 + n2 + n3 : Nat) : Int) := by rw [← Int.natCast_add]; exact IntWalk.i64_in _ (by omega)
  clear hn1 hn2 hn3
  obtain ⟨p0, p1, p2⟩ := three hg
  replace hg := Lib.hid hg
  have HG := Lib.hid fun W => vGrow_any (n1 + n2 + n3) W (by omega)
  replace h1 := Lib.hid h1
  replace h2 := Lib.hid h2
  replace h3 := Lib.hid h3
  replace k1 := Lib.hid k1
  replace k2 := Lib.hid k2
  replace k3 := Lib.hid k3
  go_enter Try.func70, Try.ntmps70
  go_wp2_with fail
  go_loopw [3, 11] (fun u v wr => ((u = .int .i64 0 ∧ v = .int .i64 0) ∨ (u = .int .i64 (n1 : Int) ∧ v = .int .i64 1) ∨ (u = .int .i64 ((n1 + n2 : Nat) : Int) ∧ v = .int .i64 2) ∨ (u = .int .i64 ((n1 + n2 + n3 : Nat) : Int) ∧ v = .int .i64 3)) ∧ wr = w) (fun _ v _ => 3 - (intOf v).toNat)
  case atStart => exact ⟨.inl ⟨rfl, rfl⟩, rfl⟩
  case round =>
    obtain ⟨hv, rfl⟩ := hrel
    obtain ⟨w, rfl⟩ : ∃ w, w = wr := ⟨_, rfl⟩
    rcases hv with ⟨rfl, rfl⟩ | ⟨rfl, rfl⟩ | ⟨rfl, rfl⟩ | ⟨rfl, rfl⟩
    · go_wp2_with fail
      go_roundw
      case rel => exact ⟨.inr (.inl ⟨by first | rfl | (simp; done), by first | rfl | trivial⟩), by first | rfl | trivial⟩
      case measure => simp [intOf]
    · have q0 : ¬ ((n1 + n2 : Nat) : Int) < 0 := by omega
      go_wp2_with fail
      go_roundw
      case rel => exact ⟨.inr (.inr (.inl ⟨by first | rfl | (simp; done), by first | rfl | trivial⟩)), by first | rfl | trivial⟩
      case measure => simp [intOf]
    · have q0 : ¬ ((n1 + n2 + n3 : Nat) : Int) < 0 := by omega
      go_wp2_with fail
      go_roundw
      case rel => exact ⟨.inr (.inr (.inr ⟨by first | rfl | (simp; done), by first | rfl | trivial⟩)), by first | rfl | trivial⟩
      case measure => simp [intOf]
    · go_wp2_with (go_at_call 89; refine Calls.mono (HG.out _) ?_; rintro e w4 ⟨⟨v4, rfl, hrow4⟩, hB4⟩)
      go_loopw [6, 27] (fun u v wr => ((∃ cu, u = cu ∧ v = .int .i64 0 ∧ RowE wr w.heap.size 85 cu []) ∨ (∃ cu, u = cu ∧ v = .int .i64 1 ∧ RowE wr w.heap.size 85 cu l1) ∨ (∃ cu, u = cu ∧ v = .int .i64 2 ∧ RowE wr w.heap.size 85 cu (l1 ++ l2)) ∨ (∃ cu, u = cu ∧ v = .int .i64 3 ∧ RowE wr w.heap.size 85 cu (l1 ++ l2 ++ l3))) ∧ Below w.heap.size w wr) (fun _ v _ => 3 - (intOf v).toNat)
      case atStart => exact ⟨.inl ⟨_, rfl, rfl, hrow4⟩, hB4⟩
      case round =>
      obtain ⟨hv, hBr⟩ := hrel
      rcases hv with hv | hv | hv | hv
      · obtain ⟨cu, rfl, rfl, hrow⟩ := hv
        have hl5 := h1.out.to (w' := wr) (T := LoV w.heap.size) (fun b hb => ⟨hb, hBr.block b hb⟩)
        obtain ⟨y0, y1, y2⟩ := three ((hBr.block g hgl).trans hg.out)
        have hll : (([] : List En)).length ≤ 1000000 := by have := Hn.out; simp; try omega
        have hm2 : (([] : List En)).length + n1 ≤ 1000000 := by have := Hn.out; simp; omega
        have kA := k1.out.2
        have kc : l1.length ≤ c1 := Hn.out.1 ▸ k1.out.1
        go_wp2_with (at_builtin; refine wpList_append_e _ rfl _ _ 33 rfl w.heap.size 85 i0 _ 32 Try.underlying33 hi hz0 hz1 hz2 rfl _ ([] : List En) rfl hrow (LoV w.heap.size) A1 n1 c1 l1 rfl (Hn.out.1) kA kc hl5 (by unfold maxLen; omega) (by omega) hBr.size ?_; intro v6 w6 hrow6 hg6)
        go_roundw
        case rel => exact ⟨.inr (.inl ⟨_, rfl, by first | rfl | trivial, by simpa using hrow6⟩), hBr.grown hg6 hBr.size (fun j ej => hrow.blk j ej)⟩
        case measure => simp [intOf]
      · obtain ⟨cu, rfl, rfl, hrow⟩ := hv
        have hl5 := h2.out.to (w' := wr) (T := LoV w.heap.size) (fun b hb => ⟨hb, hBr.block b hb⟩)
        obtain ⟨y0, y1, y2⟩ := three ((hBr.block g hgl).trans hg.out)
        have hll : (l1).length ≤ 1000000 := by have := Hn.out; simp; try omega
        have hm2 : (l1).length + n2 ≤ 1000000 := by have := Hn.out; simp; omega
        have kA := k2.out.2
        have kc : l2.length ≤ c2 := Hn.out.2.1 ▸ k2.out.1
        go_wp2_with (at_builtin; refine wpList_append_e _ rfl _ _ 33 rfl w.heap.size 85 i0 _ 32 Try.underlying33 hi hz0 hz1 hz2 rfl _ l1 rfl hrow (LoV w.heap.size) A2 n2 c2 l2 rfl (Hn.out.2.1) kA kc hl5 (by unfold maxLen; omega) (by omega) hBr.size ?_; intro v6 w6 hrow6 hg6)
        go_roundw
        case rel => exact ⟨.inr (.inr (.inl ⟨_, rfl, by first | rfl | trivial, hrow6⟩)), hBr.grown hg6 hBr.size (fun j ej => hrow.blk j ej)⟩
        case measure => simp [intOf]
      · obtain ⟨cu, rfl, rfl, hrow⟩ := hv
        have hl5 := h3.out.to (w' := wr) (T := LoV w.heap.size) (fun b hb => ⟨hb, hBr.block b hb⟩)
        obtain ⟨y0, y1, y2⟩ := three ((hBr.block g hgl).trans hg.out)
        have hll : ((l1 ++ l2)).length ≤ 1000000 := by have := Hn.out; simp; try omega
        have hm2 : ((l1 ++ l2)).length + n3 ≤ 1000000 := by have := Hn.out; simp; omega
        have kA := k3.out.2
        have kc : l3.length ≤ c3 := Hn.out.2.2 ▸ k3.out.1
        go_wp2_with (at_builtin; refine wpList_append_e _ rfl _ _ 33 rfl w.heap.size 85 i0 _ 32 Try.underlying33 hi hz0 hz1 hz2 rfl _ (l1 ++ l2) rfl hrow (LoV w.heap.size) A3 n3 c3 l3 rfl (Hn.out.2.2) kA kc hl5 (by unfold maxLen; omega) (by omega) hBr.size ?_; intro v6 w6 hrow6 hg6)
        go_roundw
        case rel => exact ⟨.inr (.inr (.inr ⟨_, rfl, by first | rfl | trivial, hrow6⟩)), hBr.grown hg6 hBr.size (fun j ej => hrow.blk j ej)⟩
        case measure => simp [intOf]
      · obtain ⟨cu, rfl, rfl, hrow⟩ := hv
        go_wp2_with fail
        go_ret
        exact ⟨⟨_, rfl, hrow⟩, hBr⟩
theorem vConcat_eq (l1 l2 l3 : List En) (n1 n2 n3 : Nat) (e1 : n1 = l1.length) (e2 : n2 = l2.length) (e3 : n3 = l3.length) (A1 A2 A3 : Option Addr) (c1 c2 c3 g cc : Nat) (w : World) (hg : w.heap[g]? = some (.cells #[.slice A1 n1 c1, .slice A2 n2 c2, .slice A3 n3 c3] 33 (0, 0)))
    (h1 : EnL w (LoV w.heap.size) l1 A1) (h2 : EnL w (LoV w.heap.size) l2 A2) (h3 : EnL w (LoV w.heap.size) l3 A3) (k1 : n1 ≤ c1 ∧ (A1 = none → c1 = 0)) (k2 : n2 ≤ c2 ∧ (A2 = none → c2 = 0)) (k3 : n3 ≤ c3 ∧ (A3 = none → c3 = 0))
    (hlen : n1 + n2 + n3 ≤ 1000000) :
    Calls Try.prog 70 #[.slice (some ⟨g, 0, none⟩) 3 cc] w fun e w' => (∃ A n c, e = .returned (.slice A n c) ∧ Hid (n = (l1 ++ l2 ++ l3).length ∧ n ≤ c ∧ (A = none → c = 0) ∧ EnL w' (MidV w.heap.size w'.heap.size) (l1 ++ l2 ++ l3) A)) ∧ Below w.heap.size w w' := by
  subst e1 e2 e3
  refine Calls.mono (vConcat_any l1 l2 l3 A1 A2 A3 c1 c2 c3 g cc w hg h1 h2 h3 k1 k2 k3 hlen) ?_
  rintro e w' ⟨⟨v, rfl, hrow⟩, hB⟩
  obtain ⟨A, c, rfl, hc, hA⟩ := hrow.val
  exact ⟨⟨A, _, c, rfl, Lib.hid ⟨rfl, hc, hA, hrow.list⟩⟩, hB⟩
theorem enl_one {w : World} {S : Nat → Prop} {g : Nat} {i u : Int} {s : ByteArray} {t : TypeId} (h : w.heap[g]? = some (.cells #[.int .u64 i, .int .u64 u, .string s] t (0, 0))) (hS : S g) : EnL w S [⟨i, u, s⟩] (some ⟨g, 0, none⟩) := by
  refine .inr ⟨g, 0, rfl, hS, fun j v hv => ?_⟩
  have e : List.flatMap En.cells [(⟨i, u, s⟩ : En)] = (#[.int .u64 i, .int .u64 u, .string s] : Array Value).toList := rfl
  rw [e, Array.getElem?_toList] at hv
  rw [Nat.zero_add, cell_of_row w g j _ t (0, 0) h]
  exact hv
end Go.Proofs.Ytngfgohchnkidaa
