/-
  TOKENS of the reference. Written by gen/genlxplain.py.
-/
import Derived.Test.YtpeeekgfcofbkaaLxRQuote
namespace Go.Proofs.Ytpeeekgfcofbkaa
open Go.RowKit

/-- the token at a place of a row -/
def TkAt (W : World) (g k : Nat) (x : Tk) : Prop := W.cell? ⟨g, k * 3, none⟩ = some (.int .i64 x.k) ∧ W.cell? ⟨g, k * 3 + 1, none⟩ = some (.string (strOfNums x.t)) ∧ W.cell? ⟨g, k * 3 + 2, none⟩ = some (.int .i64 (x.p : Nat))
def tkC (l : List Tk) : List Value := l.flatMap Tk.cells
theorem tkc_get : ∀ (l : List Tk) (k : Nat) (x : Tk), l[k]? = some x → ∀ i, i < 3 → (tkC l)[k * 3 + i]? = x.cells[i]?
  | [], k, x, h, _, _ => by cases h
  | y :: l, 0, x, h, i, hi => by
    obtain rfl : y = x := by simpa using h
    show (y.cells ++ tkC l)[0 * 3 + i]? = _
    rw [Nat.zero_mul, Nat.zero_add, List.getElem?_append_left (by simpa [Tk.cells] using hi)]
  | y :: l, k + 1, x, h, i, hi => by
    show (y.cells ++ tkC l)[(k + 1) * 3 + i]? = _
    rw [List.getElem?_append_right (by simp [Tk.cells]; omega)]
    have := tkc_get l k x (by simpa using h) i hi
    rw [← this]
    congr 1
    simp [Tk.cells]
    omega
theorem tk_at_cells {W : World} {g : Nat} {cs : Array Value} {t : TypeId} {fr : Nat × Nat} (hg : W.heap[g]? = some (.cells cs t fr)) {k : Nat} {x : Tk} (h : ∀ i, i < 3 → cs[k * 3 + i]? = x.cells[i]?) : TkAt W g k x :=
  ⟨(cell_of_row _ _ _ _ _ _ hg).trans (h 0 (by omega)), (cell_of_row _ _ _ _ _ _ hg).trans (h 1 (by omega)), (cell_of_row _ _ _ _ _ _ hg).trans (h 2 (by omega))⟩
/-- the tokens of a row of one's own -/
theorem tk_own {W : World} {base n : Nat} {t : TypeId} {v : Value} {l : List Tk} (h : W.ownsRow base t 3 v n (tkC l)) (hn : n = l.length) (h0 : 0 < n) : ∃ g c, v = .slice (some ⟨g, 0, none⟩) n c ∧ n ≤ c ∧ base ≤ g ∧ g < W.heap.size ∧ ∀ W', W'.heap[g]? = W.heap[g]? → ∀ k x, l[k]? = some x → TkAt W' g k x := by
  rcases h.2 with ⟨_, h1⟩ | ⟨g, cap, cur, e1, e2, e3, e4, _, e5, e6⟩
  · omega
  · refine ⟨g, cap, e1, e4, e2, (Array.getElem?_eq_some_iff.1 e3).1, fun W' hW k x hx => tk_at_cells (hW.trans e3) (fun i hi => ?_)⟩
    rw [← tkc_get l k x hx i hi, ← e6, List.getElem?_take, if_pos]
    · simp
    · have := (List.getElem?_eq_some_iff.1 hx).1
      omega
theorem tk_lit (W : World) (t : TypeId) (l : List Tk) (k : Nat) (x : Tk) (hx : l[k]? = some x) (cs : Array Value) (hcs : cs = (tkC l).toArray) : TkAt (W.alloc (.cells cs t)) W.heap.size k x := by
  subst hcs
  exact tk_at_cells (heap_alloc_new W _) (fun i hi => by rw [← tkc_get l k x hx i hi]; simp)
theorem info_rToken : (Try.prog.info? 66).map (fun i => (i.zero, i.size, i.bytes)) = some (some (.agg #[.int .i64 0, .string ⟨#[]⟩, .int .i64 0]), 3, 32) := by kernel_rfl
theorem step_tk {P : Program} (w : World) {ops : Array Oper} {o : Oper} {a : Act} {K : Act → World → Prop} {Q : Exit → Act → World → Prop} {E : Prop} (hgd : o.guard = none) (s x : Operand) (t : TypeId)
    (ho : o.op = .call { callee := .builtin .append, args := #[s, x], argTypes := #[t, t] })
    (base : Nat) (e : TypeId) (i : TypeInfo) (z : Value) (bytes : Nat) (ht : P.underlying t = some (.slice e)) (hi : P.info? e = some i) (hz : i.zero = some z)
    (hsize : i.size = 3) (hby : i.bytes = bytes) (hzs : z.cells.size = 3)
    (v : Value) (n : Nat) (l : List Tk) (_ : n = l.length) (hs : a.eval s = v) (hrow : w.ownsRow base e 3 v n (tkC l))
    (g c : Nat) (y : Tk) (hx : a.eval x = .slice (some ⟨g, 0, none⟩) 1 c) (hr : TkAt w g 0 y)
    (h63 : n + 1 ≤ maxLen) (hbytes : (n + 1) * bytes ≤ 140737488355328) (hbase : base ≤ w.heap.size)
    (h : ∀ v' w', w'.ownsRow base e 3 v' (n + 1) (tkC (l ++ [y])) → w.grownBy w' v.ownBlock → K (a.put o.dst v') w') : if Region.wanted o (yielded ops a.tmps) = true then Oper.wp P o a w K Q else E := by
  have hw : Region.wanted o (yielded ops a.tmps) = true := by simp [Region.wanted, hgd]
  rw [if_pos hw]
  obtain ⟨v', w', hr2, h2, h3, _, h5⟩ := run_append_own_at (P := P) w base t o.type e i z 3 bytes ht hi hz hsize hby hzs (by decide) v n _ hrow ⟨g, 0, none⟩ 1 c y.cells rfl
    (fun j u hj => by
      have hadd : (⟨g, 0, none⟩ : Addr).add j = ⟨g, j, none⟩ := by unfold Addr.add; split <;> simp_all
      rw [hadd]
      obtain ⟨r1, r2, r3⟩ := hr
      match j, hj with
      | 0, hj => rw [← hj]; exact r1
      | 1, hj => rw [← hj]; exact r2
      | 2, hj => rw [← hj]; exact r3
      | j + 3, hj => cases hj)
    (by intro u hu; simp only [Tk.cells, List.mem_cons, List.not_mem_nil, or_false] at hu; rcases hu with rfl | rfl | rfl <;> rfl) h63 hbytes hbase
  unfold Oper.wp execOp
  simp only [ho, resolve, invoke, builtin, Sem.run_bind, Sem.run_pure, Result.andThen_ok, List.map_toArray, List.map_cons, List.map_nil, hs, hx, hr2]
  refine h v' w' ?_ h3
  have : tkC (l ++ [y]) = tkC l ++ y.cells := by unfold tkC; rw [List.flatMap_append]; simp
  rw [this]
  exact h2
set_option maxHeartbeats 8000000 in
set_option maxRecDepth 100000 in
theorem plain_any (base n : Nat) (v : Value) (l : List Tk) (w : World) (hn : n = l.length) (h0 : 0 < n) (hl : n ≤ 100000) (hrow : w.ownsRow base 43 3 v n (tkC l)) :
    Calls Try.prog 16 #[v] w fun e w' => ∃ v', e = .returned v' ∧ w'.ownsRow w.heap.size 66 3 v' n (tkC l) ∧ Below w.heap.size w w' := by
  obtain ⟨i0, hi, hz0, hz1, hz2⟩ := lx_info info_rToken
  obtain ⟨g, c, rfl, hc, hg, hgw, hAt⟩ := tk_own hrow hn h0
  have hlen : Hid (n = l.length) := Lib.hid hn
  have hT : Hid (∀ W' : World, W'.heap[g]? = w.heap[g]? → ∀ (k : Nat) (x : Tk), l[k]? = some x → TkAt W' g k x) := Lib.hid hAt
  clear hAt hrow hn
  go_enter Try.func16, Try.ntmps16
  go_wp2_with fail
  go_loopw [3, 4] (fun cu i wr => ∃ (k : Nat), i = .int .i64 (k : Int) ∧ k ≤ n ∧ wr.ownsRow w.heap.size 66 3 cu k (tkC (l.take k)) ∧ Below w.heap.size w wr) (fun _ i _ => n - (intOf i).toNat)
  case atStart => exact ⟨0, rfl, Nat.zero_le _, ⟨rfl, .inl ⟨rfl, rfl⟩⟩, Below.refl _ _⟩
  case round =>
    obtain ⟨k, rfl, hk, hrow, hB⟩ := hrel
    have hBs := hB.size
    have hblk := Lib.hid (lx_blk hrow)
    by_cases hlt : k < n
    · have hlI : (k : Int) < (n : Int) := by omega
      have hk0 : (0 : Int) ≤ (k : Int) := by omega
      obtain ⟨⟨xk, xt, xp⟩, hx⟩ : ∃ x, l[k]? = some x := ⟨l[k]'(by have := hlen.out; omega), by rw [List.getElem?_eq_getElem]⟩
      have hxx : Hid (l.take (k + 1) = l.take k ++ [(⟨xk, xt, xp⟩ : Tk)]) := Lib.hid (by rw [List.take_add_one, hx]; rfl)
      have htl : Hid (k = (l.take k).length) := Lib.hid (by rw [List.length_take]; have := hlen.out; omega)
      have HS : Hid (∀ W, Below w.heap.size w W → (fun W : World => W.cell? ⟨g, k * 3, none⟩ = some (.int .i64 xk) ∧ W.cell? ⟨g, k * 3 + 1, none⟩ = some (.string (strOfNums xt)) ∧ W.cell? ⟨g, k * 3 + 2, none⟩ = some (.int .i64 (xp : Nat))) W) := Lib.hid fun W hW => hT.out W (hW.block g hgw) k _ hx
      have hd : Below w.heap.size w wr.drew := hB.drew
      have hrd : Hid (wr.drew.ownsRow w.heap.size 66 3 _ k (tkC (l.take k))) := Lib.hid hrow
      replace hrow := Lib.hid hrow
      clear hx
      go_wp2_with fail
      refine wp_region_held_drew (S := fun W => W.cell? ⟨g, k * 3, none⟩ = some (.int .i64 xk) ∧ W.cell? ⟨g, k * 3 + 1, none⟩ = some (.string (strOfNums xt)) ∧ W.cell? ⟨g, k * 3 + 2, none⟩ = some (.int .i64 (xp : Nat))) (by kernel_rfl) (HS.out _ hd) (fun hHeld => ?_)
      (try simp only [List.size_toArray, List.length_cons, List.length_nil, Nat.zero_add, Nat.reduceAdd])
      refine wpAnyH_takeL (i := 0) (v := ?v1) rfl (by kernel_rfl) (by kernel_rfl) (by kernel_rfl) (fun _ _ _ h => h) (Or.inl ⟨by rfl, ?y1⟩) (by assumption) ?r1
      case y1 => (intro W hSw; (try dsimp only at hSw); go_simp; try with_reducible rfl)
      (try simp only [Act.put, List.setIfInBounds_toArray, List.set_cons_zero, List.set_cons_succ])
      refine wpAnyH_takeL (i := 1) (v := ?v2) rfl (by kernel_rfl) (by kernel_rfl) (by kernel_rfl) (fun _ _ _ h => h) (Or.inl ⟨by rfl, ?y2⟩) (by assumption) ?r2
      case y2 => (intro W hSw; (try dsimp only at hSw); go_simp; try with_reducible rfl)
      (try simp only [Act.put, List.setIfInBounds_toArray, List.set_cons_zero, List.set_cons_succ])
      refine wpAnyH_takeL (i := 2) (v := ?v3) rfl (by kernel_rfl) (by kernel_rfl) (by kernel_rfl) (fun _ _ _ h => h) (Or.inl ⟨by rfl, ?y3⟩) (by assumption) ?r3
      case y3 => (intro W hSw; (try dsimp only at hSw); go_simp; try with_reducible rfl)
      (try simp only [Act.put, List.setIfInBounds_toArray, List.set_cons_zero, List.set_cons_succ])
      refine wpAnyH_takeL (i := 3) (v := ?v4) rfl (by kernel_rfl) (by kernel_rfl) (by kernel_rfl) (fun _ _ _ h => h) (Or.inl ⟨by rfl, ?y4⟩) (by assumption) ?r4
      case y4 => (intro W hSw; (try dsimp only at hSw); go_simp; try with_reducible rfl)
      (try simp only [Act.put, List.setIfInBounds_toArray, List.set_cons_zero, List.set_cons_succ])
      refine wpAnyH_takeL (i := 4) (v := ?v5) rfl (by kernel_rfl) (by kernel_rfl) (by kernel_rfl) (fun _ _ _ h => h) (Or.inl ⟨by rfl, ?y5⟩) (by assumption) ?r5
      case y5 => (intro W hSw; (try dsimp only at hSw); go_simp; try with_reducible rfl)
      (try simp only [Act.put, List.setIfInBounds_toArray, List.set_cons_zero, List.set_cons_succ])
      refine wpAnyH_takeL (i := 5) (v := ?v6) rfl (by kernel_rfl) (by kernel_rfl) (by kernel_rfl) (fun _ _ _ h => h) (Or.inl ⟨by rfl, ?y6⟩) (by assumption) ?r6
      case y6 => (intro W hSw; (try dsimp only at hSw); go_simp; try with_reducible rfl)
      (try simp only [Act.put, List.setIfInBounds_toArray, List.set_cons_zero, List.set_cons_succ])
      refine wpAnyH_takeL (i := 6) (v := ?v7) rfl (by kernel_rfl) (by kernel_rfl) (by kernel_rfl) (fun _ _ _ h => h) (Or.inl ⟨by rfl, ?y7⟩) (by assumption) ?r7
      case y7 => (intro W hSw; (try dsimp only at hSw); go_simp; try with_reducible rfl)
      (try simp only [Act.put, List.setIfInBounds_toArray, List.set_cons_zero, List.set_cons_succ])
      refine wpAnyH_takeL (i := 7) (v := ?v8) rfl (by kernel_rfl) (by kernel_rfl) (by kernel_rfl) (fun _ _ _ h => h) (Or.inl ⟨by rfl, ?y8⟩) (by assumption) ?r8
      case y8 => (intro W hSw; (try dsimp only at hSw); go_simp; try with_reducible rfl)
      (try simp only [Act.put, List.setIfInBounds_toArray, List.set_cons_zero, List.set_cons_succ])
      refine wpAnyH_takeL (i := 8) (v := ?v9) rfl (by kernel_rfl) (by kernel_rfl) (by kernel_rfl) (fun _ _ _ h => h) (Or.inl ⟨by rfl, ?y9⟩) (by assumption) ?r9
      case y9 => (intro W hSw; (try dsimp only at hSw); go_simp; try with_reducible rfl)
      (try simp only [Act.put, List.setIfInBounds_toArray, List.set_cons_zero, List.set_cons_succ])
      refine wpAnyH_takeL (i := 9) (v := ?v10) rfl (by kernel_rfl) (by kernel_rfl) (by kernel_rfl) (fun _ _ _ h => h) (Or.inl ⟨by rfl, ?y10⟩) (by assumption) ?r10
      case y10 => (intro W hSw; (try dsimp only at hSw); go_simp; try with_reducible rfl)
      (try simp only [Act.put, List.setIfInBounds_toArray, List.set_cons_zero, List.set_cons_succ])
      refine wpAnyH_takeL (i := 10) (v := ?v11) rfl (by kernel_rfl) (by kernel_rfl) (by kernel_rfl) (fun _ _ _ h => h) (Or.inl ⟨by rfl, ?y11⟩) (by assumption) ?r11
      case y11 => (intro W hSw; (try dsimp only at hSw); go_simp; try with_reducible rfl)
      (try simp only [Act.put, List.setIfInBounds_toArray, List.set_cons_zero, List.set_cons_succ])
      refine wpAnyH_takeL (i := 11) (v := ?v12) rfl (by kernel_rfl) (by kernel_rfl) (by kernel_rfl) (fun _ _ _ h => h) (Or.inl ⟨by rfl, ?y12⟩) (by assumption) ?r12
      case y12 => (intro W hSw; (try dsimp only at hSw); go_simp; try with_reducible rfl)
      (try simp only [Act.put, List.setIfInBounds_toArray, List.set_cons_zero, List.set_cons_succ])
      refine wpAnyH_takeL (i := 12) (v := ?v13) rfl (by kernel_rfl) (by kernel_rfl) (by kernel_rfl) (fun _ _ _ h => h) (Or.inl ⟨by rfl, ?y13⟩) (by assumption) ?r13
      case y13 => (intro W hSw; (try dsimp only at hSw); go_simp; try with_reducible rfl)
      (try simp only [Act.put, List.setIfInBounds_toArray, List.set_cons_zero, List.set_cons_succ])
      refine wpAnyH_takeL (i := 13) (v := ?v14) rfl (by kernel_rfl) (by kernel_rfl) (by kernel_rfl) (fun _ _ _ h => h) (Or.inl ⟨by rfl, ?y14⟩) (by assumption) ?r14
      case y14 => (intro W hSw; (try dsimp only at hSw); go_simp; try with_reducible rfl)
      (try simp only [Act.put, List.setIfInBounds_toArray, List.set_cons_zero, List.set_cons_succ])
      refine wpAnyH_takeL (i := 14) (v := ?v15) rfl (by kernel_rfl) (by kernel_rfl) (by kernel_rfl) (fun _ _ _ h => h) (Or.inl ⟨by rfl, ?y15⟩) (by assumption) ?r15
      case y15 => (intro W hSw; (try dsimp only at hSw); go_simp; try with_reducible rfl)
      (try simp only [Act.put, List.setIfInBounds_toArray, List.set_cons_zero, List.set_cons_succ])
      refine wpAnyH_takeL (i := 15) (v := ?v16) rfl (by kernel_rfl) (by kernel_rfl) (by kernel_rfl) (fun _ _ _ h => h) (Or.inl ⟨by rfl, ?y16⟩) (by assumption) ?r16
      case y16 => (intro W hSw; (try dsimp only at hSw); go_simp; try with_reducible rfl)
      (try simp only [Act.put, List.setIfInBounds_toArray, List.set_cons_zero, List.set_cons_succ])
      refine wpAnyH_takeL (i := 16) (v := ?v17) rfl (by kernel_rfl) (by kernel_rfl) (by kernel_rfl) (fun _ _ _ h => h) (Or.inl ⟨by rfl, ?y17⟩) (by assumption) ?r17
      case y17 => (intro W hSw; (try dsimp only at hSw); go_simp; try with_reducible rfl)
      (try simp only [Act.put, List.setIfInBounds_toArray, List.set_cons_zero, List.set_cons_succ])
      refine wpAnyH_ready (rs := [17]) (by kernel_rfl) (by simp) ?_
      refine consL rfl (fun K hK => ?_) AllReadyH.nil
      go_simp
      have hBA : Below w.heap.size w (wr.drew.alloc (.cells #[.int .i64 xk, .string (strOfNums xt), .int .i64 (xp : Nat)] 66)) := hd.alloc hd.size _
      (try dsimp only)
      refine hK.out _ _ (HS.out _ hBA) (fun hHeld => ?_)
      clear hK K
      (try simp only [Act.put, List.setIfInBounds_toArray, List.set_cons_zero, List.set_cons_succ])
      have hrA := Lib.hid (hrd.out.alloc (.cells #[.int .i64 xk, .string (strOfNums xt), .int .i64 (xp : Nat)] 66))
      have hbA := hBA.size
      have hxA : Hid (TkAt (wr.drew.alloc (.cells #[.int .i64 xk, .string (strOfNums xt), .int .i64 (xp : Nat)] 66)) wr.drew.heap.size 0 (⟨xk, xt, xp⟩ : Tk)) := Lib.hid (tk_lit wr.drew 66 [(⟨xk, xt, xp⟩ : Tk)] 0 _ rfl _ rfl)
      refine wpAnyH_ready (rs := [18]) (by kernel_rfl) (by simp) ?_
      refine consL rfl (fun K hK => ?_) AllReadyH.nil
      refine step_tk (wr.drew.alloc (.cells #[.int .i64 xk, .string (strOfNums xt), .int .i64 (xp : Nat)] 66)) rfl (.tmp 11) (.tmp 28) 32 rfl w.heap.size 66 i0 (.agg #[.int .i64 0, .string ⟨#[]⟩, .int .i64 0]) 32 Try.underlying32 hi hz0 hz1 hz2 rfl _ k (l.take k) htl.out rfl hrA.out wr.drew.heap.size 1 (⟨xk, xt, xp⟩ : Tk) rfl hxA.out (by unfold maxLen; omega) (by omega) hbA ?_
      intro v2 w2 hown2' hgrow2
      have hB2 := Lib.hid (hBA.grown hgrow2 hbA (fun j ej => hblk.out j ej))
      have hown2 := Lib.hid hown2'
      clear hown2' hgrow2
      (try dsimp only)
      refine hK.out _ _ (HS.out _ hB2.out) (fun hHeld => ?_)
      clear hK K
      (try simp only [Act.put, List.setIfInBounds_toArray, List.set_cons_zero, List.set_cons_succ])
      refine wpAnyH_takeL (i := 19) (v := ?v18) rfl (by kernel_rfl) (by kernel_rfl) (by kernel_rfl) (fun _ _ _ h => h) (Or.inl ⟨by rfl, ?y18⟩) (by assumption) ?r18
      case y18 => (intro W hSw; (try dsimp only at hSw); go_simp; try with_reducible rfl)
      (try simp only [Act.put, List.setIfInBounds_toArray, List.set_cons_zero, List.set_cons_succ])
      refine wpAnyH_done (by kernel_rfl) ?_ _
      go_wp2_with fail
      go_roundw
      case rel => exact ⟨k + 1, by go_num, by omega, by rw [hxx.out]; exact hown2.out, hB2.out⟩
      case measure => simp [intOf]; omega
    · have hlI : ¬ (k : Int) < (n : Int) := by omega
      obtain rfl : k = n := by omega
      replace hrow := Lib.hid hrow
      go_wp2_with fail
      go_ret
      exact ⟨_, rfl, by have h := hrow.out; rwa [List.take_of_length_le (by rw [hlen.out]; exact Nat.le_refl _)] at h, hB⟩
end Go.Proofs.Ytpeeekgfcofbkaa
