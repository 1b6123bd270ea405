/-
  THE WALK of afterSequence: the derivative of a sequence.
-/
import Derived.Test.YtnjkihbmhacgoaaGreatDoorRxDerA
import Derived.Deep.AppendLies
namespace Go.Proofs.YtnjkihbmhacgoaaGreatDoor
open Go.RowKit

theorem wp_append_t {P : Program} (w : World) {o : Oper} {a : Act} {K : Act → World → Prop} {Q : Exit → Act → World → Prop} (s x : Operand) (t : TypeId)
    (ho : o.op = .call { callee := .builtin .append, args := #[s, x], argTypes := #[t, t] })
    (base : Nat) (e : TypeId) (i : TypeInfo) (z : Value) (bytes : Nat) (ht : P.underlying t = some (.slice e)) (hi : P.info? e = some i) (hz : i.zero = some z)
    (hsize : i.size = 4) (hby : i.bytes = bytes) (hzs : z.cells.size = 4)
    (v : Value) (L S : Nat → Prop) (ts : List Tn) (hs : a.eval s = v) (hrow : RowT w base L e v ts)
    (A : Option Addr) (m c : Nat) (xs : List Rx) (hx : a.eval x = .slice A m c) (hm : m = xs.length) (hA : A = none → c = 0) (hc : xs.length ≤ c) (hr : RtL w S xs A) (hS : ∀ b, S b → L b ∧ b < base)
    (h63 : ts.length + m ≤ maxLen) (hbytes : (ts.length + m) * bytes ≤ 140737488355328) (hbase : base ≤ w.heap.size)
    (h : ∀ v' w' ts', ts'.map Tn.x = xs → RowT w' base L e v' (ts ++ ts') → Below base w w' → K (a.put o.dst v') w') : o.wp P a w K Q := by
  subst hm
  obtain ⟨us, e1, e2, e3⟩ := hr.tns
  have hl : us.length = xs.length := by rw [← e1, List.length_map]
  cases A with
  | none =>
    obtain rfl : c = 0 := hA rfl
    obtain rfl : xs = [] := List.eq_nil_of_length_eq_zero (by omega)
    obtain rfl : us = [] := List.eq_nil_of_length_eq_zero (by simpa using hl)
    have hrun := run_append_owned_none (P := P) (w := w) base t o.type e i 4 ht hi v ts.length _ hrow.1
    unfold Oper.wp execOp
    simp only [ho, resolve, invoke, builtin, Sem.run_bind, Sem.run_pure, Result.andThen_ok, List.map_toArray, List.map_cons, List.map_nil, hs, hx, List.length_nil, hrun]
    exact h v w [] rfl (by simpa using hrow) (Below.refl _ _)
  | some ad =>
    have hnews : ∀ j u, (us.flatMap Tn.cells)[j]? = some u → w.cell? (ad.add j) = some u := fun j u hj => by
      cases xs with
      | nil =>
        obtain rfl : us = [] := List.eq_nil_of_length_eq_zero (by simpa using hl)
        simp at hj
      | cons x0 xs =>
        obtain ⟨b, o', e0, _⟩ := hr.addr (by simp)
        injection e0 with e0
        subst e0
        have hadd : (⟨b, o', none⟩ : Addr).add j = ⟨b, o' + j, none⟩ := by unfold Addr.add; split <;> simp_all
        rw [hadd]
        exact e3 b o' rfl j u hj
    obtain ⟨v', w', hrun, h2, h3, _, h5⟩ := run_append_own_at (P := P) w base t o.type e i z 4 bytes ht hi hz hsize hby hzs (by decide) v ts.length _ hrow.1 ad xs.length c (us.flatMap Tn.cells) (by rw [tn_cells_len, hl]) hnews (tn_one us) h63 hbytes hbase
    unfold Oper.wp execOp
    simp only [ho, resolve, invoke, builtin, Sem.run_bind, Sem.run_pure, Result.andThen_ok, List.map_toArray, List.map_cons, List.map_nil, hs, hx, hrun]
    refine h v' w' us e1 ⟨?_, ?_⟩ ?_
    · rw [List.flatMap_append, List.length_append, hl]
      exact h2
    · have hgo : ∀ b, L b → b < w.heap.size → some b ≠ v.ownBlock → Lay L w' v' b ∧ w'.heap[b]? = w.heap[b]? := fun b h1 h4 h6 => ⟨⟨h1, Nat.lt_of_lt_of_le h4 h3.size, fun e => by
          rcases h5 with h5 | h5
          · exact h6 (e.trans h5)
          · rw [h5] at e; injection e with e; omega⟩, h3.block b h4 h6⟩
      intro t' ht'
      rcases List.mem_append.1 ht' with h1 | h1
      · exact RtV.to (fun b hb => hgo b hb.1 hb.2.1 hb.2.2) _ (hrow.2 t' h1)
      · exact RtV.to (fun b hb => hgo b (hS b hb).1 (Nat.lt_of_lt_of_le (hS b hb).2 hbase) (fun e => by have := (own_blk_lt hrow.1 e).1; have := (hS b hb).2; omega)) _ (e2 t' h1)
    · exact (Below.refl base w).grown h3 hbase (fun j ej => hrow.blk j ej)
theorem step_append_t {P : Program} (w : World) {ops : Array Oper} {o : Oper} {a : Act} {K : Act → World → Prop} {Q : Exit → Act → World → Prop} {E : Prop} (hgd : o.guard = none) (s x : Operand) (t : TypeId)
    (ho : o.op = .call { callee := .builtin .append, args := #[s, x], argTypes := #[t, t] })
    (base : Nat) (e : TypeId) (i : TypeInfo) (z : Value) (bytes : Nat) (ht : P.underlying t = some (.slice e)) (hi : P.info? e = some i) (hz : i.zero = some z)
    (hsize : i.size = 4) (hby : i.bytes = bytes) (hzs : z.cells.size = 4)
    (v : Value) (L S : Nat → Prop) (ts : List Tn) (hs : a.eval s = v) (hrow : RowT w base L e v ts)
    (A : Option Addr) (m c : Nat) (xs : List Rx) (hx : a.eval x = .slice A m c) (hm : m = xs.length) (hA : A = none → c = 0) (hc : xs.length ≤ c) (hr : RtL w S xs A) (hS : ∀ b, S b → L b ∧ b < base)
    (h63 : ts.length + m ≤ maxLen) (hbytes : (ts.length + m) * bytes ≤ 140737488355328) (hbase : base ≤ w.heap.size)
    (h : ∀ v' w' ts', ts'.map Tn.x = xs → RowT w' base L e v' (ts ++ ts') → Below base w w' → K (a.put o.dst v') w') : if Region.wanted o (yielded ops a.tmps) = true then Oper.wp P o a w K Q else E := by
  have hw : Region.wanted o (yielded ops a.tmps) = true := by simp [Region.wanted, hgd]
  rw [if_pos hw]
  exact wp_append_t w s x t ho base e i z bytes ht hi hz hsize hby hzs v L S ts hs hrow A m c xs hx hm hA hc hr hS h63 hbytes hbase h

theorem lit_row {w1 : World} {base : Nat} {L T : Nat → Prop} {e : TypeId} {t : Tn} (hb : base ≤ w1.heap.size) (ht : RtV w1 T t.x t.val) (hT : ∀ b, T b → L b ∧ b < w1.heap.size) : RowT (w1.alloc (.cells t.cells.toArray e)) base L e (.slice (some ⟨w1.heap.size, 0, none⟩) 1 1) [t] :=
  ⟨⟨rfl, .inr ⟨w1.heap.size, 1, _, rfl, hb, heap_alloc_new w1 _, Nat.le_refl _, by decide, rfl, rfl⟩⟩, fun t' h => by
    obtain rfl := List.mem_singleton.1 h
    exact RtV.to (fun b hb' => ⟨⟨(hT b hb').1, by have := (hT b hb').2; simp; omega, by simp [Value.ownBlock]; have := (hT b hb').2; omega⟩, Below.heap_alloc w1 _ b (hT b hb').2⟩) _ ht⟩
/-- the Kids behind a place, as the slice expression lays them -/
theorem RtL.after {w : World} {S : Nat → Prop} {s : List Rx} {b o cc j : Nat} (h : RtL w S s (some ⟨b, o, none⟩)) (hc : s.length ≤ cc) : RtL w S (s.drop (j + 1)) (if cc = j + 1 then some ⟨b, o, none⟩ else some ⟨b, o + (j + 1) * 4, none⟩) := by
  split
  · rw [List.drop_eq_nil_of_le (by omega)]
    simp only [RtL]
  · exact h.drop (j + 1)

theorem wf_seq {l : List Rx} (h : wfL l = true) : wfR (.node 3 0 0 l) = true := by rw [wfR_eq]; simp [wfK, h]
/-- the choices of the first n Kids -/
def chs (s ys : List Rx) (n : Nat) : List Rx := (List.range n).map fun i => nfK (.node 3 0 0 (ys.getD i nilR :: s.drop (i + 1)))
theorem chs_len (s ys : List Rx) (n : Nat) : (chs s ys n).length = n := by simp [chs]
theorem chs_snoc (s ys : List Rx) (n : Nat) : chs s ys (n + 1) = chs s ys n ++ [nfK (.node 3 0 0 (ys.getD n nilR :: s.drop (n + 1)))] := by simp [chs, List.range_succ]

set_option maxHeartbeats 4000000 in
set_option maxRecDepth 100000 in
theorem after_any (s ys : List Rx) (n : Nat) (c : Int) (hwf : wfL s = true) (hN : nodesL s ≤ 1000) (hn1 : n ≤ s.length) (hn2 : ∀ i (h : i < s.length), i + 1 < n → nulR s[i] = true) (hn3 : n < s.length → 0 < n) (hn4 : ∀ h : n - 1 < s.length, n < s.length → nulR s[n - 1] = false)
    (hy : ∀ i (h : i < s.length), i < n → DC s[i] c (ys.getD i nilR) ∧ wfR (ys.getD i nilR) = true ∧ nodes (ys.getD i nilR) ≤ 1000)
    (hcw : wfL (chs s ys n) = true) (hcn : nodesL (chs s ys n) ≤ 1000000) (hcf : Fit1 (.node 4 0 0 (chs s ys n)))
    (A : Option Addr) (cc : Nat) (f : Value) (S : Nat → Prop) (w : World) (hforms : FormsAt w S f) (hs : RtL w S s A) (hS : SOk S w.heap.size) (hc : s.length ≤ cc) (hA : A = none → cc = 0) :
    Calls Tryz.prog 76 #[f, .slice A s.length cc, .int .u8 c] w fun e w' => GivesS S w (nfK (.node 4 0 0 (chs s ys n))) e w' := by
  have hsl : s.length ≤ 1000 := by have := len_nodes s; omega
  obtain ⟨i0, hi, hz0, hz1, hz2⟩ := info_parts info_Regex
  have hforms0 := hforms
  obtain ⟨mb, es, clock, rfl, hmb, hent⟩ := hforms
  clear hent hmb
  have hJ2 : ∀ (W : World) (A5 : Option Addr) (c5 m : Nat), Below w.heap.size w W → m = n → RtL W (Plus S (w.heap.size + 1) W.heap.size) (chs s ys m) A5 → m ≤ c5 → (A5 = none → c5 = 0) → Calls Tryz.prog 77 #[.map (some mb), .int .i64 4, .slice A5 m c5] W fun e w' => GivesS (Plus S (w.heap.size + 1) W.heap.size) W (nfK (.node 4 0 0 (chs s ys n))) e w' := fun W A5 c5 m hW hm hl h5 h6 => by
    subst hm
    have hS2 : SOk (Plus S (w.heap.size + 1) W.heap.size) W.heap.size := fun b hb => by
      rcases hb with h | h
      · exact Nat.lt_of_lt_of_le (hS b h) hW.size
      · exact h.2
    have := join_any 4 (chs s ys m) A5 c5 (.map (some mb)) _ W ((hforms0.keep hS hW).sub (fun _ h => .inl h)) hl hS2 (by rw [chs_len]; exact h5) h6 (by rw [chs_len]; omega) (by rw [wfR_eq]; simp [wfK, hcw]) hcn hcf
    rwa [chs_len] at this
  obtain ⟨res, hres⟩ : ∃ res, nfK (.node 4 0 0 (chs s ys n)) = res := ⟨_, rfl⟩
  rw [hres] at hJ2 ⊢
  have hJ1 : ∀ (W : World) (A5 : Option Addr) (c5 j m N : Nat) (hj : j < s.length), j < n → N ≤ W.heap.size → Below w.heap.size w W → m = s.length - j → RtL W (Plus S N W.heap.size) (ys.getD j nilR :: s.drop (j + 1)) A5 → m ≤ c5 → (A5 = none → c5 = 0) → Calls Tryz.prog 77 #[.map (some mb), .int .i64 3, .slice A5 m c5] W fun e w' => GivesS (Plus S N W.heap.size) W (nfK (.node 3 0 0 (ys.getD j nilR :: s.drop (j + 1)))) e w' := fun W A5 c5 j m N hj hjn hNW hW hm hl h5 h6 => by
    have hml : m = (ys.getD j nilR :: s.drop (j + 1)).length := by rw [List.length_cons, List.length_drop]; omega
    rw [hml] at h5 ⊢
    have hS2 : SOk (Plus S N W.heap.size) W.heap.size := fun b hb => by
      rcases hb with h | h
      · exact Nat.lt_of_lt_of_le (hS b h) hW.size
      · exact h.2
    obtain ⟨_, hyw, hyn⟩ := hy j hj hjn
    have hwd : wfL (s.drop (j + 1)) = true := wf_all.2 fun z hz => wf_all.1 hwf z (List.mem_of_mem_drop hz)
    have hnd : nodesL (s.drop (j + 1)) ≤ nodesL s := by
      have := nodesL_app (s.take (j + 1)) (s.drop (j + 1))
      rw [List.take_append_drop] at this
      omega
    exact join_any 3 _ A5 c5 (.map (some mb)) _ W ((hforms0.keep hS hW).sub (fun _ h => .inl h)) hl hS2 h5 h6 (by rw [List.length_cons, List.length_drop]; omega) (wf_seq (by simp only [wfL, hyw, hwd]; rfl)) (by simp only [nodesL]; omega) (fit_seq _)
  clear hres hcw hcn hcf
  have hfin : ∀ (W : World) (e : Ending) (w1 : World), Below w.heap.size w W → W.heap[w.heap.size]? = some (.cells #[.int .i64 0, .int .u8 0, .int .u8 0, .slice none 0 0] 30 (0, 0)) → GivesS (Plus S (w.heap.size + 1) W.heap.size) W res e w1 → ∃ A2 d2, e = .returned (rxv res.kind res.lo res.hi A2 res.kids.length d2) ∧ RtV w1 (Plus S (w.heap.size + 1) w1.heap.size) res (rxv res.kind res.lo res.hi A2 res.kids.length d2) ∧ Below w.heap.size w w1 ∧ w1.heap[w.heap.size]? = some (.cells #[.int .i64 0, .int .u8 0, .int .u8 0, .slice none 0 0] 30 (0, 0)) := fun W e w1 hW hr ⟨v1, he1, hv1, hw1⟩ => by
    obtain ⟨_, A2, d2, rfl, _⟩ := hv1.parts
    have hlt := (Array.getElem?_eq_some_iff.1 hr).1
    have hw1s := hw1.size
    refine ⟨A2, d2, he1, hv1.sub (fun b hb => ?_), hW.trans (hw1.mono hW.size), (hw1.block _ hlt).trans hr⟩
    rcases hb with (h1 | h1) | h1
    · exact .inl h1
    · exact .inr ⟨h1.1, by omega⟩
    · exact .inr ⟨by omega, h1.2⟩
  go_enter Tryz.func76, Tryz.ntmps76
  go_wp2_with fail
  go_loopw [7, 13] (fun u i wr => ∃ (j : Nat) (ts : List Tn), j ≤ s.length ∧ i = .int .i64 j ∧ Hid (ts.map Tn.x = chs s ys j ∧ ts.length = j) ∧ Hid (j ≤ n ∧ (j < s.length → j < n)) ∧
      wr.heap[w.heap.size]? = some (.cells #[.int .i64 0, .int .u8 0, .int .u8 0, .slice none 0 0] 30 (0, 0)) ∧
      RowT wr (w.heap.size + 1) (fun b => S b ∨ w.heap.size + 1 ≤ b) 30 u ts ∧ Below w.heap.size w wr ∧ w.heap.size + 1 ≤ wr.heap.size) (fun _ i _ => s.length - (intOf i).toNat)
  case atStart => exact ⟨0, [], Nat.zero_le _, rfl, Lib.hid ⟨rfl, rfl⟩, Lib.hid ⟨Nat.zero_le _, fun h => by omega⟩, heap_alloc_new w _, RowT.nil _ _ _ _, (Below.refl _ _).alloc (Nat.le_refl _) _, by simp⟩
  case round =>
    obtain ⟨j, ts, hj, rfl, hts, hjn, hb1, hrow, hW, hsz⟩ := hrel
    by_cases hlt : j < s.length
    · obtain ⟨bl, o, A', c', rfl, hbl, h4, hx⟩ := hs.get hlt
      have h4' := h4.to (hW.block bl (hS bl hbl))
      have hjn2 := hjn.out.2 hlt
      obtain ⟨hD, hyw, hyn⟩ := hy j hlt hjn2
      have hDC : ∀ W, Below w.heap.size w W → Calls Tryz.prog 54 #[.map (some mb), rxv s[j].kind s[j].lo s[j].hi A' s[j].kids.length c', .int .u8 c] W fun e w' => GivesS S W (ys.getD j nilR) e w' := fun W hWW => hD _ _ S W (hforms0.keep hS hWW) (hx.keep hS hWW) (hS.mono hWW.size)
      have hNU : ∀ W, Below w.heap.size w W → Calls Tryz.prog 86 #[rxv s[j].kind s[j].lo s[j].hi A' s[j].kids.length c'] W fun e w' => e = .returned (.bool (nulR s[j])) ∧ Below W.heap.size W w' := fun W hWW => nullable_any s[j] _ W (wfL.get hwf hlt) ((hx.keep hS hWW).lo (hS.mono hWW.size))
      have hJ1' := fun W A5 c5 m N => hJ1 W A5 c5 j m N hlt hjn2
      have hjj : IntKind.i64.wrap ((j : Int) + 1) = (j : Int) + 1 := by simp [IntKind.wrap, IntKind.bits, IntKind.signed]; omega
      have hjl : nulR s[j] = false → j + 1 = n := fun h => by
        apply Classical.byContradiction
        intro hne
        have := hn2 j hlt (by omega)
        rw [h] at this
        cases this
      have hjt : nulR s[j] = true → j + 1 ≤ n ∧ (j + 1 < s.length → j + 1 < n) := fun h => ⟨hjn2, fun h2 => by
        apply Classical.byContradiction
        intro hne
        have hjn3 : n = j + 1 := by omega
        subst hjn3
        have := hn4 (by simpa using hlt) h2
        simp only [Nat.add_sub_cancel] at this
        rw [h] at this
        cases this⟩
      obtain ⟨e0, e1, e2, e3⟩ := h4'
      have hd : ∀ o, Below (w.heap.size + 1) wr (wr.alloc o) := fun o => (Below.refl _ _).alloc hsz _
      have haf := fun W (h : Below w.heap.size w W) => (hs.keep hS h).after (j := j) hc
      have hdl : (s.drop (j + 1)).length = s.length - (j + 1) := List.length_drop ..
      have hsn := Lib.hid (chs_snoc s ys j)
      clear hx h4 hy hn2 hn3 hn4 hJ1 hD hyw hyn
      generalize nulR s[j] = nul at *
      generalize s[j].kind = xk at *
      generalize s[j].lo = xl at *
      generalize s[j].hi = xh at *
      generalize s[j].kids.length = xn at *
      replace hjl := Lib.hid hjl
      replace hjt := Lib.hid hjt
      generalize nfK (.node 3 0 0 (ys.getD j nilR :: s.drop (j + 1))) = rj at *
      generalize ys.getD j nilR = y at *
      have htl := Lib.hid hts.out.2
      have g1 : (0 : Int) ≤ (j : Int) + 1 := by omega
      have g2 : (j : Int) + 1 ≤ (s.length : Int) := by omega
      have g3 : ((j : Int) + 1).toNat = j + 1 := by omega
      unfold rxv at hDC hNU
      go_wp2_with fail
      go_region_law (first
        | (refine step_append_t _ (by rfl) _ _ _ (by rfl) (wr.heap.size + 1) 30 i0 (.agg #[.int .i64 0, .int .u8 0, .int .u8 0, .slice none 0 0]) 40 Tryz.underlying28 hi hz0 hz1 hz2 rfl (.slice (some ⟨w1.heap.size, 0, none⟩) 1 1) (fun b => S b ∨ wr.heap.size + 1 ≤ b) S [⟨y, A3, c3⟩] (by rfl) (lit_row (T := Plus S (wr.heap.size + 1) w1.heap.size) (t := ⟨y, A3, c3⟩) (by omega) (hv1.sub (fun b hb => by rcases hb with h | h; exact .inl h; exact .inr ⟨by have := h.1; simp at this; omega, h.2⟩)) (fun b hb => by rcases hb with h | h; exact ⟨.inl h, by have := hS b h; omega⟩; exact ⟨.inr h.1, h.2⟩)) (if cc = j + 1 then some ⟨bl, o, none⟩ else some ⟨bl, o + (j + 1) * 4, none⟩) (s.length - (j + 1)) (cc - (j + 1)) (s.drop (j + 1)) (by rfl) hdl.symm (by split <;> (intro h; cases h)) (by rw [hdl]; omega) (haf _ (hB1.alloc (by omega) _)) (fun b h => ⟨.inl h, by have := hS b h; omega⟩) (by simp; unfold maxLen; omega) (by simp; omega) (by simp; omega) ?_; intro v5 w5 ts5 e5 hr5 hB5)
        | (go_simp; go_at_call 54; refine Calls.mono (hDC _ ((hW.trans ((hd _).mono (by omega))).drew)) ?_; rintro e' w1 ⟨v1, rfl, hv1, hw1⟩; obtain ⟨_, A3, c3, rfl, hc3, hA3, hs3⟩ := hv1.parts; have hy1 := hw1.size; simp at hy1; have hB1 : Below w.heap.size w w1 := (hW.trans ((hd _).mono (by omega))).drew.trans (hw1.mono (by simp; omega)); have hk1 := (hw1.block wr.heap.size (by simp)).trans (heap_alloc_new wr (.cells #[.int .i64 xk, .int .u8 xl, .int .u8 xh, .slice A' xn c'] 30)); have hwr1 : Below wr.heap.size wr w1 := ((Below.refl wr.heap.size wr).alloc (Nat.le_refl _) _).drew.trans (hw1.mono (by simp)); simp only [rxv]))
      all_goals
        obtain ⟨A5, c5, rfl⟩ := hr5.val
        have hlen5 : ([(⟨y, A3, c3⟩ : Tn)] ++ ts5).length = s.length - j := by
          have := congrArg List.length e5
          rw [List.length_map, hdl] at this
          simp only [List.length_append, List.length_cons, List.length_nil]
          omega
        obtain ⟨r1, r2, r3, r4⟩ := hr5.list
        rw [List.map_append, e5] at r4
        have hwr5 : Below wr.heap.size wr w5 := (hwr1.trans ((Below.refl wr.heap.size w1).alloc (by omega) _)).trans (hB5.mono (by omega))
        have hk5 := (hB5.block wr.heap.size (by omega)).trans ((Below.heap_alloc w1 _ wr.heap.size (by omega)).trans hk1)
        have hB5w : Below w.heap.size w w5 := hW.trans (hwr5.mono hW.size)
        have hz5 : wr.heap.size + 1 ≤ w5.heap.size := by have := hB5.size; simp at this; omega
        have hJA := hJ1' w5 A5 c5 _ (wr.heap.size + 1) hz5 hB5w hlen5 (r4.sub (fun b hb => by
          rcases hb with ⟨(h1 | h1) | h1, h2⟩
          · exact .inl h1
          · exact .inr ⟨h1, h2⟩
          · exact .inr ⟨h1, h2⟩)) r2 r3
        clear hJ1' hDC r4 hr5 hv1 hs3 hlen5 r1 r2 r3 e5
        generalize ([(⟨y, A3, c3⟩ : Tn)] ++ ts5).length = m5 at *
        cases nul
        · replace hjl := Lib.hid (hjl.out rfl)
          clear hjt
          go_wp2_with (first
          | (go_at_call 77; refine Calls.mono hJA ?_; clear hJA; rintro e' w6 ⟨v6, rfl, hv6, hw6⟩; obtain ⟨ok6, A6, c6, rfl, hc6, hA6, hs6⟩ := hv6.parts; have hy6 := hw6.size; have hwr6 : Below wr.heap.size wr w6 := hwr5.trans (hw6.mono (by omega)); have hk6 := (hw6.block wr.heap.size (by omega)).trans hk5; simp only [rxv])
          | (at_builtin; refine wpList_append_lies _ rfl _ _ 28 rfl (w.heap.size + 1) 30 i0 (.agg #[.int .i64 0, .int .u8 0, .int .u8 0, .slice none 0 0]) 4 40 Tryz.underlying28 hi hz0 hz1 hz2 rfl (by decide) _ ts.length (ts.flatMap Tn.cells) rfl ((own_below hrow.1 hwr6).alloc _) ⟨w6.heap.size, 0, none⟩ 1 1 (Tn.cells ⟨rj, A6, c6⟩) rfl rfl (World.news_of_block (cs := #[.int .i64 rj.kind, .int .u8 rj.lo, .int .u8 rj.hi, .slice A6 rj.kids.length c6]) (t := 30) (fr := (0, 0)) (heap_alloc_new w6 _)) (tn_one1 _) (by decide) (by have := htl.out; unfold maxLen; omega) (by have := htl.out; omega) (by simp; omega) (w6.heap.size + 1) (by simp) ?_; intro g' cap' w7 hown7 hgrow7 hat7 hlt7; have hk7 := (hgrow7.block wr.heap.size (by simp; omega) (fun e => by have := (own_blk_lt hrow.1 e).2; omega)).trans ((Below.heap_alloc w6 _ wr.heap.size (by omega)).trans hk6); obtain ⟨x0, x1, x2, x3⟩ := four hk7; obtain ⟨hr7, hB7⟩ := row_step (t := ⟨rj, A6, c6⟩) hrow hwr6 hsz (hv6.sub (T := Plus S (wr.heap.size + 1) w6.heap.size) (fun b hb => by rcases hb with (h1 | h1) | h1; exact .inl h1; exact .inr ⟨h1.1, by omega⟩; exact .inr ⟨by omega, h1.2⟩)) (fun b hb => ⟨by rcases hb with h1 | h1; exact .inl h1; exact .inr (by omega), by rcases hb with h1 | h1; have := hS b h1; omega; exact h1.2, plus_far hrow (hS.mono (by omega)) (by omega) hb⟩) hown7 hgrow7 hat7; have hB7w : Below w.heap.size w w7 := hW.trans (hB7.mono (by omega)); have hres7 := (hB7.block w.heap.size (by omega)).trans hb1)
          | (go_at_call 86; refine Calls.mono (hNU _ hB7w) ?_; clear hNU; rintro e' w8 ⟨rfl, hw8⟩; have hB8w : Below w.heap.size w w8 := hB7w.trans (hw8.mono hB7w.size); have hr8 := hr7.below hw8; have hres8 := (hw8.block w.heap.size (by have := hB7w.size; have := (Array.getElem?_eq_some_iff.1 hres7).1; omega)).trans hres7)
            | (go_at_call 77; obtain ⟨r1, r2, r3, r4⟩ := hr8.list; have h9 : (ts ++ [(⟨rj, A6, c6⟩ : Tn)]).map Tn.x = chs s ys (ts.length + 1) := (by rw [List.map_append, hts.out.1, htl.out, hsn.out]; rfl); rw [h9] at r4; have hjn9 : ts.length + 1 = n := (by rw [htl.out]; exact hjl.out); have hx9 := hJ2 w8 _ _ (ts.length + 1) hB8w hjn9 (r4.sub (fun b hb => by rcases hb with ⟨(h1 | h1) | h1, h2⟩; exact .inl h1; exact .inr ⟨h1, h2⟩; exact .inr ⟨h1, h2⟩)) r2 r3; clear hJ2 hjn9 r4 r1 r2 r3 h9; refine Calls.mono hx9 ?_; clear hx9; intro e w9 hg; obtain ⟨A9, d9, rfl, hv9, hB9, hr9⟩ := hfin _ e w9 hB8w hres8 hg; obtain ⟨z0, z1, z2, z3⟩ := four hr9; have hf9 := four_frozen hr9; simp only [rxv]))
          all_goals
            refine bodyPost_ret (v := rxv res.kind res.lo res.hi A9 res.kids.length d9) (by unfold rxv; simp [results, Tryz.results76, go_sem, z0, z1, z2, z3]) rfl ?_
            exact fin_gives hB9 (Nat.le_refl _) hS hv9 (fun b hb => plus_sub0 hS hb)
        · replace hjt := Lib.hid (hjt.out rfl)
          clear hjl hJ2
          go_wp2_with (first
          | (go_at_call 77; refine Calls.mono hJA ?_; clear hJA; rintro e' w6 ⟨v6, rfl, hv6, hw6⟩; obtain ⟨ok6, A6, c6, rfl, hc6, hA6, hs6⟩ := hv6.parts; have hy6 := hw6.size; have hwr6 : Below wr.heap.size wr w6 := hwr5.trans (hw6.mono (by omega)); have hk6 := (hw6.block wr.heap.size (by omega)).trans hk5; simp only [rxv])
          | (at_builtin; refine wpList_append_lies _ rfl _ _ 28 rfl (w.heap.size + 1) 30 i0 (.agg #[.int .i64 0, .int .u8 0, .int .u8 0, .slice none 0 0]) 4 40 Tryz.underlying28 hi hz0 hz1 hz2 rfl (by decide) _ ts.length (ts.flatMap Tn.cells) rfl ((own_below hrow.1 hwr6).alloc _) ⟨w6.heap.size, 0, none⟩ 1 1 (Tn.cells ⟨rj, A6, c6⟩) rfl rfl (World.news_of_block (cs := #[.int .i64 rj.kind, .int .u8 rj.lo, .int .u8 rj.hi, .slice A6 rj.kids.length c6]) (t := 30) (fr := (0, 0)) (heap_alloc_new w6 _)) (tn_one1 _) (by decide) (by have := htl.out; unfold maxLen; omega) (by have := htl.out; omega) (by simp; omega) (w6.heap.size + 1) (by simp) ?_; intro g' cap' w7 hown7 hgrow7 hat7 hlt7; have hk7 := (hgrow7.block wr.heap.size (by simp; omega) (fun e => by have := (own_blk_lt hrow.1 e).2; omega)).trans ((Below.heap_alloc w6 _ wr.heap.size (by omega)).trans hk6); obtain ⟨x0, x1, x2, x3⟩ := four hk7; obtain ⟨hr7, hB7⟩ := row_step (t := ⟨rj, A6, c6⟩) hrow hwr6 hsz (hv6.sub (T := Plus S (wr.heap.size + 1) w6.heap.size) (fun b hb => by rcases hb with (h1 | h1) | h1; exact .inl h1; exact .inr ⟨h1.1, by omega⟩; exact .inr ⟨by omega, h1.2⟩)) (fun b hb => ⟨by rcases hb with h1 | h1; exact .inl h1; exact .inr (by omega), by rcases hb with h1 | h1; have := hS b h1; omega; exact h1.2, plus_far hrow (hS.mono (by omega)) (by omega) hb⟩) hown7 hgrow7 hat7; have hB7w : Below w.heap.size w w7 := hW.trans (hB7.mono (by omega)); have hres7 := (hB7.block w.heap.size (by omega)).trans hb1)
          | (go_at_call 86; refine Calls.mono (hNU _ hB7w) ?_; clear hNU; rintro e' w8 ⟨rfl, hw8⟩; have hB8w : Below w.heap.size w w8 := hB7w.trans (hw8.mono hB7w.size); have hr8 := hr7.below hw8; have hres8 := (hw8.block w.heap.size (by have := hB7w.size; have := (Array.getElem?_eq_some_iff.1 hres7).1; omega)).trans hres7))
          go_roundw
          case rel => exact ⟨j + 1, ts ++ [⟨rj, A6, c6⟩], by omega, by go_num, Lib.hid ⟨by rw [List.map_append, hts.out.1, hsn.out]; rfl, by rw [List.length_append, htl.out]; rfl⟩, Lib.hid hjt.out, hres8, hr8, hB8w, Nat.le_trans hsz (Nat.le_trans hB7.size hw8.size)⟩
          case measure => simp [intOf]; omega
    · obtain rfl : j = s.length := by omega
      have hsn : s.length = n := by have := hjn.out.1; omega
      obtain ⟨A5, c5, rfl⟩ := hrow.val
      obtain ⟨r1, r2, r3, r4⟩ := hrow.list
      rw [hts.out.1] at r4
      have htl := hts.out.2
      rw [htl] at r2
      have hJA := hJ2 wr A5 c5 s.length hW hsn (r4.sub (fun b hb => by
        rcases hb with ⟨(h1 | h1) | h1, h2⟩
        · exact .inl h1
        · exact .inr ⟨h1, h2⟩
        · exact .inr ⟨h1, h2⟩)) r2 r3
      rw [← htl] at hJA
      replace htl := Lib.hid htl
      clear hJ1 hJ2 hs hy hn2 hn3 hn4 r4 hrow hts hjn hsn r1 r2 r3
      generalize ts.length = m5 at *
      go_wp2_with (go_at_call 77; refine Calls.mono hJA ?_; clear hJA; intro e w9 hg; obtain ⟨A9, d9, rfl, hv9, hB9, hr9⟩ := hfin _ e w9 hW hb1 hg; obtain ⟨z0, z1, z2, z3⟩ := four hr9; have hf9 := four_frozen hr9; simp only [rxv])
      refine bodyPost_ret (v := rxv res.kind res.lo res.hi A9 res.kids.length d9) (by unfold rxv; simp [results, Tryz.results76, go_sem, z0, z1, z2, z3]) rfl ?_
      exact fin_gives hB9 (Nat.le_refl _) hS hv9 (fun b hb => plus_sub0 hS hb)
end Go.Proofs.YtnjkihbmhacgoaaGreatDoor
