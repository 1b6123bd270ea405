/-
  THE WRITER'S METHODS AGAIN, with blocks that they leave alone, whatever their numbers.
-/
import Derived.Test.YtngfgohchnkidaaDevX
namespace Go.Proofs.Ytngfgohchnkidaa
open Go.RowKit

/-- a writer that does not own the blocks of X -/
def WtrX (w : World) (B g : Nat) (bs : List Int) (X : Nat → Prop) : Prop :=
  B ≤ g ∧ ∃ v, w.heap[g]? = some (.cells #[v] 95 (0, 0)) ∧ w.ownsRow B 5 1 v bs.length (bs.map (Value.int .u8)) ∧ ∀ b, X b → b < w.heap.size ∧ b ≠ g ∧ v.ownBlock ≠ some b
def WtrXPost (w : World) (B g : Nat) (bs : List Int) (X : Nat → Prop) (e : Ending) (w' : World) : Prop := e = .returned (.tuple #[]) ∧ WtrX w' B g bs X ∧ Below B w w' ∧ ∀ b, X b → w'.heap[b]? = w.heap[b]?
theorem WtrX.at' {w : World} {B g : Nat} {bs : List Int} {X : Nat → Prop} (h : WtrX w B g bs X) : WtrAt w B g bs := by
  obtain ⟨h1, v, h2, h3, _⟩ := h
  exact ⟨h1, v, h2, h3⟩
/-- another set of blocks that the writer does not own: such as came after it -/
theorem WtrX.with {w w' : World} {B g : Nat} {bs : List Int} {X Y : Nat → Prop} (h : WtrX w B g bs X) (hb : Below w.heap.size w w') (hY : ∀ b, Y b → X b ∨ (w.heap.size ≤ b ∧ b < w'.heap.size)) : WtrX w' B g bs Y := by
  obtain ⟨h1, v, h2, h3, h4⟩ := h
  have hg : g < w.heap.size := (Array.getElem?_eq_some_iff.1 h2).1
  refine ⟨h1, v, (hb.block g hg).trans h2, own_below h3 hb, fun b hb' => ?_⟩
  rcases hY b hb' with h | h
  · exact ⟨Nat.lt_of_lt_of_le (h4 b h).1 hb.size, (h4 b h).2⟩
  · exact ⟨h.2, by omega, fun e => by have := (h3.lt b e).2; omega⟩
theorem wtrx_cells {w : World} {B g : Nat} {bs : List Int} {X : Nat → Prop} (h : WtrX w B g bs X) : ∃ v, B ≤ g ∧ g < w.heap.size ∧ w.cell? ⟨g, 0, none⟩ = some v ∧ w.frozen? ⟨g, 0, none⟩ = false ∧ Hid (w.heap[g]? = some (.cells #[v] 95 (0, 0))) ∧ w.ownsRow B 5 1 v bs.length (bs.map (Value.int .u8)) ∧ Hid (∀ b, X b → b < w.heap.size ∧ b ≠ g ∧ v.ownBlock ≠ some b) := by
  obtain ⟨hBg, v, hk, hrow, hX⟩ := h
  exact ⟨v, hBg, (Array.getElem?_eq_some_iff.1 hk).1, by simp [World.cell?, hk], by simp [World.frozen?, hk], Lib.hid hk, hrow, Lib.hid hX⟩
theorem wtrx_put {w W1 w5 : World} {B g : Nat} {v v' : Value} {bs m : List Int} {X : Nat → Prop} (hBg : B ≤ g) (hk : w.heap[g]? = some (.cells #[v] 95 (0, 0))) (hrow : w.ownsRow B 5 1 v bs.length (bs.map (Value.int .u8))) (hX : ∀ b, X b → b < w.heap.size ∧ b ≠ g ∧ v.ownBlock ≠ some b)
    (hb : Below w.heap.size w W1) (hgrow : W1.grownBy w5 v.ownBlock) (hown : w5.ownsRow B 5 1 v' (bs.length + m.length) (bs.map (Value.int .u8) ++ m.map (Value.int .u8))) (hat : v'.ownBlock = v.ownBlock ∨ v'.ownBlock = some W1.heap.size) :
    WtrX (w5.setCell ⟨g, 0, none⟩ v') B g (bs ++ m) X ∧ Below B w (w5.setCell ⟨g, 0, none⟩ v') ∧ ∀ b, X b → (w5.setCell ⟨g, 0, none⟩ v').heap[b]? = w.heap[b]? := by
  obtain ⟨h1, h2⟩ := wtr_put hBg hk hrow hb hgrow hown
  have hg : g < w.heap.size := (Array.getElem?_eq_some_iff.1 hk).1
  have hk5 : w5.heap[g]? = some (.cells #[v] 95 (0, 0)) := ((hgrow.block g (Nat.lt_of_lt_of_le hg hb.size) (blk_not_row hk (by decide) hrow)).trans (hb.block g hg)).trans hk
  have hkeep : ∀ b, X b → (w5.setCell ⟨g, 0, none⟩ v').heap[b]? = w.heap[b]? := fun b hb' => by
    obtain ⟨x1, x2, x3⟩ := hX b hb'
    exact (Below.heap_setCell _ _ _ _ x2).trans ((hgrow.block b (Nat.lt_of_lt_of_le x1 hb.size) (fun e => x3 e.symm)).trans (hb.block b x1))
  refine ⟨?_, h2, hkeep⟩
  refine ⟨hBg, v', blk_set hk5 v', ?_, fun b hb' => ?_⟩
  · rw [List.map_append, List.length_append]
    exact hown.kept (grown_set _ _ _ _) (.inr (blk_not_row hk5 (by decide) hown).symm)
  · obtain ⟨x1, x2, x3⟩ := hX b hb'
    refine ⟨?_, x2, fun e => ?_⟩
    · have h1 := hb.size
      have h2 := hgrow.size
      simp [World.setCell]
      omega
    · rcases hat with h | h
      · exact x3 (h.symm.trans e)
      · rw [h] at e
        injection e with e
        have := hb.size
        omega
set_option maxRecDepth 100000 in
set_option maxHeartbeats 1000000 in
theorem dUintX_any (X : Nat → Prop) (n B g : Nat) (bs : List Int) (w : World) (h : WtrX w B g bs X) (hl : bs.length ≤ 100000000) (hn : n < 18446744073709551616) :
    Calls Try.prog 56 #[.pointer (some ⟨g, 0, none⟩), .int .u64 n] w (WtrXPost w B g (bs ++ uv n) X) := by
  obtain ⟨i0, hi, hz0, hz1, hz2⟩ := info_parts info_u8
  have hlen := uv_length_64 hn
  have hBg0 := h.1
  have HN := Lib.hid hn
  clear hn
  go_enter Try.func56, Try.ntmps56
  go_wp2
  go_loopw [1] (fun x wr => ∃ (m : Nat) (pre : List Int), m ≤ n ∧ x = .int .u64 m ∧ Hid (pre ++ uv m = uv n) ∧ WtrX wr B g (bs ++ pre) X ∧ Below B w wr ∧ Hid (∀ b, X b → wr.heap[b]? = w.heap[b]?)) (fun x _ => (intOf x).toNat)
  case atStart => exact ⟨n, [], Nat.le_refl _, rfl, Lib.hid rfl, by rw [List.append_nil]; exact h, Below.refl _ _, Lib.hid (fun _ _ => rfl)⟩
  case round =>
    clear h
    obtain ⟨m, pre, hm, rfl, hp, hwt, hW, hKp⟩ := hrel
    obtain ⟨v, hBg, hg, hc, hf, HK, hrow, hX⟩ := wtrx_cells hwt
    have hpl : pre.length + (uv m).length ≤ 10 := by
      have := congrArg List.length hp.out
      rw [List.length_append] at this
      omega
    have hul := uv_pos m
    have hp10 : (bs ++ pre).length ≤ 100000010 := by rw [List.length_append]; omega
    clear hpl hul hwt
    obtain ⟨q, hq⟩ : ∃ q, q = bs ++ pre := ⟨_, rfl⟩
    rw [← hq] at hp10 hrow
    have HQ := Lib.hid hq
    clear hq
    by_cases hlt : m < 128
    · have he := Lib.hid (show bs ++ uv n = q ++ [(m : Int)] by rw [← hp.out, uv_lt hlt, HQ.out, List.append_assoc])
      go_wp2_with (at_builtin; refine wpList_append_own_at _ rfl (.tmp 24) (.tmp 27) 48 rfl B 5 i0 (.int .u8 0) 1 1 Try.underlying48 hi hz0 hz1 hz2 rfl (by decide) _ q.length _ rfl (hrow.alloc _) ⟨wr.heap.size, 0, none⟩ 1 1 [.int .u8 (m : Int)] rfl rfl (cell_one_new _ _ _) (by simp [Value.oneCell']) (by unfold maxLen; omega) (by omega) (by simp; omega) ?_; intro v' w2 hown' hgrow _ hat; obtain ⟨c5, f5⟩ := wtr_far HK.out hrow ((Below.refl _ wr).alloc (Nat.le_refl _) _) hgrow; obtain ⟨A', c', rfl⟩ := own_slice hown')
      go_end0
      obtain ⟨r1, r2, r3⟩ := wtrx_put (m := [(m : Int)]) hBg HK.out hrow hX.out ((Below.refl _ wr).alloc (Nat.le_refl _) _) hgrow hown' hat
      exact ⟨rfl, by rw [he.out]; exact r1, hW.trans r2, fun b hb => (r3 b hb).trans (hKp.out b hb)⟩
    · have hm57 : (m : Int) / 128 ≤ 200000000000000000 := by have := HN.out; omega
      have he := Lib.hid (show (pre ++ [(128 + (m : Int) % 128)]) ++ uv (m / 128) = uv n by rw [← hp.out, uv_ge (n := m) (by omega), List.append_assoc]; rfl)
      have HB := Lib.hid (byte_more m)
      go_wp2_with (at_builtin; refine wpList_append_own_at _ rfl (.tmp 12) (.tmp 16) 48 rfl B 5 i0 (.int .u8 0) 1 1 Try.underlying48 hi hz0 hz1 hz2 rfl (by decide) _ q.length _ rfl (hrow.alloc _) ⟨wr.heap.size, 0, none⟩ 1 1 [.int .u8 (bits .or .u8 (IntKind.u8.wrap m) 128)] rfl rfl (cell_one_new _ _ _) (by simp [Value.oneCell']) (by unfold maxLen; omega) (by omega) (by simp; omega) ?_; intro v' w2 hown' hgrow _ hat; obtain ⟨c5, f5⟩ := wtr_far HK.out hrow ((Below.refl _ wr).alloc (Nat.le_refl _) _) hgrow; obtain ⟨A', c', rfl⟩ := own_slice hown')
      go_roundw
      case rel =>
        obtain ⟨r1, r2, r3⟩ := wtrx_put (m := [bits .or .u8 (IntKind.u8.wrap m) 128]) hBg HK.out hrow hX.out ((Below.refl _ wr).alloc (Nat.le_refl _) _) hgrow hown' hat
        have e2 : q ++ [bits .or .u8 (IntKind.u8.wrap m) 128] = bs ++ (pre ++ [(128 + (m : Int) % 128)]) := by rw [HB.out, HQ.out, List.append_assoc]
        rw [e2] at r1
        exact ⟨m / 128, pre ++ [(128 + (m : Int) % 128)], by omega, by congr 1 <;> omega, he, r1, hW.trans r2, Lib.hid (fun b hb => (r3 b hb).trans (hKp.out b hb))⟩
      case measure => simp [intOf]; omega

theorem dIntX_any (X : Nat → Prop) (n : Int) (B g : Nat) (bs : List Int) (w : World) (h : WtrX w B g bs X) (hl : bs.length ≤ 100000000) (h1 : -9223372036854775808 ≤ n) (h2 : n ≤ 9223372036854775807) :
    Calls Try.prog 55 #[.pointer (some ⟨g, 0, none⟩), .int .i64 n] w (WtrXPost w B g (bs ++ uv (zz n)) X) := by
  have hz := dzig_any n w h1 h2
  have hU := dUintX_any X (zz n) B g bs w h hl (zz_lt h1 h2)
  generalize zz n = z at hz hU
  generalize bs ++ uv z = l at hU
  clear h hl
  go_enter Try.func55, Try.ntmps55
  go_wp2_with (first
    | (go_at_call 86; refine hz.mono ?_; clear hz; rintro e w' ⟨rfl, rfl⟩)
    | (go_at_call 56; refine hU.mono ?_; clear hU; rintro e w1 ⟨rfl, hr1, hb1, hk1⟩))
  go_end0
  exact ⟨rfl, hr1, hb1, hk1⟩
theorem wpList_append_rd_at {P : Program} (w : World) {ops : Array Oper} {rest : List Oper} {o : Oper} {a : Act} {Q : Exit → Act → World → Prop} (hgd : o.guard = none) (s x : Operand) (t : TypeId)
    (ho : o.op = .call { callee := .builtin .append, args := #[s, x], argTypes := #[t, t] })
    (base : Nat) (e : TypeId) (i : TypeInfo) (z : Value) (size bytes : Nat) (ht : P.underlying t = some (.slice e)) (hi : P.info? e = some i) (hz : i.zero = some z)
    (hsize : i.size = size) (hby : i.bytes = bytes) (hzs : z.cells.size = size) (hs1 : size = 1) (hsz : 0 < size)
    (v : Value) (n : Nat) (xs : List Value) (hs : a.eval s = v) (hown : w.ownsRow base e size v n xs)
    (k : IntKind) (A : Option Addr) (m c : Nat) (zs : List Int) (hx : a.eval x = .slice A m c) (hm : m = zs.length) (hA : A = none → c = 0) (hc : zs.length ≤ c) (hr : RdI w w.heap.size k A zs)
    (h63 : n + m ≤ maxLen) (hbytes : (n + m) * bytes ≤ 140737488355328) (hbase : base ≤ w.heap.size)
    (h : ∀ v' w', w'.ownsRow base e size v' (n + m) (xs ++ zs.map (Value.int k)) → w.grownBy w' v.ownBlock → (v'.ownBlock = v.ownBlock ∨ v'.ownBlock = some w.heap.size) → wpList P ops Q rest (a.put o.dst v') w') : wpList P ops Q (o :: rest) a w := by
  subst hm hs1
  cases A with
  | none =>
    obtain rfl : c = 0 := hA rfl
    obtain rfl : zs = [] := List.eq_nil_of_length_eq_zero (by omega)
    exact wpList_append_own_none hgd s x t ho base e i 1 ht hi v n xs hs hown hx (h v w (by simpa using hown) ⟨rfl, rfl, rfl, Nat.le_refl _, fun _ _ _ => rfl⟩ (.inl rfl))
  | some ad =>
    exact wpList_append_own_at w hgd s x t ho base e i z 1 bytes ht hi hz hsize hby hzs hsz v n xs hs hown ad zs.length c (zs.map (Value.int k)) hx (by simp) (by have := rd_cells hr zs.length; rwa [List.take_length] at this) (one_cells _ _) h63 hbytes hbase
      (fun v' w' h2 h3 _ h5 => h v' w' h2 h3 h5)
set_option maxHeartbeats 1000000 in
/-- Raw of bytes in one of the blocks of X -/
theorem dRawX_any (X : Nat → Prop) (b o n c : Nat) (zs : List Int) (B g : Nat) (bs : List Int) (w : World) (h : WtrX w B g bs X) (hl : bs.length ≤ 90000000) (hn : n = zs.length) (hz : zs.length ≤ 1000000) (hcap : zs.length ≤ c) (hb : X b) (hr : RdI w w.heap.size .u8 (some ⟨b, o, none⟩) zs) :
    Calls Try.prog 57 #[.pointer (some ⟨g, 0, none⟩), .slice (some ⟨b, o, none⟩) n c] w (WtrXPost w B g (bs ++ raw zs) X) := by
  subst hn
  obtain ⟨i0, hi, hz0, hz1, hz2⟩ := info_parts info_u8
  have hU := dUintX_any X zs.length B g bs w h (by omega) (by omega)
  have hul : (uv zs.length).length ≤ 10 := uv_length_64 (by omega)
  have HR := Lib.hid (show bs ++ raw zs = (bs ++ uv zs.length) ++ zs by rw [List.append_assoc]; rfl)
  have hll : (bs ++ uv zs.length).length ≤ 90000010 := by rw [List.length_append]; omega
  generalize bs ++ uv zs.length = q at hU HR hll
  clear h hul
  have HRd := Lib.hid (show ∀ w1 : World, w.heap.size ≤ w1.heap.size → w1.heap[b]? = w.heap[b]? → RdI w1 w1.heap.size .u8 (some ⟨b, o, none⟩) zs from fun w1 hs he => by
    rcases hr with h | ⟨b2, o2, e, hlt, hc⟩
    · exact .inl h
    · injection e with e
      injection e with e1 e2
      subst e1 e2
      exact .inr ⟨b, o, rfl, Nat.lt_of_lt_of_le hlt hs, fun j hj => (World.cell?_of_block he).trans (hc j hj)⟩)
  clear hr
  go_enter Try.func57, Try.ntmps57
  go_wp2_with (first
    | (go_at_call 56; refine hU.mono ?_; clear hU; rintro e w1 ⟨rfl, hr1, hb1, hk1⟩; obtain ⟨v, hBg, hg, hc, hf, HK, hrow, hX⟩ := wtrx_cells hr1; have hBw : B ≤ w1.heap.size := (by omega); have hr2 := HRd.out w1 hb1.size (hk1 b hb))
    | (at_builtin; refine wpList_append_rd_at _ rfl (.tmp 13) (.tmp 14) 48 rfl B 5 i0 (.int .u8 0) 1 1 Try.underlying48 hi hz0 hz1 hz2 rfl rfl (by decide) _ q.length _ rfl hrow .u8 (some ⟨b, o, none⟩) zs.length c zs rfl rfl (fun h => by cases h) hcap hr2 (by unfold maxLen; omega) (by omega) hBw ?_; intro v' w2 hown' hgrow hat; obtain ⟨c5, f5⟩ := wtr_far HK.out hrow (Below.refl _ w1) hgrow; obtain ⟨A', c', rfl⟩ := own_slice hown'))
  go_end0
  obtain ⟨r1, r2, r3⟩ := wtrx_put hBg HK.out hrow hX.out (Below.refl _ w1) hgrow hown' hat
  exact ⟨rfl, by rw [HR.out]; exact r1, hb1.trans r2, fun b' hb' => (r3 b' hb').trans (hk1 b' hb')⟩
end Go.Proofs.Ytngfgohchnkidaa
