/-
  QUOTING: the program's appendItem and Quote. Written by gen/genlxquote.py.
-/
import Derived.Test.YtpeeekgfcofbkaaLxToks
import Derived.Test.YtpeeekgfcofbkaaRegLast
import Derived.Maps.AppendAt
namespace Go.Proofs.Ytpeeekgfcofbkaa
open Go.RowKit

theorem lits (w : World) (zs : List Int) : RdI (w.alloc (.cells (zs.map (Value.int .u8)).toArray 5)) (w.alloc (.cells (zs.map (Value.int .u8)).toArray 5)).heap.size .u8 (some ⟨w.heap.size, 0, none⟩) zs := by
  refine .inr ⟨_, _, rfl, by simp, fun j hj => ?_⟩
  rw [Nat.zero_add, cell_of_row _ _ _ _ _ _ (heap_alloc_new w _)]
  simp [List.getElem?_eq_getElem hj]
/-- a digit -/
def dg (d : Int) : Int := if d < 10 then 48 + d else 87 + d
/-- how a byte is written in quotation marks -/
def qi (c : Int) : List Int := if inR PLAIN c then [c] else if c = 34 ∨ c = 92 then [92, c] else [92, 120, dg (c / 16), dg (c % 16)]
def quoteL (l : List Int) : List Int := 34 :: (l.flatMap qi ++ [34])
theorem and_check : ((List.range 256).all fun c => decide (bits .and .u8 ((c : Nat) : Int) 15 = ((c : Nat) : Int) % 16)) = true := by kernel_rfl
theorem and_eq {c : Nat} (hc : c < 256) : bits .and .u8 (c : Int) 15 = (c : Int) % 16 := by
  have h := List.all_eq_true.1 and_check c (List.mem_range.2 hc)
  rw [decide_eq_true_eq] at h
  exact h
theorem dig_el (x : Int) (h : 0 ≤ x ∧ x < 16) (hh : x.toNat < (⟨#[48, 49, 50, 51, 52, 53, 54, 55, 56, 57, 97, 98, 99, 100, 101, 102]⟩ : ByteArray).size) : (((⟨#[48, 49, 50, 51, 52, 53, 54, 55, 56, 57, 97, 98, 99, 100, 101, 102]⟩ : ByteArray)[x.toNat]'hh).toNat : Int) = dg x := by
  have : x = 0 ∨ x = 1 ∨ x = 2 ∨ x = 3 ∨ x = 4 ∨ x = 5 ∨ x = 6 ∨ x = 7 ∨ x = 8 ∨ x = 9 ∨ x = 10 ∨ x = 11 ∨ x = 12 ∨ x = 13 ∨ x = 14 ∨ x = 15 := by omega
  rcases this with rfl | rfl | rfl | rfl | rfl | rfl | rfl | rfl | rfl | rfl | rfl | rfl | rfl | rfl | rfl | rfl <;> rfl
theorem step_rd {P : Program} (w : World) {ops : Array Oper} {o : Oper} {a : Act} {K : Act → World → Prop} {Q : Exit → Act → World → Prop} {E : Prop} (hgd : o.guard = none) (s x : Operand) (t : TypeId)
    (ho : o.op = .call { callee := .builtin .append, args := #[s, x], argTypes := #[t, t] })
    (base : Nat) (e : TypeId) (i : TypeInfo) (z : Value) (bytes : Nat) (ht : P.underlying t = some (.slice e)) (hi : P.info? e = some i) (hz : i.zero = some z)
    (hsize : i.size = 1) (hby : i.bytes = bytes) (hzs : z.cells.size = 1)
    (k : IntKind) (v : Value) (n : Nat) (l : List Int) (hn : n = l.length) (hs : a.eval s = v) (hrow : w.ownsRow base e 1 v n (l.map (Value.int k)))
    (ad : Addr) (m c : Nat) (xs : List Int) (hx : a.eval x = .slice (some ad) m c) (hm : m = xs.length) (hr : RdI w w.heap.size k (some ad) xs)
    (h63 : n + m ≤ maxLen) (hbytes : (n + m) * bytes ≤ 140737488355328) (hbase : base ≤ w.heap.size)
    (h : ∀ v' w', w'.ownsRow base e 1 v' (l ++ xs).length ((l ++ xs).map (Value.int k)) → w.grownBy w' v.ownBlock → K (a.put o.dst v') w') : if Region.wanted o (yielded ops a.tmps) = true then Oper.wp P o a w K Q else E := by
  have hw : Region.wanted o (yielded ops a.tmps) = true := by simp [Region.wanted, hgd]
  rw [if_pos hw]
  subst hm hn
  obtain ⟨v', w', hr2, h2, h3, _, h5⟩ := run_append_own_at (P := P) w base t o.type e i z 1 bytes ht hi hz hsize hby hzs (by decide) v l.length _ hrow ad xs.length c (xs.map (Value.int k)) (by simp) (by have := rd_cells hr xs.length; rwa [List.take_length] at this) (one_cells _ _) h63 hbytes hbase
  unfold Oper.wp execOp
  simp only [ho, resolve, invoke, builtin, Sem.run_bind, Sem.run_pure, Result.andThen_ok, List.map_toArray, List.map_cons, List.map_nil, hs, hx, hr2]
  refine h v' w' ?_ h3
  rw [List.length_append, List.map_append]
  exact h2
set_option maxHeartbeats 4000000 in
set_option maxRecDepth 100000 in
theorem append_any (base : Nat) (v : Value) (l : List Int) (c : Nat) (w : World) (hc : c < 256) (hrw : w.ownsRow base 5 1 v l.length (l.map (Value.int .u8))) (hlen : l.length ≤ 100000000) (hbase : base ≤ w.heap.size) :
    Calls Try.prog 34 #[v, .int .u8 c] w fun e w' => ∃ v', e = .returned v' ∧ w'.ownsRow base 5 1 v' (l ++ qi c).length ((l ++ qi c).map (Value.int .u8)) ∧ w.grownBy w' v.ownBlock := by
  obtain ⟨i0, hi, hz0, hz1, hz2⟩ := info_parts info_u8
  have hrow := Lib.hid hrw
  clear hrw
  have HW := Lib.hid (withinB_any c ⟨#[32, 33, 35, 91, 93, 126]⟩ w (by decide) (by decide))
  rw [show sb ⟨#[32, 33, 35, 91, 93, 126]⟩ = PLAIN from rfl] at HW
  cases hin : inR PLAIN (c : Int)
  · rw [hin] at HW
    by_cases ha : c = 34 ∨ c = 92
    · have hq : qi (c : Int) = [92, (c : Int)] := by unfold qi; rw [hin, if_neg (by decide), if_pos (by omega)]
      rw [hq]
      clear hq hin
      rcases ha with rfl | rfl
      · go_enter Try.func34, Try.ntmps34
        go_wp2_with fail
        refine Calls.mono HW.out ?_
        rintro e w1 ⟨rfl, hw⟩
        rw [hw]
        clear hw
        go_wp2_with (at_builtin; refine wpList_append_rd _ rfl _ _ 24 rfl base 5 i0 (.int .u8 0) 1 1 Try.underlying24 hi hz0 hz1 hz2 rfl rfl (by decide) _ l.length _ rfl (hrow.out.alloc _) .u8 (some ⟨w.heap.size, 0, none⟩) 2 2 [92, 34] rfl rfl (fun h => by cases h) (Nat.le_refl _) (lits w [92, 34]) (by unfold maxLen; omega) (by omega) (by simp <;> omega) ?_; intro v2 w2 hown2 hgrow2; replace hown2 := Lib.hid hown2; replace hgrow2 := Lib.hid hgrow2)
        go_ret
        exact ⟨_, rfl, by rw [List.length_append, List.map_append]; exact hown2.out, (World.grownBy_alloc w _ _).trans hgrow2.out⟩
      · go_enter Try.func34, Try.ntmps34
        go_wp2_with fail
        refine Calls.mono HW.out ?_
        rintro e w1 ⟨rfl, hw⟩
        rw [hw]
        clear hw
        go_wp2_with (at_builtin; refine wpList_append_rd _ rfl _ _ 24 rfl base 5 i0 (.int .u8 0) 1 1 Try.underlying24 hi hz0 hz1 hz2 rfl rfl (by decide) _ l.length _ rfl (hrow.out.alloc _) .u8 (some ⟨w.heap.size, 0, none⟩) 2 2 [92, 92] rfl rfl (fun h => by cases h) (Nat.le_refl _) (lits w [92, 92]) (by unfold maxLen; omega) (by omega) (by simp <;> omega) ?_; intro v2 w2 hown2 hgrow2; replace hown2 := Lib.hid hown2; replace hgrow2 := Lib.hid hgrow2)
        go_ret
        exact ⟨_, rfl, by rw [List.length_append, List.map_append]; exact hown2.out, (World.grownBy_alloc w _ _).trans hgrow2.out⟩
    · have hq : qi (c : Int) = [92, 120, dg ((c : Int) / 16), dg ((c : Int) % 16)] := by unfold qi; rw [hin, if_neg (by decide), if_neg (by omega)]
      have ha1 : ((c : Int) == 34) = false := by rw [beq_eq_false_iff_ne]; omega
      have ha2 : ((c : Int) == 92) = false := by rw [beq_eq_false_iff_ne]; omega
      rw [hq]
      replace ha := Lib.hid ha
      clear hq hin
      have hand := and_eq hc
      go_enter Try.func34, Try.ntmps34
      go_wp2_with fail
      refine Calls.mono HW.out ?_
      rintro e w1 ⟨rfl, hw⟩
      rw [hw]
      clear hw
      go_wp2_with fail
      refine wp_region_held_drew (S := fun _ => True) (by kernel_rfl) (trivial) (fun hHeld => ?_)
      (try simp only [List.size_toArray, List.length_cons, List.length_nil, Nat.zero_add, Nat.reduceAdd])
      refine wpAnyH_takeL (i := 0) (v := ?v1) rfl (by kernel_rfl) (by kernel_rfl) (by kernel_rfl) (fun _ _ _ h => h) (Or.inl ⟨by rfl, ?y1⟩) (by assumption) ?r1
      case y1 => (intro W hSw; (try dsimp only at hSw); go_simp; try with_reducible rfl)
      (try simp only [Act.put, List.setIfInBounds_toArray, List.set_cons_zero, List.set_cons_succ])
      refine wpAnyH_takeL (i := 1) (v := ?v2) rfl (by kernel_rfl) (by kernel_rfl) (by kernel_rfl) (fun _ _ _ h => h) (Or.inl ⟨by rfl, ?y2⟩) (by assumption) ?r2
      case y2 => (intro W hSw; (try dsimp only at hSw); go_simp; try with_reducible rfl)
      (try simp only [Act.put, List.setIfInBounds_toArray, List.set_cons_zero, List.set_cons_succ])
      refine wpAnyH_takeL (i := 2) (v := ?v3) rfl (by kernel_rfl) (by kernel_rfl) (by kernel_rfl) (fun _ _ _ h => h) (Or.inl ⟨by rfl, ?y3⟩) (by assumption) ?r3
      case y3 => (intro W hSw; (try dsimp only at hSw); go_simp; try with_reducible rfl)
      (try simp only [Act.put, List.setIfInBounds_toArray, List.set_cons_zero, List.set_cons_succ])
      refine wpAnyH_takeL (i := 3) (v := .int .u8 (dg ((c : Int) / 16))) rfl (by kernel_rfl) (by kernel_rfl) (by kernel_rfl) (fun _ _ _ h => h) (Or.inl ⟨by rfl, ?y4⟩) (by assumption) ?r4
      case y4 => (intro W hSw; (try dsimp only at hSw); first | (go_simp; done) | (go_simp; rw [dif_pos (show _ ∧ _ from ⟨by omega, by omega⟩)]; simp only [Result.andThen]; rw [dig_el _ ⟨by omega, by omega⟩]))
      (try simp only [Act.put, List.setIfInBounds_toArray, List.set_cons_zero, List.set_cons_succ])
      refine wpAnyH_takeL (i := 4) (v := ?v5) rfl (by kernel_rfl) (by kernel_rfl) (by kernel_rfl) (fun _ _ _ h => h) (Or.inl ⟨by rfl, ?y5⟩) (by assumption) ?r5
      case y5 => (intro W hSw; (try dsimp only at hSw); go_simp; try with_reducible rfl)
      (try simp only [Act.put, List.setIfInBounds_toArray, List.set_cons_zero, List.set_cons_succ])
      refine wpAnyH_takeL (i := 5) (v := ?v6) rfl (by kernel_rfl) (by kernel_rfl) (by kernel_rfl) (fun _ _ _ h => h) (Or.inl ⟨by rfl, ?y6⟩) (by assumption) ?r6
      case y6 => (intro W hSw; (try dsimp only at hSw); go_simp; try with_reducible rfl)
      (try simp only [Act.put, List.setIfInBounds_toArray, List.set_cons_zero, List.set_cons_succ])
      refine wpAnyH_takeL (i := 6) (v := .int .u8 (dg ((c : Int) % 16))) rfl (by kernel_rfl) (by kernel_rfl) (by kernel_rfl) (fun _ _ _ h => h) (Or.inl ⟨by rfl, ?y7⟩) (by assumption) ?r7
      case y7 => (intro W hSw; (try dsimp only at hSw); first | (go_simp; done) | (go_simp; rw [dif_pos (show _ ∧ _ from ⟨by omega, by omega⟩)]; simp only [Result.andThen]; rw [dig_el _ ⟨by omega, by omega⟩]))
      (try simp only [Act.put, List.setIfInBounds_toArray, List.set_cons_zero, List.set_cons_succ])
      refine wpAnyH_ready (rs := [7]) (by kernel_rfl) (by simp) ?_
      refine consL rfl (fun K hK => ?_) AllReadyH.nil
      go_simp
      (try dsimp only)
      refine hK.out _ _ trivial (fun hHeld => ?_)
      clear hK K
      (try simp only [Act.put, List.setIfInBounds_toArray, List.set_cons_zero, List.set_cons_succ])
      have hd : Below w.heap.size w (w.alloc (.cells #[.int .u8 92, .int .u8 120, .int .u8 (dg ((c : Int) / 16)), .int .u8 (dg ((c : Int) % 16))] 5)).drew := ((Below.refl _ _).alloc (Nat.le_refl _) _).drew
      have hrA : (w.alloc (.cells #[.int .u8 92, .int .u8 120, .int .u8 (dg ((c : Int) / 16)), .int .u8 (dg ((c : Int) % 16))] 5)).drew.ownsRow base 5 1 v l.length (l.map (Value.int .u8)) := hrow.out.alloc _
      have hlA : RdI (w.alloc (.cells #[.int .u8 92, .int .u8 120, .int .u8 (dg ((c : Int) / 16)), .int .u8 (dg ((c : Int) % 16))] 5)).drew (w.alloc (.cells #[.int .u8 92, .int .u8 120, .int .u8 (dg ((c : Int) / 16)), .int .u8 (dg ((c : Int) % 16))] 5)).drew.heap.size .u8 (some ⟨w.heap.size, 0, none⟩) [92, 120, dg ((c : Int) / 16), dg ((c : Int) % 16)] := lits w [92, 120, dg ((c : Int) / 16), dg ((c : Int) % 16)]
      have hgA : w.grownBy (w.alloc (.cells #[.int .u8 92, .int .u8 120, .int .u8 (dg ((c : Int) / 16)), .int .u8 (dg ((c : Int) % 16))] 5)).drew v.ownBlock := ⟨hd.os, hd.tape, hd.output, hd.size, fun i hi _ => hd.block i hi⟩
      have hbA : base ≤ (w.alloc (.cells #[.int .u8 92, .int .u8 120, .int .u8 (dg ((c : Int) / 16)), .int .u8 (dg ((c : Int) % 16))] 5)).drew.heap.size := Nat.le_trans hbase hd.size
      clear hd
      generalize (w.alloc (.cells #[.int .u8 92, .int .u8 120, .int .u8 (dg ((c : Int) / 16)), .int .u8 (dg ((c : Int) % 16))] 5)).drew = wA at *
      refine wpAnyH_ready (rs := [8]) (by kernel_rfl) (by simp) ?_
      refine consL rfl (fun K hK => ?_) AllReadyH.nil
      refine step_rd wA rfl (.tmp 23) (.tmp 30) 24 rfl base 5 i0 (.int .u8 0) 1 Try.underlying24 hi hz0 hz1 hz2 rfl .u8 v l.length l rfl rfl hrA ⟨w.heap.size, 0, none⟩ 4 4 [92, 120, dg ((c : Int) / 16), dg ((c : Int) % 16)] rfl rfl hlA (by unfold maxLen; omega) (by omega) hbA ?_
      intro v2 w2 hown2 hgrow2
      (try dsimp only)
      refine hK.out _ _ trivial (fun hHeld => ?_)
      clear hK K
      (try simp only [Act.put, List.setIfInBounds_toArray, List.set_cons_zero, List.set_cons_succ])
      refine wpAnyH_takeL (i := 9) (v := ?v8) rfl (by kernel_rfl) (by kernel_rfl) (by kernel_rfl) (fun _ _ _ h => h) (Or.inl ⟨by rfl, ?y8⟩) (by assumption) ?r8
      case y8 => (intro W hSw; (try dsimp only at hSw); go_simp; try with_reducible rfl)
      (try simp only [Act.put, List.setIfInBounds_toArray, List.set_cons_zero, List.set_cons_succ])
      refine wpAnyH_done (by kernel_rfl) ?_ _
      go_wp2_with fail
      go_ret
      exact ⟨_, rfl, hown2, hgA.trans hgrow2⟩
  · have hq : qi (c : Int) = [(c : Int)] := by unfold qi; rw [hin, if_pos rfl]
    rw [hq]
    rw [hin] at HW
    clear hq hin
    go_enter Try.func34, Try.ntmps34
    go_wp2_with fail
    refine Calls.mono HW.out ?_
    rintro e w1 ⟨rfl, hw⟩
    rw [hw]
    clear hw
    go_wp2_with (at_builtin; refine wpList_append_rd _ rfl _ _ 24 rfl base 5 i0 (.int .u8 0) 1 1 Try.underlying24 hi hz0 hz1 hz2 rfl rfl (by decide) _ l.length _ rfl (hrow.out.alloc _) .u8 (some ⟨w.heap.size, 0, none⟩) 1 1 [(c : Int)] rfl rfl (fun h => by cases h) (Nat.le_refl _) (lits w [(c : Int)]) (by unfold maxLen; omega) (by omega) (by simp <;> omega) ?_; intro v2 w2 hown2 hgrow2; replace hown2 := Lib.hid hown2; replace hgrow2 := Lib.hid hgrow2)
    go_ret
    exact ⟨_, rfl, by rw [List.length_append, List.map_append]; exact hown2.out, (World.grownBy_alloc w _ _).trans hgrow2.out⟩
theorem rows_lit (w : World) (zs : List Int) (n : Nat) (hn : n = zs.length) (h : n ≤ maxLen) : (w.alloc (.cells (zs.map (Value.int .u8)).toArray 5)).ownsRow w.heap.size 5 1 (.slice (some ⟨w.heap.size, 0, none⟩) n n) n (zs.map (Value.int .u8)) := by
  subst hn
  exact ⟨by simp, .inr ⟨_, zs.length, _, rfl, Nat.le_refl _, heap_alloc_new w _, Nat.le_refl _, h, by simp, by simp [List.take_of_length_le]⟩⟩
theorem quote_le (l : List Int) (k : Nat) : ((l.take k).flatMap qi).length ≤ (l.flatMap qi).length := by
  have h : l.flatMap qi = (l.take k).flatMap qi ++ (l.drop k).flatMap qi := by rw [← List.flatMap_append, List.take_append_drop]
  rw [h, List.length_append]
  omega
/-- what Quote hands back -/
def quoteF (l : List Int) : List Int × Int := if (quoteL l).length ≤ 65536 then (quoteL l, 0) else ([], 4)
set_option maxHeartbeats 4000000 in
set_option maxRecDepth 100000 in
theorem Quote_any (s : ByteArray) (w : World) (hs : s.size ≤ 1000000) : Calls Try.prog 18 #[.string s] w fun e w' => e = .returned (.tuple #[.string (strOfNums (quoteF (sb s)).1), .int .i64 (quoteF (sb s)).2]) ∧ Below w.heap.size w w' := by
  obtain ⟨i0, hi, hz0, hz1, hz2⟩ := info_parts info_u8
  have hl := sb_length s
  have hr0 := rows_lit w [34] 1 rfl (by unfold maxLen; omega)
  have hB0 : Below w.heap.size w (w.alloc (.cells #[.int .u8 34] 5)) := (Below.refl _ _).alloc (Nat.le_refl _) _
  go_enter Try.func18, Try.ntmps18
  go_wp2_with fail
  go_loopw [4, 9] (fun cu i wr => ∃ (k : Nat) (L : List Int), i = .int .i64 (k : Int) ∧ k ≤ s.size ∧ Hid (L = 34 :: ((sb s).take k).flatMap qi) ∧ Hid (L.length < 65536) ∧ wr.ownsRow w.heap.size 5 1 cu L.length (L.map (Value.int .u8)) ∧ Below w.heap.size w wr) (fun _ i _ => s.size - (intOf i).toNat)
  case atStart => exact ⟨0, [34], rfl, Nat.zero_le _, Lib.hid rfl, Lib.hid (by decide), hr0, hB0⟩
  case round =>
    obtain ⟨k, L, rfl, hk, hL, hLh, hrow, hB⟩ := hrel
    have hLl : L.length ≤ 70000 := Nat.le_trans (Nat.le_of_lt hLh.out) (by decide)
    have hBs := hB.size
    clear hr0 hB0
    by_cases hlt : k < s.size
    · have hlI : (k : Int) < (s.size : Int) := by omega
      obtain ⟨x, hx, hdx, ix⟩ := sb_get s k hlt
      have hap := Lib.hid (append_any w.heap.size _ L x wr hx hrow (by omega) hBs)
      have hblk := Lib.hid (lx_blk hrow)
      have hLx : L ++ qi (x : Int) = 34 :: ((sb s).take (k + 1)).flatMap qi := by
        have hk2 : k < (sb s).length := by omega
        rw [List.take_succ_eq_append_getElem hk2, List.flatMap_append, hL.out]
        have : (sb s)[k] = (x : Int) := by
          have h2 := drop_at1 hk2
          rw [hdx] at h2
          injection h2 with h3 _
          exact h3.symm
        rw [this]
        simp
      replace hdx := Lib.hid hdx
      replace hrow := Lib.hid hrow
      replace hLx := Lib.hid hLx
      go_wp2_with fail
      refine Calls.mono hap.out ?_
      clear hap
      rintro e w2 ⟨v2, rfl, hrow2, hg2⟩
      have hB2 := hB.grown hg2 hBs (fun j ej => hblk.out j ej)
      obtain ⟨L2, hL2⟩ : ∃ z, z = L ++ qi (x : Int) := ⟨_, rfl⟩
      rw [← hL2] at hrow2 hLx
      obtain ⟨A2, c2, rfl⟩ := lx_slice hrow2
      replace hrow2 := Lib.hid hrow2
      replace hB2 := Lib.hid hB2
      clear hL2
      by_cases hbig : L2.length < 65536
      · have hb1 : decide ((65536 : Int) ≤ (L2.length : Int)) = false := decide_eq_false (by omega)
        replace hbig := Lib.hid hbig
        go_wp2_with fail
        go_roundw
        case rel => exact ⟨k + 1, L2, by go_num, by omega, hLx, hbig, hrow2.out, hB2.out⟩
        case measure => simp [intOf]; omega
      · have hb1 : (65536 : Int) ≤ (L2.length : Int) := by omega
        have hv := Lib.hid (show quoteF (sb s) = ([], 4) from by
          have h1 := quote_le (sb s) (k + 1)
          have h2 := congrArg List.length hLx.out
          rw [List.length_cons] at h2
          unfold quoteF
          rw [if_neg]
          unfold quoteL
          rw [List.length_cons, List.length_append]
          simp only [List.length_cons, List.length_nil]
          omega)
        replace hbig := Lib.hid hbig
        go_wp2_with fail
        go_ret2
        exact ⟨by rw [hv.out]; rfl, hB2.out⟩
    · have hlI : ¬ (k : Int) < (s.size : Int) := by omega
      have hLe : L = 34 :: (sb s).flatMap qi := by rw [hL.out, List.take_of_length_le (by omega)]
      have hv := Lib.hid (show quoteF (sb s) = (L ++ [34], 0) from by
        unfold quoteF
        have : quoteL (sb s) = L ++ [34] := by rw [hLe]; rfl
        rw [this, if_pos (by have := hLh.out; rw [List.length_append]; simp only [List.length_cons, List.length_nil]; omega)])
      have hrn := Lib.hid (hrow.alloc (.cells #[.int .u8 34] 5))
      have hbn : w.heap.size ≤ (wr.alloc (.cells #[.int .u8 34] 5)).heap.size := by simp; omega
      have hblk := Lib.hid (lx_blk hrow)
      have hBn := Lib.hid (hB.alloc hBs (.cells #[.int .u8 34] 5))
      replace hLe := Lib.hid hLe
      replace hrow := Lib.hid hrow
      replace hB := Lib.hid hB
      go_wp2_with (at_builtin; refine wpList_append_rd _ rfl _ _ 24 rfl w.heap.size 5 i0 (.int .u8 0) 1 1 Try.underlying24 hi hz0 hz1 hz2 rfl rfl (by decide) _ L.length _ rfl hrn.out .u8 (some ⟨wr.heap.size, 0, none⟩) 1 1 [34] rfl rfl (fun h => by cases h) (Nat.le_refl _) (lits wr [34]) (by unfold maxLen; omega) (by omega) hbn ?_; intro v2 w2 hown2 hgrow2; have hown3 : w2.ownsRow w.heap.size 5 1 v2 (L.length + 1) ((L ++ [34]).map (Value.int .u8)) := (by rw [List.map_append]; exact hown2); obtain ⟨A2, c2, rfl⟩ := lx_slice hown3; have hcv := lx_conv A2 (L.length + 1) c2 (L ++ [34]) w2 w2.heap.size (by simp) (rd_own hown3); have hB3 := Lib.hid (hBn.out.grown hgrow2 hbn (fun j ej => hblk.out j ej)); clear hown2 hown3 hgrow2)
      go_ret2
      exact ⟨by rw [hv.out]; rfl, hB3.out⟩
end Go.Proofs.Ytpeeekgfcofbkaa
