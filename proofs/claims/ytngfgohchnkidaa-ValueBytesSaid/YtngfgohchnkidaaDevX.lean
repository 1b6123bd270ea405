/-
  THE WALKS of the program's Writer of wire, second part: Int, Text, Raw, Ints, Done.
-/
import Derived.Test.YtngfgohchnkidaaDevW
import Derived.Test.YtngfgohchnkidaaVal
import Derived.Lib.AppendStr
import Derived.Lib.LazyBuf
namespace Go.Proofs.Ytngfgohchnkidaa
open Go.RowKit

theorem dInt_any (n : Int) (B g : Nat) (bs : List Int) (w : World) (h : WtrAt w B g bs) (hl : bs.length ≤ 1000000) (h1 : -9223372036854775808 ≤ n) (h2 : n ≤ 9223372036854775807) :
    Calls Try.prog 55 #[.pointer (some ⟨g, 0, none⟩), .int .i64 n] w (WtrPost w B g (bs ++ uv (zz n))) := by
  have hz := dzig_any n w h1 h2
  have hU := dUint_any (zz n) B g bs w h hl (zz_lt h1 h2)
  generalize zz n = z at hz hU
  generalize bs ++ uv z = l at hU
  clear h hl
  go_enter Try.func55, Try.ntmps55
  go_wp2_with (first
    | (go_at_call 86; refine hz.mono ?_; clear hz; rintro e w' ⟨rfl, rfl⟩)
    | (go_at_call 56; refine hU.mono ?_; clear hU; rintro e w1 ⟨rfl, hr1, hb1⟩))
  go_end0
  exact ⟨rfl, hr1, hb1⟩

set_option maxHeartbeats 1000000 in
theorem dRaw_any (A : Option Addr) (n c : Nat) (zs : List Int) (B g : Nat) (bs : List Int) (w : World) (h : WtrAt w B g bs) (hl : bs.length ≤ 900000) (hn : n = zs.length) (hz : zs.length ≤ 1000000) (hcap : zs.length ≤ c) (hA : A = none → c = 0) (hr : RdI w B .u8 A zs) :
    Calls Try.prog 57 #[.pointer (some ⟨g, 0, none⟩), .slice A n c] w (WtrPost w B g (bs ++ raw zs)) := by
  subst hn
  obtain ⟨i0, hi, hz0, hz1, hz2⟩ := info_parts info_u8
  have hU := dUint_any zs.length B g bs w h (by omega) (by omega)
  have hul : (uv zs.length).length ≤ 10 := uv_length_64 (by omega)
  have HR := Lib.hid (show bs ++ raw zs = (bs ++ uv zs.length) ++ zs by rw [List.append_assoc]; rfl)
  have hll : (bs ++ uv zs.length).length ≤ 900010 := by rw [List.length_append]; omega
  generalize bs ++ uv zs.length = q at hU HR hll
  clear h hul
  go_enter Try.func57, Try.ntmps57
  go_wp2_with (first
    | (go_at_call 56; refine hU.mono ?_; clear hU; rintro e w1 ⟨rfl, hr1, hb1⟩; obtain ⟨v, hBg, hg, hc, hf, HK, hrow⟩ := wtr_cells hr1; have hBw : B ≤ w1.heap.size := (by omega); have hr2 := (hr.below hb1).mono hBw)
    | (at_builtin; refine wpList_append_rd _ rfl (.tmp 13) (.tmp 14) 48 rfl B 5 i0 (.int .u8 0) 1 1 Try.underlying48 hi hz0 hz1 hz2 rfl rfl (by decide) _ q.length _ rfl hrow .u8 A zs.length c zs rfl rfl hA hcap hr2 (by unfold maxLen; omega) (by omega) hBw ?_; intro v' w2 hown' hgrow; obtain ⟨c5, f5⟩ := wtr_far HK.out hrow (Below.refl _ w1) hgrow; obtain ⟨A', c', rfl⟩ := own_slice hown'))
  go_end0
  obtain ⟨r1, r2⟩ := wtr_put hBg HK.out hrow (Below.refl _ w1) hgrow hown'
  exact ⟨rfl, by rw [HR.out]; exact r1, hb1.trans r2⟩

theorem strCells_sb (s : ByteArray) : Lib.strCells s = (sb s).map (Value.int .u8) := by
  unfold Lib.strCells sb
  rw [List.map_map]
  rfl
theorem own_empty (w : World) (t : TypeId) : (w.alloc (.cells #[] t)).ownsRow w.heap.size t 1 (.slice (some ⟨w.heap.size, 0, none⟩) 0 0) 0 [] :=
  ⟨rfl, .inr ⟨_, 0, _, rfl, Nat.le_refl _, heap_alloc_new w _, Nat.le_refl _, by unfold maxLen; omega, rfl, rfl⟩⟩
theorem eql_nil (A : Option Addr) (l c : Nat) (w : World) : (binOp .eql 48 (.slice A l c) (.slice none 0 0)).run Try.prog w = .ok (.bool A.isNone) w :=
  by exact Lib.run_eql_slice_nil (h := Try.underlying48) ..
set_option maxHeartbeats 1000000 in
theorem clone_some (x : Addr) (c : Nat) (zs : List Int) (w : World) (hz : zs.length ≤ 200000000) (hcap : zs.length ≤ c) (hr : RdI w w.heap.size .u8 (some x) zs) :
    Calls Try.prog 79 #[.slice (some x) zs.length c] w fun e w' => GivesRow w.heap.size w 5 .u8 zs e w' := by
  obtain ⟨i0, hi, hz0, hz1, hz2⟩ := info_parts info_u8
  have hA := rd_cells ((hr.below ((Below.refl _ w).alloc (Nat.le_refl _) (.cells #[] 5))).mono (by simp : w.heap.size ≤ (w.alloc (.cells #[] 5)).heap.size)) zs.length
  rw [List.take_length] at hA
  have HA := Lib.hid hA
  clear hr hA
  have hE := eql_nil
  go_enter Try.func79, Try.ntmps79
  go_wp2_with (at_builtin; refine wpList_append_own _ rfl (.tmp 5) (.tmp 6) 48 rfl w.heap.size 5 i0 (.int .u8 0) 1 1 Try.underlying48 hi hz0 hz1 hz2 rfl (by decide) _ 0 [] rfl (own_empty w _) x zs.length c (zs.map (Value.int .u8)) rfl (by simp) HA.out (one_cells _ _) (by unfold maxLen; omega) (by omega) (by simp) ?_; intro v' w2 hown' hgrow _)
  go_ret
  exact gives_own (by simp) (by omega) hown' (((Below.refl _ w).alloc (Nat.le_refl _) _).grown hgrow (by simp) (fun j ej => ((own_empty w 5).lt j ej).1))
theorem clone_none (w : World) :
    Calls Try.prog 79 #[.slice none 0 0] w fun e w' => GivesRow w.heap.size w 5 .u8 [] e w' := by
  have hE := eql_nil
  go_enter Try.func79, Try.ntmps79
  go_wp2
  go_ret
  exact ⟨none, 0, rfl, Nat.le_refl _, World.ownsRow_nil _ _ _ _, Below.refl _ _⟩
theorem clone_any (A : Option Addr) (n c : Nat) (zs : List Int) (w : World) (hn : n = zs.length) (hz : zs.length ≤ 200000000) (hcap : zs.length ≤ c) (hA : A = none → c = 0) (hr : RdI w w.heap.size .u8 A zs) :
    Calls Try.prog 79 #[.slice A n c] w fun e w' => GivesRow w.heap.size w 5 .u8 zs e w' := by
  subst hn
  cases A with
  | none =>
    obtain rfl : c = 0 := hA rfl
    obtain rfl : zs = [] := List.eq_nil_of_length_eq_zero (by omega)
    exact clone_none w
  | some x => exact clone_some x c zs w hz hcap hr
theorem dDone_any (B g : Nat) (bs : List Int) (w : World) (h : WtrAt w B g bs) (hl : bs.length ≤ 200000000) :
    Calls Try.prog 58 #[.pointer (some ⟨g, 0, none⟩)] w fun e w' => GivesRow w.heap.size w 5 .u8 bs e w' := by
  obtain ⟨v, hBg, hg, hc, hf, HK, hrow⟩ := wtr_cells h
  obtain ⟨A, c, rfl⟩ := own_slice hrow
  have hC := clone_any A bs.length c bs w rfl hl (own_cap hrow) (own_none hrow) (rd_own hrow)
  clear h hrow
  go_enter Try.func58, Try.ntmps58
  go_wp2_with (go_at_call 79; refine hC.mono ?_; clear hC; rintro e w1 ⟨A1, c1, rfl, hc1, hrow1, hb1⟩)
  go_ret
  exact ⟨A1, c1, rfl, hc1, hrow1, hb1⟩
end Go.Proofs.Ytngfgohchnkidaa
