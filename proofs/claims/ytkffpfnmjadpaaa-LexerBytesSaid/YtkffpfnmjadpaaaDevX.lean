/-
  THE WALKS of the program's Writer of wire, second part: Int, Text, Raw, Ints, Done.
-/
import Derived.Test.YtkffpfnmjadpaaaDevW
import Derived.Test.YtkffpfnmjadpaaaVal
import Derived.Lib.AppendStr
import Derived.Lib.LazyBuf
namespace Go.Proofs.Ytkffpfnmjadpaaa
open Go.RowKit

theorem dInt_any (n : Int) (B g : Nat) (bs : List Int) (w : World) (h : WtrAt w B g bs) (hl : bs.length ≤ 1000000) (h1 : -9223372036854775808 ≤ n) (h2 : n ≤ 9223372036854775807) :
    Calls Try.prog 35 #[.pointer (some ⟨g, 0, none⟩), .int .i64 n] w (WtrPost w B g (bs ++ uv (zz n))) := by
  have hz := dzig_any n w h1 h2
  have hU := dUint_any (zz n) B g bs w h hl (zz_lt h1 h2)
  generalize zz n = z at hz hU
  generalize bs ++ uv z = l at hU
  clear h hl
  go_enter Try.func35, Try.ntmps35
  go_wp2_with (first
    | (go_at_call 48; refine hz.mono ?_; clear hz; rintro e w' ⟨rfl, rfl⟩)
    | (go_at_call 21; refine hU.mono ?_; clear hU; rintro e w1 ⟨rfl, hr1, hb1⟩))
  go_end0
  exact ⟨rfl, hr1, hb1⟩


theorem strCells_sb (s : ByteArray) : Lib.strCells s = (sb s).map (Value.int .u8) := by
  unfold Lib.strCells sb
  rw [List.map_map]
  rfl
set_option maxHeartbeats 1000000 in
theorem dInts_any (A : Option Addr) (n c : Nat) (zs : List Int) (B g : Nat) (bs : List Int) (w : World) (h : WtrAt w B g bs) (hl : bs.length ≤ 500000) (hn : n = zs.length) (hz : zs.length ≤ 10000) (hi64 : ∀ z ∈ zs, I64 z) (hr : RdI w B .i64 A zs) :
    Calls Try.prog 20 #[.pointer (some ⟨g, 0, none⟩), .slice A n c] w (WtrPost w B g (bs ++ ints zs)) := by
  subst hn
  have hU := dUint_any zs.length B g bs w h (by omega) (by omega)
  have hul : (uv zs.length).length ≤ 10 := uv_length_64 (by omega)
  have HR := Lib.hid (show bs ++ ints zs = (bs ++ uv zs.length) ++ (zs.map fun n => uv (zz n)).flatten by rw [List.append_assoc]; rfl)
  have hll : (bs ++ uv zs.length).length ≤ 500010 := by rw [List.length_append]; omega
  generalize bs ++ uv zs.length = q at hU HR hll
  have hBg := h.1
  have hBw : B ≤ w.heap.size := by
    obtain ⟨v, h1, h2, _⟩ := wtr_cells h
    omega
  clear h hul
  go_enter Try.func20, Try.ntmps20
  go_wp2_with (go_at_call 21; refine hU.mono ?_; clear hU; rintro e w1 ⟨rfl, hr1, hb1⟩)
  go_loopw [13] (fun i wr => ∃ (k : Nat) (bs' : List Int), k ≤ zs.length ∧ i = .int .i64 k ∧ Hid (bs' = q ++ ((zs.take k).map fun n => uv (zz n)).flatten) ∧ WtrAt wr B g bs' ∧ Below B w wr) (fun i _ => zs.length - (intOf i).toNat)
  case atStart => exact ⟨0, q, Nat.zero_le _, rfl, Lib.hid (by simp), hr1, hb1⟩
  case round =>
    clear hr1 hb1
    obtain ⟨k, bs', hk, rfl, hbs, hwt, hW⟩ := hrel
    by_cases hlt : k < zs.length
    · obtain ⟨b, o, rfl, hb, hck0⟩ := hr.at_ hlt
      have hck := (hW.cell (p := ⟨b, o + k, none⟩) hb).trans hck0
      have hxi : I64 (zs[k]?.getD 0) := by rw [List.getElem?_eq_getElem hlt]; exact hi64 _ (List.getElem_mem hlt)
      have HS := Lib.hid (ints_take hlt)
      have hbl : bs'.length ≤ 500010 + 10 * k := by
        have h1 := flat_len (l := zs.take k) (fun z hz => hi64 z (List.mem_of_mem_take hz))
        have h2 := congrArg List.length hbs.out
        rw [List.length_append] at h2
        rw [List.length_take] at h1
        omega
      obtain ⟨x, hx⟩ : ∃ x, x = zs[k]?.getD 0 := ⟨_, rfl⟩
      rw [← hx] at hck HS hxi
      have hI := dInt_any x B g bs' wr hwt (by omega) hxi.1 hxi.2
      clear hx hck0 hr hi64 hxi hwt
      generalize uv (zz x) = m at hI HS
      have HQ := Lib.hid (show bs' ++ m = q ++ ((zs.take (k + 1)).map fun n => uv (zz n)).flatten by rw [HS.out, hbs.out, List.append_assoc])
      generalize bs' ++ m = q2 at hI HQ
      go_wp2_with (go_at_call 35; refine hI.mono ?_; clear hI; rintro e w2 ⟨rfl, hr2, hb2⟩)
      go_roundw
      case rel => exact ⟨k + 1, q2, by omega, by go_num, HQ, hr2, hW.trans hb2⟩
      case measure => simp [intOf]; omega
    · have he := Lib.hid (show zs.take k = zs from List.take_of_length_le (by omega))
      go_wp2
      go_end0
      exact ⟨rfl, by rw [HR.out]; have := hbs.out; rw [he.out] at this; rw [← this]; exact hwt, hW⟩

theorem own_empty (w : World) (t : TypeId) : (w.alloc (.cells #[] t)).ownsRow w.heap.size t 1 (.slice (some ⟨w.heap.size, 0, none⟩) 0 0) 0 [] :=
  ⟨rfl, .inr ⟨_, 0, _, rfl, Nat.le_refl _, heap_alloc_new w _, Nat.le_refl _, by unfold maxLen; omega, rfl, rfl⟩⟩
theorem eql_nil (A : Option Addr) (l c : Nat) (w : World) : (binOp .eql 24 (.slice A l c) (.slice none 0 0)).run Try.prog w = .ok (.bool A.isNone) w :=
  by exact Lib.run_eql_slice_nil (h := Try.underlying24) ..
set_option maxHeartbeats 1000000 in
theorem clone_some (x : Addr) (c : Nat) (zs : List Int) (w : World) (hz : zs.length ≤ 200000000) (hcap : zs.length ≤ c) (hr : RdI w w.heap.size .u8 (some x) zs) :
    Calls Try.prog 36 #[.slice (some x) zs.length c] w fun e w' => GivesRow w.heap.size w 5 .u8 zs e w' := by
  obtain ⟨i0, hi, hz0, hz1, hz2⟩ := info_parts info_u8
  have hA := rd_cells ((hr.below ((Below.refl _ w).alloc (Nat.le_refl _) (.cells #[] 5))).mono (by simp : w.heap.size ≤ (w.alloc (.cells #[] 5)).heap.size)) zs.length
  rw [List.take_length] at hA
  have HA := Lib.hid hA
  clear hr hA
  have hE := eql_nil
  go_enter Try.func36, Try.ntmps36
  go_wp2_with (at_builtin; refine wpList_append_own _ rfl (.tmp 5) (.tmp 6) 24 rfl w.heap.size 5 i0 (.int .u8 0) 1 1 Try.underlying24 hi hz0 hz1 hz2 rfl (by decide) _ 0 [] rfl (own_empty w _) x zs.length c (zs.map (Value.int .u8)) rfl (by simp) HA.out (one_cells _ _) (by unfold maxLen; omega) (by omega) (by simp) ?_; intro v' w2 hown' hgrow _)
  go_ret
  exact gives_own (by simp) (by omega) hown' (((Below.refl _ w).alloc (Nat.le_refl _) _).grown hgrow (by simp) (fun j ej => ((own_empty w 5).lt j ej).1))
theorem clone_none (w : World) :
    Calls Try.prog 36 #[.slice none 0 0] w fun e w' => GivesRow w.heap.size w 5 .u8 [] e w' := by
  have hE := eql_nil
  go_enter Try.func36, Try.ntmps36
  go_wp2
  go_ret
  exact ⟨none, 0, rfl, Nat.le_refl _, World.ownsRow_nil _ _ _ _, Below.refl _ _⟩
theorem clone_any (A : Option Addr) (n c : Nat) (zs : List Int) (w : World) (hn : n = zs.length) (hz : zs.length ≤ 200000000) (hcap : zs.length ≤ c) (hA : A = none → c = 0) (hr : RdI w w.heap.size .u8 A zs) :
    Calls Try.prog 36 #[.slice A n c] w fun e w' => GivesRow w.heap.size w 5 .u8 zs e w' := by
  subst hn
  cases A with
  | none =>
    obtain rfl : c = 0 := hA rfl
    obtain rfl : zs = [] := List.eq_nil_of_length_eq_zero (by omega)
    exact clone_none w
  | some x => exact clone_some x c zs w hz hcap hr
theorem dDone_any (B g : Nat) (bs : List Int) (w : World) (h : WtrAt w B g bs) (hl : bs.length ≤ 200000000) :
    Calls Try.prog 22 #[.pointer (some ⟨g, 0, none⟩)] w fun e w' => GivesRow w.heap.size w 5 .u8 bs e w' := by
  obtain ⟨v, hBg, hg, hc, hf, HK, hrow⟩ := wtr_cells h
  obtain ⟨A, c, rfl⟩ := own_slice hrow
  have hC := clone_any A bs.length c bs w rfl hl (own_cap hrow) (own_none hrow) (rd_own hrow)
  clear h hrow
  go_enter Try.func22, Try.ntmps22
  go_wp2_with (go_at_call 36; refine hC.mono ?_; clear hC; rintro e w1 ⟨A1, c1, rfl, hc1, hrow1, hb1⟩)
  go_ret
  exact ⟨A1, c1, rfl, hc1, hrow1, hb1⟩
end Go.Proofs.Ytkffpfnmjadpaaa
