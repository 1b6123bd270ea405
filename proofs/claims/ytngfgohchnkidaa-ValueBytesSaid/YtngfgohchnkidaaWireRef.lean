/-
  THE WALKS of the reference's encoders of wire: Uint, Zigzag, Back, Int, Bool, Raw, Ints.
-/
import Derived.Test.YtngfgohchnkidaaBase
import Derived.Test.YtngfgohchnkidaaWireRead
namespace Go.Proofs.Ytngfgohchnkidaa
open Go.RowKit

theorem wrap_u8 (x : Int) : IntKind.u8.wrap x = x % 256 := by simp [IntKind.wrap, IntKind.bits, IntKind.signed]

set_option maxHeartbeats 1000000 in
set_option maxRecDepth 100000 in
theorem wUint_any (n : Nat) (w : World) (hn : n < 18446744073709551616) :
    Calls Try.prog 73 #[.int .u64 n] w fun e w' => GivesRow w.heap.size w 5 .u8 (uv n) e w' := by
  obtain ⟨i0, hi, hz0, hz1, hz2⟩ := info_parts info_u8
  have hlen := uv_length_64 hn
  have HN := Lib.hid hn
  clear hn
  go_enter Try.func73, Try.ntmps73
  go_wp2
  go_loopw [0, 3] (fun x v wr => ∃ (m : Nat) (pre : List Int), m ≤ n ∧ x = .int .u64 m ∧ Hid (pre ++ uv m = uv n) ∧ wr.ownsRow w.heap.size 5 1 v pre.length (pre.map (Value.int .u8)) ∧ Below w.heap.size w wr) (fun x _ _ => (intOf x).toNat)
  case atStart => exact ⟨n, [], Nat.le_refl _, rfl, Lib.hid rfl, World.ownsRow_nil _ _ _ _, Below.refl _ _⟩
  case round =>
    obtain ⟨m, pre, hm, rfl, hp, hrow, hW⟩ := hrel
    have hsz := hW.size
    have hpl : pre.length + (uv m).length ≤ 10 := by
      have := congrArg List.length hp.out
      rw [List.length_append] at this
      omega
    have hul := uv_pos m
    have hp10 : pre.length ≤ 10 := by omega
    clear hpl hul
    by_cases h : m < 128
    · have he := Lib.hid (show uv n = pre ++ [(m : Int)] by rw [← hp.out, uv_lt h])
      go_wp2_with (at_builtin; refine wpList_append_own _ rfl (.tmp 15) (.tmp 18) 48 rfl w.heap.size 5 i0 (.int .u8 0) 1 1 Try.underlying48 hi hz0 hz1 hz2 rfl (by decide) _ pre.length _ rfl (hrow.alloc _) ⟨wr.heap.size, 0, none⟩ 1 1 [.int .u8 (m : Int)] rfl rfl (cell_one_new _ _ _) (by simp [Value.oneCell']) (by unfold maxLen; omega) (by omega) (by simp; omega) ?_; intro v' w2 hown' hgrow _)
      go_ret
      exact gives_own (by rw [he.out, List.map_append]; rfl) (by rw [he.out]; simp) hown' ((hW.alloc hsz _).grown hgrow (by simp; omega) (fun j ej => (hrow.lt j ej).1))
    · have hm57 : (m : Int) / 128 ≤ 200000000000000000 := by have := HN.out; omega
      have he := Lib.hid (show (pre ++ [(128 + (m : Int) % 128)]) ++ uv (m / 128) = uv n by rw [← hp.out, uv_ge (n := m) (by omega), List.append_assoc]; rfl)
      go_wp2_with (at_builtin; refine wpList_append_own _ rfl (.tmp 6) (.tmp 11) 48 rfl w.heap.size 5 i0 (.int .u8 0) 1 1 Try.underlying48 hi hz0 hz1 hz2 rfl (by decide) _ pre.length _ rfl (hrow.alloc _) ⟨wr.heap.size, 0, none⟩ 1 1 [.int .u8 (128 + (m : Int) % 128)] rfl rfl (cell_one_new _ _ _) (by simp [Value.oneCell']) (by unfold maxLen; omega) (by omega) (by simp; omega) ?_; intro v' w2 hown' hgrow _)
      go_roundw
      case rel =>
        refine ⟨m / 128, pre ++ [(128 + (m : Int) % 128)], by omega, by congr 1 <;> omega, he, ?_, (hW.alloc hsz _).grown hgrow (by simp; omega) (fun j ej => (hrow.lt j ej).1)⟩
        rw [List.map_append, List.length_append]
        exact hown'
      case measure => simp [intOf]; omega

theorem wZig_any (n : Int) (w : World) (h1 : -9223372036854775808 ≤ n) (h2 : n ≤ 9223372036854775807) :
    Calls Try.prog 90 #[.int .i64 n] w fun e w' => e = .returned (.int .u64 (zz n : Nat)) ∧ w = w' := by
  by_cases h : n < 0
  · have he : (zz n : Int) = 2 * (-(n + 1)) + 1 := by unfold zz; rw [if_pos h]; omega
    have HE := Lib.hid he
    clear he
    go_enter Try.func90, Try.ntmps90
    go_wp2
    go_ret
    exact ⟨by rw [HE.out]; rfl, rfl⟩
  · have he : (zz n : Int) = 2 * n := by unfold zz; rw [if_neg h]; omega
    have HE := Lib.hid he
    clear he
    go_enter Try.func90, Try.ntmps90
    go_wp2
    go_ret
    exact ⟨by rw [HE.out]; rfl, rfl⟩

theorem wInt_any (n : Int) (w : World) (h1 : -9223372036854775808 ≤ n) (h2 : n ≤ 9223372036854775807) :
    Calls Try.prog 72 #[.int .i64 n] w fun e w' => GivesRow w.heap.size w 5 .u8 (uv (zz n)) e w' := by
  have hz := wZig_any n w h1 h2
  have hU := wUint_any (zz n) w (zz_lt h1 h2)
  generalize zz n = z at hz hU
  generalize uv z = l at hU
  go_enter Try.func72, Try.ntmps72
  go_wp2_with (first
    | (go_at_call 90; refine hz.mono ?_; clear hz; rintro e w' ⟨rfl, rfl⟩)
    | (go_at_call 73; refine hU.mono ?_; clear hU; rintro e w1 ⟨A1, c1, rfl, hc1, hrow1, hb1⟩))
  go_ret
  exact ⟨A1, c1, rfl, hc1, hrow1, hb1⟩
set_option maxHeartbeats 1000000 in
theorem wRaw_some (x : Addr) (c : Nat) (zs : List Int) (w : World) (hz : zs.length ≤ 140737488351232) (hr : RdI w w.heap.size .u8 (some x) zs) :
    Calls Try.prog 74 #[.slice (some x) zs.length c] w fun e w' => GivesRow w.heap.size w 5 .u8 (raw zs) e w' := by
  obtain ⟨i0, hi, hz0, hz1, hz2⟩ := info_parts info_u8
  have hU := wUint_any zs.length w (by omega)
  have hul : (uv zs.length).length ≤ 10 := uv_length_64 (by omega)
  have HR := Lib.hid (show raw zs = uv zs.length ++ zs from rfl)
  generalize uv zs.length = l at hU hul HR
  go_enter Try.func74, Try.ntmps74
  go_wp2_with (first
    | (go_at_call 73; refine hU.mono ?_; clear hU; rintro e w1 ⟨A1, c1, rfl, hc1, hrow1, hb1⟩)
    | (at_builtin; refine wpList_append_own _ rfl (.tmp 6) (.tmp 7) 48 rfl w.heap.size 5 i0 (.int .u8 0) 1 1 Try.underlying48 hi hz0 hz1 hz2 rfl (by decide) _ l.length _ rfl hrow1 x zs.length c (zs.map (Value.int .u8)) rfl (by simp) (by have := rd_cells (hr.below hb1) zs.length; rwa [List.take_length] at this) (one_cells _ _) (by unfold maxLen; omega) (by omega) hb1.size ?_; intro v' w2 hown' hgrow _))
  go_ret
  exact gives_own (by rw [HR.out, List.map_append]) (by rw [HR.out, List.length_append]) hown' (hb1.grown hgrow hb1.size (fun j ej => (hrow1.lt j ej).1))
theorem wRaw_none (w : World) : Calls Try.prog 74 #[.slice none 0 0] w fun e w' => GivesRow w.heap.size w 5 .u8 (raw []) e w' := by
  obtain ⟨i0, hi, hz0, hz1, hz2⟩ := info_parts info_u8
  have hU := wUint_any 0 w (by omega)
  have HR := Lib.hid (show raw [] = uv 0 from List.append_nil _)
  generalize uv 0 = l at hU HR
  go_enter Try.func74, Try.ntmps74
  go_wp2_with (first
    | (go_at_call 73; refine (show Calls _ _ _ _ _ from hU).mono ?_; clear hU; rintro e w1 ⟨A1, c1, rfl, hc1, hrow1, hb1⟩)
    | (at_builtin; refine wpList_append_own_none rfl (.tmp 6) (.tmp 7) 48 rfl w.heap.size 5 i0 1 Try.underlying48 hi _ l.length _ rfl hrow1 rfl ?_))
  go_ret
  rw [HR.out]
  exact ⟨A1, c1, rfl, hc1, hrow1, hb1⟩
theorem wRaw_any (A : Option Addr) (n c : Nat) (zs : List Int) (w : World) (hn : n = zs.length) (hz : zs.length ≤ 140737488351232) (hcap : zs.length ≤ c) (hA : A = none → c = 0) (hr : RdI w w.heap.size .u8 A zs) :
    Calls Try.prog 74 #[.slice A n c] w fun e w' => GivesRow w.heap.size w 5 .u8 (raw zs) e w' := by
  subst hn
  cases A with
  | none =>
    obtain rfl : c = 0 := hA rfl
    obtain rfl : zs = [] := List.eq_nil_of_length_eq_zero (by omega)
    exact wRaw_none w
  | some x => exact wRaw_some x c zs w hz hr

theorem ints_take {l : List Int} {k : Nat} (hk : k < l.length) : (((l.take (k + 1)).map fun n => uv (zz n)).flatten : List Int) = ((l.take k).map fun n => uv (zz n)).flatten ++ uv (zz (l[k]?.getD 0)) := by
  rw [take_snoc hk, List.map_append, List.flatten_append]; simp
theorem flat_len {l : List Int} (h : ∀ z ∈ l, I64 z) : ((l.map fun n => uv (zz n)).flatten).length ≤ 10 * l.length := by
  induction l with
  | nil => simp
  | cons z l ih =>
    have h1 := uv_length_64 (zz_lt (h z (by simp)).1 (h z (by simp)).2)
    have h2 := ih (fun y hy => h y (by simp [hy]))
    simp only [List.map_cons, List.flatten_cons, List.length_append, List.length_cons]
    omega

end Go.Proofs.Ytngfgohchnkidaa
