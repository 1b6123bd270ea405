/-
  THE WALKS of the reference's encoders of wire: Uint, Zigzag, Back, Int, Bool, Raw, Ints.
-/
import Derived.Test.YtebfgdonikedaaaBase
import Derived.Test.YtebfgdonikedaaaWireRead
namespace Go.Proofs.Ytebfgdonikedaaa
open Go.RowKit

theorem wrap_u8 (x : Int) : IntKind.u8.wrap x = x % 256 := by simp [IntKind.wrap, IntKind.bits, IntKind.signed]

set_option maxHeartbeats 1000000 in
theorem wUint_any (n : Nat) (w : World) (hn : n < 18446744073709551616) :
    Calls Try.prog 40 #[.int .u64 n] w fun e w' => GivesRow w.heap.size w 5 .u8 (uv n) e w' := by
  obtain ⟨i0, hi, hz0, hz1, hz2⟩ := info_parts info_u8
  have hlen := uv_length_64 hn
  have HN := Lib.hid hn
  clear hn
  go_enter Try.func40, Try.ntmps40
  go_wp2
  go_loopw [0, 3] (fun x v wr => ∃ (m : Nat) (pre : List Int), m ≤ n ∧ x = .int .u64 m ∧ Hid (pre ++ uv m = uv n) ∧ wr.ownsRow w.heap.size 5 1 v pre.length (pre.map (Value.int .u8)) ∧ Below w.heap.size w wr) (fun x _ _ => (intOf x).toNat)
  case atStart => exact ⟨n, [], Nat.le_refl _, rfl, Lib.hid rfl, World.ownsRow_nil _ _ _ _, Below.refl _ _⟩
  case round =>
    obtain ⟨m, pre, hm, rfl, hp, hrow, hW⟩ := hrel
    have hsz := hW.size
    have hpl : pre.length + (uv m).length ≤ 10 := by
      have := congrArg List.length hp.out
      rw [List.length_append] at this
      omega
    have hul := uv_pos m
    have hp10 : pre.length ≤ 10 := by omega
    clear hpl hul
    by_cases h : m < 128
    · have he := Lib.hid (show uv n = pre ++ [(m : Int)] by rw [← hp.out, uv_lt h])
      go_wp2_with (at_builtin; refine wpList_append_own _ rfl (.tmp 15) (.tmp 18) 24 rfl w.heap.size 5 i0 (.int .u8 0) 1 1 Try.underlying24 hi hz0 hz1 hz2 rfl (by decide) _ pre.length _ rfl (hrow.alloc _) ⟨wr.heap.size, 0, none⟩ 1 1 [.int .u8 (m : Int)] rfl rfl (cell_one_new _ _ _) (by simp [Value.oneCell']) (by unfold maxLen; omega) (by omega) (by simp; omega) ?_; intro v' w2 hown' hgrow _)
      go_ret
      exact gives_own (by rw [he.out, List.map_append]; rfl) (by rw [he.out]; simp) hown' ((hW.alloc hsz _).grown hgrow (by simp; omega) (fun j ej => (hrow.lt j ej).1))
    · have hm57 : (m : Int) / 128 ≤ 200000000000000000 := by have := HN.out; omega
      have he := Lib.hid (show (pre ++ [(128 + (m : Int) % 128)]) ++ uv (m / 128) = uv n by rw [← hp.out, uv_ge (n := m) (by omega), List.append_assoc]; rfl)
      go_wp2_with (at_builtin; refine wpList_append_own _ rfl (.tmp 6) (.tmp 11) 24 rfl w.heap.size 5 i0 (.int .u8 0) 1 1 Try.underlying24 hi hz0 hz1 hz2 rfl (by decide) _ pre.length _ rfl (hrow.alloc _) ⟨wr.heap.size, 0, none⟩ 1 1 [.int .u8 (128 + (m : Int) % 128)] rfl rfl (cell_one_new _ _ _) (by simp [Value.oneCell']) (by unfold maxLen; omega) (by omega) (by simp; omega) ?_; intro v' w2 hown' hgrow _)
      go_roundw
      case rel =>
        refine ⟨m / 128, pre ++ [(128 + (m : Int) % 128)], by omega, by congr 1 <;> omega, he, ?_, (hW.alloc hsz _).grown hgrow (by simp; omega) (fun j ej => (hrow.lt j ej).1)⟩
        rw [List.map_append, List.length_append]
        exact hown'
      case measure => simp [intOf]; omega

theorem wZig_any (n : Int) (w : World) (h1 : -9223372036854775808 ≤ n) (h2 : n ≤ 9223372036854775807) :
    Calls Try.prog 61 #[.int .i64 n] w fun e w' => e = .returned (.int .u64 (zz n : Nat)) ∧ w = w' := by
  by_cases h : n < 0
  · have he : (zz n : Int) = 2 * (-(n + 1)) + 1 := by unfold zz; rw [if_pos h]; omega
    have HE := Lib.hid he
    clear he
    go_enter Try.func61, Try.ntmps61
    go_wp2
    go_ret
    exact ⟨by rw [HE.out]; rfl, rfl⟩
  · have he : (zz n : Int) = 2 * n := by unfold zz; rw [if_neg h]; omega
    have HE := Lib.hid he
    clear he
    go_enter Try.func61, Try.ntmps61
    go_wp2
    go_ret
    exact ⟨by rw [HE.out]; rfl, rfl⟩

theorem wBack_any (z : Nat) (w : World) (hz : z < 18446744073709551616) :
    Calls Try.prog 67 #[.int .u64 z] w fun e w' => e = .returned (.int .i64 (unzz z)) ∧ w = w' := by
  by_cases h : z % 2 = 1
  · have he : unzz z = -((z : Int) / 2) - 1 := by unfold unzz; rw [if_pos h]; omega
    have HE := Lib.hid he
    clear he
    go_enter Try.func67, Try.ntmps67
    go_wp2
    go_ret
    exact ⟨by rw [HE.out]; rfl, rfl⟩
  · have he : unzz z = (z : Int) / 2 := by unfold unzz; rw [if_neg h]; omega
    have HE := Lib.hid he
    clear he
    go_enter Try.func67, Try.ntmps67
    go_wp2
    go_ret
    exact ⟨by rw [HE.out]; rfl, rfl⟩

theorem wInt_any (n : Int) (w : World) (h1 : -9223372036854775808 ≤ n) (h2 : n ≤ 9223372036854775807) :
    Calls Try.prog 41 #[.int .i64 n] w fun e w' => GivesRow w.heap.size w 5 .u8 (uv (zz n)) e w' := by
  have hz := wZig_any n w h1 h2
  have hU := wUint_any (zz n) w (zz_lt h1 h2)
  generalize zz n = z at hz hU
  generalize uv z = l at hU
  go_enter Try.func41, Try.ntmps41
  go_wp2_with (first
    | (go_at_call 61; refine hz.mono ?_; clear hz; rintro e w' ⟨rfl, rfl⟩)
    | (go_at_call 40; refine hU.mono ?_; clear hU; rintro e w1 ⟨A1, c1, rfl, hc1, hrow1, hb1⟩))
  go_ret
  exact ⟨A1, c1, rfl, hc1, hrow1, hb1⟩
theorem wBool_true (w : World) : Calls Try.prog 42 #[.bool true] w fun e w' => ∃ g, e = .returned (.slice (some ⟨g, 0, none⟩) 1 1) ∧ g = w.heap.size ∧ w.alloc (.cells #[.int .u8 1] 5) = w' := by
  go_enter Try.func42, Try.ntmps42
  go_wp2
  go_ret
  exact ⟨_, rfl, rfl, rfl⟩
theorem wBool_false (w : World) : Calls Try.prog 42 #[.bool false] w fun e w' => ∃ g, e = .returned (.slice (some ⟨g, 0, none⟩) 1 1) ∧ g = w.heap.size ∧ w.alloc (.cells #[.int .u8 0] 5) = w' := by
  go_enter Try.func42, Try.ntmps42
  go_wp2
  go_ret
  exact ⟨_, rfl, rfl, rfl⟩
theorem wBool_any (b : Bool) (w : World) : Calls Try.prog 42 #[.bool b] w fun e w' => GivesRow w.heap.size w 5 .u8 (bool1 b) e w' := by
  cases b
  · refine (wBool_false w).mono fun e w' ⟨g, he, hg, hw⟩ => ?_
    subst hg hw
    exact ⟨_, 1, he, Nat.le_refl _, ⟨rfl, .inr ⟨_, 1, _, rfl, Nat.le_refl _, heap_alloc_new w _, Nat.le_refl _, by unfold maxLen; omega, rfl, rfl⟩⟩, (Below.refl _ _).alloc (Nat.le_refl _) _⟩
  · refine (wBool_true w).mono fun e w' ⟨g, he, hg, hw⟩ => ?_
    subst hg hw
    exact ⟨_, 1, he, Nat.le_refl _, ⟨rfl, .inr ⟨_, 1, _, rfl, Nat.le_refl _, heap_alloc_new w _, Nat.le_refl _, by unfold maxLen; omega, rfl, rfl⟩⟩, (Below.refl _ _).alloc (Nat.le_refl _) _⟩

set_option maxHeartbeats 1000000 in
theorem wRaw_some (x : Addr) (c : Nat) (zs : List Int) (w : World) (hz : zs.length ≤ 140737488351232) (hr : RdI w w.heap.size .u8 (some x) zs) :
    Calls Try.prog 43 #[.slice (some x) zs.length c] w fun e w' => GivesRow w.heap.size w 5 .u8 (raw zs) e w' := by
  obtain ⟨i0, hi, hz0, hz1, hz2⟩ := info_parts info_u8
  have hU := wUint_any zs.length w (by omega)
  have hul : (uv zs.length).length ≤ 10 := uv_length_64 (by omega)
  have HR := Lib.hid (show raw zs = uv zs.length ++ zs from rfl)
  generalize uv zs.length = l at hU hul HR
  go_enter Try.func43, Try.ntmps43
  go_wp2_with (first
    | (go_at_call 40; refine hU.mono ?_; clear hU; rintro e w1 ⟨A1, c1, rfl, hc1, hrow1, hb1⟩)
    | (at_builtin; refine wpList_append_own _ rfl (.tmp 6) (.tmp 7) 24 rfl w.heap.size 5 i0 (.int .u8 0) 1 1 Try.underlying24 hi hz0 hz1 hz2 rfl (by decide) _ l.length _ rfl hrow1 x zs.length c (zs.map (Value.int .u8)) rfl (by simp) (by have := rd_cells (hr.below hb1) zs.length; rwa [List.take_length] at this) (one_cells _ _) (by unfold maxLen; omega) (by omega) hb1.size ?_; intro v' w2 hown' hgrow _))
  go_ret
  exact gives_own (by rw [HR.out, List.map_append]) (by rw [HR.out, List.length_append]) hown' (hb1.grown hgrow hb1.size (fun j ej => (hrow1.lt j ej).1))
theorem wRaw_none (w : World) : Calls Try.prog 43 #[.slice none 0 0] w fun e w' => GivesRow w.heap.size w 5 .u8 (raw []) e w' := by
  obtain ⟨i0, hi, hz0, hz1, hz2⟩ := info_parts info_u8
  have hU := wUint_any 0 w (by omega)
  have HR := Lib.hid (show raw [] = uv 0 from List.append_nil _)
  generalize uv 0 = l at hU HR
  go_enter Try.func43, Try.ntmps43
  go_wp2_with (first
    | (go_at_call 40; refine (show Calls _ _ _ _ _ from hU).mono ?_; clear hU; rintro e w1 ⟨A1, c1, rfl, hc1, hrow1, hb1⟩)
    | (at_builtin; refine wpList_append_own_none rfl (.tmp 6) (.tmp 7) 24 rfl w.heap.size 5 i0 1 Try.underlying24 hi _ l.length _ rfl hrow1 rfl ?_))
  go_ret
  rw [HR.out]
  exact ⟨A1, c1, rfl, hc1, hrow1, hb1⟩
theorem wRaw_any (A : Option Addr) (n c : Nat) (zs : List Int) (w : World) (hn : n = zs.length) (hz : zs.length ≤ 140737488351232) (hcap : zs.length ≤ c) (hA : A = none → c = 0) (hr : RdI w w.heap.size .u8 A zs) :
    Calls Try.prog 43 #[.slice A n c] w fun e w' => GivesRow w.heap.size w 5 .u8 (raw zs) e w' := by
  subst hn
  cases A with
  | none =>
    obtain rfl : c = 0 := hA rfl
    obtain rfl : zs = [] := List.eq_nil_of_length_eq_zero (by omega)
    exact wRaw_none w
  | some x => exact wRaw_some x c zs w hz hr

theorem ints_take {l : List Int} {k : Nat} (hk : k < l.length) : (((l.take (k + 1)).map fun n => uv (zz n)).flatten : List Int) = ((l.take k).map fun n => uv (zz n)).flatten ++ uv (zz (l[k]?.getD 0)) := by
  rw [take_snoc hk, List.map_append, List.flatten_append]; simp
theorem flat_len {l : List Int} (h : ∀ z ∈ l, I64 z) : ((l.map fun n => uv (zz n)).flatten).length ≤ 10 * l.length := by
  induction l with
  | nil => simp
  | cons z l ih =>
    have h1 := uv_length_64 (zz_lt (h z (by simp)).1 (h z (by simp)).2)
    have h2 := ih (fun y hy => h y (by simp [hy]))
    simp only [List.map_cons, List.flatten_cons, List.length_append, List.length_cons]
    omega

set_option maxHeartbeats 1000000 in
theorem wInts_any (A : Option Addr) (n c : Nat) (zs : List Int) (w : World) (hn : n = zs.length) (hz : zs.length ≤ 1000000) (hi64 : ∀ z ∈ zs, I64 z) (hr : RdI w w.heap.size .i64 A zs) :
    Calls Try.prog 44 #[.slice A n c] w fun e w' => GivesRow w.heap.size w 5 .u8 (ints zs) e w' := by
  subst hn
  obtain ⟨i0, hi, hz0, hz1, hz2⟩ := info_parts info_u8
  have hU := wUint_any zs.length w (by omega)
  have hul : (uv zs.length).length ≤ 10 := uv_length_64 (by omega)
  have HR := Lib.hid (show ints zs = uv zs.length ++ (zs.map fun n => uv (zz n)).flatten from rfl)
  generalize uv zs.length = l at hU hul HR
  go_enter Try.func44, Try.ntmps44
  go_wp2_with (go_at_call 40; refine hU.mono ?_; clear hU; rintro e w1 ⟨A1, c1, rfl, hc1, hrow1, hb1⟩)
  go_loopw [3, 4] (fun v i wr => ∃ (k : Nat) (bs : List Int), k ≤ zs.length ∧ i = .int .i64 k ∧ Hid (bs = l ++ ((zs.take k).map fun n => uv (zz n)).flatten) ∧ wr.ownsRow w.heap.size 5 1 v bs.length (bs.map (Value.int .u8)) ∧ Below w.heap.size w wr) (fun _ i _ => zs.length - (intOf i).toNat)
  case atStart => exact ⟨0, l, Nat.zero_le _, rfl, Lib.hid (by simp), hrow1, hb1⟩
  case round =>
    clear hrow1 hb1
    obtain ⟨k, bs, hk, rfl, hbs, hrow, hW⟩ := hrel
    have hsz := hW.size
    by_cases hlt : k < zs.length
    · obtain ⟨b, o, rfl, hb, hck0⟩ := hr.at_ hlt
      have hck := (hW.cell (p := ⟨b, o + k, none⟩) hb).trans hck0
      have hxi : I64 (zs[k]?.getD 0) := by rw [List.getElem?_eq_getElem hlt]; exact hi64 _ (List.getElem_mem hlt)
      have HS := Lib.hid (ints_take hlt)
      have hbl : bs.length ≤ 10 + 10 * k := by
        have h1 := flat_len (l := zs.take k) (fun z hz => hi64 z (List.mem_of_mem_take hz))
        have h2 := congrArg List.length hbs.out
        rw [List.length_append] at h2
        rw [List.length_take] at h1
        omega
      obtain ⟨x, hx⟩ : ∃ x, x = zs[k]?.getD 0 := ⟨_, rfl⟩
      rw [← hx] at hck HS hxi
      have hI := fun W => wInt_any x W hxi.1 hxi.2
      have hxl := uv_length_64 (zz_lt hxi.1 hxi.2)
      clear hx hck0 hr hi64 hxi
      generalize uv (zz x) = m at hI HS hxl
      go_wp2_with (first
        | (go_at_call 41; refine (hI _).mono ?_; clear hI; rintro e w2 ⟨A2, c2, rfl, hc2, hrow2, hb2⟩; have hrow3 := own_below hrow hb2; have hr2 := rd_own hrow2; have hsz2 := Nat.le_trans hsz hb2.size)
        | (at_builtin; refine wpList_append_rd _ rfl (.tmp 15) (.tmp 20) 24 rfl w.heap.size 5 i0 (.int .u8 0) 1 1 Try.underlying24 hi hz0 hz1 hz2 rfl rfl (by decide) _ bs.length _ rfl hrow3 .u8 A2 m.length c2 m rfl rfl (own_none hrow2) hc2 hr2 (by unfold maxLen; omega) (by omega) hsz2 ?_; intro v' w3 hown' hgrow))
      go_roundw
      case rel =>
        refine ⟨k + 1, bs ++ m, by omega, by go_num, Lib.hid (by rw [HS.out, hbs.out, List.append_assoc]), ?_, (hW.trans (hb2.mono hsz)).grown hgrow hsz2 (fun j ej => (hrow.lt j ej).1)⟩
        rw [List.map_append, List.length_append]
        exact hown'
      case measure => simp [intOf]; omega
    · have he := Lib.hid (show zs.take k = zs from List.take_of_length_le (by omega))
      go_wp2
      go_ret
      exact gives_own (by rw [HR.out, hbs.out, he.out]) (by rw [HR.out, hbs.out, he.out]) hrow hW
end Go.Proofs.Ytebfgdonikedaaa
