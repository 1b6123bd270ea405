/-
  THE WALKS of the program's Writer of wire.
-/
import Derived.Test.YtkffpfnmjadpaaaWireRef
import Derived.Laws.BitsAllLaws
import Derived.Laws.DeepNot64
import Derived.Deep.RegionLaw
import Derived.Deep.AppendLies
import Derived.Outline
namespace Go.Proofs.Ytkffpfnmjadpaaa
open Go.RowKit

theorem u64_not (b : Nat) (hb : b < 18446744073709551616) : bits .xor .u64 IntKind.u64.max (b : Int) = ((18446744073709551615 - b : Nat) : Int) := by
  show IntKind.u64.wrap ((BitVec.ofInt 64 IntKind.u64.max ^^^ BitVec.ofInt 64 (b : Int)).toNat : Int) = _
  have h1 : BitVec.ofInt 64 IntKind.u64.max = BitVec.allOnes 64 := by decide
  rw [h1, BitVec.allOnes_xor, BitVec.toNat_not, ofInt_u64 b (by omega)]
  simp [IntKind.wrap, IntKind.bits, IntKind.signed]
  omega
theorem zig_neg {n : Int} (h1 : -9223372036854775808 ≤ n) (h : n < 0) : bits .xor .u64 IntKind.u64.max (IntKind.u64.wrap (IntKind.u64.wrap n * 2)) = (zz n : Nat) := by
  have e : IntKind.u64.wrap (IntKind.u64.wrap n * 2) = ((18446744073709551616 + 2 * n).toNat : Nat) := by
    rw [Go.IntKind.wrap_u64, Go.IntKind.wrap_u64]; omega
  rw [e, u64_not _ (by omega)]
  unfold zz
  rw [if_pos h]
  omega
theorem dzig_any (n : Int) (w : World) (h1 : -9223372036854775808 ≤ n) (h2 : n ≤ 9223372036854775807) :
    Calls Try.prog 48 #[.int .i64 n] w fun e w' => e = .returned (.int .u64 (zz n : Nat)) ∧ w = w' := by
  by_cases h : n < 0
  · have HE := Lib.hid (zig_neg h1 h)
    go_enter Try.func48, Try.ntmps48
    go_wp2
    go_ret
    exact ⟨by rw [← HE.out]; rfl, rfl⟩
  · have HE := Lib.hid (show n * 2 = (zz n : Nat) by unfold zz; rw [if_neg h]; omega)
    go_enter Try.func48, Try.ntmps48
    go_wp2
    go_ret
    exact ⟨by rw [← HE.out]; rfl, rfl⟩
theorem and_one_nat (z : Nat) (hz : z < 18446744073709551616) : bits .and .u64 (z : Int) 1 = ((z % 2 : Nat) : Int) := by
  have := u64_and_nat z 1 hz (by decide)
  rw [Nat.and_one_is_mod] at this
  exact this
theorem dunzig_any (z : Nat) (w : World) (hz : z < 18446744073709551616) :
    Calls Try.prog 57 #[.int .u64 z] w fun e w' => e = .returned (.int .i64 (unzz z)) ∧ w = w' := by
  by_cases h : z % 2 = 1
  · have hb : (bits .and .u64 (z : Int) 1 == 1) = true := by rw [and_one_nat z hz, h]; rfl
    have HE := Lib.hid (show bits .xor .i64 (-1) ((z : Int) / 2) = unzz z by
      have e : (z : Int) / 2 = ((z / 2 : Nat) : Int) := by omega
      rw [e, i64_not _ (by omega)]
      unfold unzz
      rw [if_pos h]
      omega)
    clear h
    go_enter Try.func57, Try.ntmps57
    go_wp2
    go_ret
    exact ⟨by rw [← HE.out]; rfl, rfl⟩
  · have hb : (bits .and .u64 (z : Int) 1 == 1) = false := by rw [and_one_nat z hz, show z % 2 = 0 by omega]; rfl
    have HE := Lib.hid (show ((z : Int) / 2) = unzz z by unfold unzz; rw [if_neg h]; omega)
    clear h
    go_enter Try.func57, Try.ntmps57
    go_wp2
    go_ret
    exact ⟨by rw [← HE.out]; rfl, rfl⟩
/-- block g holds the writer of bs; what is its own lies from B on -/
def WtrAt (w : World) (B g : Nat) (bs : List Int) : Prop :=
  B ≤ g ∧ ∃ v, w.heap[g]? = some (.cells #[v] 49 (0, 0)) ∧ w.ownsRow B 5 1 v bs.length (bs.map (Value.int .u8))
theorem wtr_put {w W1 w5 : World} {B g : Nat} {v v' : Value} {bs m : List Int} (hBg : B ≤ g) (hk : w.heap[g]? = some (.cells #[v] 49 (0, 0))) (hrow : w.ownsRow B 5 1 v bs.length (bs.map (Value.int .u8)))
    (hb : Below w.heap.size w W1) (hgrow : W1.grownBy w5 v.ownBlock) (hown : w5.ownsRow B 5 1 v' (bs.length + m.length) (bs.map (Value.int .u8) ++ m.map (Value.int .u8))) :
    WtrAt (w5.setCell ⟨g, 0, none⟩ v') B g (bs ++ m) ∧ Below B w (w5.setCell ⟨g, 0, none⟩ v') := by
  have hg : g < w.heap.size := (Array.getElem?_eq_some_iff.1 hk).1
  have hne := blk_not_row hk (by decide) hrow
  have hk5 : w5.heap[g]? = some (.cells #[v] 49 (0, 0)) := ((hgrow.block g (Nat.lt_of_lt_of_le hg hb.size) hne).trans (hb.block g hg)).trans hk
  refine ⟨⟨hBg, v', blk_set hk5 v', ?_⟩, ?_⟩
  · rw [List.map_append, List.length_append]
    exact hown.kept (grown_set _ _ _ _) (.inr (blk_not_row hk5 (by decide) hown).symm)
  · exact ((hb.mono (by omega : B ≤ w.heap.size)).grown hgrow (by have := hb.size; omega) (fun j ej => (hrow.lt j ej).1)).setCell (p := ⟨g, 0, none⟩) hBg _
theorem wtr_far {w W1 w5 : World} {B g : Nat} {v : Value} {bs : List Int} (hk : w.heap[g]? = some (.cells #[v] 49 (0, 0))) (hrow : w.ownsRow B 5 1 v bs.length (bs.map (Value.int .u8)))
    (hb : Below w.heap.size w W1) (hgrow : W1.grownBy w5 v.ownBlock) : w5.cell? ⟨g, 0, none⟩ = some v ∧ w5.frozen? ⟨g, 0, none⟩ = false := by
  have hg : g < w.heap.size := (Array.getElem?_eq_some_iff.1 hk).1
  have hne := blk_not_row hk (by decide) hrow
  have hk5 : w5.heap[g]? = some (.cells #[v] 49 (0, 0)) := ((hgrow.block g (Nat.lt_of_lt_of_le hg hb.size) hne).trans (hb.block g hg)).trans hk
  exact ⟨by simp [World.cell?, hk5], by simp [World.frozen?, hk5]⟩
theorem wtr_cells {w : World} {B g : Nat} {bs : List Int} (h : WtrAt w B g bs) : ∃ v, B ≤ g ∧ g < w.heap.size ∧ w.cell? ⟨g, 0, none⟩ = some v ∧ w.frozen? ⟨g, 0, none⟩ = false ∧ Hid (w.heap[g]? = some (.cells #[v] 49 (0, 0))) ∧ w.ownsRow B 5 1 v bs.length (bs.map (Value.int .u8)) := by
  obtain ⟨hBg, v, hk, hrow⟩ := h
  exact ⟨v, hBg, (Array.getElem?_eq_some_iff.1 hk).1, by simp [World.cell?, hk], by simp [World.frozen?, hk], Lib.hid hk, hrow⟩
/-- what a writer's method leaves -/
def WtrPost (w : World) (B g : Nat) (bs : List Int) (e : Ending) (w' : World) : Prop := e = .returned (.tuple #[]) ∧ WtrAt w' B g bs ∧ Below B w w'
theorem own_slice {w : World} {base : Nat} {e : TypeId} {size n : Nat} {v : Value} {xs : List Value} (h : w.ownsRow base e size v n xs) : ∃ A c, v = .slice A n c := by
  rcases h.2 with ⟨rfl, h0⟩ | ⟨g, cap, cur, rfl, _⟩
  · exact ⟨none, 0, by rw [h0]⟩
  · exact ⟨_, _, rfl⟩
theorem or_128 (a : Nat) (h : a < 256) : a ||| 128 = 128 + a % 128 := by
  have : ∀ a : Fin 256, a.val ||| 128 = 128 + a.val % 128 := by decide +kernel
  exact this ⟨a, h⟩
theorem byte_more (m : Nat) : bits .or .u8 (IntKind.u8.wrap m) 128 = 128 + (m : Int) % 128 := by
  rw [wrap_u8, show (m : Int) % 256 = ((m % 256 : Nat) : Int) by omega]
  have := u8_or_nat (m % 256) 128 (by omega) (by decide)
  rw [or_128 _ (by omega)] at this
  rw [show (128 : Int) = ((128 : Nat) : Int) from rfl, this]
  omega
set_option maxRecDepth 100000 in
set_option maxHeartbeats 1000000 in
theorem dUint_any (n B g : Nat) (bs : List Int) (w : World) (h : WtrAt w B g bs) (hl : bs.length ≤ 1000000) (hn : n < 18446744073709551616) :
    Calls Try.prog 21 #[.pointer (some ⟨g, 0, none⟩), .int .u64 n] w (WtrPost w B g (bs ++ uv n)) := by
  obtain ⟨i0, hi, hz0, hz1, hz2⟩ := info_parts info_u8
  have hlen := uv_length_64 hn
  have hBg0 := h.1
  have HN := Lib.hid hn
  clear hn
  go_enter Try.func21, Try.ntmps21
  go_wp2
  go_loopw [1] (fun x wr => ∃ (m : Nat) (pre : List Int), m ≤ n ∧ x = .int .u64 m ∧ Hid (pre ++ uv m = uv n) ∧ WtrAt wr B g (bs ++ pre) ∧ Below B w wr) (fun x _ => (intOf x).toNat)
  case atStart => exact ⟨n, [], Nat.le_refl _, rfl, Lib.hid rfl, by rw [List.append_nil]; exact h, Below.refl _ _⟩
  case round =>
    clear h
    obtain ⟨m, pre, hm, rfl, hp, hwt, hW⟩ := hrel
    obtain ⟨v, hBg, hg, hc, hf, HK, hrow⟩ := wtr_cells hwt
    have hpl : pre.length + (uv m).length ≤ 10 := by
      have := congrArg List.length hp.out
      rw [List.length_append] at this
      omega
    have hul := uv_pos m
    have hp10 : (bs ++ pre).length ≤ 1000010 := by rw [List.length_append]; omega
    clear hpl hul hwt
    obtain ⟨q, hq⟩ : ∃ q, q = bs ++ pre := ⟨_, rfl⟩
    rw [← hq] at hp10 hrow
    have HQ := Lib.hid hq
    clear hq
    by_cases hlt : m < 128
    · have he := Lib.hid (show bs ++ uv n = q ++ [(m : Int)] by rw [← hp.out, uv_lt hlt, HQ.out, List.append_assoc])
      go_wp2_with (at_builtin; refine wpList_append_own _ rfl (.tmp 24) (.tmp 27) 24 rfl B 5 i0 (.int .u8 0) 1 1 Try.underlying24 hi hz0 hz1 hz2 rfl (by decide) _ q.length _ rfl (hrow.alloc _) ⟨wr.heap.size, 0, none⟩ 1 1 [.int .u8 (m : Int)] rfl rfl (cell_one_new _ _ _) (by simp [Value.oneCell']) (by unfold maxLen; omega) (by omega) (by simp; omega) ?_; intro v' w2 hown' hgrow _; obtain ⟨c5, f5⟩ := wtr_far HK.out hrow ((Below.refl _ wr).alloc (Nat.le_refl _) _) hgrow; obtain ⟨A', c', rfl⟩ := own_slice hown')
      go_end0
      obtain ⟨r1, r2⟩ := wtr_put (m := [(m : Int)]) hBg HK.out hrow ((Below.refl _ wr).alloc (Nat.le_refl _) _) hgrow hown'
      exact ⟨rfl, by rw [he.out]; exact r1, hW.trans r2⟩
    · have hm57 : (m : Int) / 128 ≤ 200000000000000000 := by have := HN.out; omega
      have he := Lib.hid (show (pre ++ [(128 + (m : Int) % 128)]) ++ uv (m / 128) = uv n by rw [← hp.out, uv_ge (n := m) (by omega), List.append_assoc]; rfl)
      have HB := Lib.hid (byte_more m)
      go_wp2_with (at_builtin; refine wpList_append_own _ rfl (.tmp 12) (.tmp 16) 24 rfl B 5 i0 (.int .u8 0) 1 1 Try.underlying24 hi hz0 hz1 hz2 rfl (by decide) _ q.length _ rfl (hrow.alloc _) ⟨wr.heap.size, 0, none⟩ 1 1 [.int .u8 (bits .or .u8 (IntKind.u8.wrap m) 128)] rfl rfl (cell_one_new _ _ _) (by simp [Value.oneCell']) (by unfold maxLen; omega) (by omega) (by simp; omega) ?_; intro v' w2 hown' hgrow _; obtain ⟨c5, f5⟩ := wtr_far HK.out hrow ((Below.refl _ wr).alloc (Nat.le_refl _) _) hgrow; obtain ⟨A', c', rfl⟩ := own_slice hown')
      go_roundw
      case rel =>
        obtain ⟨r1, r2⟩ := wtr_put (m := [bits .or .u8 (IntKind.u8.wrap m) 128]) hBg HK.out hrow ((Below.refl _ wr).alloc (Nat.le_refl _) _) hgrow hown'
        have e2 : q ++ [bits .or .u8 (IntKind.u8.wrap m) 128] = bs ++ (pre ++ [(128 + (m : Int) % 128)]) := by rw [HB.out, HQ.out, List.append_assoc]
        rw [e2] at r1
        exact ⟨m / 128, pre ++ [(128 + (m : Int) % 128)], by omega, by congr 1 <;> omega, he, r1, hW.trans r2⟩
      case measure => simp [intOf]; omega
end Go.Proofs.Ytkffpfnmjadpaaa
