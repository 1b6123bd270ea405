/-
  THE WALK of the law on the sizes of varints (P2.1, P2.8).
-/
import Derived.Test.YtebfgdonikedaaaLivesW
namespace Go.Proofs.Ytebfgdonikedaaa
open Go.RowKit

theorem wtr_below {W W' : World} {B g : Nat} {bs : List Int} (h : WtrAt W B g bs) (hb : Below W.heap.size W W') : WtrAt W' B g bs := by
  obtain ⟨hBg, v, hk, hrow⟩ := h
  have hg : g < W.heap.size := (Array.getElem?_eq_some_iff.1 hk).1
  exact ⟨hBg, v, (hb.block g hg).trans hk, own_below hrow hb⟩
theorem wtr_new (w : World) : WtrAt (w.alloc (.cells #[.slice none 0 0] 32)) w.heap.size w.heap.size [] := ⟨Nat.le_refl _, _, heap_alloc_new w _, World.ownsRow_nil _ _ _ _⟩
theorem new_below (w : World) (o : Obj) : Below w.heap.size w (w.alloc o) := (Below.refl _ w).alloc (Nat.le_refl _) _

theorem Bound_63 (n : Int) (hn : I64 n) : ∃ m : Int, -63 ≤ m ∧ m ≤ 63 ∧ ∀ w : World, Calls Try.prog 28 #[.int .i64 n, .int .i64 63] w fun e w' => e = .returned (.int .i64 m) ∧ w = w' := by
  have hb := aroundI_bounds (n := n) (most := 127) (by decide)
  refine ⟨aroundI n 127 - 63, by omega, by omega, fun w => ?_⟩
  have hA := Around_any n 127 w hn (by decide) (by decide)
  generalize aroundI n 127 = a at hb hA
  obtain ⟨hb0, hb1⟩ := hb
  go_enter Try.func28, Try.ntmps28
  go_wp2_with (go_at_call 19; refine hA.mono ?_; clear hA; rintro e w' ⟨rfl, rfl⟩)
  go_ret
  exact ⟨rfl, rfl⟩

/-- how many bytes a rest takes: none if it is 0 -/
def restLen (r : Nat) : Nat := if r = 0 then 0 else (uv r).length
theorem uv_rest (k : Nat) : (uv k).length = 1 + restLen (k / 128) := by
  unfold restLen
  by_cases h : k < 128
  · rw [uv_lt h, if_pos (by omega)]; rfl
  · rw [uv_ge (by omega), if_neg (by omega), List.length_cons, Nat.add_comm]
theorem rest_step (r : Nat) (h : 0 < r) : restLen r = 1 + restLen (r / 128) := by
  have := uv_rest r
  unfold restLen at this ⊢
  rw [if_neg (by omega)]
  exact this
theorem rest_le (r : Nat) (h : r < 18446744073709551616) : restLen r ≤ 10 := by
  unfold restLen
  split
  · omega
  · exact uv_length_64 h

theorem zz_small {m : Int} (h1 : -63 ≤ m) (h2 : m ≤ 63) : (uv (zz m)).length = 1 := by
  rw [uv_lt (by unfold zz; split <;> omega)]; rfl
theorem rest_zero : restLen 0 = 0 := rfl
theorem shr_nat {u a : Int} (hu : U64 u) : ∃ k : Nat, u / 2 ^ a.toNat = (k : Int) ∧ k < 18446744073709551616 := by
  unfold U64 at hu
  have hp : (0 : Int) < 2 ^ a.toNat := Int.pow_pos (by decide)
  have h1 : 0 ≤ u / 2 ^ a.toNat := Int.ediv_nonneg hu.1 (Int.le_of_lt hp)
  have h2 : u / 2 ^ a.toNat ≤ u := Int.ediv_le_self _ hu.1
  refine ⟨(u / 2 ^ a.toNat).toNat, by omega, by omega⟩
set_option maxRecDepth 100000 in
set_option maxHeartbeats 2000000 in
theorem sizes_any (u n s : Int) (w : World) (hu : U64 u) (hn : I64 n) (hs : I64 s) :
    Calls Try.prog 8 #[.int .u64 u, .int .i64 n, .int .i64 s] w (TruePost w) := by
  have hab := aroundI_bounds (n := s) (most := 64) (by decide)
  have hA := Around_any s 64 w hs (by decide) (by decide)
  generalize aroundI s 64 = a at hab hA
  obtain ⟨ha0, ha1⟩ := hab
  obtain ⟨k, hk, hk64⟩ := shr_nat (a := a) hu
  have hk57 : (k : Int) / 128 ≤ 200000000000000000 := by omega
  have HK := Lib.hid hk64
  have hul := uv_length_64 hk64
  have h0 := Lib.hid (uv_rest k)
  obtain ⟨m, hm1, hm2, hBm⟩ := Bound_63 n hn
  clear hk64 hu hs hn
  go_enter Try.func8, Try.ntmps8
  go_wp2_with (go_at_call 19; refine hA.mono ?_; clear hA; rintro e w' ⟨rfl, rfl⟩)
  clear hk
  go_loop [8, 9] (fun s r => ∃ c q : Nat, c ≤ 10 ∧ q ≤ 200000000000000000 ∧ Hid ((uv k).length = c + restLen q) ∧ s = .int .i64 c ∧ r = .int .u64 q) (fun _ r => (intOf r).toNat)
  case atStart => exact ⟨1, k / 128, by omega, by omega, h0, rfl, by congr 1 <;> omega⟩
  case round =>
    obtain ⟨c, q, hc, hq, hL, rfl, rfl⟩ := hrel
    by_cases hpos : 0 < q
    · have hst := rest_step q hpos
      have h1 := Lib.hid (show (uv k).length = (c + 1) + restLen (q / 128) by rw [hL.out, hst]; omega)
      have hc2 : c + 1 ≤ 10 := by have := h1.out; omega
      clear hst
      go_wp2
      go_round
      case rel => exact ⟨c + 1, q / 128, hc2, by omega, h1, by go_num, by congr 1 <;> omega⟩
      case measure => simp [intOf]; omega
    · obtain rfl : q = 0 := by omega
      have hL2 := Lib.hid (show (uv k).length = c from hL.out)
      have hlk := hL2.out
      have hU := dUint_any k w.heap.size w.heap.size [] _ (wtr_new w) (by decide) HK.out
      have hX1 := fun W => dInt_any m W.heap.size W.heap.size [] _ (wtr_new W) (by decide) (by omega) (by omega)
      have hz1 := zz_small hm1 hm2
      have hz2 := zz_small (m := -m) (by omega) (by omega)
      have hX2 := fun W B g (h : WtrAt W B g ([] ++ uv (zz m))) => dInt_any (-m) B g _ W h (by simp [hz1]) (by omega) (by omega)
      have hX3 := fun W B g b (h : WtrAt W B g ([] ++ uv (zz m) ++ uv (zz (-m)))) => dBool_any b B g _ W h (by simp [hz1, hz2])
      have hX4 := fun W B g b (h : WtrAt W B g ([] ++ uv (zz m) ++ uv (zz (-m)) ++ bool1 b)) => dDone_any B g _ W h (by simp [hz1, hz2, bool1])
      have b3 : ∀ b, ((([] ++ uv (zz m) ++ uv (zz (-m)) ++ bool1 b).length : Int) == 3) = true := fun b => by simp [hz1, hz2, bool1]
      have b1 : ((([] ++ uv k).length : Int) == (c : Int)) = true := by simp [hlk]
      have hW := fun W (h : WtrAt W w.heap.size w.heap.size ([] ++ uv k)) => dDone_any _ _ _ W h (by simp; omega)
      generalize hpp : [] ++ uv k = p at hU b1 hW
      generalize hq1 : [] ++ uv (zz m) = q1 at hX1 hX2 hX3 hX4 b3
      generalize hq2 : q1 ++ uv (zz (-m)) = q2 at hX2 hX3 hX4 b3
      have hq3 := fun b => (⟨q2 ++ bool1 b, rfl⟩ : ∃ q3, q2 ++ bool1 b = q3)
      clear hL hL2 hlk hz1 hz2 hpp hq1 hq2 h0 hul HK
      go_wp2_with (first
        | (go_at_call 27; refine hU.mono ?_; clear hU; rintro e w1 ⟨rfl, hw1, hb1⟩)
        | (go_at_call 28; refine (hBm _).mono ?_; clear hBm; rintro e w' ⟨rfl, rfl⟩)
        | (go_at_call 29; refine (hX1 w1).mono ?_; clear hX1; rintro e w2 ⟨rfl, hx2, hb2⟩)
        | (go_at_call 29; refine (hX2 _ _ _ hx2).mono ?_; clear hX2; rintro e w3 ⟨rfl, hx3, hb3⟩)
        | (go_at_call 30; refine (hX3 _ _ _ _ hx3).mono ?_; clear hX3; rintro e w4 ⟨rfl, hx4', hb4⟩; have hB4 := Lib.hid ((((new_below w1 _).trans hb2).trans hb3).trans hb4); have hw4 := wtr_below hw1 hB4.out; obtain ⟨q3, h4, b4, hx4⟩ : ∃ q3 : List Int, (∀ W, WtrAt W w1.heap.size w1.heap.size q3 → Calls Try.prog 16 #[.pointer (some ⟨w1.heap.size, 0, none⟩)] W fun e w' => GivesRow W.heap.size W 5 .u8 q3 e w') ∧ ((q3.length : Int) == 3) = true ∧ WtrAt w4 w1.heap.size w1.heap.size q3 := ⟨_, fun W h => hX4 W _ _ _ h, b3 _, hx4'⟩; clear hX4 b3 hq3 hx4')
        | (go_at_call 16; refine (hW _ hw4).mono ?_; clear hW; rintro e w5 ⟨A5, c5, rfl, hc5, hrow5, hb5⟩; have hx5 := wtr_below hx4 hb5)
        | (go_at_call 16; refine (h4 _ hx5).mono ?_; clear h4; rintro e w6 ⟨A6, c6, rfl, hc6, hrow6, hb6⟩)
        | (go_at_call 18; refine (livesW_any _).mono ?_; rintro e w7 ⟨rfl, hb7⟩))
      go_ret
      refine ⟨rfl, ?_⟩
      have s1 := hb1.size
      have s4 := hB4.out.size
      have s5 := hb5.size
      have s6 := hb6.size
      have s0 : w.heap.size ≤ (w.alloc (.cells #[.slice none 0 0] 32)).heap.size := by simp
      have d1 := (new_below w _).trans hb1
      have d4 := d1.trans (hB4.out.mono (by omega : w.heap.size ≤ w1.heap.size))
      have d5 := d4.trans (hb5.mono (by omega : w.heap.size ≤ w4.heap.size))
      have d6 := d5.trans (hb6.mono (by omega : w.heap.size ≤ w5.heap.size))
      exact d6.trans (hb7.mono (by omega : w.heap.size ≤ w6.heap.size))
end Go.Proofs.Ytebfgdonikedaaa
