/-
  THE WALK of the law on the ring (P3.5).
-/
import Derived.Test.YtcpjchfgiogmeaaBitsLaw
namespace Go.Proofs.Ytcpjchfgiogmeaa
open Go.RowKit

def RingLoop (w : World) (g : Nat) (wr : World) : Prop := Below w.heap.size w wr ∧ w.heap.size ≤ g ∧ g < wr.heap.size ∧ wr.cell? ⟨g, 0, none⟩ = some (.int .i64 9) ∧ wr.cell? ⟨g, 1, none⟩ = some (.int .i64 10)
theorem ring_on {w wr w' : World} {g : Nat} (h : RingLoop w g wr) (hb : Below wr.heap.size wr w') : RingLoop w g w' := by
  obtain ⟨h1, h2, h3, h4, h5⟩ := h
  exact ⟨h1.trans (hb.mono h1.size), h2, Nat.lt_of_lt_of_le h3 hb.size, (hb.cell (p := ⟨g, 0, none⟩) h3).trans h4, (hb.cell (p := ⟨g, 1, none⟩) h3).trans h5⟩
theorem ring_new {w W : World} (h : Below w.heap.size w W) : RingLoop w W.heap.size (W.alloc (.cells #[.int .i64 9, .int .i64 10] 3)) :=
  ⟨h.alloc h.size _, h.size, by simp, by rw [World.cell?_alloc_mark]; rfl, by rw [World.cell?_alloc_mark]; rfl⟩
set_option maxRecDepth 100000 in
set_option maxHeartbeats 8000000 in
theorem ring_walk (n u v t a b c x d y p e z l q ng nt : Nat) (nn : Int) (w : World)
    (cW : ∀ W, Calls Try.prog 11 #[.int .i64 nn] W (GivesV W (.int .i64 n)))
    (cA : ∀ W, Calls Try.prog 12 #[.int .u64 u, .int .i64 n] W (GivesV W (.int .u64 a)))
    (cB : ∀ W, Calls Try.prog 12 #[.int .u64 v, .int .i64 n] W (GivesV W (.int .u64 b)))
    (cC : ∀ W, Calls Try.prog 12 #[.int .u64 t, .int .i64 n] W (GivesV W (.int .u64 c)))
    (r91 : ∀ W, Calls Try.prog 15 #[.int .i64 9, .int .u64 a, .int .u64 b, .int .i64 n] W (GivesV W (.tuple #[.int .u64 x, .int .i64 0])))
    (r92 : ∀ W, Calls Try.prog 15 #[.int .i64 9, .int .u64 b, .int .u64 a, .int .i64 n] W (GivesV W (.tuple #[.int .u64 x, .int .i64 0])))
    (r93 : ∀ W, Calls Try.prog 15 #[.int .i64 9, .int .u64 b, .int .u64 c, .int .i64 n] W (GivesV W (.tuple #[.int .u64 d, .int .i64 0])))
    (r94 : ∀ W, Calls Try.prog 15 #[.int .i64 9, .int .u64 x, .int .u64 c, .int .i64 n] W (GivesV W (.tuple #[.int .u64 y, .int .i64 0])))
    (r95 : ∀ W, Calls Try.prog 15 #[.int .i64 9, .int .u64 a, .int .u64 d, .int .i64 n] W (GivesV W (.tuple #[.int .u64 y, .int .i64 0])))
    (r101 : ∀ W, Calls Try.prog 15 #[.int .i64 10, .int .u64 a, .int .u64 b, .int .i64 n] W (GivesV W (.tuple #[.int .u64 p, .int .i64 0])))
    (r102 : ∀ W, Calls Try.prog 15 #[.int .i64 10, .int .u64 b, .int .u64 a, .int .i64 n] W (GivesV W (.tuple #[.int .u64 p, .int .i64 0])))
    (r103 : ∀ W, Calls Try.prog 15 #[.int .i64 10, .int .u64 b, .int .u64 c, .int .i64 n] W (GivesV W (.tuple #[.int .u64 e, .int .i64 0])))
    (r104 : ∀ W, Calls Try.prog 15 #[.int .i64 10, .int .u64 p, .int .u64 c, .int .i64 n] W (GivesV W (.tuple #[.int .u64 z, .int .i64 0])))
    (r105 : ∀ W, Calls Try.prog 15 #[.int .i64 10, .int .u64 a, .int .u64 e, .int .i64 n] W (GivesV W (.tuple #[.int .u64 z, .int .i64 0])))
    (s1 : ∀ W, Calls Try.prog 15 #[.int .i64 9, .int .u64 b, .int .u64 c, .int .i64 n] W (GivesV W (.tuple #[.int .u64 d, .int .i64 0])))
    (s2 : ∀ W, Calls Try.prog 15 #[.int .i64 10, .int .u64 a, .int .u64 d, .int .i64 n] W (GivesV W (.tuple #[.int .u64 l, .int .i64 0])))
    (s3 : ∀ W, Calls Try.prog 15 #[.int .i64 10, .int .u64 a, .int .u64 b, .int .i64 n] W (GivesV W (.tuple #[.int .u64 p, .int .i64 0])))
    (s4 : ∀ W, Calls Try.prog 15 #[.int .i64 10, .int .u64 a, .int .u64 c, .int .i64 n] W (GivesV W (.tuple #[.int .u64 q, .int .i64 0])))
    (s5 : ∀ W, Calls Try.prog 15 #[.int .i64 9, .int .u64 p, .int .u64 q, .int .i64 n] W (GivesV W (.tuple #[.int .u64 l, .int .i64 0])))
    (s6 : ∀ W, Calls Try.prog 17 #[.int .i64 5, .int .u64 a, .int .i64 n] W (GivesV W (.tuple #[.int .u64 ng, .int .i64 0])))
    (s7 : ∀ W, Calls Try.prog 17 #[.int .i64 4, .int .u64 a, .int .i64 n] W (GivesV W (.tuple #[.int .u64 nt, .int .i64 0])))
    (s8 : ∀ W, Calls Try.prog 15 #[.int .i64 9, .int .u64 nt, .int .u64 1, .int .i64 n] W (GivesV W (.tuple #[.int .u64 ng, .int .i64 0])))
    (s9 : ∀ W, Calls Try.prog 15 #[.int .i64 9, .int .u64 a, .int .u64 ng, .int .i64 n] W (GivesV W (.tuple #[.int .u64 0, .int .i64 0])))
    : Calls Try.prog 6 #[.int .i64 nn, .int .u64 u, .int .u64 v, .int .u64 t] w (TruePost w) := by
  go_enter Try.func6, Try.ntmps6
  go_wp2_with (first
    | (go_at_call 11; refine (cW _).mono ?_; clear cW; rintro e w1 ⟨rfl, hb1⟩)
    | (go_at_call 12; refine (cA _).mono ?_; clear cA; rintro e w2 ⟨rfl, hb2⟩)
    | (go_at_call 12; refine (cB _).mono ?_; clear cB; rintro e w3 ⟨rfl, hb3⟩)
    | (go_at_call 12; refine (cC _).mono ?_; clear cC; rintro e w4 ⟨rfl, hb4⟩))
  have d1 := hb1
  have d2 := d1.trans (hb2.mono d1.size)
  have d3 := d2.trans (hb3.mono d2.size)
  have d4 := d3.trans (hb4.mono d3.size)
  have hL := ring_new d4
  clear d1 d2 d3 d4 hb1 hb2 hb3 hb4
  generalize hg : w4.heap.size = g at hL
  try rw [hg]
  go_loopw [14] (fun i wr => ∃ k : Nat, k ≤ 2 ∧ i = .int .i64 k ∧ RingLoop w g wr) (fun i _ => 2 - (intOf i).toNat)
  case atStart => exact ⟨0, by omega, rfl, hL⟩
  case round =>
    clear hL hg
    obtain ⟨k, hk, rfl, hr⟩ := hrel
    have hk3 : k = 0 ∨ k = 1 ∨ k = 2 := by omega
    have hc0 := hr.2.2.2.1
    have hc1 := hr.2.2.2.2
    rcases hk3 with rfl | rfl | rfl
    · go_wp2_with (first
        | (go_at_call 15; refine (r91 _).mono ?_; clear r91; rintro e v1 ⟨rfl, hb⟩; have hr1 := ring_on hr hb; have hx1 := hr1.2.2.2.1; clear hb)
        | (go_at_call 15; refine (r92 _).mono ?_; clear r92; rintro e v2 ⟨rfl, hb⟩; have hr2 := ring_on hr1 hb; have hx2 := hr2.2.2.2.1; clear hb)
        | (go_at_call 15; refine (r93 _).mono ?_; clear r93; rintro e v3 ⟨rfl, hb⟩; have hr3 := ring_on hr2 hb; have hx3 := hr3.2.2.2.1; clear hb)
        | (go_at_call 15; refine (r94 _).mono ?_; clear r94; rintro e v4 ⟨rfl, hb⟩; have hr4 := ring_on hr3 hb; have hx4 := hr4.2.2.2.1; clear hb)
        | (go_at_call 15; refine (r95 _).mono ?_; clear r95; rintro e v5 ⟨rfl, hb⟩; have hr5 := ring_on hr4 hb; have hx5 := hr5.2.2.2.1; clear hb))
      go_roundw
      case rel => exact ⟨1, by omega, rfl, hr5⟩
      case measure => simp [intOf]
    · go_wp2_with (first
        | (go_at_call 15; refine (r101 _).mono ?_; clear r101; rintro e v1 ⟨rfl, hb⟩; have hr1 := ring_on hr hb; have hx1 := hr1.2.2.2.2; clear hb)
        | (go_at_call 15; refine (r102 _).mono ?_; clear r102; rintro e v2 ⟨rfl, hb⟩; have hr2 := ring_on hr1 hb; have hx2 := hr2.2.2.2.2; clear hb)
        | (go_at_call 15; refine (r103 _).mono ?_; clear r103; rintro e v3 ⟨rfl, hb⟩; have hr3 := ring_on hr2 hb; have hx3 := hr3.2.2.2.2; clear hb)
        | (go_at_call 15; refine (r104 _).mono ?_; clear r104; rintro e v4 ⟨rfl, hb⟩; have hr4 := ring_on hr3 hb; have hx4 := hr4.2.2.2.2; clear hb)
        | (go_at_call 15; refine (r105 _).mono ?_; clear r105; rintro e v5 ⟨rfl, hb⟩; have hr5 := ring_on hr4 hb; have hx5 := hr5.2.2.2.2; clear hb))
      go_roundw
      case rel => exact ⟨2, by omega, rfl, hr5⟩
      case measure => simp [intOf]
    · have h0 := hr.1
      clear hr hc0 hc1
      go_wp2_with (first
        | (go_at_call 15; refine (s1 _).mono ?_; clear s1; rintro e w1 ⟨rfl, hb1⟩)
        | (go_at_call 15; refine (s2 _).mono ?_; clear s2; rintro e w2 ⟨rfl, hb2⟩)
        | (go_at_call 15; refine (s3 _).mono ?_; clear s3; rintro e w3 ⟨rfl, hb3⟩)
        | (go_at_call 15; refine (s4 _).mono ?_; clear s4; rintro e w4 ⟨rfl, hb4⟩)
        | (go_at_call 15; refine (s5 _).mono ?_; clear s5; rintro e w5 ⟨rfl, hb5⟩)
        | (go_at_call 17; refine (s6 _).mono ?_; clear s6; rintro e w6 ⟨rfl, hb6⟩)
        | (go_at_call 17; refine (s7 _).mono ?_; clear s7; rintro e w7 ⟨rfl, hb7⟩)
        | (go_at_call 15; refine (s8 _).mono ?_; clear s8; rintro e w8 ⟨rfl, hb8⟩)
        | (go_at_call 15; refine (s9 _).mono ?_; clear s9; rintro e w9 ⟨rfl, hb9⟩)
        | (go_at_call 19; refine (livesB_any _).mono ?_; rintro e w10 ⟨rfl, hb10⟩))
      go_ret
      have d1 := h0.trans (hb1.mono h0.size)
      have d2 := d1.trans (hb2.mono d1.size)
      have d3 := d2.trans (hb3.mono d2.size)
      have d4 := d3.trans (hb4.mono d3.size)
      have d5 := d4.trans (hb5.mono d4.size)
      have d6 := d5.trans (hb6.mono d5.size)
      have d7 := d6.trans (hb7.mono d6.size)
      have d8 := d7.trans (hb8.mono d7.size)
      have d9 := d8.trans (hb9.mono d8.size)
      have d10 := d9.trans (hb10.mono d9.size)
      exact ⟨rfl, d10⟩
theorem ring_any (nn : Int) (u v t : Nat) (w : World) (hn : I64 nn) (hu : u < 18446744073709551616) (hv : v < 18446744073709551616) (ht : t < 18446744073709551616) :
    Calls Try.prog 6 #[.int .i64 nn, .int .u64 u, .int .u64 v, .int .u64 t] w (TruePost w) := by
  obtain ⟨n, h1, h64, cW⟩ := bWidth_any nn hn
  obtain ⟨a, ha, cA⟩ := bValue_any u n hu h1 h64
  obtain ⟨b, hb, cB⟩ := bValue_any v n hv h1 h64
  obtain ⟨c, hc, cC⟩ := bValue_any t n ht h1 h64
  have hp := ppos n
  have hl : ∀ x, x % 2 ^ n < 2 ^ n := fun x => Nat.mod_lt _ hp
  have h1n := one_lt h1
  have hnot : unN 4 n a < 2 ^ n := unN_lt ha
  have hneg : unN 5 n a < 2 ^ n := unN_lt ha
  have en : unN 4 n a = 2 ^ n - 1 - a := rfl
  have eg : unN 5 n a = (2 ^ n - a) % 2 ^ n := rfl
  exact ring_walk n u v t a b c ((a + b) % 2 ^ n) ((b + c) % 2 ^ n) ((a + b + c) % 2 ^ n) (a * b % 2 ^ n) (b * c % 2 ^ n) (a * b * c % 2 ^ n) (a * (b + c) % 2 ^ n) (a * c % 2 ^ n) (unN 5 n a) (unN 4 n a) nn w cW cA cB cC
    (bin_ok 9 n a b _ h1 h64 ha hb (by decide) (by decide) rfl)
    (bin_ok 9 n b a _ h1 h64 hb ha (by decide) (by decide) (by show (b + a) % 2 ^ n = _; rw [Nat.add_comm]))
    (bin_ok 9 n b c _ h1 h64 hb hc (by decide) (by decide) rfl)
    (bin_ok 9 n _ c _ h1 h64 (hl _) hc (by decide) (by decide) (by show ((a + b) % 2 ^ n + c) % 2 ^ n = _; rw [Nat.mod_add_mod]))
    (bin_ok 9 n a _ _ h1 h64 ha (hl _) (by decide) (by decide) (by show (a + (b + c) % 2 ^ n) % 2 ^ n = _; rw [Nat.add_mod_mod, Nat.add_assoc]))
    (bin_ok 10 n a b _ h1 h64 ha hb (by decide) (by decide) rfl)
    (bin_ok 10 n b a _ h1 h64 hb ha (by decide) (by decide) (by show b * a % 2 ^ n = _; rw [Nat.mul_comm]))
    (bin_ok 10 n b c _ h1 h64 hb hc (by decide) (by decide) rfl)
    (bin_ok 10 n _ c _ h1 h64 (hl _) hc (by decide) (by decide) (by show (a * b % 2 ^ n) * c % 2 ^ n = _; rw [Nat.mod_mul_mod]))
    (bin_ok 10 n a _ _ h1 h64 ha (hl _) (by decide) (by decide) (by show a * (b * c % 2 ^ n) % 2 ^ n = _; rw [Nat.mul_mod_mod, Nat.mul_assoc]))
    (bin_ok 9 n b c _ h1 h64 hb hc (by decide) (by decide) rfl)
    (bin_ok 10 n a _ _ h1 h64 ha (hl _) (by decide) (by decide) (by show a * ((b + c) % 2 ^ n) % 2 ^ n = _; rw [Nat.mul_mod_mod]))
    (bin_ok 10 n a b _ h1 h64 ha hb (by decide) (by decide) rfl)
    (bin_ok 10 n a c _ h1 h64 ha hc (by decide) (by decide) rfl)
    (bin_ok 9 n _ _ _ h1 h64 (hl _) (hl _) (by decide) (by decide) (by show (a * b % 2 ^ n + a * c % 2 ^ n) % 2 ^ n = _; rw [← Nat.add_mod, Nat.mul_add]))
    (un_ok 5 n a _ h1 h64 ha (.inr rfl) rfl)
    (un_ok 4 n a _ h1 h64 ha (.inl rfl) rfl)
    (bin_ok 9 n _ 1 _ h1 h64 hnot h1n (by decide) (by decide) (by show (unN 4 n a + 1) % 2 ^ n = _; rw [en, eg]; congr 1; omega))
    (bin_ok 9 n a _ _ h1 h64 ha hneg (by decide) (by decide) (by show (a + unN 5 n a) % 2 ^ n = _; rw [eg, Nat.add_mod_mod, show a + (2 ^ n - a) = 2 ^ n by omega, Nat.mod_self]))
end Go.Proofs.Ytcpjchfgiogmeaa
