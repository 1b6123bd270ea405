/-
  SETS OF POSITIONS: the program's places, two words of 64 bits; only, between, has, or, and, without.
  SETS OF POSITIONS, on: slices of sets; then and often.
-/
import Derived.Test.YtnjkihbmhacgoaaGreatDoorRxW
import Derived.Laws.BitsAllLaws
import Derived.Deep.RegionLaw
import Derived.BigQuiet
import Derived.RegionTactic
import Derived.LoopN
import Derived.Test.YtnjkihbmhacgoaaGreatDoorRxMt
namespace Go.Proofs.YtnjkihbmhacgoaaGreatDoor
open Go.RowKit

/-- two words hold a set of positions below 128 -/
structure Pl (a c : Nat) (P : Nat → Prop) : Prop where
  la : a < 18446744073709551616
  lc : c < 18446744073709551616
  lo : ∀ m, m < 64 → (a.testBit m = true ↔ P m)
  hi : ∀ m, m < 64 → (c.testBit m = true ↔ P (64 + m))
/-- a call that hands back a set -/
def GivesP (w : World) (P : Nat → Prop) (e : Ending) (w' : World) : Prop := ∃ a c : Nat, e = .returned (.agg #[.int .u64 a, .int .u64 c]) ∧ Pl a c P ∧ Below w.heap.size w w'

theorem Pl.iff {a c : Nat} {P Q : Nat → Prop} (h : Pl a c P) (hPQ : ∀ m, m < 128 → (P m ↔ Q m)) : Pl a c Q :=
  ⟨h.la, h.lc, fun m hm => (h.lo m hm).trans (hPQ m (by omega)), fun m hm => (h.hi m hm).trans (hPQ _ (by omega))⟩
theorem Pl.none : Pl 0 0 (fun _ => False) := ⟨by decide, by decide, fun m _ => by simp, fun m _ => by simp⟩
theorem Pl.or {a c b d : Nat} {P Q : Nat → Prop} (h : Pl a c P) (g : Pl b d Q) : Pl (a ||| b) (c ||| d) (fun m => P m ∨ Q m) :=
  ⟨Nat.or_lt_two_pow (n := 64) h.la g.la, Nat.or_lt_two_pow (n := 64) h.lc g.lc, fun m hm => by rw [Nat.testBit_or, Bool.or_eq_true, h.lo m hm, g.lo m hm], fun m hm => by rw [Nat.testBit_or, Bool.or_eq_true, h.hi m hm, g.hi m hm]⟩
theorem Pl.and {a c b d : Nat} {P Q : Nat → Prop} (h : Pl a c P) (g : Pl b d Q) : Pl (a &&& b) (c &&& d) (fun m => P m ∧ Q m) :=
  ⟨Nat.and_lt_two_pow (n := 64) _ g.la, Nat.and_lt_two_pow (n := 64) _ g.lc, fun m hm => by rw [Nat.testBit_and, Bool.and_eq_true, h.lo m hm, g.lo m hm], fun m hm => by rw [Nat.testBit_and, Bool.and_eq_true, h.hi m hm, g.hi m hm]⟩
theorem not_bit {b m : Nat} (hb : b < 18446744073709551616) (hm : m < 64) : (18446744073709551615 - b).testBit m = !b.testBit m := by
  have h := Nat.testBit_two_pow_sub_succ (n := 64) (x := b) hb m
  rw [show (2 : Nat) ^ 64 - (b + 1) = 18446744073709551615 - b by omega] at h
  rw [h, decide_eq_true hm, Bool.true_and]
theorem Pl.without {a c b d : Nat} {P Q : Nat → Prop} (h : Pl a c P) (g : Pl b d Q) : Pl (a &&& (18446744073709551615 - b)) (c &&& (18446744073709551615 - d)) (fun m => P m ∧ ¬ Q m) :=
  ⟨Nat.and_lt_two_pow (n := 64) _ (by omega), Nat.and_lt_two_pow (n := 64) _ (by omega), fun m hm => by rw [Nat.testBit_and, not_bit g.la hm, Bool.and_eq_true, h.lo m hm, Bool.not_eq_true', ← Bool.not_eq_true, g.lo m hm],
    fun m hm => by rw [Nat.testBit_and, not_bit g.lc hm, Bool.and_eq_true, h.hi m hm, Bool.not_eq_true', ← Bool.not_eq_true, g.hi m hm]⟩
theorem Pl.put_lo {a c : Nat} {P : Nat → Prop} (h : Pl a c P) {i : Nat} (hi : i < 64) : Pl (a ||| 2 ^ i) c (fun m => P m ∨ m = i) :=
  ⟨Nat.or_lt_two_pow (n := 64) h.la (Nat.pow_lt_pow_right (by decide) hi), h.lc, fun m hm => by rw [Nat.testBit_or, Bool.or_eq_true, h.lo m hm, Nat.testBit_two_pow, decide_eq_true_iff, eq_comm], fun m hm => by
    rw [h.hi m hm]
    exact ⟨.inl, fun h => h.elim id (fun e => by omega)⟩⟩
theorem Pl.put_hi {a c : Nat} {P : Nat → Prop} (h : Pl a c P) {i : Nat} (hi : i < 64) : Pl a (c ||| 2 ^ i) (fun m => P m ∨ m = 64 + i) :=
  ⟨h.la, Nat.or_lt_two_pow (n := 64) h.lc (Nat.pow_lt_pow_right (by decide) hi), fun m hm => by
    rw [h.lo m hm]
    exact ⟨.inl, fun h => h.elim id (fun e => by omega)⟩, fun m hm => by rw [Nat.testBit_or, Bool.or_eq_true, h.hi m hm, Nat.testBit_two_pow, decide_eq_true_iff]; exact or_congr Iff.rfl (by omega)⟩

theorem two_cells {w : World} {b : Nat} {t : TypeId} {c0 c1 : Value} (hb : w.heap[b]? = some (.cells #[c0, c1] t (0, 0))) : w.cell? ⟨b, 0, none⟩ = some c0 ∧ w.cell? ⟨b, 1, none⟩ = some c1 :=
  ⟨by rw [cell_of_row w b 0 _ t _ hb]; rfl, by rw [cell_of_row w b 1 _ t _ hb]; rfl⟩

set_option maxHeartbeats 1000000 in
theorem por_any (a c b d : Nat) (P Q : Nat → Prop) (w : World) (h : Pl a c P) (g : Pl b d Q) :
    Calls Tryz.prog 67 #[.agg #[.int .u64 a, .int .u64 c], .agg #[.int .u64 b, .int .u64 d]] w (GivesP w fun m => P m ∨ Q m) := by
  have H1 := Lib.hid (u64_or_nat a b h.la g.la)
  have H2 := Lib.hid (u64_or_nat c d h.lc g.lc)
  have HP := Lib.hid (h.or g)
  clear h g
  go_enter Tryz.func67, Tryz.ntmps67
  go_wp2
  refine bodyPost_ret (by simp [results, Tryz.results67, go_sem, World.cell?_alloc_mark]; rfl) rfl ?_
  exact ⟨_, _, by rw [H1.out, H2.out], HP.out, below_alloc3 (Below.refl _ _) (Nat.le_refl _) _ _ _⟩
set_option maxHeartbeats 1000000 in
theorem pand_any (a c b d : Nat) (P Q : Nat → Prop) (w : World) (h : Pl a c P) (g : Pl b d Q) :
    Calls Tryz.prog 69 #[.agg #[.int .u64 a, .int .u64 c], .agg #[.int .u64 b, .int .u64 d]] w (GivesP w fun m => P m ∧ Q m) := by
  have H1 := Lib.hid (u64_and_nat a b h.la g.la)
  have H2 := Lib.hid (u64_and_nat c d h.lc g.lc)
  have HP := Lib.hid (h.and g)
  clear h g
  go_enter Tryz.func69, Tryz.ntmps69
  go_wp2
  refine bodyPost_ret (by simp [results, Tryz.results69, go_sem, World.cell?_alloc_mark]; rfl) rfl ?_
  exact ⟨_, _, by rw [H1.out, H2.out], HP.out, below_alloc3 (Below.refl _ _) (Nat.le_refl _) _ _ _⟩
set_option maxHeartbeats 1000000 in
theorem pwithout_any (a c b d : Nat) (P Q : Nat → Prop) (w : World) (h : Pl a c P) (g : Pl b d Q) :
    Calls Tryz.prog 70 #[.agg #[.int .u64 a, .int .u64 c], .agg #[.int .u64 b, .int .u64 d]] w (GivesP w fun m => P m ∧ ¬ Q m) := by
  have H1 := Lib.hid (u64_andNot_nat a b h.la g.la)
  have H2 := Lib.hid (u64_andNot_nat c d h.lc g.lc)
  have HP := Lib.hid (h.without g)
  clear h g
  go_enter Tryz.func70, Tryz.ntmps70
  go_wp2
  refine bodyPost_ret (by simp [results, Tryz.results70, go_sem, World.cell?_alloc_mark]; rfl) rfl ?_
  exact ⟨_, _, by rw [H1.out, H2.out], HP.out, below_alloc3 (Below.refl _ _) (Nat.le_refl _) _ _ _⟩
theorem bit_and_one (a i : Nat) (ha : a < 18446744073709551616) : bits .and .u64 ((a : Int) / 2 ^ i) 1 = ((a.testBit i).toNat : Int) := by
  have h := u64_and_nat (a / 2 ^ i) 1 (Nat.lt_of_le_of_lt (Nat.div_le_self _ _) ha) (by decide)
  rw [show ((a / 2 ^ i : Nat) : Int) = (a : Int) / 2 ^ i by simp, show ((1 : Nat) : Int) = 1 from rfl] at h
  rw [h, Nat.and_one_is_mod, Nat.testBit_eq_decide_div_mod_eq]
  rcases Nat.mod_two_eq_zero_or_one (a / 2 ^ i) with e | e <;> rw [e] <;> rfl
theorem bit_is (b : Bool) : (((b.toNat : Nat) : Int) == 1) = b := by cases b <;> rfl
set_option maxHeartbeats 1000000 in
theorem has_any (a c i : Nat) (P : Nat → Prop) (hi : i < 128) (w : World) (h : Pl a c P) : Calls Tryz.prog 34 #[.agg #[.int .u64 a, .int .u64 c], .int .i64 i] w fun e w' => ∃ r : Bool, e = .returned (.bool r) ∧ (r = true ↔ P i) ∧ Below w.heap.size w w' := by
  by_cases h64 : i < 64
  · have h0 : i / 64 = 0 := by omega
    have h1 : i % 64 = i := by omega
    have HA := Lib.hid (bit_and_one a i h.la)
    have HP := Lib.hid (h.lo i h64)
    clear h
    go_enter Tryz.func34, Tryz.ntmps34
    go_wp2
    go_ret
    exact ⟨_, rfl, by rw [HA.out, bit_is]; exact HP.out, (Below.refl _ _).alloc (Nat.le_refl _) _⟩
  · obtain ⟨k, rfl⟩ : ∃ k, i = 64 + k := ⟨i - 64, by omega⟩
    have h0 : (64 + k) / 64 = 1 := by omega
    have h1 : k % 64 = k := by omega
    have HA := Lib.hid (bit_and_one c k h.lc)
    have HP := Lib.hid (h.hi k (by omega))
    clear h
    go_enter Tryz.func34, Tryz.ntmps34
    go_wp2
    go_ret
    exact ⟨_, rfl, by rw [HA.out, bit_is]; exact HP.out, (Below.refl _ _).alloc (Nat.le_refl _) _⟩
theorem shl_one (k : Nat) (hk : k < 64) : IntKind.u64.wrap (2 ^ k) = ((2 ^ k : Nat) : Int) := by
  have h : (2 : Nat) ^ k < 2 ^ 64 := Nat.pow_lt_pow_right (by decide) hk
  have e : ((2 : Int) ^ k) = ((2 ^ k : Nat) : Int) := by simp
  rw [IntKind.wrap_u64, e]
  generalize (2 : Nat) ^ k = q at h
  omega
theorem row_set0 {w : World} {b : Nat} {t : TypeId} {c0 c1 : Value} (hb : w.heap[b]? = some (.cells #[c0, c1] t (0, 0))) (u : Value) : (w.setCell ⟨b, 0, none⟩ u).heap[b]? = some (.cells #[u, c1] t (0, 0)) := by
  rw [blk_set hb]; rfl
theorem row_set1 {w : World} {b : Nat} {t : TypeId} {c0 c1 : Value} (hb : w.heap[b]? = some (.cells #[c0, c1] t (0, 0))) (u : Value) : (w.setCell ⟨b, 1, none⟩ u).heap[b]? = some (.cells #[c0, u] t (0, 0)) := by
  rw [blk_set hb]; rfl
theorem btw_none (i : Nat) : Pl 0 0 (fun m => i ≤ m ∧ m < i) := Pl.none.iff fun m _ => ⟨False.elim, fun h => by omega⟩
theorem btw_lo {a c i k : Nat} (h : Pl a c (fun m => i ≤ m ∧ m < k)) (hik : i ≤ k) (hk : k < 64) : Pl (a ||| 2 ^ k) c (fun m => i ≤ m ∧ m < k + 1) := (h.put_lo hk).iff fun m _ => ⟨fun h => by rcases h with h | h <;> omega, fun h => by by_cases e : m = k; exact .inr e; exact .inl (by omega)⟩
theorem btw_hi {a c i : Nat} (h : Pl a c (fun m => i ≤ m ∧ m < 64)) (hik : i ≤ 64) : Pl a (c ||| 2 ^ 0) (fun m => i ≤ m ∧ m < 64 + 1) := (h.put_hi (i := 0) (by decide)).iff fun m _ => ⟨fun h => by rcases h with h | h <;> omega, fun h => by by_cases e : m = 64; exact .inr e; exact .inl (by omega)⟩
set_option maxHeartbeats 1000000 in
theorem between_any (i j : Nat) (hi : i ≤ j + 1) (hj : j ≤ 64) (w : World) : Calls Tryz.prog 68 #[.int .i64 i, .int .i64 j] w (GivesP w fun m => i ≤ m ∧ m ≤ j) := by
  go_enter Tryz.func68, Tryz.ntmps68
  go_wp2
  go_loopw [6] (fun v wr => ∃ k a c : Nat, i ≤ k ∧ k ≤ j + 1 ∧ v = .int .i64 k ∧ Hid (Pl a c (fun m => i ≤ m ∧ m < k)) ∧ wr.heap[w.heap.size]? = some (.cells #[.int .u64 0, .int .u64 0] 66 (0, 0)) ∧ wr.heap[w.heap.size + 1]? = some (.cells #[.int .u64 a, .int .u64 c] 66 (0, 0)) ∧ Below w.heap.size w wr ∧ w.heap.size + 2 ≤ wr.heap.size) (fun v _ => 66 - (intOf v).toNat)
  case atStart =>
    refine ⟨i, 0, 0, Nat.le_refl _, hi, rfl, Lib.hid (btw_none i), ?_, ?_, below_alloc2 (Below.refl _ _) (Nat.le_refl _) _ _, by simp⟩
    · exact (heap_alloc_old _ _ _ (by simp)).trans (heap_alloc_new w _)
    · exact heap_alloc_new_at _ _ (by simp)
  case round =>
    obtain ⟨k, a, c, hik, hkj, rfl, hP, hb0, hb1, hW, hsz⟩ := hrel
    obtain ⟨e0, e1⟩ := two_cells hb1
    have hf0 := four_frozen hb1 0
    have hf1 := four_frozen hb1 1
    by_cases hlt : k ≤ j
    · have hlt' : (k : Int) ≤ j := by omega
      by_cases h64 : k < 64
      · have h0 : k / 64 = 0 := by omega
        have h1 : k % 64 = k := by omega
        have HO := Lib.hid (show bits .or .u64 (a : Int) (IntKind.u64.wrap (2 ^ k)) = ((a ||| 2 ^ k : Nat) : Int) by rw [shl_one k h64]; exact u64_or_nat _ _ hP.out.la (Nat.pow_lt_pow_right (a := 2) (by decide) h64))
        go_wp2
        go_region
        all_goals
          go_wp2
          go_roundw
          case rel =>
            refine ⟨k + 1, a ||| 2 ^ k, c, by omega, by omega, by go_num, Lib.hid (btw_lo hP.out hik h64), ?_, ?_, ?_, ?_⟩
            · exact (Below.heap_setCell _ _ _ _ (by simp)).trans hb0
            · rw [← HO.out]; exact row_set0 hb1 _
            · exact (hW.setCell (p := ⟨w.heap.size + 1, 0, none⟩) (by simp) _).drew
            · simp [World.setCell]; omega
          case measure => simp [intOf]; omega
      · obtain rfl : k = 64 := by omega
        have HO := Lib.hid (show bits .or .u64 (c : Int) 1 = ((c ||| 2 ^ 0 : Nat) : Int) from u64_or_nat _ _ hP.out.lc (by decide))
        go_wp2
        go_region
        all_goals
          go_wp2
          go_roundw
          case rel =>
            refine ⟨64 + 1, a, c ||| 2 ^ 0, by omega, by omega, by go_num, Lib.hid (btw_hi hP.out hik), ?_, ?_, ?_, ?_⟩
            · exact (Below.heap_setCell _ _ _ _ (by simp)).trans hb0
            · rw [← HO.out]; exact row_set1 hb1 _
            · exact (hW.setCell (p := ⟨w.heap.size + 1, 1, none⟩) (by simp) _).drew
            · simp [World.setCell]; omega
          case measure => simp [intOf]
    · have hlt' : ¬ (k : Int) ≤ j := by omega
      obtain ⟨g0, g1⟩ := two_cells hb0
      have q0 := four_frozen hb0 0
      have q1 := four_frozen hb0 1
      have hk : k = j + 1 := by omega
      subst hk
      have HP := Lib.hid (hP.out.iff (Q := fun m => i ≤ m ∧ m ≤ j) fun m _ => and_congr Iff.rfl Nat.lt_succ_iff)
      go_wp2
      refine bodyPost_ret (v := .agg #[.int .u64 a, .int .u64 c]) (by simp [results, Tryz.results68, go_sem, g0, g1]) rfl ?_
      exact ⟨a, c, rfl, HP.out, (hW.setCell (p := ⟨w.heap.size, 0, none⟩) (by simp) _).setCell (p := ⟨w.heap.size, 1, none⟩) (by simp) _⟩
theorem only_any (i : Nat) (hi : i ≤ 64) (w : World) : Calls Tryz.prog 64 #[.int .i64 i] w (GivesP w fun m => m = i) := by
  have hC := fun W => between_any i i (by omega) hi W
  go_enter Tryz.func64, Tryz.ntmps64
  go_wp2_with (first | (go_at_call 68; refine (hC _).mono ?_; clear hC; rintro e w1 ⟨a, c, rfl, hP, hb⟩; have hq := (hb.block w.heap.size (by simp)).trans (heap_alloc_new w _); obtain ⟨g0, g1⟩ := two_cells hq; have q0 := four_frozen hq 0; have q1 := four_frozen hq 1))
  refine bodyPost_ret (v := .agg #[.int .u64 a, .int .u64 c]) (by simp [results, Tryz.results64, go_sem, g0, g1]) rfl ?_
  have hb' : Below w.heap.size w w1 := ((Below.refl _ _).alloc (Nat.le_refl _) _).trans (hb.mono (by simp))
  exact ⟨a, c, rfl, hP.iff fun m _ => by omega, (hb'.setCell (p := ⟨w.heap.size, 0, none⟩) (by simp) _).setCell (p := ⟨w.heap.size, 1, none⟩) (by simp) _⟩
end Go.Proofs.YtnjkihbmhacgoaaGreatDoor

namespace Go.Proofs.YtnjkihbmhacgoaaGreatDoor
open Go.RowKit

/-- a slice of N sets -/
def PlRow (w : World) (S : Nat → Prop) (N : Nat) (M : Nat → Nat → Prop) (A : Option Addr) : Prop := ∃ b o, A = some ⟨b, o, none⟩ ∧ S b ∧ ∀ i, i < N → ∃ a c : Nat, w.cell? ⟨b, o + i * 2, none⟩ = some (.int .u64 a) ∧ w.cell? ⟨b, o + i * 2 + 1, none⟩ = some (.int .u64 c) ∧ Pl a c (M i)
theorem PlRow.to {w w' : World} {S T : Nat → Prop} {N : Nat} {M : Nat → Nat → Prop} {A : Option Addr} (h : PlRow w S N M A) (hS : ∀ b, S b → T b ∧ w'.heap[b]? = w.heap[b]?) : PlRow w' T N M A := by
  obtain ⟨b, o, rfl, hb, hc⟩ := h
  refine ⟨b, o, rfl, (hS b hb).1, fun i hi => ?_⟩
  obtain ⟨a, c, h1, h2, h3⟩ := hc i hi
  exact ⟨a, c, (World.cell?_of_block (hS b hb).2).trans h1, (World.cell?_of_block (hS b hb).2).trans h2, h3⟩
theorem PlRow.call {w w' : World} {N : Nat} {M : Nat → Nat → Prop} {A : Option Addr} (h : PlRow w (Lo w.heap.size) N M A) (hb : Below w.heap.size w w') : PlRow w' (Lo w'.heap.size) N M A := h.to fun b hlt => ⟨Nat.lt_of_lt_of_le hlt hb.size, hb.block b hlt⟩
theorem Pl.of {a c : Nat} {P Q : Nat → Prop} (h : Pl a c P) (hPQ : ∀ m, P m ↔ Q m) : Pl a c Q := h.iff fun m _ => hPQ m

theorem set2_other {w : World} {N j : Nat} (u v : Value) (hj : j ≠ N) : ((w.setCell ⟨N, 0, none⟩ u).setCell ⟨N, 1, none⟩ v).heap[j]? = w.heap[j]? := by
  rw [Below.heap_setCell _ _ _ j hj, Below.heap_setCell _ _ _ j hj]
theorem set2_self {w : World} {N : Nat} {t : TypeId} {a b : Value} (hb : w.heap[N]? = some (.cells #[a, b] t (0, 0))) (u v : Value) : ((w.setCell ⟨N, 0, none⟩ u).setCell ⟨N, 1, none⟩ v).heap[N]? = some (.cells #[u, v] t (0, 0)) := row_set1 (row_set0 hb u) v
theorem set2_below {n : Nat} {a w : World} {N : Nat} (h : Below n a w) (hN : n ≤ N) (u v : Value) : Below n a ((w.setCell ⟨N, 0, none⟩ u).setCell ⟨N, 1, none⟩ v) := (h.setCell (p := ⟨N, 0, none⟩) hN u).setCell (p := ⟨N, 1, none⟩) hN v
theorem set2_size {w : World} {N : Nat} (u v : Value) : ((w.setCell ⟨N, 0, none⟩ u).setCell ⟨N, 1, none⟩ v).heap.size = w.heap.size := by simp [World.setCell]
theorem then_no {q d k : Nat} {P : Nat → Prop} {M : Nat → Nat → Prop} (h : Pl q d (fun j => ∃ m, m < k ∧ P m ∧ M m j)) (hn : ¬ P k) : Pl q d (fun j => ∃ m, m < k + 1 ∧ P m ∧ M m j) :=
  h.of fun j => ⟨fun ⟨m, h1, h2⟩ => ⟨m, by omega, h2⟩, fun ⟨m, h1, h2⟩ => ⟨m, by
    have : m ≠ k := fun e => hn (e ▸ h2.1)
    omega, h2⟩⟩
theorem then_yes {q d k : Nat} {P : Nat → Prop} {M : Nat → Nat → Prop} (h : Pl q d (fun j => (∃ m, m < k ∧ P m ∧ M m j) ∨ M k j)) (hy : P k) : Pl q d (fun j => ∃ m, m < k + 1 ∧ P m ∧ M m j) :=
  h.of fun j => ⟨fun h => h.elim (fun ⟨m, h1, h2⟩ => ⟨m, by omega, h2⟩) (fun h => ⟨k, by omega, hy, h⟩), fun ⟨m, h1, h2⟩ => by
    by_cases e : m = k
    · subst e; exact .inr h2.2
    · exact .inl ⟨m, by omega, h2⟩⟩
set_option maxHeartbeats 1000000 in
set_option maxRecDepth 100000 in
theorem then_any (a c N C : Nat) (P : Nat → Prop) (M : Nat → Nat → Prop) (A : Option Addr) (w : World) (h : Pl a c P) (hN : N ≤ 65) (hr : PlRow w (Lo w.heap.size) N M A) :
    Calls Tryz.prog 66 #[.agg #[.int .u64 a, .int .u64 c], .slice A N C] w (GivesP w fun j => ∃ m, m < N ∧ P m ∧ M m j) := by
  obtain ⟨b, o, rfl, hb, hc⟩ := hr
  have hbl : b < w.heap.size := hb
  have HC := Lib.hid hc
  have HP := Lib.hid h
  clear h hc hb
  go_enter Tryz.func66, Tryz.ntmps66
  go_wp2
  go_loopw [10] (fun v wr => ∃ k q d : Nat, k ≤ N ∧ v = .int .i64 k ∧ Hid (Pl q d (fun j => ∃ m, m < k ∧ P m ∧ M m j)) ∧ wr.heap[w.heap.size]? = some (.cells #[.int .u64 a, .int .u64 c] 66 (0, 0)) ∧ wr.heap[w.heap.size + 1]? = some (.cells #[.int .u64 0, .int .u64 0] 66 (0, 0)) ∧ wr.heap[w.heap.size + 1 + 1]? = some (.cells #[.int .u64 q, .int .u64 d] 66 (0, 0)) ∧ Below w.heap.size w wr ∧ w.heap.size + 3 ≤ wr.heap.size) (fun v _ => 66 - (intOf v).toNat)
  case atStart =>
    refine ⟨0, 0, 0, Nat.zero_le _, rfl, Lib.hid (Pl.none.of fun m => ⟨False.elim, fun ⟨m, h, _⟩ => absurd h (Nat.not_lt_zero _)⟩), ?_, ?_, ?_, below_alloc3 (Below.refl _ _) (Nat.le_refl _) _ _ _, by simp⟩
    · exact (heap_alloc_old _ _ _ (by simp; omega)).trans ((heap_alloc_old _ _ _ (by simp)).trans (heap_alloc_new w _))
    · exact (heap_alloc_old _ _ _ (by simp)).trans (heap_alloc_new_at _ _ (by simp))
    · exact heap_alloc_new_at _ _ (by simp)
  case round =>
    obtain ⟨k, q, d, hk, rfl, hQ, hb0, hb1, hb2, hW, hsz⟩ := hrel
    obtain ⟨e0, e1⟩ := two_cells hb0
    obtain ⟨f0, f1⟩ := two_cells hb2
    have q0 := four_frozen hb2 0
    have q1 := four_frozen hb2 1
    by_cases hlt : k < N
    · have hlt' : (k : Int) < N := by omega
      obtain ⟨x, y, g0', g1', hX⟩ := HC.out k hlt
      have g0 := (World.cell?_of_block (hW.block b hbl)).trans g0'
      have g1 := (World.cell?_of_block (hW.block b hbl)).trans g1'
      clear g0' g1'
      have HH := Lib.hid fun W => has_any a c k P (by omega) W HP.out
      have HO := Lib.hid fun W => por_any q d x y _ _ W hQ.out hX
      clear f0 f1
      have e0' := fun O : Obj => (cell_old (i := 0) (show w.heap.size < wr.heap.size by omega) O).trans e0
      have e1' := fun O : Obj => (cell_old (i := 1) (show w.heap.size < wr.heap.size by omega) O).trans e1
      go_wp2_with fail
      refine Calls.mono (HH.out _) ?_
      rintro e w1 ⟨r, rfl, hr, hw1⟩
      have hq0 := (hw1.block (w.heap.size) (by simp; omega)).trans ((Below.heap_alloc wr _ _ (by omega)).trans hb0)
      have hq1 := (hw1.block (w.heap.size + 1) (by simp; omega)).trans ((Below.heap_alloc wr _ _ (by omega)).trans hb1)
      have hq2 := (hw1.block (w.heap.size + 1 + 1) (by simp; omega)).trans ((Below.heap_alloc wr _ _ (by omega)).trans hb2)
      have hqe := (hw1.block wr.heap.size (by simp)).trans (heap_alloc_new wr _)
      have hw2 : Below w.heap.size w w1 := (hW.alloc (by omega) _).trans (hw1.mono (by simp; omega))
      have hsz1 : w.heap.size + 4 ≤ w1.heap.size := by have := hw1.size; simp at this; omega
      clear hb0 hb1 hb2 hw1 g0 g1 e0 e1 q0 q1 e0' e1'
      cases r with
      | false =>
        have hnp : Hid (¬ P k) := Lib.hid fun h => by simpa using hr.2 h
        clear hr
        go_wp2_with fail
        go_roundw
        case rel => exact ⟨k + 1, q, d, by omega, by go_num, Lib.hid (then_no hQ.out hnp.out), hq0, hq1, hq2, hw2, by omega⟩
        case measure => simp [intOf]; omega
      | true =>
        obtain ⟨f0, f1⟩ := two_cells hq2
        obtain ⟨f2, f3⟩ := two_cells hqe
        have hyp : Hid (P k) := Lib.hid (hr.1 rfl)
        clear hr
        go_wp2_with fail
        refine Calls.mono (HO.out _) ?_
        rintro e w3 ⟨s, t, rfl, hst, hw3⟩
        have hz2 := (hw3.block (w.heap.size + 1 + 1) (by omega)).trans hq2
        have q0 := four_frozen hz2 0
        have q1 := four_frozen hz2 1
        obtain ⟨j0, j1⟩ := two_cells hz2
        go_wp2_with fail
        go_roundw
        case rel =>
          refine ⟨k + 1, s, t, by omega, by go_num, Lib.hid (then_yes hst hyp.out), ?_, ?_, ?_, ?_, ?_⟩
          · exact (set2_other _ _ (by omega)).trans ((hw3.block _ (by omega)).trans hq0)
          · exact (set2_other _ _ (by omega)).trans ((hw3.block _ (by omega)).trans hq1)
          · exact set2_self hz2 _ _
          · exact set2_below (hw2.trans (hw3.mono (by omega))) (by omega) _ _
          · rw [set2_size]; have := hw3.size; omega
        case measure => simp [intOf]; omega
    · obtain rfl : k = N := by omega
      obtain ⟨f0, f1⟩ := two_cells hb2
      obtain ⟨f2, f3⟩ := two_cells hb1
      have q0 := four_frozen hb1 0
      have q1 := four_frozen hb1 1
      go_wp2_with fail
      refine bodyPost_ret (v := .agg #[.int .u64 q, .int .u64 d]) (by simp [results, Tryz.results66, go_sem, f2, f3]) rfl ?_
      exact ⟨q, d, rfl, hQ.out, (hW.setCell (p := ⟨w.heap.size + 1, 0, none⟩) (by simp) _).setCell (p := ⟨w.heap.size + 1, 1, none⟩) (by simp) _⟩
theorem oft_no {q d k i : Nat} {M : Nat → Nat → Prop} (h : Pl q d (oft M i k)) (hn : ¬ oft M i k k) : Pl q d (oft M i (k + 1)) := h.of fun j => ⟨.inl, fun h => h.elim id (fun h => absurd h.1 hn)⟩
theorem oft_yes {q d k i : Nat} {M : Nat → Nat → Prop} (h : Pl q d (fun j => oft M i k j ∨ M k j)) (hy : oft M i k k) : Pl q d (oft M i (k + 1)) := h.of fun j => ⟨fun h => h.elim .inl (fun h => .inr ⟨hy, h⟩), fun h => h.elim .inl (fun h => .inr h.2)⟩
set_option maxHeartbeats 1000000 in
set_option maxRecDepth 100000 in
theorem often_any (a c N C i : Nat) (M : Nat → Nat → Prop) (A : Option Addr) (w : World) (h : Pl a c (fun m => m = i)) (hN : N ≤ 65) (hr : PlRow w (Lo w.heap.size) N M A) :
    Calls Tryz.prog 71 #[.agg #[.int .u64 a, .int .u64 c], .slice A N C] w (GivesP w (oft M i N)) := by
  obtain ⟨b, o, rfl, hb, hc⟩ := hr
  have hbl : b < w.heap.size := hb
  have HC := Lib.hid hc
  have HP := Lib.hid h
  clear h hc hb
  go_enter Tryz.func71, Tryz.ntmps71
  go_wp2
  go_loopw [9] (fun v wr => ∃ k q d : Nat, k ≤ N ∧ v = .int .i64 k ∧ Hid (Pl q d (oft M i k)) ∧ wr.heap[w.heap.size]? = some (.cells #[.int .u64 q, .int .u64 d] 66 (0, 0)) ∧ wr.heap[w.heap.size + 1]? = some (.cells #[.int .u64 0, .int .u64 0] 66 (0, 0)) ∧ Below w.heap.size w wr ∧ w.heap.size + 2 ≤ wr.heap.size) (fun v _ => 66 - (intOf v).toNat)
  case atStart =>
    refine ⟨0, a, c, Nat.zero_le _, rfl, HP, ?_, ?_, below_alloc2 (Below.refl _ _) (Nat.le_refl _) _ _, by simp⟩
    · exact (heap_alloc_old _ _ _ (by simp)).trans (heap_alloc_new w _)
    · exact heap_alloc_new_at _ _ (by simp)
  case round =>
    clear HP
    obtain ⟨k, q, d, hk, rfl, hQ, hb0, hb1, hW, hsz⟩ := hrel
    obtain ⟨e0, e1⟩ := two_cells hb0
    by_cases hlt : k < N
    · have hlt' : (k : Int) < N := by omega
      obtain ⟨x, y, g0', g1', hX⟩ := HC.out k hlt
      have g0 := (World.cell?_of_block (hW.block b hbl)).trans g0'
      have g1 := (World.cell?_of_block (hW.block b hbl)).trans g1'
      clear g0' g1'
      have HH := Lib.hid fun W => has_any q d k (oft M i k) (by omega) W hQ.out
      have HO := Lib.hid fun W => por_any q d x y _ _ W hQ.out hX
      have e0' := fun O : Obj => (cell_old (i := 0) (show w.heap.size < wr.heap.size by omega) O).trans e0
      have e1' := fun O : Obj => (cell_old (i := 1) (show w.heap.size < wr.heap.size by omega) O).trans e1
      go_wp2_with fail
      refine Calls.mono (HH.out _) ?_
      rintro e w1 ⟨r, rfl, hr, hw1⟩
      have hq0 := (hw1.block (w.heap.size) (by simp; omega)).trans ((Below.heap_alloc wr _ _ (by omega)).trans hb0)
      have hq1 := (hw1.block (w.heap.size + 1) (by simp; omega)).trans ((Below.heap_alloc wr _ _ (by omega)).trans hb1)
      have hqe := (hw1.block wr.heap.size (by simp)).trans (heap_alloc_new wr _)
      have hw2 : Below w.heap.size w w1 := (hW.alloc (by omega) _).trans (hw1.mono (by simp; omega))
      have hsz1 : w.heap.size + 3 ≤ w1.heap.size := by have := hw1.size; simp at this; omega
      clear hb0 hb1 hw1 g0 g1 e0 e1 e0' e1'
      cases r with
      | false =>
        have hnp : Hid (¬ oft M i k k) := Lib.hid fun h => by simpa using hr.2 h
        clear hr
        go_wp2_with fail
        go_roundw
        case rel => exact ⟨k + 1, q, d, by omega, by go_num, Lib.hid (oft_no hQ.out hnp.out), hq0, hq1, hw2, by omega⟩
        case measure => simp [intOf]; omega
      | true =>
        have hyp : Hid (oft M i k k) := Lib.hid (hr.1 rfl)
        clear hr
        obtain ⟨f0, f1⟩ := two_cells hq0
        obtain ⟨f2, f3⟩ := two_cells hqe
        go_wp2_with fail
        refine Calls.mono (HO.out _) ?_
        rintro e w3 ⟨s, t, rfl, hst, hw3⟩
        have hz2 := (hw3.block (w.heap.size) (by omega)).trans hq0
        have q0 := four_frozen hz2 0
        have q1 := four_frozen hz2 1
        obtain ⟨j0, j1⟩ := two_cells hz2
        go_wp2_with fail
        go_roundw
        case rel =>
          refine ⟨k + 1, s, t, by omega, by go_num, Lib.hid (oft_yes hst hyp.out), ?_, ?_, ?_, ?_⟩
          · exact set2_self hz2 _ _
          · exact (set2_other _ _ (by omega)).trans ((hw3.block _ (by omega)).trans hq1)
          · exact set2_below (hw2.trans (hw3.mono (by omega))) (by omega) _ _
          · rw [set2_size]; have := hw3.size; omega
        case measure => simp [intOf]; omega
    · obtain rfl : k = N := by omega
      obtain ⟨f2, f3⟩ := two_cells hb1
      have q0 := four_frozen hb1 0
      have q1 := four_frozen hb1 1
      go_wp2_with fail
      refine bodyPost_ret (v := .agg #[.int .u64 q, .int .u64 d]) (by simp [results, Tryz.results71, go_sem, f2, f3]) rfl ?_
      exact ⟨q, d, rfl, hQ.out, set2_below hW (by omega) _ _⟩
end Go.Proofs.YtnjkihbmhacgoaaGreatDoor
