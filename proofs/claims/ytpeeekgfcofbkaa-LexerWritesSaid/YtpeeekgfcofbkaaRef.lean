/-
  THE WALKS of the reference's small helpers: Short, Ints, Few, Around, SameInts, SameBytes.
-/
import Derived.Test.YtpeeekgfcofbkaaBase
import Derived.Deep.QuietTactic
import Derived.BigQuiet
import Derived.OpenShut
namespace Go.Proofs.Ytpeeekgfcofbkaa
open Go.RowKit

theorem Short_long (s : ByteArray) (m : Nat) (w : World) (hs : s.size ≤ maxLen) (hm : m < s.size) :
    Calls Try.prog 11 #[.string s, .int .i64 m] w fun e w' => e = .returned (.string (s.extract 0 m)) ∧ w = w' := by
  have := hs
  unfold maxLen at this
  go_enter Try.func11, Try.ntmps11
  go_wp2
  go_ret
  exact ⟨rfl, rfl⟩

theorem Short_short (s : ByteArray) (m : Nat) (w : World) (hs : s.size ≤ maxLen) (hm : s.size ≤ m) :
    Calls Try.prog 11 #[.string s, .int .i64 m] w fun e w' => e = .returned (.string s) ∧ w = w' := by
  have := hs
  unfold maxLen at this
  go_enter Try.func11, Try.ntmps11
  go_wp2
  go_ret
  exact ⟨rfl, rfl⟩

theorem Short_any (s : ByteArray) (m : Nat) (w : World) (hs : s.size ≤ maxLen) :
    Calls Try.prog 11 #[.string s, .int .i64 m] w fun e w' => ∃ t : ByteArray, e = .returned (.string t) ∧ t.size ≤ m ∧ w = w' := by
  by_cases h : m < s.size
  · exact (Short_long s m w hs h).mono fun e w' he => ⟨_, he.1, by rw [ByteArray.size_extract]; omega, he.2⟩
  · exact (Short_short s m w hs (by omega)).mono fun e w' he => ⟨_, he.1, by omega, he.2⟩

/-- Around(n, most) -/
def aroundI (n most : Int) : Int := if n < 0 then (-(n + 1)) % most else n % most

theorem Around_any (n most : Int) (w : World) (hn : I64 n) (hm : 1 ≤ most) (hm2 : most ≤ 2000000) :
    Calls Try.prog 10 #[.int .i64 n, .int .i64 most] w fun e w' => e = .returned (.int .i64 (aroundI n most)) ∧ w = w' := by
  obtain ⟨h1, h2⟩ := hn
  unfold aroundI
  by_cases h : n < 0
  · go_enter Try.func10, Try.ntmps10
    go_wp2
    go_ret
    refine ⟨?_, rfl⟩
    show Ending.returned (.int .i64 (-(n + 1).tmod most)) = _
    rw [← Int.neg_tmod, Int.tmod_eq_emod_of_nonneg (by omega)]
  · go_enter Try.func10, Try.ntmps10
    go_wp2
    go_ret
    exact ⟨rfl, rfl⟩

theorem aroundI_bounds {n most : Int} (hm : 1 ≤ most) : 0 ≤ aroundI n most ∧ aroundI n most < most := by
  unfold aroundI
  split
  · exact ⟨Int.emod_nonneg _ (by omega), Int.emod_lt_of_pos _ (by omega)⟩
  · exact ⟨Int.emod_nonneg _ (by omega), Int.emod_lt_of_pos _ (by omega)⟩

theorem Around_nat (n : Int) (m : Nat) (hn : I64 n) (hm : 1 ≤ m) (hm2 : m ≤ 1000000) : ∃ k : Nat, k < m ∧ ∀ w : World, Calls Try.prog 10 #[.int .i64 n, .int .i64 m] w fun e w' => e = .returned (.int .i64 k) ∧ w = w' := by
  have hb := aroundI_bounds (n := n) (most := m) (by omega)
  refine ⟨(aroundI n m).toNat, by omega, fun w => ?_⟩
  have := Around_any n m w hn (by omega) (by omega)
  rwa [show aroundI n m = ((aroundI n m).toNat : Int) by omega] at this

theorem around_int {n : Int} {m k : Nat} (h : ∀ w : World, Calls Try.prog 10 #[.int .i64 n, .int .i64 m] w fun e w' => e = .returned (.int .i64 k) ∧ w = w') (x : Int) (W : World) (hx : x = m) :
    Calls Try.prog 10 #[.int .i64 n, .int .i64 x] W fun e w' => e = .returned (.int .i64 k) ∧ W = w' := by
  subst hx; exact h W



set_option maxHeartbeats 1000000 in
theorem SameInts_eq (A1 A2 : Option Addr) (n c1 c2 : Nat) (zs1 zs2 : List Int) (w : World) (h1 : zs1.length = n) (h2 : zs2.length = n) (hn : n ≤ 140737488351232) (hr1 : RdI w w.heap.size .i64 A1 zs1) (hr2 : RdI w w.heap.size .i64 A2 zs2) :
    Calls Try.prog 27 #[.slice A1 n c1, .slice A2 n c2] w fun e w' => e = .returned (.bool (decide (zs1 = zs2))) ∧ Below w.heap.size w w' := by
  have H1 := Lib.hid h1
  have H2 := Lib.hid h2
  clear h1 h2
  go_enter Try.func27, Try.ntmps27
  go_wp2
  go_loopw [5] (fun i wr => ∃ k : Nat, k ≤ n ∧ i = .int .i64 k ∧ Hid (zs1.take k = zs2.take k) ∧ Below w.heap.size w wr) (fun i _ => n - (intOf i).toNat)
  case atStart => exact ⟨0, Nat.zero_le _, rfl, Lib.hid rfl, Below.refl _ _⟩
  case round =>
    obtain ⟨k, hk, rfl, ht, hW⟩ := hrel
    by_cases hlt : k < n
    · obtain ⟨b1, o1, rfl, hb1, hc1⟩ : ∃ b o, A1 = some ⟨b, o, none⟩ ∧ b < w.heap.size ∧ ∀ j, j < zs1.length → w.cell? ⟨b, o + j, none⟩ = some (.int .i64 (zs1[j]?.getD 0)) := by
        rcases hr1 with e | h
        · have := H1.out; rw [e] at this; simp at this; omega
        · exact h
      obtain ⟨b2, o2, rfl, hb2, hc2⟩ : ∃ b o, A2 = some ⟨b, o, none⟩ ∧ b < w.heap.size ∧ ∀ j, j < zs2.length → w.cell? ⟨b, o + j, none⟩ = some (.int .i64 (zs2[j]?.getD 0)) := by
        rcases hr2 with e | h
        · have := H2.out; rw [e] at this; simp at this; omega
        · exact h
      have hk1 := (hW.cell (p := ⟨b1, o1 + k, none⟩) hb1).trans (hc1 k (by rw [H1.out]; exact hlt))
      have hk2 := (hW.cell (p := ⟨b2, o2 + k, none⟩) hb2).trans (hc2 k (by rw [H2.out]; exact hlt))
      have s1 := take_snoc (zs := zs1) (k := k) (by rw [H1.out]; exact hlt)
      have s2 := take_snoc (zs := zs2) (k := k) (by rw [H2.out]; exact hlt)
      obtain ⟨x, hx⟩ : ∃ x, x = zs1[k]?.getD 0 := ⟨_, rfl⟩
      obtain ⟨y, hy⟩ : ∃ y, y = zs2[k]?.getD 0 := ⟨_, rfl⟩
      rw [← hx] at hk1 s1
      rw [← hy] at hk2 s2
      have S1 := Lib.hid s1
      have S2 := Lib.hid s2
      clear hx hy hc1 hc2 hr1 hr2 s1 s2
      by_cases hxy : x = y
      · subst hxy
        go_wp2
        go_quiet (fail)
        go_wp2
        go_roundw
        case rel => exact ⟨k + 1, by omega, by go_num, Lib.hid (by rw [S1.out, S2.out, ht.out]), below_drewN hW _⟩
        case measure => simp [intOf]; omega
      · have hne : (x != y) = true := by simpa using hxy
        have hne2 : (x == y) = false := by simpa using hxy
        have hz : Hid (decide (zs1 = zs2) = false) := Lib.hid (decide_eq_false (fun e => hxy (by
          have := S1.out
          rw [e, S2.out] at this
          simpa using (List.append_inj' this rfl).2.symm)))
        clear hxy
        go_wp2
        go_quiet (fail)
        go_wp2
        go_ret
        exact ⟨by rw [hz.out]; rfl, below_drewN hW _⟩
    · obtain rfl : k = n := by omega
      have hz : Hid (decide (zs1 = zs2) = true) := Lib.hid (decide_eq_true (by
        have := ht.out
        rw [List.take_of_length_le (by rw [H1.out]; omega), List.take_of_length_le (by rw [H2.out]; omega)] at this
        exact this))
      go_wp2
      go_ret
      exact ⟨by rw [hz.out]; rfl, hW⟩

theorem SameInts_self (A1 A2 : Option Addr) (c1 c2 : Nat) (zs : List Int) (w : World) (hn : zs.length ≤ 1000000) (hr1 : RdI w w.heap.size .i64 A1 zs) (hr2 : RdI w w.heap.size .i64 A2 zs) :
    Calls Try.prog 27 #[.slice A1 zs.length c1, .slice A2 zs.length c2] w fun e w' => e = .returned (.bool true) ∧ Below w.heap.size w w' := by
  have := SameInts_eq A1 A2 zs.length c1 c2 zs zs w rfl rfl (by omega) hr1 hr2
  rwa [decide_eq_true rfl] at this


end Go.Proofs.Ytpeeekgfcofbkaa
