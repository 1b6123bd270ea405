/-
  THE WALKS of the reference's small helpers: Short, Ints, Few, Around, SameInts, SameBytes.
-/
import Derived.Test.YtkogodkhhpodnaaBytes
import Derived.Test.YtkogodkhhpodnaaMathTwo
import Derived.Deep.QuietTactic
import Derived.BigQuiet
import Derived.OpenShut
namespace Go.Proofs.Ytkogodkhhpodnaa
open Go.RowKit

theorem Short_long (s : ByteArray) (m : Nat) (w : World) (hs : s.size ≤ maxLen) (hm : m < s.size) :
    Calls Try.prog 11 #[.string s, .int .i64 m] w fun e w' => e = .returned (.string (s.extract 0 m)) ∧ w = w' := by
  unfold maxLen at hs
  go_enter Try.func11, Try.ntmps11
  go_wp2
  go_ret
  exact ⟨rfl, rfl⟩
theorem Short_short (s : ByteArray) (m : Nat) (w : World) (hs : s.size ≤ maxLen) (hm : s.size ≤ m) :
    Calls Try.prog 11 #[.string s, .int .i64 m] w fun e w' => e = .returned (.string s) ∧ w = w' := by
  unfold maxLen at hs
  go_enter Try.func11, Try.ntmps11
  go_wp2
  go_ret
  exact ⟨rfl, rfl⟩

theorem Short_any (s : ByteArray) (m : Nat) (w : World) (hs : s.size ≤ maxLen) :
    Calls Try.prog 11 #[.string s, .int .i64 m] w fun e w' => ∃ t : ByteArray, e = .returned (.string t) ∧ t.size ≤ m ∧ w = w' := by
  by_cases h : m < s.size
  · exact (Short_long s m w hs h).mono fun e w' he => ⟨_, he.1, by rw [ByteArray.size_extract]; omega, he.2⟩
  · exact (Short_short s m w hs (by omega)).mono fun e w' he => ⟨_, he.1, by omega, he.2⟩

/-- Around(n, most) -/
def aroundI (n most : Int) : Int := if n < 0 then (-(n + 1)) % most else n % most
theorem Around_any (n most : Int) (w : World) (hn : I64 n) (hm : 1 ≤ most) (hm2 : most ≤ 1000000) :
    Calls Try.prog 21 #[.int .i64 n, .int .i64 most] w fun e w' => e = .returned (.int .i64 (aroundI n most)) ∧ w = w' := by
  obtain ⟨h1, h2⟩ := hn
  unfold aroundI
  by_cases h : n < 0
  · go_enter Try.func21, Try.ntmps21
    go_wp2
    go_ret
    refine ⟨?_, rfl⟩
    show Ending.returned (.int .i64 (-(n + 1).tmod most)) = _
    rw [← Int.neg_tmod, Int.tmod_eq_emod_of_nonneg (by omega)]
  · go_enter Try.func21, Try.ntmps21
    go_wp2
    go_ret
    exact ⟨rfl, rfl⟩

/-- A CALL THAT HANDS BACK A SLICE OF ITS OWN, in new memory: it reads as zs -/
def GivesRow (B : Nat) (w : World) (e : TypeId) (k : IntKind) (zs : List Int) (en : Ending) (w' : World) : Prop :=
  ∃ A c, en = .returned (.slice A zs.length c) ∧ zs.length ≤ c ∧ w'.ownsRow B e 1 (.slice A zs.length c) zs.length (zs.map (Value.int k)) ∧ Below B w w'

theorem rd_cells {w : World} {B : Nat} {k : IntKind} {x : Addr} {zs : List Int} (h : RdI w B k (some x) zs) (m : Nat) : ∀ j u, ((zs.take m).map (Value.int k))[j]? = some u → w.cell? (x.add j) = some u := by
  intro j u hj
  rcases h with rfl | ⟨b, o, e, _, hc⟩
  · simp at hj
  · injection e with e
    subst e
    have hlt : j < (zs.take m).length := by
      have := (List.getElem?_eq_some_iff.1 hj).1
      simpa using this
    have hlt2 : j < zs.length := by rw [List.length_take] at hlt; omega
    have hadd : (⟨b, o, none⟩ : Addr).add j = ⟨b, o + j, none⟩ := by unfold Addr.add; split <;> simp_all
    rw [hadd, hc j hlt2]
    rw [List.getElem?_map, List.getElem?_take_of_lt (by rw [List.length_take] at hlt; omega)] at hj
    simp only [List.getElem?_eq_getElem hlt2, Option.map_some, Option.getD_some] at hj ⊢
    exact hj
theorem one_cells (k : IntKind) (zs : List Int) : ∀ u ∈ zs.map (Value.int k), u.oneCell' = true := fun u hu => by
  obtain ⟨z, _, rfl⟩ := List.mem_map.1 hu
  rfl
theorem gives_own {B : Nat} {w w' : World} {e : TypeId} {k : IntKind} {zs : List Int} {v : Value} {n : Nat} {l : List Value} (hl : l = zs.map (Value.int k)) (hn : n = zs.length) (h : w'.ownsRow B e 1 v n l) (hb : Below B w w') : GivesRow B w e k zs (.returned v) w' := by
  subst hl hn
  rcases h.2 with ⟨rfl, h0⟩ | ⟨g, cap, cur, rfl, hg⟩
  · refine ⟨none, 0, by rw [h0], by omega, by rw [h0] at h ⊢; exact h, hb⟩
  · exact ⟨_, cap, rfl, hg.2.2.1, h, hb⟩

set_option maxHeartbeats 1000000 in
theorem Ints_some (x : Addr) (c m : Nat) (zs : List Int) (w : World) (hz : zs.length ≤ maxLen) (hm : m ≤ 1000000) (hcap : zs.length ≤ c) (hr : RdI w w.heap.size .i64 (some x) zs) :
    Calls Try.prog 12 #[.slice (some x) zs.length c, .int .i64 m] w fun e w' => GivesRow w.heap.size w 3 .i64 (zs.take m) e w' := by
  unfold maxLen at hz
  obtain ⟨i0, hi, hz0, hz1, hz2⟩ := info_parts info_int
  have hcs := Lib.hid (rd_cells hr m)
  clear hr
  go_enter Try.func12, Try.ntmps12
  by_cases h : zs.length ≤ m
  · have ht : Hid ((zs.take m).length = zs.length) := Lib.hid (by rw [List.length_take]; omega)
    go_wp2_with (at_builtin; refine wpList_append_own _ rfl (.tmp 6) (.tmp 12) 22 rfl w.heap.size 3 i0 (.int .i64 0) 1 8 Try.underlying22 hi hz0 hz1 hz2 rfl (by decide) (.slice none 0 0) 0 [] rfl (World.ownsRow_nil _ _ _ _) x zs.length c ((zs.take m).map (Value.int .i64)) rfl (by rw [List.length_map, ht.out, Nat.mul_one]) hcs.out (one_cells _ _) (by unfold maxLen; omega) (by omega) (Nat.le_refl _) ?_; intro v' w1 hown' hgrow _)
    go_ret
    exact gives_own (by simp) (by rw [ht.out]; omega) hown' ((Below.refl _ w).grown hgrow (Nat.le_refl _) (by simp [Value.ownBlock]))
  · have ht : Hid ((zs.take m).length = m) := Lib.hid (by rw [List.length_take]; omega)
    go_wp2_with (at_builtin; refine wpList_append_own _ rfl (.tmp 6) (.tmp 12) 22 rfl w.heap.size 3 i0 (.int .i64 0) 1 8 Try.underlying22 hi hz0 hz1 hz2 rfl (by decide) (.slice none 0 0) 0 [] rfl (World.ownsRow_nil _ _ _ _) x m c ((zs.take m).map (Value.int .i64)) rfl (by rw [List.length_map, ht.out, Nat.mul_one]) hcs.out (one_cells _ _) (by unfold maxLen; omega) (by omega) (Nat.le_refl _) ?_; intro v' w1 hown' hgrow _)
    go_ret
    exact gives_own (by simp) (by rw [ht.out]; omega) hown' ((Below.refl _ w).grown hgrow (Nat.le_refl _) (by simp [Value.ownBlock]))

theorem Ints_none (m : Nat) (w : World) (hm : m ≤ 1000000) :
    Calls Try.prog 12 #[.slice none 0 0, .int .i64 m] w fun e w' => GivesRow w.heap.size w 3 .i64 [] e w' := by
  go_enter Try.func12, Try.ntmps12
  go_wp2
  go_ret
  exact ⟨none, 0, rfl, Nat.le_refl _, World.ownsRow_nil _ _ _ _, Below.refl _ _⟩
theorem info_u8 : (Try.prog.info? 5).map (fun i => (i.zero, i.size, i.bytes)) = some (some (.int .u8 0), 1, 1) := by kernel_rfl

set_option maxHeartbeats 1000000 in
theorem Few_some (x : Addr) (c m : Nat) (zs : List Int) (w : World) (hz : zs.length ≤ maxLen) (hm : m ≤ 1000000) (hcap : zs.length ≤ c) (hr : RdI w w.heap.size .u8 (some x) zs) :
    Calls Try.prog 16 #[.slice (some x) zs.length c, .int .i64 m] w fun e w' => GivesRow w.heap.size w 5 .u8 (zs.take m) e w' := by
  unfold maxLen at hz
  obtain ⟨i0, hi, hz0, hz1, hz2⟩ := info_parts info_u8
  have hcs := Lib.hid (rd_cells hr m)
  clear hr
  go_enter Try.func16, Try.ntmps16
  by_cases h : zs.length ≤ m
  · have ht : Hid ((zs.take m).length = zs.length) := Lib.hid (by rw [List.length_take]; omega)
    go_wp2_with (at_builtin; refine wpList_append_own _ rfl (.tmp 6) (.tmp 12) 30 rfl w.heap.size 5 i0 (.int .u8 0) 1 1 Try.underlying30 hi hz0 hz1 hz2 rfl (by decide) (.slice none 0 0) 0 [] rfl (World.ownsRow_nil _ _ _ _) x zs.length c ((zs.take m).map (Value.int .u8)) rfl (by rw [List.length_map, ht.out, Nat.mul_one]) hcs.out (one_cells _ _) (by unfold maxLen; omega) (by omega) (Nat.le_refl _) ?_; intro v' w1 hown' hgrow _)
    go_ret
    exact gives_own (by simp) (by rw [ht.out]; omega) hown' ((Below.refl _ w).grown hgrow (Nat.le_refl _) (by simp [Value.ownBlock]))
  · have ht : Hid ((zs.take m).length = m) := Lib.hid (by rw [List.length_take]; omega)
    go_wp2_with (at_builtin; refine wpList_append_own _ rfl (.tmp 6) (.tmp 12) 30 rfl w.heap.size 5 i0 (.int .u8 0) 1 1 Try.underlying30 hi hz0 hz1 hz2 rfl (by decide) (.slice none 0 0) 0 [] rfl (World.ownsRow_nil _ _ _ _) x m c ((zs.take m).map (Value.int .u8)) rfl (by rw [List.length_map, ht.out, Nat.mul_one]) hcs.out (one_cells _ _) (by unfold maxLen; omega) (by omega) (Nat.le_refl _) ?_; intro v' w1 hown' hgrow _)
    go_ret
    exact gives_own (by simp) (by rw [ht.out]; omega) hown' ((Below.refl _ w).grown hgrow (Nat.le_refl _) (by simp [Value.ownBlock]))

theorem Few_none (m : Nat) (w : World) (hm : m ≤ 1000000) :
    Calls Try.prog 16 #[.slice none 0 0, .int .i64 m] w fun e w' => GivesRow w.heap.size w 5 .u8 [] e w' := by
  go_enter Try.func16, Try.ntmps16
  go_wp2
  go_ret
  exact ⟨none, 0, rfl, Nat.le_refl _, World.ownsRow_nil _ _ _ _, Below.refl _ _⟩

theorem Ints_any (A : Option Addr) (n c m : Nat) (zs : List Int) (w : World) (hn : n = zs.length) (hz : zs.length ≤ maxLen) (hm : m ≤ 1000000) (hcap : zs.length ≤ c) (hA : A = none → c = 0) (hr : RdI w w.heap.size .i64 A zs) :
    Calls Try.prog 12 #[.slice A n c, .int .i64 m] w fun e w' => GivesRow w.heap.size w 3 .i64 (zs.take m) e w' := by
  subst hn
  cases A with
  | none =>
    obtain rfl : c = 0 := hA rfl
    obtain rfl : zs = [] := List.eq_nil_of_length_eq_zero (by omega)
    rw [List.take_nil]
    exact Ints_none m w hm
  | some x => exact Ints_some x c m zs w hz hm hcap hr
theorem Few_any (A : Option Addr) (n c m : Nat) (zs : List Int) (w : World) (hn : n = zs.length) (hz : zs.length ≤ maxLen) (hm : m ≤ 1000000) (hcap : zs.length ≤ c) (hA : A = none → c = 0) (hr : RdI w w.heap.size .u8 A zs) :
    Calls Try.prog 16 #[.slice A n c, .int .i64 m] w fun e w' => GivesRow w.heap.size w 5 .u8 (zs.take m) e w' := by
  subst hn
  cases A with
  | none =>
    obtain rfl : c = 0 := hA rfl
    obtain rfl : zs = [] := List.eq_nil_of_length_eq_zero (by omega)
    rw [List.take_nil]
    exact Few_none m w hm
  | some x => exact Few_some x c m zs w hz hm hcap hr

theorem RdI.mono {w : World} {B B2 : Nat} {k : IntKind} {A : Option Addr} {zs : List Int} (h : RdI w B k A zs) (hB : B ≤ B2) : RdI w B2 k A zs := by
  rcases h with h | ⟨b, o, e, hb, hc⟩
  · exact .inl h
  · exact .inr ⟨b, o, e, by omega, hc⟩

theorem below_drewN {B : Nat} {a w : World} (h : Below B a w) (n : Nat) : Below B a (w.drewN n) := ⟨h.os, h.tape, h.output, h.size, h.block⟩

set_option maxHeartbeats 1000000 in
theorem SameInts_eq (A1 A2 : Option Addr) (n c1 c2 : Nat) (zs1 zs2 : List Int) (w : World) (h1 : zs1.length = n) (h2 : zs2.length = n) (hn : n ≤ 140737488351232) (hr1 : RdI w w.heap.size .i64 A1 zs1) (hr2 : RdI w w.heap.size .i64 A2 zs2) :
    Calls Try.prog 24 #[.slice A1 n c1, .slice A2 n c2] w fun e w' => e = .returned (.bool (decide (zs1 = zs2))) ∧ Below w.heap.size w w' := by
  have H1 := Lib.hid h1
  have H2 := Lib.hid h2
  clear h1 h2
  go_enter Try.func24, Try.ntmps24
  go_wp2
  go_loopw [5] (fun i wr => ∃ k : Nat, k ≤ n ∧ i = .int .i64 k ∧ Hid (zs1.take k = zs2.take k) ∧ Below w.heap.size w wr) (fun i _ => n - (intOf i).toNat)
  case atStart => exact ⟨0, Nat.zero_le _, rfl, Lib.hid rfl, Below.refl _ _⟩
  case round =>
    obtain ⟨k, hk, rfl, ht, hW⟩ := hrel
    by_cases hlt : k < n
    · obtain ⟨b1, o1, rfl, hb1, hc1⟩ : ∃ b o, A1 = some ⟨b, o, none⟩ ∧ b < w.heap.size ∧ ∀ j, j < zs1.length → w.cell? ⟨b, o + j, none⟩ = some (.int .i64 (zs1[j]?.getD 0)) := by
        rcases hr1 with e | h
        · have := H1.out; rw [e] at this; simp at this; omega
        · exact h
      obtain ⟨b2, o2, rfl, hb2, hc2⟩ : ∃ b o, A2 = some ⟨b, o, none⟩ ∧ b < w.heap.size ∧ ∀ j, j < zs2.length → w.cell? ⟨b, o + j, none⟩ = some (.int .i64 (zs2[j]?.getD 0)) := by
        rcases hr2 with e | h
        · have := H2.out; rw [e] at this; simp at this; omega
        · exact h
      have hk1 := (hW.cell (p := ⟨b1, o1 + k, none⟩) hb1).trans (hc1 k (by rw [H1.out]; exact hlt))
      have hk2 := (hW.cell (p := ⟨b2, o2 + k, none⟩) hb2).trans (hc2 k (by rw [H2.out]; exact hlt))
      have s1 := take_snoc (zs := zs1) (k := k) (by rw [H1.out]; exact hlt)
      have s2 := take_snoc (zs := zs2) (k := k) (by rw [H2.out]; exact hlt)
      obtain ⟨x, hx⟩ : ∃ x, x = zs1[k]?.getD 0 := ⟨_, rfl⟩
      obtain ⟨y, hy⟩ : ∃ y, y = zs2[k]?.getD 0 := ⟨_, rfl⟩
      rw [← hx] at hk1 s1
      rw [← hy] at hk2 s2
      have S1 := Lib.hid s1
      have S2 := Lib.hid s2
      clear hx hy hc1 hc2 hr1 hr2 s1 s2
      by_cases hxy : x = y
      · subst hxy
        go_wp2
        go_quiet (fail)
        go_wp2
        go_roundw
        case rel => exact ⟨k + 1, by omega, by go_num, Lib.hid (by rw [S1.out, S2.out, ht.out]), below_drewN hW _⟩
        case measure => simp [intOf]; omega
      · have hne : (x != y) = true := by simpa using hxy
        have hne2 : (x == y) = false := by simpa using hxy
        have hz : Hid (decide (zs1 = zs2) = false) := Lib.hid (decide_eq_false (fun e => hxy (by
          have := S1.out
          rw [e, S2.out] at this
          simpa using (List.append_inj' this rfl).2.symm)))
        clear hxy
        go_wp2
        go_quiet (fail)
        go_wp2
        go_ret
        exact ⟨by rw [hz.out]; rfl, below_drewN hW _⟩
    · obtain rfl : k = n := by omega
      have hz : Hid (decide (zs1 = zs2) = true) := Lib.hid (decide_eq_true (by
        have := ht.out
        rw [List.take_of_length_le (by rw [H1.out]; omega), List.take_of_length_le (by rw [H2.out]; omega)] at this
        exact this))
      go_wp2
      go_ret
      exact ⟨by rw [hz.out]; rfl, hW⟩

set_option maxHeartbeats 1000000 in
theorem SameBytes_eq (A1 A2 : Option Addr) (n c1 c2 : Nat) (zs1 zs2 : List Int) (w : World) (h1 : zs1.length = n) (h2 : zs2.length = n) (hn : n ≤ 140737488351232) (hr1 : RdI w w.heap.size .u8 A1 zs1) (hr2 : RdI w w.heap.size .u8 A2 zs2) :
    Calls Try.prog 22 #[.slice A1 n c1, .slice A2 n c2] w fun e w' => e = .returned (.bool (decide (zs1 = zs2))) ∧ Below w.heap.size w w' := by
  have H1 := Lib.hid h1
  have H2 := Lib.hid h2
  clear h1 h2
  go_enter Try.func22, Try.ntmps22
  go_wp2
  go_loopw [5] (fun i wr => ∃ k : Nat, k ≤ n ∧ i = .int .i64 k ∧ Hid (zs1.take k = zs2.take k) ∧ Below w.heap.size w wr) (fun i _ => n - (intOf i).toNat)
  case atStart => exact ⟨0, Nat.zero_le _, rfl, Lib.hid rfl, Below.refl _ _⟩
  case round =>
    obtain ⟨k, hk, rfl, ht, hW⟩ := hrel
    by_cases hlt : k < n
    · obtain ⟨b1, o1, rfl, hb1, hc1⟩ : ∃ b o, A1 = some ⟨b, o, none⟩ ∧ b < w.heap.size ∧ ∀ j, j < zs1.length → w.cell? ⟨b, o + j, none⟩ = some (.int .u8 (zs1[j]?.getD 0)) := by
        rcases hr1 with e | h
        · have := H1.out; rw [e] at this; simp at this; omega
        · exact h
      obtain ⟨b2, o2, rfl, hb2, hc2⟩ : ∃ b o, A2 = some ⟨b, o, none⟩ ∧ b < w.heap.size ∧ ∀ j, j < zs2.length → w.cell? ⟨b, o + j, none⟩ = some (.int .u8 (zs2[j]?.getD 0)) := by
        rcases hr2 with e | h
        · have := H2.out; rw [e] at this; simp at this; omega
        · exact h
      have hk1 := (hW.cell (p := ⟨b1, o1 + k, none⟩) hb1).trans (hc1 k (by rw [H1.out]; exact hlt))
      have hk2 := (hW.cell (p := ⟨b2, o2 + k, none⟩) hb2).trans (hc2 k (by rw [H2.out]; exact hlt))
      have s1 := take_snoc (zs := zs1) (k := k) (by rw [H1.out]; exact hlt)
      have s2 := take_snoc (zs := zs2) (k := k) (by rw [H2.out]; exact hlt)
      obtain ⟨x, hx⟩ : ∃ x, x = zs1[k]?.getD 0 := ⟨_, rfl⟩
      obtain ⟨y, hy⟩ : ∃ y, y = zs2[k]?.getD 0 := ⟨_, rfl⟩
      rw [← hx] at hk1 s1
      rw [← hy] at hk2 s2
      have S1 := Lib.hid s1
      have S2 := Lib.hid s2
      clear hx hy hc1 hc2 hr1 hr2 s1 s2
      by_cases hxy : x = y
      · subst hxy
        go_wp2
        go_quiet (fail)
        go_wp2
        go_roundw
        case rel => exact ⟨k + 1, by omega, by go_num, Lib.hid (by rw [S1.out, S2.out, ht.out]), below_drewN hW _⟩
        case measure => simp [intOf]; omega
      · have hne : (x != y) = true := by simpa using hxy
        have hne2 : (x == y) = false := by simpa using hxy
        have hz : Hid (decide (zs1 = zs2) = false) := Lib.hid (decide_eq_false (fun e => hxy (by
          have := S1.out
          rw [e, S2.out] at this
          simpa using (List.append_inj' this rfl).2.symm)))
        clear hxy
        go_wp2
        go_quiet (fail)
        go_wp2
        go_ret
        exact ⟨by rw [hz.out]; rfl, below_drewN hW _⟩
    · obtain rfl : k = n := by omega
      have hz : Hid (decide (zs1 = zs2) = true) := Lib.hid (decide_eq_true (by
        have := ht.out
        rw [List.take_of_length_le (by rw [H1.out]; omega), List.take_of_length_le (by rw [H2.out]; omega)] at this
        exact this))
      go_wp2
      go_ret
      exact ⟨by rw [hz.out]; rfl, hW⟩

/-- what the row's frame says of a slice of integers that came in, in my words -/
theorem row_rd {w : World} {k : IntKind} {A : Option Addr} {len cap : Nat} {zs : List Int}
    (h : (A = none ∧ len = 0 ∧ cap = 0 ∧ zs = []) ∨ ∃ x, A = some x ∧ len ≤ cap ∧ cap ≤ maxLen ∧ zs.length = cap ∧ (∀ i, i < zs.length → w.cell? (x.add i) = some (.int k (zs.getD i 0))) ∧ ∀ n ∈ zs, (Lit.int k n).wf = true) :
    ∃ l : List Int, len = l.length ∧ l.length ≤ maxLen ∧ l.length ≤ cap ∧ (A = none → cap = 0) ∧ RdI w w.heap.size k A l ∧ ∀ n ∈ l, (Lit.int k n).wf = true := by
  rcases h with ⟨rfl, rfl, rfl, rfl⟩ | ⟨x, rfl, hl, hm, hz, hc, hwf⟩
  · exact ⟨[], rfl, Nat.zero_le _, Nat.le_refl _, fun _ => rfl, .inl rfl, by simp⟩
  · have hlen : (zs.take len).length = len := by rw [List.length_take]; omega
    refine ⟨zs.take len, hlen.symm, by omega, by omega, (fun h => nomatch h), ?_, fun n hn => hwf n (List.mem_of_mem_take hn)⟩
    by_cases h0 : len = 0
    · left; rw [h0]; rfl
    · right
      obtain ⟨b, o, rfl, hcell⟩ := ints_at hc (by omega)
      refine ⟨b, o, rfl, World.block_lt_of_cell? _ _ (hcell 0 (by omega)), fun j hj => ?_⟩
      rw [hlen] at hj
      rw [hcell j (by omega), List.getElem?_take_of_lt hj, List.getD_eq_getElem?_getD]
end Go.Proofs.Ytkogodkhhpodnaa
