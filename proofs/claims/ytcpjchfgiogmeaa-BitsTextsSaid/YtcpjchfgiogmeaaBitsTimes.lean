/-
  THE WALKS of the reference's bit lists, further: times, places.
-/
import Derived.Test.YtcpjchfgiogmeaaBitsPlus
namespace Go.Proofs.Ytcpjchfgiogmeaa
open Go.RowKit

theorem eq_bits {l : List Bool} {n v : Nat} (hl : l.length = n) (h : ofL l = v % 2 ^ n) : l = bitsL n v :=
  ofL_inj (by rw [hl, bitsL_length]) (by rw [h, ofL_bitsL])
theorem times_bit {a b o : List Bool} {k : Nat} (hk : k < b.length) (_ : a.length = b.length) (ho : o = bitsL a.length (ofL a * ofL (b.take k))) (hx : b[k] = true) :
    plusL o (movedL a (k : Nat) false) false = bitsL a.length (ofL a * ofL (b.take (k + 1))) := by
  have hol : o.length = a.length := by rw [ho, bitsL_length]
  have hml : o.length = (movedL a (k : Nat) false).length := by rw [movedL_length, hol]
  apply eq_bits
  · rw [plusL_length _ _ _ hml, hol]
  · rw [ofL_plus _ _ _ hml, ofL_up, hol, take_bit b hk, hx]
    have h0 : ofL o = (ofL a * ofL (b.take k)) % 2 ^ a.length := by rw [ho, ofL_bitsL]
    have := times_step (A := ofL a) (P := 2 ^ a.length) (m := ofL (b.take k)) (o := ofL o) (i := k) (x := true) h0
    simpa using this
theorem times_skip {a b o : List Bool} {k : Nat} (hk : k < b.length) (ho : o = bitsL a.length (ofL a * ofL (b.take k))) (hx : b[k] = false) :
    o = bitsL a.length (ofL a * ofL (b.take (k + 1))) := by
  rw [take_bit b hk, hx, ho]
  simp
theorem zeros_bits (n v : Nat) (hv : v = 0) : List.replicate n false = bitsL n v := by
  subst hv
  exact eq_bits (by simp) (by rw [ofL_replicate]; simp)

set_option maxHeartbeats 2000000 in
theorem btimes_any (A1 A2 : Option Addr) (n1 c1 n2 c2 : Nat) (a b : List Bool) (w : World) (hn1 : n1 = a.length) (hn2 : n2 = b.length) (hab : a.length = b.length) (h64 : a.length ≤ 65) (hr1 : RdB w w.heap.size A1 a) (hr2 : RdB w w.heap.size A2 b) :
    Calls Try.prog 47 #[.slice A1 n1 c1, .slice A2 n2 c2] w fun e w' => GivesB w.heap.size w (bitsL a.length (ofL a * ofL b)) e w' := by
  subst hn1 hn2
  have cZ := bzero_any a.length w h64
  have cM : ∀ k W, k ≤ 64 → RdB W W.heap.size A1 a → Calls Try.prog 35 #[.slice A1 a.length c1, .int .i64 (k : Nat), .bool false] W fun e w' => GivesB W.heap.size W (movedL a (k : Nat) false) e w' := fun k W hk hr =>
    bmoved_any A1 a.length c1 a k false W rfl h64 (by omega) (by omega) hr
  have HAB := Lib.hid hab
  have hb64 : b.length ≤ 65 := by omega
  clear hab
  go_enter Try.func47, Try.ntmps47
  go_wp2_with (go_at_call 33; refine cZ.mono ?_; clear cZ; rintro e w1 ⟨A, c, rfl, hrow0, hb1⟩)
  simp only [List.length_replicate] at hrow0 ⊢
  go_loopw [5, 6] (fun v i wr => ∃ (k : Nat) (A : Option Addr) (c : Nat) (o : List Bool), k ≤ b.length ∧ i = .int .i64 k ∧ v = .slice A a.length c ∧ Hid (o = bitsL a.length (ofL a * ofL (b.take k))) ∧ Hid (o.length = a.length) ∧ wr.ownsRow w.heap.size 4 1 (.slice A a.length c) a.length (o.map Value.bool) ∧ Below w.heap.size w wr) (fun _ i _ => b.length - (intOf i).toNat)
  case atStart => exact ⟨0, A, c, _, Nat.zero_le _, rfl, rfl, Lib.hid (zeros_bits _ _ (by simp [ofL])), Lib.hid (by simp), hrow0, hb1⟩
  case round =>
    obtain ⟨k, A', c', o, hk, rfl, rfl, ho, hol, hrow, hW⟩ := hrel
    have hsz := hW.size
    by_cases h : k < b.length
    · obtain ⟨q, o2, rfl, hb2, hc2⟩ := hr2.at_ h
      have h02 := hc2 k h
      rw [List.getElem?_eq_getElem h, Option.getD_some] at h02
      have hck2 := (hW.cell (p := ⟨q, o2 + k, none⟩) hb2).trans h02
      have hT := Lib.hid (times_bit h HAB.out ho.out)
      have hF := Lib.hid (times_skip h ho.out)
      have hq : q < wr.heap.size := by omega
      have hra := hr1.below hW
      have hro := rdb_own hrow
      clear hc2 ho h02
      generalize b[k] = y at hck2 hT hF
      cases y
      · have hF2 := Lib.hid (hF.out rfl)
        clear hT hF
        go_wp2
        go_roundw
        case rel => exact ⟨k + 1, A', c', o, by omega, by congr 1 <;> omega, rfl, hF2, hol, hrow, hW⟩
        case measure => simp [intOf]; omega
      · have hT2 := Lib.hid (hT.out rfl)
        clear hF hT
        have hml : (movedL a (k : Nat) false).length = a.length := movedL_length _ _ _
        have cM2 := cM k wr (by omega) (hra.mono hsz)
        have cP : ∀ W A3 c3, Below wr.heap.size wr W → RdB W W.heap.size A3 (movedL a (k : Nat) false) → Calls Try.prog 40 #[.slice A' a.length c', .slice A3 a.length c3, .bool false] W fun e w' => GivesB W.heap.size W (plusL o (movedL a (k : Nat) false) false) e w' := fun W A3 c3 hWW hr3 =>
          bplus_any A' A3 a.length c' a.length c3 o _ false W hol.out.symm hml.symm (by rw [hol.out, hml]) (by rw [hol.out]; exact h64) ((hro.below hWW).mono hWW.size) hr3
        have hpl : (plusL o (movedL a (k : Nat) false) false).length = a.length := by rw [plusL_length _ _ _ (by rw [hol.out, hml]), hol.out]
        generalize movedL a (k : Nat) false = m at cM2 cP hT2 hml hpl
        generalize plusL o m false = pl at cP hT2 hpl
        clear cM
        have HML := Lib.hid hml
        have HPL := Lib.hid hpl
        clear hml hpl
        go_wp2_with (first
          | (go_at_call 35; refine cM2.mono ?_; clear cM2; rintro e w2 ⟨A3, c3, rfl, hrow3, hb3⟩; rw [HML.out] at hrow3 ⊢; have hr3 := rdb_own hrow3)
          | (go_at_call 40; refine (cP _ _ _ hb3 hr3).mono ?_; clear cP; rintro e w3 ⟨A4, c4, rfl, hrow4, hb4⟩; rw [HPL.out] at hrow4 ⊢))
        have s3 := hb3.size
        have hB := hW.trans (hb3.mono hsz) |>.trans (hb4.mono (Nat.le_trans hsz s3))
        go_roundw
        case rel => exact ⟨k + 1, A4, c4, pl, by omega, by congr 1 <;> omega, rfl, hT2, HPL, own_base hrow4 (by omega), hB⟩
        case measure => simp [intOf]; omega
    · go_wp2
      go_ret
      obtain rfl : k = b.length := by omega
      have e := ho.out
      rw [List.take_length] at e
      subst e
      exact gives_b rfl hol.out.symm hrow hW

set_option maxRecDepth 100000 in
set_option maxHeartbeats 1000000 in
theorem bplaces_any (A : Option Addr) (n c B : Nat) (b : List Bool) (w : World) (hn : n = b.length) (h64 : b.length ≤ 64) (hr : RdB w B A b) :
    Calls Try.prog 49 #[.slice A n c] w fun e w' => e = .returned (.int .i64 (min (ofL b) b.length : Nat)) ∧ w = w' := by
  subst hn
  go_enter Try.func49, Try.ntmps49
  go_wp2
  go_loop [3, 4] (fun v i => ∃ (k p : Nat) (z : Int), k ≤ b.length ∧ z = (k : Int) - 1 ∧ i = .int .i64 z ∧ v = .int .i64 p ∧ p ≤ 65 ∧ Hid ((ofL (b.drop k) < 64 → p = ofL (b.drop k)) ∧ (64 ≤ ofL (b.drop k) → 64 ≤ p ∧ p ≤ 65))) (fun _ i => (intOf i + 1).toNat)
  case atStart => exact ⟨b.length, 0, _, Nat.le_refl _, rfl, rfl, rfl, by omega, Lib.hid (by rw [List.drop_eq_nil_of_le (Nat.le_refl _)]; simp [ofL])⟩
  case round =>
    obtain ⟨k, p, z, hk, hz, rfl, rfl, hp, hP⟩ := hrel
    cases k with
    | zero =>
      obtain rfl : z = -1 := by omega
      have he := Lib.hid (places_end h64 hP.out.1 hP.out.2)
      clear hz hr hk hP
      by_cases hpl : p ≤ b.length
      · go_wp2
        go_ret
        exact ⟨by rw [List.drop_zero] at he; rw [← he.out, Nat.min_eq_left hpl]; rfl, rfl⟩
      · go_wp2
        go_ret
        exact ⟨by rw [List.drop_zero] at he; rw [← he.out, Nat.min_eq_right (by omega)]; rfl, rfl⟩
    | succ j =>
      obtain rfl : z = (j : Int) := by omega
      have hj : j < b.length := by omega
      obtain ⟨q, o, rfl, _, hc⟩ := hr.at_ hj
      have hcj := hc j hj
      have hd := drop_bit b hj
      rw [List.getElem?_eq_getElem hj, Option.getD_some] at hcj
      have HS := Lib.hid (places_step (toNat_le b[j]) hP.out.1 hP.out.2)
      rw [← hd] at HS
      clear hc hr hd hz hP
      generalize b[j] = x at hcj HS
      by_cases hp32 : p ≤ 32
      · cases x
        all_goals
          simp only [Bool.toNat_false, Bool.toNat_true] at HS
          go_wp2
          go_round
          case rel => exact ⟨j, min (2 * p) 64 + _, (j : Int) - 1, by omega, rfl, by go_num, by first | rfl | (congr 1; omega), by omega, HS⟩
          case measure => simp [intOf]
      · cases x
        all_goals
          simp only [Bool.toNat_false, Bool.toNat_true] at HS
          go_wp2
          go_round
          case rel => exact ⟨j, min (2 * p) 64 + _, (j : Int) - 1, by omega, rfl, by go_num, by first | rfl | (congr 1; omega), by omega, HS⟩
          case measure => simp [intOf]
end Go.Proofs.Ytcpjchfgiogmeaa
