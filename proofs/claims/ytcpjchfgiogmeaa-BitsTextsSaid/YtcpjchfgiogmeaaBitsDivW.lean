/-
  THE WALK of the reference's divided, continued.
-/
import Derived.Test.YtcpjchfgiogmeaaBitsDiv
namespace Go.Proofs.Ytcpjchfgiogmeaa
open Go.RowKit

def DivPost (w : World) (n : Nat) (q r : List Bool) (e : Ending) (w' : World) : Prop :=
  ∃ A1 c1 A2 c2, e = .returned (.tuple #[.slice A1 n c1, .slice A2 n c2]) ∧ RdB w' w'.heap.size A1 q ∧ RdB w' w'.heap.size A2 r ∧ Below w.heap.size w w'

set_option maxRecDepth 100000 in
set_option maxHeartbeats 4000000 in
theorem bdivided_any (A1 A2 : Option Addr) (n c1 c2 : Nat) (a b : List Bool) (w : World) (ha : a.length = n) (hb : b.length = n) (h1 : 1 ≤ n) (h64 : n ≤ 64) (hc2 : n ≤ c2) (hr1 : RdB w w.heap.size A1 a) (hr2 : RdB w w.heap.size A2 b) :
    Calls Try.prog 48 #[.slice A1 n c1, .slice A2 n c2] w (DivPost w n (bitsL n (divQ n (ofL a) (ofL b))) (bitsL n (divR (ofL a) (ofL b)))) := by
  obtain ⟨i0, hi, hz0, hz1, hz2⟩ := info_parts info_bool
  have HA := Lib.hid ha
  have HB := Lib.hid hb
  have hA2 : A2 = none → c2 = 0 := fun h => by
    subst h
    rcases hr2 with h | ⟨_, _, e, _⟩
    · rw [h] at hb; simp at hb; omega
    · cases e
  have cZ : ∀ W, Calls Try.prog 33 #[.int .i64 n] W fun e w' => GivesB W.heap.size W (List.replicate n false) e w' := fun W => bzero_any n W (by omega)
  have cZ1 : ∀ W, Calls Try.prog 33 #[.int .i64 ((n : Int) + 1)] W fun e w' => GivesB W.heap.size W (List.replicate (n + 1) false) e w' := fun W => bzero_any (n + 1) W (by omega)
  have HRA := Lib.hid hr1
  have HRB := Lib.hid hr2
  clear ha hb hr1 hr2
  go_enter Try.func48, Try.ntmps48
  go_wp2_with (first
    | (go_at_call 33; refine (cZ w).mono ?_; clear cZ; rintro e w1 ⟨A, c, rfl, hrow, hb1⟩; rw [List.length_replicate] at hrow ⊢; have HQ := Lib.hid hrow; have hrb := (HRB.out.below (hb1.trans ((Below.refl _ w1).alloc hb1.size (.cells #[] 4)))).mono (Nat.le_trans hb1.size (by simp : w1.heap.size ≤ (w1.alloc (.cells #[] 4)).heap.size)))
    | (at_builtin; refine wpList_append_b _ rfl (.tmp 16) (.tmp 17) 52 rfl w1.heap.size 4 i0 (.bool false) 1 1 Try.underlying52 hi hz0 hz1 hz2 rfl rfl (by decide) _ 0 [] rfl (mt_own w1 _) A2 n c2 b rfl HB.out.symm hA2 (by rw [HB.out]; exact hc2) hrb (by unfold maxLen; omega) (by omega) (by simp) ?_; intro v2 w2 hown2 hgrow2; rw [Nat.zero_add, List.nil_append] at hown2; obtain ⟨A3, c3, rfl⟩ := sl_own hown2)
    | (at_builtin; refine wpList_append_own _ rfl (.tmp 18) (.tmp 19) 52 rfl w1.heap.size 4 i0 (.bool false) 1 1 Try.underlying52 hi hz0 hz1 hz2 rfl (by decide) _ n _ rfl (hown2.alloc _) ⟨w2.heap.size, 0, none⟩ 1 1 [.bool false] rfl rfl (cell_one_new _ _ _) (by simp [Value.oneCell']) (by unfold maxLen; omega) (by omega) (by have := hgrow2.size; simp at this ⊢; omega) ?_; intro v3 w3 hown3 hgrow3 _; obtain ⟨A4, c4, rfl⟩ := sl_own hown3)
    | (go_at_call 33; refine (cZ1 w3).mono ?_; clear cZ1; rintro e w4 ⟨A5, c5, rfl, hrow5, hb4⟩; rw [List.length_replicate] at hrow5 ⊢))
  obtain ⟨g, rfl, hg1, hg2, _⟩ := own_block hrow h1
  have s1 := hb1.size
  have hB2 : Below w1.heap.size w1 w2 := ((Below.refl _ w1).alloc (Nat.le_refl _) _).grown hgrow2 (by simp) (fun j ej => ((mt_own w1 4).lt j ej).1)
  have s2 := hB2.size
  have hB3 : Below w1.heap.size w1 w3 := (hB2.alloc s2 _).grown hgrow3 (by simp; omega) (fun j ej => (hown2.lt j ej).1)
  have s3 := hB3.size
  have hB4 : Below w1.heap.size w1 w4 := hB3.trans (hb4.mono s3)
  have hq0 := own_below hrow hB4
  have hwide := own_below hown3 hb4
  rw [show b.map Value.bool ++ [Value.bool false] = (b ++ [false]).map Value.bool by simp] at hwide
  have hW4 : Below w.heap.size w w4 := hb1.trans (hB4.mono s1)
  have hcap5 := own_cap hrow5
  have hr5 := rdb_own hrow5
  clear hrow hown2 hown3 hgrow2 hgrow3 hB2 hB3 hB4 hb1 hb4 HQ hrb hrow5
  go_loopw [9, 10] (fun v i wr => ∃ (k : Nat) (z : Int) (A : Option Addr) (c' : Nat) (r top : List Bool), k ≤ n ∧ z = (k : Int) - 1 ∧ i = .int .i64 z ∧ v = .slice A (n + 1) c' ∧ n + 1 ≤ c' ∧ Hid (r.length = n + 1) ∧ Hid (top.length + k = n) ∧ Hid (0 < ofL b → ofL r = ofL (a.drop k) % ofL b ∧ ofL top = ofL (a.drop k) / ofL b) ∧ RdB wr wr.heap.size A r ∧ wr.ownsRow w.heap.size 4 1 (.slice (some ⟨g, 0, none⟩) n c) n ((List.replicate k false ++ top).map Value.bool) ∧ wr.ownsRow w1.heap.size 4 1 (.slice A4 (n + 1) c4) (n + 1) ((b ++ [false]).map Value.bool) ∧ Below w.heap.size w wr) (fun _ i _ => (intOf i + 1).toNat)
  case atStart => exact ⟨n, _, A5, c5, _, [], Nat.le_refl _, rfl, rfl, rfl, hcap5, Lib.hid (by simp), Lib.hid (by simp), Lib.hid (fun _ => by rw [List.drop_eq_nil_of_le (by rw [HA.out]; exact Nat.le_refl _), ofL_replicate]; simp [ofL]), hr5, by rw [List.append_nil]; exact hq0, hwide, hW4⟩
  case round =>
    clear hq0 hwide hW4 hr5 hcap5
    obtain ⟨k, z, A6, c6, r, top, hk, hz, rfl, rfl, hc6, hrl, htl, hinv, hrr, hq, hwd, hW⟩ := hrel
    cases k with
    | zero =>
      obtain rfl : z = -1 := by omega
      have hsz := hW.size
      have hzl : (List.replicate n false).length = n := by simp
      have hz0v : ofL (List.replicate n false) = 0 := by rw [ofL_replicate]; simp
      have cZ : ∀ W, Calls Try.prog 33 #[.int .i64 n] W fun e w' => GivesB W.heap.size W (List.replicate n false) e w' := fun W => bzero_any n W (by omega)
      have cL : ∀ W A c, Below wr.heap.size wr W → RdB W W.heap.size A (List.replicate n false) → Calls Try.prog 51 #[.slice A n c, .slice A2 n c2] W fun e w' => e = .returned (.bool (decide (0 < ofL b))) ∧ Below W.heap.size W w' := fun W A c hB hr => by
        have := bless_any A A2 n c n c2 (List.replicate n false) b W hzl.symm HB.out.symm (by rw [hzl, HB.out]) (by rw [hzl]; omega) hr ((((HRB.out.below hW).mono hsz).below hB).mono hB.size)
        rwa [hz0v] at this
      have HRW := Lib.hid (HRA.out.below hW)
      by_cases h0 : ofL b = 0
      · obtain ⟨hd1, hd2⟩ := div_zero HA.out h0
        rw [decide_eq_false (by omega)] at cL
        have hfl : ((List.replicate n false).map (!·)).length = n := by simp
        have cF : ∀ W A c, RdB W W.heap.size A (List.replicate n false) → Calls Try.prog 34 #[.slice A n c] W fun e w' => GivesB W.heap.size W ((List.replicate n false).map (!·)) e w' := fun W A c hr =>
          bflip_any A n c _ W hzl.symm (by rw [hzl]; omega) hr
        generalize (List.replicate n false).map (!·) = fl at cF hfl hd1
        generalize List.replicate n false = zl at cZ cL cF hzl
        have HZL := Lib.hid hzl
        have HFL := Lib.hid hfl
        have HD1 := Lib.hid hd1
        have HD2 := Lib.hid hd2
        clear hd1 hd2 hzl hfl hz0v h0 hz hinv hrr hq hwd hrl htl hk
        go_wp2_with (first
          | (go_at_call 33; refine (cZ wr).mono ?_; rintro e w5 ⟨A7, c7, rfl, hrow7, hb5⟩; rw [HZL.out] at hrow7 ⊢; have hr7 := rdb_own hrow7)
          | (go_at_call 51; refine (cL w5 A7 c7 hb5 hr7).mono ?_; clear cL; rintro e w6 ⟨rfl, hb6⟩)
          | (go_at_call 33; refine (cZ w6).mono ?_; rintro e w7 ⟨A8, c8, rfl, hrow8, hb7⟩; rw [HZL.out] at hrow8 ⊢; have hr8 := rdb_own hrow8)
          | (go_at_call 34; refine (cF w7 A8 c8 hr8).mono ?_; clear cF; rintro e w8 ⟨A9, c9, rfl, hrow9, hb8⟩; rw [HFL.out] at hrow9 ⊢))
        go_ret2
        have s5 := hb5.size
        have s6 := hb6.size
        have s7 := hb7.size
        have hB := ((hb5.trans (hb6.mono s5)).trans (hb7.mono (Nat.le_trans s5 s6))).trans (hb8.mono (Nat.le_trans s5 (Nat.le_trans s6 s7)))
        have hBw := hW.trans (hB.mono hsz)
        exact ⟨A9, c9, A1, c1, rfl, by rw [← HD1.out]; exact rdb_own hrow9, by rw [← HD2.out]; exact (HRA.out.below hBw).mono hBw.size, hBw⟩
      · have hinv0 := hinv.out (by omega)
        rw [List.drop_zero] at hinv0
        obtain ⟨hd1, hd2⟩ := div_end HA.out HB.out (by have := htl.out; omega) (by omega) hinv0
        have hd3 : r.take n = bitsL n (divR (ofL a) (ofL b)) := eq_bits (by rw [List.length_take, hrl.out]; omega) hd2
        rw [decide_eq_true (by omega)] at cL
        generalize List.replicate n false = zl at cZ cL hzl
        have HZL := Lib.hid hzl
        have HD1 := Lib.hid hd1
        have HD3 := Lib.hid hd3
        rw [List.replicate_zero, List.nil_append] at hq
        have hrr0 := hrr
        obtain ⟨p, o, rfl, hp, _⟩ := hrr.at_ (j := 0) (by rw [hrl.out]; omega)
        have hpart := hrr0.part 0 n
        rw [List.drop_zero, Nat.add_zero] at hpart
        have hne : c6 ≠ n := by omega
        clear hd1 hd2 hd3 hzl hz0v hz hinv hinv0 hrr hrr0 hwd htl hk h0
        go_wp2_with (first
          | (go_at_call 33; refine (cZ wr).mono ?_; rintro e w5 ⟨A7, c7, rfl, hrow7, hb5⟩; rw [HZL.out] at hrow7 ⊢; have hr7 := rdb_own hrow7)
          | (go_at_call 51; refine (cL w5 A7 c7 hb5 hr7).mono ?_; clear cL; rintro e w6 ⟨rfl, hb6⟩))
        go_quiet (fail)
        go_wp2
        go_ret2
        have s5 := hb5.size
        have hB := hb5.trans (hb6.mono s5)
        exact ⟨_, _, _, _, rfl, by rw [← HD1.out]; exact rdb_own (own_drewN (own_below hq hB) _), by rw [← HD3.out]; exact (hpart.below (below_drewN hB _)).mono hB.size, below_drewN (hW.trans (hB.mono hsz)) _⟩
    | succ j =>
      obtain rfl : z = (j : Int) := by omega
      have hja : j < a.length := by rw [HA.out]; omega
      obtain ⟨p, o, rfl, hp, hc⟩ := (HRA.out.below hW).at_ hja
      have hcj := hc j hja
      rw [List.getElem?_eq_getElem hja, Option.getD_some] at hcj
      have hsz := hW.size
      have hpw : p < wr.heap.size := by omega
      have HST := Lib.hid (div_bits hja HB.out hrl.out hinv.out)
      have cM := bmoved_any A6 (n + 1) c6 r 1 a[j] wr hrl.out.symm (by rw [hrl.out]; omega) (by omega) (by omega) hrr
      have hml : Hid ((movedL r 1 a[j]).length = n + 1) := Lib.hid (by rw [movedL_length, hrl.out])
      clear hc hinv hz hrr
      generalize a[j] = x at hcj HST cM hml
      generalize movedL r 1 x = r1 at HST cM hml
      have hwl : Hid ((b ++ [false]).length = n + 1) := Lib.hid (by simp [HB.out])
      have hfl : Hid (((b ++ [false]).map (!·)).length = n + 1) := Lib.hid (by rw [List.length_map, hwl.out])
      have hpl : Hid ((plusL r1 ((b ++ [false]).map (!·)) true).length = n + 1) := Lib.hid (by rw [plusL_length _ _ _ (by rw [hml.out, hfl.out]), hml.out])
      have hwdr := rdb_own hwd
      have cL : ∀ W A c, Below wr.heap.size wr W → RdB W W.heap.size A r1 → Calls Try.prog 51 #[.slice A (n + 1) c, .slice A4 (n + 1) c4] W fun e w' => e = .returned (.bool (decide (ofL r1 < ofL (b ++ [false])))) ∧ Below W.heap.size W w' := fun W A c hB hr =>
        bless_any A A4 (n + 1) c (n + 1) c4 r1 _ W hml.out.symm hwl.out.symm (by rw [hml.out, hwl.out]) (by rw [hml.out]; omega) hr ((hwdr.below hB).mono hB.size)
      have cF : ∀ W, Below wr.heap.size wr W → Calls Try.prog 34 #[.slice A4 (n + 1) c4] W fun e w' => GivesB W.heap.size W ((b ++ [false]).map (!·)) e w' := fun W hB =>
        bflip_any A4 (n + 1) c4 _ W hwl.out.symm (by rw [hwl.out]; omega) ((hwdr.below hB).mono hB.size)
      have cP : ∀ W A c A' c', RdB W W.heap.size A r1 → RdB W W.heap.size A' ((b ++ [false]).map (!·)) → Calls Try.prog 40 #[.slice A (n + 1) c, .slice A' (n + 1) c', .bool true] W fun e w' => GivesB W.heap.size W (plusL r1 ((b ++ [false]).map (!·)) true) e w' := fun W A c A' c' hr hr' =>
        bplus_any A A' (n + 1) c (n + 1) c' r1 _ true W hml.out.symm hfl.out.symm (by rw [hml.out, hfl.out]) (by rw [hml.out]; omega) hr hr'
      by_cases hs : ofL r1 < ofL (b ++ [false])
      · have HI := Lib.hid (HST.out.1 hs)
        rw [decide_eq_true hs] at cL
        clear HST hs cF cP
        go_wp2_with (first
          | (go_at_call 35; refine cM.mono ?_; clear cM; rintro e w5 ⟨A7, c7, rfl, hrow7, hb5⟩; rw [hml.out] at hrow7 ⊢; have hr7 := rdb_own hrow7)
          | (go_at_call 51; refine (cL w5 A7 c7 hb5 hr7).mono ?_; clear cL; rintro e w6 ⟨rfl, hb6⟩))
        have hB := hb5.trans (hb6.mono hb5.size)
        go_roundw
        case rel => exact ⟨j, (j : Int) - 1, A7, c7, r1, false :: top, by omega, rfl, by go_num, rfl, own_cap hrow7, hml, Lib.hid (by have := htl.out; simp; omega), HI, (hr7.below hb6).mono hb6.size, by rw [← keep_top]; exact own_below hq hB, own_below hwd hB, hW.trans (hB.mono hsz)⟩
        case measure => simp [intOf]
      · have HI := Lib.hid (HST.out.2 hs)
        rw [decide_eq_false hs] at cL
        clear HST hs
        generalize (b ++ [false]).map (!·) = fb at cF cP hfl hpl HI
        generalize plusL r1 fb true = r2 at cP hpl HI
        have hgw := (hq.lt g rfl).2
        go_wp2_with (first
          | (go_at_call 35; refine cM.mono ?_; clear cM; rintro e w5 ⟨A7, c7, rfl, hrow7, hb5⟩; rw [hml.out] at hrow7 ⊢; have hr7 := rdb_own hrow7)
          | (go_at_call 51; refine (cL w5 A7 c7 hb5 hr7).mono ?_; clear cL; rintro e w6 ⟨rfl, hb6⟩; have hB6 := hb5.trans (hb6.mono hb5.size); have hr76 := (hr7.below hb6).mono hb6.size)
          | (go_at_call 34; refine (cF w6 hB6).mono ?_; clear cF; rintro e w7 ⟨A8, c8, rfl, hrow8, hb7⟩; rw [hfl.out] at hrow8 ⊢; have hr8 := rdb_own hrow8; have hr77 := (hr76.below hb7).mono hb7.size)
          | (go_at_call 40; refine (cP w7 A7 c7 A8 c8 hr77 hr8).mono ?_; clear cP; rintro e w8 ⟨A9, c9, rfl, hrow9, hb8⟩; rw [hpl.out] at hrow9 ⊢; have hB8 := (hB6.trans (hb7.mono hB6.size)).trans (hb8.mono (Nat.le_trans hB6.size hb7.size)); have hq8 := own_below hq hB8; have hcg := hq8.cellAt j (by omega); rw [show ((List.replicate (j + 1) false ++ top).map Value.bool)[j]? = some (.bool false) by simp [List.getElem?_append]] at hcg; have hfz := hq8.frozenAt j; have hB8h := Lib.hid hB8; clear hB8))
        have s5 := hb5.size
        have s6 := hb6.size
        have s7 := hb7.size
        have hB8 := hB8h.out
        have hqs := (hq8.stored j (.bool true)).1
        rw [show ((List.replicate (j + 1) false ++ top).map Value.bool).set j (.bool true) = (List.replicate j false ++ true :: top).map Value.bool by rw [← set_top, List.map_set]] at hqs
        have hrow9s := hp_own (W' := w8.setCell ⟨g, j, none⟩ (.bool true)) hrow9 (fun i hi _ => Below.heap_setCell w8 _ _ i (by simp; omega))
        have hwds := hp_own (W' := w8.setCell ⟨g, j, none⟩ (.bool true)) (own_below hwd hB8) (fun i hi _ => Below.heap_setCell w8 _ _ i (by simp; omega))
        go_roundw
        case rel => exact ⟨j, (j : Int) - 1, A9, c9, r2, true :: top, by omega, rfl, by go_num, rfl, own_cap hrow9, hpl, Lib.hid (by have := htl.out; simp; omega), HI, rdb_own hrow9s, hqs, hwds, (hW.trans (hB8.mono hsz)).setCell (by simpa using hg1) _⟩
        case measure => simp [intOf]
end Go.Proofs.Ytcpjchfgiogmeaa
