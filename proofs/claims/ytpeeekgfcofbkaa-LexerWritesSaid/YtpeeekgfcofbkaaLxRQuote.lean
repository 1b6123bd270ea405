/-
  QUOTING: the reference's Quote. Written by gen/genlxrquote.py.
-/
import Derived.Test.YtpeeekgfcofbkaaLxQuote
namespace Go.Proofs.Ytpeeekgfcofbkaa
open Go.RowKit

theorem app_own {w : World} {base : Nat} {v : Value} {l r : List Int} (h : w.ownsRow base 5 1 v (l.length + r.length) (l.map (Value.int .u8) ++ r.map (Value.int .u8))) : w.ownsRow base 5 1 v (l ++ r).length ((l ++ r).map (Value.int .u8)) := by
  rw [List.length_append, List.map_append]
  exact h
theorem plain_check : ((List.range 256).all fun c => inR PLAIN ((c : Nat) : Int) == (decide (32 ≤ c) && decide (c ≤ 126) && !(c == 34) && !(c == 92))) = true := by kernel_rfl
theorem plain_in {c : Nat} (hc : c < 256) : inR PLAIN (c : Int) = (decide (32 ≤ c) && decide (c ≤ 126) && !(c == 34) && !(c == 92)) := by
  have h := List.all_eq_true.1 plain_check c (List.mem_range.2 hc)
  exact beq_iff_eq.1 h
set_option maxHeartbeats 8000000 in
set_option maxRecDepth 100000 in
theorem rQuote_any (s : ByteArray) (w : World) (hs : s.size ≤ 10000) : Calls Try.prog 19 #[.string s] w fun e w' => e = .returned (.string (strOfNums (quoteL (sb s)))) ∧ Below w.heap.size w w' := by
  obtain ⟨i0, hi, hz0, hz1, hz2⟩ := info_parts info_u8
  have hl := sb_length s
  have hr0 := rows_lit w [34] 1 rfl (by unfold maxLen; omega)
  have hB0 : Below w.heap.size w (w.alloc (.cells #[.int .u8 34] 5)) := (Below.refl _ _).alloc (Nat.le_refl _) _
  go_enter Try.func19, Try.ntmps19
  go_wp2_with fail
  go_loopw [4, 5] (fun cu i wr => ∃ (k : Nat) (L : List Int), i = .int .i64 (k : Int) ∧ k ≤ s.size ∧ Hid (L = 34 :: ((sb s).take k).flatMap qi) ∧ L.length ≤ 1 + 4 * k ∧ wr.ownsRow w.heap.size 5 1 cu L.length (L.map (Value.int .u8)) ∧ Below w.heap.size w wr) (fun _ i _ => s.size - (intOf i).toNat)
  case atStart => exact ⟨0, [34], rfl, Nat.zero_le _, Lib.hid rfl, by decide, hr0, hB0⟩
  case round =>
    obtain ⟨k, L, rfl, hk, hL, hLl, hrow, hB⟩ := hrel
    have hBs := hB.size
    have hblk := Lib.hid (lx_blk hrow)
    clear hr0 hB0
    by_cases hlt : k < s.size
    · have hlI : (k : Int) < (s.size : Int) := by omega
      obtain ⟨x, hx, hdx, ix⟩ := sb_get s k hlt
      have hLx : L ++ qi (x : Int) = 34 :: ((sb s).take (k + 1)).flatMap qi := by
        have hk2 : k < (sb s).length := by omega
        rw [List.take_succ_eq_append_getElem hk2, List.flatMap_append, hL.out]
        have : (sb s)[k] = (x : Int) := by
          have h2 := drop_at1 hk2
          rw [hdx] at h2
          injection h2 with h3 _
          exact h3.symm
        rw [this]
        simp
      have hpl := plain_in hx
      replace hdx := Lib.hid hdx
      by_cases ha : x = 34 ∨ x = 92
      · have hq : qi (x : Int) = [92, (x : Int)] := by unfold qi; rw [hpl, if_neg (by rcases ha with rfl | rfl <;> decide), if_pos (by omega)]
        rw [hq] at hLx
        replace hLx := Lib.hid hLx
        clear hq hpl
        have hrA := Lib.hid (hrow.alloc (.cells #[.int .u8 92] 5))
        have hbA := Lib.hid (hB.alloc hBs (.cells #[.int .u8 92] 5))
        have hsA : w.heap.size ≤ (wr.alloc (.cells #[.int .u8 92] 5)).heap.size := by simp; omega
        replace hrow := Lib.hid hrow
        replace hB := Lib.hid hB
        rcases ha with rfl | rfl
        · go_wp2_with (first | (at_builtin; refine wpList_append_rd _ rfl _ _ 24 rfl w.heap.size 5 i0 (.int .u8 0) 1 1 Try.underlying24 hi hz0 hz1 hz2 rfl rfl (by decide) _ (L).length ((L).map (Value.int .u8)) rfl hrA.out .u8 (some ⟨wr.heap.size, 0, none⟩) 1 1 [92] rfl rfl (fun h => by cases h) (Nat.le_refl _) (lits wr [92]) (by unfold maxLen; (try simp only [List.length_append, List.length_cons, List.length_nil]); omega) (by (try simp only [List.length_append, List.length_cons, List.length_nil]); omega) hsA ?_; intro v2 w2 hown_ hgrow_; have hownw2 := Lib.hid (app_own hown_); have hBw2 := Lib.hid (hbA.out.grown hgrow_ hsA (fun j ej => hblk.out j ej)); clear hown_ hgrow_; have hblk2 := Lib.hid (lx_blk hownw2.out); have hsz2 := hBw2.out.size; have hrB := Lib.hid (hownw2.out.alloc (.cells #[.int .u8 34] 5)); have hbB := Lib.hid (hBw2.out.alloc hsz2 (.cells #[.int .u8 34] 5)); have hsB : w.heap.size ≤ (w2.alloc (.cells #[.int .u8 34] 5)).heap.size := (by simp; omega); clear hrA) | (at_builtin; go_loud (refine wpList_append_rd _ rfl _ _ 24 rfl w.heap.size 5 i0 (.int .u8 0) 1 1 Try.underlying24 hi hz0 hz1 hz2 rfl rfl (by decide) v2 (L ++ [92]).length ((L ++ [92]).map (Value.int .u8)) rfl hrB.out .u8 (some ⟨w2.heap.size, 0, none⟩) 1 1 [34] rfl rfl (fun h => by cases h) (Nat.le_refl _) (lits w2 [34]) (by unfold maxLen; (try simp only [List.length_append, List.length_cons, List.length_nil]); omega) (by (try simp only [List.length_append, List.length_cons, List.length_nil]); omega) hsB ?_; intro v3 w3 hown_ hgrow_; have hownw3 := Lib.hid (app_own hown_); have hBw3 := Lib.hid (hbB.out.grown hgrow_ hsB (fun j ej => hblk2.out j ej)); clear hown_ hgrow_; skip)))
          go_roundw
          case rel => exact ⟨k + 1, (L ++ [92]) ++ [34], by go_num, by omega, Lib.hid (by rw [List.append_assoc]; exact hLx.out), by rw [List.length_append, List.length_append]; simp; omega, hownw3.out, hBw3.out⟩
          case measure => simp [intOf]; omega
        · go_wp2_with (first | (at_builtin; refine wpList_append_rd _ rfl _ _ 24 rfl w.heap.size 5 i0 (.int .u8 0) 1 1 Try.underlying24 hi hz0 hz1 hz2 rfl rfl (by decide) _ (L).length ((L).map (Value.int .u8)) rfl hrA.out .u8 (some ⟨wr.heap.size, 0, none⟩) 1 1 [92] rfl rfl (fun h => by cases h) (Nat.le_refl _) (lits wr [92]) (by unfold maxLen; (try simp only [List.length_append, List.length_cons, List.length_nil]); omega) (by (try simp only [List.length_append, List.length_cons, List.length_nil]); omega) hsA ?_; intro v2 w2 hown_ hgrow_; have hownw2 := Lib.hid (app_own hown_); have hBw2 := Lib.hid (hbA.out.grown hgrow_ hsA (fun j ej => hblk.out j ej)); clear hown_ hgrow_; have hblk2 := Lib.hid (lx_blk hownw2.out); have hsz2 := hBw2.out.size; have hrB := Lib.hid (hownw2.out.alloc (.cells #[.int .u8 92] 5)); have hbB := Lib.hid (hBw2.out.alloc hsz2 (.cells #[.int .u8 92] 5)); have hsB : w.heap.size ≤ (w2.alloc (.cells #[.int .u8 92] 5)).heap.size := (by simp; omega); clear hrA) | (at_builtin; go_loud (refine wpList_append_rd _ rfl _ _ 24 rfl w.heap.size 5 i0 (.int .u8 0) 1 1 Try.underlying24 hi hz0 hz1 hz2 rfl rfl (by decide) v2 (L ++ [92]).length ((L ++ [92]).map (Value.int .u8)) rfl hrB.out .u8 (some ⟨w2.heap.size, 0, none⟩) 1 1 [92] rfl rfl (fun h => by cases h) (Nat.le_refl _) (lits w2 [92]) (by unfold maxLen; (try simp only [List.length_append, List.length_cons, List.length_nil]); omega) (by (try simp only [List.length_append, List.length_cons, List.length_nil]); omega) hsB ?_; intro v3 w3 hown_ hgrow_; have hownw3 := Lib.hid (app_own hown_); have hBw3 := Lib.hid (hbB.out.grown hgrow_ hsB (fun j ej => hblk2.out j ej)); clear hown_ hgrow_; skip)))
          go_roundw
          case rel => exact ⟨k + 1, (L ++ [92]) ++ [92], by go_num, by omega, Lib.hid (by rw [List.append_assoc]; exact hLx.out), by rw [List.length_append, List.length_append]; simp; omega, hownw3.out, hBw3.out⟩
          case measure => simp [intOf]; omega
      · have ha1 : ((x : Int) == 34) = false := by rw [beq_eq_false_iff_ne]; omega
        have ha2 : ((x : Int) == 92) = false := by rw [beq_eq_false_iff_ne]; omega
        by_cases hin : 32 ≤ x ∧ x ≤ 126
        · have hq : qi (x : Int) = [(x : Int)] := by
            unfold qi
            rw [hpl, if_pos]
            simp only [Bool.and_eq_true, decide_eq_true_eq, Bool.not_eq_true', beq_eq_false_iff_ne]
            omega
          rw [hq] at hLx
          replace hLx := Lib.hid hLx
          clear hq hpl
          have g1 : decide ((32 : Int) ≤ (x : Int)) = true := decide_eq_true (by omega)
          have g2 : decide ((x : Int) ≤ 126) = true := decide_eq_true (by omega)
          replace ha := Lib.hid ha
          replace hin := Lib.hid hin
          have hrA := Lib.hid (hrow.alloc (.cells #[.int .u8 (x : Int)] 5))
          have hbA := Lib.hid (hB.alloc hBs (.cells #[.int .u8 (x : Int)] 5))
          have hsA : w.heap.size ≤ (wr.alloc (.cells #[.int .u8 (x : Int)] 5)).heap.size := by simp; omega
          replace hrow := Lib.hid hrow
          replace hB := Lib.hid hB
          go_wp2_with (at_builtin; refine wpList_append_rd _ rfl _ _ 24 rfl w.heap.size 5 i0 (.int .u8 0) 1 1 Try.underlying24 hi hz0 hz1 hz2 rfl rfl (by decide) _ (L).length ((L).map (Value.int .u8)) rfl hrA.out .u8 (some ⟨wr.heap.size, 0, none⟩) 1 1 [(x : Int)] rfl rfl (fun h => by cases h) (Nat.le_refl _) (lits wr [(x : Int)]) (by unfold maxLen; (try simp only [List.length_append, List.length_cons, List.length_nil]); omega) (by (try simp only [List.length_append, List.length_cons, List.length_nil]); omega) hsA ?_; intro v2 w2 hown_ hgrow_; have hownw2 := Lib.hid (app_own hown_); have hBw2 := Lib.hid (hbA.out.grown hgrow_ hsA (fun j ej => hblk.out j ej)); clear hown_ hgrow_; skip)
          go_roundw
          case rel => exact ⟨k + 1, L ++ [(x : Int)], by go_num, by omega, hLx, by rw [List.length_append]; simp; omega, hownw2.out, hBw2.out⟩
          case measure => simp [intOf]; omega
        · have hq : qi (x : Int) = [92, 120, dg ((x : Int) / 16), dg ((x : Int) % 16)] := by
            unfold qi
            rw [hpl, if_neg, if_neg (by omega)]
            simp only [Bool.and_eq_true, decide_eq_true_eq, Bool.not_eq_true', beq_eq_false_iff_ne]
            omega
          rw [hq] at hLx
          replace hLx := Lib.hid hLx
          clear hq hpl
          have hw_d : IntKind.u8.wrap ((x : Int) / 16) = (x : Int) / 16 := by simp [IntKind.wrap, IntKind.bits, IntKind.signed]; omega
          have hw_m : (x : Int).tmod 16 = (x : Int) % 16 := Int.tmod_eq_emod_of_nonneg (by omega)
          replace hw_d := Lib.hid hw_d
          replace hw_m := Lib.hid hw_m
          replace ha := Lib.hid ha
          by_cases h32 : 32 ≤ x
          · have g1 : decide ((32 : Int) ≤ (x : Int)) = true := decide_eq_true (by omega)
            have g2 : decide ((x : Int) ≤ 126) = false := decide_eq_false (by omega)
            replace hin := Lib.hid hin
            go_wp2_with fail
            refine wp_region_held_drew (S := fun _ => True) (by kernel_rfl) (trivial) (fun hHeld => ?_)
            (try simp only [List.size_toArray, List.length_cons, List.length_nil, Nat.zero_add, Nat.reduceAdd])
            refine wpAnyH_takeL (i := 0) (v := ?v1) rfl (by kernel_rfl) (by kernel_rfl) (by kernel_rfl) (fun _ _ _ h => h) (Or.inl ⟨by rfl, ?y1⟩) (by assumption) ?r1
            case y1 => (intro W hSw; (try dsimp only at hSw); go_simp; try with_reducible rfl)
            (try simp only [Act.put, List.setIfInBounds_toArray, List.set_cons_zero, List.set_cons_succ])
            refine wpAnyH_takeL (i := 1) (v := ?v2) rfl (by kernel_rfl) (by kernel_rfl) (by kernel_rfl) (fun _ _ _ h => h) (Or.inl ⟨by rfl, ?y2⟩) (by assumption) ?r2
            case y2 => (intro W hSw; (try dsimp only at hSw); go_simp; try with_reducible rfl)
            (try simp only [Act.put, List.setIfInBounds_toArray, List.set_cons_zero, List.set_cons_succ])
            refine wpAnyH_takeL (i := 2) (v := ?v3) rfl (by kernel_rfl) (by kernel_rfl) (by kernel_rfl) (fun _ _ _ h => h) (Or.inl ⟨by rfl, ?y3⟩) (by assumption) ?r3
            case y3 => (intro W hSw; (try dsimp only at hSw); go_simp; try with_reducible rfl)
            (try simp only [Act.put, List.setIfInBounds_toArray, List.set_cons_zero, List.set_cons_succ])
            refine wpAnyH_takeL (i := 3) (v := ?v4) rfl (by kernel_rfl) (by kernel_rfl) (by kernel_rfl) (fun _ _ _ h => h) (Or.inl ⟨by rfl, ?y4⟩) (by assumption) ?r4
            case y4 => (intro W hSw; (try dsimp only at hSw); go_simp; try with_reducible rfl)
            (try simp only [Act.put, List.setIfInBounds_toArray, List.set_cons_zero, List.set_cons_succ])
            refine wpAnyH_takeL (i := 4) (v := .int .u8 (dg ((x : Int) / 16))) rfl (by kernel_rfl) (by kernel_rfl) (by kernel_rfl) (fun _ _ _ h => h) (Or.inl ⟨by rfl, ?y5⟩) (by assumption) ?r5
            case y5 => (intro W hSw; (try dsimp only at hSw); first | (go_simp; done) | (go_simp; rw [dif_pos (show (IntKind.u8.wrap ((x : Int) / 16) : Int) < 16 by rw [hw_d.out]; omega)]; (try simp only [Result.andThen]); rw [dig_el (IntKind.u8.wrap ((x : Int) / 16)) ⟨by rw [hw_d.out]; omega, by rw [hw_d.out]; omega⟩, hw_d.out]))
            (try simp only [Act.put, List.setIfInBounds_toArray, List.set_cons_zero, List.set_cons_succ])
            refine wpAnyH_takeL (i := 5) (v := ?v6) rfl (by kernel_rfl) (by kernel_rfl) (by kernel_rfl) (fun _ _ _ h => h) (Or.inl ⟨by rfl, ?y6⟩) (by assumption) ?r6
            case y6 => (intro W hSw; (try dsimp only at hSw); go_simp; try with_reducible rfl)
            (try simp only [Act.put, List.setIfInBounds_toArray, List.set_cons_zero, List.set_cons_succ])
            refine wpAnyH_takeL (i := 6) (v := ?v7) rfl (by kernel_rfl) (by kernel_rfl) (by kernel_rfl) (fun _ _ _ h => h) (Or.inl ⟨by rfl, ?y7⟩) (by assumption) ?r7
            case y7 => (intro W hSw; (try dsimp only at hSw); go_simp; try with_reducible rfl)
            (try simp only [Act.put, List.setIfInBounds_toArray, List.set_cons_zero, List.set_cons_succ])
            refine wpAnyH_takeL (i := 7) (v := ?v8) rfl (by kernel_rfl) (by kernel_rfl) (by kernel_rfl) (fun _ _ _ h => h) (Or.inl ⟨by rfl, ?y8⟩) (by assumption) ?r8
            case y8 => (intro W hSw; (try dsimp only at hSw); go_simp; try with_reducible rfl)
            (try simp only [Act.put, List.setIfInBounds_toArray, List.set_cons_zero, List.set_cons_succ])
            refine wpAnyH_takeL (i := 8) (v := .int .u8 (dg ((x : Int) % 16))) rfl (by kernel_rfl) (by kernel_rfl) (by kernel_rfl) (fun _ _ _ h => h) (Or.inl ⟨by rfl, ?y9⟩) (by assumption) ?r9
            case y9 => (intro W hSw; (try dsimp only at hSw); first | (go_simp; done) | (go_simp; rw [dif_pos (show 0 ≤ ((x : Int).tmod 16) ∧ ((x : Int).tmod 16) < 16 by rw [hw_m.out]; omega)]; (try simp only [Result.andThen]); rw [dig_el ((x : Int).tmod 16) ⟨by rw [hw_m.out]; omega, by rw [hw_m.out]; omega⟩, hw_m.out]))
            (try simp only [Act.put, List.setIfInBounds_toArray, List.set_cons_zero, List.set_cons_succ])
            refine wpAnyH_ready (rs := [9]) (by kernel_rfl) (by simp) ?_
            refine consL rfl (fun K hK => ?_) AllReadyH.nil
            go_simp
            (try dsimp only)
            refine hK.out _ _ trivial (fun hHeld => ?_)
            clear hK K
            (try simp only [Act.put, List.setIfInBounds_toArray, List.set_cons_zero, List.set_cons_succ])
            have hd : Below wr.heap.size wr (wr.alloc (.cells #[.int .u8 92, .int .u8 120, .int .u8 (dg ((x : Int) / 16)), .int .u8 (dg ((x : Int) % 16))] 5)).drew := ((Below.refl _ _).alloc (Nat.le_refl _) _).drew
            have hrA := Lib.hid (show (wr.alloc (.cells #[.int .u8 92, .int .u8 120, .int .u8 (dg ((x : Int) / 16)), .int .u8 (dg ((x : Int) % 16))] 5)).drew.ownsRow w.heap.size 5 1 _ L.length (L.map (Value.int .u8)) from hrow.alloc _)
            have hlA : RdI (wr.alloc (.cells #[.int .u8 92, .int .u8 120, .int .u8 (dg ((x : Int) / 16)), .int .u8 (dg ((x : Int) % 16))] 5)).drew (wr.alloc (.cells #[.int .u8 92, .int .u8 120, .int .u8 (dg ((x : Int) / 16)), .int .u8 (dg ((x : Int) % 16))] 5)).drew.heap.size .u8 (some ⟨wr.heap.size, 0, none⟩) [92, 120, dg ((x : Int) / 16), dg ((x : Int) % 16)] := lits wr [92, 120, dg ((x : Int) / 16), dg ((x : Int) % 16)]
            have hBA : Below w.heap.size w (wr.alloc (.cells #[.int .u8 92, .int .u8 120, .int .u8 (dg ((x : Int) / 16)), .int .u8 (dg ((x : Int) % 16))] 5)).drew := hB.trans (hd.mono hBs)
            have hbA : w.heap.size ≤ (wr.alloc (.cells #[.int .u8 92, .int .u8 120, .int .u8 (dg ((x : Int) / 16)), .int .u8 (dg ((x : Int) % 16))] 5)).drew.heap.size := hBA.size
            clear hd
            generalize (wr.alloc (.cells #[.int .u8 92, .int .u8 120, .int .u8 (dg ((x : Int) / 16)), .int .u8 (dg ((x : Int) % 16))] 5)).drew = wA at *
            refine wpAnyH_ready (rs := [10]) (by kernel_rfl) (by simp) ?_
            refine consL rfl (fun K hK => ?_) AllReadyH.nil
            refine step_rd wA rfl (.tmp 36) (.tmp 45) 24 rfl w.heap.size 5 i0 (.int .u8 0) 1 Try.underlying24 hi hz0 hz1 hz2 rfl .u8 _ L.length L rfl rfl hrA.out ⟨wr.heap.size, 0, none⟩ 4 4 [92, 120, dg ((x : Int) / 16), dg ((x : Int) % 16)] rfl rfl hlA (by unfold maxLen; omega) (by omega) hbA ?_
            intro v2 w2 hown2 hgrow2
            (try dsimp only)
            refine hK.out _ _ trivial (fun hHeld => ?_)
            clear hK K
            (try simp only [Act.put, List.setIfInBounds_toArray, List.set_cons_zero, List.set_cons_succ])
            refine wpAnyH_takeL (i := 11) (v := ?v10) rfl (by kernel_rfl) (by kernel_rfl) (by kernel_rfl) (fun _ _ _ h => h) (Or.inl ⟨by rfl, ?y10⟩) (by assumption) ?r10
            case y10 => (intro W hSw; (try dsimp only at hSw); go_simp; try with_reducible rfl)
            (try simp only [Act.put, List.setIfInBounds_toArray, List.set_cons_zero, List.set_cons_succ])
            refine wpAnyH_done (by kernel_rfl) ?_ _
            have hB2 := Lib.hid (hBA.grown hgrow2 hbA (fun j ej => hblk.out j ej))
            replace hown2 := Lib.hid hown2
            clear hgrow2 hrA hlA hBA hbA
            go_wp2_with fail
            go_roundw
            case rel => exact ⟨k + 1, L ++ [92, 120, dg ((x : Int) / 16), dg ((x : Int) % 16)], by go_num, by omega, hLx, by rw [List.length_append]; simp; omega, hown2.out, hB2.out⟩
            case measure => simp [intOf]; omega
          · have g1 : decide ((32 : Int) ≤ (x : Int)) = false := decide_eq_false (by omega)
            replace hin := Lib.hid hin
            go_wp2_with fail
            refine wp_region_held_drew (S := fun _ => True) (by kernel_rfl) (trivial) (fun hHeld => ?_)
            (try simp only [List.size_toArray, List.length_cons, List.length_nil, Nat.zero_add, Nat.reduceAdd])
            refine wpAnyH_takeL (i := 0) (v := ?v11) rfl (by kernel_rfl) (by kernel_rfl) (by kernel_rfl) (fun _ _ _ h => h) (Or.inl ⟨by rfl, ?y11⟩) (by assumption) ?r11
            case y11 => (intro W hSw; (try dsimp only at hSw); go_simp; try with_reducible rfl)
            (try simp only [Act.put, List.setIfInBounds_toArray, List.set_cons_zero, List.set_cons_succ])
            refine wpAnyH_takeL (i := 1) (v := ?v12) rfl (by kernel_rfl) (by kernel_rfl) (by kernel_rfl) (fun _ _ _ h => h) (Or.inl ⟨by rfl, ?y12⟩) (by assumption) ?r12
            case y12 => (intro W hSw; (try dsimp only at hSw); go_simp; try with_reducible rfl)
            (try simp only [Act.put, List.setIfInBounds_toArray, List.set_cons_zero, List.set_cons_succ])
            refine wpAnyH_takeL (i := 2) (v := ?v13) rfl (by kernel_rfl) (by kernel_rfl) (by kernel_rfl) (fun _ _ _ h => h) (Or.inl ⟨by rfl, ?y13⟩) (by assumption) ?r13
            case y13 => (intro W hSw; (try dsimp only at hSw); go_simp; try with_reducible rfl)
            (try simp only [Act.put, List.setIfInBounds_toArray, List.set_cons_zero, List.set_cons_succ])
            refine wpAnyH_takeL (i := 3) (v := ?v14) rfl (by kernel_rfl) (by kernel_rfl) (by kernel_rfl) (fun _ _ _ h => h) (Or.inl ⟨by rfl, ?y14⟩) (by assumption) ?r14
            case y14 => (intro W hSw; (try dsimp only at hSw); go_simp; try with_reducible rfl)
            (try simp only [Act.put, List.setIfInBounds_toArray, List.set_cons_zero, List.set_cons_succ])
            refine wpAnyH_takeL (i := 4) (v := .int .u8 (dg ((x : Int) / 16))) rfl (by kernel_rfl) (by kernel_rfl) (by kernel_rfl) (fun _ _ _ h => h) (Or.inl ⟨by rfl, ?y15⟩) (by assumption) ?r15
            case y15 => (intro W hSw; (try dsimp only at hSw); first | (go_simp; done) | (go_simp; rw [dif_pos (show (IntKind.u8.wrap ((x : Int) / 16) : Int) < 16 by rw [hw_d.out]; omega)]; (try simp only [Result.andThen]); rw [dig_el (IntKind.u8.wrap ((x : Int) / 16)) ⟨by rw [hw_d.out]; omega, by rw [hw_d.out]; omega⟩, hw_d.out]))
            (try simp only [Act.put, List.setIfInBounds_toArray, List.set_cons_zero, List.set_cons_succ])
            refine wpAnyH_takeL (i := 5) (v := ?v16) rfl (by kernel_rfl) (by kernel_rfl) (by kernel_rfl) (fun _ _ _ h => h) (Or.inl ⟨by rfl, ?y16⟩) (by assumption) ?r16
            case y16 => (intro W hSw; (try dsimp only at hSw); go_simp; try with_reducible rfl)
            (try simp only [Act.put, List.setIfInBounds_toArray, List.set_cons_zero, List.set_cons_succ])
            refine wpAnyH_takeL (i := 6) (v := ?v17) rfl (by kernel_rfl) (by kernel_rfl) (by kernel_rfl) (fun _ _ _ h => h) (Or.inl ⟨by rfl, ?y17⟩) (by assumption) ?r17
            case y17 => (intro W hSw; (try dsimp only at hSw); go_simp; try with_reducible rfl)
            (try simp only [Act.put, List.setIfInBounds_toArray, List.set_cons_zero, List.set_cons_succ])
            refine wpAnyH_takeL (i := 7) (v := ?v18) rfl (by kernel_rfl) (by kernel_rfl) (by kernel_rfl) (fun _ _ _ h => h) (Or.inl ⟨by rfl, ?y18⟩) (by assumption) ?r18
            case y18 => (intro W hSw; (try dsimp only at hSw); go_simp; try with_reducible rfl)
            (try simp only [Act.put, List.setIfInBounds_toArray, List.set_cons_zero, List.set_cons_succ])
            refine wpAnyH_takeL (i := 8) (v := .int .u8 (dg ((x : Int) % 16))) rfl (by kernel_rfl) (by kernel_rfl) (by kernel_rfl) (fun _ _ _ h => h) (Or.inl ⟨by rfl, ?y19⟩) (by assumption) ?r19
            case y19 => (intro W hSw; (try dsimp only at hSw); first | (go_simp; done) | (go_simp; rw [dif_pos (show 0 ≤ ((x : Int).tmod 16) ∧ ((x : Int).tmod 16) < 16 by rw [hw_m.out]; omega)]; (try simp only [Result.andThen]); rw [dig_el ((x : Int).tmod 16) ⟨by rw [hw_m.out]; omega, by rw [hw_m.out]; omega⟩, hw_m.out]))
            (try simp only [Act.put, List.setIfInBounds_toArray, List.set_cons_zero, List.set_cons_succ])
            refine wpAnyH_ready (rs := [9]) (by kernel_rfl) (by simp) ?_
            refine consL rfl (fun K hK => ?_) AllReadyH.nil
            go_simp
            (try dsimp only)
            refine hK.out _ _ trivial (fun hHeld => ?_)
            clear hK K
            (try simp only [Act.put, List.setIfInBounds_toArray, List.set_cons_zero, List.set_cons_succ])
            have hd : Below wr.heap.size wr (wr.alloc (.cells #[.int .u8 92, .int .u8 120, .int .u8 (dg ((x : Int) / 16)), .int .u8 (dg ((x : Int) % 16))] 5)).drew := ((Below.refl _ _).alloc (Nat.le_refl _) _).drew
            have hrA := Lib.hid (show (wr.alloc (.cells #[.int .u8 92, .int .u8 120, .int .u8 (dg ((x : Int) / 16)), .int .u8 (dg ((x : Int) % 16))] 5)).drew.ownsRow w.heap.size 5 1 _ L.length (L.map (Value.int .u8)) from hrow.alloc _)
            have hlA : RdI (wr.alloc (.cells #[.int .u8 92, .int .u8 120, .int .u8 (dg ((x : Int) / 16)), .int .u8 (dg ((x : Int) % 16))] 5)).drew (wr.alloc (.cells #[.int .u8 92, .int .u8 120, .int .u8 (dg ((x : Int) / 16)), .int .u8 (dg ((x : Int) % 16))] 5)).drew.heap.size .u8 (some ⟨wr.heap.size, 0, none⟩) [92, 120, dg ((x : Int) / 16), dg ((x : Int) % 16)] := lits wr [92, 120, dg ((x : Int) / 16), dg ((x : Int) % 16)]
            have hBA : Below w.heap.size w (wr.alloc (.cells #[.int .u8 92, .int .u8 120, .int .u8 (dg ((x : Int) / 16)), .int .u8 (dg ((x : Int) % 16))] 5)).drew := hB.trans (hd.mono hBs)
            have hbA : w.heap.size ≤ (wr.alloc (.cells #[.int .u8 92, .int .u8 120, .int .u8 (dg ((x : Int) / 16)), .int .u8 (dg ((x : Int) % 16))] 5)).drew.heap.size := hBA.size
            clear hd
            generalize (wr.alloc (.cells #[.int .u8 92, .int .u8 120, .int .u8 (dg ((x : Int) / 16)), .int .u8 (dg ((x : Int) % 16))] 5)).drew = wA at *
            refine wpAnyH_ready (rs := [10]) (by kernel_rfl) (by simp) ?_
            refine consL rfl (fun K hK => ?_) AllReadyH.nil
            refine step_rd wA rfl (.tmp 36) (.tmp 45) 24 rfl w.heap.size 5 i0 (.int .u8 0) 1 Try.underlying24 hi hz0 hz1 hz2 rfl .u8 _ L.length L rfl rfl hrA.out ⟨wr.heap.size, 0, none⟩ 4 4 [92, 120, dg ((x : Int) / 16), dg ((x : Int) % 16)] rfl rfl hlA (by unfold maxLen; omega) (by omega) hbA ?_
            intro v2 w2 hown2 hgrow2
            (try dsimp only)
            refine hK.out _ _ trivial (fun hHeld => ?_)
            clear hK K
            (try simp only [Act.put, List.setIfInBounds_toArray, List.set_cons_zero, List.set_cons_succ])
            refine wpAnyH_takeL (i := 11) (v := ?v20) rfl (by kernel_rfl) (by kernel_rfl) (by kernel_rfl) (fun _ _ _ h => h) (Or.inl ⟨by rfl, ?y20⟩) (by assumption) ?r20
            case y20 => (intro W hSw; (try dsimp only at hSw); go_simp; try with_reducible rfl)
            (try simp only [Act.put, List.setIfInBounds_toArray, List.set_cons_zero, List.set_cons_succ])
            refine wpAnyH_done (by kernel_rfl) ?_ _
            have hB2 := Lib.hid (hBA.grown hgrow2 hbA (fun j ej => hblk.out j ej))
            replace hown2 := Lib.hid hown2
            clear hgrow2 hrA hlA hBA hbA
            go_wp2_with fail
            go_roundw
            case rel => exact ⟨k + 1, L ++ [92, 120, dg ((x : Int) / 16), dg ((x : Int) % 16)], by go_num, by omega, hLx, by rw [List.length_append]; simp; omega, hown2.out, hB2.out⟩
            case measure => simp [intOf]; omega
    · have hlI : ¬ (k : Int) < (s.size : Int) := by omega
      have hLe : quoteL (sb s) = L ++ [34] := by rw [hL.out, List.take_of_length_le (by omega)]; rfl
      have hrn := Lib.hid (hrow.alloc (.cells #[.int .u8 34] 5))
      have hbn : w.heap.size ≤ (wr.alloc (.cells #[.int .u8 34] 5)).heap.size := by simp; omega
      have hBn := Lib.hid (hB.alloc hBs (.cells #[.int .u8 34] 5))
      replace hLe := Lib.hid hLe
      replace hrow := Lib.hid hrow
      replace hB := Lib.hid hB
      go_wp2_with (at_builtin; refine wpList_append_rd _ rfl _ _ 24 rfl w.heap.size 5 i0 (.int .u8 0) 1 1 Try.underlying24 hi hz0 hz1 hz2 rfl rfl (by decide) _ L.length _ rfl hrn.out .u8 (some ⟨wr.heap.size, 0, none⟩) 1 1 [34] rfl rfl (fun h => by cases h) (Nat.le_refl _) (lits wr [34]) (by unfold maxLen; omega) (by omega) hbn ?_; intro v2 w2 hown2 hgrow2; have hown3 : w2.ownsRow w.heap.size 5 1 v2 (L.length + 1) ((L ++ [34]).map (Value.int .u8)) := (by rw [List.map_append]; exact hown2); obtain ⟨A2, c2, rfl⟩ := lx_slice hown3; have hcv := lx_conv A2 (L.length + 1) c2 (L ++ [34]) w2 w2.heap.size (by simp) (rd_own hown3); have hB3 := Lib.hid (hBn.out.grown hgrow2 hbn (fun j ej => hblk.out j ej)); clear hown2 hown3 hgrow2)
      go_ret
      exact ⟨by rw [hLe.out]; rfl, hB3.out⟩
end Go.Proofs.Ytpeeekgfcofbkaa
