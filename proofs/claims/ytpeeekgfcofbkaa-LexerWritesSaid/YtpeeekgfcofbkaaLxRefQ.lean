/-
  THE REFERENCE's quoted. Written by gen/genlxrq.py.
-/
import Derived.Test.YtpeeekgfcofbkaaLxRefM
namespace Go.Proofs.Ytpeeekgfcofbkaa
open Go.RowKit

def qRes (V : Tk × Nat × Int) : Value := if V.2.2 = 0 then .tuple #[.string (strOfNums V.1.t), .int .i64 (V.2.1 : Nat), .int .i64 0] else .tuple #[.string ⟨#[]⟩, .int .i64 (V.1.p : Nat), .int .i64 V.2.2]
theorem wrap_byte {a : Int} (h : 0 ≤ a ∧ a < 256) : IntKind.u8.wrap a = a := by simp [IntKind.wrap, IntKind.bits, IntKind.signed]; omega
set_option maxHeartbeats 16000000 in
set_option maxRecDepth 100000 in
theorem rquoted_any (s : ByteArray) (at' : Nat) (w : World) (ha : at' < s.size) (hs : s.size ≤ 100000) : Calls Try.prog 32 #[.string s, .int .i64 (at' : Int)] w fun e w' => e = .returned (qRes (qdGo s.size (at' + 1) [] ((sb s).drop (at' + 1)))) ∧ Below w.heap.size w w' := by
  obtain ⟨i0, hi, hz0, hz1, hz2⟩ := info_parts info_u8
  have hl := sb_length s
  obtain ⟨V, hV⟩ : ∃ V, V = qdGo s.size (at' + 1) [] ((sb s).drop (at' + 1)) := ⟨_, rfl⟩
  rw [← hV]
  replace hV := Lib.hid hV
  go_enter Try.func32, Try.ntmps32
  go_wp2_with fail
  go_loopw [7, 8] (fun cu i wr => ∃ (k : Nat) (L : List Int), i = .int .i64 (k : Int) ∧ k ≤ s.size ∧ Hid (V = qdGo s.size k L ((sb s).drop k)) ∧ L.length ≤ k ∧ wr.ownsRow w.heap.size 5 1 cu L.length (L.map (Value.int .u8)) ∧ Below w.heap.size w wr) (fun _ i _ => s.size - (intOf i).toNat)
  case atStart => exact ⟨at' + 1, [], by go_num, by omega, hV, by simp, ⟨rfl, .inl ⟨rfl, rfl⟩⟩, Below.refl _ _⟩
  case round =>
    obtain ⟨k, L, rfl, hk, hI, hL, hrow, hB⟩ := hrel
    have hBs := hB.size
    have hblk := Lib.hid (lx_blk hrow)
    clear hV
    by_cases hlt : k < s.size
    · have hlI : (k : Int) < (s.size : Int) := by omega
      obtain ⟨x, hx, hdx, ix⟩ := sb_get s k hlt
      obtain ⟨f, hf⟩ : ∃ f, s.size = f + 1 := ⟨s.size - 1, by omega⟩
      have hlen : ((x : Int) :: (sb s).drop (k + 1)).length = s.size - k := by rw [← hdx, List.length_drop, hl]
      have hdn : ∀ m, ((x : Int) :: (sb s).drop (k + 1)).drop m = (sb s).drop (k + m) := fun m => by rw [← hdx, List.drop_drop]
      have hI2 : V = if (x : Int) = 34 then (⟨5, L, 0⟩, k + 1, 0) else if (itemF ((x : Int) :: (sb s).drop (k + 1))).2.2 = 2 then (⟨0, [], k⟩, 0, 2) else if (itemF ((x : Int) :: (sb s).drop (k + 1))).2.2 = 3 then (⟨0, [], k + ((x : Int) :: (sb s).drop (k + 1)).length⟩, 0, 3) else qdGo f (k + (itemF ((x : Int) :: (sb s).drop (k + 1))).2.1) (L ++ [(itemF ((x : Int) :: (sb s).drop (k + 1))).1]) (((x : Int) :: (sb s).drop (k + 1)).drop (itemF ((x : Int) :: (sb s).drop (k + 1))).2.1) := by rw [hI.out, hdx, hf]; rfl
      have hfu : ∀ m (acc : List Int), 1 ≤ m → qdGo f (k + m) acc ((sb s).drop (k + m)) = qdGo s.size (k + m) acc ((sb s).drop (k + m)) := fun m acc h => qd_fuel _ _ _ (by rw [List.length_drop, hl]; omega) (by rw [List.length_drop, hl]; omega)
      replace hdx := Lib.hid hdx
      replace hlen := Lib.hid hlen
      replace hdn := Lib.hid hdn
      replace hI2 := Lib.hid hI2
      replace hfu := Lib.hid hfu
      clear hI
      replace hf := Lib.hid hf
      by_cases h34 : x = 34
      · subst h34
        have hv := Lib.hid (show V = (⟨5, L, 0⟩, k + 1, 0) from by rw [hI2.out]; exact if_pos rfl)
        obtain ⟨A, c, rfl⟩ := lx_slice hrow
        have hcv := lx_conv A L.length c L wr wr.heap.size rfl (rd_own hrow)
        replace hrow := Lib.hid hrow
        go_wp2_with fail
        refine bodyPost_ret (v := .tuple #[.string (strOfNums L), .int .i64 ((k : Int) + 1), .int .i64 0]) (by simp [results, Try.results32, go_sem]) rfl ?_
        rw [hv.out]
        exact ⟨rfl, hB⟩
      · have b34 : ((x : Int) == 34) = false := by rw [beq_eq_false_iff_ne]; omega
        have hpl := plain_in hx
        obtain ⟨it, hit⟩ : ∃ it, it = itemF ((x : Int) :: (sb s).drop (k + 1)) := ⟨_, rfl⟩
        have hI3 := hI2.out
        rw [if_neg (show ¬ (x : Int) = 34 by omega), ← hit] at hI3
        replace hI3 := Lib.hid hI3
        replace hit := Lib.hid hit
        replace hpl := Lib.hid hpl
        clear hI2
        by_cases hp : 32 ≤ x ∧ x ≤ 126
        · have d1 : decide ((x : Int) < 32) = false := decide_eq_false (by omega)
          have d2 : decide ((126 : Int) < (x : Int)) = false := decide_eq_false (by omega)
          by_cases h92 : x = 92
          · subst h92
            by_cases hend : k + 1 = s.size
            · have hd0 : (sb s).drop (k + 1) = [] := List.drop_eq_nil_of_le (by omega)
              have hit2 : it = (0, 0, 3) := by rw [hit.out, hd0]; rfl
              have hv := Lib.hid (show V = (⟨0, [], s.size⟩, 0, 3) from by
                rw [hI3.out, hit2]
                refine (if_neg (show ¬ (3 : Int) = 2 by decide)).trans ((if_pos rfl).trans ?_)
                rw [hlen.out, show k + (s.size - k) = s.size by omega])
              have he1 : ((k : Int) + 1 == (s.size : Int)) = true := by rw [beq_iff_eq]; omega
              clear hI3
              replace hrow := Lib.hid hrow
              go_wp2_with fail
              refine bodyPost_ret (v := .tuple #[.string ⟨#[]⟩, .int .i64 (s.size : Int), .int .i64 3]) (by simp [results, Try.results32, go_sem]) rfl ?_
              rw [hv.out]
              exact ⟨rfl, hB⟩
            · have he1 : ((k : Int) + 1 == (s.size : Int)) = false := by rw [beq_eq_false_iff_ne]; omega
              obtain ⟨d, hd, hdd, ixd⟩ := sb_get s (k + 1) (by omega)
              rw [show ((k + 1 : Nat) : Int) = (k : Int) + 1 from rfl] at ixd
              have h92i : inR PLAIN 92 = false := by decide
              have hitd : it = if (d : Int) = 34 ∨ (d : Int) = 92 then ((d : Int), 2, 0) else if (d : Int) = 120 then numGo 2 0 ((sb s).drop (k + 1 + 1)) else (0, 0, 2) := by
                rw [hit.out, hdd]
                show itemF ((92 : Int) :: (d : Int) :: (sb s).drop (k + 1 + 1)) = _
                rw [itemF_cons, if_neg (by rw [h92i]; decide), if_neg (by decide), itemG_cons]
              replace hitd := Lib.hid hitd
              clear hit
              have hk1 : (k : Int) + 1 < (s.size : Int) := by omega
              replace hdd := Lib.hid hdd
              by_cases hq : d = 34 ∨ d = 92
              · have hit2 : it = ((d : Int), 2, 0) := by rw [hitd.out, if_pos (show (d : Int) = 34 ∨ (d : Int) = 92 by omega)]
                have hv := Lib.hid (show V = qdGo s.size (k + 2) (L ++ [(d : Int)]) ((sb s).drop (k + 2)) from by
                  rw [hI3.out, hit2]
                  refine (if_neg (show ¬ (0 : Int) = 2 by decide)).trans ((if_neg (show ¬ (0 : Int) = 3 by decide)).trans ?_)
                  show qdGo f (k + 2) (L ++ [(d : Int)]) ((((92 : Nat) : Int) :: (sb s).drop (k + 1)).drop 2) = _
                  rw [hdn.out, hfu.out 2 _ (by omega)])
                clear hit2
                clear hI3
                have hRn := Lib.hid (hrow.alloc (.cells #[.int .u8 (d : Int)] 5))
                have hNn := Lib.hid (lx_lit wr (d : Int))
                have hBn : w.heap.size ≤ (wr.alloc (.cells #[.int .u8 (d : Int)] 5)).heap.size := by simp; omega
                have hWn := Lib.hid (hB.alloc hBs (.cells #[.int .u8 (d : Int)] 5))
                replace hrow := Lib.hid hrow
                have hdc : ((d : Int) == 34) = true ∨ (((d : Int) == 34) = false ∧ ((d : Int) == 92) = true) := by
                  rcases hq with rfl | rfl
                  · exact .inl rfl
                  · exact .inr ⟨rfl, rfl⟩
                have hk2 : k + 2 ≤ s.size := by omega
                rcases hdc with b1 | ⟨b1, b2⟩
                · go_wp2_with (at_builtin; refine wpList_append_rd _ rfl _ _ 24 rfl w.heap.size 5 i0 (.int .u8 0) 1 1 Try.underlying24 hi hz0 hz1 hz2 rfl rfl (by decide) _ L.length _ rfl hRn.out .u8 (some ⟨wr.heap.size, 0, none⟩) 1 1 [(d : Int)] rfl rfl (fun h => by cases h) (Nat.le_refl _) hNn.out (by unfold maxLen; omega) (by omega) hBn ?_; intro v' w2 hown' hgrow; replace hown' := Lib.hid hown'; replace hgrow := Lib.hid hgrow)
                  go_roundw
                  case rel => exact ⟨k + 2, L ++ [(d : Int)], by go_num, by omega, hv, by rw [List.length_append]; simp; omega, by rw [List.length_append, List.map_append]; exact hown'.out, hWn.out.grown hgrow.out hBn (fun j ej => hblk.out j ej)⟩
                  case measure => simp [intOf]; omega
                · go_wp2_with (at_builtin; refine wpList_append_rd _ rfl _ _ 24 rfl w.heap.size 5 i0 (.int .u8 0) 1 1 Try.underlying24 hi hz0 hz1 hz2 rfl rfl (by decide) _ L.length _ rfl hRn.out .u8 (some ⟨wr.heap.size, 0, none⟩) 1 1 [(d : Int)] rfl rfl (fun h => by cases h) (Nat.le_refl _) hNn.out (by unfold maxLen; omega) (by omega) hBn ?_; intro v' w2 hown' hgrow; replace hown' := Lib.hid hown'; replace hgrow := Lib.hid hgrow)
                  go_roundw
                  case rel => exact ⟨k + 2, L ++ [(d : Int)], by go_num, by omega, hv, by rw [List.length_append]; simp; omega, by rw [List.length_append, List.map_append]; exact hown'.out, hWn.out.grown hgrow.out hBn (fun j ej => hblk.out j ej)⟩
                  case measure => simp [intOf]; omega
              · have b1 : ((d : Int) == 34) = false := by rw [beq_eq_false_iff_ne]; omega
                have b2 : ((d : Int) == 92) = false := by rw [beq_eq_false_iff_ne]; omega
                by_cases h120 : d = 120
                · subst h120
                  have hN := Lib.hid (show it = numGo 2 0 ((sb s).drop (k + 2)) from by rw [hitd.out, if_neg (by decide)]; exact if_pos rfl)
                  replace hrow := Lib.hid hrow
                  go_wp2_with fail
                  go_loopw [11, 12] (fun nn jj wr2 => wr = wr2 ∧ ∃ (j : Nat) (a : Int), jj = .int .i64 (j : Int) ∧ nn = .int .i64 a ∧ 2 ≤ j ∧ j ≤ 4 ∧ 0 ≤ a ∧ a < 256 ∧ (j ≤ 3 → a < 16) ∧ (j = 2 → a = 0) ∧ k + j ≤ s.size ∧ Hid (it = numGo (4 - j) a ((sb s).drop (k + j)))) (fun _ jj _ => 4 - (intOf jj).toNat)
                  case atStart => exact ⟨rfl, 2, 0, rfl, rfl, by omega, by omega, by omega, by omega, by omega, by omega, by omega, hN⟩
                  case round =>
                    obtain ⟨rfl, j, a, rfl, rfl, hj2, hj4, ha0, ha1, ha2, ha3, hkj, hJ⟩ := hrel
                    by_cases hj : j < 4
                    · have hjI : (j : Int) < 4 := by omega
                      obtain ⟨q, hq4⟩ : ∃ q, 4 - j = q + 1 := ⟨3 - j, by omega⟩
                      have hJ2 := hJ.out
                      rw [hq4] at hJ2
                      clear hJ hN
                      by_cases hm : k + j < s.size
                      · have hmI : (k : Int) + (j : Int) < (s.size : Int) := by omega
                        obtain ⟨y, hy, hdy, iy⟩ := sb_get s (k + j) hm
                        rw [show ((k + j : Nat) : Int) = (k : Int) + (j : Int) from rfl] at iy
                        rw [hdy] at hJ2
                        have hJ3 : it = if inR HEX (y : Int) then numGo q (a * 16 + hv (y : Int)) ((sb s).drop (k + j + 1)) else (0, 0, 2) := hJ2
                        clear hJ2
                        have HVv := Lib.hid (fun W => value_any y hy W)
                        replace hdy := Lib.hid hdy
                        cases hH : inR HEX (y : Int)
                        · have hval : valI (y : Int) = -1 := by unfold valI; rw [hH]; rfl
                          rw [hval] at HVv
                          rw [hH] at hJ3
                          have hv := Lib.hid (show V = (⟨0, [], k⟩, 0, 2) from by rw [hI3.out, hJ3]; exact if_pos rfl)
                          clear hI3 hJ3 hval
                          go_wp2_with fail
                          refine Calls.mono (HVv.out _) ?_
                          rintro e w1 ⟨rfl, hw1⟩
                          rw [hw1]
                          clear hw1 w1
                          go_wp2_with fail
                          refine bodyPost_ret (v := .tuple #[.string ⟨#[]⟩, .int .i64 (k : Int), .int .i64 2]) (by simp [results, Try.results32, go_sem]) rfl ?_
                          rw [hv.out]
                          exact ⟨rfl, hB⟩
                        · have hval : valI (y : Int) = hv (y : Int) := by unfold valI; rw [hH]; rfl
                          have hb := (hex_ix hy hH).2
                          rw [hval] at HVv
                          rw [hH] at hJ3
                          have hJ4 := Lib.hid (show it = numGo (4 - (j + 1)) (16 * a + hv (y : Int)) ((sb s).drop (k + (j + 1))) from by
                            rw [show 4 - (j + 1) = q by omega, show 16 * a = a * 16 by omega]
                            exact hJ3)
                          clear hJ3 hval hH
                          generalize hv (y : Int) = hy2 at *
                          go_wp2_with fail
                          refine Calls.mono (HVv.out _) ?_
                          rintro e w1 ⟨rfl, hw1⟩
                          rw [hw1]
                          clear hw1 w1
                          go_wp2_with fail
                          go_roundw
                          case rel => exact ⟨trivial, j + 1, 16 * a + hy2, by go_num, by go_num, by omega, by omega, by omega, by omega, by omega, by omega, by omega, hJ4⟩
                          case measure => simp [intOf]; omega
                      · have hmI : (s.size : Int) ≤ (k : Int) + (j : Int) := by omega
                        have hit2 : it = (0, 0, 3) := by rw [hJ2, List.drop_eq_nil_of_le (by omega)]; rfl
                        have hv := Lib.hid (show V = (⟨0, [], s.size⟩, 0, 3) from by
                          rw [hI3.out, hit2]
                          refine (if_neg (show ¬ (3 : Int) = 2 by decide)).trans ((if_pos rfl).trans ?_)
                          rw [hlen.out, show k + (s.size - k) = s.size by omega])
                        clear hI3 hit2 hJ2
                        go_wp2_with fail
                        refine bodyPost_ret (v := .tuple #[.string ⟨#[]⟩, .int .i64 (s.size : Int), .int .i64 3]) (by simp [results, Try.results32, go_sem]) rfl ?_
                        rw [hv.out]
                        exact ⟨rfl, hB⟩
                    · have hjI : ¬ (j : Int) < 4 := by omega
                      obtain rfl : j = 4 := by omega
                      have hit2 : it = (a, 4, 0) := hJ.out
                      have hv := Lib.hid (show V = qdGo s.size (k + 4) (L ++ [a]) ((sb s).drop (k + 4)) from by
                        rw [hI3.out, hit2]
                        refine (if_neg (show ¬ (0 : Int) = 2 by decide)).trans ((if_neg (show ¬ (0 : Int) = 3 by decide)).trans ?_)
                        show qdGo f (k + 4) (L ++ [a]) ((((92 : Nat) : Int) :: (sb s).drop (k + 1)).drop 4) = _
                        rw [hdn.out, hfu.out 4 _ (by omega)])
                      have hwb := wrap_byte ⟨ha0, ha1⟩
                      clear hI3 hit2 hJ hN
                      have hrow := hrow.out
                      have hRn := Lib.hid (hrow.alloc (.cells #[.int .u8 a] 5))
                      have hNn := Lib.hid (lx_lit wr a)
                      have hBn : w.heap.size ≤ (wr.alloc (.cells #[.int .u8 a] 5)).heap.size := by simp; omega
                      have hWn := Lib.hid (hB.alloc hBs (.cells #[.int .u8 a] 5))
                      replace hrow := Lib.hid hrow
                      go_wp2_with (at_builtin; refine wpList_append_rd _ rfl _ _ 24 rfl w.heap.size 5 i0 (.int .u8 0) 1 1 Try.underlying24 hi hz0 hz1 hz2 rfl rfl (by decide) _ L.length _ rfl hRn.out .u8 (some ⟨wr.heap.size, 0, none⟩) 1 1 [a] rfl rfl (fun h => by cases h) (Nat.le_refl _) hNn.out (by unfold maxLen; omega) (by omega) hBn ?_; intro v' w2 hown' hgrow; replace hown' := Lib.hid hown'; replace hgrow := Lib.hid hgrow)
                      go_roundw
                      case rel => exact ⟨k + 4, L ++ [a], by go_num, by omega, hv, by rw [List.length_append]; simp; omega, by rw [List.length_append, List.map_append]; exact hown'.out, hWn.out.grown hgrow.out hBn (fun j ej => hblk.out j ej)⟩
                      case measure => simp [intOf]; omega
                · have b3 : ((d : Int) == 120) = false := by rw [beq_eq_false_iff_ne]; omega
                  have hit2 : it = (0, 0, 2) := by rw [hitd.out, if_neg (show ¬ ((d : Int) = 34 ∨ (d : Int) = 92) by omega), if_neg (show ¬ (d : Int) = 120 by omega)]
                  have hv := Lib.hid (show V = (⟨0, [], k⟩, 0, 2) from by rw [hI3.out, hit2]; exact if_pos rfl)
                  clear hI3 hit2
                  replace hrow := Lib.hid hrow
                  go_wp2_with fail
                  refine bodyPost_ret (v := .tuple #[.string ⟨#[]⟩, .int .i64 (k : Int), .int .i64 2]) (by simp [results, Try.results32, go_sem]) rfl ?_
                  rw [hv.out]
                  exact ⟨rfl, hB⟩
          · have b92 : ((x : Int) == 92) = false := by rw [beq_eq_false_iff_ne]; omega
            have hit2 : it = ((x : Int), 1, 0) := by
              have hp1 : inR PLAIN (x : Int) = true := by rw [hpl.out]; simp only [Bool.and_eq_true, decide_eq_true_eq, Bool.not_eq_true', beq_eq_false_iff_ne]; omega
              rw [hit.out, itemF_cons, if_pos hp1]
            have hv := Lib.hid (show V = qdGo s.size (k + 1) (L ++ [(x : Int)]) ((sb s).drop (k + 1)) from by
              rw [hI3.out, hit2]
              refine (if_neg (show ¬ (0 : Int) = 2 by decide)).trans ((if_neg (show ¬ (0 : Int) = 3 by decide)).trans ?_)
              show qdGo f (k + 1) (L ++ [(x : Int)]) (((x : Int) :: (sb s).drop (k + 1)).drop 1) = _
              rw [hdn.out, hfu.out 1 _ (by omega)])
            clear hit2 hit
            clear hI3 hpl
            have hRn := Lib.hid (hrow.alloc (.cells #[.int .u8 (x : Int)] 5))
            have hNn := Lib.hid (lx_lit wr (x : Int))
            have hBn : w.heap.size ≤ (wr.alloc (.cells #[.int .u8 (x : Int)] 5)).heap.size := by simp; omega
            have hWn := Lib.hid (hB.alloc hBs (.cells #[.int .u8 (x : Int)] 5))
            replace hrow := Lib.hid hrow
            go_wp2_with (at_builtin; refine wpList_append_rd _ rfl _ _ 24 rfl w.heap.size 5 i0 (.int .u8 0) 1 1 Try.underlying24 hi hz0 hz1 hz2 rfl rfl (by decide) _ L.length _ rfl hRn.out .u8 (some ⟨wr.heap.size, 0, none⟩) 1 1 [(x : Int)] rfl rfl (fun h => by cases h) (Nat.le_refl _) hNn.out (by unfold maxLen; omega) (by omega) hBn ?_; intro v' w2 hown' hgrow; replace hown' := Lib.hid hown'; replace hgrow := Lib.hid hgrow)
            go_roundw
            case rel => exact ⟨k + 1, L ++ [(x : Int)], by go_num, by omega, hv, by rw [List.length_append]; simp; omega, by rw [List.length_append, List.map_append]; exact hown'.out, hWn.out.grown hgrow.out hBn (fun j ej => hblk.out j ej)⟩
            case measure => simp [intOf]; omega
        · have hit2 : it = (0, 0, 2) := by
            have hp1 : ¬ inR PLAIN (x : Int) = true := by rw [hpl.out]; simp only [Bool.and_eq_true, decide_eq_true_eq, Bool.not_eq_true', beq_eq_false_iff_ne]; omega
            rw [hit.out, itemF_cons, if_neg hp1, if_pos (show (x : Int) ≠ 92 by omega)]
          have hv := Lib.hid (show V = (⟨0, [], k⟩, 0, 2) from by rw [hI3.out, hit2]; exact if_pos rfl)
          clear hit2 hit
          clear hI3 hpl
          replace hrow := Lib.hid hrow
          by_cases h32 : x < 32
          · have d1 : decide ((x : Int) < 32) = true := decide_eq_true (by omega)
            go_wp2_with fail
            refine bodyPost_ret (v := .tuple #[.string ⟨#[]⟩, .int .i64 (k : Int), .int .i64 2]) (by simp [results, Try.results32, go_sem]) rfl ?_
            rw [hv.out]
            exact ⟨rfl, hB⟩
          · have d1 : decide ((x : Int) < 32) = false := decide_eq_false (by omega)
            have d2 : decide ((126 : Int) < (x : Int)) = true := decide_eq_true (by omega)
            go_wp2_with fail
            refine bodyPost_ret (v := .tuple #[.string ⟨#[]⟩, .int .i64 (k : Int), .int .i64 2]) (by simp [results, Try.results32, go_sem]) rfl ?_
            rw [hv.out]
            exact ⟨rfl, hB⟩
    · have hlI : ¬ (k : Int) < (s.size : Int) := by omega
      have hv := Lib.hid (show V = (⟨0, [], s.size⟩, 0, 3) from by
        rw [hI.out, List.drop_eq_nil_of_le (by omega), show k = s.size by omega]
        cases s.size <;> rfl)
      replace hrow := Lib.hid hrow
      go_wp2_with fail
      refine bodyPost_ret (v := .tuple #[.string ⟨#[]⟩, .int .i64 (s.size : Int), .int .i64 3]) (by simp [results, Try.results32, go_sem]) rfl ?_
      rw [hv.out]
      exact ⟨rfl, hB⟩
end Go.Proofs.Ytpeeekgfcofbkaa
