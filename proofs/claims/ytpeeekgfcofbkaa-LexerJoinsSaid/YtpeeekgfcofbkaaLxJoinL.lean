/-
  THE WALK of the law LexerJoins.
-/
import Derived.Test.YtpeeekgfcofbkaaLxJoinM
import Derived.Test.YtpeeekgfcofbkaaLxGood
import Derived.Test.YtpeeekgfcofbkaaLxLives
namespace Go.Proofs.Ytpeeekgfcofbkaa
open Go.RowKit

theorem sb_app (a b : ByteArray) : sb (a ++ b) = sb a ++ sb b := by
  unfold sb
  rw [ByteArray.data_append, Array.toList_append, List.map_append]
set_option maxHeartbeats 8000000 in
set_option maxRecDepth 100000 in
theorem ljoins_any (A1 A2 : Option Addr) (n1 c1 n2 c2 : Nat) (zs1 zs2 : List Int) (w : World) (hn1 : n1 = zs1.length) (hz1 : ∀ z ∈ zs1, I64 z) (hr1 : RdI w w.heap.size .i64 A1 zs1) (hn2 : n2 = zs2.length) (hz2 : ∀ z ∈ zs2, I64 z) (hr2 : RdI w w.heap.size .i64 A2 zs2) :
    Calls Try.prog 6 #[.slice A1 n1 c1, .slice A2 n2 c2] w fun e w' => e = .returned (.bool true) ∧ Below w.heap.size w w' := by
  have HG1 := Lib.hid (good_any A1 n1 c1 zs1 8 8 w hn1 hz1 hr1 rfl (by decide))
  have HG2 := Lib.hid (fun (W : World) (hW : Below w.heap.size w W) => good_any A2 n2 c2 zs2 8 8 W hn2 hz2 ((hr2.below hW).mono hW.size) rfl (by decide))
  clear hn1 hz1 hr1 hn2 hz2 hr2
  go_enter Try.func6, Try.ntmps6
  go_wp2_with fail
  refine Calls.mono HG1.out ?_
  rintro e w1 ⟨T, rfl, hT, ⟨a, x, ha, hx⟩, hB1⟩
  clear HG1
  go_wp2_with fail
  refine Calls.mono (HG2.out _ hB1) ?_
  rintro e w2 ⟨U, rfl, hU, ⟨b, y, hb, hy⟩, hB2⟩
  clear HG2
  have h02 := hB1.trans (hB2.mono hB1.size)
  clear hB1 hB2
  have h8 : Bytes8 (sb T ++ 10 :: sb U) := fun z hz => by
    rcases List.mem_append.1 hz with hz | hz
    · exact sb_bytes T z hz
    · rcases List.mem_cons.1 hz with rfl | hz
      · decide
      · exact sb_bytes U z hz
  rw [← sb_length] at ha hb
  have hboth := yl_both h8 ha hx hb hy
  obtain ⟨rfl, _⟩ := yl_last _ _ _ _ _ (sb_bytes T) (Nat.zero_le _) (by omega) ha hx
  obtain ⟨rfl, _⟩ := yl_last _ _ _ _ _ (sb_bytes U) (Nat.zero_le _) (by omega) hb hy
  rw [sb_length] at ha hb
  rw [sb_length, sb_length] at hboth
  obtain ⟨S, hS⟩ : ∃ S, T ++ ⟨#[10]⟩ ++ U = S := ⟨_, rfl⟩
  have hSz : S.size = T.size + U.size + 1 := by
    rw [← hS, ByteArray.size_append, ByteArray.size_append]
    show T.size + 1 + U.size = _
    omega
  have hSb : sb S = sb T ++ 10 :: sb U := by
    rw [← hS, sb_app, sb_app]
    show sb T ++ [10] ++ sb U = _
    simp
  rw [← hSb, show T.size + U.size + 2 = S.size + 1 by omega, show T.size + U.size + 1 = S.size by omega] at hboth
  obtain ⟨na, hna⟩ : ∃ na, na = a.length + 1 := ⟨_, rfl⟩
  obtain ⟨nb, hnb⟩ : ∃ nb, nb = b.length + 1 := ⟨_, rfl⟩
  obtain ⟨nc, hnc⟩ : ∃ nc, nc = a.length + b.length + 1 := ⟨_, rfl⟩
  obtain ⟨LA, hLA⟩ : ∃ LA, LA = (a ++ [((⟨6, [], T.size⟩ : Tk), (0 : Int))]).map Prod.fst := ⟨_, rfl⟩
  obtain ⟨LB, hLB⟩ : ∃ LB, LB = (b ++ [((⟨6, [], U.size⟩ : Tk), (0 : Int))]).map Prod.fst := ⟨_, rfl⟩
  obtain ⟨LC, hLC⟩ : ∃ LC, LC = ((a ++ b.map fun z => (z.1.move (T.size + 1), z.2)) ++ [((⟨6, [], S.size⟩ : Tk), (0 : Int))]).map Prod.fst := ⟨_, rfl⟩
  have HT1 := Lib.hid fun W => tok_ok T na LA W (by omega) a _ ha rfl hna hLA
  have HT2 := Lib.hid fun W => tok_ok U nb LB W (by omega) b _ hb rfl hnb hLB
  have HT3 := Lib.hid fun W => tok_ok S nc LC W (by omega) _ _ hboth rfl (by rw [hnc, List.length_append, List.length_map]) hLC
  have hsum : nc + 1 = na + nb := by omega
  have hna1 : 1 ≤ na := by omega
  have hcat1 : ¬ 9223372036854775807 < T.size + 1 := by omega
  have hcat2 : ¬ 9223372036854775807 < T.size + 1 + U.size := by omega
  have hbig : nc ≤ 2000 := by
    have h1 := yl_len (T.size + 1) (sb T) 0
    have h2 := yl_len (U.size + 1) (sb U) 0
    rw [ha, List.length_append, List.length_singleton] at h1
    rw [hb, List.length_append, List.length_singleton] at h2
    omega
  replace hnc := Lib.hid hnc
  replace hna := Lib.hid hna
  replace hnb := Lib.hid hnb
  replace hLA := Lib.hid hLA
  replace hLB := Lib.hid hLB
  replace hLC := Lib.hid hLC
  have hTU := Lib.hid (And.intro hT hU)
  have hSz' := Lib.hid hSz
  have hLC2 : LC = a.map Prod.fst ++ LB.map fun z => z.move (T.size + 1) := by
    rw [hLC.out, hLB.out, hSz, List.map_append, List.map_append, List.map_append, List.map_append, List.append_assoc, List.map_map, List.map_map]
    congr 2
    show [(⟨6, [], T.size + U.size + 1⟩ : Tk)] = [⟨6, [], U.size + (T.size + 1)⟩]
    rw [show T.size + U.size + 1 = U.size + (T.size + 1) by omega]
  have hgA := Lib.hid fun (k : Nat) (hk : k < na - 1) => (show ∃ y : Tk, LA[k]? = some y ∧ LC[k]? = some y from by
    have h1 := hna.out
    have hk' : k < (a.map Prod.fst).length := by rw [List.length_map]; omega
    refine ⟨(a.map Prod.fst)[k], ?_, ?_⟩
    · rw [hLA.out, List.map_append, List.getElem?_append_left hk', List.getElem?_eq_getElem hk']
    · rw [hLC2, List.getElem?_append_left hk', List.getElem?_eq_getElem hk'])
  have hgB := Lib.hid fun (k j : Nat) (hk : k + 1 = na + j) (hj : j < nb) => (show ∃ y : Tk, LB[j]? = some y ∧ LC[k]? = some (y.move (T.size + 1)) from by
    have h1 := hna.out
    have h2 := hnb.out
    have hl : LB.length = b.length + 1 := by rw [hLB.out]; simp
    have hj' : j < LB.length := by omega
    refine ⟨LB[j], List.getElem?_eq_getElem hj', ?_⟩
    rw [hLC2, List.getElem?_append_right (by rw [List.length_map]; omega), List.length_map, show k - a.length = j by omega, List.getElem?_map, List.getElem?_eq_getElem hj']
    rfl)
  have hLBp := Lib.hid fun (j : Nat) (y : Tk) (h : LB[j]? = some y) => (show y.p ≤ 400 from by
    have h1 := yl_place (U.size + 1) (sb U) 0 (sb_bytes U) (Nat.zero_le _)
    rw [hb, sb_length] at h1
    rw [hLB.out] at h
    obtain ⟨z, hz, rfl⟩ := List.mem_map.1 (List.mem_of_getElem? h)
    have := h1 z hz
    omega)
  clear ha hb hboth hSb h8 hSz hT hU hLC2
  go_wp2_with fail
  refine Calls.mono (HT1.out _) ?_
  rintro e w3 ⟨g1, d1, rfl, hd1, hg1, hA1, -, hB3⟩
  clear HT1
  replace hA1 := Lib.hid hA1
  go_wp2_with fail
  refine Calls.mono (HT2.out _) ?_
  rintro e w4 ⟨g2, d2, rfl, hd2, hg2, hA2, -, hB4⟩
  clear HT2
  replace hA2 := Lib.hid hA2
  go_wp2_with fail
  refine Calls.mono (HT3.out _) ?_
  rintro e w5 ⟨g3, d3, rfl, hd3, hg3, hA3, -, hB5⟩
  clear HT3
  replace hA3 := Lib.hid hA3
  have h45 := hB4.trans (hB5.mono hB4.size)
  have h35 := hB3.trans (h45.mono hB3.size)
  have hB := h02.trans (h35.mono h02.size)
  have hk1 := Lib.hid fun (W : World) (hW : Below w5.heap.size w5 W) => hA1.out W ((hW.block g1 (by have := hB4.size; have := hB5.size; omega)).trans (h45.block g1 hg1))
  have hk2 := Lib.hid fun (W : World) (hW : Below w5.heap.size w5 W) => hA2.out W ((hW.block g2 (by have := hB5.size; omega)).trans (hB5.block g2 hg2))
  have hk3 := Lib.hid fun (W : World) (hW : Below w5.heap.size w5 W) => hA3.out W (hW.block g3 hg3)
  clear hA1 hA2 hA3 hB3 hB4 hB5 h45 h35 h02
  have hna1I : (1 : Int) ≤ (na : Int) := by omega
  have hsumI : ((nc : Int) != (na : Int) + (nb : Int) - 1) = false := by
    rw [bne_eq_false_iff_eq]
    omega
  go_wp2_with fail
  go_loopw [16] (fun i wr => ∃ (k : Nat), i = .int .i64 (k : Int) ∧ k ≤ nc ∧ Below w5.heap.size w5 wr) (fun i _ => nc - (intOf i).toNat)
  case atStart => exact ⟨0, rfl, by omega, Below.refl _ _⟩
  case round =>
    obtain ⟨k, rfl, hk, hW⟩ := hrel
    by_cases hlt : k < nc
    · have hlI : (k : Int) < (nc : Int) := by omega
      by_cases hka : k < na - 1
      · have hkaI : (k : Int) < (na : Int) - 1 := by omega
        obtain ⟨⟨yk, yt, yp⟩, hyA, hyC⟩ := hgA.out k hka
        have hA0 : Below w5.heap.size w5 (wr.alloc (.cells #[.int .i64 0, .string ⟨#[]⟩, .int .i64 0] 43)) := hW.alloc hW.size _
        obtain ⟨a1, a2, a3⟩ := hk1.out _ hA0 k _ hyA
        dsimp only at a1 a2 a3
        have hA0' := Lib.hid hA0
        clear hyA hA0
        go_wp2_with fail
        have hZ : Below w5.heap.size w5 (wr.alloc (.cells #[.int .i64 yk, .string (strOfNums yt), .int .i64 (yp : Int)] 43)).drew := (hW.alloc hW.size _).drew
        have HS : (fun W => W.cell? ⟨g3, k * 3, none⟩ = some (.int .i64 yk) ∧ W.cell? ⟨g3, k * 3 + 1, none⟩ = some (.string (strOfNums yt)) ∧ W.cell? ⟨g3, k * 3 + 2, none⟩ = some (.int .i64 (yp : Int)) ∧ W.cell? ⟨wr.heap.size, 0, none⟩ = some (.int .i64 yk) ∧ W.cell? ⟨wr.heap.size, 1, none⟩ = some (.string (strOfNums yt)) ∧ W.cell? ⟨wr.heap.size, 2, none⟩ = some (.int .i64 (yp : Int))) (wr.alloc (.cells #[.int .i64 yk, .string (strOfNums yt), .int .i64 (yp : Int)] 43)).drew := by
          obtain ⟨b1, b2, b3⟩ := hk3.out _ hZ k _ hyC
          obtain ⟨z1, -⟩ := three_at3 (w := (wr.alloc (.cells #[.int .i64 yk, .string (strOfNums yt), .int .i64 (yp : Int)] 43)).drew) (heap_alloc_new wr (.cells #[.int .i64 yk, .string (strOfNums yt), .int .i64 (yp : Int)] 43))
          exact ⟨b1, b2, b3, z1⟩
        replace HS := Lib.hid HS
        have hZ' := Lib.hid hZ
        clear a1 a2 a3 hyC hZ hA0'
        refine wp_region_held_drew (S := fun W => W.cell? ⟨g3, k * 3, none⟩ = some (.int .i64 yk) ∧ W.cell? ⟨g3, k * 3 + 1, none⟩ = some (.string (strOfNums yt)) ∧ W.cell? ⟨g3, k * 3 + 2, none⟩ = some (.int .i64 (yp : Int)) ∧ W.cell? ⟨wr.heap.size, 0, none⟩ = some (.int .i64 yk) ∧ W.cell? ⟨wr.heap.size, 1, none⟩ = some (.string (strOfNums yt)) ∧ W.cell? ⟨wr.heap.size, 2, none⟩ = some (.int .i64 (yp : Int))) (by kernel_rfl) (HS.out) (fun hHeld => ?_)
        (try simp only [List.size_toArray, List.length_cons, List.length_nil, Nat.zero_add, Nat.reduceAdd])
        refine wpAnyH_takeL (i := 0) (v := ?v1) rfl (by kernel_rfl) (by kernel_rfl) (by kernel_rfl) (fun _ _ _ h => h) (Or.inl ⟨by rfl, ?y1⟩) (by assumption) ?r1
        case y1 => (intro W hSw; (try dsimp only at hSw); go_simp; try with_reducible rfl)
        (try simp only [Act.put, List.setIfInBounds_toArray, List.set_cons_zero, List.set_cons_succ])
        refine wpAnyH_takeL (i := 1) (v := ?v2) rfl (by kernel_rfl) (by kernel_rfl) (by kernel_rfl) (fun _ _ _ h => h) (Or.inl ⟨by rfl, ?y2⟩) (by assumption) ?r2
        case y2 => (intro W hSw; (try dsimp only at hSw); go_simp; try with_reducible rfl)
        (try simp only [Act.put, List.setIfInBounds_toArray, List.set_cons_zero, List.set_cons_succ])
        refine wpAnyH_takeL (i := 2) (v := ?v3) rfl (by kernel_rfl) (by kernel_rfl) (by kernel_rfl) (fun _ _ _ h => h) (Or.inl ⟨by rfl, ?y3⟩) (by assumption) ?r3
        case y3 => (intro W hSw; (try dsimp only at hSw); go_simp; try with_reducible rfl)
        (try simp only [Act.put, List.setIfInBounds_toArray, List.set_cons_zero, List.set_cons_succ])
        refine wpAnyH_takeL (i := 3) (v := ?v4) rfl (by kernel_rfl) (by kernel_rfl) (by kernel_rfl) (fun _ _ _ h => h) (Or.inl ⟨by rfl, ?y4⟩) (by assumption) ?r4
        case y4 => (intro W hSw; (try dsimp only at hSw); go_simp; try with_reducible rfl)
        (try simp only [Act.put, List.setIfInBounds_toArray, List.set_cons_zero, List.set_cons_succ])
        refine wpAnyH_takeL (i := 4) (v := ?v5) rfl (by kernel_rfl) (by kernel_rfl) (by kernel_rfl) (fun _ _ _ h => h) (Or.inl ⟨by rfl, ?y5⟩) (by assumption) ?r5
        case y5 => (intro W hSw; (try dsimp only at hSw); go_simp; try with_reducible rfl)
        (try simp only [Act.put, List.setIfInBounds_toArray, List.set_cons_zero, List.set_cons_succ])
        refine wpAnyH_takeL (i := 5) (v := .bool false) rfl (by kernel_rfl) (by kernel_rfl) (by kernel_rfl) (fun _ _ _ h => h) (Or.inl ⟨by rfl, ?y6⟩) (by assumption) ?r6
        case y6 => (intro W hSw; (try dsimp only at hSw); first | (go_simp; done) | (go_simp; simp))
        (try simp only [Act.put, List.setIfInBounds_toArray, List.set_cons_zero, List.set_cons_succ])
        refine wpAnyH_done (by kernel_rfl) ?_ _
        go_wp2_with fail
        go_roundw
        case rel => exact ⟨k + 1, by go_num, by omega, hZ'.out⟩
        case measure => simp [intOf]; omega
      · have hkaI : ¬ (k : Int) < (na : Int) - 1 := by omega
        obtain ⟨j, hj⟩ : ∃ j, k + 1 = na + j := ⟨k + 1 - na, by omega⟩
        obtain ⟨⟨yk, yt, yp⟩, hyB, hyC⟩ := hgB.out k j hj (by omega)
        have hA0 : Below w5.heap.size w5 (wr.alloc (.cells #[.int .i64 0, .string ⟨#[]⟩, .int .i64 0] 43)) := hW.alloc hW.size _
        obtain ⟨a1, a2, a3⟩ := hk2.out _ hA0 j _ hyB
        dsimp only at a1 a2 a3
        have hA0' := Lib.hid hA0
        have hjI : (k : Int) - (na : Int) + 1 = (j : Int) := by omega
        have hyp := hLBp.out j _ hyB
        dsimp only at hyp
        have hTU2 := hTU.out.1
        clear hyB hA0
        replace hj := Lib.hid hj
        go_wp2_with fail
        have hZ : Below w5.heap.size w5 (wr.alloc (.cells #[.int .i64 yk, .string (strOfNums yt), .int .i64 ((yp : Int) + (T.size : Int) + 1)] 43)).drew := (hW.alloc hW.size _).drew
        have HS : (fun W => W.cell? ⟨g3, k * 3, none⟩ = some (.int .i64 yk) ∧ W.cell? ⟨g3, k * 3 + 1, none⟩ = some (.string (strOfNums yt)) ∧ W.cell? ⟨g3, k * 3 + 2, none⟩ = some (.int .i64 ((yp : Int) + (T.size : Int) + 1)) ∧ W.cell? ⟨wr.heap.size, 0, none⟩ = some (.int .i64 yk) ∧ W.cell? ⟨wr.heap.size, 1, none⟩ = some (.string (strOfNums yt)) ∧ W.cell? ⟨wr.heap.size, 2, none⟩ = some (.int .i64 ((yp : Int) + (T.size : Int) + 1))) (wr.alloc (.cells #[.int .i64 yk, .string (strOfNums yt), .int .i64 ((yp : Int) + (T.size : Int) + 1)] 43)).drew := by
          obtain ⟨b1, b2, b3⟩ := hk3.out _ hZ k _ hyC
          obtain ⟨z1, -⟩ := three_at3 (w := (wr.alloc (.cells #[.int .i64 yk, .string (strOfNums yt), .int .i64 ((yp : Int) + (T.size : Int) + 1)] 43)).drew) (heap_alloc_new wr (.cells #[.int .i64 yk, .string (strOfNums yt), .int .i64 ((yp : Int) + (T.size : Int) + 1)] 43))
          exact ⟨b1, b2, by rw [show ((yp : Int) + (T.size : Int) + 1) = ((yp + (T.size + 1) : Nat) : Int) by omega]; exact b3, z1⟩
        replace HS := Lib.hid HS
        have hZ' := Lib.hid hZ
        clear a1 a2 a3 hyC hZ hA0'
        refine wp_region_held_drew (S := fun W => W.cell? ⟨g3, k * 3, none⟩ = some (.int .i64 yk) ∧ W.cell? ⟨g3, k * 3 + 1, none⟩ = some (.string (strOfNums yt)) ∧ W.cell? ⟨g3, k * 3 + 2, none⟩ = some (.int .i64 ((yp : Int) + (T.size : Int) + 1)) ∧ W.cell? ⟨wr.heap.size, 0, none⟩ = some (.int .i64 yk) ∧ W.cell? ⟨wr.heap.size, 1, none⟩ = some (.string (strOfNums yt)) ∧ W.cell? ⟨wr.heap.size, 2, none⟩ = some (.int .i64 ((yp : Int) + (T.size : Int) + 1))) (by kernel_rfl) (HS.out) (fun hHeld => ?_)
        (try simp only [List.size_toArray, List.length_cons, List.length_nil, Nat.zero_add, Nat.reduceAdd])
        refine wpAnyH_takeL (i := 0) (v := ?v7) rfl (by kernel_rfl) (by kernel_rfl) (by kernel_rfl) (fun _ _ _ h => h) (Or.inl ⟨by rfl, ?y7⟩) (by assumption) ?r7
        case y7 => (intro W hSw; (try dsimp only at hSw); go_simp; try with_reducible rfl)
        (try simp only [Act.put, List.setIfInBounds_toArray, List.set_cons_zero, List.set_cons_succ])
        refine wpAnyH_takeL (i := 1) (v := ?v8) rfl (by kernel_rfl) (by kernel_rfl) (by kernel_rfl) (fun _ _ _ h => h) (Or.inl ⟨by rfl, ?y8⟩) (by assumption) ?r8
        case y8 => (intro W hSw; (try dsimp only at hSw); go_simp; try with_reducible rfl)
        (try simp only [Act.put, List.setIfInBounds_toArray, List.set_cons_zero, List.set_cons_succ])
        refine wpAnyH_takeL (i := 2) (v := ?v9) rfl (by kernel_rfl) (by kernel_rfl) (by kernel_rfl) (fun _ _ _ h => h) (Or.inl ⟨by rfl, ?y9⟩) (by assumption) ?r9
        case y9 => (intro W hSw; (try dsimp only at hSw); go_simp; try with_reducible rfl)
        (try simp only [Act.put, List.setIfInBounds_toArray, List.set_cons_zero, List.set_cons_succ])
        refine wpAnyH_takeL (i := 3) (v := ?v10) rfl (by kernel_rfl) (by kernel_rfl) (by kernel_rfl) (fun _ _ _ h => h) (Or.inl ⟨by rfl, ?y10⟩) (by assumption) ?r10
        case y10 => (intro W hSw; (try dsimp only at hSw); go_simp; try with_reducible rfl)
        (try simp only [Act.put, List.setIfInBounds_toArray, List.set_cons_zero, List.set_cons_succ])
        refine wpAnyH_takeL (i := 4) (v := ?v11) rfl (by kernel_rfl) (by kernel_rfl) (by kernel_rfl) (fun _ _ _ h => h) (Or.inl ⟨by rfl, ?y11⟩) (by assumption) ?r11
        case y11 => (intro W hSw; (try dsimp only at hSw); go_simp; try with_reducible rfl)
        (try simp only [Act.put, List.setIfInBounds_toArray, List.set_cons_zero, List.set_cons_succ])
        refine wpAnyH_takeL (i := 5) (v := .bool false) rfl (by kernel_rfl) (by kernel_rfl) (by kernel_rfl) (fun _ _ _ h => h) (Or.inl ⟨by rfl, ?y12⟩) (by assumption) ?r12
        case y12 => (intro W hSw; (try dsimp only at hSw); first | (go_simp; done) | (go_simp; simp))
        (try simp only [Act.put, List.setIfInBounds_toArray, List.set_cons_zero, List.set_cons_succ])
        refine wpAnyH_done (by kernel_rfl) ?_ _
        go_wp2_with fail
        go_roundw
        case rel => exact ⟨k + 1, by go_num, by omega, hZ'.out⟩
        case measure => simp [intOf]; omega
    · have hlI : ¬ (k : Int) < (nc : Int) := by omega
      go_wp2_with fail
      refine Calls.mono (lives_any wr) ?_
      rintro e w6 ⟨rfl, hB6⟩
      go_wp2_with fail
      go_ret
      exact ⟨rfl, (hB.trans (hW.mono hB.size)).trans (hB6.mono (by have := hB.size; have := hW.size; omega))⟩
end Go.Proofs.Ytpeeekgfcofbkaa
