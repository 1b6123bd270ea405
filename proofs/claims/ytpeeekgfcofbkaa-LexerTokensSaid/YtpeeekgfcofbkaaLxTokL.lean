/-
  THE WALK of the law LexerTokens. Written by gen/genlxtok.py.
-/
import Derived.Test.YtpeeekgfcofbkaaLxJoinM
import Derived.Test.YtpeeekgfcofbkaaLxGood
import Derived.Test.YtpeeekgfcofbkaaLxLives
import Derived.Test.YtpeeekgfcofbkaaLxLong
import Derived.Test.YtpeeekgfcofbkaaBitsRow
namespace Go.Proofs.Ytpeeekgfcofbkaa
open Go.RowKit

/-- []byte(s): what is asked for a store into it -/
theorem convX (s : ByteArray) (W : World) : ∃ cap C, (convert 9 24 (.string s)).run Try.prog W = .ok (.slice (some ⟨W.heap.size, 0, none⟩) s.size cap) (W.drew.alloc (.cells C 5 (C.size, C.size + 1))) ∧
    (∀ j, j < s.size → ((W.alloc (.cells C 5 (C.size, C.size + 1))).drew.cell? ⟨W.heap.size, j, none⟩).isSome = true ∧ (W.alloc (.cells C 5 (C.size, C.size + 1))).drew.frozen? ⟨W.heap.size, j, none⟩ = false) ∧
    RdI (W.alloc (.cells C 5 (C.size, C.size + 1))).drew (W.alloc (.cells C 5 (C.size, C.size + 1))).drew.heap.size .u8 (some ⟨W.heap.size, 0, none⟩) (sb s) := by
  obtain ⟨cap, C, hcap, hcv, hC⟩ := conv_bytes s W
  refine ⟨cap, C, hcv, fun j hj => ?_, rd_conv W C (sb s) hC⟩
  have hnew : (W.alloc (.cells C 5 (C.size, C.size + 1))).drew.heap[W.heap.size]? = some (.cells C 5 (C.size, C.size + 1)) := heap_alloc_new W _
  have hc := hC.out j (by rw [sb_length]; exact hj)
  have hjC : j < C.size := (Array.getElem?_eq_some_iff.1 hc).1
  refine ⟨?_, ?_⟩
  · unfold World.cell?
    rw [hnew]
    simp [hc]
  · have h : ¬ C.size ≤ j := by omega
    unfold World.frozen?
    rw [hnew]
    simp [h]
/-- the seven texts (block g) lie as they were -/
def Str7 (w : World) (g : Nat) (f : Nat → ByteArray) (wr : World) : Prop := Below w.heap.size w wr ∧ g < wr.heap.size ∧ ∀ j, j < 7 → wr.cell? ⟨g, j, none⟩ = some (.string (f j))
theorem Str7.on {w wr w' : World} {g : Nat} {f : Nat → ByteArray} (h : Str7 w g f wr) (hb : Below wr.heap.size wr w') : Str7 w g f w' :=
  ⟨h.1.trans (hb.mono h.1.size), Nat.lt_of_lt_of_le h.2.1 hb.size, fun j hj => (hb.cell (p := ⟨g, j, none⟩) h.2.1).trans (h.2.2 j hj)⟩
theorem plain_nil (w : World) : Calls Try.prog 16 #[.slice none 0 0] w fun e w' => e = .returned (.slice none 0 0) ∧ w' = w := by
  go_enter Try.func16, Try.ntmps16
  go_wp2_with fail
  go_loopw [3, 4] (fun cu i wr => i = .int .i64 0 ∧ cu = .slice none 0 0 ∧ wr = w) (fun _ i _ => 0)
  case atStart => exact ⟨rfl, rfl, rfl⟩
  case round =>
    obtain ⟨rfl, rfl, rfl⟩ := hrel
    go_wp2_with fail
    go_ret
    exact ⟨rfl, rfl⟩
set_option maxHeartbeats 16000000 in
set_option maxRecDepth 100000 in
theorem ltokens_any (A : Option Addr) (n c : Nat) (zs : List Int) (s : ByteArray) (at' : Int) (ch : Nat) (w : World) (hn : n = zs.length) (hz : ∀ z ∈ zs, I64 z) (hr : RdI w w.heap.size .i64 A zs) (hs : s.size ≤ maxLen) (ha : I64 at') (hch : ch < 256) :
    Calls Try.prog 3 #[.slice A n c, .string s, .int .i64 at', .int .u8 ch] w fun e w' => e = .returned (.bool true) ∧ Below w.heap.size w w' := by
  have HG := Lib.hid (some_any A n c zs 12 12 w hn hz hr rfl (by decide))
  have HG12 := Lib.hid (fun (W : World) (hW : Below w.heap.size w W) => good_any A n c zs 12 12 W hn hz ((hr.below hW).mono hW.size) rfl (by decide))
  have HG9 := Lib.hid (fun (W : World) (hW : Below w.heap.size w W) => good_any A n c zs 9 9 W hn hz ((hr.below hW).mono hW.size) rfl (by decide))
  have HS60 := Lib.hid (fun W => Short_any s 60 W hs)
  have HS5 := Lib.hid (fun W => Short_any s 5 W hs)
  have HA := Lib.hid (fun (m : Nat) (h1 : 1 ≤ m) (h2 : m ≤ 1000000) => Around_nat at' m ha h1 h2)
  clear hn hz hr hs ha
  go_enter Try.func3, Try.ntmps3
  go_wp2_with fail
  refine Calls.mono HG.out ?_
  rintro e w1 ⟨T, rfl, hT, hB1⟩
  clear HG
  obtain ⟨cap, C, hcv, hst, hrd⟩ := convX T w1
  have hB2 : Below w.heap.size w (w1.alloc (.cells C 5 (C.size, C.size + 1))).drew := (hB1.alloc hB1.size _).drew
  obtain ⟨k2, hk2, hA2⟩ := HA.out (T.size + 1) (by omega) (by omega)
  have HA2 := Lib.hid (fun (W : World) (q : Int) (hq : q = (T.size : Int) + 1) => around_int hA2 q W (by omega))
  have hTI : (T.size : Int) ≤ 480 := by omega
  have hB1' := Lib.hid hB1
  clear hA2 hB1
  by_cases h0 : T.size = 0
  · have h0I : ¬ (0 : Int) < (T.size : Int) := by omega
    replace hrd := Lib.hid hrd
    replace hB2 := Lib.hid hB2
    replace h0 := Lib.hid h0
    clear hst
    go_wp2_with fail
    obtain ⟨W9, hW9⟩ : ∃ W9, W9 = (w1.alloc (.cells C 5 (C.size, C.size + 1))).drew := ⟨_, rfl⟩
    rw [← hW9] at hB2 hrd ⊢
    clear hW9 hcv
    obtain ⟨bl, hbl, hbr⟩ : ∃ bl : List Int, bl.length = T.size ∧ RdI W9 W9.heap.size .u8 (some ⟨w1.heap.size, 0, none⟩) bl := ⟨sb T, sb_length T, hrd.out⟩
    have hB9 := hB2.out
    clear hrd hB2
    obtain ⟨T0, hT0⟩ : ∃ T0, strOfNums bl = T0 := ⟨_, rfl⟩
    have hCV : Hid (∀ W, Below W9.heap.size W9 W → (fun W => (convert 24 9 (.slice (some ⟨w1.heap.size, 0, none⟩) T.size cap)).run Try.prog W = .ok (.string T0) W) W) := Lib.hid fun W hW => by
      have h := conv_string w1.heap.size T.size cap bl W hbl ((hbr.below hW).mono hW.size)
      rw [hT0] at h
      exact h
    have HT0 : Hid (T0.size = T.size) := Lib.hid (by rw [← hT0, strOfNums_size, hbl])
    have hwr : IntKind.i64.wrap ((T.size : Int) + 1) = (T.size : Int) + 1 := by rw [IntKind.wrap_i64]; omega
    have i3 : (k2 : Int) ≤ (T.size : Int) := by omega
    have i30 : (0 : Int) ≤ (k2 : Int) := by omega
    clear hbr hbl hT0 bl
    have g0 : Below W9.heap.size W9 W9.drew := (Below.refl _ _).drew
    refine wp_region_held_drew (S := fun W => (convert 24 9 (.slice (some ⟨w1.heap.size, 0, none⟩) T.size cap)).run Try.prog W = .ok (.string T0) W) (by kernel_rfl) (hCV.out _ g0) (fun hHeld => ?_)
    (try simp only [List.size_toArray, List.length_cons, List.length_nil, Nat.zero_add, Nat.reduceAdd])
    refine wpAnyH_takeL (i := 0) (v := ?v1) rfl (by kernel_rfl) (by kernel_rfl) (by kernel_rfl) (fun _ _ _ h => h) (Or.inl ⟨by rfl, ?y1⟩) (by assumption) ?r1
    case y1 => (intro W hSw; (try dsimp only at hSw); go_simp; try with_reducible rfl)
    (try simp only [Act.put, List.setIfInBounds_toArray, List.set_cons_zero, List.set_cons_succ])
    refine wpAnyH_takeL (i := 1) (v := ?v2) rfl (by kernel_rfl) (by kernel_rfl) (by kernel_rfl) (fun _ _ _ h => h) (Or.inl ⟨by rfl, ?y2⟩) (by assumption) ?r2
    case y2 => (intro W hSw; (try dsimp only at hSw); go_simp; try with_reducible rfl)
    (try simp only [Act.put, List.setIfInBounds_toArray, List.set_cons_zero, List.set_cons_succ])
    refine wpAnyH_takeL (i := 2) (v := ?v3) rfl (by kernel_rfl) (by kernel_rfl) (by kernel_rfl) (fun _ _ _ h => h) (Or.inl ⟨by rfl, ?y3⟩) (by assumption) ?r3
    case y3 => (intro W hSw; (try dsimp only at hSw); go_simp; try with_reducible rfl)
    (try simp only [Act.put, List.setIfInBounds_toArray, List.set_cons_zero, List.set_cons_succ])
    refine wpAnyH_takeL (i := 3) (v := ?v4) rfl (by kernel_rfl) (by kernel_rfl) (by kernel_rfl) (fun _ _ _ h => h) (Or.inl ⟨by rfl, ?y4⟩) (by assumption) ?r4
    case y4 => (intro W hSw; (try dsimp only at hSw); go_simp; try with_reducible rfl)
    (try simp only [Act.put, List.setIfInBounds_toArray, List.set_cons_zero, List.set_cons_succ])
    refine wpAnyH_takeL (i := 4) (v := ?v5) rfl (by kernel_rfl) (by kernel_rfl) (by kernel_rfl) (fun _ _ _ h => h) (Or.inl ⟨by rfl, ?y5⟩) (by assumption) ?r5
    case y5 => (intro W hSw; (try dsimp only at hSw); go_simp; try with_reducible rfl)
    (try simp only [Act.put, List.setIfInBounds_toArray, List.set_cons_zero, List.set_cons_succ])
    refine wpAnyH_takeL (i := 5) (v := ?v6) rfl (by kernel_rfl) (by kernel_rfl) (by kernel_rfl) (fun _ _ _ h => h) (Or.inl ⟨by rfl, ?y6⟩) (by assumption) ?r6
    case y6 => (intro W hSw; (try dsimp only at hSw); go_simp; try with_reducible rfl)
    (try simp only [Act.put, List.setIfInBounds_toArray, List.set_cons_zero, List.set_cons_succ])
    refine wpAnyH_takeL (i := 6) (v := ?v7) rfl (by kernel_rfl) (by kernel_rfl) (by kernel_rfl) (fun _ _ _ h => h) (Or.inl ⟨by rfl, ?y7⟩) (by assumption) ?r7
    case y7 => (intro W hSw; (try dsimp only at hSw); go_simp; try with_reducible rfl)
    (try simp only [Act.put, List.setIfInBounds_toArray, List.set_cons_zero, List.set_cons_succ])
    refine wpAnyH_takeL (i := 7) (v := ?v8) rfl (by kernel_rfl) (by kernel_rfl) (by kernel_rfl) (fun _ _ _ h => h) (Or.inl ⟨by rfl, ?y8⟩) (by assumption) ?r8
    case y8 => (intro W hSw; (try dsimp only at hSw); go_simp; try with_reducible rfl)
    (try simp only [Act.put, List.setIfInBounds_toArray, List.set_cons_zero, List.set_cons_succ])
    refine wpAnyH_takeL (i := 10) (v := ?v9) rfl (by kernel_rfl) (by kernel_rfl) (by kernel_rfl) (fun _ _ _ h => h) (Or.inl ⟨by rfl, ?y9⟩) (by assumption) ?r9
    case y9 => (intro W hSw; (try dsimp only at hSw); go_simp; try with_reducible rfl)
    (try simp only [Act.put, List.setIfInBounds_toArray, List.set_cons_zero, List.set_cons_succ])
    refine wpAnyH_takeL (i := 12) (v := ?v10) rfl (by kernel_rfl) (by kernel_rfl) (by kernel_rfl) (fun _ _ _ h => h) (Or.inl ⟨by rfl, ?y10⟩) (by assumption) ?r10
    case y10 => (intro W hSw; (try dsimp only at hSw); go_simp; try with_reducible rfl)
    (try simp only [Act.put, List.setIfInBounds_toArray, List.set_cons_zero, List.set_cons_succ])
    refine wpAnyH_takeL (i := 14) (v := ?v11) rfl (by kernel_rfl) (by kernel_rfl) (by kernel_rfl) (fun _ _ _ h => h) (Or.inl ⟨by rfl, ?y11⟩) (by assumption) ?r11
    case y11 => (intro W hSw; (try dsimp only at hSw); go_simp; try with_reducible rfl)
    (try simp only [Act.put, List.setIfInBounds_toArray, List.set_cons_zero, List.set_cons_succ])
    refine wpAnyH_takeL (i := 16) (v := ?v12) rfl (by kernel_rfl) (by kernel_rfl) (by kernel_rfl) (fun _ _ _ h => h) (Or.inl ⟨by rfl, ?y12⟩) (by assumption) ?r12
    case y12 => (intro W hSw; (try dsimp only at hSw); go_simp; try with_reducible rfl)
    (try simp only [Act.put, List.setIfInBounds_toArray, List.set_cons_zero, List.set_cons_succ])
    refine wpAnyH_ready (rs := [8]) (by kernel_rfl) (by simp) ?_
    refine consL rfl (fun K hK => ?_) AllReadyH.nil
    go_simp
    refine Calls.mono (HA2.out _ _ (by omega)) ?_
    rintro e w2 ⟨rfl, hw2⟩
    rw [← hw2]
    clear hw2 w2
    (try dsimp only)
    refine hK.out _ _ (hCV.out _ g0) (fun hHeld => ?_)
    clear hK K
    (try simp only [Act.put, List.setIfInBounds_toArray, List.set_cons_zero, List.set_cons_succ])
    refine wpAnyH_takeL (i := 9) (v := ?v13) rfl (by kernel_rfl) (by kernel_rfl) (by kernel_rfl) (fun _ _ _ h => h) (Or.inl ⟨by rfl, ?y13⟩) (by assumption) ?r13
    case y13 => (intro W hSw; (try dsimp only at hSw); go_simp; try with_reducible rfl)
    (try simp only [Act.put, List.setIfInBounds_toArray, List.set_cons_zero, List.set_cons_succ])
    refine wpAnyH_ready (rs := [11]) (by kernel_rfl) (by simp) ?_
    refine consL rfl (fun K hK => ?_) AllReadyH.nil
    go_simp
    refine Calls.mono (HS60.out _) ?_
    rintro e w2 ⟨s60, rfl, hs60, hw2⟩
    rw [← hw2]
    clear hw2 w2
    (try dsimp only)
    refine hK.out _ _ (hCV.out _ g0) (fun hHeld => ?_)
    clear hK K
    (try simp only [Act.put, List.setIfInBounds_toArray, List.set_cons_zero, List.set_cons_succ])
    refine wpAnyH_ready (rs := [13]) (by kernel_rfl) (by simp) ?_
    refine consL rfl (fun K hK => ?_) AllReadyH.nil
    go_simp
    refine Calls.mono (HG12.out _ (hB9.trans (g0.mono hB9.size))) ?_
    rintro e w2 ⟨T4, rfl, hT4, -, hB3⟩
    have g1 := g0.trans (hB3.mono g0.size)
    clear hB3
    (try dsimp only)
    refine hK.out _ _ (hCV.out _ g1) (fun hHeld => ?_)
    clear hK K
    (try simp only [Act.put, List.setIfInBounds_toArray, List.set_cons_zero, List.set_cons_succ])
    refine wpAnyH_ready (rs := [15]) (by kernel_rfl) (by simp) ?_
    refine consL rfl (fun K hK => ?_) AllReadyH.nil
    go_simp
    refine Calls.mono (HG9.out _ (hB9.trans (g1.mono hB9.size))) ?_
    rintro e w3 ⟨T5, rfl, hT5, -, hB3⟩
    have g2 := g1.trans (hB3.mono g1.size)
    clear hB3
    (try dsimp only)
    refine hK.out _ _ (hCV.out _ g2) (fun hHeld => ?_)
    clear hK K
    (try simp only [Act.put, List.setIfInBounds_toArray, List.set_cons_zero, List.set_cons_succ])
    refine wpAnyH_ready (rs := [17]) (by kernel_rfl) (by simp) ?_
    refine consL rfl (fun K hK => ?_) AllReadyH.nil
    go_simp
    refine Calls.mono (HS5.out _) ?_
    rintro e w2 ⟨s5, rfl, hs5, hw2⟩
    rw [← hw2]
    clear hw2 w2
    have hsum : ¬ 9223372036854775807 < T5.size + s5.size := by omega
    (try dsimp only)
    refine hK.out _ _ (hCV.out _ g2) (fun hHeld => ?_)
    clear hK K
    (try simp only [Act.put, List.setIfInBounds_toArray, List.set_cons_zero, List.set_cons_succ])
    refine wpAnyH_takeL (i := 18) (v := ?v14) rfl (by kernel_rfl) (by kernel_rfl) (by kernel_rfl) (fun _ _ _ h => h) (Or.inl ⟨by rfl, ?y14⟩) (by assumption) ?r14
    case y14 => (intro W hSw; (try dsimp only at hSw); go_simp; try with_reducible rfl)
    (try simp only [Act.put, List.setIfInBounds_toArray, List.set_cons_zero, List.set_cons_succ])
    refine wpAnyH_ready (rs := [19]) (by kernel_rfl) (by simp) ?_
    refine consL rfl (fun K hK => ?_) AllReadyH.nil
    go_simp
    have g3 := g2.alloc g2.size (.cells #[.string T, .string T0, .string (T.extract 0 k2), .string s60, .string T4, .string (T5 ++ s5), .string ⟨#[]⟩] 9)
    (try dsimp only)
    refine hK.out _ _ (hCV.out _ g3) (fun hHeld => ?_)
    clear hK K
    (try simp only [Act.put, List.setIfInBounds_toArray, List.set_cons_zero, List.set_cons_succ])
    refine wpAnyH_takeL (i := 20) (v := ?v15) rfl (by kernel_rfl) (by kernel_rfl) (by kernel_rfl) (fun _ _ _ h => h) (Or.inl ⟨by rfl, ?y15⟩) (by assumption) ?r15
    case y15 => (intro W hSw; (try dsimp only at hSw); go_simp; try with_reducible rfl)
    (try simp only [Act.put, List.setIfInBounds_toArray, List.set_cons_zero, List.set_cons_succ])
    refine wpAnyH_done (by kernel_rfl) ?_ _
    have hBL : Below w.heap.size w (w3.alloc (.cells #[.string T, .string T0, .string (T.extract 0 k2), .string s60, .string T4, .string (T5 ++ s5), .string ⟨#[]⟩] 9)) := hB9.trans (g3.mono hB9.size)
    obtain ⟨Ts, hTs, hL⟩ : ∃ Ts : Nat → ByteArray, Hid (∀ j, (Ts j).size ≤ 1000) ∧ Str7 w w3.heap.size Ts (w3.alloc (.cells #[.string T, .string T0, .string (T.extract 0 k2), .string s60, .string T4, .string (T5 ++ s5), .string ⟨#[]⟩] 9)) := by
      refine ⟨fun j => if j = 0 then T else if j = 1 then T0 else if j = 2 then T.extract 0 k2 else if j = 3 then s60 else if j = 4 then T4 else if j = 5 then T5 ++ s5 else ⟨#[]⟩, Lib.hid fun j => ?_, hBL, by simp, fun j hj => ?_⟩
      · have h5 := HT0.out
        have h0z : (⟨#[]⟩ : ByteArray).size = 0 := rfl
        dsimp only
        repeat' split
        · omega
        · omega
        · rw [ByteArray.size_extract]; omega
        · omega
        · omega
        · rw [ByteArray.size_append]; omega
        · omega
      · rw [World.cell?_alloc_mark]
        have : j = 0 ∨ j = 1 ∨ j = 2 ∨ j = 3 ∨ j = 4 ∨ j = 5 ∨ j = 6 := by omega
        rcases this with rfl | rfl | rfl | rfl | rfl | rfl | rfl <;> rfl
    clear hCV hHeld hsum hBL g3 g2 g1 g0 HG9 HG12 HS5 HS60 HA2 hwr i3 i30 hTI h0I HA hT4 hT5 hs5 hs60
    go_wp2_with fail
    go_loopw [12] (fun i wr => ∃ j : Nat, j ≤ 7 ∧ i = .int .i64 (j : Int) ∧ Str7 w w3.heap.size Ts wr) (fun i _ => 7 - (intOf i).toNat)
    case atStart => exact ⟨0, by omega, rfl, hL⟩
    case round =>
      clear hL
      obtain ⟨j, hj, rfl, hr⟩ := hrel
      by_cases hj7 : j < 7
      · have hj7I : (j : Int) < 7 := by omega
        have x0 := hr.2.2 j hj7
        have hon := Lib.hid (fun W (h : Str7 w w3.heap.size Ts W) => h.2.2 j hj7)
        have hT := hTs.out j
        replace hr := Lib.hid hr
        generalize Ts j = X at x0 hon hT
        have HP := Lib.hid (Tokens_any X wr (by omega))
        have HR := Lib.hid (fun W => rTokens_any X W (by omega))
        have hlen := yl_len (X.size + 1) (sb X) 0
        have hX := Lib.hid hT
        clear hT
        go_wp2_with fail
        refine Calls.mono HP.out ?_
        rintro e v1 ⟨pre, x, hy, hb1, hx⟩
        have hr1 := hr.out.on hb1
        have x1 := hon.out _ hr1
        rw [hy, List.length_append, List.length_singleton] at hlen
        replace hlen : pre.length + 1 ≤ 1001 := Nat.le_trans hlen (by have := hX.out; omega)
        clear hX
        clear HP x0
        have hs1 := hb1.size
        rcases hx with ⟨hx0, A1, d1, rfl, hrow⟩ | ⟨hx0, rfl⟩
        · replace hrow := Lib.hid hrow
          replace hr1 := Lib.hid hr1
          clear hb1
          go_wp2_with fail
          refine Calls.mono (HR.out _) ?_
          rintro e v2 ⟨pre2, x2, hy2, hb2, hx2⟩
          rw [hy] at hy2
          obtain ⟨rfl, hxx⟩ := List.append_inj' hy2 rfl
          injection hxx with hxx _
          subst hxx
          rcases hx2 with ⟨_, A2, d2, rfl, hrow2⟩ | ⟨hx2, _⟩
          · have hr2 := Lib.hid (hr1.out.on hb2)
            obtain ⟨L, hL⟩ : ∃ L, L = (pre ++ [x]).map Prod.fst := ⟨_, rfl⟩
            obtain ⟨m, hm⟩ : ∃ m, pre.length + 1 = m := ⟨_, rfl⟩
            have hmL : m = L.length := by rw [hL, List.length_map, List.length_append, List.length_singleton, hm]
            have hrow2' := tk_rd hrow2 (by rw [List.length_map, List.length_append, List.length_singleton])
            rw [← hL, hm] at hrow2'
            have hrow1 : v2.ownsRow wr.heap.size 43 3 (.slice A1 (pre.length + 1) d1) (pre.length + 1) (tkC ((pre ++ [x]).map Prod.fst)) := own_below hrow.out hb2
            rw [← hL, hm] at hrow1
            have HPl := Lib.hid (plain_any wr.heap.size m (.slice A1 m d1) L v2 hmL (by omega) (by omega) hrow1)
            have HSa := Lib.hid (fun W v (h1 : TkRd W v m L) (h2 : TkRd W (.slice A2 m d2) m L) => Same_any m v (.slice A2 m d2) L W hmL (by omega) h1 h2)
            replace hrow2' := Lib.hid hrow2'
            replace hmL := Lib.hid hmL
            have hm1 := Lib.hid (show m ≤ 100000 by omega)
            clear hrow1 hrow2 hrow hr1 hb2 hL hy hy2 hx0 hlen HR x1 hs1
            go_wp2_with fail
            first | rw [hm] | skip
            refine Calls.mono HPl.out ?_
            rintro e v3 ⟨v', rfl, hrow3, hb3⟩
            have hr3 := hr2.out.on hb3
            have ht1 := tk_rd hrow3 hmL.out
            have ht2 := hrow2'.out.below hb3
            clear HPl hrow3 hb3
            go_wp2_with fail
            first | rw [hm] | skip
            refine Calls.mono (HSa.out _ _ ht1 ht2) ?_
            rintro e v4 ⟨rfl, hb4⟩
            have hr4 := hr3.on hb4
            clear HSa ht1 ht2 hb4 hr3
            replace hr4 := Lib.hid hr4
            go_wp2_with fail
            go_roundw
            case rel => exact ⟨j + 1, by omega, by go_num, hr4.out⟩
            case measure => simp [intOf]; omega
          · exact absurd hx0 hx2
        · replace hr1 := Lib.hid hr1
          clear hb1
          go_wp2_with fail
          refine Calls.mono (HR.out _) ?_
          rintro e v2 ⟨pre2, x2, hy2, hb2, hx2⟩
          rw [hy] at hy2
          obtain ⟨rfl, hxx⟩ := List.append_inj' hy2 rfl
          injection hxx with hxx _
          subst hxx
          rcases hx2 with ⟨hx2, _⟩ | ⟨_, rfl⟩
          · exact absurd hx2 hx0
          · have hr2 := Lib.hid (hr1.out.on hb2)
            clear hr1 hb2 hy hy2 hx0 hlen HR x1 hs1
            go_wp2_with fail
            refine Calls.mono (plain_nil _) ?_
            rintro e v3 ⟨rfl, hv3⟩
            rw [hv3]
            clear hv3 v3
            go_wp2_with fail
            refine Calls.mono (Same_any 0 (.slice none 0 0) (.slice none 0 0) [] _ rfl (by decide) (.inl ⟨rfl, rfl⟩) (.inl ⟨rfl, rfl⟩)) ?_
            rintro e v4 ⟨rfl, hb4⟩
            have hr4 := Lib.hid (hr2.out.on hb4)
            clear hb4 hr2
            go_wp2_with fail
            go_roundw
            case rel => exact ⟨j + 1, by omega, by go_num, hr4.out⟩
            case measure => simp [intOf]; omega
      · have hj7I : ¬ (j : Int) < 7 := by omega
        obtain ⟨m, CZ, Z, hZ, hmk, hcvZ⟩ := long_made
        have HL := Lib.hid (fun W => tok_long Z W hZ)
        have hbW : Below w.heap.size w (wr.alloc (.cells CZ 5)) := hr.1.alloc hr.1.size _
        clear hZ hr
        go_wp2_with fail
        refine Calls.mono (HL.out _) ?_
        rintro e v5 ⟨rfl, hb5⟩
        have h5 := hbW.trans (hb5.mono hbW.size)
        clear HL hb5 hbW hmk hcvZ
        go_wp2_with fail
        refine Calls.mono (lives_any _) ?_
        rintro e v6 ⟨rfl, hb6⟩
        have h6 := h5.trans (hb6.mono h5.size)
        go_wp2_with fail
        go_ret
        exact ⟨rfl, h6⟩
  · have h0I : (0 : Int) < (T.size : Int) := by omega
    obtain ⟨k1, hk1, hA1⟩ := HA.out T.size (by omega) (by omega)
    have HA1 := Lib.hid (fun (W : World) => around_int hA1 (T.size : Int) W rfl)
    obtain ⟨hst1, hst2⟩ := hst k1 hk1
    obtain ⟨x8, hs1⟩ := Option.isSome_iff_exists.1 hst1
    replace hrd := Lib.hid hrd
    replace hB2 := Lib.hid hB2
    have hlen : Hid (T.size = (sb T).length) := Lib.hid (sb_length T).symm
    have hk1' := Lib.hid hk1
    have hk1I : (k1 : Int) < (T.size : Int) := by omega
    clear hst hst1 hA1
    go_wp2_with fail
    refine Calls.mono (HA1.out _) ?_
    rintro e w2 ⟨rfl, hw2⟩
    rw [← hw2]
    clear hw2 w2 HA1
    go_wp2_with fail
    obtain ⟨W9, hW9⟩ : ∃ W9, W9 = ((w1.alloc (.cells C 5 (C.size, C.size + 1))).setCell ⟨w1.heap.size, k1, none⟩ (.int .u8 (ch : Int))).drew := ⟨_, rfl⟩
    have hrd0 : RdI (w1.alloc (.cells C 5 (C.size, C.size + 1))) (w1.alloc (.cells C 5 (C.size, C.size + 1))).heap.size .u8 (some ⟨w1.heap.size, 0, none⟩) (sb T) := hrd.out
    have hrd1 := rd_put hrd0 (by have := hlen.out; have := hk1'.out; omega : k1 < (sb T).length) (ch : Int)
    have hB9 : Below w.heap.size w W9 := by
      rw [hW9]
      have h1 : Below w.heap.size w (w1.alloc (.cells C 5 (C.size, C.size + 1))) := hB1'.out.alloc hB1'.out.size _
      exact (h1.setCell (p := ⟨w1.heap.size, k1, none⟩) hB1'.out.size _).drew
    obtain ⟨bl, hbl, hbr⟩ : ∃ bl : List Int, bl.length = T.size ∧ RdI W9 W9.heap.size .u8 (some ⟨w1.heap.size, 0, none⟩) bl := ⟨(sb T).set k1 (ch : Int), by rw [List.length_set, sb_length], by rw [hW9]; exact hrd1⟩
    rw [← hW9]
    clear hW9 hcv hrd0 hrd1 hrd hB2
    obtain ⟨T0, hT0⟩ : ∃ T0, strOfNums bl = T0 := ⟨_, rfl⟩
    have hCV : Hid (∀ W, Below W9.heap.size W9 W → (fun W => (convert 24 9 (.slice (some ⟨w1.heap.size, 0, none⟩) T.size cap)).run Try.prog W = .ok (.string T0) W) W) := Lib.hid fun W hW => by
      have h := conv_string w1.heap.size T.size cap bl W hbl ((hbr.below hW).mono hW.size)
      rw [hT0] at h
      exact h
    have HT0 : Hid (T0.size = T.size) := Lib.hid (by rw [← hT0, strOfNums_size, hbl])
    have hwr : IntKind.i64.wrap ((T.size : Int) + 1) = (T.size : Int) + 1 := by rw [IntKind.wrap_i64]; omega
    have i3 : (k2 : Int) ≤ (T.size : Int) := by omega
    have i30 : (0 : Int) ≤ (k2 : Int) := by omega
    clear hbr hbl hT0 bl
    have g0 : Below W9.heap.size W9 W9.drew := (Below.refl _ _).drew
    refine wp_region_held_drew (S := fun W => (convert 24 9 (.slice (some ⟨w1.heap.size, 0, none⟩) T.size cap)).run Try.prog W = .ok (.string T0) W) (by kernel_rfl) (hCV.out _ g0) (fun hHeld => ?_)
    (try simp only [List.size_toArray, List.length_cons, List.length_nil, Nat.zero_add, Nat.reduceAdd])
    refine wpAnyH_takeL (i := 0) (v := ?v16) rfl (by kernel_rfl) (by kernel_rfl) (by kernel_rfl) (fun _ _ _ h => h) (Or.inl ⟨by rfl, ?y16⟩) (by assumption) ?r16
    case y16 => (intro W hSw; (try dsimp only at hSw); go_simp; try with_reducible rfl)
    (try simp only [Act.put, List.setIfInBounds_toArray, List.set_cons_zero, List.set_cons_succ])
    refine wpAnyH_takeL (i := 1) (v := ?v17) rfl (by kernel_rfl) (by kernel_rfl) (by kernel_rfl) (fun _ _ _ h => h) (Or.inl ⟨by rfl, ?y17⟩) (by assumption) ?r17
    case y17 => (intro W hSw; (try dsimp only at hSw); go_simp; try with_reducible rfl)
    (try simp only [Act.put, List.setIfInBounds_toArray, List.set_cons_zero, List.set_cons_succ])
    refine wpAnyH_takeL (i := 2) (v := ?v18) rfl (by kernel_rfl) (by kernel_rfl) (by kernel_rfl) (fun _ _ _ h => h) (Or.inl ⟨by rfl, ?y18⟩) (by assumption) ?r18
    case y18 => (intro W hSw; (try dsimp only at hSw); go_simp; try with_reducible rfl)
    (try simp only [Act.put, List.setIfInBounds_toArray, List.set_cons_zero, List.set_cons_succ])
    refine wpAnyH_takeL (i := 3) (v := ?v19) rfl (by kernel_rfl) (by kernel_rfl) (by kernel_rfl) (fun _ _ _ h => h) (Or.inl ⟨by rfl, ?y19⟩) (by assumption) ?r19
    case y19 => (intro W hSw; (try dsimp only at hSw); go_simp; try with_reducible rfl)
    (try simp only [Act.put, List.setIfInBounds_toArray, List.set_cons_zero, List.set_cons_succ])
    refine wpAnyH_takeL (i := 4) (v := ?v20) rfl (by kernel_rfl) (by kernel_rfl) (by kernel_rfl) (fun _ _ _ h => h) (Or.inl ⟨by rfl, ?y20⟩) (by assumption) ?r20
    case y20 => (intro W hSw; (try dsimp only at hSw); go_simp; try with_reducible rfl)
    (try simp only [Act.put, List.setIfInBounds_toArray, List.set_cons_zero, List.set_cons_succ])
    refine wpAnyH_takeL (i := 5) (v := ?v21) rfl (by kernel_rfl) (by kernel_rfl) (by kernel_rfl) (fun _ _ _ h => h) (Or.inl ⟨by rfl, ?y21⟩) (by assumption) ?r21
    case y21 => (intro W hSw; (try dsimp only at hSw); go_simp; try with_reducible rfl)
    (try simp only [Act.put, List.setIfInBounds_toArray, List.set_cons_zero, List.set_cons_succ])
    refine wpAnyH_takeL (i := 6) (v := ?v22) rfl (by kernel_rfl) (by kernel_rfl) (by kernel_rfl) (fun _ _ _ h => h) (Or.inl ⟨by rfl, ?y22⟩) (by assumption) ?r22
    case y22 => (intro W hSw; (try dsimp only at hSw); go_simp; try with_reducible rfl)
    (try simp only [Act.put, List.setIfInBounds_toArray, List.set_cons_zero, List.set_cons_succ])
    refine wpAnyH_takeL (i := 7) (v := ?v23) rfl (by kernel_rfl) (by kernel_rfl) (by kernel_rfl) (fun _ _ _ h => h) (Or.inl ⟨by rfl, ?y23⟩) (by assumption) ?r23
    case y23 => (intro W hSw; (try dsimp only at hSw); go_simp; try with_reducible rfl)
    (try simp only [Act.put, List.setIfInBounds_toArray, List.set_cons_zero, List.set_cons_succ])
    refine wpAnyH_takeL (i := 10) (v := ?v24) rfl (by kernel_rfl) (by kernel_rfl) (by kernel_rfl) (fun _ _ _ h => h) (Or.inl ⟨by rfl, ?y24⟩) (by assumption) ?r24
    case y24 => (intro W hSw; (try dsimp only at hSw); go_simp; try with_reducible rfl)
    (try simp only [Act.put, List.setIfInBounds_toArray, List.set_cons_zero, List.set_cons_succ])
    refine wpAnyH_takeL (i := 12) (v := ?v25) rfl (by kernel_rfl) (by kernel_rfl) (by kernel_rfl) (fun _ _ _ h => h) (Or.inl ⟨by rfl, ?y25⟩) (by assumption) ?r25
    case y25 => (intro W hSw; (try dsimp only at hSw); go_simp; try with_reducible rfl)
    (try simp only [Act.put, List.setIfInBounds_toArray, List.set_cons_zero, List.set_cons_succ])
    refine wpAnyH_takeL (i := 14) (v := ?v26) rfl (by kernel_rfl) (by kernel_rfl) (by kernel_rfl) (fun _ _ _ h => h) (Or.inl ⟨by rfl, ?y26⟩) (by assumption) ?r26
    case y26 => (intro W hSw; (try dsimp only at hSw); go_simp; try with_reducible rfl)
    (try simp only [Act.put, List.setIfInBounds_toArray, List.set_cons_zero, List.set_cons_succ])
    refine wpAnyH_takeL (i := 16) (v := ?v27) rfl (by kernel_rfl) (by kernel_rfl) (by kernel_rfl) (fun _ _ _ h => h) (Or.inl ⟨by rfl, ?y27⟩) (by assumption) ?r27
    case y27 => (intro W hSw; (try dsimp only at hSw); go_simp; try with_reducible rfl)
    (try simp only [Act.put, List.setIfInBounds_toArray, List.set_cons_zero, List.set_cons_succ])
    refine wpAnyH_ready (rs := [8]) (by kernel_rfl) (by simp) ?_
    refine consL rfl (fun K hK => ?_) AllReadyH.nil
    go_simp
    refine Calls.mono (HA2.out _ _ (by omega)) ?_
    rintro e w2 ⟨rfl, hw2⟩
    rw [← hw2]
    clear hw2 w2
    (try dsimp only)
    refine hK.out _ _ (hCV.out _ g0) (fun hHeld => ?_)
    clear hK K
    (try simp only [Act.put, List.setIfInBounds_toArray, List.set_cons_zero, List.set_cons_succ])
    refine wpAnyH_takeL (i := 9) (v := ?v28) rfl (by kernel_rfl) (by kernel_rfl) (by kernel_rfl) (fun _ _ _ h => h) (Or.inl ⟨by rfl, ?y28⟩) (by assumption) ?r28
    case y28 => (intro W hSw; (try dsimp only at hSw); go_simp; try with_reducible rfl)
    (try simp only [Act.put, List.setIfInBounds_toArray, List.set_cons_zero, List.set_cons_succ])
    refine wpAnyH_ready (rs := [11]) (by kernel_rfl) (by simp) ?_
    refine consL rfl (fun K hK => ?_) AllReadyH.nil
    go_simp
    refine Calls.mono (HS60.out _) ?_
    rintro e w2 ⟨s60, rfl, hs60, hw2⟩
    rw [← hw2]
    clear hw2 w2
    (try dsimp only)
    refine hK.out _ _ (hCV.out _ g0) (fun hHeld => ?_)
    clear hK K
    (try simp only [Act.put, List.setIfInBounds_toArray, List.set_cons_zero, List.set_cons_succ])
    refine wpAnyH_ready (rs := [13]) (by kernel_rfl) (by simp) ?_
    refine consL rfl (fun K hK => ?_) AllReadyH.nil
    go_simp
    refine Calls.mono (HG12.out _ (hB9.trans (g0.mono hB9.size))) ?_
    rintro e w2 ⟨T4, rfl, hT4, -, hB3⟩
    have g1 := g0.trans (hB3.mono g0.size)
    clear hB3
    (try dsimp only)
    refine hK.out _ _ (hCV.out _ g1) (fun hHeld => ?_)
    clear hK K
    (try simp only [Act.put, List.setIfInBounds_toArray, List.set_cons_zero, List.set_cons_succ])
    refine wpAnyH_ready (rs := [15]) (by kernel_rfl) (by simp) ?_
    refine consL rfl (fun K hK => ?_) AllReadyH.nil
    go_simp
    refine Calls.mono (HG9.out _ (hB9.trans (g1.mono hB9.size))) ?_
    rintro e w3 ⟨T5, rfl, hT5, -, hB3⟩
    have g2 := g1.trans (hB3.mono g1.size)
    clear hB3
    (try dsimp only)
    refine hK.out _ _ (hCV.out _ g2) (fun hHeld => ?_)
    clear hK K
    (try simp only [Act.put, List.setIfInBounds_toArray, List.set_cons_zero, List.set_cons_succ])
    refine wpAnyH_ready (rs := [17]) (by kernel_rfl) (by simp) ?_
    refine consL rfl (fun K hK => ?_) AllReadyH.nil
    go_simp
    refine Calls.mono (HS5.out _) ?_
    rintro e w2 ⟨s5, rfl, hs5, hw2⟩
    rw [← hw2]
    clear hw2 w2
    have hsum : ¬ 9223372036854775807 < T5.size + s5.size := by omega
    (try dsimp only)
    refine hK.out _ _ (hCV.out _ g2) (fun hHeld => ?_)
    clear hK K
    (try simp only [Act.put, List.setIfInBounds_toArray, List.set_cons_zero, List.set_cons_succ])
    refine wpAnyH_takeL (i := 18) (v := ?v29) rfl (by kernel_rfl) (by kernel_rfl) (by kernel_rfl) (fun _ _ _ h => h) (Or.inl ⟨by rfl, ?y29⟩) (by assumption) ?r29
    case y29 => (intro W hSw; (try dsimp only at hSw); go_simp; try with_reducible rfl)
    (try simp only [Act.put, List.setIfInBounds_toArray, List.set_cons_zero, List.set_cons_succ])
    refine wpAnyH_ready (rs := [19]) (by kernel_rfl) (by simp) ?_
    refine consL rfl (fun K hK => ?_) AllReadyH.nil
    go_simp
    have g3 := g2.alloc g2.size (.cells #[.string T, .string T0, .string (T.extract 0 k2), .string s60, .string T4, .string (T5 ++ s5), .string ⟨#[]⟩] 9)
    (try dsimp only)
    refine hK.out _ _ (hCV.out _ g3) (fun hHeld => ?_)
    clear hK K
    (try simp only [Act.put, List.setIfInBounds_toArray, List.set_cons_zero, List.set_cons_succ])
    refine wpAnyH_takeL (i := 20) (v := ?v30) rfl (by kernel_rfl) (by kernel_rfl) (by kernel_rfl) (fun _ _ _ h => h) (Or.inl ⟨by rfl, ?y30⟩) (by assumption) ?r30
    case y30 => (intro W hSw; (try dsimp only at hSw); go_simp; try with_reducible rfl)
    (try simp only [Act.put, List.setIfInBounds_toArray, List.set_cons_zero, List.set_cons_succ])
    refine wpAnyH_done (by kernel_rfl) ?_ _
    have hBL : Below w.heap.size w (w3.alloc (.cells #[.string T, .string T0, .string (T.extract 0 k2), .string s60, .string T4, .string (T5 ++ s5), .string ⟨#[]⟩] 9)) := hB9.trans (g3.mono hB9.size)
    obtain ⟨Ts, hTs, hL⟩ : ∃ Ts : Nat → ByteArray, Hid (∀ j, (Ts j).size ≤ 1000) ∧ Str7 w w3.heap.size Ts (w3.alloc (.cells #[.string T, .string T0, .string (T.extract 0 k2), .string s60, .string T4, .string (T5 ++ s5), .string ⟨#[]⟩] 9)) := by
      refine ⟨fun j => if j = 0 then T else if j = 1 then T0 else if j = 2 then T.extract 0 k2 else if j = 3 then s60 else if j = 4 then T4 else if j = 5 then T5 ++ s5 else ⟨#[]⟩, Lib.hid fun j => ?_, hBL, by simp, fun j hj => ?_⟩
      · have h5 := HT0.out
        have h0z : (⟨#[]⟩ : ByteArray).size = 0 := rfl
        dsimp only
        repeat' split
        · omega
        · omega
        · rw [ByteArray.size_extract]; omega
        · omega
        · omega
        · rw [ByteArray.size_append]; omega
        · omega
      · rw [World.cell?_alloc_mark]
        have : j = 0 ∨ j = 1 ∨ j = 2 ∨ j = 3 ∨ j = 4 ∨ j = 5 ∨ j = 6 := by omega
        rcases this with rfl | rfl | rfl | rfl | rfl | rfl | rfl <;> rfl
    clear hCV hHeld hsum hBL g3 g2 g1 g0 HG9 HG12 HS5 HS60 HA2 hwr i3 i30 hTI h0I HA hT4 hT5 hs5 hs60
    go_wp2_with fail
    go_loopw [12] (fun i wr => ∃ j : Nat, j ≤ 7 ∧ i = .int .i64 (j : Int) ∧ Str7 w w3.heap.size Ts wr) (fun i _ => 7 - (intOf i).toNat)
    case atStart => exact ⟨0, by omega, rfl, hL⟩
    case round =>
      clear hL
      obtain ⟨j, hj, rfl, hr⟩ := hrel
      by_cases hj7 : j < 7
      · have hj7I : (j : Int) < 7 := by omega
        have x0 := hr.2.2 j hj7
        have hon := Lib.hid (fun W (h : Str7 w w3.heap.size Ts W) => h.2.2 j hj7)
        have hT := hTs.out j
        replace hr := Lib.hid hr
        generalize Ts j = X at x0 hon hT
        have HP := Lib.hid (Tokens_any X wr (by omega))
        have HR := Lib.hid (fun W => rTokens_any X W (by omega))
        have hlen := yl_len (X.size + 1) (sb X) 0
        have hX := Lib.hid hT
        clear hT
        go_wp2_with fail
        refine Calls.mono HP.out ?_
        rintro e v1 ⟨pre, x, hy, hb1, hx⟩
        have hr1 := hr.out.on hb1
        have x1 := hon.out _ hr1
        rw [hy, List.length_append, List.length_singleton] at hlen
        replace hlen : pre.length + 1 ≤ 1001 := Nat.le_trans hlen (by have := hX.out; omega)
        clear hX
        clear HP x0
        have hs1 := hb1.size
        rcases hx with ⟨hx0, A1, d1, rfl, hrow⟩ | ⟨hx0, rfl⟩
        · replace hrow := Lib.hid hrow
          replace hr1 := Lib.hid hr1
          clear hb1
          go_wp2_with fail
          refine Calls.mono (HR.out _) ?_
          rintro e v2 ⟨pre2, x2, hy2, hb2, hx2⟩
          rw [hy] at hy2
          obtain ⟨rfl, hxx⟩ := List.append_inj' hy2 rfl
          injection hxx with hxx _
          subst hxx
          rcases hx2 with ⟨_, A2, d2, rfl, hrow2⟩ | ⟨hx2, _⟩
          · have hr2 := Lib.hid (hr1.out.on hb2)
            obtain ⟨L, hL⟩ : ∃ L, L = (pre ++ [x]).map Prod.fst := ⟨_, rfl⟩
            obtain ⟨m, hm⟩ : ∃ m, pre.length + 1 = m := ⟨_, rfl⟩
            have hmL : m = L.length := by rw [hL, List.length_map, List.length_append, List.length_singleton, hm]
            have hrow2' := tk_rd hrow2 (by rw [List.length_map, List.length_append, List.length_singleton])
            rw [← hL, hm] at hrow2'
            have hrow1 : v2.ownsRow wr.heap.size 43 3 (.slice A1 (pre.length + 1) d1) (pre.length + 1) (tkC ((pre ++ [x]).map Prod.fst)) := own_below hrow.out hb2
            rw [← hL, hm] at hrow1
            have HPl := Lib.hid (plain_any wr.heap.size m (.slice A1 m d1) L v2 hmL (by omega) (by omega) hrow1)
            have HSa := Lib.hid (fun W v (h1 : TkRd W v m L) (h2 : TkRd W (.slice A2 m d2) m L) => Same_any m v (.slice A2 m d2) L W hmL (by omega) h1 h2)
            replace hrow2' := Lib.hid hrow2'
            replace hmL := Lib.hid hmL
            have hm1 := Lib.hid (show m ≤ 100000 by omega)
            clear hrow1 hrow2 hrow hr1 hb2 hL hy hy2 hx0 hlen HR x1 hs1
            go_wp2_with fail
            first | rw [hm] | skip
            refine Calls.mono HPl.out ?_
            rintro e v3 ⟨v', rfl, hrow3, hb3⟩
            have hr3 := hr2.out.on hb3
            have ht1 := tk_rd hrow3 hmL.out
            have ht2 := hrow2'.out.below hb3
            clear HPl hrow3 hb3
            go_wp2_with fail
            first | rw [hm] | skip
            refine Calls.mono (HSa.out _ _ ht1 ht2) ?_
            rintro e v4 ⟨rfl, hb4⟩
            have hr4 := hr3.on hb4
            clear HSa ht1 ht2 hb4 hr3
            replace hr4 := Lib.hid hr4
            go_wp2_with fail
            go_roundw
            case rel => exact ⟨j + 1, by omega, by go_num, hr4.out⟩
            case measure => simp [intOf]; omega
          · exact absurd hx0 hx2
        · replace hr1 := Lib.hid hr1
          clear hb1
          go_wp2_with fail
          refine Calls.mono (HR.out _) ?_
          rintro e v2 ⟨pre2, x2, hy2, hb2, hx2⟩
          rw [hy] at hy2
          obtain ⟨rfl, hxx⟩ := List.append_inj' hy2 rfl
          injection hxx with hxx _
          subst hxx
          rcases hx2 with ⟨hx2, _⟩ | ⟨_, rfl⟩
          · exact absurd hx2 hx0
          · have hr2 := Lib.hid (hr1.out.on hb2)
            clear hr1 hb2 hy hy2 hx0 hlen HR x1 hs1
            go_wp2_with fail
            refine Calls.mono (plain_nil _) ?_
            rintro e v3 ⟨rfl, hv3⟩
            rw [hv3]
            clear hv3 v3
            go_wp2_with fail
            refine Calls.mono (Same_any 0 (.slice none 0 0) (.slice none 0 0) [] _ rfl (by decide) (.inl ⟨rfl, rfl⟩) (.inl ⟨rfl, rfl⟩)) ?_
            rintro e v4 ⟨rfl, hb4⟩
            have hr4 := Lib.hid (hr2.out.on hb4)
            clear hb4 hr2
            go_wp2_with fail
            go_roundw
            case rel => exact ⟨j + 1, by omega, by go_num, hr4.out⟩
            case measure => simp [intOf]; omega
      · have hj7I : ¬ (j : Int) < 7 := by omega
        obtain ⟨m, CZ, Z, hZ, hmk, hcvZ⟩ := long_made
        have HL := Lib.hid (fun W => tok_long Z W hZ)
        have hbW : Below w.heap.size w (wr.alloc (.cells CZ 5)) := hr.1.alloc hr.1.size _
        clear hZ hr
        go_wp2_with fail
        refine Calls.mono (HL.out _) ?_
        rintro e v5 ⟨rfl, hb5⟩
        have h5 := hbW.trans (hb5.mono hbW.size)
        clear HL hb5 hbW hmk hcvZ
        go_wp2_with fail
        refine Calls.mono (lives_any _) ?_
        rintro e v6 ⟨rfl, hb6⟩
        have h6 := h5.trans (hb6.mono h5.size)
        go_wp2_with fail
        go_ret
        exact ⟨rfl, h6⟩
end Go.Proofs.Ytpeeekgfcofbkaa
