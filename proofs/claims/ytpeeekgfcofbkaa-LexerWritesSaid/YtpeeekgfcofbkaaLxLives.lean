/-
  THE EXAMPLES. Written by gen/genlxlives.py.
-/
import Derived.Test.YtpeeekgfcofbkaaLxSame
namespace Go.Proofs.Ytpeeekgfcofbkaa
open Go.RowKit

/-- a text without an error -/
theorem tok_ok (S : ByteArray) (n : Nat) (L : List Tk) (w : World) (hs : S.size ≤ 65536) (l : List (Tk × Int)) (x : Tk × Int) (hy : yl (S.size + 1) (sb S) 0 = l ++ [x]) (hx : x.2 = 0) (hn : n = l.length + 1) (hL : L = (l ++ [x]).map Prod.fst) : Calls Try.prog 13 #[.string S] w fun e w' =>
    ∃ g c, e = .returned (.tuple #[.slice (some ⟨g, 0, none⟩) n c, .int .i64 0, .int .i64 0]) ∧ n ≤ c ∧ g < w'.heap.size ∧ (∀ W', W'.heap[g]? = w'.heap[g]? → ∀ k y, L[k]? = some y → TkAt W' g k y) ∧ w'.ownsRow w.heap.size 43 3 (.slice (some ⟨g, 0, none⟩) n c) n (tkC L) ∧ Below w.heap.size w w' := by
  subst hn hL
  refine (Tokens_any S w hs).mono ?_
  rintro e w' ⟨pre, y, h1, h2, h3⟩
  rw [hy] at h1
  obtain ⟨rfl, h4⟩ := List.append_inj' h1 rfl
  injection h4 with h4 _
  subst h4
  rcases h3 with ⟨_, A, c, rfl, h5⟩ | ⟨h5, _⟩
  · obtain ⟨g, c2, e1, e2, e3, e4, e5⟩ := tk_own (l := (l ++ [x]).map Prod.fst) h5 (by simp) (by omega)
    injection e1 with e1 _ e6
    subst e1 e6
    exact ⟨g, c, rfl, e2, e4, e5, h5, h2⟩
  · exact absurd hx h5
/-- a text with an error -/
theorem tok_bad (S : ByteArray) (w : World) (hs : S.size ≤ 65536) (l : List (Tk × Int)) (x : Tk × Int) (p : Nat) (er : Int) (hy : yl (S.size + 1) (sb S) 0 = l ++ [x]) (hx : x.2 ≠ 0) (hp : x.1.p = p) (he : x.2 = er) : Calls Try.prog 13 #[.string S] w fun e w' =>
    e = .returned (.tuple #[.slice none 0 0, .int .i64 (p : Nat), .int .i64 er]) ∧ Below w.heap.size w w' := by
  subst hp he
  refine (Tokens_any S w hs).mono ?_
  rintro e w' ⟨pre, y, h1, h2, h3⟩
  rw [hy] at h1
  obtain ⟨rfl, h4⟩ := List.append_inj' h1 rfl
  injection h4 with h4 _
  subst h4
  rcases h3 with ⟨h5, _⟩ | ⟨_, rfl⟩
  · exact absurd h5 hx
  · exact ⟨rfl, h2⟩
theorem step_conv (w : World) {ops : Array Oper} {o : Oper} {a : Act} {K : Act → World → Prop} {Q : Exit → Act → World → Prop} {E : Prop} (x : Operand) (ho : o.op = .convert 24 9 x) (hw : Region.wanted o (yielded ops a.tmps) = true)
    (A : Option Addr) (n c : Nat) (zs : List Int) (hx : a.eval x = .slice A n c) (hn : zs.length = n) (hr : RdI w w.heap.size .u8 A zs) (h : K (a.put o.dst (.string (strOfNums zs))) w) : if Region.wanted o (yielded ops a.tmps) = true then Oper.wp Try.prog o a w K Q else E := by
  rw [if_pos hw]
  have h2 := lx_conv A n c zs w _ hn hr
  unfold Oper.wp execOp
  simp only [ho, Sem.run_bind, Sem.run_pure, Result.andThen_ok, hx, h2]
  exact h
set_option maxHeartbeats 8000000 in
set_option maxRecDepth 100000 in
theorem lives_any (w : World) : Calls Try.prog 17 #[] w fun e w' => e = .returned (.bool true) ∧ Below w.heap.size w w' := by
  have T1 := Lib.hid fun W => tok_ok ⟨#[40, 110, 111, 116, 32, 120, 45, 49, 41]⟩ 5 [⟨0, [], 0⟩, ⟨2, [110, 111, 116], 1⟩, ⟨2, [120, 45, 49], 5⟩, ⟨1, [], 8⟩, ⟨6, [], 9⟩] W (by decide) [(⟨0, [], 0⟩, 0), (⟨2, [110, 111, 116], 1⟩, 0), (⟨2, [120, 45, 49], 5⟩, 0), (⟨1, [], 8⟩, 0)] (⟨6, [], 9⟩, 0) (by kernel_rfl) rfl rfl rfl
  have T2 := Lib.hid fun W => tok_ok ⟨#[34, 97, 92, 34, 92, 120, 48, 48, 34]⟩ 2 [⟨5, [97, 34, 0], 0⟩, ⟨6, [], 9⟩] W (by decide) [(⟨5, [97, 34, 0], 0⟩, 0)] (⟨6, [], 9⟩, 0) (by kernel_rfl) rfl rfl rfl
  have T3 := Lib.hid fun W => tok_bad ⟨#[35, 98, 48, 49, 50]⟩ W (by decide) [] (⟨0, [], 0⟩, 2) 0 2 (by kernel_rfl) (by decide) rfl rfl
  have T4 := Lib.hid fun W => tok_ok ⟨#[35, 98, 48, 49, 41]⟩ 3 [⟨3, [35, 98, 48, 49], 0⟩, ⟨1, [], 4⟩, ⟨6, [], 5⟩] W (by decide) [(⟨3, [35, 98, 48, 49], 0⟩, 0), (⟨1, [], 4⟩, 0)] (⟨6, [], 5⟩, 0) (by kernel_rfl) rfl rfl rfl
  go_enter Try.func17, Try.ntmps17
  go_wp2_with fail
  refine Calls.mono (T1.out _) ?_
  rintro e w1 ⟨g1, c1, rfl, hc1, hg1, hA1, hO1, hB1⟩
  clear T1
  have hO1' := Lib.hid hO1
  have hA1' := Lib.hid hA1
  clear hA1 hO1
  go_wp2_with fail
  refine Calls.mono (T2.out _) ?_
  rintro e w2 ⟨g2, c2, rfl, hc2, hg2, hA2, hO2, hB2⟩
  clear T2 hO2
  have hA2' := Lib.hid hA2
  clear hA2
  go_wp2_with fail
  refine Calls.mono (T3.out _) ?_
  rintro e w3 ⟨rfl, hB3⟩
  clear T3
  go_wp2_with fail
  refine Calls.mono (T4.out _) ?_
  rintro e w4 ⟨g4, c4, rfl, hc4, hg4, hA4, hO4, hB4⟩
  clear T4 hO4
  have hA4' := Lib.hid hA4
  clear hA4
  have h24 := Lib.hid (hB3.trans (hB4.mono hB3.size))
  have h14 := Lib.hid (hB2.trans (h24.out.mono hB2.size))
  have hw4 := Lib.hid (hB1.trans (h14.out.mono hB1.size))
  have s1 := hB1.size
  have s2 := hB2.size
  have s3 := hB3.size
  have s4 := hB4.size
  clear hB1 hB2 hB3 hB4
  have hAl := Lib.hid ((Below.refl w4.heap.size w4).alloc (Nat.le_refl _) (.cells #[.int .i64 0, .string ⟨#[]⟩, .int .i64 0, .int .i64 2, .string ⟨#[110, 111, 116]⟩, .int .i64 1, .int .i64 2, .string ⟨#[120, 45, 49]⟩, .int .i64 5, .int .i64 1, .string ⟨#[]⟩, .int .i64 8, .int .i64 6, .string ⟨#[]⟩, .int .i64 9] 66))
  have hAs : (w4.alloc (.cells #[.int .i64 0, .string ⟨#[]⟩, .int .i64 0, .int .i64 2, .string ⟨#[110, 111, 116]⟩, .int .i64 1, .int .i64 2, .string ⟨#[120, 45, 49]⟩, .int .i64 5, .int .i64 1, .string ⟨#[]⟩, .int .i64 8, .int .i64 6, .string ⟨#[]⟩, .int .i64 9] 66)).heap.size = w4.heap.size + 1 := by simp
  have hO5 := Lib.hid (own_below hO1'.out (h14.out.trans (hAl.out.mono h14.out.size)))
  have hR5 := Lib.hid (tk_rd_lit w4 66 5 [⟨0, [], 0⟩, ⟨2, [110, 111, 116], 1⟩, ⟨2, [120, 45, 49], 5⟩, ⟨1, [], 8⟩, ⟨6, [], 9⟩] rfl _ (show #[.int .i64 0, .string ⟨#[]⟩, .int .i64 0, .int .i64 2, .string ⟨#[110, 111, 116]⟩, .int .i64 1, .int .i64 2, .string ⟨#[120, 45, 49]⟩, .int .i64 5, .int .i64 1, .string ⟨#[]⟩, .int .i64 8, .int .i64 6, .string ⟨#[]⟩, .int .i64 9] = _ from rfl))
  have HS : Hid (∀ W, Below (w4.alloc (.cells #[.int .i64 0, .string ⟨#[]⟩, .int .i64 0, .int .i64 2, .string ⟨#[110, 111, 116]⟩, .int .i64 1, .int .i64 2, .string ⟨#[120, 45, 49]⟩, .int .i64 5, .int .i64 1, .string ⟨#[]⟩, .int .i64 8, .int .i64 6, .string ⟨#[]⟩, .int .i64 9] 66)).heap.size (w4.alloc (.cells #[.int .i64 0, .string ⟨#[]⟩, .int .i64 0, .int .i64 2, .string ⟨#[110, 111, 116]⟩, .int .i64 1, .int .i64 2, .string ⟨#[120, 45, 49]⟩, .int .i64 5, .int .i64 1, .string ⟨#[]⟩, .int .i64 8, .int .i64 6, .string ⟨#[]⟩, .int .i64 9] 66)) W → (fun W : World => W.cell? ⟨g2, 0, none⟩ = some (.int .i64 5) ∧ W.cell? ⟨g2, 1, none⟩ = some (.string (strOfNums [97, 34, 0])) ∧ W.cell? ⟨g4, 0, none⟩ = some (.int .i64 3) ∧ W.cell? ⟨g4, 1, none⟩ = some (.string ⟨#[35, 98, 48, 49]⟩) ∧ W.cell? ⟨g4, 3, none⟩ = some (.int .i64 1)) W) := Lib.hid fun W hW => by
    have k2 : W.heap[g2]? = w2.heap[g2]? := (hW.block g2 (by omega)).trans ((hAl.out.block g2 (by omega)).trans (h24.out.block g2 hg2))
    have k4 : W.heap[g4]? = w4.heap[g4]? := (hW.block g4 (by omega)).trans (hAl.out.block g4 hg4)
    obtain ⟨a1, a2, _⟩ := hA2'.out W k2 0 _ rfl
    obtain ⟨b1, b2, _⟩ := hA4'.out W k4 0 _ rfl
    obtain ⟨d1, _, _⟩ := hA4'.out W k4 1 _ rfl
    exact ⟨a1, a2, b1, b2, d1⟩
  have hf : Below w.heap.size w (w4.alloc (.cells #[.int .i64 0, .string ⟨#[]⟩, .int .i64 0, .int .i64 2, .string ⟨#[110, 111, 116]⟩, .int .i64 1, .int .i64 2, .string ⟨#[120, 45, 49]⟩, .int .i64 5, .int .i64 1, .string ⟨#[]⟩, .int .i64 8, .int .i64 6, .string ⟨#[]⟩, .int .i64 9] 66)) := hw4.out.trans (hAl.out.mono (by omega))
  have hff := Lib.hid hf
  clear hf
  go_wp2_with fail
  obtain ⟨wA, hwA⟩ : ∃ wA, wA = w4.alloc (.cells #[.int .i64 0, .string ⟨#[]⟩, .int .i64 0, .int .i64 2, .string ⟨#[110, 111, 116]⟩, .int .i64 1, .int .i64 2, .string ⟨#[120, 45, 49]⟩, .int .i64 5, .int .i64 1, .string ⟨#[]⟩, .int .i64 8, .int .i64 6, .string ⟨#[]⟩, .int .i64 9] 66) := ⟨_, rfl⟩
  have hd : Below (w4.alloc (.cells #[.int .i64 0, .string ⟨#[]⟩, .int .i64 0, .int .i64 2, .string ⟨#[110, 111, 116]⟩, .int .i64 1, .int .i64 2, .string ⟨#[120, 45, 49]⟩, .int .i64 5, .int .i64 1, .string ⟨#[]⟩, .int .i64 8, .int .i64 6, .string ⟨#[]⟩, .int .i64 9] 66)).heap.size (w4.alloc (.cells #[.int .i64 0, .string ⟨#[]⟩, .int .i64 0, .int .i64 2, .string ⟨#[110, 111, 116]⟩, .int .i64 1, .int .i64 2, .string ⟨#[120, 45, 49]⟩, .int .i64 5, .int .i64 1, .string ⟨#[]⟩, .int .i64 8, .int .i64 6, .string ⟨#[]⟩, .int .i64 9] 66)) (w4.alloc (.cells #[.int .i64 0, .string ⟨#[]⟩, .int .i64 0, .int .i64 2, .string ⟨#[110, 111, 116]⟩, .int .i64 1, .int .i64 2, .string ⟨#[120, 45, 49]⟩, .int .i64 5, .int .i64 1, .string ⟨#[]⟩, .int .i64 8, .int .i64 6, .string ⟨#[]⟩, .int .i64 9] 66)).drew := (Below.refl _ _).drew
  refine wp_region_held_drew (S := fun W => W.cell? ⟨g2, 0, none⟩ = some (.int .i64 5) ∧ W.cell? ⟨g2, 1, none⟩ = some (.string (strOfNums [97, 34, 0])) ∧ W.cell? ⟨g4, 0, none⟩ = some (.int .i64 3) ∧ W.cell? ⟨g4, 1, none⟩ = some (.string ⟨#[35, 98, 48, 49]⟩) ∧ W.cell? ⟨g4, 3, none⟩ = some (.int .i64 1)) (by kernel_rfl) (HS.out _ hd) (fun hHeld => ?_)
  (try simp only [List.size_toArray, List.length_cons, List.length_nil, Nat.zero_add, Nat.reduceAdd])
  refine wpAnyH_takeL (i := 0) (v := ?v1) rfl (by kernel_rfl) (by kernel_rfl) (by kernel_rfl) (fun _ _ _ h => h) (Or.inl ⟨by rfl, ?y1⟩) (by assumption) ?r1
  case y1 => (intro W hSw; (try dsimp only at hSw); go_simp; try with_reducible rfl)
  (try simp only [Act.put, List.setIfInBounds_toArray, List.set_cons_zero, List.set_cons_succ])
  refine wpAnyH_takeL (i := 2) (v := ?v2) rfl (by kernel_rfl) (by kernel_rfl) (by kernel_rfl) (fun _ _ _ h => h) (Or.inl ⟨by rfl, ?y2⟩) (by assumption) ?r2
  case y2 => (intro W hSw; (try dsimp only at hSw); go_simp; try with_reducible rfl)
  (try simp only [Act.put, List.setIfInBounds_toArray, List.set_cons_zero, List.set_cons_succ])
  refine wpAnyH_ready (rs := [1]) (by kernel_rfl) (by simp) ?_
  refine consL rfl (fun K hK => ?_) AllReadyH.nil
  go_simp
  refine Calls.mono (plain_any _ 5 _ [⟨0, [], 0⟩, ⟨2, [110, 111, 116], 1⟩, ⟨2, [120, 45, 49], 5⟩, ⟨1, [], 8⟩, ⟨6, [], 9⟩] _ rfl (by decide) (by decide) (own_below hO5.out hd)) ?_
  rintro e w5 ⟨v5, rfl, hO6, hB5⟩
  have g1' := hd.trans (hB5.mono hd.size)
  have hR6 := tk_rd hO6 rfl
  have hR7 := (hR5.out.below hd).below hB5
  clear hO6
  (try dsimp only)
  refine hK.out _ _ (HS.out _ g1') (fun hHeld => ?_)
  clear hK K
  (try simp only [Act.put, List.setIfInBounds_toArray, List.set_cons_zero, List.set_cons_succ])
  refine wpAnyH_ready (rs := [3]) (by kernel_rfl) (by simp) ?_
  refine consL rfl (fun K hK => ?_) AllReadyH.nil
  go_simp
  refine Calls.mono (Same_any 5 _ _ [⟨0, [], 0⟩, ⟨2, [110, 111, 116], 1⟩, ⟨2, [120, 45, 49], 5⟩, ⟨1, [], 8⟩, ⟨6, [], 9⟩] _ rfl (by decide) hR6 hR7) ?_
  rintro e w6 ⟨rfl, hB6⟩
  have g2' := g1'.trans (hB6.mono g1'.size)
  clear hR6 hR7 hB5
  (try dsimp only)
  refine hK.out _ _ (HS.out _ g2') (fun hHeld => ?_)
  clear hK K
  (try simp only [Act.put, List.setIfInBounds_toArray, List.set_cons_zero, List.set_cons_succ])
  refine wpAnyH_takeL (i := 4) (v := ?v3) rfl (by kernel_rfl) (by kernel_rfl) (by kernel_rfl) (fun _ _ _ h => h) (Or.inl ⟨by rfl, ?y3⟩) (by assumption) ?r3
  case y3 => (intro W hSw; (try dsimp only at hSw); go_simp; try with_reducible rfl)
  (try simp only [Act.put, List.setIfInBounds_toArray, List.set_cons_zero, List.set_cons_succ])
  refine wpAnyH_takeL (i := 5) (v := ?v4) rfl (by kernel_rfl) (by kernel_rfl) (by kernel_rfl) (fun _ _ _ h => h) (Or.inl ⟨by rfl, ?y4⟩) (by assumption) ?r4
  case y4 => (intro W hSw; (try dsimp only at hSw); go_simp; try with_reducible rfl)
  (try simp only [Act.put, List.setIfInBounds_toArray, List.set_cons_zero, List.set_cons_succ])
  refine wpAnyH_takeL (i := 6) (v := ?v5) rfl (by kernel_rfl) (by kernel_rfl) (by kernel_rfl) (fun _ _ _ h => h) (Or.inl ⟨by rfl, ?y5⟩) (by assumption) ?r5
  case y5 => (intro W hSw; (try dsimp only at hSw); go_simp; try with_reducible rfl)
  (try simp only [Act.put, List.setIfInBounds_toArray, List.set_cons_zero, List.set_cons_succ])
  refine wpAnyH_takeL (i := 7) (v := ?v6) rfl (by kernel_rfl) (by kernel_rfl) (by kernel_rfl) (fun _ _ _ h => h) (Or.inl ⟨by rfl, ?y6⟩) (by assumption) ?r6
  case y6 => (intro W hSw; (try dsimp only at hSw); go_simp; try with_reducible rfl)
  (try simp only [Act.put, List.setIfInBounds_toArray, List.set_cons_zero, List.set_cons_succ])
  refine wpAnyH_takeL (i := 8) (v := ?v7) rfl (by kernel_rfl) (by kernel_rfl) (by kernel_rfl) (fun _ _ _ h => h) (Or.inl ⟨by rfl, ?y7⟩) (by assumption) ?r7
  case y7 => (intro W hSw; (try dsimp only at hSw); go_simp; try with_reducible rfl)
  (try simp only [Act.put, List.setIfInBounds_toArray, List.set_cons_zero, List.set_cons_succ])
  refine wpAnyH_takeL (i := 9) (v := ?v8) rfl (by kernel_rfl) (by kernel_rfl) (by kernel_rfl) (fun _ _ _ h => h) (Or.inl ⟨by rfl, ?y8⟩) (by assumption) ?r8
  case y8 => (intro W hSw; (try dsimp only at hSw); go_simp; try with_reducible rfl)
  (try simp only [Act.put, List.setIfInBounds_toArray, List.set_cons_zero, List.set_cons_succ])
  refine wpAnyH_takeL (i := 10) (v := ?v9) rfl (by kernel_rfl) (by kernel_rfl) (by kernel_rfl) (fun _ _ _ h => h) (Or.inl ⟨by rfl, ?y9⟩) (by assumption) ?r9
  case y9 => (intro W hSw; (try dsimp only at hSw); go_simp; try with_reducible rfl)
  (try simp only [Act.put, List.setIfInBounds_toArray, List.set_cons_zero, List.set_cons_succ])
  refine wpAnyH_takeL (i := 11) (v := ?v10) rfl (by kernel_rfl) (by kernel_rfl) (by kernel_rfl) (fun _ _ _ h => h) (Or.inl ⟨by rfl, ?y10⟩) (by assumption) ?r10
  case y10 => (intro W hSw; (try dsimp only at hSw); go_simp; try with_reducible rfl)
  (try simp only [Act.put, List.setIfInBounds_toArray, List.set_cons_zero, List.set_cons_succ])
  refine wpAnyH_takeL (i := 12) (v := ?v11) rfl (by kernel_rfl) (by kernel_rfl) (by kernel_rfl) (fun _ _ _ h => h) (Or.inl ⟨by rfl, ?y11⟩) (by assumption) ?r11
  case y11 => (intro W hSw; (try dsimp only at hSw); go_simp; try with_reducible rfl)
  (try simp only [Act.put, List.setIfInBounds_toArray, List.set_cons_zero, List.set_cons_succ])
  refine wpAnyH_takeL (i := 13) (v := ?v12) rfl (by kernel_rfl) (by kernel_rfl) (by kernel_rfl) (fun _ _ _ h => h) (Or.inl ⟨by rfl, ?y12⟩) (by assumption) ?r12
  case y12 => (intro W hSw; (try dsimp only at hSw); go_simp; try with_reducible rfl)
  (try simp only [Act.put, List.setIfInBounds_toArray, List.set_cons_zero, List.set_cons_succ])
  refine wpAnyH_takeL (i := 14) (v := ?v13) rfl (by kernel_rfl) (by kernel_rfl) (by kernel_rfl) (fun _ _ _ h => h) (Or.inl ⟨by rfl, ?y13⟩) (by assumption) ?r13
  case y13 => (intro W hSw; (try dsimp only at hSw); go_simp; try with_reducible rfl)
  (try simp only [Act.put, List.setIfInBounds_toArray, List.set_cons_zero, List.set_cons_succ])
  refine wpAnyH_takeL (i := 15) (v := ?v14) rfl (by kernel_rfl) (by kernel_rfl) (by kernel_rfl) (fun _ _ _ h => h) (Or.inl ⟨by rfl, ?y14⟩) (by assumption) ?r14
  case y14 => (intro W hSw; (try dsimp only at hSw); go_simp; try with_reducible rfl)
  (try simp only [Act.put, List.setIfInBounds_toArray, List.set_cons_zero, List.set_cons_succ])
  refine wpAnyH_ready (rs := [16]) (by kernel_rfl) (by simp) ?_
  refine consL rfl (fun K hK => ?_) AllReadyH.nil
  go_simp
  have g3' := g2'.alloc g2'.size (.cells #[.int .u8 97, .int .u8 34, .int .u8 0] 5)
  have hlA := lits w6 [97, 34, 0]
  (try dsimp only)
  refine hK.out _ _ (HS.out _ g3') (fun hHeld => ?_)
  clear hK K
  (try simp only [Act.put, List.setIfInBounds_toArray, List.set_cons_zero, List.set_cons_succ])
  refine wpAnyH_ready (rs := [17]) (by kernel_rfl) (by simp) ?_
  refine consL rfl (fun K hK => ?_) AllReadyH.nil
  refine step_conv _ (.tmp 88) rfl (by rfl) _ 3 3 [97, 34, 0] rfl rfl hlA ?_
  have g4' := Lib.hid g3'
  (try dsimp only)
  refine hK.out _ _ (HS.out _ g3') (fun hHeld => ?_)
  clear hK K
  (try simp only [Act.put, List.setIfInBounds_toArray, List.set_cons_zero, List.set_cons_succ])
  refine wpAnyH_takeL (i := 18) (v := ?v15) rfl (by kernel_rfl) (by kernel_rfl) (by kernel_rfl) (fun _ _ _ h => h) (Or.inl ⟨by rfl, ?y15⟩) (by assumption) ?r15
  case y15 => (intro W hSw; (try dsimp only at hSw); go_simp; try with_reducible rfl)
  (try simp only [Act.put, List.setIfInBounds_toArray, List.set_cons_zero, List.set_cons_succ])
  refine wpAnyH_takeL (i := 19) (v := ?v16) rfl (by kernel_rfl) (by kernel_rfl) (by kernel_rfl) (fun _ _ _ h => h) (Or.inl ⟨by rfl, ?y16⟩) (by assumption) ?r16
  case y16 => (intro W hSw; (try dsimp only at hSw); go_simp; try with_reducible rfl)
  (try simp only [Act.put, List.setIfInBounds_toArray, List.set_cons_zero, List.set_cons_succ])
  refine wpAnyH_takeL (i := 20) (v := ?v17) rfl (by kernel_rfl) (by kernel_rfl) (by kernel_rfl) (fun _ _ _ h => h) (Or.inl ⟨by rfl, ?y17⟩) (by assumption) ?r17
  case y17 => (intro W hSw; (try dsimp only at hSw); go_simp; try with_reducible rfl)
  (try simp only [Act.put, List.setIfInBounds_toArray, List.set_cons_zero, List.set_cons_succ])
  refine wpAnyH_takeL (i := 21) (v := ?v18) rfl (by kernel_rfl) (by kernel_rfl) (by kernel_rfl) (fun _ _ _ h => h) (Or.inl ⟨by rfl, ?y18⟩) (by assumption) ?r18
  case y18 => (intro W hSw; (try dsimp only at hSw); go_simp; try with_reducible rfl)
  (try simp only [Act.put, List.setIfInBounds_toArray, List.set_cons_zero, List.set_cons_succ])
  refine wpAnyH_takeL (i := 22) (v := ?v19) rfl (by kernel_rfl) (by kernel_rfl) (by kernel_rfl) (fun _ _ _ h => h) (Or.inl ⟨by rfl, ?y19⟩) (by assumption) ?r19
  case y19 => (intro W hSw; (try dsimp only at hSw); go_simp; try with_reducible rfl)
  (try simp only [Act.put, List.setIfInBounds_toArray, List.set_cons_zero, List.set_cons_succ])
  refine wpAnyH_takeL (i := 23) (v := ?v20) rfl (by kernel_rfl) (by kernel_rfl) (by kernel_rfl) (fun _ _ _ h => h) (Or.inl ⟨by rfl, ?y20⟩) (by assumption) ?r20
  case y20 => (intro W hSw; (try dsimp only at hSw); go_simp; try with_reducible rfl)
  (try simp only [Act.put, List.setIfInBounds_toArray, List.set_cons_zero, List.set_cons_succ])
  refine wpAnyH_takeL (i := 24) (v := ?v21) rfl (by kernel_rfl) (by kernel_rfl) (by kernel_rfl) (fun _ _ _ h => h) (Or.inl ⟨by rfl, ?y21⟩) (by assumption) ?r21
  case y21 => (intro W hSw; (try dsimp only at hSw); go_simp; try with_reducible rfl)
  (try simp only [Act.put, List.setIfInBounds_toArray, List.set_cons_zero, List.set_cons_succ])
  refine wpAnyH_takeL (i := 25) (v := ?v22) rfl (by kernel_rfl) (by kernel_rfl) (by kernel_rfl) (fun _ _ _ h => h) (Or.inl ⟨by rfl, ?y22⟩) (by assumption) ?r22
  case y22 => (intro W hSw; (try dsimp only at hSw); go_simp; try with_reducible rfl)
  (try simp only [Act.put, List.setIfInBounds_toArray, List.set_cons_zero, List.set_cons_succ])
  refine wpAnyH_takeL (i := 26) (v := ?v23) rfl (by kernel_rfl) (by kernel_rfl) (by kernel_rfl) (fun _ _ _ h => h) (Or.inl ⟨by rfl, ?y23⟩) (by assumption) ?r23
  case y23 => (intro W hSw; (try dsimp only at hSw); go_simp; try with_reducible rfl)
  (try simp only [Act.put, List.setIfInBounds_toArray, List.set_cons_zero, List.set_cons_succ])
  refine wpAnyH_takeL (i := 27) (v := ?v24) rfl (by kernel_rfl) (by kernel_rfl) (by kernel_rfl) (fun _ _ _ h => h) (Or.inl ⟨by rfl, ?y24⟩) (by assumption) ?r24
  case y24 => (intro W hSw; (try dsimp only at hSw); go_simp; try with_reducible rfl)
  (try simp only [Act.put, List.setIfInBounds_toArray, List.set_cons_zero, List.set_cons_succ])
  refine wpAnyH_takeL (i := 28) (v := ?v25) rfl (by kernel_rfl) (by kernel_rfl) (by kernel_rfl) (fun _ _ _ h => h) (Or.inl ⟨by rfl, ?y25⟩) (by assumption) ?r25
  case y25 => (intro W hSw; (try dsimp only at hSw); go_simp; try with_reducible rfl)
  (try simp only [Act.put, List.setIfInBounds_toArray, List.set_cons_zero, List.set_cons_succ])
  refine wpAnyH_takeL (i := 29) (v := ?v26) rfl (by kernel_rfl) (by kernel_rfl) (by kernel_rfl) (fun _ _ _ h => h) (Or.inl ⟨by rfl, ?y26⟩) (by assumption) ?r26
  case y26 => (intro W hSw; (try dsimp only at hSw); go_simp; try with_reducible rfl)
  (try simp only [Act.put, List.setIfInBounds_toArray, List.set_cons_zero, List.set_cons_succ])
  refine wpAnyH_takeL (i := 30) (v := ?v27) rfl (by kernel_rfl) (by kernel_rfl) (by kernel_rfl) (fun _ _ _ h => h) (Or.inl ⟨by rfl, ?y27⟩) (by assumption) ?r27
  case y27 => (intro W hSw; (try dsimp only at hSw); go_simp; try with_reducible rfl)
  (try simp only [Act.put, List.setIfInBounds_toArray, List.set_cons_zero, List.set_cons_succ])
  refine wpAnyH_takeL (i := 31) (v := ?v28) rfl (by kernel_rfl) (by kernel_rfl) (by kernel_rfl) (fun _ _ _ h => h) (Or.inl ⟨by rfl, ?y28⟩) (by assumption) ?r28
  case y28 => (intro W hSw; (try dsimp only at hSw); go_simp; try with_reducible rfl)
  (try simp only [Act.put, List.setIfInBounds_toArray, List.set_cons_zero, List.set_cons_succ])
  refine wpAnyH_takeL (i := 32) (v := ?v29) rfl (by kernel_rfl) (by kernel_rfl) (by kernel_rfl) (fun _ _ _ h => h) (Or.inl ⟨by rfl, ?y29⟩) (by assumption) ?r29
  case y29 => (intro W hSw; (try dsimp only at hSw); go_simp; try with_reducible rfl)
  (try simp only [Act.put, List.setIfInBounds_toArray, List.set_cons_zero, List.set_cons_succ])
  refine wpAnyH_takeL (i := 33) (v := ?v30) rfl (by kernel_rfl) (by kernel_rfl) (by kernel_rfl) (fun _ _ _ h => h) (Or.inl ⟨by rfl, ?y30⟩) (by assumption) ?r30
  case y30 => (intro W hSw; (try dsimp only at hSw); go_simp; try with_reducible rfl)
  (try simp only [Act.put, List.setIfInBounds_toArray, List.set_cons_zero, List.set_cons_succ])
  refine wpAnyH_takeL (i := 34) (v := ?v31) rfl (by kernel_rfl) (by kernel_rfl) (by kernel_rfl) (fun _ _ _ h => h) (Or.inl ⟨by rfl, ?y31⟩) (by assumption) ?r31
  case y31 => (intro W hSw; (try dsimp only at hSw); go_simp; try with_reducible rfl)
  (try simp only [Act.put, List.setIfInBounds_toArray, List.set_cons_zero, List.set_cons_succ])
  refine wpAnyH_takeL (i := 35) (v := ?v32) rfl (by kernel_rfl) (by kernel_rfl) (by kernel_rfl) (fun _ _ _ h => h) (Or.inl ⟨by rfl, ?y32⟩) (by assumption) ?r32
  case y32 => (intro W hSw; (try dsimp only at hSw); go_simp; try with_reducible rfl)
  (try simp only [Act.put, List.setIfInBounds_toArray, List.set_cons_zero, List.set_cons_succ])
  refine wpAnyH_takeL (i := 36) (v := ?v33) rfl (by kernel_rfl) (by kernel_rfl) (by kernel_rfl) (fun _ _ _ h => h) (Or.inl ⟨by rfl, ?y33⟩) (by assumption) ?r33
  case y33 => (intro W hSw; (try dsimp only at hSw); go_simp; try with_reducible rfl)
  (try simp only [Act.put, List.setIfInBounds_toArray, List.set_cons_zero, List.set_cons_succ])
  refine wpAnyH_takeL (i := 37) (v := ?v34) rfl (by kernel_rfl) (by kernel_rfl) (by kernel_rfl) (fun _ _ _ h => h) (Or.inl ⟨by rfl, ?y34⟩) (by assumption) ?r34
  case y34 => (intro W hSw; (try dsimp only at hSw); go_simp; try with_reducible rfl)
  (try simp only [Act.put, List.setIfInBounds_toArray, List.set_cons_zero, List.set_cons_succ])
  refine wpAnyH_takeL (i := 38) (v := ?v35) rfl (by kernel_rfl) (by kernel_rfl) (by kernel_rfl) (fun _ _ _ h => h) (Or.inl ⟨by rfl, ?y35⟩) (by assumption) ?r35
  case y35 => (intro W hSw; (try dsimp only at hSw); go_simp; try with_reducible rfl)
  (try simp only [Act.put, List.setIfInBounds_toArray, List.set_cons_zero, List.set_cons_succ])
  refine wpAnyH_takeL (i := 39) (v := ?v36) rfl (by kernel_rfl) (by kernel_rfl) (by kernel_rfl) (fun _ _ _ h => h) (Or.inl ⟨by rfl, ?y36⟩) (by assumption) ?r36
  case y36 => (intro W hSw; (try dsimp only at hSw); go_simp; try with_reducible rfl)
  (try simp only [Act.put, List.setIfInBounds_toArray, List.set_cons_zero, List.set_cons_succ])
  refine wpAnyH_takeL (i := 40) (v := ?v37) rfl (by kernel_rfl) (by kernel_rfl) (by kernel_rfl) (fun _ _ _ h => h) (Or.inl ⟨by rfl, ?y37⟩) (by assumption) ?r37
  case y37 => (intro W hSw; (try dsimp only at hSw); go_simp; try with_reducible rfl)
  (try simp only [Act.put, List.setIfInBounds_toArray, List.set_cons_zero, List.set_cons_succ])
  refine wpAnyH_takeL (i := 41) (v := ?v38) rfl (by kernel_rfl) (by kernel_rfl) (by kernel_rfl) (fun _ _ _ h => h) (Or.inl ⟨by rfl, ?y38⟩) (by assumption) ?r38
  case y38 => (intro W hSw; (try dsimp only at hSw); go_simp; try with_reducible rfl)
  (try simp only [Act.put, List.setIfInBounds_toArray, List.set_cons_zero])
  refine wpAnyH_done (by kernel_rfl) ?_ _
  go_wp2_with fail
  go_ret
  exact ⟨rfl, hff.out.trans (g4'.out.mono hff.out.size)⟩
end Go.Proofs.Ytpeeekgfcofbkaa
