/-
  THE WALK of the law LexerWrites. Written by gen/genlxwrt.py.
-/
import Derived.Test.YtpeeekgfcofbkaaLxWrtM
import Derived.Test.YtpeeekgfcofbkaaLxGood
import Derived.Test.YtpeeekgfcofbkaaLxLives
namespace Go.Proofs.Ytpeeekgfcofbkaa
open Go.RowKit

theorem sb_app3 (a b : ByteArray) : sb (a ++ b) = sb a ++ sb b := by
  unfold sb
  rw [ByteArray.data_append, Array.toList_append, List.map_append]
/-- the text so far -/
def WrtAt (ts : List Tk) (k : Nat) (O : ByteArray) : Prop := sb O = flat (ts.take k)
theorem wrt_step {ts : List Tk} {k : Nat} {O W : ByteArray} {x : Tk} (h : WrtAt ts k O) (hx : ts[k]? = some x) (hW : sb W = wrt x) : WrtAt ts (k + 1) (O ++ W ++ ⟨#[32]⟩) := by
  have hk : k < ts.length := (List.getElem?_eq_some_iff.1 hx).1
  have e : ts.take (k + 1) = ts.take k ++ [x] := by
    rw [List.take_add_one, hx]
    rfl
  unfold WrtAt at *
  rw [e, flat_snoc, sb_app3, sb_app3, h, hW, List.append_assoc]
  rfl
theorem wrt_size {ts : List Tk} {k : Nat} {O : ByteArray} (h : WrtAt ts k O) : O.size ≤ (flat ts).length := by
  rw [← sb_length, h]
  exact flat_take ts k
theorem wrt_known {T : ByteArray} (hT : YOk T) : ∃ (m n : Nat) (a : List (Tk × Int)) (ts LA : List Tk), n = m + 1 ∧ m = ts.length ∧ yl (T.size + 1) (sb T) 0 = a ++ [(⟨6, [], T.size⟩, 0)] ∧ n = a.length + 1 ∧ LA = (a ++ [((⟨6, [], T.size⟩ : Tk), (0 : Int))]).map Prod.fst ∧ LA = ts ++ [⟨6, [], T.size⟩] ∧
    (∀ x ∈ ts, TokIn (sb T) x) ∧ (flat ts).length ≤ 5 * T.size ∧ m ≤ T.size := by
  obtain ⟨a, x, ha, hx⟩ := hT
  have hlen := yl_len (T.size + 1) (sb T) 0
  rw [ha, List.length_append, List.length_singleton] at hlen
  obtain ⟨rfl, hpa⟩ := yl_last _ _ _ _ _ (sb_bytes T) (Nat.zero_le _) (by rw [sb_length]; omega) ha hx
  obtain ⟨h1, h2⟩ := yl_in _ _ _ _ (sb_bytes T) (Nat.zero_le _) ha hpa
  simp only [sb_length] at ha h2
  refine ⟨a.length, a.length + 1, a, a.map Prod.fst, _, rfl, by rw [List.length_map], ha, rfl, rfl, by rw [List.map_append]; rfl, fun x hx => ?_, by omega, by omega⟩
  obtain ⟨y, hy, rfl⟩ := List.mem_map.1 hx
  exact h1 y hy
theorem wrt_tokens {O : ByteArray} {ts : List Tk} (hf : ∀ x ∈ ts, TokFine x ∧ Bytes8 x.t) (hO : sb O = flat ts) (p : Nat) : ∃ (b : List (Tk × Int)) (LB : List Tk), yl (O.size + 1) (sb O) 0 = b ++ [(⟨6, [], O.size⟩, 0)] ∧ b.length = ts.length ∧ LB = (b ++ [((⟨6, [], O.size⟩ : Tk), (0 : Int))]).map Prod.fst ∧
    ∀ (k : Nat) (x : Tk), (ts ++ [(⟨6, [], p⟩ : Tk)])[k]? = some x → ∃ y, LB[k]? = some y ∧ y.k = x.k ∧ y.t = x.t := by
  obtain ⟨b, hb1, hb2⟩ := yl_written hf hO
  rw [sb_length] at hb1
  have hl : b.length = ts.length := by have := congrArg List.length hb2; rwa [List.length_map, List.length_map] at this
  refine ⟨b, _, hb1, hl, rfl, fun k x hx => ?_⟩
  have e : ((b ++ [((⟨6, [], O.size⟩ : Tk), (0 : Int))]).map Prod.fst).map (fun y => (y.k, y.t)) = (ts ++ [(⟨6, [], p⟩ : Tk)]).map (fun y => (y.k, y.t)) := by
    rw [List.map_map, List.map_append, List.map_append, ← hb2]
    rfl
  have e2 := congrArg (fun l => l[k]?) e
  simp only [List.getElem?_map, hx, Option.map_some] at e2
  cases hy : (List.map Prod.fst (b ++ [((⟨6, [], O.size⟩ : Tk), (0 : Int))]))[k]? with
  | none => rw [List.getElem?_map] at hy; rw [hy] at e2; cases e2
  | some y =>
    rw [List.getElem?_map] at hy
    rw [hy] at e2
    injection e2 with e2
    exact ⟨y, rfl, congrArg Prod.fst e2, congrArg Prod.snd e2⟩
set_option maxHeartbeats 16000000 in
set_option maxRecDepth 100000 in
theorem lwrites_any (A : Option Addr) (n0 c : Nat) (zs : List Int) (w : World) (hn : n0 = zs.length) (hz : ∀ z ∈ zs, I64 z) (hr : RdI w w.heap.size .i64 A zs) :
    Calls Try.prog 8 #[.slice A n0 c] w fun e w' => e = .returned (.bool true) ∧ Below w.heap.size w w' := by
  have HG := Lib.hid (good_any A n0 c zs 14 14 w hn hz hr rfl (by decide))
  clear hn hz hr
  go_enter Try.func8, Try.ntmps8
  go_wp2_with fail
  refine Calls.mono HG.out ?_
  rintro e w1 ⟨T, rfl, hT, hYT, hB1⟩
  clear HG
  obtain ⟨m, n, a, ts, LA, hnm, hmt, ya, hna, hLA, hLA2, hin, hfl, hmT⟩ := wrt_known hYT
  have HT1 := Lib.hid (fun W => tok_ok T n LA W (by omega) a _ ya rfl hna hLA)
  have hT560 : T.size ≤ 560 := by omega
  replace hin := Lib.hid hin
  replace hLA2 := Lib.hid hLA2
  replace hmt := Lib.hid hmt
  replace hT := Lib.hid hT
  replace hfl := Lib.hid hfl
  clear ya hna hLA hYT
  go_wp2_with fail
  refine Calls.mono (HT1.out _) ?_
  rintro e w3 ⟨g1, d1, rfl, hd1, hg1, hA1, -, hB3⟩
  have hB := hB1.trans (hB3.mono hB1.size)
  have hk1 := Lib.hid fun (W : World) (hW : Below w3.heap.size w3 W) => hA1 W (hW.block g1 hg1)
  obtain ⟨e6, -, -⟩ := hA1 w3 rfl m ⟨6, [], T.size⟩ (by rw [hLA2.out, hmt.out, List.getElem?_append_right (Nat.le_refl _), Nat.sub_self]; rfl)
  dsimp only at e6
  have hnI : (n : Int) - 1 = (m : Int) := by omega
  have hn0 : ((n : Int) == 0) = false := by rw [beq_eq_false_iff_ne]; omega
  have hmn : (m : Int) < (n : Int) := by omega
  have hwm : IntKind.i64.wrap (m : Int) = (m : Int) := IntWalk.i64_in _ ⟨by omega, by omega⟩
  replace hnm := Lib.hid hnm
  clear HT1 hA1 hB1 hB3
  go_wp2_with fail
  clear e6
  go_loopw [7, 8] (fun out i wr => ∃ (k : Nat) (O : ByteArray), i = .int .i64 (k : Int) ∧ out = .string O ∧ k ≤ m ∧ Hid (WrtAt ts k O) ∧ O.size ≤ 2800 ∧ Below w3.heap.size w3 wr) (fun _ i _ => m - (intOf i).toNat)
  case atStart => exact ⟨0, ⟨#[]⟩, rfl, rfl, Nat.zero_le _, Lib.hid rfl, by decide, Below.refl _ _⟩
  case round =>
    obtain ⟨k, O, rfl, rfl, hk, hO, hOs, hW⟩ := hrel
    by_cases hlt : k < m
    · have hlI : (k : Int) < (m : Int) := by omega
      have hlI2 : (k : Int) < (n : Int) := by have := hnm.out; omega
      obtain ⟨⟨xk, xt, xp⟩, hx⟩ : ∃ x, ts[k]? = some x := ⟨ts[k]'(by have := hmt.out; omega), by rw [List.getElem?_eq_getElem]⟩
      have hxL : LA[k]? = some ⟨xk, xt, xp⟩ := by rw [hLA2.out, List.getElem?_append_left (List.getElem?_eq_some_iff.1 hx).1, hx]
      obtain ⟨a1, a2, a3⟩ := hk1.out _ hW k _ hxL
      obtain ⟨tf, tb, tsh, tpl⟩ := hin.out _ (List.mem_of_getElem? hx)
      dsimp only at a1 a2 a3 tf tb tsh tpl
      rw [sb_length] at tsh tpl
      have hbA : Below w3.heap.size w3 (wr.alloc (.cells #[.int .i64 xk, .string (strOfNums xt), .int .i64 (xp : Nat)] 43)) := hW.alloc hW.size _
      have hstep := Lib.hid (fun (W : ByteArray) (hWb : sb W = wrt ⟨xk, xt, xp⟩) => (show Hid (WrtAt ts (k + 1) (O ++ W ++ ⟨#[32]⟩)) ∧ (O ++ W ++ ⟨#[32]⟩).size ≤ 2800 from by
        have h1 := wrt_step hO.out hx hWb
        have h2 := wrt_size h1
        have h3 := hfl.out
        exact ⟨Lib.hid h1, by omega⟩))
      replace hW := Lib.hid hW
      replace hbA := Lib.hid hbA
      replace tb := Lib.hid tb
      replace tpl := Lib.hid tpl
      have hcat1 : ¬ 9223372036854775807 < O.size + 1 := by omega
      have hcat2 : ¬ 9223372036854775807 < O.size + 1 + 1 := by omega
      clear hx hxL
      by_cases h0 : xk = 0
      · subst h0
        obtain ⟨s1, s2⟩ := hstep.out ⟨#[40]⟩ rfl
        clear hstep tf hO
        go_wp2_with fail
        go_roundw
        case rel => exact ⟨k + 1, _, by go_num, rfl, by omega, s1, s2, hbA.out⟩
        case measure => simp [intOf]; omega
      · have b0 : (xk == 0) = false := by rw [beq_eq_false_iff_ne]; exact h0
        by_cases h1 : xk = 1
        · subst h1
          obtain ⟨s1, s2⟩ := hstep.out ⟨#[41]⟩ rfl
          clear hstep tf hO
          go_wp2_with fail
          go_roundw
          case rel => exact ⟨k + 1, _, by go_num, rfl, by omega, s1, s2, hbA.out⟩
          case measure => simp [intOf]; omega
        · have b1 : (xk == 1) = false := by rw [beq_eq_false_iff_ne]; exact h1
          by_cases h5 : xk = 5
          · subst h5
            obtain ⟨Q, hQ⟩ : ∃ Q, strOfNums (quoteL xt) = Q := ⟨_, rfl⟩
            have hQb : sb Q = quoteL xt := by rw [← hQ]; exact sb_of_nums (quote_bytes tb.out)
            obtain ⟨s1, s2⟩ := hstep.out Q hQb
            have hq4 := quote_short tb.out
            have hQs : Q.size ≤ 4000 := by rw [← sb_length, hQb]; omega
            have hQF : quoteF (sb (strOfNums xt)) = (quoteL xt, 0) := by
              rw [sb_of_nums tb.out]
              unfold quoteF
              rw [if_pos (by omega)]
            have HQ := Lib.hid (fun W => Quote_any (strOfNums xt) W (by rw [← sb_length, sb_of_nums tb.out]; omega))
            rw [hQF, hQ] at HQ
            have hcat3 : ¬ 9223372036854775807 < O.size + Q.size := by omega
            have hcat4 : ¬ 9223372036854775807 < O.size + Q.size + 1 := by omega
            clear hstep tf hO hQb hQ hQF hq4
            go_wp2_with fail
            refine Calls.mono (HQ.out _) ?_
            rintro e w4 ⟨rfl, hB4⟩
            have hb4 := hbA.out.trans (hB4.mono hbA.out.size)
            replace hb4 := Lib.hid hb4
            clear HQ hB4
            go_wp2_with fail
            go_roundw
            case rel => exact ⟨k + 1, _, by go_num, rfl, by omega, s1, s2, hb4.out⟩
            case measure => simp [intOf]; omega
          · have b5 : (xk == 5) = false := by rw [beq_eq_false_iff_ne]; exact h5
            obtain ⟨X, hX⟩ : ∃ X, strOfNums xt = X := ⟨_, rfl⟩
            have hXb : sb X = xt := by rw [← hX]; exact sb_of_nums tb.out
            obtain ⟨s1, s2⟩ := hstep.out X (by rw [hXb]; exact ((wrt_len (x := ⟨xk, xt, xp⟩) tb.out).2.2 h0 h1 h5).symm)
            obtain ⟨p1, p2⟩ := tpl.out h0 h1 h5
            have hXs : X.size = xt.length := by rw [← sb_length, hXb]
            have hXs2 : xp + X.size ≤ T.size := by omega
            have hsl : ∀ W : World, (Instr.slice 9 (.string T) (some (.int .i64 (xp : Int))) (some (.int .i64 ((xp : Int) + (X.size : Int)))) none).run Try.prog W = .ok (.string X) W := fun W => by
              have h := run_slice_string (P := Try.prog) W 9 T .i64 .i64 (xp : Int) ((xp : Int) + (X.size : Int)) Try.underlying9 (by omega) (by omega) (by omega)
              have hx2 : T.extract xp (xp + X.size) = X := by
                have h2 : sb (T.extract xp (xp + X.size)) = sb X := by rw [sb_cut, List.drop_take, Nat.add_sub_cancel_left, hXs, p2, hXb]
                rw [← str_sb (T.extract xp (xp + X.size)), h2, str_sb]
              rw [show ((xp : Int)).toNat = xp by omega, show ((xp : Int) + (X.size : Int)).toNat = xp + X.size by omega, hx2] at h
              exact h
            rw [hX] at hbA a2
            have hcat3 : ¬ 9223372036854775807 < O.size + X.size := by omega
            have hcat4 : ¬ 9223372036854775807 < O.size + X.size + 1 := by omega
            have q1 : decide ((xp : Int) < 0) = false := decide_eq_false (by omega)
            have q2 : decide ((T.size : Int) < (xp : Int) + (X.size : Int)) = false := decide_eq_false (by omega)
            have hwq := Lib.hid (IntWalk.i64_in ((xp : Int) + (X.size : Int)) ⟨by omega, by omega⟩)
            replace hXs := Lib.hid hXs
            clear hstep tf hO hXb hX p1 p2
            go_wp2_with fail
            have hZ : Below w3.heap.size w3 (wr.alloc (.cells #[.int .i64 xk, .string X, .int .i64 (xp : Nat)] 43)).drew := hbA.out.drew
            obtain ⟨⟨-, z1, z2⟩, -⟩ := three_at3 (w := (wr.alloc (.cells #[.int .i64 xk, .string X, .int .i64 (xp : Nat)] 43)).drew) (heap_alloc_new wr (.cells #[.int .i64 xk, .string X, .int .i64 (xp : Nat)] 43))
            replace hZ := Lib.hid hZ
            refine wp_region_held_drew (S := fun W => W.cell? ⟨wr.heap.size, 1, none⟩ = some (.string X) ∧ W.cell? ⟨wr.heap.size, 2, none⟩ = some (.int .i64 (xp : Nat))) (by kernel_rfl) (⟨z1, z2⟩) (fun hHeld => ?_)
            (try simp only [List.size_toArray, List.length_cons, List.length_nil, Nat.zero_add, Nat.reduceAdd])
            refine wpAnyH_takeL (i := 0) (v := ?v1) rfl (by kernel_rfl) (by kernel_rfl) (by kernel_rfl) (fun _ _ _ h => h) (Or.inl ⟨by rfl, ?y1⟩) (by assumption) ?r1
            case y1 => (intro W hSw; (try dsimp only at hSw); go_simp; try with_reducible rfl)
            (try simp only [Act.put, List.setIfInBounds_toArray, List.set_cons_zero, List.set_cons_succ])
            refine wpAnyH_takeL (i := 1) (v := ?v2) rfl (by kernel_rfl) (by kernel_rfl) (by kernel_rfl) (fun _ _ _ h => h) (Or.inl ⟨by rfl, ?y2⟩) (by assumption) ?r2
            case y2 => (intro W hSw; (try dsimp only at hSw); go_simp; try with_reducible rfl)
            (try simp only [Act.put, List.setIfInBounds_toArray, List.set_cons_zero, List.set_cons_succ])
            refine wpAnyH_takeL (i := 2) (v := .bool false) rfl (by kernel_rfl) (by kernel_rfl) (by kernel_rfl) (fun _ _ _ h => h) (Or.inl ⟨by rfl, ?y3⟩) (by assumption) ?r3
            case y3 => (intro W hSw; (try dsimp only at hSw); first | (go_simp; done) | (go_simp; omega))
            (try simp only [Act.put, List.setIfInBounds_toArray, List.set_cons_zero, List.set_cons_succ])
            refine wpAnyH_takeL (i := 3) (v := ?v4) rfl (by kernel_rfl) (by kernel_rfl) (by kernel_rfl) (fun _ _ _ h => h) (Or.inl ⟨by rfl, ?y4⟩) (by assumption) ?r4
            case y4 => (intro W hSw; (try dsimp only at hSw); go_simp; try with_reducible rfl)
            (try simp only [Act.put, List.setIfInBounds_toArray, List.set_cons_zero, List.set_cons_succ])
            refine wpAnyH_takeL (i := 4) (v := ?v5) rfl (by kernel_rfl) (by kernel_rfl) (by kernel_rfl) (fun _ _ _ h => h) (Or.inl ⟨by rfl, ?y5⟩) (by assumption) ?r5
            case y5 => (intro W hSw; (try dsimp only at hSw); go_simp; try with_reducible rfl)
            (try simp only [Act.put, List.setIfInBounds_toArray, List.set_cons_zero, List.set_cons_succ])
            refine wpAnyH_takeL (i := 5) (v := ?v6) rfl (by kernel_rfl) (by kernel_rfl) (by kernel_rfl) (fun _ _ _ h => h) (Or.inl ⟨by rfl, ?y6⟩) (by assumption) ?r6
            case y6 => (intro W hSw; (try dsimp only at hSw); go_simp; try with_reducible rfl)
            (try simp only [Act.put, List.setIfInBounds_toArray, List.set_cons_zero, List.set_cons_succ])
            refine wpAnyH_takeL (i := 6) (v := ?v7) rfl (by kernel_rfl) (by kernel_rfl) (by kernel_rfl) (fun _ _ _ h => h) (Or.inl ⟨by rfl, ?y7⟩) (by assumption) ?r7
            case y7 => (intro W hSw; (try dsimp only at hSw); go_simp; try with_reducible rfl)
            (try simp only [Act.put, List.setIfInBounds_toArray, List.set_cons_zero, List.set_cons_succ])
            refine wpAnyH_takeL (i := 7) (v := ?v8) rfl (by kernel_rfl) (by kernel_rfl) (by kernel_rfl) (fun _ _ _ h => h) (Or.inl ⟨by rfl, ?y8⟩) (by assumption) ?r8
            case y8 => (intro W hSw; (try dsimp only at hSw); go_simp; try with_reducible rfl)
            (try simp only [Act.put, List.setIfInBounds_toArray, List.set_cons_zero, List.set_cons_succ])
            refine wpAnyH_takeL (i := 8) (v := ?v9) rfl (by kernel_rfl) (by kernel_rfl) (by kernel_rfl) (fun _ _ _ h => h) (Or.inl ⟨by rfl, ?y9⟩) (by assumption) ?r9
            case y9 => (intro W hSw; (try dsimp only at hSw); go_simp; try with_reducible rfl)
            (try simp only [Act.put, List.setIfInBounds_toArray, List.set_cons_zero, List.set_cons_succ])
            refine wpAnyH_takeL (i := 9) (v := .int .i64 ((xp : Int) + (X.size : Int))) rfl (by kernel_rfl) (by kernel_rfl) (by kernel_rfl) (fun _ _ _ h => h) (Or.inl ⟨by rfl, ?y10⟩) (by assumption) ?r10
            case y10 => (intro W hSw; (try dsimp only at hSw); first | (go_simp; done) | (go_simp; (rw [hwq.out])))
            (try simp only [Act.put, List.setIfInBounds_toArray, List.set_cons_zero, List.set_cons_succ])
            refine wpAnyH_takeL (i := 10) (v := ?v11) rfl (by kernel_rfl) (by kernel_rfl) (by kernel_rfl) (fun _ _ _ h => h) (Or.inl ⟨by rfl, ?y11⟩) (by assumption) ?r11
            case y11 => (intro W hSw; (try dsimp only at hSw); go_simp; try with_reducible rfl)
            (try simp only [Act.put, List.setIfInBounds_toArray, List.set_cons_zero, List.set_cons_succ])
            refine wpAnyH_takeL (i := 11) (v := ?v12) rfl (by kernel_rfl) (by kernel_rfl) (by kernel_rfl) (fun _ _ _ h => h) (Or.inl ⟨by rfl, ?y12⟩) (by assumption) ?r12
            case y12 => (intro W hSw; (try dsimp only at hSw); go_simp; try with_reducible rfl)
            (try simp only [Act.put, List.setIfInBounds_toArray, List.set_cons_zero, List.set_cons_succ])
            refine wpAnyH_takeL (i := 12) (v := .bool false) rfl (by kernel_rfl) (by kernel_rfl) (by kernel_rfl) (fun _ _ _ h => h) (Or.inl ⟨by rfl, ?y13⟩) (by assumption) ?r13
            case y13 => (intro W hSw; (try dsimp only at hSw); first | (go_simp; done) | (go_simp; omega))
            (try simp only [Act.put, List.setIfInBounds_toArray, List.set_cons_zero, List.set_cons_succ])
            refine wpAnyH_takeL (i := 13) (v := ?v14) rfl (by kernel_rfl) (by kernel_rfl) (by kernel_rfl) (fun _ _ _ h => h) (Or.inl ⟨by rfl, ?y14⟩) (by assumption) ?r14
            case y14 => (intro W hSw; (try dsimp only at hSw); go_simp; try with_reducible rfl)
            (try simp only [Act.put, List.setIfInBounds_toArray, List.set_cons_zero, List.set_cons_succ])
            refine wpAnyH_takeL (i := 14) (v := ?v15) rfl (by kernel_rfl) (by kernel_rfl) (by kernel_rfl) (fun _ _ _ h => h) (Or.inl ⟨by rfl, ?y15⟩) (by assumption) ?r15
            case y15 => (intro W hSw; (try dsimp only at hSw); go_simp; try with_reducible rfl)
            (try simp only [Act.put, List.setIfInBounds_toArray, List.set_cons_zero, List.set_cons_succ])
            refine wpAnyH_takeL (i := 15) (v := ?v16) rfl (by kernel_rfl) (by kernel_rfl) (by kernel_rfl) (fun _ _ _ h => h) (Or.inl ⟨by rfl, ?y16⟩) (by assumption) ?r16
            case y16 => (intro W hSw; (try dsimp only at hSw); go_simp; try with_reducible rfl)
            (try simp only [Act.put, List.setIfInBounds_toArray, List.set_cons_zero, List.set_cons_succ])
            refine wpAnyH_takeL (i := 16) (v := ?v17) rfl (by kernel_rfl) (by kernel_rfl) (by kernel_rfl) (fun _ _ _ h => h) (Or.inl ⟨by rfl, ?y17⟩) (by assumption) ?r17
            case y17 => (intro W hSw; (try dsimp only at hSw); go_simp; try with_reducible rfl)
            (try simp only [Act.put, List.setIfInBounds_toArray, List.set_cons_zero, List.set_cons_succ])
            refine wpAnyH_takeL (i := 17) (v := ?v18) rfl (by kernel_rfl) (by kernel_rfl) (by kernel_rfl) (fun _ _ _ h => h) (Or.inl ⟨by rfl, ?y18⟩) (by assumption) ?r18
            case y18 => (intro W hSw; (try dsimp only at hSw); go_simp; try with_reducible rfl)
            (try simp only [Act.put, List.setIfInBounds_toArray, List.set_cons_zero, List.set_cons_succ])
            refine wpAnyH_takeL (i := 18) (v := ?v19) rfl (by kernel_rfl) (by kernel_rfl) (by kernel_rfl) (fun _ _ _ h => h) (Or.inl ⟨by rfl, ?y19⟩) (by assumption) ?r19
            case y19 => (intro W hSw; (try dsimp only at hSw); go_simp; try with_reducible rfl)
            (try simp only [Act.put, List.setIfInBounds_toArray, List.set_cons_zero, List.set_cons_succ])
            refine wpAnyH_takeL (i := 19) (v := ?v20) rfl (by kernel_rfl) (by kernel_rfl) (by kernel_rfl) (fun _ _ _ h => h) (Or.inl ⟨by rfl, ?y20⟩) (by assumption) ?r20
            case y20 => (intro W hSw; (try dsimp only at hSw); go_simp; try with_reducible rfl)
            (try simp only [Act.put, List.setIfInBounds_toArray, List.set_cons_zero, List.set_cons_succ])
            refine wpAnyH_takeL (i := 20) (v := ?v21) rfl (by kernel_rfl) (by kernel_rfl) (by kernel_rfl) (fun _ _ _ h => h) (Or.inl ⟨by rfl, ?y21⟩) (by assumption) ?r21
            case y21 => (intro W hSw; (try dsimp only at hSw); go_simp; try with_reducible rfl)
            (try simp only [Act.put, List.setIfInBounds_toArray, List.set_cons_zero, List.set_cons_succ])
            refine wpAnyH_takeL (i := 21) (v := ?v22) rfl (by kernel_rfl) (by kernel_rfl) (by kernel_rfl) (fun _ _ _ h => h) (Or.inl ⟨by rfl, ?y22⟩) (by assumption) ?r22
            case y22 => (intro W hSw; (try dsimp only at hSw); go_simp; try with_reducible rfl)
            (try simp only [Act.put, List.setIfInBounds_toArray, List.set_cons_zero, List.set_cons_succ])
            refine wpAnyH_takeL (i := 22) (v := ?v23) rfl (by kernel_rfl) (by kernel_rfl) (by kernel_rfl) (fun _ _ _ h => h) (Or.inl ⟨by rfl, ?y23⟩) (by assumption) ?r23
            case y23 => (intro W hSw; (try dsimp only at hSw); go_simp; try with_reducible rfl)
            (try simp only [Act.put, List.setIfInBounds_toArray, List.set_cons_zero, List.set_cons_succ])
            refine wpAnyH_takeL (i := 23) (v := .int .i64 ((xp : Int) + (X.size : Int))) rfl (by kernel_rfl) (by kernel_rfl) (by kernel_rfl) (fun _ _ _ h => h) (Or.inl ⟨by rfl, ?y24⟩) (by assumption) ?r24
            case y24 => (intro W hSw; (try dsimp only at hSw); first | (go_simp; done) | (go_simp; (rw [hwq.out])))
            (try simp only [Act.put, List.setIfInBounds_toArray, List.set_cons_zero, List.set_cons_succ])
            refine wpAnyH_takeL (i := 24) (v := .string X) rfl (by kernel_rfl) (by kernel_rfl) (by kernel_rfl) (fun _ _ _ h => h) (Or.inl ⟨by rfl, ?y25⟩) (by assumption) ?r25
            case y25 => (intro W hSw; (try dsimp only at hSw); first | (go_simp; done) | (go_simp; (simp [hsl])))
            (try simp only [Act.put, List.setIfInBounds_toArray, List.set_cons_zero, List.set_cons_succ])
            refine wpAnyH_takeL (i := 25) (v := ?v26) rfl (by kernel_rfl) (by kernel_rfl) (by kernel_rfl) (fun _ _ _ h => h) (Or.inl ⟨by rfl, ?y26⟩) (by assumption) ?r26
            case y26 => (intro W hSw; (try dsimp only at hSw); go_simp; try with_reducible rfl)
            (try simp only [Act.put, List.setIfInBounds_toArray, List.set_cons_zero, List.set_cons_succ])
            refine wpAnyH_takeL (i := 26) (v := ?v27) rfl (by kernel_rfl) (by kernel_rfl) (by kernel_rfl) (fun _ _ _ h => h) (Or.inl ⟨by rfl, ?y27⟩) (by assumption) ?r27
            case y27 => (intro W hSw; (try dsimp only at hSw); go_simp; try with_reducible rfl)
            (try simp only [Act.put, List.setIfInBounds_toArray, List.set_cons_zero, List.set_cons_succ])
            refine wpAnyH_takeL (i := 27) (v := ?v28) rfl (by kernel_rfl) (by kernel_rfl) (by kernel_rfl) (fun _ _ _ h => h) (Or.inl ⟨by rfl, ?y28⟩) (by assumption) ?r28
            case y28 => (intro W hSw; (try dsimp only at hSw); go_simp; try with_reducible rfl)
            (try simp only [Act.put, List.setIfInBounds_toArray, List.set_cons_zero, List.set_cons_succ])
            refine wpAnyH_takeL (i := 28) (v := ?v29) rfl (by kernel_rfl) (by kernel_rfl) (by kernel_rfl) (fun _ _ _ h => h) (Or.inl ⟨by rfl, ?y29⟩) (by assumption) ?r29
            case y29 => (intro W hSw; (try dsimp only at hSw); go_simp; try with_reducible rfl)
            (try simp only [Act.put, List.setIfInBounds_toArray, List.set_cons_zero, List.set_cons_succ])
            refine wpAnyH_done (by kernel_rfl) ?_ _
            go_wp2_with fail
            go_roundw
            case rel => exact ⟨k + 1, _, by go_num, rfl, by omega, s1, s2, hZ.out⟩
            case measure => simp [intOf]; omega
    · have hlI : ¬ (k : Int) < (m : Int) := by omega
      have hnm2 := hnm.out
      obtain rfl : k = m := by omega
      obtain ⟨b, LB, yb, hbl, hLB, hat⟩ := wrt_tokens (fun x hx => ⟨(hin.out x hx).fine, (hin.out x hx).bytes⟩) (show sb O = flat ts from by have := hO.out; unfold WrtAt at this; rw [this, List.take_of_length_le (by have := hmt.out; omega)]) T.size
      have HT2 := Lib.hid (fun W => tok_ok O n LB W (by omega) b _ yb rfl (by have := hmt.out; omega) hLB)
      rw [← hLA2.out] at hat
      have hat2 := Lib.hid (fun (j : Nat) (hj : j < n) => (show ∃ x y : Tk, LA[j]? = some x ∧ LB[j]? = some y ∧ y.k = x.k ∧ y.t = x.t from by
        have hl : LA.length = n := by rw [hLA2.out, List.length_append, List.length_singleton]; have := hmt.out; omega
        obtain ⟨y, h1, h2, h3⟩ := hat j LA[j] (List.getElem?_eq_getElem (by omega))
        exact ⟨_, y, List.getElem?_eq_getElem (by omega), h1, h2, h3⟩))
      clear yb hbl hLB hat hO hnm2
      go_wp2_with fail
      refine Calls.mono (HT2.out _) ?_
      rintro e w4 ⟨g2, d2, rfl, hd2, hg2, hA2, -, hB4⟩
      have hB5 := hB.trans ((hW.trans (hB4.mono hW.size)).mono hB.size)
      have hk2 := Lib.hid fun (W : World) (hW : Below w4.heap.size w4 W) => hA2 W (hW.block g2 hg2)
      have hk3 := Lib.hid fun (W : World) (hW4 : Below w4.heap.size w4 W) => hk1.out W ((hW.trans (hB4.mono hW.size)).trans (hW4.mono (by have := hW.size; have := hB4.size; omega)))
      clear HT2 hA2 hB4 hW hB hk1
      go_wp2_with fail
      go_loopw [15] (fun i wr => ∃ (j : Nat), i = .int .i64 (j : Int) ∧ j ≤ n ∧ Below w4.heap.size w4 wr) (fun i _ => n - (intOf i).toNat)
      case atStart => exact ⟨0, rfl, Nat.zero_le _, Below.refl _ _⟩
      case round =>
        obtain ⟨j, rfl, hj, hW⟩ := hrel
        by_cases hjl : j < n
        · have hjI : (j : Int) < (n : Int) := by omega
          obtain ⟨⟨xk, xt, xp⟩, ⟨yk, yt, yp⟩, ex, ey, e1, e2⟩ := hat2.out j hjl
          dsimp only at e1 e2
          subst e1 e2
          have hd : Below w4.heap.size w4 wr.drew := hW.drew
          obtain ⟨a1, a2, -⟩ := hk3.out _ hd j _ ex
          obtain ⟨b1, b2, -⟩ := hk2.out _ hd j _ ey
          dsimp only at a1 a2 b1 b2
          have hd' := Lib.hid hd
          replace hW := Lib.hid hW
          clear ex ey hd
          go_wp2_with fail
          refine wp_region_held_drew (S := fun W => W.cell? ⟨g1, j * 3, none⟩ = some (.int .i64 yk) ∧ W.cell? ⟨g1, j * 3 + 1, none⟩ = some (.string (strOfNums yt)) ∧ W.cell? ⟨g2, j * 3, none⟩ = some (.int .i64 yk) ∧ W.cell? ⟨g2, j * 3 + 1, none⟩ = some (.string (strOfNums yt))) (by kernel_rfl) (⟨a1, a2, b1, b2⟩) (fun hHeld => ?_)
          (try simp only [List.size_toArray, List.length_cons, List.length_nil, Nat.zero_add, Nat.reduceAdd])
          refine wpAnyH_takeL (i := 0) (v := ?v30) rfl (by kernel_rfl) (by kernel_rfl) (by kernel_rfl) (fun _ _ _ h => h) (Or.inl ⟨by rfl, ?y30⟩) (by assumption) ?r30
          case y30 => (intro W hSw; (try dsimp only at hSw); go_simp; try with_reducible rfl)
          (try simp only [Act.put, List.setIfInBounds_toArray, List.set_cons_zero, List.set_cons_succ])
          refine wpAnyH_takeL (i := 1) (v := ?v31) rfl (by kernel_rfl) (by kernel_rfl) (by kernel_rfl) (fun _ _ _ h => h) (Or.inl ⟨by rfl, ?y31⟩) (by assumption) ?r31
          case y31 => (intro W hSw; (try dsimp only at hSw); go_simp; try with_reducible rfl)
          (try simp only [Act.put, List.setIfInBounds_toArray, List.set_cons_zero, List.set_cons_succ])
          refine wpAnyH_takeL (i := 2) (v := ?v32) rfl (by kernel_rfl) (by kernel_rfl) (by kernel_rfl) (fun _ _ _ h => h) (Or.inl ⟨by rfl, ?y32⟩) (by assumption) ?r32
          case y32 => (intro W hSw; (try dsimp only at hSw); go_simp; try with_reducible rfl)
          (try simp only [Act.put, List.setIfInBounds_toArray, List.set_cons_zero, List.set_cons_succ])
          refine wpAnyH_takeL (i := 3) (v := ?v33) rfl (by kernel_rfl) (by kernel_rfl) (by kernel_rfl) (fun _ _ _ h => h) (Or.inl ⟨by rfl, ?y33⟩) (by assumption) ?r33
          case y33 => (intro W hSw; (try dsimp only at hSw); go_simp; try with_reducible rfl)
          (try simp only [Act.put, List.setIfInBounds_toArray, List.set_cons_zero, List.set_cons_succ])
          refine wpAnyH_takeL (i := 4) (v := ?v34) rfl (by kernel_rfl) (by kernel_rfl) (by kernel_rfl) (fun _ _ _ h => h) (Or.inl ⟨by rfl, ?y34⟩) (by assumption) ?r34
          case y34 => (intro W hSw; (try dsimp only at hSw); go_simp; try with_reducible rfl)
          (try simp only [Act.put, List.setIfInBounds_toArray, List.set_cons_zero, List.set_cons_succ])
          refine wpAnyH_takeL (i := 5) (v := ?v35) rfl (by kernel_rfl) (by kernel_rfl) (by kernel_rfl) (fun _ _ _ h => h) (Or.inl ⟨by rfl, ?y35⟩) (by assumption) ?r35
          case y35 => (intro W hSw; (try dsimp only at hSw); go_simp; try with_reducible rfl)
          (try simp only [Act.put, List.setIfInBounds_toArray, List.set_cons_zero, List.set_cons_succ])
          refine wpAnyH_takeL (i := 6) (v := ?v36) rfl (by kernel_rfl) (by kernel_rfl) (by kernel_rfl) (fun _ _ _ h => h) (Or.inl ⟨by rfl, ?y36⟩) (by assumption) ?r36
          case y36 => (intro W hSw; (try dsimp only at hSw); go_simp; try with_reducible rfl)
          (try simp only [Act.put, List.setIfInBounds_toArray, List.set_cons_zero, List.set_cons_succ])
          refine wpAnyH_takeL (i := 7) (v := ?v37) rfl (by kernel_rfl) (by kernel_rfl) (by kernel_rfl) (fun _ _ _ h => h) (Or.inl ⟨by rfl, ?y37⟩) (by assumption) ?r37
          case y37 => (intro W hSw; (try dsimp only at hSw); go_simp; try with_reducible rfl)
          (try simp only [Act.put, List.setIfInBounds_toArray, List.set_cons_zero, List.set_cons_succ])
          refine wpAnyH_takeL (i := 8) (v := ?v38) rfl (by kernel_rfl) (by kernel_rfl) (by kernel_rfl) (fun _ _ _ h => h) (Or.inl ⟨by rfl, ?y38⟩) (by assumption) ?r38
          case y38 => (intro W hSw; (try dsimp only at hSw); go_simp; try with_reducible rfl)
          (try simp only [Act.put, List.setIfInBounds_toArray, List.set_cons_zero, List.set_cons_succ])
          refine wpAnyH_takeL (i := 9) (v := ?v39) rfl (by kernel_rfl) (by kernel_rfl) (by kernel_rfl) (fun _ _ _ h => h) (Or.inl ⟨by rfl, ?y39⟩) (by assumption) ?r39
          case y39 => (intro W hSw; (try dsimp only at hSw); go_simp; try with_reducible rfl)
          (try simp only [Act.put, List.setIfInBounds_toArray, List.set_cons_zero, List.set_cons_succ])
          refine wpAnyH_takeL (i := 10) (v := ?v40) rfl (by kernel_rfl) (by kernel_rfl) (by kernel_rfl) (fun _ _ _ h => h) (Or.inl ⟨by rfl, ?y40⟩) (by assumption) ?r40
          case y40 => (intro W hSw; (try dsimp only at hSw); go_simp; try with_reducible rfl)
          (try simp only [Act.put, List.setIfInBounds_toArray, List.set_cons_zero, List.set_cons_succ])
          refine wpAnyH_takeL (i := 11) (v := ?v41) rfl (by kernel_rfl) (by kernel_rfl) (by kernel_rfl) (fun _ _ _ h => h) (Or.inl ⟨by rfl, ?y41⟩) (by assumption) ?r41
          case y41 => (intro W hSw; (try dsimp only at hSw); go_simp; try with_reducible rfl)
          (try simp only [Act.put, List.setIfInBounds_toArray, List.set_cons_zero, List.set_cons_succ])
          refine wpAnyH_takeL (i := 12) (v := ?v42) rfl (by kernel_rfl) (by kernel_rfl) (by kernel_rfl) (fun _ _ _ h => h) (Or.inl ⟨by rfl, ?y42⟩) (by assumption) ?r42
          case y42 => (intro W hSw; (try dsimp only at hSw); go_simp; try with_reducible rfl)
          (try simp only [Act.put, List.setIfInBounds_toArray, List.set_cons_zero, List.set_cons_succ])
          refine wpAnyH_takeL (i := 13) (v := ?v43) rfl (by kernel_rfl) (by kernel_rfl) (by kernel_rfl) (fun _ _ _ h => h) (Or.inl ⟨by rfl, ?y43⟩) (by assumption) ?r43
          case y43 => (intro W hSw; (try dsimp only at hSw); go_simp; try with_reducible rfl)
          (try simp only [Act.put, List.setIfInBounds_toArray, List.set_cons_zero, List.set_cons_succ])
          refine wpAnyH_takeL (i := 14) (v := ?v44) rfl (by kernel_rfl) (by kernel_rfl) (by kernel_rfl) (fun _ _ _ h => h) (Or.inl ⟨by rfl, ?y44⟩) (by assumption) ?r44
          case y44 => (intro W hSw; (try dsimp only at hSw); go_simp; try with_reducible rfl)
          (try simp only [Act.put, List.setIfInBounds_toArray, List.set_cons_zero, List.set_cons_succ])
          refine wpAnyH_takeL (i := 15) (v := ?v45) rfl (by kernel_rfl) (by kernel_rfl) (by kernel_rfl) (fun _ _ _ h => h) (Or.inl ⟨by rfl, ?y45⟩) (by assumption) ?r45
          case y45 => (intro W hSw; (try dsimp only at hSw); go_simp; try with_reducible rfl)
          (try simp only [Act.put, List.setIfInBounds_toArray, List.set_cons_zero, List.set_cons_succ])
          refine wpAnyH_takeL (i := 16) (v := ?v46) rfl (by kernel_rfl) (by kernel_rfl) (by kernel_rfl) (fun _ _ _ h => h) (Or.inl ⟨by rfl, ?y46⟩) (by assumption) ?r46
          case y46 => (intro W hSw; (try dsimp only at hSw); go_simp; try with_reducible rfl)
          (try simp only [Act.put, List.setIfInBounds_toArray, List.set_cons_zero, List.set_cons_succ])
          refine wpAnyH_takeL (i := 17) (v := ?v47) rfl (by kernel_rfl) (by kernel_rfl) (by kernel_rfl) (fun _ _ _ h => h) (Or.inl ⟨by rfl, ?y47⟩) (by assumption) ?r47
          case y47 => (intro W hSw; (try dsimp only at hSw); go_simp; try with_reducible rfl)
          (try simp only [Act.put, List.setIfInBounds_toArray, List.set_cons_zero, List.set_cons_succ])
          refine wpAnyH_takeL (i := 18) (v := ?v48) rfl (by kernel_rfl) (by kernel_rfl) (by kernel_rfl) (fun _ _ _ h => h) (Or.inl ⟨by rfl, ?y48⟩) (by assumption) ?r48
          case y48 => (intro W hSw; (try dsimp only at hSw); go_simp; try with_reducible rfl)
          (try simp only [Act.put, List.setIfInBounds_toArray, List.set_cons_zero, List.set_cons_succ])
          refine wpAnyH_takeL (i := 19) (v := ?v49) rfl (by kernel_rfl) (by kernel_rfl) (by kernel_rfl) (fun _ _ _ h => h) (Or.inl ⟨by rfl, ?y49⟩) (by assumption) ?r49
          case y49 => (intro W hSw; (try dsimp only at hSw); go_simp; try with_reducible rfl)
          (try simp only [Act.put, List.setIfInBounds_toArray, List.set_cons_zero, List.set_cons_succ])
          refine wpAnyH_takeL (i := 20) (v := ?v50) rfl (by kernel_rfl) (by kernel_rfl) (by kernel_rfl) (fun _ _ _ h => h) (Or.inl ⟨by rfl, ?y50⟩) (by assumption) ?r50
          case y50 => (intro W hSw; (try dsimp only at hSw); go_simp; try with_reducible rfl)
          (try simp only [Act.put, List.setIfInBounds_toArray, List.set_cons_zero, List.set_cons_succ])
          refine wpAnyH_takeL (i := 21) (v := ?v51) rfl (by kernel_rfl) (by kernel_rfl) (by kernel_rfl) (fun _ _ _ h => h) (Or.inl ⟨by rfl, ?y51⟩) (by assumption) ?r51
          case y51 => (intro W hSw; (try dsimp only at hSw); go_simp; try with_reducible rfl)
          (try simp only [Act.put, List.setIfInBounds_toArray, List.set_cons_zero, List.set_cons_succ])
          refine wpAnyH_takeL (i := 22) (v := ?v52) rfl (by kernel_rfl) (by kernel_rfl) (by kernel_rfl) (fun _ _ _ h => h) (Or.inl ⟨by rfl, ?y52⟩) (by assumption) ?r52
          case y52 => (intro W hSw; (try dsimp only at hSw); go_simp; try with_reducible rfl)
          (try simp only [Act.put, List.setIfInBounds_toArray, List.set_cons_zero, List.set_cons_succ])
          refine wpAnyH_takeL (i := 23) (v := ?v53) rfl (by kernel_rfl) (by kernel_rfl) (by kernel_rfl) (fun _ _ _ h => h) (Or.inl ⟨by rfl, ?y53⟩) (by assumption) ?r53
          case y53 => (intro W hSw; (try dsimp only at hSw); go_simp; try with_reducible rfl)
          (try simp only [Act.put, List.setIfInBounds_toArray, List.set_cons_zero, List.set_cons_succ])
          refine wpAnyH_done (by kernel_rfl) ?_ _
          go_wp2_with fail
          go_roundw
          case rel => exact ⟨j + 1, by go_num, by omega, hd'.out⟩
          case measure => simp [intOf]; omega
        · have hjI : ¬ (j : Int) < (n : Int) := by omega
          go_wp2_with fail
          refine Calls.mono (lives_any wr) ?_
          rintro e w6 ⟨rfl, hB6⟩
          have h6 := (hB5.trans (hW.mono hB5.size)).trans (hB6.mono (by have := hB5.size; have := hW.size; omega))
          go_wp2_with fail
          go_ret
          exact ⟨rfl, h6⟩
end Go.Proofs.Ytpeeekgfcofbkaa
