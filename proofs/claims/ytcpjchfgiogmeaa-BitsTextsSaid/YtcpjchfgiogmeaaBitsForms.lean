/-
  THE WALKS of the reference's Unary, Concat, Extract.
-/
import Derived.Test.YtcpjchfgiogmeaaBitsOps
import Derived.Test.YtcpjchfgiogmeaaBitsValue
namespace Go.Proofs.Ytcpjchfgiogmeaa
open Go.RowKit

theorem pow64 {n : Nat} (h : n ≤ 64) : 2 ^ n ≤ 18446744073709551616 := by
  have : 2 ^ n ≤ 2 ^ 64 := Nat.pow_le_pow_right (by decide) h
  omega
/-- Not (4) and Neg (5) -/
def unN (op n x : Nat) : Nat := if op = 4 then 2 ^ n - 1 - x else (2 ^ n - x) % 2 ^ n
def unS (op : Int) (u : Nat) (n : Int) : Nat × Int :=
  if op ≠ 4 ∧ op ≠ 5 then (0, 1) else if validE u n ≠ 0 then (0, validE u n) else (unN op.toNat n.toNat u, 0)
set_option maxHeartbeats 2000000 in
theorem bUnary_bad (op : Int) (u : Nat) (n : Int) (w : World) (h1 : op ≠ 4) (h2 : op ≠ 5) :
    Calls Try.prog 18 #[.int .i64 op, .int .u64 u, .int .i64 n] w (Num2 w (0, 1)) := by
  have t1 : (op != 4) = true := by simpa using h1
  have t2 : (op != 5) = true := by simpa using h2
  have t3 : (op == 4) = false := by simpa using h1
  have t4 : (op == 5) = false := by simpa using h2
  go_enter Try.func18, Try.ntmps18
  go_wp2
  go_ret2
  exact ⟨rfl, Below.refl _ _⟩
set_option maxHeartbeats 2000000 in
theorem bUnary_e1 (op : Int) (u : Nat) (n x : Int) (w : World) (h : op = 4 ∨ op = 5) (hx : x = 1 ∨ x = 5) (c : Calls Try.prog 14 #[.int .u64 u, .int .i64 n] w fun e w' => e = .returned (.int .i64 x) ∧ Below w.heap.size w w') :
    Calls Try.prog 18 #[.int .i64 op, .int .u64 u, .int .i64 n] w (Num2 w (0, x)) := by
  rcases h with rfl | rfl <;> rcases hx with rfl | rfl
  all_goals
    go_enter Try.func18, Try.ntmps18
    go_wp2_with (go_at_call 14; refine c.mono ?_; clear c; rintro e w1 ⟨rfl, hb1⟩)
    go_ret2
    exact ⟨rfl, hb1⟩
set_option maxHeartbeats 4000000 in
theorem bUnary_ok (op : Int) (u n : Nat) (w : World) (h : op = 4 ∨ op = 5) (h64 : n ≤ 64) (hu : u < 2 ^ n) (c : Calls Try.prog 14 #[.int .u64 u, .int .i64 n] w fun e w' => e = .returned (.int .i64 0) ∧ Below w.heap.size w w') :
    Calls Try.prog 18 #[.int .i64 op, .int .u64 u, .int .i64 n] w (Num2 w (unN op.toNat n u, 0)) := by
  have hp := pow64 h64
  have cB : ∀ W, Calls Try.prog 32 #[.int .u64 u, .int .i64 n] W fun e w' => GivesB W.heap.size W (bitsL n u) e w' := fun W => bBits_any u n W (by omega) h64
  have hl1 := bitsL_length n u
  have ho1 := ofL_bitsL n u
  rw [Nat.mod_eq_of_lt hu] at ho1
  generalize bitsL n u = a at cB hl1 ho1
  have hfl : (a.map (!·)).length = n := by rw [List.length_map, hl1]
  have hfo := ofL_flip a
  rw [hl1, ho1] at hfo
  have cF : ∀ W A d, RdB W W.heap.size A a → Calls Try.prog 34 #[.slice A n d] W fun e w' => GivesB W.heap.size W (a.map (!·)) e w' := fun W A d hr => bflip_any A n d a W hl1.symm (by omega) hr
  have hzl : (List.replicate n false).length = n := by simp
  have hzo : ofL (List.replicate n false) = 0 := by rw [ofL_replicate]; simp
  have cZ : ∀ W, Calls Try.prog 33 #[.int .i64 n] W fun e w' => GivesB W.heap.size W (List.replicate n false) e w' := fun W => bzero_any n W (by omega)
  have hpl : (plusL (a.map (!·)) (List.replicate n false) true).length = n := by rw [plusL_length _ _ _ (by rw [hfl, hzl]), hfl]
  have hpo := ofL_plus (a.map (!·)) (List.replicate n false) true (by rw [hfl, hzl])
  have cP : ∀ W A d A' d', RdB W W.heap.size A (a.map (!·)) → RdB W W.heap.size A' (List.replicate n false) → Calls Try.prog 40 #[.slice A n d, .slice A' n d', .bool true] W fun e w' => GivesB W.heap.size W (plusL (a.map (!·)) (List.replicate n false) true) e w' := fun W A d A' d' hr hr' =>
    bplus_any A A' n d n d' _ _ true W hfl.symm hzl.symm (by rw [hfl, hzl]) (by omega) hr hr'
  rw [hzo, hfl, Bool.toNat_true] at hpo
  generalize plusL (a.map (!·)) (List.replicate n false) true = pl at cP hpl hpo
  generalize a.map (!·) = fl at cF cP hfl hfo hpo
  generalize List.replicate n false = zl at cZ cP hzl hzo
  have HL1 := Lib.hid hl1
  have HFL := Lib.hid hfl
  have HZL := Lib.hid hzl
  have HPL := Lib.hid hpl
  rcases h with rfl | rfl
  · have hv : ofL fl = unN 4 n u := by unfold unN; rw [if_pos rfl]; omega
    have HV := Lib.hid hv
    clear hl1 hfl hzl hpl ho1 hfo hpo hzo hp hu cZ cP hv
    go_enter Try.func18, Try.ntmps18
    go_wp2_with (first
      | (go_at_call 14; refine c.mono ?_; clear c; rintro e w1 ⟨rfl, hb1⟩)
      | (go_at_call 32; refine (cB w1).mono ?_; clear cB; rintro e w3 ⟨A, d, rfl, hrow3, hb3⟩; rw [HL1.out] at hrow3 ⊢; have hr3 := rdb_own hrow3)
      | (go_at_call 34; refine (cF w3 A d hr3).mono ?_; clear cF; rintro e w4 ⟨A4, d4, rfl, hrow4, hb4⟩; rw [HFL.out] at hrow4 ⊢; have hr4 := rdb_own hrow4)
      | (go_at_call 36; refine (bOf_at HFL.out h64 w4 A4 d4 hr4).mono ?_; rintro e w6 ⟨rfl, rfl⟩))
    go_ret2
    have s1 := hb1.size
    have s3 := hb3.size
    exact ⟨by rw [HV.out]; rfl, (hb1.trans (hb3.mono s1)).trans (hb4.mono (by omega))⟩
  · have hv : ofL pl = unN 5 n u := by
      unfold unN
      rw [if_neg (by decide), hpo]
      congr 1
      omega
    have HV := Lib.hid hv
    clear hl1 hfl hzl hpl ho1 hfo hpo hzo hp hu hv
    go_enter Try.func18, Try.ntmps18
    go_wp2_with (first
      | (go_at_call 14; refine c.mono ?_; clear c; rintro e w1 ⟨rfl, hb1⟩)
      | (go_at_call 32; refine (cB w1).mono ?_; clear cB; rintro e w3 ⟨A, d, rfl, hrow3, hb3⟩; rw [HL1.out] at hrow3 ⊢; have hr3 := rdb_own hrow3)
      | (go_at_call 34; refine (cF w3 A d hr3).mono ?_; clear cF; rintro e w4 ⟨A4, d4, rfl, hrow4, hb4⟩; rw [HFL.out] at hrow4 ⊢; have hr4 := rdb_own hrow4)
      | (go_at_call 33; refine (cZ w4).mono ?_; clear cZ; rintro e w5 ⟨A5, d5, rfl, hrow5, hb5⟩; rw [HZL.out] at hrow5 ⊢; have hr5 := rdb_own hrow5; have hr45 := (hr4.below hb5).mono hb5.size)
      | (go_at_call 40; refine (cP w5 A4 d4 A5 d5 hr45 hr5).mono ?_; clear cP; rintro e w6 ⟨A6, d6, rfl, hrow6, hb6⟩; rw [HPL.out] at hrow6 ⊢; have hr6 := rdb_own hrow6)
      | (go_at_call 36; refine (bOf_at HPL.out h64 w6 A6 d6 hr6).mono ?_; rintro e w7 ⟨rfl, rfl⟩))
    go_ret2
    have s1 := hb1.size
    have s3 := hb3.size
    have s4 := hb4.size
    have s5 := hb5.size
    exact ⟨by rw [HV.out]; rfl, (((hb1.trans (hb3.mono s1)).trans (hb4.mono (by omega))).trans (hb5.mono (by omega))).trans (hb6.mono (by omega))⟩
theorem bUnary_any (op : Int) (u : Nat) (n : Int) (w : World) (hu : u < 18446744073709551616) :
    Calls Try.prog 18 #[.int .i64 op, .int .u64 u, .int .i64 n] w (Num2 w (unS op u n)) := by
  unfold unS
  by_cases h : op ≠ 4 ∧ op ≠ 5
  · rw [if_pos h]
    exact bUnary_bad op u n w h.1 h.2
  · rw [if_neg h]
    have h' : op = 4 ∨ op = 5 := by omega
    have c1 := bValid_any u n w hu
    by_cases e1 : validE u n = 0
    · rw [if_neg (by simp [e1])]
      rw [e1] at c1
      obtain ⟨m, rfl, h64, hu2⟩ := validE_zero e1
      rw [Int.toNat_natCast]
      exact bUnary_ok op u (m + 1) w h' h64 hu2 c1
    · rw [if_pos e1]
      exact bUnary_e1 op u n _ w h' ((validE_vals u n).resolve_left e1) c1

/-- Concat(a, v, b, n) -/
def catS (a : Nat) (v : Int) (b : Nat) (n : Int) : Nat × Int :=
  if validE a v ≠ 0 then (0, validE a v) else if validE b n ≠ 0 then (0, validE b n) else if 64 < v + n then (0, 1) else (b + 2 ^ n.toNat * a, 0)
set_option maxHeartbeats 2000000 in
theorem bConcat_e1 (a b : Nat) (v n x : Int) (w : World) (hx : x = 1 ∨ x = 5) (c : Calls Try.prog 14 #[.int .u64 a, .int .i64 v] w fun e w' => e = .returned (.int .i64 x) ∧ Below w.heap.size w w') :
    Calls Try.prog 21 #[.int .u64 a, .int .i64 v, .int .u64 b, .int .i64 n] w (Num2 w (0, x)) := by
  rcases hx with rfl | rfl
  all_goals
    go_enter Try.func21, Try.ntmps21
    go_wp2_with (go_at_call 14; refine c.mono ?_; clear c; rintro e w1 ⟨rfl, hb1⟩)
    go_ret2
    exact ⟨rfl, hb1⟩
set_option maxHeartbeats 2000000 in
theorem bConcat_e2 (a b : Nat) (v n x : Int) (w : World) (hx : x = 1 ∨ x = 5) (c : Calls Try.prog 14 #[.int .u64 a, .int .i64 v] w fun e w' => e = .returned (.int .i64 0) ∧ Below w.heap.size w w') (c2 : ∀ W, Calls Try.prog 14 #[.int .u64 b, .int .i64 n] W fun e w' => e = .returned (.int .i64 x) ∧ Below W.heap.size W w') :
    Calls Try.prog 21 #[.int .u64 a, .int .i64 v, .int .u64 b, .int .i64 n] w (Num2 w (0, x)) := by
  rcases hx with rfl | rfl
  all_goals
    have tok1 : True := trivial
    go_enter Try.func21, Try.ntmps21
    go_wp2_with (first
      | (go_at_call 14; have _t := tok1; refine c.mono ?_; clear c tok1; rintro e w1 ⟨rfl, hb1⟩; have tok2 : True := trivial)
      | (go_at_call 14; have _t := tok2; refine (c2 w1).mono ?_; clear c2; rintro e w2 ⟨rfl, hb2⟩))
    go_ret2
    exact ⟨rfl, hb1.trans (hb2.mono hb1.size)⟩
set_option maxHeartbeats 4000000 in
theorem bConcat_ok (a b v n : Nat) (w : World) (hv : 1 ≤ v) (hn : 1 ≤ n) (hv64 : v ≤ 64) (hn64 : n ≤ 64) (ha : a < 2 ^ v) (hb : b < 2 ^ n) (c : Calls Try.prog 14 #[.int .u64 a, .int .i64 v] w fun e w' => e = .returned (.int .i64 0) ∧ Below w.heap.size w w') (c2 : ∀ W, Calls Try.prog 14 #[.int .u64 b, .int .i64 n] W fun e w' => e = .returned (.int .i64 0) ∧ Below W.heap.size W w') :
    Calls Try.prog 21 #[.int .u64 a, .int .i64 v, .int .u64 b, .int .i64 n] w (Num2 w (if 64 < (v : Int) + n then (0, 1) else (b + 2 ^ n * a, 0))) := by
  have tok1 : True := trivial
  by_cases h64 : 64 < (v : Int) + n
  · rw [if_pos h64]
    go_enter Try.func21, Try.ntmps21
    go_wp2_with (first
      | (go_at_call 14; have _t := tok1; refine c.mono ?_; clear c tok1; rintro e w1 ⟨rfl, hb1⟩; have tok2 : True := trivial)
      | (go_at_call 14; have _t := tok2; refine (c2 w1).mono ?_; clear c2; rintro e w2 ⟨rfl, hb2⟩))
    go_ret2
    exact ⟨rfl, hb1.trans (hb2.mono hb1.size)⟩
  · rw [if_neg h64]
    obtain ⟨i0, hi, hz0, hz1, hz2⟩ := info_parts info_bool
    have hp1 := pow64 hv64
    have hp2 := pow64 hn64
    have cB1 : ∀ W, Calls Try.prog 32 #[.int .u64 b, .int .i64 n] W fun e w' => GivesB W.heap.size W (bitsL n b) e w' := fun W => bBits_any b n W (by omega) hn64
    have cB2 : ∀ W, Calls Try.prog 32 #[.int .u64 a, .int .i64 v] W fun e w' => GivesB W.heap.size W (bitsL v a) e w' := fun W => bBits_any a v W (by omega) hv64
    have hl1 := bitsL_length n b
    have hl2 := bitsL_length v a
    have ho1 := ofL_bitsL n b
    have ho2 := ofL_bitsL v a
    rw [Nat.mod_eq_of_lt hb] at ho1
    rw [Nat.mod_eq_of_lt ha] at ho2
    generalize bitsL n b = lb at cB1 hl1 ho1
    generalize bitsL v a = la at cB2 hl2 ho2
    have hcl : (lb ++ la).length = n + v := by rw [List.length_append, hl1, hl2]
    have hco := ofL_append lb la
    rw [hl1, ho1, ho2] at hco
    have HO := Lib.hid hco
    have HL1 := Lib.hid hl1
    have HL2 := Lib.hid hl2
    have HCL := Lib.hid hcl
    have hs64 : n + v ≤ 64 := by omega
    clear hl1 hl2 ho1 ho2 hcl hco hp1 hp2 ha hb
    go_enter Try.func21, Try.ntmps21
    go_wp2_with (first
      | (go_at_call 14; have _t := tok1; refine c.mono ?_; clear c tok1; rintro e w1 ⟨rfl, hb1⟩; have tok2 : True := trivial)
      | (go_at_call 14; have _t := tok2; refine (c2 w1).mono ?_; clear c2 tok2; rintro e w2 ⟨rfl, hb2⟩; have tok3 : True := trivial)
      | (go_at_call 32; have _t := tok3; refine (cB1 w2).mono ?_; clear cB1 tok3; rintro e w3 ⟨A, d, rfl, hrow3, hb3⟩; rw [HL1.out] at hrow3 ⊢; have tok4 : True := trivial)
      | (go_at_call 32; have _t := tok4; refine (cB2 w3).mono ?_; clear cB2 tok4; rintro e w4 ⟨A', d', rfl, hrow4, hb4⟩; rw [HL2.out] at hrow4 ⊢; have hrow34 := own_below hrow3 hb4; have hr4 := rdb_own hrow4)
      | (at_builtin; refine wpList_append_b _ rfl (.tmp 30) (.tmp 33) 52 rfl w2.heap.size 4 i0 (.bool false) 1 1 Try.underlying52 hi hz0 hz1 hz2 rfl rfl (by decide) _ n _ rfl hrow34 A' v d' la rfl HL2.out.symm (own_none hrow4) (by rw [HL2.out]; exact own_cap hrow4) hr4 (by unfold maxLen; omega) (by omega) (Nat.le_trans hb3.size hb4.size) ?_; intro v5 w5 hown5 hgrow5; rw [← List.map_append] at hown5; obtain ⟨A5, d5, rfl⟩ := sl_own hown5; have hr5 := rdb_own hown5)
      | (go_at_call 36; refine (bOf_at HCL.out hs64 w5 A5 d5 hr5).mono ?_; rintro e w7 ⟨rfl, rfl⟩; rw [HO.out]))
    go_ret2
    have s1 := hb1.size
    have s2 := hb2.size
    have s3 := hb3.size
    have s4 := hb4.size
    exact ⟨rfl, (((hb1.trans (hb2.mono s1)).trans (hb3.mono (by omega))).trans (hb4.mono (by omega))).grown hgrow5 (by omega) (fun j ej => by have := (hrow34.lt j ej).1; omega)⟩
end Go.Proofs.Ytcpjchfgiogmeaa
