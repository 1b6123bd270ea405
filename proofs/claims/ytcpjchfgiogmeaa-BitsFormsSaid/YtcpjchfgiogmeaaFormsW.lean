/-
  THE WALK of the law on the forms (P3.3).
-/
import Derived.Test.YtcpjchfgiogmeaaOpsW
namespace Go.Proofs.Ytcpjchfgiogmeaa
open Go.RowKit

theorem rem_at (k m : Nat) (M : Int) (hM : M = m) (hm : 1 ≤ m) : ∃ p : Nat, p < m ∧ ((p : Int) < M) ∧ (0 : Int) ≤ p ∧ (k : Int).tmod M = p := by
  subst hM
  exact ⟨k % m, Nat.mod_lt _ hm, Int.ofNat_lt.2 (Nat.mod_lt _ hm), Int.natCast_nonneg _, by rw [Int.tmod_eq_emod_of_nonneg (Int.natCast_nonneg _)]; simp⟩
theorem quo_at (k m n : Nat) (M N : Int) (hM : M = m) (hN : N = n) (h : k < m * n) (hn : n ≤ 1000000) : ∃ q : Nat, q < n ∧ ((q : Int) < N) ∧ (0 : Int) ≤ q ∧ IntKind.i64.wrap ((k : Int) / M) = q := by
  subst hM hN
  have hlt : k / m < n := Nat.div_lt_of_lt_mul h
  refine ⟨k / m, hlt, Int.ofNat_lt.2 hlt, Int.natCast_nonneg _, ?_⟩
  have e : (k : Int) / m = ((k / m : Nat) : Int) := by simp
  rw [e]
  generalize k / m = q at *
  simp [IntKind.wrap, IntKind.bits, IntKind.signed]
  omega
/-- a list of numbers (block g) that lies as it was -/
def NumAt (g a : Nat) (f : Nat → Int) (wr : World) : Prop := g < wr.heap.size ∧ ∀ j, j < a → wr.cell? ⟨g, j, none⟩ = some (.int .i64 (f j))
theorem NumAt.on {g a : Nat} {f : Nat → Int} {wr w' : World} (h : NumAt g a f wr) (hb : Below wr.heap.size wr w') : NumAt g a f w' :=
  ⟨Nat.lt_of_lt_of_le h.1 hb.size, fun j hj => (hb.cell (p := ⟨g, j, none⟩) h.1).trans (h.2 j hj)⟩
theorem num_new (W : World) (l : List Int) (C : Array Value) (hC : C = (l.map (Value.int .i64)).toArray) : NumAt W.heap.size l.length (fun j => l[j]?.getD 0) (W.alloc (.cells C 3)) := by
  subst hC
  refine ⟨by simp, fun j hj => ?_⟩
  rw [World.cell?_alloc_mark]
  simp [hj]
set_option maxRecDepth 100000 in
set_option maxHeartbeats 8000000 in
theorem forms_walk (n m u s a b kh kl km : Nat) (nn mm hi lo more : Int) (w : World) (hn1 : 1 ≤ n) (hn : n ≤ 64) (_ : Hid (kh ≤ n)) (_ : Hid (kl ≤ n)) (hkm : Hid (km < 64)) (_ : Hid (I64 hi)) (_ : Hid (I64 lo)) (hu : Hid (u < 18446744073709551616)) (ha : Hid (a < 18446744073709551616)) (hb : Hid (b < 18446744073709551616))
    (cW : ∀ W, Calls Try.prog 11 #[.int .i64 nn] W (GivesV W (.int .i64 n)))
    (cM : ∀ W, Calls Try.prog 11 #[.int .i64 mm] W (GivesV W (.int .i64 m)))
    (cA : ∀ W, Calls Try.prog 12 #[.int .u64 u, .int .i64 n] W (GivesV W (.int .u64 a)))
    (cB : ∀ W, Calls Try.prog 12 #[.int .u64 s, .int .i64 m] W (GivesV W (.int .u64 b)))
    (cH : ∀ (W : World) (q0 : Int), q0 = (n : Int) + 1 → Calls Try.prog 22 #[.int .i64 hi, .int .i64 q0] W (GivesV W (.int .i64 kh)))
    (cL : ∀ (W : World) (q0 : Int), q0 = (n : Int) + 1 → Calls Try.prog 22 #[.int .i64 lo, .int .i64 q0] W (GivesV W (.int .i64 kl)))
    (cR : ∀ (W : World) (q0 : Int), q0 = 64 → Calls Try.prog 22 #[.int .i64 more, .int .i64 q0] W (GivesV W (.int .i64 km)))
    : Calls Try.prog 4 #[.int .i64 nn, .int .i64 mm, .int .u64 u, .int .u64 s, .int .i64 hi, .int .i64 lo, .int .i64 more] w (TruePost w) := by
  go_enter Try.func4, Try.ntmps4
  go_wp2_with (first
    | (go_at_call 11; refine (cW _).mono ?_; clear cW; rintro e w1 ⟨rfl, hb1⟩)
    | (go_at_call 11; refine (cM _).mono ?_; clear cM; rintro e w2 ⟨rfl, hb2⟩)
    | (go_at_call 12; refine (cA _).mono ?_; clear cA; rintro e w3 ⟨rfl, hb3⟩)
    | (go_at_call 12; refine (cB _).mono ?_; clear cB; rintro e w4 ⟨rfl, hb4⟩))
  obtain ⟨ws, vs, hvl, hL⟩ : ∃ (ws : Nat → Int) (vs : Nat → Nat), Hid (∀ j, vs j < 18446744073709551616) ∧ OpsMem w (w4.heap.size + 1) w4.heap.size 5 3 ws vs ((w4.alloc (.cells #[.int .u64 a, .int .u64 b, .int .u64 u] 22)).alloc (.cells #[.int .i64 n, .int .i64 m, .int .i64 (64 - n), .int .i64 nn, .int .i64 0] 3)) := by
    refine ⟨fun j => if j = 0 then n else if j = 1 then m else if j = 2 then 64 - n else if j = 3 then nn else 0, fun j => if j = 0 then a else if j = 1 then b else u, Lib.hid fun j => ?_, ?_⟩
    · dsimp only
      split
      · exact ha.out
      · split
        · exact hb.out
        · exact hu.out
    · have d4 := ((hb1.trans (hb2.mono hb1.size)).trans (hb3.mono (hb1.trans (hb2.mono hb1.size)).size)).trans (hb4.mono (by have := hb1.size; have := hb2.size; have := hb3.size; omega))
      have s4 := d4.size
      have hA := d4.alloc s4 (.cells #[.int .u64 a, .int .u64 b, .int .u64 u] 22)
      have hB := hA.alloc (by simp; omega) (.cells #[.int .i64 n, .int .i64 m, .int .i64 (64 - n), .int .i64 nn, .int .i64 0] 3)
      have hC := new_b (w4.alloc (.cells #[.int .u64 a, .int .u64 b, .int .u64 u] 22)) (.cells #[.int .i64 n, .int .i64 m, .int .i64 (64 - n), .int .i64 nn, .int .i64 0] 3)
      refine ⟨hB, by omega, by simp, s4, by simp; omega, fun j hj => ?_, fun j hj => ?_⟩
      · have e := World.cell?_alloc_mark (w4.alloc (.cells #[.int .u64 a, .int .u64 b, .int .u64 u] 22)) #[.int .i64 n, .int .i64 m, .int .i64 (64 - n), .int .i64 nn, .int .i64 0] 3 (0, 0) j
        rw [show (w4.alloc (.cells #[.int .u64 a, .int .u64 b, .int .u64 u] 22)).heap.size = w4.heap.size + 1 by simp] at e
        rw [e]
        have : j = 0 ∨ j = 1 ∨ j = 2 ∨ j = 3 ∨ j = 4 := by omega
        rcases this with rfl | rfl | rfl | rfl | rfl <;> rfl
      · rw [hC.cell (p := ⟨w4.heap.size, j, none⟩) (by simp), World.cell?_alloc_mark]
        have : j = 0 ∨ j = 1 ∨ j = 2 := by omega
        rcases this with rfl | rfl | rfl <;> rfl
  clear hb1 hb2 hb3 hb4
  generalize w4.heap.size + 1 = g2 at hL ⊢
  generalize w4.heap.size = g1 at hL ⊢
  go_loopw [19] (fun i wr => ∃ j : Nat, j ≤ 5 ∧ i = .int .i64 j ∧ OpsMem w g2 g1 5 3 ws vs wr) (fun i _ => 5 - (intOf i).toNat)
  case atStart => exact ⟨0, by omega, rfl, hL⟩
  case round =>
    clear hL
    obtain ⟨j, hj, rfl, hr⟩ := hrel
    by_cases hj5 : j < 5
    · go_wp2
      rw [show decide ((j : Int) < 5) = true by simp; omega]
      obtain ⟨wo, rfl⟩ : ∃ wo : World, wo = wr := ⟨_, rfl⟩
      go_loopw [20] (fun i wr => ∃ k : Nat, k ≤ 9 ∧ i = .int .i64 k ∧ OpsMem w g2 g1 5 3 ws vs wr) (fun i _ => 9 - (intOf i).toNat)
      case atStart => exact ⟨0, by omega, rfl, hr⟩
      case round =>
        clear hr
        obtain ⟨k, hk, rfl, hr⟩ := hrel
        by_cases hk9 : k < 9
        · obtain ⟨p, hp, hp1, hp0, tp⟩ := rem_at k 3 3 rfl (by decide)
          obtain ⟨q, hq, hq1, hq0, tq⟩ := quo_at k 3 3 3 3 rfl rfl hk9 (by decide)
          have hj0 : (0 : Int) ≤ (j : Int) := by omega
          have hj1 : (j : Int) < 5 := by omega
          have X0 := hr.v (j := p) hp
          have Y0 := hr.v (j := q) hq
          have Z0 := hr.w (j := j) hj5
          have hx := hvl.out p
          have hy := hvl.out q
          have hon := fun W (h : OpsMem w g2 g1 5 3 ws vs W) => (⟨h.v (j := p) hp, h.v (j := q) hq, h.w (j := j) hj5⟩ : W.cell? ⟨g1, p, none⟩ = some (.int .u64 (vs p)) ∧ W.cell? ⟨g1, q, none⟩ = some (.int .u64 (vs q)) ∧ W.cell? ⟨g2, j, none⟩ = some (.int .i64 (ws j)))
          generalize hX : vs p = x at X0 hx hon
          generalize hY : vs q = y at Y0 hy hon
          generalize ws j = z at Z0 hon
          clear hX hY
          have c1 : ∀ W, Calls Try.prog 20 #[.int .u64 x, .int .i64 n, .int .u64 y, .int .i64 z] W (GivesV W (.tuple #[.int .u64 ((catS x n y z).1 : Nat), .int .i64 (catS x n y z).2])) := fun W => pConcat_any x n y z W hx hy
          have c2 : ∀ W, Calls Try.prog 21 #[.int .u64 x, .int .i64 n, .int .u64 y, .int .i64 z] W (GivesV W (.tuple #[.int .u64 ((catS x n y z).1 : Nat), .int .i64 (catS x n y z).2])) := fun W => bConcat_any x y n z W hx hy
          generalize catS x n y z = r at c1 c2
          clear hx hy
          have X := Lib.hid X0
          have Y := Lib.hid Y0
          have Z := Lib.hid Z0
          have g1l := hr.2.2.2.2.1
          have g2l := hr.2.2.1
          have hP := fun W (hW : Below wr.heap.size wr W) => cum (c1 W) hW
          clear X0 Y0 Z0 c1
          go_wp2
          go_region_held3 (fun w' => w'.cell? ⟨g1, p, none⟩ = some (.int .u64 x) ∧ w'.cell? ⟨g1, q, none⟩ = some (.int .u64 y) ∧ w'.cell? ⟨g2, j, none⟩ = some (.int .i64 z) ∧ Below wr.heap.size wr w')
            (first | exact ⟨X.out, Y.out, Z.out, (Below.refl _ _).drew⟩ | exact ⟨(Below.cell (p := ⟨g1, p, none⟩) (by assumption) g1l).trans X.out, (Below.cell (p := ⟨g1, q, none⟩) (by assumption) g1l).trans Y.out, (Below.cell (p := ⟨g2, j, none⟩) (by assumption) g2l).trans Z.out, by assumption⟩)
            (first
              | (go_at_call 20; ((with_reducible refine Calls.mono (hP _ ?_) ?_); focus (go_split_ands; assumption)); rintro e w' ⟨rfl, hb⟩))
          have hr1 := ops_on hr hb
          have X := Lib.hid (hon _ hr1).1
          have Y := Lib.hid (hon _ hr1).2.1
          have Z := Lib.hid (hon _ hr1).2.2
          have g1l := hr1.2.2.2.2.1
          have g2l := hr1.2.2.1
          clear hP hb
          obtain ⟨wq, rfl⟩ : ∃ wq : World, wq = w' := ⟨_, rfl⟩
          have hP := fun W (hW : Below wq.heap.size wq W) => cum (c2 W) hW
          clear c2
          go_wp2
          go_region_held3 (fun w' => w'.cell? ⟨g1, p, none⟩ = some (.int .u64 x) ∧ w'.cell? ⟨g1, q, none⟩ = some (.int .u64 y) ∧ w'.cell? ⟨g2, j, none⟩ = some (.int .i64 z) ∧ Below wq.heap.size wq w')
            (first | exact ⟨X.out, Y.out, Z.out, (Below.refl _ _).drew⟩ | exact ⟨(Below.cell (p := ⟨g1, p, none⟩) (by assumption) g1l).trans X.out, (Below.cell (p := ⟨g1, q, none⟩) (by assumption) g1l).trans Y.out, (Below.cell (p := ⟨g2, j, none⟩) (by assumption) g2l).trans Z.out, by assumption⟩)
            (first
              | (go_at_call 21; ((with_reducible refine Calls.mono (hP _ ?_) ?_); focus (go_split_ands; assumption)); rintro e w' ⟨rfl, hb⟩))
          have hr2 := ops_on hr1 hb
          clear hP hb tp tq
          go_wp2
          go_roundw
          case rel => exact ⟨k + 1, by omega, by congr 1 <;> omega, hr2⟩
          case measure => simp [intOf]; omega
        · have tok1 : True := trivial
          go_wp2_with (first
            | (go_at_call 22; have _t := tok1; refine (cH _ _ (by omega)).mono ?_; clear tok1; rintro e w5 ⟨rfl, hb5⟩; have tok2 : True := trivial)
            | (go_at_call 22; have _t := tok2; refine (cL _ _ (by omega)).mono ?_; clear tok2; rintro e w6 ⟨rfl, hb6⟩))
          have hr6 := ops_on (ops_on hr hb5) hb6
          have hr7 := ops_on hr6 (new_b w6 (.cells #[.int .i64 kh, .int .i64 kl, .int .i64 hi, .int .i64 lo, .int .i64 ((n : Int) - 1), .int .i64 0, .int .i64 (-1)] 3))
          obtain ⟨nf, hnum⟩ : ∃ nf : Nat → Int, NumAt w6.heap.size 7 nf (w6.alloc (.cells #[.int .i64 kh, .int .i64 kl, .int .i64 hi, .int .i64 lo, .int .i64 ((n : Int) - 1), .int .i64 0, .int .i64 (-1)] 3)) := ⟨_, num_new w6 [kh, kl, hi, lo, (n : Int) - 1, 0, -1] _ rfl⟩
          clear hr hr6 hb5 hb6
          generalize w6.heap.size = g3 at hnum ⊢
          go_loopw [26] (fun i wr => ∃ k : Nat, k ≤ 49 ∧ i = .int .i64 k ∧ OpsMem w g2 g1 5 3 ws vs wr ∧ NumAt g3 7 nf wr) (fun i _ => 49 - (intOf i).toNat)
          case atStart => exact ⟨0, by omega, rfl, hr7, hnum⟩
          case round =>
            clear hr7 hnum
            obtain ⟨k, hk, rfl, hr⟩ := hrel
            by_cases hk9 : k < 49
            · obtain ⟨pk, hpk, hpk1, hpk0, tpk⟩ := rem_at k 7 7 rfl (by decide)
              obtain ⟨qk, hqk, hqk1, hqk0, tqk⟩ := quo_at k 7 7 7 7 rfl rfl hk9 (by decide)
              obtain ⟨p3, hp3, hp31, hp30, tp3⟩ := rem_at j 3 3 rfl (by decide)
              have hj0 : (0 : Int) ≤ (j : Int) := by omega
              have hj1 : (j : Int) < 5 := by omega
              have X0 := hr.1.v (j := p3) hp3
              have Z0 := hr.1.w (j := j) hj5
              have hx := hvl.out p3
              have P0 := hr.2.2 pk hpk
              have Q0 := hr.2.2 qk hqk
              have hon := fun W (h : OpsMem w g2 g1 5 3 ws vs W ∧ NumAt g3 7 nf W) => (⟨h.1.v (j := p3) hp3, h.1.w (j := j) hj5, h.2.2 pk hpk, h.2.2 qk hqk⟩ : W.cell? ⟨g1, p3, none⟩ = some (.int .u64 (vs p3)) ∧ W.cell? ⟨g2, j, none⟩ = some (.int .i64 (ws j)) ∧ W.cell? ⟨g3, pk, none⟩ = some (.int .i64 (nf pk)) ∧ W.cell? ⟨g3, qk, none⟩ = some (.int .i64 (nf qk)))
              generalize hX : vs p3 = x at X0 hx hon
              generalize ws j = z at Z0 hon
              generalize hNp : nf pk = p at P0 hon
              generalize hNq : nf qk = q at Q0 hon
              clear hX hNp hNq
              have c1 : ∀ W, Calls Try.prog 23 #[.int .u64 x, .int .i64 z, .int .i64 p, .int .i64 q] W (GivesV W (.tuple #[.int .u64 ((extS x z p q).1 : Nat), .int .i64 (extS x z p q).2])) := fun W => pExtract_any x z p q W hx
              have c2 : ∀ W, Calls Try.prog 24 #[.int .u64 x, .int .i64 z, .int .i64 p, .int .i64 q] W (GivesV W (.tuple #[.int .u64 ((extS x z p q).1 : Nat), .int .i64 (extS x z p q).2])) := fun W => bExtract_any x z p q W hx
              generalize extS x z p q = r at c1 c2
              clear hx
              have X := Lib.hid X0
              have Z := Lib.hid Z0
              have P := Lib.hid P0
              have Q := Lib.hid Q0
              have g1l := hr.1.2.2.2.2.1
              have g2l := hr.1.2.2.1
              have g3l := hr.2.1
              have hP := fun W (hW : Below wr.heap.size wr W) => cum (c1 W) hW
              clear X0 Z0 P0 Q0 c1
              go_wp2
              go_region_held3 (fun w' => w'.cell? ⟨g1, p3, none⟩ = some (.int .u64 x) ∧ w'.cell? ⟨g2, j, none⟩ = some (.int .i64 z) ∧ w'.cell? ⟨g3, pk, none⟩ = some (.int .i64 p) ∧ w'.cell? ⟨g3, qk, none⟩ = some (.int .i64 q) ∧ Below wr.heap.size wr w')
                (first | exact ⟨X.out, Z.out, P.out, Q.out, (Below.refl _ _).drew⟩ | exact ⟨(Below.cell (p := ⟨g1, p3, none⟩) (by assumption) g1l).trans X.out, (Below.cell (p := ⟨g2, j, none⟩) (by assumption) g2l).trans Z.out, (Below.cell (p := ⟨g3, pk, none⟩) (by assumption) g3l).trans P.out, (Below.cell (p := ⟨g3, qk, none⟩) (by assumption) g3l).trans Q.out, by assumption⟩)
                (first
                  | (go_at_call 23; ((with_reducible refine Calls.mono (hP _ ?_) ?_); focus (go_split_ands; assumption)); rintro e w' ⟨rfl, hb⟩))
              have hr1 := And.intro (ops_on hr.1 hb) (hr.2.on hb)
              have X := Lib.hid (hon _ hr1).1
              have Z := Lib.hid (hon _ hr1).2.1
              have P := Lib.hid (hon _ hr1).2.2.1
              have Q := Lib.hid (hon _ hr1).2.2.2
              have g1l := hr1.1.2.2.2.2.1
              have g2l := hr1.1.2.2.1
              have g3l := hr1.2.1
              clear hP hb
              obtain ⟨wq, rfl⟩ : ∃ wq : World, wq = w' := ⟨_, rfl⟩
              have hP := fun W (hW : Below wq.heap.size wq W) => cum (c2 W) hW
              clear c2
              go_wp2
              go_region_held3 (fun w' => w'.cell? ⟨g1, p3, none⟩ = some (.int .u64 x) ∧ w'.cell? ⟨g2, j, none⟩ = some (.int .i64 z) ∧ w'.cell? ⟨g3, pk, none⟩ = some (.int .i64 p) ∧ w'.cell? ⟨g3, qk, none⟩ = some (.int .i64 q) ∧ Below wq.heap.size wq w')
                (first | exact ⟨X.out, Z.out, P.out, Q.out, (Below.refl _ _).drew⟩ | exact ⟨(Below.cell (p := ⟨g1, p3, none⟩) (by assumption) g1l).trans X.out, (Below.cell (p := ⟨g2, j, none⟩) (by assumption) g2l).trans Z.out, (Below.cell (p := ⟨g3, pk, none⟩) (by assumption) g3l).trans P.out, (Below.cell (p := ⟨g3, qk, none⟩) (by assumption) g3l).trans Q.out, by assumption⟩)
                (first
                  | (go_at_call 24; ((with_reducible refine Calls.mono (hP _ ?_) ?_); focus (go_split_ands; assumption)); rintro e w' ⟨rfl, hb⟩))
              have hr2 := And.intro (ops_on hr1.1 hb) (hr1.2.on hb)
              clear hP hb
              go_wp2
              go_roundw
              case rel => exact ⟨k + 1, by omega, by congr 1 <;> omega, hr2⟩
              case measure => simp [intOf]; omega
            · have hkm1 := hkm.out
              go_wp2_with (go_at_call 22; refine (cR _ _ (by omega)).mono ?_; rintro e w5 ⟨rfl, hb5⟩)
              clear hkm1
              have hr6 := ops_on hr.1 hb5
              have hr7 := ops_on hr6 (new_b w5 (.cells #[.int .i64 (1 + (km : Int)), .int .i64 more, .int .i64 (64 - (n : Int)), .int .i64 (65 - (n : Int)), .int .i64 0] 3))
              obtain ⟨nf2, hnum⟩ : ∃ nf : Nat → Int, NumAt w5.heap.size 5 nf (w5.alloc (.cells #[.int .i64 (1 + (km : Int)), .int .i64 more, .int .i64 (64 - (n : Int)), .int .i64 (65 - (n : Int)), .int .i64 0] 3)) := ⟨_, num_new w5 [1 + (km : Int), more, 64 - (n : Int), 65 - (n : Int), 0] _ rfl⟩
              clear hr hr6 hb5
              generalize w5.heap.size = g4 at hnum ⊢
              go_loopw [32] (fun i wr => ∃ k : Nat, k ≤ 10 ∧ i = .int .i64 k ∧ OpsMem w g2 g1 5 3 ws vs wr ∧ NumAt g4 5 nf2 wr) (fun i _ => 10 - (intOf i).toNat)
              case atStart => exact ⟨0, by omega, rfl, hr7, hnum⟩
              case round =>
                clear hr7 hnum
                obtain ⟨k, hk, rfl, hr⟩ := hrel
                by_cases hk9 : k < 10
                · obtain ⟨qk, hqk, hqk1, hqk0, tqk⟩ := quo_at k 2 5 2 5 rfl rfl hk9 (by decide)
                  obtain ⟨p3, hp3, hp31, hp30, tp3⟩ := rem_at j 3 3 rfl (by decide)
                  have hj0 : (0 : Int) ≤ (j : Int) := by omega
                  have hj1 : (j : Int) < 5 := by omega
                  have X0 := hr.1.v (j := p3) hp3
                  have Z0 := hr.1.w (j := j) hj5
                  have hx := hvl.out p3
                  have P0 := hr.2.2 qk hqk
                  have hon := fun W (h : OpsMem w g2 g1 5 3 ws vs W ∧ NumAt g4 5 nf2 W) => (⟨h.1.v (j := p3) hp3, h.1.w (j := j) hj5, h.2.2 qk hqk⟩ : W.cell? ⟨g1, p3, none⟩ = some (.int .u64 (vs p3)) ∧ W.cell? ⟨g2, j, none⟩ = some (.int .i64 (ws j)) ∧ W.cell? ⟨g4, qk, none⟩ = some (.int .i64 (nf2 qk)))
                  generalize hX : vs p3 = x at X0 hx hon
                  generalize ws j = z at Z0 hon
                  generalize hNp : nf2 qk = p at P0 hon
                  clear hX hNp
                  have c1 : ∀ sg W, Calls Try.prog 25 #[.int .u64 x, .int .i64 z, .int .i64 p, .bool sg] W (GivesV W (.tuple #[.int .u64 ((exdS x z p sg).1 : Nat), .int .i64 (exdS x z p sg).2])) := fun sg W => pExtend_any x z p sg W hx
                  have c2 : ∀ sg W, Calls Try.prog 26 #[.int .u64 x, .int .i64 z, .int .i64 p, .bool sg] W (GivesV W (.tuple #[.int .u64 ((exdS x z p sg).1 : Nat), .int .i64 (exdS x z p sg).2])) := fun sg W => bExtend_any x z p sg W hx
                  obtain ⟨rf, hrf⟩ : ∃ rf : Bool → Nat × Int, rf = fun sg => exdS x z p sg := ⟨_, rfl⟩
                  replace c1 : ∀ sg W, Calls Try.prog 25 #[.int .u64 x, .int .i64 z, .int .i64 p, .bool sg] W (GivesV W (.tuple #[.int .u64 ((rf sg).1 : Nat), .int .i64 (rf sg).2])) := fun sg W => by rw [hrf]; exact c1 sg W
                  replace c2 : ∀ sg W, Calls Try.prog 26 #[.int .u64 x, .int .i64 z, .int .i64 p, .bool sg] W (GivesV W (.tuple #[.int .u64 ((rf sg).1 : Nat), .int .i64 (rf sg).2])) := fun sg W => by rw [hrf]; exact c2 sg W
                  clear hx hrf
                  have X := Lib.hid X0
                  have Z := Lib.hid Z0
                  have P := Lib.hid P0
                  have g1l := hr.1.2.2.2.2.1
                  have g2l := hr.1.2.2.1
                  have g3l := hr.2.1
                  have hP := fun sg W (hW : Below wr.heap.size wr W) => cum (c1 sg W) hW
                  clear X0 Z0 P0 c1
                  go_wp2
                  go_region_held3 (fun w' => w'.cell? ⟨g1, p3, none⟩ = some (.int .u64 x) ∧ w'.cell? ⟨g2, j, none⟩ = some (.int .i64 z) ∧ w'.cell? ⟨g4, qk, none⟩ = some (.int .i64 p) ∧ Below wr.heap.size wr w')
                    (first | exact ⟨X.out, Z.out, P.out, (Below.refl _ _).drew⟩ | exact ⟨(Below.cell (p := ⟨g1, p3, none⟩) (by assumption) g1l).trans X.out, (Below.cell (p := ⟨g2, j, none⟩) (by assumption) g2l).trans Z.out, (Below.cell (p := ⟨g4, qk, none⟩) (by assumption) g3l).trans P.out, by assumption⟩)
                    (first
                      | (go_at_call 25; ((with_reducible refine Calls.mono (hP _ _ ?_) ?_); focus (go_split_ands; assumption)); rintro e w' ⟨rfl, hb⟩))
                  have hr1 := And.intro (ops_on hr.1 hb) (hr.2.on hb)
                  have X := Lib.hid (hon _ hr1).1
                  have Z := Lib.hid (hon _ hr1).2.1
                  have P := Lib.hid (hon _ hr1).2.2
                  have g1l := hr1.1.2.2.2.2.1
                  have g2l := hr1.1.2.2.1
                  have g3l := hr1.2.1
                  clear hP hb
                  obtain ⟨wq, rfl⟩ : ∃ wq : World, wq = w' := ⟨_, rfl⟩
                  have hP := fun sg W (hW : Below wq.heap.size wq W) => cum (c2 sg W) hW
                  clear c2
                  go_wp2
                  go_region_held3 (fun w' => w'.cell? ⟨g1, p3, none⟩ = some (.int .u64 x) ∧ w'.cell? ⟨g2, j, none⟩ = some (.int .i64 z) ∧ w'.cell? ⟨g4, qk, none⟩ = some (.int .i64 p) ∧ Below wq.heap.size wq w')
                    (first | exact ⟨X.out, Z.out, P.out, (Below.refl _ _).drew⟩ | exact ⟨(Below.cell (p := ⟨g1, p3, none⟩) (by assumption) g1l).trans X.out, (Below.cell (p := ⟨g2, j, none⟩) (by assumption) g2l).trans Z.out, (Below.cell (p := ⟨g4, qk, none⟩) (by assumption) g3l).trans P.out, by assumption⟩)
                    (first
                      | (go_at_call 26; ((with_reducible refine Calls.mono (hP _ _ ?_) ?_); focus (go_split_ands; assumption)); rintro e w' ⟨rfl, hb⟩))
                  have hr2 := And.intro (ops_on hr1.1 hb) (hr1.2.on hb)
                  clear hP hb
                  go_wp2
                  go_roundw
                  case rel => exact ⟨k + 1, by omega, by congr 1 <;> omega, hr2⟩
                  case measure => simp [intOf]; omega
                · go_wp2
                  go_roundw
                  case rel => exact ⟨j + 1, by omega, by congr 1 <;> omega, hr.1⟩
                  case measure => simp [intOf]; omega
    · go_wp2_with (go_at_call 19; refine (livesB_any _).mono ?_; rintro e v5 ⟨rfl, hb5⟩)
      go_ret
      exact ⟨rfl, hr.1.trans (hb5.mono hr.1.size)⟩
theorem forms_any (nn mm : Int) (u s : Nat) (hi lo more : Int) (w : World) (hn : I64 nn) (hm : I64 mm) (hu : u < 18446744073709551616) (hs : s < 18446744073709551616) (hh : I64 hi) (hl : I64 lo) (ho : I64 more) :
    Calls Try.prog 4 #[.int .i64 nn, .int .i64 mm, .int .u64 u, .int .u64 s, .int .i64 hi, .int .i64 lo, .int .i64 more] w (TruePost w) := by
  obtain ⟨n, h1, h64, cW⟩ := bWidth_any nn hn
  obtain ⟨m, m1, m64, cM⟩ := bWidth_any mm hm
  obtain ⟨a, ha, cA⟩ := bValue_any u n hu h1 h64
  obtain ⟨b, hb, cB⟩ := bValue_any s m hs m1 m64
  obtain ⟨kh, hkh, cH⟩ := around_ok hi (n + 1) hh (by omega) (by omega)
  obtain ⟨kl, hkl, cL⟩ := around_ok lo (n + 1) hl (by omega) (by omega)
  obtain ⟨km, hkm, cR⟩ := around_ok more 64 ho (by omega) (by omega)
  exact forms_walk n m u s a b kh kl km nn mm hi lo more w h1 h64 (Lib.hid (by omega)) (Lib.hid (by omega)) (Lib.hid hkm) (Lib.hid hh) (Lib.hid hl) (Lib.hid hu) (Lib.hid (lt64 h64 ha)) (Lib.hid (lt64 m64 hb)) cW cM cA cB
    (fun W q e => cH W q (by omega)) (fun W q e => cL W q (by omega)) (fun W q e => cR W q (by omega))
end Go.Proofs.Ytcpjchfgiogmeaa
