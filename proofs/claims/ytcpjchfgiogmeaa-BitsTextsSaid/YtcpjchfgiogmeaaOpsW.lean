/-
  THE WALK of the law on the operations (P3.1, P3.2).
-/
import Derived.Test.YtcpjchfgiogmeaaBitsLaw
import Derived.Deep.RegionHeld3
namespace Go.Proofs.Ytcpjchfgiogmeaa
open Go.RowKit

/-- the two lists of the law, from the block of the widths (g1) and of the values (g2), lie as they were -/
def OpsMem (w : World) (g1 g2 a1 a2 : Nat) (ws : Nat → Int) (vs : Nat → Nat) (wr : World) : Prop :=
  Below w.heap.size w wr ∧ w.heap.size ≤ g1 ∧ g1 < wr.heap.size ∧ w.heap.size ≤ g2 ∧ g2 < wr.heap.size ∧ (∀ j, j < a1 → wr.cell? ⟨g1, j, none⟩ = some (.int .i64 (ws j))) ∧ (∀ j, j < a2 → wr.cell? ⟨g2, j, none⟩ = some (.int .u64 (vs j)))
theorem ops_on {w wr w' : World} {g1 g2 a1 a2 : Nat} {ws : Nat → Int} {vs : Nat → Nat} (h : OpsMem w g1 g2 a1 a2 ws vs wr) (hb : Below wr.heap.size wr w') : OpsMem w g1 g2 a1 a2 ws vs w' := by
  obtain ⟨h1, h2, h3, h4, h5, h6, h7⟩ := h
  exact ⟨h1.trans (hb.mono h1.size), h2, Nat.lt_of_lt_of_le h3 hb.size, h4, Nat.lt_of_lt_of_le h5 hb.size, fun j hj => (hb.cell (p := ⟨g1, j, none⟩) h3).trans (h6 j hj), fun j hj => (hb.cell (p := ⟨g2, j, none⟩) h5).trans (h7 j hj)⟩
theorem OpsMem.w {w wr : World} {g1 g2 a1 a2 : Nat} {ws : Nat → Int} {vs : Nat → Nat} (h : OpsMem w g1 g2 a1 a2 ws vs wr) {j : Nat} (hj : j < a1) : wr.cell? ⟨g1, j, none⟩ = some (.int .i64 (ws j)) := h.2.2.2.2.2.1 j hj
theorem OpsMem.v {w wr : World} {g1 g2 a1 a2 : Nat} {ws : Nat → Int} {vs : Nat → Nat} (h : OpsMem w g1 g2 a1 a2 ws vs wr) {j : Nat} (hj : j < a2) : wr.cell? ⟨g2, j, none⟩ = some (.int .u64 (vs j)) := h.2.2.2.2.2.2 j hj
/-- a contract that says 'w = w'' or 'Below', made cumulative from a world -/
theorem cum {W0 W : World} {f : FuncId} {args : Array Value} {v : Value} (h : Calls Try.prog f args W (GivesV W v)) (hW : Below W0.heap.size W0 W) : Calls Try.prog f args W fun e w' => e = .returned v ∧ Below W0.heap.size W0 w' :=
  h.mono fun _ _ h => ⟨h.1, hW.trans (h.2.mono hW.size)⟩
theorem same_gives {W : World} {f : FuncId} {args : Array Value} {v : Value} (h : Calls Try.prog f args W fun e w' => e = .returned v ∧ W = w') : Calls Try.prog f args W (GivesV W v) :=
  h.mono fun _ _ h => by obtain ⟨rfl, rfl⟩ := h; exact ⟨rfl, Below.refl _ _⟩
set_option maxRecDepth 100000 in
set_option maxHeartbeats 4000000 in
theorem ops_walk (n u v a b : Nat) (nn op other : Int) (w : World) (hu : u < 18446744073709551616) (ha : a < 18446744073709551616) (hb : b < 18446744073709551616)
    (cW : ∀ W, Calls Try.prog 11 #[.int .i64 nn] W (GivesV W (.int .i64 n)))
    (cA : ∀ W, Calls Try.prog 12 #[.int .u64 u, .int .i64 n] W (GivesV W (.int .u64 a)))
    (cB : ∀ W, Calls Try.prog 12 #[.int .u64 v, .int .i64 n] W (GivesV W (.int .u64 b)))
    : Calls Try.prog 3 #[.int .i64 nn, .int .u64 u, .int .u64 v, .int .i64 op, .int .i64 other] w (TruePost w) := by
  have HU := Lib.hid hu
  have HA := Lib.hid ha
  have HB := Lib.hid hb
  clear hu ha hb
  go_enter Try.func3, Try.ntmps3
  go_wp2_with (first
    | (go_at_call 11; refine (cW _).mono ?_; clear cW; rintro e w1 ⟨rfl, hb1⟩)
    | (go_at_call 12; refine (cA _).mono ?_; clear cA; rintro e w2 ⟨rfl, hb2⟩)
    | (go_at_call 12; refine (cB _).mono ?_; clear cB; rintro e w3 ⟨rfl, hb3⟩))
  obtain ⟨ws, vs, hv0, hv1, hvl, hL⟩ : ∃ (ws : Nat → Int) (vs : Nat → Nat), Hid (vs 0 = a) ∧ Hid (vs 1 = b) ∧ Hid (∀ j, vs j < 18446744073709551616) ∧ OpsMem w w1.heap.size w3.heap.size 4 3 ws vs (w3.alloc (.cells #[.int .u64 a, .int .u64 b, .int .u64 u] 22)) := by
    refine ⟨fun j => if j = 0 then n else if j = 1 then other else if j = 2 then 0 else 65, fun j => if j = 0 then a else if j = 1 then b else u, Lib.hid rfl, Lib.hid rfl, Lib.hid fun j => ?_, ?_⟩
    · dsimp only
      split
      · exact HA.out
      · split
        · exact HB.out
        · exact HU.out
    · have s1 := hb1.size
      have s2 := hb2.size
      have s3 := hb3.size
      simp only [World.size_alloc] at s2
      have hA := hb1.alloc s1 (.cells #[.int .i64 n, .int .i64 other, .int .i64 0, .int .i64 65] 3)
      have h23 := hb2.trans (hb3.mono hb2.size)
      have hB := h23.alloc (by simp; omega) (.cells #[.int .u64 a, .int .u64 b, .int .u64 u] 22)
      refine ⟨hA.trans (hB.mono (by simp; omega)), s1, by simp; omega, by omega, by simp, fun j hj => ?_, fun j hj => ?_⟩
      · rw [hB.cell (p := ⟨w1.heap.size, j, none⟩) (by simp), World.cell?_alloc_mark]
        have : j = 0 ∨ j = 1 ∨ j = 2 ∨ j = 3 := by omega
        rcases this with rfl | rfl | rfl | rfl <;> rfl
      · rw [World.cell?_alloc_mark]
        have : j = 0 ∨ j = 1 ∨ j = 2 := by omega
        rcases this with rfl | rfl | rfl <;> rfl
  clear hb1 hb2 hb3
  generalize w1.heap.size = g1 at hL ⊢
  generalize w3.heap.size = g2 at hL ⊢
  go_loopw [14] (fun i wr => ∃ j : Nat, j ≤ 4 ∧ i = .int .i64 j ∧ OpsMem w g1 g2 4 3 ws vs wr) (fun i _ => 4 - (intOf i).toNat)
  case atStart => exact ⟨0, by omega, rfl, hL⟩
  case round =>
    clear hL
    obtain ⟨j, hj, rfl, hr⟩ := hrel
    by_cases hj4 : j < 4
    · go_wp2
      rw [show decide ((j : Int) < 4) = true by simp; omega]
      obtain ⟨wo, rfl⟩ : ∃ wo : World, wo = wr := ⟨_, rfl⟩
      go_loopw [15] (fun i wr => ∃ k : Nat, k ≤ 9 ∧ i = .int .i64 k ∧ OpsMem w g1 g2 4 3 ws vs wr) (fun i _ => 9 - (intOf i).toNat)
      case atStart => exact ⟨0, by omega, rfl, hr⟩
      case round =>
        clear hr
        obtain ⟨k, hk, rfl, hr⟩ := hrel
        by_cases hk9 : k < 9
        · have e1 := hr.v (j := k % 3) (by omega)
          have e2 := hr.v (j := k / 3) (by omega)
          have e3 := hr.w (j := j) hj4
          have hx := hvl.out (k % 3)
          have hy := hvl.out (k / 3)
          generalize hX : vs (k % 3) = x at e1 hx
          generalize hY : vs (k / 3) = y at e2 hy
          clear hX hY
          have hPV := fun W (hW : Below wr.heap.size wr W) => cum (same_gives (pValid_any x (ws j) W hx)) hW
          have hBV := fun W (hW : Below wr.heap.size wr W) => cum (bValid_any x (ws j) W hx) hW
          have hcP := fun (o : Nat) W => pBinary_any o x y (ws j) W hx hy
          have hcR := fun (o : Nat) W => bBinary_any o x y (ws j) W hx hy
          have hcU := fun (o : Nat) W => pUnary_any o x (ws j) W hx
          have hcV := fun (o : Nat) W => bUnary_any o x (ws j) W hx
          have hWj : ∀ W, OpsMem w g1 g2 4 3 ws vs W → W.cell? ⟨g1, j, none⟩ = some (.int .i64 (ws j)) := fun W h => h.w hj4
          generalize ws j = z at e3 hPV hBV hcP hcR hcU hcV hWj
          generalize validE x z = ve at hPV hBV
          clear hx hy
          have hg1 : g1 < wr.heap.size := hr.2.2.1
          have E3 := Lib.hid e3
          go_wp2
          clear e1 e2
          go_region_held3 (fun w' => w'.cell? ⟨g1, j, none⟩ = some (.int .i64 z) ∧ Below wr.heap.size wr w')
            (first | exact ⟨E3.out, (Below.refl _ _).drew⟩ | exact ⟨(Below.cell (p := ⟨g1, j, none⟩) (by assumption) hg1).trans E3.out, by assumption⟩)
            (first
              | (go_at_call 13; ((with_reducible refine Calls.mono (hPV _ ?_) ?_); focus (go_split_ands; assumption)); rintro e w' ⟨rfl, hb⟩)
              | (go_at_call 14; ((with_reducible refine Calls.mono (hBV _ ?_) ?_); focus (go_split_ands; assumption)); rintro e w' ⟨rfl, hb⟩))
          all_goals
            have hr3 := ops_on hr hb
            clear hPV hBV e3 E3 hb hr
            go_wp2
            obtain ⟨wo2, rfl⟩ : ∃ wo2 : World, wo2 = w' := ⟨_, rfl⟩
            go_loopw [18] (fun i wr => ∃ o : Nat, o ≤ 20 ∧ i = .int .i64 o ∧ OpsMem w g1 g2 4 3 ws vs wr) (fun i _ => 20 - (intOf i).toNat)
            case atStart => exact ⟨0, by omega, rfl, hr3⟩
            case round =>
              clear hr3
              obtain ⟨o, ho, rfl, hr⟩ := hrel
              by_cases ho20 : o < 20
              · have e3 := hWj _ hr
                have c1 := hcP o
                have c2 := hcR o
                have c3 := hcU o
                have c4 := hcV o
                generalize binS o x y z = p at c1 c2
                generalize unS o x z = q at c3 c4
                clear hcP hcR hcU hcV
                go_wp2_with (first
                  | (go_at_call 15; refine (c1 _).mono ?_; clear c1; rintro e v1 ⟨rfl, hb⟩; have hr1 := ops_on hr hb; have x1 := hWj _ hr1; clear hb)
                  | (go_at_call 16; refine (c2 _).mono ?_; clear c2; rintro e v2 ⟨rfl, hb⟩; have hr2 := ops_on hr1 hb; have x2 := hWj _ hr2; clear hb)
                  | (go_at_call 17; refine (c3 _).mono ?_; clear c3; rintro e v3 ⟨rfl, hb⟩; have hr3 := ops_on hr2 hb; have x3 := hWj _ hr3; clear hb)
                  | (go_at_call 18; refine (c4 _).mono ?_; clear c4; rintro e v4 ⟨rfl, hb⟩; have hr4 := ops_on hr3 hb; clear hb))
                go_roundw
                case rel => exact ⟨o + 1, by omega, by congr 1 <;> omega, hr4⟩
                case measure => simp [intOf]; omega
              · go_wp2
                go_roundw
                case rel => exact ⟨k + 1, by omega, by congr 1 <;> omega, hr⟩
                case measure => simp [intOf]; omega
        · go_wp2
          go_roundw
          case rel => exact ⟨j + 1, by omega, by congr 1 <;> omega, hr⟩
          case measure => simp [intOf]; omega
    · have e1 := hr.v (j := 0) (by omega)
      have e2 := hr.v (j := 1) (by omega)
      rw [hv0.out] at e1
      rw [hv1.out] at e2
      have hA := HA.out
      have hB := HB.out
      have hg2 := hr.2.2.2.2.1
      have hW0 := hr.1
      have hv0' := fun W (h : OpsMem w g1 g2 4 3 ws vs W) => h.v (j := 0) (by omega)
      have hv1' := fun W (h : OpsMem w g1 g2 4 3 ws vs W) => h.v (j := 1) (by omega)
      rw [hv0.out] at hv0'
      rw [hv1.out] at hv1'
      have c1 := fun W => pUnary_any op a n W hA
      have c2 := fun W => bUnary_any op a n W hA
      have c3 := fun W => pBinary_any op a b n W hA hB
      have c4 := fun W => bBinary_any op a b n W hA hB
      generalize unS op a n = q at c1 c2
      generalize binS op a b n = p at c3 c4
      clear hA hB
      go_wp2_with (first
        | (go_at_call 17; refine (c1 _).mono ?_; clear c1; rintro e v1 ⟨rfl, hb⟩; have hr1 := ops_on hr hb; have x1 := hv0' _ hr1; clear hb)
        | (go_at_call 18; refine (c2 _).mono ?_; clear c2; rintro e v2 ⟨rfl, hb⟩; have hr2 := ops_on hr1 hb; have x2 := hv0' _ hr2; have y2 := hv1' _ hr2; clear hb))
      have hP : ∀ W, Below v2.heap.size v2 W → Calls Try.prog 15 #[.int .i64 op, .int .u64 a, .int .u64 b, .int .i64 n] W fun e w' => e = .returned (.tuple #[.int .u64 (p.1 : Nat), .int .i64 p.2]) ∧ Below v2.heap.size v2 w' := fun W hW => cum (c3 W) hW
      have X := Lib.hid x2
      have Y := Lib.hid y2
      have hg2 := hr2.2.2.2.2.1
      clear x2 y2 c3
      go_region_held3 (fun w' => w'.cell? ⟨g2, 0, none⟩ = some (.int .u64 a) ∧ w'.cell? ⟨g2, 1, none⟩ = some (.int .u64 b) ∧ Below v2.heap.size v2 w')
        (first | exact ⟨X.out, Y.out, (Below.refl _ _).drew⟩ | exact ⟨(Below.cell (p := ⟨g2, 0, none⟩) (by assumption) hg2).trans X.out, (Below.cell (p := ⟨g2, 1, none⟩) (by assumption) hg2).trans Y.out, by assumption⟩)
        (first
          | (go_at_call 15; ((with_reducible refine Calls.mono (hP _ ?_) ?_); focus (go_split_ands; assumption)); rintro e w' ⟨rfl, hb⟩))
      have hr3 := ops_on hr2 hb
      have x2 := hv0' _ hr3
      have y2 := hv1' _ hr3
      clear hb X Y hP
      obtain ⟨v3, rfl⟩ : ∃ v3 : World, v3 = w' := ⟨_, rfl⟩
      go_wp2
      have hP : ∀ W, Below v3.heap.size v3 W → Calls Try.prog 16 #[.int .i64 op, .int .u64 a, .int .u64 b, .int .i64 n] W fun e w' => e = .returned (.tuple #[.int .u64 (p.1 : Nat), .int .i64 p.2]) ∧ Below v3.heap.size v3 w' := fun W hW => cum (c4 W) hW
      have X := Lib.hid x2
      have Y := Lib.hid y2
      have hg2 := hr3.2.2.2.2.1
      clear x2 y2 c4
      go_region_held3 (fun w' => w'.cell? ⟨g2, 0, none⟩ = some (.int .u64 a) ∧ w'.cell? ⟨g2, 1, none⟩ = some (.int .u64 b) ∧ Below v3.heap.size v3 w')
        (first | exact ⟨X.out, Y.out, (Below.refl _ _).drew⟩ | exact ⟨(Below.cell (p := ⟨g2, 0, none⟩) (by assumption) hg2).trans X.out, (Below.cell (p := ⟨g2, 1, none⟩) (by assumption) hg2).trans Y.out, by assumption⟩)
        (first
          | (go_at_call 16; ((with_reducible refine Calls.mono (hP _ ?_) ?_); focus (go_split_ands; assumption)); rintro e w' ⟨rfl, hb⟩))
      have hr4 := ops_on hr3 hb
      clear hb X Y hP
      go_wp2_with (go_at_call 19; refine (livesB_any _).mono ?_; rintro e v5 ⟨rfl, hb5⟩)
      go_ret
      exact ⟨rfl, hr4.1.trans (hb5.mono hr4.1.size)⟩
theorem ops_any (nn : Int) (u v : Nat) (op other : Int) (w : World) (hn : I64 nn) (hu : u < 18446744073709551616) (hv : v < 18446744073709551616) :
    Calls Try.prog 3 #[.int .i64 nn, .int .u64 u, .int .u64 v, .int .i64 op, .int .i64 other] w (TruePost w) := by
  obtain ⟨n, h1, h64, cW⟩ := bWidth_any nn hn
  obtain ⟨a, ha, cA⟩ := bValue_any u n hu h1 h64
  obtain ⟨b, hb, cB⟩ := bValue_any v n hv h1 h64
  exact ops_walk n u v a b nn op other w hu (lt64 h64 ha) (lt64 h64 hb) cW cA cB
end Go.Proofs.Ytcpjchfgiogmeaa
