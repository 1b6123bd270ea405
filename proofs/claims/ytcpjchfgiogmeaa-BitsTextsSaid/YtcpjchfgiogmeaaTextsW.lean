/-
  THE WALK of the law on texts (P3.4, P3.10).
-/
import Derived.Test.YtcpjchfgiogmeaaTextT
import Derived.Deep.RegionHeld3
namespace Go.Proofs.Ytcpjchfgiogmeaa
open Go.RowKit

/-- the six texts (block g) lie as they were -/
def StrMem (w : World) (g : Nat) (f : Nat → ByteArray) (wr : World) : Prop := Below w.heap.size w wr ∧ g < wr.heap.size ∧ ∀ j, j < 6 → wr.cell? ⟨g, j, none⟩ = some (.string (f j))
theorem StrMem.on {w wr w' : World} {g : Nat} {f : Nat → ByteArray} (h : StrMem w g f wr) (hb : Below wr.heap.size wr w') : StrMem w g f w' :=
  ⟨h.1.trans (hb.mono h.1.size), Nat.lt_of_lt_of_le h.2.1 hb.size, fun j hj => (hb.cell (p := ⟨g, j, none⟩) h.2.1).trans (h.2.2 j hj)⟩
theorem belowA {B a : World} (h : Below B.heap.size B a) (o : Obj) : Below B.heap.size B (a.alloc o) := h.alloc h.size o
set_option maxRecDepth 100000 in
set_option maxHeartbeats 4000000 in
theorem texts_walk (n a u ch : Nat) (k1 k2 : Nat) (S X text tS : ByteArray) (E nn at_ : Int) (w : World) (h3 : 3 ≤ S.size) (h66 : S.size ≤ 66) (hk1 : k1 < S.size) (hk2 : k2 < S.size + 1) (_ : ch < 256) (htS : Hid (tS.size ≤ 80))
    (cW : ∀ W, Calls Try.prog 11 #[.int .i64 nn] W (GivesV W (.int .i64 n)))
    (cA : ∀ W, Calls Try.prog 12 #[.int .u64 u, .int .i64 n] W (GivesV W (.int .u64 a)))
    (c1 : ∀ W, Calls Try.prog 27 #[.int .u64 a, .int .i64 n] W (GivesV W (.tuple #[.string S, .int .i64 0])))
    (c2 : ∀ W, Calls Try.prog 28 #[.int .u64 a, .int .i64 n] W (GivesV W (.tuple #[.string S, .int .i64 0])))
    (c3 : ∀ W, Calls Try.prog 29 #[.string S] W (GivesV W (.tuple #[.int .u64 a, .int .i64 n, .int .i64 0])))
    (c4 : ∀ W, Calls Try.prog 27 #[.int .u64 u, .int .i64 nn] W (GivesV W (.tuple #[.string X, .int .i64 E])))
    (c5 : ∀ W, Calls Try.prog 28 #[.int .u64 u, .int .i64 nn] W (GivesV W (.tuple #[.string X, .int .i64 E])))
    (c6 : ∀ (W : World) (q : Int), q = S.size → Calls Try.prog 22 #[.int .i64 at_, .int .i64 q] W (GivesV W (.int .i64 k1)))
    (c7 : ∀ W, Calls Try.prog 30 #[.string text, .int .i64 80] W (GivesV W (.string tS)))
    (c8 : ∀ (W : World) (q : Int), q = S.size + 1 → Calls Try.prog 22 #[.int .i64 at_, .int .i64 q] W (GivesV W (.int .i64 k2)))
    : Calls Try.prog 5 #[.int .i64 nn, .int .u64 u, .string text, .int .i64 at_, .int .u8 ch] w (TruePost w) := by
  go_enter Try.func5, Try.ntmps5
  go_wp2_with (first
    | (go_at_call 11; refine (cW _).mono ?_; clear cW; rintro e w1 ⟨rfl, hb1⟩)
    | (go_at_call 12; refine (cA _).mono ?_; clear cA; rintro e w2 ⟨rfl, hb2⟩)
    | (go_at_call 27; refine (c1 _).mono ?_; clear c1; rintro e w3 ⟨rfl, hb3⟩)
    | (go_at_call 28; refine (c2 _).mono ?_; clear c2; rintro e w4 ⟨rfl, hb4⟩)
    | (go_at_call 29; refine (c3 _).mono ?_; clear c3; rintro e w5 ⟨rfl, hb5⟩)
    | (go_at_call 27; refine (c4 _).mono ?_; clear c4; rintro e w6 ⟨rfl, hb6⟩)
    | (go_at_call 28; refine (c5 _).mono ?_; clear c5; rintro e w7 ⟨rfl, hb7⟩; obtain ⟨cap, C, hcv, hst, hrd⟩ := convW S w7; obtain ⟨hst1, hst2⟩ := hst k1 hk1)
    | (go_at_call 22; refine (c6 _ _ (by omega)).mono ?_; clear c6; rintro e w8 ⟨rfl, hb8⟩; obtain ⟨x8, hs1⟩ : ∃ x, w8.cell? ⟨w7.heap.size, k1, none⟩ = some x := Option.isSome_iff_exists.1 ((by rw [hb8.cell (by simp)]; exact hst1)); have hs2 : w8.frozen? ⟨w7.heap.size, k1, none⟩ = false := (by rw [hb8.frozen (by simp)]; exact hst2); have hrd8 := (hrd.below hb8).mono hb8.size; clear hst1 hst2 hst hrd hcv))
  have d1 := hb1
  have d2 := d1.trans (hb2.mono d1.size)
  have d3 := d2.trans (hb3.mono d2.size)
  have d4 := d3.trans (hb4.mono d3.size)
  have d5 := d4.trans (hb5.mono d4.size)
  have d6 := d5.trans (hb6.mono d5.size)
  have d7 := d6.trans (hb7.mono d6.size)
  have s7 := d7.size
  have d8 := ((d7.alloc s7 (.cells C 5 (C.size, C.size + 1))).drew).trans (hb8.mono (by simp; omega))
  have d9 : Below w.heap.size w (w8.setCell ⟨w7.heap.size, k1, none⟩ (.int .u8 ch)) := d8.setCell s7 _
  have hsl : (sb S).length = S.size := sb_length S
  have hrd9 := rd_put hrd8 (by rw [hsl]; exact hk1 : k1 < (sb S).length) (ch : Int)
  clear d1 d2 d3 d4 d5 d6 d7 d8 hb1 hb2 hb3 hb4 hb5 hb6 hb7 hb8 hs1 hs2 hrd8 s7
  generalize w7.heap.size = g at d9 hrd9 ⊢
  generalize w8.setCell ⟨g, k1, none⟩ (.int .u8 ch) = W9 at d9 hrd9 ⊢
  have hCV : Hid (∀ W, Below W9.heap.size W9 W → (convert 43 9 (.slice (some ⟨g, 0, none⟩) S.size cap)).run Try.prog W = .ok (.string (strOfNums ((sb S).set k1 ch))) W) := Lib.hid fun W hW =>
    conv_string _ _ _ ((sb S).set k1 ch) W (by rw [List.length_set, hsl]) ((hrd9.below hW).mono hW.size)
  have HT0 : Hid ((strOfNums ((sb S).set k1 ch)).size = S.size) := Lib.hid (by rw [strOfNums_size, List.length_set, hsl])
  generalize strOfNums ((sb S).set k1 ch) = T0 at hCV HT0
  have hC7 := fun W (hW : Below W9.heap.size W9 W) => cum (c7 W) hW
  have hC8 := fun W (q : Int) (hq : q = S.size + 1) (hW : Below W9.heap.size W9 W) => cum (c8 W q hq) hW
  clear c7 c8 hrd9 hsl
  have hwr : IntKind.i64.wrap ((S.size : Int) + 1) = (S.size : Int) + 1 := by rw [IntKind.wrap_i64]; omega
  have i2 : (2 : Int) ≤ (S.size : Int) := by omega
  have i3 : (k2 : Int) ≤ (S.size : Int) := by omega
  have i30 : (0 : Int) ≤ (k2 : Int) := by omega
  have e2 : (S.extract 2 S.size).size = S.size - 2 := by simp
  have n1 : ¬ 9223372036854775807 < S.size + (S.size - 2) := by omega
  have n2 : ¬ 9223372036854775807 < 2 + (S.size - 2) := by omega
  have n3 : S.size + (S.size - 2) ≤ 9223372036854775807 := by omega
  have n4 : 2 + (S.size - 2) ≤ 9223372036854775807 := by omega
  go_region_held3 (fun w' => (convert 43 9 (.slice (some ⟨g, 0, none⟩) S.size cap)).run Try.prog w' = .ok (.string T0) w' ∧ Below W9.heap.size W9 w')
    (first | exact ⟨hCV.out _ (Below.refl _ _).drew, (Below.refl _ _).drew⟩ | (refine ⟨hCV.out _ ?_, ?_⟩ <;> first | assumption | exact belowA (by assumption) _))
    (first
      | (go_at_call 30; ((with_reducible refine Calls.mono (hC7 _ ?_) ?_); focus (go_split_ands; assumption)); rintro e w' ⟨rfl, hb⟩)
      | (go_at_call 22; ((with_reducible refine Calls.mono (hC8 _ _ (by omega) ?_) ?_); focus (go_split_ands; assumption)); rintro e w' ⟨rfl, hb⟩))
  have dW := d9.trans (hb.mono d9.size)
  obtain ⟨Ts, hTs, hL⟩ : ∃ Ts : Nat → ByteArray, Hid (∀ j, (Ts j).size ≤ 1000000) ∧ StrMem w w'.heap.size Ts (w'.alloc (.cells #[.string T0, .string tS, .string (S ++ S.extract 2 S.size), .string (S.extract 0 k2), .string (⟨#[35, 98]⟩ ++ S.extract 2 S.size), .string (⟨#[35, 120]⟩ ++ S.extract 2 S.size)] 9)) := by
    refine ⟨fun j => if j = 0 then T0 else if j = 1 then tS else if j = 2 then S ++ S.extract 2 S.size else if j = 3 then S.extract 0 k2 else if j = 4 then ⟨#[35, 98]⟩ ++ S.extract 2 S.size else ⟨#[35, 120]⟩ ++ S.extract 2 S.size, Lib.hid fun j => ?_, belowA dW _, by simp, fun j hj => ?_⟩
    · have h2 : (⟨#[35, 98]⟩ : ByteArray).size = 2 := rfl
      have h4 : (⟨#[35, 120]⟩ : ByteArray).size = 2 := rfl
      have h5 := HT0.out
      have h6 := htS.out
      dsimp only
      repeat' split
      · omega
      · omega
      · rw [ByteArray.size_append, e2]; omega
      · rw [ByteArray.size_extract]; omega
      · rw [ByteArray.size_append, e2, h2]; omega
      · rw [ByteArray.size_append, e2, h4]; omega
    · rw [World.cell?_alloc_mark]
      have : j = 0 ∨ j = 1 ∨ j = 2 ∨ j = 3 ∨ j = 4 ∨ j = 5 := by omega
      rcases this with rfl | rfl | rfl | rfl | rfl | rfl <;> rfl
  clear hwr i2 i3 i30 e2 n1 n2 n3 n4 hC7 hC8 hCV HT0 d9 hb dW
  generalize w'.heap.size = g6 at hL ⊢
  go_wp2
  go_loopw [26] (fun i wr => ∃ j : Nat, j ≤ 6 ∧ i = .int .i64 j ∧ StrMem w g6 Ts wr) (fun i _ => 6 - (intOf i).toNat)
  case atStart => exact ⟨0, by omega, rfl, hL⟩
  case round =>
    clear hL
    obtain ⟨j, hj, rfl, hr⟩ := hrel
    by_cases hj6 : j < 6
    · have x0 := hr.2.2 j hj6
      have hon := fun W (h : StrMem w g6 Ts W) => h.2.2 j hj6
      have hT := hTs.out j
      generalize Ts j = T at x0 hon hT
      have c1 : ∀ W, Calls Try.prog 29 #[.string T] W (ParsePost W (parseV (sb T))) := fun W => pParse_any T W
      have c2 : ∀ W, Calls Try.prog 31 #[.string T] W (ParsePost W (parseV (sb T))) := fun W => bParse_any T W hT
      generalize parseV (sb T) = r at c1 c2
      clear hT
      go_wp2_with (first
        | (go_at_call 29; refine (c1 _).mono ?_; clear c1; rintro e v1 ⟨rfl, hb⟩; have hr1 := hr.on hb; have x1 := hon _ hr1; clear hb)
        | (go_at_call 31; refine (c2 _).mono ?_; clear c2; rintro e v2 ⟨rfl, hb⟩; have hr2 := hr1.on hb; clear hb))
      go_roundw
      case rel => exact ⟨j + 1, by omega, by congr 1 <;> omega, hr2⟩
      case measure => simp [intOf]; omega
    · have hr0 := hr.1
      go_wp2_with (go_at_call 19; refine (livesB_any _).mono ?_; rintro e v5 ⟨rfl, hb5⟩)
      go_ret
      exact ⟨rfl, hr0.trans (hb5.mono hr0.size)⟩
theorem texts_any (nn : Int) (u : Nat) (text : ByteArray) (at_ : Int) (ch : Nat) (w : World) (hn : I64 nn) (hu : u < 18446744073709551616) (ht : text.size ≤ maxLen) (ha : I64 at_) (hc : ch < 256) :
    Calls Try.prog 5 #[.int .i64 nn, .int .u64 u, .string text, .int .i64 at_, .int .u8 ch] w (TruePost w) := by
  obtain ⟨n, h1, h64, cW⟩ := bWidth_any nn hn
  obtain ⟨a, hal, cA⟩ := bValue_any u n hu h1 h64
  have ha64 := lt64 h64 hal
  have hv := validE_ok h1 h64 hal
  have hlen := textI_length (u := a) h1 h64
  have hss : (strOfNums (textI a n)).size = (textI a n).length := strOfNums_size _
  have hT : textS a n = (textI a n, 0) := by unfold textS; rw [if_neg (by simp [hv]), Int.toNat_natCast]
  have hP : parseV (sb (strOfNums (textI a n))) = (a, n, 0) := by rw [sb_of_nums textI_bytes]; exact parse_text h1 h64 hal
  obtain ⟨k1, hk1, c6⟩ := around_ok at_ (strOfNums (textI a n)).size ha (by omega) (by omega)
  obtain ⟨k2, hk2, c8⟩ := around_ok at_ ((strOfNums (textI a n)).size + 1) ha (by omega) (by omega)
  obtain ⟨tS, htS, c7⟩ : ∃ tS : ByteArray, tS.size ≤ 80 ∧ ∀ W, Calls Try.prog 30 #[.string text, .int .i64 80] W (GivesV W (.string tS)) := by
    by_cases h : 80 < text.size
    · exact ⟨text.extract 0 80, by rw [ByteArray.size_extract]; omega, fun W => same_gives (Short_long text 80 W ht h)⟩
    · exact ⟨text, by omega, fun W => same_gives (Short_short text 80 W ht (by omega))⟩
  refine texts_walk n a u ch k1 k2 (strOfNums (textI a n)) (strOfNums (textS u nn).1) text tS (textS u nn).2 nn at_ w (by omega) (by omega) hk1 hk2 hc (Lib.hid htS) cW cA (fun W => ?_) (fun W => ?_) (fun W => ?_) (fun W => pText_any u nn W hu) (fun W => bText_any u nn W hu)
    (fun W q e => c6 W q e) c7 (fun W q e => c8 W q (by omega))
  · have := pText_any a n W ha64
    rw [hT] at this
    exact this
  · have := bText_any a n W ha64
    rw [hT] at this
    exact this
  · have := pParse_any (strOfNums (textI a n)) W
    rw [hP] at this
    exact this
end Go.Proofs.Ytcpjchfgiogmeaa
