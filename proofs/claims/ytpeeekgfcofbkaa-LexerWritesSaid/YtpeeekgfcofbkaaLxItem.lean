/-
  THE ITEMS of strings in quotation marks.
-/
import Derived.Test.YtpeeekgfcofbkaaLxForm
namespace Go.Proofs.Ytpeeekgfcofbkaa
open Go.RowKit

def HEX : List Int := [48, 57, 97, 102]
def DIGS : ByteArray := ⟨#[48, 49, 50, 51, 52, 53, 54, 55, 56, 57, 97, 98, 99, 100, 101, 102]⟩
/-- the value of a digit -/
def hv (c : Int) : Int := if c ≤ 57 then c - 48 else c - 87
theorem hex_check : ((List.range 256).all fun c => !inR HEX c || (decide (((nlN c (sb DIGS) : Nat) : Int) = hv c) && decide (nlN c (sb DIGS) < 16))) = true := by kernel_rfl
theorem hex_ix {c : Nat} (hc : c < 256) (h : inR HEX c = true) : ((nlN c (sb DIGS) : Nat) : Int) = hv c ∧ 0 ≤ hv c ∧ hv c < 16 := by
  have h1 := List.all_eq_true.1 hex_check c (List.mem_range.2 hc)
  rw [h] at h1
  simp only [Bool.not_true, Bool.false_or, Bool.and_eq_true, decide_eq_true_eq] at h1
  exact ⟨h1.1, by omega, by omega⟩
/-- two digits -/
def numGo : Nat → Int → List Int → Int × Nat × Int
  | 0, acc, _ => (acc, 4, 0)
  | _ + 1, _, [] => (0, 0, 3)
  | n + 1, acc, x :: r => if inR HEX x then numGo n (acc * 16 + hv x) r else (0, 0, 2)
theorem nib_check : ((List.range 16).all fun a => (List.range 16).all fun b => decide (bits .or .u8 ((a : Int) * 16) (b : Int) = (a : Int) * 16 + b)) = true := by kernel_rfl
theorem nib_eq {a b : Int} (ha : 0 ≤ a ∧ a < 16) (hb : 0 ≤ b ∧ b < 16) : bits .or .u8 (a * 16) b = a * 16 + b := by
  have h := List.all_eq_true.1 (List.all_eq_true.1 nib_check a.toNat (List.mem_range.2 (by omega))) b.toNat (List.mem_range.2 (by omega))
  rw [decide_eq_true_eq] at h
  rw [show ((a.toNat : Nat) : Int) = a by omega, show ((b.toNat : Nat) : Int) = b by omega] at h
  exact h
set_option maxHeartbeats 2000000 in
theorem number_any (s : ByteArray) (w : World) (h2 : 2 ≤ s.size) (_ : s.size ≤ 100000000) : Calls Try.prog 72 #[.string s] w fun e w' => e = .returned (.tuple #[.int .u8 (numGo 2 0 ((sb s).drop 2)).1, .int .i64 ((numGo 2 0 ((sb s).drop 2)).2.1 : Nat), .int .i64 (numGo 2 0 ((sb s).drop 2)).2.2]) ∧ w' = w := by
  obtain ⟨V, hV⟩ : ∃ V, V = numGo 2 0 ((sb s).drop 2) := ⟨_, rfl⟩
  rw [← hV]
  replace hV := Lib.hid hV
  go_enter Try.func72, Try.ntmps72
  go_wp2_with fail
  go_loop [5, 6] (fun c i => ∃ (k : Nat) (a : Int), i = .int .i64 (k : Int) ∧ c = .int .u8 a ∧ 2 ≤ k ∧ k ≤ 4 ∧ k ≤ s.size ∧ 0 ≤ a ∧ a < 256 ∧ (k < 4 → a < 16) ∧ (k < 3 → a = 0) ∧ Hid (V = numGo (4 - k) a ((sb s).drop k))) (fun _ i => 4 - (intOf i).toNat)
  case atStart => exact ⟨2, 0, rfl, rfl, by omega, by omega, h2, by omega, by omega, fun _ => by omega, fun _ => rfl, hV⟩
  case round =>
    obtain ⟨k, a, rfl, rfl, hk2, hk4, hks, ha0, ha, ha16, ha3, hI⟩ := hrel
    by_cases hk : k < 4
    · have hkI : (k : Int) < 4 := by omega
      have ha6 := ha16 hk
      by_cases hke : k = s.size
      · have hkb : ((k : Int) == (s.size : Int)) = true := by rw [beq_iff_eq]; omega
        have hv1 := Lib.hid (show V = (0, 0, 3) from by
          rw [hI.out, List.drop_eq_nil_of_le (by rw [sb_length]; omega)]
          obtain ⟨m, hm⟩ : ∃ m, 4 - k = m + 1 := ⟨3 - k, by omega⟩
          rw [hm]; rfl)
        go_wp2_with fail
        refine bodyPost_ret (v := .tuple #[.int .u8 0, .int .i64 0, .int .i64 3]) (by simp [results, Try.results72, go_sem]) rfl ?_
        exact ⟨by rw [hv1.out]; rfl, rfl⟩
      · have hkb : ((k : Int) == (s.size : Int)) = false := by rw [beq_eq_false_iff_ne]; omega
        obtain ⟨x, hx, hdx, ix⟩ := sb_get s k (by omega)
        have HW := Lib.hid (withinB_any x ⟨#[48, 57, 97, 102]⟩ w (by decide) (by decide))
        rw [show sb ⟨#[48, 57, 97, 102]⟩ = HEX from rfl] at HW
        obtain ⟨m, hm⟩ : ∃ m, 4 - k = m + 1 := ⟨3 - k, by omega⟩
        have hv0 := Lib.hid (show V = if inR HEX x then numGo m (a * 16 + hv x) ((sb s).drop (k + 1)) else (0, 0, 2) from by rw [hI.out, hdx, hm]; rfl)
        cases hin : inR HEX (x : Int)
        · rw [hin] at HW hv0
          go_wp2_with fail
          refine Calls.mono HW.out ?_
          rintro e w1 ⟨rfl, hw⟩
          rw [hw]
          clear hw
          go_wp2_with fail
          refine bodyPost_ret (v := .tuple #[.int .u8 0, .int .i64 0, .int .i64 2]) (by simp [results, Try.results72, go_sem]) rfl ?_
          have hv2 := hv0.out
          rw [if_neg (by decide)] at hv2
          exact ⟨by rw [hv2]; rfl, rfl⟩
        · rw [hin] at HW hv0
          obtain ⟨e1, e2, e3⟩ := hex_ix hx hin
          have HX := Lib.hid (ix_any DIGS x hx w)
          rw [if_pos (by show nlN x (sb DIGS) < 16; omega), e1] at HX
          have hnib := nib_eq ⟨ha0, ha6⟩ ⟨e2, e3⟩
          generalize hv (x : Int) = y at *
          go_wp2_with fail
          refine Calls.mono HW.out ?_
          rintro e w1 ⟨rfl, hw⟩
          rw [hw]
          clear hw
          go_wp2_with fail
          refine Calls.mono HX.out ?_
          rintro e w2 ⟨rfl, hw⟩
          rw [hw]
          clear hw
          go_wp2_with fail
          go_round
          case rel => exact ⟨k + 1, a * 16 + y, by go_num, rfl, by omega, by omega, by omega, by omega, by omega, fun h => (by have := ha3 (by omega); omega), fun h => (by omega), Lib.hid (by rw [hv0.out, if_pos trivial, show 4 - (k + 1) = m by omega])⟩
          case measure => simp [intOf]; omega
    · have hkI : ¬ (k : Int) < 4 := by omega
      have hv3 := Lib.hid (show V = (a, 4, 0) from by rw [hI.out, show 4 - k = 0 by omega]; rfl)
      go_wp2_with fail
      refine bodyPost_ret (v := .tuple #[.int .u8 a, .int .i64 4, .int .i64 0]) (by simp [results, Try.results72, go_sem]) rfl ?_
      exact ⟨by rw [hv3.out]; rfl, rfl⟩
def PLAIN : List Int := [32, 33, 35, 91, 93, 126]
def itemG (r : List Int) : Int × Nat × Int := match r with
    | [] => (0, 0, 3)
    | d :: r2 => if d = 34 ∨ d = 92 then (d, 2, 0) else if d = 120 then numGo 2 0 r2 else (0, 0, 2)
/-- the item that a text begins with: its byte, its size, its error -/
def itemF : List Int → Int × Nat × Int
  | [] => (0, 0, 2)
  | c :: r => if inR PLAIN c then (c, 1, 0) else if c ≠ 92 then (0, 0, 2) else itemG r
theorem itemF_cons (c : Int) (r : List Int) : itemF (c :: r) = if inR PLAIN c then (c, 1, 0) else if c ≠ 92 then (0, 0, 2) else itemG r := rfl
theorem itemG_nil : itemG [] = (0, 0, 3) := rfl
theorem itemG_cons (d : Int) (r2 : List Int) : itemG (d :: r2) = if d = 34 ∨ d = 92 then (d, 2, 0) else if d = 120 then numGo 2 0 r2 else (0, 0, 2) := rfl
set_option maxHeartbeats 2000000 in
theorem item_any (s : ByteArray) (w : World) (h0 : 0 < s.size) (hs : s.size ≤ 100000000) : Calls Try.prog 68 #[.string s] w fun e w' => e = .returned (.tuple #[.int .u8 (itemF (sb s)).1, .int .i64 ((itemF (sb s)).2.1 : Nat), .int .i64 (itemF (sb s)).2.2]) ∧ w' = w := by
  have hl := sb_length s
  obtain ⟨x, hx, hdx, ix⟩ := sb_get s 0 h0
  rw [List.drop_zero] at hdx
  rw [show ((0 : Nat) : Int) = 0 from rfl] at ix
  have HW := Lib.hid (fun W => withinB_any x ⟨#[32, 33, 35, 91, 93, 126]⟩ W (by decide) (by decide))
  rw [show sb ⟨#[32, 33, 35, 91, 93, 126]⟩ = PLAIN from rfl] at HW
  have HV := Lib.hid ((congrArg itemF hdx).trans (itemF_cons (x : Int) ((sb s).drop (0 + 1))))
  rw [show 0 + 1 = 1 from rfl] at HV
  obtain ⟨V, hV⟩ : ∃ V, V = itemF (sb s) := ⟨_, rfl⟩
  rw [← hV] at HV ⊢
  have HN := Lib.hid (fun (h : 2 ≤ s.size) W => number_any s W h hs)
  have H1 := Lib.hid (show 1 < s.size → ∃ y : Nat, y < 256 ∧ (sb s).drop 1 = (y : Int) :: (sb s).drop 2 ∧ ∀ W : World, (Instr.index 9 (.string s) (.int .i64 1)).run Try.prog W = .ok (.int .u8 y) W from fun h => sb_get s 1 h)
  have HZ := Lib.hid (show s.size = 1 → (sb s).drop 1 = [] from fun h => List.drop_eq_nil_of_le (by omega))
  clear hV hdx hl
  go_enter Try.func68, Try.ntmps68
  go_wp2_with fail
  refine Calls.mono (HW.out _) ?_
  rintro e w1 ⟨rfl, hw⟩
  rw [hw]
  clear hw
  cases hin : inR PLAIN (x : Int)
  · rw [hin] at HV
    have hv := HV.out
    rw [if_neg (by decide)] at hv
    by_cases hx9 : x = 92
    · subst hx9
      rw [if_neg (by decide)] at hv
      by_cases hs1 : s.size = 1
      · rw [HZ.out hs1] at hv
        replace hv := Lib.hid hv
        have hsb : ((s.size : Int) == 1) = true := by rw [beq_iff_eq]; omega
        clear hs1 HN H1 HZ HV
        go_wp2_with fail
        refine bodyPost_ret (v := .tuple #[.int .u8 0, .int .i64 0, .int .i64 3]) (by simp [results, Try.results68, go_sem]) rfl ?_
        exact ⟨by rw [hv.out]; rfl, rfl⟩
      · have hsb : ((s.size : Int) == 1) = false := by rw [beq_eq_false_iff_ne]; omega
        obtain ⟨y, hy, hdy, iy⟩ := H1.out (by omega)
        rw [hdy, itemG_cons] at hv
        have h2s : 2 ≤ s.size := by omega
        have hN := Lib.hid (HN.out h2s)
        replace hs1 := Lib.hid hs1
        clear HN H1 HZ HV
        by_cases ha : y = 34
        · subst ha
          rw [if_pos (by decide)] at hv
          replace hv := Lib.hid hv
          replace hdy := Lib.hid hdy
          go_wp2_with fail
          refine bodyPost_ret (v := .tuple #[.int .u8 34, .int .i64 2, .int .i64 0]) (by simp [results, Try.results68, go_sem]) rfl ?_
          exact ⟨by rw [hv.out]; rfl, rfl⟩
        · have ha1 : ((y : Int) == 34) = false := by rw [beq_eq_false_iff_ne]; omega
          by_cases hb : y = 92
          · subst hb
            rw [if_pos (by decide)] at hv
            replace hv := Lib.hid hv
            replace hdy := Lib.hid hdy
            go_wp2_with fail
            refine bodyPost_ret (v := .tuple #[.int .u8 92, .int .i64 2, .int .i64 0]) (by simp [results, Try.results68, go_sem]) rfl ?_
            exact ⟨by rw [hv.out]; rfl, rfl⟩
          · have hb1 : ((y : Int) == 92) = false := by rw [beq_eq_false_iff_ne]; omega
            rw [if_neg (by omega)] at hv
            by_cases hc : y = 120
            · subst hc
              rw [if_pos (by decide)] at hv
              replace hv := Lib.hid hv
              replace hdy := Lib.hid hdy
              replace ha := Lib.hid ha
              replace hb := Lib.hid hb
              have hn := hN.out w
              rw [← hv.out] at hn
              clear hN
              obtain ⟨v1, v2, v3⟩ := V
              simp only at hn
              go_wp2_with fail
              refine Calls.mono hn ?_
              rintro e w2 ⟨rfl, hw⟩
              rw [hw]
              clear hw
              go_wp2_with fail
              refine bodyPost_ret (v := .tuple #[.int .u8 v1, .int .i64 (v2 : Nat), .int .i64 v3]) (by simp [results, Try.results68, go_sem]) rfl ?_
              exact ⟨rfl, rfl⟩
            · have hc1 : ((y : Int) == 120) = false := by rw [beq_eq_false_iff_ne]; omega
              rw [if_neg (by omega)] at hv
              replace hv := Lib.hid hv
              replace hdy := Lib.hid hdy
              replace ha := Lib.hid ha
              replace hb := Lib.hid hb
              replace hc := Lib.hid hc
              go_wp2_with fail
              refine bodyPost_ret (v := .tuple #[.int .u8 0, .int .i64 0, .int .i64 2]) (by simp [results, Try.results68, go_sem]) rfl ?_
              exact ⟨by rw [hv.out]; rfl, rfl⟩
    · have hx1 : ((x : Int) == 92) = false := by rw [beq_eq_false_iff_ne]; omega
      have hx2 : ((x : Int) != 92) = true := by unfold bne; rw [hx1]; rfl
      rw [if_pos (by omega)] at hv
      replace hv := Lib.hid hv
      replace hx9 := Lib.hid hx9
      clear HN H1 HZ HV
      go_wp2_with fail
      refine bodyPost_ret (v := .tuple #[.int .u8 0, .int .i64 0, .int .i64 2]) (by simp [results, Try.results68, go_sem]) rfl ?_
      exact ⟨by rw [hv.out]; rfl, rfl⟩
  · rw [hin] at HV
    have hv := HV.out
    rw [if_pos rfl] at hv
    replace hv := Lib.hid hv
    clear HN H1 HZ HV
    go_wp2_with fail
    refine bodyPost_ret (v := .tuple #[.int .u8 x, .int .i64 1, .int .i64 0]) (by simp [results, Try.results68, go_sem]) rfl ?_
    exact ⟨by rw [hv.out]; rfl, rfl⟩
end Go.Proofs.Ytpeeekgfcofbkaa
