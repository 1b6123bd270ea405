/-
  GAPS, and the token with which a text begins.
-/
import Derived.Test.YtpeeekgfcofbkaaLxQuot
namespace Go.Proofs.Ytpeeekgfcofbkaa
open Go.RowKit

def SP : List Int := [9, 10, 13, 13, 32, 32]
/-- how many bytes of spaces and comments a text begins with; true: within a comment -/
def gp : Bool → List Int → Nat
  | _, [] => 0
  | false, c :: r => if inR SP c then gp false r + 1 else if c = 59 then gp true r + 1 else 0
  | true, c :: r => if c = 10 then gp false r + 1 else gp true r + 1
theorem gp_cons (c : Int) (r : List Int) : gp false (c :: r) = if inR SP c then gp false r + 1 else if c = 59 then gp true r + 1 else 0 := rfl
theorem gp_cons2 (c : Int) (r : List Int) : gp true (c :: r) = if c = 10 then gp false r + 1 else gp true r + 1 := rfl
theorem gp_le : ∀ (l : List Int) (b : Bool), gp b l ≤ l.length
  | [], b => by cases b <;> exact Nat.le_refl _
  | c :: r, true => by
    rw [gp_cons2]
    have h1 := gp_le r true
    have h2 := gp_le r false
    split <;> simp <;> assumption
  | c :: r, false => by
    rw [gp_cons]
    have h1 := gp_le r true
    have h2 := gp_le r false
    split
    · simp; assumption
    · split
      · simp; assumption
      · exact Nat.zero_le _
theorem gp_span : ∀ l : List Int, gp false l = spanN SP l + gp false (l.drop (spanN SP l))
  | [] => rfl
  | c :: r => by
    cases h : inR SP c
    · rw [span_out h, List.drop_zero, Nat.zero_add]
    · rw [span_in h, List.drop_succ_cons, gp_cons, if_pos h, gp_span r]
      omega
theorem span_head (R : List Int) : ∀ l : List Int, ∀ c r, l.drop (spanN R l) = c :: r → inR R c = false
  | [], c, r, h => by simp [span_nil] at h
  | x :: q, c, r, h => by
    cases hx : inR R x
    · rw [span_out hx, List.drop_zero] at h
      injection h with h1 _
      rw [← h1]; exact hx
    · rw [span_in hx, List.drop_succ_cons] at h
      exact span_head R q c r h
theorem gp_stop {l : List Int} (hh : ∀ c r, l = c :: r → inR SP c = false) (h : [59].isPrefixOf l = false) : gp false l = 0 := by
  cases l with
  | nil => rfl
  | cons c r =>
    rw [gp_cons, if_neg (by rw [hh c r rfl]; decide), if_neg]
    intro e
    subst e
    cases h
theorem gp_true : ∀ l : List Int, gp true l = if nlN 10 l < l.length then nlN 10 l + gp false (l.drop (nlN 10 l)) else l.length
  | [] => rfl
  | c :: r => by
    have ih := gp_true r
    rw [gp_cons2]
    by_cases hc : c = 10
    · subst hc
      have hn : nlN 10 ((10 : Int) :: r) = 0 := rfl
      rw [if_pos rfl, hn, if_pos (by simp), List.drop_zero, Nat.zero_add, gp_cons, if_pos (by decide)]
    · have hn : nlN 10 (c :: r) = nlN 10 r + 1 := by
        unfold nlN
        rw [List.takeWhile_cons_of_pos (by rw [Bool.not_eq_true', beq_eq_false_iff_ne]; exact hc), List.length_cons]
      rw [if_neg hc, hn, ih, List.drop_succ_cons, List.length_cons]
      split
      · rw [if_pos (by omega)]; omega
      · rw [if_neg (by omega)]
theorem gp_com {l : List Int} (h : [59].isPrefixOf l = true) : 0 < nlN 10 l ∧ gp false l = if nlN 10 l < l.length then nlN 10 l + gp false (l.drop (nlN 10 l)) else l.length := by
  cases l with
  | nil => cases h
  | cons c r =>
    have hc : c = 59 := by
      simp [List.isPrefixOf] at h
      exact h.symm
    subst hc
    have hn : nlN 10 ((59 : Int) :: r) = nlN 10 r + 1 := by
      unfold nlN
      rw [List.takeWhile_cons_of_pos (by decide), List.length_cons]
    refine ⟨by omega, ?_⟩
    rw [gp_cons, if_neg (by decide), if_pos rfl, gp_true, hn, List.drop_succ_cons, List.length_cons]
    split
    · rw [if_pos (by omega)]; omega
    · rw [if_neg (by omega)]
set_option maxHeartbeats 4000000 in
set_option maxRecDepth 100000 in
theorem gap_any (s : ByteArray) (w : World) (hs : s.size ≤ 1000000) : Calls Try.prog 55 #[.string s] w fun e w' => e = .returned (.int .i64 (gp false (sb s) : Nat)) ∧ Below w.heap.size w w' := by
  have hl := sb_length s
  obtain ⟨G, hG⟩ : ∃ G, G = gp false (sb s) := ⟨_, rfl⟩
  rw [← hG]
  replace hG := Lib.hid hG
  go_enter Try.func55, Try.ntmps55
  go_wp2_with fail
  go_loopw [3] (fun i wr => ∃ k : Nat, i = .int .i64 (k : Int) ∧ k ≤ s.size ∧ Below w.heap.size w wr ∧ Hid (G = k + gp false ((sb s).drop k))) (fun i _ => s.size - (intOf i).toNat)
  case atStart => exact ⟨0, rfl, Nat.zero_le _, Below.refl _ _, Lib.hid (by rw [hG.out, List.drop_zero, Nat.zero_add])⟩
  case round =>
    obtain ⟨k, rfl, hk, hW, hI⟩ := hrel
    have hkI : (k : Int) ≤ (s.size : Int) := by omega
    have HS := Lib.hid (span_any (s.extract k s.size) ⟨#[9, 10, 13, 13, 32, 32]⟩ wr (by rw [ByteArray.size_extract]; omega) (by decide) (by decide) (by decide))
    rw [sb_from, show sb ⟨#[9, 10, 13, 13, 32, 32]⟩ = SP from rfl] at HS
    have hn := span_le SP ((sb s).drop k)
    rw [List.length_drop, hl] at hn
    have hG2 := Lib.hid (hI.out.trans (congrArg (k + ·) (gp_span ((sb s).drop k))))
    have hhd := Lib.hid (span_head SP ((sb s).drop k))
    generalize spanN SP ((sb s).drop k) = n at *
    rw [List.drop_drop] at hG2 hhd
    obtain ⟨m, hm⟩ : ∃ m, m = k + n := ⟨_, rfl⟩
    rw [← hm] at hG2 hhd
    have hmI : (k : Int) + (n : Int) = (m : Int) := by omega
    have hms : m ≤ s.size := by omega
    have hmL : (m : Int) ≤ (s.size : Int) := by omega
    have HP := Lib.hid (fun W => has_any (s.extract m s.size) ⟨#[59]⟩ W)
    rw [sb_from, show sb ⟨#[59]⟩ = [59] from rfl] at HP
    have HX := Lib.hid (fun W => ix_any (s.extract m s.size) 10 (by decide) W)
    rw [sb_from, ByteArray.size_extract, Nat.min_self] at HX
    have hG3 := Lib.hid (show G = m + gp false ((sb s).drop m) from by rw [hG2.out]; omega)
    have hwm : IntKind.i64.wrap ((k : Int) + (n : Int)) = (m : Int) := by rw [IntWalk.i64_in _ ⟨by omega, by omega⟩]; omega
    have hkm : k ≤ m := by omega
    replace hm := Lib.hid hm
    replace hmI := Lib.hid hmI
    clear hG2 hI hn
    go_wp2_with fail
    refine Calls.mono HS.out ?_
    rintro e w1 ⟨rfl, h1⟩
    have g1 := hW.trans (h1.mono hW.size)
    clear h1 HS
    go_wp2_with fail
    refine Calls.mono (HP.out _) ?_
    rintro e w2 ⟨rfl, hw⟩
    rw [hw]
    clear hw HP
    cases hpre : [59].isPrefixOf ((sb s).drop m)
    · have hv := Lib.hid (show G = m from by rw [hG3.out, gp_stop hhd.out hpre, Nat.add_zero])
      go_wp2_with fail
      go_ret
      exact ⟨by rw [hv.out]; rfl, g1⟩
    · obtain ⟨c1, c2⟩ := gp_com hpre
      rw [List.length_drop, hl, List.drop_drop] at c2
      generalize nlN 10 ((sb s).drop m) = j at *
      by_cases hj : j < s.size - m
      · rw [if_pos hj] at c2
        rw [if_pos hj] at HX
        have hv := Lib.hid (show G = (m + j) + gp false ((sb s).drop (m + j)) from by rw [hG3.out, c2]; omega)
        clear c2
        have hj0 : ¬ (j : Int) < 0 := by omega
        have hwj : IntKind.i64.wrap ((m : Int) + (j : Int)) = (m : Int) + (j : Int) := IntWalk.i64_in _ ⟨by omega, by omega⟩
        go_wp2_with fail
        refine Calls.mono (HX.out _) ?_
        rintro e w3 ⟨rfl, hw⟩
        rw [hw]
        clear hw HX
        go_wp2_with fail
        go_roundw
        case rel => exact ⟨m + j, by go_num, by omega, g1, hv⟩
        case measure => simp [intOf]; omega
      · rw [if_neg hj] at c2
        rw [if_neg hj] at HX
        have hv := Lib.hid (show G = s.size from by rw [hG3.out, c2]; omega)
        clear c2
        go_wp2_with fail
        refine Calls.mono (HX.out _) ?_
        rintro e w3 ⟨rfl, hw⟩
        rw [hw]
        clear hw HX
        go_wp2_with fail
        go_ret
        exact ⟨by rw [hv.out]; rfl, g1⟩

def BARE : List Int := [97, 122, 48, 57, 45, 45, 35, 35]
/-- a word, Number or Integer -/
def bareF (l : List Int) : Tk × Nat × Int := if (formF (l.take (spanN BARE l))).2 = 0 then (⟨(formF (l.take (spanN BARE l))).1, l.take (spanN BARE l), 0⟩, spanN BARE l, 0) else (⟨0, [], 0⟩, 0, (formF (l.take (spanN BARE l))).2)
/-- the token with which a text begins, its size, or an error with its place -/
def firstF : List Int → Tk × Nat × Int
  | [] => (⟨6, [], 0⟩, 0, 0)
  | c :: r => if c = 40 then (⟨0, [], 0⟩, 1, 0) else if c = 41 then (⟨1, [], 0⟩, 1, 0) else if c = 34 then qdGo r.length 1 [] r else bareF (c :: r)
theorem str_sb (t : ByteArray) : strOfNums (sb t) = t := by
  have h := sb_of_nums (sb_bytes t)
  have hd : ∀ a b : ByteArray, sb a = sb b → a = b := by
    intro a b e
    cases a with | mk a => cases b with | mk b =>
    congr 1
    apply Array.ext'
    unfold sb at e
    simp only at e
    exact (List.map_inj_right (fun x y h => UInt8.toNat.inj (Int.natCast_inj.1 h))).1 e
  exact hd _ _ h
set_option maxHeartbeats 4000000 in
set_option maxRecDepth 100000 in
theorem bare_any (s : ByteArray) (w : World) (hs : s.size ≤ 1000000) : Calls Try.prog 62 #[.string s] w (TkPost w (bareF (sb s))) := by
  have hl := sb_length s
  have HS := Lib.hid (fun W => span_any s ⟨#[97, 122, 48, 57, 45, 45, 35, 35]⟩ W (by omega) (by decide) (by decide) (by decide))
  rw [show sb ⟨#[97, 122, 48, 57, 45, 45, 35, 35]⟩ = BARE from rfl] at HS
  have hn := span_le BARE (sb s)
  rw [hl] at hn
  have HV := Lib.hid (show bareF (sb s) = if (formF ((sb s).take (spanN BARE (sb s)))).2 = 0 then (⟨(formF ((sb s).take (spanN BARE (sb s)))).1, (sb s).take (spanN BARE (sb s)), 0⟩, spanN BARE (sb s), 0) else (⟨0, [], 0⟩, 0, (formF ((sb s).take (spanN BARE (sb s)))).2) from rfl)
  obtain ⟨V, hV⟩ : ∃ V, V = bareF (sb s) := ⟨_, rfl⟩
  rw [← hV] at HV ⊢
  clear hV
  generalize spanN BARE (sb s) = n at *
  have HF := Lib.hid (fun W => form_any (s.extract 0 n) W (by rw [ByteArray.size_extract]; omega))
  rw [sb_upto] at HF
  have HT := Lib.hid (show strOfNums ((sb s).take n) = s.extract 0 n from by rw [← sb_upto, str_sb])
  generalize formF ((sb s).take n) = f at *
  obtain ⟨f1, f2⟩ := f
  simp only at HV HF
  have hnI : (n : Int) ≤ (s.size : Int) := by omega
  have hb0 := heap_alloc_new w (.cells #[.int .i64 0, .string ⟨#[]⟩, .int .i64 0] 43)
  have hB0 := (Below.refl w.heap.size w).alloc (Nat.le_refl _) (.cells #[.int .i64 0, .string ⟨#[]⟩, .int .i64 0] 43)
  have hz : w.heap.size < (w.alloc (.cells #[.int .i64 0, .string ⟨#[]⟩, .int .i64 0] 43)).heap.size := by simp
  replace hb0 := Lib.hid hb0
  go_enter Try.func62, Try.ntmps62
  go_wp2_with fail
  generalize (w.alloc (.cells #[.int .i64 0, .string ⟨#[]⟩, .int .i64 0] 43)) = w0 at *
  refine Calls.mono (HS.out _) ?_
  clear HS
  rintro e w1 ⟨rfl, h1⟩
  have hb1 := Lib.hid ((h1.block _ hz).trans hb0.out)
  have hz1 := Nat.lt_of_lt_of_le hz h1.size
  have g1 := hB0.trans (h1.mono hB0.size)
  clear h1 hb0 hz hB0
  go_wp2_with fail
  refine Calls.mono (HF.out _) ?_
  clear HF
  rintro e w2 ⟨rfl, h2⟩
  have hb2 := (h2.block _ hz1).trans hb1.out
  have g2 := g1.trans (h2.mono g1.size)
  clear h2 hb1 hz1 g1
  obtain ⟨⟨p0, p1, p2⟩, hf⟩ := three_at3 hb2
  replace hb2 := Lib.hid hb2
  by_cases hf0 : f2 = 0
  · subst hf0
    have hv := Lib.hid (show V = (⟨f1, (sb s).take n, 0⟩, n, 0) from by rw [HV.out, if_pos rfl])
    clear HV
    go_wp2_with fail
    refine bodyPost_ret (v := .tuple #[.agg #[.int .i64 f1, .string (s.extract 0 n), .int .i64 0], .int .i64 (n : Nat), .int .i64 0]) (by simp [results, Try.results62, go_sem, p0, p1, p2]) rfl ?_
    rw [hv.out]
    refine ⟨?_, set3_below g2 (Nat.le_refl _) _ _ _⟩
    show _ = Ending.returned (.tuple #[.agg #[.int .i64 f1, .string (strOfNums ((sb s).take n)), .int .i64 0], .int .i64 (n : Nat), .int .i64 0])
    rw [HT.out]
  · have hfb : (f2 == 0) = false := by rw [beq_eq_false_iff_ne]; exact hf0
    have hv := Lib.hid (show V = (⟨0, [], 0⟩, 0, f2) from by rw [HV.out, if_neg hf0])
    clear HV
    replace hf0 := Lib.hid hf0
    go_wp2_with fail
    refine bodyPost_ret (v := .tuple #[.agg #[.int .i64 0, .string ⟨#[]⟩, .int .i64 0], .int .i64 0, .int .i64 f2]) (by simp [results, Try.results62, go_sem, p0, p1, p2]) rfl ?_
    rw [hv.out]
    exact ⟨rfl, set3_below g2 (Nat.le_refl _) _ _ _⟩
theorem first_cons (c : Int) (r : List Int) : firstF (c :: r) = if c = 40 then (⟨0, [], 0⟩, 1, 0) else if c = 41 then (⟨1, [], 0⟩, 1, 0) else if c = 34 then qdGo r.length 1 [] r else bareF (c :: r) := rfl
theorem str_emp {s : ByteArray} (h : 0 < s.size) : (s.toList == ([] : List UInt8)) = false := by
  rw [ByteArray.toList_eq]
  cases hq : s.data.toList with
  | nil => exfalso; have : s.data.size = 0 := by rw [← Array.length_toList, hq]; rfl
           have h2 : s.data.size = s.size := rfl
           omega
  | cons a l => rfl
set_option maxHeartbeats 4000000 in
set_option maxRecDepth 100000 in
theorem first_any (s : ByteArray) (w : World) (hs : s.size ≤ 1000000) : Calls Try.prog 56 #[.string s] w (TkPost w (firstF (sb s))) := by
  have hl := sb_length s
  have hb0 := heap_alloc_new w (.cells #[.int .i64 0, .string ⟨#[]⟩, .int .i64 0] 43)
  have hB0 := (Below.refl w.heap.size w).alloc (Nat.le_refl _) (.cells #[.int .i64 0, .string ⟨#[]⟩, .int .i64 0] 43)
  have hz : w.heap.size < (w.alloc (.cells #[.int .i64 0, .string ⟨#[]⟩, .int .i64 0] 43)).heap.size := by simp
  obtain ⟨V, hV⟩ : ∃ V, V = firstF (sb s) := ⟨_, rfl⟩
  rw [← hV]
  have HQ := Lib.hid (fun (h : 1 ≤ s.size) => quoted_any s (w.alloc (.cells #[.int .i64 0, .string ⟨#[]⟩, .int .i64 0] 43)) h (by omega))
  have HBa := Lib.hid (bare_any s (w.alloc (.cells #[.int .i64 0, .string ⟨#[]⟩, .int .i64 0] 43)) hs)
  by_cases h0 : s.size = 0
  · have he : s = ⟨#[]⟩ := ByteArray.size_eq_zero_iff.1 h0
    have hv := Lib.hid (show V = (⟨6, [], 0⟩, 0, 0) from by rw [hV, he]; rfl)
    have ht : (s.toList == ([] : List UInt8)) = true := by rw [he, ByteArray.toList_eq]; rfl
    clear hV he h0 HQ HBa hl
    clear hb0 hB0 hz
    go_enter Try.func56, Try.ntmps56
    go_wp2_with fail
    refine bodyPost_ret (v := .tuple #[.agg #[.int .i64 6, .string ⟨#[]⟩, .int .i64 0], .int .i64 0, .int .i64 0]) (by simp [results, Try.results56, go_sem]) rfl ?_
    rw [hv.out]
    exact ⟨rfl, (Below.refl _ _).alloc (Nat.le_refl _) _⟩
  · have ht := str_emp (s := s) (by omega)
    obtain ⟨x, hx, hdx, ix⟩ := sb_get s 0 (by omega)
    rw [List.drop_zero] at hdx
    rw [show ((0 : Nat) : Int) = 0 from rfl] at ix
    have hv1 : V = _ := hV.trans ((congrArg firstF hdx).trans (first_cons _ _))
    have hlr : ((sb s).drop (0 + 1)).length = s.size - 1 := by rw [List.length_drop, hl]
    rw [hlr] at hv1
    have hbar : bareF ((x : Int) :: (sb s).drop (0 + 1)) = bareF (sb s) := by rw [← hdx]
    rw [hbar] at hv1
    have hq1 : 1 ≤ s.size := by omega
    clear hV hl hlr hbar
    replace hdx := Lib.hid hdx
    replace h0 := Lib.hid h0
    by_cases ha : x = 40
    · subst ha
      have hv := Lib.hid (show V = (⟨0, [], 0⟩, 1, 0) from by rw [hv1, if_pos (by decide)])
      clear hv1 HQ HBa
      clear hb0 hB0 hz
      go_enter Try.func56, Try.ntmps56
      go_wp2_with fail
      refine bodyPost_ret (v := .tuple #[.agg #[.int .i64 0, .string ⟨#[]⟩, .int .i64 0], .int .i64 1, .int .i64 0]) (by simp [results, Try.results56, go_sem]) rfl ?_
      rw [hv.out]
      exact ⟨rfl, (Below.refl _ _).alloc (Nat.le_refl _) _⟩
    · have ha1 : ((x : Int) == 40) = false := by rw [beq_eq_false_iff_ne]; omega
      rw [if_neg (by omega)] at hv1
      replace ha := Lib.hid ha
      by_cases hb : x = 41
      · subst hb
        have hv := Lib.hid (show V = (⟨1, [], 0⟩, 1, 0) from by rw [hv1, if_pos (by decide)])
        clear hv1 HQ HBa
        clear hb0 hB0 hz
        go_enter Try.func56, Try.ntmps56
        go_wp2_with fail
        refine bodyPost_ret (v := .tuple #[.agg #[.int .i64 1, .string ⟨#[]⟩, .int .i64 0], .int .i64 1, .int .i64 0]) (by simp [results, Try.results56, go_sem]) rfl ?_
        rw [hv.out]
        exact ⟨rfl, (Below.refl _ _).alloc (Nat.le_refl _) _⟩
      · have hb1 : ((x : Int) == 41) = false := by rw [beq_eq_false_iff_ne]; omega
        rw [if_neg (by omega)] at hv1
        replace hb := Lib.hid hb
        by_cases hc : x = 34
        · subst hc
          rw [if_pos (by decide)] at hv1
          have hQ := HQ.out hq1
          rw [← hv1] at hQ
          replace hQ := Lib.hid hQ
          clear hv1 HQ HBa
          obtain ⟨⟨tk, tt, tp⟩, sz, er⟩ := V
          replace hb0 := Lib.hid hb0
          go_enter Try.func56, Try.ntmps56
          go_wp2_with fail
          generalize (w.alloc (.cells #[.int .i64 0, .string ⟨#[]⟩, .int .i64 0] 43)) = w0 at *
          refine Calls.mono hQ.out ?_
          rintro e w2 ⟨rfl, h2⟩
          have hb2 := (h2.block _ hz).trans hb0.out
          have g2 := hB0.trans (h2.mono hB0.size)
          clear h2
          obtain ⟨⟨p0, p1, p2⟩, hf⟩ := three_at3 hb2
          replace hb2 := Lib.hid hb2
          simp only [Tk.val]
          go_wp2_with fail
          refine bodyPost_ret (v := .tuple #[.agg #[.int .i64 tk, .string (strOfNums tt), .int .i64 (tp : Nat)], .int .i64 (sz : Nat), .int .i64 er]) (by simp [results, Try.results56, go_sem, p0, p1, p2]) rfl ?_
          exact ⟨rfl, set3_below g2 (Nat.le_refl _) _ _ _⟩
        · have hc1 : ((x : Int) == 34) = false := by rw [beq_eq_false_iff_ne]; omega
          rw [if_neg (by omega)] at hv1
          replace hc := Lib.hid hc
          rw [← hv1] at HBa
          clear hv1 HQ
          obtain ⟨⟨tk, tt, tp⟩, sz, er⟩ := V
          replace hb0 := Lib.hid hb0
          go_enter Try.func56, Try.ntmps56
          go_wp2_with fail
          generalize (w.alloc (.cells #[.int .i64 0, .string ⟨#[]⟩, .int .i64 0] 43)) = w0 at *
          refine Calls.mono HBa.out ?_
          rintro e w2 ⟨rfl, h2⟩
          have hb2 := (h2.block _ hz).trans hb0.out
          have g2 := hB0.trans (h2.mono hB0.size)
          clear h2
          obtain ⟨⟨p0, p1, p2⟩, hf⟩ := three_at3 hb2
          replace hb2 := Lib.hid hb2
          simp only [Tk.val]
          go_wp2_with fail
          refine bodyPost_ret (v := .tuple #[.agg #[.int .i64 tk, .string (strOfNums tt), .int .i64 (tp : Nat)], .int .i64 (sz : Nat), .int .i64 er]) (by simp [results, Try.results56, go_sem, p0, p1, p2]) rfl ?_
          exact ⟨rfl, set3_below g2 (Nat.le_refl _) _ _ _⟩
end Go.Proofs.Ytpeeekgfcofbkaa
