/-
  THE FORMS of words, Numbers and Integers. Written by gen/genlxform.py.
-/
import Derived.Test.YtpeeekgfcofbkaaLxW
import Derived.Shelf.Strings.Prefix
import Derived.Shelf.Small.Strs
namespace Go.Proofs.Ytpeeekgfcofbkaa
open Go.RowKit

theorem u8_eq (a b : UInt8) : (((a.toNat : Int)) == ((b.toNat : Int))) = (a == b) := by
  rw [Bool.eq_iff_iff, beq_iff_eq, beq_iff_eq, Int.natCast_inj]
  exact ⟨fun h => UInt8.toNat.inj h, fun h => by rw [h]⟩
theorem pre_sb (s p : ByteArray) : Lib.hasPrefix s.data.toList p.data.toList = (sb p).isPrefixOf (sb s) := by
  unfold Lib.hasPrefix sb
  generalize p.data.toList = a
  generalize s.data.toList = b
  induction a generalizing b with
  | nil => simp [List.isPrefixOf]
  | cons x a ih =>
    cases b with
    | nil => rfl
    | cons y b =>
      simp only [List.map_cons, List.isPrefixOf, u8_eq]
      rw [ih]
/-- how far the first c lies -/
def nlN (c : Int) (l : List Int) : Nat := (l.takeWhile (fun x => !(x == c))).length
theorem nl_le (c : Int) (l : List Int) : nlN c l ≤ l.length := by
  unfold nlN
  induction l with
  | nil => exact Nat.le_refl _
  | cons x l ih =>
    rw [List.takeWhile_cons]
    split
    · simp only [List.length_cons]; omega
    · exact Nat.zero_le _
theorem ix_sb (s : ByteArray) (c : UInt8) : Lib.indexByte s.data.toList c = if nlN (c.toNat : Int) (sb s) < s.size then ((nlN (c.toNat : Int) (sb s) : Nat) : Int) else -1 := by
  rw [← sb_length]
  unfold sb
  generalize s.data.toList = l
  induction l with
  | nil => rfl
  | cons x l ih =>
    unfold nlN at ih ⊢
    rw [Lib.indexByte, ih, List.map_cons, List.takeWhile_cons, u8_eq]
    cases hx : (x == c)
    · simp only [Bool.not_false, if_true, Bool.false_eq_true, if_false, List.length_cons]
      split
      · rename_i h
        rw [if_neg (by rw [beq_iff_eq]; omega), if_pos (by omega)]
        omega
      · rename_i h
        rw [if_pos (by decide), if_neg (by omega)]
    · simp
theorem has_any (s p : ByteArray) (w : World) : Calls Try.prog 59 #[.string s, .string p] w fun e w' => e = .returned (.bool ((sb p).isPrefixOf (sb s))) ∧ w' = w := by
  have h := Any.strings_HasPrefix Try.lays99 s p w
  rw [pre_sb] at h
  exact h
theorem ix_any (s : ByteArray) (c : Nat) (hc : c < 256) (w : World) : Calls Try.prog 60 #[.string s, .int .u8 c] w fun e w' => e = .returned (.int .i64 (if nlN c (sb s) < s.size then ((nlN c (sb s) : Nat) : Int) else -1)) ∧ w' = w := by
  have h := Any.strings_IndexByte Try.lays137 s (c : Int) w
  rw [ix_sb] at h
  have e : (((c : Int).toNat.toUInt8).toNat : Int) = (c : Int) := by
    rw [Int.toNat_natCast]
    simp
    omega
  rw [e] at h
  exact h
def consN (R l : List Int) : Bool := !l.isEmpty && spanN R l == l.length
set_option maxHeartbeats 1000000 in
theorem consists_any (s R : ByteArray) (w : World) (hs : s.size ≤ 100000000) (h2 : R.size % 2 = 0) (hR : R.size ≤ 1000) (h128 : ∀ c ∈ sb R, c < 128) :
    Calls Try.prog 73 #[.string s, .string R] w fun e w' => e = .returned (.bool (consN (sb R) (sb s))) ∧ Below w.heap.size w w' := by
  have hS := span_any s R w hs h2 hR h128
  have hl := sb_length s
  by_cases h0 : s.size = 0
  · have hv := Lib.hid (show consN (sb R) (sb s) = false from by
      have : sb s = [] := List.length_eq_zero_iff.1 (by omega)
      unfold consN
      rw [this]
      rfl)
    have he : s = ⟨#[]⟩ := ByteArray.size_eq_zero_iff.1 h0
    have ht : (s.toList == ([] : List UInt8)) = true := by rw [he, ByteArray.toList_eq]; rfl
    rw [hv.out]
    clear hS hv hl
    subst he
    go_enter Try.func73, Try.ntmps73
    go_wp2_with fail
    go_ret
    exact ⟨rfl, Below.refl _ _⟩
  · have ht : (s.toList == ([] : List UInt8)) = false := by
      rw [ByteArray.toList_eq]
      cases hq : s.data.toList with
      | nil => exfalso; apply h0; show s.data.size = 0; rw [← Array.length_toList, hq]; rfl
      | cons a l => rfl
    have hv := Lib.hid (show consN (sb R) (sb s) = (spanN (sb R) (sb s) == s.size) from by
      unfold consN
      rw [hl]
      cases hq : sb s with
      | nil => rw [hq] at hl; simp at hl; omega
      | cons a l => rfl)
    rw [hv.out]
    clear hv
    generalize spanN (sb R) (sb s) = n at hS ⊢
    have hcast := Lib.hid (show (((n : Int)) == ((s.size : Int))) = (n == s.size) from by rw [Bool.eq_iff_iff, beq_iff_eq, beq_iff_eq, Int.natCast_inj])
    rw [← hcast.out]
    go_enter Try.func73, Try.ntmps73
    go_wp2_with fail
    refine Calls.mono hS ?_
    rintro e w2 ⟨rfl, h22⟩
    go_wp2_with fail
    go_ret
    exact ⟨rfl, h22⟩
set_option maxHeartbeats 1000000 in
theorem longest_any (s : ByteArray) (m e : Int) (w : World) : Calls Try.prog 74 #[.string s, .int .i64 m, .int .i64 e] w fun en w' => en = .returned (.int .i64 (if m < (s.size : Int) then e else 0)) ∧ w' = w := by
  by_cases h : m < (s.size : Int)
  · rw [if_pos h]
    go_enter Try.func74, Try.ntmps74
    go_wp2_with fail
    go_ret
    exact ⟨rfl, rfl⟩
  · rw [if_neg h]
    go_enter Try.func74, Try.ntmps74
    go_wp2_with fail
    go_ret
    exact ⟨rfl, rfl⟩
theorem str_eq1 (s : ByteArray) (c : UInt8) : (s.toList == [c]) = (sb s == [(c.toNat : Int)]) := by
  rw [ByteArray.toList_eq]
  unfold sb
  generalize s.data.toList = l
  match l with
  | [] => rfl
  | [x] =>
    rw [Bool.eq_iff_iff, beq_iff_eq, beq_iff_eq]
    simp only [List.map_cons, List.map_nil, List.cons.injEq, and_true, Int.natCast_inj]
    exact ⟨fun h => by rw [h], fun h => UInt8.toNat.inj h⟩
  | x :: y :: r =>
    rw [Bool.eq_iff_iff, beq_iff_eq, beq_iff_eq]
    simp
def limN (l : List Int) (m e : Int) : Int := if m < (l.length : Int) then e else 0
/-- the form of a word, Number or Integer: its kind, its error -/
def formF (l : List Int) : Int × Int :=
  if [35, 98].isPrefixOf l && consN [48, 49] (l.drop 2) then (3, limN l 66 4)
  else if [35, 120].isPrefixOf l && consN [48, 57, 97, 102] (l.drop 2) then (3, limN l 18 4)
  else if consN [48, 57] l && (!(l.getD 0 0 == 48) || l == [48]) then (4, limN l 13 4)
  else if consN [97, 122, 48, 57, 45, 45] l && inR [97, 122] (l.getD 0 0) then (2, limN l 16 6)
  else (0, 2)
theorem cons_pos {R l : List Int} (h : consN R l = true) : 0 < l.length := by
  cases l with
  | nil => cases h
  | cons a l => simp
theorem pre_two {a b : Int} {l : List Int} (h : [a, b].isPrefixOf l = true) : 2 ≤ l.length := by
  have := List.IsPrefix.length_le (List.isPrefixOf_iff_prefix.1 h)
  simpa using this
set_option maxHeartbeats 8000000 in
set_option maxRecDepth 100000 in
theorem form_any (s : ByteArray) (w : World) (hs : s.size ≤ 100000000) : Calls Try.prog 69 #[.string s] w fun e w' => e = .returned (.tuple #[.int .i64 (formF (sb s)).1, .int .i64 (formF (sb s)).2]) ∧ Below w.heap.size w w' := by
  have hl := sb_length s
  have HA := Lib.hid (fun W => has_any s ⟨#[35, 98]⟩ W)
  have HB := Lib.hid (fun W => has_any s ⟨#[35, 120]⟩ W)
  have HC := Lib.hid (fun W => consists_any (s.extract 2 s.size) ⟨#[48, 49]⟩ W (by rw [ByteArray.size_extract]; omega) (by decide) (by decide) (by decide))
  have HD := Lib.hid (fun W => consists_any (s.extract 2 s.size) ⟨#[48, 57, 97, 102]⟩ W (by rw [ByteArray.size_extract]; omega) (by decide) (by decide) (by decide))
  have HE := Lib.hid (fun W => consists_any s ⟨#[48, 57]⟩ W hs (by decide) (by decide) (by decide))
  have HF := Lib.hid (fun W => consists_any s ⟨#[97, 122, 48, 57, 45, 45]⟩ W hs (by decide) (by decide) (by decide))
  rw [sb_from] at HC HD
  obtain ⟨a1, ha1⟩ : ∃ z, z = [35, 98].isPrefixOf (sb s) := ⟨_, rfl⟩
  obtain ⟨a2, ha2⟩ : ∃ z, z = [35, 120].isPrefixOf (sb s) := ⟨_, rfl⟩
  obtain ⟨b1, hb1⟩ : ∃ z, z = consN [48, 49] ((sb s).drop 2) := ⟨_, rfl⟩
  obtain ⟨b2, hb2⟩ : ∃ z, z = consN [48, 57, 97, 102] ((sb s).drop 2) := ⟨_, rfl⟩
  obtain ⟨d3, hd3⟩ : ∃ z, z = consN [48, 57] (sb s) := ⟨_, rfl⟩
  obtain ⟨d4, hd4⟩ : ∃ z, z = consN [97, 122, 48, 57, 45, 45] (sb s) := ⟨_, rfl⟩
  rw [show sb ⟨#[35, 98]⟩ = [35, 98] from rfl, ← ha1] at HA
  rw [show sb ⟨#[35, 120]⟩ = [35, 120] from rfl, ← ha2] at HB
  rw [show sb ⟨#[48, 49]⟩ = [48, 49] from rfl, ← hb1] at HC
  rw [show sb ⟨#[48, 57, 97, 102]⟩ = [48, 57, 97, 102] from rfl, ← hb2] at HD
  rw [show sb ⟨#[48, 57]⟩ = [48, 57] from rfl, ← hd3] at HE
  rw [show sb ⟨#[97, 122, 48, 57, 45, 45]⟩ = [97, 122, 48, 57, 45, 45] from rfl, ← hd4] at HF
  have HX := Lib.hid (show 0 < s.size → ∃ x : Nat, x < 256 ∧ (sb s).getD 0 0 = (x : Int) ∧ ∀ W : World, (Instr.index 9 (.string s) (.int .i64 0)).run Try.prog W = .ok (.int .u8 x) W from fun h => by
    obtain ⟨x, hx, hd, hi⟩ := sb_get s 0 h
    rw [List.drop_zero] at hd
    exact ⟨x, hx, by rw [hd]; rfl, hi⟩)
  have H2 := Lib.hid (show a1 = true → 2 ≤ s.size from fun h => by rw [← hl]; exact pre_two (ha1 ▸ h))
  have H3 := Lib.hid (show a2 = true → 2 ≤ s.size from fun h => by rw [← hl]; exact pre_two (ha2 ▸ h))
  have H4 := Lib.hid (show d3 = true → 0 < s.size from fun h => by rw [← hl]; exact cons_pos (hd3 ▸ h))
  have H5 := Lib.hid (show d4 = true → 0 < s.size from fun h => by rw [← hl]; exact cons_pos (hd4 ▸ h))
  have HL := Lib.hid (fun m e => show limN (sb s) m e = if m < (s.size : Int) then e else 0 from by unfold limN; rw [hl])
  have HG := Lib.hid (fun m e W => longest_any s m e W)
  have HV := Lib.hid (show formF (sb s) = if a1 && b1 then (3, limN (sb s) 66 4) else if a2 && b2 then (3, limN (sb s) 18 4) else if d3 && (!((sb s).getD 0 0 == 48) || sb s == [48]) then (4, limN (sb s) 13 4) else if d4 && inR [97, 122] ((sb s).getD 0 0) then (2, limN (sb s) 16 6) else (0, 2) from by rw [ha1, ha2, hb1, hb2, hd3, hd4]; rfl)
  have HQ := Lib.hid (str_eq1 s 48)
  obtain ⟨FV, hFV⟩ : ∃ z, z = formF (sb s) := ⟨_, rfl⟩
  rw [← hFV] at HV ⊢
  clear ha1 ha2 hb1 hb2 hd3 hd4 hl hFV
  go_enter Try.func69, Try.ntmps69
  go_wp2_with fail
  have b0 : Below w.heap.size w w := Below.refl _ _
  cases a1
  · refine Calls.mono (HA.out _) ?_
    rintro e w1 ⟨rfl, hw⟩
    rw [hw]
    clear hw
    rw [show (false && b1) = false from rfl] at HV
    go_wp2_with fail
    cases a2
    · refine Calls.mono (HB.out _) ?_
      rintro e w2 ⟨rfl, hw⟩
      rw [hw]
      clear hw
      rw [show (false && b2) = false from rfl] at HV
      go_wp2_with fail
      cases d3
      · refine Calls.mono (HE.out _) ?_
        rintro e w3 ⟨rfl, h3⟩
        have g3 := b0.trans (h3.mono b0.size)
        clear h3
        rw [Bool.false_and] at HV
        go_wp2_with fail
        cases d4
        · refine Calls.mono (HF.out _) ?_
          rintro e w4 ⟨rfl, h4⟩
          have g4 := g3.trans (h4.mono g3.size)
          clear h4
          rw [Bool.false_and] at HV
          go_wp2_with fail
          go_ret2
          have hv := HV.out
          simp at hv
          exact ⟨by rw [hv]; rfl, g4⟩
        · refine Calls.mono (HF.out _) ?_
          rintro e w4 ⟨rfl, h4⟩
          have g4 := g3.trans (h4.mono g3.size)
          clear h4
          have hpos5 := H5.out rfl
          obtain ⟨y, hy, hy0, iy⟩ := HX.out hpos5
          rw [Bool.true_and, hy0] at HV
          have HWi := Lib.hid (fun W => withinB_any y ⟨#[97, 122]⟩ W (by decide) (by decide))
          rw [show sb ⟨#[97, 122]⟩ = [97, 122] from rfl] at HWi
          go_wp2_with fail
          generalize inR [97, 122] ((y : Nat) : Int) = c4 at *
          refine Calls.mono (HWi.out _) ?_
          rintro e w5 ⟨rfl, hw⟩
          rw [hw]
          clear hw
          cases c4
          · go_wp2_with fail
            go_ret2
            have hv := HV.out
            simp at hv
            exact ⟨by rw [hv]; rfl, g4⟩
          · go_wp2_with fail
            refine Calls.mono (HG.out 16 6 _) ?_
            rintro e wz ⟨rfl, hw⟩
            rw [hw]
            clear hw wz
            have hlm := Lib.hid (HL.out 16 6)
            rw [← hlm.out]
            clear hlm
            go_wp2_with fail
            go_ret2
            have hv := HV.out
            simp at hv
            exact ⟨by rw [hv]; rfl, g4⟩
      · refine Calls.mono (HE.out _) ?_
        rintro e w3 ⟨rfl, h3⟩
        have g3 := b0.trans (h3.mono b0.size)
        clear h3
        have hpos := H4.out rfl
        obtain ⟨x, hx, hx0, ix⟩ := HX.out hpos
        rw [Bool.true_and, hx0] at HV
        by_cases hx8 : x = 48
        · subst hx8
          rw [show (!(((48 : Nat) : Int) == 48)) = false from rfl, Bool.false_or] at HV
          obtain ⟨q1, hq1⟩ : ∃ z, z = (sb s == [48]) := ⟨_, rfl⟩
          rw [← hq1] at HV
          have hq : (s.toList == [(48 : UInt8)]) = q1 := by rw [HQ.out, hq1]; rfl
          clear hq1
          cases q1
          · go_wp2_with fail
            cases d4
            · refine Calls.mono (HF.out _) ?_
              rintro e w6 ⟨rfl, h6⟩
              have g6 := g3.trans (h6.mono g3.size)
              clear h6
              rw [Bool.false_and] at HV
              go_wp2_with fail
              go_ret2
              have hv := HV.out
              simp at hv
              exact ⟨by rw [hv]; rfl, g6⟩
            · refine Calls.mono (HF.out _) ?_
              rintro e w6 ⟨rfl, h6⟩
              have g6 := g3.trans (h6.mono g3.size)
              clear h6
              rw [Bool.true_and] at HV
              have HWi := Lib.hid (fun W => withinB_any 48 ⟨#[97, 122]⟩ W (by decide) (by decide))
              rw [show sb ⟨#[97, 122]⟩ = [97, 122] from rfl] at HWi
              go_wp2_with fail
              generalize inR [97, 122] ((48 : Nat) : Int) = c4 at *
              refine Calls.mono (HWi.out _) ?_
              rintro e w7 ⟨rfl, hw⟩
              rw [hw]
              clear hw
              cases c4
              · go_wp2_with fail
                go_ret2
                have hv := HV.out
                simp at hv
                exact ⟨by rw [hv]; rfl, g6⟩
              · go_wp2_with fail
                refine Calls.mono (HG.out 16 6 _) ?_
                rintro e wz ⟨rfl, hw⟩
                rw [hw]
                clear hw wz
                have hlm := Lib.hid (HL.out 16 6)
                rw [← hlm.out]
                clear hlm
                go_wp2_with fail
                go_ret2
                have hv := HV.out
                simp at hv
                exact ⟨by rw [hv]; rfl, g6⟩
          · go_wp2_with fail
            refine Calls.mono (HG.out 13 4 _) ?_
            rintro e wz ⟨rfl, hw⟩
            rw [hw]
            clear hw wz
            have hlm := Lib.hid (HL.out 13 4)
            rw [← hlm.out]
            clear hlm
            go_wp2_with fail
            go_ret2
            have hv := HV.out
            simp at hv
            exact ⟨by rw [hv]; rfl, g3⟩
        · have hxb : ((x : Int) == 48) = false := by rw [beq_eq_false_iff_ne]; omega
          have hxn : ((x : Int) != 48) = true := by unfold bne; rw [hxb]; rfl
          rw [hxb, Bool.not_false, Bool.true_or] at HV
          replace hx8 := Lib.hid hx8
          go_wp2_with fail
          refine Calls.mono (HG.out 13 4 _) ?_
          rintro e wz ⟨rfl, hw⟩
          rw [hw]
          clear hw wz
          have hlm := Lib.hid (HL.out 13 4)
          rw [← hlm.out]
          clear hlm
          go_wp2_with fail
          go_ret2
          have hv := HV.out
          simp at hv
          exact ⟨by rw [hv]; rfl, g3⟩
    · refine Calls.mono (HB.out _) ?_
      rintro e w8 ⟨rfl, hw⟩
      rw [hw]
      clear hw
      have h2s := H3.out rfl
      have h2i : (2 : Int) ≤ (s.size : Int) := by omega
      go_wp2_with fail
      refine Calls.mono (HD.out _) ?_
      rintro e w9 ⟨rfl, h9⟩
      have g9 := b0.trans (h9.mono b0.size)
      clear h9
      cases b2
      · rw [show (true && false) = false from rfl] at HV
        go_wp2_with fail
        cases d3
        · refine Calls.mono (HE.out _) ?_
          rintro e w10 ⟨rfl, h10⟩
          have g10 := g9.trans (h10.mono g9.size)
          clear h10
          rw [Bool.false_and] at HV
          go_wp2_with fail
          cases d4
          · refine Calls.mono (HF.out _) ?_
            rintro e w11 ⟨rfl, h11⟩
            have g11 := g10.trans (h11.mono g10.size)
            clear h11
            rw [Bool.false_and] at HV
            go_wp2_with fail
            go_ret2
            have hv := HV.out
            simp at hv
            exact ⟨by rw [hv]; rfl, g11⟩
          · refine Calls.mono (HF.out _) ?_
            rintro e w11 ⟨rfl, h11⟩
            have g11 := g10.trans (h11.mono g10.size)
            clear h11
            have hpos5 := H5.out rfl
            obtain ⟨y, hy, hy0, iy⟩ := HX.out hpos5
            rw [Bool.true_and, hy0] at HV
            have HWi := Lib.hid (fun W => withinB_any y ⟨#[97, 122]⟩ W (by decide) (by decide))
            rw [show sb ⟨#[97, 122]⟩ = [97, 122] from rfl] at HWi
            go_wp2_with fail
            generalize inR [97, 122] ((y : Nat) : Int) = c4 at *
            refine Calls.mono (HWi.out _) ?_
            rintro e w12 ⟨rfl, hw⟩
            rw [hw]
            clear hw
            cases c4
            · go_wp2_with fail
              go_ret2
              have hv := HV.out
              simp at hv
              exact ⟨by rw [hv]; rfl, g11⟩
            · go_wp2_with fail
              refine Calls.mono (HG.out 16 6 _) ?_
              rintro e wz ⟨rfl, hw⟩
              rw [hw]
              clear hw wz
              have hlm := Lib.hid (HL.out 16 6)
              rw [← hlm.out]
              clear hlm
              go_wp2_with fail
              go_ret2
              have hv := HV.out
              simp at hv
              exact ⟨by rw [hv]; rfl, g11⟩
        · refine Calls.mono (HE.out _) ?_
          rintro e w10 ⟨rfl, h10⟩
          have g10 := g9.trans (h10.mono g9.size)
          clear h10
          have hpos := H4.out rfl
          obtain ⟨x, hx, hx0, ix⟩ := HX.out hpos
          rw [Bool.true_and, hx0] at HV
          by_cases hx8 : x = 48
          · subst hx8
            rw [show (!(((48 : Nat) : Int) == 48)) = false from rfl, Bool.false_or] at HV
            obtain ⟨q1, hq1⟩ : ∃ z, z = (sb s == [48]) := ⟨_, rfl⟩
            rw [← hq1] at HV
            have hq : (s.toList == [(48 : UInt8)]) = q1 := by rw [HQ.out, hq1]; rfl
            clear hq1
            cases q1
            · go_wp2_with fail
              cases d4
              · refine Calls.mono (HF.out _) ?_
                rintro e w13 ⟨rfl, h13⟩
                have g13 := g10.trans (h13.mono g10.size)
                clear h13
                rw [Bool.false_and] at HV
                go_wp2_with fail
                go_ret2
                have hv := HV.out
                simp at hv
                exact ⟨by rw [hv]; rfl, g13⟩
              · refine Calls.mono (HF.out _) ?_
                rintro e w13 ⟨rfl, h13⟩
                have g13 := g10.trans (h13.mono g10.size)
                clear h13
                rw [Bool.true_and] at HV
                have HWi := Lib.hid (fun W => withinB_any 48 ⟨#[97, 122]⟩ W (by decide) (by decide))
                rw [show sb ⟨#[97, 122]⟩ = [97, 122] from rfl] at HWi
                go_wp2_with fail
                generalize inR [97, 122] ((48 : Nat) : Int) = c4 at *
                refine Calls.mono (HWi.out _) ?_
                rintro e w14 ⟨rfl, hw⟩
                rw [hw]
                clear hw
                cases c4
                · go_wp2_with fail
                  go_ret2
                  have hv := HV.out
                  simp at hv
                  exact ⟨by rw [hv]; rfl, g13⟩
                · go_wp2_with fail
                  refine Calls.mono (HG.out 16 6 _) ?_
                  rintro e wz ⟨rfl, hw⟩
                  rw [hw]
                  clear hw wz
                  have hlm := Lib.hid (HL.out 16 6)
                  rw [← hlm.out]
                  clear hlm
                  go_wp2_with fail
                  go_ret2
                  have hv := HV.out
                  simp at hv
                  exact ⟨by rw [hv]; rfl, g13⟩
            · go_wp2_with fail
              refine Calls.mono (HG.out 13 4 _) ?_
              rintro e wz ⟨rfl, hw⟩
              rw [hw]
              clear hw wz
              have hlm := Lib.hid (HL.out 13 4)
              rw [← hlm.out]
              clear hlm
              go_wp2_with fail
              go_ret2
              have hv := HV.out
              simp at hv
              exact ⟨by rw [hv]; rfl, g10⟩
          · have hxb : ((x : Int) == 48) = false := by rw [beq_eq_false_iff_ne]; omega
            have hxn : ((x : Int) != 48) = true := by unfold bne; rw [hxb]; rfl
            rw [hxb, Bool.not_false, Bool.true_or] at HV
            replace hx8 := Lib.hid hx8
            go_wp2_with fail
            refine Calls.mono (HG.out 13 4 _) ?_
            rintro e wz ⟨rfl, hw⟩
            rw [hw]
            clear hw wz
            have hlm := Lib.hid (HL.out 13 4)
            rw [← hlm.out]
            clear hlm
            go_wp2_with fail
            go_ret2
            have hv := HV.out
            simp at hv
            exact ⟨by rw [hv]; rfl, g10⟩
      · go_wp2_with fail
        refine Calls.mono (HG.out 18 4 _) ?_
        rintro e wz ⟨rfl, hw⟩
        rw [hw]
        clear hw wz
        have hlm := Lib.hid (HL.out 18 4)
        rw [← hlm.out]
        clear hlm
        go_wp2_with fail
        go_ret2
        have hv := HV.out
        simp at hv
        exact ⟨by rw [hv]; rfl, g9⟩
  · refine Calls.mono (HA.out _) ?_
    rintro e w15 ⟨rfl, hw⟩
    rw [hw]
    clear hw
    have h2s := H2.out rfl
    have h2i : (2 : Int) ≤ (s.size : Int) := by omega
    go_wp2_with fail
    refine Calls.mono (HC.out _) ?_
    rintro e w16 ⟨rfl, h16⟩
    have g16 := b0.trans (h16.mono b0.size)
    clear h16
    cases b1
    · rw [show (true && false) = false from rfl] at HV
      go_wp2_with fail
      cases a2
      · refine Calls.mono (HB.out _) ?_
        rintro e w17 ⟨rfl, hw⟩
        rw [hw]
        clear hw
        rw [show (false && b2) = false from rfl] at HV
        go_wp2_with fail
        cases d3
        · refine Calls.mono (HE.out _) ?_
          rintro e w18 ⟨rfl, h18⟩
          have g18 := g16.trans (h18.mono g16.size)
          clear h18
          rw [Bool.false_and] at HV
          go_wp2_with fail
          cases d4
          · refine Calls.mono (HF.out _) ?_
            rintro e w19 ⟨rfl, h19⟩
            have g19 := g18.trans (h19.mono g18.size)
            clear h19
            rw [Bool.false_and] at HV
            go_wp2_with fail
            go_ret2
            have hv := HV.out
            simp at hv
            exact ⟨by rw [hv]; rfl, g19⟩
          · refine Calls.mono (HF.out _) ?_
            rintro e w19 ⟨rfl, h19⟩
            have g19 := g18.trans (h19.mono g18.size)
            clear h19
            have hpos5 := H5.out rfl
            obtain ⟨y, hy, hy0, iy⟩ := HX.out hpos5
            rw [Bool.true_and, hy0] at HV
            have HWi := Lib.hid (fun W => withinB_any y ⟨#[97, 122]⟩ W (by decide) (by decide))
            rw [show sb ⟨#[97, 122]⟩ = [97, 122] from rfl] at HWi
            go_wp2_with fail
            generalize inR [97, 122] ((y : Nat) : Int) = c4 at *
            refine Calls.mono (HWi.out _) ?_
            rintro e w20 ⟨rfl, hw⟩
            rw [hw]
            clear hw
            cases c4
            · go_wp2_with fail
              go_ret2
              have hv := HV.out
              simp at hv
              exact ⟨by rw [hv]; rfl, g19⟩
            · go_wp2_with fail
              refine Calls.mono (HG.out 16 6 _) ?_
              rintro e wz ⟨rfl, hw⟩
              rw [hw]
              clear hw wz
              have hlm := Lib.hid (HL.out 16 6)
              rw [← hlm.out]
              clear hlm
              go_wp2_with fail
              go_ret2
              have hv := HV.out
              simp at hv
              exact ⟨by rw [hv]; rfl, g19⟩
        · refine Calls.mono (HE.out _) ?_
          rintro e w18 ⟨rfl, h18⟩
          have g18 := g16.trans (h18.mono g16.size)
          clear h18
          have hpos := H4.out rfl
          obtain ⟨x, hx, hx0, ix⟩ := HX.out hpos
          rw [Bool.true_and, hx0] at HV
          by_cases hx8 : x = 48
          · subst hx8
            rw [show (!(((48 : Nat) : Int) == 48)) = false from rfl, Bool.false_or] at HV
            obtain ⟨q1, hq1⟩ : ∃ z, z = (sb s == [48]) := ⟨_, rfl⟩
            rw [← hq1] at HV
            have hq : (s.toList == [(48 : UInt8)]) = q1 := by rw [HQ.out, hq1]; rfl
            clear hq1
            cases q1
            · go_wp2_with fail
              cases d4
              · refine Calls.mono (HF.out _) ?_
                rintro e w21 ⟨rfl, h21⟩
                have g21 := g18.trans (h21.mono g18.size)
                clear h21
                rw [Bool.false_and] at HV
                go_wp2_with fail
                go_ret2
                have hv := HV.out
                simp at hv
                exact ⟨by rw [hv]; rfl, g21⟩
              · refine Calls.mono (HF.out _) ?_
                rintro e w21 ⟨rfl, h21⟩
                have g21 := g18.trans (h21.mono g18.size)
                clear h21
                rw [Bool.true_and] at HV
                have HWi := Lib.hid (fun W => withinB_any 48 ⟨#[97, 122]⟩ W (by decide) (by decide))
                rw [show sb ⟨#[97, 122]⟩ = [97, 122] from rfl] at HWi
                go_wp2_with fail
                generalize inR [97, 122] ((48 : Nat) : Int) = c4 at *
                refine Calls.mono (HWi.out _) ?_
                rintro e w22 ⟨rfl, hw⟩
                rw [hw]
                clear hw
                cases c4
                · go_wp2_with fail
                  go_ret2
                  have hv := HV.out
                  simp at hv
                  exact ⟨by rw [hv]; rfl, g21⟩
                · go_wp2_with fail
                  refine Calls.mono (HG.out 16 6 _) ?_
                  rintro e wz ⟨rfl, hw⟩
                  rw [hw]
                  clear hw wz
                  have hlm := Lib.hid (HL.out 16 6)
                  rw [← hlm.out]
                  clear hlm
                  go_wp2_with fail
                  go_ret2
                  have hv := HV.out
                  simp at hv
                  exact ⟨by rw [hv]; rfl, g21⟩
            · go_wp2_with fail
              refine Calls.mono (HG.out 13 4 _) ?_
              rintro e wz ⟨rfl, hw⟩
              rw [hw]
              clear hw wz
              have hlm := Lib.hid (HL.out 13 4)
              rw [← hlm.out]
              clear hlm
              go_wp2_with fail
              go_ret2
              have hv := HV.out
              simp at hv
              exact ⟨by rw [hv]; rfl, g18⟩
          · have hxb : ((x : Int) == 48) = false := by rw [beq_eq_false_iff_ne]; omega
            have hxn : ((x : Int) != 48) = true := by unfold bne; rw [hxb]; rfl
            rw [hxb, Bool.not_false, Bool.true_or] at HV
            replace hx8 := Lib.hid hx8
            go_wp2_with fail
            refine Calls.mono (HG.out 13 4 _) ?_
            rintro e wz ⟨rfl, hw⟩
            rw [hw]
            clear hw wz
            have hlm := Lib.hid (HL.out 13 4)
            rw [← hlm.out]
            clear hlm
            go_wp2_with fail
            go_ret2
            have hv := HV.out
            simp at hv
            exact ⟨by rw [hv]; rfl, g18⟩
      · refine Calls.mono (HB.out _) ?_
        rintro e w23 ⟨rfl, hw⟩
        rw [hw]
        clear hw
        have h2s := H3.out rfl
        have h2i : (2 : Int) ≤ (s.size : Int) := by omega
        go_wp2_with fail
        refine Calls.mono (HD.out _) ?_
        rintro e w24 ⟨rfl, h24⟩
        have g24 := g16.trans (h24.mono g16.size)
        clear h24
        cases b2
        · rw [show (true && false) = false from rfl] at HV
          go_wp2_with fail
          cases d3
          · refine Calls.mono (HE.out _) ?_
            rintro e w25 ⟨rfl, h25⟩
            have g25 := g24.trans (h25.mono g24.size)
            clear h25
            rw [Bool.false_and] at HV
            go_wp2_with fail
            cases d4
            · refine Calls.mono (HF.out _) ?_
              rintro e w26 ⟨rfl, h26⟩
              have g26 := g25.trans (h26.mono g25.size)
              clear h26
              rw [Bool.false_and] at HV
              go_wp2_with fail
              go_ret2
              have hv := HV.out
              simp at hv
              exact ⟨by rw [hv]; rfl, g26⟩
            · refine Calls.mono (HF.out _) ?_
              rintro e w26 ⟨rfl, h26⟩
              have g26 := g25.trans (h26.mono g25.size)
              clear h26
              have hpos5 := H5.out rfl
              obtain ⟨y, hy, hy0, iy⟩ := HX.out hpos5
              rw [Bool.true_and, hy0] at HV
              have HWi := Lib.hid (fun W => withinB_any y ⟨#[97, 122]⟩ W (by decide) (by decide))
              rw [show sb ⟨#[97, 122]⟩ = [97, 122] from rfl] at HWi
              go_wp2_with fail
              generalize inR [97, 122] ((y : Nat) : Int) = c4 at *
              refine Calls.mono (HWi.out _) ?_
              rintro e w27 ⟨rfl, hw⟩
              rw [hw]
              clear hw
              cases c4
              · go_wp2_with fail
                go_ret2
                have hv := HV.out
                simp at hv
                exact ⟨by rw [hv]; rfl, g26⟩
              · go_wp2_with fail
                refine Calls.mono (HG.out 16 6 _) ?_
                rintro e wz ⟨rfl, hw⟩
                rw [hw]
                clear hw wz
                have hlm := Lib.hid (HL.out 16 6)
                rw [← hlm.out]
                clear hlm
                go_wp2_with fail
                go_ret2
                have hv := HV.out
                simp at hv
                exact ⟨by rw [hv]; rfl, g26⟩
          · refine Calls.mono (HE.out _) ?_
            rintro e w25 ⟨rfl, h25⟩
            have g25 := g24.trans (h25.mono g24.size)
            clear h25
            have hpos := H4.out rfl
            obtain ⟨x, hx, hx0, ix⟩ := HX.out hpos
            rw [Bool.true_and, hx0] at HV
            by_cases hx8 : x = 48
            · subst hx8
              rw [show (!(((48 : Nat) : Int) == 48)) = false from rfl, Bool.false_or] at HV
              obtain ⟨q1, hq1⟩ : ∃ z, z = (sb s == [48]) := ⟨_, rfl⟩
              rw [← hq1] at HV
              have hq : (s.toList == [(48 : UInt8)]) = q1 := by rw [HQ.out, hq1]; rfl
              clear hq1
              cases q1
              · go_wp2_with fail
                cases d4
                · refine Calls.mono (HF.out _) ?_
                  rintro e w28 ⟨rfl, h28⟩
                  have g28 := g25.trans (h28.mono g25.size)
                  clear h28
                  rw [Bool.false_and] at HV
                  go_wp2_with fail
                  go_ret2
                  have hv := HV.out
                  simp at hv
                  exact ⟨by rw [hv]; rfl, g28⟩
                · refine Calls.mono (HF.out _) ?_
                  rintro e w28 ⟨rfl, h28⟩
                  have g28 := g25.trans (h28.mono g25.size)
                  clear h28
                  rw [Bool.true_and] at HV
                  have HWi := Lib.hid (fun W => withinB_any 48 ⟨#[97, 122]⟩ W (by decide) (by decide))
                  rw [show sb ⟨#[97, 122]⟩ = [97, 122] from rfl] at HWi
                  go_wp2_with fail
                  generalize inR [97, 122] ((48 : Nat) : Int) = c4 at *
                  refine Calls.mono (HWi.out _) ?_
                  rintro e w29 ⟨rfl, hw⟩
                  rw [hw]
                  clear hw
                  cases c4
                  · go_wp2_with fail
                    go_ret2
                    have hv := HV.out
                    simp at hv
                    exact ⟨by rw [hv]; rfl, g28⟩
                  · go_wp2_with fail
                    refine Calls.mono (HG.out 16 6 _) ?_
                    rintro e wz ⟨rfl, hw⟩
                    rw [hw]
                    clear hw wz
                    have hlm := Lib.hid (HL.out 16 6)
                    rw [← hlm.out]
                    clear hlm
                    go_wp2_with fail
                    go_ret2
                    have hv := HV.out
                    simp at hv
                    exact ⟨by rw [hv]; rfl, g28⟩
              · go_wp2_with fail
                refine Calls.mono (HG.out 13 4 _) ?_
                rintro e wz ⟨rfl, hw⟩
                rw [hw]
                clear hw wz
                have hlm := Lib.hid (HL.out 13 4)
                rw [← hlm.out]
                clear hlm
                go_wp2_with fail
                go_ret2
                have hv := HV.out
                simp at hv
                exact ⟨by rw [hv]; rfl, g25⟩
            · have hxb : ((x : Int) == 48) = false := by rw [beq_eq_false_iff_ne]; omega
              have hxn : ((x : Int) != 48) = true := by unfold bne; rw [hxb]; rfl
              rw [hxb, Bool.not_false, Bool.true_or] at HV
              replace hx8 := Lib.hid hx8
              go_wp2_with fail
              refine Calls.mono (HG.out 13 4 _) ?_
              rintro e wz ⟨rfl, hw⟩
              rw [hw]
              clear hw wz
              have hlm := Lib.hid (HL.out 13 4)
              rw [← hlm.out]
              clear hlm
              go_wp2_with fail
              go_ret2
              have hv := HV.out
              simp at hv
              exact ⟨by rw [hv]; rfl, g25⟩
        · go_wp2_with fail
          refine Calls.mono (HG.out 18 4 _) ?_
          rintro e wz ⟨rfl, hw⟩
          rw [hw]
          clear hw wz
          have hlm := Lib.hid (HL.out 18 4)
          rw [← hlm.out]
          clear hlm
          go_wp2_with fail
          go_ret2
          have hv := HV.out
          simp at hv
          exact ⟨by rw [hv]; rfl, g24⟩
    · go_wp2_with fail
      refine Calls.mono (HG.out 66 4 _) ?_
      rintro e wz ⟨rfl, hw⟩
      rw [hw]
      clear hw wz
      have hlm := Lib.hid (HL.out 66 4)
      rw [← hlm.out]
      clear hlm
      go_wp2_with fail
      go_ret2
      have hv := HV.out
      simp at hv
      exact ⟨by rw [hv]; rfl, g16⟩
end Go.Proofs.Ytpeeekgfcofbkaa
