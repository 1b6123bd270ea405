/-
  THE LEXER: ranges of bytes, and the words for texts.
-/
import Derived.Test.YtpeeekgfcofbkaaBase
import Derived.Test.YtpeeekgfcofbkaaShelf
import Derived.Lib.SpaceUEq
import Derived.Shelf.Strings.FuncGrows
namespace Go.Proofs.Ytpeeekgfcofbkaa
open Go.RowKit

theorem drop_at1 {l : List Int} {k : Nat} (h : k < l.length) : l.drop k = l[k] :: l.drop (k + 1) := List.drop_eq_getElem_cons h
theorem sb_get (r : ByteArray) (k : Nat) (h : k < r.size) : ∃ c : Nat, c < 256 ∧ (sb r).drop k = (c : Int) :: (sb r).drop (k + 1) ∧ ∀ W : World, (Instr.index 9 (.string r) (.int .i64 k)).run Try.prog W = .ok (.int .u8 c) W := by
  have hl : k < (sb r).length := by rw [sb_length]; exact h
  have hd : k < r.data.size := h
  refine ⟨(r.data[k]).toNat, (r.data[k]).toNat_lt, ?_, fun W => ?_⟩
  · rw [drop_at1 hl]
    congr 1
    simp [sb]
  · rw [run_index_string _ _ _ _ _ Try.underlying9, dif_pos (by omega)]
    rfl
theorem sb_cut (S : ByteArray) (a b : Nat) : sb (S.extract a b) = ((sb S).take b).drop a := by
  unfold sb
  rw [ByteArray.data_extract, Array.toList_extract, List.extract_eq_take_drop, ← List.map_take, ← List.map_drop, List.map_take, List.map_drop]
  rw [List.drop_take, ← List.map_drop, ← List.map_take]
theorem sb_from (S : ByteArray) (a : Nat) : sb (S.extract a S.size) = (sb S).drop a := by
  rw [sb_cut, List.take_of_length_le (by rw [sb_length]; exact Nat.le_refl _)]
theorem sb_upto (S : ByteArray) (b : Nat) : sb (S.extract 0 b) = (sb S).take b := by rw [sb_cut, List.drop_zero]

/-- in one of the ranges -/
def inR : List Int → Int → Bool
  | a :: b :: r, c => (decide (a ≤ c) && decide (c ≤ b)) || inR r c
  | _, _ => false
/-- how many bytes a text begins with that are in the ranges -/
def spanN (R : List Int) (l : List Int) : Nat := (l.takeWhile (inR R)).length

theorem wrap_small {x : Int} (h1 : 0 ≤ x) (h2 : x < 2147483648) : IntKind.i32.wrap x = x := by
  simp [IntKind.wrap, IntKind.bits, IntKind.signed]
  omega
set_option maxHeartbeats 1000000 in
theorem withinB_any (c : Nat) (R : ByteArray) (w : World) (h2 : R.size % 2 = 0) (hR : R.size ≤ 1000) : Calls Try.prog 47 #[.int .u8 c, .string R] w fun e w' => e = .returned (.bool (inR (sb R) c)) ∧ w' = w := by
  obtain ⟨V, hV⟩ : ∃ V, V = inR (sb R) c := ⟨_, rfl⟩
  rw [← hV]
  replace hV := Lib.hid hV
  go_enter Try.func47, Try.ntmps47
  go_wp2_with fail
  go_loop [5] (fun i => ∃ k : Nat, i = .int .i64 (k : Int) ∧ k ≤ R.size ∧ k % 2 = 0 ∧ Hid (V = inR ((sb R).drop k) c)) (fun i => R.size - (intOf i).toNat)
  case atStart => exact ⟨0, rfl, by omega, rfl, hV⟩
  case round =>
    obtain ⟨k, rfl, hk, hk2, hI⟩ := hrel
    by_cases hlt : k < R.size
    · have hlI : (k : Int) < (R.size : Int) := by omega
      obtain ⟨x, hx, hdx, ix⟩ := sb_get R k hlt
      obtain ⟨y, hy, hdy, iy⟩ := sb_get R (k + 1) (by omega)
      rw [show ((k + 1 : Nat) : Int) = (k : Int) + 1 from rfl] at iy
      have hdd := Lib.hid (show (sb R).drop k = (x : Int) :: (y : Int) :: (sb R).drop (k + 2) from by rw [hdx, hdy])
      clear hdx hdy
      skip
      skip
      by_cases hA : x ≤ c
      · have g1 : decide ((x : Int) ≤ (c : Int)) = true := decide_eq_true (by omega)
        by_cases hB : c ≤ y
        · have g2 : decide ((c : Int) ≤ (y : Int)) = true := decide_eq_true (by omega)
          have hv := Lib.hid (show V = true from by rw [hI.out, hdd.out, inR, g1, g2]; rfl)
          go_wp2
          go_ret
          exact ⟨by rw [hv.out]; rfl, rfl⟩
        · have g2 : decide ((c : Int) ≤ (y : Int)) = false := decide_eq_false (by omega)
          have hv := Lib.hid (show V = inR ((sb R).drop (k + 2)) c from by rw [hI.out, hdd.out, inR, g1, g2]; rfl)
          go_wp2
          go_round
          case rel => exact ⟨k + 2, by go_num, by omega, by omega, hv⟩
          case measure => simp [intOf]; omega
      · have g1 : decide ((x : Int) ≤ (c : Int)) = false := decide_eq_false (by omega)
        have hv := Lib.hid (show V = inR ((sb R).drop (k + 2)) c from by rw [hI.out, hdd.out, inR, g1]; rfl)
        go_wp2
        go_round
        case rel => exact ⟨k + 2, by go_num, by omega, by omega, hv⟩
        case measure => simp [intOf]; omega
    · have hlI : ¬ (k : Int) < (R.size : Int) := by omega
      have hv := Lib.hid (show V = false from by rw [hI.out, List.drop_eq_nil_of_le (by rw [sb_length]; omega)]; rfl)
      go_wp2
      go_ret
      exact ⟨by rw [hv.out]; rfl, rfl⟩
set_option maxHeartbeats 1000000 in
theorem withinR_any (c : Nat) (_ : c ≤ 1114111) (R : ByteArray) (w : World) (h2 : R.size % 2 = 0) (hR : R.size ≤ 1000) : Calls Try.prog 65 #[.int .i32 c, .string R] w fun e w' => e = .returned (.bool (inR (sb R) c)) ∧ w' = w := by
  obtain ⟨V, hV⟩ : ∃ V, V = inR (sb R) c := ⟨_, rfl⟩
  rw [← hV]
  replace hV := Lib.hid hV
  go_enter Try.func65, Try.ntmps65
  go_wp2_with fail
  go_loop [5] (fun i => ∃ k : Nat, i = .int .i64 (k : Int) ∧ k ≤ R.size ∧ k % 2 = 0 ∧ Hid (V = inR ((sb R).drop k) c)) (fun i => R.size - (intOf i).toNat)
  case atStart => exact ⟨0, rfl, by omega, rfl, hV⟩
  case round =>
    obtain ⟨k, rfl, hk, hk2, hI⟩ := hrel
    by_cases hlt : k < R.size
    · have hlI : (k : Int) < (R.size : Int) := by omega
      obtain ⟨x, hx, hdx, ix⟩ := sb_get R k hlt
      obtain ⟨y, hy, hdy, iy⟩ := sb_get R (k + 1) (by omega)
      rw [show ((k + 1 : Nat) : Int) = (k : Int) + 1 from rfl] at iy
      have hdd := Lib.hid (show (sb R).drop k = (x : Int) :: (y : Int) :: (sb R).drop (k + 2) from by rw [hdx, hdy])
      clear hdx hdy
      have cx : IntKind.i32.wrap (x : Int) = (x : Int) := wrap_small (by omega) (by omega)
      have cy : IntKind.i32.wrap (y : Int) = (y : Int) := wrap_small (by omega) (by omega)
      by_cases hA : x ≤ c
      · have g1 : decide ((x : Int) ≤ (c : Int)) = true := decide_eq_true (by omega)
        by_cases hB : c ≤ y
        · have g2 : decide ((c : Int) ≤ (y : Int)) = true := decide_eq_true (by omega)
          have hv := Lib.hid (show V = true from by rw [hI.out, hdd.out, inR, g1, g2]; rfl)
          go_wp2
          go_ret
          exact ⟨by rw [hv.out]; rfl, rfl⟩
        · have g2 : decide ((c : Int) ≤ (y : Int)) = false := decide_eq_false (by omega)
          have hv := Lib.hid (show V = inR ((sb R).drop (k + 2)) c from by rw [hI.out, hdd.out, inR, g1, g2]; rfl)
          go_wp2
          go_round
          case rel => exact ⟨k + 2, by go_num, by omega, by omega, hv⟩
          case measure => simp [intOf]; omega
      · have g1 : decide ((x : Int) ≤ (c : Int)) = false := decide_eq_false (by omega)
        have hv := Lib.hid (show V = inR ((sb R).drop (k + 2)) c from by rw [hI.out, hdd.out, inR, g1]; rfl)
        go_wp2
        go_round
        case rel => exact ⟨k + 2, by go_num, by omega, by omega, hv⟩
        case measure => simp [intOf]; omega
    · have hlI : ¬ (k : Int) < (R.size : Int) := by omega
      have hv := Lib.hid (show V = false from by rw [hI.out, List.drop_eq_nil_of_le (by rw [sb_length]; omega)]; rfl)
      go_wp2
      go_ret
      exact ⟨by rw [hv.out]; rfl, rfl⟩
theorem inR_high {R : List Int} (h : ∀ c ∈ R, c < 128) : ∀ {c : Int}, 128 ≤ c → inR R c = false := by
  intro c hc
  have hgo : ∀ (n : Nat) (R : List Int), R.length ≤ n → (∀ c ∈ R, c < 128) → inR R c = false := by
    intro n
    induction n with
    | zero => intro R hl _; cases R with
      | nil => rfl
      | cons a l => simp at hl
    | succ n ih =>
      intro R hl h
      match R with
      | [] => rfl
      | [a] => rfl
      | a :: b :: r =>
        have h1 := h b (by simp)
        unfold inR
        rw [show decide (c ≤ b) = false from decide_eq_false (by omega), Bool.and_false, Bool.false_or]
        exact ih r (by simp at hl; omega) (fun c hc => h c (by simp [hc]))
  exact hgo _ R (Nat.le_refl _) h
theorem span_nil (R : List Int) : spanN R [] = 0 := rfl
theorem span_in {R : List Int} {c : Int} (h : inR R c = true) (l : List Int) : spanN R (c :: l) = spanN R l + 1 := by
  unfold spanN
  rw [List.takeWhile_cons_of_pos h, List.length_cons]
theorem span_out {R : List Int} {c : Int} (h : inR R c = false) (l : List Int) : spanN R (c :: l) = 0 := by
  unfold spanN
  rw [List.takeWhile_cons_of_neg (by rw [h]; decide)]
  rfl
theorem span_le (R l : List Int) : spanN R l ≤ l.length := by
  induction l with
  | nil => exact Nat.le_refl _
  | cons c l ih =>
    cases h : inR R c
    · rw [span_out h]; exact Nat.zero_le _
    · rw [span_in h]; simp; exact ih
/-- a rune of a text is its byte, or lies above all ranges -/
theorem rune_at (s : ByteArray) (i : Nat) (h : i < s.size) : ∃ c : Nat, c < 256 ∧ (sb s).drop i = (c : Int) :: (sb s).drop (i + 1) ∧ ((c < 128 ∧ Utf8.decode s i = (c, 1)) ∨ (128 ≤ c ∧ 128 ≤ (Utf8.decode s i).1)) := by
  have hl : i < (sb s).length := by rw [sb_length]; exact h
  have hd : i < s.data.size := h
  have hg : (s.get! i).toNat = (s.data[i]).toNat := by
    show (s.data[i]!).toNat = _
    rw [getElem!_pos s.data i hd]
  refine ⟨(s.data[i]).toNat, (s.data[i]).toNat_lt, ?_, ?_⟩
  · rw [drop_at1 hl]
    congr 1
    simp [sb]
  · rw [Lib.decode_at, hg]
    rcases Lib.decodeN_cases (s.size - i) (s.data[i]).toNat (s.get! (i + 1)).toNat (s.get! (i + 2)).toNat (s.get! (i + 3)).toNat with ⟨h1, h2⟩ | ⟨h1, _, _, h2, h3⟩ | ⟨h1, _, _, _, h2, h3⟩ | ⟨h1, _⟩ | h1
    · exact .inl ⟨h1, h2⟩
    · exact .inr ⟨by omega, by rw [h3]; exact h2⟩
    · exact .inr ⟨by omega, by rw [h3]; show 128 ≤ _ ; omega⟩
    · by_cases hc : (s.data[i]).toNat < 128
      · refine .inl ⟨hc, ?_⟩
        unfold Lib.decodeN
        rw [if_pos hc]
      · exact .inr ⟨by omega, by omega⟩
    · by_cases hc : (s.data[i]).toNat < 128
      · refine .inl ⟨hc, ?_⟩
        unfold Lib.decodeN
        rw [if_pos hc]
      · exact .inr ⟨by omega, by rw [h1]; decide⟩
theorem idx_span (p : Nat → Bool) (R : List Int) (hp : ∀ x : Nat, p x = inR R x) (hR : ∀ c ∈ R, c < 128) (s : ByteArray) : ∀ f pos, s.size ≤ pos + f → Lib.idxFuncFrom p false s f pos = if pos + spanN R ((sb s).drop pos) < s.size then ((pos + spanN R ((sb s).drop pos) : Nat) : Int) else -1 := by
  intro f
  induction f with
  | zero =>
    intro pos h
    rw [if_neg (by omega)]
    rfl
  | succ f ih =>
    intro pos h
    unfold Lib.idxFuncFrom
    by_cases hps : pos < s.size
    · rw [if_pos hps]
      obtain ⟨c, hc, hdr, hcase⟩ := rune_at s pos hps
      rw [hdr]
      rcases hcase with ⟨h1, h2⟩ | ⟨h1, h2⟩
      · rw [h2, hp]
        cases hin : inR R (c : Int)
        · rw [if_pos rfl, span_out hin, if_pos (by omega)]; rfl
        · rw [if_neg (by decide), span_in hin]
          simp only
          rw [ih (pos + 1) (by omega), show pos + 1 + spanN R ((sb s).drop (pos + 1)) = pos + (spanN R ((sb s).drop (pos + 1)) + 1) by omega]
      · rw [hp, inR_high hR (by omega), if_pos rfl, span_out (inR_high hR (by omega)), if_pos (by omega)]; rfl
    · rw [if_neg hps, List.drop_eq_nil_of_le (by rw [sb_length]; omega), span_nil, if_neg (by omega)]
theorem trim_size (p : Nat → Bool) (R : List Int) (hp : ∀ x : Nat, p x = inR R x) (hR : ∀ c ∈ R, c < 128) (s : ByteArray) : ((Lib.trimLeftF p s).size : Int) = (s.size : Int) - (spanN R (sb s) : Nat) := by
  have h := idx_span p R hp hR s s.size 0 (by omega)
  have hle := span_le R (sb s)
  rw [sb_length] at hle
  rw [List.drop_zero, Nat.zero_add] at h
  unfold Lib.trimLeftF Lib.idxFunc
  rw [h]
  by_cases hlt : spanN R (sb s) < s.size
  · rw [if_pos hlt, if_neg (by omega), ByteArray.size_extract, Int.toNat_natCast]
    omega
  · rw [if_neg hlt, if_pos rfl]
    show ((0 : Nat) : Int) = _
    omega
set_option maxHeartbeats 1000000 in
theorem spanFn_any (R : ByteArray) (h2 : R.size % 2 = 0) (hR : R.size ≤ 1000) (g : Nat) (W : World) (x : Nat) (hx : x ≤ 1114111) (hc : W.cell? ⟨g, 0, none⟩ = some (.string R)) :
    Calls Try.prog 64 #[.int .i32 x, .pointer (some ⟨g, 0, none⟩)] W fun e W' => e = .returned (.bool (inR (sb R) x)) ∧ W' = W := by
  have hW := withinR_any x hx R W h2 hR
  generalize inR (sb R) x = v at hW
  go_enter Try.func64, Try.ntmps64
  go_wp2_with fail
  refine Calls.mono hW ?_
  rintro e w1 ⟨rfl, hw⟩
  subst hw
  go_wp2_with fail
  go_ret
  exact ⟨rfl, rfl⟩
set_option maxHeartbeats 1000000 in
theorem span_any (s R : ByteArray) (w : World) (hs : s.size ≤ 100000000) (h2 : R.size % 2 = 0) (hR : R.size ≤ 1000) (h128 : ∀ c ∈ sb R, c < 128) :
    Calls Try.prog 58 #[.string s, .string R] w fun e w' => e = .returned (.int .i64 (spanN (sb R) (sb s) : Nat)) ∧ Below w.heap.size w w' := by
  have hb1 := heap_alloc_new w (.cells #[.string R] 9)
  have hB := (Below.refl w.heap.size w).alloc (Nat.le_refl _) (.cells #[.string R] 9)
  have hz : w.heap.size < (w.alloc (.cells #[.string R] 9)).heap.size := by simp
  have hsz := trim_size (fun x => inR (sb R) x) (sb R) (fun _ => rfl) h128 s
  have eg : ∀ args w, (callFunc 64 args).run Try.prog w = .ok (.enter 64 args) w := enters_of Try.func64 (by kernel_rfl) rfl
  have hP : PredGrows Try.prog 64 #[.pointer (some ⟨w.heap.size, 0, none⟩)] (fun x => inR (sb R) x) (w.alloc (.cells #[.string R] 9)) := fun W x hx hW => (spanFn_any R h2 hR w.heap.size W x hx (by rw [cell_of_row W w.heap.size 0 _ 9 _ ((hW.block _ hz).trans hb1)]; rfl)).mono fun e W' ⟨he, hw⟩ => ⟨he, hw ▸ Below.refl _ _⟩
  have hC := Any.strings_TrimLeftFunc_grows Try.lays272 64 #[.pointer (some ⟨w.heap.size, 0, none⟩)] eg (fun x => inR (sb R) x) s _ hP
  have hle := span_le (sb R) (sb s)
  rw [sb_length] at hle
  replace hC := Lib.hid hC
  replace hb1 := Lib.hid hb1
  generalize Lib.trimLeftF (fun x : Nat => inR (sb R) x) s = t at hC hsz
  generalize spanN (sb R) (sb s) = n at hsz hle ⊢
  clear hP eg
  have hw : IntKind.i64.wrap ((s.size : Int) - (t.size : Int)) = (n : Int) := by rw [IntWalk.i64_in _ ⟨by omega, by omega⟩]; omega
  clear hsz
  go_enter Try.func58, Try.ntmps58
  go_wp2_with fail
  refine Calls.mono hC.out ?_
  rintro e w2 ⟨rfl, h22⟩
  go_wp2_with fail
  go_ret
  exact ⟨rfl, hB.trans (h22.mono hB.size)⟩
end Go.Proofs.Ytpeeekgfcofbkaa
