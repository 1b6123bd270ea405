/-
  THE WALK of the reference's match: the definition, by parts of the string.
  THE WALK of the reference's match at Cat, Alt, All and Star.
  THE WALK of the reference's match at Star; match, Match and Nullable whole.
-/
import Derived.Test.YtijcjknaphboeaaGreatDoorRxW
import Derived.Test.YtijcjknaphboeaaGreatDoorRxStr
import Derived.Test.YtijcjknaphboeaaGreatDoorRxEValB
import Derived.Deep.RegionHeld3
import Derived.BigQuiet
import Derived.LoopN
namespace Go.Proofs.YtijcjknaphboeaaGreatDoor
open Go.RowKit

/-- what match answers -/
def EMOk (w : World) (S : ByteArray) (x : Rx) (e : Ending) (w' : World) : Prop := ∃ r : Bool, e = .returned (.bool r) ∧ (r = true ↔ mt (bytS S) x 0 S.size) ∧ Below w.heap.size w w'
/-- match's contract, up to a measure -/
def EM (m : Nat) : Prop := ∀ (x : Rx) (v : Value) (w : World) (S : ByteArray), nodes x ≤ m → goodR x = true → S.size ≤ 64 → RtV w (Lo w.heap.size) x v → Calls Tryz.prog 43 #[v, .string S] w (EMOk w S x)
/-- the box of a call, later -/
theorem em_box {w W : World} {cs : Array Value} {t : TypeId} (hW : Below (w.alloc (.cells cs t)).heap.size (w.alloc (.cells cs t)) W) : W.heap[w.heap.size]? = some (.cells cs t (0, 0)) ∧ Below w.heap.size w W :=
  ⟨(hW.block w.heap.size (by simp)).trans (heap_alloc_new w _), ((Below.refl _ _).alloc (Nat.le_refl _) _).trans (hW.mono (by simp))⟩

set_option maxHeartbeats 1000000 in
set_option maxRecDepth 100000 in
theorem em_0 (S : ByteArray) (A : Option Addr) (n c : Nat) (l h : Int) (s : List Rx) (w : World) : Calls Tryz.prog 43 #[.agg #[.int .i64 0, .int .u8 l, .int .u8 h, .slice A n c], .string S] w (EMOk w S (.node 0 l h s)) := by
  go_enter Tryz.func43, Tryz.ntmps43
  go_wp2
  go_ret
  exact ⟨false, rfl, by simp [mt], (Below.refl _ _).alloc (Nat.le_refl _) _⟩
theorem mt_one {b : Nat → Int} {l h : Int} {s : List Rx} {i j : Nat} : mt b (.node 1 l h s) i j ↔ i = j := by simp [mt]
theorem mt_two {b : Nat → Int} {l h : Int} {s : List Rx} {i j : Nat} : mt b (.node 2 l h s) i j ↔ j = i + 1 ∧ l ≤ b i ∧ b i ≤ h := by simp [mt]
theorem mt_three {b : Nat → Int} {s : List Rx} {i j : Nat} : mt b (.node 3 0 0 s) i j ↔ mtCat b s i j := by simp [mt]
theorem mt_six {b : Nat → Int} {x : Rx} {j : Nat} : mt b (.node 6 0 0 [x]) 0 j ↔ ¬ mt b x 0 j := by simp [mt, mtFst]
theorem mt_seven {b : Nat → Int} {x : Rx} {i j : Nat} : mt b (.node 7 0 0 [x]) i j ↔ Star (mt b x) i j := by simp [mt]; rfl
theorem empty_iff (S : ByteArray) : S.toList.isEmpty = true ↔ S.size = 0 := by
  have h : S.toList = S.data.toList := ByteArray.toList_eq S
  rw [h, List.isEmpty_iff, ← List.length_eq_zero_iff, Array.length_toList]
  rfl
set_option maxHeartbeats 1000000 in
set_option maxRecDepth 100000 in
theorem em_1 (S : ByteArray) (A : Option Addr) (n c : Nat) (l h : Int) (s : List Rx) (w : World) : Calls Tryz.prog 43 #[.agg #[.int .i64 1, .int .u8 l, .int .u8 h, .slice A n c], .string S] w (EMOk w S (.node 1 l h s)) := by
  go_enter Tryz.func43, Tryz.ntmps43
  go_wp2
  go_ret
  exact ⟨_, rfl, by rw [empty_iff, mt_one]; exact eq_comm, (Below.refl _ _).alloc (Nat.le_refl _) _⟩
set_option maxHeartbeats 1000000 in
set_option maxRecDepth 100000 in
theorem em_2 (S : ByteArray) (A : Option Addr) (n c : Nat) (l h : Int) (w : World) : Calls Tryz.prog 43 #[.agg #[.int .i64 2, .int .u8 l, .int .u8 h, .slice A n c], .string S] w (EMOk w S (.node 2 l h [])) := by
  obtain ⟨c0, c1, c2, c3⟩ := four (heap_alloc_new w (.cells #[.int .i64 2, .int .u8 l, .int .u8 h, .slice A n c] 25))
  have hd := (Below.refl w.heap.size w).alloc (Nat.le_refl _) (.cells #[.int .i64 2, .int .u8 l, .int .u8 h, .slice A n c] 25)
  by_cases h1 : S.size = 1
  · obtain ⟨b, hb, hbe, hix0⟩ := bytS_at S 0 (by omega)
    have hix : ∀ W : World, (Instr.index 9 (.string S) (.int .i64 0)).run Tryz.prog W = .ok (.int .u8 b) W := hix0
    have h1' : (S.size : Int) = 1 := by omega
    have HB := Lib.hid hbe
    have H1 := Lib.hid h1
    clear hix0 hbe
    by_cases hl : l ≤ (b : Int)
    · by_cases hh : (b : Int) ≤ h
      · go_enter Tryz.func43, Tryz.ntmps43
        go_wp2_with fail
        go_quiet (fail)
        go_wp2_with fail
        go_ret
        exact ⟨true, rfl, by rw [mt_two, H1.out, HB.out]; simp [hl, hh], below_drewN hd _⟩
      · go_enter Tryz.func43, Tryz.ntmps43
        have dh : decide ((b : Int) ≤ h) = false := decide_eq_false hh
        go_wp2_with fail
        go_quiet (fail)
        go_wp2_with fail
        go_ret
        exact ⟨false, rfl, by rw [mt_two, H1.out, HB.out]; simp [hh], below_drewN hd _⟩
    · have dl : decide (l ≤ (b : Int)) = false := decide_eq_false hl
      have HL := Lib.hid hl
      go_enter Tryz.func43, Tryz.ntmps43
      go_wp2_with fail
      go_quiet (fail)
      go_wp2_with fail
      go_ret
      exact ⟨false, rfl, by rw [mt_two]; exact ⟨fun h => Bool.noConfusion h, fun h => by have h2 : l ≤ (b : Int) := HB.out ▸ h.2.1; have h3 := HL.out; omega⟩, below_drewN hd _⟩
  · have H1 := Lib.hid h1
    have h1' : ¬ (S.size : Int) = 1 := by omega
    have d1 : decide (S.size = 1) = false := decide_eq_false h1
    have d2 : ((S.size : Int) == 1) = false := beq_eq_false_iff_ne.2 h1'
    go_enter Tryz.func43, Tryz.ntmps43
    go_wp2_with fail
    go_quiet (fail)
    go_wp2_with fail
    go_ret
    exact ⟨false, rfl, by rw [mt_two]; simp [H1.out], below_drewN hd _⟩
set_option maxHeartbeats 1000000 in
set_option maxRecDepth 100000 in
theorem em_3nil (S : ByteArray) (A : Option Addr) (c : Nat) (w : World) : Calls Tryz.prog 43 #[.agg #[.int .i64 3, .int .u8 0, .int .u8 0, .slice A 0 c], .string S] w (EMOk w S (.node 3 0 0 [])) := by
  go_enter Tryz.func43, Tryz.ntmps43
  go_wp2
  go_ret
  exact ⟨_, rfl, by rw [empty_iff, mt_three]; simp only [mtCat]; exact eq_comm, (Below.refl _ _).alloc (Nat.le_refl _) _⟩
set_option maxHeartbeats 1000000 in
set_option maxRecDepth 100000 in
theorem em_6 (m : Nat) (ih : EM m) (S : ByteArray) (x : Rx) (A : Option Addr) (c : Nat) (w : World) (hm : nodes x ≤ m) (hgx : goodR x = true) (h64 : S.size ≤ 64) (hs : RtL w (Lo w.heap.size) [x] A) : Calls Tryz.prog 43 #[.agg #[.int .i64 6, .int .u8 0, .int .u8 0, .slice A 1 c], .string S] w (EMOk w S (.node 6 0 0 [x])) := by
  obtain ⟨b, o, A', c', rfl, hb, h4, hx⟩ := hs.get (j := 0) (by simp)
  simp only [List.getElem_cons_zero, Nat.zero_mul, Nat.add_zero] at h4 hx
  have hd : Below w.heap.size w (w.alloc (.cells #[.int .i64 6, .int .u8 0, .int .u8 0, .slice (some ⟨b, o, none⟩) 1 c] 25)) := (Below.refl _ _).alloc (Nat.le_refl _) _
  obtain ⟨e0, e1, e2, e3⟩ := h4.to (hd.block b hb)
  have hC := Lib.hid (ih x _ _ S hm hgx h64 (hx.call hd))
  unfold rxv at hC
  clear ih hs hx h4
  go_enter Tryz.func43, Tryz.ntmps43
  go_wp2_with fail
  refine hC.out.mono ?_
  rintro e w1 ⟨r, rfl, hr, hw1⟩
  go_wp2_with fail
  go_ret
  exact ⟨!r, rfl, by rw [mt_six, ← hr]; cases r <;> simp, hd.trans (hw1.mono hd.size)⟩
end Go.Proofs.YtijcjknaphboeaaGreatDoor

namespace Go.Proofs.YtijcjknaphboeaaGreatDoor
open Go.RowKit

/-- a part of a string, in the walk's words -/
theorem em_part {S : ByteArray} {x : Rx} {a b : Nat} (hab : a ≤ b) (hb : b ≤ S.size) {r : Bool} (h : r = true ↔ mt (bytS (S.extract a b)) x 0 (S.extract a b).size) : r = true ↔ mt (bytS S) x a b := h.trans (mt_part S x hab hb)
set_option maxHeartbeats 2000000 in
set_option maxRecDepth 100000 in
theorem em_3one (m : Nat) (ih : EM m) (S : ByteArray) (x : Rx) (A : Option Addr) (c : Nat) (w : World) (hm : nodes x ≤ m) (hgx : goodR x = true) (hgt : goodR (.node 3 0 0 []) = true) (h64 : S.size ≤ 64) (hc : 1 ≤ c) (hs : RtL w (Lo w.heap.size) [x] A) :
    Calls Tryz.prog 43 #[.agg #[.int .i64 3, .int .u8 0, .int .u8 0, .slice A 1 c], .string S] w (EMOk w S (.node 3 0 0 [x])) := by
  obtain ⟨b, o, A', c', rfl, hb, h4, hx⟩ := hs.get (j := 0) (by simp)
  simp only [List.getElem_cons_zero, Nat.zero_mul, Nat.add_zero] at h4 hx
  have hn1 : 1 ≤ nodes x := by cases x; simp [nodes]
  have hd : Below w.heap.size w (w.alloc (.cells #[.int .i64 3, .int .u8 0, .int .u8 0, .slice (some ⟨b, o, none⟩) 1 c] 25)) := (Below.refl _ _).alloc (Nat.le_refl _) _
  have hrest := hs.drop 1
  rw [List.drop_succ_cons, List.drop_zero, Nat.one_mul] at hrest
  have hmx : nodes x ≤ m := by omega
  have hmt : nodes (.node 3 0 0 []) ≤ m := by simp only [nodes, nodesL]; omega
  have hI : I64 3 := ⟨by decide, by decide⟩
  have hz8 : (0 : Int) ≤ 0 ∧ (0 : Int) < 256 := ⟨by decide, by decide⟩
  have htv : ∀ W, Below w.heap.size w W → RtV W (Lo W.heap.size) (.node 3 0 0 []) (rxv 3 0 0 (some ⟨b, o + 4, none⟩) 0 (c - 1)) := fun W hW => RtV.mk (s := []) ⟨hI, hz8, hz8, by simp⟩ (Nat.zero_le _) (fun h => nomatch h) (hrest.call hW)
  have HX := Lib.hid (show ∀ i, i ≤ S.size → ∀ W, Below w.heap.size w W → Calls Tryz.prog 43 #[rxv x.kind x.lo x.hi A' x.kids.length c', .string (S.extract 0 i)] W (EMOk W (S.extract 0 i) x) from fun i hi W hW => ih x _ W (S.extract 0 i) hmx hgx (Nat.le_trans (by rw [size_part S hi]; omega) h64) (hx.call hW))
  have HT := Lib.hid (show ∀ i, i ≤ S.size → ∀ W, Below w.heap.size w W → Calls Tryz.prog 43 #[rxv 3 0 0 (some ⟨b, o + 4, none⟩) 0 (c - 1), .string (S.extract i S.size)] W (EMOk W (S.extract i S.size) (.node 3 0 0 [])) from fun i hi W hW => ih (.node 3 0 0 []) _ W (S.extract i S.size) hmt hgt (Nat.le_trans (by rw [size_part S (Nat.le_refl _)]; omega) h64) (htv W hW))
  have hm1 : nodes (.node 3 0 0 []) ≤ m := hmt
  have HT0 := Lib.hid (show ∀ i, i ≤ S.size → ∀ W, Below w.heap.size w W → Calls Tryz.prog 43 #[rxv 3 0 0 (some ⟨b, o, none⟩) 0 0, .string (S.extract i S.size)] W (EMOk W (S.extract i S.size) (.node 3 0 0 [])) from fun i hi W hW => ih (.node 3 0 0 []) _ W (S.extract i S.size) hm1 hgt (Nat.le_trans (by rw [size_part S (Nat.le_refl _)]; omega) h64) (RtV.mk (s := []) ⟨hI, hz8, hz8, by simp⟩ (Nat.le_refl _) (fun h => nomatch h) (by simp only [RtL])))
  have H4 := Lib.hid fun W (hW : Below w.heap.size w W) => h4.to (hW.block b hb)
  have h65 := Lib.hid h64
  have hcz := Lib.hid hc
  unfold rxv at HX HT HT0
  clear ih hs hx h4 hrest hm hgx hgt h64 hn1 hmx hmt hm1 hI hz8 htv
  go_enter Tryz.func43, Tryz.ntmps43
  go_wp2_with fail
  go_loopw [5] (fun iv wr => ∃ i : Nat, i ≤ S.size + 1 ∧ iv = .int .i64 i ∧ Hid (∀ q, q < i → ¬ (mt (bytS S) x 0 q ∧ mtCat (bytS S) [] q S.size)) ∧ wr.heap[w.heap.size]? = some (.cells #[.int .i64 3, .int .u8 0, .int .u8 0, .slice (some ⟨b, o, none⟩) 1 c] 25 (0, 0)) ∧ Below w.heap.size w wr ∧ w.heap.size + 1 ≤ wr.heap.size) (fun iv _ => 66 - (intOf iv).toNat)
  case atStart => exact ⟨0, Nat.zero_le _, rfl, Lib.hid (fun q hq => absurd hq (Nat.not_lt_zero _)), heap_alloc_new w _, hd, by simp⟩
  case round =>
    clear hd
    obtain ⟨i, hi, rfl, hno, hb0, hW, hsz⟩ := hrel
    by_cases hlt : i ≤ S.size
    · have hlt' : (i : Int) ≤ S.size := by omega
      have hi64 : i ≤ 64 := Nat.le_trans hlt h65.out
      have hi0 : (0 : Int) ≤ (i : Int) := by omega
      have HS : ∀ W, Below (w.heap.size + 1) wr W → W.cell? ⟨w.heap.size, 3, none⟩ = some (.slice (some ⟨b, o, none⟩) 1 c) ∧ W.cell? ⟨b, o, none⟩ = some (.int .i64 x.kind) ∧ W.cell? ⟨b, o + 1, none⟩ = some (.int .u8 x.lo) ∧ W.cell? ⟨b, o + 2, none⟩ = some (.int .u8 x.hi) ∧ W.cell? ⟨b, o + 3, none⟩ = some (.slice A' x.kids.length c') := fun W hWW =>
        ⟨(four ((hWW.block w.heap.size (by omega)).trans hb0)).2.2.2, H4.out W (hW.trans (hWW.mono (by omega)))⟩
      have HS' := Lib.hid HS
      clear HS
      have hd : Below (w.heap.size + 1) wr wr.drew := (Below.refl _ _).drew
      have hC := Lib.hid fun W (hWW : Below (w.heap.size + 1) wr W) => HX.out i hlt W (hW.trans (hWW.mono (by omega)))
      go_wp2_with fail
      go_region_held3 (fun W => W.cell? ⟨w.heap.size, 3, none⟩ = some (.slice (some ⟨b, o, none⟩) 1 c) ∧ W.cell? ⟨b, o, none⟩ = some (.int .i64 x.kind) ∧ W.cell? ⟨b, o + 1, none⟩ = some (.int .u8 x.lo) ∧ W.cell? ⟨b, o + 2, none⟩ = some (.int .u8 x.hi) ∧ W.cell? ⟨b, o + 3, none⟩ = some (.slice A' x.kids.length c'))
        (first | exact HS'.out _ hd | exact HS'.out _ (by assumption))
        (first | (go_at_call 43; ((with_reducible refine Calls.mono (hC.out _ hd) ?_)); rintro e' w1 ⟨r, rfl, hr, hw1⟩; have hB1 : Below (w.heap.size + 1) wr w1 := hd.trans (hw1.mono (by simp; omega))))
      have hW1 := hW.trans (hB1.mono (by omega))
      have hb1 := (hB1.block w.heap.size (by omega)).trans hb0
      have hsz1 := hB1.size
      have hr' := Lib.hid (em_part (Nat.zero_le i) hlt hr)
      clear hr hw1 hd hC
      cases r with
      | false =>
        go_wp2_with fail
        go_quiet (fail)
        go_wp2_with fail
        go_roundw
        case rel =>
          refine ⟨i + 1, by omega, by go_num, Lib.hid (fun q hq => ?_), hb1, below_drewN hW1 _, by show w.heap.size + 1 ≤ w1.heap.size; omega⟩
          by_cases e : q = i
          · subst e; intro hh; have := hr'.out.2 hh.1; cases this
          · exact hno.out q (by omega)
        case measure => simp [intOf]; omega
      | true =>
        have hd1 : Below (w.heap.size + 1) wr w1.drew := hB1.drew
        by_cases hc1 : c = 1
        · subst hc1
          have hC2 := Lib.hid fun W (hWW : Below (w.heap.size + 1) wr W) => HT0.out i hlt W (hW.trans (hWW.mono (by omega)))
          go_wp2_with fail
          go_region_held3 (fun W => W.cell? ⟨w.heap.size, 3, none⟩ = some (.slice (some ⟨b, o, none⟩) 1 1))
            (first | exact (HS'.out _ hd1).1 | exact (HS'.out _ (by assumption)).1)
            (first | (go_at_call 43; ((with_reducible refine Calls.mono (hC2.out _ hd1) ?_)); rintro e' w2 ⟨r2, rfl, hr2, hw2⟩; have hB2 : Below (w.heap.size + 1) wr w2 := hd1.trans (hw2.mono (by simp; omega))))
          have hW2 := hW.trans (hB2.mono (by omega))
          have hb2 := (hB2.block w.heap.size (by omega)).trans hb0
          have hsz2 := hB2.size
          have hr2' := Lib.hid ((em_part hlt (Nat.le_refl S.size) hr2).trans mt_three)
          clear hr2 hw2 hd1 hC2
          cases r2 with
          | false =>
            go_wp2_with fail
            go_roundw
            case rel =>
              refine ⟨i + 1, by omega, by go_num, Lib.hid (fun q hq => ?_), hb2, hW2, by omega⟩
              by_cases e : q = i
              · subst e; intro hh; have := hr2'.out.2 hh.2; cases this
              · exact hno.out q (by omega)
            case measure => simp [intOf]; omega
          | true =>
            go_wp2_with fail
            go_ret
            refine ⟨true, rfl, ?_, hW2⟩
            rw [mt_three]
            simp only [mtCat]
            exact ⟨fun _ => ⟨i, hr'.out.1 (by trivial), hr2'.out.1 (by trivial)⟩, fun _ => by trivial⟩
        · have hcI : (1 : Int) ≤ c := by omega
          have hc2 : 1 < c := by omega
          have hc3 : (1 : Int) < c := by omega
          have hc4 : ¬ (c : Int) = 1 := by omega
          have hl1 : (1 : Int) ≤ (1 : Int) := by omega
          have hC2 := Lib.hid fun W (hWW : Below (w.heap.size + 1) wr W) => HT.out i hlt W (hW.trans (hWW.mono (by omega)))
          go_wp2_with fail
          go_region_held3 (fun W => W.cell? ⟨w.heap.size, 3, none⟩ = some (.slice (some ⟨b, o, none⟩) 1 c))
            (first | exact (HS'.out _ hd1).1 | exact (HS'.out _ (by assumption)).1)
            (first | (go_at_call 43; ((with_reducible refine Calls.mono (hC2.out _ hd1) ?_)); rintro e' w2 ⟨r2, rfl, hr2, hw2⟩; have hB2 : Below (w.heap.size + 1) wr w2 := hd1.trans (hw2.mono (by simp; omega))))
          have hW2 := hW.trans (hB2.mono (by omega))
          have hb2 := (hB2.block w.heap.size (by omega)).trans hb0
          have hsz2 := hB2.size
          have hr2' := Lib.hid ((em_part hlt (Nat.le_refl S.size) hr2).trans mt_three)
          clear hr2 hw2 hd1 hC2
          cases r2 with
          | false =>
            go_wp2_with fail
            go_roundw
            case rel =>
              refine ⟨i + 1, by omega, by go_num, Lib.hid (fun q hq => ?_), hb2, hW2, by omega⟩
              by_cases e : q = i
              · subst e; intro hh; have := hr2'.out.2 hh.2; cases this
              · exact hno.out q (by omega)
            case measure => simp [intOf]; omega
          | true =>
            go_wp2_with fail
            go_ret
            refine ⟨true, rfl, ?_, hW2⟩
            rw [mt_three]
            simp only [mtCat]
            exact ⟨fun _ => ⟨i, hr'.out.1 (by trivial), hr2'.out.1 (by trivial)⟩, fun _ => by trivial⟩
    · obtain rfl : i = S.size + 1 := by omega
      have hlt' : ¬ ((S.size + 1 : Nat) : Int) ≤ S.size := by omega
      have hlt2 : ¬ ((S.size : Int) + 1) ≤ S.size := by omega
      go_wp2_with fail
      go_ret
      refine ⟨false, rfl, ?_, hW⟩
      rw [mt_three]
      simp only [mtCat]
      exact ⟨fun h => Bool.noConfusion h, fun ⟨q, h1, h2⟩ => absurd ⟨h1, by simpa only [mtCat] using h2⟩ (hno.out q (by omega))⟩
set_option maxHeartbeats 2000000 in
set_option maxRecDepth 100000 in
theorem em_3 (m : Nat) (ih : EM m) (S : ByteArray) (x : Rx) (t : List Rx) (A : Option Addr) (c : Nat) (w : World) (hm : nodes x + nodesL t ≤ m) (hgx : goodR x = true) (hgt : goodR (.node 3 0 0 t) = true) (h64 : S.size ≤ 64) (hsl : t.length + 1 ≤ 1048576) (hc : t.length + 1 ≤ c) (hbig : 2 ≤ c) (hs : RtL w (Lo w.heap.size) (x :: t) A) :
    Calls Tryz.prog 43 #[.agg #[.int .i64 3, .int .u8 0, .int .u8 0, .slice A (t.length + 1) c], .string S] w (EMOk w S (.node 3 0 0 (x :: t))) := by
  obtain ⟨b, o, A', c', rfl, hb, h4, hx⟩ := hs.get (j := 0) (by simp)
  simp only [List.getElem_cons_zero, Nat.zero_mul, Nat.add_zero] at h4 hx
  have hn1 : 1 ≤ nodes x := by cases x; simp [nodes]
  have hd : Below w.heap.size w (w.alloc (.cells #[.int .i64 3, .int .u8 0, .int .u8 0, .slice (some ⟨b, o, none⟩) (t.length + 1) c] 25)) := (Below.refl _ _).alloc (Nat.le_refl _) _
  have hrest := hs.drop 1
  rw [List.drop_succ_cons, List.drop_zero, Nat.one_mul] at hrest
  have hmx : nodes x ≤ m := by omega
  have hmt : nodes (.node 3 0 0 t) ≤ m := by simp only [nodes]; omega
  have hI : I64 3 := ⟨by decide, by decide⟩
  have hz8 : (0 : Int) ≤ 0 ∧ (0 : Int) < 256 := ⟨by decide, by decide⟩
  have htv : ∀ W, Below w.heap.size w W → RtV W (Lo W.heap.size) (.node 3 0 0 t) (rxv 3 0 0 (some ⟨b, o + 4, none⟩) t.length (c - 1)) := fun W hW => RtV.mk ⟨hI, hz8, hz8, by omega⟩ (by omega) (fun h => nomatch h) (hrest.call hW)
  have HX := Lib.hid (show ∀ i, i ≤ S.size → ∀ W, Below w.heap.size w W → Calls Tryz.prog 43 #[rxv x.kind x.lo x.hi A' x.kids.length c', .string (S.extract 0 i)] W (EMOk W (S.extract 0 i) x) from fun i hi W hW => ih x _ W (S.extract 0 i) hmx hgx (Nat.le_trans (by rw [size_part S hi]; omega) h64) (hx.call hW))
  have HT := Lib.hid (show ∀ i, i ≤ S.size → ∀ W, Below w.heap.size w W → Calls Tryz.prog 43 #[rxv 3 0 0 (some ⟨b, o + 4, none⟩) t.length (c - 1), .string (S.extract i S.size)] W (EMOk W (S.extract i S.size) (.node 3 0 0 t)) from fun i hi W hW => ih (.node 3 0 0 t) _ W (S.extract i S.size) hmt hgt (Nat.le_trans (by rw [size_part S (Nat.le_refl _)]; omega) h64) (htv W hW))
  have H4 := Lib.hid fun W (hW : Below w.heap.size w W) => h4.to (hW.block b hb)
  have h65 := Lib.hid h64
  have hcz := Lib.hid hc
  unfold rxv at HX HT
  clear ih hs hx h4 hrest hm hgx hgt h64 hn1 hmx hmt hI hz8 htv
  go_enter Tryz.func43, Tryz.ntmps43
  go_wp2_with fail
  rw [show ((t.length : Int) + 1 == 0) = false from beq_eq_false_iff_ne.2 (by omega)]
  go_loopw [5] (fun iv wr => ∃ i : Nat, i ≤ S.size + 1 ∧ iv = .int .i64 i ∧ Hid (∀ q, q < i → ¬ (mt (bytS S) x 0 q ∧ mtCat (bytS S) t q S.size)) ∧ wr.heap[w.heap.size]? = some (.cells #[.int .i64 3, .int .u8 0, .int .u8 0, .slice (some ⟨b, o, none⟩) (t.length + 1) c] 25 (0, 0)) ∧ Below w.heap.size w wr ∧ w.heap.size + 1 ≤ wr.heap.size) (fun iv _ => 66 - (intOf iv).toNat)
  case atStart => exact ⟨0, Nat.zero_le _, rfl, Lib.hid (fun q hq => absurd hq (Nat.not_lt_zero _)), heap_alloc_new w _, hd, by simp⟩
  case round =>
    clear hd
    obtain ⟨i, hi, rfl, hno, hb0, hW, hsz⟩ := hrel
    by_cases hlt : i ≤ S.size
    · have hlt' : (i : Int) ≤ S.size := by omega
      have hi64 : i ≤ 64 := Nat.le_trans hlt h65.out
      have hi0 : (0 : Int) ≤ (i : Int) := by omega
      have HS : ∀ W, Below (w.heap.size + 1) wr W → W.cell? ⟨w.heap.size, 3, none⟩ = some (.slice (some ⟨b, o, none⟩) (t.length + 1) c) ∧ W.cell? ⟨b, o, none⟩ = some (.int .i64 x.kind) ∧ W.cell? ⟨b, o + 1, none⟩ = some (.int .u8 x.lo) ∧ W.cell? ⟨b, o + 2, none⟩ = some (.int .u8 x.hi) ∧ W.cell? ⟨b, o + 3, none⟩ = some (.slice A' x.kids.length c') := fun W hWW =>
        ⟨(four ((hWW.block w.heap.size (by omega)).trans hb0)).2.2.2, H4.out W (hW.trans (hWW.mono (by omega)))⟩
      have HS' := Lib.hid HS
      clear HS
      have hd : Below (w.heap.size + 1) wr wr.drew := (Below.refl _ _).drew
      have hC := Lib.hid fun W (hWW : Below (w.heap.size + 1) wr W) => HX.out i hlt W (hW.trans (hWW.mono (by omega)))
      go_wp2_with fail
      go_region_held3 (fun W => W.cell? ⟨w.heap.size, 3, none⟩ = some (.slice (some ⟨b, o, none⟩) (t.length + 1) c) ∧ W.cell? ⟨b, o, none⟩ = some (.int .i64 x.kind) ∧ W.cell? ⟨b, o + 1, none⟩ = some (.int .u8 x.lo) ∧ W.cell? ⟨b, o + 2, none⟩ = some (.int .u8 x.hi) ∧ W.cell? ⟨b, o + 3, none⟩ = some (.slice A' x.kids.length c'))
        (first | exact HS'.out _ hd | exact HS'.out _ (by assumption))
        (first | (go_at_call 43; ((with_reducible refine Calls.mono (hC.out _ hd) ?_)); rintro e' w1 ⟨r, rfl, hr, hw1⟩; have hB1 : Below (w.heap.size + 1) wr w1 := hd.trans (hw1.mono (by simp; omega))))
      have hW1 := hW.trans (hB1.mono (by omega))
      have hb1 := (hB1.block w.heap.size (by omega)).trans hb0
      have hsz1 := hB1.size
      have hr' := Lib.hid (em_part (Nat.zero_le i) hlt hr)
      clear hr hw1 hd hC
      cases r with
      | false =>
        go_wp2_with fail
        go_quiet (fail)
        go_wp2_with fail
        go_roundw
        case rel =>
          refine ⟨i + 1, by omega, by go_num, Lib.hid (fun q hq => ?_), hb1, below_drewN hW1 _, by show w.heap.size + 1 ≤ w1.heap.size; omega⟩
          by_cases e : q = i
          · subst e; intro hh; have := hr'.out.2 hh.1; cases this
          · exact hno.out q (by omega)
        case measure => simp [intOf]; omega
      | true =>
        have hd1 : Below (w.heap.size + 1) wr w1.drew := hB1.drew
        have hcI : (t.length : Int) + 1 ≤ c := by omega
        have hc1 : ¬ c = 1 := by omega
        have hc2 : 1 < c := by omega
        have hc3 : (1 : Int) < c := by omega
        have hc4 : ¬ (c : Int) = 1 := by omega
        have hl1 : (1 : Int) ≤ (t.length : Int) + 1 := by omega
        have hC2 := Lib.hid fun W (hWW : Below (w.heap.size + 1) wr W) => HT.out i hlt W (hW.trans (hWW.mono (by omega)))
        go_wp2_with fail
        go_region_held3 (fun W => W.cell? ⟨w.heap.size, 3, none⟩ = some (.slice (some ⟨b, o, none⟩) (t.length + 1) c))
          (first | exact (HS'.out _ hd1).1 | exact (HS'.out _ (by assumption)).1)
          (first | (go_at_call 43; ((with_reducible refine Calls.mono (hC2.out _ hd1) ?_)); rintro e' w2 ⟨r2, rfl, hr2, hw2⟩; have hB2 : Below (w.heap.size + 1) wr w2 := hd1.trans (hw2.mono (by simp; omega))))
        have hW2 := hW.trans (hB2.mono (by omega))
        have hb2 := (hB2.block w.heap.size (by omega)).trans hb0
        have hsz2 := hB2.size
        have hr2' := Lib.hid ((em_part hlt (Nat.le_refl S.size) hr2).trans mt_three)
        clear hr2 hw2 hd1 hC2
        cases r2 with
        | false =>
          go_wp2_with fail
          go_roundw
          case rel =>
            refine ⟨i + 1, by omega, by go_num, Lib.hid (fun q hq => ?_), hb2, hW2, by omega⟩
            by_cases e : q = i
            · subst e; intro hh; have := hr2'.out.2 hh.2; cases this
            · exact hno.out q (by omega)
          case measure => simp [intOf]; omega
        | true =>
          go_wp2_with fail
          go_ret
          refine ⟨true, rfl, ?_, hW2⟩
          rw [mt_three]
          simp only [mtCat]
          exact ⟨fun _ => ⟨i, hr'.out.1 (by trivial), hr2'.out.1 (by trivial)⟩, fun _ => by trivial⟩
    · obtain rfl : i = S.size + 1 := by omega
      have hlt' : ¬ ((S.size + 1 : Nat) : Int) ≤ S.size := by omega
      have hlt2 : ¬ ((S.size : Int) + 1) ≤ S.size := by omega
      go_wp2_with fail
      go_ret
      refine ⟨false, rfl, ?_, hW⟩
      rw [mt_three]
      simp only [mtCat]
      exact ⟨fun h => Bool.noConfusion h, fun ⟨q, h1, h2⟩ => absurd ⟨h1, h2⟩ (hno.out q (by have := mtCat_le _ _ h2; omega))⟩
theorem mt_four {b : Nat → Int} {s : List Rx} {i j : Nat} : mt b (.node 4 0 0 s) i j ↔ mtAny b s i j := by simp [mt]
theorem mt_five {b : Nat → Int} {s : List Rx} {j : Nat} : mt b (.node 5 0 0 s) 0 j ↔ mtAll b s 0 j := by simp [mt]
theorem any_of {b : Nat → Int} {i j : Nat} : ∀ {s : List Rx} {x : Rx}, x ∈ s → mt b x i j → mtAny b s i j
  | y :: s, x, hx, h => by
    simp only [mtAny]
    rcases List.mem_cons.1 hx with rfl | hx
    · exact .inl h
    · exact .inr (any_of hx h)
theorem all_of {b : Nat → Int} {i j : Nat} : ∀ {s : List Rx} {x : Rx}, x ∈ s → mtAll b s i j → mt b x i j
  | y :: s, x, hx, h => by
    simp only [mtAll] at h
    rcases List.mem_cons.1 hx with rfl | hx
    · exact h.1
    · exact all_of hx h.2
set_option maxHeartbeats 2000000 in
set_option maxRecDepth 100000 in
theorem em_4 (m : Nat) (ih : EM m) (S : ByteArray) (s : List Rx) (A : Option Addr) (c : Nat) (w : World) (hm : nodesL s ≤ m) (hgs : ∀ x ∈ s, goodR x = true) (h64 : S.size ≤ 64) (hsl : s.length ≤ 1048576) (hs : RtL w (Lo w.heap.size) s A) : Calls Tryz.prog 43 #[.agg #[.int .i64 4, .int .u8 0, .int .u8 0, .slice A s.length c], .string S] w (EMOk w S (.node 4 0 0 s)) := by
  have hd : Below w.heap.size w (w.alloc (.cells #[.int .i64 4, .int .u8 0, .int .u8 0, .slice A s.length c] 25)) := (Below.refl _ _).alloc (Nat.le_refl _) _
  have HS0 := Lib.hid hs
  have HI := Lib.hid ih
  have HG := Lib.hid hgs
  clear hs ih hgs
  go_enter Tryz.func43, Tryz.ntmps43
  go_wp2_with fail
  go_loopw [7] (fun iv wr => ∃ i : Nat, i ≤ s.length ∧ iv = .int .i64 i ∧ Hid (¬ mtAny (bytS S) (s.take i) 0 S.size) ∧ wr.heap[w.heap.size]? = some (.cells #[.int .i64 4, .int .u8 0, .int .u8 0, .slice A s.length c] 25 (0, 0)) ∧ Below w.heap.size w wr ∧ w.heap.size + 1 ≤ wr.heap.size) (fun iv _ => s.length - (intOf iv).toNat)
  case atStart => exact ⟨0, Nat.zero_le _, rfl, Lib.hid (by simp [mtAny, mtAll]), heap_alloc_new w _, hd, by simp⟩
  case round =>
    clear hd
    obtain ⟨i, hi, rfl, hno, hb0, hW, hsz⟩ := hrel
    obtain ⟨k0, _, _, k3⟩ := four hb0
    by_cases hlt : i < s.length
    · have hlt' : (i : Int) < s.length := by omega
      obtain ⟨b, o, A', c', rfl, hb, h4, hx⟩ := HS0.out.get hlt
      have hnod : nodes s[i] ≤ m := by have := nodes_get hlt; omega
      have HC0 := Lib.hid fun W (hWW : Below (w.heap.size + 1) wr W) => HI.out s[i] _ W S hnod (HG.out _ (List.getElem_mem hlt)) h64 (hx.call (hW.trans (hWW.mono (by omega))))
      have HS := Lib.hid fun W (hWW : Below (w.heap.size + 1) wr W) => (show (W.cell? ⟨w.heap.size, 0, none⟩ = some (.int .i64 4) ∧ W.cell? ⟨w.heap.size, 3, none⟩ = some (.slice (some ⟨b, o, none⟩) s.length c)) ∧ At4 W b (o + i * 4) s[i].kind s[i].lo s[i].hi (.slice A' s[i].kids.length c') from ⟨⟨(four ((hWW.block w.heap.size (by omega)).trans hb0)).1, (four ((hWW.block w.heap.size (by omega)).trans hb0)).2.2.2⟩, h4.to ((hW.trans (hWW.mono (by omega))).block b hb)⟩)
      have hst := Lib.hid (show s.take (i + 1) = s.take i ++ [s[i]] from List.take_succ_eq_append_getElem hlt)
      have hin := Lib.hid (List.getElem_mem hlt)
      clear hx h4 hnod
      generalize s[i] = x at HC0 HS hst hin
      unfold rxv at HC0
      have hd : Below (w.heap.size + 1) wr wr.drew := (Below.refl _ _).drew
      go_wp2_with fail
      go_region_held3 (fun W => W.cell? ⟨w.heap.size, 0, none⟩ = some (.int .i64 4) ∧ W.cell? ⟨w.heap.size, 3, none⟩ = some (.slice (some ⟨b, o, none⟩) s.length c) ∧ W.cell? ⟨b, o + i * 4, none⟩ = some (.int .i64 x.kind) ∧ W.cell? ⟨b, o + i * 4 + 1, none⟩ = some (.int .u8 x.lo) ∧ W.cell? ⟨b, o + i * 4 + 2, none⟩ = some (.int .u8 x.hi) ∧ W.cell? ⟨b, o + i * 4 + 3, none⟩ = some (.slice A' x.kids.length c'))
        (first | exact ⟨(HS.out _ hd).1.1, (HS.out _ hd).1.2, (HS.out _ hd).2⟩ | exact ⟨(HS.out _ hB1).1.1, (HS.out _ hB1).1.2, (HS.out _ hB1).2⟩)
        (first | (go_at_call 43; ((with_reducible refine Calls.mono (HC0.out _ hd) ?_)); rintro e' w1 ⟨r, rfl, hr, hw1⟩; have hB1 : Below (w.heap.size + 1) wr w1 := hd.trans (hw1.mono (by simp; omega))))
      all_goals
        have hW1 := hW.trans (hB1.mono (by omega))
        have hb1 := (hB1.block w.heap.size (by omega)).trans hb0
        have hsz1 := hB1.size
        obtain ⟨j0, _, _, j3⟩ := four hb1
        have hr' := Lib.hid hr
        clear hr hw1 hd HC0 HS
        cases r with
        | true =>
          go_wp2_with fail
          go_ret
          exact ⟨true, rfl, by rw [mt_four]; exact ⟨fun _ => any_of hin.out (hr'.out.1 (by first | rfl | trivial)), fun _ => rfl⟩, hW1⟩
        | false =>
          go_wp2_with fail
          go_roundw
          case rel => exact ⟨i + 1, by omega, by go_num, Lib.hid (by rw [hst.out, mtAny_snoc]; exact fun h => h.elim hno.out (fun h => Bool.noConfusion (hr'.out.2 h))), hb1, hW1, by omega⟩
          case measure => simp [intOf]; omega
    · obtain rfl : i = s.length := by omega
      have hlt' : ¬ (s.length : Int) < s.length := by omega
      have hfin := hno.out
      rw [List.take_length] at hfin
      have HF := Lib.hid hfin
      clear hno hfin
      go_wp2_with fail
      go_ret
      exact ⟨false, rfl, by rw [mt_four]; exact ⟨fun h => Bool.noConfusion h, fun h => absurd h HF.out⟩, hW⟩
set_option maxHeartbeats 2000000 in
set_option maxRecDepth 100000 in
theorem em_5 (m : Nat) (ih : EM m) (S : ByteArray) (s : List Rx) (A : Option Addr) (c : Nat) (w : World) (hm : nodesL s ≤ m) (hgs : ∀ x ∈ s, goodR x = true) (h64 : S.size ≤ 64) (hsl : s.length ≤ 1048576) (hs : RtL w (Lo w.heap.size) s A) : Calls Tryz.prog 43 #[.agg #[.int .i64 5, .int .u8 0, .int .u8 0, .slice A s.length c], .string S] w (EMOk w S (.node 5 0 0 s)) := by
  have hd : Below w.heap.size w (w.alloc (.cells #[.int .i64 5, .int .u8 0, .int .u8 0, .slice A s.length c] 25)) := (Below.refl _ _).alloc (Nat.le_refl _) _
  have HS0 := Lib.hid hs
  have HI := Lib.hid ih
  have HG := Lib.hid hgs
  clear hs ih hgs
  go_enter Tryz.func43, Tryz.ntmps43
  go_wp2_with fail
  go_loopw [7] (fun iv wr => ∃ i : Nat, i ≤ s.length ∧ iv = .int .i64 i ∧ Hid (mtAll (bytS S) (s.take i) 0 S.size) ∧ wr.heap[w.heap.size]? = some (.cells #[.int .i64 5, .int .u8 0, .int .u8 0, .slice A s.length c] 25 (0, 0)) ∧ Below w.heap.size w wr ∧ w.heap.size + 1 ≤ wr.heap.size) (fun iv _ => s.length - (intOf iv).toNat)
  case atStart => exact ⟨0, Nat.zero_le _, rfl, Lib.hid (by simp [mtAny, mtAll]), heap_alloc_new w _, hd, by simp⟩
  case round =>
    clear hd
    obtain ⟨i, hi, rfl, hno, hb0, hW, hsz⟩ := hrel
    obtain ⟨k0, _, _, k3⟩ := four hb0
    by_cases hlt : i < s.length
    · have hlt' : (i : Int) < s.length := by omega
      obtain ⟨b, o, A', c', rfl, hb, h4, hx⟩ := HS0.out.get hlt
      have hnod : nodes s[i] ≤ m := by have := nodes_get hlt; omega
      have HC0 := Lib.hid fun W (hWW : Below (w.heap.size + 1) wr W) => HI.out s[i] _ W S hnod (HG.out _ (List.getElem_mem hlt)) h64 (hx.call (hW.trans (hWW.mono (by omega))))
      have HS := Lib.hid fun W (hWW : Below (w.heap.size + 1) wr W) => (show (W.cell? ⟨w.heap.size, 0, none⟩ = some (.int .i64 5) ∧ W.cell? ⟨w.heap.size, 3, none⟩ = some (.slice (some ⟨b, o, none⟩) s.length c)) ∧ At4 W b (o + i * 4) s[i].kind s[i].lo s[i].hi (.slice A' s[i].kids.length c') from ⟨⟨(four ((hWW.block w.heap.size (by omega)).trans hb0)).1, (four ((hWW.block w.heap.size (by omega)).trans hb0)).2.2.2⟩, h4.to ((hW.trans (hWW.mono (by omega))).block b hb)⟩)
      have hst := Lib.hid (show s.take (i + 1) = s.take i ++ [s[i]] from List.take_succ_eq_append_getElem hlt)
      have hin := Lib.hid (List.getElem_mem hlt)
      clear hx h4 hnod
      generalize s[i] = x at HC0 HS hst hin
      unfold rxv at HC0
      have hd : Below (w.heap.size + 1) wr wr.drew := (Below.refl _ _).drew
      go_wp2_with fail
      go_region_held3 (fun W => W.cell? ⟨w.heap.size, 0, none⟩ = some (.int .i64 5) ∧ W.cell? ⟨w.heap.size, 3, none⟩ = some (.slice (some ⟨b, o, none⟩) s.length c) ∧ W.cell? ⟨b, o + i * 4, none⟩ = some (.int .i64 x.kind) ∧ W.cell? ⟨b, o + i * 4 + 1, none⟩ = some (.int .u8 x.lo) ∧ W.cell? ⟨b, o + i * 4 + 2, none⟩ = some (.int .u8 x.hi) ∧ W.cell? ⟨b, o + i * 4 + 3, none⟩ = some (.slice A' x.kids.length c'))
        (first | exact ⟨(HS.out _ hd).1.1, (HS.out _ hd).1.2, (HS.out _ hd).2⟩ | exact ⟨(HS.out _ hB1).1.1, (HS.out _ hB1).1.2, (HS.out _ hB1).2⟩)
        (first | (go_at_call 43; ((with_reducible refine Calls.mono (HC0.out _ hd) ?_)); rintro e' w1 ⟨r, rfl, hr, hw1⟩; have hB1 : Below (w.heap.size + 1) wr w1 := hd.trans (hw1.mono (by simp; omega))))
      all_goals
        have hW1 := hW.trans (hB1.mono (by omega))
        have hb1 := (hB1.block w.heap.size (by omega)).trans hb0
        have hsz1 := hB1.size
        obtain ⟨j0, _, _, j3⟩ := four hb1
        have hr' := Lib.hid hr
        clear hr hw1 hd HC0 HS
        cases r with
        | false =>
          go_wp2_with fail
          go_ret
          exact ⟨false, rfl, by rw [mt_five]; exact ⟨fun h => Bool.noConfusion h, fun h => Bool.noConfusion (hr'.out.2 (all_of hin.out h))⟩, hW1⟩
        | true =>
          go_wp2_with fail
          go_roundw
          case rel => exact ⟨i + 1, by omega, by go_num, Lib.hid (by rw [hst.out, mtAll_snoc]; exact ⟨hno.out, hr'.out.1 (by first | rfl | trivial)⟩), hb1, hW1, by omega⟩
          case measure => simp [intOf]; omega
    · obtain rfl : i = s.length := by omega
      have hlt' : ¬ (s.length : Int) < s.length := by omega
      have hfin := hno.out
      rw [List.take_length] at hfin
      have HF := Lib.hid hfin
      clear hno hfin
      go_wp2_with fail
      go_ret
      exact ⟨true, rfl, by rw [mt_five]; exact ⟨fun _ => by have h := HF.out; exact h, fun _ => by trivial⟩, hW⟩
end Go.Proofs.YtijcjknaphboeaaGreatDoor

namespace Go.Proofs.YtijcjknaphboeaaGreatDoor
open Go.RowKit

set_option maxHeartbeats 2000000 in
set_option maxRecDepth 100000 in
theorem em_7step (m : Nat) (ih : EM m) (x : Rx) (A : Option Addr) (c : Nat) (hm : nodes x ≤ m) (hgx : goodR x = true) (S : ByteArray) (w : World) (h64 : S.size ≤ 64) (hs : RtL w (Lo w.heap.size) [x] A)
    (IH : ∀ (T : ByteArray) (W : World), T.size < S.size → RtL W (Lo W.heap.size) [x] A → Calls Tryz.prog 43 #[.agg #[.int .i64 7, .int .u8 0, .int .u8 0, .slice A 1 c], .string T] W (EMOk W T (.node 7 0 0 [x]))) :
    Calls Tryz.prog 43 #[.agg #[.int .i64 7, .int .u8 0, .int .u8 0, .slice A 1 c], .string S] w (EMOk w S (.node 7 0 0 [x])) := by
  obtain ⟨b, o, A', c', rfl, hb, h4, hx⟩ := hs.get (j := 0) (by simp)
  simp only [List.getElem_cons_zero, Nat.zero_mul, Nat.add_zero] at h4 hx
  have hd : Below w.heap.size w (w.alloc (.cells #[.int .i64 7, .int .u8 0, .int .u8 0, .slice (some ⟨b, o, none⟩) 1 c] 25)) := (Below.refl _ _).alloc (Nat.le_refl _) _
  have HX := Lib.hid (show ∀ i, i ≤ S.size → ∀ W, Below w.heap.size w W → Calls Tryz.prog 43 #[rxv x.kind x.lo x.hi A' x.kids.length c', .string (S.extract 0 i)] W (EMOk W (S.extract 0 i) x) from fun i hi W hW => ih x _ W (S.extract 0 i) hm hgx (Nat.le_trans (by rw [size_part S hi]; omega) h64) (hx.call hW))
  have HT := Lib.hid (show ∀ i, 1 ≤ i → i ≤ S.size → ∀ W, Below w.heap.size w W → Calls Tryz.prog 43 #[.agg #[.int .i64 7, .int .u8 0, .int .u8 0, .slice (some ⟨b, o, none⟩) 1 c], .string (S.extract i S.size)] W (EMOk W (S.extract i S.size) (.node 7 0 0 [x])) from fun i h1 hi W hW => IH (S.extract i S.size) W (by rw [size_part S (Nat.le_refl _)]; omega) (hs.call hW))
  have H4 := Lib.hid fun W (hW : Below w.heap.size w W) => h4.to (hW.block b hb)
  have h65 := Lib.hid h64
  unfold rxv at HX
  clear ih IH hs hx h4 hm hgx h64
  go_enter Tryz.func43, Tryz.ntmps43
  go_wp2_with fail
  go_loopw [8] (fun iv wr => ∃ i : Nat, 1 ≤ i ∧ i ≤ S.size + 1 ∧ iv = .int .i64 i ∧ Hid (∀ q, 1 ≤ q → q < i → ¬ (mt (bytS S) x 0 q ∧ Star (mt (bytS S) x) q S.size)) ∧ wr.heap[w.heap.size]? = some (.cells #[.int .i64 7, .int .u8 0, .int .u8 0, .slice (some ⟨b, o, none⟩) 1 c] 25 (0, 0)) ∧ Below w.heap.size w wr ∧ w.heap.size + 1 ≤ wr.heap.size) (fun iv _ => 66 - (intOf iv).toNat)
  case atStart => exact ⟨1, Nat.le_refl _, by omega, rfl, Lib.hid (fun q h1 h2 => by omega), heap_alloc_new w _, hd, by simp⟩
  case round =>
    clear hd
    obtain ⟨i, hi1, hi, rfl, hno, hb0, hW, hsz⟩ := hrel
    by_cases hlt : i ≤ S.size
    · have hlt' : (i : Int) ≤ S.size := by omega
      have hi64 : i ≤ 64 := Nat.le_trans hlt h65.out
      have hi0 : (0 : Int) ≤ (i : Int) := by omega
      have HS' := Lib.hid fun W (hWW : Below (w.heap.size + 1) wr W) => (show (W.cell? ⟨w.heap.size, 0, none⟩ = some (.int .i64 7) ∧ W.cell? ⟨w.heap.size, 1, none⟩ = some (.int .u8 0) ∧ W.cell? ⟨w.heap.size, 2, none⟩ = some (.int .u8 0) ∧ W.cell? ⟨w.heap.size, 3, none⟩ = some (.slice (some ⟨b, o, none⟩) 1 c)) ∧ W.cell? ⟨b, o, none⟩ = some (.int .i64 x.kind) ∧ W.cell? ⟨b, o + 1, none⟩ = some (.int .u8 x.lo) ∧ W.cell? ⟨b, o + 2, none⟩ = some (.int .u8 x.hi) ∧ W.cell? ⟨b, o + 3, none⟩ = some (.slice A' x.kids.length c') from
        ⟨four ((hWW.block w.heap.size (by omega)).trans hb0), H4.out W (hW.trans (hWW.mono (by omega)))⟩)
      have hd : Below (w.heap.size + 1) wr wr.drew := (Below.refl _ _).drew
      have hC := Lib.hid fun W (hWW : Below (w.heap.size + 1) wr W) => HX.out i hlt W (hW.trans (hWW.mono (by omega)))
      go_wp2_with fail
      go_region_held3 (fun W => W.cell? ⟨w.heap.size, 3, none⟩ = some (.slice (some ⟨b, o, none⟩) 1 c) ∧ W.cell? ⟨b, o, none⟩ = some (.int .i64 x.kind) ∧ W.cell? ⟨b, o + 1, none⟩ = some (.int .u8 x.lo) ∧ W.cell? ⟨b, o + 2, none⟩ = some (.int .u8 x.hi) ∧ W.cell? ⟨b, o + 3, none⟩ = some (.slice A' x.kids.length c'))
        (first | exact ⟨(HS'.out _ hd).1.2.2.2, (HS'.out _ hd).2⟩ | exact ⟨(HS'.out _ hB1).1.2.2.2, (HS'.out _ hB1).2⟩)
        (first | (go_at_call 43; ((with_reducible refine Calls.mono (hC.out _ hd) ?_)); rintro e' w1 ⟨r, rfl, hr, hw1⟩; have hB1 : Below (w.heap.size + 1) wr w1 := hd.trans (hw1.mono (by simp; omega))))
      have hW1 := hW.trans (hB1.mono (by omega))
      have hb1 := (hB1.block w.heap.size (by omega)).trans hb0
      have hsz1 := hB1.size
      have hr' := Lib.hid (em_part (Nat.zero_le i) hlt hr)
      clear hr hw1 hd hC
      cases r with
      | false =>
        go_wp2_with fail
        go_quiet (fail)
        go_wp2_with fail
        go_roundw
        case rel =>
          refine ⟨i + 1, by omega, by omega, by go_num, Lib.hid (fun q h1 hq => ?_), hb1, below_drewN hW1 _, by show w.heap.size + 1 ≤ w1.heap.size; omega⟩
          by_cases e : q = i
          · subst e; intro hh; have := hr'.out.2 hh.1; cases this
          · exact hno.out q h1 (by omega)
        case measure => simp [intOf]; omega
      | true =>
        have hd1 : Below (w.heap.size + 1) wr w1.drew := hB1.drew
        have hC2 := Lib.hid fun W (hWW : Below (w.heap.size + 1) wr W) => HT.out i hi1 hlt W (hW.trans (hWW.mono (by omega)))
        go_wp2_with fail
        go_region_held3 (fun W => W.cell? ⟨w.heap.size, 0, none⟩ = some (.int .i64 7) ∧ W.cell? ⟨w.heap.size, 1, none⟩ = some (.int .u8 0) ∧ W.cell? ⟨w.heap.size, 2, none⟩ = some (.int .u8 0) ∧ W.cell? ⟨w.heap.size, 3, none⟩ = some (.slice (some ⟨b, o, none⟩) 1 c))
          (first | exact (HS'.out _ hd1).1 | exact (HS'.out _ hB2).1)
          (first | (go_at_call 43; ((with_reducible refine Calls.mono (hC2.out _ hd1) ?_)); rintro e' w2 ⟨r2, rfl, hr2, hw2⟩; have hB2 : Below (w.heap.size + 1) wr w2 := hd1.trans (hw2.mono (by simp; omega))))
        have hW2 := hW.trans (hB2.mono (by omega))
        have hb2 := (hB2.block w.heap.size (by omega)).trans hb0
        have hsz2 := hB2.size
        have hr2' := Lib.hid ((em_part hlt (Nat.le_refl S.size) hr2).trans mt_seven)
        clear hr2 hw2 hd1 hC2
        cases r2 with
        | false =>
          go_wp2_with fail
          go_roundw
          case rel =>
            refine ⟨i + 1, by omega, by omega, by go_num, Lib.hid (fun q h1 hq => ?_), hb2, hW2, by omega⟩
            by_cases e : q = i
            · subst e; intro hh; have := hr2'.out.2 hh.2; cases this
            · exact hno.out q h1 (by omega)
          case measure => simp [intOf]; omega
        | true =>
          go_wp2_with fail
          go_ret
          refine ⟨true, rfl, ?_, hW2⟩
          rw [mt_seven]
          exact ⟨fun _ => .step (hr'.out.1 (by trivial)) (by omega) (hr2'.out.1 (by trivial)), fun _ => by trivial⟩
    · obtain rfl : i = S.size + 1 := by omega
      have hlt' : ¬ ((S.size + 1 : Nat) : Int) ≤ S.size := by omega
      have hlt2 : ¬ ((S.size : Int) + 1) ≤ S.size := by omega
      go_wp2_with fail
      go_ret
      refine ⟨_, rfl, ?_, hW⟩
      rw [empty_iff, mt_seven, star_zero]
      exact ⟨fun h => .inl h.symm, fun h => h.elim (fun h => h.symm) (fun ⟨q, h1, h2, h3⟩ => absurd ⟨h1, h3⟩ (hno.out q (by omega) (by have := h3.le; omega)))⟩
theorem em_7 (m : Nat) (ih : EM m) (x : Rx) (A : Option Addr) (c : Nat) (hm : nodes x ≤ m) (hgx : goodR x = true) (n : Nat) : ∀ (S : ByteArray) (w : World), S.size ≤ n → S.size ≤ 64 → RtL w (Lo w.heap.size) [x] A → Calls Tryz.prog 43 #[.agg #[.int .i64 7, .int .u8 0, .int .u8 0, .slice A 1 c], .string S] w (EMOk w S (.node 7 0 0 [x])) := by
  induction n with
  | zero => exact fun S w hn h64 hs => em_7step m ih x A c hm hgx S w h64 hs (fun T W h _ => absurd h (by omega))
  | succ n IH => exact fun S w hn h64 hs => em_7step m ih x A c hm hgx S w h64 hs (fun T W h hT => IH T W (by omega) (by omega) hT)
theorem goodL_mem : ∀ {s : List Rx}, goodL s = true → ∀ x ∈ s, goodR x = true
  | y :: s, h, x, hx => by
    simp only [goodL, Bool.and_eq_true] at h
    rcases List.mem_cons.1 hx with rfl | hx
    · exact h.1
    · exact goodL_mem h.2 x hx
theorem em_any (m : Nat) : EM m := by
  induction m with
  | zero => intro x v w S h0; cases x; simp [nodes] at h0
  | succ m ih =>
    intro x v w S hm hg h64 hv
    obtain ⟨k, l, h, s⟩ := x
    obtain ⟨⟨hk, hl, hh, hsl⟩, A, c, rfl, hc, hA, hs⟩ := hv.parts
    simp only [Rx.kind, Rx.lo, Rx.hi, Rx.kids] at hk hl hh hsl hc hs ⊢
    have hm' : nodesL s ≤ m := by simp only [nodes] at hm; omega
    unfold rxv
    simp only [goodR, Bool.and_eq_true, decide_eq_true_eq, Bool.or_eq_true, beq_iff_eq] at hg
    obtain ⟨⟨⟨⟨g1, g2⟩, g3⟩, g4⟩, g5⟩ := hg
    have hz : k = 2 ∨ k ≠ 2 ∧ l = 0 ∧ h = 0 := by
      by_cases e : k = 2
      · exact .inl e
      · rcases g4 with g4 | g4
        · exact absurd g4 e
        · exact .inr ⟨e, by omega, by omega⟩
    obtain ⟨q, rfl⟩ : ∃ q : Nat, k = q := ⟨k.toNat, by omega⟩
    rw [Int.toNat_natCast] at g2
    have hq : q = 0 ∨ q = 1 ∨ q = 2 ∨ q = 3 ∨ q = 4 ∨ q = 5 ∨ q = 6 ∨ q = 7 := by omega
    have nil : mostK q = 0 → s = [] := fun e => List.eq_nil_of_length_eq_zero (by omega)
    have one : leastK q = 1 → mostK q = 1 → ∃ x, s = [x] := fun e1 e2 => List.length_eq_one_iff.1 (by omega)
    rcases hq with rfl | rfl | rfl | rfl | rfl | rfl | rfl | rfl
    · obtain ⟨_, rfl, rfl⟩ := hz.resolve_left (by decide)
      exact em_0 S A s.length c 0 0 s w
    · obtain ⟨_, rfl, rfl⟩ := hz.resolve_left (by decide)
      exact em_1 S A s.length c 0 0 s w
    · obtain rfl := nil rfl
      exact em_2 S A 0 c l h w
    · obtain ⟨_, rfl, rfl⟩ := hz.resolve_left (by decide)
      have hgn : ∀ t : List Rx, t.length ≤ 64 → goodL t = true → goodR (.node 3 0 0 t) = true := fun t h1 h2 => by
        simp only [goodR, Bool.and_eq_true, decide_eq_true_eq, Bool.or_eq_true, beq_iff_eq]
        exact ⟨⟨⟨⟨⟨by decide, by decide⟩, ⟨Nat.zero_le _, h1⟩⟩, by decide⟩, .inr (by decide)⟩, h2⟩
      cases s with
      | nil => exact em_3nil S A c w
      | cons x t =>
        have gx := goodL_mem g5 x (by simp)
        have gt : goodL t = true := by simp only [goodL, Bool.and_eq_true] at g5; exact g5.2
        have h63 : t.length ≤ 64 := by have := g2.2; simp [mostK] at this; omega
        have hnx : nodes x + nodesL t ≤ m := by simp only [nodesL] at hm'; exact hm'
        cases t with
        | nil => exact em_3one m ih S x A c w (by simp only [nodesL] at hnx; omega) gx (hgn [] (by simp) rfl) h64 (by simpa using hc) hs
        | cons y t => exact em_3 m ih S x (y :: t) A c w hnx gx (hgn _ h63 gt) h64 (by simpa using hsl) (by simpa using hc) (by simp at hc; omega) hs
    · obtain ⟨_, rfl, rfl⟩ := hz.resolve_left (by decide)
      exact em_4 m ih S s A c w hm' (goodL_mem g5) h64 hsl hs
    · obtain ⟨_, rfl, rfl⟩ := hz.resolve_left (by decide)
      exact em_5 m ih S s A c w hm' (goodL_mem g5) h64 hsl hs
    · obtain ⟨_, rfl, rfl⟩ := hz.resolve_left (by decide)
      obtain ⟨x, rfl⟩ := one rfl rfl
      exact em_6 m ih S x A c w (by simp only [nodesL] at hm'; omega) (goodL_mem g5 x (by simp)) h64 hs
    · obtain ⟨_, rfl, rfl⟩ := hz.resolve_left (by decide)
      obtain ⟨x, rfl⟩ := one rfl rfl
      exact em_7 m ih x A c (by simp only [nodesL] at hm'; omega) (goodL_mem g5 x (by simp)) S.size S w (Nat.le_refl _) h64 hs
end Go.Proofs.YtijcjknaphboeaaGreatDoor
