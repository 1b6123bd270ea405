/-
  THE WALK of the law on one byte of the label (P1.3).
-/
import Derived.Test.YtkogodkhhpodnaaOneGroupW
import Derived.Laws.BytesArg
namespace Go.Proofs.Ytkogodkhhpodnaa
open Go.RowKit

theorem rd_conv (w : World) (C : Array Value) (zs : List Int) (hC : Hid (∀ j, j < zs.length → C[j]? = some (.int .u8 (zs[j]?.getD 0)))) :
    RdI (w.alloc (.cells C 5 (C.size, C.size + 1))).drew (w.alloc (.cells C 5 (C.size, C.size + 1))).drew.heap.size .u8 (some ⟨w.heap.size, 0, none⟩) zs :=
  .inr ⟨w.heap.size, 0, rfl, by simp, fun j hj => by
    have h1 := World.cell?_alloc_mark w C 5 (C.size, C.size + 1) j
    rw [hC.out j hj] at h1
    rw [Nat.zero_add]
    exact h1⟩
theorem around_int {n : Int} {m k : Nat} (h : ∀ w : World, Calls Try.prog 21 #[.int .i64 n, .int .i64 m] w fun e w' => e = .returned (.int .i64 k) ∧ w = w') (x : Int) (W : World) (hx : x = m) :
    Calls Try.prog 21 #[.int .i64 n, .int .i64 x] W fun e w' => e = .returned (.int .i64 k) ∧ W = w' := by
  subst hx; exact h W

theorem set_self_iff {l : List Int} {k : Nat} (hk : k < l.length) (v : Int) : l = l.set k v ↔ v = l[k]?.getD 0 := by
  refine ⟨fun h => ?_, fun h => ?_⟩
  · have h2 := congrArg (fun t : List Int => t[k]?.getD 0) h
    simpa [hk] using h2.symm
  · subst h
    apply List.ext_getElem?
    intro i
    by_cases hi : k = i
    · subst hi
      simp [hk]
    · rw [List.getElem?_set_ne hi]

theorem sb_of_nums {zs : List Int} (h : Bytes8 zs) : sb (strOfNums zs) = zs := by
  have e : (strOfNums zs).data.toList = zs.map fun n => UInt8.ofNat n.toNat := strOfNums_data zs
  unfold sb
  rw [e, List.map_map]
  conv => rhs; rw [← List.map_id zs]
  refine List.map_congr_left fun z hz => ?_
  have hb := h z hz
  show ((UInt8.ofNat z.toNat).toNat : Int) = z
  rw [UInt8.toNat_ofNat']
  omega

/-- string(b) of a byte slice, in every world in which it reads as zs -/
theorem conv_string (g n c : Nat) (zs : List Int) (W : World) (hn : zs.length = n) (hr : RdI W W.heap.size .u8 (some ⟨g, 0, none⟩) zs) :
    (convert 30 9 (.slice (some ⟨g, 0, none⟩) n c)).run Try.prog W = .ok (.string (strOfNums zs)) W :=
  run_convert_bytes_arg W 30 5 Try.underlying30 Try.underlying5 g 0 n c zs hn (fun i hi => by
    obtain ⟨b, o, e, _, hc⟩ := hr.at_ (j := i) (by omega)
    cases e
    rw [hc, List.getD_eq_getElem?_getD]) 9 Try.underlying9

theorem label_eq {la l : List Int} {k : Nat} {y b : Int} (ha8 : Bytes8 la) (h63 : la.length ≤ 1000) (hl : l.length ≤ 1000) (hk : k < la.length) (hy : y = la[k]?.getD 0) (hb : 0 ≤ b ∧ b < 256) :
    ((sumI la l == sumI (la.set k (bits .xor .u8 y b)) l) == (b == 0)) = true := by
  have hyb : 0 ≤ y ∧ y < 256 := by rw [hy]; exact ha8.get k
  obtain ⟨hx8, hx0⟩ := xor8 hyb hb
  have := sumI_label (g := k / 8) ha8 (bytes8_set ha8 k hx8) (by rw [List.length_set]) (by omega) (ws := l) (by omega) (fun i hi => (List.getElem?_set_ne (by rintro rfl; exact hi rfl)).symm) (by omega)
  rw [beq_iff_eq, Bool.eq_iff_iff, beq_iff_eq, beq_iff_eq]
  exact (this.trans (set_self_iff hk _)).trans (by rw [← hy]; exact hx0)

set_option maxHeartbeats 400000 in
theorem oneLabel_any (s : ByteArray) (A : Option Addr) (c : Nat) (zs : List Int) (n by_ : Int) (w : World) (hs : s.size ≤ maxLen) (hz : zs.length ≤ maxLen) (hcap : zs.length ≤ c) (hA : A = none → c = 0) (hr : RdI w w.heap.size .i64 A zs) (hn : I64 n) (h1 : 0 ≤ by_ ∧ by_ < 256) :
    Calls Try.prog 7 #[.string s, .slice A zs.length c, .int .i64 n, .int .u8 by_] w fun e w' => e = .returned (.bool true) ∧ Below w.heap.size w w' := by
  have hI := Ints_any A zs.length c 6 zs w rfl hz (by decide) hcap hA hr
  have hl : (zs.take 6).length ≤ 6 := by rw [List.length_take]; omega
  generalize zs.take 6 = l at hI hl
  clear hr hA
  have hS : ∀ W, Calls Try.prog 11 #[.string s, .int .i64 (29 : Nat)] W fun e w' => ∃ t : ByteArray, e = .returned (.string t) ∧ t.size ≤ 29 ∧ W = w' := fun W => Short_any s 29 W hs
  have tok0 : True := trivial
  go_enter Try.func7, Try.ntmps7
  go_wp2_with (first
    | (go_at_call 12; have _t := tok0; refine hI.mono ?_; clear hI tok0; rintro e w1 ⟨A1, c1, rfl, hc1, hrow1, hb1⟩)
    | (go_at_call 11; refine (hS _).mono ?_; rintro e w0 ⟨t, rfl, ht, rfl⟩; obtain ⟨cap, C, hcap, hconv, hC⟩ := conv_bytes (t ++ ⟨#[120]⟩) w1; have hts : (t ++ (⟨#[120]⟩ : ByteArray)).size = t.size + 1 := (by rw [ByteArray.size_append]; rfl); rw [hts] at hconv hcap; obtain ⟨la, hla⟩ : ∃ la, la = sb (t ++ ⟨#[120]⟩) := ⟨_, rfl⟩; have hll : la.length = t.size + 1 := (by rw [hla, sb_length, hts]); have hla8 : Bytes8 la := (by rw [hla]; exact sb_bytes _); rw [← hla] at hC; have HLL := Lib.hid hll; have HL8 := Lib.hid hla8; clear hla hll hla8 hts; obtain ⟨k, hk, hAr0⟩ := Around_nat n (t.size + 1) hn (by omega) (by omega))
    | (go_at_call 16; have hr2 := rd_conv w1 C la hC; have hb2 : Below w1.heap.size w1 (w1.alloc (.cells C 5 (C.size, C.size + 1))).drew := ((Below.refl _ w1).alloc (Nat.le_refl _) _).drew; clear hC hconv; refine (Few_whole _ (t.size + 1) cap 30 la _ HLL.out.symm (by omega) (by omega) (by decide) hcap hr2).mono ?_; rintro e w3 ⟨g3, c3, rfl, hc3, hg3, hg3', hfz, hr3, hb3⟩)
    | (go_at_call 21; refine (around_int hAr0 _ _ (by omega)).mono ?_; rintro e w' ⟨rfl, rfl⟩; have hfk := hfz k; obtain ⟨y, hyv, hy⟩ := rd_some hr3 (show k < la.length by rw [HLL.out]; exact hk); have HYV := Lib.hid hyv; clear hyv hfz))
  have d2 := hb1.trans (hb2.mono hb1.size)
  have d3 := d2.trans (hb3.mono d2.size)
  have d4 := d3.setCell (p := ⟨g3, k, none⟩) (Nat.le_trans d2.size hg3) (.int .u8 (bits .xor .u8 y by_))
  have hkl : k < la.length := by rw [HLL.out]; exact hk
  have hs3 := Nat.le_trans hb3.size (show w3.heap.size ≤ (w3.setCell ⟨g3, k, none⟩ (.int .u8 (bits .xor .u8 y by_))).heap.size by simp [World.setCell])
  have hra := (rd_far (hr2.below hb3) (p := ⟨g3, k, none⟩) hg3 (.int .u8 (bits .xor .u8 y by_))).mono hs3
  have hrb := rd_put hr3 hkl (bits .xor .u8 y by_)
  have hrl := (rd_far (((rd_own hrow1).below hb2).below (hb3.mono hb2.size)) (p := ⟨g3, k, none⟩) (Nat.le_trans hb2.size hg3) (.int .u8 (bits .xor .u8 y by_))).mono (Nat.le_trans hb2.size hs3)
  have hlen : la.length = t.size + 1 := HLL.out
  have hXY := label_eq (la := la) (l := l) (k := k) (y := y) (b := by_) HL8.out (by omega) (by omega) hkl HYV.out h1
  have hyb : 0 ≤ y ∧ y < 256 := by rw [HYV.out]; exact HL8.out.get k
  have hlb8 := bytes8_set HL8.out k (xor8 hyb h1).1
  have hlenb : (la.set k (bits .xor .u8 y by_)).length = t.size + 1 := by rw [List.length_set]; exact hlen
  generalize w3.setCell ⟨g3, k, none⟩ (.int .u8 (bits .xor .u8 y by_)) = W4 at d4 hra hrb hrl ⊢
  generalize la.set k (bits .xor .u8 y by_) = lb at hrb hXY hlb8 hlenb
  have hCA : ∀ W, Below W4.heap.size W4 W → (convert 30 9 (.slice (some ⟨w1.heap.size, 0, none⟩) (t.size + 1) cap)).run Try.prog W = .ok (.string (strOfNums la)) W := fun W hW =>
    conv_string _ _ _ la W hlen ((hra.below hW).mono hW.size)
  have hCB : ∀ W, Below W4.heap.size W4 W → (convert 30 9 (.slice (some ⟨g3, 0, none⟩) (t.size + 1) c3)).run Try.prog W = .ok (.string (strOfNums lb)) W := fun W hW =>
    conv_string _ _ _ lb W hlenb ((hrb.below hW).mono hW.size)
  have hSa : ∀ W, Below W4.heap.size W4 W → Calls Try.prog 13 #[.string (strOfNums la), .slice A1 l.length c1] W fun e w' => e = .returned (.int .u64 (sumI la l)) ∧ Below W4.heap.size W4 w' := fun W hW => by
    have := Sum_at (strOfNums la) A1 l.length c1 l W rfl (by rw [strOfNums_size]; omega) (by omega) ((hrl.below hW).mono hW.size)
    rw [sb_of_nums HL8.out] at this
    exact this.mono fun e w' h => ⟨h.1, hW.trans (h.2.mono hW.size)⟩
  have hSb : ∀ W, Below W4.heap.size W4 W → Calls Try.prog 13 #[.string (strOfNums lb), .slice A1 l.length c1] W fun e w' => e = .returned (.int .u64 (sumI lb l)) ∧ Below W4.heap.size W4 w' := fun W hW => by
    have := Sum_at (strOfNums lb) A1 l.length c1 l W rfl (by rw [strOfNums_size]; omega) (by omega) ((hrl.below hW).mono hW.size)
    rw [sb_of_nums hlb8] at this
    exact this.mono fun e w' h => ⟨h.1, hW.trans (h.2.mono hW.size)⟩
  have hLv : ∀ W, Below W4.heap.size W4 W → Calls Try.prog 15 #[] W fun e w' => e = .returned (.bool true) ∧ Below W4.heap.size W4 w' := fun W hW =>
    (lives_any W).mono fun e w' h => ⟨h.1, hW.trans (h.2.mono hW.size)⟩
  generalize sumI la l = X at hSa hXY
  generalize sumI lb l = Y at hSb hXY
  generalize strOfNums la = UA at hCA hSa
  generalize strOfNums lb = UB at hCB hSb
  have HCA := Lib.hid hCA
  have HCB := Lib.hid hCB
  clear hCA hCB hra hrb hrl hr2 hr3 hrow1 hb1 hb2 hb3 d2 d3 hy hfk hAr0 hs3 hkl hlen hlenb hyb hlb8
  go_region_held3 (fun w' => (convert 30 9 (.slice (some ⟨w1.heap.size, 0, none⟩) (t.size + 1) cap)).run Try.prog w' = .ok (.string UA) w' ∧ (convert 30 9 (.slice (some ⟨g3, 0, none⟩) (t.size + 1) c3)).run Try.prog w' = .ok (.string UB) w' ∧ Below W4.heap.size W4 w')
    (first | exact ⟨HCA.out _ (Below.refl _ _).drew, HCB.out _ (Below.refl _ _).drew, (Below.refl _ _).drew⟩ | exact ⟨HCA.out _ (by assumption), HCB.out _ (by assumption), by assumption⟩)
    (first
      | (go_at_call 13; ((with_reducible refine Calls.mono (hSa _ ?_) ?_); focus (go_split_ands; assumption)); rintro e w' ⟨rfl, hb⟩)
      | (go_at_call 13; ((with_reducible refine Calls.mono (hSb _ ?_) ?_); focus (go_split_ands; assumption)); rintro e w' ⟨rfl, hb⟩)
      | (go_at_call 15; ((with_reducible refine Calls.mono (hLv _ ?_) ?_); focus (go_split_ands; assumption)); rintro e w' ⟨rfl, hb⟩))
  all_goals
    go_wp2
    go_ret
    exact ⟨rfl, d4.trans (hb.mono d4.size)⟩
end Go.Proofs.Ytkogodkhhpodnaa
