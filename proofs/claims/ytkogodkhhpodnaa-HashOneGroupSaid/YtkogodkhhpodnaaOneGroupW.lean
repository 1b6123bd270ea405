/-
  THE WALK of the law on one group (P1.3).
-/
import Derived.Test.YtkogodkhhpodnaaOneWordW
namespace Go.Proofs.Ytkogodkhhpodnaa
open Go.RowKit

theorem bits_xor_u8_nat (a b : Nat) (ha : a < 256) (hb : b < 256) : bits .xor .u8 (a : Int) (b : Int) = ((a ^^^ b : Nat) : Int) := by
  have hx : a ^^^ b < 2 ^ 8 := Nat.xor_lt_two_pow (by omega) (by omega)
  have h1 : (BitVec.ofInt 8 (a : Int)).toNat = a := by
    rw [BitVec.ofInt_natCast, BitVec.toNat_ofNat]; exact Nat.mod_eq_of_lt (by omega)
  have h2 : (BitVec.ofInt 8 (b : Int)).toNat = b := by
    rw [BitVec.ofInt_natCast, BitVec.toNat_ofNat]; exact Nat.mod_eq_of_lt (by omega)
  show IntKind.u8.wrap ((BitVec.ofInt 8 (a : Int) ^^^ BitVec.ofInt 8 (b : Int)).toNat : Int) = _
  rw [BitVec.toNat_xor, h1, h2]
  have hw : ∀ n : Int, IntKind.u8.wrap n = n % 256 := fun n => by simp [IntKind.wrap, IntKind.bits, IntKind.signed]
  rw [hw]
  omega
theorem xor8 {x y : Int} (hx : 0 ≤ x ∧ x < 256) (hy : 0 ≤ y ∧ y < 256) : (0 ≤ bits .xor .u8 x y ∧ bits .xor .u8 x y < 256) ∧ (bits .xor .u8 x y = x ↔ y = 0) := by
  obtain ⟨a, rfl⟩ : ∃ a : Nat, x = a := ⟨x.toNat, by omega⟩
  obtain ⟨b, rfl⟩ : ∃ b : Nat, y = b := ⟨y.toNat, by omega⟩
  rw [bits_xor_u8_nat a b (by omega) (by omega)]
  have hlt : a ^^^ b < 2 ^ 8 := Nat.xor_lt_two_pow (by omega) (by omega)
  refine ⟨⟨by omega, by omega⟩, ⟨fun h => ?_, fun h => ?_⟩⟩
  · have h2 : a ^^^ b = a ^^^ 0 := by rw [Nat.xor_zero]; omega
    have := xor_cancel_left h2
    omega
  · have h2 : b = 0 := by omega
    rw [h2, Nat.xor_zero]

/-- a copy of a byte slice that is not empty: in a block of its own -/
theorem Few_whole (A : Option Addr) (n c m : Nat) (zs : List Int) (W : World) (hn : n = zs.length) (h0 : 0 < n) (hnm : n ≤ m) (hm : m ≤ 1000) (hcap : n ≤ c) (hr : RdI W W.heap.size .u8 A zs) :
    Calls Try.prog 16 #[.slice A n c, .int .i64 m] W fun e w' => ∃ g d, e = .returned (.slice (some ⟨g, 0, none⟩) n d) ∧ n ≤ d ∧ W.heap.size ≤ g ∧ g < w'.heap.size ∧ (∀ i, w'.frozen? ⟨g, i, none⟩ = false) ∧ RdI w' w'.heap.size .u8 (some ⟨g, 0, none⟩) zs ∧ Below W.heap.size W w' := by
  subst hn
  have hA : A = none → c = 0 := fun h => by
    subst h
    rcases hr with h | ⟨b, o, e, _⟩
    · rw [h] at h0; simp at h0
    · cases e
  have := Few_any A zs.length c m zs W rfl (by unfold maxLen; omega) (by omega) hcap hA hr
  rw [List.take_of_length_le hnm] at this
  refine this.mono fun e w' ⟨A', d, he, hd, hrow, hb⟩ => ?_
  obtain ⟨g, rfl, h1, h2, h3⟩ := own_block hrow h0
  exact ⟨g, d, he, hd, h1, h2, h3, rd_own hrow, hb⟩

theorem bytes8_set {zs : List Int} (h : Bytes8 zs) (k : Nat) {v : Int} (hv : 0 ≤ v ∧ v < 256) : Bytes8 (zs.set k v) := fun z hz => by
  rcases List.mem_or_eq_of_mem_set hz with h1 | rfl
  · exact h z h1
  · exact hv

/-- a store into a slice of the call's own, as the walk spells it -/
theorem rd_put {w : World} {k : IntKind} {g : Nat} {zs : List Int} (h : RdI w w.heap.size k (some ⟨g, 0, none⟩) zs) {i : Nat} (hi : i < zs.length) (v : Int) :
    RdI (w.setCell ⟨g, i, none⟩ (.int k v)) (w.setCell ⟨g, i, none⟩ (.int k v)).heap.size k (some ⟨g, 0, none⟩) (zs.set i v) := by
  have := rd_set h hi v
  rw [Nat.zero_add] at this
  exact this.mono (by simp [World.setCell])

/-- what the rest of the law meets: the two hashes, the comparison -/
theorem group_tail (t : ByteArray) (la lb : List Int) (g2 c2 g3 c3 n : Nat) (W4 : World) (ht : t.size ≤ 1000000) (hla : la.length = n) (hlb : lb.length = n) (hn : n ≤ 1000) (hc2 : n ≤ c2) (hc3 : n ≤ c3) (ha8 : Bytes8 la) (hb8 : Bytes8 lb)
    (hra : RdI W4 W4.heap.size .u8 (some ⟨g2, 0, none⟩) la) (hrb : RdI W4 W4.heap.size .u8 (some ⟨g3, 0, none⟩) lb) :
    (∀ W, Below W4.heap.size W4 W → Calls Try.prog 17 #[.string t, .slice (some ⟨g2, 0, none⟩) n c2] W fun e w' => e = .returned (.int .u64 (bytesI (sb t) la)) ∧ Below W4.heap.size W4 w') ∧
    (∀ W, Below W4.heap.size W4 W → Calls Try.prog 17 #[.string t, .slice (some ⟨g3, 0, none⟩) n c3] W fun e w' => e = .returned (.int .u64 (bytesI (sb t) lb)) ∧ Below W4.heap.size W4 w') ∧
    (∀ W, Below W4.heap.size W4 W → Calls Try.prog 22 #[.slice (some ⟨g2, 0, none⟩) n c2, .slice (some ⟨g3, 0, none⟩) n c3] W fun e w' => e = .returned (.bool (decide (la = lb))) ∧ Below W4.heap.size W4 w') ∧
    (∀ W, Below W4.heap.size W4 W → Calls Try.prog 15 #[] W fun e w' => e = .returned (.bool true) ∧ Below W4.heap.size W4 w') :=
  ⟨fun W hW => (Bytes_at t _ _ c2 la W hla.symm (by omega) (by omega) (by omega) ha8 ((hra.below hW).mono hW.size)).mono fun e w' h => ⟨h.1, hW.trans (h.2.mono hW.size)⟩,
   fun W hW => (Bytes_at t _ _ c3 lb W hlb.symm (by omega) (by omega) (by omega) hb8 ((hrb.below hW).mono hW.size)).mono fun e w' h => ⟨h.1, hW.trans (h.2.mono hW.size)⟩,
   fun W hW => (SameBytes_eq _ _ n c2 c3 la lb W hla hlb (by omega) ((hra.below hW).mono hW.size) ((hrb.below hW).mono hW.size)).mono fun e w' h => ⟨h.1, hW.trans (h.2.mono hW.size)⟩,
   fun W hW => (lives_any W).mono fun e w' h => ⟨h.1, hW.trans (h.2.mono hW.size)⟩⟩

theorem group_eq {t : ByteArray} {la lb : List Int} {k : Nat} (ht : t.size ≤ 1000000) (hlen : lb.length = la.length) (h63 : la.length ≤ 1000) (ha8 : Bytes8 la) (hb8 : Bytes8 lb) (hk : k < la.length) (h : ∀ i, i / 8 ≠ k / 8 → la[i]? = lb[i]?) :
    ((bytesI (sb t) la == bytesI (sb t) lb) == decide (la = lb)) = true := by
  have := bytesI_group (g := k / 8) (sb_bytes t) (by rw [sb_length]; omega) ha8 hb8 hlen.symm (by omega) h (by omega)
  rw [beq_iff_eq, Bool.eq_iff_iff, beq_iff_eq, decide_eq_true_iff]
  exact this

set_option maxHeartbeats 400000 in
theorem oneGroup_far (s : ByteArray) (A : Option Addr) (c : Nat) (zs : List Int) (n one two : Int) (w : World) (k : Nat) (l la : List Int) (hs : s.size ≤ maxLen) (hl : l.length ≤ 39) (hll : Hid (la.length = l.length + 1)) (HLA : Hid (la = l ++ [65])) (HL8 : Hid (Bytes8 la)) (hk : k < l.length + 1)
    (hI : Calls Try.prog 16 #[.slice A zs.length c, .int .i64 39] w fun e w' => GivesRow w.heap.size w 5 .u8 l e w')
    (hAr : ∀ (m : Int) (W : World), m = l.length + 1 → Calls Try.prog 21 #[.int .i64 n, .int .i64 m] W fun e w' => e = .returned (.int .i64 k) ∧ W = w') (h1 : 0 ≤ one ∧ one < 256) (h2 : 0 ≤ two ∧ two < 256) (hc1' : (l.length : Int) + 1 ≤ (k : Int) + 1) :
    Calls Try.prog 6 #[.string s, .slice A zs.length c, .int .i64 n, .int .u8 one, .int .u8 two] w fun e w' => e = .returned (.bool true) ∧ Below w.heap.size w w' := by
  obtain ⟨i0, hi, hz0, hz1, hz2⟩ := info_parts info_u8
  have hS := Short_any s 20 w hs
  have tok0 : True := trivial
  go_enter Try.func6, Try.ntmps6
  go_wp2_with (first
    | (go_at_call 11; refine hS.mono ?_; clear hS; rintro e w0 ⟨t, rfl, ht, rfl⟩)
    | (go_at_call 16; have _t := tok0; refine hI.mono ?_; clear hI tok0; rintro e w1 ⟨A1, c1, rfl, hc1, hrow1, hb1⟩; have tok1 : True := trivial)
    | (at_builtin; have _t := tok1; refine wpList_append_own _ rfl (.tmp 18) (.tmp 19) 30 rfl w.heap.size 5 i0 (.int .u8 0) 1 1 Try.underlying30 hi hz0 hz1 hz2 rfl (by decide) _ l.length _ rfl (hrow1.alloc _) ⟨w1.heap.size, 0, none⟩ 1 1 [.int .u8 65] rfl rfl (cell_one_new _ _ _) (by simp [Value.oneCell']) (by unfold maxLen; omega) (by omega) (by have := hb1.size; simp; omega) ?_; clear tok1; intro v' w2 hown2 hgrow2 _; obtain ⟨g2, c2, rfl⟩ := ownsRow_succ hown2; have tok2 : True := trivial)
    | (go_at_call 16; have _t := tok2; refine (Few_whole _ _ _ 40 la _ hll.out.symm (by omega) (by omega) (by decide) (own_cap hown2) (rd_own (base := w.heap.size) (n := l.length + 1) (e := 5) (by rw [HLA.out]; simpa using hown2))).mono ?_; clear tok2; rintro e w3 ⟨g3, c3, rfl, hc3, hg3, hg3', hfz, hr3, hb3⟩)
    | (go_at_call 21; refine (hAr _ _ (by omega)).mono ?_; rintro e w' ⟨rfl, rfl⟩; have hfk := hfz k; obtain ⟨y, hyv, hy⟩ := rd_some hr3 (show k < la.length by rw [hll.out]; exact hk); have HYV := Lib.hid hyv; clear hyv hfz))
  have e2 := ((Below.refl w.heap.size w1).alloc hb1.size _).grown hgrow2 (by have := hb1.size; simp; omega) (fun j ej => (hrow1.lt j ej).1)
  have d2 := hb1.trans e2
  have d3 := d2.trans (hb3.mono d2.size)
  have d4 := d3.setCell (p := ⟨g3, k, none⟩) (Nat.le_trans d2.size hg3) (.int .u8 (bits .xor .u8 y one))
  have hkl : k < la.length := by rw [hll.out]; exact hk
  have hown2' : w2.ownsRow w.heap.size 5 1 (.slice (some ⟨g2, 0, none⟩) (l.length + 1) c2) (l.length + 1) (la.map (Value.int .u8)) := by rw [HLA.out]; simpa using hown2
  have hcp2 := own_cap hown2'
  have hra0 := rd_far ((rd_own hown2').below hb3) (p := ⟨g3, k, none⟩) hg3 (.int .u8 (bits .xor .u8 y one))
  have hs3 : w2.heap.size ≤ (w3.setCell ⟨g3, k, none⟩ (.int .u8 (bits .xor .u8 y one))).heap.size := Nat.le_trans hb3.size (by simp [World.setCell])
  have hrb0 := rd_put hr3 hkl (bits .xor .u8 y one)
  have hyb : 0 ≤ y ∧ y < 256 := by rw [HYV.out]; exact HL8.out.get k
  have hx8 := (xor8 hyb h1).1
  have hlb8 := bytes8_set HL8.out k hx8
  have hlen : la.length = l.length + 1 := hll.out
  have hra := hra0.mono hs3
  generalize w3.setCell ⟨g3, k, none⟩ (.int .u8 (bits .xor .u8 y one)) = W4 at d4 hra hrb0 ⊢
  have hrb := hrb0
  obtain ⟨hBa, hBb, hSm, hLv⟩ := group_tail t la (la.set k (bits .xor .u8 y one)) g2 c2 g3 c3 (l.length + 1) W4 (by omega) hlen (by rw [List.length_set]; exact hlen) (by omega) hcp2 hc3 HL8.out hlb8 hra hrb
  have hXY := group_eq (t := t) (la := la) (lb := (la.set k (bits .xor .u8 y one))) (k := k) (by omega) (by rw [hlen]; exact (by rw [List.length_set]; exact hlen)) (by omega) HL8.out hlb8 hkl (fun i hi => (List.getElem?_set_ne (by rintro rfl; exact hi rfl)).symm)
  have tok3 : True := trivial
  generalize bytesI (sb t) la = X at hBa hXY
  generalize bytesI (sb t) (la.set k (bits .xor .u8 y one)) = Y at hBb hXY
  generalize decide (la = (la.set k (bits .xor .u8 y one))) = Z at hSm hXY
  have d5 := Lib.hid d4
  have hW0 := Below.refl W4.heap.size W4
  clear d4 hra0 hrb0 hra hrb hs3 hown2 hown2' hr3 hrow1 hgrow2 hb1 hb3 e2 d2 d3 hy hfk hAr hlb8 hx8 hyb hkl hlen
  go_wp2_with (first
    | (go_at_call 17; have _t := tok3; refine (hBa _ hW0).mono ?_; clear tok3; rintro e w5 ⟨rfl, hb5⟩; have tok4 : True := trivial)
    | (go_at_call 17; have _t := tok4; refine (hBb _ hb5).mono ?_; clear tok4; rintro e w6 ⟨rfl, hb6⟩)
    | (go_at_call 22; refine (hSm _ hb6).mono ?_; rintro e w7 ⟨rfl, hb7⟩)
    | (go_at_call 15; refine (hLv _ hb7).mono ?_; rintro e w8 ⟨rfl, hb8⟩))
  go_ret
  exact ⟨rfl, d5.out.trans (hb8.mono d5.out.size)⟩

set_option maxHeartbeats 400000 in
theorem oneGroup_edge (s : ByteArray) (A : Option Addr) (c : Nat) (zs : List Int) (n one two : Int) (w : World) (k : Nat) (l la : List Int) (hs : s.size ≤ maxLen) (hl : l.length ≤ 39) (hll : Hid (la.length = l.length + 1)) (HLA : Hid (la = l ++ [65])) (HL8 : Hid (Bytes8 la)) (hk : k < l.length + 1)
    (hI : Calls Try.prog 16 #[.slice A zs.length c, .int .i64 39] w fun e w' => GivesRow w.heap.size w 5 .u8 l e w')
    (hAr : ∀ (m : Int) (W : World), m = l.length + 1 → Calls Try.prog 21 #[.int .i64 n, .int .i64 m] W fun e w' => e = .returned (.int .i64 k) ∧ W = w') (h1 : 0 ≤ one ∧ one < 256) (h2 : 0 ≤ two ∧ two < 256) (hc1' : (k : Int) + 1 < (l.length : Int) + 1) (hc2' : (((k : Int) + 1) % 8 != 0) = false) :
    Calls Try.prog 6 #[.string s, .slice A zs.length c, .int .i64 n, .int .u8 one, .int .u8 two] w fun e w' => e = .returned (.bool true) ∧ Below w.heap.size w w' := by
  obtain ⟨i0, hi, hz0, hz1, hz2⟩ := info_parts info_u8
  have hS := Short_any s 20 w hs
  have tok0 : True := trivial
  go_enter Try.func6, Try.ntmps6
  go_wp2_with (first
    | (go_at_call 11; refine hS.mono ?_; clear hS; rintro e w0 ⟨t, rfl, ht, rfl⟩)
    | (go_at_call 16; have _t := tok0; refine hI.mono ?_; clear hI tok0; rintro e w1 ⟨A1, c1, rfl, hc1, hrow1, hb1⟩; have tok1 : True := trivial)
    | (at_builtin; have _t := tok1; refine wpList_append_own _ rfl (.tmp 18) (.tmp 19) 30 rfl w.heap.size 5 i0 (.int .u8 0) 1 1 Try.underlying30 hi hz0 hz1 hz2 rfl (by decide) _ l.length _ rfl (hrow1.alloc _) ⟨w1.heap.size, 0, none⟩ 1 1 [.int .u8 65] rfl rfl (cell_one_new _ _ _) (by simp [Value.oneCell']) (by unfold maxLen; omega) (by omega) (by have := hb1.size; simp; omega) ?_; clear tok1; intro v' w2 hown2 hgrow2 _; obtain ⟨g2, c2, rfl⟩ := ownsRow_succ hown2; have tok2 : True := trivial)
    | (go_at_call 16; have _t := tok2; refine (Few_whole _ _ _ 40 la _ hll.out.symm (by omega) (by omega) (by decide) (own_cap hown2) (rd_own (base := w.heap.size) (n := l.length + 1) (e := 5) (by rw [HLA.out]; simpa using hown2))).mono ?_; clear tok2; rintro e w3 ⟨g3, c3, rfl, hc3, hg3, hg3', hfz, hr3, hb3⟩)
    | (go_at_call 21; refine (hAr _ _ (by omega)).mono ?_; rintro e w' ⟨rfl, rfl⟩; have hfk := hfz k; obtain ⟨y, hyv, hy⟩ := rd_some hr3 (show k < la.length by rw [hll.out]; exact hk); have HYV := Lib.hid hyv; clear hyv hfz))
  have e2 := ((Below.refl w.heap.size w1).alloc hb1.size _).grown hgrow2 (by have := hb1.size; simp; omega) (fun j ej => (hrow1.lt j ej).1)
  have d2 := hb1.trans e2
  have d3 := d2.trans (hb3.mono d2.size)
  have d4 := d3.setCell (p := ⟨g3, k, none⟩) (Nat.le_trans d2.size hg3) (.int .u8 (bits .xor .u8 y one))
  have hkl : k < la.length := by rw [hll.out]; exact hk
  have hown2' : w2.ownsRow w.heap.size 5 1 (.slice (some ⟨g2, 0, none⟩) (l.length + 1) c2) (l.length + 1) (la.map (Value.int .u8)) := by rw [HLA.out]; simpa using hown2
  have hcp2 := own_cap hown2'
  have hra0 := rd_far ((rd_own hown2').below hb3) (p := ⟨g3, k, none⟩) hg3 (.int .u8 (bits .xor .u8 y one))
  have hs3 : w2.heap.size ≤ (w3.setCell ⟨g3, k, none⟩ (.int .u8 (bits .xor .u8 y one))).heap.size := Nat.le_trans hb3.size (by simp [World.setCell])
  have hrb0 := rd_put hr3 hkl (bits .xor .u8 y one)
  have hyb : 0 ≤ y ∧ y < 256 := by rw [HYV.out]; exact HL8.out.get k
  have hx8 := (xor8 hyb h1).1
  have hlb8 := bytes8_set HL8.out k hx8
  have hlen : la.length = l.length + 1 := hll.out
  have hra := hra0.mono hs3
  generalize w3.setCell ⟨g3, k, none⟩ (.int .u8 (bits .xor .u8 y one)) = W4 at d4 hra hrb0 ⊢
  have hrb := hrb0
  obtain ⟨hBa, hBb, hSm, hLv⟩ := group_tail t la (la.set k (bits .xor .u8 y one)) g2 c2 g3 c3 (l.length + 1) W4 (by omega) hlen (by rw [List.length_set]; exact hlen) (by omega) hcp2 hc3 HL8.out hlb8 hra hrb
  have hXY := group_eq (t := t) (la := la) (lb := (la.set k (bits .xor .u8 y one))) (k := k) (by omega) (by rw [hlen]; exact (by rw [List.length_set]; exact hlen)) (by omega) HL8.out hlb8 hkl (fun i hi => (List.getElem?_set_ne (by rintro rfl; exact hi rfl)).symm)
  have tok3 : True := trivial
  generalize bytesI (sb t) la = X at hBa hXY
  generalize bytesI (sb t) (la.set k (bits .xor .u8 y one)) = Y at hBb hXY
  generalize decide (la = (la.set k (bits .xor .u8 y one))) = Z at hSm hXY
  have d5 := Lib.hid d4
  have hW0 := Below.refl W4.heap.size W4
  clear d4 hra0 hrb0 hra hrb hs3 hown2 hown2' hr3 hrow1 hgrow2 hb1 hb3 e2 d2 d3 hy hfk hAr hlb8 hx8 hyb hkl hlen
  go_wp2_with (first
    | (go_at_call 17; have _t := tok3; refine (hBa _ hW0).mono ?_; clear tok3; rintro e w5 ⟨rfl, hb5⟩; have tok4 : True := trivial)
    | (go_at_call 17; have _t := tok4; refine (hBb _ hb5).mono ?_; clear tok4; rintro e w6 ⟨rfl, hb6⟩)
    | (go_at_call 22; refine (hSm _ hb6).mono ?_; rintro e w7 ⟨rfl, hb7⟩)
    | (go_at_call 15; refine (hLv _ hb7).mono ?_; rintro e w8 ⟨rfl, hb8⟩))
  go_ret
  exact ⟨rfl, d5.out.trans (hb8.mono d5.out.size)⟩

set_option maxHeartbeats 400000 in
theorem oneGroup_two (s : ByteArray) (A : Option Addr) (c : Nat) (zs : List Int) (n one two : Int) (w : World) (k : Nat) (l la : List Int) (hs : s.size ≤ maxLen) (hl : l.length ≤ 39) (hll : Hid (la.length = l.length + 1)) (HLA : Hid (la = l ++ [65])) (HL8 : Hid (Bytes8 la)) (hk : k < l.length + 1)
    (hI : Calls Try.prog 16 #[.slice A zs.length c, .int .i64 39] w fun e w' => GivesRow w.heap.size w 5 .u8 l e w')
    (hAr : ∀ (m : Int) (W : World), m = l.length + 1 → Calls Try.prog 21 #[.int .i64 n, .int .i64 m] W fun e w' => e = .returned (.int .i64 k) ∧ W = w') (h1 : 0 ≤ one ∧ one < 256) (h2 : 0 ≤ two ∧ two < 256) (hc1' : k + 1 < l.length + 1) (hc2' : (k + 1) % 8 ≠ 0) :
    Calls Try.prog 6 #[.string s, .slice A zs.length c, .int .i64 n, .int .u8 one, .int .u8 two] w fun e w' => e = .returned (.bool true) ∧ Below w.heap.size w w' := by
  obtain ⟨i0, hi, hz0, hz1, hz2⟩ := info_parts info_u8
  have hS := Short_any s 20 w hs
  have tok0 : True := trivial
  have hci : (k : Int) + 1 < (l.length : Int) + 1 := by omega
  have hcb : (((k : Int) + 1) % 8 != 0) = true := by simp; omega
  go_enter Try.func6, Try.ntmps6
  go_wp2_with (first
    | (go_at_call 11; refine hS.mono ?_; clear hS; rintro e w0 ⟨t, rfl, ht, rfl⟩)
    | (go_at_call 16; have _t := tok0; refine hI.mono ?_; clear hI tok0; rintro e w1 ⟨A1, c1, rfl, hc1, hrow1, hb1⟩; have tok1 : True := trivial)
    | (at_builtin; have _t := tok1; refine wpList_append_own _ rfl (.tmp 18) (.tmp 19) 30 rfl w.heap.size 5 i0 (.int .u8 0) 1 1 Try.underlying30 hi hz0 hz1 hz2 rfl (by decide) _ l.length _ rfl (hrow1.alloc _) ⟨w1.heap.size, 0, none⟩ 1 1 [.int .u8 65] rfl rfl (cell_one_new _ _ _) (by simp [Value.oneCell']) (by unfold maxLen; omega) (by omega) (by have := hb1.size; simp; omega) ?_; clear tok1; intro v' w2 hown2 hgrow2 _; obtain ⟨g2, c2, rfl⟩ := ownsRow_succ hown2; have tok2 : True := trivial)
    | (go_at_call 16; have _t := tok2; refine (Few_whole _ _ _ 40 la _ hll.out.symm (by omega) (by omega) (by decide) (own_cap hown2) (rd_own (base := w.heap.size) (n := l.length + 1) (e := 5) (by rw [HLA.out]; simpa using hown2))).mono ?_; clear tok2; rintro e w3 ⟨g3, c3, rfl, hc3, hg3, hg3', hfz, hr3, hb3⟩)
    | (go_at_call 21; refine (hAr _ _ (by omega)).mono ?_; rintro e w' ⟨rfl, rfl⟩; have hfk := hfz k; obtain ⟨y, hyv, hy⟩ := rd_some hr3 (show k < la.length by rw [hll.out]; exact hk); have HYV := Lib.hid hyv; clear hyv; obtain ⟨y2, hyv2, hy2⟩ := rd_some hr3 (show k + 1 < la.length by rw [hll.out]; exact hc1'); have HYV2 := Lib.hid hyv2; clear hyv2; have hfk2 := hfz (k + 1); clear hfz))
  have e2 := ((Below.refl w.heap.size w1).alloc hb1.size _).grown hgrow2 (by have := hb1.size; simp; omega) (fun j ej => (hrow1.lt j ej).1)
  have d2 := hb1.trans e2
  have d3 := d2.trans (hb3.mono d2.size)
  have d4 := d3.setCell (p := ⟨g3, k, none⟩) (Nat.le_trans d2.size hg3) (.int .u8 (bits .xor .u8 y one))
  have hkl : k < la.length := by rw [hll.out]; exact hk
  have hown2' : w2.ownsRow w.heap.size 5 1 (.slice (some ⟨g2, 0, none⟩) (l.length + 1) c2) (l.length + 1) (la.map (Value.int .u8)) := by rw [HLA.out]; simpa using hown2
  have hcp2 := own_cap hown2'
  have hra0 := rd_far ((rd_own hown2').below hb3) (p := ⟨g3, k, none⟩) hg3 (.int .u8 (bits .xor .u8 y one))
  have hs3 : w2.heap.size ≤ (w3.setCell ⟨g3, k, none⟩ (.int .u8 (bits .xor .u8 y one))).heap.size := Nat.le_trans hb3.size (by simp [World.setCell])
  have hrb0 := rd_put hr3 hkl (bits .xor .u8 y one)
  have hyb : 0 ≤ y ∧ y < 256 := by rw [HYV.out]; exact HL8.out.get k
  have hx8 := (xor8 hyb h1).1
  have hlb8 := bytes8_set HL8.out k hx8
  have hlen : la.length = l.length + 1 := hll.out
  have hkl2 : k + 1 < la.length := by rw [hll.out]; exact hc1'
  have hyb2 : 0 ≤ y2 ∧ y2 < 256 := by rw [HYV2.out]; exact HL8.out.get (k + 1)
  have hx82 := (xor8 hyb2 h2).1
  have hlc8 := bytes8_set hlb8 (k + 1) hx82
  have d4' := d4.setCell (p := ⟨g3, k + 1, none⟩) (Nat.le_trans d2.size hg3) (.int .u8 (bits .xor .u8 y2 two))
  have hrb1 := rd_put hrb0 (i := k + 1) (by rw [List.length_set]; exact hkl2) (bits .xor .u8 y2 two)
  have hra1 := (rd_far hra0 (p := ⟨g3, k + 1, none⟩) hg3 (.int .u8 (bits .xor .u8 y2 two)))
  have hs4 : w2.heap.size ≤ ((w3.setCell ⟨g3, k, none⟩ (.int .u8 (bits .xor .u8 y one))).setCell ⟨g3, k + 1, none⟩ (.int .u8 (bits .xor .u8 y2 two))).heap.size := Nat.le_trans hs3 (by simp [World.setCell])
  have hra := hra1.mono hs4
  clear d4
  have d4 := d4'
  generalize (w3.setCell ⟨g3, k, none⟩ (.int .u8 (bits .xor .u8 y one))).setCell ⟨g3, k + 1, none⟩ (.int .u8 (bits .xor .u8 y2 two)) = W4 at d4 hra hrb1 ⊢
  have hrb := hrb1
  obtain ⟨hBa, hBb, hSm, hLv⟩ := group_tail t la ((la.set k (bits .xor .u8 y one)).set (k + 1) (bits .xor .u8 y2 two)) g2 c2 g3 c3 (l.length + 1) W4 (by omega) hlen (by rw [List.length_set, List.length_set]; exact hlen) (by omega) hcp2 hc3 HL8.out hlc8 hra hrb
  have hXY := group_eq (t := t) (la := la) (lb := ((la.set k (bits .xor .u8 y one)).set (k + 1) (bits .xor .u8 y2 two))) (k := k) (by omega) (by rw [hlen]; exact (by rw [List.length_set, List.length_set]; exact hlen)) (by omega) HL8.out hlc8 hkl (fun i hi => by rw [List.getElem?_set_ne (by rintro rfl; exact hi (by omega)), List.getElem?_set_ne (by rintro rfl; exact hi rfl)])
  have tok3 : True := trivial
  generalize bytesI (sb t) la = X at hBa hXY
  generalize bytesI (sb t) ((la.set k (bits .xor .u8 y one)).set (k + 1) (bits .xor .u8 y2 two)) = Y at hBb hXY
  generalize decide (la = ((la.set k (bits .xor .u8 y one)).set (k + 1) (bits .xor .u8 y2 two))) = Z at hSm hXY
  have d5 := Lib.hid d4
  have hW0 := Below.refl W4.heap.size W4
  clear d4 hra0 hrb0 hra1 hrb1 hra hrb hs3 hs4 hown2 hown2' hr3 hrow1 hgrow2 hb1 hb3 e2 d2 d3 d4' hy hy2 hfk hfk2 hAr hlb8 hlc8 hx8 hx82 hyb hyb2 hkl hkl2 hlen
  go_wp2_with (first
    | (go_at_call 17; have _t := tok3; refine (hBa _ hW0).mono ?_; clear tok3; rintro e w5 ⟨rfl, hb5⟩; have tok4 : True := trivial)
    | (go_at_call 17; have _t := tok4; refine (hBb _ hb5).mono ?_; clear tok4; rintro e w6 ⟨rfl, hb6⟩)
    | (go_at_call 22; refine (hSm _ hb6).mono ?_; rintro e w7 ⟨rfl, hb7⟩)
    | (go_at_call 15; refine (hLv _ hb7).mono ?_; rintro e w8 ⟨rfl, hb8⟩))
  go_ret
  exact ⟨rfl, d5.out.trans (hb8.mono d5.out.size)⟩

theorem oneGroup_any (s : ByteArray) (A : Option Addr) (c : Nat) (zs : List Int) (n one two : Int) (w : World) (hs : s.size ≤ maxLen) (hz : zs.length ≤ maxLen) (hcap : zs.length ≤ c) (hA : A = none → c = 0) (h8 : Bytes8 zs) (hr : RdI w w.heap.size .u8 A zs) (hn : I64 n) (h1 : 0 ≤ one ∧ one < 256) (h2 : 0 ≤ two ∧ two < 256) :
    Calls Try.prog 6 #[.string s, .slice A zs.length c, .int .i64 n, .int .u8 one, .int .u8 two] w fun e w' => e = .returned (.bool true) ∧ Below w.heap.size w w' := by
  have hI := Few_any A zs.length c 39 zs w rfl hz (by decide) hcap hA hr
  have hl : (zs.take 39).length ≤ 39 := by rw [List.length_take]; omega
  have hl8 := h8.take 39
  generalize zs.take 39 = l at hI hl hl8
  clear hr hA h8
  have hll : Hid ((l ++ [65]).length = l.length + 1) := Lib.hid (by simp)
  have hla8 : Bytes8 (l ++ [65]) := fun z hz => by
    rcases List.mem_append.1 hz with h | h
    · exact hl8 z h
    · simp at h; omega
  obtain ⟨la, hla⟩ : ∃ la, la = l ++ [65] := ⟨_, rfl⟩
  rw [← hla] at hll hla8
  have HLA := Lib.hid hla
  have HL8 := Lib.hid hla8
  clear hla hla8 hl8
  obtain ⟨k, hk, hAr0⟩ := Around_nat n (l.length + 1) hn (by omega) (by omega)
  have hAr : ∀ (m : Int) (W : World), m = l.length + 1 → Calls Try.prog 21 #[.int .i64 n, .int .i64 m] W fun e w' => e = .returned (.int .i64 k) ∧ W = w' := fun m W hm => by
    subst hm; exact hAr0 W
  clear hAr0
  by_cases ha : k + 1 < l.length + 1
  · by_cases hb : (k + 1) % 8 = 0
    · exact oneGroup_edge s A c zs n one two w k l la hs hl hll HLA HL8 hk hI hAr h1 h2 (by omega) (by simp; omega)
    · exact oneGroup_two s A c zs n one two w k l la hs hl hll HLA HL8 hk hI hAr h1 h2 ha hb
  · exact oneGroup_far s A c zs n one two w k l la hs hl hll HLA HL8 hk hI hAr h1 h2 (by omega)
end Go.Proofs.Ytkogodkhhpodnaa
