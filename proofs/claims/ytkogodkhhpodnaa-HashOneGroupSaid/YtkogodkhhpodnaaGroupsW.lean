/-
  THE WALK of the law on groups (P1.2).
-/
import Derived.Test.YtkogodkhhpodnaaBytesW
namespace Go.Proofs.Ytkogodkhhpodnaa
open Go.RowKit

theorem own_below {w w' : World} {base : Nat} {e : TypeId} {size n : Nat} {v : Value} {xs : List Value} (h : w.ownsRow base e size v n xs) (hb : Below w.heap.size w w') : w'.ownsRow base e size v n xs :=
  h.kept (row := none) ⟨hb.os, hb.tape, hb.output, hb.size, fun i hi _ => hb.block i hi⟩ (by cases v.ownBlock <;> simp)

theorem own_none {w : World} {base : Nat} {e : TypeId} {size n c : Nat} {A : Option Addr} {xs : List Value} (h : w.ownsRow base e size (.slice A n c) n xs) : A = none → c = 0 := fun hA => by
  subst hA
  rcases h.2 with ⟨hv, _⟩ | ⟨g, cap, cur, hv, _⟩
  · injection hv
  · cases hv
theorem own_cap {w : World} {base : Nat} {e : TypeId} {size n c : Nat} {A : Option Addr} {xs : List Value} (h : w.ownsRow base e size (.slice A n c) n xs) : n ≤ c := by
  rcases h.2 with ⟨_, h0⟩ | ⟨g, cap, cur, hv, _, _, hn, _⟩
  · omega
  · injection hv with _ _ hc
    subst hc
    exact hn

theorem Sum_words (t : ByteArray) (A : Option Addr) (n c : Nat) (m L : List Int) (W : World) (hL : L = words m) (hn : n = L.length + 1) (ht : t.size ≤ 1000000) (hm : m.length ≤ 1000000) (hr : RdI W W.heap.size .i64 A (L.map wrap64 ++ [(m.length : Int)])) :
    Calls Try.prog 13 #[.string t, .slice A n c] W fun e w' => e = .returned (.int .u64 (bytesI (sb t) m)) ∧ Below W.heap.size W w' := by
  subst hL
  have := words_length m
  exact Sum_at t A n c _ W (by simp [hn]) (by omega) (by simp; omega) hr

set_option maxHeartbeats 1000000 in
theorem hashGroups_any (s : ByteArray) (A : Option Addr) (c : Nat) (zs : List Int) (w : World) (hs : s.size ≤ maxLen) (hz : zs.length ≤ maxLen) (hcap : zs.length ≤ c) (hA : A = none → c = 0) (h8 : Bytes8 zs) (hr : RdI w w.heap.size .u8 A zs) :
    Calls Try.prog 8 #[.string s, .slice A zs.length c] w fun e w' => e = .returned (.bool true) ∧ Below w.heap.size w w' := by
  obtain ⟨i0, hi, hz0, hz1, hz2⟩ := info_parts info_int
  have hI := Few_any A zs.length c 60 zs w rfl hz (by decide) hcap hA hr
  have hS := Short_any s 20 w hs
  have hl : (zs.take 60).length ≤ 60 := by rw [List.length_take]; omega
  have hl8 := Lib.hid (h8.take 60)
  generalize zs.take 60 = m at hI hl hl8
  clear hr hA h8
  have hwl := words_length m
  obtain ⟨L, hL⟩ : ∃ L, L = words m := ⟨_, rfl⟩
  rw [← hL] at hwl
  have HL := Lib.hid hL
  clear hL
  have hll : L.length ≤ 8 := by omega
  clear hwl
  go_enter Try.func8, Try.ntmps8
  go_wp2_with (first
    | (go_at_call 11; refine hS.mono ?_; clear hS; rintro e w0 ⟨t, rfl, ht, rfl⟩)
    | (go_at_call 16; refine hI.mono ?_; clear hI; rintro e w1 ⟨A1, c1, rfl, hc1, hrow1, hb1⟩; have hr1 := rd_own hrow1; have hA1 := own_none hrow1; have tok1 : True := trivial)
    | (go_at_call 23; have _t := tok1; refine (show Calls _ _ _ _ (GivesRow _ _ _ _ L) from HL.out ▸ Words_any A1 c1 m _ (by omega) hl8.out hr1).mono ?_; clear tok1; rintro e w2 ⟨A2, c2, rfl, hc2, hrow2, hb2⟩))
  have d1 := hb1.trans (hb2.mono hb1.size)
  have hr12 := (hr1.below hb2).mono hb2.size
  have hrL := rd_own hrow2
  have hneA : ∀ t : ByteArray, t.size ≤ 20 → m.length % 8 ≠ 0 → (bytesI (sb t) (m ++ [0]) != bytesI (sb t) m) = true := fun t ht h => by
    have := bytesI_zero (lab := sb t) (sb_bytes t) (by rw [sb_length]; omega) (by omega) h (l := m)
    simpa using this
  have hne := hneA t ht
  have hm08 : Bytes8 (m ++ [0]) := fun z hz => by
    rcases List.mem_append.1 hz with h | h
    · exact hl8.out z h
    · simp at h; omega
  have HM0 := Lib.hid hm08
  clear hrow2 hr1 hb1 hb2 hneA hm08
  go_loopw [8, 9] (fun v i wr => ∃ k : Nat, k ≤ L.length ∧ i = .int .i64 k ∧ wr.ownsRow w2.heap.size 3 1 v k (((L.take k).map wrap64).map (Value.int .i64)) ∧ Below w2.heap.size w2 wr) (fun _ i _ => L.length - (intOf i).toNat)
  case atStart => exact ⟨0, Nat.zero_le _, rfl, World.ownsRow_nil _ _ _ _, Below.refl _ _⟩
  case round =>
    rename_i v _
    obtain ⟨k, hk, rfl, hrow, hW⟩ := hrel
    have hsz := hW.size
    by_cases hlt : k < L.length
    · obtain ⟨b, o, rfl, hb, hck0⟩ := hrL.at_ hlt
      have hck := (hW.cell (p := ⟨b, o + k, none⟩) hb).trans hck0
      have HS := Lib.hid (show L.take (k + 1) = L.take k ++ [L[k]?.getD 0] from take_snoc hlt)
      clear hrL hck0 hr12
      obtain ⟨x, hx⟩ : ∃ x, x = L[k]?.getD 0 := ⟨_, rfl⟩
      rw [← hx] at hck HS
      clear hx
      go_wp2_with (at_builtin; refine wpList_append_own _ rfl (.tmp 23) (.tmp 29) 22 rfl w2.heap.size 3 i0 (.int .i64 0) 1 8 Try.underlying22 hi hz0 hz1 hz2 rfl (by decide) _ k _ rfl (hrow.alloc _) ⟨wr.heap.size, 0, none⟩ 1 1 [.int .i64 (wrap64 x)] rfl rfl (cell_one_new _ _ _) (by simp [Value.oneCell']) (by unfold maxLen; omega) (by omega) (by simp; omega) ?_; intro v' w3 hown' hgrow _)
      go_roundw
      case rel =>
        have hown2 : w3.ownsRow w2.heap.size 3 1 v' (k + 1) (((L.take k).map wrap64).map (Value.int .i64) ++ [.int .i64 (wrap64 x)]) := hown'
        refine ⟨k + 1, by omega, by go_num, ?_, (hW.alloc hsz _).grown hgrow (by simp; omega) (fun j ej => (hrow.lt j ej).1)⟩
        rw [HS.out, List.map_append, List.map_append]
        exact hown2
      case measure => simp [intOf]; omega
    · have he := Lib.hid (show L.take k = L from List.take_of_length_le (by omega))
      obtain rfl : k = L.length := by omega
      rw [he.out] at hrow
      have hr3 := (hr12.below hW).mono hW.size
      have hrk := hr12.below hW
      have d3 := d1.trans (hW.mono d1.size)
      have tok0 : True := trivial
      clear hrL hr12
      go_wp2_with (first
        | (go_at_call 17; have _t := tok0; refine (Bytes_at t A1 _ c1 m _ rfl (by omega) (by omega) hc1 hl8.out hr3).mono ?_; clear tok0; rintro e w4 ⟨rfl, hb4⟩; have hr4 := (hr3.below hb4).mono hb4.size; have hrow4 := own_below hrow hb4; have d4 := d3.trans (hb4.mono d3.size); have s4 := Nat.le_trans hsz hb4.size; clear hr3 hrow; have tok1 : True := trivial)
        | (at_builtin; have _t := tok1; refine wpList_append_own _ rfl (.tmp 35) (.tmp 38) 22 rfl w2.heap.size 3 i0 (.int .i64 0) 1 8 Try.underlying22 hi hz0 hz1 hz2 rfl (by decide) _ L.length _ rfl (hrow4.alloc _) ⟨w4.heap.size, 0, none⟩ 1 1 [.int .i64 (m.length : Int)] rfl rfl (cell_one_new _ _ _) (by simp [Value.oneCell']) (by unfold maxLen; omega) (by omega) (by simp; omega) ?_; clear tok1; intro v' w5 hown' hgrow _; obtain ⟨g', cap', rfl⟩ := ownsRow_succ hown'; have tok2 : True := trivial)
        | (go_at_call 13; have _t := tok2; refine (Sum_words t _ _ _ m L _ HL.out rfl (by omega) (by omega) (rd_own (base := w2.heap.size) (n := L.length + 1) (e := 3) (by simpa using hown'))).mono ?_; clear tok2; rintro e w6 ⟨rfl, hb6⟩))
      have c5 := ((Below.refl w2.heap.size w4).alloc s4 _).grown hgrow (by simp; omega) (fun j ej => (hrow4.lt j ej).1)
      have s5 := Nat.le_trans s4 c5.size
      have d5 := d4.trans (c5.mono d1.size)
      have d6 := d5.trans (hb6.mono d5.size)
      have hr6 := ((hrk.below (hb4.mono hsz)).below c5).below (hb6.mono s5)
      have hr6' := hr6.mono (Nat.le_trans s5 hb6.size)
      have hF := Few_any A1 m.length c1 60 m w6 rfl (by unfold maxLen; omega) (by decide) hc1 hA1 hr6'
      rw [List.take_of_length_le (by omega)] at hF
      obtain ⟨j0, hj, hj0, hj1, hj2⟩ := info_parts info_u8
      clear hown' hgrow hrow4 hr4 hrk hr6 hb6 hb4 c5 hA1
      have tok3 : True := trivial
      by_cases h8 : m.length % 8 = 0
      · clear hne
        go_wp2_with (first
          | (go_at_call 16; refine hF.mono ?_; clear hF; rintro e w7 ⟨A7, c7, rfl, hc7, hrow7, hb7⟩)
          | (at_builtin; have _t := tok3; refine wpList_append_own _ rfl (.tmp 43) (.tmp 44) 30 rfl w6.heap.size 5 j0 (.int .u8 0) 1 1 Try.underlying30 hj hj0 hj1 hj2 rfl (by decide) _ m.length _ rfl (hrow7.alloc _) ⟨w7.heap.size, 0, none⟩ 1 1 [.int .u8 0] rfl rfl (cell_one_new _ _ _) (by simp [Value.oneCell']) (by unfold maxLen; omega) (by omega) (by have := hb7.size; simp; omega) ?_; clear tok3; intro v' w8 hown8 hgrow8 _; obtain ⟨g8, cap8, rfl⟩ := ownsRow_succ hown8)
          | (go_at_call 15; refine (lives_any _).mono ?_; rintro e w9 ⟨rfl, hb9⟩))
        go_ret
        refine ⟨rfl, ?_⟩
        have c8 := ((Below.refl w6.heap.size w7).alloc hb7.size _).grown hgrow8 (by have := hb7.size; simp; omega) (fun j ej => (hrow7.lt j ej).1)
        have d8 := d6.trans ((hb7.trans c8).mono d6.size)
        exact d8.trans (hb9.mono d8.size)
      · have hne := hne h8
        go_wp2_with (first
          | (go_at_call 16; refine hF.mono ?_; clear hF; rintro e w7 ⟨A7, c7, rfl, hc7, hrow7, hb7⟩)
          | (at_builtin; have _t := tok3; refine wpList_append_own _ rfl (.tmp 43) (.tmp 44) 30 rfl w6.heap.size 5 j0 (.int .u8 0) 1 1 Try.underlying30 hj hj0 hj1 hj2 rfl (by decide) _ m.length _ rfl (hrow7.alloc _) ⟨w7.heap.size, 0, none⟩ 1 1 [.int .u8 0] rfl rfl (cell_one_new _ _ _) (by simp [Value.oneCell']) (by unfold maxLen; omega) (by omega) (by have := hb7.size; simp; omega) ?_; clear tok3; intro v' w8 hown8 hgrow8 _; obtain ⟨g8, cap8, rfl⟩ := ownsRow_succ hown8; have c8 := ((Below.refl w6.heap.size w7).alloc hb7.size _).grown hgrow8 (by have := hb7.size; simp; omega) (fun j ej => (hrow7.lt j ej).1); have d8 := d6.trans ((hb7.trans c8).mono d6.size); have hr8 := (hr6'.below (hb7.trans c8)).mono (Nat.le_trans hb7.size c8.size); have hcap8 := own_cap hown8; have tok4 : True := trivial)
          | (go_at_call 17; have _t := tok4; refine (Bytes_at t _ _ cap8 (m ++ [0]) _ (by simp) (by omega) (by simp; omega) (by simpa using hcap8) HM0.out (rd_own (base := w6.heap.size) (n := m.length + 1) (e := 5) (by simpa using hown8))).mono ?_; clear tok4; rintro e w9 ⟨rfl, hb9⟩; have hr9 := (hr8.below hb9).mono hb9.size; have d9 := d8.trans (hb9.mono d8.size); have tok5 : True := trivial)
          | (go_at_call 17; have _t := tok5; refine (Bytes_at t A1 _ c1 m _ rfl (by omega) (by omega) hc1 hl8.out hr9).mono ?_; clear tok5; rintro e w10 ⟨rfl, hb10⟩; have d10 := d9.trans (hb10.mono d9.size))
          | (go_at_call 15; refine (lives_any _).mono ?_; rintro e w11 ⟨rfl, hb11⟩))
        go_ret
        exact ⟨rfl, d10.trans (hb11.mono d10.size)⟩
end Go.Proofs.Ytkogodkhhpodnaa
