/-
  THE WALK of the law on what a Writer holds after each value (P2.1).
-/
import Derived.Test.YtebfgdonikedaaaValsRd
import Derived.Deep.RegionHeld3
import Derived.IntWalk
namespace Go.Proofs.Ytebfgdonikedaaa
open Go.RowKit

theorem rdv_take {w : World} {B : Nat} {A : Option Addr} {xs : List Vl} (h : RdV w B A xs) (k : Nat) : RdV w B A (xs.take k) := by
  rcases h with rfl | ⟨b, o, e, hb, hc⟩
  · left; simp
  · refine .inr ⟨b, o, e, hb, fun j x hx => hc j x ?_⟩
    by_cases hj : j < k
    · rwa [List.getElem?_take_of_lt hj] at hx
    · rw [List.getElem?_eq_none (by rw [List.length_take]; omega)] at hx
      cases hx
theorem rdv_mono {w : World} {B B2 : Nat} {A : Option Addr} {xs : List Vl} (h : RdV w B A xs) (hB : B ≤ B2) : RdV w B2 A xs := by
  rcases h with h | ⟨b, o, e, hb, hc⟩
  · exact .inl h
  · refine .inr ⟨b, o, e, by omega, fun j x hx => ?_⟩
    obtain ⟨vb, vl, h0, h1, h2, h3, h4, h5, h6⟩ := hc j x hx
    exact ⟨vb, vl, h0, h1, h2, h3, h4, h5.mono hB, h6.mono hB⟩
theorem val_b_ok {l : List Int} (h8 : Bytes8 l) (hl : l.length ≤ 1000) : Vl.ok ⟨4, 0, 0, l, []⟩ ∧ Vl.canon ⟨4, 0, 0, l, []⟩ := ⟨ok_bytes (by decide) (by decide) h8 hl, by simp [Vl.canon]⟩
theorem val_l_ok {l : List Int} (h8 : ∀ z ∈ l, I64 z) (hl : l.length ≤ 1000) : Vl.ok ⟨5, 0, 0, [], l⟩ ∧ Vl.canon ⟨5, 0, 0, [], l⟩ := ⟨ok_list (by decide) (by decide) h8 hl, by simp [Vl.canon]⟩
theorem val_t_ok : Vl.ok ⟨2, 0, 1, [], []⟩ ∧ Vl.canon ⟨2, 0, 1, [], []⟩ := ⟨ok_nums (by decide) (by decide) zero_u64 ⟨by decide, by decide⟩, by simp [Vl.canon]⟩

set_option maxRecDepth 100000 in
set_option maxHeartbeats 4000000 in
theorem writes_any (A0 : Option Addr) (c0 : Nat) (zl : List Int) (u n : Int) (A1 : Option Addr) (c1 : Nat) (zb : List Int) (A2 : Option Addr) (c2 : Nat) (zi : List Int) (w : World)
    (hz : zl.length ≤ maxLen) (h64 : ∀ z ∈ zl, I64 z) (hr : RdI w w.heap.size .i64 A0 zl) (hu : U64 u) (hn : I64 n)
    (hz1 : zb.length ≤ maxLen) (hc1 : zb.length ≤ c1) (hA1 : A1 = none → c1 = 0) (h8 : Bytes8 zb) (hr1 : RdI w w.heap.size .u8 A1 zb)
    (hz2 : zi.length ≤ maxLen) (hc2 : zi.length ≤ c2) (hA2 : A2 = none → c2 = 0) (hi64 : ∀ z ∈ zi, I64 z) (hr2 : RdI w w.heap.size .i64 A2 zi) :
    Calls Try.prog 3 #[.slice A0 zl.length c0, .int .u64 u, .int .i64 n, .slice A1 zb.length c1, .slice A2 zi.length c2] w (TruePost w) := by
  obtain ⟨i0, hi, hz0, hzz1, hzz2⟩ := info_parts info_val
  have hV := wVals_any A0 zl.length c0 zl w rfl hz h64 hr
  have cF : ∀ W, Below w.heap.size w W → Calls Try.prog 12 #[.slice A1 zb.length c1, .int .i64 200] W fun e w' => GivesRow W.heap.size W 5 .u8 (zb.take 200) e w' := fun W hW =>
    Few_any A1 zb.length c1 200 zb W rfl hz1 (by decide) hc1 hA1 ((hr1.below hW).mono hW.size)
  have cN : ∀ W, Below w.heap.size w W → Calls Try.prog 13 #[.slice A2 zi.length c2, .int .i64 20] W fun e w' => GivesRow W.heap.size W 3 .i64 (zi.take 20) e w' := fun W hW =>
    Ints_any A2 zi.length c2 20 zi W rfl hz2 (by decide) hc2 hA2 ((hr2.below hW).mono hW.size)
  have hU := val_u_ok hu
  have hN := val_n_ok hn
  have hBv := val_b_ok (l := zb.take 200) (fun z hz => h8 z (List.mem_of_mem_take hz)) (Nat.le_trans (List.length_take_le _ _) (by decide))
  have hLv := val_l_ok (l := zi.take 20) (fun z hz => hi64 z (List.mem_of_mem_take hz)) (Nat.le_trans (List.length_take_le _ _) (by decide))
  have hol : (zb.take 200).length ≤ 200 := List.length_take_le _ _
  have hnl : (zi.take 20).length ≤ 20 := List.length_take_le _ _
  generalize zb.take 200 = fb at cF hBv hol
  generalize zi.take 20 = fi at cN hLv hnl
  unfold maxLen at hz hz1 hz2
  clear h64 hr hu hn hA1 h8 hr1 hA2 hi64 hr2
  go_enter Try.func3, Try.ntmps3
  go_wp2_with (first
    | (go_at_call 11; refine hV.mono ?_; clear hV; rintro e w1 ⟨v, ts, rfl, htl, hrow, hgood, hb1⟩)
    | (go_at_call 12; refine (cF _ hb1).mono ?_; clear cF; rintro e w2 ⟨a2, d2, rfl, hd2, hrow2, hb2⟩; have hB2 := Lib.hid (hb1.trans (hb2.mono hb1.size)))
    | (go_at_call 13; refine (cN _ hB2.out).mono ?_; clear cN; rintro e w3 ⟨a3, d3, rfl, hd3, hrow3, hb3⟩; have hB13 := Lib.hid (hb2.trans (hb3.mono hb2.size)); have hB3 := Lib.hid (hb1.trans (hB13.out.mono hb1.size)); have hrowx := own_below hrow hB13.out; have hgoodx : ∀ t ∈ ts, t.x.ok ∧ t.x.canon ∧ t.owns w3 w.heap.size := fun t ht => ⟨(hgood t ht).1, (hgood t ht).2.1, own_below (hgood t ht).2.2.1 hB13.out, own_below (hgood t ht).2.2.2 hB13.out⟩; have hrow2x := own_base (own_below hrow2 hb3) hb1.size; have hrow3x := own_base hrow3 hB2.out.size; clear hrow hgood hrow2 hrow3)
    | (at_builtin; refine wpList_append_own _ rfl (.tmp 15) (.tmp 27) 25 rfl w.heap.size 28 i0 (.agg #[.int .i64 0, .int .u64 0, .int .i64 0, .slice none 0 0, .slice none 0 0]) 5 72 Try.underlying25 hi hz0 hzz1 hzz2 rfl (by decide) _ ts.length _ rfl (hrowx.alloc _) ⟨w3.heap.size, 0, none⟩ 5 5 ([(⟨⟨0, u, 0, [], []⟩, .slice none 0 0, .slice none 0 0⟩ : Vt), ⟨⟨1, 0, n, [], []⟩, .slice none 0 0, .slice none 0 0⟩, ⟨⟨4, 0, 0, fb, []⟩, .slice a2 fb.length d2, .slice none 0 0⟩, ⟨⟨5, 0, 0, [], fi⟩, .slice none 0 0, .slice a3 fi.length d3⟩, ⟨⟨2, 0, 1, [], []⟩, .slice none 0 0, .slice none 0 0⟩].flatMap Vt.cells) rfl rfl (World.news_of_block (cs := #[.int .i64 0, .int .u64 u, .int .i64 0, .slice none 0 0, .slice none 0 0, .int .i64 1, .int .u64 0, .int .i64 n, .slice none 0 0, .slice none 0 0, .int .i64 4, .int .u64 0, .int .i64 0, .slice a2 fb.length d2, .slice none 0 0, .int .i64 5, .int .u64 0, .int .i64 0, .slice none 0 0, .slice a3 fi.length d3, .int .i64 2, .int .u64 0, .int .i64 1, .slice none 0 0, .slice none 0 0]) (t := 28) (fr := (0, 0)) (heap_alloc_new_at _ _ rfl)) (by simp [Vt.cells, Value.oneCell']) (by unfold maxLen; omega) (by omega) (by have := hB3.out.size; simp; omega) ?_; intro v' w4 hown' hgrow _; obtain ⟨us, hus, hown2, hgood2⟩ := vals_more hrowx hgoodx (tn := [(⟨⟨0, u, 0, [], []⟩, .slice none 0 0, .slice none 0 0⟩ : Vt), ⟨⟨1, 0, n, [], []⟩, .slice none 0 0, .slice none 0 0⟩, ⟨⟨4, 0, 0, fb, []⟩, .slice a2 fb.length d2, .slice none 0 0⟩, ⟨⟨5, 0, 0, [], fi⟩, .slice none 0 0, .slice a3 fi.length d3⟩, ⟨⟨2, 0, 1, [], []⟩, .slice none 0 0, .slice none 0 0⟩]) (by
        intro t ht
        simp only [List.mem_cons, List.not_mem_nil, or_false] at ht
        rcases ht with rfl | rfl | rfl | rfl | rfl
        · exact ⟨hU.1, hU.2, World.ownsRow_nil _ _ _ _, World.ownsRow_nil _ _ _ _⟩
        · exact ⟨hN.1, hN.2, World.ownsRow_nil _ _ _ _, World.ownsRow_nil _ _ _ _⟩
        · exact ⟨hBv.1, hBv.2, hrow2x, World.ownsRow_nil _ _ _ _⟩
        · exact ⟨hLv.1, hLv.2, World.ownsRow_nil _ _ _ _, hrow3x⟩
        · exact ⟨val_t_ok.1, val_t_ok.2, World.ownsRow_nil _ _ _ _, World.ownsRow_nil _ _ _ _⟩) hgrow hown'; have hul : us.length ≤ 15 := (by rw [hus, List.length_append]; simp; omega); obtain ⟨A5, c5, xs, rfl, hxl, hxc, hxn, hrd4, hxg⟩ := all_of hown2 hul hgood2; have hB4 := Lib.hid ((hB3.out.alloc hB3.out.size _).grown hgrow (by have := hB3.out.size; simp; omega) (fun j ej => (hrowx.lt j ej).1)); clear hown' hgrow hus hown2 hgood2 hul hrowx hgoodx hrow2x hrow3x hb1 hb2 hb3 htl hBv hLv hU hN))
  have hel := encs_len15 hxl hxg
  have hz4 := hB4.out.size
  have h0 := wtr_new w4
  have b0 := new_below w4 (.cells #[.slice none 0 0] 32)
  go_loopw [13] (fun i wr => ∃ (k : Nat) (bs : List Int), k ≤ xs.length ∧ i = .int .i64 k ∧ Hid (bs = encs (xs.take k)) ∧ WtrAt wr w4.heap.size w4.heap.size bs ∧ Below w4.heap.size w4 wr) (fun i _ => xs.length - (intOf i).toNat)
  case atStart => exact ⟨0, [], Nat.zero_le _, rfl, Lib.hid rfl, h0, b0⟩
  case round =>
    clear h0 b0
    obtain ⟨k, bs, hk, rfl, hbs, hwt, hW⟩ := hrel
    by_cases hlt : k < xs.length
    · have HS := Lib.hid (encs_take hlt)
      have htl : ∀ m, (encs (xs.take m)).length ≤ 300000 := fun m => by
        have := encs_len (xs := xs.take m) (fun z hz => (hxg z (List.mem_of_mem_take hz)).1)
        rw [List.length_take] at this
        omega
      have hbl : bs.length ≤ 300000 := by rw [hbs.out]; exact htl k
      obtain ⟨b, o, rfl, hb, hcs⟩ : ∃ b o, A5 = some ⟨b, o, none⟩ ∧ b < w4.heap.size ∧ ∀ j x, xs[j]? = some x → ValAt w4 w4.heap.size b (o + j * 5) x := by
        rcases hrd4 with e | h
        · rw [e] at hlt; simp at hlt
        · exact h
      have hva := (hcs k xs[k] (List.getElem?_eq_getElem hlt)).below hb hW
      have hxo := (hxg xs[k] (List.getElem_mem hlt)).1
      have hE : ∀ W, Below w4.heap.size w4 W → Calls Try.prog 17 #[.slice (some ⟨b, o, none⟩) (k + 1) c5] W fun e w' => GivesRow W.heap.size W 5 .u8 (encs (xs.take (k + 1))) e w' := fun W hWW =>
        wEncode_any (some ⟨b, o, none⟩) (k + 1) c5 (xs.take (k + 1)) W (by rw [List.length_take]; omega) (by rw [List.length_take]; omega) (fun z hz => (hxg z (List.mem_of_mem_take hz)).1) (rdv_mono (rdv_take (hrd4.below hWW) _) hWW.size)
      have htk := htl (k + 1)
      clear hcs
      generalize xs[k] = x at hva hxo HS
      obtain ⟨vb, vl, q0, q1, q2, q3, q4, h5, h6⟩ := hva
      have hC := lWrite_any x vb vl w4.heap.size w4.heap.size bs wr hwt (by omega) hxo h5 h6
      have HQ := Lib.hid (show bs ++ x.enc = encs (xs.take (k + 1)) by rw [HS.out, hbs.out])
      rw [HQ.out] at hC
      obtain ⟨bs2, hbs2⟩ : ∃ b, b = encs (xs.take (k + 1)) := ⟨_, rfl⟩
      rw [← hbs2] at hC hE htk
      have HB2 := Lib.hid hbs2
      clear hwt h5 h6 hxo hbs2
      obtain ⟨xk, xu, xn, xb, xl⟩ := x
      simp only at q0 q1 q2 q3 q4 hC
      have hlk : (k : Int) < (xs.length : Int) := by omega
      have hlc : (k : Int) + 1 ≤ (c5 : Int) := by omega
      have hlc2 : k + 1 ≤ c5 := by omega
      have hk15 : k ≤ 14 := by omega
      go_wp2_with (go_at_call 14; refine hC.mono ?_; clear hC; rintro e w5 ⟨rfl, hr5, hb5⟩)
      have hW5 := Lib.hid (hW.trans hb5)
      have hD := fun W (h : Below w5.heap.size w5 W) => dDone_any _ _ _ W (wtr_below hr5 h) (by omega)
      have hz5 : w4.heap.size ≤ w5.heap.size := hW5.out.size
      have hS : ∀ W A A' c c', RdI W W.heap.size .u8 A bs2 → RdI W W.heap.size .u8 A' bs2 → Calls Try.prog 15 #[.slice A bs2.length c, .slice A' bs2.length c'] W fun e w' => e = .returned (.bool true) ∧ Below W.heap.size W w' := fun W A A' c c' h h' => SameBytes_self A A' c c' bs2 W (by omega) h h'
      have hwr : IntKind.i64.wrap ((k : Int) + 1) = (k : Int) + 1 := IntWalk.i64_in _ (by omega)
      have hnn : 0 ≤ (k : Int) + 1 := by omega
      have htn : ((k : Int) + 1).toNat = k + 1 := by omega
      have h00 : Below w5.heap.size w5 w5.drew := (Below.refl _ _).drew
      go_region_held3 (fun w' => Below w5.heap.size w5 w')
        (first | assumption)
        (first
          | (go_at_call 16; ((with_reducible refine Calls.mono (hD _ h00) ?_)); rintro e' x1 ⟨a6, d6, rfl, hd6, hrow6, hb6⟩; have hB6 : Below w5.heap.size w5 x1 := h00.trans hb6)
          | (go_at_call 17; ((with_reducible refine Calls.mono (hE _ (hW5.out.trans (hB6.mono hz5))) ?_)); rintro e' x2 ⟨a7, d7, rfl, hd7, hrow7, hb7⟩; have hB7 : Below w5.heap.size w5 x2 := hB6.trans (hb7.mono hB6.size))
          | (go_at_call 15; ((with_reducible refine Calls.mono (hS _ _ _ _ _ (rd_own (own_below hrow6 hb7)) (rd_own hrow7)) ?_)); rintro e' x3 ⟨rfl, hb8⟩; have hB8 : Below w5.heap.size w5 x3 := hB7.trans (hb8.mono hB7.size)))
      clear hwr hnn htn
      have hWx := Lib.hid (hW5.out.trans (hB8.mono hz5))
      have hrx := wtr_below hr5 hB8
      go_wp2
      go_roundw
      case rel => exact ⟨k + 1, bs2, by omega, by go_num, HB2, hrx, hWx.out⟩
      case measure => simp [intOf]; omega
    · have hz4r : w.heap.size ≤ wr.heap.size := Nat.le_trans hz4 hW.size
      have hWx := Lib.hid (hB4.out.trans (hW.mono hz4))
      clear hwt hrd4 hxg hel
      go_wp2_with (go_at_call 18; refine (livesW_any _).mono ?_; rintro e w7 ⟨rfl, hb7⟩)
      go_ret
      exact ⟨rfl, hWx.out.trans (hb7.mono hz4r)⟩
end Go.Proofs.Ytebfgdonikedaaa
