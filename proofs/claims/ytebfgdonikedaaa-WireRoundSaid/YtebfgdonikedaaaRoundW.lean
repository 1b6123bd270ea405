/-
  THE WALK of the law on the round trip (P2.6).
-/
import Derived.Test.YtebfgdonikedaaaValsRd
import Derived.Deep.RegionHeld3
namespace Go.Proofs.Ytebfgdonikedaaa
open Go.RowKit

set_option maxRecDepth 100000 in
set_option maxHeartbeats 4000000 in
theorem round_any (A0 : Option Addr) (c0 : Nat) (zl : List Int) (u n : Int) (w : World) (hz : zl.length ≤ maxLen) (h64 : ∀ z ∈ zl, I64 z) (hr : RdI w w.heap.size .i64 A0 zl) (hu : U64 u) (hn : I64 n) :
    Calls Try.prog 5 #[.slice A0 zl.length c0, .int .u64 u, .int .i64 n] w (TruePost w) := by
  obtain ⟨i0, hi, hz0, hz1, hz2⟩ := info_parts info_val
  have hV := wVals_any A0 zl.length c0 zl w rfl hz h64 hr
  have hU := val_u_ok hu
  have hN := val_n_ok hn
  clear hz h64 hr hu hn
  go_enter Try.func5, Try.ntmps5
  go_wp2_with (first
    | (go_at_call 11; refine hV.mono ?_; clear hV; rintro e w1 ⟨v, ts, rfl, htl, hrow, hgood, hb1⟩)
    | (at_builtin; refine wpList_append_own _ rfl (.tmp 11) (.tmp 16) 25 rfl w.heap.size 28 i0 (.agg #[.int .i64 0, .int .u64 0, .int .i64 0, .slice none 0 0, .slice none 0 0]) 5 72 Try.underlying25 hi hz0 hz1 hz2 rfl (by decide) _ ts.length _ rfl (hrow.alloc _) ⟨w1.heap.size, 0, none⟩ 2 2 ([(⟨⟨0, u, 0, [], []⟩, .slice none 0 0, .slice none 0 0⟩ : Vt), ⟨⟨1, 0, n, [], []⟩, .slice none 0 0, .slice none 0 0⟩].flatMap Vt.cells) rfl rfl (World.news_of_block (cs := #[.int .i64 0, .int .u64 u, .int .i64 0, .slice none 0 0, .slice none 0 0, .int .i64 1, .int .u64 0, .int .i64 n, .slice none 0 0, .slice none 0 0]) (t := 28) (fr := (0, 0)) (heap_alloc_new_at _ _ rfl)) (by simp [Vt.cells, Value.oneCell']) (by unfold maxLen; omega) (by omega) (by have := hb1.size; simp; omega) ?_; intro v' w2 hown' hgrow _; obtain ⟨us, hus, hown2, hgood2⟩ := vals_more hrow hgood (tn := [(⟨⟨0, u, 0, [], []⟩, .slice none 0 0, .slice none 0 0⟩ : Vt), ⟨⟨1, 0, n, [], []⟩, .slice none 0 0, .slice none 0 0⟩]) (by
        intro t ht
        simp only [List.mem_cons, List.not_mem_nil, or_false] at ht
        rcases ht with rfl | rfl
        · exact ⟨hU.1, hU.2, World.ownsRow_nil _ _ _ _, World.ownsRow_nil _ _ _ _⟩
        · exact ⟨hN.1, hN.2, World.ownsRow_nil _ _ _ _, World.ownsRow_nil _ _ _ _⟩) hgrow hown'; have hul : us.length ≤ 15 := (by rw [hus, List.length_append]; simp; omega); obtain ⟨A2, c2, xs, rfl, hxl, hxc, hxn, hrd2, hxg⟩ := all_of hown2 hul hgood2; have hB2 := Lib.hid ((hb1.alloc hb1.size _).grown hgrow (by have := hb1.size; simp; omega) (fun j ej => (hrow.lt j ej).1)); have hz2w : w.heap.size ≤ w2.heap.size := hB2.out.size; have hel := encs_len15 hxl hxg; clear hown' hgrow hus hown2 hgood2 hul hrow hgood hb1 htl)
    | (go_at_call 26; refine (lEncode_any A2 xs.length c2 xs w2 rfl hxl (fun x h => (hxg x h).1) hrd2).mono ?_; rintro e w3 ⟨A3, c3, rfl, hc3, hrow3, hb3⟩)
    | (go_at_call 20; refine (dRead_any A3 (encs xs).length c3 (encs xs) w3 rfl (by omega) hc3 (own_none hrow3) (rd_own hrow3)).mono ?_; rintro e w4 ⟨g, rfl, hg, hrd4, hb4⟩; have hB4 := Lib.hid (hb3.trans (hb4.mono hb3.size)); have hgz : w2.heap.size ≤ g := (by have := hb3.size; omega); clear hrow3 hb3 hb4 hg))
  go_loopw [9] (fun i wr => ∃ k : Nat, k ≤ xs.length ∧ i = .int .i64 k ∧ RdrAt wr 77 g ⟨encs (xs.drop k), 0⟩ ∧ Below w2.heap.size w2 wr) (fun i _ => xs.length - (intOf i).toNat)
  case atStart => exact ⟨0, Nat.zero_le _, rfl, hrd4, hB4.out⟩
  case round =>
    clear hrd4 hB4
    obtain ⟨k, hk, rfl, hra, hW⟩ := hrel
    by_cases hlt : k < xs.length
    · have hlk : (k : Int) < (xs.length : Int) := by omega
      obtain ⟨b, o, rfl, hb, hcs⟩ : ∃ b o, A2 = some ⟨b, o, none⟩ ∧ b < w2.heap.size ∧ ∀ j x, xs[j]? = some x → ValAt w2 w2.heap.size b (o + j * 5) x := by
        rcases hrd2 with e | h
        · rw [e] at hlt; simp at hlt
        · exact h
      have hva := (hcs k xs[k] (List.getElem?_eq_getElem hlt)).below hb hW
      have hnx := read_next hlt hxg []
      rw [List.append_nil, List.append_nil] at hnx
      have hxk := hxg xs[k] (List.getElem_mem hlt)
      have hdl : (encs (xs.drop k)).length ≤ 300000 := Nat.le_trans (encs_drop_len k) hel
      have h8 : Bytes8 (encs (xs.drop k)) := encs_bytes (fun x hx => (hxg x (List.mem_of_mem_drop hx)).1)
      obtain ⟨x, hx⟩ : ∃ x, x = xs[k] := ⟨_, rfl⟩
      rw [← hx] at hva hnx hxk
      have hC := lRead_any x.k g ⟨encs (xs.drop k), 0⟩ wr.drew (by rw [nrm_ok rfl]; exact hra) h8 (by simp only; omega) hxk.1.1
      rw [hnx, nrm_ok rfl] at hC
      obtain ⟨⟨_, o3, o4, o5, o6, o7, o8⟩, _⟩ := hxk
      obtain ⟨L2, hL2⟩ : ∃ L2, L2 = encs (xs.drop (k + 1)) := ⟨_, rfl⟩
      rw [← hL2] at hC
      have HL2 := Lib.hid hL2
      clear hL2
      clear hcs hdl h8 hx hra hnx
      obtain ⟨vb, vl, q0, q1, q2, q3, q4, h5, h6⟩ := hva
      obtain ⟨xk, xu, xn, xb, xl⟩ := x
      simp only at q0 q1 q2 q3 q4 h5 h6 hC o7 o8
      have HQ := Lib.hid (And.intro q0 (And.intro q1 (And.intro q2 (And.intro q3 q4))))
      have h56 : Below w2.heap.size wr wr.drew := (Below.refl _ _).drew
      have hzr : w2.heap.size ≤ wr.heap.size := hW.size
      go_wp2
      go_region_held3 (fun w' => w'.cell? ⟨b, o + k * 5, none⟩ = some (.int .i64 xk) ∧ w'.cell? ⟨b, o + k * 5 + 1, none⟩ = some (.int .u64 xu) ∧ w'.cell? ⟨b, o + k * 5 + 2, none⟩ = some (.int .i64 xn) ∧ w'.cell? ⟨b, o + k * 5 + 3, none⟩ = some vb ∧ w'.cell? ⟨b, o + k * 5 + 4, none⟩ = some vl ∧ Below w2.heap.size wr w')
        (first | exact keep5 HQ hb (by assumption))
        (first
          | (go_at_call 22; ((with_reducible refine Calls.mono hC ?_)); rintro e' x1 ⟨vb', vl', rfl, hs5, hs6, hr1, hg1⟩; have hB1 : Below w2.heap.size wr x1 := h56.grown hg1 hzr (fun j ej => by injection ej with ej; omega); have hzx : w2.heap.size ≤ x1.heap.size := Nat.le_trans hzr hB1.size)
          | (go_at_call 21; ((with_reducible refine Calls.mono (wSame_self ⟨xk, xu, xn, xb, xl⟩ vb' vl' vb vl x1 (by simp only; omega) (by simp only; omega) hs5 hs6 ((h5.below hB1).mono hzx) ((h6.below hB1).mono hzx)) ?_)); rintro e' x2 ⟨rfl, hb2⟩; have hB2' : Below w2.heap.size wr x2 := hB1.trans (hb2.mono hzx)))
      have hr2 := rdr_below hr1 hb2
      have hWx := Lib.hid (hW.trans hB2')
      clear hC
      go_wp2
      go_roundw
      case rel => exact ⟨k + 1, by omega, by go_num, by rw [← HL2.out]; exact hr2, hWx.out⟩
      case measure => simp [intOf]; omega
    · obtain rfl : k = xs.length := by omega
      have hE := rEnd_any g ⟨[], 0⟩ wr (by rw [nrm_ok rfl]; rw [List.drop_length] at hra; exact hra) (by decide)
      have hzr : w.heap.size ≤ wr.heap.size := Nat.le_trans hz2w hW.size
      have hWx := Lib.hid (hB2.out.trans (hW.mono hz2w))
      have he0 : endR ⟨[], 0⟩ = 0 := rfl
      rw [he0] at hE
      clear hra hrd2 hxg he0
      go_wp2_with (first
        | (go_at_call 24; refine hE.mono ?_; clear hE; rintro e w' ⟨rfl, rfl⟩)
        | (go_at_call 18; refine (livesW_any _).mono ?_; rintro e w7 ⟨rfl, hb7⟩))
      go_ret
      exact ⟨rfl, hWx.out.trans (hb7.mono hzr)⟩
end Go.Proofs.Ytebfgdonikedaaa
