/-
  THE WALKS of the laws' own write and encode.
-/
import Derived.Test.YtebfgdonikedaaaSizesW
namespace Go.Proofs.Ytebfgdonikedaaa
open Go.RowKit

theorem uv_zz_len {n : Int} (h : I64 n) : (uv (zz n)).length ≤ 10 := uv_length_64 (zz_lt h.1 h.2)
set_option maxRecDepth 100000 in
set_option maxHeartbeats 1000000 in
theorem lWrite_any (x : Vl) (vb vl : Value) (B g : Nat) (bs : List Int) (w : World) (h : WtrAt w B g bs) (hl : bs.length ≤ 400000) (hx : x.ok) (hb : RdS w B .u8 vb x.b) (hli : RdS w B .i64 vl x.l) :
    Calls Try.prog 14 #[.pointer (some ⟨g, 0, none⟩), .agg #[.int .i64 x.k, .int .u64 x.u, .int .i64 x.n, vb, vl]] w (WtrPost w B g (bs ++ x.enc)) := by
  obtain ⟨k, u, n, b, l⟩ := x
  obtain ⟨⟨o1, o2⟩, o3, o4, o5, o6, o7, o8⟩ := hx
  simp only at o1 o2 o3 o4 o5 o6 o7 o8 hb hli ⊢
  obtain ⟨A1, c1, rfl, hc1, hA1, hr1⟩ := hb
  obtain ⟨A2, c2, rfl, hc2, hA2, hr2⟩ := hli
  have hBw : B ≤ w.heap.size := by
    obtain ⟨v, h1, h2, _⟩ := wtr_cells h
    omega
  have hb0 := fun o : Obj => (Below.refl B w).alloc hBw o
  have hw0 := fun o : Obj => wtr_below h (new_below w o)
  have hr10 := fun o : Obj => hr1.below (hb0 o)
  have hr20 := fun o : Obj => hr2.below (hb0 o)
  have HB := Lib.hid hb0
  clear hb0 h hr1 hr2
  have hkk : k = 0 ∨ k = 1 ∨ k = 2 ∨ k = 3 ∨ k = 4 ∨ k = 5 := by omega
  rcases hkk with rfl | rfl | rfl | rfl | rfl | rfl
  · obtain ⟨m, rfl, hm⟩ : ∃ m : Nat, u = m ∧ m < 18446744073709551616 := ⟨u.toNat, by unfold U64 at o3; omega, by unfold U64 at o3; omega⟩
    have hC := fun o => dUint_any m B g bs _ (hw0 o) (by omega) hm
    have he := Lib.hid (show (⟨0, (m : Int), n, b, l⟩ : Vl).enc = uv m by simp [Vl.enc])
    clear hw0 hr10 hr20 o3 hm o5 o6 hA1 hA2
    go_enter Try.func14, Try.ntmps14
    go_wp2_with (go_at_call 27; refine (hC _).mono ?_; clear hC; rintro e w1 ⟨rfl, hr1, hb1⟩)
    go_end0
    exact ⟨rfl, by rw [he.out]; exact hr1, (HB.out _).trans hb1⟩
  · have hC := fun o => dInt_any n B g bs _ (hw0 o) (by omega) o4.1 o4.2
    have he := Lib.hid (show (⟨1, u, n, b, l⟩ : Vl).enc = uv (zz n) by simp [Vl.enc])
    clear hw0 hr10 hr20 o3 o5 o6 hA1 hA2
    go_enter Try.func14, Try.ntmps14
    go_wp2_with (go_at_call 29; refine (hC _).mono ?_; clear hC; rintro e w1 ⟨rfl, hr1, hb1⟩)
    go_end0
    exact ⟨rfl, by rw [he.out]; exact hr1, (HB.out _).trans hb1⟩
  · have hC := fun o => dBool_any (n == 1) B g bs _ (hw0 o) (by omega)
    have he := Lib.hid (show (⟨2, u, n, b, l⟩ : Vl).enc = bool1 (n == 1) by simp [Vl.enc])
    clear hw0 hr10 hr20 o3 o5 o6 hA1 hA2
    go_enter Try.func14, Try.ntmps14
    go_wp2_with (go_at_call 30; refine (hC _).mono ?_; clear hC; rintro e w1 ⟨rfl, hr1, hb1⟩)
    go_end0
    exact ⟨rfl, by rw [he.out]; exact hr1, (HB.out _).trans hb1⟩
  · have hC := fun o => dText_any (strOfNums b) B g bs _ (hw0 o) (by omega) (by rw [strOfNums_size]; omega)
    rw [sb_of_nums o5] at hC
    have hcv := fun o => conv_str A1 b.length c1 b _ B rfl (hr10 o)
    have he := Lib.hid (show (⟨3, u, n, b, l⟩ : Vl).enc = raw b by simp [Vl.enc])
    clear hw0 hr10 hr20 o3 o5 o6 hA1 hA2
    go_enter Try.func14, Try.ntmps14
    go_wp2_with (go_at_call 38; refine (hC _).mono ?_; clear hC; rintro e w1 ⟨rfl, hr1, hb1⟩)
    go_end0
    exact ⟨rfl, by rw [he.out]; exact hr1, (HB.out _).trans hb1⟩
  · have hC := fun o => dRaw_any A1 b.length c1 b B g bs _ (hw0 o) (by omega) rfl (by omega) hc1 hA1 (hr10 o)
    have he := Lib.hid (show (⟨4, u, n, b, l⟩ : Vl).enc = raw b by simp [Vl.enc])
    clear hw0 hr10 hr20 o3 o5 o6 hA1 hA2
    go_enter Try.func14, Try.ntmps14
    go_wp2_with (go_at_call 31; refine (hC _).mono ?_; clear hC; rintro e w1 ⟨rfl, hr1, hb1⟩)
    go_end0
    exact ⟨rfl, by rw [he.out]; exact hr1, (HB.out _).trans hb1⟩
  · have hC := fun o => dInts_any A2 l.length c2 l B g bs _ (hw0 o) (by omega) rfl (by omega) o6 (hr20 o)
    have he := Lib.hid (show (⟨5, u, n, b, l⟩ : Vl).enc = ints l by simp [Vl.enc])
    clear hw0 hr10 hr20 o3 o5 o6 hA1 hA2
    go_enter Try.func14, Try.ntmps14
    go_wp2_with (go_at_call 32; refine (hC _).mono ?_; clear hC; rintro e w1 ⟨rfl, hr1, hb1⟩)
    go_end0
    exact ⟨rfl, by rw [he.out]; exact hr1, (HB.out _).trans hb1⟩

set_option maxRecDepth 100000 in
set_option maxHeartbeats 1000000 in
theorem lEncode_any (A : Option Addr) (n c : Nat) (xs : List Vl) (w : World) (hn : n = xs.length) (hz : xs.length ≤ 15) (hok : ∀ x ∈ xs, x.ok) (hr : RdV w w.heap.size A xs) :
    Calls Try.prog 26 #[.slice A n c] w fun e w' => GivesRow w.heap.size w 5 .u8 (encs xs) e w' := by
  subst hn
  have h0 := wtr_new w
  have b0 := new_below w (.cells #[.slice none 0 0] 32)
  have hel := encs_len hok
  go_enter Try.func26, Try.ntmps26
  go_wp2
  go_loopw [4] (fun i wr => ∃ (k : Nat) (bs : List Int), k ≤ xs.length ∧ i = .int .i64 k ∧ Hid (bs = encs (xs.take k)) ∧ WtrAt wr w.heap.size w.heap.size bs ∧ Below w.heap.size w wr) (fun i _ => xs.length - (intOf i).toNat)
  case atStart => exact ⟨0, [], Nat.zero_le _, rfl, Lib.hid rfl, h0, b0⟩
  case round =>
    clear h0 b0
    obtain ⟨k, bs, hk, rfl, hbs, hwt, hW⟩ := hrel
    by_cases hlt : k < xs.length
    · have HS := Lib.hid (encs_take hlt)
      have hbl : bs.length ≤ 20000 * k := by
        have h1 := encs_len (xs := xs.take k) (fun z hz => hok z (List.mem_of_mem_take hz))
        rw [← hbs.out, List.length_take] at h1
        omega
      obtain ⟨b, o, rfl, hb, hcs⟩ : ∃ b o, A = some ⟨b, o, none⟩ ∧ b < w.heap.size ∧ ∀ j x, xs[j]? = some x → ValAt w w.heap.size b (o + j * 5) x := by
        rcases hr with e | h
        · rw [e] at hlt; simp at hlt
        · exact h
      have hva := (hcs k xs[k] (List.getElem?_eq_getElem hlt)).below hb hW
      have hxo := hok xs[k] (List.getElem_mem hlt)
      clear hcs hr hok hel
      generalize xs[k] = x at hva hxo HS
      obtain ⟨vb, vl, q0, q1, q2, q3, q4, h5, h6⟩ := hva
      have hC := lWrite_any x vb vl w.heap.size w.heap.size bs wr hwt (by omega) hxo h5 h6
      have HQ := Lib.hid (show bs ++ x.enc = encs (xs.take (k + 1)) by rw [HS.out, hbs.out])
      generalize bs ++ x.enc = bs2 at hC HQ
      clear hwt h5 h6 hxo
      obtain ⟨xk, xu, xn, xb, xl⟩ := x
      simp only at q0 q1 q2 q3 q4 hC
      go_wp2_with (go_at_call 14; refine hC.mono ?_; clear hC; rintro e w2 ⟨rfl, hr2, hb2⟩)
      go_roundw
      case rel => exact ⟨k + 1, bs2, by omega, by go_num, HQ, hr2, hW.trans hb2⟩
      case measure => simp [intOf]; omega
    · have he := Lib.hid (show bs = encs xs by rw [hbs.out, List.take_of_length_le (by omega)])
      have hD := dDone_any w.heap.size w.heap.size bs wr hwt (by rw [he.out]; omega)
      have hsz := hW.size
      clear hwt hr hok hel
      go_wp2_with (go_at_call 16; refine hD.mono ?_; clear hD; rintro e w2 ⟨A2, c2, rfl, hc2, hrow2, hb2⟩)
      go_ret
      rw [← he.out]
      exact ⟨A2, c2, rfl, hc2, own_base hrow2 hsz, hW.trans (hb2.mono hsz)⟩
end Go.Proofs.Ytebfgdonikedaaa
