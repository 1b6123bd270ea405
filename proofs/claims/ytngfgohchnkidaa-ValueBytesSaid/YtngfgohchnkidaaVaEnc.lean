/-
  THE WALK of the program's Encode. Written by gen/genvenc.py.
-/
import Derived.Test.YtngfgohchnkidaaDevK
import Derived.Test.YtngfgohchnkidaaVaOwn
import Derived.Test.YtngfgohchnkidaaVaEnts
namespace Go.Proofs.Ytngfgohchnkidaa
open Go.RowKit

def encEn (e : En) : List Int := uv e.i.toNat ++ uv e.u.toNat ++ raw (sb e.s)
/-- the bytes of a value, up to its entries -/
def encH (x : Va) : List Int := uv (zz x.k) ++ uv (zz x.n) ++ uv (zz x.ix) ++ uv x.u.toNat ++ raw (sb x.s) ++ uv (zz (x.m.length : Int))
def encV (x : Va) : List Int := encH x ++ x.m.flatMap encEn
theorem val_texts {x : Va} (h : valE x = 0) : x.s.size ≤ 64 ∧ ∀ e ∈ x.m, e.s.size ≤ 64 := by
  unfold valE at h
  by_cases hs : sortOk x.k x.n x.ix = true
  · rw [if_pos hs] at h
    by_cases hv : valOk x = true
    · have hn : x.n ≤ 64 := by rcases sort_kind hs with hk | hk | hk | hk <;> (rw [hk] at hs; simp [sortOk] at hs; omega)
      unfold valOk at hv
      rcases sort_kind hs with hk | hk | hk | hk
      · rw [if_pos hk] at hv
        unfold bvOk at hv
        rw [Bool.and_eq_true, Bool.and_eq_true] at hv
        have h1 := beq_iff_eq.1 hv.1.2
        have h2 := List.eq_nil_of_length_eq_zero (beq_iff_eq.1 hv.2)
        exact ⟨by omega, fun e he => by rw [h2] at he; cases he⟩
      · rw [if_neg (by omega), if_pos hk] at hv
        unfold stOk at hv
        rw [Bool.and_eq_true, Bool.and_eq_true] at hv
        have h1 := of_decide_eq_true hv.1.2
        have h2 := List.eq_nil_of_length_eq_zero (beq_iff_eq.1 hv.2)
        exact ⟨by omega, fun e he => by rw [h2] at he; cases he⟩
      all_goals
        rw [if_neg (by omega), if_neg (by omega), Bool.and_eq_true, Bool.and_eq_true] at hv
        have h1 := beq_iff_eq.1 hv.1.2
        refine ⟨by omega, fun e he => ?_⟩
        obtain ⟨j, hj, rfl⟩ := List.getElem_of_mem he
        have h3 := List.all_eq_true.1 hv.2 j (List.mem_range.2 hj)
        unfold okAt en1 at h3
        rw [Bool.and_eq_true, Bool.and_eq_true] at h3
        have h4 := h3.2.2
        rw [List.getD_eq_getElem?_getD, List.getElem?_eq_getElem hj] at h4
        unfold elOk bvOk stOk at h4
        simp only [Option.getD_some] at h4
        split at h4 <;>
          (rw [Bool.and_eq_true, Bool.and_eq_true] at h4
           first
             | (have h5 := of_decide_eq_true h4.1.2; omega)
             | (have h5 := beq_iff_eq.1 h4.1.2; omega))
    · rw [if_neg hv] at h; cases h
  · rw [if_neg hs] at h; cases h
theorem uv10 {n : Nat} (h : n < 18446744073709551616) : (uv n).length ≤ 10 := uv_length_64 h
theorem raw_len (b : List Int) : (raw b).length = (uv b.length).length + b.length := by unfold raw; rw [List.length_append]
theorem encEn_len {e : En} (h : e.ok) (hs : e.s.size ≤ 64) : (encEn e).length ≤ 100 := by
  unfold encEn
  obtain ⟨h1, h2, _⟩ := h
  unfold U64 at h1 h2
  have a1 := uv10 (n := e.i.toNat) (by omega)
  have a2 := uv10 (n := e.u.toNat) (by omega)
  have a3 := uv10 (n := (sb e.s).length) (by rw [sb_length]; omega)
  rw [List.length_append, List.length_append, raw_len, sb_length] at *
  omega
theorem encs_short {l : List En} (h : ∀ e ∈ l, e.ok ∧ e.s.size ≤ 64) : (l.flatMap encEn).length ≤ 100 * l.length := by
  induction l with
  | nil => simp
  | cons x l ih =>
    rw [List.flatMap_cons, List.length_append, List.length_cons]
    have h1 := encEn_len (h x (by simp)).1 (h x (by simp)).2
    have h2 := ih (fun e he => h e (by simp [he]))
    omega
/-- what Encode hands back -/
def EncPost (x : Va) (w : World) (e : Ending) (w' : World) : Prop := (valE x = 0 → ∃ A c, e = .returned (.tuple #[.slice A (encV x).length c, .int .i64 0]) ∧ (encV x).length ≤ c ∧ (A = none → c = 0) ∧ RdI w' w'.heap.size .u8 A (encV x)) ∧ (valE x ≠ 0 → e = .returned (.tuple #[.slice none 0 0, .int .i64 (valE x)])) ∧ Below w.heap.size w w'

set_option maxHeartbeats 8000000 in
set_option maxRecDepth 100000 in
theorem vEncode_any (x : Va) (v : Value) (w : World) (hv : VaV w (LoV w.heap.size) x v) : Calls Try.prog 22 #[v] w fun e w' => EncPost x w e w' := by
  have Hv := Lib.hid hv
  obtain ⟨hok, A, c, rfl, hc, hA, hl⟩ := hv
  have hm := hok.2.2.2.2
  obtain ⟨EV, hEV⟩ : ∃ z, z = valE x := ⟨_, rfl⟩
  have HT := Lib.hid (fun (h : valE x = 0) => val_texts h)
  unfold EncPost
  have HENC := Lib.hid (show encV x = encH x ++ x.m.flatMap encEn from rfl)
  have HHD := Lib.hid (show encH x = uv (zz x.k) ++ uv (zz x.n) ++ uv (zz x.ix) ++ uv x.u.toNat ++ raw (sb x.s) ++ uv (zz (x.m.length : Int)) from rfl)
  obtain ⟨ev, hev⟩ : ∃ z, z = encV x := ⟨_, rfl⟩
  rw [← hEV, ← hev]
  rw [← hev] at HENC
  obtain ⟨k, n, ix, u, s, m⟩ := x
  simp only at hc hl hm HHD HENC
  obtain ⟨ml, hml0⟩ : ∃ z, z = m.length := ⟨_, rfl⟩
  have HML := Lib.hid hml0
  have HOK := Lib.hid hok
  have HV1 := Lib.hid (fun W (h : Below w.heap.size w W) => by have := vValid_any ⟨k, n, ix, u, s, m⟩ _ W (Hv.out.call h); rw [← hEV] at this; exact this)
  unfold vav at HV1 ⊢
  simp only at HV1 ⊢
  rw [← hml0] at HV1 HHD hc hm ⊢
  have HEV := Lib.hid hEV
  clear hml0 hok hA hev hEV Hv
  have hb0 := Lib.hid (heap_alloc_new w (.cells #[.int .i64 k, .int .i64 n, .int .i64 ix, .int .u64 u, .string s, .slice A ml c] 35))
  have hBw : Below w.heap.size w (w.alloc (.cells #[.int .i64 k, .int .i64 n, .int .i64 ix, .int .u64 u, .string s, .slice A ml c] 35)) := (Below.refl _ _).alloc (Nat.le_refl _) _
  have hz : w.heap.size < (w.alloc (.cells #[.int .i64 k, .int .i64 n, .int .i64 ix, .int .u64 u, .string s, .slice A ml c] 35)).heap.size := by simp
  obtain ⟨p0, p1, p2, p3, p4, p5⟩ := six hb0.out
  go_enter Try.func22, Try.ntmps22
  go_wp2_with fail
  clear p0 p1 p2 p3 p4 p5
  generalize w.alloc (.cells #[.int .i64 k, .int .i64 n, .int .i64 ix, .int .u64 u, .string s, .slice A ml c] 35) = w2 at *
  refine Calls.mono (HV1.out w2 hBw) ?_
  rintro e w3 ⟨rfl, h3⟩
  have g3 := hBw.trans (h3.mono hBw.size)
  replace hb0 := Lib.hid ((h3.block _ hz).trans hb0.out)
  replace hz := Nat.lt_of_lt_of_le hz h3.size
  obtain ⟨p0, p1, p2, p3, p4, p5⟩ := six hb0.out
  by_cases hvz : EV = 0
  · subst hvz
    obtain ⟨un, rfl⟩ : ∃ un : Nat, u = (un : Int) := ⟨u.toNat, by have := HOK.out.2.1; unfold U64 at this; simp only at this; omega⟩
    have HB := Lib.hid (show (un < 18446744073709551616) ∧ s.size ≤ 64 ∧ (∀ e ∈ m, e.ok ∧ e.s.size ≤ 64) from ⟨by have := HOK.out.2.1.2; simp only at this; omega, (HT.out HEV.out.symm).1, fun e he => ⟨HOK.out.2.2.2.1 e he, (HT.out HEV.out.symm).2 e he⟩⟩)
    have HK := Lib.hid HOK.out.1
    obtain ⟨B, hB⟩ : ∃ B, B = w3.heap.size := ⟨_, rfl⟩
    have hr0 : WtrX (w3.alloc (.cells #[.slice none 0 0] 95)) B B [] (fun _ => False) := hB ▸ ⟨Nat.le_refl _, _, heap_alloc_new w3 _, World.ownsRow_nil _ _ _ _, fun _ h => h.elim⟩
    have g4 := g3.alloc g3.size (.cells #[.slice none 0 0] 95)
    have hb4 := Lib.hid ((heap_alloc_old w3 (.cells #[.slice none 0 0] 95) _ hz).trans hb0.out)
    rw [← hB] at hz
    have hBl : w.heap.size ≤ B := Nat.le_of_lt hz
    clear p0 p1 p2 p3 p4 p5
    obtain ⟨p0, p1, p2, p3, p4, p5⟩ := six hb4.out
    go_wp2_with fail
    rw [← hB]
    generalize (w3.alloc (.cells #[.slice none 0 0] 95)) = w4 at *
    have hBw4 : B < w4.heap.size := by obtain ⟨_, _, h3, _⟩ := wtrx_cells hr0; exact h3
    have HC := Lib.hid (fun W (h : Below B w4 W) => six ((h.block _ hz).trans hb4.out))
    have HG := Lib.hid (fun W (h : Below B w4 W) => (g4.trans (h.mono hBl) : Below w.heap.size w W))
    clear hb0 hb4 h3 hBw HV1 HT hB
    obtain ⟨L1, hL1⟩ : ∃ l, l = [] ++ uv (zz k) := ⟨_, rfl⟩
    obtain ⟨L2, hL2⟩ : ∃ l, l = L1 ++ uv (zz n) := ⟨_, rfl⟩
    obtain ⟨L3, hL3⟩ : ∃ l, l = L2 ++ uv (zz ix) := ⟨_, rfl⟩
    obtain ⟨L4, hL4⟩ : ∃ l, l = L3 ++ uv un := ⟨_, rfl⟩
    obtain ⟨L5, hL5⟩ : ∃ l, l = L4 ++ raw (sb s) := ⟨_, rfl⟩
    obtain ⟨L6, hL6⟩ : ∃ l, l = L5 ++ uv (zz (ml : Int)) := ⟨_, rfl⟩
    have HL := Lib.hid (show L1.length ≤ 10 ∧ L2.length ≤ 20 ∧ L3.length ≤ 30 ∧ L4.length ≤ 40 ∧ L5.length ≤ 120 ∧ L6.length ≤ 130 from by
      have z1 := uv10 (zz_lt HK.out.1.1 HK.out.1.2)
      have z2 := uv10 (zz_lt HK.out.2.1.1 HK.out.2.1.2)
      have z3 := uv10 (zz_lt HK.out.2.2.1 HK.out.2.2.2)
      have z4 := uv10 HB.out.1
      have z5 := uv10 (n := (sb s).length) (by rw [sb_length]; have := HB.out.2.1; omega)
      have z6 := uv10 (zz_lt (n := (ml : Int)) (by omega) (by omega))
      have z7 := HB.out.2.1
      rw [hL6, hL5, hL4, hL3, hL2, hL1]
      simp only [List.length_append, List.nil_append, raw_len, sb_length] at *
      omega)
    have HE6 := Lib.hid (show encH ⟨k, n, ix, (un : Int), s, m⟩ = L6 from by rw [HHD.out, hL6, hL5, hL4, hL3, hL2, hL1]; rfl)
    have HE := Lib.hid (And.intro hL1 (And.intro hL2 (And.intro hL3 (And.intro hL4 (And.intro hL5 hL6)))))
    clear hL1 hL2 hL3 hL4 hL5 hL6 HHD
    have hI1 := dIntX_any (fun _ => False) k B B [] w4 hr0 (by show (0 : Nat) ≤ _; omega) HK.out.1.1 HK.out.1.2
    rw [← HE.out.1] at hI1
    refine Calls.mono (hI1) ?_
    rintro e w5 ⟨rfl, hr1, hq1, hk1⟩
    have hb1 := (Below.refl B w4).trans hq1
    clear p0 p1 p2 p3 p4 p5
    obtain ⟨p0, p1, p2, p3, p4, p5⟩ := HC.out _ hb1
    have hI2 := dIntX_any (fun _ => False) n B B L1 w5 hr1 (by have := HL.out; omega) HK.out.2.1.1 HK.out.2.1.2
    rw [← HE.out.2.1] at hI2
    clear hI1
    go_wp2_with fail
    refine Calls.mono (hI2) ?_
    rintro e w6 ⟨rfl, hr2, hq2, hk2⟩
    have hb2 := hb1.trans hq2
    clear p0 p1 p2 p3 p4 p5
    obtain ⟨p0, p1, p2, p3, p4, p5⟩ := HC.out _ hb2
    have hI3 := dIntX_any (fun _ => False) ix B B L2 w6 hr2 (by have := HL.out; omega) HK.out.2.2.1 HK.out.2.2.2
    rw [← HE.out.2.2.1] at hI3
    clear hI2
    go_wp2_with fail
    refine Calls.mono (hI3) ?_
    rintro e w7 ⟨rfl, hr3, hq3, hk3⟩
    have hb3 := hb2.trans hq3
    clear p0 p1 p2 p3 p4 p5
    obtain ⟨p0, p1, p2, p3, p4, p5⟩ := HC.out _ hb3
    have hI4 := dUintX_any (fun _ => False) un B B L3 w7 hr3 (by have := HL.out; omega) HB.out.1
    rw [← HE.out.2.2.2.1] at hI4
    clear hI3
    go_wp2_with fail
    refine Calls.mono (hI4) ?_
    rintro e w8 ⟨rfl, hr4, hq4, hk4⟩
    have hb4 := hb3.trans hq4
    clear p0 p1 p2 p3 p4 p5
    obtain ⟨p0, p1, p2, p3, p4, p5⟩ := HC.out _ hb4
    clear hI4
    obtain ⟨cap, C, hcap, hcv, HCC⟩ := conv_bytes s w8
    have hs8 : Below B w4 (w8.alloc (.cells C 5 (C.size, C.size + 1))).drew := (hb4.alloc (by have h1 := hb4.size; have h2 : B < w4.heap.size := hBw4; omega) (.cells C 5 (C.size, C.size + 1))).drew
    have hw8 : Below w8.heap.size w8 (w8.alloc (.cells C 5 (C.size, C.size + 1))).drew := ((Below.refl _ _).alloc (Nat.le_refl _) (.cells C 5 (C.size, C.size + 1))).drew
    have hI5 := dRawX_any (fun b => b = w8.heap.size) w8.heap.size 0 s.size cap (sb s) B B L4 _ (hr4.with (Y := fun b => b = w8.heap.size) hw8 (fun b hb => .inr ⟨by omega, by rw [hb]; simp⟩)) (by have := HL.out; omega) (sb_length s).symm (by rw [sb_length]; have := HB.out.2.1; omega) (by rw [sb_length]; exact hcap) rfl (rd_conv w8 C (sb s) HCC)
    rw [← HE.out.2.2.2.2.1] at hI5
    replace hcap := Lib.hid hcap
    go_wp2_with fail
    refine Calls.mono hI5 ?_
    rintro e w9 ⟨rfl, hr5, hq5, _⟩
    clear hcv hI5 p0 p1 p2 p3 p4 p5
    have hb5 := hs8.trans hq5
    obtain ⟨p0, p1, p2, p3, p4, p5⟩ := HC.out _ hb5
    have hI6 := dIntX_any (fun _ => False) (ml : Int) B B L5 w9 (hr5.with (Y := fun _ => False) (Below.refl _ _) (fun b hb => hb.elim)) (by have := HL.out; omega) (by omega) (by omega)
    rw [← HE.out.2.2.2.2.2] at hI6
    go_wp2_with fail
    refine Calls.mono hI6 ?_
    rintro e w10 ⟨rfl, hr6, hq6, _⟩
    clear hI6 p0 p1 p2 p3 p4 p5
    have hb6 := hb5.trans hq6
    obtain ⟨p0, p1, p2, p3, p4, p5⟩ := HC.out _ hb6
    go_wp2_with fail
    clear p0 p1 p2 p3 p4 p5
    go_loopw [39] (fun a wr => ∃ (j : Nat) (bs : List Int), j ≤ ml ∧ a = .int .i64 (j : Int) ∧ Hid (bs = L6 ++ (m.take j).flatMap encEn) ∧ WtrX wr B B bs (fun _ => False) ∧ Below B w4 wr) (fun a _ => ml - (intOf a).toNat)
    case atStart => exact ⟨0, L6, Nat.zero_le _, rfl, Lib.hid (by simp), hr6, hb6⟩
    case round =>
      clear hr0 hr1 hr2 hr3 hr4 hr5 hr6 hb1 hb2 hb3 hb4 hb5 hb6 hq1 hq2 hq3 hq4 hq5 hq6 hs8 hw8
      obtain ⟨j, bs, hj, rfl, hbs, hrw, hW⟩ := hrel
      have hBs : B < wr.heap.size := by obtain ⟨_, _, h3, _⟩ := wtrx_cells hrw; exact h3
      by_cases hlt : j < ml
      · have hjm : j < m.length := by have := HML.out; omega
        obtain ⟨bl, ol, rfl, hbl, h3⟩ := hl.get hjm
        have h3' := h3.to ((HG.out _ hW).block bl hbl)
        have HX := Lib.hid (show (m.take (j + 1)).flatMap encEn = (m.take j).flatMap encEn ++ encEn m[j] from by rw [List.take_succ_eq_append_getElem hjm, List.flatMap_append]; simp)
        have HLb := Lib.hid (show bs.length ≤ 130 + 100 * ml from by
          rw [hbs.out, List.length_append]
          have h1 := encs_short (l := m.take j) (fun e he => HB.out.2.2 e (List.mem_of_mem_take he))
          have h2 : (m.take j).length ≤ ml := by rw [List.length_take]; omega
          have h4 := HL.out.2.2.2.2.2
          omega)
        have HO := Lib.hid (HB.out.2.2 _ (List.getElem_mem hjm))
        generalize m[j] = y at h3' HX HO
        obtain ⟨xi, xu, xs⟩ := y
        simp only at HO
        obtain ⟨xin, rfl⟩ : ∃ q : Nat, xi = (q : Int) := ⟨xi.toNat, by have := HO.out.1.1; unfold U64 at this; simp only at this; omega⟩
        obtain ⟨xun, rfl⟩ : ∃ q : Nat, xu = (q : Int) := ⟨xu.toNat, by have := HO.out.1.2.1; unfold U64 at this; simp only at this; omega⟩
        obtain ⟨e0, e1, e2⟩ := h3'
        have hji : (j : Int) < (ml : Int) := by omega
        have hj0 : (0 : Int) ≤ (j : Int) := by omega
        have HXN := Lib.hid (show xin < 18446744073709551616 ∧ xun < 18446744073709551616 ∧ xs.size ≤ 64 from ⟨by have := HO.out.1.1.2; simp only at this; omega, by have := HO.out.1.2.1.2; simp only at this; omega, HO.out.2⟩)
        clear h3
        obtain ⟨M1, hM1⟩ : ∃ l, l = bs ++ uv xin := ⟨_, rfl⟩
        obtain ⟨M2, hM2⟩ : ∃ l, l = M1 ++ uv xun := ⟨_, rfl⟩
        obtain ⟨M3, hM3⟩ : ∃ l, l = M2 ++ raw (sb xs) := ⟨_, rfl⟩
        have HM3 := Lib.hid (show M3 = L6 ++ (m.take (j + 1)).flatMap encEn from by
          rw [HX.out, hM3, hM2, hM1, hbs.out]
          unfold encEn
          simp only [Int.toNat_natCast, List.append_assoc])
        have HML2 := Lib.hid (show bs.length ≤ 100000000 ∧ M1.length ≤ 100000000 ∧ M2.length ≤ 90000000 from by
          have z1 := uv10 HXN.out.1
          have z2 := uv10 HXN.out.2.1
          have z3 := HLb.out
          rw [hM2, hM1]
          simp only [List.length_append]
          omega)
        have hbe := heap_alloc_new wr (.cells #[.int .u64 (xin : Int), .int .u64 (xun : Int), .string xs] 85)
        have hW1 : Below B w4 (wr.alloc (.cells #[.int .u64 (xin : Int), .int .u64 (xun : Int), .string xs] 85)) := hW.alloc (Nat.le_of_lt hBs) (.cells #[.int .u64 (xin : Int), .int .u64 (xun : Int), .string xs] 85)
        have hle : wr.heap.size < (wr.alloc (.cells #[.int .u64 (xin : Int), .int .u64 (xun : Int), .string xs] 85)).heap.size := by simp
        have hrw1 : WtrX (wr.alloc (.cells #[.int .u64 (xin : Int), .int .u64 (xun : Int), .string xs] 85)) B B bs (fun b => b = wr.heap.size) := hrw.with ((Below.refl _ _).alloc (Nat.le_refl _) (.cells #[.int .u64 (xin : Int), .int .u64 (xun : Int), .string xs] 85)) (fun b hb => .inr ⟨by omega, by omega⟩)
        have hJ1 := dUintX_any (fun b => b = wr.heap.size) xin B B bs _ hrw1 HML2.out.1 HXN.out.1
        rw [← hM1] at hJ1
        go_wp2_with fail
        clear e0 e1 e2
        generalize (wr.alloc (.cells #[.int .u64 (xin : Int), .int .u64 (xun : Int), .string xs] 85)) = w12 at *
        refine Calls.mono hJ1 ?_
        rintro e w13 ⟨rfl, hr7, hq7, hk7⟩
        have hb7 := hW1.trans hq7
        have hbe3 := (hk7 _ rfl).trans hbe
        obtain ⟨e0, e1, e2⟩ := three hbe3
        have hJ2 := dUintX_any (fun b => b = wr.heap.size) xun B B M1 w13 hr7 HML2.out.2.1 HXN.out.2.1
        rw [← hM2] at hJ2
        replace hbe3 := Lib.hid hbe3
        clear hbe hJ1 hrw1 hle
        go_wp2_with fail
        refine Calls.mono hJ2 ?_
        rintro e w14 ⟨rfl, hr8, hq8, hk8⟩
        have hb8 := hb7.trans hq8
        have hbe4 := (hk8 _ rfl).trans hbe3.out
        clear e0 e1 e2 hJ2
        obtain ⟨e0, e1, e2⟩ := three hbe4
        replace hbe4 := Lib.hid hbe4
        obtain ⟨cap, C, hcap, hcv, HCC⟩ := conv_bytes xs w14
        have hB14 : B ≤ w14.heap.size := by obtain ⟨_, _, h3, _⟩ := wtrx_cells hr8; exact Nat.le_of_lt h3
        have hs9 : Below B w4 (w14.alloc (.cells C 5 (C.size, C.size + 1))).drew := (hb8.alloc hB14 (.cells C 5 (C.size, C.size + 1))).drew
        have hw14 : Below w14.heap.size w14 (w14.alloc (.cells C 5 (C.size, C.size + 1))).drew := ((Below.refl _ _).alloc (Nat.le_refl _) (.cells C 5 (C.size, C.size + 1))).drew
        have hJ3 := dRawX_any (fun b => b = w14.heap.size) w14.heap.size 0 xs.size cap (sb xs) B B M2 _ (hr8.with (Y := fun b => b = w14.heap.size) hw14 (fun b hb => .inr ⟨by omega, by rw [hb]; simp⟩)) HML2.out.2.2 (sb_length xs).symm (by rw [sb_length]; have := HXN.out.2.2; omega) (by rw [sb_length]; exact hcap) rfl (rd_conv w14 C (sb xs) HCC)
        rw [← hM3] at hJ3
        replace hcap := Lib.hid hcap
        have HM := Lib.hid (And.intro hM1 (And.intro hM2 hM3))
        clear hM1 hM2 hM3
        go_wp2_with fail
        refine Calls.mono hJ3 ?_
        rintro e w15 ⟨rfl, hr9, hq9, _⟩
        clear hJ3 hcv e0 e1 e2
        go_wp2_with fail
        go_roundw
        case rel => exact ⟨j + 1, M3, by omega, by go_num, HM3, hr9.with (Y := fun _ => False) (Below.refl _ _) (fun b hb => hb.elim), hs9.trans hq9⟩
        case measure => simp [intOf]; omega
      · have hji : ¬ (j : Int) < (ml : Int) := by omega
        have hD := dDone_any B B bs wr hrw.at' (by
          rw [hbs.out, List.length_append]
          have h1 := encs_short (l := m.take j) (fun e he => HB.out.2.2 e (List.mem_of_mem_take he))
          have h2 : (m.take j).length ≤ ml := by rw [List.length_take]; omega
          have h4 := HL.out.2.2.2.2.2
          omega)
        have HEV2 := Lib.hid (show bs = ev from by rw [hbs.out, HENC.out, HE6.out, List.take_of_length_le (by have := HML.out; omega)])
        go_wp2_with fail
        refine Calls.mono hD ?_
        rintro e w11 ⟨A9, c9, rfl, hc9, hrow9, hb9⟩
        go_wp2_with fail
        go_ret2
        have e9 := HEV2.out
        subst e9
        exact ⟨⟨A9, c9, rfl, hc9, own_none hrow9, rd_own hrow9⟩, (HG.out _ hW).trans (hb9.mono (HG.out _ hW).size)⟩
  · have hvf : (EV == 0) = false := by rw [beq_eq_false_iff_ne]; exact hvz
    have HN := Lib.hid hvz
    clear hvz
    go_wp2_with fail
    go_ret2
    exact ⟨fun h => absurd h HN.out, fun _ => rfl, g3⟩
end Go.Proofs.Ytngfgohchnkidaa
