/-
  THE WALK of the reference's Encode (of values).
-/
import Derived.Test.YtngfgohchnkidaaVaEnc
import Derived.Test.YtngfgohchnkidaaWireRef
namespace Go.Proofs.Ytngfgohchnkidaa
open Go.RowKit

theorem encV_small {x : Va} (h : x.ok) : (encV x).length ≤ 140737488351232 := by
  obtain ⟨⟨k1, k2, k3⟩, hu, hs, hm, hl⟩ := h
  unfold U64 at hu
  have z1 := uv10 (zz_lt k1.1 k1.2)
  have z2 := uv10 (zz_lt k2.1 k2.2)
  have z3 := uv10 (zz_lt k3.1 k3.2)
  have z4 := uv10 (n := x.u.toNat) (by omega)
  have z5 := uv10 (n := (sb x.s).length) (by rw [sb_length]; omega)
  have z6 := uv10 (zz_lt (n := (x.m.length : Int)) (by omega) (by omega))
  have h9 : ∀ l : List En, (∀ e ∈ l, e.ok) → (l.flatMap encEn).length ≤ 1000030 * l.length := by
    intro l
    induction l with
    | nil => intro _; simp
    | cons y l ih =>
      intro hy
      have h1 := ih (fun e he => hy e (by simp [he]))
      obtain ⟨a1, a2, a3⟩ := hy y (by simp)
      unfold U64 at a1 a2
      have b1 := uv10 (n := y.i.toNat) (by omega)
      have b2 := uv10 (n := y.u.toNat) (by omega)
      have b3 := uv10 (n := (sb y.s).length) (by rw [sb_length]; omega)
      have b4 : (encEn y).length ≤ 1000030 := by
        unfold encEn
        simp only [List.length_append, raw_len, sb_length] at *
        omega
      rw [List.flatMap_cons, List.length_append, List.length_cons]
      omega
  have h10 := h9 x.m hm
  unfold encV encH
  simp only [List.length_append, raw_len, sb_length] at *
  omega
/-- what is read of the list of the first three numbers -/
def l3 (k n ix : Int) (j : Nat) : Int := if j = 0 then k else if j = 1 then n else ix
def h3 (k n ix : Int) (j : Nat) : List Int := (if 0 < j then uv (zz k) else []) ++ (if 1 < j then uv (zz n) else []) ++ (if 2 < j then uv (zz ix) else [])
theorem h3_step (k n ix : Int) {j : Nat} (h : j < 3) : h3 k n ix (j + 1) = h3 k n ix j ++ uv (zz (l3 k n ix j)) := by
  have : j = 0 ∨ j = 1 ∨ j = 2 := by omega
  rcases this with rfl | rfl | rfl <;> simp [h3, l3]
theorem three_at {W : World} {b : Nat} {ty : TypeId} {k n ix : Int} (h : W.heap[b]? = some (.cells #[.int .i64 k, .int .i64 n, .int .i64 ix] ty)) {j : Nat} (hj : j < 3) : W.cell? ⟨b, j, none⟩ = some (.int .i64 (l3 k n ix j)) := by
  obtain ⟨a0, a1, a2⟩ := three h
  have : j = 0 ∨ j = 1 ∨ j = 2 := by omega
  rcases this with rfl | rfl | rfl
  · exact a0
  · exact a1
  · exact a2
theorem l3_i64 {k n ix : Int} (h1 : I64 k) (h2 : I64 n) (h3 : I64 ix) (j : Nat) : I64 (l3 k n ix j) := by unfold l3; split; exact h1; split; exact h2; exact h3

theorem wRaw_str (s : ByteArray) (q : List Int) (hq : q = raw (sb s)) (A : Option Addr) (c : Nat) (w : World) (hz : s.size ≤ 140737488351232) (hcap : s.size ≤ c) (hA : A = none → c = 0) (hr : RdI w w.heap.size .u8 A (sb s)) :
    Calls Try.prog 74 #[.slice A s.size c] w fun e w' => GivesRow w.heap.size w 5 .u8 q e w' := by
  subst hq
  exact wRaw_any A s.size c (sb s) w (sb_length s).symm (by rw [sb_length]; exact hz) (by rw [sb_length]; exact hcap) hA hr
/-- a row with another row's numbers behind it -/
theorem row_more {w : World} {B : Nat} {v : Value} {l q r : List Int} (he : r = l ++ q) (h : w.ownsRow B 5 1 v (l.length + q.length) (l.map (Value.int .u8) ++ q.map (Value.int .u8))) : w.ownsRow B 5 1 v r.length (r.map (Value.int .u8)) := by
  subst he
  rw [List.length_append, List.map_append]
  exact h

set_option maxHeartbeats 4000000 in
set_option maxRecDepth 100000 in
theorem r6Encode_any (x : Va) (v : Value) (w : World) (hv : VaV w (LoV w.heap.size) x v) : Calls Try.prog 33 #[v] w fun e w' => GivesRow w.heap.size w 5 .u8 (encV x) e w' := by
  obtain ⟨i0, hi, hz0, hz1, hz2⟩ := info_parts info_u8
  have HSM := Lib.hid (encV_small hv.1)
  obtain ⟨hok, A, c, rfl, hc, hA, hl⟩ := hv
  have HHD := Lib.hid (show encH x = uv (zz x.k) ++ uv (zz x.n) ++ uv (zz x.ix) ++ uv x.u.toNat ++ raw (sb x.s) ++ uv (zz (x.m.length : Int)) from rfl)
  have HENC := Lib.hid (show encV x = encH x ++ x.m.flatMap encEn from rfl)
  obtain ⟨ev, hev⟩ : ∃ z, z = encV x := ⟨_, rfl⟩
  rw [← hev] at HENC HSM ⊢
  clear hev
  obtain ⟨k, n, ix, u, s, m⟩ := x
  simp only at hc hl HHD HENC
  obtain ⟨un, rfl⟩ : ∃ un : Nat, u = (un : Int) := ⟨u.toNat, by have := hok.2.1; unfold U64 at this; simp only at this; omega⟩
  obtain ⟨ml, hml0⟩ : ∃ z, z = m.length := ⟨_, rfl⟩
  have HML := Lib.hid hml0
  have HOK := Lib.hid hok
  have hlen : ml ≤ 100000 := by rw [hml0]; exact hok.2.2.2.2
  unfold vav
  simp only
  rw [← hml0] at hc HHD ⊢
  clear hml0 hok
  have hb0 := Lib.hid ((heap_alloc_old (w.alloc (.cells #[.int .i64 k, .int .i64 n, .int .i64 ix, .int .u64 (un : Int), .string s, .slice A ml c] 30)) (.cells #[.int .i64 k, .int .i64 n, .int .i64 ix] 3) w.heap.size (by simp)).trans (heap_alloc_new w (.cells #[.int .i64 k, .int .i64 n, .int .i64 ix, .int .u64 (un : Int), .string s, .slice A ml c] 30)))
  have hb1 := Lib.hid (heap_alloc_new_at (w.alloc (.cells #[.int .i64 k, .int .i64 n, .int .i64 ix, .int .u64 (un : Int), .string s, .slice A ml c] 30)) (.cells #[.int .i64 k, .int .i64 n, .int .i64 ix] 3) (n := w.heap.size + 1) (by simp))
  have hB := ((Below.refl w.heap.size w).alloc (Nat.le_refl _) (.cells #[.int .i64 k, .int .i64 n, .int .i64 ix, .int .u64 (un : Int), .string s, .slice A ml c] 30)).alloc (by simp) (.cells #[.int .i64 k, .int .i64 n, .int .i64 ix] 3)
  have hz : ((w.alloc (.cells #[.int .i64 k, .int .i64 n, .int .i64 ix, .int .u64 (un : Int), .string s, .slice A ml c] 30)).alloc (.cells #[.int .i64 k, .int .i64 n, .int .i64 ix] 3)).heap.size = w.heap.size + 2 := by simp
  obtain ⟨p0, p1, p2, p3, p4, p5⟩ := six (heap_alloc_new w (.cells #[.int .i64 k, .int .i64 n, .int .i64 ix, .int .u64 (un : Int), .string s, .slice A ml c] 30))
  go_enter Try.func33, Try.ntmps33
  go_wp2_with fail
  clear p0 p1 p2 p3 p4 p5
  generalize ((w.alloc (.cells #[.int .i64 k, .int .i64 n, .int .i64 ix, .int .u64 (un : Int), .string s, .slice A ml c] 30)).alloc (.cells #[.int .i64 k, .int .i64 n, .int .i64 ix] 3)) = wz at *
  obtain ⟨B, hBe⟩ : ∃ B, B = wz.heap.size := ⟨_, rfl⟩
  obtain ⟨L0, hL0⟩ : ∃ l, l = h3 k n ix 3 := ⟨_, rfl⟩
  obtain ⟨L1, hL1⟩ : ∃ l, l = L0 ++ uv un := ⟨_, rfl⟩
  obtain ⟨L2, hL2⟩ : ∃ l, l = L1 ++ raw (sb s) := ⟨_, rfl⟩
  obtain ⟨L3, hL3⟩ : ∃ l, l = L2 ++ uv (zz (ml : Int)) := ⟨_, rfl⟩
  have HEV := Lib.hid (show ev = L3 ++ m.flatMap encEn from by rw [HENC.out, HHD.out, hL3, hL2, hL1, hL0]; simp [h3])
  have HLE := Lib.hid (show L1.length ≤ 140737488351232 ∧ L2.length ≤ 140737488351232 ∧ L3.length ≤ 140737488351232 ∧ L0.length + (uv un).length = L1.length ∧ L1.length + (raw (sb s)).length = L2.length ∧ L2.length + (uv (zz (ml : Int))).length = L3.length from by
    have h1 := HSM.out
    rw [HEV.out, List.length_append] at h1
    have a1 := congrArg List.length hL1
    have a2 := congrArg List.length hL2
    have a3 := congrArg List.length hL3
    rw [List.length_append] at a1 a2 a3
    omega)
  have HLL := Lib.hid (And.intro hL0 (And.intro hL1 (And.intro hL2 hL3)))
  clear hL0 hL1 hL2 hL3 HHD HENC
  have HC := Lib.hid (fun W (h : Below B wz W) => And.intro (six ((h.block _ (by omega)).trans hb0.out)) ((h.block _ (by omega)).trans hb1.out))
  have HG := Lib.hid (fun W (h : Below B wz W) => (hB.trans (h.mono (by omega)) : Below w.heap.size w W))
  have hwB : w.heap.size ≤ B := by omega
  have hB2 : Below B wz wz := Below.refl _ _
  have hBs2 : B ≤ wz.heap.size := by omega
  have HK := Lib.hid HOK.out.1
  clear hb0 hb1 hz hBe hB
  go_loopw [3, 5] (fun a b wr => ∃ (j : Nat) (bs : List Int), j ≤ 3 ∧ b = .int .i64 (j : Int) ∧ Hid (bs = h3 k n ix j) ∧ wr.ownsRow B 5 1 a bs.length (bs.map (Value.int .u8)) ∧ Below B wz wr) (fun _ b _ => 3 - (intOf b).toNat)
  case atStart => exact ⟨0, [], Nat.zero_le _, rfl, Lib.hid rfl, World.ownsRow_nil _ _ _ _, hB2⟩
  case round =>
    obtain ⟨j, bs, hj, rfl, hbs, hrow, hW⟩ := hrel
    have hsz : B ≤ wr.heap.size := Nat.le_trans hBs2 hW.size
    by_cases hlt : j < 3
    · have hji : (j : Int) < 3 := by omega
      have hck := three_at ((HC.out _ hW).2) hlt
      have hxi := l3_i64 (j := j) HK.out.1 HK.out.2.1 HK.out.2.2
      have HS := Lib.hid (h3_step k n ix hlt)
      have HBL := Lib.hid (show bs.length ≤ 30 from by
        have z1 := uv10 (zz_lt HK.out.1.1 HK.out.1.2)
        have z2 := uv10 (zz_lt HK.out.2.1.1 HK.out.2.1.2)
        have z3 := uv10 (zz_lt HK.out.2.2.1 HK.out.2.2.2)
        rw [hbs.out]
        unfold h3
        simp only [List.length_append]
        split <;> split <;> split <;> simp only [List.length_nil] at * <;> omega)
      generalize l3 k n ix j = y at hck hxi HS
      have HI := Lib.hid (fun W => wInt_any y W hxi.1 hxi.2)
      have hxl := uv10 (zz_lt hxi.1 hxi.2)
      clear hxi
      generalize uv (zz y) = q at HI HS hxl
      go_wp2_with (first
        | (go_at_call 72; refine (HI.out _).mono ?_; rintro e w1 ⟨A2, c2, rfl, hc2, hrow2, hb2⟩; have hrow3 := own_below hrow hb2; have hr2 := rd_own hrow2; have hsz2 := Nat.le_trans hsz hb2.size)
        | (at_builtin; refine wpList_append_rd _ rfl (.tmp 21) (.tmp 26) 48 rfl B 5 i0 (.int .u8 0) 1 1 Try.underlying48 hi hz0 hz1 hz2 rfl rfl (by decide) _ bs.length _ rfl hrow3 .u8 A2 q.length c2 q rfl rfl (own_none hrow2) hc2 hr2 (by have := HBL.out; unfold maxLen; omega) (by have := HBL.out; omega) hsz2 ?_; intro v' w3 hown hgrow))
      go_roundw
      case rel =>
        refine ⟨j + 1, bs ++ q, by omega, by go_num, Lib.hid (by rw [HS.out, hbs.out]), ?_, (hW.trans (hb2.mono hsz)).grown hgrow hsz2 (fun j ej => (hrow.lt j ej).1)⟩
        rw [List.map_append, List.length_append]
        exact hown
      case measure => simp [intOf]; omega
    · have hji : ¬ (j : Int) < 3 := by omega
      obtain rfl : j = 3 := by omega
      obtain rfl : L0 = bs := by rw [hbs.out, HLL.out.1]
      clear hbs hlt hj
      obtain ⟨⟨p0, p1, p2, p3, p4, p5⟩, _⟩ := HC.out _ hW
      obtain ⟨q1, hq1⟩ : ∃ l, l = uv un := ⟨_, rfl⟩
      obtain ⟨q2, hq2⟩ : ∃ l, l = raw (sb s) := ⟨_, rfl⟩
      obtain ⟨q3, hq3⟩ : ∃ l, l = uv (zz (ml : Int)) := ⟨_, rfl⟩
      have HU := Lib.hid (fun W => wUint_any un W (by have := HOK.out.2.1.2; simp only at this; omega))
      have HI := Lib.hid (fun W => wInt_any (ml : Int) W (by omega) (by omega))
      have HLM := Lib.hid HLE.out
      have HLQ := Lib.hid HLL.out.2
      have HQ2 := Lib.hid hq2
      have HSS := Lib.hid (show s.size ≤ 140737488351232 from by have := HLE.out; have h1 := raw_len (sb s); rw [sb_length] at h1; omega)
      rw [← hq1, ← hq2, ← hq3] at HLM HLQ
      rw [← hq1] at HU
      rw [← hq3] at HI
      clear hq1 hq2 hq3 HLE HLL
      have g0 := hW
      have r0 := hrow
      clear hW hrow
      go_wp2_with (first
        | (go_at_call 73; refine (HU.out _).mono ?_; rintro e w1c ⟨A2, c2, rfl, hc2, hrow2, hb2⟩; have hrow3 := own_below r0 hb2; have hr2 := rd_own hrow2; have hsz2 := Nat.le_trans hsz hb2.size)
        | (go_at_call 72; refine (HI.out _).mono ?_; rintro e w3c ⟨A2, c2, rfl, hc2, hrow2, hb2⟩; have hrow3 := own_below r2 hb2; have hr2 := rd_own hrow2; have hsz2 := Nat.le_trans hsz hb2.size)
        | (go_at_call 74; refine (wRaw_str s _ HQ2.out (some ⟨w1.heap.size, 0, none⟩) cap _ (by have := HSS.out; omega) hcap.out (fun h => nomatch h) (rd_conv w1 C (sb s) HCC)).mono ?_; rintro e w2c ⟨A2, c2, rfl, hc2, hrow2, hb2⟩; have hw := ((Below.refl w1.heap.size w1).alloc (Nat.le_refl _) (.cells C 5 (C.size, C.size + 1))).drew; replace hb2 := hw.trans (hb2.mono hw.size); have hrow3 := own_below r1 hb2; replace hrow2 := own_base hrow2 hw.size; have hr2 := rd_own hrow2; have hsz2 := Nat.le_trans hsz hb2.size; clear hw hcv HCC hcap)
        | (at_builtin; refine wpList_append_rd _ rfl (.tmp 28) (.tmp 31) 48 rfl B 5 i0 (.int .u8 0) 1 1 Try.underlying48 hi hz0 hz1 hz2 rfl rfl (by decide) _ L0.length _ rfl hrow3 .u8 A2 q1.length c2 q1 rfl rfl (own_none hrow2) hc2 hr2 (by have := HLM.out; unfold maxLen; omega) (by have := HLM.out; omega) hsz2 ?_; intro v1 w1 hown hgrow; have g1 := (g0.trans (hb2.mono hsz)).grown hgrow hsz2 (fun j ej => (r0.lt j ej).1); have r1 := row_more HLQ.out.1 hown; clear hgrow hown hrow3 hr2 hsz2 hrow2 hc2 hb2 ; replace hsz := Nat.le_trans hBs2 g1.size; clear p0 p1 p2 p3 p4 p5; obtain ⟨⟨p0, p1, p2, p3, p4, p5⟩, _⟩ := HC.out _ g1; obtain ⟨cap, C, hcap, hcv, HCC⟩ := conv_bytes s w1; replace hcap := Lib.hid hcap)
        | (at_builtin; refine wpList_append_rd _ rfl (.tmp 33) (.tmp 37) 48 rfl B 5 i0 (.int .u8 0) 1 1 Try.underlying48 hi hz0 hz1 hz2 rfl rfl (by decide) _ L1.length _ rfl hrow3 .u8 A2 q2.length c2 q2 rfl rfl (own_none hrow2) hc2 hr2 (by have := HLM.out; unfold maxLen; omega) (by have := HLM.out; omega) hsz2 ?_; intro v2 w2 hown hgrow; have g2 := (g1.trans (hb2.mono hsz)).grown hgrow hsz2 (fun j ej => (r1.lt j ej).1); have r2 := row_more HLQ.out.2.1 hown; clear hgrow hown hrow3 hr2 hsz2 hrow2 hc2 hb2 ; replace hsz := Nat.le_trans hBs2 g2.size; clear p0 p1 p2 p3 p4 p5; obtain ⟨⟨p0, p1, p2, p3, p4, p5⟩, _⟩ := HC.out _ g2)
        | (at_builtin; refine wpList_append_rd _ rfl (.tmp 39) (.tmp 43) 48 rfl B 5 i0 (.int .u8 0) 1 1 Try.underlying48 hi hz0 hz1 hz2 rfl rfl (by decide) _ L2.length _ rfl hrow3 .u8 A2 q3.length c2 q3 rfl rfl (own_none hrow2) hc2 hr2 (by have := HLM.out; unfold maxLen; omega) (by have := HLM.out; omega) hsz2 ?_; intro v3 w3 hown hgrow; have g3 := (g2.trans (hb2.mono hsz)).grown hgrow hsz2 (fun j ej => (r2.lt j ej).1); have r3 := row_more HLQ.out.2.2 hown; clear hgrow hown hrow3 hr2 hsz2 hrow2 hc2 hb2 ; replace hsz := Nat.le_trans hBs2 g3.size; clear p0 p1 p2 p3 p4 p5; obtain ⟨⟨p0, p1, p2, p3, p4, p5⟩, _⟩ := HC.out _ g3))
      clear p0 p1 p2 p3 p4 p5
      go_loopw [3, 6] (fun a b wr => ∃ (j : Nat) (bs : List Int), j ≤ ml ∧ b = .int .i64 (j : Int) ∧ Hid (bs = L3 ++ (m.take j).flatMap encEn) ∧ wr.ownsRow B 5 1 a bs.length (bs.map (Value.int .u8)) ∧ Below B wz wr) (fun _ b _ => ml - (intOf b).toNat)
      case atStart => exact ⟨0, L3, Nat.zero_le _, rfl, Lib.hid (by simp), r3, g3⟩
      case round =>
        obtain ⟨j, bs, hj, rfl, hbs, hrow, hW⟩ := hrel
        replace hsz : B ≤ wr.heap.size := Nat.le_trans hBs2 hW.size
        clear r3 g3
        obtain ⟨⟨p0, p1, p2, p3, p4, p5⟩, _⟩ := HC.out _ hW
        by_cases hlt : j < ml
        · have hji : (j : Int) < (ml : Int) := by omega
          have hjm : j < m.length := by have := HML.out; omega
          obtain ⟨bl, ol, rfl, hbl, h3⟩ := hl.get hjm
          have HE3 := Lib.hid (fun W (h : Below B wz W) => (h3.to ((HG.out _ h).block bl hbl) : At3 W bl (ol + j * 3) m[j]))
          have HT := Lib.hid (show (m.take (j + 1)).flatMap encEn = (m.take j).flatMap encEn ++ encEn m[j] from by rw [List.take_succ_eq_append_getElem hjm, List.flatMap_append]; simp)
          have HO := Lib.hid (HOK.out.2.2.2.1 _ (List.getElem_mem hjm))
          have HLT := Lib.hid (show (L3 ++ (m.take (j + 1)).flatMap encEn).length ≤ 140737488351232 from by
            have h1 := HSM.out
            rw [HEV.out] at h1
            have h2 : m.flatMap encEn = (m.take (j + 1)).flatMap encEn ++ (m.drop (j + 1)).flatMap encEn := by rw [← List.flatMap_append, List.take_append_drop]
            rw [h2] at h1
            simp only [List.length_append] at h1 ⊢
            omega)
          generalize m[j] = y at HE3 HT HO
          obtain ⟨xi, xu, xs⟩ := y
          obtain ⟨xin, rfl⟩ : ∃ q : Nat, xi = (q : Int) := ⟨xi.toNat, by have := HO.out.1; unfold U64 at this; simp only at this; omega⟩
          obtain ⟨xun, rfl⟩ : ∃ q : Nat, xu = (q : Int) := ⟨xu.toNat, by have := HO.out.2.1; unfold U64 at this; simp only at this; omega⟩
          obtain ⟨e0, e1, e2⟩ := HE3.out _ hW
          obtain ⟨y1, hy1⟩ : ∃ l, l = uv xin := ⟨_, rfl⟩
          obtain ⟨y2, hy2⟩ : ∃ l, l = uv xun := ⟨_, rfl⟩
          obtain ⟨y3, hy3⟩ : ∃ l, l = raw (sb xs) := ⟨_, rfl⟩
          obtain ⟨M1, hM1⟩ : ∃ l, l = bs ++ y1 := ⟨_, rfl⟩
          obtain ⟨M2, hM2⟩ : ∃ l, l = M1 ++ y2 := ⟨_, rfl⟩
          obtain ⟨M3, hM3⟩ : ∃ l, l = M2 ++ y3 := ⟨_, rfl⟩
          have HM3 := Lib.hid (show M3 = L3 ++ (m.take (j + 1)).flatMap encEn from by
            rw [HT.out, hM3, hM2, hM1, hbs.out, hy1, hy2, hy3]
            unfold encEn
            simp only [Int.toNat_natCast, List.append_assoc])
          have HX := Lib.hid (show xin < 18446744073709551616 ∧ xun < 18446744073709551616 ∧ xs.size ≤ y3.length from ⟨by have := HO.out.1.2; simp only at this; omega, by have := HO.out.2.1.2; simp only at this; omega, by rw [hy3, raw_len, sb_length]; omega⟩)
          have HN := Lib.hid (show M3.length ≤ 140737488351232 ∧ bs.length + y1.length = M1.length ∧ M1.length + y2.length = M2.length ∧ M2.length + y3.length = M3.length from by
            have h1 := HLT.out
            rw [← HM3.out] at h1
            have a1 := congrArg List.length hM1
            have a2 := congrArg List.length hM2
            have a3 := congrArg List.length hM3
            rw [List.length_append] at a1 a2 a3
            omega)
          have HU1 := Lib.hid (fun W => wUint_any xin W HX.out.1)
          have HU2 := Lib.hid (fun W => wUint_any xun W HX.out.2.1)
          rw [← hy1] at HU1
          rw [← hy2] at HU2
          have HQ3 := Lib.hid hy3
          have HMM := Lib.hid (And.intro hM1 (And.intro hM2 hM3))
          have HXS := Lib.hid (show xs.size ≤ 140737488351232 from by have := HX.out.2.2; have := HN.out; omega)
          clear hy1 hy2 hy3 hM1 hM2 hM3 HT HO HLT h3
          go_wp2_with (first
            | (go_at_call 73; refine (HU1.out _).mono ?_; clear HU1; rintro e w4c ⟨A2, c2, rfl, hc2, hrow2, hb2⟩; have hrow3 := own_below hrow hb2; have hr2 := rd_own hrow2; have hsz2 := Nat.le_trans hsz hb2.size)
            | (go_at_call 73; refine (HU2.out _).mono ?_; clear HU2; rintro e w5c ⟨A2, c2, rfl, hc2, hrow2, hb2⟩; have hrow3 := own_below r4 hb2; have hr2 := rd_own hrow2; have hsz2 := Nat.le_trans hsz hb2.size)
            | (go_at_call 74; refine (wRaw_str xs _ HQ3.out (some ⟨w5.heap.size, 0, none⟩) cap _ (HXS.out) hcap.out (fun h => nomatch h) (rd_conv w5 C (sb xs) HCC)).mono ?_; rintro e w6c ⟨A2, c2, rfl, hc2, hrow2, hb2⟩; have hw := ((Below.refl w5.heap.size w5).alloc (Nat.le_refl _) (.cells C 5 (C.size, C.size + 1))).drew; replace hb2 := hw.trans (hb2.mono hw.size); have hrow3 := own_below r5 hb2; replace hrow2 := own_base hrow2 hw.size; have hr2 := rd_own hrow2; have hsz2 := Nat.le_trans hsz hb2.size; clear hw hcv HCC hcap)
            | (at_builtin; refine wpList_append_rd _ rfl (.tmp 52) (.tmp 59) 48 rfl B 5 i0 (.int .u8 0) 1 1 Try.underlying48 hi hz0 hz1 hz2 rfl rfl (by decide) _ bs.length _ rfl hrow3 .u8 A2 y1.length c2 y1 rfl rfl (own_none hrow2) hc2 hr2 (by have := HN.out; unfold maxLen; omega) (by have := HN.out; omega) hsz2 ?_; intro v4 w4 hown hgrow; have g4 := (hW.trans (hb2.mono hsz)).grown hgrow hsz2 (fun j ej => (hrow.lt j ej).1); have r4 := row_more HMM.out.1 hown; clear hgrow hown hrow3 hr2 hsz2 hrow2 hc2 hb2; replace hsz := Nat.le_trans hBs2 g4.size; clear p0 p1 p2 p3 p4 p5 e0 e1 e2; obtain ⟨⟨p0, p1, p2, p3, p4, p5⟩, _⟩ := HC.out _ g4; obtain ⟨e0, e1, e2⟩ := HE3.out _ g4)
            | (at_builtin; refine wpList_append_rd _ rfl (.tmp 61) (.tmp 68) 48 rfl B 5 i0 (.int .u8 0) 1 1 Try.underlying48 hi hz0 hz1 hz2 rfl rfl (by decide) _ M1.length _ rfl hrow3 .u8 A2 y2.length c2 y2 rfl rfl (own_none hrow2) hc2 hr2 (by have := HN.out; unfold maxLen; omega) (by have := HN.out; omega) hsz2 ?_; intro v5 w5 hown hgrow; have g5 := (g4.trans (hb2.mono hsz)).grown hgrow hsz2 (fun j ej => (r4.lt j ej).1); have r5 := row_more HMM.out.2.1 hown; clear hgrow hown hrow3 hr2 hsz2 hrow2 hc2 hb2; replace hsz := Nat.le_trans hBs2 g5.size; clear p0 p1 p2 p3 p4 p5 e0 e1 e2; obtain ⟨⟨p0, p1, p2, p3, p4, p5⟩, _⟩ := HC.out _ g5; obtain ⟨e0, e1, e2⟩ := HE3.out _ g5; obtain ⟨cap, C, hcap, hcv, HCC⟩ := conv_bytes xs w5; replace hcap := Lib.hid hcap)
            | (at_builtin; refine wpList_append_rd _ rfl (.tmp 70) (.tmp 78) 48 rfl B 5 i0 (.int .u8 0) 1 1 Try.underlying48 hi hz0 hz1 hz2 rfl rfl (by decide) _ M2.length _ rfl hrow3 .u8 A2 y3.length c2 y3 rfl rfl (own_none hrow2) hc2 hr2 (by have := HN.out; unfold maxLen; omega) (by have := HN.out; omega) hsz2 ?_; intro v6 w6 hown hgrow; have g6 := (g5.trans (hb2.mono hsz)).grown hgrow hsz2 (fun j ej => (r5.lt j ej).1); have r6 := row_more HMM.out.2.2 hown; clear hgrow hown hrow3 hr2 hsz2 hrow2 hc2 hb2; replace hsz := Nat.le_trans hBs2 g6.size; clear p0 p1 p2 p3 p4 p5 e0 e1 e2; obtain ⟨⟨p0, p1, p2, p3, p4, p5⟩, _⟩ := HC.out _ g6; obtain ⟨e0, e1, e2⟩ := HE3.out _ g6))
          go_roundw
          case rel => exact ⟨j + 1, M3, by omega, by go_num, HM3, r6, g6⟩
          case measure => simp [intOf]; omega
        · have hji : ¬ (j : Int) < (ml : Int) := by omega
          have he := Lib.hid (show bs = ev from by rw [hbs.out, HEV.out, List.take_of_length_le (by have := HML.out; omega)])
          go_wp2_with fail
          go_ret
          rw [← he.out]
          exact gives_own rfl rfl (own_base hrow hwB) (HG.out _ hW)
end Go.Proofs.Ytngfgohchnkidaa
