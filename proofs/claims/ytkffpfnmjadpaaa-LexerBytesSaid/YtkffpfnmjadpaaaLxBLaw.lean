/-
  THE WALK of the law LexerBytes.
-/
import Derived.Test.YtkffpfnmjadpaaaLxBMath
import Derived.Test.YtkffpfnmjadpaaaLxQLaw
import Derived.Test.YtkffpfnmjadpaaaDevM
import Derived.Test.YtkffpfnmjadpaaaBytes
import Derived.Test.YtkffpfnmjadpaaaRef
import Derived.Test.YtkffpfnmjadpaaaMathTwo
namespace Go.Proofs.Ytkffpfnmjadpaaa
open Go.RowKit

theorem ints_len {l : List Int} (h : ∀ z ∈ l, I64 z) (hl : l.length ≤ 40) : (ints l).length ≤ 410 := by
  unfold ints
  have h1 := uv_length_64 (n := l.length) (by omega)
  have h2 := flat_len h
  rw [List.length_append]
  omega
theorem ints_bytes' {nb : List Int} : Bytes8 (ints nb) := fun z hz => by
  unfold ints at hz
  rcases List.mem_append.1 hz with h | h
  · exact uv_bytes _ z h
  · obtain ⟨l, hl, hz⟩ := List.mem_flatten.1 h
    obtain ⟨y, _, rfl⟩ := List.mem_map.1 hl
    exact uv_bytes _ z hz
theorem wtr_new' (w : World) : WtrAt (w.alloc (.cells #[.slice none 0 0] 49)) w.heap.size w.heap.size [] := ⟨Nat.le_refl _, _, heap_alloc_new w _, World.ownsRow_nil _ _ _ _⟩
theorem new_below' (w : World) (o : Obj) : Below w.heap.size w (w.alloc o) := (Below.refl _ w).alloc (Nat.le_refl _) _
theorem wtr_below' {W W' : World} {B g : Nat} {bs : List Int} (h : WtrAt W B g bs) (hb : Below W.heap.size W W') : WtrAt W' B g bs := by
  obtain ⟨h1, v, h2, h3⟩ := h
  exact ⟨h1, v, (hb.block g (Array.getElem?_eq_some_iff.1 h2).1).trans h2, own_below h3 hb⟩
theorem sb_append' (a b : ByteArray) : sb (a ++ b) = sb a ++ sb b := by
  unfold sb
  rw [← List.map_append]
  congr 1
theorem rdr_lt {W : World} {T : TypeId} {g : Nat} {s : Rst} (h : RdrAt W T g s) : g < W.heap.size := by
  obtain ⟨A, c, e1, _⟩ := h
  exact (Array.getElem?_eq_some_iff.1 e1).1
theorem rdr_other {W W' : World} {T : TypeId} {g g0 : Nat} {s s0 : Rst} (h : RdrAt W T g s) (h0 : RdrAt W T g0 s0) (hne : g ≠ g0) (hg : W.grownBy W' (some g0)) : RdrAt W' T g s := by
  have hlt := rdr_lt h
  obtain ⟨A, c, e1, e2, e3, e4⟩ := h
  obtain ⟨A0, c0, f1, _⟩ := h0
  refine ⟨A, c, (hg.block g hlt (fun e => hne (by injection e with e))).trans e1, e2, e3, ?_⟩
  rcases e4 with h | ⟨b, o, hA, hb, hcells⟩
  · exact .inl h
  · refine .inr ⟨b, o, hA, hb, fun j hj => ?_⟩
    have h1 := hcells j hj
    by_cases hbg : b = g0
    · subst hbg
      rw [cell_of_row _ _ _ _ _ _ f1] at h1
      match o + j, h1 with
      | 0, h1 => cases h1
      | 1, h1 => cases h1
      | k + 2, h1 => cases h1
    · rw [← h1]
      unfold World.cell?
      rw [hg.block b (by omega) (fun e => hbg (by injection e with e))]
theorem bytes_nat (lab zs : List Int) (hlab : Bytes8 lab) (hl : lab.length ≤ 1000) (h8 : Bytes8 zs) (hz : zs.length ≤ 1000) : ∃ H : Nat, bytesI lab zs = (H : Int) ∧ H < 18446744073709551616 := by
  have h : U64 (bytesI lab zs) := by
    unfold bytesI sumI
    refine mixI_u64 (foldI_u64 (mixI_u64 (mixI_u64 (foldI_u64 ⟨by decide, by decide⟩ (words_u64 hlab)) (len_u64 (by omega))) (len_u64 ?_)) (w64_u64 _)) ⟨by decide, by decide⟩
    rw [List.length_append, List.length_map, words_length]
    simp only [List.length_cons, List.length_nil]
    omega
  exact ⟨(bytesI lab zs).toNat, by unfold U64 at h; omega, by unfold U64 at h; omega⟩
theorem own_far {w w' : World} {base size n g0 : Nat} {e : TypeId} {v : Value} {xs : List Value} (h : w.ownsRow base e size v n xs) (hg : w.grownBy w' (some g0)) (hne : g0 < base) : w'.ownsRow base e size v n xs := by
  refine ⟨h.1, ?_⟩
  rcases h.2 with h | ⟨g, cap, cur, e1, e2, e3, rest⟩
  · exact .inl h
  · exact .inr ⟨g, cap, cur, e1, e2, (hg.block g (Array.getElem?_eq_some_iff.1 e3).1 (fun e => by injection e with e; omega)).trans e3, rest⟩
theorem rd_away {w w' : World} {B B' b g0 : Nat} {k : IntKind} {zs : List Int} (h : RdI w B k (some ⟨b, 0, none⟩) zs) (hg : w.grownBy w' (some g0)) (hne : b ≠ g0) (hb : b < w.heap.size) (hB : B ≤ B') : RdI w' B' k (some ⟨b, 0, none⟩) zs := by
  rcases h with h | ⟨b', o, hA, hlt, hcells⟩
  · exact .inl h
  · injection hA with hA
    injection hA with h1 h2
    subst h1
    refine .inr ⟨b, o, by rw [← h2], by omega, fun j hj => ?_⟩
    rw [← hcells j hj]
    unfold World.cell?
    rw [hg.block b hb (fun e => hne (by injection e with e))]
theorem step_str (w : World) {ops : Array Oper} {o : Oper} {a : Act} {K : Act → World → Prop} {Q : Exit → Act → World → Prop} {E : Prop} (x : Operand) (ho : o.op = .convert 9 24 x) (hw : Region.wanted o (yielded ops a.tmps) = true)
    (t : ByteArray) (zs : List Int) (hx : a.eval x = .string t) (ht : sb t = zs) (h : ∀ cap W', zs.length ≤ cap → RdI W' W'.heap.size .u8 (some ⟨w.heap.size, 0, none⟩) zs → Below w.heap.size w W' → W'.heap.size = w.heap.size + 1 → K (a.put o.dst (.slice (some ⟨w.heap.size, 0, none⟩) zs.length cap)) W') : if Region.wanted o (yielded ops a.tmps) = true then Oper.wp Try.prog o a w K Q else E := by
  rw [if_pos hw]
  obtain ⟨cap, C, hcap, hcv, hC⟩ := conv_bytes t w
  have hz : t.size = zs.length := by rw [← ht, sb_length]
  rw [hz] at hcap hcv
  rw [ht] at hC
  have h2 := h cap (w.drew.alloc (.cells C 5 (C.size, C.size + 1))) hcap (rd_conv w.drew C zs hC) (((Below.refl w.heap.size w).drew).alloc (Nat.le_refl _) _) (by simp)
  unfold Oper.wp execOp
  simp only [ho, Sem.run_bind, Sem.run_pure, Result.andThen_ok, hx, hcv]
  exact h2
set_option maxHeartbeats 8000000 in
set_option maxRecDepth 100000 in
theorem lxbytes_any (A : Option Addr) (c : Nat) (zl : List Int) (m : Nat) (w : World) (hz : zl.length ≤ maxLen) (hc : zl.length ≤ c) (hA : A = none → c = 0) (h64 : ∀ z ∈ zl, I64 z) (hr : RdI w w.heap.size .i64 A zl) (hm : m < 18446744073709551616) :
    Calls Try.prog 7 #[.slice A zl.length c, .int .u64 (m : Int)] w fun e w' => e = .returned (.bool true) ∧ Below w.heap.size w w' := by
  unfold maxLen at hz
  obtain ⟨k, hk⟩ : ∃ k : Nat, k = min zl.length 40 := ⟨_, rfl⟩
  have hkI : min (zl.length : Int) 40 = (k : Int) := by omega
  have hk1 : k ≤ zl.length := by omega
  have hk2 : k ≤ 40 := by omega
  have hkc : k ≤ c := by omega
  have hkl : (zl.take k).length = k := by rw [List.length_take]; omega
  have h64' : ∀ z ∈ zl.take k, I64 z := fun z hz => h64 z (List.mem_of_mem_take hz)
  have hr' : RdI w w.heap.size .i64 A (zl.take k) := rd_take hr k
  have hil := ints_len h64' (by omega)
  generalize zl.take k = l at hkl h64' hr' hil
  generalize zl.length = n at hkI hk hk1 hz hc
  clear h64 hr
  replace hk := Lib.hid hk
  have hri := Lib.hid (hr'.below (new_below' w (.cells #[.slice none 0 0] 49)))
  have cI := Lib.hid (dInts_any A k c l w.heap.size w.heap.size [] _ (wtr_new' w) (by decide) hkl.symm (by omega) h64' hri.out)
  have hb8 : Bytes8 (ints l ++ uv m) := fun z hz => (List.mem_append.1 hz).elim (ints_bytes' z) (uv_bytes _ z)
  have hbl : (ints l ++ uv m).length ≤ 420 := by have := uv_length_64 hm; rw [List.length_append]; omega
  have hrd1 := intsR_ints h64' (by omega) (uv m)
  have hrd2 := uintR_uv hm []
  rw [List.append_nil] at hrd2
  rw [List.nil_append] at cI
  have cU := Lib.hid (fun W (h : WtrAt W w.heap.size w.heap.size (ints l)) => dUint_any m w.heap.size w.heap.size (ints l) W h (by omega) hm)
  generalize hbs : ints l ++ uv m = bs at *
  replace hbs := Lib.hid hbs
  replace hrd1 := Lib.hid hrd1
  replace hrd2 := Lib.hid hrd2
  replace h64' := Lib.hid h64'
  go_enter Try.func7, Try.ntmps7
  go_wp2_with fail
  refine Calls.mono cI.out ?_
  rintro e w1 ⟨rfl, hw1, hB1⟩
  clear cI
  have h1 := (new_below' w _).trans hB1
  clear hB1
  go_wp2_with fail
  refine Calls.mono (cU.out _ hw1) ?_
  rintro e w2 ⟨rfl, hw2, hB2⟩
  have h2 := h1.trans hB2
  clear hB2 hw1 h1 cU
  go_wp2_with fail
  refine Calls.mono (dDone_any _ _ _ _ hw2 (by omega)) ?_
  rintro e w3 ⟨A3, c3, rfl, hc3, hrow3, hB3⟩
  have h3 := h2.trans (hB3.mono h2.size)
  clear hw2
  have hcv3 := lx_conv A3 bs.length c3 bs w3 _ rfl (rd_own hrow3)
  have hqF : quoteF bs = (quoteL bs, 0) := by have := quote_short hb8; unfold quoteF; rw [if_pos (by omega)]
  have hQ3 := Quote_any (strOfNums bs) w3 (by rw [str_size']; omega)
  rw [sb_of_nums hb8, hqF] at hQ3
  generalize hX : strOfNums (quoteL bs) = X at hQ3
  replace hX := Lib.hid hX
  replace hQ3 := Lib.hid hQ3
  have hrow3' := Lib.hid hrow3
  clear hrow3
  go_wp2_with fail
  refine Calls.mono hQ3.out ?_
  rintro e w4 ⟨rfl, hB4⟩
  clear hQ3 hcv3
  go_wp2_with fail
  obtain ⟨H, hH, hH64⟩ : ∃ H : Nat, bytesI (sb ⟨#[116, 101, 120, 116]⟩) bs = (H : Int) ∧ H < 18446744073709551616 := bytes_nat _ _ (sb_bytes _) (by decide) hb8 (by omega)
  have h4 := h3.trans (hB4.mono h3.size)
  have hrow4 := Lib.hid (own_below (own_below hrow3'.out hB4) (new_below' w4 (.cells #[.slice none 0 0] 49)))
  have cH := Lib.hid (fun W A c (hc : bs.length ≤ c) (h : RdI W W.heap.size .u8 A bs) => Bytes_any ⟨#[116, 101, 120, 116]⟩ A c bs W (by decide) (by omega) hc hb8 h)
  rw [hH] at cH
  replace hH := Lib.hid hH
  refine Calls.mono (cH.out _ _ _ hc3 (rd_own hrow4.out)) ?_
  rintro e w5 ⟨rfl, hB5⟩
  have hwv : WtrAt w5 w4.heap.size w4.heap.size [] := wtr_below' (wtr_new' w4) hB5
  have h5 := h4.trans (((new_below' w4 (.cells #[.slice none 0 0] 49)).trans (hB5.mono (by simp))).mono h4.size)
  clear hB5 hrow4 hB4
  go_wp2_with fail
  refine Calls.mono (dUint_any H _ _ [] w5 hwv (by decide) hH64) ?_
  rintro e w6 ⟨rfl, hw6, hB6⟩
  have h6 := h5.trans (hB6.mono h4.size)
  clear hB6 hwv
  rw [List.nil_append] at hw6
  have hul := uv_length_64 hH64
  have hud8 : Bytes8 (uv H) := uv_bytes _
  have hrd4 := uintR_uv hH64 []
  rw [List.append_nil] at hrd4
  generalize hds : uv H = ds at *
  go_wp2_with fail
  refine Calls.mono (dDone_any _ _ _ _ hw6 (by omega)) ?_
  rintro e w7 ⟨A7, c7, rfl, hc7, hrow7, hB7⟩
  have h7 := h6.trans (hB7.mono h6.size)
  clear hw6
  have hcv7 := lx_conv A7 ds.length c7 ds w7 _ rfl (rd_own hrow7)
  have hqD : quoteF ds = (quoteL ds, 0) := by have := quote_short hud8; unfold quoteF; rw [if_pos (by omega)]
  have hQ7 := Quote_any (strOfNums ds) w7 (by rw [str_size']; omega)
  rw [sb_of_nums hud8, hqD] at hQ7
  generalize hY : strOfNums (quoteL ds) = Y at hQ7
  replace hQ7 := Lib.hid hQ7
  replace hrd4 := Lib.hid hrd4
  clear hrow7
  go_wp2_with fail
  refine Calls.mono hQ7.out ?_
  rintro e w8 ⟨rfl, hB8⟩
  have h8 := h7.trans (hB8.mono h7.size)
  clear hQ7 hcv7 hB7 hB8
  obtain ⟨T, hT⟩ : ∃ T, X ++ ⟨#[32]⟩ ++ Y = T := ⟨_, rfl⟩
  have hTs : sb T = quoteL bs ++ ([32] ++ quoteL ds) := by
    rw [← hT, ← hX.out, ← hY, sb_append', sb_append', sb_of_nums (quote_bytes hb8), sb_of_nums (quote_bytes hud8), List.append_assoc]
    rfl
  have hTz : T.size = (sb T).length := (sb_length T).symm
  have hTb : T.size ≤ 65536 := by
    rw [hTz, hTs]
    have z1 := quote_short hb8
    have z2 := quote_short hud8
    simp only [List.length_append, List.length_cons, List.length_nil]
    omega
  have cT := Lib.hid (tok_ok T 3 [(⟨5, bs, 0⟩ : Tk), ⟨5, ds, (quoteL bs).length + 1⟩, ⟨6, [], T.size⟩] w8 hTb [((⟨5, bs, 0⟩ : Tk), (0 : Int)), (⟨5, ds, (quoteL bs).length + 1⟩, 0)] (⟨6, [], T.size⟩, 0) (yl_two hb8 hud8 hTs hTz) rfl rfl rfl)
  have hXs : X.size ≤ 2000 := by rw [← hX.out, str_size']; have := quote_short hb8; omega
  have hYs : Y.size ≤ 2000 := by rw [← hY, str_size']; have := quote_short hud8; omega
  clear hTs hTz hTb
  go_wp2_with fail
  clear hT
  refine Calls.mono cT.out ?_
  rintro e w9 ⟨g, c9, rfl, hc9, hg9, hA9, hO9, hB9⟩
  clear cT hO9
  have h9 := h8.trans (hB9.mono h8.size)
  have hSb : (strOfNums bs).size = bs.length := str_size' bs
  have hSd : (strOfNums ds).size = ds.length := str_size' ds
  obtain ⟨a1, a2, a3⟩ := hA9 w9 rfl 0 _ rfl
  obtain ⟨capA, CA, hcapA, hcvA, hCA⟩ := conv_bytes (strOfNums bs) w9
  rw [hSb] at hcvA hcapA
  rw [sb_of_nums hb8] at hCA
  have hrA : RdI (w9.drew.alloc (.cells CA 5 (CA.size, CA.size + 1))) (w9.drew.alloc (.cells CA 5 (CA.size, CA.size + 1))).heap.size .u8 (some ⟨w9.heap.size, 0, none⟩) bs := rd_conv w9.drew CA bs hCA
  have hBA : Below w9.heap.size w9 (w9.drew.alloc (.cells CA 5 (CA.size, CA.size + 1))) := ((Below.refl _ w9).drew).alloc (by simp) _
  have hcR := Lib.hid (dRead_any (some ⟨w9.heap.size, 0, none⟩) bs.length capA bs _ rfl (by omega) hcapA (fun h => nomatch h) hrA)
  have hA9' := Lib.hid hA9
  clear hA9 hrA hB9
  go_wp2_with fail
  refine Calls.mono hcR.out ?_
  rintro e w10 ⟨g10, rfl, hg10, hr10, hB10⟩
  have k10 : w10.heap[g]? = w9.heap[g]? := (hB10.block g (by simp; omega)).trans (hBA.block g hg9)
  have hB910 := hBA.trans (hB10.mono hBA.size)
  clear hcR hcvA hCA hB10 a1 a2 a3
  have hs10 : w9.heap.size < g10 := by simp at hg10; omega
  obtain ⟨b1, b2, b3⟩ := hA9'.out w10 k10 1 _ rfl
  obtain ⟨capD, CD, hcapD, hcvD, hCD⟩ := conv_bytes (strOfNums ds) w10
  rw [hSd] at hcvD hcapD
  rw [sb_of_nums hud8] at hCD
  have hrD : RdI (w10.drew.alloc (.cells CD 5 (CD.size, CD.size + 1))) (w10.drew.alloc (.cells CD 5 (CD.size, CD.size + 1))).heap.size .u8 (some ⟨w10.heap.size, 0, none⟩) ds := rd_conv w10.drew CD ds hCD
  have hBD : Below w10.heap.size w10 (w10.drew.alloc (.cells CD 5 (CD.size, CD.size + 1))) := ((Below.refl _ w10).drew).alloc (by simp) _
  have hcR := Lib.hid (dRead_any (some ⟨w10.heap.size, 0, none⟩) ds.length capD ds _ rfl (by omega) hcapD (fun h => nomatch h) hrD)
  have hl10 := rdr_lt hr10
  clear hrD
  go_wp2_with fail
  refine Calls.mono hcR.out ?_
  rintro e w11 ⟨g11, rfl, hg11, hr11, hB11⟩
  have hB1011 := hBD.trans (hB11.mono hBD.size)
  have k11 : w11.heap[g]? = w9.heap[g]? := (hB1011.block g (by have := hB910.size; omega)).trans k10
  have hs11 : w10.heap.size < g11 := by simp at hg11; omega
  have hr10' := rdr_below hr10 hB1011
  have h11 := h9.trans ((hB910.trans (hB1011.mono hB910.size)).mono h9.size)
  clear hcR hcvD hCD hB11 hBD hBA b1 b2 b3 hr10 hB1011 hB910 k10
  have hl11 := rdr_lt hr11
  have cRI := rInts_any g10 ⟨bs, 0⟩ w11 (by rw [nrm_ok rfl]; exact hr10') hb8 (by show bs.length ≤ _; omega)
  rw [hrd1.out, nrm_ok rfl] at cRI
  replace cRI := Lib.hid cRI
  go_wp2_with fail
  refine Calls.mono cRI.out ?_
  rintro e w12 ⟨A12, c12, rfl, hc12, hrow12, hr12, hg12⟩
  have hr11' := rdr_other hr11 hr10' (by omega) hg12
  have k12 : w12.heap[g]? = w9.heap[g]? := (hg12.block g (by omega) (fun e => by injection e with e; omega)).trans k11
  clear cRI
  have cRU := rUint_any g10 ⟨uv m, 0⟩ w12 (by rw [nrm_ok rfl]; exact hr12) (uv_bytes _) (by have := uv_length_64 hm; show (uv m).length ≤ _; omega)
  rw [hrd2.out, nrm_ok rfl] at cRU
  replace cRU := Lib.hid cRU
  go_wp2_with fail
  refine Calls.mono cRU.out ?_
  rintro e w13 ⟨rfl, hr13, hg13⟩
  have hr14 := rdr_other hr11' hr12 (by omega) hg13
  have k13 : w13.heap[g]? = w9.heap[g]? := (hg13.block g (by have := hg12.size; omega) (fun e => by injection e with e; omega)).trans k12
  clear cRU
  go_wp2_with fail
  have s12 := hg12.size
  have s13 := hg13.size
  have hgw : w.heap.size ≤ g10 := by have := h9.size; omega
  have h13 : Below w.heap.size w w13 := (h11.grown hg12 (by have := h11.size; omega) (fun j ej => by injection ej with ej; omega)).grown hg13 (by have := h11.size; omega) (fun j ej => by injection ej with ej; omega)
  have HB13 := Lib.hid h13
  have HB := Lib.hid (h13.drew)
  subst hkl
  have hrA := Lib.hid ((hr'.below h13.drew).mono h13.drew.size)
  have hrB0 : RdI w13 w13.heap.size .i64 A12 l := rd_own (own_far hrow12 hg13 (by omega))
  have hrB := Lib.hid (show RdI w13.drew w13.drew.heap.size .i64 A12 l from hrB0)
  clear hrB0
  have hrE := Lib.hid (rdr_below hr13 ((Below.refl _ w13).drew))
  have hrQ := Lib.hid (rdr_below hr14 ((Below.refl _ w13).drew))
  have hl11' : g11 < w13.drew.heap.size := by show g11 < w13.heap.size; omega
  have hgl : g < w13.drew.heap.size := by show g < w13.heap.size; omega
  have hS : ∀ W : World, W.heap[g]? = w13.heap[g]? → W.cell? ⟨g, 1, none⟩ = some (.string (strOfNums bs)) := fun W hW => by
    obtain ⟨_, a2, _⟩ := hA9'.out W (hW.trans k13) 0 _ rfl
    exact a2
  have HS := Lib.hid hS
  have hbst := sb_of_nums hb8
  have hgne : g ≠ g11 := by omega
  clear h13 hr' hrow12 hr13 hr14 hS h11 h9 hr10' hr11 hr11' hr12 k11 k12 k13 hri hg12 hg13 hX
  refine wp_region_held_drew (S := fun W => W.cell? ⟨g, 1, none⟩ = some (.string (strOfNums bs))) (by kernel_rfl) (HS.out _ rfl) (fun hHeld => ?_)
  (try simp only [List.size_toArray, List.length_cons, List.length_nil, Nat.zero_add, Nat.reduceAdd])
  refine wpAnyH_takeL (i := 0) (v := ?v1) rfl (by kernel_rfl) (by kernel_rfl) (by kernel_rfl) (fun _ _ _ h => h) (Or.inl ⟨by rfl, ?y1⟩) (by assumption) ?r1
  case y1 => (intro W hSw; (try dsimp only at hSw); go_simp; try with_reducible rfl)
  (try simp only [Act.put, List.setIfInBounds_toArray, List.set_cons_zero, List.set_cons_succ])
  refine wpAnyH_takeL (i := 1) (v := ?v2) rfl (by kernel_rfl) (by kernel_rfl) (by kernel_rfl) (fun _ _ _ h => h) (Or.inl ⟨by rfl, ?y2⟩) (by assumption) ?r2
  case y2 => (intro W hSw; (try dsimp only at hSw); go_simp; try with_reducible rfl)
  (try simp only [Act.put, List.setIfInBounds_toArray, List.set_cons_zero, List.set_cons_succ])
  refine wpAnyH_takeL (i := 2) (v := ?v3) rfl (by kernel_rfl) (by kernel_rfl) (by kernel_rfl) (fun _ _ _ h => h) (Or.inl ⟨by rfl, ?y3⟩) (by assumption) ?r3
  case y3 => (intro W hSw; (try dsimp only at hSw); go_simp; try with_reducible rfl)
  (try simp only [Act.put, List.setIfInBounds_toArray, List.set_cons_zero, List.set_cons_succ])
  refine wpAnyH_takeL (i := 3) (v := ?v4) rfl (by kernel_rfl) (by kernel_rfl) (by kernel_rfl) (fun _ _ _ h => h) (Or.inl ⟨by rfl, ?y4⟩) (by assumption) ?r4
  case y4 => (intro W hSw; (try dsimp only at hSw); go_simp; try with_reducible rfl)
  (try simp only [Act.put, List.setIfInBounds_toArray, List.set_cons_zero, List.set_cons_succ])
  refine wpAnyH_takeL (i := 4) (v := ?v5) rfl (by kernel_rfl) (by kernel_rfl) (by kernel_rfl) (fun _ _ _ h => h) (Or.inl ⟨by rfl, ?y5⟩) (by assumption) ?r5
  case y5 => (intro W hSw; (try dsimp only at hSw); go_simp; try with_reducible rfl)
  (try simp only [Act.put, List.setIfInBounds_toArray, List.set_cons_zero, List.set_cons_succ])
  refine wpAnyH_takeL (i := 5) (v := ?v6) rfl (by kernel_rfl) (by kernel_rfl) (by kernel_rfl) (fun _ _ _ h => h) (Or.inl ⟨by rfl, ?y6⟩) (by assumption) ?r6
  case y6 => (intro W hSw; (try dsimp only at hSw); go_simp; try with_reducible rfl)
  (try simp only [Act.put, List.setIfInBounds_toArray, List.set_cons_zero, List.set_cons_succ])
  refine wpAnyH_ready (rs := [6]) (by kernel_rfl) (by simp) ?_
  refine consL rfl (fun K hK => ?_) AllReadyH.nil
  go_simp
  refine Calls.mono (SameInts_self A12 A c12 c l _ (by omega) hrB.out hrA.out) ?_
  rintro e v1 ⟨rfl, hC1⟩
  have q1 : v1.heap[g]? = w13.heap[g]? := hC1.block g hgl
  have z1 := hC1.size
  have hE1 := rdr_below hrE.out hC1
  have hQ1 := rdr_below hrQ.out hC1
  (try dsimp only)
  refine hK.out _ _ (HS.out _ q1) (fun hHeld => ?_)
  clear hK K
  (try simp only [Act.put, List.setIfInBounds_toArray, List.set_cons_zero, List.set_cons_succ])
  refine wpAnyH_takeL (i := 7) (v := ?v7) rfl (by kernel_rfl) (by kernel_rfl) (by kernel_rfl) (fun _ _ _ h => h) (Or.inl ⟨by rfl, ?y7⟩) (by assumption) ?r7
  case y7 => (intro W hSw; (try dsimp only at hSw); go_simp; try with_reducible rfl)
  (try simp only [Act.put, List.setIfInBounds_toArray, List.set_cons_zero, List.set_cons_succ])
  refine wpAnyH_takeL (i := 8) (v := ?v8) rfl (by kernel_rfl) (by kernel_rfl) (by kernel_rfl) (fun _ _ _ h => h) (Or.inl ⟨by rfl, ?y8⟩) (by assumption) ?r8
  case y8 => (intro W hSw; (try dsimp only at hSw); go_simp; try with_reducible rfl)
  (try simp only [Act.put, List.setIfInBounds_toArray, List.set_cons_zero, List.set_cons_succ])
  refine wpAnyH_takeL (i := 9) (v := ?v9) rfl (by kernel_rfl) (by kernel_rfl) (by kernel_rfl) (fun _ _ _ h => h) (Or.inl ⟨by rfl, ?y9⟩) (by assumption) ?r9
  case y9 => (intro W hSw; (try dsimp only at hSw); go_simp; try with_reducible rfl)
  (try simp only [Act.put, List.setIfInBounds_toArray, List.set_cons_zero, List.set_cons_succ])
  refine wpAnyH_takeL (i := 10) (v := ?v10) rfl (by kernel_rfl) (by kernel_rfl) (by kernel_rfl) (fun _ _ _ h => h) (Or.inl ⟨by rfl, ?y10⟩) (by assumption) ?r10
  case y10 => (intro W hSw; (try dsimp only at hSw); go_simp; try with_reducible rfl)
  (try simp only [Act.put, List.setIfInBounds_toArray, List.set_cons_zero, List.set_cons_succ])
  refine wpAnyH_takeL (i := 11) (v := ?v11) rfl (by kernel_rfl) (by kernel_rfl) (by kernel_rfl) (fun _ _ _ h => h) (Or.inl ⟨by rfl, ?y11⟩) (by assumption) ?r11
  case y11 => (intro W hSw; (try dsimp only at hSw); go_simp; try with_reducible rfl)
  (try simp only [Act.put, List.setIfInBounds_toArray, List.set_cons_zero, List.set_cons_succ])
  refine wpAnyH_takeL (i := 12) (v := ?v12) rfl (by kernel_rfl) (by kernel_rfl) (by kernel_rfl) (fun _ _ _ h => h) (Or.inl ⟨by rfl, ?y12⟩) (by assumption) ?r12
  case y12 => (intro W hSw; (try dsimp only at hSw); go_simp; try with_reducible rfl)
  (try simp only [Act.put, List.setIfInBounds_toArray, List.set_cons_zero, List.set_cons_succ])
  refine wpAnyH_takeL (i := 13) (v := ?v13) rfl (by kernel_rfl) (by kernel_rfl) (by kernel_rfl) (fun _ _ _ h => h) (Or.inl ⟨by rfl, ?y13⟩) (by assumption) ?r13
  case y13 => (intro W hSw; (try dsimp only at hSw); go_simp; try with_reducible rfl)
  (try simp only [Act.put, List.setIfInBounds_toArray, List.set_cons_zero, List.set_cons_succ])
  refine wpAnyH_ready (rs := [14]) (by kernel_rfl) (by simp) ?_
  refine consL rfl (fun K hK => ?_) AllReadyH.nil
  go_simp
  have hEE := rEnd_any g10 ⟨[], 0⟩ v1 (by rw [nrm_ok rfl]; exact hE1) (by decide)
  refine Calls.mono hEE ?_
  rintro e v2 ⟨rfl, hv2⟩
  subst hv2
  clear hEE
  (try dsimp only)
  refine hK.out _ _ (HS.out _ q1) (fun hHeld => ?_)
  clear hK K
  (try simp only [Act.put, List.setIfInBounds_toArray, List.set_cons_zero, List.set_cons_succ])
  have hend : endR ⟨[], 0⟩ = 0 := rfl
  rw [hend]
  refine wpAnyH_takeL (i := 15) (v := ?v14) rfl (by kernel_rfl) (by kernel_rfl) (by kernel_rfl) (fun _ _ _ h => h) (Or.inl ⟨by rfl, ?y14⟩) (by assumption) ?r14
  case y14 => (intro W hSw; (try dsimp only at hSw); go_simp; try with_reducible rfl)
  (try simp only [Act.put, List.setIfInBounds_toArray, List.set_cons_zero, List.set_cons_succ])
  refine wpAnyH_takeL (i := 16) (v := ?v15) rfl (by kernel_rfl) (by kernel_rfl) (by kernel_rfl) (fun _ _ _ h => h) (Or.inl ⟨by rfl, ?y15⟩) (by assumption) ?r15
  case y15 => (intro W hSw; (try dsimp only at hSw); go_simp; try with_reducible rfl)
  (try simp only [Act.put, List.setIfInBounds_toArray, List.set_cons_zero, List.set_cons_succ])
  refine wpAnyH_takeL (i := 17) (v := ?v16) rfl (by kernel_rfl) (by kernel_rfl) (by kernel_rfl) (fun _ _ _ h => h) (Or.inl ⟨by rfl, ?y16⟩) (by assumption) ?r16
  case y16 => (intro W hSw; (try dsimp only at hSw); go_simp; try with_reducible rfl)
  (try simp only [Act.put, List.setIfInBounds_toArray, List.set_cons_zero, List.set_cons_succ])
  refine wpAnyH_takeL (i := 18) (v := ?v17) rfl (by kernel_rfl) (by kernel_rfl) (by kernel_rfl) (fun _ _ _ h => h) (Or.inl ⟨by rfl, ?y17⟩) (by assumption) ?r17
  case y17 => (intro W hSw; (try dsimp only at hSw); go_simp; try with_reducible rfl)
  (try simp only [Act.put, List.setIfInBounds_toArray, List.set_cons_zero, List.set_cons_succ])
  refine wpAnyH_takeL (i := 20) (v := ?v18) rfl (by kernel_rfl) (by kernel_rfl) (by kernel_rfl) (fun _ _ _ h => h) (Or.inl ⟨by rfl, ?y18⟩) (by assumption) ?r18
  case y18 => (intro W hSw; (try dsimp only at hSw); go_simp; try with_reducible rfl)
  (try simp only [Act.put, List.setIfInBounds_toArray, List.set_cons_zero, List.set_cons_succ])
  refine wpAnyH_takeL (i := 21) (v := ?v19) rfl (by kernel_rfl) (by kernel_rfl) (by kernel_rfl) (fun _ _ _ h => h) (Or.inl ⟨by rfl, ?y19⟩) (by assumption) ?r19
  case y19 => (intro W hSw; (try dsimp only at hSw); go_simp; try with_reducible rfl)
  (try simp only [Act.put, List.setIfInBounds_toArray, List.set_cons_zero, List.set_cons_succ])
  refine wpAnyH_takeL (i := 22) (v := ?v20) rfl (by kernel_rfl) (by kernel_rfl) (by kernel_rfl) (fun _ _ _ h => h) (Or.inl ⟨by rfl, ?y20⟩) (by assumption) ?r20
  case y20 => (intro W hSw; (try dsimp only at hSw); go_simp; try with_reducible rfl)
  (try simp only [Act.put, List.setIfInBounds_toArray, List.set_cons_zero, List.set_cons_succ])
  refine wpAnyH_takeL (i := 23) (v := ?v21) rfl (by kernel_rfl) (by kernel_rfl) (by kernel_rfl) (fun _ _ _ h => h) (Or.inl ⟨by rfl, ?y21⟩) (by assumption) ?r21
  case y21 => (intro W hSw; (try dsimp only at hSw); go_simp; try with_reducible rfl)
  (try simp only [Act.put, List.setIfInBounds_toArray, List.set_cons_zero, List.set_cons_succ])
  have hc5 : Below w.heap.size w v1 := HB.out.trans (hC1.mono HB.out.size)
  have HC5 := Lib.hid hc5
  clear hc5 hE1
  have hn11 : nrm ⟨ds, 0⟩ = ⟨ds, 0⟩ := nrm_ok rfl
  refine wpAnyH_ready (rs := [19, 24]) (by kernel_rfl) (by simp) ?_
  refine consL rfl (fun K hK => ?_) (consL rfl (fun K hK => ?_) AllReadyH.nil)
  · go_simp
    have cU := rUint_any g11 ⟨ds, 0⟩ v1 (by rw [hn11]; exact hQ1) hud8 (by show ds.length ≤ _; omega)
    rw [hrd4.out, nrm_ok rfl] at cU
    refine Calls.mono cU ?_
    rintro e v3 ⟨rfl, hrx, hgx⟩
    clear cU hrx
    have q3 : v3.heap[g]? = w13.heap[g]? := (hgx.block g (by show g < v1.heap.size; have : w13.drew.heap.size ≤ v1.heap.size := z1; omega) (fun e => hgne (by injection e with e))).trans q1
    have zx := hgx.size
    (try dsimp only)
    refine hK.out _ _ (HS.out _ q3) (fun hHeld => ?_)
    clear hK K
    (try simp only [Act.put, List.setIfInBounds_toArray, List.set_cons_zero, List.set_cons_succ])
    refine wpAnyH_ready (rs := [24]) (by kernel_rfl) (by simp) ?_
    refine consL rfl (fun K hK => ?_) AllReadyH.nil
    refine step_str v3 (.tmp 112) rfl (by rfl) (strOfNums bs) bs rfl hbst ?_
    intro cpx v4 hcpx hrDx hC4 hz4
    have qx : v4.heap[g]? = w13.heap[g]? := (hC4.block g (by have : w13.drew.heap.size ≤ v1.heap.size := z1; omega)).trans q3
    have HBx : Hid (Below w.heap.size w v4) := Lib.hid ((HC5.out.grown hgx (by have := HC5.out.size; omega) (fun j ej => by injection ej with ej; omega)).trans (hC4.mono (by have := HC5.out.size; omega)))
    have hglx : g < v4.heap.size := by have : w13.drew.heap.size ≤ v1.heap.size := z1; omega
    (try dsimp only)
    refine hK.out _ _ (HS.out _ qx) (fun hHeld => ?_)
    clear hK K
    (try simp only [Act.put, List.setIfInBounds_toArray, List.set_cons_zero, List.set_cons_succ])
    refine wpAnyH_ready (rs := [25]) (by kernel_rfl) (by simp) ?_
    refine consL rfl (fun K hK => ?_) AllReadyH.nil
    go_simp
    refine Calls.mono (cH.out v4 _ _ hcpx hrDx) ?_
    rintro e v5 ⟨rfl, hC5⟩
    have q5 : v5.heap[g]? = w13.heap[g]? := (hC5.block g hglx).trans qx
    (try dsimp only)
    refine hK.out _ _ (HS.out _ q5) (fun hHeld => ?_)
    clear hK K
    (try simp only [Act.put, List.setIfInBounds_toArray, List.set_cons_zero, List.set_cons_succ])
    refine wpAnyH_takeL (i := 26) (v := ?v22) rfl (by kernel_rfl) (by kernel_rfl) (by kernel_rfl) (fun _ _ _ h => h) (Or.inl ⟨by rfl, ?y22⟩) (by assumption) ?r22
    case y22 => (intro W hSw; (try dsimp only at hSw); go_simp; try with_reducible rfl)
    (try simp only [Act.put, List.setIfInBounds_toArray, List.set_cons_zero, List.set_cons_succ])
    refine wpAnyH_takeL (i := 27) (v := ?v23) rfl (by kernel_rfl) (by kernel_rfl) (by kernel_rfl) (fun _ _ _ h => h) (Or.inl ⟨by rfl, ?y23⟩) (by assumption) ?r23
    case y23 => (intro W hSw; (try dsimp only at hSw); go_simp; try with_reducible rfl)
    (try simp only [Act.put, List.setIfInBounds_toArray, List.set_cons_zero, List.set_cons_succ])
    refine wpAnyH_takeL (i := 28) (v := ?v24) rfl (by kernel_rfl) (by kernel_rfl) (by kernel_rfl) (fun _ _ _ h => h) (Or.inl ⟨by rfl, ?y24⟩) (by assumption) ?r24
    case y24 => (intro W hSw; (try dsimp only at hSw); go_simp; try with_reducible rfl)
    (try simp only [Act.put, List.setIfInBounds_toArray, List.set_cons_zero, List.set_cons_succ])
    refine wpAnyH_ready (rs := [29]) (by kernel_rfl) (by simp) ?_
    refine consL rfl (fun K hK => ?_) AllReadyH.nil
    go_simp
    refine Calls.mono (lives_any v5) ?_
    rintro e v6 ⟨rfl, hC6⟩
    have q6 : v6.heap[g]? = w13.heap[g]? := (hC6.block g (by have := hC5.size; omega)).trans q5
    (try dsimp only)
    refine hK.out _ _ (HS.out _ q6) (fun hHeld => ?_)
    clear hK K
    (try simp only [Act.put, List.setIfInBounds_toArray, List.set_cons_zero, List.set_cons_succ])
    refine wpAnyH_takeL (i := 30) (v := ?v25) rfl (by kernel_rfl) (by kernel_rfl) (by kernel_rfl) (fun _ _ _ h => h) (Or.inl ⟨by rfl, ?y25⟩) (by assumption) ?r25
    case y25 => (intro W hSw; (try dsimp only at hSw); go_simp; try with_reducible rfl)
    (try simp only [Act.put, List.setIfInBounds_toArray, List.set_cons_zero, List.set_cons_succ])
    refine wpAnyH_takeL (i := 31) (v := ?v26) rfl (by kernel_rfl) (by kernel_rfl) (by kernel_rfl) (fun _ _ _ h => h) (Or.inl ⟨by rfl, ?y26⟩) (by assumption) ?r26
    case y26 => (intro W hSw; (try dsimp only at hSw); go_simp; try with_reducible rfl)
    (try simp only [Act.put, List.setIfInBounds_toArray, List.set_cons_zero, List.set_cons_succ])
    refine wpAnyH_done (by kernel_rfl) ?_ _
    have hfin := (HBx.out.trans (hC5.mono HBx.out.size)).trans (hC6.mono (by have := hC5.size; have := HBx.out.size; omega))
    go_wp2_with fail
    go_ret
    exact ⟨rfl, hfin⟩
  · refine step_str v1 (.tmp 112) rfl (by rfl) (strOfNums bs) bs rfl hbst ?_
    intro cpx v3 hcpx hrD3 hC3 hz3
    have q3 : v3.heap[g]? = w13.heap[g]? := (hC3.block g (by have : w13.drew.heap.size ≤ v1.heap.size := z1; omega)).trans q1
    have hQ3 := rdr_below hQ1 hC3
    (try dsimp only)
    refine hK.out _ _ (HS.out _ q3) (fun hHeld => ?_)
    clear hK K
    (try simp only [Act.put, List.setIfInBounds_toArray, List.set_cons_zero, List.set_cons_succ])
    refine wpAnyH_ready (rs := [19]) (by kernel_rfl) (by simp) ?_
    refine consL rfl (fun K hK => ?_) AllReadyH.nil
    go_simp
    have cU := rUint_any g11 ⟨ds, 0⟩ v3 (by rw [hn11]; exact hQ3) hud8 (by show ds.length ≤ _; omega)
    rw [hrd4.out, nrm_ok rfl] at cU
    refine Calls.mono cU ?_
    rintro e v4 ⟨rfl, hrx, hgx⟩
    clear cU hrx
    have qx : v4.heap[g]? = w13.heap[g]? := (hgx.block g (by show g < v3.heap.size; have : w13.drew.heap.size ≤ v1.heap.size := z1; omega) (fun e => hgne (by injection e with e))).trans q3
    have zx := hgx.size
    have hrDx : RdI v4 v4.heap.size .u8 (some ⟨v1.heap.size, 0, none⟩) bs := rd_away hrD3 hgx (by have : w13.drew.heap.size ≤ v1.heap.size := z1; omega) (by omega) zx
    have HBx : Hid (Below w.heap.size w v4) := Lib.hid ((HC5.out.trans (hC3.mono HC5.out.size)).grown hgx (by have := HC5.out.size; omega) (fun j ej => by injection ej with ej; omega))
    have hglx : g < v4.heap.size := by have : w13.drew.heap.size ≤ v1.heap.size := z1; omega
    (try dsimp only)
    refine hK.out _ _ (HS.out _ qx) (fun hHeld => ?_)
    clear hK K
    (try simp only [Act.put, List.setIfInBounds_toArray, List.set_cons_zero, List.set_cons_succ])
    refine wpAnyH_ready (rs := [25]) (by kernel_rfl) (by simp) ?_
    refine consL rfl (fun K hK => ?_) AllReadyH.nil
    go_simp
    refine Calls.mono (cH.out v4 _ _ hcpx hrDx) ?_
    rintro e v5 ⟨rfl, hC5⟩
    have q5 : v5.heap[g]? = w13.heap[g]? := (hC5.block g hglx).trans qx
    (try dsimp only)
    refine hK.out _ _ (HS.out _ q5) (fun hHeld => ?_)
    clear hK K
    (try simp only [Act.put, List.setIfInBounds_toArray, List.set_cons_zero, List.set_cons_succ])
    refine wpAnyH_takeL (i := 26) (v := ?v27) rfl (by kernel_rfl) (by kernel_rfl) (by kernel_rfl) (fun _ _ _ h => h) (Or.inl ⟨by rfl, ?y27⟩) (by assumption) ?r27
    case y27 => (intro W hSw; (try dsimp only at hSw); go_simp; try with_reducible rfl)
    (try simp only [Act.put, List.setIfInBounds_toArray, List.set_cons_zero, List.set_cons_succ])
    refine wpAnyH_takeL (i := 27) (v := ?v28) rfl (by kernel_rfl) (by kernel_rfl) (by kernel_rfl) (fun _ _ _ h => h) (Or.inl ⟨by rfl, ?y28⟩) (by assumption) ?r28
    case y28 => (intro W hSw; (try dsimp only at hSw); go_simp; try with_reducible rfl)
    (try simp only [Act.put, List.setIfInBounds_toArray, List.set_cons_zero, List.set_cons_succ])
    refine wpAnyH_takeL (i := 28) (v := ?v29) rfl (by kernel_rfl) (by kernel_rfl) (by kernel_rfl) (fun _ _ _ h => h) (Or.inl ⟨by rfl, ?y29⟩) (by assumption) ?r29
    case y29 => (intro W hSw; (try dsimp only at hSw); go_simp; try with_reducible rfl)
    (try simp only [Act.put, List.setIfInBounds_toArray, List.set_cons_zero, List.set_cons_succ])
    refine wpAnyH_ready (rs := [29]) (by kernel_rfl) (by simp) ?_
    refine consL rfl (fun K hK => ?_) AllReadyH.nil
    go_simp
    refine Calls.mono (lives_any v5) ?_
    rintro e v6 ⟨rfl, hC6⟩
    have q6 : v6.heap[g]? = w13.heap[g]? := (hC6.block g (by have := hC5.size; omega)).trans q5
    (try dsimp only)
    refine hK.out _ _ (HS.out _ q6) (fun hHeld => ?_)
    clear hK K
    (try simp only [Act.put, List.setIfInBounds_toArray, List.set_cons_zero, List.set_cons_succ])
    refine wpAnyH_takeL (i := 30) (v := ?v30) rfl (by kernel_rfl) (by kernel_rfl) (by kernel_rfl) (fun _ _ _ h => h) (Or.inl ⟨by rfl, ?y30⟩) (by assumption) ?r30
    case y30 => (intro W hSw; (try dsimp only at hSw); go_simp; try with_reducible rfl)
    (try simp only [Act.put, List.setIfInBounds_toArray, List.set_cons_zero, List.set_cons_succ])
    refine wpAnyH_takeL (i := 31) (v := ?v31) rfl (by kernel_rfl) (by kernel_rfl) (by kernel_rfl) (fun _ _ _ h => h) (Or.inl ⟨by rfl, ?y31⟩) (by assumption) ?r31
    case y31 => (intro W hSw; (try dsimp only at hSw); go_simp; try with_reducible rfl)
    (try simp only [Act.put, List.setIfInBounds_toArray, List.set_cons_zero, List.set_cons_succ])
    refine wpAnyH_done (by kernel_rfl) ?_ _
    have hfin := (HBx.out.trans (hC5.mono HBx.out.size)).trans (hC6.mono (by have := hC5.size; have := HBx.out.size; omega))
    go_wp2_with fail
    go_ret
    exact ⟨rfl, hfin⟩
end Go.Proofs.Ytkffpfnmjadpaaa
