/-
  THE WALKS of the reference's Text (whole) and Parse.
-/
import Derived.Test.YtcpjchfgiogmeaaTextR
import Derived.Deep.RegionHeld3
import Derived.Test.YtcpjchfgiogmeaaOpsW
namespace Go.Proofs.Ytcpjchfgiogmeaa
open Go.RowKit

theorem bText_any (u : Nat) (n : Int) (w : World) (hu : u < 18446744073709551616) : Calls Try.prog 28 #[.int .u64 u, .int .i64 n] w (TextPost w (textS u n)) := by
  unfold textS
  have c1 := bValid_any u n w hu
  by_cases e1 : validE u n = 0
  · rw [if_neg (by simp [e1])]
    rw [e1] at c1
    obtain ⟨m, rfl, h64, hu2⟩ := validE_zero e1
    clear e1
    rw [Int.toNat_natCast]
    unfold textI
    by_cases h4 : (m + 1) % 4 = 0
    · rw [if_pos h4]
      obtain ⟨q, hq⟩ : ∃ q, m + 1 = 4 * q := ⟨(m + 1) / 4, by omega⟩
      rw [hq] at c1 h64 hu2 ⊢
      have e : 4 * q / 4 = q := by omega
      rw [e]
      exact bText_four u q w (by omega) h64 hu2 _ (Lib.hid rfl) c1
    · rw [if_neg h4]
      exact bText_one u (m + 1) w (by omega) h64 h4 hu2 _ (Lib.hid rfl) c1
  · rw [if_pos e1]
    have hx := (validE_vals u n).resolve_left e1
    have HS := Lib.hid str_nil
    generalize validE u n = x at *
    rcases hx with rfl | rfl
    all_goals
      go_enter Try.func28, Try.ntmps28
      go_wp2_with (go_at_call 14; refine c1.mono ?_; clear c1; rintro e w1 ⟨rfl, hb1⟩)
      go_ret2
      exact ⟨by rw [HS.out]; rfl, hb1⟩

/-- the number that the loop over the digits has found -/
def nI (sz : Nat) (c : Int) (k : Nat) : Int := match dv sz c with
  | some d => if d < k then (d : Int) else -1
  | none => -1
theorem nI_zero (sz : Nat) (c : Int) : nI sz c 0 = -1 := by
  unfold nI
  cases dv sz c <;> simp
theorem nI_hit {sz : Nat} {c : Int} {k : Nat} (h : dv sz c = some k) : nI sz c (k + 1) = k := by
  unfold nI
  rw [h]
  simp
theorem nI_miss {sz : Nat} {c : Int} {k : Nat} (h : dv sz c ≠ some k) : nI sz c (k + 1) = nI sz c k := by
  unfold nI
  cases hd : dv sz c with
  | none => rfl
  | some d =>
    have : d ≠ k := fun e => h (by rw [hd, e])
    by_cases h2 : d < k
    · simp [h2]; omega
    · have h3 : ¬ d < k + 1 := by omega
      simp [h2, h3]
theorem nI_end {sz : Nat} (hs : sz = 1 ∨ sz = 4) {c : Int} : nI sz c (2 ^ sz) = match dv sz c with | some d => (d : Int) | none => -1 := by
  unfold nI
  cases hd : dv sz c with
  | none => rfl
  | some d => simp [dv_lt hs hd]
theorem one_str (s : ByteArray) (i : Nat) (hi : i < s.size) (x : Int) (hx : 0 ≤ x ∧ x < 256) (c : Int) (hc : (sb s)[i]? = some c) : ((strOfNums [x]).toList == (s.extract i (i + 1)).toList) = decide (x = c) := by
  obtain ⟨l, rfl⟩ := bytes_list s
  rw [size_mk] at hi
  rw [sb_mk, List.getElem?_map, List.getElem?_eq_getElem hi, Option.map_some] at hc
  injection hc with hc
  rw [str_mk, ByteArray.toList_mk, ByteArray.extract_mk, ByteArray.toList_mk, show i + 1 - i = 1 by omega, show (l.drop i).take 1 = [l[i]] by rw [List.drop_eq_getElem_cons hi]; rfl]
  obtain ⟨n, rfl⟩ : ∃ n : Nat, x = n := ⟨x.toNat, by omega⟩
  have h := u8_eq l[i] n (by omega)
  rw [Bool.eq_iff_iff]
  simp
  rw [← hc]
  constructor
  · intro e; exact ((u8_eq l[i] n (by omega)).2 e.symm).symm
  · intro e; exact ((u8_eq l[i] n (by omega)).1 e.symm).symm
theorem digI_256 (d : Nat) (hd : d < 16) : 0 ≤ digI d ∧ digI d < 256 := by unfold digI; split <;> omega
set_option maxHeartbeats 1000000 in
theorem bparse_short (s : ByteArray) (w : World) (h : s.size < 3) : Calls Try.prog 31 #[.string s] w (ParsePost w (0, 0, 2)) := by
  go_enter Try.func31, Try.ntmps31
  go_wp2
  refine bodyPost_ret (v := .tuple #[.int .u64 0, .int .i64 0, .int .i64 2]) (by simp [results, Try.results31, go_sem]) rfl ?_
  exact ⟨rfl, Below.refl _ _⟩
set_option maxHeartbeats 1000000 in
theorem bparse_head (s : ByteArray) (w : World) (h : 3 ≤ s.size) (c0 c1 : Nat) (h0 : ∀ W : World, (Instr.index 9 (.string s) (.int .i64 0)).run Try.prog W = .ok (.int .u8 c0) W) (h1 : ∀ W : World, (Instr.index 9 (.string s) (.int .i64 1)).run Try.prog W = .ok (.int .u8 c1) W)
    (hb : c0 ≠ 35 ∨ (c1 ≠ 98 ∧ c1 ≠ 120)) : Calls Try.prog 31 #[.string s] w (ParsePost w (0, 0, 2)) := by
  by_cases h35 : c0 = 35
  · subst h35
    obtain ⟨hb1, hb2⟩ := hb.resolve_left (by simp)
    have t1 : ((c1 : Int) != 98) = true := by simp; omega
    have t2 : ((c1 : Int) != 120) = true := by simp; omega
    clear hb
    go_enter Try.func31, Try.ntmps31
    go_wp2
    refine bodyPost_ret (v := .tuple #[.int .u64 0, .int .i64 0, .int .i64 2]) (by simp [results, Try.results31, go_sem]) rfl ?_
    exact ⟨rfl, Below.refl _ _⟩
  · have t1 : ((c0 : Int) != 35) = true := by simp; omega
    clear hb
    go_enter Try.func31, Try.ntmps31
    go_wp2
    refine bodyPost_ret (v := .tuple #[.int .u64 0, .int .i64 0, .int .i64 2]) (by simp [results, Try.results31, go_sem]) rfl ?_
    exact ⟨rfl, Below.refl _ _⟩
set_option maxHeartbeats 1000000 in
theorem bparse_long1 (s : ByteArray) (w : World) (h : 3 ≤ s.size) (hl : 64 < s.size - 2) (h0 : ∀ W : World, (Instr.index 9 (.string s) (.int .i64 0)).run Try.prog W = .ok (.int .u8 35) W) (h1 : ∀ W : World, (Instr.index 9 (.string s) (.int .i64 1)).run Try.prog W = .ok (.int .u8 98) W)
    (hm : s.size ≤ 1000000000000000000) : Calls Try.prog 31 #[.string s] w (ParsePost w (0, 0, 2)) := by
  go_enter Try.func31, Try.ntmps31
  go_wp2
  refine bodyPost_ret (v := .tuple #[.int .u64 0, .int .i64 0, .int .i64 2]) (by simp [results, Try.results31, go_sem]) rfl ?_
  exact ⟨rfl, Below.refl _ _⟩
set_option maxHeartbeats 1000000 in
theorem bparse_long4 (s : ByteArray) (w : World) (h : 3 ≤ s.size) (hl : 16 < s.size - 2) (h0 : ∀ W : World, (Instr.index 9 (.string s) (.int .i64 0)).run Try.prog W = .ok (.int .u8 35) W) (h1 : ∀ W : World, (Instr.index 9 (.string s) (.int .i64 1)).run Try.prog W = .ok (.int .u8 120) W)
    (hm : s.size ≤ 1000000000000000000) : Calls Try.prog 31 #[.string s] w (ParsePost w (0, 0, 2)) := by
  go_enter Try.func31, Try.ntmps31
  go_wp2
  refine bodyPost_ret (v := .tuple #[.int .u64 0, .int .i64 0, .int .i64 2]) (by simp [results, Try.results31, go_sem]) rfl ?_
  exact ⟨rfl, Below.refl _ _⟩
set_option maxRecDepth 100000 in
set_option maxHeartbeats 2000000 in
theorem bparse_one (s : ByteArray) (w : World) (m : Nat) (hsz : s.size = m + 2) (h1m : 1 ≤ m) (hm : 1 * m ≤ 64) (h0 : ∀ W : World, (Instr.index 9 (.string s) (.int .i64 0)).run Try.prog W = .ok (.int .u8 35) W) (h1 : ∀ W : World, (Instr.index 9 (.string s) (.int .i64 1)).run Try.prog W = .ok (.int .u8 98) W) :
    Calls Try.prog 31 #[.string s] w (ParsePost w (finP 1 ((sb s).drop 2))) := by
  obtain ⟨i0, hi, hz0, hz1, hz2⟩ := info_parts info_bool
  have hfin : Hid (finP 1 ((sb s).drop 2) = match valR 1 ((sb s).drop 2) with | some v => (v, 1 * m, 0) | none => (0, 0, 2)) := Lib.hid (by
    have hl : ((sb s).drop 2).length = m := by rw [List.length_drop, sb_length]; omega
    unfold finP
    rw [hl, if_neg (by omega)]
    cases valR 1 ((sb s).drop 2) <;> rfl)
  generalize finP 1 ((sb s).drop 2) = fin at hfin ⊢
  go_enter Try.func31, Try.ntmps31
  go_wp2
  go_loopw [6, 7] (fun v i wr => ∃ (j : Nat) (l : List Bool), j ≤ m ∧ i = .int .i64 ((j : Int) + 1) ∧ wr.ownsRow w.heap.size 4 1 v (1 * (m - j)) (l.map Value.bool) ∧ Hid (l.length = 1 * (m - j)) ∧ Hid (valR 1 (((sb s).drop 2).drop j) = some (ofL l)) ∧ Below w.heap.size w wr) (fun _ i _ => (intOf i).toNat)
  case atStart => exact ⟨m, [], Nat.le_refl _, by congr 1 <;> omega, by rw [Nat.sub_self]; exact World.ownsRow_nil _ _ _ _, Lib.hid (by simp), Lib.hid (by rw [List.drop_eq_nil_of_le (by rw [List.length_drop, sb_length]; omega)]; rfl), Below.refl _ _⟩
  case round =>
    obtain ⟨j, l, hj, rfl, hrow, hl, hv, hW⟩ := hrel
    have hsw := hW.size
    by_cases hj0 : 0 < j
    · have hlt : j + 1 < (sb s).length := by rw [sb_length]; omega
      obtain ⟨c, hc, hc8⟩ : ∃ c : Int, (sb s)[j + 1]? = some c ∧ (0 ≤ c ∧ c < 256) := ⟨(sb s)[j + 1], List.getElem?_eq_getElem hlt, sb_bytes s _ (List.getElem_mem hlt)⟩
      have hdrop : Hid (((sb s).drop 2).drop (j - 1) = c :: ((sb s).drop 2).drop j) := Lib.hid (by
        have hl2 : ((sb s).drop 2).length = m := by rw [List.length_drop, sb_length]; omega
        rw [drop_at (by rw [hl2]; omega : j - 1 < ((sb s).drop 2).length), show j - 1 + 1 = j by omega]
        congr 1
        rw [List.getElem_drop]
        have := List.getElem?_eq_getElem hlt
        rw [hc] at this
        injection this with this
        rw [this]
        congr 1
        omega)
      have HC := Lib.hid hc
      clear hc
      have hjj : (j : Int) + 1 + 1 ≤ (s.size : Int) := by omega
      have hjj2 : (j : Int) + 1 + 1 ≤ (m : Int) + 2 := by omega
      have hjj0 : (0 : Int) ≤ (j : Int) := by omega
      go_wp2
      rw [show decide ((1 : Int) < (j : Int) + 1) = true by simp; omega]
      obtain ⟨wo, rfl⟩ : ∃ wo : World, wo = wr := ⟨_, rfl⟩
      go_loopw [8, 9] (fun x k wr => ∃ k' : Nat, k' ≤ 2 ∧ k = .int .i64 k' ∧ x = .int .i64 (nI 1 c k') ∧ Below wo.heap.size wo wr) (fun _ k _ => 2 - (intOf k).toNat)
      case atStart => exact ⟨0, by omega, rfl, by rw [nI_zero], Below.refl _ _⟩
      case round =>
        obtain ⟨k, hk, rfl, rfl, hb⟩ := hrel
        by_cases hk16 : k < 2
        · have hd16 : k < 16 := by omega
          have hE := one_str s (j + 1) (by omega) (digI k) (digI_256 k hd16) c HC.out
          have hP := fun W (hW : Below wr.heap.size wr W) => cum (bdigit_any k hd16 W) hW
          have hYs : (strOfNums [digI k]).size = 1 := strOfNums_size _
          generalize strOfNums [digI k] = Y at hE hP hYs
          have hwr : IntKind.i64.wrap ((j : Int) + 1 + 1) = (j : Int) + 1 + 1 := by rw [IntKind.wrap_i64]; omega
          have hf1 : (0 : Int) ≤ (j : Int) + 1 + 1 := by omega
          have hf2 : (0 : Int) ≤ (j : Int) + 1 := by omega
          have hf3 : (j : Int) ≤ (j : Int) + 1 := by omega
          have hf4 : ((j : Int) + 1 + 1).toNat = j + 1 + 1 := by omega
          have hkk0 : (0 : Int) ≤ (k : Int) := by omega
          by_cases hit : digI k = c
          · rw [decide_eq_true hit] at hE
            have HN := Lib.hid (nI_hit ((dig_dv (by decide : 1 = 1 ∨ 1 = 4) (by omega : k < 2 ^ 1)).1 hit))
            clear hit
            go_wp2
            go_region_held3 (fun w' => Below wr.heap.size wr w')
              (first | exact (Below.refl _ _).drew | assumption)
              (first
                | (go_at_call 43; ((with_reducible refine Calls.mono (hP _ ?_) ?_); focus assumption); rintro e w' ⟨rfl, hb2⟩))
            have hb3 := hb.trans (hb2.mono hb.size)
            clear hP hb2 hb hwr hf1 hf2 hf3 hf4
            go_wp2
            go_roundw
            case rel => exact ⟨k + 1, by omega, by congr 1 <;> omega, by rw [HN.out], hb3⟩
            case measure => simp [intOf]; omega
          · rw [decide_eq_false hit] at hE
            have HN := Lib.hid (nI_miss (fun h => hit ((dig_dv (by decide : 1 = 1 ∨ 1 = 4) (by omega : k < 2 ^ 1)).2 h)))
            clear hit
            go_wp2
            go_region_held3 (fun w' => Below wr.heap.size wr w')
              (first | exact (Below.refl _ _).drew | assumption)
              (first
                | (go_at_call 43; ((with_reducible refine Calls.mono (hP _ ?_) ?_); focus assumption); rintro e w' ⟨rfl, hb2⟩))
            have hb3 := hb.trans (hb2.mono hb.size)
            clear hP hb2 hb hwr hf1 hf2 hf3 hf4
            go_wp2
            go_roundw
            case rel => exact ⟨k + 1, by omega, by congr 1 <;> omega, by rw [HN.out], hb3⟩
            case measure => simp [intOf]; omega
        · obtain rfl : k = 2 := by omega
          have he := nI_end (by decide : 1 = 1 ∨ 1 = 4) (c := c)
          rw [show 2 ^ 1 = 2 from rfl] at he
          have hWb := hW.trans (hb.mono hsw)
          cases hdv : dv 1 c with
          | none =>
            rw [hdv] at he
            have he2 : nI 1 c 2 = -1 := he
            rw [he2]
            have hbad : Hid (valR 1 ((sb s).drop 2) = none) := Lib.hid (valR_none (j - 1) _ (by rw [hdrop.out]; exact valR_bad _ hdv))
            clear he he2 hdv
            go_wp2
            refine bodyPost_ret (v := .tuple #[.int .u64 0, .int .i64 0, .int .i64 2]) (by simp [results, Try.results31, go_sem]) rfl ?_
            rw [hfin.out, hbad.out]
            exact ⟨rfl, hWb⟩
          | some d =>
            rw [hdv] at he
            have he2 : nI 1 c 2 = (d : Int) := he
            rw [he2]
            have hd := dv_lt (by decide : 1 = 1 ∨ 1 = 4) hdv
            have hd64 : d < 18446744073709551616 := by omega
            have hB := fun W => bBits_any d 1 W hd64 (by decide)
            have hbl := bitsL_length 1 d
            have hbo := ofL_bitsL 1 d
            rw [Nat.mod_eq_of_lt hd] at hbo
            generalize bitsL 1 d = bb at hB hbl hbo
            have HV : Hid (valR 1 (((sb s).drop 2).drop (j - 1)) = some (ofL (l ++ bb))) := Lib.hid (by
              have hlen : (((sb s).drop 2).drop j).length = m - j := by rw [List.length_drop, List.length_drop, sb_length]; omega
              rw [hdrop.out, valR_step hdv hv.out, hlen, ofL_append, hl.out, hbo, Nat.mul_comm d, Nat.add_comm])
            have HLL : Hid ((l ++ bb).length = 1 * (m - (j - 1))) := Lib.hid (by rw [List.length_append, hl.out, hbl]; omega)
            have HBL := Lib.hid hbl
            have hrow2 := own_below hrow (hb.mono (Nat.le_refl _))
            clear he he2 hdv hbo hd hv hl hbl hb hrow
            have hjm : 1 * (m - j) + 1 ≤ 64 := by omega
            go_wp2_with (first
              | (go_at_call 32; refine (hB _).mono ?_; clear hB; rintro e w3 ⟨A3, d3, rfl, hrow3, hb3⟩; rw [HBL.out] at hrow3 ⊢; have hrd3 := rdb_own hrow3; have hcap3 := own_cap hrow3; have hrow4 := own_below hrow2 hb3; obtain ⟨g3, rfl, _, _, _⟩ := own_block hrow3 (by decide))
              | (at_builtin; refine wpList_append_b _ rfl (.tmp 62) (.tmp 66) 52 rfl w.heap.size 4 i0 (.bool false) 1 1 Try.underlying52 hi hz0 hz1 hz2 rfl rfl (by decide) _ (1 * (m - j)) _ rfl hrow4 (some ⟨g3, 0, none⟩) 1 d3 bb rfl HBL.out.symm (by simp) (by rw [HBL.out]; exact hcap3) hrd3 (by unfold maxLen; omega) (by omega) (Nat.le_trans hWb.size hb3.size) ?_; intro v5 w5 hown5 hgrow5; rw [← List.map_append] at hown5))
            have hjn : 1 * (m - j) + 1 = 1 * (m - (j - 1)) := by omega
            rw [hjn] at hown5
            go_roundw
            case rel => exact ⟨j - 1, l ++ bb, by omega, by congr 1 <;> omega, hown5, HLL, HV, (hWb.trans (hb3.mono hWb.size)).grown hgrow5 (Nat.le_trans hWb.size hb3.size) (fun k ek => (hrow4.lt k ek).1)⟩
            case measure => first | (simp [intOf]; done) | (simp [intOf]; omega)
    · obtain rfl : j = 0 := by omega
      rw [Nat.sub_zero] at hrow hl
      rw [Nat.one_mul] at hrow hl
      rw [List.drop_zero] at hv
      obtain ⟨A, dc, rfl⟩ := sl_own hrow
      have hrd := rdb_own hrow
      go_wp2_with (go_at_call 36; refine (bOf_at hl.out (by omega) wr A dc hrd).mono ?_; rintro e w3 ⟨rfl, rfl⟩)
      refine bodyPost_ret (v := .tuple #[.int .u64 (ofL l), .int .i64 (1 * m : Nat), .int .i64 0]) (by simp [results, Try.results31, go_sem]) rfl ?_
      rw [hfin.out, hv.out]
      exact ⟨rfl, hW⟩
set_option maxRecDepth 100000 in
set_option maxHeartbeats 2000000 in
theorem bparse_four (s : ByteArray) (w : World) (m : Nat) (hsz : s.size = m + 2) (h1m : 1 ≤ m) (hm : 4 * m ≤ 64) (h0 : ∀ W : World, (Instr.index 9 (.string s) (.int .i64 0)).run Try.prog W = .ok (.int .u8 35) W) (h1 : ∀ W : World, (Instr.index 9 (.string s) (.int .i64 1)).run Try.prog W = .ok (.int .u8 120) W) :
    Calls Try.prog 31 #[.string s] w (ParsePost w (finP 4 ((sb s).drop 2))) := by
  obtain ⟨i0, hi, hz0, hz1, hz2⟩ := info_parts info_bool
  have hfin : Hid (finP 4 ((sb s).drop 2) = match valR 4 ((sb s).drop 2) with | some v => (v, 4 * m, 0) | none => (0, 0, 2)) := Lib.hid (by
    have hl : ((sb s).drop 2).length = m := by rw [List.length_drop, sb_length]; omega
    unfold finP
    rw [hl, if_neg (by omega)]
    cases valR 4 ((sb s).drop 2) <;> rfl)
  generalize finP 4 ((sb s).drop 2) = fin at hfin ⊢
  go_enter Try.func31, Try.ntmps31
  go_wp2
  go_loopw [6, 7] (fun v i wr => ∃ (j : Nat) (l : List Bool), j ≤ m ∧ i = .int .i64 ((j : Int) + 1) ∧ wr.ownsRow w.heap.size 4 1 v (4 * (m - j)) (l.map Value.bool) ∧ Hid (l.length = 4 * (m - j)) ∧ Hid (valR 4 (((sb s).drop 2).drop j) = some (ofL l)) ∧ Below w.heap.size w wr) (fun _ i _ => (intOf i).toNat)
  case atStart => exact ⟨m, [], Nat.le_refl _, by congr 1 <;> omega, by rw [Nat.sub_self]; exact World.ownsRow_nil _ _ _ _, Lib.hid (by simp), Lib.hid (by rw [List.drop_eq_nil_of_le (by rw [List.length_drop, sb_length]; omega)]; rfl), Below.refl _ _⟩
  case round =>
    obtain ⟨j, l, hj, rfl, hrow, hl, hv, hW⟩ := hrel
    have hsw := hW.size
    by_cases hj0 : 0 < j
    · have hlt : j + 1 < (sb s).length := by rw [sb_length]; omega
      obtain ⟨c, hc, hc8⟩ : ∃ c : Int, (sb s)[j + 1]? = some c ∧ (0 ≤ c ∧ c < 256) := ⟨(sb s)[j + 1], List.getElem?_eq_getElem hlt, sb_bytes s _ (List.getElem_mem hlt)⟩
      have hdrop : Hid (((sb s).drop 2).drop (j - 1) = c :: ((sb s).drop 2).drop j) := Lib.hid (by
        have hl2 : ((sb s).drop 2).length = m := by rw [List.length_drop, sb_length]; omega
        rw [drop_at (by rw [hl2]; omega : j - 1 < ((sb s).drop 2).length), show j - 1 + 1 = j by omega]
        congr 1
        rw [List.getElem_drop]
        have := List.getElem?_eq_getElem hlt
        rw [hc] at this
        injection this with this
        rw [this]
        congr 1
        omega)
      have HC := Lib.hid hc
      clear hc
      have hjj : (j : Int) + 1 + 1 ≤ (s.size : Int) := by omega
      have hjj2 : (j : Int) + 1 + 1 ≤ (m : Int) + 2 := by omega
      have hjj0 : (0 : Int) ≤ (j : Int) := by omega
      go_wp2
      rw [show decide ((1 : Int) < (j : Int) + 1) = true by simp; omega]
      obtain ⟨wo, rfl⟩ : ∃ wo : World, wo = wr := ⟨_, rfl⟩
      go_loopw [8, 9] (fun x k wr => ∃ k' : Nat, k' ≤ 16 ∧ k = .int .i64 k' ∧ x = .int .i64 (nI 4 c k') ∧ Below wo.heap.size wo wr) (fun _ k _ => 16 - (intOf k).toNat)
      case atStart => exact ⟨0, by omega, rfl, by rw [nI_zero], Below.refl _ _⟩
      case round =>
        obtain ⟨k, hk, rfl, rfl, hb⟩ := hrel
        by_cases hk16 : k < 16
        · have hd16 : k < 16 := by omega
          have hE := one_str s (j + 1) (by omega) (digI k) (digI_256 k hd16) c HC.out
          have hP := fun W (hW : Below wr.heap.size wr W) => cum (bdigit_any k hd16 W) hW
          have hYs : (strOfNums [digI k]).size = 1 := strOfNums_size _
          generalize strOfNums [digI k] = Y at hE hP hYs
          have hwr : IntKind.i64.wrap ((j : Int) + 1 + 1) = (j : Int) + 1 + 1 := by rw [IntKind.wrap_i64]; omega
          have hf1 : (0 : Int) ≤ (j : Int) + 1 + 1 := by omega
          have hf2 : (0 : Int) ≤ (j : Int) + 1 := by omega
          have hf3 : (j : Int) ≤ (j : Int) + 1 := by omega
          have hf4 : ((j : Int) + 1 + 1).toNat = j + 1 + 1 := by omega
          have hkk0 : (0 : Int) ≤ (k : Int) := by omega
          by_cases hit : digI k = c
          · rw [decide_eq_true hit] at hE
            have HN := Lib.hid (nI_hit ((dig_dv (by decide : 4 = 1 ∨ 4 = 4) (by omega : k < 2 ^ 4)).1 hit))
            clear hit
            go_wp2
            go_region_held3 (fun w' => Below wr.heap.size wr w')
              (first | exact (Below.refl _ _).drew | assumption)
              (first
                | (go_at_call 43; ((with_reducible refine Calls.mono (hP _ ?_) ?_); focus assumption); rintro e w' ⟨rfl, hb2⟩))
            have hb3 := hb.trans (hb2.mono hb.size)
            clear hP hb2 hb hwr hf1 hf2 hf3 hf4
            go_wp2
            go_roundw
            case rel => exact ⟨k + 1, by omega, by congr 1 <;> omega, by rw [HN.out], hb3⟩
            case measure => simp [intOf]; omega
          · rw [decide_eq_false hit] at hE
            have HN := Lib.hid (nI_miss (fun h => hit ((dig_dv (by decide : 4 = 1 ∨ 4 = 4) (by omega : k < 2 ^ 4)).2 h)))
            clear hit
            go_wp2
            go_region_held3 (fun w' => Below wr.heap.size wr w')
              (first | exact (Below.refl _ _).drew | assumption)
              (first
                | (go_at_call 43; ((with_reducible refine Calls.mono (hP _ ?_) ?_); focus assumption); rintro e w' ⟨rfl, hb2⟩))
            have hb3 := hb.trans (hb2.mono hb.size)
            clear hP hb2 hb hwr hf1 hf2 hf3 hf4
            go_wp2
            go_roundw
            case rel => exact ⟨k + 1, by omega, by congr 1 <;> omega, by rw [HN.out], hb3⟩
            case measure => simp [intOf]; omega
        · obtain rfl : k = 16 := by omega
          have he := nI_end (by decide : 4 = 1 ∨ 4 = 4) (c := c)
          rw [show 2 ^ 4 = 16 from rfl] at he
          have hWb := hW.trans (hb.mono hsw)
          cases hdv : dv 4 c with
          | none =>
            rw [hdv] at he
            have he2 : nI 4 c 16 = -1 := he
            rw [he2]
            have hbad : Hid (valR 4 ((sb s).drop 2) = none) := Lib.hid (valR_none (j - 1) _ (by rw [hdrop.out]; exact valR_bad _ hdv))
            clear he he2 hdv
            go_wp2
            refine bodyPost_ret (v := .tuple #[.int .u64 0, .int .i64 0, .int .i64 2]) (by simp [results, Try.results31, go_sem]) rfl ?_
            rw [hfin.out, hbad.out]
            exact ⟨rfl, hWb⟩
          | some d =>
            rw [hdv] at he
            have he2 : nI 4 c 16 = (d : Int) := he
            rw [he2]
            have hd := dv_lt (by decide : 4 = 1 ∨ 4 = 4) hdv
            have hd64 : d < 18446744073709551616 := by omega
            have hB := fun W => bBits_any d 4 W hd64 (by decide)
            have hbl := bitsL_length 4 d
            have hbo := ofL_bitsL 4 d
            rw [Nat.mod_eq_of_lt hd] at hbo
            generalize bitsL 4 d = bb at hB hbl hbo
            have HV : Hid (valR 4 (((sb s).drop 2).drop (j - 1)) = some (ofL (l ++ bb))) := Lib.hid (by
              have hlen : (((sb s).drop 2).drop j).length = m - j := by rw [List.length_drop, List.length_drop, sb_length]; omega
              rw [hdrop.out, valR_step hdv hv.out, hlen, ofL_append, hl.out, hbo, Nat.mul_comm d, Nat.add_comm])
            have HLL : Hid ((l ++ bb).length = 4 * (m - (j - 1))) := Lib.hid (by rw [List.length_append, hl.out, hbl]; omega)
            have HBL := Lib.hid hbl
            have hrow2 := own_below hrow (hb.mono (Nat.le_refl _))
            clear he he2 hdv hbo hd hv hl hbl hb hrow
            have hjm : 4 * (m - j) + 4 ≤ 64 := by omega
            go_wp2_with (first
              | (go_at_call 32; refine (hB _).mono ?_; clear hB; rintro e w3 ⟨A3, d3, rfl, hrow3, hb3⟩; rw [HBL.out] at hrow3 ⊢; have hrd3 := rdb_own hrow3; have hcap3 := own_cap hrow3; have hrow4 := own_below hrow2 hb3; obtain ⟨g3, rfl, _, _, _⟩ := own_block hrow3 (by decide))
              | (at_builtin; refine wpList_append_b _ rfl (.tmp 62) (.tmp 66) 52 rfl w.heap.size 4 i0 (.bool false) 1 1 Try.underlying52 hi hz0 hz1 hz2 rfl rfl (by decide) _ (4 * (m - j)) _ rfl hrow4 (some ⟨g3, 0, none⟩) 4 d3 bb rfl HBL.out.symm (by simp) (by rw [HBL.out]; exact hcap3) hrd3 (by unfold maxLen; omega) (by omega) (Nat.le_trans hWb.size hb3.size) ?_; intro v5 w5 hown5 hgrow5; rw [← List.map_append] at hown5))
            have hjn : 4 * (m - j) + 4 = 4 * (m - (j - 1)) := by omega
            rw [hjn] at hown5
            go_roundw
            case rel => exact ⟨j - 1, l ++ bb, by omega, by congr 1 <;> omega, hown5, HLL, HV, (hWb.trans (hb3.mono hWb.size)).grown hgrow5 (Nat.le_trans hWb.size hb3.size) (fun k ek => (hrow4.lt k ek).1)⟩
            case measure => first | (simp [intOf]; done) | (simp [intOf]; omega)
    · obtain rfl : j = 0 := by omega
      rw [Nat.sub_zero] at hrow hl
      skip
      rw [List.drop_zero] at hv
      obtain ⟨A, dc, rfl⟩ := sl_own hrow
      have hrd := rdb_own hrow
      go_wp2_with (go_at_call 36; refine (bOf_at hl.out (by omega) wr A dc hrd).mono ?_; rintro e w3 ⟨rfl, rfl⟩)
      refine bodyPost_ret (v := .tuple #[.int .u64 (ofL l), .int .i64 (4 * m : Nat), .int .i64 0]) (by simp [results, Try.results31, go_sem]) rfl ?_
      rw [hfin.out, hv.out]
      exact ⟨rfl, hW⟩
end Go.Proofs.Ytcpjchfgiogmeaa
