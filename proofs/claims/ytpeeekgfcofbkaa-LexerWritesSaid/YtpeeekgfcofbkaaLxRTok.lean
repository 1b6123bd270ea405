/-
  THE REFERENCE's Tokens. Written by gen/genlxrtok.py.
-/
import Derived.Test.YtpeeekgfcofbkaaLxTokA
import Derived.Test.YtpeeekgfcofbkaaLxExt
namespace Go.Proofs.Ytpeeekgfcofbkaa
open Go.RowKit

/-- what the reference's Tokens hands back -/
def RTokPost (S : ByteArray) (w : World) (e : Ending) (w' : World) : Prop := ∃ pre x, yl (S.size + 1) (sb S) 0 = pre ++ [x] ∧ Below w.heap.size w w' ∧
  ((x.2 = 0 ∧ ∃ A c, e = .returned (.tuple #[.slice A (pre.length + 1) c, .int .i64 0, .int .i64 0]) ∧ w'.ownsRow w.heap.size 66 3 (.slice A (pre.length + 1) c) (pre.length + 1) (tkC ((pre ++ [x]).map Prod.fst))) ∨
   (x.2 ≠ 0 ∧ e = .returned (.tuple #[.slice none 0 0, .int .i64 (x.1.p : Nat), .int .i64 x.2])))
theorem qd_five : ∀ (f i : Nat) (acc l : List Int), (qdGo f i acc l).2.2 = 0 → (qdGo f i acc l).1.k = 5 ∧ (qdGo f i acc l).1.p = 0 ∧ i + 1 ≤ (qdGo f i acc l).2.1
  | 0, i, acc, l, h => by cases h
  | f + 1, i, acc, [], h => by cases h
  | f + 1, i, acc, c :: r, h => by
    revert h
    show (if c = 34 then (⟨5, acc, 0⟩, i + 1, 0) else if (itemF (c :: r)).2.2 = 2 then (⟨0, [], i⟩, 0, 2) else if (itemF (c :: r)).2.2 = 3 then (⟨0, [], i + (c :: r).length⟩, 0, 3) else qdGo f (i + (itemF (c :: r)).2.1) (acc ++ [(itemF (c :: r)).1]) ((c :: r).drop (itemF (c :: r)).2.1) : Tk × Nat × Int).2.2 = 0 → _ ∧ _ ∧ i + 1 ≤ _
    show _ → (if c = 34 then (⟨5, acc, 0⟩, i + 1, 0) else if (itemF (c :: r)).2.2 = 2 then (⟨0, [], i⟩, 0, 2) else if (itemF (c :: r)).2.2 = 3 then (⟨0, [], i + (c :: r).length⟩, 0, 3) else qdGo f (i + (itemF (c :: r)).2.1) (acc ++ [(itemF (c :: r)).1]) ((c :: r).drop (itemF (c :: r)).2.1) : Tk × Nat × Int).1.k = 5 ∧ (if c = 34 then (⟨5, acc, 0⟩, i + 1, 0) else if (itemF (c :: r)).2.2 = 2 then (⟨0, [], i⟩, 0, 2) else if (itemF (c :: r)).2.2 = 3 then (⟨0, [], i + (c :: r).length⟩, 0, 3) else qdGo f (i + (itemF (c :: r)).2.1) (acc ++ [(itemF (c :: r)).1]) ((c :: r).drop (itemF (c :: r)).2.1) : Tk × Nat × Int).1.p = 0 ∧ i + 1 ≤ (if c = 34 then (⟨5, acc, 0⟩, i + 1, 0) else if (itemF (c :: r)).2.2 = 2 then (⟨0, [], i⟩, 0, 2) else if (itemF (c :: r)).2.2 = 3 then (⟨0, [], i + (c :: r).length⟩, 0, 3) else qdGo f (i + (itemF (c :: r)).2.1) (acc ++ [(itemF (c :: r)).1]) ((c :: r).drop (itemF (c :: r)).2.1) : Tk × Nat × Int).2.1
    split
    · exact fun _ => ⟨rfl, rfl, Nat.le_refl _⟩
    · split
      · exact fun h => absurd h (show ¬ (2 : Int) = 0 by decide)
      · split
        · exact fun h => absurd h (show ¬ (3 : Int) = 0 by decide)
        · intro h
          obtain ⟨a1, a2, a3⟩ := qd_five f _ _ _ h
          exact ⟨a1, a2, by omega⟩
set_option maxHeartbeats 16000000 in
set_option maxRecDepth 100000 in
theorem rTokens_any (S : ByteArray) (w : World) (hs : S.size ≤ 65536) : Calls Try.prog 14 #[.string S] w fun e w' => RTokPost S w e w' := by
  obtain ⟨i0, hi, hz0, hz1, hz2⟩ := lx_info info_rToken
  have hl := sb_length S
  have h8 := sb_bytes S
  unfold RTokPost
  obtain ⟨YL, hY⟩ : ∃ YL, YL = yl (S.size + 1) (sb S) 0 := ⟨_, rfl⟩
  rw [← hY]
  replace hY := Lib.hid hY
  have hsz1 : decide ((65536 : Int) < (S.size : Int)) = false := decide_eq_false (by omega)
  have hsz2 : S.size ≤ 100000 := by omega
  have hcv0 : (convert 24 9 (.slice (some ⟨w.heap.size, 0, none⟩) 4 4)).run Try.prog (w.alloc (.cells #[.int .u8 9, .int .u8 10, .int .u8 13, .int .u8 32] 5)) = .ok (.string ⟨#[9, 10, 13, 32]⟩) (w.alloc (.cells #[.int .u8 9, .int .u8 10, .int .u8 13, .int .u8 32] 5)) := lx_conv (some ⟨w.heap.size, 0, none⟩) 4 4 [9, 10, 13, 32] _ _ rfl (lits w [9, 10, 13, 32])
  have hBa : Below w.heap.size w (w.alloc (.cells #[.int .u8 9, .int .u8 10, .int .u8 13, .int .u8 32] 5)) := (Below.refl _ _).alloc (Nat.le_refl _) _
  clear hs
  go_enter Try.func14, Try.ntmps14
  go_wp2_with fail
  go_loopw [6, 7] (fun cu i wr => ∃ (k : Nat) (L : List (Tk × Int)), i = .int .i64 (k : Int) ∧ k ≤ S.size ∧ Hid (YL = L ++ yl (S.size + 1) (sb S) k) ∧ L.length ≤ k ∧ wr.ownsRow w.heap.size 66 3 cu L.length (tkC (L.map Prod.fst)) ∧ Below w.heap.size w wr) (fun _ i _ => S.size - (intOf i).toNat)
  case atStart => exact ⟨0, [], rfl, by omega, hY, by simp, ⟨rfl, .inl ⟨rfl, rfl⟩⟩, hBa⟩
  case round =>
    obtain ⟨k, L, rfl, hk, hI, hL, hrow, hB⟩ := hrel
    have hBs := hB.size
    have hblk := Lib.hid (lx_blk hrow)
    clear hY hcv0 hBa hsz1
    by_cases hlt : k < S.size
    · have hlI : (k : Int) < (S.size : Int) := by omega
      obtain ⟨x, hx, hdx, ix⟩ := sb_get S k hlt
      have h8x : Bytes8 ((x : Int) :: (sb S).drop (k + 1)) := fun z hz => h8 z (List.mem_of_mem_drop (by rw [hdx]; exact hz))
      have HSp := Lib.hid (fun W => in_any x ⟨#[9, 10, 13, 32]⟩ W (by decide))
      rw [show sb ⟨#[9, 10, 13, 32]⟩ = [9, 10, 13, 32] from rfl, space_in (by omega)] at HSp
      have hstep : ∀ m (t : Tk), nxT (sb S) k = (t, k + m, 0) → 1 ≤ m → k + m ≤ S.size → t.k ≠ 6 → YL = (L ++ [(t, 0)]) ++ yl (S.size + 1) (sb S) (k + m) := fun m t h1 h2 h3 h4 => by
        rw [hI.out, yl_one, h1, if_neg (fun h => h.elim (fun h => h rfl) (fun h => h4 h)), List.append_assoc, yl_fuel S.size (S.size + 1) (sb S) (k + m) h8 (by omega) (by omega) (by omega)]
        rfl
      replace hstep := Lib.hid hstep
      replace h8x := Lib.hid h8x
      cases hsp : inR SP (x : Int)
      · rw [hsp] at HSp
        by_cases h59 : x = 59
        · subst h59
          have hcm := Lib.hid (nx_comment (l := sb S) (i := k) (by rw [hdx]; rfl))
          have hpos := Lib.hid (gp_com (l := (sb S).drop k) (by rw [hdx]; rfl)).1
          replace hdx := Lib.hid hdx
          replace hrow := Lib.hid hrow
          go_wp2_with fail
          refine Calls.mono (HSp.out _) ?_
          rintro e w1 ⟨rfl, hw1⟩
          rw [hw1]
          clear hw1 w1 HSp
          go_wp2_with fail
          go_loopw [7] (fun jj wr2 => wr = wr2 ∧ ∃ j : Nat, jj = .int .i64 (j : Int) ∧ k ≤ j ∧ j ≤ S.size ∧ Hid (j + nlN 10 ((sb S).drop j) = k + nlN 10 ((sb S).drop k)) ∧ (j = k ∨ k < j)) (fun jj _ => S.size - (intOf jj).toNat)
          case atStart => exact ⟨rfl, k, rfl, by omega, by omega, Lib.hid rfl, by omega⟩
          case round =>
            obtain ⟨rfl, j, rfl, hj1, hj2, hJ, hj3⟩ := hrel
            by_cases hjl : j < S.size
            · have hjI : (j : Int) < (S.size : Int) := by omega
              obtain ⟨y, hy, hdy, iy⟩ := sb_get S j hjl
              by_cases hy10 : y = 10
              · subst hy10
                have hn : nlN 10 ((sb S).drop j) = 0 := by rw [hdy]; rfl
                have hjk : j = k + nlN 10 ((sb S).drop k) := by have := hJ.out; omega
                have hp := hpos.out
                have hv := Lib.hid (show YL = L ++ yl (S.size + 1) (sb S) j from by rw [hI.out, yl_step hcm.out, ← hjk])
                have hkj : k < j := by omega
                clear hn hdy hjk
                clear hp hj3
                go_wp2_with fail
                go_roundw
                case rel => exact ⟨j, L, rfl, by omega, hv, by omega, hrow.out, hB⟩
                case measure => simp [intOf]; omega
              · have by10 : ((y : Int) == 10) = false := by rw [beq_eq_false_iff_ne]; omega
                have hn : nlN 10 ((sb S).drop j) = nlN 10 ((sb S).drop (j + 1)) + 1 := by
                  rw [hdy]
                  unfold nlN
                  rw [List.takeWhile_cons_of_pos (by rw [by10]; rfl), List.length_cons]
                have hJ2 := Lib.hid (show j + 1 + nlN 10 ((sb S).drop (j + 1)) = k + nlN 10 ((sb S).drop k) from by rw [← hJ.out, hn]; omega)
                clear hn hdy
                go_wp2_with fail
                go_roundw
                case rel => exact ⟨by trivial, j + 1, by go_num, by omega, by omega, hJ2, by omega⟩
                case measure => simp [intOf]; omega
            · have hjI : ¬ (j : Int) < (S.size : Int) := by omega
              have hn : nlN 10 ((sb S).drop j) = 0 := by rw [List.drop_eq_nil_of_le (by omega)]; rfl
              have hjk : j = k + nlN 10 ((sb S).drop k) := by have := hJ.out; omega
              have hp := hpos.out
              have hv := Lib.hid (show YL = L ++ yl (S.size + 1) (sb S) j from by rw [hI.out, yl_step hcm.out, ← hjk])
              have hkj : k < j := by omega
              clear hn hjk
              clear hp hj3
              go_wp2_with fail
              go_roundw
              case rel => exact ⟨j, L, rfl, by omega, hv, by omega, hrow.out, hB⟩
              case measure => simp [intOf]; omega
        · have b59 : ((x : Int) == 59) = false := by rw [beq_eq_false_iff_ne]; omega
          by_cases h40 : x = 40
          · subst h40
            have hv := Lib.hid (hstep.out 1 _ (nx_open hdx) (by omega) (by omega) (show (0 : Int) ≠ 6 by decide))
            replace hdx := Lib.hid hdx
            go_wp2_with fail
            refine Calls.mono (HSp.out _) ?_
            rintro e w1 ⟨rfl, hw1⟩
            rw [hw1]
            clear hw1 w1 HSp
            have hRn := Lib.hid (hrow.alloc (.cells #[.int .i64 0, .string ⟨#[]⟩, .int .i64 (k : Int)] 66))
            have hNn : Hid (TkAt (wr.alloc (.cells #[.int .i64 0, .string ⟨#[]⟩, .int .i64 (k : Int)] 66)) wr.heap.size 0 (⟨0, [], k⟩ : Tk)) := Lib.hid (tk_lit wr 66 [(⟨0, [], k⟩ : Tk)] 0 _ rfl _ rfl)
            have hBn : w.heap.size ≤ (wr.alloc (.cells #[.int .i64 0, .string ⟨#[]⟩, .int .i64 (k : Int)] 66)).heap.size := by simp; omega
            have hWn := Lib.hid (hB.alloc hBs (.cells #[.int .i64 0, .string ⟨#[]⟩, .int .i64 (k : Int)] 66))
            replace hrow := Lib.hid hrow
            go_wp2_with (at_builtin; refine wpList_append_tk _ rfl _ _ 32 rfl w.heap.size 66 i0 (.agg #[.int .i64 0, .string ⟨#[]⟩, .int .i64 0]) 32 Try.underlying32 hi hz0 hz1 hz2 rfl _ L.length (L.map Prod.fst) rfl hRn.out wr.heap.size 1 (⟨0, [], k⟩ : Tk) rfl hNn.out (by unfold maxLen; omega) (by omega) hBn ?_; intro v' w2 hown' hgrow; replace hown' := Lib.hid hown'; replace hgrow := Lib.hid hgrow)
            go_roundw
            case rel => exact ⟨k + 1, L ++ [((⟨0, [], k⟩ : Tk), 0)], by go_num, by omega, hv, by rw [List.length_append]; simp; omega, by rw [List.length_append, List.map_append]; exact hown'.out, hWn.out.grown hgrow.out hBn (fun j ej => hblk.out j ej)⟩
            case measure => simp [intOf]; omega
          · have b40 : ((x : Int) == 40) = false := by rw [beq_eq_false_iff_ne]; omega
            by_cases h41 : x = 41
            · subst h41
              have hv := Lib.hid (hstep.out 1 _ (nx_close hdx) (by omega) (by omega) (show (1 : Int) ≠ 6 by decide))
              replace hdx := Lib.hid hdx
              go_wp2_with fail
              refine Calls.mono (HSp.out _) ?_
              rintro e w1 ⟨rfl, hw1⟩
              rw [hw1]
              clear hw1 w1 HSp
              have hRn := Lib.hid (hrow.alloc (.cells #[.int .i64 1, .string ⟨#[]⟩, .int .i64 (k : Int)] 66))
              have hNn : Hid (TkAt (wr.alloc (.cells #[.int .i64 1, .string ⟨#[]⟩, .int .i64 (k : Int)] 66)) wr.heap.size 0 (⟨1, [], k⟩ : Tk)) := Lib.hid (tk_lit wr 66 [(⟨1, [], k⟩ : Tk)] 0 _ rfl _ rfl)
              have hBn : w.heap.size ≤ (wr.alloc (.cells #[.int .i64 1, .string ⟨#[]⟩, .int .i64 (k : Int)] 66)).heap.size := by simp; omega
              have hWn := Lib.hid (hB.alloc hBs (.cells #[.int .i64 1, .string ⟨#[]⟩, .int .i64 (k : Int)] 66))
              replace hrow := Lib.hid hrow
              go_wp2_with (at_builtin; refine wpList_append_tk _ rfl _ _ 32 rfl w.heap.size 66 i0 (.agg #[.int .i64 0, .string ⟨#[]⟩, .int .i64 0]) 32 Try.underlying32 hi hz0 hz1 hz2 rfl _ L.length (L.map Prod.fst) rfl hRn.out wr.heap.size 1 (⟨1, [], k⟩ : Tk) rfl hNn.out (by unfold maxLen; omega) (by omega) hBn ?_; intro v' w2 hown' hgrow; replace hown' := Lib.hid hown'; replace hgrow := Lib.hid hgrow)
              go_roundw
              case rel => exact ⟨k + 1, L ++ [((⟨1, [], k⟩ : Tk), 0)], by go_num, by omega, hv, by rw [List.length_append]; simp; omega, by rw [List.length_append, List.map_append]; exact hown'.out, hWn.out.grown hgrow.out hBn (fun j ej => hblk.out j ej)⟩
              case measure => simp [intOf]; omega
            · have b41 : ((x : Int) == 41) = false := by rw [beq_eq_false_iff_ne]; omega
              by_cases h34 : x = 34
              · subst h34
                obtain ⟨V, hV⟩ : ∃ V, V = qdGo S.size (k + 1) [] ((sb S).drop (k + 1)) := ⟨_, rfl⟩
                have HQ := Lib.hid (fun W => rquoted_any S k W hlt hsz2)
                rw [← hV] at HQ
                obtain ⟨n1, n2⟩ := nx_quoted hdx (by rw [List.length_drop, hl]; omega) V hV
                have hq5 := qd_five S.size (k + 1) [] ((sb S).drop (k + 1))
                rw [← hV] at hq5
                have hqz := qd_size S.size (k + 1) [] ((sb S).drop (k + 1)) (fun z hz => h8 z (List.mem_of_mem_drop hz))
                rw [← hV, List.length_drop, hl] at hqz
                obtain ⟨⟨vk, vt, vp⟩, vs, ve⟩ := V
                unfold qRes at HQ
                simp only at n1 n2 hq5 hqz HQ
                replace hdx := Lib.hid hdx
                clear hV
                by_cases he : ve = 0
                · subst he
                  obtain ⟨rfl, rfl, hvs⟩ := hq5 rfl
                  have n3 := n1 rfl
                  rw [if_pos rfl] at HQ
                  obtain ⟨m, hm⟩ : ∃ m, vs = k + m := ⟨vs - k, by omega⟩
                  subst hm
                  have hv := Lib.hid (hstep.out m _ n3 (by omega) (by omega) (show (5 : Int) ≠ 6 by decide))
                  rw [Nat.zero_add] at hv
                  clear n1 n2 n3 hq5
                  go_wp2_with fail
                  refine Calls.mono (HSp.out _) ?_
                  rintro e w1 ⟨rfl, hw1⟩
                  rw [hw1]
                  clear hw1 w1 HSp
                  go_wp2_with fail
                  refine Calls.mono (HQ.out _) ?_
                  rintro e wq ⟨rfl, hBq⟩
                  replace hrow := own_below hrow hBq
                  replace hB := hB.trans (hBq.mono hBs)
                  replace hBs := hB.size
                  clear HQ hBq
                  have hRn := Lib.hid (hrow.alloc (.cells #[.int .i64 5, .string (strOfNums vt), .int .i64 (k : Int)] 66))
                  have hNn : Hid (TkAt (wq.alloc (.cells #[.int .i64 5, .string (strOfNums vt), .int .i64 (k : Int)] 66)) wq.heap.size 0 (⟨5, vt, k⟩ : Tk)) := Lib.hid (tk_lit wq 66 [(⟨5, vt, k⟩ : Tk)] 0 _ rfl _ rfl)
                  have hBn : w.heap.size ≤ (wq.alloc (.cells #[.int .i64 5, .string (strOfNums vt), .int .i64 (k : Int)] 66)).heap.size := by simp; omega
                  have hWn := Lib.hid (hB.alloc hBs (.cells #[.int .i64 5, .string (strOfNums vt), .int .i64 (k : Int)] 66))
                  replace hrow := Lib.hid hrow
                  go_wp2_with (at_builtin; refine wpList_append_tk _ rfl _ _ 32 rfl w.heap.size 66 i0 (.agg #[.int .i64 0, .string ⟨#[]⟩, .int .i64 0]) 32 Try.underlying32 hi hz0 hz1 hz2 rfl _ L.length (L.map Prod.fst) rfl hRn.out wq.heap.size 1 (⟨5, vt, k⟩ : Tk) rfl hNn.out (by unfold maxLen; omega) (by omega) hBn ?_; intro v' w2 hown' hgrow; replace hown' := Lib.hid hown'; replace hgrow := Lib.hid hgrow)
                  go_roundw
                  case rel => exact ⟨k + m, L ++ [((⟨5, vt, k⟩ : Tk), 0)], rfl, by omega, hv, by rw [List.length_append]; simp; omega, by rw [List.length_append, List.map_append]; exact hown'.out, hWn.out.grown hgrow.out hBn (fun j ej => hblk.out j ej)⟩
                  case measure => simp [intOf]; omega
                · have n3 := n2 he
                  rw [if_neg he] at HQ
                  have hv := Lib.hid (show YL = L ++ [((nxT (sb S) k).1, ve)] from by rw [hI.out, yl_one, n3.2, if_pos (.inl he)])
                  replace n3 := Lib.hid n3.1
                  have hbe : (ve == 0) = false := by rw [beq_eq_false_iff_ne]; exact he
                  replace he := Lib.hid he
                  replace hrow := Lib.hid hrow
                  clear n1 n2 hq5 hI
                  go_wp2_with fail
                  refine Calls.mono (HSp.out _) ?_
                  rintro e w1 ⟨rfl, hw1⟩
                  rw [hw1]
                  clear hw1 w1 HSp
                  go_wp2_with fail
                  refine Calls.mono (HQ.out _) ?_
                  rintro e wq ⟨rfl, hBq⟩
                  replace hB := hB.trans (hBq.mono hBs)
                  clear HQ
                  go_wp2_with fail
                  refine bodyPost_ret (v := .tuple #[.slice none 0 0, .int .i64 (vp : Nat), .int .i64 ve]) (by simp [results, Try.results14, go_sem]) rfl ?_
                  exact ⟨L, ((nxT (sb S) k).1, ve), hv.out, hB, .inr ⟨he.out, by rw [n3.out]⟩⟩
              · have b34 : ((x : Int) == 34) = false := by rw [beq_eq_false_iff_ne]; omega
                have HW := Lib.hid (fun (c : Nat) (hc : c < 256) (W : World) => (show Calls Try.prog 31 #[.int .u8 c, .string ⟨#[97, 98, 99, 100, 101, 102, 103, 104, 105, 106, 107, 108, 109, 110, 111, 112, 113, 114, 115, 116, 117, 118, 119, 120, 121, 122, 48, 49, 50, 51, 52, 53, 54, 55, 56, 57, 45, 35]⟩] W fun e w' => e = .returned (.bool (inR BARE c)) ∧ w' = W from by
                  have h := in_any c ⟨#[97, 98, 99, 100, 101, 102, 103, 104, 105, 106, 107, 108, 109, 110, 111, 112, 113, 114, 115, 116, 117, 118, 119, 120, 121, 122, 48, 49, 50, 51, 52, 53, 54, 55, 56, 57, 45, 35]⟩ W (by decide)
                  rw [show sb ⟨#[97, 98, 99, 100, 101, 102, 103, 104, 105, 106, 107, 108, 109, 110, 111, 112, 113, 114, 115, 116, 117, 118, 119, 120, 121, 122, 48, 49, 50, 51, 52, 53, 54, 55, 56, 57, 45, 35]⟩ = LET ++ DIG ++ [45, 35] from by decide +kernel, bare_in (by omega)] at h
                  exact h))
                have hdk : Hid ((sb S).drop k = (x : Int) :: (sb S).drop (k + 1)) := Lib.hid hdx
                clear hdx
                replace hrow := Lib.hid hrow
                go_wp2_with fail
                refine Calls.mono (HSp.out _) ?_
                rintro e w1 ⟨rfl, hw1⟩
                rw [hw1]
                clear hw1 w1 HSp
                go_wp2_with fail
                go_loopw [12] (fun jj wr2 => wr = wr2 ∧ ∃ j : Nat, jj = .int .i64 (j : Int) ∧ k ≤ j ∧ j ≤ S.size ∧ Hid (j + spanN BARE ((sb S).drop j) = k + spanN BARE ((sb S).drop k))) (fun jj _ => S.size - (intOf jj).toNat)
                case atStart => exact ⟨rfl, k, rfl, by omega, by omega, Lib.hid rfl⟩
                case round =>
                  obtain ⟨rfl, j, rfl, hj1, hj2, hJ⟩ := hrel
                  by_cases hjl : j < S.size
                  · have hjI : (j : Int) < (S.size : Int) := by omega
                    obtain ⟨y, hy, hdy, iy⟩ := sb_get S j hjl
                    have HY := Lib.hid (HW.out y hy)
                    cases hyb : inR BARE (y : Int)
                    · rw [hyb] at HY
                      have hjs : Hid (j = k + spanN BARE ((sb S).drop k)) := Lib.hid (by have := hJ.out; rw [hdy, span_out hyb] at this; omega)
                      replace hdy := Lib.hid hdy
                      replace hyb := Lib.hid hyb
                      clear HW hJ
                      go_wp2_with fail
                      refine Calls.mono (HY.out _) ?_
                      rintro e w1 ⟨rfl, hw1⟩
                      rw [hw1]
                      clear hw1 w1 HY
                      by_cases hjk : j = k
                      · have hb0 : inR BARE (x : Int) = false := by
                          cases hx0 : inR BARE (x : Int)
                          · rfl
                          · have h1 := hjs.out
                            rw [hdk.out, span_in hx0] at h1
                            omega
                        have n0 := nx_none hdk.out hb0 hsp ⟨by omega, by omega, by omega, by omega⟩
                        have hv := Lib.hid (show YL = L ++ [((⟨0, [], k⟩ : Tk), (2 : Int))] from by rw [hI.out, yl_one, n0, if_pos (.inl (show ¬ (2 : Int) = 0 by decide))])
                        subst hjk
                        clear hI n0 hb0 hjs hstep
                        have bjj : ((j : Int) == (j : Int)) = true := by rw [beq_iff_eq]
                        go_wp2_with fail
                        refine bodyPost_ret (v := .tuple #[.slice none 0 0, .int .i64 (j : Nat), .int .i64 2]) (by simp [results, Try.results14, go_sem]) rfl ?_
                        first | exact ⟨L, ((⟨0, [], j⟩ : Tk), 2), hv.out, hB, .inr ⟨(by decide : ¬ (2 : Int) = 0), rfl⟩⟩ | exact ⟨L, (⟨0, [], j⟩ : Tk), 2, hv.out, hB, .inr ⟨(by decide : ¬ (2 : Int) = 0), rfl⟩⟩
                      · have hkj : k < j := by omega
                        have bjk : ((j : Int) == (k : Int)) = false := by rw [beq_eq_false_iff_ne]; omega
                        have hb1 : inR BARE (x : Int) = true := by
                          cases hx0 : inR BARE (x : Int)
                          · have h1 := hjs.out
                            rw [hdk.out, span_out hx0] at h1
                            omega
                          · rfl
                        obtain ⟨T, hT⟩ : ∃ T, S.extract k j = T := ⟨_, rfl⟩
                        have hTz : T.size = j - k := by rw [← hT, ByteArray.size_extract]; omega
                        have hTb : sb T = ((x : Int) :: (sb S).drop (k + 1)).take (spanN BARE ((x : Int) :: (sb S).drop (k + 1))) := by
                          rw [← hT, sb_cut, List.drop_take, ← hdk.out, ← show j - k = spanN BARE ((sb S).drop k) from by have := hjs.out; omega]
                        have h8T := sb_bytes T
                        have hT0 : sb T ≠ [] := fun e => by have := congrArg List.length e; rw [sb_length, List.length_nil] at this; omega
                        have nw := nx_word hdk.out h8x.out hb1
                        rw [← hTb, ← hdk.out, ← hjs.out] at nw
                        have HP := fun W => Plain_any T W (by omega) (by omega)
                        rw [plain_form h8T hT0] at HP
                        have hsl : ∀ W : World, (Instr.slice 9 (.string S) (some (.int .i64 k)) (some (.int .i64 j)) none).run Try.prog W = .ok (.string T) W := fun W => by
                          have h := run_slice_string (P := Try.prog) W 9 S .i64 .i64 (k : Int) (j : Int) Try.underlying9 (by omega) (by omega) (by omega)
                          rw [show ((k : Int)).toNat = k by omega, show ((j : Int)).toNat = j by omega, hT] at h
                          exact h
                        have hTs := str_sb T
                        generalize sb T = tb at *
                        obtain ⟨⟨fk, fe⟩, hf⟩ : ∃ f, formF tb = f := ⟨_, rfl⟩
                        rw [hf] at HP nw
                        simp only at HP nw
                        replace HP := Lib.hid HP
                        clear hTb h8T hT0 hb1
                        replace hTs := Lib.hid hTs
                        replace hT := Lib.hid hT
                        have hkjI : (k : Int) < (j : Int) := by omega
                        have hjSI : (j : Int) ≤ (S.size : Int) := by omega
                        by_cases he : fe = 0
                        · subst he
                          rw [if_pos rfl] at HP nw
                          have hkk : fk ≠ 6 := fun h6 => by
                            have := form_kind tb
                            rw [hf] at this
                            simp only at this
                            omega
                          clear hf
                          obtain ⟨m, hm⟩ : ∃ m, j = k + m := ⟨j - k, by omega⟩
                          have hv0 := hstep.out m _ (by rw [nw, hm]) (by omega) (by omega) hkk
                          rw [← hm] at hv0
                          replace hv0 := Lib.hid hv0
                          clear hm nw hstep hI
                          go_wp2_with fail
                          refine Calls.mono (HP.out _) ?_
                          rintro e w1 ⟨rfl, hw1⟩
                          rw [hw1]
                          clear hw1 w1 HP
                          go_wp2_with fail
                          refine wp_region_held_drew (S := fun _ : World => True) (by kernel_rfl) (trivial) (fun hHeld => ?_)
                          (try simp only [List.size_toArray, List.length_cons, List.length_nil, Nat.zero_add, Nat.reduceAdd])
                          refine wpAnyH_takeL (i := 0) (v := ?v1) rfl (by kernel_rfl) (by kernel_rfl) (by kernel_rfl) (fun _ _ _ h => h) (Or.inl ⟨by rfl, ?y1⟩) (by assumption) ?r1
                          case y1 => (intro W hSw; (try dsimp only at hSw); go_simp; try with_reducible rfl)
                          (try simp only [Act.put, List.setIfInBounds_toArray, List.set_cons_zero, List.set_cons_succ])
                          refine wpAnyH_takeL (i := 1) (v := ?v2) rfl (by kernel_rfl) (by kernel_rfl) (by kernel_rfl) (fun _ _ _ h => h) (Or.inl ⟨by rfl, ?y2⟩) (by assumption) ?r2
                          case y2 => (intro W hSw; (try dsimp only at hSw); go_simp; try with_reducible rfl)
                          (try simp only [Act.put, List.setIfInBounds_toArray, List.set_cons_zero, List.set_cons_succ])
                          refine wpAnyH_takeL (i := 2) (v := ?v3) rfl (by kernel_rfl) (by kernel_rfl) (by kernel_rfl) (fun _ _ _ h => h) (Or.inl ⟨by rfl, ?y3⟩) (by assumption) ?r3
                          case y3 => (intro W hSw; (try dsimp only at hSw); go_simp; try with_reducible rfl)
                          (try simp only [Act.put, List.setIfInBounds_toArray, List.set_cons_zero, List.set_cons_succ])
                          refine wpAnyH_takeL (i := 3) (v := ?v4) rfl (by kernel_rfl) (by kernel_rfl) (by kernel_rfl) (fun _ _ _ h => h) (Or.inl ⟨by rfl, ?y4⟩) (by assumption) ?r4
                          case y4 => (intro W hSw; (try dsimp only at hSw); go_simp; try with_reducible rfl)
                          (try simp only [Act.put, List.setIfInBounds_toArray, List.set_cons_zero, List.set_cons_succ])
                          refine wpAnyH_takeL (i := 4) (v := ?v5) rfl (by kernel_rfl) (by kernel_rfl) (by kernel_rfl) (fun _ _ _ h => h) (Or.inl ⟨by rfl, ?y5⟩) (by assumption) ?r5
                          case y5 => (intro W hSw; (try dsimp only at hSw); go_simp; try with_reducible rfl)
                          (try simp only [Act.put, List.setIfInBounds_toArray, List.set_cons_zero, List.set_cons_succ])
                          refine wpAnyH_takeL (i := 5) (v := ?v6) rfl (by kernel_rfl) (by kernel_rfl) (by kernel_rfl) (fun _ _ _ h => h) (Or.inl ⟨by rfl, ?y6⟩) (by assumption) ?r6
                          case y6 => (intro W hSw; (try dsimp only at hSw); go_simp; try with_reducible rfl)
                          (try simp only [Act.put, List.setIfInBounds_toArray, List.set_cons_zero, List.set_cons_succ])
                          refine wpAnyH_takeL (i := 6) (v := ?v7) rfl (by kernel_rfl) (by kernel_rfl) (by kernel_rfl) (fun _ _ _ h => h) (Or.inl ⟨by rfl, ?y7⟩) (by assumption) ?r7
                          case y7 => (intro W hSw; (try dsimp only at hSw); go_simp; try with_reducible rfl)
                          (try simp only [Act.put, List.setIfInBounds_toArray, List.set_cons_zero, List.set_cons_succ])
                          refine wpAnyH_takeL (i := 7) (v := ?v8) rfl (by kernel_rfl) (by kernel_rfl) (by kernel_rfl) (fun _ _ _ h => h) (Or.inl ⟨by rfl, ?y8⟩) (by assumption) ?r8
                          case y8 => (intro W hSw; (try dsimp only at hSw); go_simp; try with_reducible rfl)
                          (try simp only [Act.put, List.setIfInBounds_toArray, List.set_cons_zero, List.set_cons_succ])
                          refine wpAnyH_takeL (i := 8) (v := ?v9) rfl (by kernel_rfl) (by kernel_rfl) (by kernel_rfl) (fun _ _ _ h => h) (Or.inl ⟨by rfl, ?y9⟩) (by assumption) ?r9
                          case y9 => (intro W hSw; (try dsimp only at hSw); go_simp; try with_reducible rfl)
                          (try simp only [Act.put, List.setIfInBounds_toArray, List.set_cons_zero, List.set_cons_succ])
                          refine wpAnyH_takeL (i := 9) (v := .string ⟨#[9, 10, 13, 32, 59, 40, 41]⟩) rfl (by kernel_rfl) (by kernel_rfl) (by kernel_rfl) (fun _ _ _ h => h) (Or.inl ⟨by rfl, ?y10⟩) (by assumption) ?r10
                          case y10 => (intro W hSw; (try dsimp only at hSw); first | (go_simp; done) | (go_simp; rfl))
                          (try simp only [Act.put, List.setIfInBounds_toArray, List.set_cons_zero, List.set_cons_succ])
                          refine wpAnyH_ready (rs := [10]) (by kernel_rfl) (by simp) ?_
                          refine consL rfl (fun K hK => ?_) AllReadyH.nil
                          go_simp
                          (try dsimp only)
                          refine hK.out _ _ (trivial) (fun hHeld => ?_)
                          clear hK K
                          (try simp only [Act.put, List.setIfInBounds_toArray, List.set_cons_zero, List.set_cons_succ])
                          refine wpAnyH_ready (rs := [11]) (by kernel_rfl) (by simp) ?_
                          refine consL rfl (fun K hK => ?_) AllReadyH.nil
                          refine step_conv _ (.tmp 131) rfl (by rfl) (some ⟨wr.heap.size, 0, none⟩) 1 1 [34] rfl rfl (lx_lit wr.drew 34) ?_
                          (try dsimp only)
                          refine hK.out _ _ (trivial) (fun hHeld => ?_)
                          clear hK K
                          (try simp only [Act.put, List.setIfInBounds_toArray, List.set_cons_zero, List.set_cons_succ])
                          refine wpAnyH_takeL (i := 12) (v := .string ⟨#[9, 10, 13, 32, 59, 40, 41, 34]⟩) rfl (by kernel_rfl) (by kernel_rfl) (by kernel_rfl) (fun _ _ _ h => h) (Or.inl ⟨by rfl, ?y11⟩) (by assumption) ?r11
                          case y11 => (intro W hSw; (try dsimp only at hSw); first | (go_simp; done) | (go_simp; rfl))
                          (try simp only [Act.put, List.setIfInBounds_toArray, List.set_cons_zero, List.set_cons_succ])
                          refine wpAnyH_ready (rs := [13]) (by kernel_rfl) (by simp) ?_
                          refine consL rfl (fun K hK => ?_) AllReadyH.nil
                          go_simp
                          refine Calls.mono (in_any y ⟨#[9, 10, 13, 32, 59, 40, 41, 34]⟩ _ (by decide)) ?_
                          rintro e w1 ⟨rfl, hw1⟩
                          rw [hw1]
                          clear hw1 w1
                          rw [show sb ⟨#[9, 10, 13, 32, 59, 40, 41, 34]⟩ = [9, 10, 13, 32, 59, 40, 41, 34] from by decide +kernel]
                          generalize hzb : memI (y : Int) [9, 10, 13, 32, 59, 40, 41, 34] = zb
                          (try dsimp only)
                          refine hK.out _ _ (trivial) (fun hHeld => ?_)
                          clear hK K
                          (try simp only [Act.put, List.setIfInBounds_toArray, List.set_cons_zero, List.set_cons_succ])
                          refine wpAnyH_takeL (i := 14) (v := ?v12) rfl (by kernel_rfl) (by kernel_rfl) (by kernel_rfl) (fun _ _ _ h => h) (Or.inl ⟨by rfl, ?y12⟩) (by assumption) ?r12
                          case y12 => (intro W hSw; (try dsimp only at hSw); go_simp; try with_reducible rfl)
                          (try simp only [Act.put, List.setIfInBounds_toArray, List.set_cons_zero, List.set_cons_succ])
                          refine wpAnyH_takeL (i := 15) (v := ?v13) rfl (by kernel_rfl) (by kernel_rfl) (by kernel_rfl) (fun _ _ _ h => h) (Or.inl ⟨by rfl, ?y13⟩) (by assumption) ?r13
                          case y13 => (intro W hSw; (try dsimp only at hSw); go_simp; try with_reducible rfl)
                          (try simp only [Act.put, List.setIfInBounds_toArray, List.set_cons_zero, List.set_cons_succ])
                          refine wpAnyH_done (by kernel_rfl) ?_ _
                          obtain ⟨wz, hwz⟩ : ∃ wz, wz = (wr.alloc (.cells #[.int .u8 34] 5)).drew := ⟨_, rfl⟩
                          have hBz : Below wr.heap.size wr wz := by rw [hwz]; exact ((Below.refl _ wr).alloc (Nat.le_refl _) _).drew
                          rw [← hwz]
                          clear hwz
                          replace hrow := own_below hrow.out hBz
                          replace hB := hB.trans (hBz.mono hBs)
                          replace hBs := hB.size
                          clear hBz
                          cases zb
                          · have h1 : (y : Int) ≠ 9 ∧ (y : Int) ≠ 10 ∧ (y : Int) ≠ 13 ∧ (y : Int) ≠ 32 ∧ (y : Int) ≠ 59 ∧ (y : Int) ≠ 40 ∧ (y : Int) ≠ 41 ∧ (y : Int) ≠ 34 := by
                              simp [memI] at hzb
                              omega
                            have hs0 : inR SP (y : Int) = false := by
                              simp [inR, SP]
                              omega
                            have n0 := nx_none hdy.out hyb.out hs0 ⟨by omega, by omega, by omega, by omega⟩
                            have hv := Lib.hid (show YL = (L ++ [((⟨fk, tb, k⟩ : Tk), (0 : Int))]) ++ [((⟨0, [], j⟩ : Tk), (2 : Int))] from by rw [hv0.out, yl_one, n0, if_pos (.inl (show ¬ (2 : Int) = 0 by decide))])
                            clear n0 hv0 hzb h1 hs0
                            go_wp2_with fail
                            refine bodyPost_ret (v := .tuple #[.slice none 0 0, .int .i64 (j : Nat), .int .i64 2]) (by simp [results, Try.results14, go_sem]) rfl ?_
                            first | exact ⟨L ++ [((⟨fk, tb, k⟩ : Tk), (0 : Int))], ((⟨0, [], j⟩ : Tk), 2), hv.out, hB, .inr ⟨(by decide : ¬ (2 : Int) = 0), rfl⟩⟩ | exact ⟨L ++ [((⟨fk, tb, k⟩ : Tk), (0 : Int))], (⟨0, [], j⟩ : Tk), 2, hv.out, hB, .inr ⟨(by decide : ¬ (2 : Int) = 0), rfl⟩⟩
                          · clear hzb hdy hyb
                            have hRn := Lib.hid (hrow.alloc (.cells #[.int .i64 fk, .string T, .int .i64 (k : Int)] 66))
                            have hNn : Hid (TkAt (wz.alloc (.cells #[.int .i64 fk, .string T, .int .i64 (k : Int)] 66)) wz.heap.size 0 (⟨fk, tb, k⟩ : Tk)) := Lib.hid (tk_lit wz 66 [(⟨fk, tb, k⟩ : Tk)] 0 _ rfl _ (by simp [tkC, Tk.cells, hTs.out]))
                            have hBn : w.heap.size ≤ (wz.alloc (.cells #[.int .i64 fk, .string T, .int .i64 (k : Int)] 66)).heap.size := by simp; omega
                            have hWn := Lib.hid (hB.alloc hBs (.cells #[.int .i64 fk, .string T, .int .i64 (k : Int)] 66))
                            replace hrow := Lib.hid hrow
                            clear hTs hT hdk hjs
                            go_wp2_with (at_builtin; refine wpList_append_tk _ rfl _ _ 32 rfl w.heap.size 66 i0 (.agg #[.int .i64 0, .string ⟨#[]⟩, .int .i64 0]) 32 Try.underlying32 hi hz0 hz1 hz2 rfl _ L.length (L.map Prod.fst) rfl hRn.out wz.heap.size 1 (⟨fk, tb, k⟩ : Tk) rfl hNn.out (by unfold maxLen; omega) (by omega) hBn ?_; intro v' w2 hown' hgrow; replace hown' := Lib.hid hown'; replace hgrow := Lib.hid hgrow)
                            have hv := hv0
                            go_roundw
                            case rel => exact ⟨j, L ++ [((⟨fk, tb, k⟩ : Tk), 0)], rfl, by omega, hv, by rw [List.length_append]; simp; omega, by rw [List.length_append, List.map_append]; exact hown'.out, hWn.out.grown hgrow.out hBn (fun j ej => hblk.out j ej)⟩
                            case measure => simp [intOf]; omega
                        · rw [if_neg he] at HP nw
                          have hv := Lib.hid (show YL = L ++ [((⟨0, [], k⟩ : Tk), fe)] from by rw [hI.out, yl_one, nw, if_pos (.inl he)])
                          have hbe : (fe == 0) = false := by rw [beq_eq_false_iff_ne]; exact he
                          replace he := Lib.hid he
                          clear nw hI hstep hf
                          go_wp2_with fail
                          refine Calls.mono (HP.out _) ?_
                          rintro e w1 ⟨rfl, hw1⟩
                          rw [hw1]
                          clear hw1 w1 HP
                          go_wp2_with fail
                          refine bodyPost_ret (v := .tuple #[.slice none 0 0, .int .i64 (k : Nat), .int .i64 fe]) (by simp [results, Try.results14, go_sem]) rfl ?_
                          first | exact ⟨L, ((⟨0, [], k⟩ : Tk), fe), hv.out, hB, .inr ⟨he.out, rfl⟩⟩ | exact ⟨L, (⟨0, [], k⟩ : Tk), fe, hv.out, hB, .inr ⟨he.out, rfl⟩⟩
                    · rw [hyb] at HY
                      have hJ2 := Lib.hid (show j + 1 + spanN BARE ((sb S).drop (j + 1)) = k + spanN BARE ((sb S).drop k) from by rw [← hJ.out, hdy, span_in hyb]; omega)
                      clear hdy hyb hJ HW
                      go_wp2_with fail
                      refine Calls.mono (HY.out _) ?_
                      rintro e w1 ⟨rfl, hw1⟩
                      rw [hw1]
                      clear hw1 w1 HY
                      go_wp2_with fail
                      go_roundw
                      case rel => exact ⟨by trivial, j + 1, by go_num, by omega, by omega, hJ2⟩
                      case measure => simp [intOf]; omega
                  · have hjI : ¬ (j : Int) < (S.size : Int) := by omega
                    have hjs : Hid (j = k + spanN BARE ((sb S).drop k)) := Lib.hid (by have := hJ.out; rw [List.drop_eq_nil_of_le (by rw [hl]; omega), span_nil] at this; omega)
                    clear HW hJ
                    by_cases hjk : j = k
                    · have hb0 : inR BARE (x : Int) = false := by
                        cases hx0 : inR BARE (x : Int)
                        · rfl
                        · have h1 := hjs.out
                          rw [hdk.out, span_in hx0] at h1
                          omega
                      have n0 := nx_none hdk.out hb0 hsp ⟨by omega, by omega, by omega, by omega⟩
                      have hv := Lib.hid (show YL = L ++ [((⟨0, [], k⟩ : Tk), (2 : Int))] from by rw [hI.out, yl_one, n0, if_pos (.inl (show ¬ (2 : Int) = 0 by decide))])
                      subst hjk
                      clear hI n0 hb0 hjs hstep
                      have bjj : ((j : Int) == (j : Int)) = true := by rw [beq_iff_eq]
                      go_wp2_with fail
                      refine bodyPost_ret (v := .tuple #[.slice none 0 0, .int .i64 (j : Nat), .int .i64 2]) (by simp [results, Try.results14, go_sem]) rfl ?_
                      first | exact ⟨L, ((⟨0, [], j⟩ : Tk), 2), hv.out, hB, .inr ⟨(by decide : ¬ (2 : Int) = 0), rfl⟩⟩ | exact ⟨L, (⟨0, [], j⟩ : Tk), 2, hv.out, hB, .inr ⟨(by decide : ¬ (2 : Int) = 0), rfl⟩⟩
                    · have hkj : k < j := by omega
                      have bjk : ((j : Int) == (k : Int)) = false := by rw [beq_eq_false_iff_ne]; omega
                      have hb1 : inR BARE (x : Int) = true := by
                        cases hx0 : inR BARE (x : Int)
                        · have h1 := hjs.out
                          rw [hdk.out, span_out hx0] at h1
                          omega
                        · rfl
                      obtain ⟨T, hT⟩ : ∃ T, S.extract k j = T := ⟨_, rfl⟩
                      have hTz : T.size = j - k := by rw [← hT, ByteArray.size_extract]; omega
                      have hTb : sb T = ((x : Int) :: (sb S).drop (k + 1)).take (spanN BARE ((x : Int) :: (sb S).drop (k + 1))) := by
                        rw [← hT, sb_cut, List.drop_take, ← hdk.out, ← show j - k = spanN BARE ((sb S).drop k) from by have := hjs.out; omega]
                      have h8T := sb_bytes T
                      have hT0 : sb T ≠ [] := fun e => by have := congrArg List.length e; rw [sb_length, List.length_nil] at this; omega
                      have nw := nx_word hdk.out h8x.out hb1
                      rw [← hTb, ← hdk.out, ← hjs.out] at nw
                      have HP := fun W => Plain_any T W (by omega) (by omega)
                      rw [plain_form h8T hT0] at HP
                      have hsl : ∀ W : World, (Instr.slice 9 (.string S) (some (.int .i64 k)) (some (.int .i64 j)) none).run Try.prog W = .ok (.string T) W := fun W => by
                        have h := run_slice_string (P := Try.prog) W 9 S .i64 .i64 (k : Int) (j : Int) Try.underlying9 (by omega) (by omega) (by omega)
                        rw [show ((k : Int)).toNat = k by omega, show ((j : Int)).toNat = j by omega, hT] at h
                        exact h
                      have hTs := str_sb T
                      generalize sb T = tb at *
                      obtain ⟨⟨fk, fe⟩, hf⟩ : ∃ f, formF tb = f := ⟨_, rfl⟩
                      rw [hf] at HP nw
                      simp only at HP nw
                      replace HP := Lib.hid HP
                      clear hTb h8T hT0 hb1
                      replace hTs := Lib.hid hTs
                      replace hT := Lib.hid hT
                      have hkjI : (k : Int) < (j : Int) := by omega
                      have hjSI : (j : Int) ≤ (S.size : Int) := by omega
                      by_cases he : fe = 0
                      · subst he
                        rw [if_pos rfl] at HP nw
                        have hkk : fk ≠ 6 := fun h6 => by
                          have := form_kind tb
                          rw [hf] at this
                          simp only at this
                          omega
                        clear hf
                        obtain ⟨m, hm⟩ : ∃ m, j = k + m := ⟨j - k, by omega⟩
                        have hv0 := hstep.out m _ (by rw [nw, hm]) (by omega) (by omega) hkk
                        rw [← hm] at hv0
                        replace hv0 := Lib.hid hv0
                        clear hm nw hstep hI
                        go_wp2_with fail
                        refine Calls.mono (HP.out _) ?_
                        rintro e w1 ⟨rfl, hw1⟩
                        rw [hw1]
                        clear hw1 w1 HP
                        go_wp2_with fail
                        refine wp_region_held_drew (S := fun _ : World => True) (by kernel_rfl) (trivial) (fun hHeld => ?_)
                        (try simp only [List.size_toArray, List.length_cons, List.length_nil, Nat.zero_add, Nat.reduceAdd])
                        refine wpAnyH_takeL (i := 0) (v := ?v14) rfl (by kernel_rfl) (by kernel_rfl) (by kernel_rfl) (fun _ _ _ h => h) (Or.inl ⟨by rfl, ?y14⟩) (by assumption) ?r14
                        case y14 => (intro W hSw; (try dsimp only at hSw); go_simp; try with_reducible rfl)
                        (try simp only [Act.put, List.setIfInBounds_toArray, List.set_cons_zero, List.set_cons_succ])
                        refine wpAnyH_takeL (i := 1) (v := ?v15) rfl (by kernel_rfl) (by kernel_rfl) (by kernel_rfl) (fun _ _ _ h => h) (Or.inl ⟨by rfl, ?y15⟩) (by assumption) ?r15
                        case y15 => (intro W hSw; (try dsimp only at hSw); go_simp; try with_reducible rfl)
                        (try simp only [Act.put, List.setIfInBounds_toArray, List.set_cons_zero, List.set_cons_succ])
                        refine wpAnyH_takeL (i := 2) (v := ?v16) rfl (by kernel_rfl) (by kernel_rfl) (by kernel_rfl) (fun _ _ _ h => h) (Or.inl ⟨by rfl, ?y16⟩) (by assumption) ?r16
                        case y16 => (intro W hSw; (try dsimp only at hSw); go_simp; try with_reducible rfl)
                        (try simp only [Act.put, List.setIfInBounds_toArray, List.set_cons_zero, List.set_cons_succ])
                        refine wpAnyH_takeL (i := 3) (v := ?v17) rfl (by kernel_rfl) (by kernel_rfl) (by kernel_rfl) (fun _ _ _ h => h) (Or.inl ⟨by rfl, ?y17⟩) (by assumption) ?r17
                        case y17 => (intro W hSw; (try dsimp only at hSw); go_simp; try with_reducible rfl)
                        (try simp only [Act.put, List.setIfInBounds_toArray, List.set_cons_zero, List.set_cons_succ])
                        refine wpAnyH_takeL (i := 4) (v := ?v18) rfl (by kernel_rfl) (by kernel_rfl) (by kernel_rfl) (fun _ _ _ h => h) (Or.inl ⟨by rfl, ?y18⟩) (by assumption) ?r18
                        case y18 => (intro W hSw; (try dsimp only at hSw); go_simp; try with_reducible rfl)
                        (try simp only [Act.put, List.setIfInBounds_toArray, List.set_cons_zero, List.set_cons_succ])
                        refine wpAnyH_takeL (i := 5) rfl (by kernel_rfl) (by kernel_rfl) (by kernel_rfl) (fun _ _ _ h => h) (Or.inr ⟨by rfl, rfl⟩) (by assumption) ?_
                        (try simp only [Act.put, List.setIfInBounds_toArray, List.set_cons_zero, List.set_cons_succ])
                        refine wpAnyH_takeL (i := 6) rfl (by kernel_rfl) (by kernel_rfl) (by kernel_rfl) (fun _ _ _ h => h) (Or.inr ⟨by rfl, rfl⟩) (by assumption) ?_
                        (try simp only [Act.put, List.setIfInBounds_toArray, List.set_cons_zero, List.set_cons_succ])
                        refine wpAnyH_takeL (i := 7) rfl (by kernel_rfl) (by kernel_rfl) (by kernel_rfl) (fun _ _ _ h => h) (Or.inr ⟨by rfl, rfl⟩) (by assumption) ?_
                        (try simp only [Act.put, List.setIfInBounds_toArray, List.set_cons_zero, List.set_cons_succ])
                        refine wpAnyH_takeL (i := 8) rfl (by kernel_rfl) (by kernel_rfl) (by kernel_rfl) (fun _ _ _ h => h) (Or.inr ⟨by rfl, rfl⟩) (by assumption) ?_
                        (try simp only [Act.put, List.setIfInBounds_toArray, List.set_cons_zero, List.set_cons_succ])
                        refine wpAnyH_takeL (i := 9) rfl (by kernel_rfl) (by kernel_rfl) (by kernel_rfl) (fun _ _ _ h => h) (Or.inr ⟨by rfl, rfl⟩) (by assumption) ?_
                        (try simp only [Act.put, List.setIfInBounds_toArray, List.set_cons_zero, List.set_cons_succ])
                        refine wpAnyH_takeL (i := 10) rfl (by kernel_rfl) (by kernel_rfl) (by kernel_rfl) (fun _ _ _ h => h) (Or.inr ⟨by rfl, rfl⟩) (by assumption) ?_
                        (try simp only [Act.put, List.setIfInBounds_toArray, List.set_cons_zero, List.set_cons_succ])
                        refine wpAnyH_takeL (i := 11) rfl (by kernel_rfl) (by kernel_rfl) (by kernel_rfl) (fun _ _ _ h => h) (Or.inr ⟨by rfl, rfl⟩) (by assumption) ?_
                        (try simp only [Act.put, List.setIfInBounds_toArray, List.set_cons_zero, List.set_cons_succ])
                        refine wpAnyH_takeL (i := 12) rfl (by kernel_rfl) (by kernel_rfl) (by kernel_rfl) (fun _ _ _ h => h) (Or.inr ⟨by rfl, rfl⟩) (by assumption) ?_
                        (try simp only [Act.put, List.setIfInBounds_toArray, List.set_cons_zero, List.set_cons_succ])
                        refine wpAnyH_takeL (i := 13) rfl (by kernel_rfl) (by kernel_rfl) (by kernel_rfl) (fun _ _ _ h => h) (Or.inr ⟨by rfl, rfl⟩) (by assumption) ?_
                        (try simp only [Act.put, List.setIfInBounds_toArray, List.set_cons_zero, List.set_cons_succ])
                        refine wpAnyH_takeL (i := 14) rfl (by kernel_rfl) (by kernel_rfl) (by kernel_rfl) (fun _ _ _ h => h) (Or.inr ⟨by rfl, rfl⟩) (by assumption) ?_
                        (try simp only [Act.put, List.setIfInBounds_toArray, List.set_cons_zero, List.set_cons_succ])
                        refine wpAnyH_takeL (i := 15) (v := ?v19) rfl (by kernel_rfl) (by kernel_rfl) (by kernel_rfl) (fun _ _ _ h => h) (Or.inl ⟨by rfl, ?y19⟩) (by assumption) ?r19
                        case y19 => (intro W hSw; (try dsimp only at hSw); go_simp; try with_reducible rfl)
                        (try simp only [Act.put, List.setIfInBounds_toArray, List.set_cons_zero, List.set_cons_succ])
                        refine wpAnyH_done (by kernel_rfl) ?_ _
                        obtain ⟨wz, hwz⟩ : ∃ wz, wz = wr.drew := ⟨_, rfl⟩
                        have hBz : Below wr.heap.size wr wz := by rw [hwz]; exact (Below.refl _ wr).drew
                        rw [← hwz]
                        clear hwz
                        replace hrow := own_below hrow.out hBz
                        replace hB := hB.trans (hBz.mono hBs)
                        replace hBs := hB.size
                        clear hBz
                        have hRn := Lib.hid (hrow.alloc (.cells #[.int .i64 fk, .string T, .int .i64 (k : Int)] 66))
                        have hNn : Hid (TkAt (wz.alloc (.cells #[.int .i64 fk, .string T, .int .i64 (k : Int)] 66)) wz.heap.size 0 (⟨fk, tb, k⟩ : Tk)) := Lib.hid (tk_lit wz 66 [(⟨fk, tb, k⟩ : Tk)] 0 _ rfl _ (by simp [tkC, Tk.cells, hTs.out]))
                        have hBn : w.heap.size ≤ (wz.alloc (.cells #[.int .i64 fk, .string T, .int .i64 (k : Int)] 66)).heap.size := by simp; omega
                        have hWn := Lib.hid (hB.alloc hBs (.cells #[.int .i64 fk, .string T, .int .i64 (k : Int)] 66))
                        replace hrow := Lib.hid hrow
                        clear hTs hT hdk hjs
                        go_wp2_with (at_builtin; refine wpList_append_tk _ rfl _ _ 32 rfl w.heap.size 66 i0 (.agg #[.int .i64 0, .string ⟨#[]⟩, .int .i64 0]) 32 Try.underlying32 hi hz0 hz1 hz2 rfl _ L.length (L.map Prod.fst) rfl hRn.out wz.heap.size 1 (⟨fk, tb, k⟩ : Tk) rfl hNn.out (by unfold maxLen; omega) (by omega) hBn ?_; intro v' w2 hown' hgrow; replace hown' := Lib.hid hown'; replace hgrow := Lib.hid hgrow)
                        have hv := hv0
                        go_roundw
                        case rel => exact ⟨j, L ++ [((⟨fk, tb, k⟩ : Tk), 0)], rfl, by omega, hv, by rw [List.length_append]; simp; omega, by rw [List.length_append, List.map_append]; exact hown'.out, hWn.out.grown hgrow.out hBn (fun j ej => hblk.out j ej)⟩
                        case measure => simp [intOf]; omega
                      · rw [if_neg he] at HP nw
                        have hv := Lib.hid (show YL = L ++ [((⟨0, [], k⟩ : Tk), fe)] from by rw [hI.out, yl_one, nw, if_pos (.inl he)])
                        have hbe : (fe == 0) = false := by rw [beq_eq_false_iff_ne]; exact he
                        replace he := Lib.hid he
                        clear nw hI hstep hf
                        go_wp2_with fail
                        refine Calls.mono (HP.out _) ?_
                        rintro e w1 ⟨rfl, hw1⟩
                        rw [hw1]
                        clear hw1 w1 HP
                        go_wp2_with fail
                        refine bodyPost_ret (v := .tuple #[.slice none 0 0, .int .i64 (k : Nat), .int .i64 fe]) (by simp [results, Try.results14, go_sem]) rfl ?_
                        first | exact ⟨L, ((⟨0, [], k⟩ : Tk), fe), hv.out, hB, .inr ⟨he.out, rfl⟩⟩ | exact ⟨L, (⟨0, [], k⟩ : Tk), fe, hv.out, hB, .inr ⟨he.out, rfl⟩⟩
      · rw [hsp] at HSp
        have hv := Lib.hid (show YL = L ++ yl (S.size + 1) (sb S) (k + 1) from by rw [hI.out, yl_step (nx_space hdx hsp)])
        replace hdx := Lib.hid hdx
        replace hrow := Lib.hid hrow
        clear hI
        go_wp2_with fail
        refine Calls.mono (HSp.out _) ?_
        rintro e w1 ⟨rfl, hw1⟩
        rw [hw1]
        clear hw1 w1
        go_wp2_with fail
        go_roundw
        case rel => exact ⟨k + 1, L, by go_num, by omega, hv, by omega, hrow.out, hB⟩
        case measure => simp [intOf]; omega
    · have hlI : ¬ (k : Int) < (S.size : Int) := by omega
      obtain rfl : k = S.size := by omega
      have hv := Lib.hid (show YL = L ++ [((⟨6, [], S.size⟩ : Tk), (0 : Int))] from by
        rw [hI.out, yl_one, nx_over (List.drop_eq_nil_of_le (by omega)), if_pos (.inr rfl)])
      have hRn := Lib.hid (hrow.alloc (.cells #[.int .i64 6, .string ⟨#[]⟩, .int .i64 (S.size : Int)] 66))
      have hNn : Hid (TkAt (wr.alloc (.cells #[.int .i64 6, .string ⟨#[]⟩, .int .i64 (S.size : Int)] 66)) wr.heap.size 0 (⟨6, [], S.size⟩ : Tk)) := Lib.hid (tk_lit wr 66 [(⟨6, [], S.size⟩ : Tk)] 0 _ rfl _ rfl)
      have hBn : w.heap.size ≤ (wr.alloc (.cells #[.int .i64 6, .string ⟨#[]⟩, .int .i64 (S.size : Int)] 66)).heap.size := by simp; omega
      have hWn := Lib.hid (hB.alloc hBs (.cells #[.int .i64 6, .string ⟨#[]⟩, .int .i64 (S.size : Int)] 66))
      replace hrow := Lib.hid hrow
      go_wp2_with (at_builtin; refine wpList_append_tk _ rfl _ _ 32 rfl w.heap.size 66 i0 (.agg #[.int .i64 0, .string ⟨#[]⟩, .int .i64 0]) 32 Try.underlying32 hi hz0 hz1 hz2 rfl _ L.length (L.map Prod.fst) rfl hRn.out wr.heap.size 1 (⟨6, [], S.size⟩ : Tk) rfl hNn.out (by unfold maxLen; omega) (by omega) hBn ?_; intro v' w2 hown' hgrow; replace hown' := Lib.hid hown'; replace hgrow := Lib.hid hgrow)
      obtain ⟨A9, c9, rfl⟩ := lx_slice hown'.out
      refine bodyPost_ret (v := .tuple #[.slice A9 (L.length + 1) c9, .int .i64 0, .int .i64 0]) (by simp [results, Try.results14, go_sem]) rfl ?_
      refine ⟨L, ⟨6, [], S.size⟩, 0, hv.out, hWn.out.grown hgrow.out hBn (fun j ej => hblk.out j ej), .inl ⟨rfl, A9, c9, rfl, ?_⟩⟩
      first | exact hown'.out | (rw [List.map_append]; exact hown'.out)
end Go.Proofs.Ytpeeekgfcofbkaa
