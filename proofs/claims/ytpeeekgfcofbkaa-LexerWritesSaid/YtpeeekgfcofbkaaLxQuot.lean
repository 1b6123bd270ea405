/-
  STRINGS IN QUOTATION MARKS, as the program reads them.
-/
import Derived.Test.YtpeeekgfcofbkaaLxItem
namespace Go.Proofs.Ytpeeekgfcofbkaa
open Go.RowKit

/-- a token: its kind, its text, its place -/
structure Tk where
  k : Int
  t : List Int
  p : Nat
def Tk.val (x : Tk) : Value := .agg #[.int .i64 x.k, .string (strOfNums x.t), .int .i64 (x.p : Nat)]
def Tk.cells (x : Tk) : List Value := [.int .i64 x.k, .string (strOfNums x.t), .int .i64 (x.p : Nat)]
def qdGo : Nat → Nat → List Int → List Int → Tk × Nat × Int
  | 0, i, _, _ => (⟨0, [], i⟩, 0, 3)
  | _ + 1, i, _, [] => (⟨0, [], i⟩, 0, 3)
  | f + 1, i, acc, c :: r => if c = 34 then (⟨5, acc, 0⟩, i + 1, 0) else if (itemF (c :: r)).2.2 = 2 then (⟨0, [], i⟩, 0, 2) else if (itemF (c :: r)).2.2 = 3 then (⟨0, [], i + (c :: r).length⟩, 0, 3) else qdGo f (i + (itemF (c :: r)).2.1) (acc ++ [(itemF (c :: r)).1]) ((c :: r).drop (itemF (c :: r)).2.1)
theorem numGo_ok : ∀ (n : Nat) (acc : Int) (l : List Int), (numGo n acc l).2.2 = 0 ∨ (numGo n acc l).2.2 = 2 ∨ (numGo n acc l).2.2 = 3
  | 0, _, _ => .inl rfl
  | _ + 1, _, [] => .inr (.inr rfl)
  | n + 1, acc, x :: r => by
    unfold numGo
    split
    · exact numGo_ok n _ r
    · exact .inr (.inl rfl)
theorem num_two {l : List Int} (h8 : Bytes8 l) (h : (numGo 2 0 l).2.2 = 0) : (numGo 2 0 l).2.1 = 4 ∧ 2 ≤ l.length ∧ 0 ≤ (numGo 2 0 l).1 ∧ (numGo 2 0 l).1 < 256 := by
  have hh : ∀ z : Int, 0 ≤ z ∧ z < 256 → inR HEX z = true → 0 ≤ hv z ∧ hv z < 16 := fun z hz hi => by
    have := hex_ix (c := z.toNat) (by omega) (by rw [show ((z.toNat : Nat) : Int) = z by omega]; exact hi)
    rw [show ((z.toNat : Nat) : Int) = z by omega] at this
    exact this.2
  match l with
  | [] => cases h
  | [x] =>
    unfold numGo at h
    split at h
    · cases h
    · cases h
  | x :: y :: r =>
    by_cases h1 : inR HEX x = true
    · by_cases h2 : inR HEX y = true
      · have e : numGo 2 0 (x :: y :: r) = ((0 * 16 + hv x) * 16 + hv y, 4, 0) := by
          show (if inR HEX x then numGo 1 (0 * 16 + hv x) (y :: r) else _) = _
          rw [if_pos h1]
          show (if inR HEX y then numGo 0 ((0 * 16 + hv x) * 16 + hv y) r else _) = _
          rw [if_pos h2]
          rfl
        have a1 := hh x (h8 x (by simp)) h1
        have a2 := hh y (h8 y (by simp)) h2
        rw [e]
        refine ⟨rfl, by simp, ?_, ?_⟩
        · show 0 ≤ (0 * 16 + hv x) * 16 + hv y; omega
        · show (0 * 16 + hv x) * 16 + hv y < 256; omega
      · exfalso
        have e : numGo 2 0 (x :: y :: r) = (0, 0, 2) := by
          show (if inR HEX x then numGo 1 (0 * 16 + hv x) (y :: r) else _) = _
          rw [if_pos h1]
          show (if inR HEX y then numGo 0 ((0 * 16 + hv x) * 16 + hv y) r else _) = _
          rw [if_neg h2]
        rw [e] at h
        cases h
    · exfalso
      have e : numGo 2 0 (x :: y :: r) = (0, 0, 2) := by
        show (if inR HEX x then numGo 1 (0 * 16 + hv x) (y :: r) else _) = _
        rw [if_neg h1]
      rw [e] at h
      cases h
theorem item_ok {c : Int} {r : List Int} (h8 : Bytes8 (c :: r)) : ((itemF (c :: r)).2.2 = 0 ∨ (itemF (c :: r)).2.2 = 2 ∨ (itemF (c :: r)).2.2 = 3) ∧ ((itemF (c :: r)).2.2 = 0 → 1 ≤ (itemF (c :: r)).2.1 ∧ (itemF (c :: r)).2.1 ≤ (c :: r).length ∧ 0 ≤ (itemF (c :: r)).1 ∧ (itemF (c :: r)).1 < 256) := by
  have hc := h8 c (by simp)
  rw [itemF_cons]
  by_cases h1 : inR PLAIN c = true
  · rw [if_pos h1]
    exact ⟨.inl rfl, fun _ => ⟨Nat.le_refl _, by simp, hc.1, hc.2⟩⟩
  · rw [if_neg h1]
    by_cases h2 : c ≠ 92
    · rw [if_pos h2]
      exact ⟨.inr (.inl rfl), fun h => by cases h⟩
    · rw [if_neg h2]
      cases r with
      | nil => exact ⟨.inr (.inr rfl), fun h => by cases h⟩
      | cons d q =>
        have hd := h8 d (by simp)
        rw [itemG_cons]
        by_cases h3 : d = 34 ∨ d = 92
        · rw [if_pos h3]
          exact ⟨.inl rfl, fun _ => ⟨by show 1 ≤ 2; omega, by show 2 ≤ _; simp, hd.1, hd.2⟩⟩
        · rw [if_neg h3]
          by_cases h4 : d = 120
          · rw [if_pos h4]
            refine ⟨numGo_ok _ _ _, fun h => ?_⟩
            obtain ⟨a1, a2, a3, a4⟩ := num_two (l := q) (fun z hz => h8 z (by simp [hz])) h
            rw [a1]
            exact ⟨by omega, by simp; omega, a3, a4⟩
          · rw [if_neg h4]
            exact ⟨.inr (.inl rfl), fun h => by cases h⟩
theorem num_size : ∀ (n : Nat) (acc : Int) (l : List Int), (numGo n acc l).2.2 = 0 → (numGo n acc l).2.1 = 4
  | 0, _, _, _ => rfl
  | _ + 1, _, [], h => by cases h
  | n + 1, acc, x :: r, h => by
    unfold numGo at h ⊢
    split
    · rename_i hx
      rw [if_pos hx] at h
      exact num_size n _ r h
    · rename_i hx
      rw [if_neg hx] at h
      cases h
theorem item_pos (c : Int) (r : List Int) : (itemF (c :: r)).2.2 = 2 ∨ (itemF (c :: r)).2.2 = 3 ∨ 1 ≤ (itemF (c :: r)).2.1 := by
  rw [itemF_cons]
  by_cases h1 : inR PLAIN c = true
  · rw [if_pos h1]; exact .inr (.inr (Nat.le_refl _))
  · rw [if_neg h1]
    by_cases h2 : c ≠ 92
    · rw [if_pos h2]; exact .inl rfl
    · rw [if_neg h2]
      cases r with
      | nil => exact .inr (.inl rfl)
      | cons d q =>
        rw [itemG_cons]
        by_cases h3 : d = 34 ∨ d = 92
        · rw [if_pos h3]; exact .inr (.inr (by show 1 ≤ 2; omega))
        · rw [if_neg h3]
          by_cases h4 : d = 120
          · rw [if_pos h4]
            rcases numGo_ok 2 0 q with h | h | h
            · exact .inr (.inr (by rw [num_size 2 0 q h]; omega))
            · exact .inl h
            · exact .inr (.inl h)
          · rw [if_neg h4]; exact .inl rfl
theorem lx_lit (w : World) (v : Int) : RdI (w.alloc (.cells #[.int .u8 v] 5)) (w.alloc (.cells #[.int .u8 v] 5)).heap.size .u8 (some ⟨w.heap.size, 0, none⟩) [v] := by
  refine .inr ⟨_, _, rfl, by simp, fun j hj => ?_⟩
  obtain rfl : j = 0 := by simpa using hj
  rw [cell_of_row _ _ _ _ _ _ (heap_alloc_new w _)]
  rfl
theorem lx_conv (A : Option Addr) (n c : Nat) (zs : List Int) (W : World) (B : Nat) (hn : zs.length = n) (hr : RdI W B .u8 A zs) :
    (convert 24 9 (.slice A n c)).run Try.prog W = .ok (.string (strOfNums zs)) W := by
  cases A with
  | none =>
    rcases hr with rfl | ⟨b, o, e, _⟩
    · exact run_convert_bytes_nil W 24 5 Try.underlying24 Try.underlying5 n c 9 Try.underlying9
    · cases e
  | some x =>
    have hl : (loadCells x n).run Try.prog W = .ok (zs.map (Value.int .u8)).toArray W := by
      have hc := rd_cells hr zs.length
      rw [List.take_length] at hc
      have := run_loadCells_list (P := Try.prog) W x (zs.map (Value.int .u8)) (fun j v hj => hc j v hj)
      simpa [hn] using this
    rw [run_convert_bytes_string W 24 9 5 _ n c Try.underlying24 Try.underlying5 Try.underlying9, run_bytesToString W _ n c zs hl, foldl_push_bytes]
    simp [strOfNums, ByteArray.empty, ByteArray.emptyWithCapacity]
    rfl
theorem three_at3 {w : World} {b : Nat} {t : TypeId} {c0 c1 c2 : Value} (hb : w.heap[b]? = some (.cells #[c0, c1, c2] t (0, 0))) :
    (w.cell? ⟨b, 0, none⟩ = some c0 ∧ w.cell? ⟨b, 1, none⟩ = some c1 ∧ w.cell? ⟨b, 2, none⟩ = some c2) ∧ ∀ i, w.frozen? ⟨b, i, none⟩ = false :=
  ⟨⟨by rw [cell_of_row w b 0 _ t _ hb]; rfl, by rw [cell_of_row w b 1 _ t _ hb]; rfl, by rw [cell_of_row w b 2 _ t _ hb]; rfl⟩, fun i => by simp [World.frozen?, hb]⟩
theorem set3_below {n : Nat} {w W : World} {N : Nat} (h : Below n w W) (hN : n ≤ N) (c0 c1 c2 : Value) : Below n w (((W.setCell ⟨N, 0, none⟩ c0).setCell ⟨N, 1, none⟩ c1).setCell ⟨N, 2, none⟩ c2) :=
  ((h.setCell (p := ⟨N, 0, none⟩) hN c0).setCell (p := ⟨N, 1, none⟩) hN c1).setCell (p := ⟨N, 2, none⟩) hN c2
theorem lx_slice {w : World} {base : Nat} {e : TypeId} {size n : Nat} {v : Value} {xs : List Value} (h : w.ownsRow base e size v n xs) : ∃ A c, v = .slice A n c := by
  rcases h.2 with ⟨rfl, h0⟩ | ⟨g, cap, cur, rfl, _⟩
  · exact ⟨none, 0, by rw [h0]⟩
  · exact ⟨_, _, rfl⟩
theorem lx_blk {w : World} {base n size : Nat} {e : TypeId} {v : Value} {xs : List Value} (h : w.ownsRow base e size v n xs) : ∀ j, v.ownBlock = some j → base ≤ j := fun j hj => by
  rcases h.2 with ⟨hv, _⟩ | ⟨g, cap, cur, hv, hbg, hg, hr⟩
  · subst hv; simp [Value.ownBlock] at hj
  · subst hv
    obtain rfl : g = j := by simpa [Value.ownBlock] using hj
    exact hbg
/-- steps beyond the text's length change nothing -/
theorem qd_fuel : ∀ {f g : Nat} (i : Nat) (acc : List Int) (l : List Int), l.length ≤ f → l.length ≤ g → qdGo f i acc l = qdGo g i acc l := by
  intro f
  induction f with
  | zero =>
    intro g i acc l hf hg
    have : l = [] := List.length_eq_zero_iff.1 (by omega)
    subst this
    cases g <;> rfl
  | succ f ih =>
    intro g i acc l hf hg
    cases l with
    | nil => cases g <;> rfl
    | cons c r =>
      cases g with
      | zero => simp at hg
      | succ g =>
        show (if c = 34 then _ else if (itemF (c :: r)).2.2 = 2 then _ else if (itemF (c :: r)).2.2 = 3 then _ else qdGo f _ _ _) = (if c = 34 then _ else if (itemF (c :: r)).2.2 = 2 then _ else if (itemF (c :: r)).2.2 = 3 then _ else qdGo g _ _ _)
        have h1 := item_pos c r
        simp only [List.length_cons] at hf hg
        split
        · rfl
        · split
          · rfl
          · split
            · rfl
            · have h2 : 1 ≤ (itemF (c :: r)).2.1 := by
                rcases h1 with h1 | h1 | h1
                · contradiction
                · contradiction
                · exact h1
              exact ih _ _ _ (by rw [List.length_drop, List.length_cons]; omega) (by rw [List.length_drop, List.length_cons]; omega)
/-- what reads a token hands back -/
def TkPost (w : World) (V : Tk × Nat × Int) (e : Ending) (w' : World) : Prop := e = .returned (.tuple #[V.1.val, .int .i64 (V.2.1 : Nat), .int .i64 V.2.2]) ∧ Below w.heap.size w w'
set_option maxHeartbeats 4000000 in
set_option maxRecDepth 100000 in
theorem quoted_any (s : ByteArray) (w : World) (h1 : 1 ≤ s.size) (hs : s.size ≤ 100000000) : Calls Try.prog 61 #[.string s] w (TkPost w (qdGo (s.size - 1) 1 [] ((sb s).drop 1))) := by
  obtain ⟨i0, hi, hz0, hz1, hz2⟩ := info_parts info_u8
  have hl := sb_length s
  obtain ⟨V, hV⟩ : ∃ V, V = qdGo (s.size - 1) 1 [] ((sb s).drop 1) := ⟨_, rfl⟩
  rw [← hV]
  replace hV := Lib.hid hV
  have h8 := Lib.hid (sb_bytes s)
  have hb0 := heap_alloc_new w (.cells #[.int .i64 0, .string ⟨#[]⟩, .int .i64 0] 43)
  have hB0 := (Below.refl w.heap.size w).alloc (Nat.le_refl _) (.cells #[.int .i64 0, .string ⟨#[]⟩, .int .i64 0] 43)
  have hz : (w.alloc (.cells #[.int .i64 0, .string ⟨#[]⟩, .int .i64 0] 43)).heap.size = w.heap.size + 1 := by simp
  go_enter Try.func61, Try.ntmps61
  go_wp2_with fail
  go_loopw [5, 6] (fun t i wr => ∃ (k : Nat) (acc : List Int), i = .int .i64 (k : Int) ∧ 1 ≤ k ∧ k ≤ s.size ∧ acc.length ≤ k ∧ wr.ownsRow (w.heap.size + 1) 5 1 t acc.length (acc.map (Value.int .u8)) ∧ wr.heap[w.heap.size]? = some (.cells #[.int .i64 0, .string ⟨#[]⟩, .int .i64 0] 43 (0, 0)) ∧ Below w.heap.size w wr ∧ w.heap.size + 1 ≤ wr.heap.size ∧ Hid (V = qdGo (s.size - k) k acc ((sb s).drop k))) (fun _ i _ => s.size - (intOf i).toNat)
  case atStart => exact ⟨1, [], rfl, Nat.le_refl _, h1, Nat.zero_le _, World.ownsRow_nil _ _ _ _, hb0, hB0, by omega, hV⟩
  case round =>
    obtain ⟨k, acc, rfl, hk1, hks, hak, hrow, hbN, hW, hsz, hI⟩ := hrel
    obtain ⟨⟨p0, p1, p2⟩, hf⟩ := three_at3 hbN
    clear hb0 hB0 hz
    by_cases hlt : k < s.size
    · have hlI : (k : Int) < (s.size : Int) := by omega
      obtain ⟨x, hx, hdx, ix⟩ := sb_get s k hlt
      obtain ⟨f, hfu⟩ : ∃ f, s.size - k = f + 1 := ⟨s.size - k - 1, by omega⟩
      have hdk := Lib.hid (show sb (s.extract k s.size) = (x : Int) :: (sb s).drop (k + 1) from by rw [sb_from, hdx])
      have h8k : Bytes8 ((x : Int) :: (sb s).drop (k + 1)) := by rw [← hdx]; exact fun z hz => h8.out z (List.mem_of_mem_drop hz)
      have hll : ((x : Int) :: (sb s).drop (k + 1)).length = s.size - k := by rw [← hdx, List.length_drop, hl]
      have hI2 := hI.out
      rw [hdx, hfu] at hI2
      replace hdx := Lib.hid hdx
      by_cases hx34 : x = 34
      · subst hx34
        have hv := Lib.hid (show V = (⟨5, acc, 0⟩, k + 1, 0) from by rw [hI2]; rfl)
        obtain ⟨A, c, rfl⟩ := lx_slice hrow
        have hcv := lx_conv A acc.length c acc wr wr.heap.size rfl (rd_own hrow)
        replace hrow := Lib.hid hrow
        replace hbN := Lib.hid hbN
        clear hI2
        replace hll := Lib.hid hll
        go_wp2_with fail
        refine bodyPost_ret (v := .tuple #[.agg #[.int .i64 5, .string (strOfNums acc), .int .i64 0], .int .i64 ((k : Int) + 1), .int .i64 0]) (by simp [results, Try.results61, go_sem, p0, p1, p2]) rfl ?_
        rw [hv.out]
        exact ⟨rfl, set3_below hW (Nat.le_refl _) _ _ _⟩
      · have hxb : ((x : Int) == 34) = false := by rw [beq_eq_false_iff_ne]; omega
        have hq : V = (if (itemF ((x : Int) :: (sb s).drop (k + 1))).2.2 = 2 then (⟨0, [], k⟩, 0, 2) else if (itemF ((x : Int) :: (sb s).drop (k + 1))).2.2 = 3 then (⟨0, [], k + ((x : Int) :: (sb s).drop (k + 1)).length⟩, 0, 3) else qdGo f (k + (itemF ((x : Int) :: (sb s).drop (k + 1))).2.1) (acc ++ [(itemF ((x : Int) :: (sb s).drop (k + 1))).1]) (((x : Int) :: (sb s).drop (k + 1)).drop (itemF ((x : Int) :: (sb s).drop (k + 1))).2.1)) := by
          rw [hI2]
          exact if_neg (by omega)
        have HIt := Lib.hid (item_any (s.extract k s.size) wr (by rw [ByteArray.size_extract]; omega) (by rw [ByteArray.size_extract]; omega))
        rw [hdk.out] at HIt
        obtain ⟨c1, c2⟩ := item_ok h8k
        rw [hll] at hq c2
        have hdn : ∀ m, ((x : Int) :: (sb s).drop (k + 1)).drop m = (sb s).drop (k + m) := fun m => by rw [← hdx.out, List.drop_drop]
        rw [hdn] at hq
        clear hdn
        generalize itemF ((x : Int) :: (sb s).drop (k + 1)) = it at *
        obtain ⟨v1, v2, v3⟩ := it
        simp only at hq c1 c2 HIt
        replace hx34 := Lib.hid hx34
        replace hll := Lib.hid hll
        replace hq := Lib.hid hq
        clear hI2
        rcases c1 with rfl | rfl | rfl
        · obtain ⟨d1, d2, d3, d4⟩ := c2 rfl
          have hv := Lib.hid (show V = qdGo (s.size - (k + v2)) (k + v2) (acc ++ [v1]) ((sb s).drop (k + v2)) from by
            have h1 := hq.out
            rw [if_neg (by decide), if_neg (by decide)] at h1
            rw [h1]
            by_cases he : k + v2 = s.size
            · have hd0 : (sb s).drop (k + v2) = [] := List.drop_eq_nil_of_le (by rw [hl]; omega)
              rw [hd0, he, Nat.sub_self]
              cases f <;> rfl
            · exact qd_fuel _ _ _ (by rw [List.length_drop, hl]; omega) (by rw [List.length_drop, hl]; omega))
          have hRn := Lib.hid (hrow.alloc (.cells #[.int .u8 v1] 5))
          have hNn := Lib.hid (lx_lit wr v1)
          have hBn : w.heap.size + 1 ≤ (wr.alloc (.cells #[.int .u8 v1] 5)).heap.size := by simp; omega
          have hWn := hW.alloc hW.size (.cells #[.int .u8 v1] 5)
          have hbn := (heap_alloc_old wr (.cells #[.int .u8 v1] 5) _ (by omega)).trans hbN
          replace hWn := Lib.hid hWn
          replace hbn := Lib.hid hbn
          replace hbN := Lib.hid hbN
          replace hrow := Lib.hid hrow
          have hv2 : (v2 : Int) ≤ (s.size : Int) - (k : Int) := by omega
          go_wp2_with fail
          refine Calls.mono HIt.out ?_
          rintro e w1 ⟨rfl, hw⟩
          rw [hw]
          clear hw
          go_wp2_with (at_builtin; refine wpList_append_rd _ rfl _ _ 24 rfl (w.heap.size + 1) 5 i0 (.int .u8 0) 1 1 Try.underlying24 hi hz0 hz1 hz2 rfl rfl (by decide) _ acc.length _ rfl hRn.out .u8 (some ⟨wr.heap.size, 0, none⟩) 1 1 [v1] rfl rfl (fun h => by cases h) (Nat.le_refl _) hNn.out (by unfold maxLen; omega) (by omega) hBn ?_; intro v' w2 hown' hgrow; replace hown' := Lib.hid hown'; replace hgrow := Lib.hid hgrow)
          go_roundw
          case rel =>
            have hge := lx_blk hrow.out
            refine ⟨k + v2, acc ++ [v1], by go_num, by omega, by omega, by rw [List.length_append]; simp; omega, ?_, ?_, hWn.out.grown hgrow.out hWn.out.size (fun j ej => by have := hge j ej; omega), ?_, hv⟩
            · rw [List.length_append, List.map_append]; exact hown'.out
            · exact (hgrow.out.block _ (by omega) (fun e => by have := hge _ e.symm; omega)).trans hbn.out
            · exact Nat.le_trans hBn hgrow.out.size
          case measure => simp [intOf]; omega
        · have hv := Lib.hid (show V = (⟨0, [], k⟩, 0, 2) from by rw [hq.out, if_pos rfl])
          clear c2 hq
          replace hrow := Lib.hid hrow
          replace hbN := Lib.hid hbN
          go_wp2_with fail
          refine Calls.mono HIt.out ?_
          rintro e w1 ⟨rfl, hw⟩
          rw [hw]
          clear hw
          go_wp2_with fail
          refine bodyPost_ret (v := .tuple #[.agg #[.int .i64 0, .string ⟨#[]⟩, .int .i64 (k : Int)], .int .i64 0, .int .i64 2]) (by simp [results, Try.results61, go_sem, p0, p1, p2]) rfl ?_
          rw [hv.out]
          exact ⟨rfl, set3_below hW (Nat.le_refl _) _ _ _⟩
        · have hv := Lib.hid (show V = (⟨0, [], s.size⟩, 0, 3) from by rw [hq.out, if_neg (by decide), if_pos rfl, show k + (s.size - k) = s.size by omega])
          clear c2 hq
          replace hrow := Lib.hid hrow
          replace hbN := Lib.hid hbN
          go_wp2_with fail
          refine Calls.mono HIt.out ?_
          rintro e w1 ⟨rfl, hw⟩
          rw [hw]
          clear hw
          go_wp2_with fail
          refine bodyPost_ret (v := .tuple #[.agg #[.int .i64 0, .string ⟨#[]⟩, .int .i64 (s.size : Int)], .int .i64 0, .int .i64 3]) (by simp [results, Try.results61, go_sem, p0, p1, p2]) rfl ?_
          rw [hv.out]
          exact ⟨rfl, set3_below hW (Nat.le_refl _) _ _ _⟩
    · have hlI : ¬ (k : Int) < (s.size : Int) := by omega
      have hv := Lib.hid (show V = (⟨0, [], s.size⟩, 0, 3) from by rw [hI.out, show s.size - k = 0 by omega, show k = s.size by omega]; rfl)
      replace hrow := Lib.hid hrow
      replace hbN := Lib.hid hbN
      go_wp2_with fail
      refine bodyPost_ret (v := .tuple #[.agg #[.int .i64 0, .string ⟨#[]⟩, .int .i64 (s.size : Int)], .int .i64 0, .int .i64 3]) (by simp [results, Try.results61, go_sem, p0, p1, p2]) rfl ?_
      rw [hv.out]
      exact ⟨rfl, set3_below hW (Nat.le_refl _) _ _ _⟩
end Go.Proofs.Ytpeeekgfcofbkaa
