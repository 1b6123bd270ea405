/-
  THE WALK of the reference's Vals once more: its values are small.
-/
import Derived.Test.YtebfgdonikedaaaVals
namespace Go.Proofs.Ytebfgdonikedaaa
open Go.RowKit

def Vl.small (x : Vl) : Prop := x.b.length ≤ 10 ∧ x.l.length ≤ 5
theorem small_snoc {ts : List Vt} {t : Vt} (h : Hid (∀ t ∈ ts, Vl.small t.x)) (ht : Vl.small t.x) : Hid (∀ t' ∈ ts ++ [t], Vl.small t'.x) := Lib.hid (fun t' h' => by
  rcases List.mem_append.1 h' with h1 | h1
  · exact h.out t' h1
  · obtain rfl := List.mem_singleton.1 h1; exact ht)
def ValsPostS (w : World) (e : Ending) (w' : World) : Prop :=
  ∃ (v : Value) (ts : List Vt), e = .returned v ∧ ts.length ≤ 8 ∧ w'.ownsRow w.heap.size 28 5 v ts.length (ts.flatMap Vt.cells) ∧ (∀ t ∈ ts, t.x.ok ∧ t.x.canon ∧ t.owns w' w.heap.size) ∧ (∀ t ∈ ts, Vl.small t.x) ∧ Below w.heap.size w w'
theorem enc_small {x : Vl} (h : x.ok) (hs : x.small) : x.enc.length ≤ 60 := by
  obtain ⟨⟨_, _⟩, o3, o4, o5, o6, o7, o8⟩ := h
  obtain ⟨s1, s2⟩ := hs
  unfold Vl.enc
  have hu : (uv x.u.toNat).length ≤ 10 := uv_length_64 (by unfold U64 at o3; omega)
  have hn : (uv (zz x.n)).length ≤ 10 := uv_length_64 (zz_lt o4.1 o4.2)
  have hb : (raw x.b).length ≤ 60 := by
    unfold raw
    rw [List.length_append]
    have := uv_length_64 (n := x.b.length) (by omega)
    omega
  have hl : (ints x.l).length ≤ 60 := by
    unfold ints
    rw [List.length_append]
    have := uv_length_64 (n := x.l.length) (by omega)
    have := flat_len o6
    omega
  split
  · omega
  · split
    · omega
    · split
      · simp [bool1]
      · split
        · exact hb
        · exact hl
theorem encs_small {xs : List Vl} (h : ∀ x ∈ xs, x.ok ∧ x.small) : (encs xs).length ≤ 60 * xs.length := by
  unfold encs
  induction xs with
  | nil => simp
  | cons x xs ih =>
    have h1 := enc_small (h x (by simp)).1 (h x (by simp)).2
    have h2 := ih (fun y hy => h y (by simp [hy]))
    simp only [List.map_cons, List.flatten_cons, List.length_append, List.length_cons]
    omega

set_option maxRecDepth 100000 in
set_option maxHeartbeats 4000000 in
theorem wVals_small (A : Option Addr) (n c : Nat) (zs : List Int) (w : World) (hn : n = zs.length) (hz : zs.length ≤ maxLen) (hi64 : ∀ z ∈ zs, I64 z) (hr : RdI w w.heap.size .i64 A zs) :
    Calls Try.prog 11 #[.slice A n c] w (ValsPostS w) := by
  subst hn
  unfold maxLen at hz
  obtain ⟨i0, hi, hz0, hz1, hz2⟩ := info_parts info_val
  obtain ⟨j0, hj, hj0, hj1, hj2⟩ := info_parts info_u8
  obtain ⟨l0, hli, hli0, hli1, hli2⟩ := info_parts info_int
  go_enter Try.func11, Try.ntmps11
  go_wp2
  go_loopw [3, 4] (fun v i wr => ∃ (k : Nat) (ts : List Vt), k ≤ zs.length ∧ k ≤ 8 ∧ i = .int .i64 k ∧ Hid (ts.length = k) ∧ wr.ownsRow w.heap.size 28 5 v k (ts.flatMap Vt.cells) ∧ Hid (∀ t ∈ ts, t.x.ok ∧ t.x.canon ∧ t.owns wr w.heap.size) ∧ Hid (∀ t ∈ ts, Vl.small t.x) ∧ Below w.heap.size w wr) (fun _ i _ => 8 - (intOf i).toNat)
  case atStart => exact ⟨0, [], Nat.zero_le _, Nat.zero_le _, rfl, Lib.hid rfl, World.ownsRow_nil _ _ _ _, Lib.hid (by simp), Lib.hid (by simp), Below.refl _ _⟩
  case round =>
    obtain ⟨k, ts, hk, hk8, rfl, hts, hrow, hgood, hsml, hW⟩ := hrel
    obtain ⟨wo, rfl⟩ : ∃ wo : World, wo = wr := ⟨_, rfl⟩
    have hsz := hW.size
    by_cases hlt : k < zs.length ∧ k < 8
    · obtain ⟨hl1, hl2⟩ := hlt
      obtain ⟨b, o, rfl, hb, hck0⟩ := hr.at_ hl1
      have hck := (hW.cell (p := ⟨b, o + k, none⟩) hb).trans hck0
      have hxi : I64 (zs[k]?.getD 0) := by rw [List.getElem?_eq_getElem hl1]; exact hi64 _ (List.getElem_mem hl1)
      obtain ⟨x, hx⟩ : ∃ x, x = zs[k]?.getD 0 := ⟨_, rfl⟩
      rw [← hx] at hck hxi
      clear hx hck0 hr hi64
      obtain ⟨q, hq, hA1⟩ := Around_nat x 6 hxi (by decide) (by decide)
      obtain ⟨p, hp, hA2⟩ := Around_nat (wrap64 (x.tdiv 6)) 63 (by unfold I64 wrap64; omega) (by decide) (by decide)
      have hbw : b < wo.heap.size := by omega
      have tok0 : True := trivial
      have hqq : q = 0 ∨ q = 1 ∨ q = 2 ∨ q = 3 ∨ q = 4 ∨ q = 5 := by omega
      clear hq
      rcases hqq with rfl | rfl | rfl | rfl | rfl | rfl
      · have HU : Hid (U64 (IntKind.u64.wrap x / 2 ^ p) ∧ I64 (0)) := Lib.hid ⟨shr_u64 x p, ⟨by decide, by decide⟩⟩
        go_wp2_with (first
          | (go_at_call 19; have _t := tok0; refine (hA1 _).mono ?_; clear hA1 tok0; rintro e w' ⟨rfl, rfl⟩; have tok1 : True := trivial)
          | (go_at_call 19; have _t := tok1; refine (hA2 _).mono ?_; clear hA2 tok1; rintro e w' ⟨rfl, rfl⟩; have tok2 : True := trivial)
          | (at_builtin; have _t := tok2; refine wpList_append_own _ rfl (.tmp 101) (.tmp 103) 25 rfl w.heap.size 28 i0 (.agg #[.int .i64 0, .int .u64 0, .int .i64 0, .slice none 0 0, .slice none 0 0]) 5 72 Try.underlying25 hi hz0 hz1 hz2 rfl (by decide) _ k _ rfl ((hrow.alloc _).alloc _) ⟨wo.heap.size + 1, 0, none⟩ 1 1 (Vt.cells ⟨⟨0, IntKind.u64.wrap x / 2 ^ p, 0, [], []⟩, .slice none 0 0, .slice none 0 0⟩) rfl rfl (World.news_of_block (cs := #[.int .i64 0, .int .u64 (IntKind.u64.wrap x / 2 ^ p), .int .i64 (0), .slice none 0 0, .slice none 0 0]) (t := 28) (fr := (0, 0)) (heap_alloc_new_at _ _ (by simp))) (by simp [Vt.cells, Value.oneCell']) (by unfold maxLen; omega) (by omega) (by simp; omega) ?_; clear tok2; intro v' w3 hown' hgrow _))
        go_roundw
        case rel =>
          obtain ⟨r1, r2, r3, r4⟩ := vals_step (t := ⟨⟨0, IntKind.u64.wrap x / 2 ^ p, 0, [], []⟩, .slice none 0 0, .slice none 0 0⟩) hts.out hrow hgood.out hW hsz (ok_nums (by decide) (by decide) HU.out.1 HU.out.2) (by simp [Vl.canon]) ((Below.refl _ _).alloc (Nat.le_refl _) _) ⟨World.ownsRow_nil _ _ _ _, World.ownsRow_nil _ _ _ _⟩ hgrow hown'
          exact ⟨k + 1, ts ++ [⟨⟨0, IntKind.u64.wrap x / 2 ^ p, 0, [], []⟩, .slice none 0 0, .slice none 0 0⟩], by omega, by omega, by go_num, r1, r2, r3, small_snoc hsml (by first | exact ⟨Nat.zero_le _, Nat.zero_le _⟩ | exact ⟨by have := hbl.out; simp only; omega, Nat.zero_le _⟩ | exact ⟨Nat.zero_le _, by have := hbl.out; simp only; omega⟩), r4⟩
        case measure => simp only [intOf]; omega
      · have HU : Hid (U64 (0) ∧ I64 (x / 2 ^ p)) := Lib.hid ⟨⟨by decide, by decide⟩, shr_i64 hxi p⟩
        go_wp2_with (first
          | (go_at_call 19; have _t := tok0; refine (hA1 _).mono ?_; clear hA1 tok0; rintro e w' ⟨rfl, rfl⟩; have tok1 : True := trivial)
          | (go_at_call 19; have _t := tok1; refine (hA2 _).mono ?_; clear hA2 tok1; rintro e w' ⟨rfl, rfl⟩; have tok2 : True := trivial)
          | (at_builtin; have _t := tok2; refine wpList_append_own _ rfl (.tmp 101) (.tmp 103) 25 rfl w.heap.size 28 i0 (.agg #[.int .i64 0, .int .u64 0, .int .i64 0, .slice none 0 0, .slice none 0 0]) 5 72 Try.underlying25 hi hz0 hz1 hz2 rfl (by decide) _ k _ rfl ((hrow.alloc _).alloc _) ⟨wo.heap.size + 1, 0, none⟩ 1 1 (Vt.cells ⟨⟨1, 0, x / 2 ^ p, [], []⟩, .slice none 0 0, .slice none 0 0⟩) rfl rfl (World.news_of_block (cs := #[.int .i64 1, .int .u64 (0), .int .i64 (x / 2 ^ p), .slice none 0 0, .slice none 0 0]) (t := 28) (fr := (0, 0)) (heap_alloc_new_at _ _ (by simp))) (by simp [Vt.cells, Value.oneCell']) (by unfold maxLen; omega) (by omega) (by simp; omega) ?_; clear tok2; intro v' w3 hown' hgrow _))
        go_roundw
        case rel =>
          obtain ⟨r1, r2, r3, r4⟩ := vals_step (t := ⟨⟨1, 0, x / 2 ^ p, [], []⟩, .slice none 0 0, .slice none 0 0⟩) hts.out hrow hgood.out hW hsz (ok_nums (by decide) (by decide) HU.out.1 HU.out.2) (by simp [Vl.canon]) ((Below.refl _ _).alloc (Nat.le_refl _) _) ⟨World.ownsRow_nil _ _ _ _, World.ownsRow_nil _ _ _ _⟩ hgrow hown'
          exact ⟨k + 1, ts ++ [⟨⟨1, 0, x / 2 ^ p, [], []⟩, .slice none 0 0, .slice none 0 0⟩], by omega, by omega, by go_num, r1, r2, r3, small_snoc hsml (by first | exact ⟨Nat.zero_le _, Nat.zero_le _⟩ | exact ⟨by have := hbl.out; simp only; omega, Nat.zero_le _⟩ | exact ⟨Nat.zero_le _, by have := hbl.out; simp only; omega⟩), r4⟩
        case measure => simp only [intOf]; omega
      · have HU : Hid (U64 (0) ∧ I64 ((p : Int) % 2)) := Lib.hid ⟨⟨by decide, by decide⟩, ⟨by omega, by omega⟩⟩
        go_wp2_with (first
          | (go_at_call 19; have _t := tok0; refine (hA1 _).mono ?_; clear hA1 tok0; rintro e w' ⟨rfl, rfl⟩; have tok1 : True := trivial)
          | (go_at_call 19; have _t := tok1; refine (hA2 _).mono ?_; clear hA2 tok1; rintro e w' ⟨rfl, rfl⟩; have tok2 : True := trivial)
          | (at_builtin; have _t := tok2; refine wpList_append_own _ rfl (.tmp 101) (.tmp 103) 25 rfl w.heap.size 28 i0 (.agg #[.int .i64 0, .int .u64 0, .int .i64 0, .slice none 0 0, .slice none 0 0]) 5 72 Try.underlying25 hi hz0 hz1 hz2 rfl (by decide) _ k _ rfl ((hrow.alloc _).alloc _) ⟨wo.heap.size + 1, 0, none⟩ 1 1 (Vt.cells ⟨⟨2, 0, (p : Int) % 2, [], []⟩, .slice none 0 0, .slice none 0 0⟩) rfl rfl (World.news_of_block (cs := #[.int .i64 2, .int .u64 (0), .int .i64 ((p : Int) % 2), .slice none 0 0, .slice none 0 0]) (t := 28) (fr := (0, 0)) (heap_alloc_new_at _ _ (by simp))) (by simp [Vt.cells, Value.oneCell']) (by unfold maxLen; omega) (by omega) (by simp; omega) ?_; clear tok2; intro v' w3 hown' hgrow _))
        go_roundw
        case rel =>
          obtain ⟨r1, r2, r3, r4⟩ := vals_step (t := ⟨⟨2, 0, (p : Int) % 2, [], []⟩, .slice none 0 0, .slice none 0 0⟩) hts.out hrow hgood.out hW hsz (ok_nums (by decide) (by decide) HU.out.1 HU.out.2) (by simp [Vl.canon]; omega) ((Below.refl _ _).alloc (Nat.le_refl _) _) ⟨World.ownsRow_nil _ _ _ _, World.ownsRow_nil _ _ _ _⟩ hgrow hown'
          exact ⟨k + 1, ts ++ [⟨⟨2, 0, (p : Int) % 2, [], []⟩, .slice none 0 0, .slice none 0 0⟩], by omega, by omega, by go_num, r1, r2, r3, small_snoc hsml (by first | exact ⟨Nat.zero_le _, Nat.zero_le _⟩ | exact ⟨by have := hbl.out; simp only; omega, Nat.zero_le _⟩ | exact ⟨Nat.zero_le _, by have := hbl.out; simp only; omega⟩), r4⟩
        case measure => simp only [intOf]; omega
      · have hpb : p % 10 ≤ 9 := by omega
        go_wp2_with (first
          | (go_at_call 19; have _t := tok0; refine (hA1 _).mono ?_; clear hA1 tok0; rintro e w' ⟨rfl, rfl⟩; have tok1 : True := trivial)
          | (go_at_call 19; have _t := tok1; refine (hA2 _).mono ?_; clear hA2 tok1; rintro e w' ⟨rfl, rfl⟩; have tok2 : True := trivial))
        go_loopw [8] (fun j wi => ∃ (m : Nat) (vb : Value) (bs : List Int), m ≤ 9 ∧ j = .int .i64 m ∧ Hid (bs.length = m) ∧ Hid (Bytes8 bs) ∧ Hid (wi.heap[wo.heap.size]? = some (.cells #[.int .i64 3, .int .u64 0, .int .i64 0, vb, .slice none 0 0] 28 (0, 0))) ∧ wi.ownsRow wo.heap.size 5 1 vb m (bs.map (Value.int .u8)) ∧ Below wo.heap.size wo wi) (fun j _ => 10 - (intOf j).toNat)
        case atStart => exact ⟨0, .slice none 0 0, [], by omega, rfl, Lib.hid rfl, Lib.hid (by simp [Bytes8]), Lib.hid (heap_alloc_new wo _), World.ownsRow_nil _ _ _ _, (Below.refl _ _).alloc (Nat.le_refl _) _⟩
        case round =>
          obtain ⟨m, vb, bs, hm, rfl, hbl, hb8, hblk, hvb, hWi⟩ := hrel
          have hck2 := (hWi.cell (p := ⟨b, o + k, none⟩) hbw).trans hck
          have hcv : wr.cell? ⟨wo.heap.size, 3, none⟩ = some vb := by simp [World.cell?, hblk.out]
          have hfv : wr.frozen? ⟨wo.heap.size, 3, none⟩ = false := by simp [World.frozen?, hblk.out]
          by_cases hlt3 : m < p % 10
          · go_wp2
            have hblk2 := blk_not_row hblk.out (by decide) hvb
            have hBv : wo.heap.size < wr.heap.size := (Array.getElem?_eq_some_iff.1 hblk.out).1
            have hbase : w.heap.size ≤ wr.heap.size := Nat.le_trans hsz hWi.size
            have hsum : IntKind.i64.wrap (13 * (m : Int)) = 13 * (m : Int) := by rw [IntKind.wrap_i64]; omega
            go_region_law ((refine step_append_lies _ (by rfl) _ _ _ (by rfl) wo.heap.size 5 j0 (.int .u8 0) 1 1 Try.underlying24 hj hj0 hj1 hj2 rfl (by decide) vb m (bs.map (Value.int .u8)) (by rfl) ((hvb.alloc _).drew) ⟨wr.heap.size, 0, none⟩ 1 1 [.int .u8 (IntKind.u8.wrap (x / 2 ^ min (IntKind.u64.wrap (m : Int)).toNat 64))] (by rfl) (by rfl) (World.news_of_block (cs := #[.int .u8 (IntKind.u8.wrap (x / 2 ^ min (IntKind.u64.wrap (m : Int)).toNat 64))]) (t := 5) (fr := (0, 0)) (heap_alloc_new wr _)) (by simp [Value.oneCell']) (by decide) (by unfold maxLen; omega) (by omega) (by simp; omega) (wr.heap.size + 1) (by simp) ?_; intro g' cap' w5 hown5 hgrow5 hat5 hlt5; have hk5 := Lib.hid (((hgrow5.block wo.heap.size (by simp; omega) hblk2).trans (heap_alloc_old wr _ _ hBv)).trans hblk.out); have hc5 : w5.cell? ⟨wo.heap.size, 3, none⟩ = some vb := (by simp [World.cell?, hk5.out]); have hf5 : w5.frozen? ⟨wo.heap.size, 3, none⟩ = false := (by simp [World.frozen?, hk5.out])))
            all_goals
              clear hsum
              go_wp2
              go_roundw
              case rel =>
                refine ⟨m + 1, .slice (some ⟨g', 0, none⟩) (m + 1) cap', bs ++ [IntKind.u8.wrap (x / 2 ^ min (IntKind.u64.wrap (m : Int)).toNat 64)], by omega, by go_num, Lib.hid (by simp [hbl.out]), Lib.hid (bytes8_snoc hb8.out (wrap_u8_byte _)), Lib.hid (blk_set hk5.out _), ?_, ?_⟩
                · rw [List.map_append]
                  exact hown5.kept (grown_set _ _ _ _) (.inr (blk_not_row hk5.out (by decide) hown5).symm)
                · exact (((hWi.alloc hWi.size _).drew).grown hgrow5 (by have := hWi.size; simp; omega) (fun j ej => (hvb.lt j ej).1)).setCell (p := ⟨wo.heap.size, 3, none⟩) (Nat.le_refl _) _
              case measure => simp only [intOf]; omega
          · have tok2 : True := trivial
            have hszi := Nat.le_trans hsz hWi.size
            have hq0 := cell_of_row wr wo.heap.size 0 _ _ _ hblk.out
            have hq1 := cell_of_row wr wo.heap.size 1 _ _ _ hblk.out
            have hq2 := cell_of_row wr wo.heap.size 2 _ _ _ hblk.out
            have hq4 := cell_of_row wr wo.heap.size 4 _ _ _ hblk.out
            have hone := own_one hvb
            have hbsl := hbl.out
            have hrow2 := own_below hrow hWi
            go_wp2_with (at_builtin; have _t := tok2; refine wpList_append_own _ rfl (.tmp 101) (.tmp 103) 25 rfl w.heap.size 28 i0 (.agg #[.int .i64 0, .int .u64 0, .int .i64 0, .slice none 0 0, .slice none 0 0]) 5 72 Try.underlying25 hi hz0 hz1 hz2 rfl (by decide) _ k _ rfl (hrow2.alloc _) ⟨wr.heap.size, 0, none⟩ 1 1 (Vt.cells ⟨⟨3, 0, 0, bs, []⟩, vb, .slice none 0 0⟩) rfl rfl (World.news_of_block (cs := #[.int .i64 3, .int .u64 0, .int .i64 0, vb, .slice none 0 0]) (t := 28) (fr := (0, 0)) (heap_alloc_new wr _)) (by simp [Vt.cells, Value.oneCell']; exact hone) (by unfold maxLen; omega) (by omega) (by simp; omega) ?_; clear tok2; intro v' w3 hown' hgrow _)
            go_roundw
            case rel =>
              obtain ⟨r1, r2, r3, r4⟩ := vals_step (t := ⟨⟨3, 0, 0, bs, []⟩, vb, .slice none 0 0⟩) hts.out hrow hgood.out hW hsz (ok_bytes (by decide) (by decide) hb8.out (by omega)) (by simp [Vl.canon]) hWi ⟨by rw [hbl.out]; exact own_base hvb hsz, World.ownsRow_nil _ _ _ _⟩ hgrow hown'
              exact ⟨k + 1, ts ++ [⟨⟨3, 0, 0, bs, []⟩, vb, .slice none 0 0⟩], by omega, by omega, by go_num, r1, r2, r3, small_snoc hsml (by first | exact ⟨Nat.zero_le _, Nat.zero_le _⟩ | exact ⟨by have := hbl.out; simp only; omega, Nat.zero_le _⟩ | exact ⟨Nat.zero_le _, by have := hbl.out; simp only; omega⟩), r4⟩
            case measure => simp only [intOf]; omega
      · have hpb : p % 10 ≤ 9 := by omega
        go_wp2_with (first
          | (go_at_call 19; have _t := tok0; refine (hA1 _).mono ?_; clear hA1 tok0; rintro e w' ⟨rfl, rfl⟩; have tok1 : True := trivial)
          | (go_at_call 19; have _t := tok1; refine (hA2 _).mono ?_; clear hA2 tok1; rintro e w' ⟨rfl, rfl⟩; have tok2 : True := trivial))
        go_loopw [8] (fun j wi => ∃ (m : Nat) (vb : Value) (bs : List Int), m ≤ 9 ∧ j = .int .i64 m ∧ Hid (bs.length = m) ∧ Hid (Bytes8 bs) ∧ Hid (wi.heap[wo.heap.size]? = some (.cells #[.int .i64 4, .int .u64 0, .int .i64 0, vb, .slice none 0 0] 28 (0, 0))) ∧ wi.ownsRow wo.heap.size 5 1 vb m (bs.map (Value.int .u8)) ∧ Below wo.heap.size wo wi) (fun j _ => 10 - (intOf j).toNat)
        case atStart => exact ⟨0, .slice none 0 0, [], by omega, rfl, Lib.hid rfl, Lib.hid (by simp [Bytes8]), Lib.hid (heap_alloc_new wo _), World.ownsRow_nil _ _ _ _, (Below.refl _ _).alloc (Nat.le_refl _) _⟩
        case round =>
          obtain ⟨m, vb, bs, hm, rfl, hbl, hb8, hblk, hvb, hWi⟩ := hrel
          have hck2 := (hWi.cell (p := ⟨b, o + k, none⟩) hbw).trans hck
          have hcv : wr.cell? ⟨wo.heap.size, 3, none⟩ = some vb := by simp [World.cell?, hblk.out]
          have hfv : wr.frozen? ⟨wo.heap.size, 3, none⟩ = false := by simp [World.frozen?, hblk.out]
          by_cases hlt3 : m < p % 10
          · go_wp2
            have hblk2 := blk_not_row hblk.out (by decide) hvb
            have hBv : wo.heap.size < wr.heap.size := (Array.getElem?_eq_some_iff.1 hblk.out).1
            have hbase : w.heap.size ≤ wr.heap.size := Nat.le_trans hsz hWi.size
            have hsum : IntKind.i64.wrap (13 * (m : Int)) = 13 * (m : Int) := by rw [IntKind.wrap_i64]; omega
            go_region_law ((refine step_append_lies _ (by rfl) _ _ _ (by rfl) wo.heap.size 5 j0 (.int .u8 0) 1 1 Try.underlying24 hj hj0 hj1 hj2 rfl (by decide) vb m (bs.map (Value.int .u8)) (by rfl) ((hvb.alloc _).drew) ⟨wr.heap.size, 0, none⟩ 1 1 [.int .u8 (IntKind.u8.wrap (x / 2 ^ min (IntKind.u64.wrap (m : Int)).toNat 64))] (by rfl) (by rfl) (World.news_of_block (cs := #[.int .u8 (IntKind.u8.wrap (x / 2 ^ min (IntKind.u64.wrap (m : Int)).toNat 64))]) (t := 5) (fr := (0, 0)) (heap_alloc_new wr _)) (by simp [Value.oneCell']) (by decide) (by unfold maxLen; omega) (by omega) (by simp; omega) (wr.heap.size + 1) (by simp) ?_; intro g' cap' w5 hown5 hgrow5 hat5 hlt5; have hk5 := Lib.hid (((hgrow5.block wo.heap.size (by simp; omega) hblk2).trans (heap_alloc_old wr _ _ hBv)).trans hblk.out); have hc5 : w5.cell? ⟨wo.heap.size, 3, none⟩ = some vb := (by simp [World.cell?, hk5.out]); have hf5 : w5.frozen? ⟨wo.heap.size, 3, none⟩ = false := (by simp [World.frozen?, hk5.out])))
            all_goals
              clear hsum
              go_wp2
              go_roundw
              case rel =>
                refine ⟨m + 1, .slice (some ⟨g', 0, none⟩) (m + 1) cap', bs ++ [IntKind.u8.wrap (x / 2 ^ min (IntKind.u64.wrap (m : Int)).toNat 64)], by omega, by go_num, Lib.hid (by simp [hbl.out]), Lib.hid (bytes8_snoc hb8.out (wrap_u8_byte _)), Lib.hid (blk_set hk5.out _), ?_, ?_⟩
                · rw [List.map_append]
                  exact hown5.kept (grown_set _ _ _ _) (.inr (blk_not_row hk5.out (by decide) hown5).symm)
                · exact (((hWi.alloc hWi.size _).drew).grown hgrow5 (by have := hWi.size; simp; omega) (fun j ej => (hvb.lt j ej).1)).setCell (p := ⟨wo.heap.size, 3, none⟩) (Nat.le_refl _) _
              case measure => simp only [intOf]; omega
          · have tok2 : True := trivial
            have hszi := Nat.le_trans hsz hWi.size
            have hq0 := cell_of_row wr wo.heap.size 0 _ _ _ hblk.out
            have hq1 := cell_of_row wr wo.heap.size 1 _ _ _ hblk.out
            have hq2 := cell_of_row wr wo.heap.size 2 _ _ _ hblk.out
            have hq4 := cell_of_row wr wo.heap.size 4 _ _ _ hblk.out
            have hone := own_one hvb
            have hbsl := hbl.out
            have hrow2 := own_below hrow hWi
            go_wp2_with (at_builtin; have _t := tok2; refine wpList_append_own _ rfl (.tmp 101) (.tmp 103) 25 rfl w.heap.size 28 i0 (.agg #[.int .i64 0, .int .u64 0, .int .i64 0, .slice none 0 0, .slice none 0 0]) 5 72 Try.underlying25 hi hz0 hz1 hz2 rfl (by decide) _ k _ rfl (hrow2.alloc _) ⟨wr.heap.size, 0, none⟩ 1 1 (Vt.cells ⟨⟨4, 0, 0, bs, []⟩, vb, .slice none 0 0⟩) rfl rfl (World.news_of_block (cs := #[.int .i64 4, .int .u64 0, .int .i64 0, vb, .slice none 0 0]) (t := 28) (fr := (0, 0)) (heap_alloc_new wr _)) (by simp [Vt.cells, Value.oneCell']; exact hone) (by unfold maxLen; omega) (by omega) (by simp; omega) ?_; clear tok2; intro v' w3 hown' hgrow _)
            go_roundw
            case rel =>
              obtain ⟨r1, r2, r3, r4⟩ := vals_step (t := ⟨⟨4, 0, 0, bs, []⟩, vb, .slice none 0 0⟩) hts.out hrow hgood.out hW hsz (ok_bytes (by decide) (by decide) hb8.out (by omega)) (by simp [Vl.canon]) hWi ⟨by rw [hbl.out]; exact own_base hvb hsz, World.ownsRow_nil _ _ _ _⟩ hgrow hown'
              exact ⟨k + 1, ts ++ [⟨⟨4, 0, 0, bs, []⟩, vb, .slice none 0 0⟩], by omega, by omega, by go_num, r1, r2, r3, small_snoc hsml (by first | exact ⟨Nat.zero_le _, Nat.zero_le _⟩ | exact ⟨by have := hbl.out; simp only; omega, Nat.zero_le _⟩ | exact ⟨Nat.zero_le _, by have := hbl.out; simp only; omega⟩), r4⟩
            case measure => simp only [intOf]; omega
      · have hpb : p % 5 ≤ 4 := by omega
        go_wp2_with (first
          | (go_at_call 19; have _t := tok0; refine (hA1 _).mono ?_; clear hA1 tok0; rintro e w' ⟨rfl, rfl⟩; have tok1 : True := trivial)
          | (go_at_call 19; have _t := tok1; refine (hA2 _).mono ?_; clear hA2 tok1; rintro e w' ⟨rfl, rfl⟩; have tok2 : True := trivial))
        go_loopw [9] (fun j wi => ∃ (m : Nat) (vb : Value) (bs : List Int), m ≤ 4 ∧ j = .int .i64 m ∧ Hid (bs.length = m) ∧ Hid (∀ z ∈ bs, I64 z) ∧ Hid (wi.heap[wo.heap.size]? = some (.cells #[.int .i64 5, .int .u64 0, .int .i64 0, .slice none 0 0, vb] 28 (0, 0))) ∧ wi.ownsRow wo.heap.size 3 1 vb m (bs.map (Value.int .i64)) ∧ Below wo.heap.size wo wi) (fun j _ => 10 - (intOf j).toNat)
        case atStart => exact ⟨0, .slice none 0 0, [], by omega, rfl, Lib.hid rfl, Lib.hid (by simp), Lib.hid (heap_alloc_new wo _), World.ownsRow_nil _ _ _ _, (Below.refl _ _).alloc (Nat.le_refl _) _⟩
        case round =>
          obtain ⟨m, vb, bs, hm, rfl, hbl, hb8, hblk, hvb, hWi⟩ := hrel
          have hck2 := (hWi.cell (p := ⟨b, o + k, none⟩) hbw).trans hck
          have hcv : wr.cell? ⟨wo.heap.size, 4, none⟩ = some vb := by simp [World.cell?, hblk.out]
          have hfv : wr.frozen? ⟨wo.heap.size, 4, none⟩ = false := by simp [World.frozen?, hblk.out]
          by_cases hlt3 : m < p % 5
          · go_wp2
            have hblk2 := blk_not_row hblk.out (by decide) hvb
            have hBv : wo.heap.size < wr.heap.size := (Array.getElem?_eq_some_iff.1 hblk.out).1
            have hbase : w.heap.size ≤ wr.heap.size := Nat.le_trans hsz hWi.size
            have hsum : IntKind.i64.wrap (13 * (m : Int)) = 13 * (m : Int) := by rw [IntKind.wrap_i64]; omega
            go_region_law ((refine step_append_lies _ (by rfl) _ _ _ (by rfl) wo.heap.size 3 l0 (.int .i64 0) 1 8 Try.underlying22 hli hli0 hli1 hli2 rfl (by decide) vb m (bs.map (Value.int .i64)) (by rfl) ((hvb.alloc _).drew) ⟨wr.heap.size, 0, none⟩ 1 1 [.int .i64 (x / 2 ^ min (IntKind.u64.wrap (13 * (m : Int))).toNat 64)] (by rfl) (by rfl) (World.news_of_block (cs := #[.int .i64 (x / 2 ^ min (IntKind.u64.wrap (13 * (m : Int))).toNat 64)]) (t := 3) (fr := (0, 0)) (heap_alloc_new wr _)) (by simp [Value.oneCell']) (by decide) (by unfold maxLen; omega) (by omega) (by simp; omega) (wr.heap.size + 1) (by simp) ?_; intro g' cap' w5 hown5 hgrow5 hat5 hlt5; have hk5 := Lib.hid (((hgrow5.block wo.heap.size (by simp; omega) hblk2).trans (heap_alloc_old wr _ _ hBv)).trans hblk.out); have hc5 : w5.cell? ⟨wo.heap.size, 4, none⟩ = some vb := (by simp [World.cell?, hk5.out]); have hf5 : w5.frozen? ⟨wo.heap.size, 4, none⟩ = false := (by simp [World.frozen?, hk5.out])))
            all_goals
              clear hsum
              go_wp2
              go_roundw
              case rel =>
                refine ⟨m + 1, .slice (some ⟨g', 0, none⟩) (m + 1) cap', bs ++ [x / 2 ^ min (IntKind.u64.wrap (13 * (m : Int))).toNat 64], by omega, by go_num, Lib.hid (by simp [hbl.out]), Lib.hid (i64_snoc hb8.out (shr_i64 hxi _)), Lib.hid (blk_set hk5.out _), ?_, ?_⟩
                · rw [List.map_append]
                  exact hown5.kept (grown_set _ _ _ _) (.inr (blk_not_row hk5.out (by decide) hown5).symm)
                · exact (((hWi.alloc hWi.size _).drew).grown hgrow5 (by have := hWi.size; simp; omega) (fun j ej => (hvb.lt j ej).1)).setCell (p := ⟨wo.heap.size, 4, none⟩) (Nat.le_refl _) _
              case measure => simp only [intOf]; omega
          · have tok2 : True := trivial
            have hszi := Nat.le_trans hsz hWi.size
            have hq0 := cell_of_row wr wo.heap.size 0 _ _ _ hblk.out
            have hq1 := cell_of_row wr wo.heap.size 1 _ _ _ hblk.out
            have hq2 := cell_of_row wr wo.heap.size 2 _ _ _ hblk.out
            have hq4 := cell_of_row wr wo.heap.size 3 _ _ _ hblk.out
            have hone := own_one hvb
            have hbsl := hbl.out
            have hrow2 := own_below hrow hWi
            go_wp2_with (at_builtin; have _t := tok2; refine wpList_append_own _ rfl (.tmp 101) (.tmp 103) 25 rfl w.heap.size 28 i0 (.agg #[.int .i64 0, .int .u64 0, .int .i64 0, .slice none 0 0, .slice none 0 0]) 5 72 Try.underlying25 hi hz0 hz1 hz2 rfl (by decide) _ k _ rfl (hrow2.alloc _) ⟨wr.heap.size, 0, none⟩ 1 1 (Vt.cells ⟨⟨5, 0, 0, [], bs⟩, .slice none 0 0, vb⟩) rfl rfl (World.news_of_block (cs := #[.int .i64 5, .int .u64 0, .int .i64 0, .slice none 0 0, vb]) (t := 28) (fr := (0, 0)) (heap_alloc_new wr _)) (by simp [Vt.cells, Value.oneCell']; exact hone) (by unfold maxLen; omega) (by omega) (by simp; omega) ?_; clear tok2; intro v' w3 hown' hgrow _)
            go_roundw
            case rel =>
              obtain ⟨r1, r2, r3, r4⟩ := vals_step (t := ⟨⟨5, 0, 0, [], bs⟩, .slice none 0 0, vb⟩) hts.out hrow hgood.out hW hsz (ok_list (by decide) (by decide) hb8.out (by omega)) (by simp [Vl.canon]) hWi ⟨World.ownsRow_nil _ _ _ _, by rw [hbl.out]; exact own_base hvb hsz⟩ hgrow hown'
              exact ⟨k + 1, ts ++ [⟨⟨5, 0, 0, [], bs⟩, .slice none 0 0, vb⟩], by omega, by omega, by go_num, r1, r2, r3, small_snoc hsml (by first | exact ⟨Nat.zero_le _, Nat.zero_le _⟩ | exact ⟨by have := hbl.out; simp only; omega, Nat.zero_le _⟩ | exact ⟨Nat.zero_le _, by have := hbl.out; simp only; omega⟩), r4⟩
            case measure => simp only [intOf]; omega
    · have hc : ¬ (k < zs.length) ∨ k = 8 := by omega
      have hend : Hid (∀ t ∈ ts, t.x.ok ∧ t.x.canon ∧ t.owns wo w.heap.size) := hgood
      clear hr hi64
      by_cases h1 : k < zs.length
      · obtain rfl : k = 8 := by omega
        go_wp2
        go_ret
        exact ⟨_, ts, rfl, by rw [hts.out]; omega, by rw [hts.out]; exact hrow, hgood.out, hsml.out, hW⟩
      · go_wp2
        go_ret
        exact ⟨_, ts, rfl, by rw [hts.out]; omega, by rw [hts.out]; exact hrow, hgood.out, hsml.out, hW⟩
end Go.Proofs.Ytebfgdonikedaaa
