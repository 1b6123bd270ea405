/-
  THE WALK of the law that later changes affect neither a Writer nor a Reader (P2.1, P2.2, P2.5).
-/
import Derived.Test.YtebfgdonikedaaaSizesW
namespace Go.Proofs.Ytebfgdonikedaaa
open Go.RowKit

/-- a loop that stores into a row of the call's own: what is known in each round -/
def Stored (W0 wr : World) (v : Value) (t : TypeId) (n : Nat) : Prop :=
  W0.grownBy wr v.ownBlock ∧ (0 < n → ∃ j c C, v = .slice (some ⟨j, 0, none⟩) n c ∧ wr.heap[j]? = some (.cells C t (0, 0)) ∧ n ≤ C.size)
theorem stored_start {W : World} {base n : Nat} {t : TypeId} {v : Value} {xs : List Value} (h : W.ownsRow base t 1 v n xs) : Stored W W v t n := by
  refine ⟨World.grownBy.refl _ _, fun hn => ?_⟩
  rcases h.2 with ⟨_, h0⟩ | ⟨g, cap, cur, hv, _, hg, hc, _, hs, _⟩
  · omega
  · exact ⟨g, cap, cur, hv, hg, by omega⟩
theorem stored_round {W0 wr : World} {A : Option Addr} {c n k : Nat} {t : TypeId} (h : Stored W0 wr (.slice A n c) t n) (hk : k < n) :
    ∃ j u, A = some ⟨j, 0, none⟩ ∧ wr.cell? ⟨j, k, none⟩ = some u ∧ wr.frozen? ⟨j, k, none⟩ = false ∧ Hid (∀ x, Stored W0 (wr.setCell ⟨j, k, none⟩ x) (.slice A n c) t n) := by
  obtain ⟨hg, hj⟩ := h
  obtain ⟨j, c', C, hv, hh, hs⟩ := hj (by omega)
  injection hv with hA _ hc
  subst hA hc
  have hkC : k < C.size := by omega
  refine ⟨j, C[k], rfl, ?_, by simp [World.frozen?, hh], Lib.hid (fun x => ⟨hg.trans (grown_set _ _ _ _), fun _ => ⟨j, c, C.setIfInBounds k x, rfl, blk_set hh x, by simpa using hs⟩⟩)⟩
  rw [cell_of_row wr j k C t (0, 0) hh]
  simp [hkC]
theorem own_heap {W W' : World} {base : Nat} {e : TypeId} {size n : Nat} {v : Value} {xs : List Value} (h : W.ownsRow base e size v n xs) (hk : ∀ j, base ≤ j → j < W.heap.size → W'.heap[j]? = W.heap[j]?) : W'.ownsRow base e size v n xs := by
  refine ⟨h.1, ?_⟩
  rcases h.2 with h0 | ⟨g, cap, cur, hv, hb, hg, rest⟩
  · exact .inl h0
  · exact .inr ⟨g, cap, cur, hv, hb, (hk g hb (Array.getElem?_eq_some_iff.1 hg).1).trans hg, rest⟩
theorem wtr_heap {W W' : World} {B g : Nat} {bs : List Int} (h : WtrAt W B g bs) (hk : ∀ j, B ≤ j → j < W.heap.size → W'.heap[j]? = W.heap[j]?) : WtrAt W' B g bs := by
  obtain ⟨hBg, v, hh, hrow⟩ := h
  exact ⟨hBg, v, (hk g hBg (Array.getElem?_eq_some_iff.1 hh).1).trans hh, own_heap hrow hk⟩
theorem grown_blk {W W' : World} {base n : Nat} {t : TypeId} {size : Nat} {v : Value} {xs : List Value} {Wr : World} (hg : W.grownBy W' v.ownBlock) (hr : Wr.ownsRow base t size v n xs) {j : Nat} (hj : j < W.heap.size) (hout : j < base ∨ Wr.heap.size ≤ j) : W'.heap[j]? = W.heap[j]? :=
  hg.block j hj (fun e => by have := hr.lt j e.symm; omega)

/-- what Read leaves: a reader in a block of its own, over bytes of its own -/
def ReadOwn (w : World) (zs : List Int) (e : Ending) (w' : World) : Prop :=
  ∃ g A c, e = .returned (.pointer (some ⟨g, 0, none⟩)) ∧ w.heap.size ≤ g ∧ w'.heap[g]? = some (.cells #[.slice A zs.length c, .int .i64 0] 77 (0, 0)) ∧ A.elim True (fun x => x.block < g) ∧ w'.ownsRow w.heap.size 5 1 (.slice A zs.length c) zs.length (zs.map (Value.int .u8)) ∧ Below w.heap.size w w'
theorem dRead_own (A : Option Addr) (n c : Nat) (zs : List Int) (w : World) (hn : n = zs.length) (hz : zs.length ≤ 900000) (hcap : zs.length ≤ c) (hA : A = none → c = 0) (hr : RdI w w.heap.size .u8 A zs) :
    Calls Try.prog 20 #[.slice A n c] w (ReadOwn w zs) := by
  subst hn
  have hC := clone_any A zs.length c zs w rfl (by omega) hcap hA hr
  clear hr hA
  go_enter Try.func20, Try.ntmps20
  go_wp2_with (go_at_call 39; refine hC.mono ?_; clear hC; rintro e w1 ⟨A1, c1, rfl, hc1, hrow1, hb1⟩)
  go_ret
  have hsz := hb1.size
  refine ⟨w1.heap.size, A1, c1, rfl, hsz, heap_alloc_new w1 _, ?_, hrow1.alloc _, hb1.alloc hsz _⟩
  cases A1 with
  | none => trivial
  | some x => exact (hrow1.lt x.block rfl).2
theorem read_rdr {w : World} {base g c : Nat} {A : Option Addr} {zs : List Int} (hk : w.heap[g]? = some (.cells #[.slice A zs.length c, .int .i64 0] 77 (0, 0))) (hA : A.elim True (fun x => x.block < g)) (hrow : w.ownsRow base 5 1 (.slice A zs.length c) zs.length (zs.map (Value.int .u8))) : RdrAt w 77 g ⟨zs, 0⟩ := by
  refine ⟨A, c, hk, own_cap hrow, own_none hrow, ?_⟩
  rcases rd_own hrow with h | ⟨b, o, e, _, hc⟩
  · exact .inl h
  · subst e
    exact .inr ⟨b, o, rfl, hA, hc⟩

theorem ints_rest {ob nb : List Int} (ho : ob.length ≤ 30) (hn : nb.length ≤ 10) (h64 : ∀ z ∈ nb, I64 z) : rawR ⟨raw ob ++ ints nb, 0⟩ = (ob, ⟨ints nb, 0⟩) ∧ intsR ⟨ints nb, 0⟩ = (nb, ⟨[], 0⟩) := by
  refine ⟨rawR_raw (by omega) _, ?_⟩
  have := intsR_ints h64 (by omega) []
  rwa [List.append_nil] at this
theorem ints_bytes {nb : List Int} : Bytes8 (ints nb) := fun z hz => by
  unfold ints at hz
  rcases List.mem_append.1 hz with h | h
  · exact uv_bytes _ z h
  · obtain ⟨l, hl, hz⟩ := List.mem_flatten.1 h
    obtain ⟨y, _, rfl⟩ := List.mem_map.1 hl
    exact uv_bytes _ z hz
theorem raw_bytes {ob : List Int} (h : Bytes8 ob) : Bytes8 (raw ob) := fun z hz => by
  rcases List.mem_append.1 hz with h1 | h1
  · exact uv_bytes _ z h1
  · exact h z h1
set_option maxRecDepth 100000 in
set_option maxHeartbeats 4000000 in
theorem own_any (A1 : Option Addr) (c1 : Nat) (zb : List Int) (A2 : Option Addr) (c2 : Nat) (zl : List Int) (w : World) (hz1 : zb.length ≤ maxLen) (hc1 : zb.length ≤ c1) (hA1 : A1 = none → c1 = 0) (h8 : Bytes8 zb) (hr1 : RdI w w.heap.size .u8 A1 zb)
    (hz2 : zl.length ≤ maxLen) (hc2 : zl.length ≤ c2) (hA2 : A2 = none → c2 = 0) (h64 : ∀ z ∈ zl, I64 z) (hr2 : RdI w w.heap.size .i64 A2 zl) :
    Calls Try.prog 9 #[.slice A1 zb.length c1, .slice A2 zl.length c2] w (TruePost w) := by
  obtain ⟨i0, hi, hzz0, hzz1, hzz2⟩ := info_parts info_u8
  have cF := Few_any A1 zb.length c1 30 zb w rfl hz1 (by decide) hc1 hA1 hr1
  have cN : ∀ W, Below w.heap.size w W → Calls Try.prog 13 #[.slice A2 zl.length c2, .int .i64 10] W fun e w' => GivesRow W.heap.size W 3 .i64 (zl.take 10) e w' := fun W hW =>
    Ints_any A2 zl.length c2 10 zl W rfl hz2 (by decide) hc2 hA2 ((hr2.below hW).mono hW.size)
  have ho8 : Bytes8 (zb.take 30) := fun z hz => h8 z (List.mem_of_mem_take hz)
  have hn64 : ∀ z ∈ zl.take 10, I64 z := fun z hz => h64 z (List.mem_of_mem_take hz)
  have hol : (zb.take 30).length ≤ 30 := List.length_take_le _ _
  have hnl : (zl.take 10).length ≤ 10 := List.length_take_le _ _
  generalize zb.take 30 = ob at cF ho8 hol
  generalize zl.take 10 = nb at cN hn64 hnl
  unfold maxLen at hz1 hz2
  clear h8 h64 hr1 hr2 hA1 hA2
  have hrl : (raw ob).length ≤ 40 := by
    unfold raw
    have := uv_length_64 (n := ob.length) (by omega)
    rw [List.length_append]; omega
  have hil : (ints nb).length ≤ 110 := by
    unfold ints
    have := uv_length_64 (n := nb.length) (by omega)
    have := flat_len hn64
    rw [List.length_append]; omega
  have hrest := ints_rest hol hnl hn64
  have cRaw : ∀ W A c, RdI W W.heap.size .u8 A ob → ob.length ≤ c → (A = none → c = 0) → Calls Try.prog 31 #[.pointer (some ⟨W.heap.size, 0, none⟩), .slice A ob.length c] (W.alloc (.cells #[.slice none 0 0] 32)) (WtrPost (W.alloc (.cells #[.slice none 0 0] 32)) W.heap.size W.heap.size (raw ob)) := fun W A c hr hc hA => by
    have := dRaw_any A ob.length c ob W.heap.size W.heap.size [] _ (wtr_new W) (by decide) rfl (by omega) hc hA (hr.below (new_below W _))
    rwa [List.nil_append] at this
  have cInts : ∀ W B g A c, WtrAt W B g (raw ob) → RdI W B .i64 A nb → Calls Try.prog 32 #[.pointer (some ⟨g, 0, none⟩), .slice A nb.length c] W (WtrPost W B g (raw ob ++ ints nb)) := fun W B g A c h hr =>
    dInts_any A nb.length c nb B g (raw ob) W h (by omega) rfl (by omega) hn64 hr
  have h8i : Bytes8 (ints nb) := ints_bytes
  have cR1 : ∀ g W, RdrAt W 77 g ⟨raw ob ++ ints nb, 0⟩ → Calls Try.prog 33 #[.pointer (some ⟨g, 0, none⟩)] W (RowPost W g 5 .u8 ob ⟨ints nb, 0⟩) := fun g W h => by
    have := rRaw_any g ⟨raw ob ++ ints nb, 0⟩ W (by rw [nrm_ok rfl]; exact h) (fun z hz => (List.mem_append.1 hz).elim (raw_bytes ho8 z) (h8i z)) (by rw [List.length_append]; omega)
    rw [hrest.1, nrm_ok rfl] at this
    exact this
  have cR2 : ∀ g W, RdrAt W 77 g ⟨ints nb, 0⟩ → Calls Try.prog 35 #[.pointer (some ⟨g, 0, none⟩)] W (RowPost W g 3 .i64 nb ⟨[], 0⟩) := fun g W h => by
    have := rInts_any g ⟨ints nb, 0⟩ W (by rw [nrm_ok rfl]; exact h) h8i (by simp only; omega)
    rw [hrest.2, nrm_ok rfl] at this
    exact this
  have cEnd : ∀ g W, RdrAt W 77 g ⟨[], 0⟩ → Calls Try.prog 24 #[.pointer (some ⟨g, 0, none⟩)] W fun e w' => e = .returned (.int .i64 0) ∧ W = w' := fun g W h => rEnd_any g ⟨[], 0⟩ W (by rw [nrm_ok rfl]; exact h) (by decide)
  have hpl : (raw ob ++ ints nb).length ≤ 150 := by rw [List.length_append]; omega
  generalize raw ob ++ ints nb = p at cInts cR1 hpl
  generalize raw ob = p1 at cRaw cInts
  generalize ints nb = p2 at cR1 cR2
  clear hrest hrl hil h8i ho8 hn64
  have cSI : ∀ W A A' c c', RdI W W.heap.size .i64 A nb → RdI W W.heap.size .i64 A' nb → Calls Try.prog 34 #[.slice A nb.length c, .slice A' nb.length c'] W fun e w' => e = .returned (.bool true) ∧ Below W.heap.size W w' := fun W A A' c c' h h' => SameInts_self A A' c c' nb W (by omega) h h'
  have cSB : ∀ W A A' c c', RdI W W.heap.size .u8 A p → RdI W W.heap.size .u8 A' p → Calls Try.prog 15 #[.slice A p.length c, .slice A' p.length c'] W fun e w' => e = .returned (.bool true) ∧ Below W.heap.size W w' := fun W A A' c c' h h' => SameBytes_self A A' c c' p W (by omega) h h'
  go_enter Try.func9, Try.ntmps9
  go_wp2_with (first
    | (go_at_call 12; refine cF.mono ?_; clear cF; rintro e w1 ⟨a1, d1, rfl, hd1, hrow1, hb1⟩)
    | (go_at_call 13; refine (cN _ hb1).mono ?_; rintro e w2 ⟨a2, d2, rfl, hd2, hrow2, hb2⟩; have hrow1' := own_below hrow1 hb2; have hro1 := rd_own hrow1')
    | (go_at_call 31; refine (cRaw w2 a1 d1 hro1 hd1 (own_none hrow1)).mono ?_; clear cRaw; rintro e w3 ⟨rfl, hwt3, hb3⟩; have hB3 := Lib.hid ((new_below w2 _).trans hb3); have hri := (rd_own hrow2).below hB3.out)
    | (go_at_call 32; refine (cInts _ _ _ _ _ hwt3 hri).mono ?_; clear cInts; rintro e w4 ⟨rfl, hwt4, hb4⟩; have hB4 := Lib.hid (hB3.out.trans hb4))
    | (go_at_call 16; refine (dDone_any _ _ _ _ hwt4 (by omega)).mono ?_; rintro e w5 ⟨a5, d5, rfl, hd5, hrow5, hb5⟩; have hB5 := Lib.hid (hB4.out.trans (hb5.mono hB4.out.size)); have hro5 := ((rd_own hrow5).below (new_below w5 (.cells #[] 5))).mono (Nat.le_of_lt (by simp : w5.heap.size < (w5.alloc (.cells #[] 5)).heap.size)))
    | (at_builtin; refine wpList_append_rd _ rfl (.tmp 27) (.tmp 28) 24 rfl w5.heap.size 5 i0 (.int .u8 0) 1 1 Try.underlying24 hi hzz0 hzz1 hzz2 rfl rfl (by decide) _ 0 [] rfl (own_empty w5 _) .u8 a5 p.length d5 p rfl rfl (own_none hrow5) hd5 hro5 (by unfold maxLen; omega) (by omega) (by simp) ?_; intro v6 w6 hown6 hgrow6; rw [Nat.zero_add, List.nil_append] at hown6; obtain ⟨a6, d6, rfl⟩ := own_slice hown6))
  have hB6 := ((Below.refl _ w5).alloc (Nat.le_refl _) _).grown hgrow6 (by simp) (fun j ej => ((own_empty w5 5).lt j ej).1)
  have s1 := hb1.size
  have s2 := hb2.size
  have s4 := hB4.out.size
  have s5 := hb5.size
  have s6 := hB6.size
  have hB26 := hB5.out.trans (hB6.mono (by omega : w2.heap.size ≤ w5.heap.size))
  have h16 := own_below hrow1' hB26
  have h26 := own_below hrow2 hB26
  have h56 := own_below hrow5 hB6
  have hB06 := Lib.hid ((hb1.trans (hb2.mono s1)).trans (hB26.mono (by omega : w.heap.size ≤ w2.heap.size)))
  have HB46 := Lib.hid (hb5.trans (hB6.mono s5))
  clear hgrow6 hro5 hri hro1 hwt3 hb3 hb4 hB6 hB26 hb1 hb2 hb5
  go_loopw [10] (fun i wr => ∃ k : Nat, k ≤ ob.length ∧ i = .int .i64 k ∧ Stored w6 wr (.slice a1 ob.length d1) 5 ob.length) (fun i _ => ob.length - (intOf i).toNat)
  case atStart => exact ⟨0, Nat.zero_le _, rfl, stored_start h16⟩
  case round =>
    obtain ⟨k, hk, rfl, hst⟩ := hrel
    by_cases hlt : k < ob.length
    · obtain ⟨j, u, rfl, hcu, hfu, hnext⟩ := stored_round hst hlt
      clear hst
      go_wp2
      go_roundw
      case rel => exact ⟨k + 1, by omega, by go_num, hnext.out _⟩
      case measure => simp [intOf]; omega
    obtain rfl : k = ob.length := by omega
    clear hlt
    obtain ⟨x1, rfl⟩ : ∃ x1, x1 = wr := ⟨_, rfl⟩
    have hg1 := hst.1
    have t1 := hg1.size
    clear hst
    have h2x := h26.kept hg1 (own_ne h26 h16 (by decide))
    clear h16
    have h5x1 := own_heap h56 (fun j hj1 hj2 => grown_blk hg1 hrow1' hj2 (.inr (by omega)))
    have HBx1 := Lib.hid (hB06.out.grown hg1 (by omega) (fun j ej => (hrow1.lt j ej).1))
    clear h26 h56
    go_wp2
    go_loopw [11] (fun i wr => ∃ k : Nat, k ≤ nb.length ∧ i = .int .i64 k ∧ Stored x1 wr (.slice a2 nb.length d2) 3 nb.length) (fun i _ => nb.length - (intOf i).toNat)
    case atStart => exact ⟨0, Nat.zero_le _, rfl, stored_start h2x⟩
    case round =>
      obtain ⟨k, hk, rfl, hst⟩ := hrel
      by_cases hlt : k < nb.length
      · obtain ⟨j, u, rfl, hcu, hfu, hnext⟩ := stored_round hst hlt
        clear hst
        go_wp2
        go_roundw
        case rel => exact ⟨k + 1, by omega, by go_num, hnext.out _⟩
        case measure => simp [intOf]; omega
      obtain rfl : k = nb.length := by omega
      clear hlt
      obtain ⟨x2, rfl⟩ : ∃ x2, x2 = wr := ⟨_, rfl⟩
      have hg2 := hst.1
      clear hst
      have t2 := hg2.size
      have h5x2 := own_heap h5x1 (fun j hj1 hj2 => grown_blk hg2 hrow2 hj2 (.inr (by omega)))
      have HBx2 := Lib.hid (HBx1.out.grown hg2 (by omega) (fun j ej => by have := (hrow2.lt j ej).1; omega))
      clear h2x h5x1
      go_wp2
      go_loopw [12] (fun i wr => ∃ k : Nat, k ≤ p.length ∧ i = .int .i64 k ∧ Stored x2 wr (.slice a5 p.length d5) 5 p.length) (fun i _ => p.length - (intOf i).toNat)
      case atStart => exact ⟨0, Nat.zero_le _, rfl, stored_start h5x2⟩
      case round =>
        obtain ⟨k, hk, rfl, hst⟩ := hrel
        by_cases hlt : k < p.length
        · obtain ⟨j, u, rfl, hcu, hfu, hnext⟩ := stored_round hst hlt
          clear hst
          go_wp2
          go_roundw
          case rel => exact ⟨k + 1, by omega, by go_num, hnext.out _⟩
          case measure => simp [intOf]; omega
        obtain rfl : k = p.length := by omega
        clear hlt
        obtain ⟨x3, rfl⟩ : ∃ x3, x3 = wr := ⟨_, rfl⟩
        have hg3 := hst.1
        clear hst
        have t3 := hg3.size
        have hwx := wtr_heap hwt4 (fun j hj1 hj2 => (grown_blk hg3 hrow5 (by omega) (.inl hj2)).trans ((grown_blk hg2 hrow2 (by omega) (.inr hj1)).trans ((grown_blk hg1 hrow1' (by omega) (.inr hj1)).trans (HB46.out.block j hj2))))
        have h6x := own_heap hown6 (fun j hj1 hj2 => (grown_blk hg3 hrow5 (by omega) (.inr hj1)).trans ((grown_blk hg2 hrow2 (by omega) (.inr (by omega))).trans (grown_blk hg1 hrow1' (by omega) (.inr (by omega)))))
        have HBx3 := Lib.hid (HBx2.out.grown hg3 (by omega) (fun j ej => by have := (hrow5.lt j ej).1; omega))
        have z3 : w.heap.size ≤ x3.heap.size := by omega
        clear h5x2 hwt4 hown6 hg1 hg2 hg3 hrow1 hrow1' hrow2 hrow5 hB06 HB46 HBx1 HBx2 hB3 hB4 hB5 s1 s2 s4 s5 s6 t1 t2 t3
        go_wp2_with (first
          | (go_at_call 16; refine (dDone_any _ _ _ _ hwx (by omega)).mono ?_; rintro e w7 ⟨a7, d7, rfl, hd7, hrow7, hb7⟩; have h67 := own_below h6x hb7)
          | (go_at_call 15; refine (cSB _ _ _ _ _ (rd_own hrow7) (rd_own h67)).mono ?_; clear cSB; rintro e w8 ⟨rfl, hb8⟩; have h68 := own_below h67 hb8; have z8 : w.heap.size ≤ w8.heap.size := (by have := hb7.size; have := hb8.size; omega); have hro8 := ((rd_own h68).below (new_below w8 (.cells #[] 5))).mono (Nat.le_of_lt (by simp : w8.heap.size < (w8.alloc (.cells #[] 5)).heap.size)))
          | (at_builtin; refine wpList_append_rd _ rfl (.tmp 61) (.tmp 62) 24 rfl w8.heap.size 5 i0 (.int .u8 0) 1 1 Try.underlying24 hi hzz0 hzz1 hzz2 rfl rfl (by decide) _ 0 [] rfl (own_empty w8 _) .u8 a6 p.length d6 p rfl rfl (own_none h68) (own_cap h68) hro8 (by unfold maxLen; omega) (by omega) (by simp) ?_; intro v9 w9 hown9 hgrow9; rw [Nat.zero_add, List.nil_append] at hown9; obtain ⟨a9, d9, rfl⟩ := own_slice hown9; have hB9 := Lib.hid (((Below.refl _ w8).alloc (Nat.le_refl _) _).grown hgrow9 (by simp) (fun j ej => ((own_empty w8 5).lt j ej).1)); clear hgrow9)
          | (go_at_call 20; refine (dRead_own a9 p.length d9 p w9 rfl (by omega) (own_cap hown9) (own_none hown9) (rd_own hown9)).mono ?_; rintro e w10 ⟨g10, a10, d10, rfl, hg10, hk10, hel10, hrow10, hb10⟩; have HK10 := Lib.hid hk10; clear hk10))
        have h910 := own_below hown9 hb10
        have t8 := hb8.size
        have t7 := hb7.size
        have t9 := hB9.out.size
        have t10 := hb10.size
        have hg10l : g10 < w10.heap.size := (Array.getElem?_eq_some_iff.1 HK10.out).1
        have HB10 := Lib.hid ((((HBx3.out.trans (hb7.mono z3)).trans (hb8.mono (by omega))).trans (hB9.out.mono z8)).trans (hb10.mono (by omega : w.heap.size ≤ w9.heap.size)))
        clear hwx h6x hrow7 h67 h68 hro8 hb7 hb8 hB9 hb10 HBx3
        go_loopw [15] (fun i wr => ∃ k : Nat, k ≤ p.length ∧ i = .int .i64 k ∧ Stored w10 wr (.slice a9 p.length d9) 5 p.length) (fun i _ => p.length - (intOf i).toNat)
        case atStart => exact ⟨0, Nat.zero_le _, rfl, stored_start h910⟩
        case round =>
          obtain ⟨k, hk, rfl, hst⟩ := hrel
          by_cases hlt : k < p.length
          · obtain ⟨j, u, rfl, hcu, hfu, hnext⟩ := stored_round hst hlt
            clear hst
            go_wp2
            go_roundw
            case rel => exact ⟨k + 1, by omega, by go_num, hnext.out _⟩
            case measure => simp [intOf]; omega
          obtain rfl : k = p.length := by omega
          clear hlt
          obtain ⟨x4, rfl⟩ : ∃ x4, x4 = wr := ⟨_, rfl⟩
          have hg4 := hst.1
          clear hst
          have t4 := hg4.size
          have hrd4 := read_rdr ((grown_blk hg4 hown9 hg10l (.inr hg10)).trans HK10.out) hel10 (own_heap hrow10 (fun j hj1 hj2 => grown_blk hg4 hown9 hj2 (.inr hj1)))
          have HB4 := Lib.hid (HB10.out.grown hg4 (by omega) (fun j ej => by have := (hown9.lt j ej).1; omega))
          have hzx4 : g10 < x4.heap.size := by omega
          clear h910 hown9 hrow10 HB10 hg4
          go_wp2_with (go_at_call 33; refine (cR1 _ _ hrd4).mono ?_; clear cR1; rintro e w11 ⟨a11, d11, rfl, hd11, hrow11, hrd11, hg11⟩)
          have t11 := hg11.size
          have HB11 := Lib.hid (HB4.out.grown hg11 (by omega) (fun j ej => by injection ej with ej; omega))
          go_loopw [17] (fun i wr => ∃ k : Nat, k ≤ ob.length ∧ i = .int .i64 k ∧ Stored w11 wr (.slice a11 ob.length d11) 5 ob.length) (fun i _ => ob.length - (intOf i).toNat)
          case atStart => exact ⟨0, Nat.zero_le _, rfl, stored_start hrow11⟩
          case round =>
            obtain ⟨k, hk, rfl, hst⟩ := hrel
            by_cases hlt : k < ob.length
            · obtain ⟨j, u, rfl, hcu, hfu, hnext⟩ := stored_round hst hlt
              clear hst
              go_wp2
              go_roundw
              case rel => exact ⟨k + 1, by omega, by go_num, hnext.out _⟩
              case measure => simp [intOf]; omega
            obtain rfl : k = ob.length := by omega
            clear hlt
            obtain ⟨x5, rfl⟩ : ∃ x5, x5 = wr := ⟨_, rfl⟩
            have hg5 := hst.1
            clear hst
            have t5 := hg5.size
            have hrd5 := rdr_grown hrd11 hg5 (fun j ej => by have := (hrow11.lt j ej).1; omega)
            have HB5 := Lib.hid (HB11.out.grown hg5 (by omega) (fun j ej => by have := (hrow11.lt j ej).1; omega))
            have z5 : w.heap.size ≤ x5.heap.size := by omega
            have zg : w.heap.size ≤ g10 := by omega
            clear hrd11 hrow11 hg5 HB11 hg11
            go_wp2_with (first
              | (go_at_call 35; refine (cR2 _ _ hrd5).mono ?_; clear cR2; rintro e w12 ⟨a12, d12, rfl, hd12, hrow12, hrd12, hg12⟩; have z12 : w.heap.size ≤ w12.heap.size := (by have := hg12.size; omega); have HB12 := Lib.hid (HB5.out.grown hg12 z5 (fun j ej => by injection ej with ej; omega)))
              | (go_at_call 13; refine (cN _ HB12.out).mono ?_; clear cN; rintro e w13 ⟨a13, d13, rfl, hd13, hrow13, hb13⟩; have hr12 := rd_own (own_below hrow12 hb13); have hrd13 := rdr_below hrd12 hb13)
              | (go_at_call 34; refine (cSI _ _ _ _ _ hr12 (rd_own hrow13)).mono ?_; clear cSI; rintro e w14 ⟨rfl, hb14⟩; have hrd14 := rdr_below hrd13 hb14; have HB14 := Lib.hid ((HB12.out.trans (hb13.mono z12)).trans (hb14.mono (Nat.le_trans z12 hb13.size))); have z14 : w.heap.size ≤ w14.heap.size := (by have := hb13.size; have := hb14.size; omega))
              | (go_at_call 24; refine (cEnd _ _ hrd14).mono ?_; clear cEnd; rintro e w' ⟨rfl, rfl⟩)
              | (go_at_call 18; refine (livesW_any _).mono ?_; rintro e w15 ⟨rfl, hb15⟩))
            go_ret
            exact ⟨rfl, HB14.out.trans (hb15.mono z14)⟩
end Go.Proofs.Ytebfgdonikedaaa
