/-
  THE WALK of the reference's At. Written by gen/genr6at.py.
-/
import Derived.Test.YtedhbpceonhmcaaR6Put
import Derived.Test.YtedhbpceonhmcaaR6Zero
namespace Go.Proofs.Ytedhbpceonhmcaa
open Go.RowKit

def atF (i : Int) (l : List En) : Int × ByteArray := l.foldl (fun p e => if e.i = i then (e.u, e.s) else p) (0, ⟨#[]⟩)
theorem at_two {w : World} {b : Nat} {t : TypeId} {c0 c1 c2 c3 c4 c5 : Value} (hb : w.heap[b]? = some (.cells #[c0, c1, c2, c3, c4, c5] t (0, 0))) (u v : Value) : ((w.setCell ⟨b, 3, none⟩ u).setCell ⟨b, 4, none⟩ v).heap[b]? = some (.cells #[c0, c1, c2, u, v, c5] t (0, 0)) := by
  rw [blk_set (blk_set hb u) v]; rfl
theorem atF_snoc (i : Int) (l : List En) (x : En) : atF i (l ++ [x]) = if x.i = i then (x.u, x.s) else atF i l := by
  unfold atF
  rw [List.foldl_append]
  rfl
theorem fold_high {i : Int} {p : Int × ByteArray} : ∀ (l : List En), (∀ x ∈ l, i < x.i) → l.foldl (fun p e => if e.i = i then (e.u, e.s) else p) p = p
  | [], _ => rfl
  | x :: l, h => by
    have h1 := h x (by simp)
    rw [List.foldl_cons, if_neg (by omega)]
    exact fold_high l (fun y hy => h y (by simp [hy]))
theorem atF_at {i : Int} : ∀ (l : List En), Srt l → atF i l = ((atE i l).u, (atE i l).s)
  | [], _ => rfl
  | x :: l, h => by
    have hs := srt_cons h
    rw [atE_cons]
    unfold atF
    rw [List.foldl_cons]
    by_cases h1 : x.i < i
    · rw [if_neg (by omega), if_pos h1]
      exact atF_at l hs.2
    · rw [if_neg h1]
      by_cases h2 : x.i = i
      · rw [if_pos h2, if_pos h2]
        exact fold_high l (fun y hy => by have := hs.1 y hy; omega)
      · rw [if_neg h2, if_neg h2]
        exact fold_high l (fun y hy => by have := hs.1 y hy; omega)

set_option maxHeartbeats 4000000 in
set_option maxRecDepth 100000 in
theorem r6At_any (x : Va) (v : Value) (i : Int) (w : World) (hv : VaV w (LoV w.heap.size) x v) (hsrt : Srt x.m) : Calls Try.prog 66 #[v, .int .u64 i] w fun e w' => e = .returned (vav (if x.k = 2 then 0 else 1) x.n 0 (atE i x.m).u (atE i x.m).s none 0 0) ∧ Below w.heap.size w w' := by
  obtain ⟨hok, A, c, rfl, hc, hA, hl⟩ := hv
  obtain ⟨k, n, ix, u0, s0, m⟩ := x
  simp only at hc hl hsrt
  obtain ⟨ml, hml0⟩ : ∃ z, z = m.length := ⟨_, rfl⟩
  have HML := Lib.hid hml0
  have hlen : ml ≤ 100000 := by rw [hml0]; exact hok.2.2.2.2
  show Calls Try.prog 66 #[vav k n ix u0 s0 A m.length c, .int .u64 i] w _
  rw [← hml0] at hc ⊢
  clear hml0 hok hA
  obtain ⟨ek, hek⟩ : ∃ e : Int, e = if k = 2 then 0 else 1 := ⟨_, rfl⟩
  have HEK := Lib.hid hek
  have HEl := Lib.hid (fun W => by have := r6Element_any k n ix W; rw [← hek] at this; exact this)
  rw [← hek]
  clear hek
  have hat := atF_at (i := i) m hsrt
  obtain ⟨ru, hru⟩ : ∃ u, u = (atE i m).u := ⟨_, rfl⟩
  obtain ⟨rs, hrs⟩ : ∃ s, s = (atE i m).s := ⟨_, rfl⟩
  rw [← hru, ← hrs] at hat ⊢
  have HAT := Lib.hid hat
  clear hru hrs hat
  clear hsrt
  unfold vav
  have hb0 := Lib.hid ((heap_alloc_old (w.alloc (.cells #[.int .i64 k, .int .i64 n, .int .i64 ix, .int .u64 u0, .string s0, .slice A ml c] 30)) (.cells #[.int .i64 0, .int .i64 0, .int .i64 0, .int .u64 0, .string ⟨#[]⟩, .slice none 0 0] 30) w.heap.size (by simp)).trans (heap_alloc_new w (.cells #[.int .i64 k, .int .i64 n, .int .i64 ix, .int .u64 u0, .string s0, .slice A ml c] 30)))
  have hb1 := Lib.hid (heap_alloc_new_at (w.alloc (.cells #[.int .i64 k, .int .i64 n, .int .i64 ix, .int .u64 u0, .string s0, .slice A ml c] 30)) (.cells #[.int .i64 0, .int .i64 0, .int .i64 0, .int .u64 0, .string ⟨#[]⟩, .slice none 0 0] 30) (n := w.heap.size + 1) (by simp))
  have hB := ((Below.refl w.heap.size w).alloc (Nat.le_refl _) (.cells #[.int .i64 k, .int .i64 n, .int .i64 ix, .int .u64 u0, .string s0, .slice A ml c] 30)).alloc (by simp) (.cells #[.int .i64 0, .int .i64 0, .int .i64 0, .int .u64 0, .string ⟨#[]⟩, .slice none 0 0] 30)
  have hz : ((w.alloc (.cells #[.int .i64 k, .int .i64 n, .int .i64 ix, .int .u64 u0, .string s0, .slice A ml c] 30)).alloc (.cells #[.int .i64 0, .int .i64 0, .int .i64 0, .int .u64 0, .string ⟨#[]⟩, .slice none 0 0] 30)).heap.size = w.heap.size + 2 := by simp
  obtain ⟨p0, p1, p2, p3, p4, p5⟩ := six hb0.out
  go_enter Try.func66, Try.ntmps66
  go_wp2_with fail
  clear p0 p1 p2 p3 p4 p5
  generalize ((w.alloc (.cells #[.int .i64 k, .int .i64 n, .int .i64 ix, .int .u64 u0, .string s0, .slice A ml c] 30)).alloc (.cells #[.int .i64 0, .int .i64 0, .int .i64 0, .int .u64 0, .string ⟨#[]⟩, .slice none 0 0] 30)) = w2 at *
  refine Calls.mono (HEl.out w2) ?_
  rintro e w3 ⟨rfl, h3⟩
  have hz2 := h3.size
  replace hb0 := Lib.hid ((h3.block _ (by omega)).trans hb0.out)
  replace hb1 := Lib.hid ((h3.block _ (by omega)).trans hb1.out)
  replace hB := hB.trans (h3.mono hB.size)
  go_wp2_with fail
  have hb5 := Lib.hid (heap_alloc_new w3 (.cells #[.int .i64 ek, .int .i64 n, .int .i64 0, .int .u64 0, .string ⟨#[]⟩, .slice none 0 0] 30))
  have hc0 := Lib.hid ((heap_alloc_old w3 (.cells #[.int .i64 ek, .int .i64 n, .int .i64 0, .int .u64 0, .string ⟨#[]⟩, .slice none 0 0] 30) w.heap.size (by omega)).trans hb0.out)
  have hc1 := Lib.hid ((heap_alloc_old w3 (.cells #[.int .i64 ek, .int .i64 n, .int .i64 0, .int .u64 0, .string ⟨#[]⟩, .slice none 0 0] 30) (w.heap.size + 1) (by omega)).trans hb1.out)
  have hB4 := hB.alloc hB.size (.cells #[.int .i64 ek, .int .i64 n, .int .i64 0, .int .u64 0, .string ⟨#[]⟩, .slice none 0 0] 30)
  have hz4 : w3.heap.size < (w3.alloc (.cells #[.int .i64 ek, .int .i64 n, .int .i64 0, .int .u64 0, .string ⟨#[]⟩, .slice none 0 0] 30)).heap.size := by simp
  obtain ⟨g, hg⟩ : ∃ g, g = w3.heap.size := ⟨_, rfl⟩
  rw [← hg] at hb5 hz4 ⊢
  have hgN : w.heap.size + 2 ≤ g := by omega
  clear hg
  generalize (w3.alloc (.cells #[.int .i64 ek, .int .i64 n, .int .i64 0, .int .u64 0, .string ⟨#[]⟩, .slice none 0 0] 30)) = w4 at *
  clear hb0 hb1 hB h3 hz2 hz
  have hng : ¬ w.heap.size = g := by omega
  have hng1 : ¬ w.heap.size + 1 = g := by omega
  have hgn : ¬ g = w.heap.size := by omega
  have hgn1 : ¬ g = w.heap.size + 1 := by omega
  go_loopw [6] (fun a wr => ∃ (j : Nat) (u : Int) (s : ByteArray), j ≤ ml ∧ a = .int .i64 (j : Int) ∧ Hid (atF i (m.take j) = (u, s)) ∧ Hid (wr.heap[w.heap.size]? = some (.cells #[.int .i64 k, .int .i64 n, .int .i64 ix, .int .u64 u0, .string s0, .slice A ml c] 30 (0, 0)) ∧ wr.heap[w.heap.size + 1]? = some (.cells #[.int .i64 0, .int .i64 0, .int .i64 0, .int .u64 0, .string ⟨#[]⟩, .slice none 0 0] 30 (0, 0)) ∧ wr.heap[g]? = some (.cells #[.int .i64 ek, .int .i64 n, .int .i64 0, .int .u64 u, .string s, .slice none 0 0] 30 (0, 0))) ∧ Below w.heap.size w wr ∧ g < wr.heap.size) (fun a _ => ml - (intOf a).toNat)
  case atStart => exact ⟨0, 0, ⟨#[]⟩, Nat.zero_le _, rfl, Lib.hid rfl, Lib.hid ⟨hc0.out, hc1.out, hb5.out⟩, hB4, hz4⟩
  case round =>
    clear hc0 hc1 hb5 hB4 hz4
    obtain ⟨j, u, s, hj, rfl, hF, hH, hW, hsz⟩ := hrel
    obtain ⟨p0, p1, p2, p3, p4, p5⟩ := six hH.out.1
    obtain ⟨z0, z1, z2, z3, z4, z5⟩ := six hH.out.2.1
    obtain ⟨o0, o1, o2, o3, o4, o5⟩ := six hH.out.2.2
    have hf1 := blk_frozen hH.out.2.1
    have hf5 := blk_frozen hH.out.2.2
    by_cases hlt : j < ml
    · have hjm : j < m.length := by have := HML.out; omega
      obtain ⟨bl, ol, rfl, hbl, h3⟩ := hl.get hjm
      have h3' := h3.to (hW.block bl hbl)
      have HX := Lib.hid (show atF i (m.take (j + 1)) = if m[j].i = i then (m[j].u, m[j].s) else atF i (m.take j) from by rw [List.take_succ_eq_append_getElem hjm, atF_snoc])
      generalize m[j] = y at h3' HX
      obtain ⟨xi, xu, xs⟩ := y
      simp only at HX
      obtain ⟨e0, e1, e2⟩ := h3'
      have hji : (j : Int) < (ml : Int) := by omega
      have hj0 : (0 : Int) ≤ (j : Int) := by omega
      have hbg : ¬ bl = g := by have : bl < w.heap.size := hbl; omega
      have hgb : ¬ g = bl := by have : bl < w.heap.size := hbl; omega
      clear h3
      by_cases hxi : xi = i
      · have gx : (xi == i) = true := by rw [hxi]; simp
        have HXI := Lib.hid hxi
        clear hxi
        go_wp2_with fail
        go_roundw
        case rel => exact ⟨j + 1, xu, xs, by omega, by go_num, Lib.hid (by rw [HX.out, if_pos HXI.out]), Lib.hid ⟨(Below.heap_setCell _ _ _ _ hng).trans ((Below.heap_setCell _ _ _ _ hng).trans hH.out.1), (Below.heap_setCell _ _ _ _ hng1).trans ((Below.heap_setCell _ _ _ _ hng1).trans hH.out.2.1), at_two hH.out.2.2 _ _⟩, (hW.setCell (p := ⟨g, 3, none⟩) (by show _ ≤ g; omega) _).setCell (p := ⟨g, 4, none⟩) (by show _ ≤ g; omega) _, by simpa [World.setCell] using hsz⟩
        case measure => simp [intOf]; omega
      · have gx : (xi == i) = false := by rw [beq_eq_false_iff_ne]; exact hxi
        have HXI := Lib.hid hxi
        clear hxi
        go_wp2_with fail
        go_roundw
        case rel => exact ⟨j + 1, u, s, by omega, by go_num, Lib.hid (by rw [HX.out, if_neg HXI.out]; exact hF.out), hH, hW, hsz⟩
        case measure => simp [intOf]; omega
    · have hji : ¬ (j : Int) < (ml : Int) := by omega
      go_wp2_with fail
      refine bodyPost_ret (v := .agg #[.int .i64 ek, .int .i64 n, .int .i64 0, .int .u64 u, .string s, .slice none 0 0]) (by simp [results, Try.results66, go_sem, z0, z1, z2, z3, z4, z5]) rfl ?_
      have e1 : atF i m = (u, s) := by have := hF.out; rwa [List.take_of_length_le (by have := HML.out; omega)] at this
      rw [HAT.out] at e1
      injection e1 with e1 e2
      refine ⟨?_, set6_below hW (Nat.le_succ _) _ _ _ _ _ _⟩
      rw [e1, e2]
end Go.Proofs.Ytedhbpceonhmcaa
