/-
  THE WALK of the reference's Least. Written by gen/genr6least.py.
-/
import Derived.Test.YtedhbpceonhmcaaR6At
import Derived.Test.YtedhbpceonhmcaaR6Same
import Derived.Test.YtedhbpceonhmcaaL6Dff
namespace Go.Proofs.Ytedhbpceonhmcaa
open Go.RowKit

def bestF (l m : List En) (b : Int) (x : En) : Int := if x.i < b ∧ sameE x.i l m = false then x.i else b
theorem best_fold (l m : List En) : ∀ (p : List En) (B : Int), (p.foldl (bestF l m) B = B ∨ ∃ z ∈ p, z.i = p.foldl (bestF l m) B ∧ sameE (p.foldl (bestF l m) B) l m = false) ∧ p.foldl (bestF l m) B ≤ B ∧ ∀ z ∈ p, sameE z.i l m = false → p.foldl (bestF l m) B ≤ z.i
  | [], B => ⟨.inl rfl, Int.le_refl _, fun z hz => by cases hz⟩
  | x :: p, B => by
    obtain ⟨h1, h2, h3⟩ := best_fold l m p (bestF l m B x)
    rw [List.foldl_cons]
    have hb : bestF l m B x ≤ B ∧ (sameE x.i l m = false → bestF l m B x ≤ x.i) ∧ (bestF l m B x = B ∨ bestF l m B x = x.i ∧ sameE x.i l m = false) := by
      unfold bestF
      split
      · rename_i h; exact ⟨by omega, fun _ => by omega, .inr ⟨rfl, h.2⟩⟩
      · rename_i h; exact ⟨by omega, fun hs => by by_cases hx : x.i < B; exact absurd ⟨hx, hs⟩ h; omega, .inl rfl⟩
    refine ⟨?_, by omega, fun z hz hs => ?_⟩
    · rcases h1 with h1 | ⟨z, hz, h4, h5⟩
      · rcases hb.2.2 with h6 | ⟨h6, h7⟩
        · exact .inl (h1.trans h6)
        · exact .inr ⟨x, by simp, by rw [h1, h6], by rw [h1, h6]; exact h7⟩
      · exact .inr ⟨z, by simp [hz], h4, h5⟩
    · rcases List.mem_cons.1 hz with rfl | hz
      · have := hb.2.1 hs; omega
      · exact h3 z hz hs
theorem two_lists {w : World} {b : Nat} {t : TypeId} {c0 c1 : Value} (hb : w.heap[b]? = some (.cells #[c0, c1] t (0, 0))) : w.cell? ⟨b, 0, none⟩ = some c0 ∧ w.cell? ⟨b, 1, none⟩ = some c1 :=
  ⟨by rw [cell_of_row w b 0 _ t _ hb]; rfl, by rw [cell_of_row w b 1 _ t _ hb]; rfl⟩
theorem dff_refl : ∀ l : List En, dffI l l = 0
  | [] => rfl
  | x :: l => by rw [dff_same_cons, dff_refl l]
theorem best_dff {k n ix : Int} {l m : List En} (hk : k = 2 ∨ k = 3) (h1 : valE ⟨k, n, ix, 0, .empty, l⟩ = 0) (h2 : valE ⟨k, n, ix, 0, .empty, m⟩ = 0) (o1 : ∀ e ∈ l, e.ok) (o2 : ∀ e ∈ m, e.ok) (hg : grI ix < 1048576) :
    (if (m.foldl (bestF l m) (l.foldl (bestF l m) 1048576)) = 1048576 then 0 else m.foldl (bestF l m) (l.foldl (bestF l m) 1048576)) = dffI l m := by
  rw [← List.foldl_append]
  obtain ⟨a1, a2, a3⟩ := best_fold l m (l ++ m) 1048576
  obtain ⟨r1, r2, r3⟩ := dff_arr hk h1 h2 o1 o2
  generalize (l ++ m).foldl (bestF l m) 1048576 = b at *
  by_cases hlm : l = m
  · subst hlm
    rcases a1 with h | ⟨z, _, _, h⟩
    · rw [if_pos h, dff_refl]
    · rw [sameE_refl] at h; cases h
  · obtain ⟨z, hz, he⟩ := dff_mem hlm
    have hs : sameE (dffI l m) l m = false := by
      cases h : sameE (dffI l m) l m with
      | false => rfl
      | true => exact absurd (r3.1 h) hlm
    have hle := a3 z (List.mem_append.2 hz) (by rw [he]; exact hs)
    rw [if_neg (by omega)]
    rcases a1 with h | ⟨y, hy, h4, h5⟩
    · omega
    · rcases (show b < dffI l m ∨ dffI l m ≤ b by omega) with h6 | h6
      · rw [same_low h6] at h5; cases h5
      · omega

set_option maxHeartbeats 8000000 in
set_option maxRecDepth 100000 in
theorem r6Least_any (k n ix : Int) (m m2 : List En) (v1 v2 : Value) (w : World) (hx : VaV w (LoV w.heap.size) ⟨k, n, ix, 0, .empty, m⟩ v1) (hy : VaV w (LoV w.heap.size) ⟨k, n, ix, 0, .empty, m2⟩ v2) (h1 : valE ⟨k, n, ix, 0, .empty, m⟩ = 0) (h2 : valE ⟨k, n, ix, 0, .empty, m2⟩ = 0) (hk : k = 2 ∨ k = 3) :
    Calls Try.prog 71 #[v1, v2] w fun e w' => e = .returned (.int .u64 (dffI m m2)) ∧ Below w.heap.size w w' := by
  have Hx := Lib.hid hx
  have Hy := Lib.hid hy
  obtain ⟨hok, A, c, rfl, hc, hA, hl⟩ := hx
  obtain ⟨hok2, B, d, rfl, hd, hB, hl2⟩ := hy
  have hml := hok.2.2.2.2
  have hml2 := hok2.2.2.2.2
  simp only at hc hl hml hd hl2 hml2
  obtain ⟨s1, f1⟩ := arr_facts hk h1
  obtain ⟨s2, f2⟩ := arr_facts hk h2
  have hg : grI ix < 1048576 := by
    have hs := (val_parts h1).1
    have hix : 0 ≤ ix ∧ ix ≤ 16 := by rcases hk with rfl | rfl <;> (simp [sortOk] at hs; omega)
    have hp : (2 : Int) ^ ix.toNat ≤ 2 ^ 16 := by exact_mod_cast Nat.pow_le_pow_right (by decide) (by omega)
    unfold grI
    omega
  have HD := Lib.hid (best_dff hk h1 h2 hok.2.2.2.1 hok2.2.2.2.1 hg)
  have HI := Lib.hid (And.intro hok.2.2.2.1 hok2.2.2.2.1)
  obtain ⟨R, hR⟩ : ∃ R, R = dffI m m2 := ⟨_, rfl⟩
  rw [← hR] at HD ⊢
  obtain ⟨ek, hek⟩ : ∃ e : Int, e = if k = 2 then 0 else 1 := ⟨_, rfl⟩
  have HA := Lib.hid (fun (W : World) (i : Int) (h : Below w.heap.size w W) => by have := r6At_any ⟨k, n, ix, 0, .empty, m⟩ _ i W (Hx.out.call h) s1; simp only at this; rw [← hek] at this; exact this)
  have HB := Lib.hid (fun (W : World) (i : Int) (h : Below w.heap.size w W) => by have := r6At_any ⟨k, n, ix, 0, .empty, m2⟩ _ i W (Hy.out.call h) s2; simp only at this; rw [← hek] at this; exact this)
  have HS := Lib.hid (fun (i : Int) (W : World) (h1 : (⟨ek, n, 0, (atE i m).u, (atE i m).s, []⟩ : Va).ok) (h2 : (⟨ek, n, 0, (atE i m2).u, (atE i m2).s, []⟩ : Va).ok) => by have := r6Same_any ⟨ek, n, 0, (atE i m).u, (atE i m).s, []⟩ ⟨ek, n, 0, (atE i m2).u, (atE i m2).s, []⟩ _ _ W (elVal h1) (elVal h2); rw [cmp_same ek n i m m2] at this; exact this)
  have HEO := Lib.hid (show ∀ (i : Int) (q : List En), (∀ e ∈ q, e.ok) → (⟨ek, n, 0, (atE i q).u, (atE i q).s, []⟩ : Va).ok from fun i q hq => el_ok ⟨by rw [hek]; split <;> exact ⟨by decide, by decide⟩, hok.1.2.1, ⟨by decide, by decide⟩⟩ (at_ok hq i))
  clear hR hek h1 h2 s1 s2 f1 f2 hg hok hok2
  obtain ⟨ml, hml0⟩ : ∃ z, z = m.length := ⟨_, rfl⟩
  obtain ⟨ml2, hml20⟩ : ∃ z, z = m2.length := ⟨_, rfl⟩
  have HML := Lib.hid hml0
  have HML2 := Lib.hid hml20
  have hem : (.empty : ByteArray) = ⟨#[]⟩ := rfl
  unfold vav at HA HB HS ⊢
  simp only at HA HB ⊢
  rw [← hml0] at HA hc hml ⊢
  rw [← hml20] at HB hd hml2 ⊢
  rw [hem] at HA HB ⊢
  clear hml0 hml20 hA hB Hx Hy hem
  have hb0 := Lib.hid ((heap_alloc_old (w.alloc (.cells #[.int .i64 k, .int .i64 n, .int .i64 ix, .int .u64 0, .string ⟨#[]⟩, .slice A ml c] 30)) (.cells #[.int .i64 k, .int .i64 n, .int .i64 ix, .int .u64 0, .string ⟨#[]⟩, .slice B ml2 d] 30) w.heap.size (by simp)).trans (heap_alloc_new w (.cells #[.int .i64 k, .int .i64 n, .int .i64 ix, .int .u64 0, .string ⟨#[]⟩, .slice A ml c] 30)))
  have hb1 := Lib.hid (heap_alloc_new_at (w.alloc (.cells #[.int .i64 k, .int .i64 n, .int .i64 ix, .int .u64 0, .string ⟨#[]⟩, .slice A ml c] 30)) (.cells #[.int .i64 k, .int .i64 n, .int .i64 ix, .int .u64 0, .string ⟨#[]⟩, .slice B ml2 d] 30) (n := w.heap.size + 1) (by simp))
  have hBw := ((Below.refl w.heap.size w).alloc (Nat.le_refl _) (.cells #[.int .i64 k, .int .i64 n, .int .i64 ix, .int .u64 0, .string ⟨#[]⟩, .slice A ml c] 30)).alloc (by simp) (.cells #[.int .i64 k, .int .i64 n, .int .i64 ix, .int .u64 0, .string ⟨#[]⟩, .slice B ml2 d] 30)
  have hz : ((w.alloc (.cells #[.int .i64 k, .int .i64 n, .int .i64 ix, .int .u64 0, .string ⟨#[]⟩, .slice A ml c] 30)).alloc (.cells #[.int .i64 k, .int .i64 n, .int .i64 ix, .int .u64 0, .string ⟨#[]⟩, .slice B ml2 d] 30)).heap.size = w.heap.size + 2 := by simp
  obtain ⟨p0, p1, p2, p3, p4, p5⟩ := six hb0.out
  obtain ⟨q0, q1, q2, q3, q4, q5⟩ := six hb1.out
  go_enter Try.func71, Try.ntmps71
  go_wp2_with fail
  clear p0 p1 p2 p3 p4 p5 q0 q1 q2 q3 q4 q5
  have hb2 := Lib.hid (heap_alloc_new ((w.alloc (.cells #[.int .i64 k, .int .i64 n, .int .i64 ix, .int .u64 0, .string ⟨#[]⟩, .slice A ml c] 30)).alloc (.cells #[.int .i64 k, .int .i64 n, .int .i64 ix, .int .u64 0, .string ⟨#[]⟩, .slice B ml2 d] 30)) (.cells #[.slice A ml c, .slice B ml2 d] 28))
  have hB3 : Below w.heap.size w (((w.alloc (.cells #[.int .i64 k, .int .i64 n, .int .i64 ix, .int .u64 0, .string ⟨#[]⟩, .slice A ml c] 30)).alloc (.cells #[.int .i64 k, .int .i64 n, .int .i64 ix, .int .u64 0, .string ⟨#[]⟩, .slice B ml2 d] 30)).alloc (.cells #[.slice A ml c, .slice B ml2 d] 28)) := hBw.alloc hBw.size (.cells #[.slice A ml c, .slice B ml2 d] 28)
  have hz3 : (((w.alloc (.cells #[.int .i64 k, .int .i64 n, .int .i64 ix, .int .u64 0, .string ⟨#[]⟩, .slice A ml c] 30)).alloc (.cells #[.int .i64 k, .int .i64 n, .int .i64 ix, .int .u64 0, .string ⟨#[]⟩, .slice B ml2 d] 30)).alloc (.cells #[.slice A ml c, .slice B ml2 d] 28)).heap.size = w.heap.size + 3 := by simp
  have hc0 := Lib.hid ((heap_alloc_old ((w.alloc (.cells #[.int .i64 k, .int .i64 n, .int .i64 ix, .int .u64 0, .string ⟨#[]⟩, .slice A ml c] 30)).alloc (.cells #[.int .i64 k, .int .i64 n, .int .i64 ix, .int .u64 0, .string ⟨#[]⟩, .slice B ml2 d] 30)) (.cells #[.slice A ml c, .slice B ml2 d] 28) w.heap.size (by omega)).trans hb0.out)
  have hc1 := Lib.hid ((heap_alloc_old ((w.alloc (.cells #[.int .i64 k, .int .i64 n, .int .i64 ix, .int .u64 0, .string ⟨#[]⟩, .slice A ml c] 30)).alloc (.cells #[.int .i64 k, .int .i64 n, .int .i64 ix, .int .u64 0, .string ⟨#[]⟩, .slice B ml2 d] 30)) (.cells #[.slice A ml c, .slice B ml2 d] 28) (w.heap.size + 1) (by omega)).trans hb1.out)
  rw [hz] at hb2
  clear hb0 hb1 hBw hz
  generalize (((w.alloc (.cells #[.int .i64 k, .int .i64 n, .int .i64 ix, .int .u64 0, .string ⟨#[]⟩, .slice A ml c] 30)).alloc (.cells #[.int .i64 k, .int .i64 n, .int .i64 ix, .int .u64 0, .string ⟨#[]⟩, .slice B ml2 d] 30)).alloc (.cells #[.slice A ml c, .slice B ml2 d] 28)) = w3 at *
  have HF := Lib.hid (show ∀ W, Below (w.heap.size + 3) w3 W → (fun W : World => (W.cell? ⟨w.heap.size, 0, none⟩ = some (.int .i64 k) ∧ W.cell? ⟨w.heap.size, 1, none⟩ = some (.int .i64 n) ∧ W.cell? ⟨w.heap.size, 2, none⟩ = some (.int .i64 ix) ∧ W.cell? ⟨w.heap.size, 3, none⟩ = some (.int .u64 0) ∧ W.cell? ⟨w.heap.size, 4, none⟩ = some (.string ⟨#[]⟩) ∧ W.cell? ⟨w.heap.size, 5, none⟩ = some (.slice A ml c)) ∧ (W.cell? ⟨w.heap.size + 1, 0, none⟩ = some (.int .i64 k) ∧ W.cell? ⟨w.heap.size + 1, 1, none⟩ = some (.int .i64 n) ∧ W.cell? ⟨w.heap.size + 1, 2, none⟩ = some (.int .i64 ix) ∧ W.cell? ⟨w.heap.size + 1, 3, none⟩ = some (.int .u64 0) ∧ W.cell? ⟨w.heap.size + 1, 4, none⟩ = some (.string ⟨#[]⟩) ∧ W.cell? ⟨w.heap.size + 1, 5, none⟩ = some (.slice B ml2 d)) ∧ W.cell? ⟨w.heap.size + 2, 0, none⟩ = some (.slice A ml c) ∧ W.cell? ⟨w.heap.size + 2, 1, none⟩ = some (.slice B ml2 d)) W from fun W h => ⟨six ((h.block _ (by omega)).trans hc0.out), six ((h.block _ (by omega)).trans hc1.out), two_lists ((h.block _ (by omega)).trans hb2.out)⟩)
  have HW := Lib.hid (fun W (h : Below (w.heap.size + 3) w3 W) => (hB3.trans (h.mono (by omega)) : Below w.heap.size w W))
  have HZ := Lib.hid (fun W (h : Below (w.heap.size + 3) w3 W) => (hz3 ▸ h.size : w.heap.size + 3 ≤ W.heap.size))
  have HG := Lib.hid (fun W W' (h : Below (w.heap.size + 3) w3 W) (h' : Below W.heap.size W W') => (h.trans (h'.mono (HZ.out W h)) : Below (w.heap.size + 3) w3 W'))
  clear hc0 hc1 hb2 hB3 hz3
  go_loopw [5, 7] (fun b t wr => ∃ (q : Nat) (bb : Int), q ≤ 2 ∧ b = .int .u64 bb ∧ t = .int .i64 (q : Int) ∧ Hid (bb = if q = 0 then 1048576 else if q = 1 then m.foldl (bestF m m2) 1048576 else m2.foldl (bestF m m2) (m.foldl (bestF m m2) 1048576)) ∧ Below (w.heap.size + 3) w3 wr) (fun _ t _ => 2 - (intOf t).toNat)
  case atStart => exact ⟨0, 1048576, by omega, rfl, rfl, Lib.hid rfl, Below.refl _ _⟩
  case round =>
    obtain ⟨q, bb, hq, rfl, rfl, hbb, hG⟩ := hrel
    by_cases hq2 : q < 2
    · rcases (show q = 0 ∨ q = 1 by omega) with rfl | rfl
      · skip
        obtain ⟨⟨p0, p1, p2, p3, p4, p5⟩, ⟨q0, q1, q2, q3, q4, q5⟩, l0, l1⟩ := HF.out _ hG
        obtain ⟨B0, hB0⟩ : ∃ z, z = bb := ⟨_, rfl⟩
        have HB0 := Lib.hid hB0
        have HBX := Lib.hid (show B0 = 1048576 from by rw [hB0, hbb.out]; rfl)
        clear hB0
        go_wp2_with fail
        clear p0 p1 p2 p3 p4 p5 q0 q1 q2 q3 q4 q5 l0 l1
        obtain ⟨wo, rfl⟩ : ∃ wo, wo = wr := ⟨_, rfl⟩
        have hGo := Lib.hid hG
        go_loopw [5, 8] (fun b i wr => ∃ (j : Nat) (b2 : Int), j ≤ ml ∧ b = .int .u64 b2 ∧ i = .int .i64 (j : Int) ∧ Hid (b2 = (m.take j).foldl (bestF m m2) B0) ∧ Below (w.heap.size + 3) w3 wr) (fun _ i _ => ml - (intOf i).toNat)
        case atStart => exact ⟨0, bb, Nat.zero_le _, rfl, rfl, Lib.hid HB0.out.symm, hGo.out⟩
        case round =>
          clear hG
          obtain ⟨j, b2, hj, rfl, rfl, hb2, hG⟩ := hrel
          obtain ⟨⟨p0, p1, p2, p3, p4, p5⟩, ⟨q0, q1, q2, q3, q4, q5⟩, l0, l1⟩ := HF.out _ hG
          by_cases hlt : j < ml
          · have hjm : j < m.length := by have := HML.out; omega
            obtain ⟨bl, ol, rfl, hbl, h3⟩ := hl.get hjm
            have h3' := h3.to ((HW.out _ hG).block bl hbl)
            have HX := Lib.hid (show (m.take (j + 1)).foldl (bestF m m2) B0 = bestF m m2 ((m.take j).foldl (bestF m m2) B0) m[j] from by rw [List.take_succ_eq_append_getElem hjm, List.foldl_append]; rfl)
            rw [← hb2.out] at HX
            generalize m[j] = y at h3' HX
            obtain ⟨xi, xu, xs⟩ := y
            obtain ⟨e0, e1, e2⟩ := h3'
            have hji : (j : Int) < (ml : Int) := by omega
            have hj0 : (0 : Int) ≤ (j : Int) := by omega
            clear h3
            go_wp2_with fail
            clear e0 e1 e2 p0 p1 p2 p3 p4 p5 q0 q1 q2 q3 q4 q5 l0 l1
            have hd : Below (w.heap.size + 3) w3 wr.drew := hG.drew
            by_cases hxb : xi < b2
            · have gx : decide (xi < b2) = true := decide_eq_true hxb
              cases hsm : sameE xi m m2 with
              | false =>
                have HSM := Lib.hid hsm
                have HXB := Lib.hid hxb
                clear hsm hxb
                refine wp_region_held_drew (S := fun W => (W.cell? ⟨w.heap.size, 0, none⟩ = some (.int .i64 k) ∧ W.cell? ⟨w.heap.size, 1, none⟩ = some (.int .i64 n) ∧ W.cell? ⟨w.heap.size, 2, none⟩ = some (.int .i64 ix) ∧ W.cell? ⟨w.heap.size, 3, none⟩ = some (.int .u64 0) ∧ W.cell? ⟨w.heap.size, 4, none⟩ = some (.string ⟨#[]⟩) ∧ W.cell? ⟨w.heap.size, 5, none⟩ = some (.slice (some ⟨bl, ol, none⟩) ml c)) ∧ (W.cell? ⟨w.heap.size + 1, 0, none⟩ = some (.int .i64 k) ∧ W.cell? ⟨w.heap.size + 1, 1, none⟩ = some (.int .i64 n) ∧ W.cell? ⟨w.heap.size + 1, 2, none⟩ = some (.int .i64 ix) ∧ W.cell? ⟨w.heap.size + 1, 3, none⟩ = some (.int .u64 0) ∧ W.cell? ⟨w.heap.size + 1, 4, none⟩ = some (.string ⟨#[]⟩) ∧ W.cell? ⟨w.heap.size + 1, 5, none⟩ = some (.slice B ml2 d)) ∧ W.cell? ⟨w.heap.size + 2, 0, none⟩ = some (.slice (some ⟨bl, ol, none⟩) ml c) ∧ W.cell? ⟨w.heap.size + 2, 1, none⟩ = some (.slice B ml2 d)) (by kernel_rfl) (HF.out _ hd) (fun hHeld => ?_)
                (try simp only [List.size_toArray, List.length_cons, List.length_nil, Nat.zero_add, Nat.reduceAdd])
                refine wpAnyH_takeL (i := 0) (v := ?v6) rfl (by kernel_rfl) (by kernel_rfl) (by kernel_rfl) (fun _ _ _ h => h) (Or.inl ⟨by rfl, ?y6⟩) (by assumption) ?r6
                case y6 => (intro W hSw; (try dsimp only at hSw); go_simp; try with_reducible rfl)
                (try simp only [Act.put, List.setIfInBounds_toArray, List.set_cons_zero, List.set_cons_succ])
                refine wpAnyH_takeL (i := 1) (v := ?v7) rfl (by kernel_rfl) (by kernel_rfl) (by kernel_rfl) (fun _ _ _ h => h) (Or.inl ⟨by rfl, ?y7⟩) (by assumption) ?r7
                case y7 => (intro W hSw; (try dsimp only at hSw); go_simp; try with_reducible rfl)
                (try simp only [Act.put, List.setIfInBounds_toArray, List.set_cons_zero, List.set_cons_succ])
                refine wpAnyH_takeL (i := 2) (v := ?v8) rfl (by kernel_rfl) (by kernel_rfl) (by kernel_rfl) (fun _ _ _ h => h) (Or.inl ⟨by rfl, ?y8⟩) (by assumption) ?r8
                case y8 => (intro W hSw; (try dsimp only at hSw); go_simp; try with_reducible rfl)
                (try simp only [Act.put, List.setIfInBounds_toArray, List.set_cons_zero, List.set_cons_succ])
                refine wpAnyH_takeL (i := 3) (v := ?v9) rfl (by kernel_rfl) (by kernel_rfl) (by kernel_rfl) (fun _ _ _ h => h) (Or.inl ⟨by rfl, ?y9⟩) (by assumption) ?r9
                case y9 => (intro W hSw; (try dsimp only at hSw); go_simp; try with_reducible rfl)
                (try simp only [Act.put, List.setIfInBounds_toArray, List.set_cons_zero, List.set_cons_succ])
                refine wpAnyH_takeL (i := 4) (v := ?v10) rfl (by kernel_rfl) (by kernel_rfl) (by kernel_rfl) (fun _ _ _ h => h) (Or.inl ⟨by rfl, ?y10⟩) (by assumption) ?r10
                case y10 => (intro W hSw; (try dsimp only at hSw); go_simp; try with_reducible rfl)
                (try simp only [Act.put, List.setIfInBounds_toArray, List.set_cons_zero, List.set_cons_succ])
                refine wpAnyH_takeL (i := 5) (v := ?v11) rfl (by kernel_rfl) (by kernel_rfl) (by kernel_rfl) (fun _ _ _ h => h) (Or.inl ⟨by rfl, ?y11⟩) (by assumption) ?r11
                case y11 => (intro W hSw; (try dsimp only at hSw); go_simp; try with_reducible rfl)
                (try simp only [Act.put, List.setIfInBounds_toArray, List.set_cons_zero, List.set_cons_succ])
                refine wpAnyH_takeL (i := 7) (v := ?v12) rfl (by kernel_rfl) (by kernel_rfl) (by kernel_rfl) (fun _ _ _ h => h) (Or.inl ⟨by rfl, ?y12⟩) (by assumption) ?r12
                case y12 => (intro W hSw; (try dsimp only at hSw); go_simp; try with_reducible rfl)
                (try simp only [Act.put, List.setIfInBounds_toArray, List.set_cons_zero, List.set_cons_succ])
                refine wpAnyH_takeL (i := 8) (v := ?v13) rfl (by kernel_rfl) (by kernel_rfl) (by kernel_rfl) (fun _ _ _ h => h) (Or.inl ⟨by rfl, ?y13⟩) (by assumption) ?r13
                case y13 => (intro W hSw; (try dsimp only at hSw); go_simp; try with_reducible rfl)
                (try simp only [Act.put, List.setIfInBounds_toArray, List.set_cons_zero, List.set_cons_succ])
                refine wpAnyH_ready (rs := [6]) (by kernel_rfl) (by simp) ?_
                refine consL rfl (fun K hK => ?_) AllReadyH.nil
                go_simp
                refine Calls.mono (HA.out _ xi (HW.out _ hd)) ?_
                rintro e w5 ⟨rfl, h5⟩
                have g5 := HG.out _ _ hd h5
                (try dsimp only)
                refine hK.out _ _ (HF.out _ g5) (fun hHeld => ?_)
                clear hK K
                (try simp only [Act.put, List.setIfInBounds_toArray, List.set_cons_zero, List.set_cons_succ])
                refine wpAnyH_ready (rs := [9]) (by kernel_rfl) (by simp) ?_
                refine consL rfl (fun K hK => ?_) AllReadyH.nil
                go_simp
                refine Calls.mono (HB.out _ xi (HW.out _ g5)) ?_
                rintro e w6 ⟨rfl, h6⟩
                have g6 := HG.out _ _ g5 h6
                (try dsimp only)
                refine hK.out _ _ (HF.out _ g6) (fun hHeld => ?_)
                clear hK K
                (try simp only [Act.put, List.setIfInBounds_toArray, List.set_cons_zero, List.set_cons_succ])
                refine wpAnyH_ready (rs := [10]) (by kernel_rfl) (by simp) ?_
                refine consL rfl (fun K hK => ?_) AllReadyH.nil
                go_simp
                have hSm := HS.out xi w6 (HEO.out xi m HI.out.1) (HEO.out xi m2 HI.out.2)
                rw [HSM.out] at hSm
                refine Calls.mono hSm ?_
                clear hSm
                rintro e w7 ⟨rfl, h7⟩
                have g7 := HG.out _ _ g6 h7
                (try dsimp only)
                refine hK.out _ _ (HF.out _ g7) (fun hHeld => ?_)
                clear hK K
                (try simp only [Act.put, List.setIfInBounds_toArray, List.set_cons_zero, List.set_cons_succ])
                refine wpAnyH_takeL (i := 11) (v := ?v14) rfl (by kernel_rfl) (by kernel_rfl) (by kernel_rfl) (fun _ _ _ h => h) (Or.inl ⟨by rfl, ?y14⟩) (by assumption) ?r14
                case y14 => (intro W hSw; (try dsimp only at hSw); go_simp; try with_reducible rfl)
                (try simp only [Act.put, List.setIfInBounds_toArray, List.set_cons_zero, List.set_cons_succ])
                refine wpAnyH_takeL (i := 12) (v := ?v15) rfl (by kernel_rfl) (by kernel_rfl) (by kernel_rfl) (fun _ _ _ h => h) (Or.inl ⟨by rfl, ?y15⟩) (by assumption) ?r15
                case y15 => (intro W hSw; (try dsimp only at hSw); go_simp; try with_reducible rfl)
                (try simp only [Act.put, List.setIfInBounds_toArray, List.set_cons_zero, List.set_cons_succ])
                refine wpAnyH_done (by kernel_rfl) ?_ _
                go_wp2_with fail
                go_roundw
                case rel => exact ⟨j + 1, xi, by omega, rfl, by go_num, Lib.hid (by rw [HX.out]; unfold bestF; rw [if_pos ⟨HXB.out, HSM.out⟩]), g7⟩
                case measure => simp [intOf]; omega
              | true =>
                have HSM := Lib.hid hsm
                have HXB := Lib.hid hxb
                clear hsm hxb
                refine wp_region_held_drew (S := fun W => (W.cell? ⟨w.heap.size, 0, none⟩ = some (.int .i64 k) ∧ W.cell? ⟨w.heap.size, 1, none⟩ = some (.int .i64 n) ∧ W.cell? ⟨w.heap.size, 2, none⟩ = some (.int .i64 ix) ∧ W.cell? ⟨w.heap.size, 3, none⟩ = some (.int .u64 0) ∧ W.cell? ⟨w.heap.size, 4, none⟩ = some (.string ⟨#[]⟩) ∧ W.cell? ⟨w.heap.size, 5, none⟩ = some (.slice (some ⟨bl, ol, none⟩) ml c)) ∧ (W.cell? ⟨w.heap.size + 1, 0, none⟩ = some (.int .i64 k) ∧ W.cell? ⟨w.heap.size + 1, 1, none⟩ = some (.int .i64 n) ∧ W.cell? ⟨w.heap.size + 1, 2, none⟩ = some (.int .i64 ix) ∧ W.cell? ⟨w.heap.size + 1, 3, none⟩ = some (.int .u64 0) ∧ W.cell? ⟨w.heap.size + 1, 4, none⟩ = some (.string ⟨#[]⟩) ∧ W.cell? ⟨w.heap.size + 1, 5, none⟩ = some (.slice B ml2 d)) ∧ W.cell? ⟨w.heap.size + 2, 0, none⟩ = some (.slice (some ⟨bl, ol, none⟩) ml c) ∧ W.cell? ⟨w.heap.size + 2, 1, none⟩ = some (.slice B ml2 d)) (by kernel_rfl) (HF.out _ hd) (fun hHeld => ?_)
                (try simp only [List.size_toArray, List.length_cons, List.length_nil, Nat.zero_add, Nat.reduceAdd])
                refine wpAnyH_takeL (i := 0) (v := ?v16) rfl (by kernel_rfl) (by kernel_rfl) (by kernel_rfl) (fun _ _ _ h => h) (Or.inl ⟨by rfl, ?y16⟩) (by assumption) ?r16
                case y16 => (intro W hSw; (try dsimp only at hSw); go_simp; try with_reducible rfl)
                (try simp only [Act.put, List.setIfInBounds_toArray, List.set_cons_zero, List.set_cons_succ])
                refine wpAnyH_takeL (i := 1) (v := ?v17) rfl (by kernel_rfl) (by kernel_rfl) (by kernel_rfl) (fun _ _ _ h => h) (Or.inl ⟨by rfl, ?y17⟩) (by assumption) ?r17
                case y17 => (intro W hSw; (try dsimp only at hSw); go_simp; try with_reducible rfl)
                (try simp only [Act.put, List.setIfInBounds_toArray, List.set_cons_zero, List.set_cons_succ])
                refine wpAnyH_takeL (i := 2) (v := ?v18) rfl (by kernel_rfl) (by kernel_rfl) (by kernel_rfl) (fun _ _ _ h => h) (Or.inl ⟨by rfl, ?y18⟩) (by assumption) ?r18
                case y18 => (intro W hSw; (try dsimp only at hSw); go_simp; try with_reducible rfl)
                (try simp only [Act.put, List.setIfInBounds_toArray, List.set_cons_zero, List.set_cons_succ])
                refine wpAnyH_takeL (i := 3) (v := ?v19) rfl (by kernel_rfl) (by kernel_rfl) (by kernel_rfl) (fun _ _ _ h => h) (Or.inl ⟨by rfl, ?y19⟩) (by assumption) ?r19
                case y19 => (intro W hSw; (try dsimp only at hSw); go_simp; try with_reducible rfl)
                (try simp only [Act.put, List.setIfInBounds_toArray, List.set_cons_zero, List.set_cons_succ])
                refine wpAnyH_takeL (i := 4) (v := ?v20) rfl (by kernel_rfl) (by kernel_rfl) (by kernel_rfl) (fun _ _ _ h => h) (Or.inl ⟨by rfl, ?y20⟩) (by assumption) ?r20
                case y20 => (intro W hSw; (try dsimp only at hSw); go_simp; try with_reducible rfl)
                (try simp only [Act.put, List.setIfInBounds_toArray, List.set_cons_zero, List.set_cons_succ])
                refine wpAnyH_takeL (i := 5) (v := ?v21) rfl (by kernel_rfl) (by kernel_rfl) (by kernel_rfl) (fun _ _ _ h => h) (Or.inl ⟨by rfl, ?y21⟩) (by assumption) ?r21
                case y21 => (intro W hSw; (try dsimp only at hSw); go_simp; try with_reducible rfl)
                (try simp only [Act.put, List.setIfInBounds_toArray, List.set_cons_zero, List.set_cons_succ])
                refine wpAnyH_takeL (i := 7) (v := ?v22) rfl (by kernel_rfl) (by kernel_rfl) (by kernel_rfl) (fun _ _ _ h => h) (Or.inl ⟨by rfl, ?y22⟩) (by assumption) ?r22
                case y22 => (intro W hSw; (try dsimp only at hSw); go_simp; try with_reducible rfl)
                (try simp only [Act.put, List.setIfInBounds_toArray, List.set_cons_zero, List.set_cons_succ])
                refine wpAnyH_takeL (i := 8) (v := ?v23) rfl (by kernel_rfl) (by kernel_rfl) (by kernel_rfl) (fun _ _ _ h => h) (Or.inl ⟨by rfl, ?y23⟩) (by assumption) ?r23
                case y23 => (intro W hSw; (try dsimp only at hSw); go_simp; try with_reducible rfl)
                (try simp only [Act.put, List.setIfInBounds_toArray, List.set_cons_zero, List.set_cons_succ])
                refine wpAnyH_ready (rs := [6]) (by kernel_rfl) (by simp) ?_
                refine consL rfl (fun K hK => ?_) AllReadyH.nil
                go_simp
                refine Calls.mono (HA.out _ xi (HW.out _ hd)) ?_
                rintro e w5 ⟨rfl, h5⟩
                have g5 := HG.out _ _ hd h5
                (try dsimp only)
                refine hK.out _ _ (HF.out _ g5) (fun hHeld => ?_)
                clear hK K
                (try simp only [Act.put, List.setIfInBounds_toArray, List.set_cons_zero, List.set_cons_succ])
                refine wpAnyH_ready (rs := [9]) (by kernel_rfl) (by simp) ?_
                refine consL rfl (fun K hK => ?_) AllReadyH.nil
                go_simp
                refine Calls.mono (HB.out _ xi (HW.out _ g5)) ?_
                rintro e w6 ⟨rfl, h6⟩
                have g6 := HG.out _ _ g5 h6
                (try dsimp only)
                refine hK.out _ _ (HF.out _ g6) (fun hHeld => ?_)
                clear hK K
                (try simp only [Act.put, List.setIfInBounds_toArray, List.set_cons_zero, List.set_cons_succ])
                refine wpAnyH_ready (rs := [10]) (by kernel_rfl) (by simp) ?_
                refine consL rfl (fun K hK => ?_) AllReadyH.nil
                go_simp
                have hSm := HS.out xi w6 (HEO.out xi m HI.out.1) (HEO.out xi m2 HI.out.2)
                rw [HSM.out] at hSm
                refine Calls.mono hSm ?_
                clear hSm
                rintro e w7 ⟨rfl, h7⟩
                have g7 := HG.out _ _ g6 h7
                (try dsimp only)
                refine hK.out _ _ (HF.out _ g7) (fun hHeld => ?_)
                clear hK K
                (try simp only [Act.put, List.setIfInBounds_toArray, List.set_cons_zero, List.set_cons_succ])
                refine wpAnyH_takeL (i := 11) (v := ?v24) rfl (by kernel_rfl) (by kernel_rfl) (by kernel_rfl) (fun _ _ _ h => h) (Or.inl ⟨by rfl, ?y24⟩) (by assumption) ?r24
                case y24 => (intro W hSw; (try dsimp only at hSw); go_simp; try with_reducible rfl)
                (try simp only [Act.put, List.setIfInBounds_toArray, List.set_cons_zero, List.set_cons_succ])
                refine wpAnyH_takeL (i := 12) (v := ?v25) rfl (by kernel_rfl) (by kernel_rfl) (by kernel_rfl) (fun _ _ _ h => h) (Or.inl ⟨by rfl, ?y25⟩) (by assumption) ?r25
                case y25 => (intro W hSw; (try dsimp only at hSw); go_simp; try with_reducible rfl)
                (try simp only [Act.put, List.setIfInBounds_toArray, List.set_cons_zero, List.set_cons_succ])
                refine wpAnyH_done (by kernel_rfl) ?_ _
                go_wp2_with fail
                go_roundw
                case rel => exact ⟨j + 1, b2, by omega, rfl, by go_num, Lib.hid (by rw [HX.out]; unfold bestF; rw [if_neg (fun h => by rw [HSM.out] at h; cases h.2)]), g7⟩
                case measure => simp [intOf]; omega
            · have gx : decide (xi < b2) = false := decide_eq_false hxb
              have HXB := Lib.hid hxb
              clear hxb
              refine wp_region_held_drew (S := fun W => (W.cell? ⟨w.heap.size, 0, none⟩ = some (.int .i64 k) ∧ W.cell? ⟨w.heap.size, 1, none⟩ = some (.int .i64 n) ∧ W.cell? ⟨w.heap.size, 2, none⟩ = some (.int .i64 ix) ∧ W.cell? ⟨w.heap.size, 3, none⟩ = some (.int .u64 0) ∧ W.cell? ⟨w.heap.size, 4, none⟩ = some (.string ⟨#[]⟩) ∧ W.cell? ⟨w.heap.size, 5, none⟩ = some (.slice (some ⟨bl, ol, none⟩) ml c)) ∧ (W.cell? ⟨w.heap.size + 1, 0, none⟩ = some (.int .i64 k) ∧ W.cell? ⟨w.heap.size + 1, 1, none⟩ = some (.int .i64 n) ∧ W.cell? ⟨w.heap.size + 1, 2, none⟩ = some (.int .i64 ix) ∧ W.cell? ⟨w.heap.size + 1, 3, none⟩ = some (.int .u64 0) ∧ W.cell? ⟨w.heap.size + 1, 4, none⟩ = some (.string ⟨#[]⟩) ∧ W.cell? ⟨w.heap.size + 1, 5, none⟩ = some (.slice B ml2 d)) ∧ W.cell? ⟨w.heap.size + 2, 0, none⟩ = some (.slice (some ⟨bl, ol, none⟩) ml c) ∧ W.cell? ⟨w.heap.size + 2, 1, none⟩ = some (.slice B ml2 d)) (by kernel_rfl) (HF.out _ hd) (fun hHeld => ?_)
              (try simp only [List.size_toArray, List.length_cons, List.length_nil, Nat.zero_add, Nat.reduceAdd])
              refine wpAnyH_takeL (i := 0) (v := ?v1) rfl (by kernel_rfl) (by kernel_rfl) (by kernel_rfl) (fun _ _ _ h => h) (Or.inl ⟨by rfl, ?y1⟩) (by assumption) ?r1
              case y1 => (intro W hSw; (try dsimp only at hSw); go_simp; try with_reducible rfl)
              (try simp only [Act.put, List.setIfInBounds_toArray, List.set_cons_zero, List.set_cons_succ])
              refine wpAnyH_takeL (i := 1) (v := ?v2) rfl (by kernel_rfl) (by kernel_rfl) (by kernel_rfl) (fun _ _ _ h => h) (Or.inl ⟨by rfl, ?y2⟩) (by assumption) ?r2
              case y2 => (intro W hSw; (try dsimp only at hSw); go_simp; try with_reducible rfl)
              (try simp only [Act.put, List.setIfInBounds_toArray, List.set_cons_zero, List.set_cons_succ])
              refine wpAnyH_takeL (i := 2) (v := ?v3) rfl (by kernel_rfl) (by kernel_rfl) (by kernel_rfl) (fun _ _ _ h => h) (Or.inl ⟨by rfl, ?y3⟩) (by assumption) ?r3
              case y3 => (intro W hSw; (try dsimp only at hSw); go_simp; try with_reducible rfl)
              (try simp only [Act.put, List.setIfInBounds_toArray, List.set_cons_zero, List.set_cons_succ])
              refine wpAnyH_takeL (i := 3) (v := ?v4) rfl (by kernel_rfl) (by kernel_rfl) (by kernel_rfl) (fun _ _ _ h => h) (Or.inl ⟨by rfl, ?y4⟩) (by assumption) ?r4
              case y4 => (intro W hSw; (try dsimp only at hSw); go_simp; try with_reducible rfl)
              (try simp only [Act.put, List.setIfInBounds_toArray, List.set_cons_zero, List.set_cons_succ])
              refine wpAnyH_takeL (i := 4) rfl (by kernel_rfl) (by kernel_rfl) (by kernel_rfl) (fun _ _ _ h => h) (Or.inr ⟨by rfl, rfl⟩) (by assumption) ?_
              (try simp only [Act.put, List.setIfInBounds_toArray, List.set_cons_zero, List.set_cons_succ])
              refine wpAnyH_takeL (i := 5) rfl (by kernel_rfl) (by kernel_rfl) (by kernel_rfl) (fun _ _ _ h => h) (Or.inr ⟨by rfl, rfl⟩) (by assumption) ?_
              (try simp only [Act.put, List.setIfInBounds_toArray, List.set_cons_zero, List.set_cons_succ])
              refine wpAnyH_takeL (i := 6) rfl (by kernel_rfl) (by kernel_rfl) (by kernel_rfl) (fun _ _ _ h => h) (Or.inr ⟨by rfl, rfl⟩) (by assumption) ?_
              (try simp only [Act.put, List.setIfInBounds_toArray, List.set_cons_zero, List.set_cons_succ])
              refine wpAnyH_takeL (i := 7) rfl (by kernel_rfl) (by kernel_rfl) (by kernel_rfl) (fun _ _ _ h => h) (Or.inr ⟨by rfl, rfl⟩) (by assumption) ?_
              (try simp only [Act.put, List.setIfInBounds_toArray, List.set_cons_zero, List.set_cons_succ])
              refine wpAnyH_takeL (i := 8) rfl (by kernel_rfl) (by kernel_rfl) (by kernel_rfl) (fun _ _ _ h => h) (Or.inr ⟨by rfl, rfl⟩) (by assumption) ?_
              (try simp only [Act.put, List.setIfInBounds_toArray, List.set_cons_zero, List.set_cons_succ])
              refine wpAnyH_takeL (i := 9) rfl (by kernel_rfl) (by kernel_rfl) (by kernel_rfl) (fun _ _ _ h => h) (Or.inr ⟨by rfl, rfl⟩) (by assumption) ?_
              (try simp only [Act.put, List.setIfInBounds_toArray, List.set_cons_zero, List.set_cons_succ])
              refine wpAnyH_takeL (i := 10) rfl (by kernel_rfl) (by kernel_rfl) (by kernel_rfl) (fun _ _ _ h => h) (Or.inr ⟨by rfl, rfl⟩) (by assumption) ?_
              (try simp only [Act.put, List.setIfInBounds_toArray, List.set_cons_zero, List.set_cons_succ])
              refine wpAnyH_takeL (i := 11) rfl (by kernel_rfl) (by kernel_rfl) (by kernel_rfl) (fun _ _ _ h => h) (Or.inr ⟨by rfl, rfl⟩) (by assumption) ?_
              (try simp only [Act.put, List.setIfInBounds_toArray, List.set_cons_zero, List.set_cons_succ])
              refine wpAnyH_takeL (i := 12) (v := ?v5) rfl (by kernel_rfl) (by kernel_rfl) (by kernel_rfl) (fun _ _ _ h => h) (Or.inl ⟨by rfl, ?y5⟩) (by assumption) ?r5
              case y5 => (intro W hSw; (try dsimp only at hSw); go_simp; try with_reducible rfl)
              (try simp only [Act.put, List.setIfInBounds_toArray, List.set_cons_zero, List.set_cons_succ])
              refine wpAnyH_done (by kernel_rfl) ?_ _
              go_wp2_with fail
              go_roundw
              case rel => exact ⟨j + 1, b2, by omega, rfl, by go_num, Lib.hid (by rw [HX.out]; unfold bestF; rw [if_neg (fun h => HXB.out h.1)]), hd⟩
              case measure => simp [intOf]; omega
          · have hji : ¬ (j : Int) < (ml : Int) := by omega
            go_wp2_with fail
            go_roundw
            case rel => exact ⟨0 + 1, b2, by omega, rfl, by go_num, Lib.hid (by rw [hb2.out, List.take_of_length_le (by have := HML.out; omega), ← HBX.out]; rfl), hG⟩
            case measure => simp [intOf]
      · skip
        obtain ⟨⟨p0, p1, p2, p3, p4, p5⟩, ⟨q0, q1, q2, q3, q4, q5⟩, l0, l1⟩ := HF.out _ hG
        obtain ⟨B0, hB0⟩ : ∃ z, z = bb := ⟨_, rfl⟩
        have HB0 := Lib.hid hB0
        have HBX := Lib.hid (show B0 = m.foldl (bestF m m2) 1048576 from by rw [hB0, hbb.out]; rfl)
        clear hB0
        go_wp2_with fail
        clear p0 p1 p2 p3 p4 p5 q0 q1 q2 q3 q4 q5 l0 l1
        obtain ⟨wo, rfl⟩ : ∃ wo, wo = wr := ⟨_, rfl⟩
        have hGo := Lib.hid hG
        go_loopw [5, 8] (fun b i wr => ∃ (j : Nat) (b2 : Int), j ≤ ml2 ∧ b = .int .u64 b2 ∧ i = .int .i64 (j : Int) ∧ Hid (b2 = (m2.take j).foldl (bestF m m2) B0) ∧ Below (w.heap.size + 3) w3 wr) (fun _ i _ => ml2 - (intOf i).toNat)
        case atStart => exact ⟨0, bb, Nat.zero_le _, rfl, rfl, Lib.hid HB0.out.symm, hGo.out⟩
        case round =>
          clear hG
          obtain ⟨j, b2, hj, rfl, rfl, hb2, hG⟩ := hrel
          obtain ⟨⟨p0, p1, p2, p3, p4, p5⟩, ⟨q0, q1, q2, q3, q4, q5⟩, l0, l1⟩ := HF.out _ hG
          by_cases hlt : j < ml2
          · have hjm : j < m2.length := by have := HML2.out; omega
            obtain ⟨bl, ol, rfl, hbl, h3⟩ := hl2.get hjm
            have h3' := h3.to ((HW.out _ hG).block bl hbl)
            have HX := Lib.hid (show (m2.take (j + 1)).foldl (bestF m m2) B0 = bestF m m2 ((m2.take j).foldl (bestF m m2) B0) m2[j] from by rw [List.take_succ_eq_append_getElem hjm, List.foldl_append]; rfl)
            rw [← hb2.out] at HX
            generalize m2[j] = y at h3' HX
            obtain ⟨xi, xu, xs⟩ := y
            obtain ⟨e0, e1, e2⟩ := h3'
            have hji : (j : Int) < (ml2 : Int) := by omega
            have hj0 : (0 : Int) ≤ (j : Int) := by omega
            clear h3
            go_wp2_with fail
            clear e0 e1 e2 p0 p1 p2 p3 p4 p5 q0 q1 q2 q3 q4 q5 l0 l1
            have hd : Below (w.heap.size + 3) w3 wr.drew := hG.drew
            by_cases hxb : xi < b2
            · have gx : decide (xi < b2) = true := decide_eq_true hxb
              cases hsm : sameE xi m m2 with
              | false =>
                have HSM := Lib.hid hsm
                have HXB := Lib.hid hxb
                clear hsm hxb
                refine wp_region_held_drew (S := fun W => (W.cell? ⟨w.heap.size, 0, none⟩ = some (.int .i64 k) ∧ W.cell? ⟨w.heap.size, 1, none⟩ = some (.int .i64 n) ∧ W.cell? ⟨w.heap.size, 2, none⟩ = some (.int .i64 ix) ∧ W.cell? ⟨w.heap.size, 3, none⟩ = some (.int .u64 0) ∧ W.cell? ⟨w.heap.size, 4, none⟩ = some (.string ⟨#[]⟩) ∧ W.cell? ⟨w.heap.size, 5, none⟩ = some (.slice A ml c)) ∧ (W.cell? ⟨w.heap.size + 1, 0, none⟩ = some (.int .i64 k) ∧ W.cell? ⟨w.heap.size + 1, 1, none⟩ = some (.int .i64 n) ∧ W.cell? ⟨w.heap.size + 1, 2, none⟩ = some (.int .i64 ix) ∧ W.cell? ⟨w.heap.size + 1, 3, none⟩ = some (.int .u64 0) ∧ W.cell? ⟨w.heap.size + 1, 4, none⟩ = some (.string ⟨#[]⟩) ∧ W.cell? ⟨w.heap.size + 1, 5, none⟩ = some (.slice (some ⟨bl, ol, none⟩) ml2 d)) ∧ W.cell? ⟨w.heap.size + 2, 0, none⟩ = some (.slice A ml c) ∧ W.cell? ⟨w.heap.size + 2, 1, none⟩ = some (.slice (some ⟨bl, ol, none⟩) ml2 d)) (by kernel_rfl) (HF.out _ hd) (fun hHeld => ?_)
                (try simp only [List.size_toArray, List.length_cons, List.length_nil, Nat.zero_add, Nat.reduceAdd])
                refine wpAnyH_takeL (i := 0) (v := ?v31) rfl (by kernel_rfl) (by kernel_rfl) (by kernel_rfl) (fun _ _ _ h => h) (Or.inl ⟨by rfl, ?y31⟩) (by assumption) ?r31
                case y31 => (intro W hSw; (try dsimp only at hSw); go_simp; try with_reducible rfl)
                (try simp only [Act.put, List.setIfInBounds_toArray, List.set_cons_zero, List.set_cons_succ])
                refine wpAnyH_takeL (i := 1) (v := ?v32) rfl (by kernel_rfl) (by kernel_rfl) (by kernel_rfl) (fun _ _ _ h => h) (Or.inl ⟨by rfl, ?y32⟩) (by assumption) ?r32
                case y32 => (intro W hSw; (try dsimp only at hSw); go_simp; try with_reducible rfl)
                (try simp only [Act.put, List.setIfInBounds_toArray, List.set_cons_zero, List.set_cons_succ])
                refine wpAnyH_takeL (i := 2) (v := ?v33) rfl (by kernel_rfl) (by kernel_rfl) (by kernel_rfl) (fun _ _ _ h => h) (Or.inl ⟨by rfl, ?y33⟩) (by assumption) ?r33
                case y33 => (intro W hSw; (try dsimp only at hSw); go_simp; try with_reducible rfl)
                (try simp only [Act.put, List.setIfInBounds_toArray, List.set_cons_zero, List.set_cons_succ])
                refine wpAnyH_takeL (i := 3) (v := ?v34) rfl (by kernel_rfl) (by kernel_rfl) (by kernel_rfl) (fun _ _ _ h => h) (Or.inl ⟨by rfl, ?y34⟩) (by assumption) ?r34
                case y34 => (intro W hSw; (try dsimp only at hSw); go_simp; try with_reducible rfl)
                (try simp only [Act.put, List.setIfInBounds_toArray, List.set_cons_zero, List.set_cons_succ])
                refine wpAnyH_takeL (i := 4) (v := ?v35) rfl (by kernel_rfl) (by kernel_rfl) (by kernel_rfl) (fun _ _ _ h => h) (Or.inl ⟨by rfl, ?y35⟩) (by assumption) ?r35
                case y35 => (intro W hSw; (try dsimp only at hSw); go_simp; try with_reducible rfl)
                (try simp only [Act.put, List.setIfInBounds_toArray, List.set_cons_zero, List.set_cons_succ])
                refine wpAnyH_takeL (i := 5) (v := ?v36) rfl (by kernel_rfl) (by kernel_rfl) (by kernel_rfl) (fun _ _ _ h => h) (Or.inl ⟨by rfl, ?y36⟩) (by assumption) ?r36
                case y36 => (intro W hSw; (try dsimp only at hSw); go_simp; try with_reducible rfl)
                (try simp only [Act.put, List.setIfInBounds_toArray, List.set_cons_zero, List.set_cons_succ])
                refine wpAnyH_takeL (i := 7) (v := ?v37) rfl (by kernel_rfl) (by kernel_rfl) (by kernel_rfl) (fun _ _ _ h => h) (Or.inl ⟨by rfl, ?y37⟩) (by assumption) ?r37
                case y37 => (intro W hSw; (try dsimp only at hSw); go_simp; try with_reducible rfl)
                (try simp only [Act.put, List.setIfInBounds_toArray, List.set_cons_zero, List.set_cons_succ])
                refine wpAnyH_takeL (i := 8) (v := ?v38) rfl (by kernel_rfl) (by kernel_rfl) (by kernel_rfl) (fun _ _ _ h => h) (Or.inl ⟨by rfl, ?y38⟩) (by assumption) ?r38
                case y38 => (intro W hSw; (try dsimp only at hSw); go_simp; try with_reducible rfl)
                (try simp only [Act.put, List.setIfInBounds_toArray, List.set_cons_zero, List.set_cons_succ])
                refine wpAnyH_ready (rs := [6]) (by kernel_rfl) (by simp) ?_
                refine consL rfl (fun K hK => ?_) AllReadyH.nil
                go_simp
                refine Calls.mono (HA.out _ xi (HW.out _ hd)) ?_
                rintro e w5 ⟨rfl, h5⟩
                have g5 := HG.out _ _ hd h5
                (try dsimp only)
                refine hK.out _ _ (HF.out _ g5) (fun hHeld => ?_)
                clear hK K
                (try simp only [Act.put, List.setIfInBounds_toArray, List.set_cons_zero, List.set_cons_succ])
                refine wpAnyH_ready (rs := [9]) (by kernel_rfl) (by simp) ?_
                refine consL rfl (fun K hK => ?_) AllReadyH.nil
                go_simp
                refine Calls.mono (HB.out _ xi (HW.out _ g5)) ?_
                rintro e w6 ⟨rfl, h6⟩
                have g6 := HG.out _ _ g5 h6
                (try dsimp only)
                refine hK.out _ _ (HF.out _ g6) (fun hHeld => ?_)
                clear hK K
                (try simp only [Act.put, List.setIfInBounds_toArray, List.set_cons_zero, List.set_cons_succ])
                refine wpAnyH_ready (rs := [10]) (by kernel_rfl) (by simp) ?_
                refine consL rfl (fun K hK => ?_) AllReadyH.nil
                go_simp
                have hSm := HS.out xi w6 (HEO.out xi m HI.out.1) (HEO.out xi m2 HI.out.2)
                rw [HSM.out] at hSm
                refine Calls.mono hSm ?_
                clear hSm
                rintro e w7 ⟨rfl, h7⟩
                have g7 := HG.out _ _ g6 h7
                (try dsimp only)
                refine hK.out _ _ (HF.out _ g7) (fun hHeld => ?_)
                clear hK K
                (try simp only [Act.put, List.setIfInBounds_toArray, List.set_cons_zero, List.set_cons_succ])
                refine wpAnyH_takeL (i := 11) (v := ?v39) rfl (by kernel_rfl) (by kernel_rfl) (by kernel_rfl) (fun _ _ _ h => h) (Or.inl ⟨by rfl, ?y39⟩) (by assumption) ?r39
                case y39 => (intro W hSw; (try dsimp only at hSw); go_simp; try with_reducible rfl)
                (try simp only [Act.put, List.setIfInBounds_toArray, List.set_cons_zero, List.set_cons_succ])
                refine wpAnyH_takeL (i := 12) (v := ?v40) rfl (by kernel_rfl) (by kernel_rfl) (by kernel_rfl) (fun _ _ _ h => h) (Or.inl ⟨by rfl, ?y40⟩) (by assumption) ?r40
                case y40 => (intro W hSw; (try dsimp only at hSw); go_simp; try with_reducible rfl)
                (try simp only [Act.put, List.setIfInBounds_toArray, List.set_cons_zero, List.set_cons_succ])
                refine wpAnyH_done (by kernel_rfl) ?_ _
                go_wp2_with fail
                go_roundw
                case rel => exact ⟨j + 1, xi, by omega, rfl, by go_num, Lib.hid (by rw [HX.out]; unfold bestF; rw [if_pos ⟨HXB.out, HSM.out⟩]), g7⟩
                case measure => simp [intOf]; omega
              | true =>
                have HSM := Lib.hid hsm
                have HXB := Lib.hid hxb
                clear hsm hxb
                refine wp_region_held_drew (S := fun W => (W.cell? ⟨w.heap.size, 0, none⟩ = some (.int .i64 k) ∧ W.cell? ⟨w.heap.size, 1, none⟩ = some (.int .i64 n) ∧ W.cell? ⟨w.heap.size, 2, none⟩ = some (.int .i64 ix) ∧ W.cell? ⟨w.heap.size, 3, none⟩ = some (.int .u64 0) ∧ W.cell? ⟨w.heap.size, 4, none⟩ = some (.string ⟨#[]⟩) ∧ W.cell? ⟨w.heap.size, 5, none⟩ = some (.slice A ml c)) ∧ (W.cell? ⟨w.heap.size + 1, 0, none⟩ = some (.int .i64 k) ∧ W.cell? ⟨w.heap.size + 1, 1, none⟩ = some (.int .i64 n) ∧ W.cell? ⟨w.heap.size + 1, 2, none⟩ = some (.int .i64 ix) ∧ W.cell? ⟨w.heap.size + 1, 3, none⟩ = some (.int .u64 0) ∧ W.cell? ⟨w.heap.size + 1, 4, none⟩ = some (.string ⟨#[]⟩) ∧ W.cell? ⟨w.heap.size + 1, 5, none⟩ = some (.slice (some ⟨bl, ol, none⟩) ml2 d)) ∧ W.cell? ⟨w.heap.size + 2, 0, none⟩ = some (.slice A ml c) ∧ W.cell? ⟨w.heap.size + 2, 1, none⟩ = some (.slice (some ⟨bl, ol, none⟩) ml2 d)) (by kernel_rfl) (HF.out _ hd) (fun hHeld => ?_)
                (try simp only [List.size_toArray, List.length_cons, List.length_nil, Nat.zero_add, Nat.reduceAdd])
                refine wpAnyH_takeL (i := 0) (v := ?v41) rfl (by kernel_rfl) (by kernel_rfl) (by kernel_rfl) (fun _ _ _ h => h) (Or.inl ⟨by rfl, ?y41⟩) (by assumption) ?r41
                case y41 => (intro W hSw; (try dsimp only at hSw); go_simp; try with_reducible rfl)
                (try simp only [Act.put, List.setIfInBounds_toArray, List.set_cons_zero, List.set_cons_succ])
                refine wpAnyH_takeL (i := 1) (v := ?v42) rfl (by kernel_rfl) (by kernel_rfl) (by kernel_rfl) (fun _ _ _ h => h) (Or.inl ⟨by rfl, ?y42⟩) (by assumption) ?r42
                case y42 => (intro W hSw; (try dsimp only at hSw); go_simp; try with_reducible rfl)
                (try simp only [Act.put, List.setIfInBounds_toArray, List.set_cons_zero, List.set_cons_succ])
                refine wpAnyH_takeL (i := 2) (v := ?v43) rfl (by kernel_rfl) (by kernel_rfl) (by kernel_rfl) (fun _ _ _ h => h) (Or.inl ⟨by rfl, ?y43⟩) (by assumption) ?r43
                case y43 => (intro W hSw; (try dsimp only at hSw); go_simp; try with_reducible rfl)
                (try simp only [Act.put, List.setIfInBounds_toArray, List.set_cons_zero, List.set_cons_succ])
                refine wpAnyH_takeL (i := 3) (v := ?v44) rfl (by kernel_rfl) (by kernel_rfl) (by kernel_rfl) (fun _ _ _ h => h) (Or.inl ⟨by rfl, ?y44⟩) (by assumption) ?r44
                case y44 => (intro W hSw; (try dsimp only at hSw); go_simp; try with_reducible rfl)
                (try simp only [Act.put, List.setIfInBounds_toArray, List.set_cons_zero, List.set_cons_succ])
                refine wpAnyH_takeL (i := 4) (v := ?v45) rfl (by kernel_rfl) (by kernel_rfl) (by kernel_rfl) (fun _ _ _ h => h) (Or.inl ⟨by rfl, ?y45⟩) (by assumption) ?r45
                case y45 => (intro W hSw; (try dsimp only at hSw); go_simp; try with_reducible rfl)
                (try simp only [Act.put, List.setIfInBounds_toArray, List.set_cons_zero, List.set_cons_succ])
                refine wpAnyH_takeL (i := 5) (v := ?v46) rfl (by kernel_rfl) (by kernel_rfl) (by kernel_rfl) (fun _ _ _ h => h) (Or.inl ⟨by rfl, ?y46⟩) (by assumption) ?r46
                case y46 => (intro W hSw; (try dsimp only at hSw); go_simp; try with_reducible rfl)
                (try simp only [Act.put, List.setIfInBounds_toArray, List.set_cons_zero, List.set_cons_succ])
                refine wpAnyH_takeL (i := 7) (v := ?v47) rfl (by kernel_rfl) (by kernel_rfl) (by kernel_rfl) (fun _ _ _ h => h) (Or.inl ⟨by rfl, ?y47⟩) (by assumption) ?r47
                case y47 => (intro W hSw; (try dsimp only at hSw); go_simp; try with_reducible rfl)
                (try simp only [Act.put, List.setIfInBounds_toArray, List.set_cons_zero, List.set_cons_succ])
                refine wpAnyH_takeL (i := 8) (v := ?v48) rfl (by kernel_rfl) (by kernel_rfl) (by kernel_rfl) (fun _ _ _ h => h) (Or.inl ⟨by rfl, ?y48⟩) (by assumption) ?r48
                case y48 => (intro W hSw; (try dsimp only at hSw); go_simp; try with_reducible rfl)
                (try simp only [Act.put, List.setIfInBounds_toArray, List.set_cons_zero, List.set_cons_succ])
                refine wpAnyH_ready (rs := [6]) (by kernel_rfl) (by simp) ?_
                refine consL rfl (fun K hK => ?_) AllReadyH.nil
                go_simp
                refine Calls.mono (HA.out _ xi (HW.out _ hd)) ?_
                rintro e w5 ⟨rfl, h5⟩
                have g5 := HG.out _ _ hd h5
                (try dsimp only)
                refine hK.out _ _ (HF.out _ g5) (fun hHeld => ?_)
                clear hK K
                (try simp only [Act.put, List.setIfInBounds_toArray, List.set_cons_zero, List.set_cons_succ])
                refine wpAnyH_ready (rs := [9]) (by kernel_rfl) (by simp) ?_
                refine consL rfl (fun K hK => ?_) AllReadyH.nil
                go_simp
                refine Calls.mono (HB.out _ xi (HW.out _ g5)) ?_
                rintro e w6 ⟨rfl, h6⟩
                have g6 := HG.out _ _ g5 h6
                (try dsimp only)
                refine hK.out _ _ (HF.out _ g6) (fun hHeld => ?_)
                clear hK K
                (try simp only [Act.put, List.setIfInBounds_toArray, List.set_cons_zero, List.set_cons_succ])
                refine wpAnyH_ready (rs := [10]) (by kernel_rfl) (by simp) ?_
                refine consL rfl (fun K hK => ?_) AllReadyH.nil
                go_simp
                have hSm := HS.out xi w6 (HEO.out xi m HI.out.1) (HEO.out xi m2 HI.out.2)
                rw [HSM.out] at hSm
                refine Calls.mono hSm ?_
                clear hSm
                rintro e w7 ⟨rfl, h7⟩
                have g7 := HG.out _ _ g6 h7
                (try dsimp only)
                refine hK.out _ _ (HF.out _ g7) (fun hHeld => ?_)
                clear hK K
                (try simp only [Act.put, List.setIfInBounds_toArray, List.set_cons_zero, List.set_cons_succ])
                refine wpAnyH_takeL (i := 11) (v := ?v49) rfl (by kernel_rfl) (by kernel_rfl) (by kernel_rfl) (fun _ _ _ h => h) (Or.inl ⟨by rfl, ?y49⟩) (by assumption) ?r49
                case y49 => (intro W hSw; (try dsimp only at hSw); go_simp; try with_reducible rfl)
                (try simp only [Act.put, List.setIfInBounds_toArray, List.set_cons_zero, List.set_cons_succ])
                refine wpAnyH_takeL (i := 12) (v := ?v50) rfl (by kernel_rfl) (by kernel_rfl) (by kernel_rfl) (fun _ _ _ h => h) (Or.inl ⟨by rfl, ?y50⟩) (by assumption) ?r50
                case y50 => (intro W hSw; (try dsimp only at hSw); go_simp; try with_reducible rfl)
                (try simp only [Act.put, List.setIfInBounds_toArray, List.set_cons_zero, List.set_cons_succ])
                refine wpAnyH_done (by kernel_rfl) ?_ _
                go_wp2_with fail
                go_roundw
                case rel => exact ⟨j + 1, b2, by omega, rfl, by go_num, Lib.hid (by rw [HX.out]; unfold bestF; rw [if_neg (fun h => by rw [HSM.out] at h; cases h.2)]), g7⟩
                case measure => simp [intOf]; omega
            · have gx : decide (xi < b2) = false := decide_eq_false hxb
              have HXB := Lib.hid hxb
              clear hxb
              refine wp_region_held_drew (S := fun W => (W.cell? ⟨w.heap.size, 0, none⟩ = some (.int .i64 k) ∧ W.cell? ⟨w.heap.size, 1, none⟩ = some (.int .i64 n) ∧ W.cell? ⟨w.heap.size, 2, none⟩ = some (.int .i64 ix) ∧ W.cell? ⟨w.heap.size, 3, none⟩ = some (.int .u64 0) ∧ W.cell? ⟨w.heap.size, 4, none⟩ = some (.string ⟨#[]⟩) ∧ W.cell? ⟨w.heap.size, 5, none⟩ = some (.slice A ml c)) ∧ (W.cell? ⟨w.heap.size + 1, 0, none⟩ = some (.int .i64 k) ∧ W.cell? ⟨w.heap.size + 1, 1, none⟩ = some (.int .i64 n) ∧ W.cell? ⟨w.heap.size + 1, 2, none⟩ = some (.int .i64 ix) ∧ W.cell? ⟨w.heap.size + 1, 3, none⟩ = some (.int .u64 0) ∧ W.cell? ⟨w.heap.size + 1, 4, none⟩ = some (.string ⟨#[]⟩) ∧ W.cell? ⟨w.heap.size + 1, 5, none⟩ = some (.slice (some ⟨bl, ol, none⟩) ml2 d)) ∧ W.cell? ⟨w.heap.size + 2, 0, none⟩ = some (.slice A ml c) ∧ W.cell? ⟨w.heap.size + 2, 1, none⟩ = some (.slice (some ⟨bl, ol, none⟩) ml2 d)) (by kernel_rfl) (HF.out _ hd) (fun hHeld => ?_)
              (try simp only [List.size_toArray, List.length_cons, List.length_nil, Nat.zero_add, Nat.reduceAdd])
              refine wpAnyH_takeL (i := 0) (v := ?v26) rfl (by kernel_rfl) (by kernel_rfl) (by kernel_rfl) (fun _ _ _ h => h) (Or.inl ⟨by rfl, ?y26⟩) (by assumption) ?r26
              case y26 => (intro W hSw; (try dsimp only at hSw); go_simp; try with_reducible rfl)
              (try simp only [Act.put, List.setIfInBounds_toArray, List.set_cons_zero, List.set_cons_succ])
              refine wpAnyH_takeL (i := 1) (v := ?v27) rfl (by kernel_rfl) (by kernel_rfl) (by kernel_rfl) (fun _ _ _ h => h) (Or.inl ⟨by rfl, ?y27⟩) (by assumption) ?r27
              case y27 => (intro W hSw; (try dsimp only at hSw); go_simp; try with_reducible rfl)
              (try simp only [Act.put, List.setIfInBounds_toArray, List.set_cons_zero, List.set_cons_succ])
              refine wpAnyH_takeL (i := 2) (v := ?v28) rfl (by kernel_rfl) (by kernel_rfl) (by kernel_rfl) (fun _ _ _ h => h) (Or.inl ⟨by rfl, ?y28⟩) (by assumption) ?r28
              case y28 => (intro W hSw; (try dsimp only at hSw); go_simp; try with_reducible rfl)
              (try simp only [Act.put, List.setIfInBounds_toArray, List.set_cons_zero, List.set_cons_succ])
              refine wpAnyH_takeL (i := 3) (v := ?v29) rfl (by kernel_rfl) (by kernel_rfl) (by kernel_rfl) (fun _ _ _ h => h) (Or.inl ⟨by rfl, ?y29⟩) (by assumption) ?r29
              case y29 => (intro W hSw; (try dsimp only at hSw); go_simp; try with_reducible rfl)
              (try simp only [Act.put, List.setIfInBounds_toArray, List.set_cons_zero, List.set_cons_succ])
              refine wpAnyH_takeL (i := 4) rfl (by kernel_rfl) (by kernel_rfl) (by kernel_rfl) (fun _ _ _ h => h) (Or.inr ⟨by rfl, rfl⟩) (by assumption) ?_
              (try simp only [Act.put, List.setIfInBounds_toArray, List.set_cons_zero, List.set_cons_succ])
              refine wpAnyH_takeL (i := 5) rfl (by kernel_rfl) (by kernel_rfl) (by kernel_rfl) (fun _ _ _ h => h) (Or.inr ⟨by rfl, rfl⟩) (by assumption) ?_
              (try simp only [Act.put, List.setIfInBounds_toArray, List.set_cons_zero, List.set_cons_succ])
              refine wpAnyH_takeL (i := 6) rfl (by kernel_rfl) (by kernel_rfl) (by kernel_rfl) (fun _ _ _ h => h) (Or.inr ⟨by rfl, rfl⟩) (by assumption) ?_
              (try simp only [Act.put, List.setIfInBounds_toArray, List.set_cons_zero, List.set_cons_succ])
              refine wpAnyH_takeL (i := 7) rfl (by kernel_rfl) (by kernel_rfl) (by kernel_rfl) (fun _ _ _ h => h) (Or.inr ⟨by rfl, rfl⟩) (by assumption) ?_
              (try simp only [Act.put, List.setIfInBounds_toArray, List.set_cons_zero, List.set_cons_succ])
              refine wpAnyH_takeL (i := 8) rfl (by kernel_rfl) (by kernel_rfl) (by kernel_rfl) (fun _ _ _ h => h) (Or.inr ⟨by rfl, rfl⟩) (by assumption) ?_
              (try simp only [Act.put, List.setIfInBounds_toArray, List.set_cons_zero, List.set_cons_succ])
              refine wpAnyH_takeL (i := 9) rfl (by kernel_rfl) (by kernel_rfl) (by kernel_rfl) (fun _ _ _ h => h) (Or.inr ⟨by rfl, rfl⟩) (by assumption) ?_
              (try simp only [Act.put, List.setIfInBounds_toArray, List.set_cons_zero, List.set_cons_succ])
              refine wpAnyH_takeL (i := 10) rfl (by kernel_rfl) (by kernel_rfl) (by kernel_rfl) (fun _ _ _ h => h) (Or.inr ⟨by rfl, rfl⟩) (by assumption) ?_
              (try simp only [Act.put, List.setIfInBounds_toArray, List.set_cons_zero, List.set_cons_succ])
              refine wpAnyH_takeL (i := 11) rfl (by kernel_rfl) (by kernel_rfl) (by kernel_rfl) (fun _ _ _ h => h) (Or.inr ⟨by rfl, rfl⟩) (by assumption) ?_
              (try simp only [Act.put, List.setIfInBounds_toArray, List.set_cons_zero, List.set_cons_succ])
              refine wpAnyH_takeL (i := 12) (v := ?v30) rfl (by kernel_rfl) (by kernel_rfl) (by kernel_rfl) (fun _ _ _ h => h) (Or.inl ⟨by rfl, ?y30⟩) (by assumption) ?r30
              case y30 => (intro W hSw; (try dsimp only at hSw); go_simp; try with_reducible rfl)
              (try simp only [Act.put, List.setIfInBounds_toArray, List.set_cons_zero, List.set_cons_succ])
              refine wpAnyH_done (by kernel_rfl) ?_ _
              go_wp2_with fail
              go_roundw
              case rel => exact ⟨j + 1, b2, by omega, rfl, by go_num, Lib.hid (by rw [HX.out]; unfold bestF; rw [if_neg (fun h => HXB.out h.1)]), hd⟩
              case measure => simp [intOf]; omega
          · have hji : ¬ (j : Int) < (ml2 : Int) := by omega
            go_wp2_with fail
            go_roundw
            case rel => exact ⟨1 + 1, b2, by omega, rfl, by go_num, Lib.hid (by rw [hb2.out, List.take_of_length_le (by have := HML2.out; omega), ← HBX.out]; rfl), hG⟩
            case measure => simp [intOf]
    · obtain rfl : q = 2 := by omega
      have hfin := HD.out
      have hbe : bb = m2.foldl (bestF m m2) (m.foldl (bestF m m2) 1048576) := hbb.out
      rw [← hbe] at hfin
      have HFN := Lib.hid hfin
      clear hfin hbe
      by_cases hbz : bb = 1048576
      · have gb : (bb == 1048576) = true := by rw [hbz]; rfl
        have HBZ := Lib.hid hbz
        clear hbz
        go_wp2_with fail
        go_ret
        exact ⟨congrArg (fun z => Ending.returned (.int .u64 z)) (show (0 : Int) = R from by rw [← HFN.out, if_pos HBZ.out]), HW.out _ hG⟩
      · have gb : (bb == 1048576) = false := by rw [beq_eq_false_iff_ne]; exact hbz
        have HBZ := Lib.hid hbz
        clear hbz
        go_wp2_with fail
        go_ret
        exact ⟨congrArg (fun z => Ending.returned (.int .u64 z)) (show bb = R from by rw [← HFN.out, if_neg HBZ.out]), HW.out _ hG⟩
end Go.Proofs.Ytedhbpceonhmcaa
