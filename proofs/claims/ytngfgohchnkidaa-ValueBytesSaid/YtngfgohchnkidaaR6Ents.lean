/-
  THE WALK of the reference's Valid of an array.
-/
import Derived.Test.YtngfgohchnkidaaR6Valid
namespace Go.Proofs.Ytngfgohchnkidaa
open Go.RowKit

set_option maxHeartbeats 2000000 in
set_option maxRecDepth 100000 in
theorem r6ValidA2_any (n ix : Int) (s : ByteArray) (A : Option Addr) (l : List En) (c : Nat) (w : World) (hs : s.size = 0) (hok : sortOk 2 n ix = true) (hle : ∀ e ∈ l, e.ok) (hl : EnL w (LoV w.heap.size) l A) (hlen : l.length ≤ 100000) : Calls Try.prog 15 #[vav 2 n ix 0 s A l.length c] w fun e w' => e = .returned (.int .i64 (if entsOk 2 n ix l then 0 else 1)) ∧ Below w.heap.size w w' := by
  have hb0 : ∀ o, Below w.heap.size w (w.alloc o) := fun o => (Below.refl _ _).alloc (Nat.le_refl _) o
  have hV := fun W => r6ValidSort_any 2 n ix W
  have hA := fun W => r6Array_any 2 n ix W
  have hn : 0 ≤ n ∧ n ≤ 64 := by unfold sortOk at hok; simp at hok; omega
  have hix := (sort_el (k := 2) (by omega) hok).2
  unfold sortE at hV
  rw [hok] at hV
  simp only [if_true] at hV
  unfold vav
  clear hok
  obtain ⟨K, hK⟩ : ∃ K : Int, K = if entsOk 2 n ix l then 0 else 1 := ⟨_, rfl⟩
  rw [← hK]
  have HK := Lib.hid hK
  have HL := Lib.hid hl
  have HE := Lib.hid hle
  have HF := Lib.hid fun (u m : Int) (W : World) (h : 0 ≤ m ∧ m ≤ 64) => r6fits_any u m W h
  have HN := Lib.hid hn
  have HX := Lib.hid hix
  clear hK hl hle hn hix
  have hsz : decide ((0 : Int) < (s.size : Int)) = false := decide_eq_false (by omega)
  have hsy : decide (0 < s.size) = false := decide_eq_false (by omega)
  clear hs
  go_enter Try.func15, Try.ntmps15
  go_wp2_with (first | (go_at_call 10; refine (hV _).mono ?_; clear hV; rintro e w1 ⟨rfl, hw1⟩; have hs1 := hw1.size; simp at hs1; have hB1 := (hb0 (.cells #[.int .i64 2, .int .i64 n, .int .i64 ix, .int .u64 0, .string s, .slice A l.length c] 30)).trans (hw1.mono (by simp)); have hn0 := (hw1.block w.heap.size (by simp)).trans (heap_alloc_new w (.cells #[.int .i64 2, .int .i64 n, .int .i64 ix, .int .u64 0, .string s, .slice A l.length c] 30)); have hn1 := (heap_alloc_old w1 (.cells #[.int .i64 2, .int .i64 n, .int .i64 ix] 26) w.heap.size (by omega)).trans hn0; obtain ⟨p0, p1, p2, p3, p4, p5⟩ := six hn0; obtain ⟨q0, q1, q2, q3, q4, q5⟩ := six hn1; obtain ⟨r0, r1, r2⟩ := three (heap_alloc_new w1 (.cells #[.int .i64 2, .int .i64 n, .int .i64 ix] 26)); have hB2 := hB1.alloc (by omega) (.cells #[.int .i64 2, .int .i64 n, .int .i64 ix] 26); clear hn0) | (go_at_call 45; refine (hA _).mono ?_; clear hA; rintro e w3 ⟨rfl, hw3⟩; have hB3 := hB2.trans (hw3.mono (by simp; omega)); have hn2 := (hw3.block w.heap.size (by simp; omega)).trans hn1; have hn3 := (hw3.block w1.heap.size (by simp)).trans (heap_alloc_new w1 (.cells #[.int .i64 2, .int .i64 n, .int .i64 ix] 26)); obtain ⟨t0, t1, t2, t3, t4, t5⟩ := six hn2))
  have hsw3 := hw3.size
  simp at hsw3
  have HW3 := Lib.hid hsw3
  replace hn2 := Lib.hid hn2
  replace hn3 := Lib.hid hn3
  clear p0 p1 p2 p3 p4 p5 q0 q1 q2 q3 q4 q5 r0 r1 r2 t0 t1 t2 t3 t4 t5 hw1 hw3 hn1 hB1 hB2 hb0 hsz hsy hsw3
  obtain ⟨Z, hZ⟩ : ∃ Z, Z = w1.heap.size := ⟨_, rfl⟩
  rw [← hZ] at hn3 HW3 hs1 ⊢
  clear hZ
  have HS := Lib.hid fun W (hW : Below w3.heap.size w3 W) => (show W.cell? ⟨w.heap.size, 5, none⟩ = some (.slice A l.length c) ∧ W.cell? ⟨Z, 0, none⟩ = some (.int .i64 2) ∧ W.cell? ⟨Z, 1, none⟩ = some (.int .i64 n) ∧ W.cell? ⟨Z, 2, none⟩ = some (.int .i64 ix) from by
    have := HW3.out
    obtain ⟨_, _, _, _, _, a5⟩ := six ((hW.block w.heap.size (by omega)).trans hn2.out)
    obtain ⟨b0, b1, b2⟩ := three ((hW.block Z (by omega)).trans hn3.out)
    exact ⟨a5, b0, b1, b2⟩)
  go_loopw [4, 5] (fun u _ wr => ∃ j : Nat, j ≤ l.length ∧ u = .int .i64 (j : Int) ∧ Hid ((List.range j).all (okAt 2 n ix l) = true) ∧ Below w3.heap.size w3 wr) (fun u _ _ => l.length - (intOf u).toNat)
  case atStart => exact ⟨0, Nat.zero_le _, rfl, Lib.hid rfl, Below.refl _ _⟩
  case round =>
    obtain ⟨j, hj, rfl, hall, hW⟩ := hrel
    have hfin : Below w.heap.size w wr := hB3.trans (hW.mono (by have := HW3.out; omega))
    obtain ⟨ca, _, _, _⟩ := HS.out wr hW
    by_cases hlt : j < l.length
    · have hj2 : (j : Int) < (l.length : Int) := by omega
      have hj0 : (0 : Int) ≤ (j : Int) := by omega
      obtain ⟨bl, o, rfl, hbl, h3⟩ := HL.out.get hlt
      have hbl' : bl < w.heap.size := hbl
      obtain ⟨x, hx⟩ : ∃ x, x = l[j] := ⟨_, rfl⟩
      have hgx : l.getD j e0 = x := by rw [hx, List.getD_eq_getElem?_getD, List.getElem?_eq_getElem hlt]; rfl
      rw [← hx] at h3
      have hxo : x.ok := by rw [hx]; exact HE.out _ (List.getElem_mem _)
      have hOk := Lib.hid (show okAt 2 n ix l j = (ordAt l j && en1 2 n ix x) by unfold okAt; rw [hgx])
      have hwz : w3.heap.size ≤ wr.heap.size := hW.size
      have hwf : w.heap.size ≤ wr.heap.size := hfin.size
      have h3r := h3.to (hfin.block bl hbl')
      obtain ⟨c0, c1, c2⟩ := h3r
      have hNext := Lib.hid fun (h : okAt 2 n ix l j = true) => all_snoc hall.out h
      have hFail := Lib.hid fun (h : okAt 2 n ix l j = false) => (show K = 1 from by rw [HK.out, show entsOk 2 n ix l = false from all_fails hlt h]; rfl)
      have hXB : Below w3.heap.size w3 (wr.alloc (.cells #[.int .u64 x.i, .int .u64 x.u, .string x.s] 84)) := hW.alloc hwz _
      have hXF : Below w.heap.size w (wr.alloc (.cells #[.int .u64 x.i, .int .u64 x.u, .string x.s] 84)) := hfin.alloc hwf _
      have hXn := Lib.hid (heap_alloc_new wr (.cells #[.int .u64 x.i, .int .u64 x.u, .string x.s] 84))
      obtain ⟨ca2, z0, z1, z2⟩ := HS.out _ hXB
      obtain ⟨x0, x1, x2⟩ := three (heap_alloc_new wr (.cells #[.int .u64 x.i, .int .u64 x.u, .string x.s] 84))
      have hfx := Lib.hid (fun W => (show Calls Try.prog 44 #[.int .u64 x.i, .int .i64 ix] W fun e w' => e = .returned (.bool (decide (x.i ≤ grI ix))) ∧ w' = W from fits_gr x.i ix hxo.1 HX.out ▸ HF.out x.i ix W HX.out))
      have hfu := Lib.hid (fun W => (show Calls Try.prog 44 #[.int .u64 x.u, .int .i64 n] W fun e w' => e = .returned (.bool (decide (x.u ≤ grI n))) ∧ w' = W from fits_gr x.u n hxo.2.1 HN.out ▸ HF.out x.u n W HN.out))
      replace hgx := Lib.hid hgx
      replace hx := Lib.hid hx
      clear h3
      have hord0 : j = 0 → ordAt l j = true := fun h => by rw [h]; rfl
      by_cases hfi : x.i ≤ grI ix
      · have hfd : decide (x.i ≤ grI ix) = true := decide_eq_true hfi
        by_cases hz : j = 0
        · have hord := hord0 hz
          have hzj : decide ((0 : Int) < (j : Int)) = false := decide_eq_false (by omega)
          have hzk : decide (0 < j) = false := decide_eq_false (by omega)
          clear hord0 hz
          have hfg : decide (grI ix < x.i) = false := decide_eq_false (by omega)
          rw [hfd] at hfx
          clear hfi
          go_wp2_with fail
          go_quiet (first | (go_at_call 44; refine Calls.quiet_of_same (hfx.out _)))
          have hBd := below_dnv (N := nq) hXB
          have hFd := below_dnv (N := nq) hXF
          by_cases hu0 : x.u = 0
          · have hF0 := hFd
            have hB0 := hBd
            rw [hu0] at hF0 hB0
            have huf : (x.u == 0) = true := by rw [hu0]; rfl
            have hKf := Lib.hid (hFail.out (by rw [hOk.out, hord]; unfold en1 elOk bvOk; rw [hfg, huf]; cases x.s.size == 0 <;> simp))
            clear hOk hNext hFail
            try clear hu0
            try clear hss
            try clear hfn
            try clear hsn
            try clear hfd2
            skip
            go_wp2_with (go_at_call 44; refine (hfu.out _).mono ?_; rintro e w5 ⟨rfl, rfl⟩)
            go_ret
            exact ⟨congrArg (fun q => Ending.returned (.int .i64 q)) hKf.out.symm, by first | exact hFd | exact hF0⟩
          · have huf : (x.u == 0) = false := by simpa using hu0
            by_cases hfn : x.u ≤ grI n
            · have hfd2 : decide (x.u ≤ grI n) = true := decide_eq_true hfn
              rw [hfd2] at hfu
              by_cases hss : x.s.size = 0
              · have hs1 : decide ((0 : Int) < (x.s.size : Int)) = false := decide_eq_false (by omega)
                have hs2 : decide (0 < x.s.size) = false := decide_eq_false (by omega)
                have hNx := Lib.hid (hNext.out (by rw [hOk.out, hord]; unfold en1 elOk bvOk; rw [hfg, huf, hfd2, hss]; rfl))
                clear hOk hNext hFail
                try clear hu0
                try clear hss
                try clear hfn
                try clear hsn
                try clear hfd2
                skip
                go_wp2_with (go_at_call 44; refine (hfu.out _).mono ?_; rintro e w5 ⟨rfl, rfl⟩)
                go_roundw
                case rel => exact ⟨j + 1, by omega, by go_num, hNx, by first | exact hBd | exact hB0⟩
                case measure => simp [intOf]; omega
              · have hs1 : decide ((0 : Int) < (x.s.size : Int)) = true := decide_eq_true (by omega)
                have hs2 : decide (0 < x.s.size) = true := decide_eq_true (by omega)
                have hKf := Lib.hid (hFail.out (by rw [hOk.out, hord]; unfold en1 elOk bvOk; rw [hfg, huf, hfd2, show (x.s.size == 0) = false by simpa using hss]; rfl))
                clear hOk hNext hFail
                try clear hu0
                try clear hss
                try clear hfn
                try clear hsn
                try clear hfd2
                skip
                go_wp2_with (go_at_call 44; refine (hfu.out _).mono ?_; rintro e w5 ⟨rfl, rfl⟩)
                go_ret
                exact ⟨congrArg (fun q => Ending.returned (.int .i64 q)) hKf.out.symm, by first | exact hFd | exact hF0⟩
            · have hfd2 : decide (x.u ≤ grI n) = false := decide_eq_false hfn
              rw [hfd2] at hfu
              have hKf := Lib.hid (hFail.out (by rw [hOk.out, hord]; unfold en1 elOk bvOk; rw [hfg, huf, hfd2]; rfl))
              clear hOk hNext hFail
              try clear hu0
              try clear hss
              try clear hfn
              try clear hsn
              try clear hfd2
              skip
              go_wp2_with (go_at_call 44; refine (hfu.out _).mono ?_; rintro e w5 ⟨rfl, rfl⟩)
              go_ret
              exact ⟨congrArg (fun q => Ending.returned (.int .i64 q)) hKf.out.symm, by first | exact hFd | exact hF0⟩
        · obtain ⟨m, hm⟩ : ∃ m, j = m + 1 := ⟨j - 1, by omega⟩
          have hm1 : m < l.length := by omega
          obtain ⟨_, h3p⟩ := HL.out.prev hm1
          obtain ⟨y, hy⟩ : ∃ y, y = l[m] := ⟨_, rfl⟩
          rw [← hy] at h3p
          have hgy : l.getD (j - 1) e0 = y := by rw [hm, Nat.add_sub_cancel, hy, List.getD_eq_getElem?_getD, List.getElem?_eq_getElem hm1]; rfl
          have hordv : ordAt l j = decide (y.i < x.i) := by unfold ordAt; rw [hgy, hgx.out, show (j == 0) = false by simpa using hz]; rfl
          have c0p := (h3p.to (hXF.block bl hbl')).1
          have q6 : IntKind.i64.wrap ((j : Int) - 1) = (m : Int) := by rw [show (j : Int) - 1 = (m : Int) by omega]; exact IntWalk.i64_in _ (by omega)
          have q3 : (0 : Int) ≤ (m : Int) := by omega
          have q4 : (m : Int) < (l.length : Int) := by omega
          have hzj : decide ((0 : Int) < (j : Int)) = true := decide_eq_true (by omega)
          have hzk : decide (0 < j) = true := decide_eq_true (by omega)
          obtain ⟨yi, hyi⟩ : ∃ yi, yi = y.i := ⟨_, rfl⟩
          rw [← hyi] at hordv c0p
          clear h3p hy hyi hgy hm hz hord0
          by_cases hlo : yi < x.i
          · have hord : ordAt l j = true := by rw [hordv]; exact decide_eq_true hlo
            have hge : decide (x.i ≤ yi) = false := decide_eq_false (by omega)
            clear hlo hordv
            have hfg : decide (grI ix < x.i) = false := decide_eq_false (by omega)
            rw [hfd] at hfx
            clear hfi
            go_wp2_with fail
            go_quiet (first | (go_at_call 44; refine Calls.quiet_of_same (hfx.out _)))
            have hBd := below_dnv (N := nq) hXB
            have hFd := below_dnv (N := nq) hXF
            by_cases hu0 : x.u = 0
            · have hF0 := hFd
              have hB0 := hBd
              rw [hu0] at hF0 hB0
              have huf : (x.u == 0) = true := by rw [hu0]; rfl
              have hKf := Lib.hid (hFail.out (by rw [hOk.out, hord]; unfold en1 elOk bvOk; rw [hfg, huf]; cases x.s.size == 0 <;> simp))
              clear hOk hNext hFail
              try clear hu0
              try clear hss
              try clear hfn
              try clear hsn
              try clear hfd2
              skip
              go_wp2_with (go_at_call 44; refine (hfu.out _).mono ?_; rintro e w5 ⟨rfl, rfl⟩)
              go_ret
              exact ⟨congrArg (fun q => Ending.returned (.int .i64 q)) hKf.out.symm, by first | exact hFd | exact hF0⟩
            · have huf : (x.u == 0) = false := by simpa using hu0
              by_cases hfn : x.u ≤ grI n
              · have hfd2 : decide (x.u ≤ grI n) = true := decide_eq_true hfn
                rw [hfd2] at hfu
                by_cases hss : x.s.size = 0
                · have hs1 : decide ((0 : Int) < (x.s.size : Int)) = false := decide_eq_false (by omega)
                  have hs2 : decide (0 < x.s.size) = false := decide_eq_false (by omega)
                  have hNx := Lib.hid (hNext.out (by rw [hOk.out, hord]; unfold en1 elOk bvOk; rw [hfg, huf, hfd2, hss]; rfl))
                  clear hOk hNext hFail
                  try clear hu0
                  try clear hss
                  try clear hfn
                  try clear hsn
                  try clear hfd2
                  skip
                  go_wp2_with (go_at_call 44; refine (hfu.out _).mono ?_; rintro e w5 ⟨rfl, rfl⟩)
                  go_roundw
                  case rel => exact ⟨j + 1, by omega, by go_num, hNx, by first | exact hBd | exact hB0⟩
                  case measure => simp [intOf]; omega
                · have hs1 : decide ((0 : Int) < (x.s.size : Int)) = true := decide_eq_true (by omega)
                  have hs2 : decide (0 < x.s.size) = true := decide_eq_true (by omega)
                  have hKf := Lib.hid (hFail.out (by rw [hOk.out, hord]; unfold en1 elOk bvOk; rw [hfg, huf, hfd2, show (x.s.size == 0) = false by simpa using hss]; rfl))
                  clear hOk hNext hFail
                  try clear hu0
                  try clear hss
                  try clear hfn
                  try clear hsn
                  try clear hfd2
                  skip
                  go_wp2_with (go_at_call 44; refine (hfu.out _).mono ?_; rintro e w5 ⟨rfl, rfl⟩)
                  go_ret
                  exact ⟨congrArg (fun q => Ending.returned (.int .i64 q)) hKf.out.symm, by first | exact hFd | exact hF0⟩
              · have hfd2 : decide (x.u ≤ grI n) = false := decide_eq_false hfn
                rw [hfd2] at hfu
                have hKf := Lib.hid (hFail.out (by rw [hOk.out, hord]; unfold en1 elOk bvOk; rw [hfg, huf, hfd2]; rfl))
                clear hOk hNext hFail
                try clear hu0
                try clear hss
                try clear hfn
                try clear hsn
                try clear hfd2
                skip
                go_wp2_with (go_at_call 44; refine (hfu.out _).mono ?_; rintro e w5 ⟨rfl, rfl⟩)
                go_ret
                exact ⟨congrArg (fun q => Ending.returned (.int .i64 q)) hKf.out.symm, by first | exact hFd | exact hF0⟩
          · have hord : ordAt l j = false := by rw [hordv]; exact decide_eq_false hlo
            have hge : decide (x.i ≤ yi) = true := decide_eq_true (by omega)
            have hKf := Lib.hid (hFail.out (by rw [hOk.out, hord]; rfl))
            rw [hfd] at hfx
            clear hlo hordv hord hOk hNext hFail hall hfi hfd
            go_wp2_with fail
            go_quiet (first | (go_at_call 44; refine Calls.quiet_of_same (hfx.out _)))
            go_wp2_with fail
            go_ret
            exact ⟨congrArg (fun q => Ending.returned (.int .i64 q)) hKf.out.symm, below_dnv hXF⟩
      · have hfd : decide (x.i ≤ grI ix) = false := decide_eq_false hfi
        rw [hfd] at hfx
        have hKf := Lib.hid (hFail.out (by rw [hOk.out]; unfold en1; rw [show decide (grI ix < x.i) = true from decide_eq_true (by omega)]; simp))
        clear hfi hfd hOk hNext hFail hall hord0
        go_wp2_with fail
        go_quiet (first | (go_at_call 44; refine Calls.quiet_of_same (hfx.out _)))
        go_wp2_with fail
        go_ret
        exact ⟨congrArg (fun q => Ending.returned (.int .i64 q)) hKf.out.symm, below_dnv hXF⟩
    · have hju : ¬ (j : Int) < (l.length : Int) := by omega
      have hjl : j = l.length := by omega
      have hKz := Lib.hid (show K = 0 from by rw [HK.out, show entsOk 2 n ix l = true from by unfold entsOk; rw [← hjl]; exact hall.out]; rfl)
      clear hjl hall
      go_wp2_with fail
      go_ret
      exact ⟨congrArg (fun q => Ending.returned (.int .i64 q)) hKz.out.symm, hfin⟩
set_option maxHeartbeats 2000000 in
set_option maxRecDepth 100000 in
theorem r6ValidA3_any (n ix : Int) (s : ByteArray) (A : Option Addr) (l : List En) (c : Nat) (w : World) (hs : s.size = 0) (hok : sortOk 3 n ix = true) (hle : ∀ e ∈ l, e.ok) (hl : EnL w (LoV w.heap.size) l A) (hlen : l.length ≤ 100000) : Calls Try.prog 15 #[vav 3 n ix 0 s A l.length c] w fun e w' => e = .returned (.int .i64 (if entsOk 3 n ix l then 0 else 1)) ∧ Below w.heap.size w w' := by
  have hb0 : ∀ o, Below w.heap.size w (w.alloc o) := fun o => (Below.refl _ _).alloc (Nat.le_refl _) o
  have hV := fun W => r6ValidSort_any 3 n ix W
  have hA := fun W => r6Array_any 3 n ix W
  have hn : 0 ≤ n ∧ n ≤ 64 := by unfold sortOk at hok; simp at hok; omega
  have hix := (sort_el (k := 3) (by omega) hok).2
  unfold sortE at hV
  rw [hok] at hV
  simp only [if_true] at hV
  unfold vav
  clear hok
  obtain ⟨K, hK⟩ : ∃ K : Int, K = if entsOk 3 n ix l then 0 else 1 := ⟨_, rfl⟩
  rw [← hK]
  have HK := Lib.hid hK
  have HL := Lib.hid hl
  have HE := Lib.hid hle
  have HF := Lib.hid fun (u m : Int) (W : World) (h : 0 ≤ m ∧ m ≤ 64) => r6fits_any u m W h
  have HN := Lib.hid hn
  have HX := Lib.hid hix
  clear hK hl hle hn hix
  have hsz : decide ((0 : Int) < (s.size : Int)) = false := decide_eq_false (by omega)
  have hsy : decide (0 < s.size) = false := decide_eq_false (by omega)
  clear hs
  go_enter Try.func15, Try.ntmps15
  go_wp2_with (first | (go_at_call 10; refine (hV _).mono ?_; clear hV; rintro e w1 ⟨rfl, hw1⟩; have hs1 := hw1.size; simp at hs1; have hB1 := (hb0 (.cells #[.int .i64 3, .int .i64 n, .int .i64 ix, .int .u64 0, .string s, .slice A l.length c] 30)).trans (hw1.mono (by simp)); have hn0 := (hw1.block w.heap.size (by simp)).trans (heap_alloc_new w (.cells #[.int .i64 3, .int .i64 n, .int .i64 ix, .int .u64 0, .string s, .slice A l.length c] 30)); have hn1 := (heap_alloc_old w1 (.cells #[.int .i64 3, .int .i64 n, .int .i64 ix] 26) w.heap.size (by omega)).trans hn0; obtain ⟨p0, p1, p2, p3, p4, p5⟩ := six hn0; obtain ⟨q0, q1, q2, q3, q4, q5⟩ := six hn1; obtain ⟨r0, r1, r2⟩ := three (heap_alloc_new w1 (.cells #[.int .i64 3, .int .i64 n, .int .i64 ix] 26)); have hB2 := hB1.alloc (by omega) (.cells #[.int .i64 3, .int .i64 n, .int .i64 ix] 26); clear hn0) | (go_at_call 45; refine (hA _).mono ?_; clear hA; rintro e w3 ⟨rfl, hw3⟩; have hB3 := hB2.trans (hw3.mono (by simp; omega)); have hn2 := (hw3.block w.heap.size (by simp; omega)).trans hn1; have hn3 := (hw3.block w1.heap.size (by simp)).trans (heap_alloc_new w1 (.cells #[.int .i64 3, .int .i64 n, .int .i64 ix] 26)); obtain ⟨t0, t1, t2, t3, t4, t5⟩ := six hn2))
  have hsw3 := hw3.size
  simp at hsw3
  have HW3 := Lib.hid hsw3
  replace hn2 := Lib.hid hn2
  replace hn3 := Lib.hid hn3
  clear p0 p1 p2 p3 p4 p5 q0 q1 q2 q3 q4 q5 r0 r1 r2 t0 t1 t2 t3 t4 t5 hw1 hw3 hn1 hB1 hB2 hb0 hsz hsy hsw3
  obtain ⟨Z, hZ⟩ : ∃ Z, Z = w1.heap.size := ⟨_, rfl⟩
  rw [← hZ] at hn3 HW3 hs1 ⊢
  clear hZ
  have HS := Lib.hid fun W (hW : Below w3.heap.size w3 W) => (show W.cell? ⟨w.heap.size, 5, none⟩ = some (.slice A l.length c) ∧ W.cell? ⟨Z, 0, none⟩ = some (.int .i64 3) ∧ W.cell? ⟨Z, 1, none⟩ = some (.int .i64 n) ∧ W.cell? ⟨Z, 2, none⟩ = some (.int .i64 ix) from by
    have := HW3.out
    obtain ⟨_, _, _, _, _, a5⟩ := six ((hW.block w.heap.size (by omega)).trans hn2.out)
    obtain ⟨b0, b1, b2⟩ := three ((hW.block Z (by omega)).trans hn3.out)
    exact ⟨a5, b0, b1, b2⟩)
  go_loopw [4, 5] (fun u _ wr => ∃ j : Nat, j ≤ l.length ∧ u = .int .i64 (j : Int) ∧ Hid ((List.range j).all (okAt 3 n ix l) = true) ∧ Below w3.heap.size w3 wr) (fun u _ _ => l.length - (intOf u).toNat)
  case atStart => exact ⟨0, Nat.zero_le _, rfl, Lib.hid rfl, Below.refl _ _⟩
  case round =>
    obtain ⟨j, hj, rfl, hall, hW⟩ := hrel
    have hfin : Below w.heap.size w wr := hB3.trans (hW.mono (by have := HW3.out; omega))
    obtain ⟨ca, _, _, _⟩ := HS.out wr hW
    by_cases hlt : j < l.length
    · have hj2 : (j : Int) < (l.length : Int) := by omega
      have hj0 : (0 : Int) ≤ (j : Int) := by omega
      obtain ⟨bl, o, rfl, hbl, h3⟩ := HL.out.get hlt
      have hbl' : bl < w.heap.size := hbl
      obtain ⟨x, hx⟩ : ∃ x, x = l[j] := ⟨_, rfl⟩
      have hgx : l.getD j e0 = x := by rw [hx, List.getD_eq_getElem?_getD, List.getElem?_eq_getElem hlt]; rfl
      rw [← hx] at h3
      have hxo : x.ok := by rw [hx]; exact HE.out _ (List.getElem_mem _)
      have hOk := Lib.hid (show okAt 3 n ix l j = (ordAt l j && en1 3 n ix x) by unfold okAt; rw [hgx])
      have hwz : w3.heap.size ≤ wr.heap.size := hW.size
      have hwf : w.heap.size ≤ wr.heap.size := hfin.size
      have h3r := h3.to (hfin.block bl hbl')
      obtain ⟨c0, c1, c2⟩ := h3r
      have hNext := Lib.hid fun (h : okAt 3 n ix l j = true) => all_snoc hall.out h
      have hFail := Lib.hid fun (h : okAt 3 n ix l j = false) => (show K = 1 from by rw [HK.out, show entsOk 3 n ix l = false from all_fails hlt h]; rfl)
      have hXB : Below w3.heap.size w3 (wr.alloc (.cells #[.int .u64 x.i, .int .u64 x.u, .string x.s] 84)) := hW.alloc hwz _
      have hXF : Below w.heap.size w (wr.alloc (.cells #[.int .u64 x.i, .int .u64 x.u, .string x.s] 84)) := hfin.alloc hwf _
      have hXn := Lib.hid (heap_alloc_new wr (.cells #[.int .u64 x.i, .int .u64 x.u, .string x.s] 84))
      obtain ⟨ca2, z0, z1, z2⟩ := HS.out _ hXB
      obtain ⟨x0, x1, x2⟩ := three (heap_alloc_new wr (.cells #[.int .u64 x.i, .int .u64 x.u, .string x.s] 84))
      have hfx := Lib.hid (fun W => (show Calls Try.prog 44 #[.int .u64 x.i, .int .i64 ix] W fun e w' => e = .returned (.bool (decide (x.i ≤ grI ix))) ∧ w' = W from fits_gr x.i ix hxo.1 HX.out ▸ HF.out x.i ix W HX.out))
      have hfu := Lib.hid (fun W => (show Calls Try.prog 44 #[.int .u64 x.u, .int .i64 n] W fun e w' => e = .returned (.bool (decide (x.u ≤ grI n))) ∧ w' = W from fits_gr x.u n hxo.2.1 HN.out ▸ HF.out x.u n W HN.out))
      replace hgx := Lib.hid hgx
      replace hx := Lib.hid hx
      clear h3
      have hord0 : j = 0 → ordAt l j = true := fun h => by rw [h]; rfl
      by_cases hfi : x.i ≤ grI ix
      · have hfd : decide (x.i ≤ grI ix) = true := decide_eq_true hfi
        by_cases hz : j = 0
        · have hord := hord0 hz
          have hzj : decide ((0 : Int) < (j : Int)) = false := decide_eq_false (by omega)
          have hzk : decide (0 < j) = false := decide_eq_false (by omega)
          clear hord0 hz
          have hfg : decide (grI ix < x.i) = false := decide_eq_false (by omega)
          rw [hfd] at hfx
          clear hfi
          go_wp2_with fail
          go_quiet (first | (go_at_call 44; refine Calls.quiet_of_same (hfx.out _)))
          have hBd := below_dnv (N := nq) hXB
          have hFd := below_dnv (N := nq) hXF
          by_cases hu0 : x.u = 0
          · have hF0 := hFd
            have hB0 := hBd
            rw [hu0] at hF0 hB0
            have huf : (x.u == 0) = true := by rw [hu0]; rfl
            have hug : decide (0 < x.u) = false := decide_eq_false (by omega)
            by_cases hss : x.s.size = 0
            · have hs1 : ((x.s.size : Int) == 0) = true := by rw [hss]; rfl
              have hs2 : (x.s.size == 0) = true := by rw [hss]; rfl
              have hKf := Lib.hid (hFail.out (by rw [hOk.out, hord]; unfold en1; rw [hfg, huf, hs2]; rfl))
              clear hOk hNext hFail
              try clear hu0
              try clear hss
              try clear hfn
              try clear hsn
              try clear hfd2
              try clear hs2
              go_wp2_with (go_at_call 44; refine (hfu.out _).mono ?_; rintro e w5 ⟨rfl, rfl⟩)
              go_ret
              exact ⟨congrArg (fun q => Ending.returned (.int .i64 q)) hKf.out.symm, by first | exact hFd | exact hF0⟩
            · have hs1 : ((x.s.size : Int) == 0) = false := by simpa using hss
              have hs2 : (x.s.size == 0) = false := by simpa using hss
              by_cases hsn : (x.s.size : Int) ≤ n
              · have hs3 : decide (n < (x.s.size : Int)) = false := decide_eq_false (by omega)
                have hNx := Lib.hid (hNext.out (by rw [hOk.out, hord]; unfold en1 elOk stOk; rw [hfg, huf, hs2, decide_eq_true hsn]; rfl))
                clear hOk hNext hFail
                try clear hu0
                try clear hss
                try clear hfn
                try clear hsn
                try clear hfd2
                try clear hs2
                go_wp2_with (go_at_call 44; refine (hfu.out _).mono ?_; rintro e w5 ⟨rfl, rfl⟩)
                go_roundw
                case rel => exact ⟨j + 1, by omega, by go_num, hNx, by first | exact hBd | exact hB0⟩
                case measure => simp [intOf]; omega
              · have hs3 : decide (n < (x.s.size : Int)) = true := decide_eq_true (by omega)
                have hKf := Lib.hid (hFail.out (by rw [hOk.out, hord]; unfold en1 elOk stOk; rw [hfg, huf, hs2, decide_eq_false hsn]; rfl))
                clear hOk hNext hFail
                try clear hu0
                try clear hss
                try clear hfn
                try clear hsn
                try clear hfd2
                try clear hs2
                go_wp2_with (go_at_call 44; refine (hfu.out _).mono ?_; rintro e w5 ⟨rfl, rfl⟩)
                go_ret
                exact ⟨congrArg (fun q => Ending.returned (.int .i64 q)) hKf.out.symm, by first | exact hFd | exact hF0⟩
          · have huf : (x.u == 0) = false := by simpa using hu0
            have hug : decide (0 < x.u) = true := decide_eq_true (by have := hxo.2.1.1; omega)
            have hKf := Lib.hid (hFail.out (by rw [hOk.out, hord]; unfold en1 elOk stOk; rw [hfg, huf]; rfl))
            clear hOk hNext hFail
            try clear hu0
            try clear hss
            try clear hfn
            try clear hsn
            try clear hfd2
            try clear hs2
            go_wp2_with (go_at_call 44; refine (hfu.out _).mono ?_; rintro e w5 ⟨rfl, rfl⟩)
            go_ret
            exact ⟨congrArg (fun q => Ending.returned (.int .i64 q)) hKf.out.symm, by first | exact hFd | exact hF0⟩
        · obtain ⟨m, hm⟩ : ∃ m, j = m + 1 := ⟨j - 1, by omega⟩
          have hm1 : m < l.length := by omega
          obtain ⟨_, h3p⟩ := HL.out.prev hm1
          obtain ⟨y, hy⟩ : ∃ y, y = l[m] := ⟨_, rfl⟩
          rw [← hy] at h3p
          have hgy : l.getD (j - 1) e0 = y := by rw [hm, Nat.add_sub_cancel, hy, List.getD_eq_getElem?_getD, List.getElem?_eq_getElem hm1]; rfl
          have hordv : ordAt l j = decide (y.i < x.i) := by unfold ordAt; rw [hgy, hgx.out, show (j == 0) = false by simpa using hz]; rfl
          have c0p := (h3p.to (hXF.block bl hbl')).1
          have q6 : IntKind.i64.wrap ((j : Int) - 1) = (m : Int) := by rw [show (j : Int) - 1 = (m : Int) by omega]; exact IntWalk.i64_in _ (by omega)
          have q3 : (0 : Int) ≤ (m : Int) := by omega
          have q4 : (m : Int) < (l.length : Int) := by omega
          have hzj : decide ((0 : Int) < (j : Int)) = true := decide_eq_true (by omega)
          have hzk : decide (0 < j) = true := decide_eq_true (by omega)
          obtain ⟨yi, hyi⟩ : ∃ yi, yi = y.i := ⟨_, rfl⟩
          rw [← hyi] at hordv c0p
          clear h3p hy hyi hgy hm hz hord0
          by_cases hlo : yi < x.i
          · have hord : ordAt l j = true := by rw [hordv]; exact decide_eq_true hlo
            have hge : decide (x.i ≤ yi) = false := decide_eq_false (by omega)
            clear hlo hordv
            have hfg : decide (grI ix < x.i) = false := decide_eq_false (by omega)
            rw [hfd] at hfx
            clear hfi
            go_wp2_with fail
            go_quiet (first | (go_at_call 44; refine Calls.quiet_of_same (hfx.out _)))
            have hBd := below_dnv (N := nq) hXB
            have hFd := below_dnv (N := nq) hXF
            by_cases hu0 : x.u = 0
            · have hF0 := hFd
              have hB0 := hBd
              rw [hu0] at hF0 hB0
              have huf : (x.u == 0) = true := by rw [hu0]; rfl
              have hug : decide (0 < x.u) = false := decide_eq_false (by omega)
              by_cases hss : x.s.size = 0
              · have hs1 : ((x.s.size : Int) == 0) = true := by rw [hss]; rfl
                have hs2 : (x.s.size == 0) = true := by rw [hss]; rfl
                have hKf := Lib.hid (hFail.out (by rw [hOk.out, hord]; unfold en1; rw [hfg, huf, hs2]; rfl))
                clear hOk hNext hFail
                try clear hu0
                try clear hss
                try clear hfn
                try clear hsn
                try clear hfd2
                try clear hs2
                go_wp2_with (go_at_call 44; refine (hfu.out _).mono ?_; rintro e w5 ⟨rfl, rfl⟩)
                go_ret
                exact ⟨congrArg (fun q => Ending.returned (.int .i64 q)) hKf.out.symm, by first | exact hFd | exact hF0⟩
              · have hs1 : ((x.s.size : Int) == 0) = false := by simpa using hss
                have hs2 : (x.s.size == 0) = false := by simpa using hss
                by_cases hsn : (x.s.size : Int) ≤ n
                · have hs3 : decide (n < (x.s.size : Int)) = false := decide_eq_false (by omega)
                  have hNx := Lib.hid (hNext.out (by rw [hOk.out, hord]; unfold en1 elOk stOk; rw [hfg, huf, hs2, decide_eq_true hsn]; rfl))
                  clear hOk hNext hFail
                  try clear hu0
                  try clear hss
                  try clear hfn
                  try clear hsn
                  try clear hfd2
                  try clear hs2
                  go_wp2_with (go_at_call 44; refine (hfu.out _).mono ?_; rintro e w5 ⟨rfl, rfl⟩)
                  go_roundw
                  case rel => exact ⟨j + 1, by omega, by go_num, hNx, by first | exact hBd | exact hB0⟩
                  case measure => simp [intOf]; omega
                · have hs3 : decide (n < (x.s.size : Int)) = true := decide_eq_true (by omega)
                  have hKf := Lib.hid (hFail.out (by rw [hOk.out, hord]; unfold en1 elOk stOk; rw [hfg, huf, hs2, decide_eq_false hsn]; rfl))
                  clear hOk hNext hFail
                  try clear hu0
                  try clear hss
                  try clear hfn
                  try clear hsn
                  try clear hfd2
                  try clear hs2
                  go_wp2_with (go_at_call 44; refine (hfu.out _).mono ?_; rintro e w5 ⟨rfl, rfl⟩)
                  go_ret
                  exact ⟨congrArg (fun q => Ending.returned (.int .i64 q)) hKf.out.symm, by first | exact hFd | exact hF0⟩
            · have huf : (x.u == 0) = false := by simpa using hu0
              have hug : decide (0 < x.u) = true := decide_eq_true (by have := hxo.2.1.1; omega)
              have hKf := Lib.hid (hFail.out (by rw [hOk.out, hord]; unfold en1 elOk stOk; rw [hfg, huf]; rfl))
              clear hOk hNext hFail
              try clear hu0
              try clear hss
              try clear hfn
              try clear hsn
              try clear hfd2
              try clear hs2
              go_wp2_with (go_at_call 44; refine (hfu.out _).mono ?_; rintro e w5 ⟨rfl, rfl⟩)
              go_ret
              exact ⟨congrArg (fun q => Ending.returned (.int .i64 q)) hKf.out.symm, by first | exact hFd | exact hF0⟩
          · have hord : ordAt l j = false := by rw [hordv]; exact decide_eq_false hlo
            have hge : decide (x.i ≤ yi) = true := decide_eq_true (by omega)
            have hKf := Lib.hid (hFail.out (by rw [hOk.out, hord]; rfl))
            rw [hfd] at hfx
            clear hlo hordv hord hOk hNext hFail hall hfi hfd
            go_wp2_with fail
            go_quiet (first | (go_at_call 44; refine Calls.quiet_of_same (hfx.out _)))
            go_wp2_with fail
            go_ret
            exact ⟨congrArg (fun q => Ending.returned (.int .i64 q)) hKf.out.symm, below_dnv hXF⟩
      · have hfd : decide (x.i ≤ grI ix) = false := decide_eq_false hfi
        rw [hfd] at hfx
        have hKf := Lib.hid (hFail.out (by rw [hOk.out]; unfold en1; rw [show decide (grI ix < x.i) = true from decide_eq_true (by omega)]; simp))
        clear hfi hfd hOk hNext hFail hall hord0
        go_wp2_with fail
        go_quiet (first | (go_at_call 44; refine Calls.quiet_of_same (hfx.out _)))
        go_wp2_with fail
        go_ret
        exact ⟨congrArg (fun q => Ending.returned (.int .i64 q)) hKf.out.symm, below_dnv hXF⟩
    · have hju : ¬ (j : Int) < (l.length : Int) := by omega
      have hjl : j = l.length := by omega
      have hKz := Lib.hid (show K = 0 from by rw [HK.out, show entsOk 3 n ix l = true from by unfold entsOk; rw [← hjl]; exact hall.out]; rfl)
      clear hjl hall
      go_wp2_with fail
      go_ret
      exact ⟨congrArg (fun q => Ending.returned (.int .i64 q)) hKz.out.symm, hfin⟩
end Go.Proofs.Ytngfgohchnkidaa
