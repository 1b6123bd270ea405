/-
  THE REFERENCE's Plain. Written by gen/genlxplainr.py.
-/
import Derived.Test.YtpeeekgfcofbkaaLxRefA
namespace Go.Proofs.Ytpeeekgfcofbkaa
open Go.RowKit

def plB (word first l2 a b x bin hex n66 n18 n16 whole one z n13 : Bool) : Int × Int :=
  if word && first then (if n16 then (0, 6) else (2, 0)) else if l2 && a && ((b && bin && n66) || (x && hex && n18)) then (0, 4) else if l2 && a && ((b && bin) || (x && hex)) then (3, 0) else if whole && (one || !z) then (if n13 then (0, 4) else (4, 0)) else (0, 2)
def LET : List Int := [97, 98, 99, 100, 101, 102, 103, 104, 105, 106, 107, 108, 109, 110, 111, 112, 113, 114, 115, 116, 117, 118, 119, 120, 121, 122]
def DIG : List Int := [48, 49, 50, 51, 52, 53, 54, 55, 56, 57]
def plF (l : List Int) : Int × Int := plB (allI l (LET ++ DIG ++ [45])) (memI (l.getD 0 0) LET) (decide ((2 : Int) < (l.length : Int))) (l.getD 0 0 == 35) (l.getD 1 0 == 98) (l.getD 1 0 == 120) (allI (l.drop 2) [48, 49]) (allI (l.drop 2) (DIG ++ [97, 98, 99, 100, 101, 102]))
  (decide ((66 : Int) < (l.length : Int))) (decide ((18 : Int) < (l.length : Int))) (decide ((16 : Int) < (l.length : Int))) (allI l DIG) ((l.length : Int) == 1) (l.getD 0 0 == 48) (decide ((13 : Int) < (l.length : Int)))
set_option maxHeartbeats 16000000 in
set_option maxRecDepth 100000 in
theorem Plain_any (s : ByteArray) (w : World) (h0 : 0 < s.size) (hs : s.size ≤ 100000) : Calls Try.prog 33 #[.string s] w fun e w' => e = .returned (.tuple #[.int .i64 (plF (sb s)).1, .int .i64 (plF (sb s)).2]) ∧ w' = w := by
  have hl := sb_length s
  obtain ⟨x0, hx0, hd0, ix0⟩ := sb_get s 0 h0
  have hg0 : (sb s).getD 0 0 = (x0 : Int) := by rw [List.drop_zero] at hd0; rw [hd0]; rfl
  have H1 := Lib.hid (fun W => only_any s (⟨#[97, 98, 99, 100, 101, 102, 103, 104, 105, 106, 107, 108, 109, 110, 111, 112, 113, 114, 115, 116, 117, 118, 119, 120, 121, 122]⟩ ++ ⟨#[48, 49, 50, 51, 52, 53, 54, 55, 56, 57]⟩ ++ ⟨#[45]⟩) W (by omega) (by decide))
  have H2 := Lib.hid (fun W => in_any x0 ⟨#[97, 98, 99, 100, 101, 102, 103, 104, 105, 106, 107, 108, 109, 110, 111, 112, 113, 114, 115, 116, 117, 118, 119, 120, 121, 122]⟩ W (by decide))
  have H3 := Lib.hid (fun W => only_any (s.extract 2 s.size) ⟨#[48, 49]⟩ W (by rw [ByteArray.size_extract]; omega) (by decide))
  have H4 := Lib.hid (fun W => only_any (s.extract 2 s.size) (⟨#[48, 49, 50, 51, 52, 53, 54, 55, 56, 57]⟩ ++ ⟨#[97, 98, 99, 100, 101, 102]⟩) W (by rw [ByteArray.size_extract]; omega) (by decide))
  have H5 := Lib.hid (fun W => only_any s ⟨#[48, 49, 50, 51, 52, 53, 54, 55, 56, 57]⟩ W (by omega) (by decide))
  obtain ⟨V, hV⟩ : ∃ V, V = plF (sb s) := ⟨_, rfl⟩
  rw [← hV]
  unfold plF at hV
  rw [show sb (⟨#[97, 98, 99, 100, 101, 102, 103, 104, 105, 106, 107, 108, 109, 110, 111, 112, 113, 114, 115, 116, 117, 118, 119, 120, 121, 122]⟩ ++ ⟨#[48, 49, 50, 51, 52, 53, 54, 55, 56, 57]⟩ ++ ⟨#[45]⟩) = LET ++ DIG ++ [45] from rfl] at H1
  rw [show sb ⟨#[97, 98, 99, 100, 101, 102, 103, 104, 105, 106, 107, 108, 109, 110, 111, 112, 113, 114, 115, 116, 117, 118, 119, 120, 121, 122]⟩ = LET from rfl] at H2
  rw [sb_from, show sb ⟨#[48, 49]⟩ = [48, 49] from rfl] at H3
  rw [sb_from, show sb (⟨#[48, 49, 50, 51, 52, 53, 54, 55, 56, 57]⟩ ++ ⟨#[97, 98, 99, 100, 101, 102]⟩) = DIG ++ [97, 98, 99, 100, 101, 102] from rfl] at H4
  rw [show sb ⟨#[48, 49, 50, 51, 52, 53, 54, 55, 56, 57]⟩ = DIG from rfl] at H5
  rw [hg0, hl] at hV
  generalize allI (sb s) (LET ++ DIG ++ [45]) = word at *
  generalize memI (x0 : Int) LET = first at *
  generalize allI ((sb s).drop 2) [48, 49] = bin at *
  generalize allI ((sb s).drop 2) (DIG ++ [97, 98, 99, 100, 101, 102]) = hex at *
  generalize allI (sb s) DIG = whole at *
  generalize hn2 : decide ((2 : Int) < (s.size : Int)) = l2 at *
  generalize ha : ((x0 : Int) == 35) = a at *
  generalize hn66 : decide ((66 : Int) < (s.size : Int)) = n66 at *
  generalize hn18 : decide ((18 : Int) < (s.size : Int)) = n18 at *
  generalize hn16 : decide ((16 : Int) < (s.size : Int)) = n16 at *
  generalize hn13 : decide ((13 : Int) < (s.size : Int)) = n13 at *
  generalize hone : ((s.size : Int) == 1) = one at *
  generalize hz : ((x0 : Int) == 48) = z at *
  have h00 : (0 : Int) < (s.size : Int) := by omega
  have ix0' : ∀ W : World, (Instr.index 9 (.string s) (.int .i64 0)).run Try.prog W = .ok (.int .u8 (x0 : Int)) W := ix0
  clear hd0 hg0 ix0 hx0
  replace hV := Lib.hid hV
  go_enter Try.func33, Try.ntmps33
  go_wp2_with fail
  refine Calls.mono (H1.out _) ?_
  rintro e w1 ⟨rfl, hw1⟩
  rw [hw1]
  clear hw1 w1
  clear H1
  go_wp2_with fail
  refine Calls.mono (H2.out _) ?_
  rintro e w1 ⟨rfl, hw1⟩
  rw [hw1]
  clear hw1 w1
  clear H2
  cases word
  · cases l2
    · go_wp2_with fail
      refine Calls.mono (H5.out _) ?_
      rintro e w1 ⟨rfl, hw1⟩
      rw [hw1]
      clear hw1 w1
      clear H5
      cases whole
      · have hv : V = (0, 2) := by rw [hV.out]; simp [plB]
        clear hV
        subst hv
        go_wp2_with fail
        all_goals go_ret2
        all_goals exact ⟨rfl, rfl⟩
      · cases one
        · cases z
          · cases n13
            · have hv : V = (4, 0) := by rw [hV.out]; simp [plB]
              clear hV
              subst hv
              go_wp2_with fail
              all_goals go_ret2
              all_goals exact ⟨rfl, rfl⟩
            · have hv : V = (0, 4) := by rw [hV.out]; simp [plB]
              clear hV
              subst hv
              go_wp2_with fail
              all_goals go_ret2
              all_goals exact ⟨rfl, rfl⟩
          · have hv : V = (0, 2) := by rw [hV.out]; simp [plB]
            clear hV
            subst hv
            go_wp2_with fail
            all_goals go_ret2
            all_goals exact ⟨rfl, rfl⟩
        · cases n13
          · have hv : V = (4, 0) := by rw [hV.out]; simp [plB]
            clear hV
            subst hv
            go_wp2_with fail
            all_goals go_ret2
            all_goals exact ⟨rfl, rfl⟩
          · have hv : V = (0, 4) := by rw [hV.out]; simp [plB]
            clear hV
            subst hv
            go_wp2_with fail
            all_goals go_ret2
            all_goals exact ⟨rfl, rfl⟩
    · cases a
      · go_wp2_with fail
        refine Calls.mono (H5.out _) ?_
        rintro e w1 ⟨rfl, hw1⟩
        rw [hw1]
        clear hw1 w1
        clear H5
        cases whole
        · have hv : V = (0, 2) := by rw [hV.out]; simp [plB]
          clear hV
          subst hv
          go_wp2_with fail
          all_goals go_ret2
          all_goals exact ⟨rfl, rfl⟩
        · cases one
          · cases z
            · cases n13
              · have hv : V = (4, 0) := by rw [hV.out]; simp [plB]
                clear hV
                subst hv
                go_wp2_with fail
                all_goals go_ret2
                all_goals exact ⟨rfl, rfl⟩
              · have hv : V = (0, 4) := by rw [hV.out]; simp [plB]
                clear hV
                subst hv
                go_wp2_with fail
                all_goals go_ret2
                all_goals exact ⟨rfl, rfl⟩
            · have hv : V = (0, 2) := by rw [hV.out]; simp [plB]
              clear hV
              subst hv
              go_wp2_with fail
              all_goals go_ret2
              all_goals exact ⟨rfl, rfl⟩
          · cases n13
            · have hv : V = (4, 0) := by rw [hV.out]; simp [plB]
              clear hV
              subst hv
              go_wp2_with fail
              all_goals go_ret2
              all_goals exact ⟨rfl, rfl⟩
            · have hv : V = (0, 4) := by rw [hV.out]; simp [plB]
              clear hV
              subst hv
              go_wp2_with fail
              all_goals go_ret2
              all_goals exact ⟨rfl, rfl⟩
      · have hs2 : 2 < s.size := by have := of_decide_eq_true hn2; omega
        obtain ⟨x1, hx1, hd1, ix1⟩ := sb_get s 1 (by omega)
        have hg1 : (sb s).getD 1 0 = (x1 : Int) := by
          have h1 : (sb s)[1]? = some (x1 : Int) := by rw [← List.head?_drop, hd1]; rfl
          rw [List.getD_eq_getElem?_getD, h1]; rfl
        have hV2 := hV.out
        rw [hg1] at hV2
        clear hV
        have hV := hV2
        clear hV2
        have ix1' : ∀ W : World, (Instr.index 9 (.string s) (.int .i64 1)).run Try.prog W = .ok (.int .u8 (x1 : Int)) W := ix1
        clear hd1 ix1 hg1 hx1
        have hs2I : (2 : Int) ≤ (s.size : Int) := by omega
        have h1I : (1 : Int) < (s.size : Int) := by omega
        generalize hb : ((x1 : Int) == 98) = b at *
        generalize hx : ((x1 : Int) == 120) = x at *
        replace hV := Lib.hid hV
        go_wp2_with fail
        refine Calls.mono (H3.out _) ?_
        rintro e w1 ⟨rfl, hw1⟩
        rw [hw1]
        clear hw1 w1
        clear H3
        go_wp2_with fail
        refine Calls.mono (H4.out _) ?_
        rintro e w1 ⟨rfl, hw1⟩
        rw [hw1]
        clear hw1 w1
        clear H4
        cases b
        · cases x
          · go_wp2_with fail
            refine Calls.mono (H5.out _) ?_
            rintro e w1 ⟨rfl, hw1⟩
            rw [hw1]
            clear hw1 w1
            clear H5
            cases whole
            · have hv : V = (0, 2) := by rw [hV.out]; simp [plB]
              clear hV
              subst hv
              go_wp2_with fail
              all_goals go_ret2
              all_goals exact ⟨rfl, rfl⟩
            · cases one
              · cases z
                · cases n13
                  · have hv : V = (4, 0) := by rw [hV.out]; simp [plB]
                    clear hV
                    subst hv
                    go_wp2_with fail
                    all_goals go_ret2
                    all_goals exact ⟨rfl, rfl⟩
                  · have hv : V = (0, 4) := by rw [hV.out]; simp [plB]
                    clear hV
                    subst hv
                    go_wp2_with fail
                    all_goals go_ret2
                    all_goals exact ⟨rfl, rfl⟩
                · have hv : V = (0, 2) := by rw [hV.out]; simp [plB]
                  clear hV
                  subst hv
                  go_wp2_with fail
                  all_goals go_ret2
                  all_goals exact ⟨rfl, rfl⟩
              · cases n13
                · have hv : V = (4, 0) := by rw [hV.out]; simp [plB]
                  clear hV
                  subst hv
                  go_wp2_with fail
                  all_goals go_ret2
                  all_goals exact ⟨rfl, rfl⟩
                · have hv : V = (0, 4) := by rw [hV.out]; simp [plB]
                  clear hV
                  subst hv
                  go_wp2_with fail
                  all_goals go_ret2
                  all_goals exact ⟨rfl, rfl⟩
          · cases hex
            · go_wp2_with fail
              refine Calls.mono (H5.out _) ?_
              rintro e w1 ⟨rfl, hw1⟩
              rw [hw1]
              clear hw1 w1
              clear H5
              cases whole
              · have hv : V = (0, 2) := by rw [hV.out]; simp [plB]
                clear hV
                subst hv
                go_wp2_with fail
                all_goals go_ret2
                all_goals exact ⟨rfl, rfl⟩
              · cases one
                · cases z
                  · cases n13
                    · have hv : V = (4, 0) := by rw [hV.out]; simp [plB]
                      clear hV
                      subst hv
                      go_wp2_with fail
                      all_goals go_ret2
                      all_goals exact ⟨rfl, rfl⟩
                    · have hv : V = (0, 4) := by rw [hV.out]; simp [plB]
                      clear hV
                      subst hv
                      go_wp2_with fail
                      all_goals go_ret2
                      all_goals exact ⟨rfl, rfl⟩
                  · have hv : V = (0, 2) := by rw [hV.out]; simp [plB]
                    clear hV
                    subst hv
                    go_wp2_with fail
                    all_goals go_ret2
                    all_goals exact ⟨rfl, rfl⟩
                · cases n13
                  · have hv : V = (4, 0) := by rw [hV.out]; simp [plB]
                    clear hV
                    subst hv
                    go_wp2_with fail
                    all_goals go_ret2
                    all_goals exact ⟨rfl, rfl⟩
                  · have hv : V = (0, 4) := by rw [hV.out]; simp [plB]
                    clear hV
                    subst hv
                    go_wp2_with fail
                    all_goals go_ret2
                    all_goals exact ⟨rfl, rfl⟩
            · cases n18
              · have hv : V = (3, 0) := by rw [hV.out]; simp [plB]
                clear hV
                subst hv
                go_wp2_with fail
                all_goals go_ret2
                all_goals exact ⟨rfl, rfl⟩
              · have hv : V = (0, 4) := by rw [hV.out]; simp [plB]
                clear hV
                subst hv
                go_wp2_with fail
                all_goals go_ret2
                all_goals exact ⟨rfl, rfl⟩
        · obtain rfl : x = false := by rw [← hx, beq_eq_false_iff_ne]; have := beq_iff_eq.1 hb; omega
          cases bin
          · go_wp2_with fail
            refine Calls.mono (H5.out _) ?_
            rintro e w1 ⟨rfl, hw1⟩
            rw [hw1]
            clear hw1 w1
            clear H5
            cases whole
            · have hv : V = (0, 2) := by rw [hV.out]; simp [plB]
              clear hV
              subst hv
              go_wp2_with fail
              all_goals go_ret2
              all_goals exact ⟨rfl, rfl⟩
            · cases one
              · cases z
                · cases n13
                  · have hv : V = (4, 0) := by rw [hV.out]; simp [plB]
                    clear hV
                    subst hv
                    go_wp2_with fail
                    all_goals go_ret2
                    all_goals exact ⟨rfl, rfl⟩
                  · have hv : V = (0, 4) := by rw [hV.out]; simp [plB]
                    clear hV
                    subst hv
                    go_wp2_with fail
                    all_goals go_ret2
                    all_goals exact ⟨rfl, rfl⟩
                · have hv : V = (0, 2) := by rw [hV.out]; simp [plB]
                  clear hV
                  subst hv
                  go_wp2_with fail
                  all_goals go_ret2
                  all_goals exact ⟨rfl, rfl⟩
              · cases n13
                · have hv : V = (4, 0) := by rw [hV.out]; simp [plB]
                  clear hV
                  subst hv
                  go_wp2_with fail
                  all_goals go_ret2
                  all_goals exact ⟨rfl, rfl⟩
                · have hv : V = (0, 4) := by rw [hV.out]; simp [plB]
                  clear hV
                  subst hv
                  go_wp2_with fail
                  all_goals go_ret2
                  all_goals exact ⟨rfl, rfl⟩
          · cases n66
            · have hv : V = (3, 0) := by rw [hV.out]; simp [plB]
              clear hV
              subst hv
              go_wp2_with fail
              all_goals go_ret2
              all_goals exact ⟨rfl, rfl⟩
            · have hv : V = (0, 4) := by rw [hV.out]; simp [plB]
              clear hV
              subst hv
              go_wp2_with fail
              all_goals go_ret2
              all_goals exact ⟨rfl, rfl⟩
  · cases first
    · cases l2
      · go_wp2_with fail
        refine Calls.mono (H5.out _) ?_
        rintro e w1 ⟨rfl, hw1⟩
        rw [hw1]
        clear hw1 w1
        clear H5
        cases whole
        · have hv : V = (0, 2) := by rw [hV.out]; simp [plB]
          clear hV
          subst hv
          go_wp2_with fail
          all_goals go_ret2
          all_goals exact ⟨rfl, rfl⟩
        · cases one
          · cases z
            · cases n13
              · have hv : V = (4, 0) := by rw [hV.out]; simp [plB]
                clear hV
                subst hv
                go_wp2_with fail
                all_goals go_ret2
                all_goals exact ⟨rfl, rfl⟩
              · have hv : V = (0, 4) := by rw [hV.out]; simp [plB]
                clear hV
                subst hv
                go_wp2_with fail
                all_goals go_ret2
                all_goals exact ⟨rfl, rfl⟩
            · have hv : V = (0, 2) := by rw [hV.out]; simp [plB]
              clear hV
              subst hv
              go_wp2_with fail
              all_goals go_ret2
              all_goals exact ⟨rfl, rfl⟩
          · cases n13
            · have hv : V = (4, 0) := by rw [hV.out]; simp [plB]
              clear hV
              subst hv
              go_wp2_with fail
              all_goals go_ret2
              all_goals exact ⟨rfl, rfl⟩
            · have hv : V = (0, 4) := by rw [hV.out]; simp [plB]
              clear hV
              subst hv
              go_wp2_with fail
              all_goals go_ret2
              all_goals exact ⟨rfl, rfl⟩
      · cases a
        · go_wp2_with fail
          refine Calls.mono (H5.out _) ?_
          rintro e w1 ⟨rfl, hw1⟩
          rw [hw1]
          clear hw1 w1
          clear H5
          cases whole
          · have hv : V = (0, 2) := by rw [hV.out]; simp [plB]
            clear hV
            subst hv
            go_wp2_with fail
            all_goals go_ret2
            all_goals exact ⟨rfl, rfl⟩
          · cases one
            · cases z
              · cases n13
                · have hv : V = (4, 0) := by rw [hV.out]; simp [plB]
                  clear hV
                  subst hv
                  go_wp2_with fail
                  all_goals go_ret2
                  all_goals exact ⟨rfl, rfl⟩
                · have hv : V = (0, 4) := by rw [hV.out]; simp [plB]
                  clear hV
                  subst hv
                  go_wp2_with fail
                  all_goals go_ret2
                  all_goals exact ⟨rfl, rfl⟩
              · have hv : V = (0, 2) := by rw [hV.out]; simp [plB]
                clear hV
                subst hv
                go_wp2_with fail
                all_goals go_ret2
                all_goals exact ⟨rfl, rfl⟩
            · cases n13
              · have hv : V = (4, 0) := by rw [hV.out]; simp [plB]
                clear hV
                subst hv
                go_wp2_with fail
                all_goals go_ret2
                all_goals exact ⟨rfl, rfl⟩
              · have hv : V = (0, 4) := by rw [hV.out]; simp [plB]
                clear hV
                subst hv
                go_wp2_with fail
                all_goals go_ret2
                all_goals exact ⟨rfl, rfl⟩
        · have hs2 : 2 < s.size := by have := of_decide_eq_true hn2; omega
          obtain ⟨x1, hx1, hd1, ix1⟩ := sb_get s 1 (by omega)
          have hg1 : (sb s).getD 1 0 = (x1 : Int) := by
            have h1 : (sb s)[1]? = some (x1 : Int) := by rw [← List.head?_drop, hd1]; rfl
            rw [List.getD_eq_getElem?_getD, h1]; rfl
          have hV2 := hV.out
          rw [hg1] at hV2
          clear hV
          have hV := hV2
          clear hV2
          have ix1' : ∀ W : World, (Instr.index 9 (.string s) (.int .i64 1)).run Try.prog W = .ok (.int .u8 (x1 : Int)) W := ix1
          clear hd1 ix1 hg1 hx1
          have hs2I : (2 : Int) ≤ (s.size : Int) := by omega
          have h1I : (1 : Int) < (s.size : Int) := by omega
          generalize hb : ((x1 : Int) == 98) = b at *
          generalize hx : ((x1 : Int) == 120) = x at *
          replace hV := Lib.hid hV
          go_wp2_with fail
          refine Calls.mono (H3.out _) ?_
          rintro e w1 ⟨rfl, hw1⟩
          rw [hw1]
          clear hw1 w1
          clear H3
          go_wp2_with fail
          refine Calls.mono (H4.out _) ?_
          rintro e w1 ⟨rfl, hw1⟩
          rw [hw1]
          clear hw1 w1
          clear H4
          cases b
          · cases x
            · go_wp2_with fail
              refine Calls.mono (H5.out _) ?_
              rintro e w1 ⟨rfl, hw1⟩
              rw [hw1]
              clear hw1 w1
              clear H5
              cases whole
              · have hv : V = (0, 2) := by rw [hV.out]; simp [plB]
                clear hV
                subst hv
                go_wp2_with fail
                all_goals go_ret2
                all_goals exact ⟨rfl, rfl⟩
              · cases one
                · cases z
                  · cases n13
                    · have hv : V = (4, 0) := by rw [hV.out]; simp [plB]
                      clear hV
                      subst hv
                      go_wp2_with fail
                      all_goals go_ret2
                      all_goals exact ⟨rfl, rfl⟩
                    · have hv : V = (0, 4) := by rw [hV.out]; simp [plB]
                      clear hV
                      subst hv
                      go_wp2_with fail
                      all_goals go_ret2
                      all_goals exact ⟨rfl, rfl⟩
                  · have hv : V = (0, 2) := by rw [hV.out]; simp [plB]
                    clear hV
                    subst hv
                    go_wp2_with fail
                    all_goals go_ret2
                    all_goals exact ⟨rfl, rfl⟩
                · cases n13
                  · have hv : V = (4, 0) := by rw [hV.out]; simp [plB]
                    clear hV
                    subst hv
                    go_wp2_with fail
                    all_goals go_ret2
                    all_goals exact ⟨rfl, rfl⟩
                  · have hv : V = (0, 4) := by rw [hV.out]; simp [plB]
                    clear hV
                    subst hv
                    go_wp2_with fail
                    all_goals go_ret2
                    all_goals exact ⟨rfl, rfl⟩
            · cases hex
              · go_wp2_with fail
                refine Calls.mono (H5.out _) ?_
                rintro e w1 ⟨rfl, hw1⟩
                rw [hw1]
                clear hw1 w1
                clear H5
                cases whole
                · have hv : V = (0, 2) := by rw [hV.out]; simp [plB]
                  clear hV
                  subst hv
                  go_wp2_with fail
                  all_goals go_ret2
                  all_goals exact ⟨rfl, rfl⟩
                · cases one
                  · cases z
                    · cases n13
                      · have hv : V = (4, 0) := by rw [hV.out]; simp [plB]
                        clear hV
                        subst hv
                        go_wp2_with fail
                        all_goals go_ret2
                        all_goals exact ⟨rfl, rfl⟩
                      · have hv : V = (0, 4) := by rw [hV.out]; simp [plB]
                        clear hV
                        subst hv
                        go_wp2_with fail
                        all_goals go_ret2
                        all_goals exact ⟨rfl, rfl⟩
                    · have hv : V = (0, 2) := by rw [hV.out]; simp [plB]
                      clear hV
                      subst hv
                      go_wp2_with fail
                      all_goals go_ret2
                      all_goals exact ⟨rfl, rfl⟩
                  · cases n13
                    · have hv : V = (4, 0) := by rw [hV.out]; simp [plB]
                      clear hV
                      subst hv
                      go_wp2_with fail
                      all_goals go_ret2
                      all_goals exact ⟨rfl, rfl⟩
                    · have hv : V = (0, 4) := by rw [hV.out]; simp [plB]
                      clear hV
                      subst hv
                      go_wp2_with fail
                      all_goals go_ret2
                      all_goals exact ⟨rfl, rfl⟩
              · cases n18
                · have hv : V = (3, 0) := by rw [hV.out]; simp [plB]
                  clear hV
                  subst hv
                  go_wp2_with fail
                  all_goals go_ret2
                  all_goals exact ⟨rfl, rfl⟩
                · have hv : V = (0, 4) := by rw [hV.out]; simp [plB]
                  clear hV
                  subst hv
                  go_wp2_with fail
                  all_goals go_ret2
                  all_goals exact ⟨rfl, rfl⟩
          · obtain rfl : x = false := by rw [← hx, beq_eq_false_iff_ne]; have := beq_iff_eq.1 hb; omega
            cases bin
            · go_wp2_with fail
              refine Calls.mono (H5.out _) ?_
              rintro e w1 ⟨rfl, hw1⟩
              rw [hw1]
              clear hw1 w1
              clear H5
              cases whole
              · have hv : V = (0, 2) := by rw [hV.out]; simp [plB]
                clear hV
                subst hv
                go_wp2_with fail
                all_goals go_ret2
                all_goals exact ⟨rfl, rfl⟩
              · cases one
                · cases z
                  · cases n13
                    · have hv : V = (4, 0) := by rw [hV.out]; simp [plB]
                      clear hV
                      subst hv
                      go_wp2_with fail
                      all_goals go_ret2
                      all_goals exact ⟨rfl, rfl⟩
                    · have hv : V = (0, 4) := by rw [hV.out]; simp [plB]
                      clear hV
                      subst hv
                      go_wp2_with fail
                      all_goals go_ret2
                      all_goals exact ⟨rfl, rfl⟩
                  · have hv : V = (0, 2) := by rw [hV.out]; simp [plB]
                    clear hV
                    subst hv
                    go_wp2_with fail
                    all_goals go_ret2
                    all_goals exact ⟨rfl, rfl⟩
                · cases n13
                  · have hv : V = (4, 0) := by rw [hV.out]; simp [plB]
                    clear hV
                    subst hv
                    go_wp2_with fail
                    all_goals go_ret2
                    all_goals exact ⟨rfl, rfl⟩
                  · have hv : V = (0, 4) := by rw [hV.out]; simp [plB]
                    clear hV
                    subst hv
                    go_wp2_with fail
                    all_goals go_ret2
                    all_goals exact ⟨rfl, rfl⟩
            · cases n66
              · have hv : V = (3, 0) := by rw [hV.out]; simp [plB]
                clear hV
                subst hv
                go_wp2_with fail
                all_goals go_ret2
                all_goals exact ⟨rfl, rfl⟩
              · have hv : V = (0, 4) := by rw [hV.out]; simp [plB]
                clear hV
                subst hv
                go_wp2_with fail
                all_goals go_ret2
                all_goals exact ⟨rfl, rfl⟩
    · cases n16
      · have hv : V = (2, 0) := by rw [hV.out]; simp [plB]
        clear hV
        subst hv
        go_wp2_with fail
        all_goals go_ret2
        all_goals exact ⟨rfl, rfl⟩
      · have hv : V = (0, 6) := by rw [hV.out]; simp [plB]
        clear hV
        subst hv
        go_wp2_with fail
        all_goals go_ret2
        all_goals exact ⟨rfl, rfl⟩
end Go.Proofs.Ytpeeekgfcofbkaa
