/-
  WHAT THE ROWS' LISTED VARIABLES GIVE THE WALKS: the words of the kinds lie in block 0.
-/
import Derived.Test.YtnjkihbmhacgoaaGreatDoorRows
import Derived.Test.YtnjkihbmhacgoaaGreatDoorRxPar
import Derived.ProofKit
import Derived.OpenShut
import Derived.LaidMore
import Derived.Lay
namespace Go.Proofs.YtnjkihbmhacgoaaGreatDoor
open Go.RowKit Go.ChangeAt Go.WideShapes

theorem words_cell {cs : List Value} {b : Value} {j : Nat} (h : (cs.drop j).take 1 = [b]) : cs[j]? = some b := by
  have h0 : ((cs.drop j).take 1)[0]? = some b := by rw [h]; rfl
  simpa using h0
set_option maxRecDepth 100000 in
theorem gw_of_laid {W : World} (h : laidMetH Tryz.prog [("unicode/utf8.acceptRanges", Rows.laid_unicode_utf8_acceptRanges), ("enthymeme/regex.words", Rows.laid_enthymeme_regex_words), ("unicode/utf8.first", Rows.laid_unicode_utf8_first)] W) : GW W := by
  rw [MakeChecks.laidMetH_plain _ _ _ (by kernel_rfl)] at h
  obtain ⟨ps, ⟨g0, t0, cs0, f0, p0, q0, hg0, ht0, hv0, hd0, ⟨g, t, cs, fuel, p, q, hg, ht, hv, hd, _, _⟩, _⟩, _, _⟩ := h
  obtain rfl := Option.some.inj ((show Tryz.prog.globalNamed "enthymeme/regex.words" = some 0 by kernel_rfl).symm.trans hg)
  obtain rfl := Option.some.inj ((show (Tryz.prog.globals[0]?).map (·.type) = some 159 by kernel_rfl).symm.trans ht)
  obtain ⟨xs, m, _, ex, _, hl, hel⟩ := DataW.trod_array Tryz.underlying159 hd
  have c1 : Tryz.prog.cellsOf 9 = 1 := by kernel_rfl
  have e3 : (xs.map (·.1)) = words8.map (fun s => (DataW.lit (.string s.data.toList) : DataW Unit)) := (DataW.agg.inj (Prod.mk.inj ex).1).symm
  have hc : ∀ i v, words8[i]? = some v → W.cell? ⟨0, i, none⟩ = some (.string v) := by
    intro i v hi
    have hi8 : i < 8 := by
      have := (List.getElem?_eq_some_iff.1 hi).1
      simpa [words8] using this
    have hE := hel i hi8
    rw [c1, Nat.mul_one, List.getElem?_eq_getElem (by omega)] at hE
    obtain ⟨s, e1, e2, _⟩ := DataW.trod_string Tryz.underlying9 hE
    have e4 : (xs.map (·.1))[i]? = (words8.map (fun s => (DataW.lit (.string s.data.toList) : DataW Unit)))[i]? := by rw [e3]
    rw [List.getElem?_map, List.getElem?_map, List.getElem?_eq_getElem (by omega : i < xs.length), hi, e2] at e4
    simp only [Option.map_some, Option.some.injEq, DataW.lit.injEq, Lit.string.injEq] at e4
    have es : s = v := by
      have : s.data = v.data := Array.toList_inj.1 e4
      cases s; cases v; simpa using this
    subst es
    rw [World.var?_cell hg hv i]
    have := words_cell e1
    simpa using this
  refine ⟨?_, hc⟩
  have h0 := hc 0 _ rfl
  by_cases hz : 0 < W.heap.size
  · exact hz
  · have hn : W.heap[0]? = none := Array.getElem?_eq_none (by omega)
    simp [World.cell?, hn] at h0
end Go.Proofs.YtnjkihbmhacgoaaGreatDoor
