/-
  THE WALK of the program's Tokens.
-/
import Derived.Test.YtpeeekgfcofbkaaLxIter
import Derived.RegionIn
namespace Go.Proofs.Ytpeeekgfcofbkaa
open Go.RowKit Go.Shelf
attribute [local go_sem] Oper.semAt_some

theorem info_Token : (Try.prog.info? 43).map (fun i => (i.zero, i.size, i.bytes)) = some (some (.agg #[.int .i64 0, .string ⟨#[]⟩, .int .i64 0]), 3, 32) := by kernel_rfl
theorem lx_info {t : TypeId} {z : Value} {s b : Nat} (h : (Try.prog.info? t).map (fun i => (i.zero, i.size, i.bytes)) = some (some z, s, b)) : ∃ i, Try.prog.info? t = some i ∧ i.zero = some z ∧ i.size = s ∧ i.bytes = b := by
  cases hi : Try.prog.info? t with
  | none => rw [hi] at h; cases h
  | some i =>
    rw [hi] at h
    simp only [Option.map_some, Option.some.injEq, Prod.mk.injEq] at h
    exact ⟨i, rfl, h.1, h.2.1, h.2.2⟩
def tkCells (l : List (Tk × Int)) : List Value := (l.map Prod.fst).flatMap Tk.cells
theorem tk_snoc (l : List (Tk × Int)) (x : Tk × Int) : tkCells (l ++ [x]) = tkCells l ++ x.1.cells := by
  unfold tkCells
  rw [List.map_append, List.flatMap_append]
  simp
/-- what Tokens hands back -/
def TokPost (S : ByteArray) (w : World) (e : Ending) (w' : World) : Prop := ∃ pre x, yl (S.size + 1) (sb S) 0 = pre ++ [x] ∧ Below w.heap.size w w' ∧
  ((x.2 = 0 ∧ ∃ A c, e = .returned (.tuple #[.slice A (pre.length + 1) c, .int .i64 0, .int .i64 0]) ∧ w'.ownsRow w.heap.size 43 3 (.slice A (pre.length + 1) c) (pre.length + 1) (tkCells (pre ++ [x]))) ∨
   (x.2 ≠ 0 ∧ e = .returned (.tuple #[.slice none 0 0, .int .i64 (x.1.p : Nat), .int .i64 x.2])))
/-- a block of one cell -/
def One (W : World) (b : Nat) (t : TypeId) (v : Value) : Prop := W.heap[b]? = some (.cells #[v] t (0, 0))
theorem One.to {W W' : World} {b : Nat} {t : TypeId} {v : Value} (h : One W b t v) (e : W'.heap[b]? = W.heap[b]?) : One W' b t v := e.trans h
/-- between two rounds: the list so far, the results' cells, the blocks before -/
def TkV (w : World) (pre : List (Tk × Int)) (v : Value) (W : World) : Prop :=
  (One W (w.heap.size + 3) 28 v ∧ W.ownsRow (w.heap.size + 9) 43 3 v pre.length (tkCells pre)) ∧ (One W w.heap.size 28 (.slice none 0 0) ∧ One W (w.heap.size + 1) 3 (.int .i64 0) ∧ One W (w.heap.size + 2) 29 (.int .i64 0)) ∧ Below w.heap.size w W
def TkI (w : World) (pre : List (Tk × Int)) (W : World) : Prop := ∃ v, TkV w pre v W
/-- behind the round that met an error -/
def TkX (w : World) (pre : List (Tk × Int)) (W : World) : Prop := ∃ l x, pre = l ++ [x] ∧ (One W w.heap.size 28 (.slice none 0 0) ∧ One W (w.heap.size + 1) 3 (.int .i64 (x.1.p : Nat)) ∧ One W (w.heap.size + 2) 29 (.int .i64 x.2)) ∧ Below w.heap.size w W
theorem TkV.keep {w W W' : World} {pre : List (Tk × Int)} {v : Value} (h : TkV w pre v W) (hb : Below w.heap.size W W') (hk : ∀ j, j < w.heap.size + 4 ∨ w.heap.size + 9 ≤ j → j < W.heap.size → W'.heap[j]? = W.heap[j]?) : TkV w pre v W' := by
  obtain ⟨⟨h1, h2⟩, ⟨h3, h4, h5⟩, h6⟩ := h
  have lt : ∀ {b t v}, One W b t v → b < W.heap.size := fun h => (Array.getElem?_eq_some_iff.1 h).1
  refine ⟨⟨h1.to (hk _ (.inl (by omega)) (lt h1)), ?_⟩, ⟨h3.to (hk _ (.inl (by omega)) (lt h3)), h4.to (hk _ (.inl (by omega)) (lt h4)), h5.to (hk _ (.inl (by omega)) (lt h5))⟩, h6.trans hb⟩
  refine ⟨h2.1, ?_⟩
  rcases h2.2 with h0 | ⟨g, cap, cur, hv, hbg, hg, hr⟩
  · exact .inl h0
  · exact .inr ⟨g, cap, cur, hv, hbg, (hk g (.inr hbg) (Array.getElem?_eq_some_iff.1 hg).1).trans hg, hr⟩
theorem TkI.keep {w W W' : World} {pre : List (Tk × Int)} (h : TkI w pre W) (hb : Below w.heap.size W W') (hk : ∀ j, j < w.heap.size + 4 ∨ w.heap.size + 9 ≤ j → j < W.heap.size → W'.heap[j]? = W.heap[j]?) : TkI w pre W' := by
  obtain ⟨v, h⟩ := h
  exact ⟨v, h.keep hb hk⟩
theorem tk_new (W : World) (k : Int) (s : ByteArray) (p : Int) : ∀ j u, ([Value.int .i64 k, .string s, .int .i64 p] : List Value)[j]? = some u → (W.alloc (.cells #[.int .i64 k, .string s, .int .i64 p] 43)).cell? ((⟨W.heap.size, 0, none⟩ : Addr).add j) = some u := fun j u hj => by
  have hadd : (⟨W.heap.size, 0, none⟩ : Addr).add j = ⟨W.heap.size, 0 + j, none⟩ := by unfold Addr.add; split <;> simp_all
  rw [hadd, Nat.zero_add, cell_of_row _ _ _ _ _ _ (heap_alloc_new W _)]
  simpa using hj
set_option maxRecDepth 100000 in
set_option maxHeartbeats 8000000 in
theorem Tokens_any (S : ByteArray) (w : World) (hs : S.size ≤ 65536) : Calls Try.prog 13 #[.string S] w fun e w' => TokPost S w e w' := by
  obtain ⟨i0, ii, ia, ib, ic⟩ := lx_info info_Token
  have hT := Lib.hid (fun W => tokens_clo S W)
  have hsz1 : ¬ (65536 : Int) < (S.size : Int) := by omega
  have B5 : Below w.heap.size w (((((w.alloc (.cells #[.slice none 0 0] 28)).alloc (.cells #[.int .i64 0] 3)).alloc (.cells #[.int .i64 0] 29)).alloc (.cells #[.slice none 0 0] 28)).alloc (.cells #[.string S] 9)) := ((((((Below.refl _ _).alloc (Nat.le_refl _) _).alloc (by simp) _).alloc (by simp <;> omega) _).alloc (by simp <;> omega) _).alloc (by simp <;> omega) _)
  have Z5 : (((((w.alloc (.cells #[.slice none 0 0] 28)).alloc (.cells #[.int .i64 0] 3)).alloc (.cells #[.int .i64 0] 29)).alloc (.cells #[.slice none 0 0] 28)).alloc (.cells #[.string S] 9)).heap.size = w.heap.size + 5 := by simp
  have K4 : One (((((w.alloc (.cells #[.slice none 0 0] 28)).alloc (.cells #[.int .i64 0] 3)).alloc (.cells #[.int .i64 0] 29)).alloc (.cells #[.slice none 0 0] 28)).alloc (.cells #[.string S] 9)) (w.heap.size + 4) 9 (.string S) := heap_alloc_new_at _ _ (by simp)
  have K3 : One (((((w.alloc (.cells #[.slice none 0 0] 28)).alloc (.cells #[.int .i64 0] 3)).alloc (.cells #[.int .i64 0] 29)).alloc (.cells #[.slice none 0 0] 28)).alloc (.cells #[.string S] 9)) (w.heap.size + 3) 28 (.slice none 0 0) := (heap_alloc_old _ _ _ (by simp)).trans (heap_alloc_new_at _ _ (by simp))
  have K2 : One (((((w.alloc (.cells #[.slice none 0 0] 28)).alloc (.cells #[.int .i64 0] 3)).alloc (.cells #[.int .i64 0] 29)).alloc (.cells #[.slice none 0 0] 28)).alloc (.cells #[.string S] 9)) (w.heap.size + 2) 29 (.int .i64 0) := (heap_alloc_old _ _ _ (by simp <;> omega)).trans ((heap_alloc_old _ _ _ (by simp)).trans (heap_alloc_new_at _ _ (by simp)))
  have K1 : One (((((w.alloc (.cells #[.slice none 0 0] 28)).alloc (.cells #[.int .i64 0] 3)).alloc (.cells #[.int .i64 0] 29)).alloc (.cells #[.slice none 0 0] 28)).alloc (.cells #[.string S] 9)) (w.heap.size + 1) 3 (.int .i64 0) := (heap_alloc_old _ _ _ (by simp <;> omega)).trans ((heap_alloc_old _ _ _ (by simp <;> omega)).trans ((heap_alloc_old _ _ _ (by simp)).trans (heap_alloc_new_at _ _ (by simp))))
  have K0 : One (((((w.alloc (.cells #[.slice none 0 0] 28)).alloc (.cells #[.int .i64 0] 3)).alloc (.cells #[.int .i64 0] 29)).alloc (.cells #[.slice none 0 0] 28)).alloc (.cells #[.string S] 9)) w.heap.size 28 (.slice none 0 0) := (heap_alloc_old _ _ _ (by simp <;> omega)).trans ((heap_alloc_old _ _ _ (by simp <;> omega)).trans ((heap_alloc_old _ _ _ (by simp <;> omega)).trans ((heap_alloc_old _ _ _ (by simp)).trans (heap_alloc_new w _))))
  replace B5 := Lib.hid B5
  replace K0 := Lib.hid K0
  replace K1 := Lib.hid K1
  replace K2 := Lib.hid K2
  replace K3 := Lib.hid K3
  replace K4 := Lib.hid K4
  refine (callsIn_wide (n := 3)).1 ?_
  refine callsIn_of_wp_marks Try.func13 rfl trivial ?_ rfl
  simp only [Try.ntmps13, List.size_toArray, List.length_cons, List.length_nil, Nat.reduceAdd, Nat.reduceSub, Array.replicate_succ, Array.replicate_zero, List.push_toArray, List.append_toArray, List.nil_append, List.cons_append]
  gi_wp2_with (refine ⟨trivial, ?_⟩; gi_at_call 30; refine (callsIn_wide.2 (hT.out _)).mono ?_; rintro e w1 ⟨rfl, hw1⟩; rw [hw1]; clear hw1)
  generalize (((((w.alloc (.cells #[.slice none 0 0] 28)).alloc (.cells #[.int .i64 0] 3)).alloc (.cells #[.int .i64 0] 29)).alloc (.cells #[.slice none 0 0] 28)).alloc (.cells #[.string S] 9)) = W5 at *
  refine rangeTok (w.heap.size + 1 + 1 + 1 + 1) S (by omega) rfl rfl K4.out (TkI w) (TkX w) ?h0 ?hIp ?hIxp (fun x W a' W' => W'.heap[W.heap.size]? = some (.cells #[.int .i64 x.1.k, .string (strOfNums x.1.t), .int .i64 (x.1.p : Nat)] 43 (0, 0)) ∧ a' = { tmps := #[.string S, undef, .pointer (some ⟨w.heap.size, 0, none⟩), .pointer (some ⟨w.heap.size + 1, 0, none⟩), .pointer (some ⟨w.heap.size + 1 + 1, 0, none⟩), .pointer (some ⟨w.heap.size + 1 + 1 + 1, 0, none⟩), .pointer (some ⟨W.heap.size, 0, none⟩), .int .i64 x.2, .string S, .int .i64 (S.size : Int), .bool false, .string S, .func (.func 43) #[] #[.pointer (some ⟨w.heap.size + 1 + 1 + 1 + 1, 0, none⟩)], x.1.val, .int .i64 x.2, undef, undef, undef, undef, undef, undef, undef, undef, undef, undef], defers := [] }) ?assign ?body ?done ?stop
  case h0 =>
    intro o1 o2
    have hB2 : Below W5.heap.size W5 ((W5.alloc o1).alloc o2) := ((Below.refl _ _).alloc (Nat.le_refl _) _).alloc (by simp) _
    refine TkI.keep (W := W5) ⟨_, ⟨K3.out, World.ownsRow_nil _ _ _ _⟩, ⟨K0.out, K1.out, K2.out⟩, B5.out⟩ (hB2.mono (by omega)) (fun j _ hj => hB2.block j hj)
  case hIp =>
    intro s W o hI hlt
    have hk : ∀ j, j ≠ W5.heap.size + 1 → (W.putObj (W5.heap.size + 1) o).heap[j]? = W.heap[j]? := fun j hj => World.putObj_heap_other hj
    exact hI.keep ⟨rfl, rfl, rfl, by simp [World.putObj], fun j hj => hk j (by omega)⟩ (fun j hj _ => hk j (by omega))
  case hIxp =>
    rintro s W o ⟨l, x, e, ⟨h1, h2, h3⟩, h4⟩ hlt
    have hk : ∀ j, j ≠ W5.heap.size + 1 → (W.putObj (W5.heap.size + 1) o).heap[j]? = W.heap[j]? := fun j hj => World.putObj_heap_other hj
    exact ⟨l, x, e, ⟨h1.to (hk _ (by omega)), h2.to (hk _ (by omega)), h3.to (hk _ (by omega))⟩, h4.trans ⟨rfl, rfl, rfl, by simp [World.putObj], fun j hj => hk j (by omega)⟩⟩
  case assign =>
    rintro ⟨⟨k, tt, p⟩, er⟩ W K hK
    simp only [Tk.val]
    gi_wp2
    exact hK _ _ ((Below.refl _ _).alloc (Nat.le_refl _) _) ⟨heap_alloc_new W _, rfl⟩
  case body =>
    rintro pre ⟨⟨k, tt, p⟩, er⟩ W0 W1 Wa a' o hI hpl hz0 hg hz1 hba ⟨hq, rfl⟩
    obtain ⟨v, hI⟩ := hI
    have hrow0 := hI.1.2
    have hI1 : TkV w pre v W1 := hI.keep ⟨hg.1, hg.2, hg.3, hg.4, fun j hj => hg.block j (by omega) (fun e => by injection e; omega)⟩ (fun j hj hl => hg.block j hl (fun e => by injection e; omega))
    have hza := hba.size
    have hk : ∀ j, j ≠ W5.heap.size + 1 → (Wa.putObj (W5.heap.size + 1) o).heap[j]? = Wa.heap[j]? := fun j hj => World.putObj_heap_other hj
    have hI2 : TkV w pre v (Wa.putObj (W5.heap.size + 1) o) := (hI1.keep (hba.mono (by omega)) (fun j _ hl => hba.block j hl)).keep ⟨rfl, rfl, rfl, by simp [World.putObj], fun j hj => hk j (by omega)⟩ (fun j hj _ => hk j (by omega))
    have hq2 : (Wa.putObj (W5.heap.size + 1) o).heap[W1.heap.size]? = _ := (hk _ (by omega)).trans hq
    have hz2 : (Wa.putObj (W5.heap.size + 1) o).heap.size = Wa.heap.size := by simp [World.putObj]
    have hrb : ∀ j, v.ownBlock = some j → w.heap.size + 9 ≤ j ∧ j < W0.heap.size := fun j hj => by
      rcases hrow0.2 with ⟨hv, _⟩ | ⟨g, cap, cur, hv, hbg, hgg, hr⟩
      · subst hv; simp [Value.ownBlock] at hj
      · subst hv
        obtain rfl : g = j := by simpa [Value.ownBlock] using hj
        exact ⟨hbg, (Array.getElem?_eq_some_iff.1 hgg).1⟩
    have hgs := hg.size
    clear hk hI1 hrow0 hba hq hI
    generalize (Wa.putObj (W5.heap.size + 1) o) = W2 at *
    obtain ⟨⟨hv, hrow⟩, ⟨h0, h1, h2⟩, hB⟩ := hI2
    obtain ⟨cv, fv⟩ := one_at hv
    obtain ⟨⟨p0, p1, p2⟩, hf⟩ := three_at3 hq2
    have cv' : W2.cell? ⟨w.heap.size + 1 + 1 + 1, 0, none⟩ = some v := cv
    clear cv fv
    replace hq2 := Lib.hid hq2
    have hw9 : w.heap.size + 9 ≤ W2.heap.size := by omega
    have hw0 : W0.heap.size ≤ W2.heap.size := by omega
    have hw1 : W1.heap.size ≤ W2.heap.size := by omega
    have HZ := Lib.hid (And.intro hz2 (And.intro Z5 (And.intro hza (And.intro hgs (And.intro hz0 hz1)))))
    clear hz2 Z5 hza hgs hz0 hz1
    by_cases he : er = 0
    · subst he
      replace hv := Lib.hid hv
      replace h0 := Lib.hid h0
      replace h1 := Lib.hid h1
      replace h2 := Lib.hid h2
      replace hrow := Lib.hid hrow
      have hBs := hB.size
      gi_wp2_with (gi_at_builtin; refine wpListIn_append_own _ rfl _ _ 28 rfl (w.heap.size + 9) 43 i0 (.agg #[.int .i64 0, .string ⟨#[]⟩, .int .i64 0]) 3 32 Try.underlying28 ii ia ib ic rfl (by decide) _ _ _ rfl (hrow.out.alloc _) ⟨W2.heap.size, 0, none⟩ 1 1 [.int .i64 k, .string (strOfNums tt), .int .i64 (p : Nat)] rfl rfl (tk_new _ _ _ _) (by intro u hu; simp only [List.mem_cons, List.not_mem_nil, or_false] at hu; rcases hu with rfl | rfl | rfl <;> rfl) (by unfold maxLen; omega) (by omega) (by simp <;> omega) ?_; intro v' w4 hown' hgrow _; obtain ⟨g', cap', rfl⟩ := ownsRow_succ hown'; have hv4 : One w4 (w.heap.size + 3) 28 v := hv.out.to ((hgrow.block _ (by simp <;> omega) (fun e => by have := hrb _ e.symm; omega)).trans (Below.heap_alloc W2 _ _ (by omega))); obtain ⟨c4, f4⟩ := one_at hv4; have c4' : w4.cell? ⟨w.heap.size + 1 + 1 + 1, 0, none⟩ = some v := c4; have f4' : ∀ i, w4.frozen? ⟨w.heap.size + 1 + 1 + 1, i, none⟩ = false := f4; clear c4 f4; replace hv4 := Lib.hid hv4; replace hown' := Lib.hid hown'; replace hgrow := Lib.hid hgrow)
      have hsz4 : W2.heap.size ≤ w4.heap.size := by have h1 := hgrow.out.size; simp at h1; omega
      have hm : ∀ j, j ≠ w.heap.size + 3 → j < W2.heap.size → v.ownBlock ≠ some j → (w4.setCell ⟨w.heap.size + 1 + 1 + 1, 0, none⟩ (.slice (some ⟨g', 0, none⟩) (pre.length + 1) cap')).heap[j]? = W2.heap[j]? := fun j h1 h2 h3 => (Below.heap_setCell w4 ⟨w.heap.size + 1 + 1 + 1, 0, none⟩ _ j h1).trans ((hgrow.out.block j (by simp <;> omega) (fun e => h3 e.symm)).trans (Below.heap_alloc W2 _ j h2))
      obtain ⟨z1, z2, z3, z4, z5, z6⟩ := HZ.out
      have hgr2 : (W2.alloc (.cells #[.int .i64 k, .string (strOfNums tt), .int .i64 (p : Nat)] 43)).grownBy w4 v.ownBlock := hgrow.out
      have hBn : Below w.heap.size w (w4.setCell ⟨w.heap.size + 1 + 1 + 1, 0, none⟩ (.slice (some ⟨g', 0, none⟩) (pre.length + 1) cap')) := (((hB.alloc hB.size (.cells #[.int .i64 k, .string (strOfNums tt), .int .i64 (p : Nat)] 43)).grown hgr2 (by simp <;> omega) (fun j ej => by have := hrb j ej; omega))).setCell (p := ⟨w.heap.size + 1 + 1 + 1, 0, none⟩) (by show w.heap.size ≤ w.heap.size + 1 + 1 + 1; omega) _
      have hr5 : w4.ownsRow (w.heap.size + 9) 43 3 (.slice (some ⟨g', 0, none⟩) (pre.length + 1) cap') (pre ++ [((⟨k, tt, p⟩ : Tk), (0 : Int))]).length (tkCells (pre ++ [((⟨k, tt, p⟩ : Tk), (0 : Int))])) := by
        rw [tk_snoc, List.length_append]
        exact hown'.out
      have hr6 : (w4.setCell ⟨w.heap.size + 1 + 1 + 1, 0, none⟩ (.slice (some ⟨g', 0, none⟩) (pre.length + 1) cap')).ownsRow (w.heap.size + 9) 43 3 (.slice (some ⟨g', 0, none⟩) (pre.length + 1) cap') (pre ++ [((⟨k, tt, p⟩ : Tk), (0 : Int))]).length (tkCells (pre ++ [((⟨k, tt, p⟩ : Tk), (0 : Int))])) := by
        refine ⟨hr5.1, ?_⟩
        rcases hr5.2 with hq | ⟨g, cap, cur, e1, e2, e3, e4⟩
        · exact .inl hq
        · exact .inr ⟨g, cap, cur, e1, e2, (Below.heap_setCell w4 ⟨w.heap.size + 1 + 1 + 1, 0, none⟩ _ g (by show g ≠ w.heap.size + 1 + 1 + 1; omega)).trans e3, e4⟩
      have hnb : ∀ j, j < w.heap.size + 9 ∨ W0.heap.size ≤ j → v.ownBlock ≠ some j := fun j hj e => by have := hrb _ e; omega
      have HI : TkI w (pre ++ [((⟨k, tt, p⟩ : Tk), (0 : Int))]) (w4.setCell ⟨w.heap.size + 1 + 1 + 1, 0, none⟩ (.slice (some ⟨g', 0, none⟩) (pre.length + 1) cap')) := ⟨.slice (some ⟨g', 0, none⟩) (pre.length + 1) cap', ⟨⟨(blk_set hv4.out _).trans rfl, hr6⟩, ⟨h0.out.to (hm _ (by omega) (by omega) (hnb _ (.inl (by omega)))), h1.out.to (hm _ (by omega) (by omega) (hnb _ (.inl (by omega)))), h2.out.to (hm _ (by omega) (by omega) (hnb _ (.inl (by omega))))⟩, hBn⟩⟩
      have hsz5 : W2.heap.size ≤ (w4.setCell ⟨w.heap.size + 1 + 1 + 1, 0, none⟩ (.slice (some ⟨g', 0, none⟩) (pre.length + 1) cap')).heap.size := by simp [World.setCell]; exact hsz4
      exact ⟨rfl, HI, hsz5, fun j hj hjl => hm j (by omega) hjl (hnb j (by omega))⟩
    · have heb : (er == 0) = false := by rw [beq_eq_false_iff_ne]; exact he
      obtain ⟨c0, f0⟩ := one_at h0
      obtain ⟨c1, f1⟩ := one_at h1
      obtain ⟨c2, f2⟩ := one_at h2
      have c2' : W2.cell? ⟨w.heap.size + 1 + 1, 0, none⟩ = some (.int .i64 0) := c2
      have f2' : ∀ i, W2.frozen? ⟨w.heap.size + 1 + 1, i, none⟩ = false := f2
      replace he := Lib.hid he
      replace hv := Lib.hid hv
      replace h0 := Lib.hid h0
      replace h1 := Lib.hid h1
      replace h2 := Lib.hid h2
      replace hrow := Lib.hid hrow
      clear c2 f2
      have d0 : W2.drew.cell? ⟨w.heap.size, 0, none⟩ = some (.slice none 0 0) := c0
      have d1 : W2.drew.cell? ⟨w.heap.size + 1, 0, none⟩ = some (.int .i64 0) := c1
      have d2 : W2.drew.cell? ⟨w.heap.size + 1 + 1, 0, none⟩ = some (.int .i64 0) := c2'
      have e0 : ∀ i, W2.drew.frozen? ⟨w.heap.size, i, none⟩ = false := f0
      have e1 : ∀ i, W2.drew.frozen? ⟨w.heap.size + 1, i, none⟩ = false := f1
      have e2 : ∀ i, W2.drew.frozen? ⟨w.heap.size + 1 + 1, i, none⟩ = false := f2'
      have d3 : W2.drew.cell? ⟨W1.heap.size, 2, none⟩ = some (.int .i64 (p : Nat)) := p2
      have hk6 : ∀ j, j ≠ w.heap.size → j ≠ w.heap.size + 1 → j ≠ w.heap.size + 1 + 1 → (((W2.setCell ⟨w.heap.size, 0, none⟩ (.slice none 0 0)).setCell ⟨w.heap.size + 1, 0, none⟩ (.int .i64 (p : Nat))).setCell ⟨w.heap.size + 1 + 1, 0, none⟩ (.int .i64 er)).drew.heap[j]? = W2.heap[j]? := fun j a1 a2 a3 => (Below.heap_setCell _ ⟨w.heap.size + 1 + 1, 0, none⟩ _ j a3).trans ((Below.heap_setCell _ ⟨w.heap.size + 1, 0, none⟩ _ j a2).trans (Below.heap_setCell W2 ⟨w.heap.size, 0, none⟩ _ j a1))
      have x0 : One (((W2.setCell ⟨w.heap.size, 0, none⟩ (.slice none 0 0)).setCell ⟨w.heap.size + 1, 0, none⟩ (.int .i64 (p : Nat))).setCell ⟨w.heap.size + 1 + 1, 0, none⟩ (.int .i64 er)).drew w.heap.size 28 (.slice none 0 0) := (Below.heap_setCell _ ⟨w.heap.size + 1 + 1, 0, none⟩ _ _ (by show w.heap.size ≠ w.heap.size + 1 + 1; omega)).trans ((Below.heap_setCell _ ⟨w.heap.size + 1, 0, none⟩ _ _ (by show w.heap.size ≠ w.heap.size + 1; omega)).trans ((blk_set h0.out _).trans rfl))
      have x1 : One (((W2.setCell ⟨w.heap.size, 0, none⟩ (.slice none 0 0)).setCell ⟨w.heap.size + 1, 0, none⟩ (.int .i64 (p : Nat))).setCell ⟨w.heap.size + 1 + 1, 0, none⟩ (.int .i64 er)).drew (w.heap.size + 1) 3 (.int .i64 (p : Nat)) := (Below.heap_setCell _ ⟨w.heap.size + 1 + 1, 0, none⟩ _ _ (by show w.heap.size + 1 ≠ w.heap.size + 1 + 1; omega)).trans ((blk_set ((Below.heap_setCell W2 ⟨w.heap.size, 0, none⟩ _ _ (by show w.heap.size + 1 ≠ w.heap.size; omega)).trans h1.out) _).trans rfl)
      have x2 : One (((W2.setCell ⟨w.heap.size, 0, none⟩ (.slice none 0 0)).setCell ⟨w.heap.size + 1, 0, none⟩ (.int .i64 (p : Nat))).setCell ⟨w.heap.size + 1 + 1, 0, none⟩ (.int .i64 er)).drew (w.heap.size + 2) 29 (.int .i64 er) := (blk_set ((Below.heap_setCell _ ⟨w.heap.size + 1, 0, none⟩ _ _ (by show w.heap.size + 2 ≠ w.heap.size + 1; omega)).trans ((Below.heap_setCell W2 ⟨w.heap.size, 0, none⟩ _ _ (by show w.heap.size + 2 ≠ w.heap.size; omega)).trans h2.out)) _).trans rfl
      have xB : Below w.heap.size w (((W2.setCell ⟨w.heap.size, 0, none⟩ (.slice none 0 0)).setCell ⟨w.heap.size + 1, 0, none⟩ (.int .i64 (p : Nat))).setCell ⟨w.heap.size + 1 + 1, 0, none⟩ (.int .i64 er)).drew := (((hB.setCell (p := ⟨w.heap.size, 0, none⟩) (Nat.le_refl _) _).setCell (p := ⟨w.heap.size + 1, 0, none⟩) (by show w.heap.size ≤ w.heap.size + 1; omega) _).setCell (p := ⟨w.heap.size + 1 + 1, 0, none⟩) (by show w.heap.size ≤ w.heap.size + 1 + 1; omega) _).drew
      have HX : TkX w (pre ++ [((⟨k, tt, p⟩ : Tk), er)]) (((W2.setCell ⟨w.heap.size, 0, none⟩ (.slice none 0 0)).setCell ⟨w.heap.size + 1, 0, none⟩ (.int .i64 (p : Nat))).setCell ⟨w.heap.size + 1 + 1, 0, none⟩ (.int .i64 er)).drew := ⟨pre, _, rfl, ⟨x0, x1, x2⟩, xB⟩
      obtain ⟨z1, z2, z3, z4, z5, z6⟩ := HZ.out
      have hk7 : ∀ j, (j = W5.heap.size ∨ j = W5.heap.size + 1) → (((W2.setCell ⟨w.heap.size, 0, none⟩ (.slice none 0 0)).setCell ⟨w.heap.size + 1, 0, none⟩ (.int .i64 (p : Nat))).setCell ⟨w.heap.size + 1 + 1, 0, none⟩ (.int .i64 er)).drew.heap[j]? = W2.heap[j]? := fun j hj => hk6 j (by omega) (by omega) (by omega)
      replace HX := Lib.hid HX
      replace hk7 := Lib.hid hk7
      clear hk6 x0 x1 x2 xB z1 z2 z3 z4 z5 z6
      gi_wp2
      gi_region
      all_goals gi_wp2
      all_goals exact ⟨he.out, HX.out, hk7.out⟩
  case done =>
    rintro pre ⟨⟨k, tt, p⟩, er⟩ W hyl hx ⟨v, ⟨hv, hrow⟩, ⟨h0, h1, h2⟩, hB⟩ hD
    have hx : er = 0 := hx
    subst hx
    obtain ⟨A, c, rfl⟩ := lx_slice hrow
    rw [List.length_append, List.length_cons, List.length_nil, Nat.zero_add] at hv hrow
    obtain ⟨cv, fv⟩ := one_at hv
    have cv' : W.cell? ⟨w.heap.size + 1 + 1 + 1, 0, none⟩ = some (.slice A (pre.length + 1) c) := cv
    obtain ⟨c0, f0⟩ := one_at h0
    obtain ⟨c1, f1⟩ := one_at h1
    obtain ⟨c2, f2⟩ := one_at h2
    have c2' : W.cell? ⟨w.heap.size + 1 + 1, 0, none⟩ = some (.int .i64 0) := c2
    have f2' : ∀ i, W.frozen? ⟨w.heap.size + 1 + 1, i, none⟩ = false := f2
    have hk6 : ∀ j, j ≠ w.heap.size → j ≠ w.heap.size + 1 → j ≠ w.heap.size + 1 + 1 → (((W.setCell ⟨w.heap.size, 0, none⟩ (.slice A (pre.length + 1) c)).setCell ⟨w.heap.size + 1, 0, none⟩ (.int .i64 0)).setCell ⟨w.heap.size + 1 + 1, 0, none⟩ (.int .i64 0)).heap[j]? = W.heap[j]? := fun j a1 a2 a3 => (Below.heap_setCell _ ⟨w.heap.size + 1 + 1, 0, none⟩ _ j a3).trans ((Below.heap_setCell _ ⟨w.heap.size + 1, 0, none⟩ _ j a2).trans (Below.heap_setCell W ⟨w.heap.size, 0, none⟩ _ j a1))
    have hD6 : (((W.setCell ⟨w.heap.size, 0, none⟩ (.slice A (pre.length + 1) c)).setCell ⟨w.heap.size + 1, 0, none⟩ (.int .i64 0)).setCell ⟨w.heap.size + 1 + 1, 0, none⟩ (.int .i64 0)).heap[W5.heap.size]? = some (.deferred (some [])) := (hk6 _ (by omega) (by omega) (by omega)).trans hD
    replace hv := Lib.hid hv
    replace hrow := Lib.hid hrow
    replace h0 := Lib.hid h0
    replace h1 := Lib.hid h1
    replace h2 := Lib.hid h2
    replace hD6 := Lib.hid hD6
    replace hD := Lib.hid hD
    replace Z5 := Lib.hid Z5
    clear cv fv c2 f2
    dsimp only
    gi_wp2
    refine ⟨by simp, .inl ⟨_, _, rfl, run_takeDeferred hD6.out, ?_⟩⟩
    have hp : ∀ j, j ≠ W5.heap.size → ((((W.setCell ⟨w.heap.size, 0, none⟩ (.slice A (pre.length + 1) c)).setCell ⟨w.heap.size + 1, 0, none⟩ (.int .i64 0)).setCell ⟨w.heap.size + 1 + 1, 0, none⟩ (.int .i64 0)).putObj W5.heap.size (.deferred none)).heap[j]? = (((W.setCell ⟨w.heap.size, 0, none⟩ (.slice A (pre.length + 1) c)).setCell ⟨w.heap.size + 1, 0, none⟩ (.int .i64 0)).setCell ⟨w.heap.size + 1 + 1, 0, none⟩ (.int .i64 0)).heap[j]? := fun j hj => World.putObj_heap_other hj
    have z5 := Z5.out
    have y0 : One ((((W.setCell ⟨w.heap.size, 0, none⟩ (.slice A (pre.length + 1) c)).setCell ⟨w.heap.size + 1, 0, none⟩ (.int .i64 0)).setCell ⟨w.heap.size + 1 + 1, 0, none⟩ (.int .i64 0)).putObj W5.heap.size (.deferred none)) w.heap.size 28 (.slice A (pre.length + 1) c) := (hp _ (by omega)).trans ((Below.heap_setCell _ ⟨w.heap.size + 1 + 1, 0, none⟩ _ _ (by show w.heap.size ≠ w.heap.size + 1 + 1; omega)).trans ((Below.heap_setCell _ ⟨w.heap.size + 1, 0, none⟩ _ _ (by show w.heap.size ≠ w.heap.size + 1; omega)).trans ((blk_set h0.out _).trans rfl)))
    have y1 : One ((((W.setCell ⟨w.heap.size, 0, none⟩ (.slice A (pre.length + 1) c)).setCell ⟨w.heap.size + 1, 0, none⟩ (.int .i64 0)).setCell ⟨w.heap.size + 1 + 1, 0, none⟩ (.int .i64 0)).putObj W5.heap.size (.deferred none)) (w.heap.size + 1) 3 (.int .i64 0) := (hp _ (by omega)).trans ((Below.heap_setCell _ ⟨w.heap.size + 1 + 1, 0, none⟩ _ _ (by show w.heap.size + 1 ≠ w.heap.size + 1 + 1; omega)).trans ((blk_set ((Below.heap_setCell W ⟨w.heap.size, 0, none⟩ _ _ (by show w.heap.size + 1 ≠ w.heap.size; omega)).trans h1.out) _).trans rfl))
    have y2 : One ((((W.setCell ⟨w.heap.size, 0, none⟩ (.slice A (pre.length + 1) c)).setCell ⟨w.heap.size + 1, 0, none⟩ (.int .i64 0)).setCell ⟨w.heap.size + 1 + 1, 0, none⟩ (.int .i64 0)).putObj W5.heap.size (.deferred none)) (w.heap.size + 1 + 1) 29 (.int .i64 0) := (hp _ (by omega)).trans ((blk_set ((Below.heap_setCell _ ⟨w.heap.size + 1, 0, none⟩ _ _ (by show w.heap.size + 2 ≠ w.heap.size + 1; omega)).trans ((Below.heap_setCell W ⟨w.heap.size, 0, none⟩ _ _ (by show w.heap.size + 2 ≠ w.heap.size; omega)).trans h2.out)) _).trans rfl)
    have hB7 : Below w.heap.size w ((((W.setCell ⟨w.heap.size, 0, none⟩ (.slice A (pre.length + 1) c)).setCell ⟨w.heap.size + 1, 0, none⟩ (.int .i64 0)).setCell ⟨w.heap.size + 1 + 1, 0, none⟩ (.int .i64 0)).putObj W5.heap.size (.deferred none)) := (((hB.setCell (p := ⟨w.heap.size, 0, none⟩) (Nat.le_refl _) _).setCell (p := ⟨w.heap.size + 1, 0, none⟩) (by show w.heap.size ≤ w.heap.size + 1; omega) _).setCell (p := ⟨w.heap.size + 1 + 1, 0, none⟩) (by show w.heap.size ≤ w.heap.size + 1 + 1; omega) _).trans ⟨rfl, rfl, rfl, by simp [World.putObj], fun j hj => hp j (by omega)⟩
    have hr7 : ((((W.setCell ⟨w.heap.size, 0, none⟩ (.slice A (pre.length + 1) c)).setCell ⟨w.heap.size + 1, 0, none⟩ (.int .i64 0)).setCell ⟨w.heap.size + 1 + 1, 0, none⟩ (.int .i64 0)).putObj W5.heap.size (.deferred none)).ownsRow w.heap.size 43 3 (.slice A (pre.length + 1) c) (pre.length + 1) (tkCells (pre ++ [((⟨k, tt, p⟩ : Tk), (0 : Int))])) := by
      refine ⟨hrow.out.1, ?_⟩
      rcases hrow.out.2 with hq | ⟨g, cap, cur, q1, q2, q3, q4⟩
      · exact .inl hq
      · exact .inr ⟨g, cap, cur, q1, by omega, (hp g (by omega)).trans ((hk6 g (by omega) (by omega) (by omega)).trans q3), q4⟩
    have y0' := (one_at y0).1
    have y1' := (one_at y1).1
    have y2' := (one_at y2).1
    refine ⟨.tuple #[.slice A (pre.length + 1) c, .int .i64 0, .int .i64 0], ?_, pre, (⟨k, tt, p⟩, 0), hyl, hB7, .inl ⟨rfl, A, c, rfl, hr7⟩⟩
    simp [results, Try.results13, go_sem, y0', y1', y2']
  case stop =>
    rintro pre ⟨⟨k, tt, p⟩, er⟩ W hyl hx ⟨l, x, e, ⟨h0, h1, h2⟩, hB⟩ hD
    obtain ⟨rfl, e2⟩ := List.append_inj' e rfl
    injection e2 with e3 _
    subst e3
    have hx : er ≠ 0 := hx
    replace hx := Lib.hid hx
    have hp : ∀ j, j ≠ W5.heap.size → (W.putObj W5.heap.size (.deferred none)).heap[j]? = W.heap[j]? := fun j hj => World.putObj_heap_other hj
    have y0 : One (W.putObj W5.heap.size (.deferred none)) w.heap.size 28 (.slice none 0 0) := (hp _ (by omega)).trans h0
    have y1 : One (W.putObj W5.heap.size (.deferred none)) (w.heap.size + 1) 3 (.int .i64 (p : Nat)) := (hp _ (by omega)).trans h1
    have y2 : One (W.putObj W5.heap.size (.deferred none)) (w.heap.size + 1 + 1) 29 (.int .i64 er) := (hp _ (by omega)).trans h2
    have hB7 : Below w.heap.size w (W.putObj W5.heap.size (.deferred none)) := hB.trans ⟨rfl, rfl, rfl, by simp [World.putObj], fun j hj => hp j (by omega)⟩
    have y0' := (one_at y0).1
    have y1' := (one_at y1).1
    have y2' := (one_at y2).1
    clear y0 y1 y2 hp
    replace h0 := Lib.hid h0
    replace h1 := Lib.hid h1
    replace h2 := Lib.hid h2
    replace Z5 := Lib.hid Z5
    replace hB7 := Lib.hid hB7
    replace hD := Lib.hid hD
    dsimp only
    gi_wp2
    refine ⟨by simp, .inl ⟨_, _, rfl, run_takeDeferred hD.out, ?_⟩⟩
    refine ⟨.tuple #[.slice none 0 0, .int .i64 (p : Nat), .int .i64 er], ?_, pre, (⟨k, tt, p⟩, er), hyl, hB7.out, .inr ⟨hx.out, rfl⟩⟩
    simp [results, Try.results13, go_sem, y0', y1', y2']
end Go.Proofs.Ytpeeekgfcofbkaa
