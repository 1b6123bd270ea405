/-
  THE ITERATOR of tokens: a range over a function whose closure keeps its place in a box of its own.
-/
import Derived.RangeFuncNested
import Derived.RangeFuncBound
import Derived.RangeFuncCalls
import Derived.RangeFuncLeaves
import Derived.RangeFuncBox
import Derived.Shelf.Abstract
import Derived.Shelf.RegionOpen
import Derived.WalkKit
import Derived.OwnWalkIn
import Derived.TacticsInMore
import Derived.LoopNIn
import Derived.LoopIn
import Derived.Shelf.AbstractIn
import Derived.WalkSpells
import Derived.WalkLawsBesides
import Derived.Test.YtpeeekgfcofbkaaLxRead
namespace Go.Proofs.Ytpeeekgfcofbkaa
open Go.RowKit Go.Shelf
attribute [local go_sem] Oper.semAt_some

/-- what the iterator yields from a place on: tokens up to End, or up to the first error -/
def yl : Nat → List Int → Nat → List (Tk × Int)
  | 0, _, _ => []
  | f + 1, l, o => ((nxT l o).1, (nxT l o).2.2) :: (if (nxT l o).2.2 ≠ 0 ∨ (nxT l o).1.k = 6 then [] else yl f l (nxT l o).2.1)
theorem form_ne {l : List Int} (h : (formF l).2 = 0) : 0 < l.length := by
  cases l with
  | nil => cases h
  | cons c r => simp
theorem qd_pos : ∀ (f i : Nat) (acc l : List Int), (qdGo f i acc l).2.2 = 0 → 1 ≤ (qdGo f i acc l).2.1
  | 0, i, acc, l, h => by cases h
  | f + 1, i, acc, [], h => by cases h
  | f + 1, i, acc, c :: r, h => by
    have e : qdGo (f + 1) i acc (c :: r) = if c = 34 then (⟨5, acc, 0⟩, i + 1, 0) else if (itemF (c :: r)).2.2 = 2 then (⟨0, [], i⟩, 0, 2) else if (itemF (c :: r)).2.2 = 3 then (⟨0, [], i + (c :: r).length⟩, 0, 3) else qdGo f (i + (itemF (c :: r)).2.1) (acc ++ [(itemF (c :: r)).1]) ((c :: r).drop (itemF (c :: r)).2.1) := rfl
    rw [e] at h ⊢
    by_cases h1 : c = 34
    · rw [if_pos h1]
      show 1 ≤ i + 1
      omega
    · rw [if_neg h1] at h ⊢
      by_cases h2 : (itemF (c :: r)).2.2 = 2
      · rw [if_pos h2] at h; cases h
      · rw [if_neg h2] at h ⊢
        by_cases h3 : (itemF (c :: r)).2.2 = 3
        · rw [if_pos h3] at h; cases h
        · rw [if_neg h3] at h ⊢
          exact qd_pos f _ _ _ h
/-- a token but End takes a byte -/
theorem first_pos (l : List Int) (h : (firstF l).2.2 = 0) (hk : (firstF l).1.k ≠ 6) : 1 ≤ (firstF l).2.1 := by
  cases l with
  | nil => exact absurd rfl hk
  | cons c r =>
    rw [first_cons] at h hk ⊢
    by_cases h1 : c = 40
    · rw [if_pos h1]; exact Nat.le_refl _
    · rw [if_neg h1] at h hk ⊢
      by_cases h2 : c = 41
      · rw [if_pos h2]; exact Nat.le_refl _
      · rw [if_neg h2] at h hk ⊢
        by_cases h3 : c = 34
        · rw [if_pos h3] at h ⊢
          exact qd_pos _ _ _ _ h
        · rw [if_neg h3] at h ⊢
          unfold bareF at h ⊢
          by_cases hf : (formF ((c :: r).take (spanN BARE (c :: r)))).2 = 0
          · rw [if_pos hf]
            have := form_ne hf
            rw [List.length_take] at this
            show 1 ≤ spanN BARE (c :: r)
            omega
          · rw [if_neg hf] at h
            exact absurd h hf
set_option maxHeartbeats 1000000 in
theorem reader_any (s : ByteArray) (w : World) : Calls Try.prog 44 #[.string s] w fun e w' => e = .returned (.func (.func 54) #[] #[.pointer (some ⟨w.heap.size + 1, 0, none⟩), .pointer (some ⟨w.heap.size, 0, none⟩)]) ∧ w' = (w.alloc (.cells #[.string s] 9)).alloc (.cells #[.string s] 9) := by
  go_enter Try.func44, Try.ntmps44
  go_wp2_with fail
  go_ret
  exact ⟨rfl, rfl⟩
set_option maxHeartbeats 1000000 in
theorem tokens_clo (s : ByteArray) (w : World) : Calls Try.prog 30 #[.string s] w fun e w' => e = .returned (.func (.func 43) #[] #[.pointer (some ⟨w.heap.size, 0, none⟩)]) ∧ w' = w.alloc (.cells #[.string s] 9) := by
  go_enter Try.func30, Try.ntmps30
  go_wp2_with fail
  go_ret
  exact ⟨rfl, rfl⟩

theorem nx_le (S : ByteArray) {o : Nat} (ho : o ≤ S.size) : (nxT (sb S) o).2.1 ≤ S.size := by
  have h1 := gp_le ((sb S).drop o) false
  rw [List.length_drop, sb_length] at h1
  have h2 := first_size (l := (sb S).drop (o + gp false ((sb S).drop o))) (fun z hz => sb_bytes S z (List.mem_of_mem_drop hz))
  rw [List.length_drop, sb_length] at h2
  show o + gp false ((sb S).drop o) + _ ≤ _
  omega
theorem nx_pos (l : List Int) (o : Nat) (h : (nxT l o).2.2 = 0) (hk : (nxT l o).1.k ≠ 6) : o + 1 ≤ (nxT l o).2.1 := by
  have := first_pos _ h hk
  show o + 1 ≤ o + gp false (l.drop o) + _
  omega
theorem yl_len : ∀ (f : Nat) (l : List Int) (o : Nat), (yl f l o).length ≤ f
  | 0, _, _ => Nat.le_refl _
  | f + 1, l, o => by
    show (((nxT l o).1, (nxT l o).2.2) :: (if (nxT l o).2.2 ≠ 0 ∨ (nxT l o).1.k = 6 then [] else yl f l (nxT l o).2.1)).length ≤ f + 1
    rw [List.length_cons]
    split
    · simp
    · have := yl_len f l (nxT l o).2.1
      omega
/-- the closure's two blocks, and what is newer than n: as they lay -/
def KeepN (N0 n : Nat) (W W' : World) : Prop := ∀ j, (j = N0 ∨ j = N0 + 1 ∨ n ≤ j) → j < W.heap.size → W'.heap[j]? = W.heap[j]?
def restLeft (r : Nat) (W : World) : Nat := match W.cell? ⟨r, 0, none⟩ with
  | some (.string t) => t.size
  | _ => 0
set_option maxRecDepth 100000 in
set_option maxHeartbeats 4000000 in
theorem tokIt_in (n : Nat) (hn : 1 ≤ n) (l b : Nat) (S : ByteArray) (hs : S.size ≤ 1000000) (J Jx : List (Tk × Int) → World → Prop) (W : World) (hb : W.heap[b]? = some (.cells #[.string S] 9 (0, 0)))
    (hY : ∀ pre x W0 W1, J pre W0 → pre.length ≤ S.size → W.heap.size ≤ W0.heap.size → W0.grownBy W1 (some (W.heap.size + 1)) → W.heap.size + 2 ≤ W1.heap.size → YieldAt Fence.wide (n - 1) Try.prog l #[x.1.val, .int .i64 x.2] W1 fun e W' =>
      (x.2 = 0 ∧ e = .returned (.bool true) ∧ J (pre ++ [x]) W' ∧ W1.heap.size ≤ W'.heap.size ∧ KeepN W.heap.size W0.heap.size W1 W') ∨ (x.2 ≠ 0 ∧ e = .returned (.bool false) ∧ Jx (pre ++ [x]) W'))
    (h0 : J [] W) :
    CallsIn Fence.wide n Try.prog 43 #[.func (.yield l) #[] #[], .pointer (some ⟨b, 0, none⟩)] W fun e W' => (∃ v, e = .returned v) ∧ ∃ pre x, yl (S.size + 1) (sb S) 0 = pre ++ [x] ∧ ((x.2 = 0 ∧ J (pre ++ [x]) W') ∨ (x.2 ≠ 0 ∧ Jx (pre ++ [x]) W')) := by
  have hbl : b < W.heap.size := (Array.getElem?_eq_some_iff.1 hb).1
  obtain ⟨hc0, _⟩ := one_at hb
  have hR0 := Lib.hid (fun W => reader_any S W)
  have B2 : Below W.heap.size W ((W.alloc (.cells #[.string S] 9)).alloc (.cells #[.string S] 9)) := ((Below.refl _ _).alloc (Nat.le_refl _) _).alloc (by simp) _
  have X2 : RdX ((W.alloc (.cells #[.string S] 9)).alloc (.cells #[.string S] 9)) (W.heap.size + 1) W.heap.size S S := ⟨heap_alloc_new_at _ _ (by simp), (heap_alloc_old _ _ _ (by simp)).trans (heap_alloc_new W _), by omega⟩
  have Z2 : ((W.alloc (.cells #[.string S] 9)).alloc (.cells #[.string S] 9)).heap.size = W.heap.size + 2 := by simp
  have Y0 : yl (S.size + 1) (sb S) 0 = [] ++ yl (S.size + 1) (sb S) 0 := rfl
  replace B2 := Lib.hid B2
  replace X2 := Lib.hid X2
  replace Y0 := Lib.hid Y0
  refine callsIn_of_wp Try.func43 rfl trivial ?_ rfl
  simp only [Try.ntmps43, List.size_toArray, List.length_cons, List.length_nil, Nat.reduceAdd, Nat.reduceSub, Array.replicate_succ, Array.replicate_zero, List.push_toArray, List.append_toArray, List.nil_append, List.cons_append]
  gi_wp2_with (refine ⟨trivial, ?_⟩; gi_at_call 44; refine (callsIn_wide.2 (hR0.out _)).mono ?_; rintro e w1 ⟨rfl, hw1⟩; rw [hw1]; clear hw1)
  generalize ((W.alloc (.cells #[.string S] 9)).alloc (.cells #[.string S] 9)) = W2 at *
  gi_loopw [] (fun wr => ∃ (pre : List (Tk × Int)) (o f : Nat) (rest : ByteArray) (W0 : World), J pre W0 ∧ W.heap.size ≤ W0.heap.size ∧ W0.grownBy wr (some (W.heap.size + 1)) ∧ W.heap.size + 2 ≤ wr.heap.size ∧ RdX wr (W.heap.size + 1) W.heap.size S rest ∧ sb rest = (sb S).drop o ∧ o ≤ S.size ∧ S.size < o + f ∧ Hid (yl (S.size + 1) (sb S) 0 = pre ++ yl f (sb S) o)) (fun wr => restLeft (W.heap.size + 1) wr)
  case atStart => exact ⟨[], 0, S.size + 1, S, W, h0, Nat.le_refl _, ⟨B2.out.os, B2.out.tape, B2.out.output, B2.out.size, fun i hi _ => B2.out.block i hi⟩, by omega, X2.out, by rw [List.drop_zero], Nat.zero_le _, by omega, Y0⟩
  case round =>
    obtain ⟨pre, o, f, rest, W0, hJ, hW0, hg, hsz, hX, hl, ho, hf, hI⟩ := hrel
    have HR := readerIt_any (W.heap.size + 1) W.heap.size S rest o wr hX hl ho hs
    have hnl := nx_le S ho
    have hnp := nx_pos (sb S) o
    obtain ⟨f', rfl⟩ : ∃ f', f = f' + 1 := ⟨f - 1, by omega⟩
    have hI2 := hI.out
    rw [show yl (f' + 1) (sb S) o = ((nxT (sb S) o).1, (nxT (sb S) o).2.2) :: (if (nxT (sb S) o).2.2 ≠ 0 ∨ (nxT (sb S) o).1.k = 6 then [] else yl f' (sb S) (nxT (sb S) o).2.1) from rfl] at hI2
    have hsr : rest.size = S.size - o := by rw [← sb_length, hl, List.length_drop, sb_length]
    have hms : restLeft (W.heap.size + 1) wr = S.size - o := by
      unfold restLeft
      rw [(one_at hX.1).1]
      exact hsr
    have hpl : pre.length ≤ S.size := by
      have h1 := yl_len (S.size + 1) (sb S) 0
      rw [hI2, List.length_append, List.length_cons] at h1
      omega
    generalize nxT (sb S) o = N at *
    obtain ⟨⟨k, tt, p⟩, o', er⟩ := N
    simp only [Tk.val] at HR
    simp only at hnl hnp hI2
    replace hms := Lib.hid hms
    replace hsr := Lib.hid hsr
    replace hI2 := Lib.hid hI2
    replace hX := Lib.hid hX
    replace HR := Lib.hid HR
    have HY := Lib.hid hY
    replace hg := Lib.hid hg
    have hgs := hg.out.size
    clear hY
    gi_wp2_with (refine ⟨trivial, ?_⟩; gi_at_call 54; refine (callsIn_wide.2 HR.out).mono ?_; rintro e w3 ⟨rest', rfl, hX', hl', hg'⟩; have hB4 : Below w3.heap.size w3 (w3.alloc (.cells #[.int .i64 k, .string (strOfNums tt), .int .i64 (p : Nat)] 43)) := (Below.refl _ _).alloc (Nat.le_refl _) _; have hq4 := heap_alloc_new w3 (.cells #[.int .i64 k, .string (strOfNums tt), .int .i64 (p : Nat)] 43); have hz3 := hg'.size; have hz4 : w3.heap.size < (w3.alloc (.cells #[.int .i64 k, .string (strOfNums tt), .int .i64 (p : Nat)] 43)).heap.size := (by simp); obtain ⟨fn, tmps, assign, body, hy, hR⟩ := HY.out pre (⟨k, tt, p⟩, er) W0 (w3.alloc (.cells #[.int .i64 k, .string (strOfNums tt), .int .i64 (p : Nat)] 43)) hJ hpl hW0 ((hg.out.trans hg').trans ⟨hB4.os, hB4.tape, hB4.output, hB4.size, fun i hi _ => hB4.block i hi⟩) (by omega); simp only [Tk.val] at hy; replace hX' := Lib.hid (hX'.below hB4); replace hR := Lib.hid hR; replace hB4 := Lib.hid hB4; replace hq4 := Lib.hid hq4; replace hg' := Lib.hid hg')
    refine hR.out.mono ?_
    rintro e5 W5 (⟨he0, rfl, hJ5, hz5, hk5⟩ | ⟨he1, rfl, hJx5⟩)
    · have he0 : er = 0 := he0
      subst he0
      have hg3 := hg'.out.size
      have hq5 := (hk5 w3.heap.size (.inr (.inr (by omega))) hz4).trans hq4.out
      obtain ⟨⟨p0, p1, p2⟩, hf3⟩ := three_at3 hq5
      have hx1 := hX'.out.lt
      have X5 : RdX W5 (W.heap.size + 1) W.heap.size S rest' := ⟨(hk5 _ (.inr (.inl rfl)) hx1.1).trans hX'.out.1, (hk5 _ (.inl rfl) hx1.2).trans hX'.out.2.1, hX'.out.2.2⟩
      replace hq5 := Lib.hid hq5
      replace X5 := Lib.hid X5
      have hk5' := Lib.hid hk5
      clear hk5
      by_cases hk6 : k = 6
      · subst hk6
        have hI3 := hI2.out
        rw [if_pos (.inr rfl)] at hI3
        replace hI3 := Lib.hid hI3
        gi_wp2
        refine bodyPost_ret (results_none rfl _ _ _) rfl ?_
        exact ⟨⟨_, rfl⟩, pre, _, hI3.out, .inl ⟨rfl, hJ5⟩⟩
      · have hkb : (k == 6) = false := by rw [beq_eq_false_iff_ne]; exact hk6
        have hpos := hnp rfl hk6
        have hI3 := hI2.out
        rw [if_neg (by rintro (h | h); exact h rfl; exact hk6 h)] at hI3
        replace hI3 := Lib.hid hI3
        replace hk6 := Lib.hid hk6
        have hm5 : restLeft (W.heap.size + 1) W5 = S.size - o' := by
          unfold restLeft
          rw [(one_at X5.out.1).1]
          show rest'.size = _
          rw [← sb_length, hl', List.length_drop, sb_length]
        replace hm5 := Lib.hid hm5
        gi_wp2
        go_roundw
        case rel => exact ⟨pre ++ [(⟨k, tt, p⟩, 0)], o', f', rest', W5, hJ5, by omega, ⟨rfl, rfl, rfl, Nat.le_refl _, fun _ _ _ => rfl⟩, by omega, X5.out, hl', hnl, by omega, Lib.hid (by rw [hI3.out, List.append_assoc]; rfl)⟩
        case measure => rw [hm5.out, hms.out]; omega
    · have he1 : er ≠ 0 := he1
      have heb : (er == 0) = false := by rw [beq_eq_false_iff_ne]; exact he1
      have hI3 := hI2.out
      rw [if_pos (.inl he1)] at hI3
      replace hI3 := Lib.hid hI3
      replace he1 := Lib.hid he1
      gi_wp2
      refine bodyPost_ret (results_none rfl _ _ _) rfl ?_
      exact ⟨⟨_, rfl⟩, pre, _, hI3.out, .inr ⟨he1.out, hJx5⟩⟩

/-- how a round's body is left -/
def tkBody (D n0 : Nat) (I Ix : List (Tk × Int) → World → Prop) (pre : List (Tk × Int)) (x : Tk × Int) (W2 : World) : Exit → Act → World → Prop
  | .normal, _, W' => x.2 = 0 ∧ I (pre ++ [x]) W' ∧ W2.heap.size ≤ W'.heap.size ∧ ∀ j, (j = D ∨ j = D + 1 ∨ j = D + 2 ∨ j = D + 3 ∨ n0 ≤ j) → j < W2.heap.size → W'.heap[j]? = W2.heap[j]?
  | .ret, _, W' => x.2 ≠ 0 ∧ Ix (pre ++ [x]) W' ∧ ∀ j, (j = D ∨ j = D + 1) → W'.heap[j]? = W2.heap[j]?
  | _, _, _ => False
set_option maxHeartbeats 1000000 in
/-- a range over the tokens of a text -/
theorem rangeTok {g : Operand} {ps : Array Tmp} {assign body : Code} {Q : Exit → Act → World → Prop} {a : Act} {w : World} (b : Nat) (S : ByteArray) (hs : S.size ≤ 1000000)
    (hg : a.eval g = .func (.func 43) #[] #[.pointer (some ⟨b, 0, none⟩)]) (hps : ps.size = 2) (hb : w.heap[b]? = some (.cells #[.string S] 9 (0, 0)))
    (I Ix : List (Tk × Int) → World → Prop) (h0 : ∀ o1 o2, I [] ((w.alloc o1).alloc o2))
    (hIp : ∀ s W o, I s W → w.heap.size + 1 < W.heap.size → I s (W.putObj (w.heap.size + 1) o)) (hIxp : ∀ s W o, Ix s W → w.heap.size + 1 < W.heap.size → Ix s (W.putObj (w.heap.size + 1) o))
    (Ax : Tk × Int → World → Act → World → Prop)
    (hassign : ∀ (x : Tk × Int) (W : World) (K : Act → World → Prop), (∀ a' W', Below W.heap.size W W' → Ax x W a' W' → K a' W') →
      assign.wpIn (Fence.wide.inRound (w.heap.size + 1)) 1 Try.prog (Exit.then K (fun _ _ _ => False)) { tmps := (ps.zip #[x.1.val, .int .i64 x.2]).foldl (fun t (p, v) => t.setIfInBounds p v) a.tmps, defers := [] } W)
    (hbody : ∀ (pre : List (Tk × Int)) (x : Tk × Int) (W0 W1 Wa : World) (a' : Act) (o : Obj), I pre W0 → pre.length ≤ S.size → w.heap.size + 2 ≤ W0.heap.size → W0.grownBy W1 (some (w.heap.size + 3)) → w.heap.size + 4 ≤ W1.heap.size → Below W1.heap.size W1 Wa → Ax x W1 a' Wa →
      body.wpIn (Fence.wide.inRound (w.heap.size + 1)) 1 Try.prog (tkBody w.heap.size W0.heap.size I Ix pre x (Wa.putObj (w.heap.size + 1) o)) a' (Wa.putObj (w.heap.size + 1) o))
    (hdone : ∀ (pre : List (Tk × Int)) (x : Tk × Int) (W : World), yl (S.size + 1) (sb S) 0 = pre ++ [x] → x.2 = 0 → I (pre ++ [x]) W → W.heap[w.heap.size]? = some (.deferred (some [])) → Q .normal { a with defers := { target := .collected w.heap.size, args := #[] } :: a.defers } W)
    (hstop : ∀ (pre : List (Tk × Int)) (x : Tk × Int) (W : World), yl (S.size + 1) (sb S) 0 = pre ++ [x] → x.2 ≠ 0 → Ix (pre ++ [x]) W → W.heap[w.heap.size]? = some (.deferred (some [])) → Code.ret.wpIn Fence.wide 3 Try.prog Q { a with defers := { target := .collected w.heap.size, args := #[] } :: a.defers } W) :
    (Code.rangeFunc g ps assign body).wpIn Fence.wide 3 Try.prog Q a w := by
  refine wpIn_rangeFunc ?_
  intro fn hfn
  obtain ⟨rc, hrc⟩ : ∃ rc : LoopState → Option Code → Loop, rc = fun st pe => { state := st, pending := pe, fn, tmps := a.tmps, params := ps, assign, body, defers := w.heap.size } := ⟨_, rfl⟩
  have hrp : ∀ st pe, (rc st pe).params = ps := fun st pe => by rw [hrc]
  have hbl : b < w.heap.size := (Array.getElem?_eq_some_iff.1 hb).1
  obtain ⟨W1, hW1⟩ : ∃ W1, W1 = (w.alloc (.deferred (some []))).alloc (.loop (rc .ready none)) := ⟨_, rfl⟩
  have hz1 : W1.heap.size = w.heap.size + 2 := by rw [hW1]; simp
  have hL1 : W1.heap[w.heap.size + 1]? = some (.loop (rc .ready none)) := by rw [hW1]; exact heap_alloc_new_at _ _ (by simp)
  have hD1 : W1.heap[w.heap.size]? = some (.deferred (some [])) := by rw [hW1]; exact (heap_alloc_old _ _ _ (by simp)).trans (heap_alloc_new w _)
  have hb1 : W1.heap[b]? = some (.cells #[.string S] 9 (0, 0)) := by rw [hW1]; exact (heap_alloc_old _ _ _ (by simp; omega)).trans ((heap_alloc_old _ _ _ hbl).trans hb)
  have hI1 : I [] W1 := by rw [hW1]; exact h0 _ _
  refine ⟨w.heap.size + 1, [{ target := .collected w.heap.size, args := #[] }], W1, { target := .fn (.func 43) #[.pointer (some ⟨b, 0, none⟩)], args := #[.func (.yield (w.heap.size + 1)) #[] #[]] }, W1, 43, #[.func (.yield (w.heap.size + 1)) #[] #[], .pointer (some ⟨b, 0, none⟩)], W1, ?_, ?_, ?_, ?_, fun _ => by decide, ?_⟩
  · rw [hW1, hrc]; exact run_enterLoop_outer _ _ _ _ _
  · simp only [resolve, hg]
    simp [go_sem]
  · intro f' hf'
    simp [Target.leads] at hf'
    subst hf'
    trivial
  · have eg := enters_of (P := Try.prog) Try.func43 (by kernel_rfl) rfl
    simp [invoke, go_sem]
  · refine (tokIt_in 2 (by decide) (w.heap.size + 1) b S hs
      (fun pre W => I pre W ∧ W.heap[w.heap.size + 1]? = some (.loop (rc .ready none)) ∧ W.heap[w.heap.size]? = some (.deferred (some [])))
      (fun pre W => Ix pre W ∧ W.heap[w.heap.size + 1]? = some (.loop (rc .done (some .ret))) ∧ W.heap[w.heap.size]? = some (.deferred (some [])))
      W1 hb1 ?_ ⟨hI1, hL1, hD1⟩).mono ?_
    · rintro pre x W0 W2 ⟨hi, hl, hd⟩ hpl hW0 hgr hsz2
      rw [hz1] at hW0 hgr hsz2
      have hl2 := (hgr.block (w.heap.size + 1) (by omega) (fun e => by injection e; omega)).trans hl
      have hd2 := (hgr.block w.heap.size (by omega) (fun e => by injection e; omega)).trans hd
      have hy := run_yield (P := Try.prog) (args := #[x.1.val, .int .i64 x.2]) hl2 (by rw [hrp]; exact hps.symm)
      rw [hrc] at hy
      refine ⟨fn, _, assign, body, hy, roundIn_of_wpIn hfn (hassign x W2 _ ?_)⟩
      clear hy
      intro a' Wa hba hax
      have hla := (hba.block (w.heap.size + 1) (by omega)).trans hl2
      have hda := (hba.block w.heap.size (by omega)).trans hd2
      have hza := hba.size
      refine ⟨_, run_beginRound hla (by rw [hrc]), ?_⟩
      refine wpIn_mono (hbody pre x W0 W2 Wa a' _ hi hpl hW0 hgr (by omega) hba hax) ?_
      have hl3 : (Wa.putObj (w.heap.size + 1) (.loop { rc .ready none with state := .busy })).heap[w.heap.size + 1]? = some (.loop { rc .ready none with state := .busy }) := World.putObj_heap_same (by omega)
      have hd3 : (Wa.putObj (w.heap.size + 1) (.loop { rc .ready none with state := .busy })).heap[w.heap.size]? = some (.deferred (some [])) := (World.putObj_heap_other (by omega)).trans hda
      have hz3 : (Wa.putObj (w.heap.size + 1) (.loop { rc .ready none with state := .busy })).heap.size = Wa.heap.size := by simp [World.putObj]
      have hk3 : ∀ j, j ≠ w.heap.size + 1 → (Wa.putObj (w.heap.size + 1) (.loop { rc .ready none with state := .busy })).heap[j]? = Wa.heap[j]? := fun j hj => World.putObj_heap_other hj
      generalize Wa.putObj (w.heap.size + 1) (.loop { rc .ready none with state := .busy }) = W3 at *
      rintro e a3 W4 hp
      cases e with
      | normal =>
        obtain ⟨hx0, hi4, hz4, hk4⟩ := hp
        have hl4 := (hk4 (w.heap.size + 1) (.inr (.inl rfl)) (by omega)).trans hl3
        have hd4 := (hk4 w.heap.size (.inl rfl) (by omega)).trans hd3
        have hr := run_endRound (P := Try.prog) none hl4
        refine ⟨_, _, hr, .inl ⟨hx0, rfl, ⟨hIp _ _ _ hi4 (by omega), ?_, (World.putObj_heap_other (by omega)).trans hd4⟩, ?_, ?_⟩⟩
        · rw [World.putObj_heap_same (by omega), hrc]
          rfl
        · have hpz : ∀ o, (W4.putObj (w.heap.size + 1) o).heap.size = W4.heap.size := fun o => by simp [World.putObj]
          rw [hpz]
          omega
        · intro j hj hjl
          have hjn : j ≠ w.heap.size + 1 := by omega
          rw [World.putObj_heap_other hjn, hk4 j (by omega) (by omega), hk3 j hjn, hba.block j hjl]
      | ret =>
        obtain ⟨hx1, hi4, hk4⟩ := hp
        have hl4 := (hk4 (w.heap.size + 1) (.inr rfl)).trans hl3
        have hd4 := (hk4 w.heap.size (.inl rfl)).trans hd3
        have hlt4 : w.heap.size + 1 < W4.heap.size := (Array.getElem?_eq_some_iff.1 hl4).1
        have hr := run_endRound (P := Try.prog) (some .ret) hl4
        refine ⟨_, _, hr, .inr ⟨hx1, rfl, hIxp _ _ _ hi4 hlt4, ?_, (World.putObj_heap_other (by omega)).trans hd4⟩⟩
        rw [World.putObj_heap_same hlt4, hrc]
        rfl
      | exit id => exact hp.elim
      | goto t => exact hp.elim
      | panic ch => exact hp.elim
      | outgrown => exact hp.elim
    · rintro e W2 ⟨⟨v, rfl⟩, pre, x, hyl, ⟨hx0, hi, hl, hd⟩ | ⟨hx1, hi, hl, hd⟩⟩
      · have hlt2 : w.heap.size + 1 < W2.heap.size := (Array.getElem?_eq_some_iff.1 hl).1
        exact ⟨none, _, by have := run_endLoop (P := Try.prog) hl (by rw [hrc]; simp); rw [hrc] at this; exact this, hdone pre x _ hyl hx0 (hIp _ _ _ hi hlt2) ((World.putObj_heap_other (by omega)).trans hd)⟩
      · have hlt2 : w.heap.size + 1 < W2.heap.size := (Array.getElem?_eq_some_iff.1 hl).1
        exact ⟨some .ret, _, by have := run_endLoop (P := Try.prog) hl (by rw [hrc]; simp); rw [hrc] at this; exact this, hstop pre x _ hyl hx1 (hIxp _ _ _ hi hlt2) ((World.putObj_heap_other (by omega)).trans hd)⟩
end Go.Proofs.Ytpeeekgfcofbkaa
