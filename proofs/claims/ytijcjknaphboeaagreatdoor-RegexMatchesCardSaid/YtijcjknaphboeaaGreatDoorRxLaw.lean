/-
  WORDS FOR THE LAWS over expressions: what a law's call does, trees later on, rows of trees just laid, strings joined.
-/
import Derived.Test.YtijcjknaphboeaaGreatDoorRxWord
import Derived.Test.YtijcjknaphboeaaGreatDoorRxMt
import Derived.Test.YtijcjknaphboeaaGreatDoorRxSpoD
namespace Go.Proofs.YtijcjknaphboeaaGreatDoor
open Go.RowKit

/-- what a law's call does: true, and nothing that was there has turned -/
def RTru (w : World) (e : Ending) (w' : World) : Prop := e = .returned (.bool true) ∧ Below w.heap.size w w'
/-- a tree at every later world -/
def Late (w : World) (x : Rx) (v : Value) : Prop := ∀ W, Below w.heap.size w W → RtV W (Lo W.heap.size) x v
theorem Late.of {w : World} {x : Rx} {v : Value} (h : RtV w (Lo w.heap.size) x v) : Late w x v := fun _ hW => h.call hW
theorem Late.mid {w : World} {x : Rx} {v : Value} {n : Nat} (h : RtV w (Mid n w.heap.size) x v) : Late w x v := Late.of (RtV.to (fun _ hb => ⟨hb.2, rfl⟩) x h)
theorem Late.on {w w1 : World} {x : Rx} {v : Value} (h : Late w x v) (hb : Below w.heap.size w w1) : Late w1 x v := fun W hW => h W (hb.trans (hW.mono hb.size))
theorem Late.now {w : World} {x : Rx} {v : Value} (h : Late w x v) : RtV w (Lo w.heap.size) x v := h w (Below.refl _ _)
/-- a row of trees just laid -/
theorem row_laid {w : World} {ts : List Tn} {ty : TypeId} (hT : ∀ t ∈ ts, RtV w (Lo w.heap.size) t.x t.val) : RtL (w.alloc (.cells (ts.flatMap Tn.cells).toArray ty)) (Lo (w.alloc (.cells (ts.flatMap Tn.cells).toArray ty)).heap.size) (ts.map Tn.x) (some ⟨w.heap.size, 0, none⟩) := by
  have hs : w.heap.size < (w.alloc (.cells (ts.flatMap Tn.cells).toArray ty)).heap.size := by simp
  refine rtl_of_cells (S := Lo (w.alloc (.cells (ts.flatMap Tn.cells).toArray ty)).heap.size) (g := w.heap.size) hs ts 0 (fun j u hj => ?_) (fun t ht => RtV.to (fun b hb => ⟨Nat.lt_trans hb hs, Below.heap_alloc w _ b hb⟩) _ (hT t ht))
  rw [Nat.zero_add, cell_of_row _ _ _ _ _ (0, 0) (heap_alloc_new w _)]
  simpa using hj
theorem kids_one {w : World} {x : Rx} {A : Option Addr} {d : Nat} {ty : TypeId} {k : Int} (hk : I64 k) (h : RtV w (Lo w.heap.size) x (rxv x.kind x.lo x.hi A x.kids.length d)) :
    Late (w.alloc (.cells #[.int .i64 x.kind, .int .u8 x.lo, .int .u8 x.hi, .slice A x.kids.length d] ty)) (.node k 0 0 [x]) (.agg #[.int .i64 k, .int .u8 0, .int .u8 0, .slice (some ⟨w.heap.size, 0, none⟩) 1 1]) :=
  Late.of (RtV.mk (s := [x]) ⟨hk, ⟨by decide, by decide⟩, ⟨by decide, by decide⟩, by simp⟩ (by simp) (fun h => nomatch h) (row_laid (ts := [⟨x, A, d⟩]) (fun t ht => by obtain rfl := List.mem_singleton.1 ht; exact h)))
theorem kids_two {w : World} {x y : Rx} {A B : Option Addr} {d d' : Nat} {ty : TypeId} {k : Int} (hk : I64 k) (hx : RtV w (Lo w.heap.size) x (rxv x.kind x.lo x.hi A x.kids.length d)) (hy : RtV w (Lo w.heap.size) y (rxv y.kind y.lo y.hi B y.kids.length d')) :
    Late (w.alloc (.cells #[.int .i64 x.kind, .int .u8 x.lo, .int .u8 x.hi, .slice A x.kids.length d, .int .i64 y.kind, .int .u8 y.lo, .int .u8 y.hi, .slice B y.kids.length d'] ty)) (.node k 0 0 [x, y]) (.agg #[.int .i64 k, .int .u8 0, .int .u8 0, .slice (some ⟨w.heap.size, 0, none⟩) 2 2]) :=
  Late.of (RtV.mk (s := [x, y]) ⟨hk, ⟨by decide, by decide⟩, ⟨by decide, by decide⟩, by simp⟩ (by simp) (fun h => nomatch h) (row_laid (ts := [⟨x, A, d⟩, ⟨y, B, d'⟩]) (fun t ht => by
    simp only [List.mem_cons, List.not_mem_nil, or_false] at ht
    rcases ht with rfl | rfl
    · exact hx
    · exact hy)))
/-- the first of two Kids alone -/
theorem kids_first {w : World} {x y : Rx} {A B : Option Addr} {d d' : Nat} {ty : TypeId} {k : Int} (hk : I64 k) (hx : RtV w (Lo w.heap.size) x (rxv x.kind x.lo x.hi A x.kids.length d)) (hy : RtV w (Lo w.heap.size) y (rxv y.kind y.lo y.hi B y.kids.length d')) :
    Late (w.alloc (.cells #[.int .i64 x.kind, .int .u8 x.lo, .int .u8 x.hi, .slice A x.kids.length d, .int .i64 y.kind, .int .u8 y.lo, .int .u8 y.hi, .slice B y.kids.length d'] ty)) (.node k 0 0 [x]) (.agg #[.int .i64 k, .int .u8 0, .int .u8 0, .slice (some ⟨w.heap.size, 0, none⟩) 1 2]) :=
  Late.of (RtV.mk (s := [x]) ⟨hk, ⟨by decide, by decide⟩, ⟨by decide, by decide⟩, by simp⟩ (by simp) (fun h => nomatch h) ((row_laid (ts := [⟨x, A, d⟩, ⟨y, B, d'⟩]) (fun t ht => by
    simp only [List.mem_cons, List.not_mem_nil, or_false] at ht
    rcases ht with rfl | rfl
    · exact hx
    · exact hy)).take 1))
/-- the bytes of a string, by position -/
def byt' (S : ByteArray) (i : Nat) : Int := (sb S).getD i 0
theorem sb_append (a b : ByteArray) : sb (a ++ b) = sb a ++ sb b := by
  unfold sb
  rw [ByteArray.data_append, Array.toList_append, List.map_append]
theorem bool_eq {a b : Bool} (h : a = true ↔ b = true) : a = b := by cases a <;> cases b <;> simp_all
theorem mt_alt2 {b : Nat → Int} {x y : Rx} {i j : Nat} : mt b (.node 4 0 0 [x, y]) i j ↔ mt b x i j ∨ mt b y i j := by simp [mt, mtAny]
theorem mt_all2 {b : Nat → Int} {x y : Rx} {j : Nat} : mt b (.node 5 0 0 [x, y]) 0 j ↔ mt b x 0 j ∧ mt b y 0 j := by simp [mt, mtAll]
theorem mt_not1 {b : Nat → Int} {x : Rx} {j : Nat} : mt b (.node 6 0 0 [x]) 0 j ↔ ¬ mt b x 0 j := by simp [mt, mtFst]
theorem mt_star1 {b : Nat → Int} {x : Rx} {i j : Nat} : mt b (.node 7 0 0 [x]) i j ↔ Star (mt b x) i j := by simp [mt]; rfl
theorem mt_cat2 {b : Nat → Int} {x y : Rx} {i j : Nat} : mt b (.node 3 0 0 [x, y]) i j ↔ ∃ m, mt b x i m ∧ mt b y m j := by simp [mt, mtCat]
theorem mt_rng {b : Nat → Int} {l h : Int} {i j : Nat} : mt b (.node 2 l h []) i j ↔ j = i + 1 ∧ l ≤ b i ∧ b i ≤ h := by simp [mt]
theorem star_more {b : Nat → Int} {x : Rx} {n : Nat} : mt b (.node 7 0 0 [x]) 0 n ↔ (n = 0 ∨ mt b (.node 3 0 0 [x, .node 7 0 0 [x]]) 0 n) := by
  rw [mt_star1, mt_cat2, star_zero]
  constructor
  · rintro (e | ⟨m, h1, _, h3⟩)
    · exact .inl e.symm
    · exact .inr ⟨m, h1, mt_star1.2 h3⟩
  · rintro (e | ⟨m, h1, h2⟩)
    · exact .inl e.symm
    · rw [mt_star1] at h2
      by_cases h0 : m = 0
      · subst h0
        exact (star_zero.1 h2)
      · exact .inr ⟨m, h1, by omega, h2⟩
theorem byt_append (T S : ByteArray) (i : Nat) : byt' (T ++ S) i = if i < T.size then byt' T i else byt' S (i - T.size) := by
  unfold byt'
  rw [sb_append, List.getD_eq_getElem?_getD, List.getElem?_append, sb_length]
  split <;> simp [List.getD_eq_getElem?_getD]
/-- a byte in front, and what an expression matches behind it -/
theorem first_led {S T : ByteArray} {c d : Int} {y : Rx} (hT : sb T = [d]) : mt (byt' (T ++ S)) (.node 3 0 0 [.node 2 c c [], y]) 0 (T ++ S).size ↔ c = d ∧ mt (byt' S) y 0 S.size := by
  have h1 : T.size = 1 := by rw [← sb_length, hT]; rfl
  have h0 : byt' (T ++ S) 0 = d := by rw [byt_append, if_pos (by omega)]; simp [byt', hT]
  have hs : (T ++ S).size = 1 + S.size := by rw [ByteArray.size_append, h1]
  rw [mt_cat2, hs]
  have hsh : ∀ j, j ≤ S.size → (mt (byt' S) y 0 j ↔ mt (byt' (T ++ S)) y (1 + 0) (1 + j)) := fun j hj => mt_shift (n := S.size) (fun i hi => by rw [byt_append, if_neg (by omega), h1, Nat.add_sub_cancel_left]) y 0 j hj
  constructor
  · rintro ⟨m, g1, g2⟩
    rw [mt_rng, h0] at g1
    obtain ⟨rfl, g3, g4⟩ := g1
    exact ⟨by omega, (hsh S.size (Nat.le_refl _)).2 g2⟩
  · rintro ⟨rfl, g2⟩
    exact ⟨1, mt_rng.2 ⟨rfl, by rw [h0]; exact Int.le_refl _, by rw [h0]; exact Int.le_refl _⟩, (hsh S.size (Nat.le_refl _)).1 g2⟩
theorem str_ne {S : ByteArray} (h : ¬ S = ByteArray.empty) : (S.toList == []) = false := by
  rw [ByteArray.toList_eq]
  cases hq : S.data.toList with
  | nil => exact absurd (by cases S with | mk d => cases d with | mk l => simp at hq; subst hq; rfl) h
  | cons a l => rfl
end Go.Proofs.YtijcjknaphboeaaGreatDoor
