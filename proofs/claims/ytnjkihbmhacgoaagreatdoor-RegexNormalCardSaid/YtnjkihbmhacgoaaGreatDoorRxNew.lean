/-
  THE MAP OF THE KINDS' FUNCTIONS: look-ups and stores by whole-number keys; a law for a region that comes up in any order, by an invariant; joined.
  THE WALK of newForms: the map of the kinds' functions, whatever order its parts come up in.
-/
import Derived.Test.YtnjkihbmhacgoaaGreatDoorRxNotStar
import Derived.MapKept
import Derived.Orders
namespace Go.Proofs.YtnjkihbmhacgoaaGreatDoor
open Go.RowKit Go.MapKept

/-! ### entries -/
def Look (es : Array MapEntry) (k : Int) : Option (Option (Nat × Value)) := Instr.findNow (.int .i64) (.int .i64 k) es.toList 0

theorem look_empty (k : Int) : Look #[] k = some none := rfl
theorem same_int (a b : Int) : Instr.sameNow (.int .i64) (.int .i64 a) (.int .i64 b) = some (a == b) := by simp [Instr.sameNow]
theorem find_push (k : Int) (e : MapEntry) (k2 : Int) (he : e.key = .int .i64 k2) : ∀ (l : List MapEntry) (i : Nat) (r : Option (Nat × Value)), Instr.findNow (.int .i64) (.int .i64 k) l i = some r →
    Instr.findNow (.int .i64) (.int .i64 k) (l ++ [e]) i = some (match r with | some x => some x | none => if k = k2 then some (i + l.length, e.val) else none)
  | [], i, r, h => by
    obtain rfl := (Option.some.inj h).symm
    simp only [List.nil_append, Instr.findNow, he, same_int]
    by_cases hk : k = k2
    · subst hk; simp
    · rw [show (k == k2) = false from beq_eq_false_iff_ne.2 hk]; simp [hk]
  | x :: l, i, r, h => by
    simp only [List.cons_append, Instr.findNow] at h ⊢
    split at h
    · obtain rfl := (Option.some.inj h).symm; rfl
    · rename_i hs
      have := find_push k e k2 he l (i + 1) r h
      rw [this]
      cases r
      · simp only [List.length_cons]
        rw [show i + 1 + l.length = i + (l.length + 1) by omega]
      · rfl
    · cases h
theorem look_push {es : Array MapEntry} {k k2 : Int} {v : Value} {c : Nat} {r : Option (Nat × Value)} (h : Look es k = some r) : ∃ j, Look (es.push { key := .int .i64 k2, val := v, born := c }) k = some (match r with | some x => some x | none => if k = k2 then some (j, v) else none) :=
  ⟨0 + es.toList.length, by unfold Look at *; rw [Array.toList_push]; exact find_push k _ k2 rfl _ 0 r h⟩

theorem key_int (k : Int) : IsKey (.int .i64) (.int .i64 k) := by simp [IsKey]
theorem run_lookup_int {P : Program} {w : World} {t kt et : TypeId} {b : Nat} {es : Array MapEntry} {clock j : Nat} {k : Int} {v : Value} (ht : P.underlying t = some (.map kt et)) (hk : P.underlying kt = some (.int .i64)) (hb : w.heap[b]? = some (.map es clock)) (hl : Look es k = some (some (j, v))) :
    (Instr.lookup t (.map (some b)) (.int .i64 k) false).run P w = .ok v w := by
  unfold Instr.lookup
  have h1 := Go.MapKept.run_getObj_map (P := P) hb
  have h2 := fun e n => run_checkKey (P := P) (w := w) hk (key_int k) e n
  have h3 := run_findKey (P := P) (w := w) hk hl
  simp [run_underlying ht, Result.andThen, h1, h2 _ 9999, h3]
theorem run_update_int {P : Program} {w : World} {t kt et : TypeId} {b : Nat} {es : Array MapEntry} {clock : Nat} {k : Int} (v : Value) (ht : P.underlying t = some (.map kt et)) (hk : P.underlying kt = some (.int .i64)) (hb : w.heap[b]? = some (.map es clock)) (hl : Look es k = some none) :
    (Instr.mapUpdate t (.map (some b)) (.int .i64 k) v).run P w = .ok () { w with heap := w.heap.setIfInBounds b (.map (es.push { key := .int .i64 k, val := v, born := clock }) (clock + 1)) } := by
  unfold Instr.mapUpdate
  have h1 := Go.MapKept.run_getObj_map (P := P) hb
  have h2 := fun e n => run_checkKey (P := P) (w := w) hk (key_int k) e n
  have h3 := run_findKey (P := P) (w := w) hk hl
  have h4 := Go.MapKept.run_setObj_map (P := P) (.map (es.push { key := .int .i64 k, val := v, born := clock }) (clock + 1)) hb
  simp [run_underlying ht, Result.andThen, h1, h2 _ 9999, h3, h4]

/-! ### a region that comes up in any order -/
theorem count_set : ∀ (l : List Bool) (i : Nat), l[i]? = some false → (l.set i true).count false + 1 = l.count false
  | [], _, h => by simp at h
  | x :: l, 0, h => by simp at h; subst h; simp
  | x :: l, i + 1, h => by
    have := count_set l i (by simpa using h)
    rw [List.set_cons_succ, List.count_cons, List.count_cons]
    omega
/-- AN INVARIANT THAT EACH OPERATION KEEPS, IN WHATEVER ORDER, IS THERE AT THE END. -/
theorem wpAny_inv {P : Program} {md : Region.Mode} {ops : Array Oper} {Q : Exit → Act → World → Prop} (I : Array Bool → Act → World → Prop) (hsz : ∀ l a w, I l a w → l.size = ops.size)
    (step : ∀ i l a w, I l a w → i ∈ Region.ready md ops l → wpOp P ops Q i (fun a' w' => I (l.setIfInBounds i true) a' w') a w)
    (done : ∀ l a w, I l a w → Region.ready md ops l = [] → Q .normal a w) : ∀ (fuel : Nat) (l : Array Bool) (a : Act) (w : World), l.toList.count false ≤ fuel → I l a w → wpAny P md ops Q fuel l a w := by
  have hun : ∀ (l : Array Bool) i, l.size = ops.size → i ∈ Region.ready md ops l → l.toList[i]? = some false := fun l i hl hi => by
    obtain ⟨h1, o, ho, _⟩ := mem_ready.1 hi
    have hlt : i < l.size := by rw [hl]; exact (Array.getElem?_eq_some_iff.1 ho).1
    rw [Array.getElem?_toList, Array.getElem?_eq_getElem hlt]
    simpa [hlt] using h1
  intro fuel
  induction fuel with
  | zero =>
    intro l a w hf hI
    have : Region.ready md ops l = [] := by
      cases hr : Region.ready md ops l with
      | nil => rfl
      | cons i r =>
        have h1 := hun l i (hsz _ _ _ hI) (by rw [hr]; simp)
        have h2 := List.count_pos_iff.2 (List.mem_of_getElem? h1)
        omega
    exact ⟨this, done _ _ _ hI this⟩
  | succ fuel ih =>
    intro l a w hf hI
    refine ⟨done _ _ _ hI, fun i hi => wpOp_mono (fun a' w' h' => ih _ a' w' ?_ h') (step i l a w hI hi)⟩
    have h1 := count_set _ _ (hun l i (hsz _ _ _ hI) hi)
    rw [Array.toList_setIfInBounds]
    omega

/-! ### joined -/
theorem joined_any (neu abs : Rx) (vn va : Value) (F : Nat) (S : Nat → Prop) (w : World) (hn : RtV w S neu vn) (ha : RtV w S abs va) :
    Calls Tryz.prog 40 #[vn, va, .func (.func F) #[] #[]] w fun e w' => e = .returned (.func (.func 56) #[] #[.pointer (some ⟨w.heap.size, 0, none⟩), .pointer (some ⟨w.heap.size + 1, 0, none⟩), .pointer (some ⟨w.heap.size + 1 + 1, 0, none⟩)]) ∧
      ∃ A c B d, vn = rxv neu.kind neu.lo neu.hi A neu.kids.length c ∧ va = rxv abs.kind abs.lo abs.hi B abs.kids.length d ∧ w' = ((w.alloc (.cells #[.int .i64 neu.kind, .int .u8 neu.lo, .int .u8 neu.hi, .slice A neu.kids.length c] 30)).alloc (.cells #[.int .i64 abs.kind, .int .u8 abs.lo, .int .u8 abs.hi, .slice B abs.kids.length d] 30)).alloc (.cells #[.func (.func F) #[] #[]] 76) := by
  obtain ⟨_, A, c, rfl, _⟩ := hn.parts
  obtain ⟨_, B, d, rfl, _⟩ := ha.parts
  clear hn ha
  unfold rxv
  go_enter Tryz.func40, Tryz.ntmps40
  go_wp2_with fail
  go_ret
  exact ⟨rfl, A, c, B, d, rfl, rfl, rfl⟩
end Go.Proofs.YtnjkihbmhacgoaaGreatDoor

namespace Go.Proofs.YtnjkihbmhacgoaaGreatDoor
open Go.RowKit Go.MapKept

/-- joined's closure, its three variables in blocks of their own -/
def JAt (w : World) (S : Nat → Prop) (v : Value) (neu abs : Rx) (F : Nat) : Prop :=
  ∃ b1 b2 b3, v = .func (.func 56) #[] #[.pointer (some ⟨b1, 0, none⟩), .pointer (some ⟨b2, 0, none⟩), .pointer (some ⟨b3, 0, none⟩)] ∧ BoxAt w S b1 neu ∧ BoxAt w S b2 abs ∧ b3 < w.heap.size ∧ w.heap[b3]? = some (.cells #[.func (.func F) #[] #[]] 76 (0, 0))
/-- the function of a kind -/
def KindV (w : World) (S : Nat → Prop) (k : Int) (v : Value) : Prop :=
  ((k = 0 ∨ k = 1 ∨ k = 2) ∧ v = .func (.func 39) #[] #[]) ∨ (k = 3 ∧ JAt w S v oneR nilR 41) ∨ (k = 4 ∧ JAt w S v nilR allR 42) ∨ (k = 5 ∧ JAt w S v allR nilR 42) ∨ (k = 6 ∧ v = .func (.func 43) #[] #[]) ∨
  (k = 7 ∧ ∃ b1 b2, v = .func (.func 44) #[] #[.pointer (some ⟨b1, 0, none⟩), .pointer (some ⟨b2, 0, none⟩)] ∧ BoxAt w S b1 oneR ∧ BoxAt w S b2 allR)
/-- the map of all kinds' functions -/
def FormsAt (w : World) (S : Nat → Prop) (f : Value) : Prop :=
  ∃ m es clock, f = .map (some m) ∧ w.heap[m]? = some (.map es clock) ∧ ∀ k : Int, 0 ≤ k → k < 8 → ∃ j v, Look es k = some (some (j, v)) ∧ KindV w S k v

/-- what is no map, and what S names, is as it was -/
def Keeps (w w' : World) : Prop := w.heap.size ≤ w'.heap.size ∧ ∀ (b : Nat) cs t fr, w.heap[b]? = some (.cells cs t fr) → w'.heap[b]? = some (.cells cs t fr)
theorem Keeps.of_below {w w' : World} (h : Below w.heap.size w w') : Keeps w w' := ⟨h.size, fun b _ _ _ hb => (h.block b (Array.getElem?_eq_some_iff.1 hb).1).trans hb⟩
/-- the blocks of S are cells -/
def SCells (w : World) (S : Nat → Prop) : Prop := ∀ b, S b → ∃ cs t fr, w.heap[b]? = some (.cells cs t fr)
theorem SCells.keep {w w' : World} {S : Nat → Prop} (h : SCells w S) (hk : Keeps w w') : SCells w' S := fun b hb => by
  obtain ⟨cs, t, fr, h1⟩ := h b hb
  exact ⟨cs, t, fr, hk.2 _ _ _ _ h1⟩
theorem RtV.keeps {w w' : World} {S : Nat → Prop} {x : Rx} {v : Value} (h : RtV w S x v) (hS : SCells w S) (hk : Keeps w w') : RtV w' S x v := RtV.to (fun b hb => ⟨hb, by
  obtain ⟨cs, t, fr, h1⟩ := hS b hb
  rw [h1]; exact hk.2 _ _ _ _ h1⟩) x h
theorem BoxAt.keeps {w w' : World} {S : Nat → Prop} {b : Nat} {x : Rx} (h : BoxAt w S b x) (hS : SCells w S) (hk : Keeps w w') : BoxAt w' S b x := by
  obtain ⟨hlt, A, c, h1, h2⟩ := h
  exact ⟨Nat.lt_of_lt_of_le hlt hk.1, A, c, hk.2 _ _ _ _ h1, h2.keeps hS hk⟩
theorem JAt.keeps {w w' : World} {S : Nat → Prop} {v : Value} {neu abs : Rx} {F : Nat} (h : JAt w S v neu abs F) (hS : SCells w S) (hk : Keeps w w') : JAt w' S v neu abs F := by
  obtain ⟨b1, b2, b3, e, h1, h2, h3, h4⟩ := h
  exact ⟨b1, b2, b3, e, h1.keeps hS hk, h2.keeps hS hk, Nat.lt_of_lt_of_le h3 hk.1, hk.2 _ _ _ _ h4⟩
theorem KindV.keeps {w w' : World} {S : Nat → Prop} {k : Int} {v : Value} (h : KindV w S k v) (hS : SCells w S) (hk : Keeps w w') : KindV w' S k v := by
  rcases h with h | ⟨e, h⟩ | ⟨e, h⟩ | ⟨e, h⟩ | h | ⟨e, b1, b2, e2, h1, h2⟩
  · exact .inl h
  · exact .inr (.inl ⟨e, h.keeps hS hk⟩)
  · exact .inr (.inr (.inl ⟨e, h.keeps hS hk⟩))
  · exact .inr (.inr (.inr (.inl ⟨e, h.keeps hS hk⟩)))
  · exact .inr (.inr (.inr (.inr (.inl h))))
  · exact .inr (.inr (.inr (.inr (.inr ⟨e, b1, b2, e2, h1.keeps hS hk, h2.keeps hS hk⟩))))
theorem JAt.keep {w w' : World} {S : Nat → Prop} {v : Value} {neu abs : Rx} {F : Nat} (h : JAt w S v neu abs F) (hS : SOk S w.heap.size) (hk : Below w.heap.size w w') : JAt w' S v neu abs F := by
  obtain ⟨b1, b2, b3, e, h1, h2, h3, h4⟩ := h
  exact ⟨b1, b2, b3, e, h1.keep hS hk, h2.keep hS hk, Nat.lt_of_lt_of_le h3 hk.size, (hk.block _ h3).trans h4⟩
theorem KindV.keep {w w' : World} {S : Nat → Prop} {k : Int} {v : Value} (h : KindV w S k v) (hS : SOk S w.heap.size) (hk : Below w.heap.size w w') : KindV w' S k v := by
  rcases h with h | ⟨e, h⟩ | ⟨e, h⟩ | ⟨e, h⟩ | h | ⟨e, b1, b2, e2, h1, h2⟩
  · exact .inl h
  · exact .inr (.inl ⟨e, h.keep hS hk⟩)
  · exact .inr (.inr (.inl ⟨e, h.keep hS hk⟩))
  · exact .inr (.inr (.inr (.inl ⟨e, h.keep hS hk⟩)))
  · exact .inr (.inr (.inr (.inr (.inl h))))
  · exact .inr (.inr (.inr (.inr (.inr ⟨e, b1, b2, e2, h1.keep hS hk, h2.keep hS hk⟩))))
theorem FormsAt.keep {w w' : World} {S : Nat → Prop} {f : Value} (h : FormsAt w S f) (hS : SOk S w.heap.size) (hk : Below w.heap.size w w') : FormsAt w' S f := by
  obtain ⟨m, es, clock, e, h1, h2⟩ := h
  refine ⟨m, es, clock, e, (hk.block m (Array.getElem?_eq_some_iff.1 h1).1).trans h1, fun k h3 h4 => ?_⟩
  obtain ⟨j, v, h5, h6⟩ := h2 k h3 h4
  exact ⟨j, v, h5, h6.keep hS hk⟩

/-- everything's value -/
def allV (n : Nat) : Value := .agg #[.int .i64 6, .int .u8 0, .int .u8 0, .slice (some ⟨n + 1 + 1, 0, none⟩) 1 1]
/-- the blocks of the three expressions -/
def S4 (n : Nat) : Nat → Prop := fun b => n ≤ b ∧ b < n + 4
/-- an entry that is there, or not yet -/
def Ent (w : World) (n : Nat) (es : Array MapEntry) (k : Int) (b : Bool) : Prop := (b = true → ∃ j v, Look es k = some (some (j, v)) ∧ KindV w (S4 n) k v) ∧ (b = false → Look es k = some none)
/-- WHAT HOLDS WHILE THE MAP IS MADE, in whatever order -/
structure InvP (n : Nat) (w0 : World) (l0 l1 l2 l3 l4 l5 l6 l7 l8 l9 l10 l11 l12 l13 l14 l15 l16 l17 l18 l19 l20 l21 l22 l23 : Bool) (s0 s10 s11 s12 s13 s14 s15 s16 s17 s18 s19 s20 s21 s22 s23 s24 : Value) (w : World) : Prop where
  k1 : l1 = true → s11 = .func (.func 39) #[] #[]
  k3 : l3 = true → s12 = .func (.func 39) #[] #[]
  k5 : l5 = true → s13 = .func (.func 39) #[] #[]
  k7 : l7 = true → s14 = rxv 1 0 0 none 0 0
  k8 : l8 = true → s15 = rxv 0 0 0 none 0 0
  k11 : l11 = true → s17 = rxv 0 0 0 none 0 0
  k12 : l12 = true → s18 = allV n
  k15 : l15 = true → s20 = allV n
  k16 : l16 = true → s21 = rxv 0 0 0 none 0 0
  k20 : l20 = true → s23 = .func (.func 44) #[] #[.pointer (some ⟨n + 1, 0, none⟩), .pointer (some ⟨n + 1 + 1 + 1, 0, none⟩)]
  k9 : l9 = true → JAt w (S4 n) s16 oneR nilR 41
  k13 : l13 = true → JAt w (S4 n) s19 nilR allR 42
  k17 : l17 = true → JAt w (S4 n) s22 allR nilR 42
  km : l0 = true → ∃ m es clock, s10 = .map (some m) ∧ w.heap[m]? = some (.map es clock) ∧ n + 4 ≤ m ∧ Ent w n es 0 l2 ∧ Ent w n es 1 l4 ∧ Ent w n es 2 l6 ∧ Ent w n es 3 l10 ∧ Ent w n es 4 l14 ∧ Ent w n es 5 l18 ∧ Ent w n es 6 l19 ∧ Ent w n es 7 l21
  kn : l0 = false → l2 = false ∧ l4 = false ∧ l6 = false ∧ l10 = false ∧ l14 = false ∧ l18 = false ∧ l19 = false ∧ l21 = false
  k22 : l22 = true → s24 = s10 ∧ l0 = true ∧ l2 = true ∧ l4 = true ∧ l6 = true ∧ l10 = true ∧ l14 = true ∧ l18 = true ∧ l19 = true ∧ l21 = true
  k23 : l23 = true → s0 = s10 ∧ l22 = true
  kk : Keeps w0 w
  kb : Below n w0 w
def Inv (n : Nat) (w0 : World) (l : Array Bool) (a : Act) (w : World) : Prop := ∃ l0 l1 l2 l3 l4 l5 l6 l7 l8 l9 l10 l11 l12 l13 l14 l15 l16 l17 l18 l19 l20 l21 l22 l23 s0 s10 s11 s12 s13 s14 s15 s16 s17 s18 s19 s20 s21 s22 s23 s24, l = #[l0, l1, l2, l3, l4, l5, l6, l7, l8, l9, l10, l11, l12, l13, l14, l15, l16, l17, l18, l19, l20, l21, l22, l23] ∧ a = { tmps := #[s0, .pointer (some ⟨n, 0, none⟩), .pointer (some ⟨n + 1, 0, none⟩), .pointer (some ⟨n + 1 + 1 + 1, 0, none⟩), .func (.func 39) #[] #[], rxv 0 0 0 none 0 0, rxv 1 0 0 none 0 0, rxv 0 0 0 none 0 0, .slice (some ⟨n + 1 + 1, 0, none⟩) 1 1, allV n, s10, s11, s12, s13, s14, s15, s16, s17, s18, s19, s20, s21, s22, s23, s24], defers := [] } ∧ InvP n w0 l0 l1 l2 l3 l4 l5 l6 l7 l8 l9 l10 l11 l12 l13 l14 l15 l16 l17 l18 l19 l20 l21 l22 l23 s0 s10 s11 s12 s13 s14 s15 s16 s17 s18 s19 s20 s21 s22 s23 s24 w

theorem InvP.size {n : Nat} {w0 w : World} {l0 l1 l2 l3 l4 l5 l6 l7 l8 l9 l10 l11 l12 l13 l14 l15 l16 l17 l18 l19 l20 l21 l22 l23 : Bool} {s0 s10 s11 s12 s13 s14 s15 s16 s17 s18 s19 s20 s21 s22 s23 s24 : Value} (h : InvP n w0 l0 l1 l2 l3 l4 l5 l6 l7 l8 l9 l10 l11 l12 l13 l14 l15 l16 l17 l18 l19 l20 l21 l22 l23 s0 s10 s11 s12 s13 s14 s15 s16 s17 s18 s19 s20 s21 s22 s23 s24 w) (hz : w0.heap.size = n + 4) : n + 4 ≤ w.heap.size := hz ▸ h.kk.1

theorem wpOp_plain {P : Program} {ops : Array Oper} {Q : Exit → Act → World → Prop} {i : Nat} {K : Act → World → Prop} {a : Act} {w : World} {o : Oper} (ho : ops[i]? = some o) (hg : o.guard = none) (h : o.wp P a w K Q) : wpOp P ops Q i K a w := by
  unfold wpOp
  simp only [ho, Region.wanted, hg]
  exact .inl h
/-- what the first three expressions look like in memory, once they are laid -/
structure Laid (n : Nat) (w : World) : Prop where
  h0 : w.heap[n]? = some (.cells #[.int .i64 0, .int .u8 0, .int .u8 0, .slice none 0 0] 30 (0, 0))
  h1 : w.heap[n + 1]? = some (.cells #[.int .i64 1, .int .u8 0, .int .u8 0, .slice none 0 0] 30 (0, 0))
  h2 : w.heap[n + 1 + 1]? = some (.cells #[.int .i64 0, .int .u8 0, .int .u8 0, .slice none 0 0] 30 (0, 0))
  h3 : w.heap[n + 1 + 1 + 1]? = some (.cells #[.int .i64 6, .int .u8 0, .int .u8 0, .slice (some ⟨n + 1 + 1, 0, none⟩) 1 1] 30 (0, 0))


theorem Keeps.trans {a b c : World} (h1 : Keeps a b) (h2 : Keeps b c) : Keeps a c := ⟨Nat.le_trans h1.1 h2.1, fun _ _ _ _ h => h2.2 _ _ _ _ (h1.2 _ _ _ _ h)⟩
theorem Keeps.of_map {w : World} {m : Nat} {es : Array MapEntry} {clock : Nat} (hm : w.heap[m]? = some (.map es clock)) (o : Obj) : Keeps w { w with heap := w.heap.setIfInBounds m o } := ⟨by simp, fun b cs t fr hb => by
  have hne : b ≠ m := fun e => by subst e; rw [hm] at hb; cases hb
  exact ((MapKept.heap_set hm).2 b hne).trans hb⟩
theorem below_map {n m : Nat} {w0 w : World} (h : Below n w0 w) (hm : n ≤ m) (o : Obj) : Below n w0 { w with heap := w.heap.setIfInBounds m o } :=
  ⟨h.os, h.tape, h.output, by simpa using h.size, fun b hb => (by
    have : (w.heap.setIfInBounds m o)[b]? = w.heap[b]? := by simp [show ¬ m = b by omega]
    exact this.trans (h.block b hb))⟩
theorem heap_alloc_map (w : World) : (w.alloc (.map #[] 0)).heap[w.heap.size]? = some (.map #[] 0) := heap_alloc_new w _
theorem rtx_one (w : World) (S : Nat → Prop) : RtV w S oneR (rxv 1 0 0 none 0 0) := by
  simp only [oneR, RtV, RtL]
  exact ⟨⟨by unfold I64; omega, by decide, by decide, by decide⟩, none, 0, rfl, Nat.le_refl _, fun _ => rfl, trivial⟩
theorem rtx_nil (w : World) (S : Nat → Prop) : RtV w S nilR (rxv 0 0 0 none 0 0) := by
  simp only [nilR, RtV, RtL]
  exact ⟨⟨by unfold I64; omega, by decide, by decide, by decide⟩, none, 0, rfl, Nat.le_refl _, fun _ => rfl, trivial⟩
theorem Laid.all {n : Nat} {w : World} (h : Laid n w) : RtV w (S4 n) allR (allV n) := by
  simp only [allR, RtV, RtL]
  refine ⟨⟨by unfold I64; omega, by decide, by decide, by decide⟩, some ⟨n + 1 + 1, 0, none⟩, 1, rfl, Nat.le_refl _, (fun h => nomatch h), n + 1 + 1, 0, none, 0, rfl, ⟨by omega, by omega⟩, four h.h2, rtx_nil w _, trivial⟩
theorem S4_cells {n : Nat} {w : World} (h : Laid n w) : SCells w (S4 n) := fun b hb => by
  obtain ⟨h1, h2⟩ := hb
  obtain rfl | rfl | rfl | rfl : b = n ∨ b = n + 1 ∨ b = n + 1 + 1 ∨ b = n + 1 + 1 + 1 := by omega
  · exact ⟨_, _, _, h.h0⟩
  · exact ⟨_, _, _, h.h1⟩
  · exact ⟨_, _, _, h.h2⟩
  · exact ⟨_, _, _, h.h3⟩
theorem Laid.box1 {n : Nat} {w : World} (h : Laid n w) (hz : w.heap.size = n + 4) : BoxAt w (S4 n) (n + 1) oneR := ⟨by omega, none, 0, h.h1, rtx_one _ _⟩
theorem Laid.box3 {n : Nat} {w : World} (h : Laid n w) (hz : w.heap.size = n + 4) : BoxAt w (S4 n) (n + 1 + 1 + 1) allR := ⟨by omega, some ⟨n + 1 + 1, 0, none⟩, 1, h.h3, h.all⟩
theorem Ent.keeps {w w' : World} {n : Nat} {es : Array MapEntry} {k : Int} {b : Bool} (h : Ent w n es k b) (hS : SCells w (S4 n)) (hK : Keeps w w') : Ent w' n es k b := ⟨fun e => by
  obtain ⟨j, v, h1, h2⟩ := h.1 e
  exact ⟨j, v, h1, h2.keeps hS hK⟩, h.2⟩
theorem Ent.miss {w w' : World} {n : Nat} {es : Array MapEntry} {k k2 : Int} {b : Bool} {v : Value} {c : Nat} (h : Ent w n es k b) (hk : k ≠ k2) (hS : SCells w (S4 n)) (hK : Keeps w w') : Ent w' n (es.push { key := .int .i64 k2, val := v, born := c }) k b := by
  have h' := h.keeps hS hK
  refine ⟨fun e => ?_, fun e => ?_⟩
  · obtain ⟨j, u, h1, h2⟩ := h'.1 e
    obtain ⟨_, h3⟩ := look_push (k2 := k2) (v := v) (c := c) h1
    exact ⟨j, u, h3, h2⟩
  · obtain ⟨_, h3⟩ := look_push (k2 := k2) (v := v) (c := c) (h'.2 e)
    rw [if_neg hk] at h3
    exact h3
theorem Ent.hit {w w' : World} {n : Nat} {es : Array MapEntry} {k : Int} {b : Bool} {v : Value} {c : Nat} (h : Ent w n es k b) (hb : b = false) (hv : KindV w' (S4 n) k v) : Ent w' n (es.push { key := .int .i64 k, val := v, born := c }) k true := by
  refine ⟨fun _ => ?_, fun e => by cases e⟩
  obtain ⟨j, h3⟩ := look_push (k2 := k) (v := v) (c := c) (h.2 hb)
  rw [if_pos rfl] at h3
  exact ⟨j, v, h3, hv⟩
theorem jat_new {w w1 : World} {n : Nat} {neu abs : Rx} {F : Nat} {vn va : Value} {A B : Option Addr} {c d : Nat} (ea : vn = rxv neu.kind neu.lo neu.hi A neu.kids.length c) (eb : va = rxv abs.kind abs.lo abs.hi B abs.kids.length d)
    (hw : w1 = ((w.alloc (.cells #[.int .i64 neu.kind, .int .u8 neu.lo, .int .u8 neu.hi, .slice A neu.kids.length c] 30)).alloc (.cells #[.int .i64 abs.kind, .int .u8 abs.lo, .int .u8 abs.hi, .slice B abs.kids.length d] 30)).alloc (.cells #[.func (.func F) #[] #[]] 76))
    (h1 : RtV w (S4 n) neu vn) (h2 : RtV w (S4 n) abs va) (hS : SOk (S4 n) w.heap.size) :
    JAt w1 (S4 n) (.func (.func 56) #[] #[.pointer (some ⟨w.heap.size, 0, none⟩), .pointer (some ⟨w.heap.size + 1, 0, none⟩), .pointer (some ⟨w.heap.size + 1 + 1, 0, none⟩)]) neu abs F := by
  subst ea eb hw
  have hB : ∀ o1 o2 o3, Below w.heap.size w (((w.alloc o1).alloc o2).alloc o3) := fun _ _ _ => below_alloc3 (Below.refl _ _) (Nat.le_refl _) _ _ _
  refine ⟨w.heap.size, w.heap.size + 1, w.heap.size + 1 + 1, rfl, ⟨by simp; omega, A, c, ?_, h1.keep hS (hB _ _ _)⟩, ⟨by simp, B, d, ?_, h2.keep hS (hB _ _ _)⟩, by simp, heap_alloc_new_at _ _ (by simp)⟩
  · exact (heap_alloc_old _ _ _ (by simp; omega)).trans ((heap_alloc_old _ _ _ (by simp)).trans (heap_alloc_new w _))
  · exact (heap_alloc_old _ _ _ (by simp)).trans (heap_alloc_new_at _ _ (by simp))

set_option maxHeartbeats 4000000 in
set_option maxRecDepth 100000 in
theorem newForms_any (w : World) : Calls Tryz.prog 21 #[] w fun e w' => ∃ f, e = .returned f ∧ FormsAt w' (S4 w.heap.size) f ∧ Below w.heap.size w w' ∧ w.heap.size + 4 ≤ w'.heap.size := by
  go_enter Tryz.func21, Tryz.ntmps21
  go_wp2_with fail
  obtain ⟨W0, hW0⟩ : ∃ W0, (((w.alloc (.cells #[.int .i64 0, .int .u8 0, .int .u8 0, .slice none 0 0] 30)).alloc (.cells #[.int .i64 1, .int .u8 0, .int .u8 0, .slice none 0 0] 30)).alloc (.cells #[.int .i64 0, .int .u8 0, .int .u8 0, .slice none 0 0] 30)).alloc (.cells #[.int .i64 6, .int .u8 0, .int .u8 0, .slice (some ⟨w.heap.size + 1 + 1, 0, none⟩) 1 1] 30) = W0 := ⟨_, rfl⟩
  have hL0 : Laid w.heap.size W0 := by
    rw [← hW0]
    exact ⟨(heap_alloc_old _ _ _ (by simp <;> omega)).trans ((heap_alloc_old _ _ _ (by simp <;> omega)).trans ((heap_alloc_old _ _ _ (by simp <;> omega)).trans (heap_alloc_new w _))), (heap_alloc_old _ _ _ (by simp <;> omega)).trans ((heap_alloc_old _ _ _ (by simp)).trans (heap_alloc_new_at _ _ (by simp))), (heap_alloc_old _ _ _ (by simp)).trans (heap_alloc_new_at _ _ (by simp)), heap_alloc_new_at _ _ (by simp)⟩
  have hz0 : W0.heap.size = w.heap.size + 4 := by rw [← hW0]; simp
  have hB0 : Below w.heap.size w W0 := by rw [← hW0]; exact (below_alloc3 (Below.refl _ _) (Nat.le_refl _) _ _ _).alloc (by simp; omega) _
  rw [hW0]
  clear hW0
  generalize hn : w.heap.size = n at *
  refine wp_region_any (by kernel_rfl) ?_
  change wpAny _ _ _ _ _ _ _ W0.drew
  refine wpAny_inv (Inv n W0) (fun l a w ⟨_, _, _, _, _, _, _, _, _, _, _, _, _, _, _, _, _, _, _, _, _, _, _, _, _, _, _, _, _, _, _, _, _, _, _, _, _, _, _, _, hl, _⟩ => by rw [hl]; rfl) ?_ ?_ _ _ _ _ (by decide) ?_
  · intro i l a w hI hi
    obtain ⟨hu, o, ho, hall⟩ := mem_ready.1 hi
    have hlt : i < 24 := (Array.getElem?_eq_some_iff.1 ho).1
    obtain ⟨l0, l1, l2, l3, l4, l5, l6, l7, l8, l9, l10, l11, l12, l13, l14, l15, l16, l17, l18, l19, l20, l21, l22, l23, s0, s10, s11, s12, s13, s14, s15, s16, s17, s18, s19, s20, s21, s22, s23, s24, rfl, rfl, hP⟩ := hI
    -- @cases
    obtain rfl | h0 : i = 0 ∨ i ≠ 0 := by omega
    · refine wpOp_plain ho (by cases ho; rfl) ?_
      cases ho
      clear hi hlt
      have u0 : l0 = false := hu
      have hmk := run_makeMap (P := Tryz.prog) 54 w
      have hK : Keeps w (w.alloc (.map #[] 0)) := Keeps.of_below ((Below.refl _ _).alloc (Nat.le_refl _) _)
      have hSC := (S4_cells hL0).keep hP.kk
      go_simp
      refine ⟨true, l1, l2, l3, l4, l5, l6, l7, l8, l9, l10, l11, l12, l13, l14, l15, l16, l17, l18, l19, l20, l21, l22, l23, s0, .map (some w.heap.size), s11, s12, s13, s14, s15, s16, s17, s18, s19, s20, s21, s22, s23, s24, rfl, rfl, ?_⟩
      obtain ⟨z0, z1, z2, z3, z4, z5, z6, z7⟩ := hP.kn u0
      subst z0 z1 z2 z3 z4 z5 z6 z7
      have hE : ∀ k, Ent (w.alloc (.map #[] 0)) n #[] k false := fun k => ⟨fun h => (by cases h), fun _ => rfl⟩
      exact { hP with km := fun _ => ⟨_, #[], 0, rfl, heap_alloc_map w, hP.size hz0, hE _, hE _, hE _, hE _, hE _, hE _, hE _, hE _⟩, kn := fun h => by (cases h), k22 := fun h => (by have := (hP.k22 h).2.1; rw [u0] at this; cases this), k23 := fun h => (by have := (hP.k22 (hP.k23 h).2).2.1; rw [u0] at this; cases this), k9 := fun h => (hP.k9 h).keeps hSC hK, k13 := fun h => (hP.k13 h).keeps hSC hK, k17 := fun h => (hP.k17 h).keeps hSC hK, kk := hP.kk.trans hK, kb := hP.kb.alloc (by have := hP.size hz0; omega) _ }
    obtain rfl | h1 : i = 1 ∨ i ≠ 1 := by omega
    · refine wpOp_plain ho (by cases ho; rfl) ?_
      cases ho
      clear hi hlt
      have u1 : l1 = false := hu
      go_simp
      exact ⟨l0, true, l2, l3, l4, l5, l6, l7, l8, l9, l10, l11, l12, l13, l14, l15, l16, l17, l18, l19, l20, l21, l22, l23, s0, s10, .func (.func 39) #[] #[], s12, s13, s14, s15, s16, s17, s18, s19, s20, s21, s22, s23, s24, rfl, rfl, { hP with k1 := fun _ => rfl }⟩
    obtain rfl | h2 : i = 2 ∨ i ≠ 2 := by omega
    · refine wpOp_plain ho (by cases ho; rfl) ?_
      cases ho
      clear hi hlt
      have u2 : l2 = false := hu
      have g0 : Hid (l0 = true) := Lib.hid (hall { on := 0, ground := .data } (by simp) rfl)
      have g1 : Hid (l1 = true) := Lib.hid (hall { on := 1, ground := .data } (by simp) rfl)
      have hv := hP.k1 g1.out
      subst hv
      obtain ⟨m, es, clock, rfl, hm, hmn, x0, x1, x2, x3, x4, x5, x6, x7⟩ := hP.km g0.out
      have hrun := run_update_int (P := Tryz.prog) (t := 54) (kt := 3) (et := 56) (.func (.func 39) #[] #[]) Tryz.underlying54 Tryz.underlying3 hm (x0.2 u2)
      obtain ⟨W, hW⟩ : ∃ W : World, { w with heap := w.heap.setIfInBounds m (.map (es.push { key := .int .i64 0, val := .func (.func 39) #[] #[], born := clock }) (clock + 1)) } = W := ⟨_, rfl⟩
      have hK : Keeps w W := hW ▸ Keeps.of_map hm _
      have hSC := (S4_cells hL0).keep hP.kk
      have hmW : W.heap[m]? = some (.map (es.push { key := .int .i64 0, val := .func (.func 39) #[] #[], born := clock }) (clock + 1)) := hW ▸ (MapKept.heap_set hm).1
      have hbW : Below n W0 W := hW ▸ below_map hP.kb (by omega) _
      rw [hW] at hrun
      clear hW
      go_simp
      refine ⟨l0, l1, true, l3, l4, l5, l6, l7, l8, l9, l10, l11, l12, l13, l14, l15, l16, l17, l18, l19, l20, l21, l22, l23, s0, .map (some m), .func (.func 39) #[] #[], s12, s13, s14, s15, s16, s17, s18, s19, s20, s21, s22, s23, s24, rfl, rfl, ?_⟩
      exact { hP with km := fun _ => ⟨m, _, _, rfl, hmW, hmn, x0.hit (u2) (.inl ⟨by decide, rfl⟩), x1.miss (by decide) hSC hK, x2.miss (by decide) hSC hK, x3.miss (by decide) hSC hK, x4.miss (by decide) hSC hK, x5.miss (by decide) hSC hK, x6.miss (by decide) hSC hK, x7.miss (by decide) hSC hK⟩, kn := fun h => by (rw [g0.out] at h; cases h), k22 := fun h => (by have := hP.k22 h; rw [u2] at this; simp at this), k9 := fun h => (hP.k9 h).keeps hSC hK, k13 := fun h => (hP.k13 h).keeps hSC hK, k17 := fun h => (hP.k17 h).keeps hSC hK, kk := hP.kk.trans hK, kb := hbW }
    obtain rfl | h3 : i = 3 ∨ i ≠ 3 := by omega
    · refine wpOp_plain ho (by cases ho; rfl) ?_
      cases ho
      clear hi hlt
      have u3 : l3 = false := hu
      go_simp
      exact ⟨l0, l1, l2, true, l4, l5, l6, l7, l8, l9, l10, l11, l12, l13, l14, l15, l16, l17, l18, l19, l20, l21, l22, l23, s0, s10, s11, .func (.func 39) #[] #[], s13, s14, s15, s16, s17, s18, s19, s20, s21, s22, s23, s24, rfl, rfl, { hP with k3 := fun _ => rfl }⟩
    obtain rfl | h4 : i = 4 ∨ i ≠ 4 := by omega
    · refine wpOp_plain ho (by cases ho; rfl) ?_
      cases ho
      clear hi hlt
      have u4 : l4 = false := hu
      have g0 : Hid (l0 = true) := Lib.hid (hall { on := 0, ground := .data } (by simp) rfl)
      have g3 : Hid (l3 = true) := Lib.hid (hall { on := 3, ground := .data } (by simp) rfl)
      have hv := hP.k3 g3.out
      subst hv
      obtain ⟨m, es, clock, rfl, hm, hmn, x0, x1, x2, x3, x4, x5, x6, x7⟩ := hP.km g0.out
      have hrun := run_update_int (P := Tryz.prog) (t := 54) (kt := 3) (et := 56) (.func (.func 39) #[] #[]) Tryz.underlying54 Tryz.underlying3 hm (x1.2 u4)
      obtain ⟨W, hW⟩ : ∃ W : World, { w with heap := w.heap.setIfInBounds m (.map (es.push { key := .int .i64 1, val := .func (.func 39) #[] #[], born := clock }) (clock + 1)) } = W := ⟨_, rfl⟩
      have hK : Keeps w W := hW ▸ Keeps.of_map hm _
      have hSC := (S4_cells hL0).keep hP.kk
      have hmW : W.heap[m]? = some (.map (es.push { key := .int .i64 1, val := .func (.func 39) #[] #[], born := clock }) (clock + 1)) := hW ▸ (MapKept.heap_set hm).1
      have hbW : Below n W0 W := hW ▸ below_map hP.kb (by omega) _
      rw [hW] at hrun
      clear hW
      go_simp
      refine ⟨l0, l1, l2, l3, true, l5, l6, l7, l8, l9, l10, l11, l12, l13, l14, l15, l16, l17, l18, l19, l20, l21, l22, l23, s0, .map (some m), s11, .func (.func 39) #[] #[], s13, s14, s15, s16, s17, s18, s19, s20, s21, s22, s23, s24, rfl, rfl, ?_⟩
      exact { hP with km := fun _ => ⟨m, _, _, rfl, hmW, hmn, x0.miss (by decide) hSC hK, x1.hit (u4) (.inl ⟨by decide, rfl⟩), x2.miss (by decide) hSC hK, x3.miss (by decide) hSC hK, x4.miss (by decide) hSC hK, x5.miss (by decide) hSC hK, x6.miss (by decide) hSC hK, x7.miss (by decide) hSC hK⟩, kn := fun h => by (rw [g0.out] at h; cases h), k22 := fun h => (by have := hP.k22 h; rw [u4] at this; simp at this), k9 := fun h => (hP.k9 h).keeps hSC hK, k13 := fun h => (hP.k13 h).keeps hSC hK, k17 := fun h => (hP.k17 h).keeps hSC hK, kk := hP.kk.trans hK, kb := hbW }
    obtain rfl | h5 : i = 5 ∨ i ≠ 5 := by omega
    · refine wpOp_plain ho (by cases ho; rfl) ?_
      cases ho
      clear hi hlt
      have u5 : l5 = false := hu
      go_simp
      exact ⟨l0, l1, l2, l3, l4, true, l6, l7, l8, l9, l10, l11, l12, l13, l14, l15, l16, l17, l18, l19, l20, l21, l22, l23, s0, s10, s11, s12, .func (.func 39) #[] #[], s14, s15, s16, s17, s18, s19, s20, s21, s22, s23, s24, rfl, rfl, { hP with k5 := fun _ => rfl }⟩
    obtain rfl | h6 : i = 6 ∨ i ≠ 6 := by omega
    · refine wpOp_plain ho (by cases ho; rfl) ?_
      cases ho
      clear hi hlt
      have u6 : l6 = false := hu
      have g0 : Hid (l0 = true) := Lib.hid (hall { on := 0, ground := .data } (by simp) rfl)
      have g5 : Hid (l5 = true) := Lib.hid (hall { on := 5, ground := .data } (by simp) rfl)
      have hv := hP.k5 g5.out
      subst hv
      obtain ⟨m, es, clock, rfl, hm, hmn, x0, x1, x2, x3, x4, x5, x6, x7⟩ := hP.km g0.out
      have hrun := run_update_int (P := Tryz.prog) (t := 54) (kt := 3) (et := 56) (.func (.func 39) #[] #[]) Tryz.underlying54 Tryz.underlying3 hm (x2.2 u6)
      obtain ⟨W, hW⟩ : ∃ W : World, { w with heap := w.heap.setIfInBounds m (.map (es.push { key := .int .i64 2, val := .func (.func 39) #[] #[], born := clock }) (clock + 1)) } = W := ⟨_, rfl⟩
      have hK : Keeps w W := hW ▸ Keeps.of_map hm _
      have hSC := (S4_cells hL0).keep hP.kk
      have hmW : W.heap[m]? = some (.map (es.push { key := .int .i64 2, val := .func (.func 39) #[] #[], born := clock }) (clock + 1)) := hW ▸ (MapKept.heap_set hm).1
      have hbW : Below n W0 W := hW ▸ below_map hP.kb (by omega) _
      rw [hW] at hrun
      clear hW
      go_simp
      refine ⟨l0, l1, l2, l3, l4, l5, true, l7, l8, l9, l10, l11, l12, l13, l14, l15, l16, l17, l18, l19, l20, l21, l22, l23, s0, .map (some m), s11, s12, .func (.func 39) #[] #[], s14, s15, s16, s17, s18, s19, s20, s21, s22, s23, s24, rfl, rfl, ?_⟩
      exact { hP with km := fun _ => ⟨m, _, _, rfl, hmW, hmn, x0.miss (by decide) hSC hK, x1.miss (by decide) hSC hK, x2.hit (u6) (.inl ⟨by decide, rfl⟩), x3.miss (by decide) hSC hK, x4.miss (by decide) hSC hK, x5.miss (by decide) hSC hK, x6.miss (by decide) hSC hK, x7.miss (by decide) hSC hK⟩, kn := fun h => by (rw [g0.out] at h; cases h), k22 := fun h => (by have := hP.k22 h; rw [u6] at this; simp at this), k9 := fun h => (hP.k9 h).keeps hSC hK, k13 := fun h => (hP.k13 h).keeps hSC hK, k17 := fun h => (hP.k17 h).keeps hSC hK, kk := hP.kk.trans hK, kb := hbW }
    obtain rfl | h7 : i = 7 ∨ i ≠ 7 := by omega
    · refine wpOp_plain ho (by cases ho; rfl) ?_
      cases ho
      clear hi hlt
      have u7 : l7 = false := hu
      obtain ⟨c0, c1, c2, c3⟩ := four (hP.kk.2 _ _ _ _ hL0.h1)
      go_simp
      exact ⟨l0, l1, l2, l3, l4, l5, l6, true, l8, l9, l10, l11, l12, l13, l14, l15, l16, l17, l18, l19, l20, l21, l22, l23, s0, s10, s11, s12, s13, rxv 1 0 0 none 0 0, s15, s16, s17, s18, s19, s20, s21, s22, s23, s24, rfl, rfl, { hP with k7 := fun _ => rfl }⟩
    obtain rfl | h8 : i = 8 ∨ i ≠ 8 := by omega
    · refine wpOp_plain ho (by cases ho; rfl) ?_
      cases ho
      clear hi hlt
      have u8 : l8 = false := hu
      obtain ⟨c0, c1, c2, c3⟩ := four (hP.kk.2 _ _ _ _ hL0.h0)
      go_simp
      exact ⟨l0, l1, l2, l3, l4, l5, l6, l7, true, l9, l10, l11, l12, l13, l14, l15, l16, l17, l18, l19, l20, l21, l22, l23, s0, s10, s11, s12, s13, s14, rxv 0 0 0 none 0 0, s16, s17, s18, s19, s20, s21, s22, s23, s24, rfl, rfl, { hP with k8 := fun _ => rfl }⟩
    obtain rfl | h9 : i = 9 ∨ i ≠ 9 := by omega
    · refine wpOp_plain ho (by cases ho; rfl) ?_
      cases ho
      clear hi hlt
      have u9 : l9 = false := hu
      have g7 : Hid (l7 = true) := Lib.hid (hall { on := 7, ground := .data } (by simp) rfl)
      have g8 : Hid (l8 = true) := Lib.hid (hall { on := 8, ground := .data } (by simp) rfl)
      have hv1 := hP.k7 g7.out
      have hv2 := hP.k8 g8.out
      subst hv1 hv2
      have hSC := (S4_cells hL0).keep hP.kk
      have hC := joined_any oneR nilR _ _ 41 (S4 n) w (rtx_one _ _) (rtx_nil _ _)
      unfold rxv at hC
      skip
      go_simp
      go_at_call 40
      refine hC.mono ?_
      rintro e w1 ⟨rfl, A, c, B, d, ea, eb, hw1⟩
      have hJ : JAt w1 (S4 n) (.func (.func 56) #[] #[.pointer (some ⟨w.heap.size, 0, none⟩), .pointer (some ⟨w.heap.size + 1, 0, none⟩), .pointer (some ⟨w.heap.size + 1 + 1, 0, none⟩)]) oneR nilR 41 := jat_new ea eb hw1 (rtx_one _ _) (rtx_nil _ _) (fun b hb => by have := hP.size hz0; have := hb.2; omega)
      have hb1 : Below w.heap.size w w1 := hw1 ▸ below_alloc3 (Below.refl _ _) (Nat.le_refl _) _ _ _
      have hK : Keeps w w1 := Keeps.of_below hb1
      clear hC hw1
      refine ⟨l0, l1, l2, l3, l4, l5, l6, l7, l8, true, l10, l11, l12, l13, l14, l15, l16, l17, l18, l19, l20, l21, l22, l23, s0, s10, s11, s12, s13, rxv 1 0 0 none 0 0, rxv 0 0 0 none 0 0, .func (.func 56) #[] #[.pointer (some ⟨w.heap.size, 0, none⟩), .pointer (some ⟨w.heap.size + 1, 0, none⟩), .pointer (some ⟨w.heap.size + 1 + 1, 0, none⟩)], s17, s18, s19, s20, s21, s22, s23, s24, rfl, rfl, ?_⟩
      exact { hP with k9 := fun _ => hJ, k13 := fun h => (hP.k13 h).keeps hSC hK, k17 := fun h => (hP.k17 h).keeps hSC hK, km := fun h => (by obtain ⟨m, es, clock, e1, e2, e3, x0, x1, x2, x3, x4, x5, x6, x7⟩ := hP.km h; exact ⟨m, es, clock, e1, (hb1.block m (Array.getElem?_eq_some_iff.1 e2).1).trans e2, e3, x0.keeps hSC hK, x1.keeps hSC hK, x2.keeps hSC hK, x3.keeps hSC hK, x4.keeps hSC hK, x5.keeps hSC hK, x6.keeps hSC hK, x7.keeps hSC hK⟩), kk := hP.kk.trans hK, kb := hP.kb.trans (hb1.mono (by have := hP.size hz0; omega)) }
    obtain rfl | h10 : i = 10 ∨ i ≠ 10 := by omega
    · refine wpOp_plain ho (by cases ho; rfl) ?_
      cases ho
      clear hi hlt
      have u10 : l10 = false := hu
      have g0 : Hid (l0 = true) := Lib.hid (hall { on := 0, ground := .data } (by simp) rfl)
      have g9 : Hid (l9 = true) := Lib.hid (hall { on := 9, ground := .data } (by simp) rfl)
      have hj := hP.k9 g9.out
      obtain ⟨m, es, clock, rfl, hm, hmn, x0, x1, x2, x3, x4, x5, x6, x7⟩ := hP.km g0.out
      have hrun := run_update_int (P := Tryz.prog) (t := 54) (kt := 3) (et := 56) (s16) Tryz.underlying54 Tryz.underlying3 hm (x3.2 u10)
      obtain ⟨W, hW⟩ : ∃ W : World, { w with heap := w.heap.setIfInBounds m (.map (es.push { key := .int .i64 3, val := s16, born := clock }) (clock + 1)) } = W := ⟨_, rfl⟩
      have hK : Keeps w W := hW ▸ Keeps.of_map hm _
      have hSC := (S4_cells hL0).keep hP.kk
      have hmW : W.heap[m]? = some (.map (es.push { key := .int .i64 3, val := s16, born := clock }) (clock + 1)) := hW ▸ (MapKept.heap_set hm).1
      have hbW : Below n W0 W := hW ▸ below_map hP.kb (by omega) _
      rw [hW] at hrun
      clear hW
      go_simp
      refine ⟨l0, l1, l2, l3, l4, l5, l6, l7, l8, l9, true, l11, l12, l13, l14, l15, l16, l17, l18, l19, l20, l21, l22, l23, s0, .map (some m), s11, s12, s13, s14, s15, s16, s17, s18, s19, s20, s21, s22, s23, s24, rfl, rfl, ?_⟩
      exact { hP with km := fun _ => ⟨m, _, _, rfl, hmW, hmn, x0.miss (by decide) hSC hK, x1.miss (by decide) hSC hK, x2.miss (by decide) hSC hK, x3.hit (u10) (.inr (.inl ⟨rfl, hj.keeps hSC hK⟩)), x4.miss (by decide) hSC hK, x5.miss (by decide) hSC hK, x6.miss (by decide) hSC hK, x7.miss (by decide) hSC hK⟩, kn := fun h => by (rw [g0.out] at h; cases h), k22 := fun h => (by have := hP.k22 h; rw [u10] at this; simp at this), k9 := fun h => (hP.k9 h).keeps hSC hK, k13 := fun h => (hP.k13 h).keeps hSC hK, k17 := fun h => (hP.k17 h).keeps hSC hK, kk := hP.kk.trans hK, kb := hbW }
    obtain rfl | h11 : i = 11 ∨ i ≠ 11 := by omega
    · refine wpOp_plain ho (by cases ho; rfl) ?_
      cases ho
      clear hi hlt
      have u11 : l11 = false := hu
      obtain ⟨c0, c1, c2, c3⟩ := four (hP.kk.2 _ _ _ _ hL0.h0)
      go_simp
      exact ⟨l0, l1, l2, l3, l4, l5, l6, l7, l8, l9, l10, true, l12, l13, l14, l15, l16, l17, l18, l19, l20, l21, l22, l23, s0, s10, s11, s12, s13, s14, s15, s16, rxv 0 0 0 none 0 0, s18, s19, s20, s21, s22, s23, s24, rfl, rfl, { hP with k11 := fun _ => rfl }⟩
    obtain rfl | h12 : i = 12 ∨ i ≠ 12 := by omega
    · refine wpOp_plain ho (by cases ho; rfl) ?_
      cases ho
      clear hi hlt
      have u12 : l12 = false := hu
      obtain ⟨c0, c1, c2, c3⟩ := four (hP.kk.2 _ _ _ _ hL0.h3)
      go_simp
      exact ⟨l0, l1, l2, l3, l4, l5, l6, l7, l8, l9, l10, l11, true, l13, l14, l15, l16, l17, l18, l19, l20, l21, l22, l23, s0, s10, s11, s12, s13, s14, s15, s16, s17, allV n, s19, s20, s21, s22, s23, s24, rfl, rfl, { hP with k12 := fun _ => rfl }⟩
    obtain rfl | h13 : i = 13 ∨ i ≠ 13 := by omega
    · refine wpOp_plain ho (by cases ho; rfl) ?_
      cases ho
      clear hi hlt
      have u13 : l13 = false := hu
      have g11 : Hid (l11 = true) := Lib.hid (hall { on := 11, ground := .data } (by simp) rfl)
      have g12 : Hid (l12 = true) := Lib.hid (hall { on := 12, ground := .data } (by simp) rfl)
      have hv1 := hP.k11 g11.out
      have hv2 := hP.k12 g12.out
      subst hv1 hv2
      have hSC := (S4_cells hL0).keep hP.kk
      have hC := joined_any nilR allR _ _ 42 (S4 n) w (rtx_nil _ _) ((hL0.all).keeps (S4_cells hL0) hP.kk)
      unfold rxv allV at hC
      skip
      go_simp
      go_at_call 40
      refine hC.mono ?_
      rintro e w1 ⟨rfl, A, c, B, d, ea, eb, hw1⟩
      have hJ : JAt w1 (S4 n) (.func (.func 56) #[] #[.pointer (some ⟨w.heap.size, 0, none⟩), .pointer (some ⟨w.heap.size + 1, 0, none⟩), .pointer (some ⟨w.heap.size + 1 + 1, 0, none⟩)]) nilR allR 42 := jat_new ea eb hw1 (rtx_nil _ _) ((hL0.all).keeps (S4_cells hL0) hP.kk) (fun b hb => by have := hP.size hz0; have := hb.2; omega)
      have hb1 : Below w.heap.size w w1 := hw1 ▸ below_alloc3 (Below.refl _ _) (Nat.le_refl _) _ _ _
      have hK : Keeps w w1 := Keeps.of_below hb1
      clear hC hw1
      refine ⟨l0, l1, l2, l3, l4, l5, l6, l7, l8, l9, l10, l11, l12, true, l14, l15, l16, l17, l18, l19, l20, l21, l22, l23, s0, s10, s11, s12, s13, s14, s15, s16, rxv 0 0 0 none 0 0, allV n, .func (.func 56) #[] #[.pointer (some ⟨w.heap.size, 0, none⟩), .pointer (some ⟨w.heap.size + 1, 0, none⟩), .pointer (some ⟨w.heap.size + 1 + 1, 0, none⟩)], s20, s21, s22, s23, s24, rfl, rfl, ?_⟩
      exact { hP with k9 := fun h => (hP.k9 h).keeps hSC hK, k13 := fun _ => hJ, k17 := fun h => (hP.k17 h).keeps hSC hK, km := fun h => (by obtain ⟨m, es, clock, e1, e2, e3, x0, x1, x2, x3, x4, x5, x6, x7⟩ := hP.km h; exact ⟨m, es, clock, e1, (hb1.block m (Array.getElem?_eq_some_iff.1 e2).1).trans e2, e3, x0.keeps hSC hK, x1.keeps hSC hK, x2.keeps hSC hK, x3.keeps hSC hK, x4.keeps hSC hK, x5.keeps hSC hK, x6.keeps hSC hK, x7.keeps hSC hK⟩), kk := hP.kk.trans hK, kb := hP.kb.trans (hb1.mono (by have := hP.size hz0; omega)) }
    obtain rfl | h14 : i = 14 ∨ i ≠ 14 := by omega
    · refine wpOp_plain ho (by cases ho; rfl) ?_
      cases ho
      clear hi hlt
      have u14 : l14 = false := hu
      have g0 : Hid (l0 = true) := Lib.hid (hall { on := 0, ground := .data } (by simp) rfl)
      have g13 : Hid (l13 = true) := Lib.hid (hall { on := 13, ground := .data } (by simp) rfl)
      have hj := hP.k13 g13.out
      obtain ⟨m, es, clock, rfl, hm, hmn, x0, x1, x2, x3, x4, x5, x6, x7⟩ := hP.km g0.out
      have hrun := run_update_int (P := Tryz.prog) (t := 54) (kt := 3) (et := 56) (s19) Tryz.underlying54 Tryz.underlying3 hm (x4.2 u14)
      obtain ⟨W, hW⟩ : ∃ W : World, { w with heap := w.heap.setIfInBounds m (.map (es.push { key := .int .i64 4, val := s19, born := clock }) (clock + 1)) } = W := ⟨_, rfl⟩
      have hK : Keeps w W := hW ▸ Keeps.of_map hm _
      have hSC := (S4_cells hL0).keep hP.kk
      have hmW : W.heap[m]? = some (.map (es.push { key := .int .i64 4, val := s19, born := clock }) (clock + 1)) := hW ▸ (MapKept.heap_set hm).1
      have hbW : Below n W0 W := hW ▸ below_map hP.kb (by omega) _
      rw [hW] at hrun
      clear hW
      go_simp
      refine ⟨l0, l1, l2, l3, l4, l5, l6, l7, l8, l9, l10, l11, l12, l13, true, l15, l16, l17, l18, l19, l20, l21, l22, l23, s0, .map (some m), s11, s12, s13, s14, s15, s16, s17, s18, s19, s20, s21, s22, s23, s24, rfl, rfl, ?_⟩
      exact { hP with km := fun _ => ⟨m, _, _, rfl, hmW, hmn, x0.miss (by decide) hSC hK, x1.miss (by decide) hSC hK, x2.miss (by decide) hSC hK, x3.miss (by decide) hSC hK, x4.hit (u14) (.inr (.inr (.inl ⟨rfl, hj.keeps hSC hK⟩))), x5.miss (by decide) hSC hK, x6.miss (by decide) hSC hK, x7.miss (by decide) hSC hK⟩, kn := fun h => by (rw [g0.out] at h; cases h), k22 := fun h => (by have := hP.k22 h; rw [u14] at this; simp at this), k9 := fun h => (hP.k9 h).keeps hSC hK, k13 := fun h => (hP.k13 h).keeps hSC hK, k17 := fun h => (hP.k17 h).keeps hSC hK, kk := hP.kk.trans hK, kb := hbW }
    obtain rfl | h15 : i = 15 ∨ i ≠ 15 := by omega
    · refine wpOp_plain ho (by cases ho; rfl) ?_
      cases ho
      clear hi hlt
      have u15 : l15 = false := hu
      obtain ⟨c0, c1, c2, c3⟩ := four (hP.kk.2 _ _ _ _ hL0.h3)
      go_simp
      exact ⟨l0, l1, l2, l3, l4, l5, l6, l7, l8, l9, l10, l11, l12, l13, l14, true, l16, l17, l18, l19, l20, l21, l22, l23, s0, s10, s11, s12, s13, s14, s15, s16, s17, s18, s19, allV n, s21, s22, s23, s24, rfl, rfl, { hP with k15 := fun _ => rfl }⟩
    obtain rfl | h16 : i = 16 ∨ i ≠ 16 := by omega
    · refine wpOp_plain ho (by cases ho; rfl) ?_
      cases ho
      clear hi hlt
      have u16 : l16 = false := hu
      obtain ⟨c0, c1, c2, c3⟩ := four (hP.kk.2 _ _ _ _ hL0.h0)
      go_simp
      exact ⟨l0, l1, l2, l3, l4, l5, l6, l7, l8, l9, l10, l11, l12, l13, l14, l15, true, l17, l18, l19, l20, l21, l22, l23, s0, s10, s11, s12, s13, s14, s15, s16, s17, s18, s19, s20, rxv 0 0 0 none 0 0, s22, s23, s24, rfl, rfl, { hP with k16 := fun _ => rfl }⟩
    obtain rfl | h17 : i = 17 ∨ i ≠ 17 := by omega
    · refine wpOp_plain ho (by cases ho; rfl) ?_
      cases ho
      clear hi hlt
      have u17 : l17 = false := hu
      have g15 : Hid (l15 = true) := Lib.hid (hall { on := 15, ground := .data } (by simp) rfl)
      have g16 : Hid (l16 = true) := Lib.hid (hall { on := 16, ground := .data } (by simp) rfl)
      have hv1 := hP.k15 g15.out
      have hv2 := hP.k16 g16.out
      subst hv1 hv2
      have hSC := (S4_cells hL0).keep hP.kk
      have hC := joined_any allR nilR _ _ 42 (S4 n) w ((hL0.all).keeps (S4_cells hL0) hP.kk) (rtx_nil _ _)
      unfold rxv allV at hC
      skip
      go_simp
      go_at_call 40
      refine hC.mono ?_
      rintro e w1 ⟨rfl, A, c, B, d, ea, eb, hw1⟩
      have hJ : JAt w1 (S4 n) (.func (.func 56) #[] #[.pointer (some ⟨w.heap.size, 0, none⟩), .pointer (some ⟨w.heap.size + 1, 0, none⟩), .pointer (some ⟨w.heap.size + 1 + 1, 0, none⟩)]) allR nilR 42 := jat_new ea eb hw1 ((hL0.all).keeps (S4_cells hL0) hP.kk) (rtx_nil _ _) (fun b hb => by have := hP.size hz0; have := hb.2; omega)
      have hb1 : Below w.heap.size w w1 := hw1 ▸ below_alloc3 (Below.refl _ _) (Nat.le_refl _) _ _ _
      have hK : Keeps w w1 := Keeps.of_below hb1
      clear hC hw1
      refine ⟨l0, l1, l2, l3, l4, l5, l6, l7, l8, l9, l10, l11, l12, l13, l14, l15, l16, true, l18, l19, l20, l21, l22, l23, s0, s10, s11, s12, s13, s14, s15, s16, s17, s18, s19, allV n, rxv 0 0 0 none 0 0, .func (.func 56) #[] #[.pointer (some ⟨w.heap.size, 0, none⟩), .pointer (some ⟨w.heap.size + 1, 0, none⟩), .pointer (some ⟨w.heap.size + 1 + 1, 0, none⟩)], s23, s24, rfl, rfl, ?_⟩
      exact { hP with k9 := fun h => (hP.k9 h).keeps hSC hK, k13 := fun h => (hP.k13 h).keeps hSC hK, k17 := fun _ => hJ, km := fun h => (by obtain ⟨m, es, clock, e1, e2, e3, x0, x1, x2, x3, x4, x5, x6, x7⟩ := hP.km h; exact ⟨m, es, clock, e1, (hb1.block m (Array.getElem?_eq_some_iff.1 e2).1).trans e2, e3, x0.keeps hSC hK, x1.keeps hSC hK, x2.keeps hSC hK, x3.keeps hSC hK, x4.keeps hSC hK, x5.keeps hSC hK, x6.keeps hSC hK, x7.keeps hSC hK⟩), kk := hP.kk.trans hK, kb := hP.kb.trans (hb1.mono (by have := hP.size hz0; omega)) }
    obtain rfl | h18 : i = 18 ∨ i ≠ 18 := by omega
    · refine wpOp_plain ho (by cases ho; rfl) ?_
      cases ho
      clear hi hlt
      have u18 : l18 = false := hu
      have g0 : Hid (l0 = true) := Lib.hid (hall { on := 0, ground := .data } (by simp) rfl)
      have g17 : Hid (l17 = true) := Lib.hid (hall { on := 17, ground := .data } (by simp) rfl)
      have hj := hP.k17 g17.out
      obtain ⟨m, es, clock, rfl, hm, hmn, x0, x1, x2, x3, x4, x5, x6, x7⟩ := hP.km g0.out
      have hrun := run_update_int (P := Tryz.prog) (t := 54) (kt := 3) (et := 56) (s22) Tryz.underlying54 Tryz.underlying3 hm (x5.2 u18)
      obtain ⟨W, hW⟩ : ∃ W : World, { w with heap := w.heap.setIfInBounds m (.map (es.push { key := .int .i64 5, val := s22, born := clock }) (clock + 1)) } = W := ⟨_, rfl⟩
      have hK : Keeps w W := hW ▸ Keeps.of_map hm _
      have hSC := (S4_cells hL0).keep hP.kk
      have hmW : W.heap[m]? = some (.map (es.push { key := .int .i64 5, val := s22, born := clock }) (clock + 1)) := hW ▸ (MapKept.heap_set hm).1
      have hbW : Below n W0 W := hW ▸ below_map hP.kb (by omega) _
      rw [hW] at hrun
      clear hW
      go_simp
      refine ⟨l0, l1, l2, l3, l4, l5, l6, l7, l8, l9, l10, l11, l12, l13, l14, l15, l16, l17, true, l19, l20, l21, l22, l23, s0, .map (some m), s11, s12, s13, s14, s15, s16, s17, s18, s19, s20, s21, s22, s23, s24, rfl, rfl, ?_⟩
      exact { hP with km := fun _ => ⟨m, _, _, rfl, hmW, hmn, x0.miss (by decide) hSC hK, x1.miss (by decide) hSC hK, x2.miss (by decide) hSC hK, x3.miss (by decide) hSC hK, x4.miss (by decide) hSC hK, x5.hit (u18) (.inr (.inr (.inr (.inl ⟨rfl, hj.keeps hSC hK⟩)))), x6.miss (by decide) hSC hK, x7.miss (by decide) hSC hK⟩, kn := fun h => by (rw [g0.out] at h; cases h), k22 := fun h => (by have := hP.k22 h; rw [u18] at this; simp at this), k9 := fun h => (hP.k9 h).keeps hSC hK, k13 := fun h => (hP.k13 h).keeps hSC hK, k17 := fun h => (hP.k17 h).keeps hSC hK, kk := hP.kk.trans hK, kb := hbW }
    obtain rfl | h19 : i = 19 ∨ i ≠ 19 := by omega
    · refine wpOp_plain ho (by cases ho; rfl) ?_
      cases ho
      clear hi hlt
      have u19 : l19 = false := hu
      have g0 : Hid (l0 = true) := Lib.hid (hall { on := 0, ground := .data } (by simp) rfl)
      obtain ⟨m, es, clock, rfl, hm, hmn, x0, x1, x2, x3, x4, x5, x6, x7⟩ := hP.km g0.out
      have hrun := run_update_int (P := Tryz.prog) (t := 54) (kt := 3) (et := 56) (.func (.func 43) #[] #[]) Tryz.underlying54 Tryz.underlying3 hm (x6.2 u19)
      obtain ⟨W, hW⟩ : ∃ W : World, { w with heap := w.heap.setIfInBounds m (.map (es.push { key := .int .i64 6, val := .func (.func 43) #[] #[], born := clock }) (clock + 1)) } = W := ⟨_, rfl⟩
      have hK : Keeps w W := hW ▸ Keeps.of_map hm _
      have hSC := (S4_cells hL0).keep hP.kk
      have hmW : W.heap[m]? = some (.map (es.push { key := .int .i64 6, val := .func (.func 43) #[] #[], born := clock }) (clock + 1)) := hW ▸ (MapKept.heap_set hm).1
      have hbW : Below n W0 W := hW ▸ below_map hP.kb (by omega) _
      rw [hW] at hrun
      clear hW
      go_simp
      refine ⟨l0, l1, l2, l3, l4, l5, l6, l7, l8, l9, l10, l11, l12, l13, l14, l15, l16, l17, l18, true, l20, l21, l22, l23, s0, .map (some m), s11, s12, s13, s14, s15, s16, s17, s18, s19, s20, s21, s22, s23, s24, rfl, rfl, ?_⟩
      exact { hP with km := fun _ => ⟨m, _, _, rfl, hmW, hmn, x0.miss (by decide) hSC hK, x1.miss (by decide) hSC hK, x2.miss (by decide) hSC hK, x3.miss (by decide) hSC hK, x4.miss (by decide) hSC hK, x5.miss (by decide) hSC hK, x6.hit (u19) (.inr (.inr (.inr (.inr (.inl ⟨rfl, rfl⟩))))), x7.miss (by decide) hSC hK⟩, kn := fun h => by (rw [g0.out] at h; cases h), k22 := fun h => (by have := hP.k22 h; rw [u19] at this; simp at this), k9 := fun h => (hP.k9 h).keeps hSC hK, k13 := fun h => (hP.k13 h).keeps hSC hK, k17 := fun h => (hP.k17 h).keeps hSC hK, kk := hP.kk.trans hK, kb := hbW }
    obtain rfl | h20 : i = 20 ∨ i ≠ 20 := by omega
    · refine wpOp_plain ho (by cases ho; rfl) ?_
      cases ho
      clear hi hlt
      have u20 : l20 = false := hu
      go_simp
      exact ⟨l0, l1, l2, l3, l4, l5, l6, l7, l8, l9, l10, l11, l12, l13, l14, l15, l16, l17, l18, l19, true, l21, l22, l23, s0, s10, s11, s12, s13, s14, s15, s16, s17, s18, s19, s20, s21, s22, .func (.func 44) #[] #[.pointer (some ⟨n + 1, 0, none⟩), .pointer (some ⟨n + 1 + 1 + 1, 0, none⟩)], s24, rfl, rfl, { hP with k20 := fun _ => rfl }⟩
    obtain rfl | h21 : i = 21 ∨ i ≠ 21 := by omega
    · refine wpOp_plain ho (by cases ho; rfl) ?_
      cases ho
      clear hi hlt
      have u21 : l21 = false := hu
      have g0 : Hid (l0 = true) := Lib.hid (hall { on := 0, ground := .data } (by simp) rfl)
      have g20 : Hid (l20 = true) := Lib.hid (hall { on := 20, ground := .data } (by simp) rfl)
      have hv := hP.k20 g20.out
      subst hv
      obtain ⟨m, es, clock, rfl, hm, hmn, x0, x1, x2, x3, x4, x5, x6, x7⟩ := hP.km g0.out
      have hrun := run_update_int (P := Tryz.prog) (t := 54) (kt := 3) (et := 56) (.func (.func 44) #[] #[.pointer (some ⟨n + 1, 0, none⟩), .pointer (some ⟨n + 1 + 1 + 1, 0, none⟩)]) Tryz.underlying54 Tryz.underlying3 hm (x7.2 u21)
      obtain ⟨W, hW⟩ : ∃ W : World, { w with heap := w.heap.setIfInBounds m (.map (es.push { key := .int .i64 7, val := .func (.func 44) #[] #[.pointer (some ⟨n + 1, 0, none⟩), .pointer (some ⟨n + 1 + 1 + 1, 0, none⟩)], born := clock }) (clock + 1)) } = W := ⟨_, rfl⟩
      have hK : Keeps w W := hW ▸ Keeps.of_map hm _
      have hSC := (S4_cells hL0).keep hP.kk
      have hmW : W.heap[m]? = some (.map (es.push { key := .int .i64 7, val := .func (.func 44) #[] #[.pointer (some ⟨n + 1, 0, none⟩), .pointer (some ⟨n + 1 + 1 + 1, 0, none⟩)], born := clock }) (clock + 1)) := hW ▸ (MapKept.heap_set hm).1
      have hbW : Below n W0 W := hW ▸ below_map hP.kb (by omega) _
      rw [hW] at hrun
      clear hW
      go_simp
      refine ⟨l0, l1, l2, l3, l4, l5, l6, l7, l8, l9, l10, l11, l12, l13, l14, l15, l16, l17, l18, l19, l20, true, l22, l23, s0, .map (some m), s11, s12, s13, s14, s15, s16, s17, s18, s19, s20, s21, s22, .func (.func 44) #[] #[.pointer (some ⟨n + 1, 0, none⟩), .pointer (some ⟨n + 1 + 1 + 1, 0, none⟩)], s24, rfl, rfl, ?_⟩
      exact { hP with km := fun _ => ⟨m, _, _, rfl, hmW, hmn, x0.miss (by decide) hSC hK, x1.miss (by decide) hSC hK, x2.miss (by decide) hSC hK, x3.miss (by decide) hSC hK, x4.miss (by decide) hSC hK, x5.miss (by decide) hSC hK, x6.miss (by decide) hSC hK, x7.hit (u21) (.inr (.inr (.inr (.inr (.inr ⟨rfl, n + 1, n + 1 + 1 + 1, rfl, (hL0.box1 hz0).keeps (S4_cells hL0) (hP.kk.trans hK), (hL0.box3 hz0).keeps (S4_cells hL0) (hP.kk.trans hK)⟩)))))⟩, kn := fun h => by (rw [g0.out] at h; cases h), k22 := fun h => (by have := hP.k22 h; rw [u21] at this; simp at this), k9 := fun h => (hP.k9 h).keeps hSC hK, k13 := fun h => (hP.k13 h).keeps hSC hK, k17 := fun h => (hP.k17 h).keeps hSC hK, kk := hP.kk.trans hK, kb := hbW }
    obtain rfl | h22 : i = 22 ∨ i ≠ 22 := by omega
    · refine wpOp_plain ho (by cases ho; rfl) ?_
      cases ho
      clear hi hlt
      have u22 : l22 = false := hu
      have g0 : Hid (l0 = true) := Lib.hid (hall { on := 0, ground := .data } (by simp) rfl)
      have g2 : Hid (l2 = true) := Lib.hid (hall { on := 2, ground := .data } (by simp) rfl)
      have g4 : Hid (l4 = true) := Lib.hid (hall { on := 4, ground := .data } (by simp) rfl)
      have g6 : Hid (l6 = true) := Lib.hid (hall { on := 6, ground := .data } (by simp) rfl)
      have g10 : Hid (l10 = true) := Lib.hid (hall { on := 10, ground := .data } (by simp) rfl)
      have g14 : Hid (l14 = true) := Lib.hid (hall { on := 14, ground := .data } (by simp) rfl)
      have g18 : Hid (l18 = true) := Lib.hid (hall { on := 18, ground := .data } (by simp) rfl)
      have g19 : Hid (l19 = true) := Lib.hid (hall { on := 19, ground := .data } (by simp) rfl)
      have g21 : Hid (l21 = true) := Lib.hid (hall { on := 21, ground := .data } (by simp) rfl)
      go_simp
      exact ⟨l0, l1, l2, l3, l4, l5, l6, l7, l8, l9, l10, l11, l12, l13, l14, l15, l16, l17, l18, l19, l20, l21, true, l23, s0, s10, s11, s12, s13, s14, s15, s16, s17, s18, s19, s20, s21, s22, s23, s10, rfl, rfl, { hP with k22 := fun _ => ⟨rfl, g0.out, g2.out, g4.out, g6.out, g10.out, g14.out, g18.out, g19.out, g21.out⟩, k23 := fun h => ⟨(hP.k23 h).1, rfl⟩ }⟩
    obtain rfl | h23 : i = 23 ∨ i ≠ 23 := by omega
    · refine wpOp_plain ho (by cases ho; rfl) ?_
      cases ho
      clear hi hlt
      have u23 : l23 = false := hu
      have g22 : Hid (l22 = true) := Lib.hid (hall { on := 22, ground := .data } (by simp) rfl)
      have hv := Lib.hid (hP.k22 g22.out).1
      go_simp
      exact ⟨l0, l1, l2, l3, l4, l5, l6, l7, l8, l9, l10, l11, l12, l13, l14, l15, l16, l17, l18, l19, l20, l21, l22, true, s24, s10, s11, s12, s13, s14, s15, s16, s17, s18, s19, s20, s21, s22, s23, s24, rfl, rfl, { hP with k23 := fun _ => ⟨hv.out, g22.out⟩ }⟩
    omega
    -- @end
  · intro l a w hI hr
    obtain ⟨l0, l1, l2, l3, l4, l5, l6, l7, l8, l9, l10, l11, l12, l13, l14, l15, l16, l17, l18, l19, l20, l21, l22, l23, s0, s10, s11, s12, s13, s14, s15, s16, s17, s18, s19, s20, s21, s22, s23, s24, rfl, rfl, hP⟩ := hI
    have key : ∀ (j : Nat) (b : Bool), _ → b = true := fun j b (h : #[l0, l1, l2, l3, l4, l5, l6, l7, l8, l9, l10, l11, l12, l13, l14, l15, l16, l17, l18, l19, l20, l21, l22, l23].getD j true = b ∧ (b = false → j ∈ Region.ready _ _ #[l0, l1, l2, l3, l4, l5, l6, l7, l8, l9, l10, l11, l12, l13, l14, l15, l16, l17, l18, l19, l20, l21, l22, l23])) => by
      cases b
      · have := h.2 rfl; rw [hr] at this; cases this
      · rfl
    have f0 : l0 = true := key 0 l0 ⟨rfl, fun hb => mem_ready.2 ⟨hb, _, rfl, by simp [Region.binds]⟩⟩
    subst f0
    have f1 : l1 = true := key 1 l1 ⟨rfl, fun hb => mem_ready.2 ⟨hb, _, rfl, by simp [Region.binds]⟩⟩
    subst f1
    have f2 : l2 = true := key 2 l2 ⟨rfl, fun hb => mem_ready.2 ⟨hb, _, rfl, by simp [Region.binds]⟩⟩
    subst f2
    have f3 : l3 = true := key 3 l3 ⟨rfl, fun hb => mem_ready.2 ⟨hb, _, rfl, by simp [Region.binds]⟩⟩
    subst f3
    have f4 : l4 = true := key 4 l4 ⟨rfl, fun hb => mem_ready.2 ⟨hb, _, rfl, by simp [Region.binds]⟩⟩
    subst f4
    have f5 : l5 = true := key 5 l5 ⟨rfl, fun hb => mem_ready.2 ⟨hb, _, rfl, by simp [Region.binds]⟩⟩
    subst f5
    have f6 : l6 = true := key 6 l6 ⟨rfl, fun hb => mem_ready.2 ⟨hb, _, rfl, by simp [Region.binds]⟩⟩
    subst f6
    have f7 : l7 = true := key 7 l7 ⟨rfl, fun hb => mem_ready.2 ⟨hb, _, rfl, by simp [Region.binds]⟩⟩
    subst f7
    have f8 : l8 = true := key 8 l8 ⟨rfl, fun hb => mem_ready.2 ⟨hb, _, rfl, by simp [Region.binds]⟩⟩
    subst f8
    have f9 : l9 = true := key 9 l9 ⟨rfl, fun hb => mem_ready.2 ⟨hb, _, rfl, by simp [Region.binds]⟩⟩
    subst f9
    have f10 : l10 = true := key 10 l10 ⟨rfl, fun hb => mem_ready.2 ⟨hb, _, rfl, by simp [Region.binds]⟩⟩
    subst f10
    have f11 : l11 = true := key 11 l11 ⟨rfl, fun hb => mem_ready.2 ⟨hb, _, rfl, by simp [Region.binds]⟩⟩
    subst f11
    have f12 : l12 = true := key 12 l12 ⟨rfl, fun hb => mem_ready.2 ⟨hb, _, rfl, by simp [Region.binds]⟩⟩
    subst f12
    have f13 : l13 = true := key 13 l13 ⟨rfl, fun hb => mem_ready.2 ⟨hb, _, rfl, by simp [Region.binds]⟩⟩
    subst f13
    have f14 : l14 = true := key 14 l14 ⟨rfl, fun hb => mem_ready.2 ⟨hb, _, rfl, by simp [Region.binds]⟩⟩
    subst f14
    have f15 : l15 = true := key 15 l15 ⟨rfl, fun hb => mem_ready.2 ⟨hb, _, rfl, by simp [Region.binds]⟩⟩
    subst f15
    have f16 : l16 = true := key 16 l16 ⟨rfl, fun hb => mem_ready.2 ⟨hb, _, rfl, by simp [Region.binds]⟩⟩
    subst f16
    have f17 : l17 = true := key 17 l17 ⟨rfl, fun hb => mem_ready.2 ⟨hb, _, rfl, by simp [Region.binds]⟩⟩
    subst f17
    have f18 : l18 = true := key 18 l18 ⟨rfl, fun hb => mem_ready.2 ⟨hb, _, rfl, by simp [Region.binds]⟩⟩
    subst f18
    have f19 : l19 = true := key 19 l19 ⟨rfl, fun hb => mem_ready.2 ⟨hb, _, rfl, by simp [Region.binds]⟩⟩
    subst f19
    have f20 : l20 = true := key 20 l20 ⟨rfl, fun hb => mem_ready.2 ⟨hb, _, rfl, by simp [Region.binds]⟩⟩
    subst f20
    have f21 : l21 = true := key 21 l21 ⟨rfl, fun hb => mem_ready.2 ⟨hb, _, rfl, by simp [Region.binds]⟩⟩
    subst f21
    have f22 : l22 = true := key 22 l22 ⟨rfl, fun hb => mem_ready.2 ⟨hb, _, rfl, by simp [Region.binds]⟩⟩
    subst f22
    have f23 : l23 = true := key 23 l23 ⟨rfl, fun hb => mem_ready.2 ⟨hb, _, rfl, by simp [Region.binds]⟩⟩
    subst f23
    have h0 := (hP.k23 rfl).1
    subst h0
    obtain ⟨m, es, clock, rfl, hm, _, x0, x1, x2, x3, x4, x5, x6, x7⟩ := hP.km rfl
    have hF : FormsAt w (S4 n) (.map (some m)) := ⟨m, es, clock, rfl, hm, fun k hk0 hk8 => by
      obtain rfl | rfl | rfl | rfl | rfl | rfl | rfl | rfl : k = 0 ∨ k = 1 ∨ k = 2 ∨ k = 3 ∨ k = 4 ∨ k = 5 ∨ k = 6 ∨ k = 7 := by omega
      · exact x0.1 rfl
      · exact x1.1 rfl
      · exact x2.1 rfl
      · exact x3.1 rfl
      · exact x4.1 rfl
      · exact x5.1 rfl
      · exact x6.1 rfl
      · exact x7.1 rfl⟩
    have hsz := hP.size hz0
    have hkb := hB0.trans hP.kb
    clear hP hm x0 x1 x2 x3 x4 x5 x6 x7 key hr
    go_wp2_with fail
    go_ret
    subst hn
    exact ⟨_, rfl, hF, hkb, hsz⟩
  · refine ⟨false, false, false, false, false, false, false, false, false, false, false, false, false, false, false, false, false, false, false, false, false, false, false, false, .map none, undef, undef, undef, undef, undef, undef, undef, undef, undef, undef, undef, undef, undef, undef, undef, rfl, rfl, ?_⟩
    constructor <;> first | (intro h; cases h; done) | exact fun _ => ⟨rfl, rfl, rfl, rfl, rfl, rfl, rfl, rfl⟩ | exact ⟨Nat.le_refl _, fun _ _ _ _ h => h⟩ | exact (Below.refl _ _).drew
end Go.Proofs.YtnjkihbmhacgoaaGreatDoor
