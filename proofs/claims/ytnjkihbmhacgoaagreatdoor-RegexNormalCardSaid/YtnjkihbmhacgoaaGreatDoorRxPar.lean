/-
  THE PARSER of expressions: its state in memory; the walks of take, expect, goesOn, single.
-/
import Derived.Test.YtnjkihbmhacgoaaGreatDoorRxOwn
import Derived.Deep.Fields
namespace Go.Proofs.YtnjkihbmhacgoaaGreatDoor
open Go.RowKit

/-- a token -/
structure Tok where
  k : ByteArray
  at_ : Int
  lo : Int
  hi : Int
/-- what lies ahead, and whether the next token is the wrong one -/
structure Ps where
  ts : List Tok
  bad : Bool

def TokAt (w : World) (b o : Nat) (t : Tok) : Prop := w.cell? ⟨b, o, none⟩ = some (.string t.k) ∧ w.cell? ⟨b, o + 1, none⟩ = some (.int .i64 t.at_) ∧ w.cell? ⟨b, o + 2, none⟩ = some (.int .u8 t.lo) ∧ w.cell? ⟨b, o + 3, none⟩ = some (.int .u8 t.hi)
def TokL (w : World) (b : Nat) : Nat → List Tok → Prop
  | _, [] => True
  | o, t :: ts => TokAt w b o t ∧ TokL w b (o + 4) ts
theorem TokL.to {w w' : World} {b : Nat} (hb : w'.heap[b]? = w.heap[b]?) : ∀ {ts : List Tok} {o : Nat}, TokL w b o ts → TokL w' b o ts
  | [], _, _ => trivial
  | _ :: _, _, ⟨⟨h0, h1, h2, h3⟩, h⟩ => ⟨⟨(World.cell?_of_block hb).trans h0, (World.cell?_of_block hb).trans h1, (World.cell?_of_block hb).trans h2, (World.cell?_of_block hb).trans h3⟩, TokL.to hb h⟩

/-- THE WORDS OF THE KINDS, where the program's variable lies -/
def words8 : List ByteArray := [⟨#[110, 111, 110, 101]⟩, ⟨#[101, 109, 112, 116, 121]⟩, ⟨#[]⟩, ⟨#[99, 97, 116]⟩, ⟨#[97, 108, 116]⟩, ⟨#[97, 108, 108]⟩, ⟨#[]⟩, ⟨#[]⟩]

def GW (w : World) : Prop := 0 < w.heap.size ∧ ∀ i v, words8[i]? = some v → w.cell? ⟨0, i, none⟩ = some (.string v)
theorem GW.to {w w' : World} (h : GW w) (hs : w.heap.size ≤ w'.heap.size) (hb : w'.heap[0]? = w.heap[0]?) : GW w' := ⟨Nat.lt_of_lt_of_le h.1 hs, fun i v hv => (World.cell?_of_block hb).trans (h.2 i v hv)⟩
theorem GW.five {w : World} (h : GW w) : w.cell? ⟨0, 0, none⟩ = some (.string ⟨#[110, 111, 110, 101]⟩) ∧ w.cell? ⟨0, 1, none⟩ = some (.string ⟨#[101, 109, 112, 116, 121]⟩) ∧ w.cell? ⟨0, 3, none⟩ = some (.string ⟨#[99, 97, 116]⟩) ∧
    w.cell? ⟨0, 4, none⟩ = some (.string ⟨#[97, 108, 116]⟩) ∧ w.cell? ⟨0, 5, none⟩ = some (.string ⟨#[97, 108, 108]⟩) :=
  ⟨h.2 0 _ rfl, h.2 1 _ rfl, h.2 3 _ rfl, h.2 4 _ rfl, h.2 5 _ rfl⟩

/-- block g holds the parser -/
def ParAt (w : World) (B g : Nat) (s : Ps) : Prop :=
  ∃ b o c, w.heap[g]? = some (.cells #[.slice (some ⟨b, o, none⟩) s.ts.length c, .bool s.bad] 91 (0, 0)) ∧ s.ts.length ≤ c ∧ b ≠ g ∧ b < B ∧ TokL w b o s.ts ∧ (0 < g ∧ g < B ∧ B ≤ w.heap.size) ∧ GW w
theorem ParAt.lt {w : World} {B g : Nat} {s : Ps} (h : ParAt w B g s) : g < B ∧ B ≤ w.heap.size := by
  obtain ⟨_, _, _, _, _, _, _, _, h, _⟩ := h
  exact h.2
theorem ParAt.low {w w' : World} {B g : Nat} {s : Ps} (h : ParAt w B g s) (hs : w.heap.size ≤ w'.heap.size) (hb : ∀ j, j < B → w'.heap[j]? = w.heap[j]?) : ParAt w' B g s := by
  obtain ⟨b, o, c, h1, h2, h3, h4, h5, h6, h7⟩ := h
  exact ⟨b, o, c, (hb g h6.2.1).trans h1, h2, h3, h4, h5.to (hb b h4), ⟨h6.1, h6.2.1, Nat.le_trans h6.2.2 hs⟩, h7.to hs (hb 0 (Nat.lt_trans h6.1 h6.2.1))⟩
theorem ParAt.below {w w' : World} {B g : Nat} {s : Ps} (h : ParAt w B g s) (hb : Below w.heap.size w w') : ParAt w' B g s :=
  h.low hb.size (fun j hj => hb.block j (Nat.lt_of_lt_of_le hj h.lt.2))
theorem two {w : World} {b : Nat} {t : TypeId} {c0 c1 : Value} (hb : w.heap[b]? = some (.cells #[c0, c1] t (0, 0))) :
    w.cell? ⟨b, 0, none⟩ = some c0 ∧ w.cell? ⟨b, 1, none⟩ = some c1 ∧ w.frozen? ⟨b, 0, none⟩ = false ∧ w.frozen? ⟨b, 1, none⟩ = false :=
  ⟨by rw [cell_of_row w b 0 _ t _ hb]; rfl, by rw [cell_of_row w b 1 _ t _ hb]; rfl, four_frozen hb 0, four_frozen hb 1⟩

/-- what a call on the parser leaves: nothing but new memory and the parser has turned -/
def ParPost (w : World) (B g : Nat) (v : Value) (s' : Ps) (e : Ending) (w' : World) : Prop := e = .returned v ∧ ParAt w' B g s' ∧ w.grownBy w' (some g)

theorem grown_refl (w : World) (r : Option Nat) : w.grownBy w r := ⟨rfl, rfl, rfl, Nat.le_refl _, fun _ _ _ => rfl⟩

/-- a store into the parser's own block -/
theorem par_set {w : World} {B g : Nat} {s : Ps} {b o c : Nat} {c0 c1 : Value} (h1 : w.heap[g]? = some (.cells #[c0, c1] 91 (0, 0))) (h3 : b ≠ g) (h4 : b < B) (hl : s.ts.length ≤ c) (ht : TokL w b o s.ts) (hg0 : 0 < g ∧ g < B ∧ B ≤ w.heap.size) (hG : GW w) {w' : World}
    (hw : w'.heap[g]? = some (.cells #[.slice (some ⟨b, o, none⟩) s.ts.length c, .bool s.bad] 91 (0, 0))) (hb : ∀ j, j ≠ g → w'.heap[j]? = w.heap[j]?) (hz : w'.heap.size = w.heap.size) : ParAt w' B g s :=
  ⟨b, o, c, hw, hl, h3, h4, ht.to (hb b h3), by rw [hz]; exact hg0, hG.to (by rw [hz]; exact Nat.le_refl _) (hb 0 (by omega))⟩
theorem grown_set2 (w : World) (g i : Nat) (v : Value) : w.grownBy (w.setCell ⟨g, i, none⟩ v) (some g) := grown_set w g i v

set_option maxHeartbeats 1000000 in
theorem take_yes (t : Tok) (ts : List Tok) (hne : ts ≠ []) (B g : Nat) (w : World) (h : ParAt w B g ⟨t :: ts, false⟩) : Calls Tryz.prog 84 #[.pointer (some ⟨g, 0, none⟩), .string t.k] w (ParPost w B g (.bool true) ⟨ts, false⟩) := by
  obtain ⟨b, o, c, h1, h2, h3, h4, ⟨h5, h6⟩, h7, h8⟩ := h
  obtain ⟨k0, k1, k2, k3⟩ := h5
  obtain ⟨p0, p1, f0, f1⟩ := two h1
  have hz : (0 : Int) < ((ts.length + 1 : Nat) : Int) := by omega
  have hl : 0 < ts.length := List.length_pos_iff.2 hne
  simp only [List.length_cons] at h2 p0 h1
  have hc1 : ¬ c = 1 := by omega
  go_enter Tryz.func84, Tryz.ntmps84
  go_wp2
  go_ret
  exact ⟨rfl, par_set (s := ⟨ts, false⟩) (c := c - 1) h1 h3 h4 (by simp only; omega) h6 h7 h8 (by rw [blk_set h1]; rfl) (fun j hj => Below.heap_setCell _ _ _ j (by simpa using hj)) (by simp [World.setCell]), grown_set _ _ _ _⟩
set_option maxHeartbeats 1000000 in
theorem take_no (t : Tok) (ts : List Tok) (k : ByteArray) (hk : (t.k.toList == k.toList) = false) (B g : Nat) (w : World) (h : ParAt w B g ⟨t :: ts, false⟩) : Calls Tryz.prog 84 #[.pointer (some ⟨g, 0, none⟩), .string k] w fun e w' => e = .returned (.bool false) ∧ w = w' := by
  obtain ⟨b, o, c, h1, h2, h3, h4, ⟨h5, h6⟩, h7, h8⟩ := h
  obtain ⟨k0, k1, k2, k3⟩ := h5
  obtain ⟨p0, p1, f0, f1⟩ := two h1
  have hz : (0 : Int) < ((ts.length + 1 : Nat) : Int) := by omega
  simp only [List.length_cons] at h2 p0
  go_enter Tryz.func84, Tryz.ntmps84
  go_wp2
  go_ret
  exact ⟨rfl, rfl⟩
set_option maxHeartbeats 1000000 in
theorem take_bad (ts : List Tok) (k : ByteArray) (B g : Nat) (w : World) (h : ParAt w B g ⟨ts, true⟩) : Calls Tryz.prog 84 #[.pointer (some ⟨g, 0, none⟩), .string k] w fun e w' => e = .returned (.bool false) ∧ w = w' := by
  obtain ⟨b, o, c, h1, h2, h3, h4, h5, h7, h8⟩ := h
  obtain ⟨p0, p1, f0, f1⟩ := two h1
  simp only at p0 p1
  go_enter Tryz.func84, Tryz.ntmps84
  go_wp2
  go_ret
  exact ⟨rfl, rfl⟩

/-- the next token is of this kind -/
inductive TakeY (k : ByteArray) : Ps → Ps → Prop
  | yes (t : Tok) (ts : List Tok) : ts ≠ [] → t.k = k → TakeY k ⟨t :: ts, false⟩ ⟨ts, false⟩
/-- it is not -/
inductive TakeN (k : ByteArray) : Ps → Prop
  | no (t : Tok) (ts : List Tok) : (t.k.toList == k.toList) = false → TakeN k ⟨t :: ts, false⟩
  | bad (ts : List Tok) : TakeN k ⟨ts, true⟩
theorem takeY {k : ByteArray} {s s' : Ps} (h : TakeY k s s') (B g : Nat) (w : World) (hp : ParAt w B g s) : Calls Tryz.prog 84 #[.pointer (some ⟨g, 0, none⟩), .string k] w (ParPost w B g (.bool true) s') := by
  cases h with
  | yes t ts h1 h2 => subst h2; exact take_yes t ts h1 B g w hp
theorem takeN {k : ByteArray} {s : Ps} (h : TakeN k s) (B g : Nat) (w : World) (hp : ParAt w B g s) : Calls Tryz.prog 84 #[.pointer (some ⟨g, 0, none⟩), .string k] w fun e w' => e = .returned (.bool false) ∧ w = w' := by
  cases h with
  | no t ts h1 => exact take_no t ts k h1 B g w hp
  | bad ts => exact take_bad ts k B g w hp

set_option maxHeartbeats 1000000 in
theorem expect_yes {k : ByteArray} {s s' : Ps} (h : TakeY k s s') (B g : Nat) (w : World) (hp : ParAt w B g s) : Calls Tryz.prog 125 #[.pointer (some ⟨g, 0, none⟩), .string k] w (ParPost w B g (.tuple #[]) s') := by
  have hC := takeY h B g w hp
  clear hp h
  go_enter Tryz.func125, Tryz.ntmps125
  go_wp2_with (go_at_call 84; refine hC.mono ?_; clear hC; rintro e w1 ⟨rfl, hp1, hg1⟩)
  go_end0
  exact ⟨rfl, hp1, hg1⟩
set_option maxHeartbeats 1000000 in
theorem expect_no {k : ByteArray} {s : Ps} (h : TakeN k s) (B g : Nat) (w : World) (hp : ParAt w B g s) : Calls Tryz.prog 125 #[.pointer (some ⟨g, 0, none⟩), .string k] w (ParPost w B g (.tuple #[]) ⟨s.ts, true⟩) := by
  have hC := takeN h B g w hp
  obtain ⟨b, o, c, h1, h2, h3, h4, h5, h7, h8⟩ := hp
  obtain ⟨p0, p1, f0, f1⟩ := two h1
  clear h
  go_enter Tryz.func125, Tryz.ntmps125
  go_wp2_with (go_at_call 84; refine hC.mono ?_; clear hC; rintro e w1 ⟨rfl, rfl⟩)
  go_end0
  exact ⟨rfl, par_set (s := ⟨s.ts, true⟩) h1 h3 h4 h2 h5 h7 h8 (by rw [blk_set h1]; rfl) (fun j hj => Below.heap_setCell _ _ _ j (by simpa using hj)) (by simp [World.setCell]), grown_set _ _ _ _⟩
/-- the kinds that end a sequence -/
def endK (k : ByteArray) : Bool := k.toList == [124] || k.toList == [38] || k.toList == [44] || k.toList == [41] || k.toList == []
set_option maxHeartbeats 1000000 in
theorem goesOn_end (t : Tok) (ts : List Tok) (bad : Bool) (h0 : endK t.k = true) (B g : Nat) (w : World) (hp : ParAt w B g ⟨t :: ts, bad⟩) : Calls Tryz.prog 104 #[.pointer (some ⟨g, 0, none⟩)] w fun e w' => e = .returned (.bool false) ∧ w = w' := by
  obtain ⟨b, o, c, h1, h2, h3, h4, ⟨h5, h6⟩, h7, h8⟩ := hp
  obtain ⟨k0, k1, k2, k3⟩ := h5
  obtain ⟨p0, p1, f0, f1⟩ := two h1
  have hz : (0 : Int) < ((ts.length + 1 : Nat) : Int) := by omega
  simp only [List.length_cons] at h2 p0
  unfold endK at h0
  rcases Bool.eq_false_or_eq_true (t.k.toList == [124]) with e0 | e0
  · clear h0
    go_enter Tryz.func104, Tryz.ntmps104
    go_wp2
    go_ret
    exact ⟨rfl, rfl⟩
  · rcases Bool.eq_false_or_eq_true (t.k.toList == [38]) with e1 | e1
    · clear h0
      go_enter Tryz.func104, Tryz.ntmps104
      go_wp2
      go_ret
      exact ⟨rfl, rfl⟩
    · rcases Bool.eq_false_or_eq_true (t.k.toList == [44]) with e2 | e2
      · clear h0
        go_enter Tryz.func104, Tryz.ntmps104
        go_wp2
        go_ret
        exact ⟨rfl, rfl⟩
      · rcases Bool.eq_false_or_eq_true (t.k.toList == [41]) with e3 | e3
        · clear h0
          go_enter Tryz.func104, Tryz.ntmps104
          go_wp2
          go_ret
          exact ⟨rfl, rfl⟩
        · rcases Bool.eq_false_or_eq_true (t.k.toList == []) with e4 | e4
          · clear h0
            go_enter Tryz.func104, Tryz.ntmps104
            go_wp2
            go_ret
            exact ⟨rfl, rfl⟩
          · simp [e0, e1, e2, e3, e4] at h0
set_option maxHeartbeats 1000000 in
theorem goesOn_on (t : Tok) (ts : List Tok) (bad : Bool) (h0 : endK t.k = false) (B g : Nat) (w : World) (hp : ParAt w B g ⟨t :: ts, bad⟩) : Calls Tryz.prog 104 #[.pointer (some ⟨g, 0, none⟩)] w fun e w' => e = .returned (.bool !bad) ∧ w = w' := by
  obtain ⟨b, o, c, h1, h2, h3, h4, ⟨h5, h6⟩, h7, h8⟩ := hp
  obtain ⟨k0, k1, k2, k3⟩ := h5
  obtain ⟨p0, p1, f0, f1⟩ := two h1
  have hz : (0 : Int) < ((ts.length + 1 : Nat) : Int) := by omega
  simp only [List.length_cons] at h2 p0
  unfold endK at h0
  simp only [Bool.or_eq_false_iff] at h0
  obtain ⟨⟨⟨⟨e1, e2⟩, e3⟩, e4⟩, e5⟩ := h0
  go_enter Tryz.func104, Tryz.ntmps104
  go_wp2
  go_ret
  exact ⟨rfl, rfl⟩
inductive GoR : Ps → Bool → Prop
  | stop (t : Tok) (ts : List Tok) (bad : Bool) : endK t.k = true → GoR ⟨t :: ts, bad⟩ false
  | on (t : Tok) (ts : List Tok) (bad : Bool) : endK t.k = false → GoR ⟨t :: ts, bad⟩ (!bad)
theorem goesOn_any {s : Ps} {r : Bool} (h : GoR s r) (B g : Nat) (w : World) (hp : ParAt w B g s) : Calls Tryz.prog 104 #[.pointer (some ⟨g, 0, none⟩)] w fun e w' => e = .returned (.bool r) ∧ w = w' := by
  cases h with
  | stop t ts bad h1 => exact goesOn_end t ts bad h1 B g w hp
  | on t ts bad h1 => exact goesOn_on t ts bad h1 B g w hp

/-- the only kid, or a node of all of them -/
def sing (k : Int) (l : List Rx) : Rx := match l with | [x] => x | l => .node k 0 0 l
set_option maxHeartbeats 1000000 in
theorem single_one (k : Int) (x : Rx) (A : Option Addr) (c : Nat) (w : World) (S : Nat → Prop) (hS : ∀ b, S b → b < w.heap.size) (hl : RtL w S [x] A) :
    Calls Tryz.prog 73 #[.int .i64 k, .slice A 1 c] w fun e w' => ∃ v, e = .returned v ∧ RtV w' S x v ∧ Below w.heap.size w w' := by
  obtain ⟨b, o, A', c', rfl, hb, h4, hx⟩ := hl.get (j := 0) (by simp)
  simp only [List.getElem_cons_zero, Nat.zero_mul, Nat.add_zero] at h4 hx
  have hx' := hx.parts
  have q := h4
  obtain ⟨e0, e1, e2, e3⟩ := h4
  obtain ⟨xk, xl, xh, xs⟩ := x
  simp only [Rx.kind, Rx.lo, Rx.hi, Rx.kids] at e0 e1 e2 e3 hx q
  have hbl := hS b hb
  obtain ⟨n0, n1, n2, n3⟩ := q.to (Below.heap_alloc w (.cells #[.int .i64 0, .int .u8 0, .int .u8 0, .slice none 0 0] 30) b hbl)
  have hr := heap_alloc_new w (.cells #[.int .i64 0, .int .u8 0, .int .u8 0, .slice none 0 0] 30)
  obtain ⟨q0, q1, q2, q3⟩ := four hr
  have hf := four_frozen hr
  clear hl hx' e0 e1 e2 e3 q
  go_enter Tryz.func73, Tryz.ntmps73
  go_wp2
  refine bodyPost_ret (v := rxv xk xl xh A' xs.length c') (by unfold rxv; simp [results, Tryz.results73, go_sem, q0, q1, q2, q3]) rfl ?_
  have hm := (Below.refl w.heap.size w).alloc (Nat.le_refl _) (.cells #[.int .i64 xk, .int .u8 xl, .int .u8 xh, .slice A' xs.length c'] 30)
  exact ⟨_, rfl, RtV.to (fun b hb => ⟨hb, hm.block b (hS b hb)⟩) _ hx, hm⟩
set_option maxHeartbeats 1000000 in
theorem single_many (k : Int) (l : List Rx) (A : Option Addr) (c : Nat) (w : World) (S : Nat → Prop) (hS : ∀ b, S b → b < w.heap.size) (hl : RtL w S l A) (hn : l.length ≠ 1) (hk : I64 k) (hlen : l.length ≤ 1048576) (hc : l.length ≤ c) (hA : A = none → c = 0) :
    Calls Tryz.prog 73 #[.int .i64 k, .slice A l.length c] w fun e w' => ∃ v, e = .returned v ∧ RtV w' S (.node k 0 0 l) v ∧ Below w.heap.size w w' := by
  have hr := heap_alloc_new w (.cells #[.int .i64 0, .int .u8 0, .int .u8 0, .slice none 0 0] 30)
  obtain ⟨q0, q1, q2, q3⟩ := four hr
  have hf := four_frozen hr
  go_enter Tryz.func73, Tryz.ntmps73
  go_wp2
  refine bodyPost_ret (v := rxv k 0 0 A l.length c) (by unfold rxv; simp [results, Tryz.results73, go_sem, q0, q1, q2, q3]) rfl ?_
  have hm := (Below.refl w.heap.size w).alloc (Nat.le_refl _) (.cells #[.int .i64 k, .int .u8 0, .int .u8 0, .slice A l.length c] 30)
  exact ⟨_, rfl, RtV.mk ⟨hk, by omega, by omega, hlen⟩ hc hA (RtL.to (fun b hb => ⟨hb, hm.block b (hS b hb)⟩) _ hl), hm⟩
theorem single_any (k : Int) (l : List Rx) (A : Option Addr) (c : Nat) (w : World) (S : Nat → Prop) (hS : ∀ b, S b → b < w.heap.size) (hl : RtL w S l A) (hk : I64 k) (hlen : l.length ≤ 1048576) (hc : l.length ≤ c) (hA : A = none → c = 0) :
    Calls Tryz.prog 73 #[.int .i64 k, .slice A l.length c] w fun e w' => ∃ v, e = .returned v ∧ RtV w' S (sing k l) v ∧ Below w.heap.size w w' := by
  match l, hl, hlen, hc with
  | [x], hl, _, _ => exact single_one k x A c w S hS hl
  | [], hl, hlen, hc => exact single_many k [] A c w S hS hl (by simp) hk hlen hc hA
  | x :: y :: l, hl, hlen, hc => exact single_many k (x :: y :: l) A c w S hS hl (by simp) hk hlen hc hA

/-- a method of the parser that hands back an expression -/
def PC (F : Nat) (s : Ps) (r : Rx) (s' : Ps) : Prop := ∀ (B g : Nat) (w : World), ParAt w B g s → Calls Tryz.prog F #[.pointer (some ⟨g, 0, none⟩)] w fun e w' => ∃ v, e = .returned v ∧ RtV w' (Mid w.heap.size w'.heap.size) r v ∧ ParAt w' B g s' ∧ w.grownBy w' (some g)
theorem grown_alloc1 {w W : World} {g : Nat} (h : w.grownBy W (some g)) (o1 : Obj) : w.grownBy (W.alloc o1) (some g) := h.trans (World.grownBy_alloc W o1 (some g))
theorem grown_alloc2 {w W : World} {g : Nat} (h : w.grownBy W (some g)) (o1 o2 : Obj) : w.grownBy ((W.alloc o1).alloc o2) (some g) := grown_alloc1 (grown_alloc1 h o1) o2
theorem par_alloc2 {w : World} {B g : Nat} {s : Ps} (h : ParAt w B g s) (o1 o2 : Obj) : ParAt ((w.alloc o1).alloc o2) B g s := h.below (below_alloc2 (Below.refl _ _) (Nat.le_refl _) o1 o2)
theorem i64_zero : I64 0 := by unfold I64; omega
theorem rt_leaf (W : World) (S : Nat → Prop) (k l h : Int) (hk : I64 k) (hl : 0 ≤ l ∧ l < 256) (hh : 0 ≤ h ∧ h < 256) : RtV W S (.node k l h []) (rxv k l h none 0 0) := RtV.mk (s := []) ⟨hk, hl, hh, by simp⟩ (by simp) (fun _ => rfl) (by simp only [RtL])
theorem grown_far1 {w W : World} {N g : Nat} (h : w.grownBy W (some g)) (hN : w.heap.size ≤ N) (i : Nat) (x : Value) : w.grownBy (W.setCell ⟨N, i, none⟩ x) (some g) :=
  ⟨h.os, h.tape, h.output, by simp [World.setCell]; exact h.size, fun k hk hne => (Below.heap_setCell _ _ _ k (by simp; omega)).trans (h.block k hk hne)⟩
theorem fin4_grown {w W : World} {N g : Nat} (h : w.grownBy W (some g)) (hN : w.heap.size ≤ N) (c0 c1 c2 c3 : Value) : w.grownBy ((((W.setCell ⟨N, 0, none⟩ c0).setCell ⟨N, 1, none⟩ c1).setCell ⟨N, 2, none⟩ c2).setCell ⟨N, 3, none⟩ c3) (some g) :=
  grown_far1 (grown_far1 (grown_far1 (grown_far1 h hN 0 c0) hN 1 c1) hN 2 c2) hN 3 c3
theorem fin4_par {W : World} {B N g : Nat} {s : Ps} (h : ParAt W B g s) (hN : B ≤ N) (c0 c1 c2 c3 : Value) : ParAt ((((W.setCell ⟨N, 0, none⟩ c0).setCell ⟨N, 1, none⟩ c1).setCell ⟨N, 2, none⟩ c2).setCell ⟨N, 3, none⟩ c3) B g s :=
  h.low (by rw [fin4_size]; exact Nat.le_refl _) (fun j hj => fin4 _ _ _ _ (by omega))
/-- the parser has failed -/
theorem par_fail {w : World} {B g : Nat} {s : Ps} (h : ParAt w B g s) : ParAt (w.setCell ⟨g, 1, none⟩ (.bool true)) B g ⟨s.ts, true⟩ := by
  obtain ⟨b, o, c, h1, h2, h3, h4, h5, h6, h7⟩ := h
  exact par_set (s := ⟨s.ts, true⟩) h1 h3 h4 h2 h5 h6 h7 (by rw [blk_set h1]; rfl) (fun j hj => Below.heap_setCell _ _ _ j (by simpa using hj)) (by simp [World.setCell])
/-- a token that no atom begins with -/
def noAtom (k : ByteArray) : Bool := !(k.toList == [91] || k.toList == [40] || k.toList == [110, 111, 110, 101] || k.toList == [101, 109, 112, 116, 121] || k.toList == [99, 97, 116] || k.toList == [97, 108, 116] || k.toList == [97, 108, 108])
theorem noAtom_no {k : ByteArray} (h : noAtom k = true) {l : List UInt8} (hl : l = [91] ∨ l = [40] ∨ l = [110, 111, 110, 101] ∨ l = [101, 109, 112, 116, 121] ∨ l = [99, 97, 116] ∨ l = [97, 108, 116] ∨ l = [97, 108, 108]) : (k.toList == l) = false := by
  unfold noAtom at h
  simp only [Bool.not_eq_true', Bool.or_eq_false_iff] at h
  rcases hl with rfl | rfl | rfl | rfl | rfl | rfl | rfl <;> simp [h]
set_option maxHeartbeats 1000000 in
theorem atom_fail (t : Tok) (ts : List Tok) (bad : Bool) (hk : bad = true ∨ noAtom t.k = true) : PC 117 ⟨t :: ts, bad⟩ (.node 0 0 0 []) ⟨t :: ts, true⟩ := by
  intro B g w hp
  have hN : ∀ k : ByteArray, (noAtom t.k = true → (t.k.toList == k.toList) = false) → TakeN k ⟨t :: ts, bad⟩ := fun k h => by
    rcases hk with rfl | hk
    · exact .bad _
    · cases bad
      · exact .no _ _ (h hk)
      · exact .bad _
  have hp0 := hp.below ((Below.refl _ w).alloc (Nat.le_refl _) (.cells #[.int .i64 0, .int .u8 0, .int .u8 0, .slice none 0 0] 30))
  have hp1 := hp0.below ((Below.refl _ _).alloc (Nat.le_refl _) (.cells #[.string t.k, .int .i64 t.at_, .int .u8 t.lo, .int .u8 t.hi] 88))
  have c1 := takeN (hN ⟨#[91]⟩ (fun h => noAtom_no h (by simp [ByteArray.toList_eq]))) B g _ hp1
  have c2 := takeN (hN ⟨#[40]⟩ (fun h => noAtom_no h (by simp [ByteArray.toList_eq]))) B g _ hp1
  have c3 := takeN (hN ⟨#[110, 111, 110, 101]⟩ (fun h => noAtom_no h (by simp [ByteArray.toList_eq]))) B g _ hp1
  have c4 := takeN (hN ⟨#[101, 109, 112, 116, 121]⟩ (fun h => noAtom_no h (by simp [ByteArray.toList_eq]))) B g _ hp1
  have c5 := takeN (hN ⟨#[99, 97, 116]⟩ (fun h => noAtom_no h (by simp [ByteArray.toList_eq]))) B g _ hp1
  have c6 := takeN (hN ⟨#[97, 108, 116]⟩ (fun h => noAtom_no h (by simp [ByteArray.toList_eq]))) B g _ hp1
  have c7 := takeN (hN ⟨#[97, 108, 108]⟩ (fun h => noAtom_no h (by simp [ByteArray.toList_eq]))) B g _ hp1
  have hp2 := Lib.hid hp1
  have hgl := hp.lt
  have HPP := Lib.hid hp
  have hne1 : ¬ w.heap.size = g := by omega
  have hne2 : ¬ g = w.heap.size := by omega
  have hne3 : ¬ g = w.heap.size + 1 := by omega
  obtain ⟨b1, o1, d1, y1, y2, y3, y4, y5, y7, y8⟩ := hp1
  obtain ⟨p0', p1', f0', f1'⟩ := two y1
  obtain ⟨w0, w1, w3, w4, w5⟩ := y8.five
  obtain ⟨b, o, c, h1, h2, h3, h4, ⟨h5, h6⟩, h7, h8⟩ := hp0
  obtain ⟨k0, k1, k2, k3⟩ := h5
  obtain ⟨p0, p1, f0, f1⟩ := two h1
  have hz : (0 : Int) < ((ts.length + 1 : Nat) : Int) := by omega
  simp only [List.length_cons] at h2 p0
  clear hN y1 y2 y3 y4 y5 y7 y8 h1 h2 h3 h4 h6 h8 hp hk
  go_enter Tryz.func117, Tryz.ntmps117
  go_wp2_with (first
    | (go_at_call 84; (with_reducible refine Calls.mono c1 ?_); clear c1; rintro e w1 ⟨rfl, rfl⟩)
    | (go_at_call 84; (with_reducible refine Calls.mono c2 ?_); clear c2; rintro e w1 ⟨rfl, rfl⟩)
    | (go_at_call 84; (with_reducible refine Calls.mono c3 ?_); clear c3; rintro e w1 ⟨rfl, rfl⟩)
    | (go_at_call 84; (with_reducible refine Calls.mono c4 ?_); clear c4; rintro e w1 ⟨rfl, rfl⟩)
    | (go_at_call 84; (with_reducible refine Calls.mono c5 ?_); clear c5; rintro e w1 ⟨rfl, rfl⟩)
    | (go_at_call 84; (with_reducible refine Calls.mono c6 ?_); clear c6; rintro e w1 ⟨rfl, rfl⟩)
    | (go_at_call 84; (with_reducible refine Calls.mono c7 ?_); clear c7; rintro e w1 ⟨rfl, rfl⟩))
  refine bodyPost_ret (v := rxv 0 0 0 none 0 0) (by unfold rxv; simp [results, Tryz.results117, go_sem]) rfl ?_
  refine ⟨rxv 0 0 0 none 0 0, rfl, rt_leaf _ _ 0 0 0 i64_zero (by decide) (by decide), ?_, ?_⟩
  · exact fin4_par (par_fail hp2.out) hgl.2 _ _ _ _
  · exact fin4_grown ((grown_alloc2 (grown_refl w (some g)) _ _).trans (grown_set _ _ _ _)) (Nat.le_refl _) _ _ _ _

end Go.Proofs.YtnjkihbmhacgoaaGreatDoor
