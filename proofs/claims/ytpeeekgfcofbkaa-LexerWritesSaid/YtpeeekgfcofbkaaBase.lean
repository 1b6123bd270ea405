/-
  WORDS FOR MEMORY: a slice that reads as a list of integers (nil let in), rows of the call's own, conversions between strings and bytes. No function of the program is named here.
-/
import Derived.Test.YtpeeekgfcofbkaaRows
import Derived.Test.YtpeeekgfcofbkaaMath
import Derived.Test.YtpeeekgfcofbkaaMathTwo
import Derived.RangeFuncBox
import Derived.WalkKit
import Derived.WalkSpells
import Derived.WalkLawsBesides
import Derived.Lib.Hide
import Derived.OpenShut
import Derived.Maps.AppendAt
import Derived.Laws.AppendOwnNone
import Derived.Laws.BytesArg
namespace Go.Proofs.Ytpeeekgfcofbkaa
open Go.RowKit

/-- THE SLICE (address A) READS AS zs, whole numbers of kind k, in a block below B. -/
def RdI (w : World) (B : Nat) (k : IntKind) (A : Option Addr) (zs : List Int) : Prop :=
  zs = [] ∨ ∃ b o, A = some ⟨b, o, none⟩ ∧ b < B ∧ ∀ j, j < zs.length → w.cell? ⟨b, o + j, none⟩ = some (.int k (zs[j]?.getD 0))

theorem RdI.below {n₀ : Nat} {A B : World} {k : IntKind} {p : Option Addr} {zs : List Int} (h : RdI A n₀ k p zs) (hb : Below n₀ A B) : RdI B n₀ k p zs := by
  rcases h with h | ⟨b, o, e, hlt, hc⟩
  · exact .inl h
  · exact .inr ⟨b, o, e, hlt, fun j hj => (hb.cell (p := ⟨b, o + j, none⟩) hlt).trans (hc j hj)⟩

theorem RdI.mono {w : World} {B B2 : Nat} {k : IntKind} {A : Option Addr} {zs : List Int} (h : RdI w B k A zs) (hB : B ≤ B2) : RdI w B2 k A zs := by
  rcases h with h | ⟨b, o, e, hb, hc⟩
  · exact .inl h
  · exact .inr ⟨b, o, e, by omega, hc⟩

theorem RdI.at_ {w : World} {B : Nat} {k : IntKind} {A : Option Addr} {zs : List Int} (h : RdI w B k A zs) {j : Nat} (hj : j < zs.length) :
    ∃ b o, A = some ⟨b, o, none⟩ ∧ b < B ∧ w.cell? ⟨b, o + j, none⟩ = some (.int k (zs[j]?.getD 0)) := by
  rcases h with rfl | ⟨b, o, e, hb, hc⟩
  · simp at hj
  · exact ⟨b, o, e, hb, hc j hj⟩

/-- a slice literal reads as its elements -/
theorem rd_new (w : World) (k : IntKind) (t : TypeId) (C : Array Value) (zs : List Int) (h : C = (zs.map (Value.int k)).toArray) (B : Nat) (hB : w.heap.size < B) :
    RdI (w.alloc (.cells C t)) B k (some ⟨w.heap.size, 0, none⟩) zs :=
  .inr ⟨w.heap.size, 0, rfl, hB, fun j hj => by
    subst h
    have := World.cell?_alloc_mark w (zs.map (Value.int k)).toArray t (0, 0) (0 + j)
    rw [this, Nat.zero_add]
    simp [hj]⟩

/-- a row of the call's own reads as its elements -/
theorem rd_own {W : World} {base n c : Nat} {e : TypeId} {k : IntKind} {A : Option Addr} {zs : List Int} (h : W.ownsRow base e 1 (.slice A n c) n (zs.map (Value.int k))) : RdI W W.heap.size k A zs := by
  have hl := h.1
  rw [List.length_map, Nat.mul_one] at hl
  rcases h.2 with ⟨hv, h0⟩ | ⟨g, cap, cur, hv, hb, hg, _⟩
  · exact .inl (List.eq_nil_of_length_eq_zero (by omega))
  · injection hv with hA
    subst hA
    refine .inr ⟨g, 0, rfl, (Array.getElem?_eq_some_iff.1 hg).1, fun j hj => ?_⟩
    have := h.cells (g := g) rfl j (.int k (zs[j]?.getD 0)) (by simp [hj])
    rw [Nat.zero_add]
    have hadd : (⟨g, 0, none⟩ : Addr).add j = ⟨g, j, none⟩ := by unfold Addr.add; split <;> simp_all
    rwa [hadd] at this

theorem rd_cells {w : World} {B : Nat} {k : IntKind} {x : Addr} {zs : List Int} (h : RdI w B k (some x) zs) (m : Nat) : ∀ j u, ((zs.take m).map (Value.int k))[j]? = some u → w.cell? (x.add j) = some u := by
  intro j u hj
  rcases h with rfl | ⟨b, o, e, _, hc⟩
  · simp at hj
  · injection e with e
    subst e
    have hlt : j < (zs.take m).length := by
      have := (List.getElem?_eq_some_iff.1 hj).1
      simpa using this
    have hlt2 : j < zs.length := by rw [List.length_take] at hlt; omega
    have hadd : (⟨b, o, none⟩ : Addr).add j = ⟨b, o + j, none⟩ := by unfold Addr.add; split <;> simp_all
    rw [hadd, hc j hlt2]
    rw [List.getElem?_map, List.getElem?_take_of_lt (by rw [List.length_take] at hlt; omega)] at hj
    simp only [List.getElem?_eq_getElem hlt2, Option.map_some, Option.getD_some] at hj ⊢
    exact hj

theorem rd_set {w : World} {B : Nat} {k : IntKind} {b o : Nat} {zs : List Int} (h : RdI w B k (some ⟨b, o, none⟩) zs) {i : Nat} (hi : i < zs.length) (v : Int) :
    RdI (w.setCell ⟨b, o + i, none⟩ (.int k v)) B k (some ⟨b, o, none⟩) (zs.set i v) := by
  rcases h with rfl | ⟨b', o', e, hb, hc⟩
  · simp at hi
  · injection e with e
    obtain ⟨rfl, rfl⟩ : b = b' ∧ o = o' := by cases e; exact ⟨rfl, rfl⟩
    refine .inr ⟨b, o, rfl, hb, fun j hj => ?_⟩
    rw [List.length_set] at hj
    by_cases hij : j = i
    · subst hij
      rw [World.cell?_setCell_same' _ _ _ (by rw [hc j hj]; rfl)]
      simp [hj]
    · rw [World.cell?_setCell_other _ _ _ _ (by intro e; injection e with _ e2 _; omega), hc j hj, List.getElem?_set_ne (Ne.symm hij)]

theorem rd_far {w : World} {B : Nat} {k : IntKind} {A : Option Addr} {zs : List Int} (h : RdI w B k A zs) {p : Addr} (hp : B ≤ p.block) (u : Value) : RdI (w.setCell p u) B k A zs := by
  rcases h with h | ⟨b, o, e, hb, hc⟩
  · exact .inl h
  · exact .inr ⟨b, o, e, hb, fun j hj => by rw [World.cell?_setCell_other _ _ _ _ (by rintro rfl; simp at hp; omega)]; exact hc j hj⟩

theorem rd_some {w : World} {B : Nat} {k : IntKind} {g : Nat} {zs : List Int} (h : RdI w B k (some ⟨g, 0, none⟩) zs) {j : Nat} (hj : j < zs.length) : ∃ x, x = zs[j]?.getD 0 ∧ w.cell? ⟨g, j, none⟩ = some (.int k x) := by
  obtain ⟨b, o, e, _, hc⟩ := h.at_ hj
  cases e
  rw [Nat.zero_add] at hc
  exact ⟨_, rfl, hc⟩

/-- a store into a slice of the call's own, as the walk spells it -/
theorem rd_put {w : World} {k : IntKind} {g : Nat} {zs : List Int} (h : RdI w w.heap.size k (some ⟨g, 0, none⟩) zs) {i : Nat} (hi : i < zs.length) (v : Int) :
    RdI (w.setCell ⟨g, i, none⟩ (.int k v)) (w.setCell ⟨g, i, none⟩ (.int k v)).heap.size k (some ⟨g, 0, none⟩) (zs.set i v) := by
  have := rd_set h hi v
  rw [Nat.zero_add] at this
  exact this.mono (by simp [World.setCell])

theorem one_cells (k : IntKind) (zs : List Int) : ∀ u ∈ zs.map (Value.int k), u.oneCell' = true := fun u hu => by
  obtain ⟨z, _, rfl⟩ := List.mem_map.1 hu
  rfl

theorem bytes8_set {zs : List Int} (h : Bytes8 zs) (k : Nat) {v : Int} (hv : 0 ≤ v ∧ v < 256) : Bytes8 (zs.set k v) := fun z hz => by
  rcases List.mem_or_eq_of_mem_set hz with h1 | rfl
  · exact h z h1
  · exact hv

theorem bytes8_wf {zs : List Int} (h : ∀ n ∈ zs, (Lit.int .u8 n).wf = true) : Bytes8 zs := fun z hz => by
  have := bounds_u8 (h z hz)
  omega

theorem bits_xor_u8_nat (a b : Nat) (ha : a < 256) (hb : b < 256) : bits .xor .u8 (a : Int) (b : Int) = ((a ^^^ b : Nat) : Int) := by
  have hx : a ^^^ b < 2 ^ 8 := Nat.xor_lt_two_pow (by omega) (by omega)
  have h1 : (BitVec.ofInt 8 (a : Int)).toNat = a := by
    rw [BitVec.ofInt_natCast, BitVec.toNat_ofNat]; exact Nat.mod_eq_of_lt (by omega)
  have h2 : (BitVec.ofInt 8 (b : Int)).toNat = b := by
    rw [BitVec.ofInt_natCast, BitVec.toNat_ofNat]; exact Nat.mod_eq_of_lt (by omega)
  show IntKind.u8.wrap ((BitVec.ofInt 8 (a : Int) ^^^ BitVec.ofInt 8 (b : Int)).toNat : Int) = _
  rw [BitVec.toNat_xor, h1, h2]
  have hw : ∀ n : Int, IntKind.u8.wrap n = n % 256 := fun n => by simp [IntKind.wrap, IntKind.bits, IntKind.signed]
  rw [hw]
  omega

theorem xor8 {x y : Int} (hx : 0 ≤ x ∧ x < 256) (hy : 0 ≤ y ∧ y < 256) : (0 ≤ bits .xor .u8 x y ∧ bits .xor .u8 x y < 256) ∧ (bits .xor .u8 x y = x ↔ y = 0) := by
  obtain ⟨a, rfl⟩ : ∃ a : Nat, x = a := ⟨x.toNat, by omega⟩
  obtain ⟨b, rfl⟩ : ∃ b : Nat, y = b := ⟨y.toNat, by omega⟩
  rw [bits_xor_u8_nat a b (by omega) (by omega)]
  have hlt : a ^^^ b < 2 ^ 8 := Nat.xor_lt_two_pow (by omega) (by omega)
  refine ⟨⟨by omega, by omega⟩, ⟨fun h => ?_, fun h => ?_⟩⟩
  · have h2 : a ^^^ b = a ^^^ 0 := by rw [Nat.xor_zero]; omega
    have := xor_cancel_left h2
    omega
  · have h2 : b = 0 := by omega
    rw [h2, Nat.xor_zero]

theorem own_below {w w' : World} {base : Nat} {e : TypeId} {size n : Nat} {v : Value} {xs : List Value} (h : w.ownsRow base e size v n xs) (hb : Below w.heap.size w w') : w'.ownsRow base e size v n xs :=
  h.kept (row := none) ⟨hb.os, hb.tape, hb.output, hb.size, fun i hi _ => hb.block i hi⟩ (by cases v.ownBlock <;> simp)

theorem own_none {w : World} {base : Nat} {e : TypeId} {size n c : Nat} {A : Option Addr} {xs : List Value} (h : w.ownsRow base e size (.slice A n c) n xs) : A = none → c = 0 := fun hA => by
  subst hA
  rcases h.2 with ⟨hv, _⟩ | ⟨g, cap, cur, hv, _⟩
  · injection hv
  · cases hv

theorem own_cap {w : World} {base : Nat} {e : TypeId} {size n c : Nat} {A : Option Addr} {xs : List Value} (h : w.ownsRow base e size (.slice A n c) n xs) : n ≤ c := by
  rcases h.2 with ⟨_, h0⟩ | ⟨g, cap, cur, hv, _, _, hn, _⟩
  · omega
  · injection hv with _ _ hc
    subst hc
    exact hn

/-- a row of the call's own that is not empty: its block -/
theorem own_block {w : World} {base : Nat} {e : TypeId} {n c : Nat} {A : Option Addr} {xs : List Value} (h : w.ownsRow base e 1 (.slice A n c) n xs) (hn : 0 < n) :
    ∃ g, A = some ⟨g, 0, none⟩ ∧ base ≤ g ∧ g < w.heap.size ∧ ∀ i, w.frozen? ⟨g, i, none⟩ = false := by
  rcases h.2 with ⟨_, h0⟩ | ⟨g, cap, cur, hv, hb, hg, _⟩
  · omega
  · injection hv with hA
    exact ⟨g, hA, hb, (Array.getElem?_eq_some_iff.1 hg).1, fun i => by simp [World.frozen?, hg]⟩

theorem keeps_appended {W w1 : World} {base size k : Nat} {e : TypeId} {v : Value} {xs : List Value} {tmp : Obj} (hrow : W.ownsRow base e size v k xs) (hgrow : (W.alloc tmp).grownBy w1 v.ownBlock) : KeepsOthers W w1 :=
  (KeepsOthers.alloc W _).trans (KeepsOthers.of_grownBy hgrow fun j o ej hj => by
    rcases (hrow.alloc tmp).2 with ⟨rfl, _⟩ | ⟨g, cap, cur, rfl, _, hgb, _⟩
    · simp [Value.ownBlock] at ej
    · obtain rfl : g = j := by simpa [Value.ownBlock] using ej
      rw [hgb] at hj; cases hj; rfl)

/-- A CALL THAT HANDS BACK A SLICE OF ITS OWN, in new memory: it reads as zs -/
def GivesRow (B : Nat) (w : World) (e : TypeId) (k : IntKind) (zs : List Int) (en : Ending) (w' : World) : Prop :=
  ∃ A c, en = .returned (.slice A zs.length c) ∧ zs.length ≤ c ∧ w'.ownsRow B e 1 (.slice A zs.length c) zs.length (zs.map (Value.int k)) ∧ Below B w w'

theorem gives_own {B : Nat} {w w' : World} {e : TypeId} {k : IntKind} {zs : List Int} {v : Value} {n : Nat} {l : List Value} (hl : l = zs.map (Value.int k)) (hn : n = zs.length) (h : w'.ownsRow B e 1 v n l) (hb : Below B w w') : GivesRow B w e k zs (.returned v) w' := by
  subst hl hn
  rcases h.2 with ⟨rfl, h0⟩ | ⟨g, cap, cur, rfl, hg⟩
  · refine ⟨none, 0, by rw [h0], by omega, by rw [h0] at h ⊢; exact h, hb⟩
  · exact ⟨_, cap, rfl, hg.2.2.1, h, hb⟩

theorem below_drewN {B : Nat} {a w : World} (h : Below B a w) (n : Nat) : Below B a (w.drewN n) := ⟨h.os, h.tape, h.output, h.size, h.block⟩

/-- what the row's frame says of a slice of integers that came in, in my words -/
theorem row_rd {w : World} {k : IntKind} {A : Option Addr} {len cap : Nat} {zs : List Int}
    (h : (A = none ∧ len = 0 ∧ cap = 0 ∧ zs = []) ∨ ∃ x, A = some x ∧ len ≤ cap ∧ cap ≤ maxLen ∧ zs.length = cap ∧ (∀ i, i < zs.length → w.cell? (x.add i) = some (.int k (zs.getD i 0))) ∧ ∀ n ∈ zs, (Lit.int k n).wf = true) :
    ∃ l : List Int, len = l.length ∧ l.length ≤ maxLen ∧ l.length ≤ cap ∧ (A = none → cap = 0) ∧ RdI w w.heap.size k A l ∧ ∀ n ∈ l, (Lit.int k n).wf = true := by
  rcases h with ⟨rfl, rfl, rfl, rfl⟩ | ⟨x, rfl, hl, hm, hz, hc, hwf⟩
  · exact ⟨[], rfl, Nat.zero_le _, Nat.le_refl _, fun _ => rfl, .inl rfl, by simp⟩
  · have hlen : (zs.take len).length = len := by rw [List.length_take]; omega
    refine ⟨zs.take len, hlen.symm, by omega, by omega, (fun h => nomatch h), ?_, fun n hn => hwf n (List.mem_of_mem_take hn)⟩
    by_cases h0 : len = 0
    · left; rw [h0]; rfl
    · right
      obtain ⟨b, o, rfl, hcell⟩ := ints_at hc (by omega)
      refine ⟨b, o, rfl, World.block_lt_of_cell? _ _ (hcell 0 (by omega)), fun j hj => ?_⟩
      rw [hlen] at hj
      rw [hcell j (by omega), List.getElem?_take_of_lt hj, List.getD_eq_getElem?_getD]

/-- a string's bytes -/
def sb (s : ByteArray) : List Int := s.data.toList.map fun c => (c.toNat : Int)

theorem sb_length (s : ByteArray) : (sb s).length = s.size := by unfold sb; rw [List.length_map, Array.length_toList]; rfl

theorem sb_bytes (s : ByteArray) : Bytes8 (sb s) := fun z hz => by
  obtain ⟨c, _, rfl⟩ := List.mem_map.1 hz
  have := c.toNat_lt
  omega

/-- []byte(s): a new block whose first cells are the string's bytes -/
theorem conv_bytes (s : ByteArray) (W : World) : ∃ cap C, s.size ≤ cap ∧ (convert 9 24 (.string s)).run Try.prog W = .ok (.slice (some ⟨W.heap.size, 0, none⟩) s.size cap) (W.drew.alloc (.cells C 5 (C.size, C.size + 1))) ∧
    Hid (∀ j, j < (sb s).length → C[j]? = some (.int .u8 ((sb s)[j]?.getD 0))) := by
  refine ⟨_, _, ?_, run_bytes_of_string W 9 24 5 s Try.underlying9 Try.underlying24 Try.underlying5, Lib.hid ?_⟩
  · exact grownCap_ge W s.size 0 5
  · intro j hj
    rw [sb_length] at hj
    have hj' : j < s.data.size := hj
    rw [bytesRow_at s _ j hj']
    have : j < (sb s).length := by rw [sb_length]; exact hj
    simp only [sb, List.getElem?_map, Array.getElem?_toList, Array.getElem?_eq_getElem hj', Option.map_some, Option.getD_some]

theorem rd_conv (w : World) (C : Array Value) (zs : List Int) (hC : Hid (∀ j, j < zs.length → C[j]? = some (.int .u8 (zs[j]?.getD 0)))) :
    RdI (w.alloc (.cells C 5 (C.size, C.size + 1))).drew (w.alloc (.cells C 5 (C.size, C.size + 1))).drew.heap.size .u8 (some ⟨w.heap.size, 0, none⟩) zs :=
  .inr ⟨w.heap.size, 0, rfl, by simp, fun j hj => by
    have h1 := World.cell?_alloc_mark w C 5 (C.size, C.size + 1) j
    rw [hC.out j hj] at h1
    rw [Nat.zero_add]
    exact h1⟩

/-- string(b) of a byte slice, in every world in which it reads as zs -/
theorem conv_string (g n c : Nat) (zs : List Int) (W : World) (hn : zs.length = n) (hr : RdI W W.heap.size .u8 (some ⟨g, 0, none⟩) zs) :
    (convert 24 9 (.slice (some ⟨g, 0, none⟩) n c)).run Try.prog W = .ok (.string (strOfNums zs)) W :=
  run_convert_bytes_arg W 24 5 Try.underlying24 Try.underlying5 g 0 n c zs hn (fun i hi => by
    obtain ⟨b, o, e, _, hc⟩ := hr.at_ (j := i) (by omega)
    cases e
    rw [hc, List.getD_eq_getElem?_getD]) 9 Try.underlying9

theorem sb_of_nums {zs : List Int} (h : Bytes8 zs) : sb (strOfNums zs) = zs := by
  have e : (strOfNums zs).data.toList = zs.map fun n => UInt8.ofNat n.toNat := strOfNums_data zs
  unfold sb
  rw [e, List.map_map]
  conv => rhs; rw [← List.map_id zs]
  refine List.map_congr_left fun z hz => ?_
  have hb := h z hz
  show ((UInt8.ofNat z.toNat).toNat : Int) = z
  rw [UInt8.toNat_ofNat']
  omega

theorem info_int : (Try.prog.info? 3).map (fun i => (i.zero, i.size, i.bytes)) = some (some (.int .i64 0), 1, 8) := by kernel_rfl

theorem info_u8 : (Try.prog.info? 5).map (fun i => (i.zero, i.size, i.bytes)) = some (some (.int .u8 0), 1, 1) := by kernel_rfl

theorem info_u64 : (Try.prog.info? 47).map (fun i => (i.zero, i.size, i.bytes)) = some (some (.int .u64 0), 1, 8) := by kernel_rfl

/-- append(out, x...) where out is a row of the call's own and x reads as a list, nil let in -/
theorem wpList_append_rd {P : Program} (w : World) {ops : Array Oper} {rest : List Oper} {o : Oper} {a : Act} {Q : Exit → Act → World → Prop} (hgd : o.guard = none) (s x : Operand) (t : TypeId)
    (ho : o.op = .call { callee := .builtin .append, args := #[s, x], argTypes := #[t, t] })
    (base : Nat) (e : TypeId) (i : TypeInfo) (z : Value) (size bytes : Nat) (ht : P.underlying t = some (.slice e)) (hi : P.info? e = some i) (hz : i.zero = some z)
    (hsize : i.size = size) (hby : i.bytes = bytes) (hzs : z.cells.size = size) (hs1 : size = 1) (hsz : 0 < size)
    (v : Value) (n : Nat) (xs : List Value) (hs : a.eval s = v) (hown : w.ownsRow base e size v n xs)
    (k : IntKind) (A : Option Addr) (m c : Nat) (zs : List Int) (hx : a.eval x = .slice A m c) (hm : m = zs.length) (hA : A = none → c = 0) (hc : zs.length ≤ c) (hr : RdI w w.heap.size k A zs)
    (h63 : n + m ≤ maxLen) (hbytes : (n + m) * bytes ≤ 140737488355328) (hbase : base ≤ w.heap.size)
    (h : ∀ v' w', w'.ownsRow base e size v' (n + m) (xs ++ zs.map (Value.int k)) → w.grownBy w' v.ownBlock → wpList P ops Q rest (a.put o.dst v') w') : wpList P ops Q (o :: rest) a w := by
  subst hm hs1
  cases A with
  | none =>
    obtain rfl : c = 0 := hA rfl
    obtain rfl : zs = [] := List.eq_nil_of_length_eq_zero (by omega)
    exact wpList_append_own_none hgd s x t ho base e i 1 ht hi v n xs hs hown hx (h v w (by simpa using hown) ⟨rfl, rfl, rfl, Nat.le_refl _, fun _ _ _ => rfl⟩)
  | some ad =>
    exact wpList_append_own w hgd s x t ho base e i z 1 bytes ht hi hz hsize hby hzs hsz v n xs hs hown ad zs.length c (zs.map (Value.int k)) hx (by simp) (by have := rd_cells hr zs.length; rwa [List.take_length] at this) (one_cells _ _) h63 hbytes hbase
      (fun v' w' h2 h3 _ => h v' w' h2 h3)

theorem blk_set {w : World} {g i : Nat} {t : TypeId} {cs : Array Value} (h : w.heap[g]? = some (.cells cs t (0, 0))) (u : Value) : (w.setCell ⟨g, i, none⟩ u).heap[g]? = some (.cells (cs.setIfInBounds i u) t (0, 0)) := by
  simp [World.setCell, Array.getElem?_modify, h]

theorem grown_set (W : World) (b i : Nat) (v : Value) : W.grownBy (W.setCell ⟨b, i, none⟩ v) (some b) :=
  ⟨rfl, rfl, rfl, by simp [World.setCell], fun k _ hk => Below.heap_setCell _ _ _ k (fun e => hk (by rw [e]))⟩

theorem own_base {w : World} {B B2 : Nat} {e : TypeId} {size n : Nat} {v : Value} {xs : List Value} (h : w.ownsRow B e size v n xs) (hB : B2 ≤ B) : w.ownsRow B2 e size v n xs := by
  refine ⟨h.1, ?_⟩
  rcases h.2 with h | ⟨g, cap, cur, e1, h2, rest⟩
  · exact .inl h
  · exact .inr ⟨g, cap, cur, e1, by omega, rest⟩

theorem blk_not_row {W : World} {B : Nat} {t e : TypeId} {cs : Array Value} {fr : Nat × Nat} (h : W.heap[B]? = some (.cells cs t fr)) (hte : t ≠ e) {base size k : Nat} {v : Value} {xs : List Value} (hr : W.ownsRow base e size v k xs) : some B ≠ v.ownBlock := by
  rcases hr.2 with ⟨rfl, _⟩ | ⟨g, cap, cur, rfl, _, hgb, _⟩
  · simp [Value.ownBlock]
  · intro e'
    obtain rfl : B = g := by simpa [Value.ownBlock] using e'
    rw [h] at hgb
    simp at hgb
    exact hte hgb.2.1

theorem own_one {w : World} {B n size : Nat} {e : TypeId} {v : Value} {xs : List Value} (h : w.ownsRow B e size v n xs) : v.oneCell' = true := by
  rcases h.2 with ⟨rfl, _⟩ | ⟨g, cap, cur, rfl, _⟩ <;> rfl

theorem heap_alloc_new_at (w : World) (o : Obj) {n : Nat} (h : w.heap.size = n) : (w.alloc o).heap[n]? = some o := by subst h; exact heap_alloc_new w o

theorem shr_u64 (x : Int) (p : Nat) : U64 (IntKind.u64.wrap x / 2 ^ p) := by
  have h := u64_wrap x
  unfold U64 at h ⊢
  generalize IntKind.u64.wrap x = y at h
  have hp : (0 : Int) < 2 ^ p := Int.pow_pos (by decide)
  exact ⟨Int.ediv_nonneg h.1 (Int.le_of_lt hp), Int.lt_of_le_of_lt (Int.ediv_le_self _ h.1) h.2⟩

theorem shr_i64 {x : Int} (h : I64 x) (p : Nat) : I64 (x / 2 ^ p) := by
  obtain ⟨h1, h2⟩ := h
  have hp : (0 : Int) < 2 ^ p := Int.pow_pos (by decide)
  have h1' : (1 : Int) ≤ 2 ^ p := hp
  generalize (2 : Int) ^ p = d at hp h1'
  refine ⟨?_, ?_⟩
  · rw [Int.le_ediv_iff_mul_le hp]
    have := Int.mul_le_mul_of_nonneg_left h1' (show (0 : Int) ≤ 9223372036854775808 by decide)
    rw [Int.neg_mul]
    omega
  · have h3 : x / d ≤ 9223372036854775807 / d := Int.ediv_le_ediv hp h2
    have h4 : (9223372036854775807 : Int) / d ≤ 9223372036854775807 := Int.ediv_le_self _ (by decide)
    omega

theorem i64_snoc {bs : List Int} {x : Int} (h : ∀ z ∈ bs, I64 z) (hx : I64 x) : ∀ z ∈ bs ++ [x], I64 z := fun z hz => by
  rcases List.mem_append.1 hz with h1 | h1
  · exact h z h1
  · obtain rfl := List.mem_singleton.1 h1; exact hx

theorem bytes8_snoc {bs : List Int} {x : Int} (h : Bytes8 bs) (hx : 0 ≤ x ∧ x < 256) : Bytes8 (bs ++ [x]) := fun z hz => by
  rcases List.mem_append.1 hz with h1 | h1
  · exact h z h1
  · obtain rfl := List.mem_singleton.1 h1; exact hx

/-- two rows of different element types lie in different blocks -/
theorem own_ne {w : World} {B1 B2 : Nat} {e1 e2 : TypeId} {s1 s2 n1 n2 : Nat} {v1 v2 : Value} {x1 x2 : List Value} (h1 : w.ownsRow B1 e1 s1 v1 n1 x1) (h2 : w.ownsRow B2 e2 s2 v2 n2 x2) (hne : e1 ≠ e2) : v1.ownBlock = none ∨ v1.ownBlock ≠ v2.ownBlock := by
  rcases h1.2 with ⟨rfl, _⟩ | ⟨g1, _, _, rfl, _, hg1, _⟩
  · exact .inl rfl
  · rcases h2.2 with ⟨rfl, _⟩ | ⟨g2, _, _, rfl, _, hg2, _⟩
    · exact .inr (by simp [Value.ownBlock])
    · refine .inr fun e => hne ?_
      obtain rfl : g1 = g2 := by simpa [Value.ownBlock] using e
      rw [hg1] at hg2
      simp at hg2
      exact hg2.2

end Go.Proofs.Ytpeeekgfcofbkaa
