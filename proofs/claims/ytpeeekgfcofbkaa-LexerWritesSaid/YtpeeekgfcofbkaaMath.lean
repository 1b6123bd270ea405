/-
  PLAIN MATHEMATICS OF THE HASH: the mixer is a bijection in the state and in the word; so hashes of lists that differ in one word differ. Nothing of the program stands here.
-/
import Derived.Laws.Bits64
import Derived.RowKit
namespace Go.Proofs.Ytpeeekgfcofbkaa
open Go.RowKit

/-- the mixer, as the walk spells it -/
def mixI (s x : Int) : Int :=
  bits .xor .u64 (IntKind.u64.wrap (bits .xor .u64 s x * 11400714819323198485)) (IntKind.u64.wrap (bits .xor .u64 s x * 11400714819323198485) / 4294967296)

/-- the mixer on natural numbers -/
def mixN (s x : Nat) : Nat :=
  ((s ^^^ x) * 11400714819323198485 % 18446744073709551616) ^^^ (((s ^^^ x) * 11400714819323198485 % 18446744073709551616) / 4294967296)

theorem mixI_nat (s x : Nat) (hs : s < 18446744073709551616) (hx : x < 18446744073709551616) : mixI s x = (mixN s x : Nat) := by
  have hb := bits_xor_u64_nat s x hs hx
  have hm : IntKind.u64.wrap (bits .xor .u64 (s : Int) (x : Int) * 11400714819323198485) = (((s ^^^ x) * 11400714819323198485 % 18446744073709551616 : Nat) : Int) := by
    rw [hb, IntKind.wrap_u64]; omega
  unfold mixI mixN
  rw [hm]
  exact xorShift_u64 _ 4294967296 (Nat.mod_lt _ (by decide))

theorem mixN_lt (s x : Nat) : mixN s x < 18446744073709551616 := by
  unfold mixN
  have h : (s ^^^ x) * 11400714819323198485 % 18446744073709551616 < 2 ^ 64 := Nat.mod_lt _ (by decide)
  exact Nat.xor_lt_two_pow h (Nat.lt_of_le_of_lt (Nat.div_le_self _ _) h)

theorem fold_twice (m : Nat) (h : m < 2 ^ 64) : (m ^^^ (m / 4294967296)) ^^^ ((m ^^^ (m / 4294967296)) / 4294967296) = m := by
  have e : ∀ a : Nat, a / 4294967296 = a >>> 32 := fun a => by rw [Nat.shiftRight_eq_div_pow]
  rw [e, e, Nat.shiftRight_xor_distrib, ← Nat.shiftRight_add]
  have h0 : m >>> (32 + 32) = 0 := by rw [Nat.shiftRight_eq_div_pow]; exact Nat.div_eq_of_lt h
  rw [h0, Nat.xor_zero, Nat.xor_assoc, Nat.xor_self, Nat.xor_zero]

theorem times_back (t : Nat) (h : t < 18446744073709551616) : (t * 11400714819323198485 % 18446744073709551616) * 17428512612931826493 % 18446744073709551616 = t := by
  rw [Nat.mod_mul_mod, Nat.mul_assoc, Nat.mul_mod]
  rw [show 11400714819323198485 * 17428512612931826493 % 18446744073709551616 = 1 from by decide]
  rw [Nat.mul_one, Nat.mod_mod, Nat.mod_eq_of_lt h]

theorem core_inj {a b : Nat} (ha : a < 18446744073709551616) (hb : b < 18446744073709551616)
    (h : (a * 11400714819323198485 % 18446744073709551616) ^^^ ((a * 11400714819323198485 % 18446744073709551616) / 4294967296) = (b * 11400714819323198485 % 18446744073709551616) ^^^ ((b * 11400714819323198485 % 18446744073709551616) / 4294967296)) : a = b := by
  have h1 := fold_twice (a * 11400714819323198485 % 18446744073709551616) (Nat.mod_lt _ (by decide))
  have h2 := fold_twice (b * 11400714819323198485 % 18446744073709551616) (Nat.mod_lt _ (by decide))
  rw [h] at h1
  have h3 := h1.symm.trans h2
  rw [← times_back a ha, ← times_back b hb, h3]

theorem xor_cancel_left {s x y : Nat} (h : s ^^^ x = s ^^^ y) : x = y := by
  have := congrArg (s ^^^ ·) h
  simpa [← Nat.xor_assoc] using this
theorem xor_cancel_right {s t x : Nat} (h : s ^^^ x = t ^^^ x) : s = t := by
  rw [Nat.xor_comm s, Nat.xor_comm t] at h; exact xor_cancel_left h

theorem mixN_inj_state {s t x : Nat} (hs : s < 18446744073709551616) (ht : t < 18446744073709551616) (hx : x < 18446744073709551616) (h : mixN s x = mixN t x) : s = t :=
  xor_cancel_right (core_inj (Nat.xor_lt_two_pow (n := 64) hs hx) (Nat.xor_lt_two_pow (n := 64) ht hx) h)
theorem mixN_inj_word {s x y : Nat} (hs : s < 18446744073709551616) (hx : x < 18446744073709551616) (hy : y < 18446744073709551616) (h : mixN s x = mixN s y) : x = y :=
  xor_cancel_left (core_inj (Nat.xor_lt_two_pow (n := 64) hs hx) (Nat.xor_lt_two_pow (n := 64) hs hy) h)

/-- an Int that is a word -/
def U64 (x : Int) : Prop := 0 ≤ x ∧ x < 18446744073709551616
theorem U64.nat {x : Int} (h : U64 x) : ∃ n : Nat, n < 18446744073709551616 ∧ x = n := ⟨x.toNat, by unfold U64 at h; omega, by unfold U64 at h; omega⟩
theorem u64_wrap (x : Int) : U64 (IntKind.u64.wrap x) := by rw [IntKind.wrap_u64]; unfold U64; omega
theorem u64_of {x : Int} (h : U64 x) : IntKind.u64.wrap x = x := by rw [IntKind.wrap_u64]; unfold U64 at h; omega

theorem mixI_u64 {s x : Int} (hs : U64 s) (hx : U64 x) : U64 (mixI s x) := by
  obtain ⟨a, ha, rfl⟩ := hs.nat
  obtain ⟨b, hb, rfl⟩ := hx.nat
  rw [mixI_nat a b ha hb]
  have := mixN_lt a b
  unfold U64; omega
theorem mixI_state {s t x : Int} (hs : U64 s) (ht : U64 t) (hx : U64 x) : mixI s x = mixI t x ↔ s = t := by
  refine ⟨fun h => ?_, fun h => by rw [h]⟩
  obtain ⟨a, ha, rfl⟩ := hs.nat
  obtain ⟨b, hb, rfl⟩ := ht.nat
  obtain ⟨c, hc, rfl⟩ := hx.nat
  rw [mixI_nat a c ha hc, mixI_nat b c hb hc] at h
  rw [mixN_inj_state ha hb hc (by omega)]
theorem mixI_word {s x y : Int} (hs : U64 s) (hx : U64 x) (hy : U64 y) : mixI s x = mixI s y ↔ x = y := by
  refine ⟨fun h => ?_, fun h => by rw [h]⟩
  obtain ⟨a, ha, rfl⟩ := hs.nat
  obtain ⟨b, hb, rfl⟩ := hx.nat
  obtain ⟨c, hc, rfl⟩ := hy.nat
  rw [mixI_nat a b ha hb, mixI_nat a c ha hc] at h
  rw [mixN_inj_word ha hb hc (by omega)]

/-- the reference divides twice wrapped: the same -/
theorem rdiv (t : Int) : IntKind.u64.wrap ((IntKind.u64.wrap t).tdiv 4294967296) = IntKind.u64.wrap t / 4294967296 := by
  have h := u64_wrap t
  obtain ⟨n, hn, e⟩ := h.nat
  rw [e, Int.tdiv_eq_ediv_of_nonneg (by omega), IntKind.wrap_u64]
  omega

/-! ### folds -/
def foldI (s : Int) (l : List Int) : Int := l.foldl mixI s
theorem foldI_snoc (s : Int) (l : List Int) (x : Int) : foldI s (l ++ [x]) = mixI (foldI s l) x := by simp [foldI]
theorem foldI_append (s : Int) (l r : List Int) : foldI s (l ++ r) = foldI (foldI s l) r := by simp [foldI]
theorem foldI_u64 {s : Int} (hs : U64 s) : ∀ {l : List Int}, (∀ x ∈ l, U64 x) → U64 (foldI s l) := by
  intro l
  induction l generalizing s with
  | nil => intro _; exact hs
  | cons x l ih => intro h; exact ih (mixI_u64 hs (h x (by simp))) (fun y hy => h y (by simp [hy]))
theorem foldI_state {s t : Int} (hs : U64 s) (ht : U64 t) : ∀ {l : List Int}, (∀ x ∈ l, U64 x) → (foldI s l = foldI t l ↔ s = t) := by
  intro l
  induction l generalizing s t with
  | nil => intro _; exact Iff.rfl
  | cons x l ih =>
    intro h
    have hx := h x (by simp)
    exact (ih (mixI_u64 hs hx) (mixI_u64 ht hx) (fun y hy => h y (by simp [hy]))).trans (mixI_state hs ht hx)
/-- ONE WORD: the folds agree just where the word does. -/
theorem foldI_one {s x y : Int} {l r : List Int} (hs : U64 s) (hl : ∀ z ∈ l, U64 z) (hr : ∀ z ∈ r, U64 z) (hx : U64 x) (hy : U64 y) :
    foldI s (l ++ x :: r) = foldI s (l ++ y :: r) ↔ x = y := by
  rw [foldI_append, foldI_append]
  have h0 := foldI_u64 hs hl
  exact (foldI_state (mixI_u64 h0 hx) (mixI_u64 h0 hy) hr).trans (mixI_word h0 hx hy)

/-- int to uint64 -/
def w64 (x : Int) : Int := IntKind.u64.wrap x

/-- a group, lowest byte first -/
def leI : List Int → Int
  | [] => 0
  | c :: l => c + 256 * leI l
/-- what has come when k rounds are over -/
def upto (f : Nat → Int) (k : Nat) : List Int := (List.range k).map f
theorem upto_succ (f : Nat → Int) (k : Nat) : upto f (k + 1) = upto f k ++ [f k] := by simp [upto, List.range_succ]
theorem upto_length (f : Nat → Int) (k : Nat) : (upto f k).length = k := by simp [upto]
/-- group number j -/
def grp (l : List Int) (j : Nat) : Int := leI ((l.drop (8 * j)).take 8)
/-- the words of bytes -/
def words (l : List Int) : List Int := upto (grp l) ((l.length + 7) / 8)

/-- THE HASH of a label's bytes and of integers -/
def sumI (lab ws : List Int) : Int := mixI (foldI (mixI (mixI (foldI 0 (words lab)) lab.length) ws.length) (ws.map w64)) 0
/-- THE HASH of a label's bytes and of bytes -/
def bytesI (lab b : List Int) : Int := sumI lab ((words b).map wrap64 ++ [(b.length : Int)])

/-! ### littleEndian -/
theorem bits_or_u64_nat (a b : Nat) (ha : a < 18446744073709551616) (hb : b < 18446744073709551616) :
    bits .or .u64 (a : Int) (b : Int) = ((a ||| b : Nat) : Int) := by
  have hx : a ||| b < 2 ^ 64 := Nat.or_lt_two_pow (by omega) (by omega)
  have h1 : (BitVec.ofInt 64 (a : Int)).toNat = a := by
    rw [BitVec.ofInt_natCast, BitVec.toNat_ofNat]; exact Nat.mod_eq_of_lt (by omega)
  have h2 : (BitVec.ofInt 64 (b : Int)).toNat = b := by
    rw [BitVec.ofInt_natCast, BitVec.toNat_ofNat]; exact Nat.mod_eq_of_lt (by omega)
  show IntKind.u64.wrap ((BitVec.ofInt 64 (a : Int) ||| BitVec.ofInt 64 (b : Int)).toNat : Int) = _
  rw [BitVec.toNat_or, h1, h2, IntKind.wrap_u64]
  omega

/-- each is a byte -/
def Bytes8 (zs : List Int) : Prop := ∀ z ∈ zs, 0 ≤ z ∧ z < 256
theorem Bytes8.get {zs : List Int} (h : Bytes8 zs) (j : Nat) : 0 ≤ zs[j]?.getD 0 ∧ zs[j]?.getD 0 < 256 := by
  by_cases hj : j < zs.length
  · have := h zs[j] (List.getElem_mem hj)
    simpa [hj] using this
  · simp [List.getElem?_eq_none (Nat.le_of_not_lt hj)]
theorem Bytes8.take {zs : List Int} (h : Bytes8 zs) (k : Nat) : Bytes8 (zs.take k) := fun z hz => h z (List.mem_of_mem_take hz)
theorem Bytes8.drop {zs : List Int} (h : Bytes8 zs) (k : Nat) : Bytes8 (zs.drop k) := fun z hz => h z (List.mem_of_mem_drop hz)

theorem leI_snoc (l : List Int) (c : Int) : leI (l ++ [c]) = leI l + c * 256 ^ l.length := by
  induction l with
  | nil => simp [leI]
  | cons x l ih =>
    rw [List.cons_append, leI, ih, leI, List.length_cons, Int.pow_succ, Int.mul_add, Int.add_assoc]
    congr 2
    rw [← Int.mul_assoc, ← Int.mul_assoc, Int.mul_comm 256 c, Int.mul_assoc, Int.mul_assoc, Int.mul_comm 256]
theorem leI_nat {l : List Int} (h : Bytes8 l) : ∃ n : Nat, leI l = n ∧ n < 256 ^ l.length := by
  induction l with
  | nil => exact ⟨0, rfl, by simp⟩
  | cons x l ih =>
    obtain ⟨n, hn, hl⟩ := ih (fun z hz => h z (by simp [hz]))
    have hx := h x (by simp)
    refine ⟨x.toNat + 256 * n, by rw [leI, hn]; omega, ?_⟩
    rw [List.length_cons, Nat.pow_succ]
    have : n + 1 ≤ 256 ^ l.length := hl
    omega
theorem leI_u64 {l : List Int} (h : Bytes8 l) (h8 : l.length ≤ 8) : U64 (leI l) := by
  obtain ⟨n, hn, hl⟩ := leI_nat h
  have : 256 ^ l.length ≤ 256 ^ 8 := Nat.pow_le_pow_right (by decide) h8
  rw [hn]; unfold U64; omega
theorem take_snoc {zs : List Int} {k : Nat} (h : k < zs.length) : zs.take (k + 1) = zs.take k ++ [zs[k]?.getD 0] := by
  rw [List.take_succ_eq_append_getElem h]; simp [h]
theorem le_step {zs : List Int} {k : Nat} (h8 : zs.length ≤ 8) (hb : Bytes8 zs) (hk : k < zs.length) :
    bits .or .u64 (leI (zs.take k)) (IntKind.u64.wrap (IntKind.u64.wrap (zs[k]?.getD 0) * 2 ^ (8 * k))) = leI (zs.take (k + 1)) := by
  have hg := hb.get k
  obtain ⟨n, hn, hl⟩ := leI_nat (hb.take k)
  rw [List.length_take, Nat.min_eq_left (by omega)] at hl
  rw [take_snoc hk, leI_snoc, hn, List.length_take, Nat.min_eq_left (by omega)]
  obtain ⟨c, hc, e⟩ : ∃ c : Nat, c < 256 ∧ zs[k]?.getD 0 = c := ⟨(zs[k]?.getD 0).toNat, by omega, by omega⟩
  rw [e]
  have hp : (256 : Nat) ^ k = 2 ^ (8 * k) := by rw [Nat.pow_mul]
  have hple : (256 : Nat) ^ (k + 1) ≤ 256 ^ 8 := Nat.pow_le_pow_right (by decide) (by omega)
  have hcp : c * 256 ^ k < 18446744073709551616 := by
    have : c * 256 ^ k < 256 * 256 ^ k := Nat.mul_lt_mul_of_pos_right hc (Nat.pow_pos (by decide))
    rw [Nat.pow_succ, Nat.mul_comm] at hple
    omega
  have hn64 : n < 18446744073709551616 := by
    have : (256 : Nat) ^ k ≤ 256 ^ 8 := Nat.pow_le_pow_right (by decide) (by omega)
    omega
  have e1 : IntKind.u64.wrap (IntKind.u64.wrap (c : Int) * 2 ^ (8 * k)) = ((c * 256 ^ k : Nat) : Int) := by
    rw [u64_of (show U64 (c : Int) from ⟨by omega, by omega⟩)]
    have e2 : (c : Int) * 2 ^ (8 * k) = ((c * 256 ^ k : Nat) : Int) := by rw [hp]; push_cast; rfl
    rw [e2]
    exact u64_of ⟨by omega, by omega⟩
  rw [e1, bits_or_u64_nat _ _ hn64 hcp]
  have e3 : n ||| c * 256 ^ k = c * 256 ^ k + n := by
    rw [hp] at hl ⊢
    rw [Nat.or_comm, Nat.mul_comm, ← Nat.two_pow_add_eq_or_of_lt hl]
  rw [e3, Int.natCast_add, Int.natCast_mul, Int.natCast_pow, Int.add_comm]
  rfl

end Go.Proofs.Ytpeeekgfcofbkaa
