/-
  PLAIN MATHEMATICS OF READING: what the reader of wire does to the bytes that are left and to its error; round trip, one encoding, prefixes. Nothing of the program stands here.
-/
import Derived.Test.YtkffpfnmjadpaaaWireMath
import Derived.Test.YtkffpfnmjadpaaaMathTwo
namespace Go.Proofs.Ytkffpfnmjadpaaa
open Go.RowKit

/-- a value: its kind, an unsigned number, a number, bytes, a list -/
structure Vl where
  k : Int
  u : Int
  n : Int
  b : List Int
  l : List Int

/-- the encoding of a truth value, of bytes, of a list -/
def bool1 (b : Bool) : List Int := [if b then 1 else 0]
def raw (b : List Int) : List Int := uv b.length ++ b
def ints (l : List Int) : List Int := uv l.length ++ (l.map fun n => uv (zz n)).flatten
/-- the encoding of a value -/
def Vl.enc (x : Vl) : List Int :=
  if x.k = 0 then uv x.u.toNat else if x.k = 1 then uv (zz x.n) else if x.k = 2 then bool1 (x.n == 1) else if x.k = 3 ∨ x.k = 4 then raw x.b else ints x.l
/-- the encoding of values -/
def encs (xs : List Vl) : List Int := (xs.map Vl.enc).flatten
/-- a value is whole: each part fits its kind -/
def Vl.ok (x : Vl) : Prop := (0 ≤ x.k ∧ x.k ≤ 5) ∧ U64 x.u ∧ I64 x.n ∧ Bytes8 x.b ∧ (∀ z ∈ x.l, I64 z) ∧ x.b.length ≤ 1000 ∧ x.l.length ≤ 1000
/-- a value is in the form of its kind: what its kind does not use is zero -/
def Vl.canon (x : Vl) : Prop :=
  (x.k = 0 → x.n = 0 ∧ x.b = [] ∧ x.l = []) ∧ (x.k = 1 → x.u = 0 ∧ x.b = [] ∧ x.l = []) ∧ (x.k = 2 → (x.n = 0 ∨ x.n = 1) ∧ x.u = 0 ∧ x.b = [] ∧ x.l = []) ∧ (x.k = 3 ∨ x.k = 4 → x.u = 0 ∧ x.n = 0 ∧ x.l = []) ∧ (x.k = 5 → x.u = 0 ∧ x.n = 0 ∧ x.b = [])

/-- A READER: the bytes that are left, the recorded error (0: none, 2: a form that is none, 3: too few bytes) -/
structure Rst where
  l : List Int
  e : Int

def uintR (s : Rst) : Nat × Rst :=
  if s.e = 0 then (match rdv 0 0 s.l with | .ok (m, r) => (m, ⟨r, 0⟩) | .error b => (0, ⟨s.l, if b then 2 else 3⟩)) else (0, s)
def intR (s : Rst) : Int × Rst := (unzz (uintR s).1, (uintR s).2)
def boolR (s : Rst) : Int × Rst :=
  if s.e = 0 then (match s.l with | [] => (0, ⟨[], 3⟩) | c :: r => if 1 < c then (0, ⟨c :: r, 2⟩) else (if c = 1 then 1 else 0, ⟨r, 0⟩)) else (0, s)
def lenR (s : Rst) : Nat × Rst :=
  if (uintR s).2.e = 0 then (if (uintR s).2.l.length < (uintR s).1 then (0, ⟨(uintR s).2.l, 3⟩) else uintR s) else (0, (uintR s).2)
def rawR (s : Rst) : List Int × Rst :=
  if (lenR s).2.e = 0 then ((lenR s).2.l.take (lenR s).1, ⟨(lenR s).2.l.drop (lenR s).1, 0⟩) else ([], (lenR s).2)
def intsGo : Nat → List Int → Rst → List Int × Rst
  | 0, acc, s => (acc, s)
  | n + 1, acc, s => if (intR s).2.e = 0 then intsGo n (acc ++ [(intR s).1]) (intR s).2 else ([], (intR s).2)
def intsR (s : Rst) : List Int × Rst := if (lenR s).2.e = 0 then intsGo (lenR s).1 [] (lenR s).2 else ([], (lenR s).2)
def readR (k : Int) (s : Rst) : Vl × Rst :=
  if k = 0 then (⟨k, ((uintR s).1 : Int), 0, [], []⟩, (uintR s).2)
  else if k = 1 then (⟨k, 0, (intR s).1, [], []⟩, (intR s).2)
  else if k = 2 then (⟨k, 0, (boolR s).1, [], []⟩, (boolR s).2)
  else if k = 3 ∨ k = 4 then (⟨k, 0, 0, (rawR s).1, []⟩, (rawR s).2)
  else (⟨k, 0, 0, [], (intsR s).1⟩, (intsR s).2)
/-- a sequence of reads -/
def readsR : List Int → Rst → List Vl × Rst
  | [], s => ([], s)
  | k :: ks, s => ((readR k s).1 :: (readsR ks (readR k s).2).1, (readsR ks (readR k s).2).2)
/-- what End reports -/
def endR (s : Rst) : Int := if s.e = 0 ∧ 0 < s.l.length then 2 else s.e

/-! ### round trip -/
theorem rdv_uv0 {m : Nat} (h : m < 18446744073709551616) (r : List Int) : rdv 0 0 (uv m ++ r) = .ok (m, r) := by
  have := rdv_uv m 0 0 r (by omega) (by omega) (by omega) (by omega) (fun _ => by omega)
  simpa using this
theorem uintR_uv {m : Nat} (h : m < 18446744073709551616) (r : List Int) : uintR ⟨uv m ++ r, 0⟩ = (m, ⟨r, 0⟩) := by
  simp only [uintR, rdv_uv0 h, if_true]
theorem intR_uv {n : Int} (h : I64 n) (r : List Int) : intR ⟨uv (zz n) ++ r, 0⟩ = (n, ⟨r, 0⟩) := by
  simp only [intR, uintR_uv (zz_lt h.1 h.2), unzz_zz]
theorem lenR_uv {m : Nat} (h : m < 18446744073709551616) {r : List Int} (hr : m ≤ r.length) : lenR ⟨uv m ++ r, 0⟩ = (m, ⟨r, 0⟩) := by
  simp only [lenR, uintR_uv h, if_true]
  rw [if_neg (by omega)]
theorem rawR_raw {b : List Int} (hb : b.length ≤ 1000000) (r : List Int) : rawR ⟨raw b ++ r, 0⟩ = (b, ⟨r, 0⟩) := by
  have e : raw b ++ r = uv b.length ++ (b ++ r) := by simp [raw]
  rw [e]
  simp only [rawR, lenR_uv (m := b.length) (by omega) (r := b ++ r) (by simp), if_true, List.take_left, List.drop_left]
theorem flat_ge (l : List Int) : l.length ≤ ((l.map fun n => uv (zz n)).flatten).length := by
  induction l with
  | nil => simp
  | cons z l ih =>
    have := uv_pos (zz z)
    simp only [List.map_cons, List.flatten_cons, List.length_append, List.length_cons]
    omega
theorem intsGo_flat (l : List Int) (h : ∀ z ∈ l, I64 z) (acc r : List Int) : intsGo l.length acc ⟨(l.map fun n => uv (zz n)).flatten ++ r, 0⟩ = (acc ++ l, ⟨r, 0⟩) := by
  induction l generalizing acc with
  | nil => simp [intsGo]
  | cons z l ih =>
    rw [List.length_cons, intsGo, List.map_cons, List.flatten_cons, List.append_assoc, intR_uv (h z (by simp)), if_pos rfl, ih (fun y hy => h y (by simp [hy]))]
    simp
theorem intsR_ints {l : List Int} (h : ∀ z ∈ l, I64 z) (hl : l.length ≤ 1000000) (r : List Int) : intsR ⟨ints l ++ r, 0⟩ = (l, ⟨r, 0⟩) := by
  have e : ints l ++ r = uv l.length ++ ((l.map fun n => uv (zz n)).flatten ++ r) := by simp [ints]
  have hg := flat_ge l
  rw [e]
  simp only [intsR, lenR_uv (m := l.length) (by omega) (r := (l.map fun n => uv (zz n)).flatten ++ r) (by rw [List.length_append]; omega), if_true]
  simpa using intsGo_flat l h [] r
/-- ROUND TRIP of one value -/
theorem readR_enc {x : Vl} (h : x.ok) (hc : x.canon) (r : List Int) : readR x.k ⟨x.enc ++ r, 0⟩ = (x, ⟨r, 0⟩) := by
  obtain ⟨k, u, n, b, l⟩ := x
  obtain ⟨⟨o1, o2⟩, o3, o4, o5, o6, o7, o8⟩ := h
  obtain ⟨c0, c1, c2, c3, c5⟩ := hc
  simp only at o1 o2 o3 o4 o5 o6 o7 o8 c0 c1 c2 c3 c5 ⊢
  have hkk : k = 0 ∨ k = 1 ∨ k = 2 ∨ k = 3 ∨ k = 4 ∨ k = 5 := by omega
  rcases hkk with rfl | rfl | rfl | rfl | rfl | rfl
  · obtain ⟨rfl, rfl, rfl⟩ := c0 rfl
    unfold U64 at o3
    simp only [readR, Vl.enc, if_true, uintR_uv (m := u.toNat) (by omega)]
    rw [show ((u.toNat : Nat) : Int) = u by omega]
  · obtain ⟨rfl, rfl, rfl⟩ := c1 rfl
    simp [readR, Vl.enc, intR_uv o4]
  · obtain ⟨hn, rfl, rfl, rfl⟩ := c2 rfl
    rcases hn with rfl | rfl <;> simp [readR, Vl.enc, boolR, bool1]
  · obtain ⟨rfl, rfl, rfl⟩ := c3 (.inl rfl)
    simp [readR, Vl.enc, rawR_raw (b := b) (by omega)]
  · obtain ⟨rfl, rfl, rfl⟩ := c3 (.inr rfl)
    simp [readR, Vl.enc, rawR_raw (b := b) (by omega)]
  · obtain ⟨rfl, rfl, rfl⟩ := c5 rfl
    simp [readR, Vl.enc, intsR_ints o6 (by omega)]

/-! ### one encoding -/
theorem rdv_back (l : List Int) : ∀ (i n m : Nat) (r : List Int), Bytes8 l → rdv i n l = .ok (m, r) → ∃ q, m = n + q * 128 ^ i ∧ l = uv q ++ r ∧ (0 < i → 0 < q) := by
  induction l with
  | nil => intro i n m r _ h; simp [rdv] at h
  | cons c l ih =>
    intro i n m r h8 h
    have hc := h8 c (by simp)
    rw [rdv] at h
    split at h
    · cases h
    · rename_i hbad
      split at h
      · rename_i hlt
        injection h with h
        injection h with h1 h2
        subst h2
        have e : c.toNat % 128 = c.toNat := by omega
        refine ⟨c.toNat, by rw [← h1, e], ?_, fun hi => ?_⟩
        · rw [uv_lt (by omega)]
          simp only [List.singleton_append, List.cons.injEq, and_true]
          omega
        · by_cases h0 : c = 0
          · exact absurd (.inr ⟨hi, h0⟩) hbad
          · omega
      · rename_i hge
        obtain ⟨q, hq, hl, hpos⟩ := ih (i + 1) _ m r (fun z hz => h8 z (by simp [hz])) h
        have hq0 := hpos (by omega)
        refine ⟨c.toNat % 128 + 128 * q, ?_, ?_, fun _ => by omega⟩
        · rw [hq, Nat.pow_succ, Nat.add_mul, Nat.mul_comm 128 q, Nat.mul_assoc q 128, Nat.mul_comm 128 (128 ^ i), Nat.add_assoc]
        · rw [uv_ge (by omega), hl]
          have e1 : (c.toNat % 128 + 128 * q) / 128 = q := by omega
          have e2 : (c.toNat % 128 + 128 * q) % 128 = c.toNat % 128 := by omega
          rw [e1, e2, List.cons_append]
          congr 1
          omega
theorem rdv_i (l : List Int) : ∀ (i n m : Nat) (r : List Int), i ≤ 9 → n < 128 ^ i → Bytes8 l → rdv i n l = .ok (m, r) → m < 18446744073709551616 := by
  induction l with
  | nil => intro i n m r _ _ _ h; simp [rdv] at h
  | cons c l ih =>
    intro i n m r hi hn h8 h
    have hc := h8 c (by simp)
    rw [rdv] at h
    split at h
    · cases h
    · rename_i hbad
      have hp : (128 : Nat) ^ i ≤ 128 ^ 9 := Nat.pow_le_pow_right (by decide) hi
      have hmul : c.toNat % 128 * 128 ^ i ≤ 127 * 128 ^ i := Nat.mul_le_mul_right _ (by omega)
      split at h
      · injection h with h
        injection h with h1 h2
        by_cases h9 : i = 9
        · subst h9
          have hc1 : c ≤ 1 := by
            by_cases h1 : 1 < c
            · exact absurd (.inl ⟨rfl, h1⟩) hbad
            · omega
          have : c.toNat % 128 * 128 ^ 9 ≤ 1 * 128 ^ 9 := Nat.mul_le_mul_right _ (by omega)
          omega
        · have hp8 : (128 : Nat) ^ i ≤ 128 ^ 8 := Nat.pow_le_pow_right (by decide) (by omega)
          omega
      · by_cases h9 : i = 9
        · subst h9
          exact absurd (.inl ⟨rfl, by omega⟩) hbad
        · refine ih (i + 1) _ m r (by omega) ?_ (fun z hz => h8 z (by simp [hz])) h
          rw [Nat.pow_succ]
          omega
theorem uintR_back {l : List Int} {m : Nat} {r : List Int} (h8 : Bytes8 l) (h : uintR ⟨l, 0⟩ = (m, ⟨r, 0⟩)) : l = uv m ++ r ∧ m < 18446744073709551616 := by
  unfold uintR at h
  rw [if_pos rfl] at h
  cases hr : rdv 0 0 l with
  | error b =>
    simp only [hr] at h
    injection h with _ h2
    injection h2 with _ h3
    cases b <;> simp at h3
  | ok p =>
    obtain ⟨m', r'⟩ := p
    simp only [hr] at h
    injection h with h1 h2
    injection h2 with h2 _
    subst h1 h2
    obtain ⟨q, hq, hl, _⟩ := rdv_back l 0 0 m' r' h8 hr
    have : q = m' := by simpa using hq.symm
    subst this
    exact ⟨hl, rdv_i l 0 0 q r' (by decide) (by decide) h8 hr⟩

theorem Rst.zero {s : Rst} (h : s.e = 0) : s = ⟨s.l, 0⟩ := by
  cases s
  simp only at h
  subst h
  rfl
theorem bytes8_right {a r : List Int} (h : Bytes8 (a ++ r)) : Bytes8 r := fun z hz => h z (by simp [hz])
theorem uintR_err {s : Rst} (h : s.e ≠ 0) : uintR s = (0, s) := by unfold uintR; rw [if_neg h]
theorem uintR_ok {s : Rst} (h : (uintR s).2.e = 0) : s.e = 0 := by
  by_cases he : s.e = 0
  · exact he
  · rw [uintR_err he] at h; exact h
theorem intR_back {l : List Int} {n : Int} {r : List Int} (h8 : Bytes8 l) (h : intR ⟨l, 0⟩ = (n, ⟨r, 0⟩)) : l = uv (zz n) ++ r := by
  unfold intR at h
  injection h with h1 h2
  obtain ⟨hl, _⟩ := uintR_back (l := l) (m := (uintR ⟨l, 0⟩).1) (r := r) h8 (by rw [← h2])
  rw [← h1, zz_unzz]
  exact hl
theorem lenR_back {l : List Int} {n : Nat} {r : List Int} (h8 : Bytes8 l) (h : lenR ⟨l, 0⟩ = (n, ⟨r, 0⟩)) : l = uv n ++ r ∧ n ≤ r.length := by
  unfold lenR at h
  split at h
  · split at h
    · injection h with _ h2
      injection h2 with _ h3
      simp at h3
    · rename_i hn
      obtain ⟨hl, _⟩ := uintR_back h8 h
      rw [h] at hn
      exact ⟨hl, by simpa using hn⟩
  · rename_i he
    injection h with _ h2
    rw [h2] at he
    exact absurd rfl he
theorem rawR_back {l b : List Int} {r : List Int} (h8 : Bytes8 l) (h : rawR ⟨l, 0⟩ = (b, ⟨r, 0⟩)) : l = raw b ++ r := by
  unfold rawR at h
  split at h
  · rename_i he
    injection h with h1 h2
    injection h2 with h2 _
    obtain ⟨hl, hn⟩ := lenR_back (l := l) (n := (lenR ⟨l, 0⟩).1) (r := (lenR ⟨l, 0⟩).2.l) h8 (by
      have := Rst.zero he
      rw [← this])
    have hb : b.length = (lenR ⟨l, 0⟩).1 := by rw [← h1, List.length_take]; omega
    have e : (lenR ⟨l, 0⟩).2.l = b ++ r := by rw [← h1, ← h2, List.take_append_drop]
    unfold raw
    rw [hb, List.append_assoc, ← e]
    exact hl
  · rename_i he
    injection h with _ h2
    rw [h2] at he
    exact absurd rfl he
theorem intsGo_back : ∀ (n : Nat) (acc l xs r : List Int), Bytes8 l → intsGo n acc ⟨l, 0⟩ = (xs, ⟨r, 0⟩) → ∃ ys, xs = acc ++ ys ∧ ys.length = n ∧ l = (ys.map fun n => uv (zz n)).flatten ++ r
  | 0, acc, l, xs, r, _, h => by
    simp only [intsGo] at h
    injection h with h1 h2
    injection h2 with h2 _
    exact ⟨[], by simp [h1], rfl, by simp [h2]⟩
  | n + 1, acc, l, xs, r, h8, h => by
    rw [intsGo] at h
    split at h
    · rename_i he
      have hs := Rst.zero he
      have hl := intR_back (l := l) (n := (intR ⟨l, 0⟩).1) (r := (intR ⟨l, 0⟩).2.l) h8 (by rw [← hs])
      rw [hs] at h
      obtain ⟨ys, h1, h2, h3⟩ := intsGo_back n _ _ xs r (bytes8_right (hl ▸ h8)) h
      refine ⟨(intR ⟨l, 0⟩).1 :: ys, by rw [h1]; simp, by simp [h2], ?_⟩
      rw [List.map_cons, List.flatten_cons, List.append_assoc, ← h3]
      exact hl
    · rename_i he
      injection h with _ h2
      rw [h2] at he
      exact absurd rfl he
theorem intsR_back {l xs : List Int} {r : List Int} (h8 : Bytes8 l) (h : intsR ⟨l, 0⟩ = (xs, ⟨r, 0⟩)) : l = ints xs ++ r := by
  unfold intsR at h
  split at h
  · rename_i he
    have hs := Rst.zero he
    obtain ⟨hl, hn⟩ := lenR_back (l := l) (n := (lenR ⟨l, 0⟩).1) (r := (lenR ⟨l, 0⟩).2.l) h8 (by rw [← hs])
    rw [hs] at h
    obtain ⟨ys, h1, h2, h3⟩ := intsGo_back _ _ _ xs r (bytes8_right (hl ▸ h8)) h
    rw [List.nil_append] at h1
    subst h1
    unfold ints
    rw [h2, List.append_assoc, ← h3]
    exact hl
  · rename_i he
    injection h with _ h2
    rw [h2] at he
    exact absurd rfl he
/-- ONE ENCODING of one value -/
theorem readR_back {k : Int} {l r : List Int} {x : Vl} (hk : 0 ≤ k ∧ k ≤ 5) (h8 : Bytes8 l) (h : readR k ⟨l, 0⟩ = (x, ⟨r, 0⟩)) : l = x.enc ++ r := by
  have hkk : k = 0 ∨ k = 1 ∨ k = 2 ∨ k = 3 ∨ k = 4 ∨ k = 5 := by omega
  rcases hkk with rfl | rfl | rfl | rfl | rfl | rfl
  · simp only [readR, if_true] at h
    injection h with h1 h2
    obtain ⟨hl, _⟩ := uintR_back (l := l) (m := (uintR ⟨l, 0⟩).1) (r := r) h8 (by rw [← h2])
    subst h1
    simpa [Vl.enc] using hl
  · simp only [readR] at h
    injection h with h1 h2
    have hl := intR_back (l := l) (n := (intR ⟨l, 0⟩).1) (r := r) h8 (by rw [← h2])
    subst h1
    simpa [Vl.enc] using hl
  · simp only [readR] at h
    injection h with h1 h2
    subst h1
    cases l with
    | nil => simp [boolR] at h2
    | cons c l =>
      have hc := h8 c (by simp)
      simp only [boolR, if_true] at h2 ⊢
      split at h2
      · simp at h2
      · rename_i hgt
        injection h2 with h2 _
        subst h2
        have hc01 : c = 0 ∨ c = 1 := by omega
        rcases hc01 with rfl | rfl <;> simp [Vl.enc, bool1]
  · simp only [readR] at h
    injection h with h1 h2
    have hl := rawR_back (l := l) (b := (rawR ⟨l, 0⟩).1) (r := r) h8 (by rw [← show (rawR ⟨l, 0⟩).2 = ⟨r, 0⟩ by simpa using h2])
    subst h1
    simpa [Vl.enc] using hl
  · simp only [readR] at h
    injection h with h1 h2
    have hl := rawR_back (l := l) (b := (rawR ⟨l, 0⟩).1) (r := r) h8 (by rw [← show (rawR ⟨l, 0⟩).2 = ⟨r, 0⟩ by simpa using h2])
    subst h1
    simpa [Vl.enc] using hl
  · simp only [readR] at h
    injection h with h1 h2
    have hl := intsR_back (l := l) (xs := (intsR ⟨l, 0⟩).1) (r := r) h8 (by rw [← show (intsR ⟨l, 0⟩).2 = ⟨r, 0⟩ by simpa using h2])
    subst h1
    simpa [Vl.enc] using hl

/-! ### an error stays -/
theorem readR_err {k : Int} {s : Rst} (h : s.e ≠ 0) : (readR k s).2 = s := by
  have hu := uintR_err h
  have hl : lenR s = (0, s) := by
    unfold lenR
    rw [hu, if_neg h]
  unfold readR
  split
  · rw [hu]
  · split
    · simp only [intR, hu]
    · split
      · simp only [boolR, if_neg h]
      · split
        · simp only [rawR, hl, if_neg h]
        · simp only [intsR, hl, if_neg h]
theorem readR_ok {k : Int} {s : Rst} (h : (readR k s).2.e = 0) : s.e = 0 := by
  by_cases he : s.e = 0
  · exact he
  · rw [readR_err he] at h; exact h
theorem readsR_err : ∀ {ks : List Int} {s : Rst}, s.e ≠ 0 → (readsR ks s).2 = s
  | [], _, _ => rfl
  | k :: ks, s, h => by
    have h1 := readR_err (k := k) h
    simp only [readsR]
    rw [readsR_err (by rw [h1]; exact h), h1]
theorem readsR_ok {ks : List Int} {s : Rst} (h : (readsR ks s).2.e = 0) : s.e = 0 := by
  by_cases he : s.e = 0
  · exact he
  · rw [readsR_err he] at h; exact h

/-! ### sequences -/
theorem readsR_encs {xs : List Vl} (h : ∀ x ∈ xs, x.ok ∧ x.canon) (r : List Int) : readsR (xs.map Vl.k) ⟨encs xs ++ r, 0⟩ = (xs, ⟨r, 0⟩) := by
  induction xs with
  | nil => rfl
  | cons x xs ih =>
    have e : encs (x :: xs) ++ r = x.enc ++ (encs xs ++ r) := by simp [encs]
    obtain ⟨h1, h2⟩ := h x (by simp)
    rw [e, List.map_cons, readsR, readR_enc h1 h2, ih (fun y hy => h y (by simp [hy]))]
theorem readsR_back : ∀ {ks : List Int} {l r : List Int} {xs : List Vl}, (∀ k ∈ ks, 0 ≤ k ∧ k ≤ 5) → Bytes8 l → readsR ks ⟨l, 0⟩ = (xs, ⟨r, 0⟩) → l = encs xs ++ r
  | [], l, r, xs, _, _, h => by
    simp only [readsR] at h
    injection h with h1 h2
    injection h2 with h2 _
    subst h1 h2
    rfl
  | k :: ks, l, r, xs, hk, h8, h => by
    simp only [readsR] at h
    injection h with h1 h2
    have he : (readR k ⟨l, 0⟩).2.e = 0 := readsR_ok (ks := ks) (by rw [h2])
    have hs := Rst.zero he
    have hl := readR_back (k := k) (l := l) (x := (readR k ⟨l, 0⟩).1) (r := (readR k ⟨l, 0⟩).2.l) (hk k (by simp)) h8 (by rw [← hs])
    have hr := readsR_back (ks := ks) (l := (readR k ⟨l, 0⟩).2.l) (r := r) (xs := (readsR ks (readR k ⟨l, 0⟩).2).1) (fun y hy => hk y (by simp [hy])) (bytes8_right (hl ▸ h8)) (by rw [← hs, ← h2])
    rw [← h1]
    have e : encs ((readR k ⟨l, 0⟩).1 :: (readsR ks (readR k ⟨l, 0⟩).2).1) ++ r = (readR k ⟨l, 0⟩).1.enc ++ (encs (readsR ks (readR k ⟨l, 0⟩).2).1 ++ r) := by simp [encs]
    rw [e, ← hr]
    exact hl

/-! ### prefixes -/
theorem rdv_prefix (m : Nat) : ∀ (i n : Nat) (p q : List Int), (0 < i → 0 < m) → (i = 9 → m ≤ 1) → i ≤ 9 → (i < 9 → m < 2 * 128 ^ (9 - i)) → uv m = p ++ q → q ≠ [] → rdv i n p = .error false := by
  induction m using Nat.strongRecOn with
  | ind m ih =>
    intro i n p q h0 h9 hi hb hpq hq
    cases p with
    | nil => rfl
    | cons c p =>
      by_cases h : m < 128
      · rw [uv_lt h, List.cons_append] at hpq
        injection hpq with _ h2
        have := congrArg List.length h2
        rw [List.length_nil, List.length_append] at this
        exact absurd (List.eq_nil_of_length_eq_zero (by omega)) hq
      · rw [uv_ge (by omega), List.cons_append] at hpq
        injection hpq with h1 h2
        have hi9 : i < 9 := by
          rcases Nat.lt_or_ge i 9 with h1 | h1
          · exact h1
          · have := h9 (by omega); omega
        have hb' := hb hi9
        rw [rdv, if_neg (by
          rintro (⟨rfl, _⟩ | ⟨_, h3⟩)
          · omega
          · omega), if_neg (by omega)]
        have hm : m / 128 < 2 * 128 ^ (9 - (i + 1)) := by
          obtain ⟨j, hj⟩ : ∃ j, 9 - i = j + 1 := ⟨8 - i, by omega⟩
          rw [hj, Nat.pow_succ] at hb'
          rw [show 9 - (i + 1) = j by omega]
          omega
        refine ih (m / 128) (by omega) (i + 1) _ p q (fun _ => by omega) (fun h9' => ?_) (by omega) (fun _ => hm) h2 hq
        obtain rfl : i = 8 := by omega
        simp at hm
        omega
theorem uintR_prefix {m : Nat} (hm : m < 18446744073709551616) {p q : List Int} (h : uv m = p ++ q) (hq : q ≠ []) : uintR ⟨p, 0⟩ = (0, ⟨p, 3⟩) := by
  have := rdv_prefix m 0 0 p q (by omega) (by omega) (by omega) (fun _ => by omega) h hq
  simp [uintR, this]
theorem cut {a b p q : List Int} (h : a ++ b = p ++ q) : (∃ p', p = a ++ p' ∧ b = p' ++ q) ∨ (∃ c, a = p ++ c ∧ c ≠ []) := by
  rcases List.append_eq_append_iff.1 h with ⟨a', h1, h2⟩ | ⟨c', h1, h2⟩
  · exact .inl ⟨a', h1, h2⟩
  · by_cases hc : c' = []
    · subst hc
      exact .inl ⟨[], by simpa using h1.symm, by simpa using h2.symm⟩
    · exact .inr ⟨c', h1, hc⟩
theorem lenR_prefix {m : Nat} (hm : m < 18446744073709551616) {p q : List Int} (h : uv m = p ++ q) (hq : q ≠ []) : lenR ⟨p, 0⟩ = (0, ⟨p, 3⟩) := by
  simp [lenR, uintR_prefix hm h hq]
theorem rawR_prefix {b p q : List Int} (hb : b.length ≤ 1000000) (h : raw b = p ++ q) (hq : q ≠ []) : (rawR ⟨p, 0⟩).2.e = 3 := by
  rcases cut h with ⟨p', rfl, hb2⟩ | ⟨c, hc, hne⟩
  · have hl : p'.length < b.length := by
      rw [hb2, List.length_append]
      have := List.length_pos_iff.2 hq
      omega
    have e : lenR ⟨uv b.length ++ p', 0⟩ = (0, ⟨p', 3⟩) := by
      simp only [lenR, uintR_uv (m := b.length) (by omega), if_true, if_pos hl]
    simp [rawR, e]
  · simp [rawR, lenR_prefix (m := b.length) (by omega) hc hne]
theorem intR_prefix {n : Int} (hn : I64 n) {p q : List Int} (h : uv (zz n) = p ++ q) (hq : q ≠ []) : (intR ⟨p, 0⟩).2 = ⟨p, 3⟩ := by
  simp [intR, uintR_prefix (zz_lt hn.1 hn.2) h hq]
theorem intsGo_prefix (l : List Int) (hl : ∀ z ∈ l, I64 z) : ∀ (acc p q : List Int), (l.map fun n => uv (zz n)).flatten = p ++ q → q ≠ [] → (intsGo l.length acc ⟨p, 0⟩).2.e = 3 := by
  induction l with
  | nil =>
    intro acc p q h hq
    have := congrArg List.length h
    simp at this
    exact absurd (List.eq_nil_of_length_eq_zero (by omega)) hq
  | cons z l ih =>
    intro acc p q h hq
    rw [List.map_cons, List.flatten_cons] at h
    rw [List.length_cons, intsGo]
    rcases cut h with ⟨p', rfl, h2⟩ | ⟨c, hc, hne⟩
    · rw [intR_uv (hl z (by simp)), if_pos rfl]
      exact ih (fun y hy => hl y (by simp [hy])) _ p' q h2 hq
    · rw [intR_prefix (hl z (by simp)) hc hne, if_neg (show ¬((3 : Int) = 0) by decide)]
theorem intsR_prefix {l p q : List Int} (hl : ∀ z ∈ l, I64 z) (hlen : l.length ≤ 1000000) (h : ints l = p ++ q) (hq : q ≠ []) : (intsR ⟨p, 0⟩).2.e = 3 := by
  rcases cut h with ⟨p', rfl, h2⟩ | ⟨c, hc, hne⟩
  · by_cases hlt : p'.length < l.length
    · have e : lenR ⟨uv l.length ++ p', 0⟩ = (0, ⟨p', 3⟩) := by
        simp only [lenR, uintR_uv (m := l.length) (by omega), if_true, if_pos hlt]
      simp [intsR, e]
    · simp only [intsR, lenR_uv (m := l.length) (by omega) (r := p') (by omega), if_true]
      exact intsGo_prefix l hl [] p' q h2 hq
  · simp [intsR, lenR_prefix (m := l.length) (by omega) hc hne]
/-- A PROPER PREFIX of one value -/
theorem readR_prefix {x : Vl} (h : x.ok) {p q : List Int} (hpq : x.enc = p ++ q) (hq : q ≠ []) : (readR x.k ⟨p, 0⟩).2.e = 3 := by
  obtain ⟨k, u, n, b, l⟩ := x
  obtain ⟨⟨o1, o2⟩, o3, o4, o5, o6, o7, o8⟩ := h
  simp only at o1 o2 o3 o4 o5 o6 o7 o8 hpq ⊢
  have hkk : k = 0 ∨ k = 1 ∨ k = 2 ∨ k = 3 ∨ k = 4 ∨ k = 5 := by omega
  rcases hkk with rfl | rfl | rfl | rfl | rfl | rfl
  · unfold U64 at o3
    simp only [Vl.enc, if_true] at hpq
    simp [readR, uintR_prefix (m := u.toNat) (by omega) hpq hq]
  · simp [Vl.enc] at hpq
    simp [readR, intR_prefix o4 hpq hq]
  · simp [Vl.enc, bool1] at hpq
    cases p with
    | nil => simp [readR, boolR]
    | cons c p =>
      rw [List.cons_append] at hpq
      injection hpq with _ h2
      have := congrArg List.length h2
      rw [List.length_nil, List.length_append] at this
      exact absurd (List.eq_nil_of_length_eq_zero (by omega)) hq
  · simp [Vl.enc] at hpq
    simpa [readR] using rawR_prefix (b := b) (by omega) hpq hq
  · simp [Vl.enc] at hpq
    simpa [readR] using rawR_prefix (b := b) (by omega) hpq hq
  · simp [Vl.enc] at hpq
    simpa [readR] using intsR_prefix o6 (by omega) hpq hq
/-- A PROPER PREFIX of values: too few bytes -/
theorem readsR_prefix {xs : List Vl} (h : ∀ x ∈ xs, x.ok ∧ x.canon) : ∀ {p q : List Int}, encs xs = p ++ q → q ≠ [] → (readsR (xs.map Vl.k) ⟨p, 0⟩).2.e = 3 := by
  induction xs with
  | nil =>
    intro p q hpq hq
    have := congrArg List.length hpq
    simp [encs] at this
    exact absurd (List.eq_nil_of_length_eq_zero (by omega)) hq
  | cons x xs ih =>
    intro p q hpq hq
    have e : encs (x :: xs) = x.enc ++ encs xs := by simp [encs]
    rw [e] at hpq
    obtain ⟨h1, h2⟩ := h x (by simp)
    rw [List.map_cons]
    simp only [readsR]
    rcases cut hpq with ⟨p', rfl, h3⟩ | ⟨c, hc, hne⟩
    · rw [readR_enc h1 h2]
      exact ih (fun y hy => h y (by simp [hy])) h3 hq
    · have he := readR_prefix h1 hc hne
      rw [readsR_err (by rw [he]; decide)]
      exact he

end Go.Proofs.Ytkffpfnmjadpaaa
