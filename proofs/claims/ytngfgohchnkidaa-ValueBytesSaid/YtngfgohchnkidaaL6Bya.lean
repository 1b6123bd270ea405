/-
  READING A VALUE'S BYTES: the mathematics of the program's Decode.
  THE WALK of the program's Decode (of values).
  THE BYTES OF VALUES: what the law ValueBytes asks of them.
-/
import Derived.Test.YtngfgohchnkidaaVaOrd
import Derived.Test.YtngfgohchnkidaaVaPut
import Derived.Test.YtngfgohchnkidaaDevM
import Derived.Test.YtngfgohchnkidaaVaOwn
import Derived.Test.YtngfgohchnkidaaR6Put
import Derived.Test.YtngfgohchnkidaaVaEnts
import Derived.Test.YtngfgohchnkidaaVaEl
import Derived.Test.YtngfgohchnkidaaR6Enc
import Derived.Test.YtngfgohchnkidaaL6Row
namespace Go.Proofs.Ytngfgohchnkidaa
open Go.RowKit

/-- an entry as it is read -/
def entV (s : Rst) : En := ⟨((uintR s).1 : Nat), ((uintR (uintR s).2).1 : Nat), strOfNums (rawR (uintR (uintR s).2).2).1⟩
/-- the reader behind it -/
def entS (s : Rst) : Rst := (rawR (uintR (uintR s).2).2).2
def emE (e : En) : Bool := e.u == 0 && e.s.size == 0
/-- entries, none of them empty, are read from s, which leaves t -/
def Rds : Rst → List En → Rst → Prop
  | s, [], t => t = s
  | s, e :: l, t => entV s = e ∧ emE e = false ∧ Rds (entS s) l t
theorem Rds.snoc : ∀ {l : List En} {s t : Rst}, Rds s l t → emE (entV t) = false → Rds s (l ++ [entV t]) (entS t)
  | [], s, t, h, he => by
    have h : t = s := h
    subst h
    exact ⟨rfl, he, rfl⟩
  | e :: l, s, t, h, he => ⟨h.1, h.2.1, Rds.snoc h.2.2 he⟩

theorem sb_nums_len {zs : List Int} (h : Bytes8 zs) : (strOfNums zs).size = zs.length := by
  rw [← sb_length, sb_of_nums h]
theorem bytes8_left {a r : List Int} (h : Bytes8 (a ++ r)) : Bytes8 a := fun z hz => h z (by simp [hz])
theorem rawR_err {s : Rst} (h : s.e ≠ 0) : rawR s = ([], s) := by
  unfold rawR lenR
  rw [uintR_err h, if_neg h, if_neg h]
theorem rawR_ok {s : Rst} (h : (rawR s).2.e = 0) : s.e = 0 := by
  by_cases he : s.e = 0
  · exact he
  · rw [rawR_err he] at h; exact h
theorem lenR_len8 {s : Rst} (h8 : Bytes8 s.l) : (lenR s).2.l.length ≤ s.l.length ∧ Bytes8 (lenR s).2.l := by
  have := uintR_len h8
  unfold lenR
  split
  · split
    · exact this
    · exact this
  · exact this
theorem rawR_len {s : Rst} (h8 : Bytes8 s.l) : (rawR s).2.l.length ≤ s.l.length ∧ Bytes8 (rawR s).2.l ∧ (rawR s).1.length ≤ s.l.length ∧ Bytes8 (rawR s).1 := by
  obtain ⟨h1, h2⟩ := lenR_len8 h8
  unfold rawR
  split
  · refine ⟨?_, fun z hz => h2 z (List.mem_of_mem_drop hz), ?_, fun z hz => h2 z (List.mem_of_mem_take hz)⟩
    · simp only [List.length_drop]; omega
    · simp only [List.length_take]; omega
  · exact ⟨h1, h2, Nat.zero_le _, fun z hz => nomatch hz⟩
theorem entS_len {s : Rst} (h8 : Bytes8 s.l) : (entS s).l.length ≤ s.l.length ∧ Bytes8 (entS s).l ∧ (entV s).s.size ≤ s.l.length := by
  obtain ⟨a1, a2⟩ := uintR_len h8
  obtain ⟨b1, b2⟩ := uintR_len a2
  obtain ⟨c1, c2, c3, c4⟩ := rawR_len b2
  refine ⟨by unfold entS; omega, c2, ?_⟩
  show (strOfNums _).size ≤ _
  rw [sb_nums_len c4]
  omega
theorem entV_u64 (s : Rst) (h8 : Bytes8 s.l) : U64 (entV s).i ∧ U64 (entV s).u := by
  have a1 := uintR_lt s h8
  have a2 := uintR_lt (uintR s).2 (uintR_len h8).2
  unfold U64
  exact ⟨⟨by show (0 : Int) ≤ ((uintR s).1 : Nat); omega, by show (((uintR s).1 : Nat) : Int) < _; omega⟩, ⟨by show (0 : Int) ≤ ((uintR (uintR s).2).1 : Nat); omega, by show (((uintR (uintR s).2).1 : Nat) : Int) < _; omega⟩⟩
/-- a reader that has failed reads empty entries -/
theorem entV_err {s : Rst} (h : s.e ≠ 0) : emE (entV s) = true := by
  unfold entV
  rw [uintR_err h, uintR_err h, rawR_err h]
  rfl
/-- an entry that is not empty takes a byte -/
theorem entS_lt {s : Rst} (h8 : Bytes8 s.l) (h : emE (entV s) = false) : (entS s).l.length < s.l.length := by
  have h0 : s.e = 0 := by
    by_cases he : s.e = 0
    · exact he
    · rw [entV_err he] at h; cases h
  obtain ⟨a1, a2⟩ := uintR_len h8
  obtain ⟨b1, b2⟩ := uintR_len a2
  obtain ⟨c1, _⟩ := rawR_len b2
  by_cases h1 : (uintR s).2.e = 0
  · have hb := uintR_back (l := s.l) (m := (uintR s).1) (r := (uintR s).2.l) h8 (by rw [← Rst.zero h0, ← Rst.zero h1])
    have h2 := congrArg List.length hb.1
    rw [List.length_append] at h2
    have := uv_pos (uintR s).1
    unfold entS
    omega
  · exfalso
    have : emE (entV s) = true := by
      unfold entV
      rw [uintR_err h1, rawR_err h1]
      rfl
    rw [this] at h
    cases h
theorem entS_back {s : Rst} (h8 : Bytes8 s.l) (h : (entS s).e = 0) : s.e = 0 ∧ s.l = encEn (entV s) ++ (entS s).l := by
  obtain ⟨a1, a2⟩ := uintR_len h8
  obtain ⟨b1, b2⟩ := uintR_len a2
  have h3 : (uintR (uintR s).2).2.e = 0 := rawR_ok h
  have h2 : (uintR s).2.e = 0 := uintR_ok h3
  have h1 : s.e = 0 := uintR_ok h2
  refine ⟨h1, ?_⟩
  have e1 := (uintR_back (l := s.l) (m := (uintR s).1) (r := (uintR s).2.l) h8 (by rw [← Rst.zero h1, ← Rst.zero h2])).1
  have e2 := (uintR_back (l := (uintR s).2.l) (m := (uintR (uintR s).2).1) (r := (uintR (uintR s).2).2.l) a2 (by rw [← Rst.zero h2, ← Rst.zero h3])).1
  have e3 := rawR_back (l := (uintR (uintR s).2).2.l) (b := (rawR (uintR (uintR s).2).2).1) (r := (entS s).l) b2 (by rw [← Rst.zero h3]; unfold entS; rw [← Rst.zero (s := (rawR (uintR (uintR s).2).2).2) h])
  have e4 := sb_of_nums (rawR_len b2).2.2.2
  unfold encEn
  rw [show (entV s).i.toNat = (uintR s).1 from by show Int.toNat ((uintR s).1 : Nat) = _; omega, show (entV s).u.toNat = (uintR (uintR s).2).1 from by show Int.toNat ((uintR (uintR s).2).1 : Nat) = _; omega, show sb (entV s).s = (rawR (uintR (uintR s).2).2).1 from e4]
  rw [List.append_assoc, List.append_assoc, ← e3, ← e2]
  exact e1
theorem ent_enc {e : En} (h : e.ok) (r : List Int) : entV ⟨encEn e ++ r, 0⟩ = e ∧ entS ⟨encEn e ++ r, 0⟩ = ⟨r, 0⟩ := by
  obtain ⟨i, u, t⟩ := e
  obtain ⟨h1, h2, h3⟩ := h
  unfold U64 at h1 h2
  simp only at h1 h2 h3
  have e1 : uintR ⟨encEn ⟨i, u, t⟩ ++ r, 0⟩ = (i.toNat, ⟨uv u.toNat ++ (raw (sb t) ++ r), 0⟩) := by
    unfold encEn
    rw [List.append_assoc, List.append_assoc]
    exact uintR_uv (m := i.toNat) (by omega) _
  have e2 : uintR ⟨uv u.toNat ++ (raw (sb t) ++ r), 0⟩ = (u.toNat, ⟨raw (sb t) ++ r, 0⟩) := uintR_uv (m := u.toNat) (by omega) _
  have e3 := rawR_raw (b := sb t) (by rw [sb_length]; exact h3) r
  unfold entV entS
  rw [e1]
  simp only
  rw [e2]
  simp only
  rw [e3]
  have e4 : strOfNums (sb t) = t := sb_inj (sb_of_nums (sb_bytes t))
  refine ⟨?_, rfl⟩
  simp only [e4]
  rw [show ((i.toNat : Nat) : Int) = i by omega, show ((u.toNat : Nat) : Int) = u by omega]
theorem Rds.back : ∀ {l : List En} {s t : Rst}, Rds s l t → Bytes8 s.l → t.e = 0 → s.e = 0 ∧ s.l = l.flatMap encEn ++ t.l
  | [], s, t, h, _, ht => by
    have h : t = s := h
    subst h
    exact ⟨ht, by simp⟩
  | e :: l, s, t, ⟨h1, _, h2⟩, h8, ht => by
    obtain ⟨a1, a2⟩ := Rds.back h2 (entS_len h8).2.1 ht
    obtain ⟨b1, b2⟩ := entS_back h8 a1
    refine ⟨b1, ?_⟩
    rw [h1] at b2
    rw [b2, a2]
    simp
theorem Rds.enc : ∀ {l m : List En} {r : List Int} {t : Rst}, (∀ e ∈ m, e.ok) → Rds ⟨m.flatMap encEn ++ r, 0⟩ l t → l.length ≤ m.length → l = m.take l.length ∧ t = ⟨(m.drop l.length).flatMap encEn ++ r, 0⟩
  | [], m, r, t, _, h, _ => by
    have h : t = _ := h
    exact ⟨rfl, h⟩
  | e :: l, [], r, t, _, _, hl => by simp at hl
  | e :: l, x :: m, r, t, hm, ⟨h1, _, h2⟩, hl => by
    obtain ⟨a1, a2⟩ := ent_enc (hm x (by simp)) (m.flatMap encEn ++ r)
    rw [List.flatMap_cons, List.append_assoc] at h1 h2
    rw [a1] at h1
    rw [a2] at h2
    obtain ⟨b1, b2⟩ := Rds.enc (fun e he => hm e (by simp [he])) h2 (by simpa using hl)
    rw [List.length_cons, List.take_succ_cons, List.drop_succ_cons, ← b1, h1]
    exact ⟨rfl, b2⟩
theorem Rds.len : ∀ {l : List En} {s t : Rst}, Rds s l t → Bytes8 s.l → l.length + t.l.length ≤ s.l.length ∧ Bytes8 t.l ∧ ∀ e ∈ l, U64 e.i ∧ U64 e.u ∧ e.s.size ≤ s.l.length
  | [], s, t, h, h8 => by
    have h : t = s := h
    subst h
    exact ⟨by simp, h8, fun e he => nomatch he⟩
  | e :: l, s, t, ⟨h1, h0, h2⟩, h8 => by
    obtain ⟨c1, c2, c3⟩ := entS_len h8
    obtain ⟨a1, a2, a3⟩ := Rds.len h2 c2
    have := entS_lt h8 (by rw [h1]; exact h0)
    refine ⟨by rw [List.length_cons]; omega, a2, fun x hx => ?_⟩
    rcases List.mem_cons.1 hx with rfl | hx
    · rw [← h1]
      exact ⟨(entV_u64 s h8).1, (entV_u64 s h8).2, c3⟩
    · obtain ⟨d1, d2, d3⟩ := a3 x hx
      exact ⟨d1, d2, by omega⟩
/-- a valid value has no empty entries -/
theorem val_full {x : Va} (h : valE x = 0) : ∀ e ∈ x.m, emE e = false := by
  intro e he
  obtain ⟨hs, hv⟩ := val_parts h
  unfold valOk at hv
  by_cases h0 : x.k = 0
  · rw [if_pos h0] at hv
    unfold bvOk at hv
    rw [Bool.and_eq_true] at hv
    have := List.length_eq_zero_iff.1 (beq_iff_eq.1 hv.2)
    rw [this] at he
    cases he
  · rw [if_neg h0] at hv
    by_cases h1 : x.k = 1
    · rw [if_pos h1] at hv
      unfold stOk at hv
      rw [Bool.and_eq_true] at hv
      have := List.length_eq_zero_iff.1 (beq_iff_eq.1 hv.2)
      rw [this] at he
      cases he
    · rw [if_neg h1, Bool.and_eq_true] at hv
      have := ents_one hv.2 e he
      unfold en1 at this
      rw [Bool.and_eq_true, Bool.and_eq_true] at this
      have h2 := this.1.2
      unfold emE
      cases hb : (e.u == 0 && e.s.size == 0)
      · rfl
      · rw [hb] at h2; cases h2

/-- the head of a value's bytes as it is read: what Decode reads before the entries -/
structure Hdr where
  k : Int
  n : Int
  ix : Int
  u : Nat
  b : List Int
  c : Int
def hd1 (z : Rst) : Rst := (intR z).2
def hd2 (z : Rst) : Rst := (intR (hd1 z)).2
def hd3 (z : Rst) : Rst := (intR (hd2 z)).2
def hd4 (z : Rst) : Rst := (uintR (hd3 z)).2
def hd5 (z : Rst) : Rst := (rawR (hd4 z)).2
def hd6 (z : Rst) : Rst := (intR (hd5 z)).2
def hdV (z : Rst) : Hdr := ⟨(intR z).1, (intR (hd1 z)).1, (intR (hd2 z)).1, (uintR (hd3 z)).1, (rawR (hd4 z)).1, (intR (hd5 z)).1⟩
theorem intR_i64 (s : Rst) (h8 : Bytes8 s.l) : I64 (intR s).1 := by
  have := uintR_lt s h8
  unfold I64 intR unzz
  simp only
  split <;> omega
theorem intR_ok {s : Rst} (h : (intR s).2.e = 0) : s.e = 0 := uintR_ok h
theorem hd_len {z : Rst} (h8 : Bytes8 z.l) : ((hd1 z).l.length ≤ z.l.length ∧ Bytes8 (hd1 z).l) ∧ ((hd2 z).l.length ≤ z.l.length ∧ Bytes8 (hd2 z).l) ∧ ((hd3 z).l.length ≤ z.l.length ∧ Bytes8 (hd3 z).l) ∧ ((hd4 z).l.length ≤ z.l.length ∧ Bytes8 (hd4 z).l) ∧ ((hd5 z).l.length ≤ z.l.length ∧ Bytes8 (hd5 z).l) ∧ ((hd6 z).l.length ≤ z.l.length ∧ Bytes8 (hd6 z).l) ∧ (hdV z).b.length ≤ z.l.length ∧ Bytes8 (hdV z).b := by
  have a1 := intR_len h8
  have a2 := intR_len (s := hd1 z) a1.2
  have a3 := intR_len (s := hd2 z) a2.2
  have a4 := uintR_len (s := hd3 z) a3.2
  have a5 := rawR_len (s := hd4 z) a4.2
  have a6 := intR_len (s := hd5 z) a5.2.1
  have e1 : (hd1 z).l.length ≤ z.l.length := a1.1
  have e2 : (hd2 z).l.length ≤ (hd1 z).l.length := a2.1
  have e3 : (hd3 z).l.length ≤ (hd2 z).l.length := a3.1
  have e4 : (hd4 z).l.length ≤ (hd3 z).l.length := a4.1
  have e5 : (hd5 z).l.length ≤ (hd4 z).l.length := a5.1
  have e6 : (hd6 z).l.length ≤ (hd5 z).l.length := a6.1
  have e7 : (hdV z).b.length ≤ (hd4 z).l.length := a5.2.2.1
  exact ⟨⟨e1, a1.2⟩, ⟨by omega, a2.2⟩, ⟨by omega, a3.2⟩, ⟨by omega, a4.2⟩, ⟨by omega, a5.2.1⟩, ⟨by omega, a6.2⟩, by omega, a5.2.2.2⟩
theorem hd_i64 {z : Rst} (h8 : Bytes8 z.l) : I64 (hdV z).k ∧ I64 (hdV z).n ∧ I64 (hdV z).ix ∧ (hdV z).u < 18446744073709551616 ∧ I64 (hdV z).c := by
  obtain ⟨h1, h2, h3, h4, h5, h6, h7⟩ := hd_len h8
  exact ⟨intR_i64 z h8, intR_i64 _ h1.2, intR_i64 _ h2.2, uintR_lt _ h3.2, intR_i64 _ h5.2⟩
theorem hd_back {z : Rst} (h8 : Bytes8 z.l) (h : (hd6 z).e = 0) : z.l = uv (zz (hdV z).k) ++ (uv (zz (hdV z).n) ++ (uv (zz (hdV z).ix) ++ (uv (hdV z).u ++ (raw (hdV z).b ++ (uv (zz (hdV z).c) ++ (hd6 z).l))))) := by
  obtain ⟨h1, h2, h3, h4, h5, h6, h7⟩ := hd_len h8
  have r5 : (hd5 z).e = 0 := intR_ok h
  have r4 : (hd4 z).e = 0 := rawR_ok r5
  have r3 : (hd3 z).e = 0 := uintR_ok r4
  have r2 : (hd2 z).e = 0 := intR_ok r3
  have r1 : (hd1 z).e = 0 := intR_ok r2
  have r0 : z.e = 0 := intR_ok r1
  have e1 : z.l = uv (zz (hdV z).k) ++ (hd1 z).l := intR_back h8 (by rw [← Rst.zero r0, ← Rst.zero r1]; rfl)
  have e2 : (hd1 z).l = uv (zz (hdV z).n) ++ (hd2 z).l := intR_back h1.2 (by rw [← Rst.zero r1, ← Rst.zero r2]; rfl)
  have e3 : (hd2 z).l = uv (zz (hdV z).ix) ++ (hd3 z).l := intR_back h2.2 (by rw [← Rst.zero r2, ← Rst.zero r3]; rfl)
  have e4 : (hd3 z).l = uv (hdV z).u ++ (hd4 z).l := (uintR_back h3.2 (by rw [← Rst.zero r3, ← Rst.zero r4]; rfl)).1
  have e5 : (hd4 z).l = raw (hdV z).b ++ (hd5 z).l := rawR_back h4.2 (by rw [← Rst.zero r4, ← Rst.zero r5]; rfl)
  have e6 : (hd5 z).l = uv (zz (hdV z).c) ++ (hd6 z).l := intR_back h5.2 (by rw [← Rst.zero r5, ← Rst.zero h]; rfl)
  rw [← e6, ← e5, ← e4, ← e3, ← e2]
  exact e1
theorem hd_enc {x : Va} (h : x.ok) : hdV ⟨encV x, 0⟩ = ⟨x.k, x.n, x.ix, x.u.toNat, sb x.s, (x.m.length : Int)⟩ ∧ hd6 ⟨encV x, 0⟩ = ⟨x.m.flatMap encEn, 0⟩ := by
  obtain ⟨⟨k1, k2, k3⟩, hu, hs, hm, hl⟩ := h
  unfold U64 at hu
  have e0 : encV x = uv (zz x.k) ++ (uv (zz x.n) ++ (uv (zz x.ix) ++ (uv x.u.toNat ++ (raw (sb x.s) ++ (uv (zz (x.m.length : Int)) ++ x.m.flatMap encEn))))) := by
    unfold encV encH
    simp only [List.append_assoc]
  have e1 := intR_uv k1 (uv (zz x.n) ++ (uv (zz x.ix) ++ (uv x.u.toNat ++ (raw (sb x.s) ++ (uv (zz (x.m.length : Int)) ++ x.m.flatMap encEn)))))
  have e2 := intR_uv k2 (uv (zz x.ix) ++ (uv x.u.toNat ++ (raw (sb x.s) ++ (uv (zz (x.m.length : Int)) ++ x.m.flatMap encEn))))
  have e3 := intR_uv k3 (uv x.u.toNat ++ (raw (sb x.s) ++ (uv (zz (x.m.length : Int)) ++ x.m.flatMap encEn)))
  have e4 := uintR_uv (m := x.u.toNat) (by omega) (raw (sb x.s) ++ (uv (zz (x.m.length : Int)) ++ x.m.flatMap encEn))
  have e5 := rawR_raw (b := sb x.s) (by rw [sb_length]; exact hs) (uv (zz (x.m.length : Int)) ++ x.m.flatMap encEn)
  have e6 := intR_uv (n := (x.m.length : Int)) ⟨by omega, by omega⟩ (x.m.flatMap encEn)
  rw [← e0] at e1
  have d1 : hd1 ⟨encV x, 0⟩ = ⟨uv (zz x.n) ++ (uv (zz x.ix) ++ (uv x.u.toNat ++ (raw (sb x.s) ++ (uv (zz (x.m.length : Int)) ++ x.m.flatMap encEn)))), 0⟩ := by unfold hd1; rw [e1]
  have d2 : hd2 ⟨encV x, 0⟩ = ⟨uv (zz x.ix) ++ (uv x.u.toNat ++ (raw (sb x.s) ++ (uv (zz (x.m.length : Int)) ++ x.m.flatMap encEn))), 0⟩ := by unfold hd2; rw [d1, e2]
  have d3 : hd3 ⟨encV x, 0⟩ = ⟨uv x.u.toNat ++ (raw (sb x.s) ++ (uv (zz (x.m.length : Int)) ++ x.m.flatMap encEn)), 0⟩ := by unfold hd3; rw [d2, e3]
  have d4 : hd4 ⟨encV x, 0⟩ = ⟨raw (sb x.s) ++ (uv (zz (x.m.length : Int)) ++ x.m.flatMap encEn), 0⟩ := by unfold hd4; rw [d3, e4]
  have d5 : hd5 ⟨encV x, 0⟩ = ⟨uv (zz (x.m.length : Int)) ++ x.m.flatMap encEn, 0⟩ := by unfold hd5; rw [d4, e5]
  have d6 : hd6 ⟨encV x, 0⟩ = ⟨x.m.flatMap encEn, 0⟩ := by unfold hd6; rw [d5, e6]
  refine ⟨?_, d6⟩
  unfold hdV
  rw [e1, d1, e2, d2, e3, d3, e4, d4, e5, d5, e6]
/-- the bytes that Decode is given: few, or those of a value -/
def DecIn (zs : List Int) : Prop := Bytes8 zs ∧ zs.length ≤ 90000000 ∧ (zs.length ≤ 100000 ∨ ∃ x : Va, x.ok ∧ encV x = zs)
/-- what was read makes a value -/
def decV (zs : List Int) (l : List En) : Va := ⟨(hdV ⟨zs, 0⟩).k, (hdV ⟨zs, 0⟩).n, (hdV ⟨zs, 0⟩).ix, ((hdV ⟨zs, 0⟩).u : Nat), strOfNums (hdV ⟨zs, 0⟩).b, l⟩
theorem dec_ok {zs : List Int} (h : DecIn zs) {l : List En} {t : Rst} (hr : Rds (hd6 ⟨zs, 0⟩) l t) (hl : (l.length : Int) ≤ (hdV ⟨zs, 0⟩).c) : (decV zs l).ok ∧ t.l.length ≤ 90000000 ∧ Bytes8 t.l := by
  obtain ⟨h8, hz, hc⟩ := h
  have h8' : Bytes8 (⟨zs, 0⟩ : Rst).l := h8
  obtain ⟨_, _, _, _, _, h6, h7, hb⟩ := hd_len h8'
  obtain ⟨i1, i2, i3, i4, i5⟩ := hd_i64 h8'
  obtain ⟨r1, r2, r3⟩ := Rds.len hr h6.2
  have hz' : (⟨zs, 0⟩ : Rst).l.length = zs.length := rfl
  rw [hz'] at h6 h7
  refine ⟨?_, by omega, r2⟩
  have hu : U64 (decV zs l).u := by
    unfold U64
    show (0 : Int) ≤ ((hdV ⟨zs, 0⟩).u : Nat) ∧ (((hdV ⟨zs, 0⟩).u : Nat) : Int) < _
    omega
  rcases hc with hc | ⟨x, hx, rfl⟩
  · refine ⟨⟨i1, i2, i3⟩, hu, ?_, fun e he => ?_, ?_⟩
    · show (strOfNums (hdV ⟨zs, 0⟩).b).size ≤ _
      rw [sb_nums_len hb]
      omega
    · obtain ⟨d1, d2, d3⟩ := r3 e he
      exact ⟨d1, d2, by omega⟩
    · show l.length ≤ _
      omega
  · obtain ⟨e1, e2⟩ := hd_enc hx
    obtain ⟨⟨k1, k2, k3⟩, gu, gs, gm, gl⟩ := hx
    rw [e2] at hr
    rw [e1] at hl
    have hl2 : l.length ≤ x.m.length := by simp only at hl; omega
    have hr2 : Rds ⟨x.m.flatMap encEn ++ [], 0⟩ l t := by rw [List.append_nil]; exact hr
    obtain ⟨a1, a2⟩ := Rds.enc gm hr2 hl2
    refine ⟨⟨i1, i2, i3⟩, hu, ?_, fun e he => ?_, ?_⟩
    · show (strOfNums (hdV ⟨encV x, 0⟩).b).size ≤ _
      rw [e1, sb_nums_len (sb_bytes x.s), sb_length]
      exact gs
    · have he : e ∈ l := he
      rw [a1] at he
      exact gm e (List.mem_of_mem_take he)
    · show l.length ≤ _
      omega
/-- what End accepts was written so -/
theorem dec_back {zs : List Int} (h8 : Bytes8 zs) {l : List En} {t : Rst} (hr : Rds (hd6 ⟨zs, 0⟩) l t) (hl : (l.length : Int) = (hdV ⟨zs, 0⟩).c) (he : endR t = 0) : encV (decV zs l) = zs := by
  have h8' : Bytes8 (⟨zs, 0⟩ : Rst).l := h8
  obtain ⟨_, _, _, _, _, h6, h7, hb⟩ := hd_len h8'
  have ht : t.e = 0 ∧ t.l = [] := by
    unfold endR at he
    split at he
    · cases he
    · rename_i hn
      refine ⟨he, ?_⟩
      have : ¬ 0 < t.l.length := fun h => hn ⟨he, h⟩
      exact List.length_eq_zero_iff.1 (by omega)
  obtain ⟨a1, a2⟩ := Rds.back hr h6.2 ht.1
  have hb2 := hd_back h8' a1
  rw [a2, ht.2, List.append_nil] at hb2
  have e4 := sb_of_nums hb
  refine Eq.trans ?_ hb2.symm
  unfold encV encH decV
  simp only [List.append_assoc, e4, Int.toNat_natCast, hl]
/-- a value's bytes are read as that value -/
theorem dec_enc {x : Va} (h : x.ok) {l : List En} {t : Rst} (hr : Rds (hd6 ⟨encV x, 0⟩) l t) (hl : (l.length : Int) ≤ (hdV ⟨encV x, 0⟩).c) : l = x.m.take l.length ∧ t = ⟨(x.m.drop l.length).flatMap encEn, 0⟩ ∧ (hdV ⟨encV x, 0⟩).c = (x.m.length : Int) ∧ (l.length = x.m.length → decV (encV x) l = x) := by
  obtain ⟨e1, e2⟩ := hd_enc h
  obtain ⟨⟨k1, k2, k3⟩, gu, gs, gm, gl⟩ := h
  rw [e2] at hr
  rw [e1] at hl
  have hl2 : l.length ≤ x.m.length := by simp only at hl; omega
  have hr2 : Rds ⟨x.m.flatMap encEn ++ [], 0⟩ l t := by rw [List.append_nil]; exact hr
  obtain ⟨a1, a2⟩ := Rds.enc gm hr2 hl2
  rw [List.append_nil] at a2
  refine ⟨a1, a2, by rw [e1], fun hn => ?_⟩
  have hlm : l = x.m := by rw [a1, hn, List.take_length]
  have e4 : strOfNums (sb x.s) = x.s := sb_inj (sb_of_nums (sb_bytes x.s))
  unfold U64 at gu
  unfold decV
  rw [e1, hlm]
  simp only [e4]
  rw [show ((x.u.toNat : Nat) : Int) = x.u by omega]
/-- an empty entry: these are no valid value's bytes -/
theorem dec_empty {zs : List Int} {l : List En} {t : Rst} (hr : Rds (hd6 ⟨zs, 0⟩) l t) (hl : (l.length : Int) < (hdV ⟨zs, 0⟩).c) (he : emE (entV t) = true) : ∀ x : Va, x.ok → valE x = 0 → encV x ≠ zs := by
  rintro x hx hv rfl
  obtain ⟨a1, a2, a3, _⟩ := dec_enc hx hr (by omega)
  rw [a3] at hl
  have hlt : l.length < x.m.length := by omega
  rw [List.drop_eq_getElem_cons hlt, List.flatMap_cons] at a2
  have hm := List.getElem_mem hlt
  rw [a2, (ent_enc (hx.2.2.2.1 _ hm) _).1, val_full hv _ hm] at he
  cases he
theorem dec_neg {zs : List Int} (h : (hdV ⟨zs, 0⟩).c < 0) : ∀ x : Va, x.ok → valE x = 0 → encV x ≠ zs := by
  rintro x hx _ rfl
  rw [(hd_enc hx).1] at h
  simp only at h
  omega
/-- a count below 0, bytes behind the entries, a value that is none: these are no valid value's bytes -/
theorem dec_no {zs : List Int} {l : List En} {t : Rst} (hr : Rds (hd6 ⟨zs, 0⟩) l t) (hl : (l.length : Int) ≤ (hdV ⟨zs, 0⟩).c) (hb : (hdV ⟨zs, 0⟩).c < 0 ∨ ((l.length : Int) = (hdV ⟨zs, 0⟩).c ∧ (endR t ≠ 0 ∨ valE (decV zs l) ≠ 0))) : ∀ x : Va, x.ok → valE x = 0 → encV x ≠ zs := by
  rintro x hx hv rfl
  obtain ⟨a1, a2, a3, a4⟩ := dec_enc hx hr hl
  rcases hb with hb | ⟨hb, hb2⟩
  · omega
  · rw [a3] at hb
    have hlm : l.length = x.m.length := by omega
    rcases hb2 with hb2 | hb2
    · rw [a2, hlm, List.drop_length] at hb2
      exact hb2 rfl
    · rw [a4 hlm] at hb2
      exact hb2 hv
/-- what Decode hands back -/
def DecPost (zs : List Int) (w : World) (e : Ending) (w' : World) : Prop :=
  ((∃ (x : Va) (v : Value), e = .returned (.tuple #[v, .int .i64 0]) ∧ valE x = 0 ∧ encV x = zs ∧ VaV w' (MidV w.heap.size w'.heap.size) x v) ∨
   (e = .returned (.tuple #[vav 0 0 0 0 .empty none 0 0, .int .i64 2]) ∧ ∀ x : Va, x.ok → valE x = 0 → encV x ≠ zs)) ∧ Below w.heap.size w w'
end Go.Proofs.Ytngfgohchnkidaa

namespace Go.Proofs.Ytngfgohchnkidaa
open Go.RowKit

theorem rdr_lt {w : World} {T : TypeId} {g : Nat} {s : Rst} (h : RdrAt w T g s) : g < w.heap.size := by
  obtain ⟨_, _, hk, _⟩ := h
  exact (Array.getElem?_eq_some_iff.1 hk).1

/-- the reader's block g, the value being read in block p, the result's block N -/
def DSt (w : World) (T : TypeId) (g p N : Nat) (cs ct : Array Value) (W : World) (s : Rst) : Prop :=
  (RdrAt W 119 g (nrm s) ∧ w.grownBy W (some g)) ∧ (W.heap[p]? = some (.cells cs T (0, 0)) ∧ W.heap[N]? = some (.cells ct T (0, 0))) ∧ g < p ∧ N ≠ g ∧ N ≠ p ∧ w.heap.size ≤ p
theorem blk_lt {w : World} {b : Nat} {o : Obj} (h : w.heap[b]? = some o) : b < w.heap.size := (Array.getElem?_eq_some_iff.1 h).1
theorem DSt.call {w : World} {T : TypeId} {g p N : Nat} {cs ct : Array Value} {W W' : World} {s s' : Rst} (h : DSt w T g p N cs ct W s) (hr : RdrAt W' 119 g (nrm s')) (hg : W.grownBy W' (some g)) : DSt w T g p N cs ct W' s' := by
  obtain ⟨⟨_, h2⟩, ⟨h3, h4⟩, h5, h6, h7, h8⟩ := h
  exact ⟨⟨hr, h2.trans hg⟩, ⟨(hg.block p (blk_lt h3) (fun e => by injection e; omega)).trans h3, (hg.block N (blk_lt h4) (fun e => by injection e; omega)).trans h4⟩, h5, h6, h7, h8⟩
theorem DSt.set {w : World} {T : TypeId} {g p N : Nat} {cs ct : Array Value} {W : World} {s : Rst} (h : DSt w T g p N cs ct W s) (i : Nat) (v : Value) (cs' : Array Value) (e : cs.setIfInBounds i v = cs') : DSt w T g p N cs' ct (W.setCell ⟨p, i, none⟩ v) s := by
  subst e
  obtain ⟨⟨h1, h2⟩, ⟨h3, h4⟩, h5, h6, h7, h8⟩ := h
  exact ⟨⟨rdr_grown h1 (grown_set _ _ _ _) (fun j ej => by injection ej; omega), grownBy_two h2 (grown_set _ _ _ _) (fun j ej => by injection ej; omega)⟩, ⟨blk_set h3 v, (Below.heap_setCell W ⟨p, i, none⟩ v N h7).trans h4⟩, h5, h6, h7, h8⟩
/-- another block is new: the reader and the two blocks stay -/
theorem DSt.below {w : World} {T : TypeId} {g p N : Nat} {cs ct : Array Value} {W W' : World} {s : Rst} (h : DSt w T g p N cs ct W s) (hb : Below W.heap.size W W') : DSt w T g p N cs ct W' s := by
  obtain ⟨⟨h1, h2⟩, ⟨h3, h4⟩, h5⟩ := h
  exact ⟨⟨rdr_below h1 hb, h2.trans (grown_below hb _)⟩, ⟨(hb.block p (blk_lt h3)).trans h3, (hb.block N (blk_lt h4)).trans h4⟩, h5⟩

theorem rdr_set {w W : World} {T : TypeId} {g N : Nat} {s : Rst} (h : RdrAt W T g s ∧ w.grownBy W (some g)) (hg : g < N) (hN : w.heap.size ≤ N) (i : Nat) (v : Value) : RdrAt (W.setCell ⟨N, i, none⟩ v) T g s ∧ w.grownBy (W.setCell ⟨N, i, none⟩ v) (some g) :=
  ⟨rdr_grown h.1 (grown_set _ _ _ _) (fun j ej => by injection ej; omega), grownBy_two h.2 (grown_set _ _ _ _) (fun j ej => by injection ej; omega)⟩

set_option maxHeartbeats 4000000 in
set_option maxRecDepth 100000 in
theorem readEntry_any (g : Nat) (s : Rst) (w : World) (h : RdrAt w 119 g (nrm s)) (h8 : Bytes8 s.l) (hl : s.l.length ≤ 90000000) :
    Calls Try.prog 77 #[.pointer (some ⟨g, 0, none⟩)] w fun e w' => e = .returned (entV s).val ∧ RdrAt w' 119 g (nrm (entS s)) ∧ w.grownBy w' (some g) := by
  have hgl := rdr_lt h
  obtain ⟨a1, a2⟩ := uintR_len h8
  obtain ⟨b1, b2⟩ := uintR_len a2
  have HV := Lib.hid (show (entV s).val = .agg #[.int .u64 ((uintR s).1 : Nat), .int .u64 ((uintR (uintR s).2).1 : Nat), .string (strOfNums (rawR (uintR (uintR s).2).2).1)] from rfl)
  have HS := Lib.hid (show entS s = (rawR (uintR (uintR s).2).2).2 from rfl)
  have D1 : DSt w 85 g (w.heap.size + 1) w.heap.size #[.int .u64 0, .int .u64 0, .string ⟨#[]⟩] #[.int .u64 0, .int .u64 0, .string ⟨#[]⟩] ((w.alloc (.cells #[.int .u64 0, .int .u64 0, .string ⟨#[]⟩] 85)).alloc (.cells #[.int .u64 0, .int .u64 0, .string ⟨#[]⟩] 85)) s := ⟨⟨rdr_grown h ((World.grownBy_alloc _ _ none).trans (World.grownBy_alloc _ _ none)) (fun j ej => nomatch ej), (World.grownBy_alloc _ _ _).trans (World.grownBy_alloc _ _ _)⟩, ⟨heap_alloc_new_at _ _ (by simp), (heap_alloc_old _ _ _ (by simp)).trans (heap_alloc_new w _)⟩, by omega, by omega, by omega, by omega⟩
  replace D1 := Lib.hid D1
  clear h
  go_enter Try.func77, Try.ntmps77
  go_wp2_with fail
  generalize ((w.alloc (.cells #[.int .u64 0, .int .u64 0, .string ⟨#[]⟩] 85)).alloc (.cells #[.int .u64 0, .int .u64 0, .string ⟨#[]⟩] 85)) = w1 at *
  refine Calls.mono (rUint_any g s w1 D1.out.1.1 h8 hl) ?_
  rintro e w2 ⟨rfl, hr2, hg2⟩
  have D2 := D1.out.call hr2 hg2
  obtain ⟨q0, q1, q2⟩ := three D2.2.1.1
  have hf := blk_frozen D2.2.1.1
  replace D2 := Lib.hid (D2.set 0 (.int .u64 ((uintR s).1 : Nat)) #[.int .u64 ((uintR s).1 : Nat), .int .u64 0, .string ⟨#[]⟩] rfl)
  clear hr2 hg2 D1
  go_wp2_with fail
  clear q0 q1 q2 hf
  generalize w2.setCell ⟨w.heap.size + 1, 0, none⟩ (.int .u64 ((uintR s).1 : Nat)) = w3 at *
  refine Calls.mono (rUint_any g (uintR s).2 w3 D2.out.1.1 a2 (by omega)) ?_
  rintro e w4 ⟨rfl, hr2, hg2⟩
  have D4 := D2.out.call hr2 hg2
  obtain ⟨q0, q1, q2⟩ := three D4.2.1.1
  have hf := blk_frozen D4.2.1.1
  replace D4 := Lib.hid (D4.set 1 (.int .u64 ((uintR (uintR s).2).1 : Nat)) #[.int .u64 ((uintR s).1 : Nat), .int .u64 ((uintR (uintR s).2).1 : Nat), .string ⟨#[]⟩] rfl)
  clear hr2 hg2 D2
  go_wp2_with fail
  clear q0 q1 q2 hf
  generalize w4.setCell ⟨w.heap.size + 1, 1, none⟩ (.int .u64 ((uintR (uintR s).2).1 : Nat)) = w5 at *
  refine Calls.mono (rRaw_any g (uintR (uintR s).2).2 w5 D4.out.1.1 b2 (by omega)) ?_
  rintro e w6 ⟨A, c, rfl, hc, hrow, hr2, hg2⟩
  have hcv := conv_str A _ c _ w6 w6.heap.size rfl (rd_own hrow)
  have D6 := D4.out.call hr2 hg2
  obtain ⟨q0, q1, q2⟩ := three D6.2.1.1
  have hf := blk_frozen D6.2.1.1
  obtain ⟨p0, p1, p2⟩ := three D6.2.1.2
  have hf2 := blk_frozen D6.2.1.2
  replace D6 := Lib.hid (D6.set 2 (.string (strOfNums (rawR (uintR (uintR s).2).2).1)) #[.int .u64 ((uintR s).1 : Nat), .int .u64 ((uintR (uintR s).2).1 : Nat), .string (strOfNums (rawR (uintR (uintR s).2).2).1)] rfl)
  clear hr2 hg2 D4 hrow
  go_wp2_with fail
  refine bodyPost_ret (v := (entV s).val) (by rw [HV.out]; simp [results, Try.results77, go_sem, p0, p1, p2]) rfl ?_
  rw [HS.out]
  exact ⟨rfl, rdr_set (rdr_set (rdr_set D6.out.1 hgl (Nat.le_refl _) _ _) hgl (Nat.le_refl _) _ _) hgl (Nat.le_refl _) _ _⟩

/-- a row that lies behind grows: the reader and the two blocks stay -/
theorem DSt.far {w : World} {T : TypeId} {g p N : Nat} {cs ct : Array Value} {W W' : World} {s : Rst} {row : Option Nat} (h : DSt w T g p N cs ct W s) (hg : W.grownBy W' row) (hN : N < p) (hr : ∀ j, row = some j → p + 1 ≤ j) : DSt w T g p N cs ct W' s := by
  obtain ⟨⟨h1, h2⟩, ⟨h3, h4⟩, h5, h6, h7, h8⟩ := h
  exact ⟨⟨rdr_grown h1 hg (fun j ej => by have := hr j ej; omega), grownBy_two h2 hg (fun j ej => by have := hr j ej; omega)⟩, ⟨(hg.block p (blk_lt h3) (fun e => by have := hr p e.symm; omega)).trans h3, (hg.block N (blk_lt h4) (fun e => by have := hr N e.symm; omega)).trans h4⟩, h5, h6, h7, h8⟩
theorem RowE.kept {w w' : World} {base : Nat} {e : TypeId} {v : Value} {l : List En} (h : RowE w base e v l) (hk : ∀ b, base ≤ b → b < w.heap.size → w'.heap[b]? = w.heap[b]?) : RowE w' base e v l := own_keptv h hk
theorem en_new {w : World} {b : Nat} {x : En} (h : w.heap[b]? = some (.cells #[.int .u64 x.i, .int .u64 x.u, .string x.s] 85 (0, 0))) : w.rangeAt b 0 ([x].flatMap En.cells) := by
  intro j v hj
  rw [Nat.zero_add, cell_of_row w b j _ _ _ h]
  simpa [En.cells] using hj

set_option maxHeartbeats 8000000 in
set_option maxRecDepth 100000 in
theorem vDecode_any (A : Option Addr) (n c : Nat) (zs : List Int) (w : World) (hin : DecIn zs) (hn : n = zs.length) (hcap : zs.length ≤ c) (hA : A = none → c = 0) (hr : RdI w w.heap.size .u8 A zs) :
    Calls Try.prog 34 #[.slice A n c] w fun e w' => DecPost zs w e w' := by
  subst hn
  obtain ⟨ie, hi, hz0, hz1, hz2⟩ := info_partsV info_vEntry
  obtain ⟨h8, hz, _⟩ := id hin
  have h8' : Bytes8 (⟨zs, 0⟩ : Rst).l := h8
  obtain ⟨l1, l2, l3, l4, l5, l6, l7, l8⟩ := hd_len h8'
  have i64s := hd_i64 h8'
  have hz' : (⟨zs, 0⟩ : Rst).l.length = zs.length := rfl
  rw [hz'] at l1 l2 l3 l4 l5 l6 l7
  have H1 := Lib.hid (fun W g (h : RdrAt W 119 g (nrm ⟨zs, 0⟩)) => (show Calls Try.prog 36 #[.pointer (some ⟨g, 0, none⟩)] W (RdrPost W 119 g (.int .i64 (hdV ⟨zs, 0⟩).k) (nrm (hd1 ⟨zs, 0⟩))) from rInt_any g ⟨zs, 0⟩ W h h8' hz))
  have H2 := Lib.hid (fun W g (h : RdrAt W 119 g (nrm (hd1 ⟨zs, 0⟩))) => (show Calls Try.prog 36 #[.pointer (some ⟨g, 0, none⟩)] W (RdrPost W 119 g (.int .i64 (hdV ⟨zs, 0⟩).n) (nrm (hd2 ⟨zs, 0⟩))) from rInt_any g _ W h l1.2 (by omega)))
  have H3 := Lib.hid (fun W g (h : RdrAt W 119 g (nrm (hd2 ⟨zs, 0⟩))) => (show Calls Try.prog 36 #[.pointer (some ⟨g, 0, none⟩)] W (RdrPost W 119 g (.int .i64 (hdV ⟨zs, 0⟩).ix) (nrm (hd3 ⟨zs, 0⟩))) from rInt_any g _ W h l2.2 (by omega)))
  have H4 := Lib.hid (fun W g (h : RdrAt W 119 g (nrm (hd3 ⟨zs, 0⟩))) => (show Calls Try.prog 75 #[.pointer (some ⟨g, 0, none⟩)] W (RdrPost W 119 g (.int .u64 ((hdV ⟨zs, 0⟩).u : Nat)) (nrm (hd4 ⟨zs, 0⟩))) from rUint_any g _ W h l3.2 (by omega)))
  have H5 := Lib.hid (fun W g (h : RdrAt W 119 g (nrm (hd4 ⟨zs, 0⟩))) => (show Calls Try.prog 76 #[.pointer (some ⟨g, 0, none⟩)] W (RowPost W g 5 .u8 (hdV ⟨zs, 0⟩).b (nrm (hd5 ⟨zs, 0⟩))) from rRaw_any g _ W h l4.2 (by omega)))
  have H6 := Lib.hid (fun W g (h : RdrAt W 119 g (nrm (hd5 ⟨zs, 0⟩))) => (show Calls Try.prog 36 #[.pointer (some ⟨g, 0, none⟩)] W (RdrPost W 119 g (.int .i64 (hdV ⟨zs, 0⟩).c) (nrm (hd6 ⟨zs, 0⟩))) from rInt_any g _ W h l5.2 (by omega)))
  have HDV := Lib.hid (show ∀ l, decV zs l = ⟨(hdV ⟨zs, 0⟩).k, (hdV ⟨zs, 0⟩).n, (hdV ⟨zs, 0⟩).ix, ((hdV ⟨zs, 0⟩).u : Nat), strOfNums (hdV ⟨zs, 0⟩).b, l⟩ from fun _ => rfl)
  have HOK := Lib.hid (fun l t (hr : Rds (hd6 ⟨zs, 0⟩) l t) (hl : (l.length : Int) ≤ (hdV ⟨zs, 0⟩).c) => dec_ok hin hr hl)
  have HBK := Lib.hid (fun l t (hr : Rds (hd6 ⟨zs, 0⟩) l t) (hl : (l.length : Int) = (hdV ⟨zs, 0⟩).c) => dec_back h8 hr hl)
  have HEM := Lib.hid (fun l t (hr : Rds (hd6 ⟨zs, 0⟩) l t) (hl : (l.length : Int) < (hdV ⟨zs, 0⟩).c) => dec_empty hr hl)
  have HNO := Lib.hid (fun l t (hr : Rds (hd6 ⟨zs, 0⟩) l t) (hl : (l.length : Int) ≤ (hdV ⟨zs, 0⟩).c) (hb : ((hdV ⟨zs, 0⟩).c < 0 ∨ ((l.length : Int) = (hdV ⟨zs, 0⟩).c ∧ (endR t ≠ 0 ∨ valE (decV zs l) ≠ 0)))) => dec_no hr hl hb)
  have HNG := Lib.hid (fun (h : (hdV ⟨zs, 0⟩).c < 0) => dec_neg h)
  have hci := i64s.2.2.2.2
  obtain ⟨cnt, hcnt⟩ : ∃ z, z = (hdV ⟨zs, 0⟩).c := ⟨_, rfl⟩
  rw [← hcnt] at H6 HOK HBK HEM HNO HNG hci
  clear hcnt l1 l2 l3 l4 l5 l6 l7 l8 i64s h8'
  generalize (hdV ⟨zs, 0⟩).k = k at *
  generalize (hdV ⟨zs, 0⟩).n = n at *
  generalize (hdV ⟨zs, 0⟩).ix = ix at *
  generalize (hdV ⟨zs, 0⟩).u = u at *
  generalize (hdV ⟨zs, 0⟩).b = bs at *
  generalize hd6 ⟨zs, 0⟩ = s6 at *
  generalize hd5 ⟨zs, 0⟩ = s5 at *
  generalize hd4 ⟨zs, 0⟩ = s4 at *
  generalize hd3 ⟨zs, 0⟩ = s3 at *
  generalize hd2 ⟨zs, 0⟩ = s2 at *
  generalize hd1 ⟨zs, 0⟩ = s1 at *
  have HR := Lib.hid (show RdI (w.alloc (.cells #[.int .i64 0, .int .i64 0, .int .i64 0, .int .u64 0, .string ⟨#[]⟩, .slice none 0 0] 35)) (w.alloc (.cells #[.int .i64 0, .int .i64 0, .int .i64 0, .int .u64 0, .string ⟨#[]⟩, .slice none 0 0] 35)).heap.size .u8 A zs from (hr.below ((Below.refl _ _).alloc (Nat.le_refl _) _)).mono (by simp))
  clear hr
  go_enter Try.func34, Try.ntmps34
  go_wp2_with fail
  have K0 := heap_alloc_new w (.cells #[.int .i64 0, .int .i64 0, .int .i64 0, .int .u64 0, .string ⟨#[]⟩, .slice none 0 0] 35)
  have Z0 : (w.alloc (.cells #[.int .i64 0, .int .i64 0, .int .i64 0, .int .u64 0, .string ⟨#[]⟩, .slice none 0 0] 35)).heap.size = w.heap.size + 1 := by simp
  have B0 : Below w.heap.size w (w.alloc (.cells #[.int .i64 0, .int .i64 0, .int .i64 0, .int .u64 0, .string ⟨#[]⟩, .slice none 0 0] 35)) := (Below.refl _ _).alloc (Nat.le_refl _) _
  replace K0 := Lib.hid K0
  replace B0 := Lib.hid B0
  generalize (w.alloc (.cells #[.int .i64 0, .int .i64 0, .int .i64 0, .int .u64 0, .string ⟨#[]⟩, .slice none 0 0] 35)) = w1 at *
  refine Calls.mono (dRead_any A zs.length c zs w1 rfl hz hcap hA HR.out) ?_
  rintro e w2 ⟨g, rfl, hgz, hr2, hb2⟩
  have D2 : DSt w 35 g w2.heap.size w.heap.size #[.int .i64 0, .int .i64 0, .int .i64 0, .int .u64 0, .string ⟨#[]⟩, .slice none 0 0] #[.int .i64 0, .int .i64 0, .int .i64 0, .int .u64 0, .string ⟨#[]⟩, .slice none 0 0] (w2.alloc (.cells #[.int .i64 0, .int .i64 0, .int .i64 0, .int .u64 0, .string ⟨#[]⟩, .slice none 0 0] 35)) ⟨zs, 0⟩ := ⟨⟨rdr_grown (by rw [nrm_ok rfl]; exact hr2) (World.grownBy_alloc _ _ none) (fun j ej => nomatch ej), (grown_below (B0.out.trans (hb2.mono (by omega))) _).trans (World.grownBy_alloc _ _ _)⟩, ⟨heap_alloc_new w2 _, (heap_alloc_old _ _ _ (by have := rdr_lt hr2; omega)).trans ((hb2.block _ (by omega)).trans K0.out)⟩, rdr_lt hr2, by omega, by have := rdr_lt hr2; omega, by have := rdr_lt hr2; omega⟩
  replace D2 := Lib.hid D2
  have hgw : w.heap.size ≤ g := by omega
  obtain ⟨p, hp⟩ : ∃ p, p = w2.heap.size := ⟨_, rfl⟩
  clear hr2 HR K0 hA hcap
  replace hb2 := Lib.hid hb2
  go_wp2_with fail
  rw [← hp] at D2 ⊢
  clear hp
  generalize (w2.alloc (.cells #[.int .i64 0, .int .i64 0, .int .i64 0, .int .u64 0, .string ⟨#[]⟩, .slice none 0 0] 35)) = w3 at *
  refine Calls.mono (H1.out w3 g D2.out.1.1) ?_
  rintro e w4 ⟨rfl, hr2, hg2⟩
  have D5 := D2.out.call hr2 hg2
  obtain ⟨q0, q1, q2, q3, q4, q5⟩ := six D5.2.1.1
  have hf := blk_frozen D5.2.1.1
  replace D5 := Lib.hid (D5.set 0 (.int .i64 k) #[.int .i64 k, .int .i64 0, .int .i64 0, .int .u64 0, .string ⟨#[]⟩, .slice none 0 0] rfl)
  clear hr2 hg2 D2
  go_wp2_with fail
  clear q0 q1 q2 q3 q4 q5 hf
  generalize w4.setCell ⟨p, 0, none⟩ (.int .i64 k) = w5 at *
  refine Calls.mono (H2.out w5 g D5.out.1.1) ?_
  rintro e w6 ⟨rfl, hr2, hg2⟩
  have D7 := D5.out.call hr2 hg2
  obtain ⟨q0, q1, q2, q3, q4, q5⟩ := six D7.2.1.1
  have hf := blk_frozen D7.2.1.1
  replace D7 := Lib.hid (D7.set 1 (.int .i64 n) #[.int .i64 k, .int .i64 n, .int .i64 0, .int .u64 0, .string ⟨#[]⟩, .slice none 0 0] rfl)
  clear hr2 hg2 D5
  go_wp2_with fail
  clear q0 q1 q2 q3 q4 q5 hf
  generalize w6.setCell ⟨p, 1, none⟩ (.int .i64 n) = w7 at *
  refine Calls.mono (H3.out w7 g D7.out.1.1) ?_
  rintro e w8 ⟨rfl, hr2, hg2⟩
  have D9 := D7.out.call hr2 hg2
  obtain ⟨q0, q1, q2, q3, q4, q5⟩ := six D9.2.1.1
  have hf := blk_frozen D9.2.1.1
  replace D9 := Lib.hid (D9.set 2 (.int .i64 ix) #[.int .i64 k, .int .i64 n, .int .i64 ix, .int .u64 0, .string ⟨#[]⟩, .slice none 0 0] rfl)
  clear hr2 hg2 D7
  go_wp2_with fail
  clear q0 q1 q2 q3 q4 q5 hf
  generalize w8.setCell ⟨p, 2, none⟩ (.int .i64 ix) = w9 at *
  refine Calls.mono (H4.out w9 g D9.out.1.1) ?_
  rintro e w10 ⟨rfl, hr2, hg2⟩
  have D11 := D9.out.call hr2 hg2
  obtain ⟨q0, q1, q2, q3, q4, q5⟩ := six D11.2.1.1
  have hf := blk_frozen D11.2.1.1
  replace D11 := Lib.hid (D11.set 3 (.int .u64 (u : Nat)) #[.int .i64 k, .int .i64 n, .int .i64 ix, .int .u64 (u : Nat), .string ⟨#[]⟩, .slice none 0 0] rfl)
  clear hr2 hg2 D9
  go_wp2_with fail
  clear q0 q1 q2 q3 q4 q5 hf
  generalize w10.setCell ⟨p, 3, none⟩ (.int .u64 (u : Nat)) = w11 at *
  refine Calls.mono (H5.out w11 g D11.out.1.1) ?_
  rintro e w12 ⟨A1, c1, rfl, hc1, hrow, hr2, hg2⟩
  have hcv := conv_str A1 _ c1 _ w12 w12.heap.size rfl (rd_own hrow)
  clear hrow
  have D13 := D11.out.call hr2 hg2
  obtain ⟨q0, q1, q2, q3, q4, q5⟩ := six D13.2.1.1
  have hf := blk_frozen D13.2.1.1
  replace D13 := Lib.hid (D13.set 4 (.string (strOfNums bs)) #[.int .i64 k, .int .i64 n, .int .i64 ix, .int .u64 (u : Nat), .string (strOfNums bs), .slice none 0 0] rfl)
  clear hr2 hg2 D11
  go_wp2_with fail
  clear q0 q1 q2 q3 q4 q5 hf hcv
  generalize w12.setCell ⟨p, 4, none⟩ (.string (strOfNums bs)) = w13 at *
  refine Calls.mono (H6.out w13 g D13.out.1.1) ?_
  rintro e w14 ⟨rfl, hr2, hg2⟩
  have D14 := Lib.hid (D13.out.call hr2 hg2)
  clear hr2 hg2 D13 H1 H2 H3 H4 H5 H6
  generalize strOfNums bs = st at *
  obtain ⟨s6', hs6⟩ : ∃ z, z = s6 := ⟨_, rfl⟩
  have hwp : w.heap.size ≤ p ∧ p < w14.heap.size := ⟨D14.out.2.2.2.2.2, blk_lt D14.out.2.1.1⟩
  have HR0 := Lib.hid (show Rds s6 [] s6 from rfl)
  have HD0 := D14.out
  go_wp2_with fail
  go_loopw [32] (fun a wr => ∃ (j : Nat) (l : List En) (t : Rst) (cu : Value), a = .int .i64 (j : Int) ∧ Hid (Rds s6 l t) ∧ Hid (l.length = j) ∧ (j = 0 ∨ (j : Int) ≤ cnt) ∧ DSt w 35 g p w.heap.size #[.int .i64 k, .int .i64 n, .int .i64 ix, .int .u64 (u : Nat), .string st, cu] #[.int .i64 0, .int .i64 0, .int .i64 0, .int .u64 0, .string ⟨#[]⟩, .slice none 0 0] wr t ∧ RowE wr (p + 1) 85 cu l ∧ p < wr.heap.size) (fun a _ => (cnt - intOf a).toNat)
  case atStart => exact ⟨0, [], s6, .slice none 0 0, rfl, HR0, Lib.hid rfl, .inl rfl, HD0, RowE.nil _ _ _, hwp.2⟩
  case round =>
    obtain ⟨j, l, t, cu, rfl, hRD, hLN, hjc, hD, hrow, hpw⟩ := hrel
    have hjl : ((l.length : Nat) : Int) ≤ cnt ∨ l.length = 0 := by have := hLN.out; omega
    by_cases hlt : (j : Int) < cnt
    · have hll : ((l.length : Nat) : Int) < cnt := by have := hLN.out; omega
      obtain ⟨hokl, htl, ht8⟩ := HOK.out l t hRD.out (by omega)
      have hg : decide ((j : Int) < cnt) = true := decide_eq_true hlt
      have hlen := hokl.2.2.2.2
      replace hlen : l.length ≤ 100000 := hlen
      have hc64 := hci.2
      have hj64 : (j : Int) < 9223372036854775807 := by omega
      obtain ⟨hi64, hu64⟩ := entV_u64 t ht8
      replace hD := Lib.hid hD
      replace hrow := Lib.hid hrow
      replace hokl := Lib.hid hokl
      go_wp2_with fail
      refine Calls.mono (readEntry_any g t wr hD.out.1.1 ht8 htl) ?_
      rintro e w20 ⟨rfl, hr2, hg2⟩
      have D20 := Lib.hid (hD.out.call hr2 hg2)
      have hrow20 := Lib.hid (show RowE w20 (p + 1) 85 cu l from own_keptv hrow.out (fun b h1 h2 => hg2.block b h2 (fun e => by injection e; have := hD.out.2.2.1; omega)))
      have hp20 : p < w20.heap.size := Nat.lt_of_lt_of_le hpw hg2.size
      obtain ⟨x, hx⟩ : ∃ x, x = entV t := ⟨_, rfl⟩
      rw [← hx] at hi64 hu64 ⊢
      replace hx := Lib.hid hx
      obtain ⟨xi, xu, xs⟩ := x
      simp only [En.val]
      clear hr2 hg2
      go_wp2_with fail
      have D21 := Lib.hid (D20.out.below ((Below.refl _ _).alloc (Nat.le_refl _) (.cells #[.int .u64 xi, .int .u64 xu, .string xs] 85)))
      have hrow21 := Lib.hid (hrow20.out.below ((Below.refl _ _).alloc (Nat.le_refl _) (.cells #[.int .u64 xi, .int .u64 xu, .string xs] 85)))
      have hx21 := heap_alloc_new w20 (.cells #[.int .u64 xi, .int .u64 xu, .string xs] 85)
      have hz21 : w20.heap.size < (w20.alloc (.cells #[.int .u64 xi, .int .u64 xu, .string xs] 85)).heap.size := by simp
      generalize (w20.alloc (.cells #[.int .u64 xi, .int .u64 xu, .string xs] 85)) = w21 at *
      generalize w20.heap.size = q at *
      clear D20 hrow20
      refine Calls.mono (visEmpty_any ⟨xi, xu, xs⟩ w21) ?_
      rintro e w22 ⟨rfl, hb22⟩
      have D22 := D21.out.below hb22
      have hrow22 := Lib.hid (hrow21.out.below hb22)
      have hx22 := (hb22.block q hz21).trans hx21
      have hz22 := hb22.size
      obtain ⟨p0, p1, p2⟩ := three hx22
      obtain ⟨q0, q1, q2, q3, q4, q5⟩ := six D22.2.1.1
      obtain ⟨r0, r1, r2, r3, r4, r5⟩ := six D22.2.1.2
      have hf := blk_frozen D22.2.1.1
      have hf2 := blk_frozen D22.2.1.2
      replace D22 := Lib.hid D22
      replace hx21 := Lib.hid hx21
      replace hb22 := Lib.hid hb22
      replace hx22 := Lib.hid hx22
      clear D21 hrow21
      have HEe := Lib.hid (show emE ⟨xi, xu, xs⟩ = (xu == 0 && xs.size == 0) from rfl)
      simp only
      rw [← HEe.out]
      obtain ⟨em, hem⟩ : ∃ z, z = emE ⟨xi, xu, xs⟩ := ⟨_, rfl⟩
      rw [← hem]
      replace hem := Lib.hid hem
      cases em
      · have hem' : emE (entV t) = false := by rw [← hx.out]; exact hem.out.symm
        have HSN := Lib.hid (hRD.out.snoc hem')
        rw [← hx.out] at HSN
        replace hem' := Lib.hid hem'
        have hRn := Lib.hid (hrow22.out.below ((Below.refl _ _).alloc (Nat.le_refl _) (.cells #[.int .u64 xi, .int .u64 xu, .string xs] 85)))
        have hNn := Lib.hid (show EnL (w22.alloc (.cells #[.int .u64 xi, .int .u64 xu, .string xs] 85)) (fun _ => True) [⟨xi, xu, xs⟩] (some ⟨w22.heap.size, 0, none⟩) from .inr ⟨_, _, rfl, trivial, en_new (heap_alloc_new w22 _)⟩)
        have hDn := Lib.hid (D22.out.below ((Below.refl _ _).alloc (Nat.le_refl _) (.cells #[.int .u64 xi, .int .u64 xu, .string xs] 85)))
        have hBn : p + 1 ≤ (w22.alloc (.cells #[.int .u64 xi, .int .u64 xu, .string xs] 85)).heap.size := by simp; omega
        have hpN : w.heap.size < p := by have := D22.out.2.2.2.2; omega
        have hp22 : p < w22.heap.size := by omega
        have q5' : (w22.alloc (.cells #[.int .u64 xi, .int .u64 xu, .string xs] 85)).cell? ⟨p, 5, none⟩ = some cu := (six hDn.out.2.1.1).2.2.2.2.2
        go_wp2_with (at_builtin; refine wpList_append_en _ rfl _ _ 33 rfl (p + 1) 85 ie (.agg #[.int .u64 0, .int .u64 0, .string ⟨#[]⟩]) 32 Try.underlying33 hi hz0 hz1 hz2 rfl cu l rfl hRn.out (fun _ => True) (some ⟨w22.heap.size, 0, none⟩) 1 1 [⟨xi, xu, xs⟩] rfl rfl (fun h => by cases h) (Nat.le_refl _) hNn.out (by unfold maxLen; omega) (by omega) hBn ?_; intro A6 n6 c6 w6 h6 hrow6 hg6; have D6 := hDn.out.far hg6 hpN (fun j hj => hRn.out.blk j hj); have hf6 := blk_frozen D6.2.1.1; have g56 := (six D6.2.1.1).2.2.2.2.2; replace D6 := Lib.hid (D6.set 5 (.slice A6 n6 c6) #[.int .i64 k, .int .i64 n, .int .i64 ix, .int .u64 (u : Nat), .string st, .slice A6 n6 c6] rfl); replace hrow6 := Lib.hid hrow6; replace hg6 := Lib.hid hg6)
        go_roundw
        case rel =>
          exact ⟨j + 1, l ++ [⟨xi, xu, xs⟩], entS t, .slice A6 n6 c6, by go_num, HSN, Lib.hid (by rw [List.length_append, hLN.out]; rfl), .inr (by omega), D6.out, RowE.kept hrow6.out (fun b h1 h2 => Below.heap_setCell _ _ _ b (by simp; omega)), by have h1 := hg6.out.size; simp at h1; simp [World.setCell]; omega⟩
        case measure => simp [intOf]; omega
      · go_wp2_with fail
        refine bodyPost_ret (v := .tuple #[vav 0 0 0 0 .empty none 0 0, .int .i64 2]) (by simp [results, Try.results34, go_sem, r0, r1, r2, r3, r4, r5, vav]; rfl) rfl ?_
        exact ⟨.inr ⟨rfl, HEM.out l t hRD.out hll (by rw [← hx.out]; exact hem.out.symm)⟩, set6_below ((Below.refl _ _).grown D22.out.1.2 (Nat.le_refl _) (fun j hj => by injection hj; omega)) (Nat.le_refl _) _ _ _ _ _ _⟩
    · have hg : decide ((j : Int) < cnt) = false := decide_eq_false hlt
      obtain ⟨r0, r1, r2, r3, r4, r5⟩ := six hD.2.1.2
      have hf2 := blk_frozen hD.2.1.2
      by_cases hneg : cnt < 0
      · have hg2 : decide (cnt < 0) = true := decide_eq_true hneg
        have hj0 : j = 0 := by omega
        have hBW : Below w.heap.size w wr := (Below.refl _ _).grown hD.1.2 (Nat.le_refl _) (fun j hj => by injection hj; omega)
        have hnone := HNG.out hneg
        replace hnone := Lib.hid hnone
        replace hBW := Lib.hid hBW
        replace hD := Lib.hid hD
        replace hrow := Lib.hid hrow
        clear hj0
        go_wp2_with fail
        refine bodyPost_ret (v := .tuple #[vav 0 0 0 0 .empty none 0 0, .int .i64 2]) (by simp [results, Try.results34, go_sem, r0, r1, r2, r3, r4, r5, vav]; rfl) rfl ?_
        exact ⟨.inr ⟨rfl, hnone.out⟩, set6_below hBW.out (Nat.le_refl _) _ _ _ _ _ _⟩
      · have hg2 : decide (cnt < 0) = false := decide_eq_false hneg
        have hjn : (l.length : Int) = cnt := by have := hLN.out; omega
        obtain ⟨hokl, htl, ht8⟩ := HOK.out l t hRD.out (by omega)
        obtain ⟨A2, c2, rfl, hc2, hA2⟩ := hrow.val
        have hBW : Below w.heap.size w wr := (Below.refl _ _).grown hD.1.2 (Nat.le_refl _) (fun j hj => by injection hj; omega)
        have hVX : VaV wr (MidV (w.heap.size + 1) wr.heap.size) (decV zs l) (.agg #[.int .i64 k, .int .i64 n, .int .i64 ix, .int .u64 (u : Nat), .string st, .slice A2 l.length c2]) := by
          rw [HDV.out] at hokl ⊢
          exact VaV.mk hokl hc2 hA2 (hrow.list.to (fun b hb => ⟨⟨by have := hb.1; omega, hb.2⟩, rfl⟩))
        have hNp : w.heap.size < p := by have := hD.2.2.2.2; omega
        obtain ⟨q0, q1, q2, q3, q4, q5⟩ := six hD.2.1.1
        have hVF := Lib.hid (fun W (hb : Below wr.heap.size wr W) => (show VaV W (MidV (w.heap.size + 1) W.heap.size) (decV zs l) (.agg #[.int .i64 k, .int .i64 n, .int .i64 ix, .int .u64 (u : Nat), .string st, .slice A2 l.length c2]) from hVX.to (fun b hb2 => ⟨⟨hb2.1, Nat.lt_of_lt_of_le hb2.2 hb.size⟩, hb.block b hb2.2⟩)))
        replace hBW := Lib.hid hBW
        replace hD := Lib.hid hD
        replace hrow := Lib.hid hrow
        replace hokl := Lib.hid hokl
        replace hVX := Lib.hid hVX
        have HLL := Lib.hid hjn
        obtain ⟨er, her⟩ : ∃ z, z = endR t := ⟨_, rfl⟩
        obtain ⟨ev, hev⟩ : ∃ z, z = valE (decV zs l) := ⟨_, rfl⟩
        have hE := rEnd_any g t wr hD.out.1.1 (by omega)
        have hV := vValid_any (decV zs l) (.agg #[.int .i64 k, .int .i64 n, .int .i64 ix, .int .u64 (u : Nat), .string st, .slice A2 l.length c2]) wr ((hVF.out wr (Below.refl _ _)).sub (fun b hb => hb.2))
        rw [← her] at hE
        rw [← hev] at hV
        have HER := Lib.hid (And.intro her hev)
        clear her hev hjn
        by_cases he0 : er = 0
        · subst he0
          by_cases hv0 : ev = 0
          · subst hv0
            go_wp2_with fail
            refine Calls.mono hE ?_
            clear hE
            rintro e w30 ⟨rfl, hw⟩
            subst hw
            go_wp2_with fail
            refine Calls.mono hV ?_
            clear hV
            rintro e w31 ⟨rfl, hb31⟩
            clear q0 q1 q2 q3 q4 q5 r0 r1 r2 r3 r4 r5 hf2
            have D31 := hD.out.below hb31
            obtain ⟨q0, q1, q2, q3, q4, q5⟩ := six D31.2.1.1
            obtain ⟨r0, r1, r2, r3, r4, r5⟩ := six D31.2.1.2
            have hf2 := blk_frozen D31.2.1.2
            have hV31 := hVF.out _ hb31
            have hB31 := hBW.out.trans (hb31.mono hBW.out.size)
            replace hb31 := Lib.hid hb31
            replace hB31 := Lib.hid hB31
            replace hV31 := Lib.hid hV31
            replace D31 := Lib.hid D31
            go_wp2_with fail
            refine bodyPost_ret (v := .tuple #[vav k n ix (u : Nat) st A2 l.length c2, .int .i64 0]) (by simp [results, Try.results34, go_sem, r0, r1, r2, r3, r4, r5, vav]) rfl ?_
            refine ⟨.inl ⟨decV zs l, _, rfl, HER.out.2.symm, HBK.out l t hRD.out HLL.out HER.out.1.symm, hV31.out.to (fun b hb => ⟨⟨Nat.le_of_succ_le hb.1, by rw [set6_size]; exact hb.2⟩, set6_heap _ _ _ _ _ _ (by have := hb.1; omega)⟩)⟩, set6_below hB31.out (Nat.le_refl _) _ _ _ _ _ _⟩

          · have hv1 : (ev == 0) = false := by rw [beq_eq_false_iff_ne]; exact hv0
            replace hv0 := Lib.hid hv0
            go_wp2_with fail
            refine Calls.mono hE ?_
            clear hE
            rintro e w30 ⟨rfl, hw⟩
            subst hw
            go_wp2_with fail
            refine Calls.mono hV ?_
            clear hV
            rintro e w31 ⟨rfl, hb31⟩
            clear q0 q1 q2 q3 q4 q5 r0 r1 r2 r3 r4 r5 hf2
            have D31 := hD.out.below hb31
            obtain ⟨q0, q1, q2, q3, q4, q5⟩ := six D31.2.1.1
            obtain ⟨r0, r1, r2, r3, r4, r5⟩ := six D31.2.1.2
            have hf2 := blk_frozen D31.2.1.2
            have hV31 := hVF.out _ hb31
            have hB31 := hBW.out.trans (hb31.mono hBW.out.size)
            replace hb31 := Lib.hid hb31
            replace hB31 := Lib.hid hB31
            replace hV31 := Lib.hid hV31
            replace D31 := Lib.hid D31
            go_wp2_with fail
            refine bodyPost_ret (v := .tuple #[vav 0 0 0 0 .empty none 0 0, .int .i64 2]) (by simp [results, Try.results34, go_sem, r0, r1, r2, r3, r4, r5, vav]; rfl) rfl ?_
            exact ⟨.inr ⟨rfl, HNO.out l t hRD.out (by rw [HLL.out]; exact Int.le_refl _) (.inr ⟨HLL.out, .inr (by rw [← HER.out.2]; exact hv0.out)⟩)⟩, set6_below hB31.out (Nat.le_refl _) _ _ _ _ _ _⟩

        · have he1 : (er == 0) = false := by rw [beq_eq_false_iff_ne]; exact he0
          replace he0 := Lib.hid he0
          clear hV
          go_wp2_with fail
          refine Calls.mono hE ?_
          clear hE
          rintro e w30 ⟨rfl, hw⟩
          subst hw
          go_wp2_with fail
          refine bodyPost_ret (v := .tuple #[vav 0 0 0 0 .empty none 0 0, .int .i64 2]) (by simp [results, Try.results34, go_sem, r0, r1, r2, r3, r4, r5, vav]; rfl) rfl ?_
          exact ⟨.inr ⟨rfl, HNO.out l t hRD.out (by rw [HLL.out]; exact Int.le_refl _) (.inr ⟨HLL.out, .inl (by rw [← HER.out.1]; exact he0.out)⟩)⟩, set6_below hBW.out (Nat.le_refl _) _ _ _ _ _ _⟩
end Go.Proofs.Ytngfgohchnkidaa

namespace Go.Proofs.Ytngfgohchnkidaa
open Go.RowKit

theorem bytes8_app {a b : List Int} (ha : Bytes8 a) (hb : Bytes8 b) : Bytes8 (a ++ b) := fun z hz => (List.mem_append.1 hz).elim (ha z) (hb z)
theorem raw_bytes8 {b : List Int} (h : Bytes8 b) : Bytes8 (raw b) := bytes8_app (uv_bytes _) h
theorem encV_bytes (x : Va) : Bytes8 (encV x) := by
  unfold encV encH
  refine bytes8_app (bytes8_app (bytes8_app (bytes8_app (bytes8_app (bytes8_app (uv_bytes _) (uv_bytes _)) (uv_bytes _)) (uv_bytes _)) (raw_bytes8 (sb_bytes _))) (uv_bytes _)) ?_
  intro z hz
  obtain ⟨e, _, h⟩ := List.mem_flatMap.1 hz
  exact bytes8_app (bytes8_app (uv_bytes _) (uv_bytes _)) (raw_bytes8 (sb_bytes _)) z h
theorem encH_len {x : Va} (h : x.ok) : (encH x).length ≤ x.s.size + 60 := by
  obtain ⟨⟨k1, k2, k3⟩, hu, hs, hm, hl⟩ := h
  unfold U64 at hu
  have z1 := uv10 (zz_lt k1.1 k1.2)
  have z2 := uv10 (zz_lt k2.1 k2.2)
  have z3 := uv10 (zz_lt k3.1 k3.2)
  have z4 := uv10 (n := x.u.toNat) (by omega)
  have z5 := uv10 (n := (sb x.s).length) (by rw [sb_length]; omega)
  have z6 := uv10 (zz_lt (n := (x.m.length : Int)) (by omega) (by omega))
  unfold encH
  simp only [List.length_append, raw_len, sb_length] at *
  omega
theorem encV_le {x : Va} (h : x.ok) (h7 : x.m.length ≤ 7) : (encV x).length ≤ 90000000 := by
  have h1 := encH_len h
  obtain ⟨_, _, hs, hm, _⟩ := h
  have h9 : ∀ l : List En, (∀ e ∈ l, e.ok) → (l.flatMap encEn).length ≤ 1000030 * l.length := by
    intro l
    induction l with
    | nil => intro _; simp
    | cons y l ih =>
      intro hy
      have h1 := ih (fun e he => hy e (by simp [he]))
      obtain ⟨a1, a2, a3⟩ := hy y (by simp)
      unfold U64 at a1 a2
      have b1 := uv10 (n := y.i.toNat) (by omega)
      have b2 := uv10 (n := y.u.toNat) (by omega)
      have b3 := uv10 (n := (sb y.s).length) (by rw [sb_length]; omega)
      have b4 : (encEn y).length ≤ 1000030 := by
        unfold encEn
        simp only [List.length_append, raw_len, sb_length] at *
        omega
      rw [List.flatMap_cons, List.length_append, List.length_cons]
      omega
  have h10 := h9 x.m hm
  unfold encV
  rw [List.length_append]
  omega
theorem encV_short {x : Va} (h : x.ok) (hv : valE x = 0) (h7 : x.m.length ≤ 7) : 0 < (encV x).length ∧ (encV x).length ≤ 900 := by
  obtain ⟨t1, t2⟩ := val_texts hv
  have h1 := encH_len h
  have h2 := encs_short (l := x.m) (fun e he => ⟨h.2.2.2.1 e he, t2 e he⟩)
  have h3 := uv_pos (zz x.k)
  refine ⟨?_, ?_⟩
  · unfold encV encH
    simp only [List.length_append]
    omega
  · unfold encV
    rw [List.length_append]
    omega
theorem dec_in {x : Va} (h : x.ok) (h7 : x.m.length ≤ 7) : DecIn (encV x) := ⟨encV_bytes x, encV_le h h7, .inr ⟨x, h, rfl⟩⟩
theorem dec_few {zs : List Int} (h8 : Bytes8 zs) (hl : zs.length ≤ 100000) : DecIn zs := ⟨h8, by omega, .inl hl⟩
/-- a value's own bytes: read as it, if it is one -/
theorem dec_good {x : Va} (hx : x.ok) (hv : valE x = 0) {w w' : World} {e : Ending} (h : DecPost (encV x) w e w') : ∃ v, e = .returned (.tuple #[v, .int .i64 0]) ∧ VaV w' (MidV w.heap.size w'.heap.size) x v ∧ Below w.heap.size w w' := by
  rcases h with ⟨⟨y, v, he, hy, hey, hvy⟩ | ⟨_, hno⟩, hb⟩
  · have := enc_inj hvy.1 hx hey
    subst this
    exact ⟨v, he, hvy, hb⟩
  · exact absurd rfl (hno x hx hv)
theorem dec_bad {x : Va} (hx : x.ok) (hv : valE x ≠ 0) {w w' : World} {e : Ending} (h : DecPost (encV x) w e w') : e = .returned (.tuple #[vav 0 0 0 0 .empty none 0 0, .int .i64 2]) ∧ Below w.heap.size w w' := by
  rcases h with ⟨⟨y, v, he, hy, hey, hvy⟩ | ⟨he, _⟩, hb⟩
  · have := enc_inj hvy.1 hx hey
    subst this
    exact absurd hy hv
  · exact ⟨he, hb⟩
theorem intR_encV {x : Va} (h : x.ok) : (intR ⟨encV x, 0⟩).1 = x.k := congrArg Hdr.k (hd_enc h).1
/-- a byte of a row of the call's own is overwritten -/
theorem row_put {W : World} {base L g cap : Nat} {zs : List Int} (h : W.ownsRow base 5 1 (.slice (some ⟨g, 0, none⟩) L cap) L (zs.map (Value.int .u8))) (hL : L = zs.length) {p : Nat} (hp : p < L) (v : Int) :
    base ≤ g ∧ g < W.heap.size ∧ L ≤ cap ∧ (∃ y, W.cell? ⟨g, p, none⟩ = some (.int .u8 y)) ∧ W.frozen? ⟨g, p, none⟩ = false ∧ RdI (W.setCell ⟨g, p, none⟩ (.int .u8 v)) (W.setCell ⟨g, p, none⟩ (.int .u8 v)).heap.size .u8 (some ⟨g, 0, none⟩) (zs.set p v) := by
  subst hL
  have hr := rd_own h
  have hcap := own_cap h
  rcases h.2 with ⟨hv, h0⟩ | ⟨g', cap', cur, hv, hb, hg, hnc, _, hcs, hct⟩
  · cases hv
  · injection hv with h1 h2 h3
    injection h1 with h1
    injection h1 with h1
    subst h1
    refine ⟨hb, (Array.getElem?_eq_some_iff.1 hg).1, hcap, ?_, blk_frozen hg p, rd_put hr hp v⟩
    rcases hr with h | ⟨b, o, e, _, hc⟩
    · rw [h] at hp; simp at hp
    · injection e with e
      injection e with e1 e2
      subst e1 e2
      have := hc p hp
      rw [Nat.zero_add] at this
      exact ⟨_, this⟩
theorem own_addr {W : World} {base n size : Nat} {e : TypeId} {v : Value} {xs : List Value} (h : W.ownsRow base e size v n xs) (hn : 0 < n) : ∃ g cap, v = .slice (some ⟨g, 0, none⟩) n cap := by
  rcases h.2 with ⟨_, h0⟩ | ⟨g, cap, cur, hv, _⟩
  · omega
  · exact ⟨g, cap, hv⟩
theorem lit_one (w : World) (v : Int) : RdI (w.alloc (.cells #[.int .u8 v] 5)) (w.alloc (.cells #[.int .u8 v] 5)).heap.size .u8 (some ⟨w.heap.size, 0, none⟩) [v] := by
  refine .inr ⟨_, _, rfl, by simp, fun j hj => ?_⟩
  obtain rfl : j = 0 := by simpa using hj
  rw [cell_of_row _ _ _ _ _ _ (heap_alloc_new w _)]
  rfl
theorem lit_far {w w' : World} {k : IntKind} {b o : Nat} {zs : List Int} {row : Option Nat} (h : RdI w w.heap.size k (some ⟨b, o, none⟩) zs) (hg : w.grownBy w' row) (hb : b < w.heap.size) (hne : row ≠ some b) : RdI w' w'.heap.size k (some ⟨b, o, none⟩) zs := by
  rcases h with h | ⟨b', o', e, _, hc⟩
  · exact .inl h
  · injection e with e
    injection e with e1 e2
    subst e1 e2
    exact .inr ⟨_, _, rfl, Nat.lt_of_lt_of_le hb hg.size, fun j hj => (World.cell?_of_block (hg.block b hb (fun e => hne (by first | exact e.symm | exact e)))).trans (hc j hj)⟩
theorem own_blk_ge {w : World} {base n size : Nat} {e : TypeId} {v : Value} {xs : List Value} (h : w.ownsRow base e size v n xs) : ∀ j, v.ownBlock = some j → base ≤ j := fun j hj => by
  rcases h.2 with ⟨hv, _⟩ | ⟨g, cap, cur, hv, hbg, hg, hr⟩
  · subst hv; simp [Value.ownBlock] at hj
  · subst hv
    obtain rfl : g = j := by simpa [Value.ownBlock] using hj
    exact hbg
theorem own_ge {w : World} {base n size g c : Nat} {e : TypeId} {xs : List Value} (h : w.ownsRow base e size (.slice (some ⟨g, 0, none⟩) n c) n xs) : base ≤ g := own_blk_ge h g rfl
/-- a row of bytes that Decode may be given -/
def TryOk (w : World) (A : Option Addr) (n c : Nat) (zs : List Int) : Prop := Bytes8 zs ∧ zs.length ≤ 100000 ∧ n = zs.length ∧ zs.length ≤ c ∧ (A = none → c = 0) ∧ RdI w w.heap.size .u8 A zs
theorem tries_at {w : World} {T : Nat} {ty : TypeId} {A0 A1 A2 A3 : Option Addr} {n0 n1 n2 n3 c0 c1 c2 c3 : Nat} {z0 z1 z2 z3 : List Int} (h : w.heap[T]? = some (.cells #[.slice A0 n0 c0, .slice A1 n1 c1, .slice A2 n2 c2, .slice A3 n3 c3] ty (0, 0))) (hl : T < w.heap.size)
    (h0 : TryOk w A0 n0 c0 z0) (h1 : TryOk w A1 n1 c1 z1) (h2 : TryOk w A2 n2 c2 z2) (h3 : TryOk w A3 n3 c3 z3) : ∀ k, k < 4 → ∃ (A : Option Addr) (n c : Nat) (zs : List Int), (Bytes8 zs ∧ zs.length ≤ 100000 ∧ n = zs.length ∧ zs.length ≤ c ∧ (A = none → c = 0)) ∧
      ∀ W, Below w.heap.size w W → W.cell? ⟨T, k, none⟩ = some (.slice A n c) ∧ RdI W W.heap.size .u8 A zs := by
  have hgo : ∀ {k : Nat} {A : Option Addr} {n c : Nat} {zs : List Int}, TryOk w A n c zs → #[Value.slice A0 n0 c0, .slice A1 n1 c1, .slice A2 n2 c2, .slice A3 n3 c3][k]? = some (.slice A n c) → ∃ (A : Option Addr) (n c : Nat) (zs : List Int), (Bytes8 zs ∧ zs.length ≤ 100000 ∧ n = zs.length ∧ zs.length ≤ c ∧ (A = none → c = 0)) ∧
      ∀ W, Below w.heap.size w W → W.cell? ⟨T, k, none⟩ = some (.slice A n c) ∧ RdI W W.heap.size .u8 A zs := by
    rintro k A n c zs ⟨a1, a2, a3, a4, a5, a6⟩ hk
    exact ⟨A, n, c, zs, ⟨a1, a2, a3, a4, a5⟩, fun W hW => ⟨by rw [cell_of_row _ _ _ _ _ _ ((hW.block T hl).trans h)]; exact hk, (a6.below hW).mono hW.size⟩⟩
  intro k hk
  rcases (show k = 0 ∨ k = 1 ∨ k = 2 ∨ k = 3 by omega) with rfl | rfl | rfl | rfl
  · exact hgo h0 rfl
  · exact hgo h1 rfl
  · exact hgo h2 rfl
  · exact hgo h3 rfl
theorem cont6 {G : Prop} {R : Nat → World → Value → Value → Value → Value → Prop} (F : Nat → World → Value → Value → Value → Value → Prop) (hp : (∀ g W a b c d, F g W a b c d → R g W a b c d) → G) (hc : ∀ g W a b c d, F g W a b c d → R g W a b c d) : G := hp hc
end Go.Proofs.Ytngfgohchnkidaa
