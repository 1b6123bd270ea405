/-
  PLAIN MATHEMATICS OF READING, second part: what a read leaves, whole values, one read more.
-/
import Derived.Test.YtebfgdonikedaaaLivesW
namespace Go.Proofs.Ytebfgdonikedaaa
open Go.RowKit

theorem lenR_len2 {s : Rst} (h8 : Bytes8 s.l) : (lenR s).2.l.length ≤ s.l.length ∧ Bytes8 (lenR s).2.l := by
  obtain ⟨h1, h2⟩ := uintR_len h8
  unfold lenR
  split
  · split
    · exact ⟨h1, h2⟩
    · exact ⟨h1, h2⟩
  · exact ⟨h1, h2⟩
theorem bytes8_drop {l : List Int} (h : Bytes8 l) (n : Nat) : Bytes8 (l.drop n) := fun z hz => h z (List.mem_of_mem_drop hz)
theorem intsGo_len : ∀ (n : Nat) (acc : List Int) (s : Rst), Bytes8 s.l → (intsGo n acc s).2.l.length ≤ s.l.length ∧ Bytes8 (intsGo n acc s).2.l
  | 0, acc, s, h8 => ⟨Nat.le_refl _, h8⟩
  | n + 1, acc, s, h8 => by
    obtain ⟨h1, h2⟩ := intR_len h8
    rw [intsGo]
    split
    · obtain ⟨h3, h4⟩ := intsGo_len n (acc ++ [(intR s).1]) (intR s).2 h2
      exact ⟨Nat.le_trans h3 h1, h4⟩
    · exact ⟨h1, h2⟩
theorem intR_i64 {s : Rst} (h8 : Bytes8 s.l) : I64 (intR s).1 := by
  have h := uintR_lt s h8
  show I64 (unzz (uintR s).1)
  unfold unzz I64
  split <;> omega
theorem intsGo_vals : ∀ (n : Nat) (acc : List Int) (s : Rst), Bytes8 s.l → (∀ z ∈ acc, I64 z) → (∀ z ∈ (intsGo n acc s).1, I64 z) ∧ (intsGo n acc s).1.length ≤ acc.length + n
  | 0, acc, s, _, ha => ⟨ha, Nat.le_refl _⟩
  | n + 1, acc, s, h8, ha => by
    obtain ⟨h1, h2⟩ := intR_len h8
    rw [intsGo]
    split
    · obtain ⟨h3, h4⟩ := intsGo_vals n (acc ++ [(intR s).1]) (intR s).2 h2 (i64_snoc ha (intR_i64 h8))
      exact ⟨h3, by rw [List.length_append] at h4; simp at h4; omega⟩
    · exact ⟨fun z hz => by simp at hz, Nat.zero_le _⟩
theorem boolR_len {s : Rst} (h8 : Bytes8 s.l) : (boolR s).2.l.length ≤ s.l.length ∧ Bytes8 (boolR s).2.l := by
  obtain ⟨l, e⟩ := s
  unfold boolR
  split
  · cases l with
    | nil => exact ⟨Nat.le_refl _, h8⟩
    | cons c r =>
      simp only
      split
      · exact ⟨Nat.le_refl _, h8⟩
      · exact ⟨by simp, fun z hz => h8 z (by simp [hz])⟩
  · exact ⟨Nat.le_refl _, h8⟩
theorem rawR_len {s : Rst} (h8 : Bytes8 s.l) : (rawR s).2.l.length ≤ s.l.length ∧ Bytes8 (rawR s).2.l ∧ (rawR s).1.length ≤ s.l.length := by
  obtain ⟨h1, h2⟩ := lenR_len2 h8
  unfold rawR
  split
  · refine ⟨?_, bytes8_drop h2 _, ?_⟩
    · show ((lenR s).2.l.drop (lenR s).1).length ≤ _
      rw [List.length_drop]; omega
    · show ((lenR s).2.l.take (lenR s).1).length ≤ _
      rw [List.length_take]; omega
  · exact ⟨h1, h2, Nat.zero_le _⟩
theorem readR_bd {k : Int} {s : Rst} (h8 : Bytes8 s.l) : (readR k s).2.l.length ≤ s.l.length ∧ Bytes8 (readR k s).2.l := by
  unfold readR
  split
  · exact uintR_len h8
  · split
    · exact intR_len h8
    · split
      · exact boolR_len h8
      · split
        · exact ⟨(rawR_len h8).1, (rawR_len h8).2.1⟩
        · show (intsR s).2.l.length ≤ _ ∧ _
          rw [intsR_go]
          obtain ⟨h1, h2⟩ := lenR_len2 h8
          obtain ⟨h3, h4⟩ := intsGo_len (lenR s).1 [] (lenR s).2 h2
          exact ⟨Nat.le_trans h3 h1, h4⟩
/-- a value that was read is whole -/
theorem readR_whole {k : Int} {s : Rst} (hk : 0 ≤ k ∧ k ≤ 5) (h8 : Bytes8 s.l) (hl : s.l.length ≤ 1000) : (readR k s).1.ok ∧ (readR k s).1.k = k := by
  have z64 : I64 0 := ⟨by decide, by decide⟩
  have hkk : k = 0 ∨ k = 1 ∨ k = 2 ∨ k = 3 ∨ k = 4 ∨ k = 5 := by omega
  have hraw : Bytes8 (rawR s).1 := by
    unfold rawR
    split
    · rename_i h
      exact fun z hz => (lenR_len s h8 h).2.2 z (List.mem_of_mem_take hz)
    · exact fun z hz => by simp at hz
  have hrl := (rawR_len h8).2.2
  rcases hkk with rfl | rfl | rfl | rfl | rfl | rfl
  · have := uintR_lt s h8
    refine ⟨⟨hk, ?_, z64, fun z hz => by simp [readR] at hz, fun z hz => by simp [readR] at hz, Nat.zero_le _, Nat.zero_le _⟩, rfl⟩
    show U64 ((uintR s).1 : Int)
    unfold U64
    omega
  · exact ⟨⟨hk, zero_u64, intR_i64 h8, fun z hz => by simp [readR] at hz, fun z hz => by simp [readR] at hz, Nat.zero_le _, Nat.zero_le _⟩, rfl⟩
  · have hb : I64 (boolR s).1 := by
      unfold boolR
      split
      · split
        · exact z64
        · split
          · exact z64
          · simp only
            split
            · exact ⟨by decide, by decide⟩
            · exact z64
      · exact z64
    exact ⟨⟨hk, zero_u64, hb, fun z hz => by simp [readR] at hz, fun z hz => by simp [readR] at hz, Nat.zero_le _, Nat.zero_le _⟩, rfl⟩
  · exact ⟨⟨hk, zero_u64, z64, hraw, fun z hz => by simp [readR] at hz, Nat.le_trans hrl hl, Nat.zero_le _⟩, rfl⟩
  · exact ⟨⟨hk, zero_u64, z64, hraw, fun z hz => by simp [readR] at hz, Nat.le_trans hrl hl, Nat.zero_le _⟩, rfl⟩
  · obtain ⟨h1, h2⟩ := lenR_len2 h8
    have hn := lenR_nrm s h8
    have hn2 := lenR_short s h8
    obtain ⟨h3, h4⟩ := intsGo_vals (lenR s).1 [] (lenR s).2 h2 (fun z hz => by simp at hz)
    rw [← intsR_go] at h3 h4
    exact ⟨⟨hk, zero_u64, z64, fun z hz => by simp [readR] at hz, h3, Nat.zero_le _, by show (intsR s).1.length ≤ 1000; simp at h4; omega⟩, rfl⟩
theorem readR_zero {k : Int} {s : Rst} (hk : 0 ≤ k ∧ k ≤ 5) (h : s.e ≠ 0) : (readR k s).1 = ⟨k, 0, 0, [], []⟩ := by
  have hu := uintR_err h
  have hl : lenR s = (0, s) := by
    unfold lenR
    rw [hu, if_neg h]
  have hkk : k = 0 ∨ k = 1 ∨ k = 2 ∨ k = 3 ∨ k = 4 ∨ k = 5 := by omega
  rcases hkk with rfl | rfl | rfl | rfl | rfl | rfl <;> simp [readR, hu, intR, boolR, h, rawR, intsR, hl, unzz]
/-- one read more -/
theorem readsR_snoc : ∀ (ks : List Int) (k : Int) (s : Rst), readsR (ks ++ [k]) s = ((readsR ks s).1 ++ [(readR k (readsR ks s).2).1], (readR k (readsR ks s).2).2)
  | [], k, s => by simp [readsR]
  | j :: ks, k, s => by
    rw [List.cons_append]
    simp only [readsR]
    rw [readsR_snoc ks k (readR j s).2]
    simp
theorem readsR_bd : ∀ (ks : List Int) (s : Rst), Bytes8 s.l → (readsR ks s).2.l.length ≤ s.l.length ∧ Bytes8 (readsR ks s).2.l
  | [], s, h8 => ⟨Nat.le_refl _, h8⟩
  | k :: ks, s, h8 => by
    simp only [readsR]
    obtain ⟨h1, h2⟩ := readR_bd (k := k) h8
    obtain ⟨h3, h4⟩ := readsR_bd ks (readR k s).2 h2
    exact ⟨Nat.le_trans h3 h1, h4⟩
theorem endR_err {s : Rst} (h : s.e ≠ 0) : endR s = s.e := by simp [endR, h]
end Go.Proofs.Ytebfgdonikedaaa
