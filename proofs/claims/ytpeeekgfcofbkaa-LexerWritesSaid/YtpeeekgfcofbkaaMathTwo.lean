/-
  PLAIN MATHEMATICS OF THE HASH, continued: hashes of arguments that differ in one word, in one group, in one byte of the label.
-/
import Derived.Test.YtpeeekgfcofbkaaMath
namespace Go.Proofs.Ytpeeekgfcofbkaa
open Go.RowKit

theorem words_length (l : List Int) : (words l).length = (l.length + 7) / 8 := by rw [words, upto_length]
theorem words_u64 {l : List Int} (h : Bytes8 l) : ∀ x ∈ words l, U64 x := fun x hx => by
  simp only [words, upto, List.mem_map, List.mem_range] at hx
  obtain ⟨j, _, rfl⟩ := hx
  exact leI_u64 ((h.drop _).take _) (by rw [List.length_take]; omega)
theorem len_u64 {n : Nat} (h : n ≤ 140737488351232) : U64 (n : Int) := ⟨by omega, by omega⟩
theorem zero_u64 : U64 0 := ⟨by omega, by omega⟩
theorem w64_u64 (ws : List Int) : ∀ x ∈ ws.map w64, U64 x := fun x hx => by
  obtain ⟨y, _, rfl⟩ := List.mem_map.1 hx
  exact u64_wrap y

/-- ONE WORD -/
theorem sumI_one {lab l r : List Int} {x y : Int} (hlab : Bytes8 lab) (hl : lab.length ≤ 140737488351232) (hw : (l ++ x :: r).length ≤ 140737488351232) :
    sumI lab (l ++ x :: r) = sumI lab (l ++ y :: r) ↔ w64 x = w64 y := by
  have hlen : (l ++ y :: r).length = (l ++ x :: r).length := by simp
  have hb : U64 (mixI (mixI (foldI 0 (words lab)) lab.length) (l ++ x :: r).length) := mixI_u64 (mixI_u64 (foldI_u64 zero_u64 (words_u64 hlab)) (len_u64 hl)) (len_u64 hw)
  unfold sumI
  rw [hlen]
  refine (mixI_state (foldI_u64 hb (w64_u64 _)) (foldI_u64 hb (w64_u64 _)) zero_u64).trans ?_
  rw [List.map_append, List.map_append, List.map_cons, List.map_cons]
  exact foldI_one hb (w64_u64 l) (w64_u64 r) (u64_wrap x) (u64_wrap y)

theorem upto_split (f : Nat → Int) {n g : Nat} (h : g < n) : upto f n = upto f g ++ f g :: (List.range (n - g - 1)).map (fun i => f (g + 1 + i)) := by
  obtain ⟨m, rfl⟩ : ∃ m, n = g + 1 + m := ⟨n - g - 1, by omega⟩
  rw [show g + 1 + m - g - 1 = m by omega]
  induction m with
  | zero => rw [Nat.add_zero, upto_succ]; rfl
  | succ m ih =>
    rw [← Nat.add_assoc, upto_succ, ih (by omega), List.range_succ, List.map_append, List.append_assoc]
    rfl

theorem grp_off {l l' : List Int} {g : Nat} (h : ∀ i, i / 8 ≠ g → l[i]? = l'[i]?) {j : Nat} (hj : j ≠ g) : grp l j = grp l' j := by
  have e : (l.drop (8 * j)).take 8 = (l'.drop (8 * j)).take 8 := by
    apply List.ext_getElem?
    intro i
    by_cases hi : i < 8
    · rw [List.getElem?_take_of_lt hi, List.getElem?_take_of_lt hi, List.getElem?_drop, List.getElem?_drop]
      exact h _ (by omega)
    · rw [List.getElem?_eq_none (by rw [List.length_take]; omega), List.getElem?_eq_none (by rw [List.length_take]; omega)]
  unfold grp
  rw [e]

theorem leI_inj : ∀ {a b : List Int}, Bytes8 a → Bytes8 b → a.length = b.length → leI a = leI b → a = b
  | [], [], _, _, _, _ => rfl
  | [], _ :: _, _, _, h, _ => by simp at h
  | _ :: _, [], _, _, h, _ => by simp at h
  | x :: a, y :: b, ha, hb, hl, h => by
    have hx := ha x (by simp)
    have hy := hb y (by simp)
    simp only [leI] at h
    have e : x = y := by omega
    have e2 : leI a = leI b := by omega
    rw [e, leI_inj (fun z hz => ha z (by simp [hz])) (fun z hz => hb z (by simp [hz])) (by simpa using hl) e2]

theorem grp_inj {l l' : List Int} {g : Nat} (hb : Bytes8 l) (hb' : Bytes8 l') (hlen : l.length = l'.length) (h : ∀ i, i / 8 ≠ g → l[i]? = l'[i]?) (e : grp l g = grp l' g) : l = l' := by
  have e2 := leI_inj ((hb.drop (8 * g)).take 8) ((hb'.drop (8 * g)).take 8) (by rw [List.length_take, List.length_take, List.length_drop, List.length_drop, hlen]) e
  apply List.ext_getElem?
  intro i
  by_cases hi : i / 8 = g
  · have h3 := congrArg (fun t : List Int => t[i - 8 * g]?) e2
    rw [List.getElem?_take_of_lt (by omega), List.getElem?_take_of_lt (by omega), List.getElem?_drop, List.getElem?_drop] at h3
    rwa [show 8 * g + (i - 8 * g) = i by omega] at h3
  · exact h i hi

theorem words_differ {l l' : List Int} {g : Nat} (hlen : l.length = l'.length) (h : ∀ i, i / 8 ≠ g → l[i]? = l'[i]?) (hg : g < (l.length + 7) / 8) :
    ∃ a r, words l = a ++ grp l g :: r ∧ words l' = a ++ grp l' g :: r := by
  refine ⟨upto (grp l) g, (List.range ((l.length + 7) / 8 - g - 1)).map (fun i => grp l (g + 1 + i)), upto_split _ hg, ?_⟩
  have e : words l' = _ := upto_split (grp l') (n := (l'.length + 7) / 8) (g := g) (by omega)
  rw [e, ← hlen]
  have h1 : upto (grp l') g = upto (grp l) g := List.map_congr_left fun j hj => (grp_off h (by have := List.mem_range.1 hj; omega)).symm
  have h2 : (List.range ((l.length + 7) / 8 - g - 1)).map (fun i => grp l' (g + 1 + i)) = (List.range ((l.length + 7) / 8 - g - 1)).map (fun i => grp l (g + 1 + i)) := List.map_congr_left fun j _ => (grp_off h (by omega)).symm
  rw [h1, h2]

theorem w64_wrap64 {x : Int} (h : U64 x) : w64 (wrap64 x) = x := by
  unfold U64 at h
  unfold w64 wrap64
  rw [IntKind.wrap_u64]
  omega
/-- int64 -/
def I64 (x : Int) : Prop := -9223372036854775808 ≤ x ∧ x ≤ 9223372036854775807
theorem w64_inj {x y : Int} (hx : I64 x) (hy : I64 y) : w64 x = w64 y ↔ x = y := by
  refine ⟨fun h => ?_, fun h => by rw [h]⟩
  unfold I64 at hx hy
  unfold w64 at h
  rw [IntKind.wrap_u64, IntKind.wrap_u64] at h
  omega

/-- ONE GROUP of the bytes -/
theorem bytesI_group {lab l l' : List Int} {g : Nat} (hlab : Bytes8 lab) (hl : lab.length ≤ 140737488351232) (hb : Bytes8 l) (hb' : Bytes8 l') (hlen : l.length = l'.length) (h63 : l.length ≤ 140737488351232)
    (h : ∀ i, i / 8 ≠ g → l[i]? = l'[i]?) (hg : g < (l.length + 7) / 8) : bytesI lab l = bytesI lab l' ↔ l = l' := by
  refine ⟨fun e => ?_, fun e => by rw [e]⟩
  obtain ⟨a, r, h1, h2⟩ := words_differ hlen h hg
  have hu : ∀ {l : List Int}, Bytes8 l → U64 (grp l g) := fun hb => leI_u64 ((hb.drop _).take _) (by rw [List.length_take]; omega)
  unfold bytesI at e
  have hwl := words_length l
  rw [h1] at hwl
  rw [h1, h2, ← hlen, List.map_append, List.map_append, List.map_cons, List.map_cons, List.append_assoc, List.append_assoc, List.cons_append, List.cons_append] at e
  have e2 := (sumI_one hlab hl (by simp at hwl ⊢; omega)).1 e
  rw [w64_wrap64 (hu hb), w64_wrap64 (hu hb')] at e2
  exact grp_inj hb hb' hlen h e2

/-- ONE GROUP of the label -/
theorem sumI_label {l l' ws : List Int} {g : Nat} (hb : Bytes8 l) (hb' : Bytes8 l') (hlen : l.length = l'.length) (h63 : l.length ≤ 140737488351232) (hw : ws.length ≤ 140737488351232)
    (h : ∀ i, i / 8 ≠ g → l[i]? = l'[i]?) (hg : g < (l.length + 7) / 8) : sumI l ws = sumI l' ws ↔ l = l' := by
  refine ⟨fun e => ?_, fun e => by rw [e]⟩
  obtain ⟨a, r, h1, h2⟩ := words_differ hlen h hg
  have hu1 := words_u64 hb
  have hu2 := words_u64 hb'
  unfold sumI at e
  rw [← hlen] at e
  have f1 : U64 (foldI 0 (words l)) := foldI_u64 zero_u64 hu1
  have f2 : U64 (foldI 0 (words l')) := foldI_u64 zero_u64 hu2
  have m1 := mixI_u64 f1 (len_u64 h63)
  have m2 := mixI_u64 f2 (len_u64 h63)
  have n1 := mixI_u64 m1 (len_u64 hw)
  have n2 := mixI_u64 m2 (len_u64 hw)
  have e1 := (mixI_state (foldI_u64 n1 (w64_u64 _)) (foldI_u64 n2 (w64_u64 _)) zero_u64).1 e
  have e2 := (foldI_state n1 n2 (w64_u64 _)).1 e1
  have e3 := (mixI_state m1 m2 (len_u64 hw)).1 e2
  have e4 := (mixI_state f1 f2 (len_u64 h63)).1 e3
  rw [h1] at hu1
  rw [h2] at hu2
  rw [h1, h2] at e4
  have e5 := (foldI_one zero_u64 (fun z hz => hu1 z (by simp [hz])) (fun z hz => hu1 z (by simp [hz])) (hu1 _ (by simp)) (hu2 _ (by simp))).1 e4
  exact grp_inj hb hb' hlen h e5

/-- A ZERO MORE at the end of a group that is not full: the words stay; the length does not -/
theorem words_zero {l : List Int} (h : l.length % 8 ≠ 0) : words (l ++ [0]) = words l := by
  unfold words
  rw [List.length_append, List.length_singleton, show (l.length + 1 + 7) / 8 = (l.length + 7) / 8 by omega]
  refine List.map_congr_left fun j hj => ?_
  have hj' := List.mem_range.1 hj
  unfold grp
  rw [List.drop_append_of_le_length (by omega)]
  by_cases h8 : 8 ≤ l.length - 8 * j
  · rw [List.take_append_of_le_length (by rw [List.length_drop]; omega)]
  · rw [List.take_of_length_le (by simp; omega), List.take_of_length_le (by simp; omega), leI_snoc]
    simp
theorem bytesI_zero {lab l : List Int} (hlab : Bytes8 lab) (hl : lab.length ≤ 140737488351232) (h63 : l.length < 1000000) (h : l.length % 8 ≠ 0) : bytesI lab (l ++ [0]) ≠ bytesI lab l := by
  unfold bytesI
  rw [words_zero h]
  intro e
  have hwl := words_length l
  have e2 := (sumI_one (r := []) hlab hl (by simp; omega)).1 e
  rw [w64_inj (by unfold I64; simp; omega) (by unfold I64; omega)] at e2
  simp at e2
  omega

end Go.Proofs.Ytpeeekgfcofbkaa
