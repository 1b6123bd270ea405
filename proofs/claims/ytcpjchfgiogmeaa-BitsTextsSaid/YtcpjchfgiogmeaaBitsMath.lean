/-
  PLAIN MATHEMATICS OF BIT LISTS, the lowest bit first: what the reference of bits computes bit by bit, as numbers. Nothing of the program stands here.
-/
namespace Go.Proofs.Ytcpjchfgiogmeaa

def bitsL : Nat → Nat → List Bool
  | 0, _ => []
  | w + 1, u => (u % 2 == 1) :: bitsL w (u / 2)
def ofL : List Bool → Nat
  | [] => 0
  | b :: l => 2 * ofL l + b.toNat

theorem toNat_le (b : Bool) : b.toNat ≤ 1 := by cases b <;> decide
theorem bitsL_length : ∀ (w u : Nat), (bitsL w u).length = w
  | 0, _ => rfl
  | w + 1, u => by rw [bitsL, List.length_cons, bitsL_length w]
theorem ofL_lt : ∀ l : List Bool, ofL l < 2 ^ l.length
  | [] => by decide
  | b :: l => by
    have h := ofL_lt l
    have hb := toNat_le b
    rw [ofL, List.length_cons, Nat.pow_succ]
    omega
theorem ofL_bitsL : ∀ (w u : Nat), ofL (bitsL w u) = u % 2 ^ w
  | 0, u => by simp [bitsL, ofL, Nat.mod_one]
  | w + 1, u => by
    rw [bitsL, ofL, ofL_bitsL w, Nat.pow_succ, Nat.mul_comm (2 ^ w) 2, Nat.mod_mul]
    have hb : (u % 2 == 1).toNat = u % 2 := by
      have : u % 2 = 0 ∨ u % 2 = 1 := by omega
      rcases this with h | h <;> rw [h] <;> decide
    rw [hb]
    omega
theorem ofL_inj : ∀ {a b : List Bool}, a.length = b.length → ofL a = ofL b → a = b
  | [], [], _, _ => rfl
  | [], _ :: _, h, _ => by simp at h
  | _ :: _, [], h, _ => by simp at h
  | a :: l, b :: m, h, e => by
    simp only [ofL] at e
    have ha := toNat_le a
    have hb := toNat_le b
    have e1 : ofL l = ofL m := by omega
    have e2 : a.toNat = b.toNat := by omega
    have e3 : a = b := by cases a <;> cases b <;> simp_all
    rw [e3, ofL_inj (by simpa using h) e1]
theorem bitsL_ofL (l : List Bool) : bitsL l.length (ofL l) = l :=
  ofL_inj (bitsL_length _ _) (by rw [ofL_bitsL, Nat.mod_eq_of_lt (ofL_lt l)])
theorem ofL_append : ∀ a b : List Bool, ofL (a ++ b) = ofL a + 2 ^ a.length * ofL b
  | [], b => by simp [ofL]
  | x :: a, b => by
    rw [List.cons_append, ofL, ofL, ofL_append a b, List.length_cons, Nat.pow_succ, Nat.mul_add, Nat.mul_comm (2 ^ a.length) 2, Nat.mul_assoc]
    omega
theorem ofL_take (l : List Bool) (k : Nat) : ofL (l.take k) = ofL l % 2 ^ k := by
  by_cases hk : k ≤ l.length
  · have e : l = l.take k ++ l.drop k := (List.take_append_drop k l).symm
    have hl : (l.take k).length = k := by rw [List.length_take]; omega
    have h1 := ofL_append (l.take k) (l.drop k)
    rw [← e, hl] at h1
    have h2 := ofL_lt (l.take k)
    rw [hl] at h2
    rw [h1, Nat.add_mul_mod_self_left, Nat.mod_eq_of_lt h2]
  · rw [List.take_of_length_le (by omega)]
    have h1 := ofL_lt l
    have h2 : 2 ^ l.length ≤ 2 ^ k := Nat.pow_le_pow_right (by decide) (by omega)
    rw [Nat.mod_eq_of_lt (by omega)]
theorem ofL_drop (l : List Bool) (k : Nat) : ofL (l.drop k) = ofL l / 2 ^ k := by
  by_cases hk : k ≤ l.length
  · have e : l = l.take k ++ l.drop k := (List.take_append_drop k l).symm
    have hl : (l.take k).length = k := by rw [List.length_take]; omega
    have h1 := ofL_append (l.take k) (l.drop k)
    rw [← e, hl] at h1
    have h2 := ofL_lt (l.take k)
    rw [hl] at h2
    have hp : 0 < 2 ^ k := Nat.pow_pos (by decide)
    rw [h1, Nat.add_mul_div_left _ _ hp, Nat.div_eq_of_lt h2, Nat.zero_add]
  · rw [List.drop_eq_nil_of_le (by omega)]
    have h1 := ofL_lt l
    have h2 : 2 ^ l.length ≤ 2 ^ k := Nat.pow_le_pow_right (by decide) (by omega)
    rw [Nat.div_eq_of_lt (by omega)]
    rfl
theorem ofL_replicate (b : Bool) : ∀ k : Nat, ofL (List.replicate k b) = b.toNat * (2 ^ k - 1)
  | 0 => by simp [ofL]
  | k + 1 => by
    have hp : 0 < 2 ^ k := Nat.pow_pos (by decide)
    rw [List.replicate_succ, ofL, ofL_replicate b k, Nat.pow_succ]
    cases b
    · simp
    · simp; omega
/-- all bits inverted -/
theorem ofL_flip : ∀ l : List Bool, ofL (l.map (!·)) + ofL l + 1 = 2 ^ l.length
  | [] => by decide
  | b :: l => by
    have h := ofL_flip l
    rw [List.map_cons, ofL, ofL, List.length_cons, Nat.pow_succ]
    cases b <;> simp <;> omega
/-- the sum, with a carry -/
def plusL : List Bool → List Bool → Bool → List Bool
  | a :: l, b :: m, c => ((a != b) != c) :: plusL l m (a && b || (a != b) && c)
  | _, _, _ => []
theorem plusL_length : ∀ (a b : List Bool) (c : Bool), a.length = b.length → (plusL a b c).length = a.length
  | [], [], _, _ => rfl
  | [], _ :: _, _, h => by simp at h
  | _ :: _, [], _, h => by simp at h
  | a :: l, b :: m, c, h => by rw [plusL, List.length_cons, List.length_cons, plusL_length l m _ (by simpa using h)]
theorem ofL_plus : ∀ (a b : List Bool) (c : Bool), a.length = b.length → ofL (plusL a b c) = (ofL a + ofL b + c.toNat) % 2 ^ a.length
  | [], [], c, _ => by simp [plusL, ofL, Nat.mod_one]
  | [], _ :: _, _, h => by simp at h
  | _ :: _, [], _, h => by simp at h
  | a :: l, b :: m, c, h => by
    have ih := ofL_plus l m (a && b || (a != b) && c) (by simpa using h)
    have e1 : (2 * ofL l + a.toNat + (2 * ofL m + b.toNat) + c.toNat) / 2 = ofL l + ofL m + (a && b || (a != b) && c).toNat := by
      cases a <;> cases b <;> cases c <;> simp <;> omega
    have e2 : (2 * ofL l + a.toNat + (2 * ofL m + b.toNat) + c.toNat) % 2 = ((a != b) != c).toNat := by
      cases a <;> cases b <;> cases c <;> simp <;> omega
    rw [plusL, ofL, ih, ofL, ofL, List.length_cons, Nat.pow_succ, Nat.mul_comm (2 ^ l.length) 2, Nat.mod_mul, e1, e2]
    omega
theorem drop_cons {l : List Bool} {i : Nat} (hi : i < l.length) : l.drop i = l[i] :: l.drop (i + 1) := List.drop_eq_getElem_cons hi
theorem ofL_at (l : List Bool) {i : Nat} (hi : i < l.length) : ofL l = ofL (l.take i) + 2 ^ i * ((l[i]).toNat + 2 * ofL (l.drop (i + 1))) := by
  have e : l = l.take i ++ l.drop i := (List.take_append_drop i l).symm
  have hl : (l.take i).length = i := by rw [List.length_take]; omega
  have h1 := ofL_append (l.take i) (l.drop i)
  rw [← e, hl, drop_cons hi, ofL] at h1
  rw [h1]
  congr 2
  omega
/-- the first difference from above decides -/
theorem less_at {a b : List Bool} (h : a.length = b.length) {i : Nat} (hi : i < a.length) (hd : a.drop (i + 1) = b.drop (i + 1)) (hne : a[i] ≠ b[i]'(h ▸ hi)) : (ofL a < ofL b ↔ b[i]'(h ▸ hi) = true) := by
  have ha := ofL_at a hi
  have hb := ofL_at b (h ▸ hi : i < b.length)
  have h1 := ofL_lt (a.take i)
  have h2 := ofL_lt (b.take i)
  have l1 : (a.take i).length = i := by rw [List.length_take]; omega
  have l2 : (b.take i).length = i := by rw [List.length_take]; omega
  rw [l1] at h1
  rw [l2] at h2
  rw [ha, hb, hd, Nat.mul_add, Nat.mul_add]
  generalize 2 ^ i * (2 * ofL (b.drop (i + 1))) = D
  generalize 2 ^ i = P at h1 h2 ⊢
  generalize b[i]'(h ▸ hi) = y at hne ⊢
  generalize a[i] = x at hne ⊢
  cases x <;> cases y <;> simp at hne ⊢ <;> omega
theorem take_bit (l : List Bool) {i : Nat} (hi : i < l.length) : ofL (l.take (i + 1)) = ofL (l.take i) + 2 ^ i * (l[i]).toNat := by
  have hl : (l.take i).length = i := by rw [List.length_take]; omega
  rw [List.take_succ_eq_append_getElem hi, ofL_append, hl]
  simp [ofL]
theorem drop_bit (l : List Bool) {i : Nat} (hi : i < l.length) : ofL (l.drop i) = 2 * ofL (l.drop (i + 1)) + (l[i]).toNat := by
  rw [drop_cons hi, ofL]
/-- moved by a number of places, up or down -/
def movedL (a : List Bool) (by_ : Int) (x : Bool) : List Bool := (List.range a.length).map fun (i : Nat) => if 0 ≤ (i : Int) - by_ ∧ (i : Int) - by_ < a.length then a[((i : Int) - by_).toNat]?.getD x else x
theorem movedL_length (a : List Bool) (k : Int) (x : Bool) : (movedL a k x).length = a.length := by simp [movedL]
theorem movedL_up (a : List Bool) (k : Nat) (x : Bool) : movedL a k x = (List.replicate k x ++ a).take a.length := by
  apply List.ext_getElem
  · rw [movedL_length, List.length_take, List.length_append, List.length_replicate]; omega
  · intro i h1 h2
    rw [movedL_length] at h1
    simp only [movedL, List.getElem_map, List.getElem_range, List.getElem_take]
    by_cases hk : i < k
    · rw [List.getElem_append_left (by simpa using hk), List.getElem_replicate, if_neg (by omega)]
    · rw [List.getElem_append_right (by simpa using hk), if_pos (by omega)]
      have e : ((i : Int) - (k : Int)).toNat = i - k := by omega
      rw [e, List.getElem?_eq_getElem (by omega)]
      simp
theorem movedL_down (a : List Bool) (k : Nat) (x : Bool) (hk : k ≤ a.length) : movedL a (-(k : Int)) x = a.drop k ++ List.replicate k x := by
  apply List.ext_getElem
  · rw [movedL_length, List.length_append, List.length_drop, List.length_replicate]; omega
  · intro i h1 h2
    rw [movedL_length] at h1
    simp only [movedL, List.getElem_map, List.getElem_range]
    by_cases hi : i + k < a.length
    · rw [List.getElem_append_left (by rw [List.length_drop]; omega), List.getElem_drop, if_pos (by omega)]
      have e : ((i : Int) - -(k : Int)).toNat = k + i := by omega
      rw [e, List.getElem?_eq_getElem (by omega)]
      rfl
    · rw [List.getElem_append_right (by rw [List.length_drop]; omega), List.getElem_replicate, if_neg (by omega)]
theorem ofL_up (a : List Bool) (k : Nat) : ofL (movedL a k false) = (ofL a * 2 ^ k) % 2 ^ a.length := by
  rw [movedL_up, ofL_take, ofL_append, ofL_replicate, List.length_replicate, Nat.mul_comm (ofL a)]
  simp
theorem ofL_up1 (a : List Bool) (x : Bool) : ofL (movedL a (1 : Nat) x) = (2 * ofL a + x.toNat) % 2 ^ a.length := by
  rw [movedL_up, ofL_take]
  congr 1
theorem ofL_down (a : List Bool) (k : Nat) (x : Bool) (hk : k ≤ a.length) : ofL (movedL a (-(k : Int)) x) = ofL a / 2 ^ k + 2 ^ (a.length - k) * (x.toNat * (2 ^ k - 1)) := by
  rw [movedL_down a k x hk, ofL_append, ofL_drop, ofL_replicate, List.length_drop]
/-- one step of the product -/
theorem times_step {A P m o : Nat} {i : Nat} {x : Bool} (ho : o = (A * m) % P) : (o + (A * 2 ^ i) % P * x.toNat) % P = (A * (m + 2 ^ i * x.toNat)) % P := by
  subst ho
  cases x
  · simp
  · simp [Nat.mul_add]
/-- one step of the division -/
theorem div_step {V b x : Nat} (hb : 0 < b) (hx : x ≤ 1) :
    (2 * (V % b) + x < b → (2 * V + x) % b = 2 * (V % b) + x ∧ (2 * V + x) / b = 2 * (V / b)) ∧ (b ≤ 2 * (V % b) + x → (2 * V + x) % b = 2 * (V % b) + x - b ∧ (2 * V + x) / b = 2 * (V / b) + 1) := by
  have hr := Nat.mod_lt V hb
  have hd := Nat.div_add_mod V b
  generalize V / b = q at hd ⊢
  generalize V % b = r at hr hd ⊢
  subst hd
  constructor
  · intro h
    have e : 2 * (b * q + r) + x = (2 * r + x) + b * (2 * q) := by rw [Nat.mul_add, ← Nat.mul_assoc 2, Nat.mul_comm 2 b, Nat.mul_assoc]; omega
    rw [e, Nat.add_mul_mod_self_left, Nat.add_mul_div_left _ _ hb, Nat.mod_eq_of_lt h, Nat.div_eq_of_lt h]
    exact ⟨rfl, Nat.zero_add _⟩
  · intro h
    have e : 2 * (b * q + r) + x = (2 * r + x - b) + b * (2 * q + 1) := by
      rw [Nat.mul_add, Nat.mul_add b, Nat.mul_one, ← Nat.mul_assoc 2, Nat.mul_comm 2 b, Nat.mul_assoc]; omega
    have hlt : 2 * r + x - b < b := by omega
    rw [e, Nat.add_mul_mod_self_left, Nat.add_mul_div_left _ _ hb, Nat.mod_eq_of_lt hlt, Nat.div_eq_of_lt hlt]
    exact ⟨rfl, Nat.zero_add _⟩
/-- subtracting by adding the inverted bits and 1 -/
theorem minus_bits {P r b f : Nat} (hf : f + b + 1 = P) (h : b ≤ r) (hr : r < P) : (r + f + 1) % P = r - b := by
  have e : r + f + 1 = (r - b) + P := by omega
  rw [e, Nat.add_mod_right, Nat.mod_eq_of_lt (by omega)]
/-- by how many places, never more than 65 -/
theorem places_step {V n x : Nat} (hx : x ≤ 1) (h1 : V < 64 → n = V) (h2 : 64 ≤ V → 64 ≤ n ∧ n ≤ 65) :
    (2 * V + x < 64 → min (2 * n) 64 + x = 2 * V + x) ∧ (64 ≤ 2 * V + x → 64 ≤ min (2 * n) 64 + x ∧ min (2 * n) 64 + x ≤ 65) := by
  by_cases hV : V < 64
  · have := h1 hV
    subst this
    omega
  · have := h2 (by omega)
    omega
theorem places_end {V n w : Nat} (hw : w ≤ 64) (h1 : V < 64 → n = V) (h2 : 64 ≤ V → 64 ≤ n ∧ n ≤ 65) : min n w = min V w := by
  by_cases hV : V < 64
  · rw [h1 hV]
  · have := h2 (by omega)
    omega
/-- bit i of a number made of bits -/
theorem testBit_ofL : ∀ (l : List Bool) (i : Nat), (ofL l).testBit i = l[i]?.getD false
  | [], i => by simp [ofL]
  | b :: l, 0 => by
    rw [ofL, Nat.testBit_zero]
    cases b <;> simp <;> omega
  | b :: l, i + 1 => by
    rw [ofL, Nat.testBit_succ, List.getElem?_cons_succ, ← testBit_ofL l i]
    congr 1
    have := toNat_le b
    omega
theorem zip_get {f : Bool → Bool → Bool} {a b : List Bool} (h : a.length = b.length) (h0 : f false false = false) (i : Nat) : (List.zipWith f a b)[i]?.getD false = f (a[i]?.getD false) (b[i]?.getD false) := by
  by_cases hi : i < a.length
  · rw [List.getElem?_eq_getElem (by rw [List.length_zipWith]; omega), List.getElem?_eq_getElem hi, List.getElem?_eq_getElem (by omega)]
    simp
  · rw [List.getElem?_eq_none (by rw [List.length_zipWith]; omega), List.getElem?_eq_none (by omega), List.getElem?_eq_none (by omega)]
    simp [h0]
theorem ofL_and {a b : List Bool} (h : a.length = b.length) : ofL (List.zipWith (· && ·) a b) = ofL a &&& ofL b :=
  Nat.eq_of_testBit_eq fun i => by rw [testBit_ofL, Nat.testBit_and, testBit_ofL, testBit_ofL, zip_get h rfl]
theorem ofL_or {a b : List Bool} (h : a.length = b.length) : ofL (List.zipWith (· || ·) a b) = ofL a ||| ofL b :=
  Nat.eq_of_testBit_eq fun i => by rw [testBit_ofL, Nat.testBit_or, testBit_ofL, testBit_ofL, zip_get h rfl]
theorem ofL_xor {a b : List Bool} (h : a.length = b.length) : ofL (List.zipWith (· != ·) a b) = ofL a ^^^ ofL b :=
  Nat.eq_of_testBit_eq fun i => by rw [testBit_ofL, Nat.testBit_xor, testBit_ofL, testBit_ofL, zip_get h rfl]
/-- the highest bit -/
theorem high_bit {l : List Bool} {w : Nat} (hw : l.length = w + 1) : (l[w]'(by omega) = true ↔ 2 ^ w ≤ ofL l) := by
  have h := ofL_at l (i := w) (by omega)
  have hd : l.drop (w + 1) = [] := List.drop_eq_nil_of_le (by omega)
  have h1 := ofL_lt (l.take w)
  have l1 : (l.take w).length = w := by rw [List.length_take]; omega
  rw [l1] at h1
  rw [hd] at h
  have e : ofL [] = 0 := rfl
  rw [e] at h
  generalize l[w]'(by omega) = x at h ⊢
  rw [h]
  cases x <;> simp <;> omega
end Go.Proofs.Ytcpjchfgiogmeaa
