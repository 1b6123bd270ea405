/-
  THE WALKS of roomAfter, tooLarge, every, wellFormed, Valid.
-/
import Derived.Test.YtnjkihbmhacgoaaGreatDoorRxOwn
import Derived.LoopN
namespace Go.Proofs.YtnjkihbmhacgoaaGreatDoor
open Go.RowKit

/-- what is left of the room for nodes -/
def rr (n room : Nat) : Int := if n ≤ room then (room : Int) - n else -1
theorem nodesL_take {s : List Rx} {j : Nat} (hj : j < s.length) : nodesL (s.take (j + 1)) = nodesL (s.take j) + nodes s[j] := by
  induction s generalizing j with
  | nil => simp at hj
  | cons x s ih =>
    cases j with
    | zero => simp [nodesL]
    | succ j => simp only [List.take_succ_cons, nodesL, List.getElem_cons_succ, ih (show j < s.length by simpa using hj)]; omega
theorem nodesL_le {s : List Rx} (j : Nat) : nodesL (s.take j) ≤ nodesL s := by
  induction s generalizing j with
  | nil => simp
  | cons x s ih =>
    cases j with
    | zero => simp [nodesL]
    | succ j => simp only [List.take_succ_cons, nodesL]; have := ih j; omega
theorem rr_step {a b room : Nat} {r : Nat} (h : rr a room = r) : rr b r = rr (a + b) room := by
  unfold rr at *
  split at h <;> split <;> split <;> omega
theorem rr_neg {a b room : Nat} (h : rr a room < 0) (hb : a ≤ b) : rr b room = rr a room := by
  unfold rr at *
  split at h
  · omega
  · rw [if_neg (by omega), if_neg (by assumption)]
theorem rr_ge (a room : Nat) : -1 ≤ rr a room ∧ rr a room ≤ room := by unfold rr; split <;> omega

set_option maxHeartbeats 1000000 in
set_option maxRecDepth 100000 in
theorem room_upto (m : Nat) : ∀ (x : Rx) (v : Value) (room : Nat) (w : World), nodes x ≤ m → room ≤ 1000 → RtV w (Lo w.heap.size) x v → Calls Tryz.prog 47 #[v, .int .i64 room] w fun e w' => e = .returned (.int .i64 (rr (nodes x) room)) ∧ Below w.heap.size w w' := by
  induction m with
  | zero => intro x v room w h0; cases x; simp [nodes] at h0
  | succ m ih =>
    intro x v room w hm hr hv
    obtain ⟨k, l, h, s⟩ := x
    obtain ⟨⟨hk, hl, hh, hsl⟩, A, c, rfl, hc, hA, hs⟩ := hv.parts
    simp only [Rx.kind, Rx.lo, Rx.hi, Rx.kids] at hk hl hh hsl hc hs ⊢
    have hm' : nodesL s ≤ m := by simp only [nodes] at hm; omega
    have hnd : nodes (.node k l h s) = 1 + nodesL s := by simp only [nodes]; omega
    rw [hnd]
    unfold rxv
    have h1 : rr (1 + nodesL (s.take 0)) room = (room : Int) - 1 := by simp [nodesL]; unfold rr; split <;> omega
    go_enter Tryz.func47, Tryz.ntmps47
    go_wp2_with fail
    go_loopw [1, 12] (fun ρ i wr => ∃ j : Nat, j ≤ s.length ∧ i = .int .i64 j ∧ ρ = .int .i64 (rr (1 + nodesL (s.take j)) room) ∧ Below w.heap.size w wr) (fun _ i _ => s.length - (intOf i).toNat)
    case atStart => exact ⟨0, Nat.zero_le _, rfl, by rw [h1], (Below.refl _ w).alloc (Nat.le_refl _) _⟩
    case round =>
      obtain ⟨j, hj, rfl, rfl, hW⟩ := hrel
      have hge := rr_ge (1 + nodesL (s.take j)) room
      by_cases hlt : j < s.length
      · obtain ⟨b1, o1, A1, c1, rfl, hb1, q1, hx1⟩ := hs.get hlt
        obtain ⟨e0, e1, e2, e3⟩ := q1.to (hW.block b1 hb1)
        have hst := nodesL_take hlt
        by_cases hneg : rr (1 + nodesL (s.take j)) room < 0
        · have hfin := rr_neg hneg (show 1 + nodesL (s.take j) ≤ 1 + nodesL s by have := nodesL_le (s := s) j; omega)
          generalize rr (1 + nodesL (s.take j)) room = ρ at hneg hfin hge
          clear hx1 hs q1 ih
          go_wp2_with fail
          go_ret
          exact ⟨by rw [hfin]; rfl, hW.alloc hW.size _⟩
        · obtain ⟨r, hrn⟩ : ∃ r : Nat, rr (1 + nodesL (s.take j)) room = r := ⟨(rr (1 + nodesL (s.take j)) room).toNat, by omega⟩
          have hnext : rr (nodes s[j]) r = rr (1 + nodesL (s.take (j + 1))) room := by rw [rr_step hrn, hst]; congr 1; omega
          have hC : ∀ W, Below w.heap.size wr W → Calls Tryz.prog 47 #[rxv s[j].kind s[j].lo s[j].hi A1 s[j].kids.length c1, .int .i64 r] W fun e w' => e = .returned (.int .i64 (rr (nodes s[j]) r)) ∧ Below W.heap.size W w' := fun W hWW =>
            ih _ _ r W (Nat.le_trans (nodes_get hlt) hm') (by omega) (((hx1.below hW).below hWW).mono (Nat.le_trans hW.size hWW.size))
          rw [hnext] at hC
          rw [hrn]
          clear hx1 hs q1 ih hst hnext
          obtain ⟨ρ', hρ⟩ : ∃ ρ', rr (1 + nodesL (s.take (j + 1))) room = ρ' := ⟨_, rfl⟩
          rw [hρ] at hC
          have HX := Lib.hid hρ
          clear hρ
          generalize s[j] = x at e0 e1 e2 e3 hC
          obtain ⟨xk, xl, xh, xs⟩ := x
          simp only [Rx.kind, Rx.lo, Rx.hi, Rx.kids] at e0 e1 e2 e3 hC
          unfold rxv at hC
          clear hrn hge hneg
          have hrz : (0 : Int) ≤ (r : Int) := by omega
          go_wp2_with (go_at_call 47; refine (hC _ ((Below.refl _ _).alloc hW.size _)).mono ?_; clear hC; rintro e w1 ⟨rfl, hw1⟩)
          go_roundw
          case rel => exact ⟨j + 1, by omega, by go_num, by rw [HX.out], hW.trans (((Below.refl _ _).alloc hW.size _).trans (hw1.mono (by have := hW.size; simp; omega)))⟩
          case measure => simp [intOf]; omega
      · obtain rfl : j = s.length := by omega
        rw [List.take_length] at hge ⊢
        obtain ⟨ρ', hρ⟩ : ∃ ρ', rr (1 + nodesL s) room = ρ' := ⟨_, rfl⟩
        have HX := Lib.hid hρ
        rw [hρ]
        clear hs ih hρ hge
        go_wp2_with fail
        go_ret
        exact ⟨by rw [HX.out]; rfl, hW⟩
theorem tooLarge_any (x : Rx) (v : Value) (w : World) (hv : RtV w (Lo w.heap.size) x v) : Calls Tryz.prog 25 #[v] w fun e w' => e = .returned (.bool (decide (64 < nodes x))) ∧ Below w.heap.size w w' := by
  have hC : ∀ o, Calls Tryz.prog 47 #[v, .int .i64 (64 : Nat)] (w.alloc o) fun e w' => e = .returned (.int .i64 (rr (nodes x) 64)) ∧ Below (w.alloc o).heap.size (w.alloc o) w' := fun o => room_upto (nodes x) x v 64 _ (Nat.le_refl _) (by omega) (hv.call ((Below.refl _ w).alloc (Nat.le_refl _) o))
  have hd : decide (rr (nodes x) 64 < 0) = decide (64 < nodes x) := by unfold rr; split <;> simp <;> omega
  obtain ⟨⟨hk, hl, hh, hsl⟩, A, c, rfl, hc, hA, hs⟩ := hv.parts
  generalize nodes x = n at hC hd
  clear hv hs
  generalize rr n 64 = ρ at hC hd
  unfold rxv at hC ⊢
  go_enter Tryz.func25, Tryz.ntmps25
  go_wp2_with (go_at_call 47; refine (hC _).mono ?_; clear hC; rintro e w1 ⟨rfl, hw1⟩)
  go_ret
  exact ⟨rfl, ((Below.refl _ w).alloc (Nat.le_refl _) _).trans (hw1.mono (by simp))⟩

mutual
/-- whether each node is what its kind allows -/
def wfR : Rx → Bool
  | .node k l h s => (k == 2 || l == 0 && h == 0) && decide (l ≤ h) && (if k == 0 || k == 1 || k == 2 then s.length == 0 else if k == 6 || k == 7 then s.length == 1 && wfL s else if k == 3 || k == 4 || k == 5 then wfL s else false)
def wfL : List Rx → Bool
  | [] => true
  | x :: s => wfR x && wfL s
end
theorem wfL_all : ∀ s : List Rx, wfL s = s.all wfR
  | [] => rfl
  | x :: s => by simp only [wfL, List.all_cons, wfL_all s]

/-- what a predicate's contract says of trees of at most m nodes -/
def PredUpto (F : Nat) (p q : Rx → Bool) (m : Nat) : Prop := ∀ (x : Rx) (v : Value) (w : World), nodes x ≤ m → q x = true → RtV w (Lo w.heap.size) x v → Calls Tryz.prog F #[v] w fun e w' => e = .returned (.bool (p x)) ∧ Below w.heap.size w w'

set_option maxHeartbeats 1000000 in
set_option maxRecDepth 100000 in
theorem every_any (F : Nat) (hF : F = 26 ∨ F = 86) (p q : Rx → Bool) (m : Nat) (ih : PredUpto F p q m) (s : List Rx) (A : Option Addr) (c : Nat) (w : World) (hm : nodesL s ≤ m) (hq : s.all q = true) (hsl : s.length ≤ 1048576) (hs : RtL w (Lo w.heap.size) s A) :
    Calls Tryz.prog 48 #[.slice A s.length c, .func (.func F) #[] #[]] w fun e w' => e = .returned (.bool (s.all p)) ∧ Below w.heap.size w w' := by
  rcases hF with rfl | rfl
  all_goals
    go_enter Tryz.func48, Tryz.ntmps48
    go_wp2_with fail
    go_loopw [9] (fun i wr => ∃ j : Nat, j ≤ s.length ∧ i = .int .i64 j ∧ Hid (s.all p = (s.drop j).all p) ∧ Below w.heap.size w wr) (fun i _ => s.length - (intOf i).toNat)
    case atStart => exact ⟨0, Nat.zero_le _, rfl, Lib.hid rfl, Below.refl _ _⟩
    case round =>
      obtain ⟨j, hj, rfl, hall, hW⟩ := hrel
      by_cases hlt : j < s.length
      · obtain ⟨b1, o1, A1, c1, rfl, hb1, q1, hx1⟩ := hs.get hlt
        obtain ⟨e0, e1, e2, e3⟩ := q1.to (hW.block b1 hb1)
        have hst := Lib.hid (show (s.drop j).all p = (p s[j] && (s.drop (j + 1)).all p) by rw [List.drop_eq_getElem_cons hlt, List.all_cons])
        have hC := fun (W : World) (hWW : Below w.heap.size wr W) => ih _ _ W (Nat.le_trans (nodes_get hlt) hm) (List.all_eq_true.1 hq _ (List.getElem_mem hlt)) (((hx1.below hW).below hWW).mono (Nat.le_trans hW.size hWW.size))
        clear hx1 hs q1 ih
        generalize s[j] = x at e0 e1 e2 e3 hC hst
        obtain ⟨xk, xl, xh, xs⟩ := x
        simp only [Rx.kind, Rx.lo, Rx.hi, Rx.kids] at e0 e1 e2 e3 hC
        unfold rxv at hC
        cases hp : p (.node xk xl xh xs)
        · rw [hp] at hC hst
          go_wp2_with (first
            | (go_at_call 26; refine (hC _ ((Below.refl _ _).alloc hW.size _)).mono ?_; clear hC; rintro e w1 ⟨rfl, hw1⟩)
            | (go_at_call 86; refine (hC _ ((Below.refl _ _).alloc hW.size _)).mono ?_; clear hC; rintro e w1 ⟨rfl, hw1⟩))
          go_ret
          exact ⟨by rw [hall.out, hst.out]; rfl, hW.trans (((Below.refl _ _).alloc hW.size _).trans (hw1.mono (by have := hW.size; simp; omega)))⟩
        · rw [hp] at hC hst
          go_wp2_with (first
            | (go_at_call 26; refine (hC _ ((Below.refl _ _).alloc hW.size _)).mono ?_; clear hC; rintro e w1 ⟨rfl, hw1⟩)
            | (go_at_call 86; refine (hC _ ((Below.refl _ _).alloc hW.size _)).mono ?_; clear hC; rintro e w1 ⟨rfl, hw1⟩))
          go_roundw
          case rel => exact ⟨j + 1, by omega, by go_num, Lib.hid (by rw [hall.out, hst.out]; rfl), hW.trans (((Below.refl _ _).alloc hW.size _).trans (hw1.mono (by have := hW.size; simp; omega)))⟩
          case measure => simp [intOf]; omega
      · obtain rfl : j = s.length := by omega
        have he := Lib.hid (show (s.drop s.length).all p = true by simp)
        clear hs ih
        go_wp2_with fail
        go_ret
        exact ⟨by rw [hall.out, he.out]; rfl, hW⟩

theorem int_nat_beq (n : Nat) : ((n : Int) == 0) = (n == 0) := by
  cases n with
  | zero => rfl
  | succ n => rw [beq_eq_false_iff_ne.2 (by omega), beq_eq_false_iff_ne.2 (by omega)]
/-- the value of the last test -/
def wfK (k : Int) (s : List Rx) : Bool := if k == 0 || k == 1 || k == 2 then s.length == 0 else if k == 6 || k == 7 then s.length == 1 && wfL s else if k == 3 || k == 4 || k == 5 then wfL s else false
theorem wfR_eq (k l h : Int) (s : List Rx) : wfR (.node k l h s) = ((k == 2 || l == 0 && h == 0) && decide (l ≤ h) && wfK k s) := by simp only [wfR, wfK]

set_option maxHeartbeats 2000000 in
set_option maxRecDepth 100000 in
/-- wellFormed, where the bytes are right -/
theorem wf_kids (m : Nat) (ih : PredUpto 26 wfR (fun _ => true) m) (k l h : Int) (s : List Rx) (A : Option Addr) (c : Nat) (w : World) (hm : nodesL s ≤ m) (hsl : s.length ≤ 1048576) (hs : RtL w (Lo w.heap.size) s A) (hok : k = 2 ∧ l ≤ h ∨ k ≠ 2 ∧ l = 0 ∧ h = 0) :
    Calls Tryz.prog 26 #[.agg #[.int .i64 k, .int .u8 l, .int .u8 h, .slice A s.length c]] w fun e w' => e = .returned (.bool (wfK k s)) ∧ Below w.heap.size w w' := by
  have hE : ∀ W, Below w.heap.size w W → Calls Tryz.prog 48 #[.slice A s.length c, .func (.func 26) #[] #[]] W fun e w' => e = .returned (.bool (wfL s)) ∧ Below W.heap.size W w' := fun W hW => by
    rw [wfL_all]
    exact every_any 26 (.inl rfl) wfR _ m ih s A c W hm (by simp) hsl ((hs.below hW).mono hW.size)
  have h0 := (Below.refl w.heap.size w).alloc (Nat.le_refl _) (.cells #[.int .i64 k, .int .u8 l, .int .u8 h, .slice A s.length c] 30)
  have hkk : k = 0 ∨ k = 1 ∨ k = 2 ∨ k = 3 ∨ k = 4 ∨ k = 5 ∨ k = 6 ∨ k = 7 ∨ (k ≠ 0 ∧ k ≠ 1 ∧ k ≠ 2 ∧ k ≠ 3 ∧ k ≠ 4 ∧ k ≠ 5 ∧ k ≠ 6 ∧ k ≠ 7) := by omega
  rcases hkk with hk | hk | hk | hk | hk | hk | hk | hk | hk
  · subst hk
    obtain ⟨h2, _⟩ | ⟨_, rfl, rfl⟩ := hok
    · exact absurd h2 (by decide)
    have hv : wfK 0 s = (s.length == 0) := by simp [wfK]
    rw [hv]
    clear hE hs ih
    have hE0 := Lib.hid (int_nat_beq s.length)
    go_enter Tryz.func26, Tryz.ntmps26
    go_wp2_with fail
    go_ret
    exact ⟨by rw [← hE0.out]; rfl, h0⟩
  · subst hk
    obtain ⟨h2, _⟩ | ⟨_, rfl, rfl⟩ := hok
    · exact absurd h2 (by decide)
    have hv : wfK 1 s = (s.length == 0) := by simp [wfK]
    rw [hv]
    clear hE hs ih
    have hE0 := Lib.hid (int_nat_beq s.length)
    go_enter Tryz.func26, Tryz.ntmps26
    go_wp2_with fail
    go_ret
    exact ⟨by rw [← hE0.out]; rfl, h0⟩
  · subst hk
    rcases hok with ⟨_, hlh⟩ | ⟨h2, _⟩
    rotate_left
    · exact absurd rfl h2
    have hv : wfK 2 s = (s.length == 0) := by simp [wfK]
    rw [hv]
    clear hE hs ih
    have hE0 := Lib.hid (int_nat_beq s.length)
    go_enter Tryz.func26, Tryz.ntmps26
    go_wp2_with fail
    go_ret
    exact ⟨by rw [← hE0.out]; rfl, h0⟩
  · subst hk
    obtain ⟨h2, _⟩ | ⟨_, rfl, rfl⟩ := hok
    · exact absurd h2 (by decide)
    have hv : wfK 3 s = wfL s := by simp [wfK]
    rw [hv]
    have hE' := hE _ h0
    clear hE hs ih hv
    generalize wfL s = p at hE'
    go_enter Tryz.func26, Tryz.ntmps26
    go_wp2_with (go_at_call 48; refine hE'.mono ?_; clear hE'; rintro e w1 ⟨rfl, hw1⟩)
    go_ret
    exact ⟨rfl, h0.trans (hw1.mono (by simp))⟩
  · subst hk
    obtain ⟨h2, _⟩ | ⟨_, rfl, rfl⟩ := hok
    · exact absurd h2 (by decide)
    have hv : wfK 4 s = wfL s := by simp [wfK]
    rw [hv]
    have hE' := hE _ h0
    clear hE hs ih hv
    generalize wfL s = p at hE'
    go_enter Tryz.func26, Tryz.ntmps26
    go_wp2_with (go_at_call 48; refine hE'.mono ?_; clear hE'; rintro e w1 ⟨rfl, hw1⟩)
    go_ret
    exact ⟨rfl, h0.trans (hw1.mono (by simp))⟩
  · subst hk
    obtain ⟨h2, _⟩ | ⟨_, rfl, rfl⟩ := hok
    · exact absurd h2 (by decide)
    have hv : wfK 5 s = wfL s := by simp [wfK]
    rw [hv]
    have hE' := hE _ h0
    clear hE hs ih hv
    generalize wfL s = p at hE'
    go_enter Tryz.func26, Tryz.ntmps26
    go_wp2_with (go_at_call 48; refine hE'.mono ?_; clear hE'; rintro e w1 ⟨rfl, hw1⟩)
    go_ret
    exact ⟨rfl, h0.trans (hw1.mono (by simp))⟩
  · subst hk
    obtain ⟨h2, _⟩ | ⟨_, rfl, rfl⟩ := hok
    · exact absurd h2 (by decide)
    have hv : wfK 6 s = (s.length == 1 && wfL s) := by simp [wfK]
    rw [hv]
    by_cases hz : s.length = 1
    · obtain ⟨x, rfl⟩ : ∃ x, s = [x] := by
        match s, hz with
        | [x], _ => exact ⟨x, rfl⟩
      obtain ⟨b, o, A', c', rfl, hb, q1, hx⟩ := hs.get (j := 0) (by simp)
      simp only [List.getElem_cons_zero, Nat.zero_mul, Nat.add_zero] at q1 hx
      obtain ⟨e0, e1, e2, e3⟩ := q1.to (Below.heap_alloc w (.cells #[.int .i64 6, .int .u8 0, .int .u8 0, .slice (some ⟨b, o, none⟩) [x].length c] 30) b hb)
      have hC := ih x _ (w.alloc (.cells #[.int .i64 6, .int .u8 0, .int .u8 0, .slice (some ⟨b, o, none⟩) [x].length c] 30)) (by simpa [nodesL] using hm) rfl (hx.call h0)
      have hfin : ([x].length == 1 && wfL [x]) = wfR x := by simp [wfL]
      rw [hfin]
      clear hE hs ih hx q1 hm hfin hv
      generalize wfR x = p at hC
      obtain ⟨xk, xl, xh, xs⟩ := x
      simp only [Rx.kind, Rx.lo, Rx.hi, Rx.kids] at e0 e1 e2 e3 hC
      unfold rxv at hC
      simp only [List.length_cons, List.length_nil] at *
      go_enter Tryz.func26, Tryz.ntmps26
      go_wp2_with (go_at_call 26; refine hC.mono ?_; clear hC; rintro e w1 ⟨rfl, hw1⟩)
      go_ret
      exact ⟨rfl, h0.trans (hw1.mono (by simp))⟩
    · have hfin : (s.length == 1 && wfL s) = false := by simp [hz]
      rw [hfin]
      have hz2 : ¬ ((s.length : Int) = 1) := by omega
      clear hE hs ih
      go_enter Tryz.func26, Tryz.ntmps26
      go_wp2_with fail
      go_ret
      exact ⟨rfl, h0⟩
  · subst hk
    obtain ⟨h2, _⟩ | ⟨_, rfl, rfl⟩ := hok
    · exact absurd h2 (by decide)
    have hv : wfK 7 s = (s.length == 1 && wfL s) := by simp [wfK]
    rw [hv]
    by_cases hz : s.length = 1
    · obtain ⟨x, rfl⟩ : ∃ x, s = [x] := by
        match s, hz with
        | [x], _ => exact ⟨x, rfl⟩
      obtain ⟨b, o, A', c', rfl, hb, q1, hx⟩ := hs.get (j := 0) (by simp)
      simp only [List.getElem_cons_zero, Nat.zero_mul, Nat.add_zero] at q1 hx
      obtain ⟨e0, e1, e2, e3⟩ := q1.to (Below.heap_alloc w (.cells #[.int .i64 7, .int .u8 0, .int .u8 0, .slice (some ⟨b, o, none⟩) [x].length c] 30) b hb)
      have hC := ih x _ (w.alloc (.cells #[.int .i64 7, .int .u8 0, .int .u8 0, .slice (some ⟨b, o, none⟩) [x].length c] 30)) (by simpa [nodesL] using hm) rfl (hx.call h0)
      have hfin : ([x].length == 1 && wfL [x]) = wfR x := by simp [wfL]
      rw [hfin]
      clear hE hs ih hx q1 hm hfin hv
      generalize wfR x = p at hC
      obtain ⟨xk, xl, xh, xs⟩ := x
      simp only [Rx.kind, Rx.lo, Rx.hi, Rx.kids] at e0 e1 e2 e3 hC
      unfold rxv at hC
      simp only [List.length_cons, List.length_nil] at *
      go_enter Tryz.func26, Tryz.ntmps26
      go_wp2_with (go_at_call 26; refine hC.mono ?_; clear hC; rintro e w1 ⟨rfl, hw1⟩)
      go_ret
      exact ⟨rfl, h0.trans (hw1.mono (by simp))⟩
    · have hfin : (s.length == 1 && wfL s) = false := by simp [hz]
      rw [hfin]
      have hz2 : ¬ ((s.length : Int) = 1) := by omega
      clear hE hs ih
      go_enter Tryz.func26, Tryz.ntmps26
      go_wp2_with fail
      go_ret
      exact ⟨rfl, h0⟩
  · obtain ⟨n0, n1, n2, n3, n4, n5, n6, n7⟩ := hk
    obtain ⟨h2, _⟩ | ⟨_, rfl, rfl⟩ := hok
    · exact absurd h2 n2
    have hv : wfK k s = false := by simp [wfK, n0, n1, n2, n3, n4, n5, n6, n7]
    rw [hv]
    clear hE hs ih hv
    go_enter Tryz.func26, Tryz.ntmps26
    go_wp2_with fail
    go_ret
    exact ⟨rfl, h0⟩

set_option maxHeartbeats 2000000 in
theorem wf_upto (m : Nat) : PredUpto 26 wfR (fun _ => true) m := by
  induction m with
  | zero => intro x v w h0; cases x; simp [nodes] at h0
  | succ m ih =>
    intro x v w hm _ hv
    obtain ⟨k, l, h, s⟩ := x
    obtain ⟨⟨hk, hl, hh, hsl⟩, A, c, rfl, hc, hA, hs⟩ := hv.parts
    simp only [Rx.kind, Rx.lo, Rx.hi, Rx.kids] at hk hl hh hsl hc hs ⊢
    have hm' : nodesL s ≤ m := by simp only [nodes] at hm; omega
    rw [wfR_eq]
    unfold rxv
    have h0 := (Below.refl w.heap.size w).alloc (Nat.le_refl _) (.cells #[.int .i64 k, .int .u8 l, .int .u8 h, .slice A s.length c] 30)
    by_cases h2 : k = 2
    · by_cases hlh : l ≤ h
      · have hb : ((k == 2 || l == 0 && h == 0) && decide (l ≤ h) && wfK k s) = wfK k s := by simp [h2, hlh]
        rw [hb]
        exact wf_kids m ih k l h s A c w hm' hsl hs (.inl ⟨h2, hlh⟩)
      · have hb : ((k == 2 || l == 0 && h == 0) && decide (l ≤ h) && wfK k s) = false := by simp [hlh]
        rw [hb]
        subst h2
        have hlt : h < l := by omega
        clear hs ih hv
        go_enter Tryz.func26, Tryz.ntmps26
        go_wp2_with fail
        go_ret
        exact ⟨rfl, h0⟩
    · by_cases hl0 : l = 0
      · by_cases hh0 : h = 0
        · have hb : ((k == 2 || l == 0 && h == 0) && decide (l ≤ h) && wfK k s) = wfK k s := by simp [hl0, hh0]
          rw [hb]
          exact wf_kids m ih k l h s A c w hm' hsl hs (.inr ⟨h2, hl0, hh0⟩)
        · have hb : ((k == 2 || l == 0 && h == 0) && decide (l ≤ h) && wfK k s) = false := by simp [h2, hh0]
          rw [hb]
          subst hl0
          clear hs ih hv
          go_enter Tryz.func26, Tryz.ntmps26
          go_wp2_with fail
          go_ret
          exact ⟨rfl, h0⟩
      · have hb : ((k == 2 || l == 0 && h == 0) && decide (l ≤ h) && wfK k s) = false := by simp [h2, hl0]
        rw [hb]
        clear hs ih hv
        go_enter Tryz.func26, Tryz.ntmps26
        go_wp2_with fail
        go_ret
        exact ⟨rfl, h0⟩

/-- what Valid says: 0, 1 (ErrArg) or 4 (ErrLimit) -/
def validR (x : Rx) : Int := if 64 < nodes x then 4 else if wfR x then 0 else 1
set_option maxHeartbeats 1000000 in
theorem valid_any (x : Rx) (v : Value) (w : World) (hv : RtV w (Lo w.heap.size) x v) : Calls Tryz.prog 9 #[v] w fun e w' => e = .returned (.int .i64 (validR x)) ∧ Below w.heap.size w w' := by
  have h1 := fun (W : World) (hW : Below w.heap.size w W) => tooLarge_any x v W (hv.call hW)
  have h2 := fun (W : World) (hW : Below w.heap.size w W) => wf_upto (nodes x) x v W (Nat.le_refl _) rfl (hv.call hW)
  unfold validR
  obtain ⟨_, A, c, rfl, hc, hA, hs⟩ := hv.parts
  clear hv hs
  unfold rxv at h1 h2 ⊢
  have h0 := (Below.refl w.heap.size w).alloc (Nat.le_refl _) (.cells #[.int .i64 x.kind, .int .u8 x.lo, .int .u8 x.hi, .slice A x.kids.length c] 30)
  by_cases hn : 64 < nodes x
  · rw [if_pos hn]
    rw [decide_eq_true hn] at h1
    go_enter Tryz.func9, Tryz.ntmps9
    go_wp2_with (go_at_call 25; refine (h1 _ h0).mono ?_; clear h1; rintro e w1 ⟨rfl, hw1⟩)
    go_ret
    exact ⟨rfl, h0.trans (hw1.mono (by simp))⟩
  · rw [if_neg hn]
    rw [decide_eq_false hn] at h1
    have hk : ∀ w1, Below (w.alloc (.cells #[.int .i64 x.kind, .int .u8 x.lo, .int .u8 x.hi, .slice A x.kids.length c] 30)).heap.size (w.alloc (.cells #[.int .i64 x.kind, .int .u8 x.lo, .int .u8 x.hi, .slice A x.kids.length c] 30)) w1 → w1.heap[w.heap.size]? = some (.cells #[.int .i64 x.kind, .int .u8 x.lo, .int .u8 x.hi, .slice A x.kids.length c] 30 (0, 0)) := fun w1 hb => (hb.block _ (by simp)).trans (heap_alloc_new _ _)
    cases hw : wfR x
    all_goals
      rw [hw] at h2
      go_enter Tryz.func9, Tryz.ntmps9
      go_wp2_with (first
        | (go_at_call 25; refine (h1 _ h0).mono ?_; clear h1; rintro e w1 ⟨rfl, hw1⟩; have hb01 := h0.trans (hw1.mono (by simp)); obtain ⟨q0, q1, q2, q3⟩ := four (hk w1 hw1))
        | (go_at_call 26; refine (h2 _ hb01).mono ?_; clear h2; rintro e w2 ⟨rfl, hw2⟩))
      go_ret
      exact ⟨rfl, hb01.trans (hw2.mono hb01.size)⟩

end Go.Proofs.YtnjkihbmhacgoaaGreatDoor
