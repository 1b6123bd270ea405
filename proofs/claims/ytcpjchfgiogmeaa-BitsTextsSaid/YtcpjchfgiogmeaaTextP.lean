/-
  THE WALKS of the program's Parse: HasPrefix, CutPrefix, cutMark, IndexByte, the loop.
-/
import Derived.Test.YtcpjchfgiogmeaaTextM
import Derived.Laws.Externs
import Derived.Laws.Strings2
namespace Go.Proofs.Ytcpjchfgiogmeaa
open Go.RowKit

theorem bytes_list (s : ByteArray) : ∃ l : List UInt8, s = ⟨l.toArray⟩ := ⟨s.data.toList, by simp⟩
theorem sb_mk (l : List UInt8) : sb ⟨l.toArray⟩ = l.map fun c => (c.toNat : Int) := by simp [sb]
theorem size_mk (l : List UInt8) : (ByteArray.mk l.toArray).size = l.length := by show l.toArray.size = _; simp
theorem sb_drop (s : ByteArray) (k : Nat) (hk : k ≤ s.size) : sb (s.extract k s.size) = (sb s).drop k := by
  obtain ⟨l, rfl⟩ := bytes_list s
  rw [size_mk] at hk ⊢
  rw [ByteArray.extract_mk, sb_mk, sb_mk, List.take_of_length_le (by rw [List.length_drop]; omega), List.map_drop]
/-- the text begins with '#' and the byte m -/
def begP (s : ByteArray) (m : Int) : Bool := decide (2 ≤ s.size ∧ (sb s)[0]? = some 35 ∧ (sb s)[1]? = some m)
theorem u8_eq (a : UInt8) (n : Nat) (hn : n < 256) : (a.toNat : Int) = n ↔ a = UInt8.ofNat n := by
  constructor
  · intro h
    apply UInt8.toNat_inj.1
    rw [UInt8.toNat_ofNat']
    have : a.toNat = n := by omega
    omega
  · rintro rfl
    rw [UInt8.toNat_ofNat']
    omega
theorem has_eq (s : ByteArray) (m : Nat) (hm : m < 256) (h : 2 ≤ s.size) : ((s.extract 0 2).toList == (⟨#[35, UInt8.ofNat m]⟩ : ByteArray).toList) = begP s m := by
  obtain ⟨l, rfl⟩ := bytes_list s
  rw [size_mk] at h
  unfold begP
  rw [size_mk, sb_mk, ByteArray.extract_mk]
  obtain ⟨a, b, r, rfl⟩ : ∃ a b r, l = a :: b :: r := by
    cases l with
    | nil => simp at h
    | cons a t => cases t with
      | nil => simp at h
      | cons b r => exact ⟨a, b, r, rfl⟩
  have h35 := u8_eq a 35 (by decide)
  have hmm := u8_eq b m hm
  rw [Bool.eq_iff_iff]
  rw [show (⟨#[35, UInt8.ofNat m]⟩ : ByteArray) = ⟨[35, UInt8.ofNat m].toArray⟩ from rfl, ByteArray.toList_mk, ByteArray.toList_mk]
  simp
  rw [hmm, show ((a.toNat : Int) = 35 ↔ a = UInt8.ofNat 35) from h35]
  exact Iff.rfl
set_option maxHeartbeats 1000000 in
theorem has_at (s : ByteArray) (m : Nat) (hm : m < 256) (w : World) :
    Calls Try.prog 73 #[.string s, .string ⟨#[35, UInt8.ofNat m]⟩] w fun e w' => e = .returned (.bool (begP s m)) ∧ w = w' := by
  have hp : (⟨#[35, UInt8.ofNat m]⟩ : ByteArray).size = 2 := rfl
  by_cases h : 2 ≤ s.size
  · have hx := has_eq s m hm h
    generalize (⟨#[35, UInt8.ofNat m]⟩ : ByteArray) = p at hp hx ⊢
    generalize begP s m = x at hx ⊢
    go_enter Try.func73, Try.ntmps73
    go_wp2
    go_ret
    exact ⟨rfl, rfl⟩
  · have hb : begP s m = false := by unfold begP; simp; omega
    rw [hb]
    generalize (⟨#[35, UInt8.ofNat m]⟩ : ByteArray) = p at hp ⊢
    go_enter Try.func73, Try.ntmps73
    go_wp2
    go_ret
    exact ⟨rfl, rfl⟩
set_option maxHeartbeats 1000000 in
theorem cut_at (s : ByteArray) (m : Nat) (hm : m < 256) (w : World) :
    Calls Try.prog 52 #[.string s, .string ⟨#[35, UInt8.ofNat m]⟩] w fun e w' => e = .returned (.tuple #[.string (if begP s m then s.extract 2 s.size else s), .bool (begP s m)]) ∧ w = w' := by
  have hp : (⟨#[35, UInt8.ofNat m]⟩ : ByteArray).size = 2 := rfl
  have hc := fun W => has_at s m hm W
  have h2 : begP s m = true → 2 ≤ s.size := fun h => by unfold begP at h; simp at h; omega
  generalize (⟨#[35, UInt8.ofNat m]⟩ : ByteArray) = p at hp hc ⊢
  have hI : ∀ W : World, Calls Try.prog 71 #[.string s, .string p] W fun e w' => e = .returned (.tuple #[.string (if begP s m then s.extract 2 s.size else s), .bool (begP s m)]) ∧ W = w' := fun w => by
    cases hx : begP s m
    · rw [hx] at hc
      clear h2
      go_enter Try.func71, Try.ntmps71
      go_wp2_with (go_at_call 73; refine (hc _).mono ?_; clear hc; rintro e w1 ⟨rfl, rfl⟩)
      go_ret2
      exact ⟨rfl, rfl⟩
    · have h3 := h2 hx
      rw [hx] at hc
      clear h2
      go_enter Try.func71, Try.ntmps71
      go_wp2_with (go_at_call 73; refine (hc _).mono ?_; clear hc; rintro e w1 ⟨rfl, rfl⟩)
      go_ret2
      exact ⟨rfl, rfl⟩
  clear hc h2
  generalize (if begP s m then s.extract 2 s.size else s) = r at hI ⊢
  generalize begP s m = x at hI ⊢
  go_enter Try.func52, Try.ntmps52
  go_wp2_with (go_at_call 71; refine (hI _).mono ?_; clear hI; rintro e w1 ⟨rfl, rfl⟩)
  go_ret2
  exact ⟨rfl, rfl⟩
/-- cutMark(s) -/
def markS (s : ByteArray) : Int × ByteArray := if begP s 98 then (1, s.extract 2 s.size) else if begP s 120 then (4, s.extract 2 s.size) else (0, ⟨#[]⟩)
set_option maxHeartbeats 1000000 in
theorem mark_at (s : ByteArray) (w : World) : Calls Try.prog 44 #[.string s] w fun e w' => e = .returned (.tuple #[.int .i64 (markS s).1, .string (markS s).2]) ∧ w = w' := by
  have c1 : ∀ W : World, Calls Try.prog 52 #[.string s, .string ⟨#[35, 98]⟩] W fun e w' => e = .returned (.tuple #[.string (if begP s 98 then s.extract 2 s.size else s), .bool (begP s 98)]) ∧ W = w' := fun W => cut_at s 98 (by decide) W
  have c2 : ∀ W : World, Calls Try.prog 52 #[.string s, .string ⟨#[35, 120]⟩] W fun e w' => e = .returned (.tuple #[.string (if begP s 120 then s.extract 2 s.size else s), .bool (begP s 120)]) ∧ W = w' := fun W => cut_at s 120 (by decide) W
  unfold markS
  cases h1 : begP s 98
  · rw [h1] at c1
    cases h2 : begP s 120
    · rw [h2] at c2
      go_enter Try.func44, Try.ntmps44
      go_wp2_with (first
        | (go_at_call 52; refine (c1 _).mono ?_; clear c1; rintro e w1 ⟨rfl, rfl⟩)
        | (go_at_call 52; refine (c2 _).mono ?_; clear c2; rintro e w1 ⟨rfl, rfl⟩))
      go_ret2
      exact ⟨rfl, rfl⟩
    · rw [h2] at c2
      go_enter Try.func44, Try.ntmps44
      go_wp2_with (first
        | (go_at_call 52; refine (c1 _).mono ?_; clear c1; rintro e w1 ⟨rfl, rfl⟩)
        | (go_at_call 52; refine (c2 _).mono ?_; clear c2; rintro e w1 ⟨rfl, rfl⟩))
      go_ret2
      exact ⟨rfl, rfl⟩
  · rw [h1] at c1
    clear c2
    go_enter Try.func44, Try.ntmps44
    go_wp2_with (go_at_call 52; refine (c1 _).mono ?_; clear c1; rintro e w1 ⟨rfl, rfl⟩)
    go_ret2
    exact ⟨rfl, rfl⟩
end Go.Proofs.Ytcpjchfgiogmeaa
