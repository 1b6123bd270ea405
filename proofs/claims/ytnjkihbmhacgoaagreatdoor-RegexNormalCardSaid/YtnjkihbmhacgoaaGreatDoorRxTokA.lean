/-
  THE TOKENS of three texts: what the library's functions answer at them, and firstToken.
-/
import Derived.Test.YtnjkihbmhacgoaaGreatDoorRxList
import Derived.Test.YtnjkihbmhacgoaaGreatDoorShelf
namespace Go.Proofs.YtnjkihbmhacgoaaGreatDoor
open Go.RowKit Go.Shelf

theorem trim_at (S C R : ByteArray) (hcs : C.size < 4294967281) (hascii : ∀ (j : Nat) b, C.data.toList[j]? = some b → b.toNat < 128) (hR : (⟨(Lib.trimLeftS S.data.toList C.data.toList).toArray⟩ : ByteArray) = R) (w : World) :
    Calls Tryz.prog 82 #[.string S, .string C] w fun e w' => e = .returned (.string R) ∧ Below w.heap.size w w' := by
  have h := Any.strings_TrimLeft_laid Tryz.lays161 (by kernel_rfl) S C w hcs hascii
  rw [hR] at h
  exact h
theorem index_of (S : ByteArray) (c : Int) (r : Int) (hr : Lib.indexByte S.data.toList c.toNat.toUInt8 = r) (w : World) : Calls Tryz.prog 101 #[.string S, .int .u8 c] w fun e w' => e = .returned (.int .i64 r) ∧ w' = w := by
  have h := Any.strings_IndexByte Tryz.lays137 S c w
  rw [hr] at h
  exact h
theorem cut_of (S C R : ByteArray) (r : Bool) (hR : (⟨(Lib.trimPrefix S.data.toList C.data.toList).toArray⟩ : ByteArray) = R) (hr : Lib.hasPrefix S.data.toList C.data.toList = r) (w : World) :
    Calls Tryz.prog 114 #[.string S, .string C] w fun e w' => e = .returned (.tuple #[.string R, .bool r]) ∧ w' = w := by
  have h := Any.strings_CutPrefix Tryz.lays103 S C w
  rw [hR, hr] at h
  exact h
theorem has_of (S C : ByteArray) (r : Bool) (hr : Lib.hasPrefix S.data.toList C.data.toList = r) (w : World) : Calls Tryz.prog 116 #[.string S, .string C] w fun e w' => e = .returned (.bool r) ∧ w' = w := by
  have h := Any.strings_HasPrefix Tryz.lays99 S C w
  rw [hr] at h
  exact h
def SIGNS : ByteArray := ⟨#[40, 41, 44, 124, 38, 33, 42]⟩
def LETTERS : ByteArray := ⟨#[97, 98, 99, 100, 101, 102, 103, 104, 105, 106, 107, 108, 109, 110, 111, 112, 113, 114, 115, 116, 117, 118, 119, 120, 121, 122]⟩

/-- what firstToken answers -/
def FT (S : ByteArray) (t : Tok) (n : Nat) : Prop := ∀ w : World, Calls Tryz.prog 83 #[.string S] w fun e w' => e = .returned (.tuple #[.agg #[.string t.k, .int .i64 0, .int .u8 t.lo, .int .u8 t.hi], .int .i64 n]) ∧ Below w.heap.size w w'



theorem tok_result {w w1 : World} {c0 c1 c2 c3 : Value} {n : Nat} (hn : n = w.heap.size) (hb : Below w.heap.size w w1) : Below w.heap.size w ((((w1.setCell ⟨n, 0, none⟩ c0).setCell ⟨n, 1, none⟩ c1).setCell ⟨n, 2, none⟩ c2).setCell ⟨n, 3, none⟩ c3) := by
  subst hn; exact fin4_below hb (Nat.le_refl _) _ _ _ _

set_option maxHeartbeats 1000000 in
theorem fb0 (w : World) : Calls Tryz.prog 115 #[.string ⟨#[39, 97, 39, 39, 98, 39, 124, 33, 40, 39, 97, 39, 38, 91, 97, 45, 122, 93, 41]⟩] w fun e w' => e = .returned (.tuple #[.int .u8 97, .int .i64 3]) ∧ w' = w := by
  go_enter Tryz.func115, Tryz.ntmps115
  go_wp2
  refine bodyPost_ret (v := .tuple #[.int .u8 97, .int .i64 3]) (by first | (simp [results, Tryz.results115, go_sem]; done) | (simp [results, Tryz.results115, go_sem]; rfl)) rfl ?_
  exact ⟨rfl, rfl⟩

set_option maxHeartbeats 1000000 in
theorem ft0 : FT ⟨#[39, 97, 39, 39, 98, 39, 124, 33, 40, 39, 97, 39, 38, 91, 97, 45, 122, 93, 41]⟩ ⟨⟨#[91]⟩, 0, 97, 97⟩ 3 := by
  intro w
  have h1 := index_of ⟨#[40, 41, 44, 124, 38, 33, 42]⟩ 39 (-1) (by kernel_rfl)
  have h2 := trim_at ⟨#[39, 97, 39, 39, 98, 39, 124, 33, 40, 39, 97, 39, 38, 91, 97, 45, 122, 93, 41]⟩ ⟨#[97, 98, 99, 100, 101, 102, 103, 104, 105, 106, 107, 108, 109, 110, 111, 112, 113, 114, 115, 116, 117, 118, 119, 120, 121, 122]⟩ ⟨#[39, 97, 39, 39, 98, 39, 124, 33, 40, 39, 97, 39, 38, 91, 97, 45, 122, 93, 41]⟩ (by decide) (ascii_of_all (by decide)) (by kernel_rfl)
  have h3 := cut_of ⟨#[39, 97, 39, 39, 98, 39, 124, 33, 40, 39, 97, 39, 38, 91, 97, 45, 122, 93, 41]⟩ ⟨#[91]⟩ ⟨#[39, 97, 39, 39, 98, 39, 124, 33, 40, 39, 97, 39, 38, 91, 97, 45, 122, 93, 41]⟩ false (by kernel_rfl) (by kernel_rfl)
  have hS : ∀ w : World, Calls Tryz.prog 102 #[.string ⟨#[39, 97, 39, 39, 98, 39, 124, 33, 40, 39, 97, 39, 38, 91, 97, 45, 122, 93, 41]⟩] w fun e w' => e = .returned (.tuple #[.int .u8 97, .int .u8 97, .int .i64 3]) ∧ w' = w := fun w => by
    clear h1 h2
    go_enter Tryz.func102, Tryz.ntmps102
    go_wp2_with (first
      | (go_at_call 114; refine (h3 _).mono ?_; clear h3; rintro e w' ⟨rfl, rfl⟩)
      | (go_at_call 115; refine (fb0 _).mono ?_; rintro e w' ⟨rfl, rfl⟩))
    refine bodyPost_ret (v := .tuple #[.int .u8 97, .int .u8 97, .int .i64 3]) (by simp [results, Tryz.results102, go_sem]) rfl ?_
    exact ⟨rfl, rfl⟩
  go_enter Tryz.func83, Tryz.ntmps83
  go_wp2_with (first
    | (go_at_call 101; refine (h1 _).mono ?_; clear h1; rintro e w' ⟨rfl, rfl⟩)
    | (go_at_call 82; refine (h2 _).mono ?_; clear h2; rintro e w1 ⟨rfl, hb1⟩; have n0 := (hb1.block _ (by simp)).trans (heap_alloc_new _ _); obtain ⟨⟨q0, q1, q2, q3⟩, qf0, qf1, qf2, qf3⟩ := four' n0)
    | (go_at_call 102; refine (hS _).mono ?_; clear hS; rintro e w' ⟨rfl, rfl⟩))
  refine bodyPost_ret (v := .tuple #[.agg #[.string ⟨#[91]⟩, .int .i64 0, .int .u8 97, .int .u8 97], .int .i64 3]) (by simp [results, Tryz.results83, go_sem, q0, q1, q2, q3]) rfl ?_
  exact ⟨rfl, fin4_below (((Below.refl _ _).alloc (Nat.le_refl _) _).trans (hb1.mono (by simp))) (Nat.le_refl _) _ _ _ _⟩

set_option maxHeartbeats 1000000 in
theorem fb1 (w : World) : Calls Tryz.prog 115 #[.string ⟨#[39, 98, 39, 124, 33, 40, 39, 97, 39, 38, 91, 97, 45, 122, 93, 41]⟩] w fun e w' => e = .returned (.tuple #[.int .u8 98, .int .i64 3]) ∧ w' = w := by
  go_enter Tryz.func115, Tryz.ntmps115
  go_wp2
  refine bodyPost_ret (v := .tuple #[.int .u8 98, .int .i64 3]) (by first | (simp [results, Tryz.results115, go_sem]; done) | (simp [results, Tryz.results115, go_sem]; rfl)) rfl ?_
  exact ⟨rfl, rfl⟩

set_option maxHeartbeats 1000000 in
theorem ft1 : FT ⟨#[39, 98, 39, 124, 33, 40, 39, 97, 39, 38, 91, 97, 45, 122, 93, 41]⟩ ⟨⟨#[91]⟩, 0, 98, 98⟩ 3 := by
  intro w
  have h1 := index_of ⟨#[40, 41, 44, 124, 38, 33, 42]⟩ 39 (-1) (by kernel_rfl)
  have h2 := trim_at ⟨#[39, 98, 39, 124, 33, 40, 39, 97, 39, 38, 91, 97, 45, 122, 93, 41]⟩ ⟨#[97, 98, 99, 100, 101, 102, 103, 104, 105, 106, 107, 108, 109, 110, 111, 112, 113, 114, 115, 116, 117, 118, 119, 120, 121, 122]⟩ ⟨#[39, 98, 39, 124, 33, 40, 39, 97, 39, 38, 91, 97, 45, 122, 93, 41]⟩ (by decide) (ascii_of_all (by decide)) (by kernel_rfl)
  have h3 := cut_of ⟨#[39, 98, 39, 124, 33, 40, 39, 97, 39, 38, 91, 97, 45, 122, 93, 41]⟩ ⟨#[91]⟩ ⟨#[39, 98, 39, 124, 33, 40, 39, 97, 39, 38, 91, 97, 45, 122, 93, 41]⟩ false (by kernel_rfl) (by kernel_rfl)
  have hS : ∀ w : World, Calls Tryz.prog 102 #[.string ⟨#[39, 98, 39, 124, 33, 40, 39, 97, 39, 38, 91, 97, 45, 122, 93, 41]⟩] w fun e w' => e = .returned (.tuple #[.int .u8 98, .int .u8 98, .int .i64 3]) ∧ w' = w := fun w => by
    clear h1 h2
    go_enter Tryz.func102, Tryz.ntmps102
    go_wp2_with (first
      | (go_at_call 114; refine (h3 _).mono ?_; clear h3; rintro e w' ⟨rfl, rfl⟩)
      | (go_at_call 115; refine (fb1 _).mono ?_; rintro e w' ⟨rfl, rfl⟩))
    refine bodyPost_ret (v := .tuple #[.int .u8 98, .int .u8 98, .int .i64 3]) (by simp [results, Tryz.results102, go_sem]) rfl ?_
    exact ⟨rfl, rfl⟩
  go_enter Tryz.func83, Tryz.ntmps83
  go_wp2_with (first
    | (go_at_call 101; refine (h1 _).mono ?_; clear h1; rintro e w' ⟨rfl, rfl⟩)
    | (go_at_call 82; refine (h2 _).mono ?_; clear h2; rintro e w1 ⟨rfl, hb1⟩; have n0 := (hb1.block _ (by simp)).trans (heap_alloc_new _ _); obtain ⟨⟨q0, q1, q2, q3⟩, qf0, qf1, qf2, qf3⟩ := four' n0)
    | (go_at_call 102; refine (hS _).mono ?_; clear hS; rintro e w' ⟨rfl, rfl⟩))
  refine bodyPost_ret (v := .tuple #[.agg #[.string ⟨#[91]⟩, .int .i64 0, .int .u8 98, .int .u8 98], .int .i64 3]) (by simp [results, Tryz.results83, go_sem, q0, q1, q2, q3]) rfl ?_
  exact ⟨rfl, fin4_below (((Below.refl _ _).alloc (Nat.le_refl _) _).trans (hb1.mono (by simp))) (Nat.le_refl _) _ _ _ _⟩

set_option maxHeartbeats 1000000 in
theorem ft2 : FT ⟨#[124, 33, 40, 39, 97, 39, 38, 91, 97, 45, 122, 93, 41]⟩ ⟨⟨#[124]⟩, 0, 0, 0⟩ 1 := by
  intro w
  have h1 := index_of ⟨#[40, 41, 44, 124, 38, 33, 42]⟩ 124 3 (by kernel_rfl)
  have hx : (⟨#[124, 33, 40, 39, 97, 39, 38, 91, 97, 45, 122, 93, 41]⟩ : ByteArray).extract 0 1 = ⟨#[124]⟩ := by rfl
  go_enter Tryz.func83, Tryz.ntmps83
  go_wp2_with (go_at_call 101; refine (h1 _).mono ?_; clear h1; rintro e w' ⟨rfl, rfl⟩)
  refine bodyPost_ret (v := .tuple #[.agg #[.string ⟨#[124]⟩, .int .i64 0, .int .u8 0, .int .u8 0], .int .i64 1]) (by simp [results, Tryz.results83, go_sem]) rfl ?_
  exact ⟨rfl, (Below.refl _ _).alloc (Nat.le_refl _) (.cells #[.string ⟨#[124]⟩, .int .i64 0, .int .u8 0, .int .u8 0] 88)⟩

set_option maxHeartbeats 1000000 in
theorem ft3 : FT ⟨#[33, 40, 39, 97, 39, 38, 91, 97, 45, 122, 93, 41]⟩ ⟨⟨#[33]⟩, 0, 0, 0⟩ 1 := by
  intro w
  have h1 := index_of ⟨#[40, 41, 44, 124, 38, 33, 42]⟩ 33 5 (by kernel_rfl)
  have hx : (⟨#[33, 40, 39, 97, 39, 38, 91, 97, 45, 122, 93, 41]⟩ : ByteArray).extract 0 1 = ⟨#[33]⟩ := by rfl
  go_enter Tryz.func83, Tryz.ntmps83
  go_wp2_with (go_at_call 101; refine (h1 _).mono ?_; clear h1; rintro e w' ⟨rfl, rfl⟩)
  refine bodyPost_ret (v := .tuple #[.agg #[.string ⟨#[33]⟩, .int .i64 0, .int .u8 0, .int .u8 0], .int .i64 1]) (by simp [results, Tryz.results83, go_sem]) rfl ?_
  exact ⟨rfl, (Below.refl _ _).alloc (Nat.le_refl _) (.cells #[.string ⟨#[33]⟩, .int .i64 0, .int .u8 0, .int .u8 0] 88)⟩

set_option maxHeartbeats 1000000 in
theorem ft4 : FT ⟨#[40, 39, 97, 39, 38, 91, 97, 45, 122, 93, 41]⟩ ⟨⟨#[40]⟩, 0, 0, 0⟩ 1 := by
  intro w
  have h1 := index_of ⟨#[40, 41, 44, 124, 38, 33, 42]⟩ 40 0 (by kernel_rfl)
  have hx : (⟨#[40, 39, 97, 39, 38, 91, 97, 45, 122, 93, 41]⟩ : ByteArray).extract 0 1 = ⟨#[40]⟩ := by rfl
  go_enter Tryz.func83, Tryz.ntmps83
  go_wp2_with (go_at_call 101; refine (h1 _).mono ?_; clear h1; rintro e w' ⟨rfl, rfl⟩)
  refine bodyPost_ret (v := .tuple #[.agg #[.string ⟨#[40]⟩, .int .i64 0, .int .u8 0, .int .u8 0], .int .i64 1]) (by simp [results, Tryz.results83, go_sem]) rfl ?_
  exact ⟨rfl, (Below.refl _ _).alloc (Nat.le_refl _) (.cells #[.string ⟨#[40]⟩, .int .i64 0, .int .u8 0, .int .u8 0] 88)⟩

set_option maxHeartbeats 1000000 in
theorem fb2 (w : World) : Calls Tryz.prog 115 #[.string ⟨#[39, 97, 39, 38, 91, 97, 45, 122, 93, 41]⟩] w fun e w' => e = .returned (.tuple #[.int .u8 97, .int .i64 3]) ∧ w' = w := by
  go_enter Tryz.func115, Tryz.ntmps115
  go_wp2
  refine bodyPost_ret (v := .tuple #[.int .u8 97, .int .i64 3]) (by first | (simp [results, Tryz.results115, go_sem]; done) | (simp [results, Tryz.results115, go_sem]; rfl)) rfl ?_
  exact ⟨rfl, rfl⟩

set_option maxHeartbeats 1000000 in
theorem ft5 : FT ⟨#[39, 97, 39, 38, 91, 97, 45, 122, 93, 41]⟩ ⟨⟨#[91]⟩, 0, 97, 97⟩ 3 := by
  intro w
  have h1 := index_of ⟨#[40, 41, 44, 124, 38, 33, 42]⟩ 39 (-1) (by kernel_rfl)
  have h2 := trim_at ⟨#[39, 97, 39, 38, 91, 97, 45, 122, 93, 41]⟩ ⟨#[97, 98, 99, 100, 101, 102, 103, 104, 105, 106, 107, 108, 109, 110, 111, 112, 113, 114, 115, 116, 117, 118, 119, 120, 121, 122]⟩ ⟨#[39, 97, 39, 38, 91, 97, 45, 122, 93, 41]⟩ (by decide) (ascii_of_all (by decide)) (by kernel_rfl)
  have h3 := cut_of ⟨#[39, 97, 39, 38, 91, 97, 45, 122, 93, 41]⟩ ⟨#[91]⟩ ⟨#[39, 97, 39, 38, 91, 97, 45, 122, 93, 41]⟩ false (by kernel_rfl) (by kernel_rfl)
  have hS : ∀ w : World, Calls Tryz.prog 102 #[.string ⟨#[39, 97, 39, 38, 91, 97, 45, 122, 93, 41]⟩] w fun e w' => e = .returned (.tuple #[.int .u8 97, .int .u8 97, .int .i64 3]) ∧ w' = w := fun w => by
    clear h1 h2
    go_enter Tryz.func102, Tryz.ntmps102
    go_wp2_with (first
      | (go_at_call 114; refine (h3 _).mono ?_; clear h3; rintro e w' ⟨rfl, rfl⟩)
      | (go_at_call 115; refine (fb2 _).mono ?_; rintro e w' ⟨rfl, rfl⟩))
    refine bodyPost_ret (v := .tuple #[.int .u8 97, .int .u8 97, .int .i64 3]) (by simp [results, Tryz.results102, go_sem]) rfl ?_
    exact ⟨rfl, rfl⟩
  go_enter Tryz.func83, Tryz.ntmps83
  go_wp2_with (first
    | (go_at_call 101; refine (h1 _).mono ?_; clear h1; rintro e w' ⟨rfl, rfl⟩)
    | (go_at_call 82; refine (h2 _).mono ?_; clear h2; rintro e w1 ⟨rfl, hb1⟩; have n0 := (hb1.block _ (by simp)).trans (heap_alloc_new _ _); obtain ⟨⟨q0, q1, q2, q3⟩, qf0, qf1, qf2, qf3⟩ := four' n0)
    | (go_at_call 102; refine (hS _).mono ?_; clear hS; rintro e w' ⟨rfl, rfl⟩))
  refine bodyPost_ret (v := .tuple #[.agg #[.string ⟨#[91]⟩, .int .i64 0, .int .u8 97, .int .u8 97], .int .i64 3]) (by simp [results, Tryz.results83, go_sem, q0, q1, q2, q3]) rfl ?_
  exact ⟨rfl, fin4_below (((Below.refl _ _).alloc (Nat.le_refl _) _).trans (hb1.mono (by simp))) (Nat.le_refl _) _ _ _ _⟩

set_option maxHeartbeats 1000000 in
theorem ft6 : FT ⟨#[38, 91, 97, 45, 122, 93, 41]⟩ ⟨⟨#[38]⟩, 0, 0, 0⟩ 1 := by
  intro w
  have h1 := index_of ⟨#[40, 41, 44, 124, 38, 33, 42]⟩ 38 4 (by kernel_rfl)
  have hx : (⟨#[38, 91, 97, 45, 122, 93, 41]⟩ : ByteArray).extract 0 1 = ⟨#[38]⟩ := by rfl
  go_enter Tryz.func83, Tryz.ntmps83
  go_wp2_with (go_at_call 101; refine (h1 _).mono ?_; clear h1; rintro e w' ⟨rfl, rfl⟩)
  refine bodyPost_ret (v := .tuple #[.agg #[.string ⟨#[38]⟩, .int .i64 0, .int .u8 0, .int .u8 0], .int .i64 1]) (by simp [results, Tryz.results83, go_sem]) rfl ?_
  exact ⟨rfl, (Below.refl _ _).alloc (Nat.le_refl _) (.cells #[.string ⟨#[38]⟩, .int .i64 0, .int .u8 0, .int .u8 0] 88)⟩

set_option maxHeartbeats 1000000 in
theorem fb3 (w : World) : Calls Tryz.prog 115 #[.string ⟨#[97, 45, 122, 93, 41]⟩] w fun e w' => e = .returned (.tuple #[.int .u8 0, .int .i64 0]) ∧ w' = w := by
  go_enter Tryz.func115, Tryz.ntmps115
  go_wp2
  refine bodyPost_ret (v := .tuple #[.int .u8 0, .int .i64 0]) (by first | (simp [results, Tryz.results115, go_sem]; done) | (simp [results, Tryz.results115, go_sem]; rfl)) rfl ?_
  exact ⟨rfl, rfl⟩

set_option maxHeartbeats 1000000 in
theorem ft7 : FT ⟨#[91, 97, 45, 122, 93, 41]⟩ ⟨⟨#[]⟩, 0, 0, 0⟩ 0 := by
  intro w
  have h1 := index_of ⟨#[40, 41, 44, 124, 38, 33, 42]⟩ 91 (-1) (by kernel_rfl)
  have h2 := trim_at ⟨#[91, 97, 45, 122, 93, 41]⟩ ⟨#[97, 98, 99, 100, 101, 102, 103, 104, 105, 106, 107, 108, 109, 110, 111, 112, 113, 114, 115, 116, 117, 118, 119, 120, 121, 122]⟩ ⟨#[91, 97, 45, 122, 93, 41]⟩ (by decide) (ascii_of_all (by decide)) (by kernel_rfl)
  have h3 := cut_of ⟨#[91, 97, 45, 122, 93, 41]⟩ ⟨#[91]⟩ ⟨#[97, 45, 122, 93, 41]⟩ true (by kernel_rfl) (by kernel_rfl)
  have h4 := cut_of ⟨#[97, 45, 122, 93, 41]⟩ ⟨#[45]⟩ ⟨#[97, 45, 122, 93, 41]⟩ false (by kernel_rfl) (by kernel_rfl)
  have x1 : (⟨#[97, 45, 122, 93, 41]⟩ : ByteArray).extract 0 5 = ⟨#[97, 45, 122, 93, 41]⟩ := by rfl
  have hS : ∀ w : World, Calls Tryz.prog 102 #[.string ⟨#[91, 97, 45, 122, 93, 41]⟩] w fun e w' => e = .returned (.tuple #[.int .u8 0, .int .u8 0, .int .i64 0]) ∧ w' = w := fun w => by
    clear h1 h2
    go_enter Tryz.func102, Tryz.ntmps102
    go_wp2_with (first
      | (go_at_call 114; (with_reducible refine Calls.mono (h3 _) ?_); clear h3; rintro e w' ⟨rfl, rfl⟩)
      | (go_at_call 114; (with_reducible refine Calls.mono (h4 _) ?_); clear h4; rintro e w' ⟨rfl, rfl⟩)
      | (go_at_call 115; (with_reducible refine Calls.mono (fb3 _) ?_); rintro e w' ⟨rfl, rfl⟩))
    refine bodyPost_ret (v := .tuple #[.int .u8 0, .int .u8 0, .int .i64 0]) (by simp [results, Tryz.results102, go_sem]) rfl ?_
    exact ⟨rfl, rfl⟩
  go_enter Tryz.func83, Tryz.ntmps83
  go_wp2_with (first
    | (go_at_call 101; refine (h1 _).mono ?_; clear h1; rintro e w' ⟨rfl, rfl⟩)
    | (go_at_call 82; refine (h2 _).mono ?_; clear h2; rintro e w1 ⟨rfl, hb1⟩; have n0 := (hb1.block _ (by simp)).trans (heap_alloc_new _ _); obtain ⟨⟨q0, q1, q2, q3⟩, qf0, qf1, qf2, qf3⟩ := four' n0)
    | (go_at_call 102; refine (hS _).mono ?_; clear hS; rintro e w' ⟨rfl, rfl⟩))
  refine bodyPost_ret (v := .tuple #[.agg #[.string ⟨#[]⟩, .int .i64 0, .int .u8 0, .int .u8 0], .int .i64 0]) (by simp [results, Tryz.results83, go_sem, q0, q1, q2, q3]) rfl ?_
  exact ⟨rfl, fin4_below (((Below.refl _ _).alloc (Nat.le_refl _) _).trans (hb1.mono (by simp))) (Nat.le_refl _) _ _ _ _⟩

set_option maxHeartbeats 1000000 in
theorem fb4 (w : World) : Calls Tryz.prog 115 #[.string ⟨#[39, 97, 39, 39, 98, 39, 124, 33, 40, 39, 97, 39, 38, 91, 39, 97, 39, 45, 39, 122, 39, 93, 41]⟩] w fun e w' => e = .returned (.tuple #[.int .u8 97, .int .i64 3]) ∧ w' = w := by
  go_enter Tryz.func115, Tryz.ntmps115
  go_wp2
  refine bodyPost_ret (v := .tuple #[.int .u8 97, .int .i64 3]) (by first | (simp [results, Tryz.results115, go_sem]; done) | (simp [results, Tryz.results115, go_sem]; rfl)) rfl ?_
  exact ⟨rfl, rfl⟩

set_option maxHeartbeats 1000000 in
theorem ft8 : FT ⟨#[39, 97, 39, 39, 98, 39, 124, 33, 40, 39, 97, 39, 38, 91, 39, 97, 39, 45, 39, 122, 39, 93, 41]⟩ ⟨⟨#[91]⟩, 0, 97, 97⟩ 3 := by
  intro w
  have h1 := index_of ⟨#[40, 41, 44, 124, 38, 33, 42]⟩ 39 (-1) (by kernel_rfl)
  have h2 := trim_at ⟨#[39, 97, 39, 39, 98, 39, 124, 33, 40, 39, 97, 39, 38, 91, 39, 97, 39, 45, 39, 122, 39, 93, 41]⟩ ⟨#[97, 98, 99, 100, 101, 102, 103, 104, 105, 106, 107, 108, 109, 110, 111, 112, 113, 114, 115, 116, 117, 118, 119, 120, 121, 122]⟩ ⟨#[39, 97, 39, 39, 98, 39, 124, 33, 40, 39, 97, 39, 38, 91, 39, 97, 39, 45, 39, 122, 39, 93, 41]⟩ (by decide) (ascii_of_all (by decide)) (by kernel_rfl)
  have h3 := cut_of ⟨#[39, 97, 39, 39, 98, 39, 124, 33, 40, 39, 97, 39, 38, 91, 39, 97, 39, 45, 39, 122, 39, 93, 41]⟩ ⟨#[91]⟩ ⟨#[39, 97, 39, 39, 98, 39, 124, 33, 40, 39, 97, 39, 38, 91, 39, 97, 39, 45, 39, 122, 39, 93, 41]⟩ false (by kernel_rfl) (by kernel_rfl)
  have hS : ∀ w : World, Calls Tryz.prog 102 #[.string ⟨#[39, 97, 39, 39, 98, 39, 124, 33, 40, 39, 97, 39, 38, 91, 39, 97, 39, 45, 39, 122, 39, 93, 41]⟩] w fun e w' => e = .returned (.tuple #[.int .u8 97, .int .u8 97, .int .i64 3]) ∧ w' = w := fun w => by
    clear h1 h2
    go_enter Tryz.func102, Tryz.ntmps102
    go_wp2_with (first
      | (go_at_call 114; refine (h3 _).mono ?_; clear h3; rintro e w' ⟨rfl, rfl⟩)
      | (go_at_call 115; refine (fb4 _).mono ?_; rintro e w' ⟨rfl, rfl⟩))
    refine bodyPost_ret (v := .tuple #[.int .u8 97, .int .u8 97, .int .i64 3]) (by simp [results, Tryz.results102, go_sem]) rfl ?_
    exact ⟨rfl, rfl⟩
  go_enter Tryz.func83, Tryz.ntmps83
  go_wp2_with (first
    | (go_at_call 101; refine (h1 _).mono ?_; clear h1; rintro e w' ⟨rfl, rfl⟩)
    | (go_at_call 82; refine (h2 _).mono ?_; clear h2; rintro e w1 ⟨rfl, hb1⟩; have n0 := (hb1.block _ (by simp)).trans (heap_alloc_new _ _); obtain ⟨⟨q0, q1, q2, q3⟩, qf0, qf1, qf2, qf3⟩ := four' n0)
    | (go_at_call 102; refine (hS _).mono ?_; clear hS; rintro e w' ⟨rfl, rfl⟩))
  refine bodyPost_ret (v := .tuple #[.agg #[.string ⟨#[91]⟩, .int .i64 0, .int .u8 97, .int .u8 97], .int .i64 3]) (by simp [results, Tryz.results83, go_sem, q0, q1, q2, q3]) rfl ?_
  exact ⟨rfl, fin4_below (((Below.refl _ _).alloc (Nat.le_refl _) _).trans (hb1.mono (by simp))) (Nat.le_refl _) _ _ _ _⟩

set_option maxHeartbeats 1000000 in
theorem fb5 (w : World) : Calls Tryz.prog 115 #[.string ⟨#[39, 98, 39, 124, 33, 40, 39, 97, 39, 38, 91, 39, 97, 39, 45, 39, 122, 39, 93, 41]⟩] w fun e w' => e = .returned (.tuple #[.int .u8 98, .int .i64 3]) ∧ w' = w := by
  go_enter Tryz.func115, Tryz.ntmps115
  go_wp2
  refine bodyPost_ret (v := .tuple #[.int .u8 98, .int .i64 3]) (by first | (simp [results, Tryz.results115, go_sem]; done) | (simp [results, Tryz.results115, go_sem]; rfl)) rfl ?_
  exact ⟨rfl, rfl⟩

set_option maxHeartbeats 1000000 in
theorem ft9 : FT ⟨#[39, 98, 39, 124, 33, 40, 39, 97, 39, 38, 91, 39, 97, 39, 45, 39, 122, 39, 93, 41]⟩ ⟨⟨#[91]⟩, 0, 98, 98⟩ 3 := by
  intro w
  have h1 := index_of ⟨#[40, 41, 44, 124, 38, 33, 42]⟩ 39 (-1) (by kernel_rfl)
  have h2 := trim_at ⟨#[39, 98, 39, 124, 33, 40, 39, 97, 39, 38, 91, 39, 97, 39, 45, 39, 122, 39, 93, 41]⟩ ⟨#[97, 98, 99, 100, 101, 102, 103, 104, 105, 106, 107, 108, 109, 110, 111, 112, 113, 114, 115, 116, 117, 118, 119, 120, 121, 122]⟩ ⟨#[39, 98, 39, 124, 33, 40, 39, 97, 39, 38, 91, 39, 97, 39, 45, 39, 122, 39, 93, 41]⟩ (by decide) (ascii_of_all (by decide)) (by kernel_rfl)
  have h3 := cut_of ⟨#[39, 98, 39, 124, 33, 40, 39, 97, 39, 38, 91, 39, 97, 39, 45, 39, 122, 39, 93, 41]⟩ ⟨#[91]⟩ ⟨#[39, 98, 39, 124, 33, 40, 39, 97, 39, 38, 91, 39, 97, 39, 45, 39, 122, 39, 93, 41]⟩ false (by kernel_rfl) (by kernel_rfl)
  have hS : ∀ w : World, Calls Tryz.prog 102 #[.string ⟨#[39, 98, 39, 124, 33, 40, 39, 97, 39, 38, 91, 39, 97, 39, 45, 39, 122, 39, 93, 41]⟩] w fun e w' => e = .returned (.tuple #[.int .u8 98, .int .u8 98, .int .i64 3]) ∧ w' = w := fun w => by
    clear h1 h2
    go_enter Tryz.func102, Tryz.ntmps102
    go_wp2_with (first
      | (go_at_call 114; refine (h3 _).mono ?_; clear h3; rintro e w' ⟨rfl, rfl⟩)
      | (go_at_call 115; refine (fb5 _).mono ?_; rintro e w' ⟨rfl, rfl⟩))
    refine bodyPost_ret (v := .tuple #[.int .u8 98, .int .u8 98, .int .i64 3]) (by simp [results, Tryz.results102, go_sem]) rfl ?_
    exact ⟨rfl, rfl⟩
  go_enter Tryz.func83, Tryz.ntmps83
  go_wp2_with (first
    | (go_at_call 101; refine (h1 _).mono ?_; clear h1; rintro e w' ⟨rfl, rfl⟩)
    | (go_at_call 82; refine (h2 _).mono ?_; clear h2; rintro e w1 ⟨rfl, hb1⟩; have n0 := (hb1.block _ (by simp)).trans (heap_alloc_new _ _); obtain ⟨⟨q0, q1, q2, q3⟩, qf0, qf1, qf2, qf3⟩ := four' n0)
    | (go_at_call 102; refine (hS _).mono ?_; clear hS; rintro e w' ⟨rfl, rfl⟩))
  refine bodyPost_ret (v := .tuple #[.agg #[.string ⟨#[91]⟩, .int .i64 0, .int .u8 98, .int .u8 98], .int .i64 3]) (by simp [results, Tryz.results83, go_sem, q0, q1, q2, q3]) rfl ?_
  exact ⟨rfl, fin4_below (((Below.refl _ _).alloc (Nat.le_refl _) _).trans (hb1.mono (by simp))) (Nat.le_refl _) _ _ _ _⟩

set_option maxHeartbeats 1000000 in
theorem ft10 : FT ⟨#[124, 33, 40, 39, 97, 39, 38, 91, 39, 97, 39, 45, 39, 122, 39, 93, 41]⟩ ⟨⟨#[124]⟩, 0, 0, 0⟩ 1 := by
  intro w
  have h1 := index_of ⟨#[40, 41, 44, 124, 38, 33, 42]⟩ 124 3 (by kernel_rfl)
  have hx : (⟨#[124, 33, 40, 39, 97, 39, 38, 91, 39, 97, 39, 45, 39, 122, 39, 93, 41]⟩ : ByteArray).extract 0 1 = ⟨#[124]⟩ := by rfl
  go_enter Tryz.func83, Tryz.ntmps83
  go_wp2_with (go_at_call 101; refine (h1 _).mono ?_; clear h1; rintro e w' ⟨rfl, rfl⟩)
  refine bodyPost_ret (v := .tuple #[.agg #[.string ⟨#[124]⟩, .int .i64 0, .int .u8 0, .int .u8 0], .int .i64 1]) (by simp [results, Tryz.results83, go_sem]) rfl ?_
  exact ⟨rfl, (Below.refl _ _).alloc (Nat.le_refl _) (.cells #[.string ⟨#[124]⟩, .int .i64 0, .int .u8 0, .int .u8 0] 88)⟩

set_option maxHeartbeats 1000000 in
theorem ft11 : FT ⟨#[33, 40, 39, 97, 39, 38, 91, 39, 97, 39, 45, 39, 122, 39, 93, 41]⟩ ⟨⟨#[33]⟩, 0, 0, 0⟩ 1 := by
  intro w
  have h1 := index_of ⟨#[40, 41, 44, 124, 38, 33, 42]⟩ 33 5 (by kernel_rfl)
  have hx : (⟨#[33, 40, 39, 97, 39, 38, 91, 39, 97, 39, 45, 39, 122, 39, 93, 41]⟩ : ByteArray).extract 0 1 = ⟨#[33]⟩ := by rfl
  go_enter Tryz.func83, Tryz.ntmps83
  go_wp2_with (go_at_call 101; refine (h1 _).mono ?_; clear h1; rintro e w' ⟨rfl, rfl⟩)
  refine bodyPost_ret (v := .tuple #[.agg #[.string ⟨#[33]⟩, .int .i64 0, .int .u8 0, .int .u8 0], .int .i64 1]) (by simp [results, Tryz.results83, go_sem]) rfl ?_
  exact ⟨rfl, (Below.refl _ _).alloc (Nat.le_refl _) (.cells #[.string ⟨#[33]⟩, .int .i64 0, .int .u8 0, .int .u8 0] 88)⟩

set_option maxHeartbeats 1000000 in
theorem ft12 : FT ⟨#[40, 39, 97, 39, 38, 91, 39, 97, 39, 45, 39, 122, 39, 93, 41]⟩ ⟨⟨#[40]⟩, 0, 0, 0⟩ 1 := by
  intro w
  have h1 := index_of ⟨#[40, 41, 44, 124, 38, 33, 42]⟩ 40 0 (by kernel_rfl)
  have hx : (⟨#[40, 39, 97, 39, 38, 91, 39, 97, 39, 45, 39, 122, 39, 93, 41]⟩ : ByteArray).extract 0 1 = ⟨#[40]⟩ := by rfl
  go_enter Tryz.func83, Tryz.ntmps83
  go_wp2_with (go_at_call 101; refine (h1 _).mono ?_; clear h1; rintro e w' ⟨rfl, rfl⟩)
  refine bodyPost_ret (v := .tuple #[.agg #[.string ⟨#[40]⟩, .int .i64 0, .int .u8 0, .int .u8 0], .int .i64 1]) (by simp [results, Tryz.results83, go_sem]) rfl ?_
  exact ⟨rfl, (Below.refl _ _).alloc (Nat.le_refl _) (.cells #[.string ⟨#[40]⟩, .int .i64 0, .int .u8 0, .int .u8 0] 88)⟩

set_option maxHeartbeats 1000000 in
theorem fb6 (w : World) : Calls Tryz.prog 115 #[.string ⟨#[39, 97, 39, 38, 91, 39, 97, 39, 45, 39, 122, 39, 93, 41]⟩] w fun e w' => e = .returned (.tuple #[.int .u8 97, .int .i64 3]) ∧ w' = w := by
  go_enter Tryz.func115, Tryz.ntmps115
  go_wp2
  refine bodyPost_ret (v := .tuple #[.int .u8 97, .int .i64 3]) (by first | (simp [results, Tryz.results115, go_sem]; done) | (simp [results, Tryz.results115, go_sem]; rfl)) rfl ?_
  exact ⟨rfl, rfl⟩

set_option maxHeartbeats 1000000 in
theorem ft13 : FT ⟨#[39, 97, 39, 38, 91, 39, 97, 39, 45, 39, 122, 39, 93, 41]⟩ ⟨⟨#[91]⟩, 0, 97, 97⟩ 3 := by
  intro w
  have h1 := index_of ⟨#[40, 41, 44, 124, 38, 33, 42]⟩ 39 (-1) (by kernel_rfl)
  have h2 := trim_at ⟨#[39, 97, 39, 38, 91, 39, 97, 39, 45, 39, 122, 39, 93, 41]⟩ ⟨#[97, 98, 99, 100, 101, 102, 103, 104, 105, 106, 107, 108, 109, 110, 111, 112, 113, 114, 115, 116, 117, 118, 119, 120, 121, 122]⟩ ⟨#[39, 97, 39, 38, 91, 39, 97, 39, 45, 39, 122, 39, 93, 41]⟩ (by decide) (ascii_of_all (by decide)) (by kernel_rfl)
  have h3 := cut_of ⟨#[39, 97, 39, 38, 91, 39, 97, 39, 45, 39, 122, 39, 93, 41]⟩ ⟨#[91]⟩ ⟨#[39, 97, 39, 38, 91, 39, 97, 39, 45, 39, 122, 39, 93, 41]⟩ false (by kernel_rfl) (by kernel_rfl)
  have hS : ∀ w : World, Calls Tryz.prog 102 #[.string ⟨#[39, 97, 39, 38, 91, 39, 97, 39, 45, 39, 122, 39, 93, 41]⟩] w fun e w' => e = .returned (.tuple #[.int .u8 97, .int .u8 97, .int .i64 3]) ∧ w' = w := fun w => by
    clear h1 h2
    go_enter Tryz.func102, Tryz.ntmps102
    go_wp2_with (first
      | (go_at_call 114; refine (h3 _).mono ?_; clear h3; rintro e w' ⟨rfl, rfl⟩)
      | (go_at_call 115; refine (fb6 _).mono ?_; rintro e w' ⟨rfl, rfl⟩))
    refine bodyPost_ret (v := .tuple #[.int .u8 97, .int .u8 97, .int .i64 3]) (by simp [results, Tryz.results102, go_sem]) rfl ?_
    exact ⟨rfl, rfl⟩
  go_enter Tryz.func83, Tryz.ntmps83
  go_wp2_with (first
    | (go_at_call 101; refine (h1 _).mono ?_; clear h1; rintro e w' ⟨rfl, rfl⟩)
    | (go_at_call 82; refine (h2 _).mono ?_; clear h2; rintro e w1 ⟨rfl, hb1⟩; have n0 := (hb1.block _ (by simp)).trans (heap_alloc_new _ _); obtain ⟨⟨q0, q1, q2, q3⟩, qf0, qf1, qf2, qf3⟩ := four' n0)
    | (go_at_call 102; refine (hS _).mono ?_; clear hS; rintro e w' ⟨rfl, rfl⟩))
  refine bodyPost_ret (v := .tuple #[.agg #[.string ⟨#[91]⟩, .int .i64 0, .int .u8 97, .int .u8 97], .int .i64 3]) (by simp [results, Tryz.results83, go_sem, q0, q1, q2, q3]) rfl ?_
  exact ⟨rfl, fin4_below (((Below.refl _ _).alloc (Nat.le_refl _) _).trans (hb1.mono (by simp))) (Nat.le_refl _) _ _ _ _⟩

set_option maxHeartbeats 1000000 in
theorem ft14 : FT ⟨#[38, 91, 39, 97, 39, 45, 39, 122, 39, 93, 41]⟩ ⟨⟨#[38]⟩, 0, 0, 0⟩ 1 := by
  intro w
  have h1 := index_of ⟨#[40, 41, 44, 124, 38, 33, 42]⟩ 38 4 (by kernel_rfl)
  have hx : (⟨#[38, 91, 39, 97, 39, 45, 39, 122, 39, 93, 41]⟩ : ByteArray).extract 0 1 = ⟨#[38]⟩ := by rfl
  go_enter Tryz.func83, Tryz.ntmps83
  go_wp2_with (go_at_call 101; refine (h1 _).mono ?_; clear h1; rintro e w' ⟨rfl, rfl⟩)
  refine bodyPost_ret (v := .tuple #[.agg #[.string ⟨#[38]⟩, .int .i64 0, .int .u8 0, .int .u8 0], .int .i64 1]) (by simp [results, Tryz.results83, go_sem]) rfl ?_
  exact ⟨rfl, (Below.refl _ _).alloc (Nat.le_refl _) (.cells #[.string ⟨#[38]⟩, .int .i64 0, .int .u8 0, .int .u8 0] 88)⟩

set_option maxHeartbeats 1000000 in
theorem fb7 (w : World) : Calls Tryz.prog 115 #[.string ⟨#[39, 97, 39, 45, 39, 122, 39, 93, 41]⟩] w fun e w' => e = .returned (.tuple #[.int .u8 97, .int .i64 3]) ∧ w' = w := by
  go_enter Tryz.func115, Tryz.ntmps115
  go_wp2
  refine bodyPost_ret (v := .tuple #[.int .u8 97, .int .i64 3]) (by first | (simp [results, Tryz.results115, go_sem]; done) | (simp [results, Tryz.results115, go_sem]; rfl)) rfl ?_
  exact ⟨rfl, rfl⟩

set_option maxHeartbeats 1000000 in
theorem fb8 (w : World) : Calls Tryz.prog 115 #[.string ⟨#[39, 122, 39, 93, 41]⟩] w fun e w' => e = .returned (.tuple #[.int .u8 122, .int .i64 3]) ∧ w' = w := by
  go_enter Tryz.func115, Tryz.ntmps115
  go_wp2
  refine bodyPost_ret (v := .tuple #[.int .u8 122, .int .i64 3]) (by first | (simp [results, Tryz.results115, go_sem]; done) | (simp [results, Tryz.results115, go_sem]; rfl)) rfl ?_
  exact ⟨rfl, rfl⟩

set_option maxHeartbeats 1000000 in
theorem ft15 : FT ⟨#[91, 39, 97, 39, 45, 39, 122, 39, 93, 41]⟩ ⟨⟨#[91]⟩, 0, 97, 122⟩ 9 := by
  intro w
  have h1 := index_of ⟨#[40, 41, 44, 124, 38, 33, 42]⟩ 91 (-1) (by kernel_rfl)
  have h2 := trim_at ⟨#[91, 39, 97, 39, 45, 39, 122, 39, 93, 41]⟩ ⟨#[97, 98, 99, 100, 101, 102, 103, 104, 105, 106, 107, 108, 109, 110, 111, 112, 113, 114, 115, 116, 117, 118, 119, 120, 121, 122]⟩ ⟨#[91, 39, 97, 39, 45, 39, 122, 39, 93, 41]⟩ (by decide) (ascii_of_all (by decide)) (by kernel_rfl)
  have h3 := cut_of ⟨#[91, 39, 97, 39, 45, 39, 122, 39, 93, 41]⟩ ⟨#[91]⟩ ⟨#[39, 97, 39, 45, 39, 122, 39, 93, 41]⟩ true (by kernel_rfl) (by kernel_rfl)
  have h4 := cut_of ⟨#[45, 39, 122, 39, 93, 41]⟩ ⟨#[45]⟩ ⟨#[39, 122, 39, 93, 41]⟩ true (by kernel_rfl) (by kernel_rfl)
  have h5 := has_of ⟨#[93, 41]⟩ ⟨#[93]⟩ true (by kernel_rfl)
  have x1 : (⟨#[39, 97, 39, 45, 39, 122, 39, 93, 41]⟩ : ByteArray).extract 3 9 = ⟨#[45, 39, 122, 39, 93, 41]⟩ := by rfl
  have x2 : (⟨#[39, 122, 39, 93, 41]⟩ : ByteArray).extract 3 5 = ⟨#[93, 41]⟩ := by rfl
  have hS : ∀ w : World, Calls Tryz.prog 102 #[.string ⟨#[91, 39, 97, 39, 45, 39, 122, 39, 93, 41]⟩] w fun e w' => e = .returned (.tuple #[.int .u8 97, .int .u8 122, .int .i64 9]) ∧ w' = w := fun w => by
    clear h1 h2
    go_enter Tryz.func102, Tryz.ntmps102
    go_wp2_with (first
      | (go_at_call 114; (with_reducible refine Calls.mono (h3 _) ?_); clear h3; rintro e w' ⟨rfl, rfl⟩)
      | (go_at_call 114; (with_reducible refine Calls.mono (h4 _) ?_); clear h4; rintro e w' ⟨rfl, rfl⟩)
      | (go_at_call 116; (with_reducible refine Calls.mono (h5 _) ?_); clear h5; rintro e w' ⟨rfl, rfl⟩)
      | (go_at_call 115; (with_reducible refine Calls.mono (fb7 _) ?_); rintro e w' ⟨rfl, rfl⟩)
      | (go_at_call 115; (with_reducible refine Calls.mono (fb8 _) ?_); rintro e w' ⟨rfl, rfl⟩))
    refine bodyPost_ret (v := .tuple #[.int .u8 97, .int .u8 122, .int .i64 9]) (by simp [results, Tryz.results102, go_sem]) rfl ?_
    exact ⟨rfl, rfl⟩
  go_enter Tryz.func83, Tryz.ntmps83
  go_wp2_with (first
    | (go_at_call 101; refine (h1 _).mono ?_; clear h1; rintro e w' ⟨rfl, rfl⟩)
    | (go_at_call 82; refine (h2 _).mono ?_; clear h2; rintro e w1 ⟨rfl, hb1⟩; have n0 := (hb1.block _ (by simp)).trans (heap_alloc_new _ _); obtain ⟨⟨q0, q1, q2, q3⟩, qf0, qf1, qf2, qf3⟩ := four' n0)
    | (go_at_call 102; refine (hS _).mono ?_; clear hS; rintro e w' ⟨rfl, rfl⟩))
  refine bodyPost_ret (v := .tuple #[.agg #[.string ⟨#[91]⟩, .int .i64 0, .int .u8 97, .int .u8 122], .int .i64 9]) (by simp [results, Tryz.results83, go_sem, q0, q1, q2, q3]) rfl ?_
  exact ⟨rfl, fin4_below (((Below.refl _ _).alloc (Nat.le_refl _) _).trans (hb1.mono (by simp))) (Nat.le_refl _) _ _ _ _⟩

set_option maxHeartbeats 1000000 in
theorem ft16 : FT ⟨#[41]⟩ ⟨⟨#[41]⟩, 0, 0, 0⟩ 1 := by
  intro w
  have h1 := index_of ⟨#[40, 41, 44, 124, 38, 33, 42]⟩ 41 1 (by kernel_rfl)
  have hx : (⟨#[41]⟩ : ByteArray).extract 0 1 = ⟨#[41]⟩ := by rfl
  go_enter Tryz.func83, Tryz.ntmps83
  go_wp2_with (go_at_call 101; refine (h1 _).mono ?_; clear h1; rintro e w' ⟨rfl, rfl⟩)
  refine bodyPost_ret (v := .tuple #[.agg #[.string ⟨#[41]⟩, .int .i64 0, .int .u8 0, .int .u8 0], .int .i64 1]) (by simp [results, Tryz.results83, go_sem]) rfl ?_
  exact ⟨rfl, (Below.refl _ _).alloc (Nat.le_refl _) (.cells #[.string ⟨#[41]⟩, .int .i64 0, .int .u8 0, .int .u8 0] 88)⟩

set_option maxHeartbeats 1000000 in
theorem ft17 : FT ⟨#[]⟩ ⟨⟨#[]⟩, 0, 0, 0⟩ 0 := by
  intro w
  go_enter Tryz.func83, Tryz.ntmps83
  go_wp2_with fail
  refine bodyPost_ret (v := .tuple #[.agg #[.string ⟨#[]⟩, .int .i64 0, .int .u8 0, .int .u8 0], .int .i64 0]) (by simp [results, Tryz.results83, go_sem]) rfl ?_
  exact ⟨rfl, (Below.refl _ w).alloc (Nat.le_refl _) (.cells #[.string ⟨#[]⟩, .int .i64 0, .int .u8 0, .int .u8 0] 88)⟩

set_option maxHeartbeats 1000000 in
theorem fb9 (w : World) : Calls Tryz.prog 115 #[.string ⟨#[39, 97, 39, 42, 39, 98, 39]⟩] w fun e w' => e = .returned (.tuple #[.int .u8 97, .int .i64 3]) ∧ w' = w := by
  go_enter Tryz.func115, Tryz.ntmps115
  go_wp2
  refine bodyPost_ret (v := .tuple #[.int .u8 97, .int .i64 3]) (by first | (simp [results, Tryz.results115, go_sem]; done) | (simp [results, Tryz.results115, go_sem]; rfl)) rfl ?_
  exact ⟨rfl, rfl⟩

set_option maxHeartbeats 1000000 in
theorem ft18 : FT ⟨#[39, 97, 39, 42, 39, 98, 39]⟩ ⟨⟨#[91]⟩, 0, 97, 97⟩ 3 := by
  intro w
  have h1 := index_of ⟨#[40, 41, 44, 124, 38, 33, 42]⟩ 39 (-1) (by kernel_rfl)
  have h2 := trim_at ⟨#[39, 97, 39, 42, 39, 98, 39]⟩ ⟨#[97, 98, 99, 100, 101, 102, 103, 104, 105, 106, 107, 108, 109, 110, 111, 112, 113, 114, 115, 116, 117, 118, 119, 120, 121, 122]⟩ ⟨#[39, 97, 39, 42, 39, 98, 39]⟩ (by decide) (ascii_of_all (by decide)) (by kernel_rfl)
  have h3 := cut_of ⟨#[39, 97, 39, 42, 39, 98, 39]⟩ ⟨#[91]⟩ ⟨#[39, 97, 39, 42, 39, 98, 39]⟩ false (by kernel_rfl) (by kernel_rfl)
  have hS : ∀ w : World, Calls Tryz.prog 102 #[.string ⟨#[39, 97, 39, 42, 39, 98, 39]⟩] w fun e w' => e = .returned (.tuple #[.int .u8 97, .int .u8 97, .int .i64 3]) ∧ w' = w := fun w => by
    clear h1 h2
    go_enter Tryz.func102, Tryz.ntmps102
    go_wp2_with (first
      | (go_at_call 114; refine (h3 _).mono ?_; clear h3; rintro e w' ⟨rfl, rfl⟩)
      | (go_at_call 115; refine (fb9 _).mono ?_; rintro e w' ⟨rfl, rfl⟩))
    refine bodyPost_ret (v := .tuple #[.int .u8 97, .int .u8 97, .int .i64 3]) (by simp [results, Tryz.results102, go_sem]) rfl ?_
    exact ⟨rfl, rfl⟩
  go_enter Tryz.func83, Tryz.ntmps83
  go_wp2_with (first
    | (go_at_call 101; refine (h1 _).mono ?_; clear h1; rintro e w' ⟨rfl, rfl⟩)
    | (go_at_call 82; refine (h2 _).mono ?_; clear h2; rintro e w1 ⟨rfl, hb1⟩; have n0 := (hb1.block _ (by simp)).trans (heap_alloc_new _ _); obtain ⟨⟨q0, q1, q2, q3⟩, qf0, qf1, qf2, qf3⟩ := four' n0)
    | (go_at_call 102; refine (hS _).mono ?_; clear hS; rintro e w' ⟨rfl, rfl⟩))
  refine bodyPost_ret (v := .tuple #[.agg #[.string ⟨#[91]⟩, .int .i64 0, .int .u8 97, .int .u8 97], .int .i64 3]) (by simp [results, Tryz.results83, go_sem, q0, q1, q2, q3]) rfl ?_
  exact ⟨rfl, fin4_below (((Below.refl _ _).alloc (Nat.le_refl _) _).trans (hb1.mono (by simp))) (Nat.le_refl _) _ _ _ _⟩

set_option maxHeartbeats 1000000 in
theorem ft19 : FT ⟨#[42, 39, 98, 39]⟩ ⟨⟨#[42]⟩, 0, 0, 0⟩ 1 := by
  intro w
  have h1 := index_of ⟨#[40, 41, 44, 124, 38, 33, 42]⟩ 42 6 (by kernel_rfl)
  have hx : (⟨#[42, 39, 98, 39]⟩ : ByteArray).extract 0 1 = ⟨#[42]⟩ := by rfl
  go_enter Tryz.func83, Tryz.ntmps83
  go_wp2_with (go_at_call 101; refine (h1 _).mono ?_; clear h1; rintro e w' ⟨rfl, rfl⟩)
  refine bodyPost_ret (v := .tuple #[.agg #[.string ⟨#[42]⟩, .int .i64 0, .int .u8 0, .int .u8 0], .int .i64 1]) (by simp [results, Tryz.results83, go_sem]) rfl ?_
  exact ⟨rfl, (Below.refl _ _).alloc (Nat.le_refl _) (.cells #[.string ⟨#[42]⟩, .int .i64 0, .int .u8 0, .int .u8 0] 88)⟩

set_option maxHeartbeats 1000000 in
theorem fb10 (w : World) : Calls Tryz.prog 115 #[.string ⟨#[39, 98, 39]⟩] w fun e w' => e = .returned (.tuple #[.int .u8 98, .int .i64 3]) ∧ w' = w := by
  go_enter Tryz.func115, Tryz.ntmps115
  go_wp2
  refine bodyPost_ret (v := .tuple #[.int .u8 98, .int .i64 3]) (by first | (simp [results, Tryz.results115, go_sem]; done) | (simp [results, Tryz.results115, go_sem]; rfl)) rfl ?_
  exact ⟨rfl, rfl⟩

set_option maxHeartbeats 1000000 in
theorem ft20 : FT ⟨#[39, 98, 39]⟩ ⟨⟨#[91]⟩, 0, 98, 98⟩ 3 := by
  intro w
  have h1 := index_of ⟨#[40, 41, 44, 124, 38, 33, 42]⟩ 39 (-1) (by kernel_rfl)
  have h2 := trim_at ⟨#[39, 98, 39]⟩ ⟨#[97, 98, 99, 100, 101, 102, 103, 104, 105, 106, 107, 108, 109, 110, 111, 112, 113, 114, 115, 116, 117, 118, 119, 120, 121, 122]⟩ ⟨#[39, 98, 39]⟩ (by decide) (ascii_of_all (by decide)) (by kernel_rfl)
  have h3 := cut_of ⟨#[39, 98, 39]⟩ ⟨#[91]⟩ ⟨#[39, 98, 39]⟩ false (by kernel_rfl) (by kernel_rfl)
  have hS : ∀ w : World, Calls Tryz.prog 102 #[.string ⟨#[39, 98, 39]⟩] w fun e w' => e = .returned (.tuple #[.int .u8 98, .int .u8 98, .int .i64 3]) ∧ w' = w := fun w => by
    clear h1 h2
    go_enter Tryz.func102, Tryz.ntmps102
    go_wp2_with (first
      | (go_at_call 114; refine (h3 _).mono ?_; clear h3; rintro e w' ⟨rfl, rfl⟩)
      | (go_at_call 115; refine (fb10 _).mono ?_; rintro e w' ⟨rfl, rfl⟩))
    refine bodyPost_ret (v := .tuple #[.int .u8 98, .int .u8 98, .int .i64 3]) (by simp [results, Tryz.results102, go_sem]) rfl ?_
    exact ⟨rfl, rfl⟩
  go_enter Tryz.func83, Tryz.ntmps83
  go_wp2_with (first
    | (go_at_call 101; refine (h1 _).mono ?_; clear h1; rintro e w' ⟨rfl, rfl⟩)
    | (go_at_call 82; refine (h2 _).mono ?_; clear h2; rintro e w1 ⟨rfl, hb1⟩; have n0 := (hb1.block _ (by simp)).trans (heap_alloc_new _ _); obtain ⟨⟨q0, q1, q2, q3⟩, qf0, qf1, qf2, qf3⟩ := four' n0)
    | (go_at_call 102; refine (hS _).mono ?_; clear hS; rintro e w' ⟨rfl, rfl⟩))
  refine bodyPost_ret (v := .tuple #[.agg #[.string ⟨#[91]⟩, .int .i64 0, .int .u8 98, .int .u8 98], .int .i64 3]) (by simp [results, Tryz.results83, go_sem, q0, q1, q2, q3]) rfl ?_
  exact ⟨rfl, fin4_below (((Below.refl _ _).alloc (Nat.le_refl _) _).trans (hb1.mono (by simp))) (Nat.le_refl _) _ _ _ _⟩

end Go.Proofs.YtnjkihbmhacgoaaGreatDoor
