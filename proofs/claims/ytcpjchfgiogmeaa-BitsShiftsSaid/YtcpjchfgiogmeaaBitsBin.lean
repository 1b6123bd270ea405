/-
  THE WALKS of the reference's binary, one operation each (made by gen/genbin.py).
-/
import Derived.Test.YtcpjchfgiogmeaaBitsDivW
namespace Go.Proofs.Ytcpjchfgiogmeaa
open Go.RowKit

/-- a call that hands back bits, wherever they lie -/
def GetsB (w : World) (l : List Bool) (e : Ending) (w' : World) : Prop := ∃ A c, e = .returned (.slice A l.length c) ∧ RdB w' w'.heap.size A l ∧ Below w.heap.size w w'
theorem gets_b {B : Nat} {w w1 w' : World} {A : Option Addr} {n c : Nat} {l : List Bool} (hl : l.length = n) (hb1 : Below w.heap.size w w1) (h : w'.ownsRow B 4 1 (.slice A n c) n (l.map Value.bool)) (hb : Below w1.heap.size w1 w') : GetsB w l (.returned (.slice A n c)) w' := by
  subst hl
  exact ⟨A, c, rfl, rdb_own h, hb1.trans (hb.mono hb1.size)⟩
theorem last_bit {w : World} {B m : Nat} {A : Option Addr} {l : List Bool} (hl : l.length = m + 1) (h : RdB w B A l) : ∃ p o x, A = some ⟨p, o, none⟩ ∧ p < B ∧ l[m]? = some x ∧ w.cell? ⟨p, o + m, none⟩ = some (.bool x) := by
  obtain ⟨p, o, rfl, hp, hc⟩ := h.at_ (j := m) (by omega)
  refine ⟨p, o, _, rfl, hp, List.getElem?_eq_getElem (by omega), ?_⟩
  have := hc m (by omega)
  rwa [List.getElem?_eq_getElem (by omega), Option.getD_some] at this

set_option maxRecDepth 100000 in
set_option maxHeartbeats 2000000 in
theorem bbin_add (A1 A2 : Option Addr) (m c1 c2 : Nat) (a b : List Bool) (w : World) (ha : a.length = m + 1) (hb : b.length = m + 1) (h64 : m + 1 ≤ 64) (_ : m + 1 ≤ c2) (hr1 : RdB w w.heap.size A1 a) (hr2 : RdB w w.heap.size A2 b) :
    Calls Try.prog 39 #[.int .i64 9, .slice A1 (m + 1) c1, .slice A2 (m + 1) c2] w (GetsB w (plusL a b false)) := by
  obtain ⟨p, o, hi, rfl, hp, hhi, hcell⟩ := last_bit ha hr1
  have HC := bplus_any (some ⟨p, o, none⟩) A2 (m + 1) c1 (m + 1) c2 a b false w ha.symm hb.symm (by rw [ha, hb]) (by omega) hr1 hr2
  have HL := Lib.hid (show (plusL a b false).length = m + 1 by rw [plusL_length _ _ _ (by rw [ha, hb]), ha])
  clear hr1 hr2 ha hb
  go_enter Try.func39, Try.ntmps39
  go_wp2_with (first
    | (go_at_call 40; refine HC.mono ?_; clear HC; rintro e w1 ⟨A, c, rfl, hrow, hb1⟩; rw [HL.out] at hrow ⊢))
  go_ret
  exact gets_b HL.out (Below.refl _ _) hrow hb1

set_option maxRecDepth 100000 in
set_option maxHeartbeats 2000000 in
theorem bbin_mul (A1 A2 : Option Addr) (m c1 c2 : Nat) (a b : List Bool) (w : World) (ha : a.length = m + 1) (hb : b.length = m + 1) (h64 : m + 1 ≤ 64) (_ : m + 1 ≤ c2) (hr1 : RdB w w.heap.size A1 a) (hr2 : RdB w w.heap.size A2 b) :
    Calls Try.prog 39 #[.int .i64 10, .slice A1 (m + 1) c1, .slice A2 (m + 1) c2] w (GetsB w (bitsL (m + 1) (ofL a * ofL b))) := by
  obtain ⟨p, o, hi, rfl, hp, hhi, hcell⟩ := last_bit ha hr1
  have HC := btimes_any (some ⟨p, o, none⟩) A2 (m + 1) c1 (m + 1) c2 a b w ha.symm hb.symm (by rw [ha, hb]) (by omega) hr1 hr2
  rw [ha] at HC
  have HL := Lib.hid (bitsL_length (m + 1) (ofL a * ofL b))
  clear hr1 hr2 ha hb
  go_enter Try.func39, Try.ntmps39
  go_wp2_with (first
    | (go_at_call 47; refine HC.mono ?_; clear HC; rintro e w1 ⟨A, c, rfl, hrow, hb1⟩; rw [HL.out] at hrow ⊢))
  go_ret
  exact gets_b HL.out (Below.refl _ _) hrow hb1

set_option maxRecDepth 100000 in
set_option maxHeartbeats 2000000 in
theorem bbin_udiv (A1 A2 : Option Addr) (m c1 c2 : Nat) (a b : List Bool) (w : World) (ha : a.length = m + 1) (hb : b.length = m + 1) (h64 : m + 1 ≤ 64) (hc2 : m + 1 ≤ c2) (hr1 : RdB w w.heap.size A1 a) (hr2 : RdB w w.heap.size A2 b) :
    Calls Try.prog 39 #[.int .i64 11, .slice A1 (m + 1) c1, .slice A2 (m + 1) c2] w (GetsB w (bitsL (m + 1) (divQ (m + 1) (ofL a) (ofL b)))) := by
  obtain ⟨p, o, hi, rfl, hp, hhi, hcell⟩ := last_bit ha hr1
  have HC := bdivided_any (some ⟨p, o, none⟩) A2 (m + 1) c1 c2 a b w ha hb (by omega) h64 hc2 hr1 hr2
  have HL := Lib.hid (show (bitsL (m + 1) (divQ (m + 1) (ofL a) (ofL b))).length = m + 1 from bitsL_length _ _)
  clear hr1 hr2 ha hb
  go_enter Try.func39, Try.ntmps39
  go_wp2_with (first
    | (go_at_call 48; refine HC.mono ?_; clear HC; rintro e w1 ⟨A, c, A', c', rfl, hq, hr, hb1⟩))
  go_ret
  exact ⟨_, _, by rw [HL.out]; rfl, hq, hb1⟩

set_option maxRecDepth 100000 in
set_option maxHeartbeats 2000000 in
theorem bbin_urem (A1 A2 : Option Addr) (m c1 c2 : Nat) (a b : List Bool) (w : World) (ha : a.length = m + 1) (hb : b.length = m + 1) (h64 : m + 1 ≤ 64) (hc2 : m + 1 ≤ c2) (hr1 : RdB w w.heap.size A1 a) (hr2 : RdB w w.heap.size A2 b) :
    Calls Try.prog 39 #[.int .i64 12, .slice A1 (m + 1) c1, .slice A2 (m + 1) c2] w (GetsB w (bitsL (m + 1) (divR (ofL a) (ofL b)))) := by
  obtain ⟨p, o, hi, rfl, hp, hhi, hcell⟩ := last_bit ha hr1
  have HC := bdivided_any (some ⟨p, o, none⟩) A2 (m + 1) c1 c2 a b w ha hb (by omega) h64 hc2 hr1 hr2
  have HL := Lib.hid (show (bitsL (m + 1) (divR (ofL a) (ofL b))).length = m + 1 from bitsL_length _ _)
  clear hr1 hr2 ha hb
  go_enter Try.func39, Try.ntmps39
  go_wp2_with (first
    | (go_at_call 48; refine HC.mono ?_; clear HC; rintro e w1 ⟨A, c, A', c', rfl, hq, hr, hb1⟩))
  go_ret
  exact ⟨_, _, by rw [HL.out]; rfl, hr, hb1⟩

set_option maxRecDepth 100000 in
set_option maxHeartbeats 2000000 in
theorem bbin_shl (A1 A2 : Option Addr) (m c1 c2 : Nat) (a b : List Bool) (w : World) (ha : a.length = m + 1) (hb : b.length = m + 1) (h64 : m + 1 ≤ 64) (_ : m + 1 ≤ c2) (hr1 : RdB w w.heap.size A1 a) (hr2 : RdB w w.heap.size A2 b) :
    Calls Try.prog 39 #[.int .i64 13, .slice A1 (m + 1) c1, .slice A2 (m + 1) c2] w (GetsB w (movedL a ((min (ofL b) (m + 1) : Nat) : Int) false)) := by
  obtain ⟨p, o, hi, rfl, hp, hhi, hcell⟩ := last_bit ha hr1
  have HP := bplaces_any A2 (m + 1) c2 _ b w hb.symm (by omega) hr2
  rw [hb] at HP
  have hk : min (ofL b) (m + 1) ≤ 64 := by omega
  have HE := Lib.hid (show a[m]?.getD false = hi by rw [hhi]; rfl)
  generalize min (ofL b) (m + 1) = k at HP hk ⊢
  have HC := bmoved_any (some ⟨p, o, none⟩) (m + 1) c1 a ((k : Int)) false w ha.symm (by omega) (by omega) (by omega) hr1
  have HL := Lib.hid (show (movedL a ((k : Int)) false).length = m + 1 by rw [movedL_length, ha])
  clear hhi
  clear hr1 hr2 ha hb
  go_enter Try.func39, Try.ntmps39
  go_wp2_with (first
    | (go_at_call 49; refine HP.mono ?_; clear HP; rintro e w1 ⟨rfl, rfl⟩)
    | (go_at_call 35; refine HC.mono ?_; clear HC; rintro e w1 ⟨A, c, rfl, hrow, hb1⟩; rw [HL.out] at hrow ⊢))
  go_ret
  exact gets_b HL.out (Below.refl _ _) hrow hb1

set_option maxRecDepth 100000 in
set_option maxHeartbeats 2000000 in
theorem bbin_lshr (A1 A2 : Option Addr) (m c1 c2 : Nat) (a b : List Bool) (w : World) (ha : a.length = m + 1) (hb : b.length = m + 1) (h64 : m + 1 ≤ 64) (_ : m + 1 ≤ c2) (hr1 : RdB w w.heap.size A1 a) (hr2 : RdB w w.heap.size A2 b) :
    Calls Try.prog 39 #[.int .i64 14, .slice A1 (m + 1) c1, .slice A2 (m + 1) c2] w (GetsB w (movedL a (-((min (ofL b) (m + 1) : Nat) : Int)) false)) := by
  obtain ⟨p, o, hi, rfl, hp, hhi, hcell⟩ := last_bit ha hr1
  have HP := bplaces_any A2 (m + 1) c2 _ b w hb.symm (by omega) hr2
  rw [hb] at HP
  have hk : min (ofL b) (m + 1) ≤ 64 := by omega
  have HE := Lib.hid (show a[m]?.getD false = hi by rw [hhi]; rfl)
  generalize min (ofL b) (m + 1) = k at HP hk ⊢
  have HC := bmoved_any (some ⟨p, o, none⟩) (m + 1) c1 a (-(k : Int)) false w ha.symm (by omega) (by omega) (by omega) hr1
  have HL := Lib.hid (show (movedL a (-(k : Int)) false).length = m + 1 by rw [movedL_length, ha])
  clear hhi
  clear hr1 hr2 ha hb
  go_enter Try.func39, Try.ntmps39
  go_wp2_with (first
    | (go_at_call 49; refine HP.mono ?_; clear HP; rintro e w1 ⟨rfl, rfl⟩)
    | (go_at_call 35; refine HC.mono ?_; clear HC; rintro e w1 ⟨A, c, rfl, hrow, hb1⟩; rw [HL.out] at hrow ⊢))
  go_ret
  exact gets_b HL.out (Below.refl _ _) hrow hb1

set_option maxRecDepth 100000 in
set_option maxHeartbeats 2000000 in
theorem bbin_ashr (A1 A2 : Option Addr) (m c1 c2 : Nat) (a b : List Bool) (w : World) (ha : a.length = m + 1) (hb : b.length = m + 1) (h64 : m + 1 ≤ 64) (_ : m + 1 ≤ c2) (hr1 : RdB w w.heap.size A1 a) (hr2 : RdB w w.heap.size A2 b) :
    Calls Try.prog 39 #[.int .i64 15, .slice A1 (m + 1) c1, .slice A2 (m + 1) c2] w (GetsB w (movedL a (-((min (ofL b) (m + 1) : Nat) : Int)) (a[m]?.getD false))) := by
  obtain ⟨p, o, hi, rfl, hp, hhi, hcell⟩ := last_bit ha hr1
  have HP := bplaces_any A2 (m + 1) c2 _ b w hb.symm (by omega) hr2
  rw [hb] at HP
  have hk : min (ofL b) (m + 1) ≤ 64 := by omega
  have HE := Lib.hid (show a[m]?.getD false = hi by rw [hhi]; rfl)
  generalize min (ofL b) (m + 1) = k at HP hk ⊢
  have HC := bmoved_any (some ⟨p, o, none⟩) (m + 1) c1 a (-(k : Int)) hi w ha.symm (by omega) (by omega) (by omega) hr1
  have HL := Lib.hid (show (movedL a (-(k : Int)) hi).length = m + 1 by rw [movedL_length, ha])
  clear hhi
  clear hr1 hr2 ha hb
  go_enter Try.func39, Try.ntmps39
  go_wp2_with (first
    | (go_at_call 49; refine HP.mono ?_; clear HP; rintro e w1 ⟨rfl, rfl⟩)
    | (go_at_call 35; refine HC.mono ?_; clear HC; rintro e w1 ⟨A, c, rfl, hrow, hb1⟩; rw [HL.out] at hrow ⊢))
  go_ret
  rw [HE.out]
  exact gets_b HL.out (Below.refl _ _) hrow hb1

set_option maxRecDepth 100000 in
set_option maxHeartbeats 2000000 in
theorem bbin_ult (A1 A2 : Option Addr) (m c1 c2 : Nat) (a b : List Bool) (w : World) (ha : a.length = m + 1) (hb : b.length = m + 1) (h64 : m + 1 ≤ 64) (_ : m + 1 ≤ c2) (hr1 : RdB w w.heap.size A1 a) (hr2 : RdB w w.heap.size A2 b) :
    Calls Try.prog 39 #[.int .i64 16, .slice A1 (m + 1) c1, .slice A2 (m + 1) c2] w (GetsB w ([decide (ofL a < ofL b)])) := by
  obtain ⟨p, o, hi, rfl, hp, hhi, hcell⟩ := last_bit ha hr1
  have HC := bless_any (some ⟨p, o, none⟩) A2 (m + 1) c1 (m + 1) c2 a b w ha.symm hb.symm (by rw [ha, hb]) (by omega) hr1 hr2
  generalize decide (ofL a < ofL b) = x at HC ⊢
  clear hr1 hr2 ha hb
  go_enter Try.func39, Try.ntmps39
  go_wp2_with (first
    | (go_at_call 51; refine HC.mono ?_; clear HC; rintro e w1 ⟨rfl, hb1⟩)
    | (go_at_call 50; refine (bone_any x w1).mono ?_; rintro e w2 ⟨A, c, rfl, hrow, hb2⟩))
  go_ret
  exact gets_b rfl hb1 hrow hb2
end Go.Proofs.Ytcpjchfgiogmeaa
