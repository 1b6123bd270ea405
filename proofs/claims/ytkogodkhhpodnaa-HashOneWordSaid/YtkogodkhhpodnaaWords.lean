/-
  THE WALK of the reference's Words: the words of the bytes, in new memory.
-/
import Derived.Test.YtkogodkhhpodnaaRef
namespace Go.Proofs.Ytkogodkhhpodnaa
open Go.RowKit

theorem info_u64 : (Try.prog.info? 25).map (fun i => (i.zero, i.size, i.bytes)) = some (some (.int .u64 0), 1, 8) := by kernel_rfl

/-- one step of the reference's inner loop -/
theorem horner {l : List Int} {m : Nat} (h : Bytes8 l) (h8 : l.length ≤ 8) (hm : m < l.length) :
    IntKind.u64.wrap (IntKind.u64.wrap (256 * leI (l.drop (m + 1))) + IntKind.u64.wrap (l[m]?.getD 0)) = leI (l.drop m) := by
  have hd : l.drop m = l[m]?.getD 0 :: l.drop (m + 1) := by rw [List.drop_eq_getElem_cons hm]; simp [hm]
  have hg := h.get m
  have hu : U64 (leI (l.drop m)) := leI_u64 (h.drop m) (by rw [List.length_drop]; omega)
  obtain ⟨n, hn, _⟩ := leI_nat (h.drop (m + 1))
  rw [hd, leI] at hu
  rw [hd, leI]
  have e : leI (l.drop (m + 1)) = n := hn
  rw [e] at hu ⊢
  unfold U64 at hu
  rw [u64_of (x := 256 * (n : Int)) ⟨by omega, by omega⟩, u64_of (x := l[m]?.getD 0) ⟨by omega, by omega⟩, u64_of ⟨by omega, by omega⟩]
  omega

set_option maxHeartbeats 2000000 in
theorem Words_any (A : Option Addr) (c : Nat) (zs : List Int) (w : World) (hz : zs.length ≤ 1000000) (h8 : Bytes8 zs) (hr : RdI w w.heap.size .u8 A zs) :
    Calls Try.prog 23 #[.slice A zs.length c] w fun e w' => GivesRow w.heap.size w 25 .u64 (words zs) e w' := by
  obtain ⟨i0, hi, hz0, hz1, hz2⟩ := info_parts info_u64
  go_enter Try.func23, Try.ntmps23
  go_wp2
  go_loopw [3, 4] (fun v i wr => ∃ k : Nat, k ≤ (zs.length + 7) / 8 ∧ i = .int .i64 (8 * k : Nat) ∧ wr.ownsRow w.heap.size 25 1 v k ((upto (grp zs) k).map (Value.int .u64)) ∧ Below w.heap.size w wr) (fun _ i _ => zs.length + 8 - (intOf i).toNat)
  case atStart => exact ⟨0, Nat.zero_le _, rfl, World.ownsRow_nil _ _ _ _, Below.refl _ _⟩
  case round =>
    rename_i v _
    obtain ⟨k, hk, rfl, hrow, hW⟩ := hrel
    obtain ⟨wo, rfl⟩ : ∃ wo : World, wo = wr := ⟨_, rfl⟩
    by_cases hlt : 8 * k < zs.length
    · obtain ⟨b, o, rfl, hb, hcs⟩ : ∃ b o, A = some ⟨b, o, none⟩ ∧ b < w.heap.size ∧ ∀ j, j < zs.length → w.cell? ⟨b, o + j, none⟩ = some (.int .u8 (zs[j]?.getD 0)) := by
        rcases hr with e | h
        · rw [e] at hlt; simp at hlt
        · exact h
      have hg8 : Bytes8 ((zs.drop (8 * k)).take 8) := (h8.drop _).take _
      obtain ⟨g, hgd⟩ : ∃ g, g = (zs.drop (8 * k)).take 8 := ⟨_, rfl⟩
      rw [← hgd] at hg8
      have hgl : g.length = min 8 (zs.length - 8 * k) := by rw [hgd]; simp
      have hgc : ∀ m, m < g.length → wo.cell? ⟨b, o + (8 * k + m), none⟩ = some (.int .u8 (g[m]?.getD 0)) := fun m hm => by
        rw [(hW.cell (p := ⟨b, o + (8 * k + m), none⟩) hb).trans (hcs (8 * k + m) (by omega)), hgd, List.getElem?_take_of_lt (by omega), List.getElem?_drop]
      have hgw : Hid (leI g = grp zs k) := Lib.hid (by rw [hgd]; rfl)
      have GC := Lib.hid hgc
      have GL := Lib.hid hgl
      have G8 := Lib.hid hg8
      clear hcs hgd hgc hgl hg8 hr
      by_cases h2 : 8 * k + 8 ≤ zs.length
      all_goals
        go_wp2
        go_loop [5, 6] (fun x j => (∃ m : Nat, m < g.length ∧ j = .int .i64 (8 * k + m : Nat) ∧ x = .int .u64 (leI (g.drop (m + 1)))) ∨ (j = .int .i64 (8 * (k : Int) - 1) ∧ x = .int .u64 (leI g))) (fun _ j => (intOf j + 1).toNat)
        case atStart =>
          have hgl := GL.out
          refine .inl ⟨g.length - 1, by omega, ?_, ?_⟩
          · congr 1 <;> omega
          · rw [List.drop_eq_nil_of_le (by omega)]; rfl
        case round =>
          rcases hrel with ⟨m, hm, rfl, rfl⟩ | ⟨rfl, rfl⟩
          · have hck := GC.out m hm
            have hlen := GL.out
            have HS := Lib.hid (horner G8.out (by omega) hm)
            have hm8 : m < 8 := by omega
            have hmz : 8 * k + m < zs.length := by omega
            clear hlen
            go_wp2
            go_round
            case rel =>
              have hs := HS.out
              simp only [List.getElem?_eq_getElem hm, Option.getD_some] at hs
              rw [hs]
              cases m with
              | zero => exact .inr ⟨by congr 1 <;> omega, rfl⟩
              | succ m => exact .inl ⟨m, by omega, by congr 1 <;> omega, rfl⟩
            case measure => simp [intOf]; omega
          · have hsz := hW.size
            go_wp2_with (at_builtin; refine wpList_append_own _ rfl (.tmp 32) (.tmp 34) 40 rfl w.heap.size 25 i0 (.int .u64 0) 1 8 Try.underlying40 hi hz0 hz1 hz2 rfl (by decide) _ k _ rfl (hrow.alloc _) ⟨wo.heap.size, 0, none⟩ 1 1 [.int .u64 (leI g)] rfl rfl (cell_one_new _ _ _) (by simp [Value.oneCell']) (by unfold maxLen; omega) (by omega) (by simp; omega) ?_; intro v' w1 hown' hgrow _)
            go_roundw
            case rel =>
              have hown2 : w1.ownsRow w.heap.size 25 1 v' (k + 1) ((upto (grp zs) k).map (Value.int .u64) ++ [.int .u64 (leI g)]) := hown'
              refine ⟨k + 1, by omega, by congr 1 <;> omega, ?_, (hW.alloc hsz _).grown hgrow (by simp; omega) (fun j ej => (hrow.lt j ej).1)⟩
              rw [hgw.out] at hown2
              rw [upto_succ, List.map_append]
              exact hown2
            case measure => simp [intOf]; omega
    · obtain rfl : k = (zs.length + 7) / 8 := by omega
      go_wp2
      go_ret
      exact gives_own rfl (words_length zs).symm hrow hW
end Go.Proofs.Ytkogodkhhpodnaa
