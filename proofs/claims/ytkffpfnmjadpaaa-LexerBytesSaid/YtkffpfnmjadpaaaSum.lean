/-
  THE WALK of hash.Sum: for every label and every list of integers it returns 'sumI', and nothing that lay has turned.
-/
import Derived.Test.YtkffpfnmjadpaaaIter
import Derived.Test.YtkffpfnmjadpaaaMix
import Derived.Outline
namespace Go.Proofs.Ytkffpfnmjadpaaa
open Go.RowKit Go.Shelf
attribute [local go_sem] Oper.semAt_some

theorem KeepX.setCell {S : Nat → Prop} (W : World) {p : Addr} (hp : ¬ S p.block) (v : Value) : KeepX S W (W.setCell p v) := fun b hb => Below.heap_setCell W p v b (fun e => hp (e ▸ hb))

set_option maxRecDepth 100000 in
set_option maxHeartbeats 2000000 in
theorem Sum_any (s : ByteArray) (A : Option Addr) (c : Nat) (zs : List Int) (w : World) (hs : s.size ≤ 140737488351232) (hz : zs.length ≤ 140737488351232) (hr : RdI w w.heap.size .i64 A zs) :
    Calls Try.prog 38 #[.string s, .slice A zs.length c] w fun e w' => e = .returned (.int .u64 (sumI (sb s) zs)) ∧ Below w.heap.size w w' := by
  obtain ⟨cap, C, hcap, hconv, hC⟩ := conv_bytes s (w.alloc (.cells #[.int .u64 0] 47))
  refine (callsIn_wide (n := 3)).1 ?_
  refine callsIn_of_wp_marks Try.func38 rfl trivial ?_ rfl
  simp only [Try.ntmps38, List.size_toArray, List.length_cons, List.length_nil, Nat.reduceAdd, Nat.reduceSub, Array.replicate_succ, Array.replicate_zero, List.push_toArray, List.append_toArray, List.nil_append, List.cons_append]
  gi_wp2_with (refine ⟨trivial, ?_⟩; gi_at_call 37; refine (callsIn_wide.2 (groups_any _ _ _ _)).mono ?_; rintro e w' ⟨rfl, rfl⟩)
  have bS := ((Boxed.new w 47 (.int .u64 0)).alloc (.cells C 5 (C.size, C.size + 1))).alloc (.cells #[.slice (some ⟨w.heap.size + 1, 0, none⟩) s.size cap] 24)
  have bB := Boxed.new ((w.alloc (.cells #[.int .u64 0] 47)).alloc (.cells C 5 (C.size, C.size + 1))) 24 (.slice (some ⟨w.heap.size + 1, 0, none⟩) s.size cap)
  simp only [World.size_alloc] at bB
  have hB0 : Below w.heap.size w (((w.alloc (.cells #[.int .u64 0] 47)).alloc (.cells C 5 (C.size, C.size + 1))).alloc (.cells #[.slice (some ⟨w.heap.size + 1, 0, none⟩) s.size cap] 24)).drew :=
    ((((Below.refl _ w).alloc (Nat.le_refl _) _).alloc (by simp) _).alloc (by simp; omega) _).drew
  have hrd : RdI (((w.alloc (.cells #[.int .u64 0] 47)).alloc (.cells C 5 (C.size, C.size + 1))).alloc (.cells #[.slice (some ⟨w.heap.size + 1, 0, none⟩) s.size cap] 24)).drew (w.heap.size + 1 + 1) .u8 (some ⟨w.heap.size + 1, 0, none⟩) (sb s) :=
    .inr ⟨w.heap.size + 1, 0, rfl, Nat.lt_succ_self _, fun j hj => by
      have h1 := World.cell?_alloc_mark (w.alloc (.cells #[.int .u64 0] 47)) C 5 (C.size, C.size + 1) j
      rw [hC.out j hj, World.size_alloc] at h1
      rw [Nat.zero_add]
      exact (World.cell?_alloc_lt _ _ _ (by simp)).trans h1⟩
  refine wpIn_rangeFunc_ownF rfl (by decide) (gf := 49) (lb := #[.pointer (some ⟨w.heap.size + 1 + 1, 0, none⟩)]) rfl trivial (enters_of Try.func49 (by kernel_rfl) rfl)
    (groups_stops 2 (by decide) (w.heap.size + 1 + 1) (w.heap.size + 1 + 1) cap (some ⟨w.heap.size + 1, 0, none⟩) (sb s) (fun b => b = w.heap.size + 1 ∨ b = w.heap.size + 1 + 1) (by rw [sb_length]; exact hs) (by rw [sb_length]; exact hcap) (sb_bytes s) _
      (by simp) (by simp) (.inr rfl) (fun _ ad e => by cases e; exact .inl rfl) (by rw [sb_length]; exact bB.cell) hrd)
    KeepX.trans (fun W l o o' hl _ _ _ => KeepX.put (n := w.heap.size + 3) (by rintro b (rfl | rfl) <;> omega) W l o' (by simp at hl; omega)) (Below.refl _ _) (fun _ => rfl)
    (fun pre W => Boxed W w.heap.size 47 (.int .u64 (foldI 0 pre)) ∧ Below w.heap.size w W)
    (fun _ _ _ => False)
    (OwnFrom.and (Own.from (boxed_own _ _ _) _) (ownFrom_below (Nat.le_refl _) (by simp; omega)))
    (fun _ _ _ _ _ hs _ _ => hs)
    ⟨bS, hB0⟩
    (fun x => { tmps :=
        #[Value.string s, Value.slice A zs.length c, undef, undef, Value.int IntKind.u64 0,
          Value.pointer (some { block := w.heap.size, off := 0 }), .int .u64 x, undef, undef, Value.string s,
          Value.slice (some { block := w.heap.size + 1, off := 0 }) s.size cap,
          Value.func (Fn.func 49) #[] #[Value.pointer (some { block := w.heap.size + 1 + 1, off := 0 })], .int .u64 x, undef,
          undef, undef, undef, undef, undef, undef, undef, undef, undef, undef, undef, undef, undef, undef, undef,
          undef, undef, undef, undef, undef, undef, undef, undef, undef, undef], defers := [] }) ?assign ?body ?done ?stop
  case assign =>
    intro l x W K hK
    gi_wp2
    exact hK
  case body =>
    rintro l pre x W ⟨hB, hW⟩ _
    have hc := hB.cell
    have hf := hB.frozen
    gi_wp2_with (refine ⟨trivial, ?_⟩; gi_at_call 51; refine (CallsIn.inRound l (callsIn_wide.2 (mix_any _ _ _))).mono ?_; rintro e w' ⟨rfl, rfl⟩)
    exact ⟨KeepsOthers.setCell _ _ _, KeepX.setCell _ (by simp; omega) _, by rw [foldI_snoc]; exact hB.set _, hW.setCell (p := ⟨w.heap.size, 0, none⟩) (Nat.le_refl _) _⟩
  case done =>
    rintro D ys W hD rfl ⟨hB, hW⟩ hK
    have hc := hB.cell
    have hf := hB.frozen
    gi_wp2_with (refine ⟨trivial, ?_⟩; gi_at_call 51; refine (callsIn_wide.2 (mix_any _ _ _)).mono ?_; rintro e w' ⟨rfl, rfl⟩)
    gi_loopw [28] (fun i wr => ∃ k : Nat, k ≤ zs.length ∧ i = .int .i64 k ∧ Boxed wr w.heap.size 47 (.int .u64 (foldI (mixI (mixI (foldI 0 (words (sb s))) s.size) zs.length) ((zs.take k).map w64))) ∧ Below w.heap.size w wr ∧ wr.heap[D]? = some (.deferred (some []))) (fun i _ => zs.length - (intOf i).toNat)
    case atStart =>
      exact ⟨0, Nat.zero_le _, rfl, (hB.set _).set _, (hW.setCell (p := ⟨w.heap.size, 0, none⟩) (Nat.le_refl _) _).setCell (p := ⟨w.heap.size, 0, none⟩) (Nat.le_refl _) _, ((KeepsOthers.setCell _ _ _).trans (KeepsOthers.setCell _ _ _)).same D _ hK rfl⟩
    case round =>
      clear hc hf hB hW hK hrd hB0 bB bS hconv hC
      obtain ⟨k, hk, rfl, hB, hW, hK⟩ := hrel
      have hc := hB.cell
      have hf := hB.frozen
      by_cases hlt : k < zs.length
      · obtain ⟨b, o, rfl, hb, hcs⟩ : ∃ b o, A = some ⟨b, o, none⟩ ∧ b < w.heap.size ∧ ∀ j, j < zs.length → w.cell? ⟨b, o + j, none⟩ = some (.int .i64 (zs[j]?.getD 0)) := by
          rcases hr with e | h
          · rw [e] at hlt; simp at hlt
          · exact h
        have hck := (hW.cell (p := ⟨b, o + k, none⟩) hb).trans (hcs k hlt)
        have HS : Hid (foldI (mixI (mixI (foldI 0 (words (sb s))) s.size) zs.length) ((zs.take (k + 1)).map w64) = mixI (foldI (mixI (mixI (foldI 0 (words (sb s))) s.size) zs.length) ((zs.take k).map w64)) (IntKind.u64.wrap (zs[k]?.getD 0))) :=
          Lib.hid (by rw [take_snoc hlt, List.map_append, List.map_cons, List.map_nil, foldI_snoc]; rfl)
        clear hcs hr
        gi_wp2_with (refine ⟨trivial, ?_⟩; gi_at_call 51; refine (callsIn_wide.2 (mix_any _ _ _)).mono ?_; rintro e w' ⟨rfl, rfl⟩)
        go_roundw
        case rel => exact ⟨k + 1, by omega, by go_num, by rw [HS.out]; simpa [hlt] using hB.set _, hW.setCell (p := ⟨w.heap.size, 0, none⟩) (Nat.le_refl _) _, (KeepsOthers.setCell _ _ _).same D _ hK rfl⟩
        case measure => simp [intOf]; omega
      · have he : Hid ((zs.map w64).take k = zs.map w64) := Lib.hid (List.take_of_length_le (by rw [List.length_map]; omega))
        gi_wp2_with (refine ⟨trivial, ?_⟩; gi_at_call 51; refine (callsIn_wide.2 (mix_any _ _ _)).mono ?_; rintro e w' ⟨rfl, rfl⟩)
        refine ⟨by simp, .inl ⟨_, _, rfl, run_takeDeferred hK, ?_⟩⟩
        refine ⟨_, results_tmp rfl _ _ _, ?_, hW.trans (belowK_b (w := w) (Nat.le_refl _) wr D _ _ (by simp at hD; omega) hK rfl rfl)⟩
        rw [he.out, sumI, sb_length]; rfl
  case stop =>
    rintro D c pre W hD _ h _
    exact h.elim

theorem Sum_at (s : ByteArray) (A : Option Addr) (n c : Nat) (zs : List Int) (w : World) (hn : n = zs.length) (hs : s.size ≤ 140737488351232) (hz : zs.length ≤ 140737488351232) (hr : RdI w w.heap.size .i64 A zs) :
    Calls Try.prog 38 #[.string s, .slice A n c] w fun e w' => e = .returned (.int .u64 (sumI (sb s) zs)) ∧ Below w.heap.size w w' := by
  subst hn
  exact Sum_any s A c zs w hs hz hr

end Go.Proofs.Ytkffpfnmjadpaaa
