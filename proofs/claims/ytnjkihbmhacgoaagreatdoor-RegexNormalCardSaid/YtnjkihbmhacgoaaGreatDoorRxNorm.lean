/-
  THE WALKS of normal and join.
-/
import Derived.Test.YtnjkihbmhacgoaaGreatDoorRxNormal
namespace Go.Proofs.YtnjkihbmhacgoaaGreatDoor
open Go.RowKit

mutual
/-- each list that is put in order on the way is one that can be -/
def FitT : Rx → Prop
  | .node k l h s => FitL s ∧ Fit1 (.node k l h (nfs s))
def FitL : List Rx → Prop
  | [] => True
  | x :: s => FitT x ∧ FitL s
end
theorem FitL.get : ∀ {s : List Rx}, FitL s → ∀ {j : Nat} (hj : j < s.length), FitT s[j]
  | [], _, j, hj => by simp at hj
  | x :: s, h, 0, _ => h.1
  | x :: s, h, j + 1, hj => FitL.get h.2 (by simpa using hj)
theorem wfL.get {s : List Rx} (h : wfL s = true) {j : Nat} (hj : j < s.length) : wfR s[j] = true := wf_all.1 h _ (List.getElem_mem hj)
theorem nfs_take {s : List Rx} {j : Nat} (hj : j < s.length) {l : List Rx} (hl : l = nfs (s.take j)) : l ++ [nf s[j]] = nfs (s.take (j + 1)) := by
  rw [List.take_succ_eq_append_getElem hj, hl, nfs_map, nfs_map, List.map_append]; rfl

theorem KindV.sub {w : World} {S T : Nat → Prop} {k : Int} {v : Value} (h6 : KindV w S k v) (hS : ∀ b, S b → T b) : KindV w T k v := by
  have hB : ∀ b x, BoxAt w S b x → BoxAt w T b x := fun b x ⟨h1, A, c, h2, h3⟩ => ⟨h1, A, c, h2, h3.sub hS⟩
  have hJ : ∀ v neu abs F, JAt w S v neu abs F → JAt w T v neu abs F := fun v neu abs F ⟨b1, b2, b3, e, h1, h2, h3⟩ => ⟨b1, b2, b3, e, hB _ _ h1, hB _ _ h2, h3⟩
  rcases h6 with h | ⟨e, h⟩ | ⟨e, h⟩ | ⟨e, h⟩ | h | ⟨e, b1, b2, e2, h1, h2⟩
  · exact .inl h
  · exact .inr (.inl ⟨e, hJ _ _ _ _ h⟩)
  · exact .inr (.inr (.inl ⟨e, hJ _ _ _ _ h⟩))
  · exact .inr (.inr (.inr (.inl ⟨e, hJ _ _ _ _ h⟩)))
  · exact .inr (.inr (.inr (.inr (.inl h))))
  · exact .inr (.inr (.inr (.inr (.inr ⟨e, b1, b2, e2, hB _ _ h1, hB _ _ h2⟩))))
theorem wf_kind {k l h : Int} {s : List Rx} (hw : wfR (.node k l h s) = true) : 0 ≤ k ∧ k < 8 := by
  rw [wfR_eq] at hw
  simp only [Bool.and_eq_true] at hw
  have hwk := hw.2
  unfold wfK at hwk
  split at hwk
  · rename_i h1; simp only [Bool.or_eq_true, beq_iff_eq] at h1; omega
  · split at hwk
    · rename_i h1; simp only [Bool.or_eq_true, beq_iff_eq] at h1; omega
    · split at hwk
      · rename_i h1; simp only [Bool.or_eq_true, beq_iff_eq] at h1; omega
      · cases hwk

set_option maxHeartbeats 2000000 in
set_option maxRecDepth 100000 in
/-- normal's contract -/
theorem normal_upto (m : Nat) : ∀ (x : Rx) (v f : Value) (S : Nat → Prop) (w : World), nodes x ≤ m → nodes x ≤ 100000 → wfR x = true → FitT x → FormsAt w S f → RtV w S x v → SOk S w.heap.size → Calls Tryz.prog 22 #[f, v] w fun e w' => GivesS S w (nf x) e w' := by
  induction m with
  | zero => intro x v f S w h0; cases x; simp [nodes] at h0
  | succ m ih =>
    intro x v f S w hm hbig hwf hfit hforms hv hS
    obtain ⟨k, l, h, s⟩ := x
    obtain ⟨⟨hk, hl, hh, hsl⟩, A, c, rfl, hc, hA, hs⟩ := hv.parts
    simp only [Rx.kind, Rx.lo, Rx.hi, Rx.kids] at hk hl hh hsl hc hs ⊢
    obtain ⟨i0, hi, hz0, hz1, hz2⟩ := info_parts info_Regex
    have hwk := wf_kidsL hwf
    have hwn : wfR (.node k l h (nfs s)) = true := by
      have h1 := wf_nfs s hwk
      rw [wfR_eq] at hwf ⊢
      simp only [Bool.and_eq_true] at hwf ⊢
      refine ⟨hwf.1, ?_⟩
      have h2 := hwf.2
      unfold wfK at h2 ⊢
      rw [nfs_len, h1]
      split
      · rename_i hk; rw [if_pos hk] at h2; exact h2
      · rename_i hk
        rw [if_neg hk] at h2
        split
        · rename_i hk2
          rw [if_pos hk2] at h2
          simp only [Bool.and_eq_true] at h2 ⊢
          exact ⟨h2.1, trivial⟩
        · rename_i hk2
          rw [if_neg hk2] at h2
          split
          · rfl
          · rename_i hk3; rw [if_neg hk3] at h2; exact h2
    have hfk : FitL s := hfit.1
    have hf1 : Fit1 (.node k l h (nfs s)) := hfit.2
    have hnn := nfs_nodes s
    have hnd : nodes (.node k l h s) = nodesL s + 1 := rfl
    have hk8 : 0 ≤ k ∧ k < 8 := wf_kind hwf
    clear hfit hwf
    obtain ⟨mb, es, clock, rfl, hmb, hent⟩ := hforms
    have hforms : FormsAt w S (.map (some mb)) := ⟨mb, es, clock, rfl, hmb, hent⟩
    obtain ⟨jl, fv, hlook, hkv⟩ := hent k hk8.1 hk8.2
    clear hent
    unfold rxv
    go_enter Tryz.func22, Tryz.ntmps22
    go_wp2_with (at_make; refine wpList_make_own _ rfl _ _ 28 rfl (w.heap.size + 2) 30 i0 (.agg #[.int .i64 0, .int .u8 0, .int .u8 0, .slice none 0 0]) 4 Tryz.underlying28 hi hz0 hz1 .i64 .i64 _ s.length rfl rfl rfl (by rw [hz2]; omega) (by unfold maxLen; omega) (by simp) ?_; intro w0 hown0 hgrow0; have hn0 := (hgrow0.block w.heap.size (by simp; omega) (by simp)).trans ((heap_alloc_old _ _ _ (by simp)).trans (heap_alloc_new w (.cells #[.int .i64 k, .int .u8 l, .int .u8 h, .slice A s.length c] 30))); have hn1 := (hgrow0.block (w.heap.size + 1) (by simp) (by simp)).trans (heap_alloc_new_at _ _ (by simp)); obtain ⟨t0, t1, t2, t3⟩ := four hn0)
    have hsz0 := hgrow0.size
    simp at hsz0
    have hB0 : Below w.heap.size w w0 := (below_alloc2 (Below.refl _ _) (Nat.le_refl _) _ _).grown hgrow0 (by simp; omega) (fun j ej => by cases ej)
    have hrow0 : RowT w0 (w.heap.size + 2) (fun b => S b ∨ w.heap.size + 2 ≤ b) 30 (.slice (some ⟨w.heap.size + 2, 0, none⟩) 0 s.length) [] := ⟨by simpa using hown0, by simp⟩
    clear hown0 hgrow0
    go_loopw [5, 15] (fun u i wr => ∃ (j : Nat) (ts : List Tn), j ≤ s.length ∧ i = .int .i64 j ∧ Hid (ts.map Tn.x = nfs (s.take j) ∧ ts.length = j) ∧ wr.heap[w.heap.size]? = some (.cells #[.int .i64 k, .int .u8 l, .int .u8 h, .slice A s.length c] 30 (0, 0)) ∧
        wr.heap[w.heap.size + 1]? = some (.cells #[.int .i64 0, .int .u8 0, .int .u8 0, .slice none 0 0] 30 (0, 0)) ∧
        RowT wr (w.heap.size + 2) (fun b => S b ∨ w.heap.size + 2 ≤ b) 30 u ts ∧ Below w.heap.size w wr ∧ w.heap.size + 2 ≤ wr.heap.size) (fun _ i _ => s.length - (intOf i).toNat)
    case atStart => exact ⟨0, [], Nat.zero_le _, rfl, Lib.hid ⟨rfl, rfl⟩, hn0, hn1, by simpa using hrow0, hB0, hsz0⟩
    case round =>
      obtain ⟨j, ts, hj, rfl, hts, hb0, hb1, hrow, hW, hsz⟩ := hrel
      obtain ⟨p0, p1, p2, p3⟩ := four hb0
      clear hn0 hn1 t0 t1 t2 t3 hrow0 hB0 hsz0
      by_cases hlt : j < s.length
      · obtain ⟨bl, o, A', c', rfl, hbl, h4, hx⟩ := hs.get hlt
        have h4' := h4.to (hW.block bl (hS bl hbl))
        have hnod : nodes s[j] ≤ m ∧ nodes s[j] ≤ 100000 := by have := nodes_get hlt; simp only [nodes] at hm hbig; omega
        have HX := Lib.hid (fun l => nfs_take (l := l) hlt)
        have hwj := wfL.get hwk hlt
        have hfj := hfk.get hlt
        have hC : ∀ W, Below w.heap.size w W → Calls Tryz.prog 22 #[.map (some mb), rxv s[j].kind s[j].lo s[j].hi A' s[j].kids.length c'] W fun e w' => GivesS S W (nf s[j]) e w' := fun W hWW =>
          ih _ _ _ S W hnod.1 hnod.2 hwj hfj (hforms.keep hS hWW) (hx.keep hS hWW) (hS.mono hWW.size)
        clear hx h4 hs ih hwk hfk hwn hf1 hlook hkv hmb hforms hwj hfj hnn
        generalize s[j] = x at h4' hnod HX hC
        obtain ⟨xk, xl, xh, xs⟩ := x
        obtain ⟨e0, e1, e2, e3⟩ := h4'
        simp only [Rx.kind, Rx.lo, Rx.hi, Rx.kids] at e0 e1 e2 e3 hC
        have htl := hts.out.2
        subst htl
        unfold rxv at hC
        generalize nf (.node xk xl xh xs) = y at hC HX
        have hd : ∀ o, Below (w.heap.size + 2) wr (wr.alloc o) := fun o => (Below.refl _ _).alloc hsz _
        go_wp2_with (first
          | (go_at_call 22; refine (hC _ (hW.trans ((hd _).mono (by omega)))).mono ?_; clear hC; rintro e' w1 ⟨v1, rfl, hv1, hw1⟩; obtain ⟨⟨ok1, ok2, ok3, ok4⟩, A1, c1, rfl, hc1, hA1, hs1⟩ := hv1.parts; have hy1 := hw1.size; simp at hy1; simp only [rxv])
          | (at_builtin; refine wpList_append_lies _ rfl _ _ 28 rfl (w.heap.size + 2) 30 i0 (.agg #[.int .i64 0, .int .u8 0, .int .u8 0, .slice none 0 0]) 4 40 Tryz.underlying28 hi hz0 hz1 hz2 rfl (by decide) _ ts.length (ts.flatMap Tn.cells) rfl ((own_below (hrow.1.alloc _) hw1).alloc _) ⟨w1.heap.size, 0, none⟩ 1 1 (Tn.cells ⟨y, A1, c1⟩) rfl rfl (World.news_of_block (cs := #[.int .i64 y.kind, .int .u8 y.lo, .int .u8 y.hi, .slice A1 y.kids.length c1]) (t := 30) (fr := (0, 0)) (heap_alloc_new w1 _)) (tn_one1 _) (by decide) (by unfold maxLen; omega) (by omega) (by simp; omega) (w1.heap.size + 1) (by simp) ?_; intro g' cap' w5 hown5 hgrow5 hat5 hlt5))
        clear p0 p1 p2 p3
        obtain ⟨hr5, hB5⟩ := row_step (t := ⟨y, A1, c1⟩) hrow ((Below.refl _ _ |>.alloc (Nat.le_refl _) _).trans (hw1.mono (by simp))) hsz hv1 (fun b hb => ⟨by
            rcases hb with hb | hb
            · exact .inl hb
            · refine .inr ?_
              have := hb.1; simp at this; omega, by
            rcases hb with hb | hb
            · have := hS b hb; omega
            · exact hb.2, plus_far hrow (hS.mono (by omega)) (by simp) hb⟩) hown5 hgrow5 hat5
        go_roundw
        case rel => exact ⟨ts.length + 1, _, by omega, by go_num, Lib.hid ⟨by rw [List.map_append]; exact HX.out _ hts.out.1, by rw [List.length_append]; rfl⟩, (hB5.block _ (by omega)).trans hb0, (hB5.block _ (by omega)).trans hb1, hr5, hW.trans (hB5.mono (by omega)), Nat.le_trans hsz hB5.size⟩
        case measure => simp [intOf]; omega
      · have he := Lib.hid (show s.take j = s from List.take_of_length_le (by omega))
        obtain ⟨A1, c1, rfl⟩ := hrow.val
        obtain ⟨S2, hS2d⟩ : ∃ S2, S2 = Plus S (w.heap.size + 2) wr.heap.size := ⟨_, rfl⟩
        have hS2 : SOk S2 wr.heap.size := by subst hS2d; exact plus_ok (hS.mono (by omega)) hsz
        obtain ⟨r1, r2, r3, r4⟩ := hrow.list
        have hxs : ts.map Tn.x = nfs s := by rw [hts.out.1, he.out]
        have hl2 : ts.length = (nfs s).length := by rw [← hxs, List.length_map]
        rw [hxs] at r4
        have hV : RtV wr S2 (.node k l h (nfs s)) (rxv k l h A1 ts.length c1) := by
          rw [hl2] at r2 ⊢
          refine RtV.mk ⟨hk, hl, hh, by rw [nfs_len]; exact hsl⟩ r2 r3 (r4.sub (fun b hb => ?_))
          subst hS2d
          rcases hb with ⟨(h1 | h1) | h1, h2⟩
          · exact .inl h1
          · exact .inr ⟨h1, h2⟩
          · exact .inr ⟨h1, h2⟩
        have hkv2 : KindV wr S2 k fv := (hkv.keep hS hW).sub (fun b hb => by subst hS2d; exact .inl hb)
        have hlk := run_lookup_int (P := Tryz.prog) (w := wr) (t := 54) (kt := 3) (et := 56) Tryz.underlying54 Tryz.underlying3 ((hW.block mb (Array.getElem?_eq_some_iff.1 hmb).1).trans hmb) hlook
        have hcases := kind_cases (x := .node k l h (nfs s)) hkv2 hS2 hwn (by simp only [Rx.kids]; omega) hf1 hV
        have hn1 := four hb1
        obtain ⟨res, hres⟩ : ∃ res, nf (.node k l h s) = res := ⟨_, rfl⟩
        have hres2 : nfK (.node k l h (nfs s)) = res := by rw [← hres]; simp only [nf]
        rw [hres2] at hcases
        replace hres := Lib.hid hres
        clear ih hs r4 hV hkv2 hkv hforms hwk hwn hfk hf1 hl2 hlook hnn hres2 hxs
        unfold rxv at hcases
        have hfin : ∀ (e : Ending) (w1 : World), GivesS S2 wr res e w1 → ∃ A2 d2, e = .returned (rxv res.kind res.lo res.hi A2 res.kids.length d2) ∧ RtV w1 (Plus S (w.heap.size + 1 + 1) w1.heap.size) res (rxv res.kind res.lo res.hi A2 res.kids.length d2) ∧ Below w.heap.size w w1 ∧ w1.heap[w.heap.size + 1]? = some (.cells #[.int .i64 0, .int .u8 0, .int .u8 0, .slice none 0 0] 30 (0, 0)) := fun e w1 ⟨v1, he1, hv1, hw1⟩ => by
          obtain ⟨_, A2, d2, rfl, _⟩ := hv1.parts
          refine ⟨A2, d2, he1, hv1.sub (fun b hb => ?_), hW.trans (hw1.mono hW.size), (hw1.block _ (by omega)).trans hb1⟩
          subst hS2d
          have hw1s := hw1.size
          rcases hb with (h1 | h1) | h1
          · exact .inl h1
          · exact .inr ⟨h1.1, by omega⟩
          · exact .inr ⟨by omega, h1.2⟩
        rcases hcases with ⟨rfl, hC⟩ | ⟨b1, b2, b3, rfl, hC⟩ | ⟨rfl, hC⟩ | ⟨b1, b2, rfl, hC⟩
        · go_wp2_with (go_at_call 39; refine Calls.mono hC ?_; clear hC; intro e w1 hg; obtain ⟨A2, d2, rfl, hv2, hB2, hn2⟩ := hfin e w1 hg; obtain ⟨q0, q1, q2, q3⟩ := four hn2; have hf2 := four_frozen hn2; simp only [rxv])
          refine bodyPost_ret (v := rxv res.kind res.lo res.hi A2 res.kids.length d2) (by unfold rxv; simp [results, Tryz.results22, go_sem, q0, q1, q2, q3]) rfl ?_
          rw [hres.out]
          exact fin_gives hB2 (Nat.le_succ _) hS hv2 (fun b hb => plus_sub hS hb)
        · go_wp2_with (go_at_call 56; refine Calls.mono hC ?_; clear hC; intro e w1 hg; obtain ⟨A2, d2, rfl, hv2, hB2, hn2⟩ := hfin e w1 hg; obtain ⟨q0, q1, q2, q3⟩ := four hn2; have hf2 := four_frozen hn2; simp only [rxv])
          refine bodyPost_ret (v := rxv res.kind res.lo res.hi A2 res.kids.length d2) (by unfold rxv; simp [results, Tryz.results22, go_sem, q0, q1, q2, q3]) rfl ?_
          rw [hres.out]
          exact fin_gives hB2 (Nat.le_succ _) hS hv2 (fun b hb => plus_sub hS hb)
        · go_wp2_with (go_at_call 43; refine Calls.mono hC ?_; clear hC; intro e w1 hg; obtain ⟨A2, d2, rfl, hv2, hB2, hn2⟩ := hfin e w1 hg; obtain ⟨q0, q1, q2, q3⟩ := four hn2; have hf2 := four_frozen hn2; simp only [rxv])
          refine bodyPost_ret (v := rxv res.kind res.lo res.hi A2 res.kids.length d2) (by unfold rxv; simp [results, Tryz.results22, go_sem, q0, q1, q2, q3]) rfl ?_
          rw [hres.out]
          exact fin_gives hB2 (Nat.le_succ _) hS hv2 (fun b hb => plus_sub hS hb)
        · go_wp2_with (go_at_call 44; refine Calls.mono hC ?_; clear hC; intro e w1 hg; obtain ⟨A2, d2, rfl, hv2, hB2, hn2⟩ := hfin e w1 hg; obtain ⟨q0, q1, q2, q3⟩ := four hn2; have hf2 := four_frozen hn2; simp only [rxv])
          refine bodyPost_ret (v := rxv res.kind res.lo res.hi A2 res.kids.length d2) (by unfold rxv; simp [results, Tryz.results22, go_sem, q0, q1, q2, q3]) rfl ?_
          rw [hres.out]
          exact fin_gives hB2 (Nat.le_succ _) hS hv2 (fun b hb => plus_sub hS hb)
theorem normal_any (x : Rx) (v f : Value) (S : Nat → Prop) (w : World) (hbig : nodes x ≤ 100000) (hwf : wfR x = true) (hfit : FitT x) (hforms : FormsAt w S f) (hv : RtV w S x v) (hS : SOk S w.heap.size) : Calls Tryz.prog 22 #[f, v] w fun e w' => GivesS S w (nf x) e w' := normal_upto (nodes x) x v f S w (Nat.le_refl _) hbig hwf hfit hforms hv hS
end Go.Proofs.YtnjkihbmhacgoaaGreatDoor
