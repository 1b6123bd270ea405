/-
  THE VALUES of wire's reference: how a slice of them reads; the walks of Same and Encode.
-/
import Derived.Test.YtebfgdonikedaaaWireRef
import Derived.Test.YtebfgdonikedaaaRef
import Derived.Outline
namespace Go.Proofs.Ytebfgdonikedaaa
open Go.RowKit

/-- a slice value reads as zs -/
def RdS (w : World) (B : Nat) (k : IntKind) (v : Value) (zs : List Int) : Prop := ∃ A c, v = .slice A zs.length c ∧ zs.length ≤ c ∧ (A = none → c = 0) ∧ RdI w B k A zs
theorem RdS.below {n₀ : Nat} {A B : World} {k : IntKind} {v : Value} {zs : List Int} (h : RdS A n₀ k v zs) (hb : Below n₀ A B) : RdS B n₀ k v zs := by
  obtain ⟨p, c, e, h1, h2, h3⟩ := h
  exact ⟨p, c, e, h1, h2, h3.below hb⟩
theorem RdS.mono {w : World} {B B2 : Nat} {k : IntKind} {v : Value} {zs : List Int} (h : RdS w B k v zs) (hB : B ≤ B2) : RdS w B2 k v zs := by
  obtain ⟨p, c, e, h1, h2, h3⟩ := h
  exact ⟨p, c, e, h1, h2, h3.mono hB⟩

/-- five cells from off on are the value x -/
def ValAt (w : World) (B b off : Nat) (x : Vl) : Prop := ∃ vb vl, w.cell? ⟨b, off, none⟩ = some (.int .i64 x.k) ∧ w.cell? ⟨b, off + 1, none⟩ = some (.int .u64 x.u) ∧ w.cell? ⟨b, off + 2, none⟩ = some (.int .i64 x.n) ∧
  w.cell? ⟨b, off + 3, none⟩ = some vb ∧ w.cell? ⟨b, off + 4, none⟩ = some vl ∧ RdS w B .u8 vb x.b ∧ RdS w B .i64 vl x.l
theorem ValAt.below {n₀ b off : Nat} {A B : World} {x : Vl} (h : ValAt A n₀ b off x) (hlt : b < n₀) (hb : Below n₀ A B) : ValAt B n₀ b off x := by
  obtain ⟨vb, vl, h0, h1, h2, h3, h4, h5, h6⟩ := h
  exact ⟨vb, vl, (hb.cell (p := ⟨b, off, none⟩) hlt).trans h0, (hb.cell (p := ⟨b, off + 1, none⟩) hlt).trans h1, (hb.cell (p := ⟨b, off + 2, none⟩) hlt).trans h2, (hb.cell (p := ⟨b, off + 3, none⟩) hlt).trans h3, (hb.cell (p := ⟨b, off + 4, none⟩) hlt).trans h4, h5.below hb, h6.below hb⟩

/-- the slice (address A) reads as the values xs -/
def RdV (w : World) (B : Nat) (A : Option Addr) (xs : List Vl) : Prop :=
  xs = [] ∨ ∃ b o, A = some ⟨b, o, none⟩ ∧ b < B ∧ ∀ j x, xs[j]? = some x → ValAt w B b (o + j * 5) x
theorem RdV.below {n₀ : Nat} {A B : World} {p : Option Addr} {xs : List Vl} (h : RdV A n₀ p xs) (hb : Below n₀ A B) : RdV B n₀ p xs := by
  rcases h with h | ⟨b, o, e, hlt, hc⟩
  · exact .inl h
  · exact .inr ⟨b, o, e, hlt, fun j x hx => (hc j x hx).below hlt hb⟩

theorem encs_take {xs : List Vl} {k : Nat} (hk : k < xs.length) : encs (xs.take (k + 1)) = encs (xs.take k) ++ (xs[k]).enc := by
  unfold encs
  rw [List.take_succ_eq_append_getElem hk, List.map_append, List.flatten_append]
  simp
theorem enc_len {x : Vl} (h : x.ok) : x.enc.length ≤ 20000 := by
  obtain ⟨⟨_, _⟩, o3, o4, o5, o6, o7, o8⟩ := h
  unfold Vl.enc
  have hu : (uv x.u.toNat).length ≤ 10 := uv_length_64 (by unfold U64 at o3; omega)
  have hn : (uv (zz x.n)).length ≤ 10 := uv_length_64 (zz_lt o4.1 o4.2)
  have hb : (raw x.b).length ≤ 20000 := by
    unfold raw
    rw [List.length_append]
    have := uv_length_64 (n := x.b.length) (by omega)
    omega
  have hl : (ints x.l).length ≤ 20000 := by
    unfold ints
    rw [List.length_append]
    have := uv_length_64 (n := x.l.length) (by omega)
    have := flat_len o6
    omega
  split
  · omega
  · split
    · omega
    · split
      · simp [bool1]
      · split
        · exact hb
        · exact hl
theorem encs_len {xs : List Vl} (h : ∀ x ∈ xs, x.ok) : (encs xs).length ≤ 20000 * xs.length := by
  unfold encs
  induction xs with
  | nil => simp
  | cons x xs ih =>
    have h1 := enc_len (h x (by simp))
    have h2 := ih (fun y hy => h y (by simp [hy]))
    simp only [List.map_cons, List.flatten_cons, List.length_append, List.length_cons]
    omega

set_option maxHeartbeats 1000000 in
theorem wEncode_any (A : Option Addr) (n c : Nat) (xs : List Vl) (w : World) (hn : n = xs.length) (hz : xs.length ≤ 1000) (hok : ∀ x ∈ xs, x.ok) (hr : RdV w w.heap.size A xs) :
    Calls Try.prog 17 #[.slice A n c] w fun e w' => GivesRow w.heap.size w 5 .u8 (encs xs) e w' := by
  subst hn
  obtain ⟨i0, hi, hz0, hz1, hz2⟩ := info_parts info_u8
  go_enter Try.func17, Try.ntmps17
  go_wp2
  go_loopw [3, 4] (fun v i wr => ∃ (k : Nat) (bs : List Int), k ≤ xs.length ∧ i = .int .i64 k ∧ Hid (bs = encs (xs.take k)) ∧ wr.ownsRow w.heap.size 5 1 v bs.length (bs.map (Value.int .u8)) ∧ Below w.heap.size w wr) (fun _ i _ => xs.length - (intOf i).toNat)
  case atStart => exact ⟨0, [], Nat.zero_le _, rfl, Lib.hid rfl, World.ownsRow_nil _ _ _ _, Below.refl _ _⟩
  case round =>
    obtain ⟨k, bs, hk, rfl, hbs, hrow, hW⟩ := hrel
    have hsz := hW.size
    by_cases hlt : k < xs.length
    · have HS := Lib.hid (encs_take hlt)
      have hbl : bs.length ≤ 20000 * k := by
        have h1 := encs_len (xs := xs.take k) (fun z hz => hok z (List.mem_of_mem_take hz))
        rw [← hbs.out, List.length_take] at h1
        omega
      obtain ⟨b, o, rfl, hb, hcs⟩ : ∃ b o, A = some ⟨b, o, none⟩ ∧ b < w.heap.size ∧ ∀ j x, xs[j]? = some x → ValAt w w.heap.size b (o + j * 5) x := by
        rcases hr with e | h
        · rw [e] at hlt; simp at hlt
        · exact h
      have hva := (hcs k xs[k] (List.getElem?_eq_getElem hlt)).below hb hW
      have hxo := hok xs[k] (List.getElem_mem hlt)
      have hel := enc_len hxo
      clear hcs hr hok
      generalize xs[k] = x at hva hxo HS hel
      obtain ⟨xk, xu, xn, xb, xl⟩ := x
      obtain ⟨vb, vl, h0, h1, h2, h3, h4, h5, h6⟩ := hva
      obtain ⟨⟨o1, o2⟩, o3, o4, o5, o6, o7, o8⟩ := hxo
      simp only at h0 h1 h2 h3 h4 h5 h6 o1 o2 o3 o4 o5 o6 o7 o8
      obtain ⟨m, hm⟩ : ∃ m, m = (Vl.mk xk xu xn xb xl).enc := ⟨_, rfl⟩
      rw [← hm] at HS hel
      have HM := Lib.hid hm
      clear hm
      have HR : Hid (∀ w2 w3 : World, ∀ v' : Value, ∀ row : Option Nat, Below wr.heap.size wr w2 → w2.grownBy w3 row → (∀ j, row = some j → w.heap.size ≤ j) → w3.ownsRow w.heap.size 5 1 v' (bs.length + m.length) (bs.map (Value.int .u8) ++ m.map (Value.int .u8)) →
          Hid (bs ++ m = encs (xs.take (k + 1))) ∧ w3.ownsRow w.heap.size 5 1 v' (bs ++ m).length ((bs ++ m).map (Value.int .u8)) ∧ Below w.heap.size w w3) := Lib.hid (fun w2 w3 v' row hb2 hg hrw ho =>
        ⟨Lib.hid (by rw [HS.out, hbs.out]), by rw [List.map_append, List.length_append]; exact ho, (hW.trans (hb2.mono hsz)).grown hg (Nat.le_trans hsz hb2.size) hrw⟩)
      have hkk : xk = 0 ∨ xk = 1 ∨ xk = 2 ∨ xk = 3 ∨ xk = 4 ∨ xk = 5 := by omega
      clear o1 o2
      rcases hkk with rfl | rfl | rfl | rfl | rfl | rfl
      · have hm0 : m = uv xu.toNat := by rw [HM.out]; rfl
        have hxu : xu = (xu.toNat : Int) := by unfold U64 at o3; omega
        have hlt64 : xu.toNat < 18446744073709551616 := by unfold U64 at o3; omega
        have hC : ∀ W, Below wr.heap.size wr W → Calls Try.prog 40 #[.int .u64 xu] W fun e w' => GivesRow W.heap.size W 5 .u8 m e w' := fun W _ => by
          rw [hm0, hxu]; exact wUint_any xu.toNat W hlt64
        clear hm0 hxu hlt64 o3
        clear h3 h4 h5 h6
        go_wp2_with (first
          | (go_at_call 40; refine (hC _ (Below.refl _ _)).mono ?_; clear hC; rintro e w2 ⟨A2, c2, rfl, hc2, hrow2, hb2⟩; have hrow3 := own_below hrow hb2; have hr2 := rd_own hrow2; have hsz2 := Nat.le_trans hsz hb2.size)
          | (at_builtin; refine wpList_append_rd _ rfl (.tmp 26) (.tmp 32) 24 rfl w.heap.size 5 i0 (.int .u8 0) 1 1 Try.underlying24 hi hz0 hz1 hz2 rfl rfl (by decide) _ bs.length _ rfl hrow3 .u8 A2 m.length c2 m rfl rfl (own_none hrow2) hc2 hr2 (by unfold maxLen; omega) (by omega) hsz2 ?_; intro v' w3 hown' hgrow))
        go_roundw
        case rel =>
          obtain ⟨r1, r2, r3⟩ := HR.out w2 w3 v' _ hb2 hgrow (fun j ej => (hrow.lt j ej).1) hown'
          exact ⟨k + 1, bs ++ m, by omega, by go_num, r1, r2, r3⟩
        case measure => simp [intOf]; omega
      · have hm0 : m = uv (zz xn) := by rw [HM.out]; rfl
        have hC : ∀ W, Below wr.heap.size wr W → Calls Try.prog 41 #[.int .i64 xn] W fun e w' => GivesRow W.heap.size W 5 .u8 m e w' := fun W _ => by
          rw [hm0]; exact wInt_any xn W o4.1 o4.2
        clear hm0
        clear h3 h4 h5 h6
        go_wp2_with (first
          | (go_at_call 41; refine (hC _ (Below.refl _ _)).mono ?_; clear hC; rintro e w2 ⟨A2, c2, rfl, hc2, hrow2, hb2⟩; have hrow3 := own_below hrow hb2; have hr2 := rd_own hrow2; have hsz2 := Nat.le_trans hsz hb2.size)
          | (at_builtin; refine wpList_append_rd _ rfl (.tmp 36) (.tmp 42) 24 rfl w.heap.size 5 i0 (.int .u8 0) 1 1 Try.underlying24 hi hz0 hz1 hz2 rfl rfl (by decide) _ bs.length _ rfl hrow3 .u8 A2 m.length c2 m rfl rfl (own_none hrow2) hc2 hr2 (by unfold maxLen; omega) (by omega) hsz2 ?_; intro v' w3 hown' hgrow))
        go_roundw
        case rel =>
          obtain ⟨r1, r2, r3⟩ := HR.out w2 w3 v' _ hb2 hgrow (fun j ej => (hrow.lt j ej).1) hown'
          exact ⟨k + 1, bs ++ m, by omega, by go_num, r1, r2, r3⟩
        case measure => simp [intOf]; omega
      · have hm0 : m = bool1 (xn == 1) := by rw [HM.out]; rfl
        have hC : ∀ W, Below wr.heap.size wr W → Calls Try.prog 42 #[.bool (xn == 1)] W fun e w' => GivesRow W.heap.size W 5 .u8 m e w' := fun W _ => by
          rw [hm0]; exact wBool_any (xn == 1) W
        clear hm0
        clear h3 h4 h5 h6
        go_wp2_with (first
          | (go_at_call 42; refine (hC _ (Below.refl _ _)).mono ?_; clear hC; rintro e w2 ⟨A2, c2, rfl, hc2, hrow2, hb2⟩; have hrow3 := own_below hrow hb2; have hr2 := rd_own hrow2; have hsz2 := Nat.le_trans hsz hb2.size)
          | (at_builtin; refine wpList_append_rd _ rfl (.tmp 46) (.tmp 53) 24 rfl w.heap.size 5 i0 (.int .u8 0) 1 1 Try.underlying24 hi hz0 hz1 hz2 rfl rfl (by decide) _ bs.length _ rfl hrow3 .u8 A2 m.length c2 m rfl rfl (own_none hrow2) hc2 hr2 (by unfold maxLen; omega) (by omega) hsz2 ?_; intro v' w3 hown' hgrow))
        go_roundw
        case rel =>
          obtain ⟨r1, r2, r3⟩ := HR.out w2 w3 v' _ hb2 hgrow (fun j ej => (hrow.lt j ej).1) hown'
          exact ⟨k + 1, bs ++ m, by omega, by go_num, r1, r2, r3⟩
        case measure => simp [intOf]; omega
      · have hm0 : m = raw xb := by rw [HM.out]; rfl
        obtain ⟨Ab, cb, rfl, hcb, hAb, hrb⟩ := h5
        have hC : ∀ W, Below wr.heap.size wr W → Calls Try.prog 43 #[.slice Ab xb.length cb] W fun e w' => GivesRow W.heap.size W 5 .u8 m e w' := fun W hW2 => by
          rw [hm0]; exact wRaw_any Ab xb.length cb xb W rfl (by omega) hcb hAb ((hrb.mono hsz).below hW2 |>.mono hW2.size)
        clear hm0 hrb hAb
        clear h4 h6
        go_wp2_with (first
          | (go_at_call 43; refine (hC _ (Below.refl _ _)).mono ?_; clear hC; rintro e w2 ⟨A2, c2, rfl, hc2, hrow2, hb2⟩; have hrow3 := own_below hrow hb2; have hr2 := rd_own hrow2; have hsz2 := Nat.le_trans hsz hb2.size)
          | (at_builtin; refine wpList_append_rd _ rfl (.tmp 58) (.tmp 64) 24 rfl w.heap.size 5 i0 (.int .u8 0) 1 1 Try.underlying24 hi hz0 hz1 hz2 rfl rfl (by decide) _ bs.length _ rfl hrow3 .u8 A2 m.length c2 m rfl rfl (own_none hrow2) hc2 hr2 (by unfold maxLen; omega) (by omega) hsz2 ?_; intro v' w3 hown' hgrow))
        go_roundw
        case rel =>
          obtain ⟨r1, r2, r3⟩ := HR.out w2 w3 v' _ hb2 hgrow (fun j ej => (hrow.lt j ej).1) hown'
          exact ⟨k + 1, bs ++ m, by omega, by go_num, r1, r2, r3⟩
        case measure => simp [intOf]; omega
      · have hm0 : m = raw xb := by rw [HM.out]; rfl
        obtain ⟨Ab, cb, rfl, hcb, hAb, hrb⟩ := h5
        have hC : ∀ W, Below wr.heap.size wr W → Calls Try.prog 43 #[.slice Ab xb.length cb] W fun e w' => GivesRow W.heap.size W 5 .u8 m e w' := fun W hW2 => by
          rw [hm0]; exact wRaw_any Ab xb.length cb xb W rfl (by omega) hcb hAb ((hrb.mono hsz).below hW2 |>.mono hW2.size)
        clear hm0 hrb hAb
        clear h4 h6
        go_wp2_with (first
          | (go_at_call 43; refine (hC _ (Below.refl _ _)).mono ?_; clear hC; rintro e w2 ⟨A2, c2, rfl, hc2, hrow2, hb2⟩; have hrow3 := own_below hrow hb2; have hr2 := rd_own hrow2; have hsz2 := Nat.le_trans hsz hb2.size)
          | (at_builtin; refine wpList_append_rd _ rfl (.tmp 58) (.tmp 64) 24 rfl w.heap.size 5 i0 (.int .u8 0) 1 1 Try.underlying24 hi hz0 hz1 hz2 rfl rfl (by decide) _ bs.length _ rfl hrow3 .u8 A2 m.length c2 m rfl rfl (own_none hrow2) hc2 hr2 (by unfold maxLen; omega) (by omega) hsz2 ?_; intro v' w3 hown' hgrow))
        go_roundw
        case rel =>
          obtain ⟨r1, r2, r3⟩ := HR.out w2 w3 v' _ hb2 hgrow (fun j ej => (hrow.lt j ej).1) hown'
          exact ⟨k + 1, bs ++ m, by omega, by go_num, r1, r2, r3⟩
        case measure => simp [intOf]; omega
      · have hm0 : m = ints xl := by rw [HM.out]; rfl
        obtain ⟨Al, cl, rfl, hcl, hAl, hrl⟩ := h6
        have hC : ∀ W, Below wr.heap.size wr W → Calls Try.prog 44 #[.slice Al xl.length cl] W fun e w' => GivesRow W.heap.size W 5 .u8 m e w' := fun W hW2 => by
          rw [hm0]; exact wInts_any Al xl.length cl xl W rfl (by omega) o6 ((hrl.mono hsz).below hW2 |>.mono hW2.size)
        clear hm0 hrl hAl
        clear h3 h5
        go_wp2_with (first
          | (go_at_call 44; refine (hC _ (Below.refl _ _)).mono ?_; clear hC; rintro e w2 ⟨A2, c2, rfl, hc2, hrow2, hb2⟩; have hrow3 := own_below hrow hb2; have hr2 := rd_own hrow2; have hsz2 := Nat.le_trans hsz hb2.size)
          | (at_builtin; refine wpList_append_rd _ rfl (.tmp 16) (.tmp 22) 24 rfl w.heap.size 5 i0 (.int .u8 0) 1 1 Try.underlying24 hi hz0 hz1 hz2 rfl rfl (by decide) _ bs.length _ rfl hrow3 .u8 A2 m.length c2 m rfl rfl (own_none hrow2) hc2 hr2 (by unfold maxLen; omega) (by omega) hsz2 ?_; intro v' w3 hown' hgrow))
        go_roundw
        case rel =>
          obtain ⟨r1, r2, r3⟩ := HR.out w2 w3 v' _ hb2 hgrow (fun j ej => (hrow.lt j ej).1) hown'
          exact ⟨k + 1, bs ++ m, by omega, by go_num, r1, r2, r3⟩
        case measure => simp [intOf]; omega
    · have he := Lib.hid (show xs.take k = xs from List.take_of_length_le (by omega))
      go_wp2
      go_ret
      exact gives_own (by rw [hbs.out, he.out]) (by rw [hbs.out, he.out]) hrow hW
/-- what lay reads as it did: a rule of the walk -/
theorem cells_old {W w1 : World} (hb : Below W.heap.size W w1) : ∀ b o, b < W.heap.size → w1.cell? ⟨b, o, none⟩ = W.cell? ⟨b, o, none⟩ := fun b o h => hb.cell (p := ⟨b, o, none⟩) h

set_option maxHeartbeats 1000000 in
theorem wSame_self (x : Vl) (vb1 vl1 vb2 vl2 : Value) (w : World) (hb : x.b.length ≤ 1000000) (hl : x.l.length ≤ 1000000) (r1 : RdS w w.heap.size .u8 vb1 x.b) (r2 : RdS w w.heap.size .i64 vl1 x.l) (r3 : RdS w w.heap.size .u8 vb2 x.b) (r4 : RdS w w.heap.size .i64 vl2 x.l) :
    Calls Try.prog 21 #[.agg #[.int .i64 x.k, .int .u64 x.u, .int .i64 x.n, vb1, vl1], .agg #[.int .i64 x.k, .int .u64 x.u, .int .i64 x.n, vb2, vl2]] w fun e w' => e = .returned (.bool true) ∧ Below w.heap.size w w' := by
  obtain ⟨k, u, n, b, l⟩ := x
  obtain ⟨A1, c1, rfl, _, _, r1⟩ := r1
  obtain ⟨A2, c2, rfl, _, _, r2⟩ := r2
  obtain ⟨A3, c3, rfl, _, _, r3⟩ := r3
  obtain ⟨A4, c4, rfl, _, _, r4⟩ := r4
  simp only at hb hl r1 r2 r3 r4 ⊢
  have hB : ∀ W, Below w.heap.size w W → Calls Try.prog 15 #[.slice A1 b.length c1, .slice A3 b.length c3] W fun e w' => e = .returned (.bool true) ∧ Below W.heap.size W w' := fun W hW =>
    SameBytes_self A1 A3 c1 c3 b W hb ((r1.below hW).mono hW.size) ((r3.below hW).mono hW.size)
  have hL : ∀ W, Below w.heap.size w W → Calls Try.prog 34 #[.slice A2 l.length c2, .slice A4 l.length c4] W fun e w' => e = .returned (.bool true) ∧ Below W.heap.size W w' := fun W hW =>
    SameInts_self A2 A4 c2 c4 l W hl ((r2.below hW).mono hW.size) ((r4.below hW).mono hW.size)
  have d0 : ∀ o o2 : Obj, Below w.heap.size w ((w.alloc o).alloc o2) := fun o o2 => ((Below.refl _ w).alloc (Nat.le_refl _) _).alloc (by simp) _
  clear r1 r2 r3 r4
  go_enter Try.func21, Try.ntmps21
  go_wp2_with (first
    | (go_at_call 15; refine (hB _ (d0 _ _)).mono ?_; clear hB; rintro e w1 ⟨rfl, hb1⟩; have d1 := (d0 _ _).trans (hb1.mono (d0 _ _).size); have q1 := cells_old hb1; have z1 : w.heap.size + 1 < w1.heap.size := (by have := hb1.size; simp at this; omega); have z0 : w.heap.size < w1.heap.size := (by omega))
    | (go_at_call 34; refine (hL _ d1).mono ?_; clear hL; rintro e w2 ⟨rfl, hb2⟩; have d2 := Lib.hid (d1.trans (hb2.mono d1.size)); have q2 := cells_old hb2))
  go_ret
  exact ⟨rfl, d2.out⟩

end Go.Proofs.Ytebfgdonikedaaa
