/-
  THE VALUES of wire's reference: how a slice of them reads; the walks of Same and Encode.
-/
import Derived.Test.YtkffpfnmjadpaaaWireRef
import Derived.Test.YtkffpfnmjadpaaaRef
import Derived.Outline
namespace Go.Proofs.Ytkffpfnmjadpaaa
open Go.RowKit

/-- a slice value reads as zs -/
def RdS (w : World) (B : Nat) (k : IntKind) (v : Value) (zs : List Int) : Prop := ∃ A c, v = .slice A zs.length c ∧ zs.length ≤ c ∧ (A = none → c = 0) ∧ RdI w B k A zs
theorem RdS.below {n₀ : Nat} {A B : World} {k : IntKind} {v : Value} {zs : List Int} (h : RdS A n₀ k v zs) (hb : Below n₀ A B) : RdS B n₀ k v zs := by
  obtain ⟨p, c, e, h1, h2, h3⟩ := h
  exact ⟨p, c, e, h1, h2, h3.below hb⟩
theorem RdS.mono {w : World} {B B2 : Nat} {k : IntKind} {v : Value} {zs : List Int} (h : RdS w B k v zs) (hB : B ≤ B2) : RdS w B2 k v zs := by
  obtain ⟨p, c, e, h1, h2, h3⟩ := h
  exact ⟨p, c, e, h1, h2, h3.mono hB⟩

/-- five cells from off on are the value x -/
def ValAt (w : World) (B b off : Nat) (x : Vl) : Prop := ∃ vb vl, w.cell? ⟨b, off, none⟩ = some (.int .i64 x.k) ∧ w.cell? ⟨b, off + 1, none⟩ = some (.int .u64 x.u) ∧ w.cell? ⟨b, off + 2, none⟩ = some (.int .i64 x.n) ∧
  w.cell? ⟨b, off + 3, none⟩ = some vb ∧ w.cell? ⟨b, off + 4, none⟩ = some vl ∧ RdS w B .u8 vb x.b ∧ RdS w B .i64 vl x.l
theorem ValAt.below {n₀ b off : Nat} {A B : World} {x : Vl} (h : ValAt A n₀ b off x) (hlt : b < n₀) (hb : Below n₀ A B) : ValAt B n₀ b off x := by
  obtain ⟨vb, vl, h0, h1, h2, h3, h4, h5, h6⟩ := h
  exact ⟨vb, vl, (hb.cell (p := ⟨b, off, none⟩) hlt).trans h0, (hb.cell (p := ⟨b, off + 1, none⟩) hlt).trans h1, (hb.cell (p := ⟨b, off + 2, none⟩) hlt).trans h2, (hb.cell (p := ⟨b, off + 3, none⟩) hlt).trans h3, (hb.cell (p := ⟨b, off + 4, none⟩) hlt).trans h4, h5.below hb, h6.below hb⟩

/-- the slice (address A) reads as the values xs -/
def RdV (w : World) (B : Nat) (A : Option Addr) (xs : List Vl) : Prop :=
  xs = [] ∨ ∃ b o, A = some ⟨b, o, none⟩ ∧ b < B ∧ ∀ j x, xs[j]? = some x → ValAt w B b (o + j * 5) x
theorem RdV.below {n₀ : Nat} {A B : World} {p : Option Addr} {xs : List Vl} (h : RdV A n₀ p xs) (hb : Below n₀ A B) : RdV B n₀ p xs := by
  rcases h with h | ⟨b, o, e, hlt, hc⟩
  · exact .inl h
  · exact .inr ⟨b, o, e, hlt, fun j x hx => (hc j x hx).below hlt hb⟩

theorem encs_take {xs : List Vl} {k : Nat} (hk : k < xs.length) : encs (xs.take (k + 1)) = encs (xs.take k) ++ (xs[k]).enc := by
  unfold encs
  rw [List.take_succ_eq_append_getElem hk, List.map_append, List.flatten_append]
  simp
theorem enc_len {x : Vl} (h : x.ok) : x.enc.length ≤ 20000 := by
  obtain ⟨⟨_, _⟩, o3, o4, o5, o6, o7, o8⟩ := h
  unfold Vl.enc
  have hu : (uv x.u.toNat).length ≤ 10 := uv_length_64 (by unfold U64 at o3; omega)
  have hn : (uv (zz x.n)).length ≤ 10 := uv_length_64 (zz_lt o4.1 o4.2)
  have hb : (raw x.b).length ≤ 20000 := by
    unfold raw
    rw [List.length_append]
    have := uv_length_64 (n := x.b.length) (by omega)
    omega
  have hl : (ints x.l).length ≤ 20000 := by
    unfold ints
    rw [List.length_append]
    have := uv_length_64 (n := x.l.length) (by omega)
    have := flat_len o6
    omega
  split
  · omega
  · split
    · omega
    · split
      · simp [bool1]
      · split
        · exact hb
        · exact hl
theorem encs_len {xs : List Vl} (h : ∀ x ∈ xs, x.ok) : (encs xs).length ≤ 20000 * xs.length := by
  unfold encs
  induction xs with
  | nil => simp
  | cons x xs ih =>
    have h1 := enc_len (h x (by simp))
    have h2 := ih (fun y hy => h y (by simp [hy]))
    simp only [List.map_cons, List.flatten_cons, List.length_append, List.length_cons]
    omega

/-- what lay reads as it did: a rule of the walk -/
theorem cells_old {W w1 : World} (hb : Below W.heap.size W w1) : ∀ b o, b < W.heap.size → w1.cell? ⟨b, o, none⟩ = W.cell? ⟨b, o, none⟩ := fun b o h => hb.cell (p := ⟨b, o, none⟩) h


end Go.Proofs.Ytkffpfnmjadpaaa
