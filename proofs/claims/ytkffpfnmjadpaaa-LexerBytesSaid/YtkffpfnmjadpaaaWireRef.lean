/-
  THE WALKS of the reference's encoders of wire: Uint, Zigzag, Back, Int, Bool, Raw, Ints.
-/
import Derived.Test.YtkffpfnmjadpaaaBase
import Derived.Test.YtkffpfnmjadpaaaWireRead
namespace Go.Proofs.Ytkffpfnmjadpaaa
open Go.RowKit

theorem wrap_u8 (x : Int) : IntKind.u8.wrap x = x % 256 := by simp [IntKind.wrap, IntKind.bits, IntKind.signed]




theorem ints_take {l : List Int} {k : Nat} (hk : k < l.length) : (((l.take (k + 1)).map fun n => uv (zz n)).flatten : List Int) = ((l.take k).map fun n => uv (zz n)).flatten ++ uv (zz (l[k]?.getD 0)) := by
  rw [take_snoc hk, List.map_append, List.flatten_append]; simp
theorem flat_len {l : List Int} (h : ∀ z ∈ l, I64 z) : ((l.map fun n => uv (zz n)).flatten).length ≤ 10 * l.length := by
  induction l with
  | nil => simp
  | cons z l ih =>
    have h1 := uv_length_64 (zz_lt (h z (by simp)).1 (h z (by simp)).2)
    have h2 := ih (fun y hy => h y (by simp [hy]))
    simp only [List.map_cons, List.flatten_cons, List.length_append, List.length_cons]
    omega

end Go.Proofs.Ytkffpfnmjadpaaa
