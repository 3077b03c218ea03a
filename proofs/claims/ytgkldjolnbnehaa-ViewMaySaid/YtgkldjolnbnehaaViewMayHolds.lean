/-
  The statement ViewMay, whole: for any view and life (above 300 members or starts the example alone is asked): whether the view may be, whether its name may, and the life's first view, are the document's; the arguments read as they did. No condition.
-/
import Derived.Test.YtgkldjolnbnehaaVmays
import Derived.Test.YtgkldjolnbnehaaGe
import Derived.Test.YtgkldjolnbnehaaGb
namespace Go.Proofs.Ytgkldjolnbnehaa
open Go.ChangeShapes Go.WideShapes Go.ChangeAt Go.WideMaps Go.WideElems Go.RowKit

theorem viewMay_read : ∀ t ∈ Try.f3.params.toList, Try.prog.readableRec t = true ∧ t < Try.prog.types.size := by
  have h : (Try.f3.params.toList.all fun t => Try.prog.readableRec t && decide (t < Try.prog.types.size)) = true := by kernel_rfl
  intro t ht
  have := List.all_eq_true.1 h t ht
  simpa using this

set_option maxRecDepth 100000 in
theorem viewMay_lifted (os : Os) (started : os.Started) (H : Type) (enc : TypeId × Value → H) :
    ReturnsInHanded {} Try.checked os 3 .any (Rows.viewMaySpec.pre6 enc Try.prog Try.f3 [] false) (Rows.viewMaySpec.post enc Try.prog Try.f3 false true false false) := by
  refine law_lifted 3 Try.f3 Rows.viewMaySpec os started (by kernel_rfl) Try.func3 rfl
    (fun ds hd => by
      rw [Try.params3] at hd
      match ds, hd with
      | [d0, d1], _ => rfl) (by kernel_rfl) viewMay_read
    (ChangeSpec.witness6 (enc := enc) (C := Try.checked) false ⟨#[], #[.agg #[.int .u64 0, .int .i64 0, .int .u64 0, .slice none 0 0, .slice none 0 0], .agg #[.int .i64 0, .int .u64 0]], []⟩ 8 (by kernel_rfl) (by kernel_rfl) (by kernel_rfl) (by kernel_rfl)) ?_
  intro W base args ds p hval hA _
  rw [Try.params3] at hA hval
  obtain ⟨v0, v1, d0, d1, p0, p1, rfl, rfl, rfl, h0, h1⟩ := trodAll_two hA
  obtain ⟨i0, A0, l0, c0, D0, s0, d0, rfl, u0, m0⟩ := arg_view (hval 0 30 v0 rfl rfl) h0
  obtain ⟨q1, rfl, _, n1, k1⟩ := arg_life (hval 1 24 v1 rfl rfl) h1
  exact mays_walk i0 A0 l0 c0 D0 s0 d0 q1 W n1 k1 u0 m0

theorem viewMay_holds : Rows.ViewMaySaid :=
  OpenClaim.holds_of_wide 3 Try.f3 rfl rfl rfl rfl rfl rfl rfl ⟨rfl, rfl, rfl, rfl, rfl⟩ rfl rfl rfl rfl rfl (by kernel_rfl) Try.func3 (by kernel_rfl)
    (of_decide_eq_true (by kernel_rfl)) (by unfold Func.isWrapper; first | (rw [if_pos (by decide +kernel)]; kernel_rfl) | (rw [if_neg (by decide +kernel)]; exact ⟨rfl, rfl⟩))
    (fun os started H enc _ => viewMay_lifted os started H enc)
end Go.Proofs.Ytgkldjolnbnehaa
