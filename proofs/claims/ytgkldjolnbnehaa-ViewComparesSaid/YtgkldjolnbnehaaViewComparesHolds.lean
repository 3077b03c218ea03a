/-
  The statement ViewCompares, whole: for any two views (above 300 members or starts the example alone is asked): the order of their names, whether they are the same, and what they have in common, are the document's; the arguments read as they did. No condition.
-/
import Derived.Test.YtgkldjolnbnehaaVcompares
import Derived.Test.YtgkldjolnbnehaaGe
import Derived.Test.YtgkldjolnbnehaaGb
namespace Go.Proofs.Ytgkldjolnbnehaa
open Go.ChangeShapes Go.WideShapes Go.ChangeAt Go.WideMaps Go.WideElems Go.RowKit

theorem viewCompares_read : ∀ t ∈ Try.f4.params.toList, Try.prog.readableRec t = true ∧ t < Try.prog.types.size := by
  have h : (Try.f4.params.toList.all fun t => Try.prog.readableRec t && decide (t < Try.prog.types.size)) = true := by kernel_rfl
  intro t ht
  have := List.all_eq_true.1 h t ht
  simpa using this

set_option maxRecDepth 100000 in
theorem viewCompares_lifted (os : Os) (started : os.Started) (H : Type) (enc : TypeId × Value → H) :
    ReturnsInHanded {} Try.checked os 4 .any (Rows.viewComparesSpec.pre6 enc Try.prog Try.f4 [] false) (Rows.viewComparesSpec.post enc Try.prog Try.f4 false true false false) := by
  refine law_lifted 4 Try.f4 Rows.viewComparesSpec os started (by kernel_rfl) Try.func4 rfl
    (fun ds hd => by
      rw [Try.params4] at hd
      match ds, hd with
      | [d0, d1], _ => rfl) (by kernel_rfl) viewCompares_read
    (ChangeSpec.witness6 (enc := enc) (C := Try.checked) false ⟨#[], #[.agg #[.int .u64 0, .int .i64 0, .int .u64 0, .slice none 0 0, .slice none 0 0], .agg #[.int .u64 0, .int .i64 0, .int .u64 0, .slice none 0 0, .slice none 0 0]], []⟩ 8 (by kernel_rfl) (by kernel_rfl) (by kernel_rfl) (by kernel_rfl)) ?_
  intro W base args ds p hval hA _
  rw [Try.params4] at hA hval
  obtain ⟨v0, v1, d0, d1, p0, p1, rfl, rfl, rfl, h0, h1⟩ := trodAll_two hA
  obtain ⟨i0, A0, l0, c0, D0, s0, d0, rfl, _, m0⟩ := arg_view (hval 0 30 v0 rfl rfl) h0
  obtain ⟨i1, A1, l1, c1, D1, s1, d1, rfl, _, m1⟩ := arg_view (hval 1 30 v1 rfl rfl) h1
  exact compares4_walk i0 A0 l0 c0 D0 s0 d0 i1 A1 l1 c1 D1 s1 d1 W m0 m1

theorem viewCompares_holds : Rows.ViewComparesSaid :=
  OpenClaim.holds_of_wide 4 Try.f4 rfl rfl rfl rfl rfl rfl rfl ⟨rfl, rfl, rfl, rfl, rfl⟩ rfl rfl rfl rfl rfl (by kernel_rfl) Try.func4 (by kernel_rfl)
    (of_decide_eq_true (by kernel_rfl)) (by unfold Func.isWrapper; first | (rw [if_pos (by decide +kernel)]; kernel_rfl) | (rw [if_neg (by decide +kernel)]; exact ⟨rfl, rfl⟩))
    (fun os started H enc _ => viewCompares_lifted os started H enc)
end Go.Proofs.Ytgkldjolnbnehaa
