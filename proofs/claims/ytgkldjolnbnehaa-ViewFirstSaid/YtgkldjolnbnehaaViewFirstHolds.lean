/-
  The statement ViewFirst, whole: for any life and view (above 300 members or starts the example alone is asked): the life's first view may be if the life may, has that life alone, and stands ahead of the view if that was agreed on; the arguments read as they did. No condition.
-/
import Derived.Test.YtgkldjolnbnehaaVfirst
import Derived.Test.YtgkldjolnbnehaaGe
import Derived.Test.YtgkldjolnbnehaaGb
namespace Go.Proofs.Ytgkldjolnbnehaa
open Go.ChangeShapes Go.WideShapes Go.ChangeAt Go.WideMaps Go.WideElems Go.RowKit

theorem viewFirst_read : ∀ t ∈ Try.f8.params.toList, Try.prog.readableRec t = true ∧ t < Try.prog.types.size := by
  have h : (Try.f8.params.toList.all fun t => Try.prog.readableRec t && decide (t < Try.prog.types.size)) = true := by kernel_rfl
  intro t ht
  have := List.all_eq_true.1 h t ht
  simpa using this

set_option maxRecDepth 100000 in
theorem viewFirst_lifted (os : Os) (started : os.Started) (H : Type) (enc : TypeId × Value → H) :
    ReturnsInHanded {} Try.checked os 8 .any (Rows.viewFirstSpec.pre6 enc Try.prog Try.f8 [] false) (Rows.viewFirstSpec.post enc Try.prog Try.f8 false true false false) := by
  refine law_lifted 8 Try.f8 Rows.viewFirstSpec os started (by kernel_rfl) Try.func8 rfl
    (fun ds hd => by
      rw [Try.params8] at hd
      match ds, hd with
      | [d0, d1], _ => rfl) (by kernel_rfl) viewFirst_read
    (ChangeSpec.witness6 (enc := enc) (C := Try.checked) false ⟨#[], #[.agg #[.int .i64 0, .int .u64 0], .agg #[.int .u64 0, .int .i64 0, .int .u64 0, .slice none 0 0, .slice none 0 0]], []⟩ 8 (by kernel_rfl) (by kernel_rfl) (by kernel_rfl) (by kernel_rfl)) ?_
  intro W base args ds p hval hA _
  rw [Try.params8] at hA hval
  obtain ⟨v0, v1, d0, d1, p0, p1, rfl, rfl, rfl, h0, h1⟩ := trodAll_two hA
  obtain ⟨q0, rfl, _, n0, k0⟩ := arg_life (hval 0 24 v0 rfl rfl) h0
  obtain ⟨i1, A1, l1, c1, D1, s1, d1, rfl, u1, m1⟩ := arg_view (hval 1 30 v1 rfl rfl) h1
  exact first_walk q0 i1 A1 l1 c1 D1 s1 d1 W n0 k0 u1 m1

theorem viewFirst_holds : Rows.ViewFirstSaid :=
  OpenClaim.holds_of_wide 8 Try.f8 rfl rfl rfl rfl rfl rfl rfl ⟨rfl, rfl, rfl, rfl, rfl⟩ rfl rfl rfl rfl rfl (by kernel_rfl) Try.func8 (by kernel_rfl)
    (of_decide_eq_true (by kernel_rfl)) (by unfold Func.isWrapper; first | (rw [if_pos (by decide +kernel)]; kernel_rfl) | (rw [if_neg (by decide +kernel)]; exact ⟨rfl, rfl⟩))
    (fun os started H enc _ => viewFirst_lifted os started H enc)
end Go.Proofs.Ytgkldjolnbnehaa
