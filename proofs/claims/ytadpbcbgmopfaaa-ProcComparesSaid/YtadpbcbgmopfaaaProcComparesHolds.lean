/-
  The statement ProcCompares, whole: for any two lives: whether the one may be, and how they stand, are the document's; the arguments read as they did. No condition.
-/
import Derived.Test.YtadpbcbgmopfaaaPcompares
import Derived.Test.YtadpbcbgmopfaaaPargs
import Derived.Test.YtadpbcbgmopfaaaLawp
namespace Go.Proofs.Ytadpbcbgmopfaaa
open Go.ChangeShapes Go.WideShapes Go.ChangeAt Go.WideMaps Go.WideElems Go.RowKit

theorem procCompares_read : ∀ t ∈ Try.f9.params.toList, Try.prog.readableRec t = true ∧ t < Try.prog.types.size := by
  have h : (Try.f9.params.toList.all fun t => Try.prog.readableRec t && decide (t < Try.prog.types.size)) = true := by kernel_rfl
  intro t ht
  have := List.all_eq_true.1 h t ht
  simpa using this

set_option maxRecDepth 100000 in
theorem procCompares_lifted (os : Os) (started : os.Started) (H : Type) (enc : TypeId × Value → H) :
    ReturnsInHanded {} Try.checked os 9 .any (Rows.procComparesSpec.pre6 enc Try.prog Try.f9 [] false) (Rows.procComparesSpec.post enc Try.prog Try.f9 false true false false) := by
  refine law_lifted 9 Try.f9 Rows.procComparesSpec os started (by kernel_rfl) Try.func9 rfl
    (fun ds hd => by
      rw [Try.params9] at hd
      match ds, hd with
      | [d0, d1], _ => rfl) (by kernel_rfl) procCompares_read
    (ChangeSpec.witness6 (enc := enc) (C := Try.checked) false ⟨#[], #[.agg #[.int .i64 0, .int .u64 0], .agg #[.int .i64 0, .int .u64 0]], []⟩ 8 (by kernel_rfl) (by kernel_rfl) (by kernel_rfl) (by kernel_rfl)) ?_
  intro W base args ds p hval hA _
  rw [Try.params9] at hA hval
  obtain ⟨v0, v1, d0, d1, p0, p1, rfl, rfl, rfl, h0, h1⟩ := trodAll_two hA
  obtain ⟨q0, rfl, _, n0, _⟩ := arg_life (hval 0 70 v0 rfl rfl) h0
  obtain ⟨q1, rfl, _, _, _⟩ := arg_life (hval 1 70 v1 rfl rfl) h1
  exact compares_walk q0 q1 W n0

theorem procCompares_holds : Rows.ProcComparesSaid :=
  OpenClaim.holds_of_wide 9 Try.f9 rfl rfl rfl rfl rfl rfl rfl ⟨rfl, rfl, rfl, rfl, rfl⟩ rfl rfl rfl rfl rfl (by kernel_rfl) Try.func9 (by kernel_rfl)
    (of_decide_eq_true (by kernel_rfl)) (by unfold Func.isWrapper; first | (rw [if_pos (by decide +kernel)]; kernel_rfl) | (rw [if_neg (by decide +kernel)]; exact ⟨rfl, rfl⟩))
    (fun os started H enc _ => procCompares_lifted os started H enc)
end Go.Proofs.Ytadpbcbgmopfaaa
