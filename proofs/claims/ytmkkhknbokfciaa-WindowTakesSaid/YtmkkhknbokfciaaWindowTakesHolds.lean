/-
  The statement WindowTakes, whole: for any receiver and number: whether the number is the next one is the document's answer; the arguments read as they did. No condition.
-/
import Derived.Test.YtmkkhknbokfciaaQtakes
import Derived.Test.YtmkkhknbokfciaaQargs
import Derived.Test.YtmkkhknbokfciaaGb
namespace Go.Proofs.Ytmkkhknbokfciaa
open Go.ChangeShapes Go.WideShapes Go.ChangeAt Go.WideMaps Go.WideElems Go.RowKit

theorem windowTakes_read : ∀ t ∈ Try.f6.params.toList, Try.prog.readableRec t = true ∧ t < Try.prog.types.size := by
  have h : (Try.f6.params.toList.all fun t => Try.prog.readableRec t && decide (t < Try.prog.types.size)) = true := by kernel_rfl
  intro t ht
  have := List.all_eq_true.1 h t ht
  simpa using this

set_option maxRecDepth 100000 in
theorem windowTakes_lifted (os : Os) (started : os.Started) (H : Type) (enc : TypeId × Value → H) :
    ReturnsInHanded {} Try.checked os 6 .any (Rows.windowTakesSpec.pre6 enc Try.prog Try.f6 [] false) (Rows.windowTakesSpec.post enc Try.prog Try.f6 false true false false) := by
  refine law_lifted 6 Try.f6 Rows.windowTakesSpec os started (by kernel_rfl) Try.func6 rfl
    (fun ds hd => by
      rw [Try.params6] at hd
      match ds, hd with
      | [d0, d1], _ => rfl) (by kernel_rfl) windowTakes_read
    (ChangeSpec.witness6 (enc := enc) (C := Try.checked) false ⟨#[], #[.agg #[.int .u64 0], .int .u64 0], []⟩ 8 (by kernel_rfl) (by kernel_rfl) (by kernel_rfl) (by kernel_rfl)) ?_
  intro W base args ds p hval hA _
  rw [Try.params6] at hA hval
  obtain ⟨v0, v1, d0, d1, p0, p1, rfl, rfl, rfl, h0, h1⟩ := trodAll_two hA
  obtain ⟨g0, rfl, u0⟩ := arg_recv (hval 0 45 v0 rfl rfl) h0
  obtain ⟨i1, rfl, u1⟩ := arg_u64q (hval 1 22 v1 rfl rfl) h1
  exact takes7_walk g0 i1 W u0 u1

theorem windowTakes_holds : Rows.WindowTakesSaid :=
  OpenClaim.holds_of_wide 6 Try.f6 rfl rfl rfl rfl rfl rfl rfl ⟨rfl, rfl, rfl, rfl, rfl⟩ rfl rfl rfl rfl rfl (by kernel_rfl) Try.func6 (by kernel_rfl)
    (of_decide_eq_true (by kernel_rfl)) (by unfold Func.isWrapper; first | (rw [if_pos (by decide +kernel)]; kernel_rfl) | (rw [if_neg (by decide +kernel)]; exact ⟨rfl, rfl⟩))
    (fun os started H enc _ => windowTakes_lifted os started H enc)
end Go.Proofs.Ytmkkhknbokfciaa
