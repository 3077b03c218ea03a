/-
  The statement WindowDue, whole: for any sender and place to leave at (of a long sender the examples alone are asked): what is due is the document's, also when it is left early; the arguments read as they did. No condition.
-/
import Derived.Test.YtmkkhknbokfciaaQdues
import Derived.Test.YtmkkhknbokfciaaQargs
import Derived.Test.YtmkkhknbokfciaaGb
namespace Go.Proofs.Ytmkkhknbokfciaa
open Go.ChangeShapes Go.WideShapes Go.ChangeAt Go.WideMaps Go.WideElems Go.RowKit

theorem windowDue_read : ∀ t ∈ Try.f4.params.toList, Try.prog.readableRec t = true ∧ t < Try.prog.types.size := by
  have h : (Try.f4.params.toList.all fun t => Try.prog.readableRec t && decide (t < Try.prog.types.size)) = true := by kernel_rfl
  intro t ht
  have := List.all_eq_true.1 h t ht
  simpa using this

set_option maxRecDepth 100000 in
theorem windowDue_lifted (os : Os) (started : os.Started) (H : Type) (enc : TypeId × Value → H) :
    ReturnsInHanded {} Try.checked os 4 .any (Rows.windowDueSpec.pre6 enc Try.prog Try.f4 [] false) (Rows.windowDueSpec.post enc Try.prog Try.f4 false true false false) := by
  refine law_lifted 4 Try.f4 Rows.windowDueSpec os started (by kernel_rfl) Try.func4 rfl
    (fun ds hd => by
      rw [Try.params4] at hd
      match ds, hd with
      | [d0, d1], _ => rfl) (by kernel_rfl) windowDue_read
    (ChangeSpec.witness6 (enc := enc) (C := Try.checked) false ⟨#[], #[.agg #[.int .u64 0, .slice none 0 0], .int .i64 0], []⟩ 8 (by kernel_rfl) (by kernel_rfl) (by kernel_rfl) (by kernel_rfl)) ?_
  intro W base args ds p hval hA _
  rw [Try.params4] at hA hval
  obtain ⟨v0, v1, d0, d1, p0, p1, rfl, rfl, rfl, h0, h1⟩ := trodAll_two hA
  obtain ⟨b0, A0, l0, c0, rfl, n0, _, k0, r0, z0⟩ := arg_sender (hval 0 25 v0 rfl rfl) h0
  obtain ⟨i1, rfl, _⟩ := arg_intq (hval 1 3 v1 rfl rfl) h1
  exact dues7_walk b0 A0 l0 c0 i1 W n0 k0 r0 z0

theorem windowDue_holds : Rows.WindowDueSaid :=
  OpenClaim.holds_of_wide 4 Try.f4 rfl rfl rfl rfl rfl rfl rfl ⟨rfl, rfl, rfl, rfl, rfl⟩ rfl rfl rfl rfl rfl (by kernel_rfl) Try.func4 (by kernel_rfl)
    (of_decide_eq_true (by kernel_rfl)) (by unfold Func.isWrapper; first | (rw [if_pos (by decide +kernel)]; kernel_rfl) | (rw [if_neg (by decide +kernel)]; exact ⟨rfl, rfl⟩))
    (fun os started H enc _ => windowDue_lifted os started H enc)
end Go.Proofs.Ytmkkhknbokfciaa
