/-
  The statement CodeShorts, whole: for any row of numbers (above 2000 the examples alone are asked) short numbers, one by one and put at once, are the document's bytes; the argument reads as it did. No condition.
-/
import Derived.Test.YtcfdmimfpllckaaShorts
namespace Go.Proofs.Ytcfdmimfpllckaa
open Go.ChangeShapes Go.WideShapes Go.ChangeAt Go.WideMaps Go.WideElems Go.RowKit

theorem codeShorts_read : ∀ t ∈ Try.f4.params.toList, Try.prog.readableRec t = true ∧ t < Try.prog.types.size := by
  have h : (Try.f4.params.toList.all fun t => Try.prog.readableRec t && decide (t < Try.prog.types.size)) = true := by kernel_rfl
  intro t ht
  have := List.all_eq_true.1 h t ht
  simpa using this

set_option maxRecDepth 100000 in
theorem codeShorts_lifted (os : Os) (started : os.Started) (H : Type) (enc : TypeId × Value → H) :
    ReturnsInHanded {} Try.checked os 4 .any (Rows.codeShortsSpec.pre6 enc Try.prog Try.f4 [] false) (Rows.codeShortsSpec.post enc Try.prog Try.f4 false true false false) := by
  refine law_lifted 4 Try.f4 Rows.codeShortsSpec os started (by kernel_rfl) Try.func4 rfl
    (fun ds hd => by
      rw [Try.params4] at hd
      match ds, hd with
      | [d0], _ => rfl) (by kernel_rfl) codeShorts_read
    (ChangeSpec.witness6 (enc := enc) (C := Try.checked) false ⟨#[], #[.slice none 0 0], []⟩ 8 (by kernel_rfl) (by kernel_rfl) (by kernel_rfl) (by kernel_rfl)) ?_
  intro W base args ds p hval hA _
  rw [Try.params4] at hA hval
  obtain ⟨v0, d0, rfl, rfl, h0⟩ := trodAll_one hA
  obtain ⟨A0, l0, c0, rfl, _, _, _, b0, u0⟩ := arg_nums (hval 0 22 v0 rfl rfl) h0
  exact shorts_walk A0 l0 c0 W b0 u0

theorem codeShorts_holds : Rows.CodeShortsSaid :=
  OpenClaim.holds_of_wide 4 Try.f4 rfl rfl rfl rfl rfl rfl rfl ⟨rfl, rfl, rfl, rfl, rfl⟩ rfl rfl rfl rfl rfl (by kernel_rfl) Try.func4 (by kernel_rfl)
    (of_decide_eq_true (by kernel_rfl)) (by unfold Func.isWrapper; first | (rw [if_pos (by decide +kernel)]; kernel_rfl) | (rw [if_neg (by decide +kernel)]; exact ⟨rfl, rfl⟩))
    (fun os started H enc _ => codeShorts_lifted os started H enc)
end Go.Proofs.Ytcfdmimfpllckaa
