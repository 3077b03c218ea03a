/-
  The statement CodeUnlike, whole: for any two rows of numbers (above 1000 the examples alone are asked): as far as they are alike their bytes are, behind that neither is a beginning of the other's, and unlike rows have unlike bytes; the arguments read as they did. No condition.
-/
import Derived.Test.YtcfdmimfpllckaaUnlike
namespace Go.Proofs.Ytcfdmimfpllckaa
open Go.ChangeShapes Go.WideShapes Go.ChangeAt Go.WideMaps Go.WideElems Go.RowKit

theorem codeUnlike_read : ∀ t ∈ Try.f11.params.toList, Try.prog.readableRec t = true ∧ t < Try.prog.types.size := by
  have h : (Try.f11.params.toList.all fun t => Try.prog.readableRec t && decide (t < Try.prog.types.size)) = true := by kernel_rfl
  intro t ht
  have := List.all_eq_true.1 h t ht
  simpa using this

set_option maxRecDepth 100000 in
theorem codeUnlike_lifted (os : Os) (started : os.Started) (H : Type) (enc : TypeId × Value → H) :
    ReturnsInHanded {} Try.checked os 11 .any (Rows.codeUnlikeSpec.pre6 enc Try.prog Try.f11 [] false) (Rows.codeUnlikeSpec.post enc Try.prog Try.f11 false true false false) := by
  refine law_lifted 11 Try.f11 Rows.codeUnlikeSpec os started (by kernel_rfl) Try.func11 rfl
    (fun ds hd => by
      rw [Try.params11] at hd
      match ds, hd with
      | [d0, d1], _ => rfl) (by kernel_rfl) codeUnlike_read
    (ChangeSpec.witness6 (enc := enc) (C := Try.checked) false ⟨#[], #[.slice none 0 0, .slice none 0 0], []⟩ 8 (by kernel_rfl) (by kernel_rfl) (by kernel_rfl) (by kernel_rfl)) ?_
  intro W base args ds p hval hA _
  rw [Try.params11] at hA hval
  obtain ⟨v0, v1, d0, d1, p0, p1, rfl, rfl, rfl, h0, h1⟩ := trodAll_two hA
  obtain ⟨A0, l0, c0, rfl, k0, _, _, b0, u0⟩ := arg_nums (hval 0 22 v0 rfl rfl) h0
  obtain ⟨A1, l1, c1, rfl, _, _, _, b1, u1⟩ := arg_nums (hval 1 22 v1 rfl rfl) h1
  exact unlike_walk A0 A1 l0 l1 c0 c1 W b0 b1 u0 u1 k0

theorem codeUnlike_holds : Rows.CodeUnlikeSaid :=
  OpenClaim.holds_of_wide 11 Try.f11 rfl rfl rfl rfl rfl rfl rfl ⟨rfl, rfl, rfl, rfl, rfl⟩ rfl rfl rfl rfl rfl (by kernel_rfl) Try.func11 (by kernel_rfl)
    (of_decide_eq_true (by kernel_rfl)) (by unfold Func.isWrapper; first | (rw [if_pos (by decide +kernel)]; kernel_rfl) | (rw [if_neg (by decide +kernel)]; exact ⟨rfl, rfl⟩))
    (fun os started H enc _ => codeUnlike_lifted os started H enc)
end Go.Proofs.Ytcfdmimfpllckaa
