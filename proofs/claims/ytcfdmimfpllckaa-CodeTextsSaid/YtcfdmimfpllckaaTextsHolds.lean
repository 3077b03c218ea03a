/-
  The statement CodeTexts, whole: for any texts (above 100,000 bytes the examples alone are asked) texts, and bytes as they are, by turns, are the document's bytes; the argument reads as it did. No condition.
-/
import Derived.Test.YtcfdmimfpllckaaTexts
import Derived.Test.YtcfdmimfpllckaaStrsz
namespace Go.Proofs.Ytcfdmimfpllckaa
open Go.ChangeShapes Go.WideShapes Go.ChangeAt Go.WideMaps Go.WideElems Go.RowKit

theorem codeTexts_read : ∀ t ∈ Try.f5.params.toList, Try.prog.readableRec t = true ∧ t < Try.prog.types.size := by
  have h : (Try.f5.params.toList.all fun t => Try.prog.readableRec t && decide (t < Try.prog.types.size)) = true := by kernel_rfl
  intro t ht
  have := List.all_eq_true.1 h t ht
  simpa using this

set_option maxRecDepth 100000 in
theorem codeTexts_lifted (os : Os) (started : os.Started) (H : Type) (enc : TypeId × Value → H) :
    ReturnsInHanded {} Try.checked os 5 .any (Rows.codeTextsSpec.pre6 enc Try.prog Try.f5 [] false) (Rows.codeTextsSpec.post enc Try.prog Try.f5 false true false false) := by
  refine law_lifted 5 Try.f5 Rows.codeTextsSpec os started (by kernel_rfl) Try.func5 rfl
    (fun ds hd => by
      rw [Try.params5] at hd
      match ds, hd with
      | [d0], _ => rfl) (by kernel_rfl) codeTexts_read
    (ChangeSpec.witness6 (enc := enc) (C := Try.checked) false ⟨#[], #[.slice none 0 0], []⟩ 8 (by kernel_rfl) (by kernel_rfl) (by kernel_rfl) (by kernel_rfl)) ?_
  intro W base args ds p hval hA hsz
  rw [Try.params5] at hA hval hsz
  obtain ⟨v0, d0, rfl, rfl, h0⟩ := trodAll_one hA
  obtain ⟨A0, l0, c0, rfl, k0, b0, u0⟩ := arg_strs_sized (hval 0 40 v0 rfl rfl) h0 hsz
  exact texts_walk A0 l0 c0 W b0 k0 u0

theorem codeTexts_holds : Rows.CodeTextsSaid :=
  OpenClaim.holds_of_wide 5 Try.f5 rfl rfl rfl rfl rfl rfl rfl ⟨rfl, rfl, rfl, rfl, rfl⟩ rfl rfl rfl rfl rfl (by kernel_rfl) Try.func5 (by kernel_rfl)
    (of_decide_eq_true (by kernel_rfl)) (by unfold Func.isWrapper; first | (rw [if_pos (by decide +kernel)]; kernel_rfl) | (rw [if_neg (by decide +kernel)]; exact ⟨rfl, rfl⟩))
    (fun os started H enc _ => codeTexts_lifted os started H enc)
end Go.Proofs.Ytcfdmimfpllckaa
