/-
  The statement CodeTravels, whole: for any numbers and texts (above 1000, or of long texts, the examples alone are asked) what was written, by turns, is read as it was, to the end; the arguments read as they did. No condition.
-/
import Derived.Test.YtadpbcbgmopfaaaTravels
import Derived.Test.YtadpbcbgmopfaaaArgs
namespace Go.Proofs.Ytadpbcbgmopfaaa
open Go.ChangeShapes Go.WideShapes Go.ChangeAt Go.WideMaps Go.WideElems Go.RowKit

theorem codeTravels_read : ∀ t ∈ Try.f8.params.toList, Try.prog.readableRec t = true ∧ t < Try.prog.types.size := by
  have h : (Try.f8.params.toList.all fun t => Try.prog.readableRec t && decide (t < Try.prog.types.size)) = true := by kernel_rfl
  intro t ht
  have := List.all_eq_true.1 h t ht
  simpa using this

set_option maxRecDepth 100000 in
theorem codeTravels_lifted (os : Os) (started : os.Started) (H : Type) (enc : TypeId × Value → H) :
    ReturnsInHanded {} Try.checked os 8 .any (Rows.codeTravelsSpec.pre6 enc Try.prog Try.f8 [] false) (Rows.codeTravelsSpec.post enc Try.prog Try.f8 false true false false) := by
  refine law_lifted 8 Try.f8 Rows.codeTravelsSpec os started (by kernel_rfl) Try.func8 rfl
    (fun ds hd => by
      rw [Try.params8] at hd
      match ds, hd with
      | [d0, d1], _ => rfl) (by kernel_rfl) codeTravels_read
    (ChangeSpec.witness6 (enc := enc) (C := Try.checked) false ⟨#[], #[.slice none 0 0, .slice none 0 0], []⟩ 8 (by kernel_rfl) (by kernel_rfl) (by kernel_rfl) (by kernel_rfl)) ?_
  intro W base args ds p hval hA _
  rw [Try.params8] at hA hval
  obtain ⟨v0, v1, d0, d1, p0, p1, rfl, rfl, rfl, h0, h1⟩ := trodAll_two hA
  obtain ⟨A0, l0, c0, rfl, _, _, _, b0, u0⟩ := arg_nums (hval 0 22 v0 rfl rfl) h0
  obtain ⟨A1, l1, c1, rfl, _, b1, _⟩ := arg_strs (hval 1 40 v1 rfl rfl) h1
  exact travels_walk A0 A1 l0 l1 c0 c1 W b0 b1 u0

theorem codeTravels_holds : Rows.CodeTravelsSaid :=
  OpenClaim.holds_of_wide 8 Try.f8 rfl rfl rfl rfl rfl rfl rfl ⟨rfl, rfl, rfl, rfl, rfl⟩ rfl rfl rfl rfl rfl (by kernel_rfl) Try.func8 (by kernel_rfl)
    (of_decide_eq_true (by kernel_rfl)) (by unfold Func.isWrapper; first | (rw [if_pos (by decide +kernel)]; kernel_rfl) | (rw [if_neg (by decide +kernel)]; exact ⟨rfl, rfl⟩))
    (fun os started H enc _ => codeTravels_lifted os started H enc)
end Go.Proofs.Ytadpbcbgmopfaaa
