/-
  The statement CodeWides, whole: for any rows of numbers and sizes (above 1000, or of two lengths, the examples alone are asked) wide numbers are the document's bytes at each moment, and what is answered is new memory; the arguments read as they did. No condition.
-/
import Derived.Test.YtcfdmimfpllckaaWides
namespace Go.Proofs.Ytcfdmimfpllckaa
open Go.ChangeShapes Go.WideShapes Go.ChangeAt Go.WideMaps Go.WideElems Go.RowKit

theorem codeWides_read : ∀ t ∈ Try.f3.params.toList, Try.prog.readableRec t = true ∧ t < Try.prog.types.size := by
  have h : (Try.f3.params.toList.all fun t => Try.prog.readableRec t && decide (t < Try.prog.types.size)) = true := by kernel_rfl
  intro t ht
  have := List.all_eq_true.1 h t ht
  simpa using this

set_option maxRecDepth 100000 in
theorem codeWides_lifted (os : Os) (started : os.Started) (H : Type) (enc : TypeId × Value → H) :
    ReturnsInHanded {} Try.checked os 3 .any (Rows.codeWidesSpec.pre6 enc Try.prog Try.f3 [] false) (Rows.codeWidesSpec.post enc Try.prog Try.f3 false true false false) := by
  refine law_lifted 3 Try.f3 Rows.codeWidesSpec os started (by kernel_rfl) Try.func3 rfl
    (fun ds hd => by
      rw [Try.params3] at hd
      match ds, hd with
      | [d0, d1], _ => rfl) (by kernel_rfl) codeWides_read
    (ChangeSpec.witness6 (enc := enc) (C := Try.checked) false ⟨#[], #[.slice none 0 0, .slice none 0 0], []⟩ 8 (by kernel_rfl) (by kernel_rfl) (by kernel_rfl) (by kernel_rfl)) ?_
  intro W base args ds p hval hA _
  rw [Try.params3] at hA hval
  obtain ⟨v0, v1, d0, d1, p0, p1, rfl, rfl, rfl, h0, h1⟩ := trodAll_two hA
  obtain ⟨A0, l0, c0, rfl, _, _, _, b0, u0⟩ := arg_nums (hval 0 22 v0 rfl rfl) h0
  obtain ⟨A1, l1, c1, rfl, _, b1, _⟩ := arg_ints (hval 1 23 v1 rfl rfl) h1
  exact wides_walk A0 A1 l0 l1 c0 c1 W b0 b1 u0

theorem codeWides_holds : Rows.CodeWidesSaid :=
  OpenClaim.holds_of_wide 3 Try.f3 rfl rfl rfl rfl rfl rfl rfl ⟨rfl, rfl, rfl, rfl, rfl⟩ rfl rfl rfl rfl rfl (by kernel_rfl) Try.func3 (by kernel_rfl)
    (of_decide_eq_true (by kernel_rfl)) (by unfold Func.isWrapper; first | (rw [if_pos (by decide +kernel)]; kernel_rfl) | (rw [if_neg (by decide +kernel)]; exact ⟨rfl, rfl⟩))
    (fun os started H enc _ => codeWides_lifted os started H enc)
end Go.Proofs.Ytcfdmimfpllckaa
