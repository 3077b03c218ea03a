/-
  The statement CodeNobody, whole: for any calls and text (above 1000 and 10,000 bytes the examples alone are asked) a nil Reader answers nothing but faults, a zero one has no bytes, a nil Writer takes nothing; the arguments read as they did. No condition.
-/
import Derived.Test.YtadpbcbgmopfaaaNobody
import Derived.Test.YtadpbcbgmopfaaaArgs
namespace Go.Proofs.Ytadpbcbgmopfaaa
open Go.ChangeShapes Go.WideShapes Go.ChangeAt Go.WideMaps Go.WideElems Go.RowKit

theorem codeNobody_read : ∀ t ∈ Try.f7.params.toList, Try.prog.readableRec t = true ∧ t < Try.prog.types.size := by
  have h : (Try.f7.params.toList.all fun t => Try.prog.readableRec t && decide (t < Try.prog.types.size)) = true := by kernel_rfl
  intro t ht
  have := List.all_eq_true.1 h t ht
  simpa using this

set_option maxRecDepth 100000 in
theorem codeNobody_lifted (os : Os) (started : os.Started) (H : Type) (enc : TypeId × Value → H) :
    ReturnsInHanded {} Try.checked os 7 .any (Rows.codeNobodySpec.pre6 enc Try.prog Try.f7 [] false) (Rows.codeNobodySpec.post enc Try.prog Try.f7 false true false false) := by
  refine law_lifted 7 Try.f7 Rows.codeNobodySpec os started (by kernel_rfl) Try.func7 rfl
    (fun ds hd => by
      rw [Try.params7] at hd
      match ds, hd with
      | [d0, d1], _ => rfl) (by kernel_rfl) codeNobody_read
    (ChangeSpec.witness6 (enc := enc) (C := Try.checked) false ⟨#[], #[.slice none 0 0, .string ⟨#[]⟩], []⟩ 8 (by kernel_rfl) (by kernel_rfl) (by kernel_rfl) (by kernel_rfl)) ?_
  intro W base args ds p hval hA _
  rw [Try.params7] at hA hval
  obtain ⟨v0, v1, d0, d1, p0, p1, rfl, rfl, rfl, h0, h1⟩ := trodAll_two hA
  obtain ⟨A0, l0, c0, rfl, _, b0, u0⟩ := arg_asks (hval 0 45 v0 rfl rfl) h0
  obtain ⟨s1, rfl, _⟩ := arg_str (hval 1 9 v1 rfl rfl) h1
  exact nobody_walk A0 l0 c0 s1 W b0 u0

theorem codeNobody_holds : Rows.CodeNobodySaid :=
  OpenClaim.holds_of_wide 7 Try.f7 rfl rfl rfl rfl rfl rfl rfl ⟨rfl, rfl, rfl, rfl, rfl⟩ rfl rfl rfl rfl rfl (by kernel_rfl) Try.func7 (by kernel_rfl)
    (of_decide_eq_true (by kernel_rfl)) (by unfold Func.isWrapper; first | (rw [if_pos (by decide +kernel)]; kernel_rfl) | (rw [if_neg (by decide +kernel)]; exact ⟨rfl, rfl⟩))
    (fun os started H enc _ => codeNobody_lifted os started H enc)
end Go.Proofs.Ytadpbcbgmopfaaa
