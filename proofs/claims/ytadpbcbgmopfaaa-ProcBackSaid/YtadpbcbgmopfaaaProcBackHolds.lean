/-
  The statement ProcBack, whole: for any list and bytes (above 300 and 1000 the examples alone are asked): a set that is put, and whose lives may be, is read as it was, whatever stands behind; the arguments read as they did. No condition.
-/
import Derived.Test.YtadpbcbgmopfaaaPback
import Derived.Test.YtadpbcbgmopfaaaPargs
import Derived.Test.YtadpbcbgmopfaaaLawp
namespace Go.Proofs.Ytadpbcbgmopfaaa
open Go.ChangeShapes Go.WideShapes Go.ChangeAt Go.WideMaps Go.WideElems Go.RowKit

theorem procBack_read : ∀ t ∈ Try.f14.params.toList, Try.prog.readableRec t = true ∧ t < Try.prog.types.size := by
  have h : (Try.f14.params.toList.all fun t => Try.prog.readableRec t && decide (t < Try.prog.types.size)) = true := by kernel_rfl
  intro t ht
  have := List.all_eq_true.1 h t ht
  simpa using this

set_option maxRecDepth 100000 in
theorem procBack_lifted (os : Os) (started : os.Started) (H : Type) (enc : TypeId × Value → H) :
    ReturnsInHanded {} Try.checked os 14 .any (Rows.procBackSpec.pre6 enc Try.prog Try.f14 [] false) (Rows.procBackSpec.post enc Try.prog Try.f14 false true false false) := by
  refine law_lifted 14 Try.f14 Rows.procBackSpec os started (by kernel_rfl) Try.func14 rfl
    (fun ds hd => by
      rw [Try.params14] at hd
      match ds, hd with
      | [d0, d1], _ => rfl) (by kernel_rfl) procBack_read
    (ChangeSpec.witness6 (enc := enc) (C := Try.checked) false ⟨#[], #[.slice none 0 0, .slice none 0 0], []⟩ 8 (by kernel_rfl) (by kernel_rfl) (by kernel_rfl) (by kernel_rfl)) ?_
  intro W base args ds p hval hA _
  rw [Try.params14] at hA hval
  obtain ⟨v0, v1, d0, d1, p0, p1, rfl, rfl, rfl, h0, h1⟩ := trodAll_two hA
  obtain ⟨A0, l0, c0, rfl, k0, b0, m0, u0⟩ := arg_lives (hval 0 74 v0 rfl rfl) h0
  obtain ⟨A1, l1, c1, rfl, _, n1, b1, _⟩ := arg_bytes (hval 1 27 v1 rfl rfl) h1
  exact back_walk A0 A1 l0 l1 c0 c1 W b0 b1 m0 (fun q hq => (u0 q hq).2) k0 n1

theorem procBack_holds : Rows.ProcBackSaid :=
  OpenClaim.holds_of_wide 14 Try.f14 rfl rfl rfl rfl rfl rfl rfl ⟨rfl, rfl, rfl, rfl, rfl⟩ rfl rfl rfl rfl rfl (by kernel_rfl) Try.func14 (by kernel_rfl)
    (of_decide_eq_true (by kernel_rfl)) (by unfold Func.isWrapper; first | (rw [if_pos (by decide +kernel)]; kernel_rfl) | (rw [if_neg (by decide +kernel)]; exact ⟨rfl, rfl⟩))
    (fun os started H enc _ => procBack_lifted os started H enc)
end Go.Proofs.Ytadpbcbgmopfaaa
