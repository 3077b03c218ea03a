/-
  The statement CodeOnly, whole: for any bytes (above 65,536 the examples alone are asked) short numbers, and a text, that are read are, written again, the bytes that were taken; the arguments read as they did. No condition.
-/
import Derived.Test.YtcfdmimfpllckaaOnly
import Derived.Test.YtcfdmimfpllckaaArgs
namespace Go.Proofs.Ytcfdmimfpllckaa
open Go.ChangeShapes Go.WideShapes Go.ChangeAt Go.WideMaps Go.WideElems Go.RowKit

theorem codeOnly_read : ∀ t ∈ Try.f9.params.toList, Try.prog.readableRec t = true ∧ t < Try.prog.types.size := by
  have h : (Try.f9.params.toList.all fun t => Try.prog.readableRec t && decide (t < Try.prog.types.size)) = true := by kernel_rfl
  intro t ht
  have := List.all_eq_true.1 h t ht
  simpa using this

set_option maxRecDepth 100000 in
theorem codeOnly_lifted (os : Os) (started : os.Started) (H : Type) (enc : TypeId × Value → H) :
    ReturnsInHanded {} Try.checked os 9 .any (Rows.codeOnlySpec.pre6 enc Try.prog Try.f9 [] false) (Rows.codeOnlySpec.post enc Try.prog Try.f9 false true false false) := by
  refine law_lifted 9 Try.f9 Rows.codeOnlySpec os started (by kernel_rfl) Try.func9 rfl
    (fun ds hd => by
      rw [Try.params9] at hd
      match ds, hd with
      | [d0, d1], _ => rfl) (by kernel_rfl) codeOnly_read
    (ChangeSpec.witness6 (enc := enc) (C := Try.checked) false ⟨#[], #[.slice none 0 0, .int .i64 0], []⟩ 8 (by kernel_rfl) (by kernel_rfl) (by kernel_rfl) (by kernel_rfl)) ?_
  intro W base args ds p hval hA _
  rw [Try.params9] at hA hval
  obtain ⟨v0, v1, d0, d1, p0, p1, rfl, rfl, rfl, h0, h1⟩ := trodAll_two hA
  obtain ⟨A0, l0, c0, rfl, k0, n0, b0, _⟩ := arg_bytes (hval 0 27 v0 rfl rfl) h0
  obtain ⟨i1, rfl, u1⟩ := arg_int (hval 1 3 v1 rfl rfl) h1
  exact only_walk A0 l0 c0 i1 W k0 n0 b0 u1

theorem codeOnly_holds : Rows.CodeOnlySaid :=
  OpenClaim.holds_of_wide 9 Try.f9 rfl rfl rfl rfl rfl rfl rfl ⟨rfl, rfl, rfl, rfl, rfl⟩ rfl rfl rfl rfl rfl (by kernel_rfl) Try.func9 (by kernel_rfl)
    (of_decide_eq_true (by kernel_rfl)) (by unfold Func.isWrapper; first | (rw [if_pos (by decide +kernel)]; kernel_rfl) | (rw [if_neg (by decide +kernel)]; exact ⟨rfl, rfl⟩))
    (fun os started H enc _ => codeOnly_lifted os started H enc)
end Go.Proofs.Ytcfdmimfpllckaa
