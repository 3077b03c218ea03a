/-
  The statement CodeAsks, whole: for any bytes and calls (above 65,536 and 1000 the examples alone are asked) each answer of a Reader, what is left, and whether there was a fault, are the document's; the arguments read as they did. No condition.
-/
import Derived.Test.YtadpbcbgmopfaaaAsks
import Derived.Test.YtadpbcbgmopfaaaArgs
namespace Go.Proofs.Ytadpbcbgmopfaaa
open Go.ChangeShapes Go.WideShapes Go.ChangeAt Go.WideMaps Go.WideElems Go.RowKit

theorem codeAsks_read : ∀ t ∈ Try.f6.params.toList, Try.prog.readableRec t = true ∧ t < Try.prog.types.size := by
  have h : (Try.f6.params.toList.all fun t => Try.prog.readableRec t && decide (t < Try.prog.types.size)) = true := by kernel_rfl
  intro t ht
  have := List.all_eq_true.1 h t ht
  simpa using this

set_option maxRecDepth 100000 in
theorem codeAsks_lifted (os : Os) (started : os.Started) (H : Type) (enc : TypeId × Value → H) :
    ReturnsInHanded {} Try.checked os 6 .any (Rows.codeAsksSpec.pre6 enc Try.prog Try.f6 [] false) (Rows.codeAsksSpec.post enc Try.prog Try.f6 false true false false) := by
  refine law_lifted 6 Try.f6 Rows.codeAsksSpec os started (by kernel_rfl) Try.func6 rfl
    (fun ds hd => by
      rw [Try.params6] at hd
      match ds, hd with
      | [d0, d1], _ => rfl) (by kernel_rfl) codeAsks_read
    (ChangeSpec.witness6 (enc := enc) (C := Try.checked) false ⟨#[], #[.slice none 0 0, .slice none 0 0], []⟩ 8 (by kernel_rfl) (by kernel_rfl) (by kernel_rfl) (by kernel_rfl)) ?_
  intro W base args ds p hval hA _
  rw [Try.params6] at hA hval
  obtain ⟨v0, v1, d0, d1, p0, p1, rfl, rfl, rfl, h0, h1⟩ := trodAll_two hA
  obtain ⟨A0, l0, c0, rfl, _, n0, b0, _⟩ := arg_bytes (hval 0 27 v0 rfl rfl) h0
  obtain ⟨A1, l1, c1, rfl, _, b1, u1⟩ := arg_asks (hval 1 45 v1 rfl rfl) h1
  exact asks_walk A0 A1 l0 l1 c0 c1 W n0 b0 b1 u1

theorem codeAsks_holds : Rows.CodeAsksSaid :=
  OpenClaim.holds_of_wide 6 Try.f6 rfl rfl rfl rfl rfl rfl rfl ⟨rfl, rfl, rfl, rfl, rfl⟩ rfl rfl rfl rfl rfl (by kernel_rfl) Try.func6 (by kernel_rfl)
    (of_decide_eq_true (by kernel_rfl)) (by unfold Func.isWrapper; first | (rw [if_pos (by decide +kernel)]; kernel_rfl) | (rw [if_neg (by decide +kernel)]; exact ⟨rfl, rfl⟩))
    (fun os started H enc _ => codeAsks_lifted os started H enc)
end Go.Proofs.Ytadpbcbgmopfaaa
