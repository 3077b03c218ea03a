/-
  The statement WindowPushes, whole: for any sender and body (of a long sender, or a body above 65,536 bytes, the examples alone are asked): it is pushed, or refused, as the document says; the arguments read as they did. No condition.
-/
import Derived.Test.YtmkkhknbokfciaaQpushes
import Derived.Test.YtmkkhknbokfciaaQargs
import Derived.Test.YtmkkhknbokfciaaGb
namespace Go.Proofs.Ytmkkhknbokfciaa
open Go.ChangeShapes Go.WideShapes Go.ChangeAt Go.WideMaps Go.WideElems Go.RowKit

theorem windowPushes_read : ∀ t ∈ Try.f3.params.toList, Try.prog.readableRec t = true ∧ t < Try.prog.types.size := by
  have h : (Try.f3.params.toList.all fun t => Try.prog.readableRec t && decide (t < Try.prog.types.size)) = true := by kernel_rfl
  intro t ht
  have := List.all_eq_true.1 h t ht
  simpa using this

set_option maxRecDepth 100000 in
theorem windowPushes_lifted (os : Os) (started : os.Started) (H : Type) (enc : TypeId × Value → H) :
    ReturnsInHanded {} Try.checked os 3 .any (Rows.windowPushesSpec.pre6 enc Try.prog Try.f3 [] false) (Rows.windowPushesSpec.post enc Try.prog Try.f3 false true false false) := by
  refine law_lifted 3 Try.f3 Rows.windowPushesSpec os started (by kernel_rfl) Try.func3 rfl
    (fun ds hd => by
      rw [Try.params3] at hd
      match ds, hd with
      | [d0, d1], _ => rfl) (by kernel_rfl) windowPushes_read
    (ChangeSpec.witness6 (enc := enc) (C := Try.checked) false ⟨#[], #[.agg #[.int .u64 0, .slice none 0 0], .slice none 0 0], []⟩ 8 (by kernel_rfl) (by kernel_rfl) (by kernel_rfl) (by kernel_rfl)) ?_
  intro W base args ds p hval hA _
  rw [Try.params3] at hA hval
  obtain ⟨v0, v1, d0, d1, p0, p1, rfl, rfl, rfl, h0, h1⟩ := trodAll_two hA
  obtain ⟨b0, A0, l0, c0, rfl, _, _, _, r0, z0⟩ := arg_sender (hval 0 25 v0 rfl rfl) h0
  obtain ⟨A1, l1, c1, rfl, _, n1, b1, _⟩ := arg_bytes (hval 1 26 v1 rfl rfl) h1
  exact pushes7_walk b0 A0 l0 c0 A1 l1 c1 W r0 z0 n1 b1

theorem windowPushes_holds : Rows.WindowPushesSaid :=
  OpenClaim.holds_of_wide 3 Try.f3 rfl rfl rfl rfl rfl rfl rfl ⟨rfl, rfl, rfl, rfl, rfl⟩ rfl rfl rfl rfl rfl (by kernel_rfl) Try.func3 (by kernel_rfl)
    (of_decide_eq_true (by kernel_rfl)) (by unfold Func.isWrapper; first | (rw [if_pos (by decide +kernel)]; kernel_rfl) | (rw [if_neg (by decide +kernel)]; exact ⟨rfl, rfl⟩))
    (fun os started H enc _ => windowPushes_lifted os started H enc)
end Go.Proofs.Ytmkkhknbokfciaa
