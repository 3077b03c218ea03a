/-
  The statement WindowAcks, whole: for any sender and number (of a long sender the examples alone are asked): what is acknowledged goes as the document says; the arguments read as they did. No condition.
-/
import Derived.Test.YtmkkhknbokfciaaQacks
import Derived.Test.YtmkkhknbokfciaaQargs
import Derived.Test.YtmkkhknbokfciaaGb
namespace Go.Proofs.Ytmkkhknbokfciaa
open Go.ChangeShapes Go.WideShapes Go.ChangeAt Go.WideMaps Go.WideElems Go.RowKit

theorem windowAcks_read : ∀ t ∈ Try.f5.params.toList, Try.prog.readableRec t = true ∧ t < Try.prog.types.size := by
  have h : (Try.f5.params.toList.all fun t => Try.prog.readableRec t && decide (t < Try.prog.types.size)) = true := by kernel_rfl
  intro t ht
  have := List.all_eq_true.1 h t ht
  simpa using this

set_option maxRecDepth 100000 in
theorem windowAcks_lifted (os : Os) (started : os.Started) (H : Type) (enc : TypeId × Value → H) :
    ReturnsInHanded {} Try.checked os 5 .any (Rows.windowAcksSpec.pre6 enc Try.prog Try.f5 [] false) (Rows.windowAcksSpec.post enc Try.prog Try.f5 false true false false) := by
  refine law_lifted 5 Try.f5 Rows.windowAcksSpec os started (by kernel_rfl) Try.func5 rfl
    (fun ds hd => by
      rw [Try.params5] at hd
      match ds, hd with
      | [d0, d1], _ => rfl) (by kernel_rfl) windowAcks_read
    (ChangeSpec.witness6 (enc := enc) (C := Try.checked) false ⟨#[], #[.agg #[.int .u64 0, .slice none 0 0], .int .u64 0], []⟩ 8 (by kernel_rfl) (by kernel_rfl) (by kernel_rfl) (by kernel_rfl)) ?_
  intro W base args ds p hval hA _
  rw [Try.params5] at hA hval
  obtain ⟨v0, v1, d0, d1, p0, p1, rfl, rfl, rfl, h0, h1⟩ := trodAll_two hA
  obtain ⟨b0, A0, l0, c0, rfl, n0, _, k0, r0, z0⟩ := arg_sender (hval 0 25 v0 rfl rfl) h0
  obtain ⟨i1, rfl, u1⟩ := arg_u64q (hval 1 22 v1 rfl rfl) h1
  exact acks7_walk b0 A0 l0 c0 i1 W n0 k0 r0 z0 u1

theorem windowAcks_holds : Rows.WindowAcksSaid :=
  OpenClaim.holds_of_wide 5 Try.f5 rfl rfl rfl rfl rfl rfl rfl ⟨rfl, rfl, rfl, rfl, rfl⟩ rfl rfl rfl rfl rfl (by kernel_rfl) Try.func5 (by kernel_rfl)
    (of_decide_eq_true (by kernel_rfl)) (by unfold Func.isWrapper; first | (rw [if_pos (by decide +kernel)]; kernel_rfl) | (rw [if_neg (by decide +kernel)]; exact ⟨rfl, rfl⟩))
    (fun os started H enc _ => windowAcks_lifted os started H enc)
end Go.Proofs.Ytmkkhknbokfciaa
