/-
  The statement WindowTwice, whole: for any sender, receiver and numbers (of a long sender the examples alone are asked): what was taken is not taken again, what was acknowledged is not acknowledged again; the arguments read as they did. No condition.
-/
import Derived.Test.YtmkkhknbokfciaaQtwice
import Derived.Test.YtmkkhknbokfciaaQargs
import Derived.Test.YtmkkhknbokfciaaGb
namespace Go.Proofs.Ytmkkhknbokfciaa
open Go.ChangeShapes Go.WideShapes Go.ChangeAt Go.WideMaps Go.WideElems Go.RowKit

theorem windowTwice_read : ∀ t ∈ Try.f9.params.toList, Try.prog.readableRec t = true ∧ t < Try.prog.types.size := by
  have h : (Try.f9.params.toList.all fun t => Try.prog.readableRec t && decide (t < Try.prog.types.size)) = true := by kernel_rfl
  intro t ht
  have := List.all_eq_true.1 h t ht
  simpa using this

set_option maxRecDepth 100000 in
theorem windowTwice_lifted (os : Os) (started : os.Started) (H : Type) (enc : TypeId × Value → H) :
    ReturnsInHanded {} Try.checked os 9 .any (Rows.windowTwiceSpec.pre6 enc Try.prog Try.f9 [] false) (Rows.windowTwiceSpec.post enc Try.prog Try.f9 false true false false) := by
  refine law_lifted 9 Try.f9 Rows.windowTwiceSpec os started (by kernel_rfl) Try.func9 rfl
    (fun ds hd => by
      rw [Try.params9] at hd
      match ds, hd with
      | [d0, d1, d2, d3], _ => rfl) (by kernel_rfl) windowTwice_read
    (ChangeSpec.witness6 (enc := enc) (C := Try.checked) false ⟨#[], #[.agg #[.int .u64 0, .slice none 0 0], .agg #[.int .u64 0], .int .u64 0, .int .u64 0], []⟩ 8 (by kernel_rfl) (by kernel_rfl) (by kernel_rfl) (by kernel_rfl)) ?_
  intro W base args ds p hval hA _
  rw [Try.params9] at hA hval
  obtain ⟨v0, v1, v2, v3, d0, d1, d2, d3, p0, p1, p2, p3, rfl, rfl, rfl, h0, h1, h2, h3⟩ := trodAll_four hA
  obtain ⟨b0, A0, l0, c0, rfl, n0, _, k0, r0, z0⟩ := arg_sender (hval 0 25 v0 rfl rfl) h0
  obtain ⟨g1, rfl, u1⟩ := arg_recv (hval 1 45 v1 rfl rfl) h1
  obtain ⟨i2, rfl, u2⟩ := arg_u64q (hval 2 22 v2 rfl rfl) h2
  obtain ⟨i3, rfl, u3⟩ := arg_u64q (hval 3 22 v3 rfl rfl) h3
  exact twice7_walk b0 A0 l0 c0 g1 i2 i3 W n0 k0 r0 z0 u1 u2 u3

theorem windowTwice_holds : Rows.WindowTwiceSaid :=
  OpenClaim.holds_of_wide 9 Try.f9 rfl rfl rfl rfl rfl rfl rfl ⟨rfl, rfl, rfl, rfl, rfl⟩ rfl rfl rfl rfl rfl (by kernel_rfl) Try.func9 (by kernel_rfl)
    (of_decide_eq_true (by kernel_rfl)) (by unfold Func.isWrapper; first | (rw [if_pos (by decide +kernel)]; kernel_rfl) | (rw [if_neg (by decide +kernel)]; exact ⟨rfl, rfl⟩))
    (fun os started H enc _ => windowTwice_lifted os started H enc)
end Go.Proofs.Ytmkkhknbokfciaa
