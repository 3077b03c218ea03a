/-
  The statement ViewBack, whole: for any view, bytes and cut (above 300 members or starts, or 1000 bytes, the example alone is asked): a view that may be is read as it was written, whatever stands behind, and of a shorter beginning there is none; the arguments read as they did. No condition.
-/
import Derived.Test.YtgkldjolnbnehaaVback
import Derived.Test.YtgkldjolnbnehaaGe
import Derived.Test.YtgkldjolnbnehaaGb
namespace Go.Proofs.Ytgkldjolnbnehaa
open Go.ChangeShapes Go.WideShapes Go.ChangeAt Go.WideMaps Go.WideElems Go.RowKit

theorem viewBack_read : ∀ t ∈ Try.f6.params.toList, Try.prog.readableRec t = true ∧ t < Try.prog.types.size := by
  have h : (Try.f6.params.toList.all fun t => Try.prog.readableRec t && decide (t < Try.prog.types.size)) = true := by kernel_rfl
  intro t ht
  have := List.all_eq_true.1 h t ht
  simpa using this

set_option maxRecDepth 100000 in
theorem viewBack_lifted (os : Os) (started : os.Started) (H : Type) (enc : TypeId × Value → H) :
    ReturnsInHanded {} Try.checked os 6 .any (Rows.viewBackSpec.pre6 enc Try.prog Try.f6 [] false) (Rows.viewBackSpec.post enc Try.prog Try.f6 false true false false) := by
  refine law_lifted 6 Try.f6 Rows.viewBackSpec os started (by kernel_rfl) Try.func6 rfl
    (fun ds hd => by
      rw [Try.params6] at hd
      match ds, hd with
      | [d0, d1, d2], _ => rfl) (by kernel_rfl) viewBack_read
    (ChangeSpec.witness6 (enc := enc) (C := Try.checked) false ⟨#[], #[.agg #[.int .u64 0, .int .i64 0, .int .u64 0, .slice none 0 0, .slice none 0 0], .slice none 0 0, .int .i64 0], []⟩ 8 (by kernel_rfl) (by kernel_rfl) (by kernel_rfl) (by kernel_rfl)) ?_
  intro W base args ds p hval hA _
  rw [Try.params6] at hA hval
  obtain ⟨v0, v1, v2, d0, d1, d2, p0, p1, p2, rfl, rfl, rfl, h0, h1, h2⟩ := trodAll_three hA
  obtain ⟨i0, A0, l0, c0, D0, s0, d0, rfl, u0, m0⟩ := arg_view (hval 0 30 v0 rfl rfl) h0
  obtain ⟨A1, l1, c1, rfl, _, n1, b1, _⟩ := arg_bytes (hval 1 45 v1 rfl rfl) h1
  obtain ⟨i2, rfl, u2⟩ := arg_int (hval 2 3 v2 rfl rfl) h2
  exact vback_walk i0 A0 l0 c0 D0 s0 d0 A1 l1 c1 i2 W u0 m0 n1 b1 u2

theorem viewBack_holds : Rows.ViewBackSaid :=
  OpenClaim.holds_of_wide 6 Try.f6 rfl rfl rfl rfl rfl rfl rfl ⟨rfl, rfl, rfl, rfl, rfl⟩ rfl rfl rfl rfl rfl (by kernel_rfl) Try.func6 (by kernel_rfl)
    (of_decide_eq_true (by kernel_rfl)) (by unfold Func.isWrapper; first | (rw [if_pos (by decide +kernel)]; kernel_rfl) | (rw [if_neg (by decide +kernel)]; exact ⟨rfl, rfl⟩))
    (fun os started H enc _ => viewBack_lifted os started H enc)
end Go.Proofs.Ytgkldjolnbnehaa
