/-
  The statement ViewOrder, whole: for any three names: their order is one; the arguments read as they did. No condition.
-/
import Derived.Test.YtgkldjolnbnehaaVorder
import Derived.Test.YtgkldjolnbnehaaGe
import Derived.Test.YtgkldjolnbnehaaGb
namespace Go.Proofs.Ytgkldjolnbnehaa
open Go.ChangeShapes Go.WideShapes Go.ChangeAt Go.WideMaps Go.WideElems Go.RowKit

theorem viewOrder_read : ∀ t ∈ Try.f7.params.toList, Try.prog.readableRec t = true ∧ t < Try.prog.types.size := by
  have h : (Try.f7.params.toList.all fun t => Try.prog.readableRec t && decide (t < Try.prog.types.size)) = true := by kernel_rfl
  intro t ht
  have := List.all_eq_true.1 h t ht
  simpa using this

set_option maxRecDepth 100000 in
theorem viewOrder_lifted (os : Os) (started : os.Started) (H : Type) (enc : TypeId × Value → H) :
    ReturnsInHanded {} Try.checked os 7 .any (Rows.viewOrderSpec.pre6 enc Try.prog Try.f7 [] false) (Rows.viewOrderSpec.post enc Try.prog Try.f7 false true false false) := by
  refine law_lifted 7 Try.f7 Rows.viewOrderSpec os started (by kernel_rfl) Try.func7 rfl
    (fun ds hd => by
      rw [Try.params7] at hd
      match ds, hd with
      | [d0, d1, d2], _ => rfl) (by kernel_rfl) viewOrder_read
    (ChangeSpec.witness6 (enc := enc) (C := Try.checked) false ⟨#[], #[.agg #[.int .u64 0, .int .i64 0, .int .u64 0], .agg #[.int .u64 0, .int .i64 0, .int .u64 0], .agg #[.int .u64 0, .int .i64 0, .int .u64 0]], []⟩ 8 (by kernel_rfl) (by kernel_rfl) (by kernel_rfl) (by kernel_rfl)) ?_
  intro W base args ds p hval hA _
  rw [Try.params7] at hA hval
  obtain ⟨v0, v1, v2, d0, d1, d2, p0, p1, p2, rfl, rfl, rfl, h0, h1, h2⟩ := trodAll_three hA
  obtain ⟨i0, rfl, _⟩ := arg_nm (hval 0 26 v0 rfl rfl) h0
  obtain ⟨i1, rfl, _⟩ := arg_nm (hval 1 26 v1 rfl rfl) h1
  obtain ⟨i2, rfl, _⟩ := arg_nm (hval 2 26 v2 rfl rfl) h2
  exact order4_walk i0 i1 i2 W

theorem viewOrder_holds : Rows.ViewOrderSaid :=
  OpenClaim.holds_of_wide 7 Try.f7 rfl rfl rfl rfl rfl rfl rfl ⟨rfl, rfl, rfl, rfl, rfl⟩ rfl rfl rfl rfl rfl (by kernel_rfl) Try.func7 (by kernel_rfl)
    (of_decide_eq_true (by kernel_rfl)) (by unfold Func.isWrapper; first | (rw [if_pos (by decide +kernel)]; kernel_rfl) | (rw [if_neg (by decide +kernel)]; exact ⟨rfl, rfl⟩))
    (fun os started H enc _ => viewOrder_lifted os started H enc)
end Go.Proofs.Ytgkldjolnbnehaa
