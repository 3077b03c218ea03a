/-
  The statement ProcOrder, whole: for any three lives: their order is one; the arguments read as they did. No condition.
-/
import Derived.Test.YtadpbcbgmopfaaaPcompares
import Derived.Test.YtadpbcbgmopfaaaPargs
import Derived.Test.YtadpbcbgmopfaaaLawp
namespace Go.Proofs.Ytadpbcbgmopfaaa
open Go.ChangeShapes Go.WideShapes Go.ChangeAt Go.WideMaps Go.WideElems Go.RowKit

theorem procOrder_read : ∀ t ∈ Try.f13.params.toList, Try.prog.readableRec t = true ∧ t < Try.prog.types.size := by
  have h : (Try.f13.params.toList.all fun t => Try.prog.readableRec t && decide (t < Try.prog.types.size)) = true := by kernel_rfl
  intro t ht
  have := List.all_eq_true.1 h t ht
  simpa using this

set_option maxRecDepth 100000 in
theorem procOrder_lifted (os : Os) (started : os.Started) (H : Type) (enc : TypeId × Value → H) :
    ReturnsInHanded {} Try.checked os 13 .any (Rows.procOrderSpec.pre6 enc Try.prog Try.f13 [] false) (Rows.procOrderSpec.post enc Try.prog Try.f13 false true false false) := by
  refine law_lifted 13 Try.f13 Rows.procOrderSpec os started (by kernel_rfl) Try.func13 rfl
    (fun ds hd => by
      rw [Try.params13] at hd
      match ds, hd with
      | [d0, d1, d2], _ => rfl) (by kernel_rfl) procOrder_read
    (ChangeSpec.witness6 (enc := enc) (C := Try.checked) false ⟨#[], #[.agg #[.int .i64 0, .int .u64 0], .agg #[.int .i64 0, .int .u64 0], .agg #[.int .i64 0, .int .u64 0]], []⟩ 8 (by kernel_rfl) (by kernel_rfl) (by kernel_rfl) (by kernel_rfl)) ?_
  intro W base args ds p hval hA _
  rw [Try.params13] at hA hval
  obtain ⟨v0, v1, v2, d0, d1, d2, p0, p1, p2, rfl, rfl, rfl, h0, h1, h2⟩ := trodAll_three hA
  obtain ⟨q0, rfl, _, _, _⟩ := arg_life (hval 0 70 v0 rfl rfl) h0
  obtain ⟨q1, rfl, _, _, _⟩ := arg_life (hval 1 70 v1 rfl rfl) h1
  obtain ⟨q2, rfl, _, _, _⟩ := arg_life (hval 2 70 v2 rfl rfl) h2
  exact order_walk q0 q1 q2 W

theorem procOrder_holds : Rows.ProcOrderSaid :=
  OpenClaim.holds_of_wide 13 Try.f13 rfl rfl rfl rfl rfl rfl rfl ⟨rfl, rfl, rfl, rfl, rfl⟩ rfl rfl rfl rfl rfl (by kernel_rfl) Try.func13 (by kernel_rfl)
    (of_decide_eq_true (by kernel_rfl)) (by unfold Func.isWrapper; first | (rw [if_pos (by decide +kernel)]; kernel_rfl) | (rw [if_neg (by decide +kernel)]; exact ⟨rfl, rfl⟩))
    (fun os started H enc _ => procOrder_lifted os started H enc)
end Go.Proofs.Ytadpbcbgmopfaaa
