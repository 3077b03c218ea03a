/-
  The statement ProcSorts, whole: for any list and life (above 300 the examples alone are asked): the list's lives in their order, each once, whether it is a set, whether the life is in it, its nodes, are the document's; the arguments read as they did. No condition.
-/
import Derived.Test.YtadpbcbgmopfaaaPsorts
import Derived.Test.YtadpbcbgmopfaaaPargs
import Derived.Test.YtadpbcbgmopfaaaLawp
namespace Go.Proofs.Ytadpbcbgmopfaaa
open Go.ChangeShapes Go.WideShapes Go.ChangeAt Go.WideMaps Go.WideElems Go.RowKit

theorem procSorts_read : ∀ t ∈ Try.f10.params.toList, Try.prog.readableRec t = true ∧ t < Try.prog.types.size := by
  have h : (Try.f10.params.toList.all fun t => Try.prog.readableRec t && decide (t < Try.prog.types.size)) = true := by kernel_rfl
  intro t ht
  have := List.all_eq_true.1 h t ht
  simpa using this

set_option maxRecDepth 100000 in
theorem procSorts_lifted (os : Os) (started : os.Started) (H : Type) (enc : TypeId × Value → H) :
    ReturnsInHanded {} Try.checked os 10 .any (Rows.procSortsSpec.pre6 enc Try.prog Try.f10 [] false) (Rows.procSortsSpec.post enc Try.prog Try.f10 false true false false) := by
  refine law_lifted 10 Try.f10 Rows.procSortsSpec os started (by kernel_rfl) Try.func10 rfl
    (fun ds hd => by
      rw [Try.params10] at hd
      match ds, hd with
      | [d0, d1], _ => rfl) (by kernel_rfl) procSorts_read
    (ChangeSpec.witness6 (enc := enc) (C := Try.checked) false ⟨#[], #[.slice none 0 0, .agg #[.int .i64 0, .int .u64 0]], []⟩ 8 (by kernel_rfl) (by kernel_rfl) (by kernel_rfl) (by kernel_rfl)) ?_
  intro W base args ds p hval hA _
  rw [Try.params10] at hA hval
  obtain ⟨v0, v1, d0, d1, p0, p1, rfl, rfl, rfl, h0, h1⟩ := trodAll_two hA
  obtain ⟨A0, l0, c0, rfl, k0, b0, m0, u0⟩ := arg_lives (hval 0 74 v0 rfl rfl) h0
  obtain ⟨q1, rfl, _, _, _⟩ := arg_life (hval 1 70 v1 rfl rfl) h1
  exact sorts_walk A0 l0 c0 q1 W b0 m0 k0 (fun q hq => (u0 q hq).2.1)

theorem procSorts_holds : Rows.ProcSortsSaid :=
  OpenClaim.holds_of_wide 10 Try.f10 rfl rfl rfl rfl rfl rfl rfl ⟨rfl, rfl, rfl, rfl, rfl⟩ rfl rfl rfl rfl rfl (by kernel_rfl) Try.func10 (by kernel_rfl)
    (of_decide_eq_true (by kernel_rfl)) (by unfold Func.isWrapper; first | (rw [if_pos (by decide +kernel)]; kernel_rfl) | (rw [if_neg (by decide +kernel)]; exact ⟨rfl, rfl⟩))
    (fun os started H enc _ => procSorts_lifted os started H enc)
end Go.Proofs.Ytadpbcbgmopfaaa
