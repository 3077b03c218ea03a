/-
  The statement ProcJoins, whole: for any lists (above 300 lives, or 20 lists, the examples alone are asked): unions, what two have in common, what one has more, and whether they are the same set, are the document's; the arguments read as they did. No condition.
-/
import Derived.Test.YtadpbcbgmopfaaaPjoins
import Derived.Test.YtadpbcbgmopfaaaPargs
import Derived.Test.YtadpbcbgmopfaaaLawp
import Derived.Test.YtadpbcbgmopfaaaPargl
namespace Go.Proofs.Ytadpbcbgmopfaaa
open Go.ChangeShapes Go.WideShapes Go.ChangeAt Go.WideMaps Go.WideElems Go.RowKit

theorem procJoins_read : ∀ t ∈ Try.f11.params.toList, Try.prog.readableRec t = true ∧ t < Try.prog.types.size := by
  have h : (Try.f11.params.toList.all fun t => Try.prog.readableRec t && decide (t < Try.prog.types.size)) = true := by kernel_rfl
  intro t ht
  have := List.all_eq_true.1 h t ht
  simpa using this

set_option maxRecDepth 100000 in
theorem procJoins_lifted (os : Os) (started : os.Started) (H : Type) (enc : TypeId × Value → H) :
    ReturnsInHanded {} Try.checked os 11 .any (Rows.procJoinsSpec.pre6 enc Try.prog Try.f11 [] false) (Rows.procJoinsSpec.post enc Try.prog Try.f11 false true false false) := by
  refine law_lifted 11 Try.f11 Rows.procJoinsSpec os started (by kernel_rfl) Try.func11 rfl
    (fun ds hd => by
      rw [Try.params11] at hd
      match ds, hd with
      | [d0, d1, d2], _ => rfl) (by kernel_rfl) procJoins_read
    (ChangeSpec.witness6 (enc := enc) (C := Try.checked) false ⟨#[], #[.slice none 0 0, .slice none 0 0, .slice none 0 0], []⟩ 8 (by kernel_rfl) (by kernel_rfl) (by kernel_rfl) (by kernel_rfl)) ?_
  intro W base args ds p hval hA _
  rw [Try.params11] at hA hval
  obtain ⟨v0, v1, v2, d0, d1, d2, p0, p1, p2, rfl, rfl, rfl, h0, h1, h2⟩ := trodAll_three hA
  obtain ⟨A0, l0, c0, rfl, k0, b0, m0, _⟩ := arg_lives (hval 0 74 v0 rfl rfl) h0
  obtain ⟨A1, l1, c1, rfl, k1, b1, m1, _⟩ := arg_lives (hval 1 74 v1 rfl rfl) h1
  obtain ⟨A2, l2, c2, rfl, k2, b2⟩ := arg_lists (hval 2 85 v2 rfl rfl) h2
  exact joins_walk A0 A1 A2 l0 l1 l2 c0 c1 c2 W b0 b1 b2 m0 m1 k0 k1 k2

theorem procJoins_holds : Rows.ProcJoinsSaid :=
  OpenClaim.holds_of_wide 11 Try.f11 rfl rfl rfl rfl rfl rfl rfl ⟨rfl, rfl, rfl, rfl, rfl⟩ rfl rfl rfl rfl rfl (by kernel_rfl) Try.func11 (by kernel_rfl)
    (of_decide_eq_true (by kernel_rfl)) (by unfold Func.isWrapper; first | (rw [if_pos (by decide +kernel)]; kernel_rfl) | (rw [if_neg (by decide +kernel)]; exact ⟨rfl, rfl⟩))
    (fun os started H enc _ => procJoins_lifted os started H enc)
end Go.Proofs.Ytadpbcbgmopfaaa
