/-
  The statement WindowEnds, whole: for any bodies and acts (above 300 bodies, or 2000 acts, the examples alone are asked): where all that is due comes and is told, none is left in the end; the arguments read as they did. No condition.
-/
import Derived.Test.YtmkkhknbokfciaaQends
import Derived.Test.YtmkkhknbokfciaaQargs
import Derived.Test.YtmkkhknbokfciaaGb
namespace Go.Proofs.Ytmkkhknbokfciaa
open Go.ChangeShapes Go.WideShapes Go.ChangeAt Go.WideMaps Go.WideElems Go.RowKit

theorem windowEnds_read : ∀ t ∈ Try.f8.params.toList, Try.prog.readableRec t = true ∧ t < Try.prog.types.size := by
  have h : (Try.f8.params.toList.all fun t => Try.prog.readableRec t && decide (t < Try.prog.types.size)) = true := by kernel_rfl
  intro t ht
  have := List.all_eq_true.1 h t ht
  simpa using this

set_option maxRecDepth 100000 in
theorem windowEnds_lifted (os : Os) (started : os.Started) (H : Type) (enc : TypeId × Value → H) :
    ReturnsInHanded {} Try.checked os 8 .any (Rows.windowEndsSpec.pre6 enc Try.prog Try.f8 [] false) (Rows.windowEndsSpec.post enc Try.prog Try.f8 false true false false) := by
  refine law_lifted 8 Try.f8 Rows.windowEndsSpec os started (by kernel_rfl) Try.func8 rfl
    (fun ds hd => by
      rw [Try.params8] at hd
      match ds, hd with
      | [d0, d1], _ => rfl) (by kernel_rfl) windowEnds_read
    (ChangeSpec.witness6 (enc := enc) (C := Try.checked) false ⟨#[], #[.slice none 0 0, .slice none 0 0], []⟩ 8 (by kernel_rfl) (by kernel_rfl) (by kernel_rfl) (by kernel_rfl)) ?_
  intro W base args ds p hval hA _
  rw [Try.params8] at hA hval
  obtain ⟨v0, v1, d0, d1, p0, p1, rfl, rfl, rfl, h0, h1⟩ := trodAll_two hA
  obtain ⟨A0, l0, c0, rfl, m0, k0, r0, z0⟩ := arg_rows7 (hval 0 23 v0 rfl rfl) h0
  obtain ⟨A1, l1, c1, rfl, m1, b1, u1⟩ := arg_acts (hval 1 49 v1 rfl rfl) h1
  exact ends7_walk A0 l0 c0 A1 l1 c1 W m0 k0 r0 z0 m1 b1 u1

theorem windowEnds_holds : Rows.WindowEndsSaid :=
  OpenClaim.holds_of_wide 8 Try.f8 rfl rfl rfl rfl rfl rfl rfl ⟨rfl, rfl, rfl, rfl, rfl⟩ rfl rfl rfl rfl rfl (by kernel_rfl) Try.func8 (by kernel_rfl)
    (of_decide_eq_true (by kernel_rfl)) (by unfold Func.isWrapper; first | (rw [if_pos (by decide +kernel)]; kernel_rfl) | (rw [if_neg (by decide +kernel)]; exact ⟨rfl, rfl⟩))
    (fun os started H enc _ => windowEnds_lifted os started H enc)
end Go.Proofs.Ytmkkhknbokfciaa
