/-
  The statement CodeBreaks, whole: for any number, text, cut and calls (above 10,000 bytes and 100 calls the examples alone are asked) of a beginning of a short number, or of a text, that is not all of it, nothing is read, nor behind the fault; the arguments read as they did. No condition.
-/
import Derived.Test.YtcfdmimfpllckaaBreaks
import Derived.Test.YtcfdmimfpllckaaArgs
namespace Go.Proofs.Ytcfdmimfpllckaa
open Go.ChangeShapes Go.WideShapes Go.ChangeAt Go.WideMaps Go.WideElems Go.RowKit

theorem codeBreaks_read : ∀ t ∈ Try.f10.params.toList, Try.prog.readableRec t = true ∧ t < Try.prog.types.size := by
  have h : (Try.f10.params.toList.all fun t => Try.prog.readableRec t && decide (t < Try.prog.types.size)) = true := by kernel_rfl
  intro t ht
  have := List.all_eq_true.1 h t ht
  simpa using this

set_option maxRecDepth 100000 in
theorem codeBreaks_lifted (os : Os) (started : os.Started) (H : Type) (enc : TypeId × Value → H) :
    ReturnsInHanded {} Try.checked os 10 .any (Rows.codeBreaksSpec.pre6 enc Try.prog Try.f10 [] false) (Rows.codeBreaksSpec.post enc Try.prog Try.f10 false true false false) := by
  refine law_lifted 10 Try.f10 Rows.codeBreaksSpec os started (by kernel_rfl) Try.func10 rfl
    (fun ds hd => by
      rw [Try.params10] at hd
      match ds, hd with
      | [d0, d1, d2, d3], _ => rfl) (by kernel_rfl) codeBreaks_read
    (ChangeSpec.witness6 (enc := enc) (C := Try.checked) false ⟨#[], #[.int .u64 0, .string ⟨#[]⟩, .int .i64 0, .slice none 0 0], []⟩ 8 (by kernel_rfl) (by kernel_rfl) (by kernel_rfl) (by kernel_rfl)) ?_
  intro W base args ds p hval hA _
  rw [Try.params10] at hA hval
  obtain ⟨v0, v1, v2, v3, d0, d1, d2, d3, p0, p1, p2, p3, rfl, rfl, rfl, h0, h1, h2, h3⟩ := trodAll_four hA
  obtain ⟨i0, rfl, u0⟩ := arg_u64 (hval 0 29 v0 rfl rfl) h0
  obtain ⟨s1, rfl, _⟩ := arg_str (hval 1 9 v1 rfl rfl) h1
  obtain ⟨i2, rfl, _⟩ := arg_int (hval 2 3 v2 rfl rfl) h2
  obtain ⟨A3, l3, c3, rfl, _, b3, u3⟩ := arg_asks (hval 3 45 v3 rfl rfl) h3
  exact breaks_walk i0 s1 i2 A3 l3 c3 W u0 b3 u3

theorem codeBreaks_holds : Rows.CodeBreaksSaid :=
  OpenClaim.holds_of_wide 10 Try.f10 rfl rfl rfl rfl rfl rfl rfl ⟨rfl, rfl, rfl, rfl, rfl⟩ rfl rfl rfl rfl rfl (by kernel_rfl) Try.func10 (by kernel_rfl)
    (of_decide_eq_true (by kernel_rfl)) (by unfold Func.isWrapper; first | (rw [if_pos (by decide +kernel)]; kernel_rfl) | (rw [if_neg (by decide +kernel)]; exact ⟨rfl, rfl⟩))
    (fun os started H enc _ => codeBreaks_lifted os started H enc)
end Go.Proofs.Ytcfdmimfpllckaa
