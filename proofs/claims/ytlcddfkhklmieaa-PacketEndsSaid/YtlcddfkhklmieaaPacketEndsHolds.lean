/-
  The statement PacketEnds, whole: for any packet, cut and byte (of a long packet the examples alone are asked): no beginning of its bytes, but all of them, is a packet's, nor are they with the byte behind; the arguments read as they did. No condition.
-/
import Derived.Test.YtlcddfkhklmieaaKends
import Derived.Test.YtlcddfkhklmieaaKargs
import Derived.Test.YtlcddfkhklmieaaGb
namespace Go.Proofs.Ytlcddfkhklmieaa
open Go.ChangeShapes Go.WideShapes Go.ChangeAt Go.WideMaps Go.WideElems Go.RowKit

theorem packetEnds_read : ∀ t ∈ Try.f9.params.toList, Try.prog.readableRec t = true ∧ t < Try.prog.types.size := by
  have h : (Try.f9.params.toList.all fun t => Try.prog.readableRec t && decide (t < Try.prog.types.size)) = true := by kernel_rfl
  intro t ht
  have := List.all_eq_true.1 h t ht
  simpa using this

set_option maxRecDepth 100000 in
theorem packetEnds_lifted (os : Os) (started : os.Started) (H : Type) (enc : TypeId × Value → H) :
    ReturnsInHanded {} Try.checked os 9 .any (Rows.packetEndsSpec.pre6 enc Try.prog Try.f9 [] false) (Rows.packetEndsSpec.post enc Try.prog Try.f9 false true false false) := by
  refine law_lifted 9 Try.f9 Rows.packetEndsSpec os started (by kernel_rfl) Try.func9 rfl
    (fun ds hd => by
      rw [Try.params9] at hd
      match ds, hd with
      | [d0, d1, d2], _ => rfl) (by kernel_rfl) packetEnds_read
    (ChangeSpec.witness6 (enc := enc) (C := Try.checked) false ⟨#[], #[.agg #[.int .i64 0, .int .i64 0, .int .u64 0, .int .i64 0, .slice none 0 0, .slice none 0 0, .int .i64 0, .int .u64 0, .int .u64 0, .slice none 0 0], .int .i64 0, .int .u8 0], []⟩ 8 (by kernel_rfl) (by kernel_rfl) (by kernel_rfl) (by kernel_rfl)) ?_
  intro W base args ds p hval hA _
  rw [Try.params9] at hA hval
  obtain ⟨v0, v1, v2, d0, d1, d2, p0, p1, p2, rfl, rfl, rfl, h0, h1, h2⟩ := trodAll_three hA
  obtain ⟨k0, A0, a0, B0, b0, C0, c0, rfl, i0, u0⟩ := arg_packet (hval 0 31 v0 rfl rfl) h0
  obtain ⟨i1, rfl, _⟩ := arg_int (hval 1 3 v1 rfl rfl) h1
  obtain ⟨i2, rfl, _⟩ := arg_u8 (hval 2 5 v2 rfl rfl) h2
  exact kends_walk k0 A0 a0 B0 b0 C0 c0 i1 i2 W i0 u0

theorem packetEnds_holds : Rows.PacketEndsSaid :=
  OpenClaim.holds_of_wide 9 Try.f9 rfl rfl rfl rfl rfl rfl rfl ⟨rfl, rfl, rfl, rfl, rfl⟩ rfl rfl rfl rfl rfl (by kernel_rfl) Try.func9 (by kernel_rfl)
    (of_decide_eq_true (by kernel_rfl)) (by unfold Func.isWrapper; first | (rw [if_pos (by decide +kernel)]; kernel_rfl) | (rw [if_neg (by decide +kernel)]; exact ⟨rfl, rfl⟩))
    (fun os started H enc _ => packetEnds_lifted os started H enc)
end Go.Proofs.Ytlcddfkhklmieaa
