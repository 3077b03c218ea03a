/-
  The statement PacketBytes, whole: for any packet (of a long one the examples alone are asked): it has the document's bytes, or none; it stays, and they are new memory; the argument reads as it did. No condition.
-/
import Derived.Test.YtlcddfkhklmieaaKbytes
import Derived.Test.YtlcddfkhklmieaaKargs
import Derived.Test.YtlcddfkhklmieaaGb
namespace Go.Proofs.Ytlcddfkhklmieaa
open Go.ChangeShapes Go.WideShapes Go.ChangeAt Go.WideMaps Go.WideElems Go.RowKit

theorem packetBytes_read : ∀ t ∈ Try.f4.params.toList, Try.prog.readableRec t = true ∧ t < Try.prog.types.size := by
  have h : (Try.f4.params.toList.all fun t => Try.prog.readableRec t && decide (t < Try.prog.types.size)) = true := by kernel_rfl
  intro t ht
  have := List.all_eq_true.1 h t ht
  simpa using this

set_option maxRecDepth 100000 in
theorem packetBytes_lifted (os : Os) (started : os.Started) (H : Type) (enc : TypeId × Value → H) :
    ReturnsInHanded {} Try.checked os 4 .any (Rows.packetBytesSpec.pre6 enc Try.prog Try.f4 [] false) (Rows.packetBytesSpec.post enc Try.prog Try.f4 false true false false) := by
  refine law_lifted 4 Try.f4 Rows.packetBytesSpec os started (by kernel_rfl) Try.func4 rfl
    (fun ds hd => by
      rw [Try.params4] at hd
      match ds, hd with
      | [d0], _ => rfl) (by kernel_rfl) packetBytes_read
    (ChangeSpec.witness6 (enc := enc) (C := Try.checked) false ⟨#[], #[.agg #[.int .i64 0, .int .i64 0, .int .u64 0, .int .i64 0, .slice none 0 0, .slice none 0 0, .int .i64 0, .int .u64 0, .int .u64 0, .slice none 0 0]], []⟩ 8 (by kernel_rfl) (by kernel_rfl) (by kernel_rfl) (by kernel_rfl)) ?_
  intro W base args ds p hval hA _
  rw [Try.params4] at hA hval
  obtain ⟨v0, d0, rfl, rfl, h0⟩ := trodAll_one hA
  obtain ⟨k0, A0, a0, B0, b0, C0, c0, rfl, i0, u0⟩ := arg_packet (hval 0 31 v0 rfl rfl) h0
  exact kbytes_walk k0 A0 a0 B0 b0 C0 c0 W i0 u0

theorem packetBytes_holds : Rows.PacketBytesSaid :=
  OpenClaim.holds_of_wide 4 Try.f4 rfl rfl rfl rfl rfl rfl rfl ⟨rfl, rfl, rfl, rfl, rfl⟩ rfl rfl rfl rfl rfl (by kernel_rfl) Try.func4 (by kernel_rfl)
    (of_decide_eq_true (by kernel_rfl)) (by unfold Func.isWrapper; first | (rw [if_pos (by decide +kernel)]; kernel_rfl) | (rw [if_neg (by decide +kernel)]; exact ⟨rfl, rfl⟩))
    (fun os started H enc _ => packetBytes_lifted os started H enc)
end Go.Proofs.Ytlcddfkhklmieaa
