/-
  The statement FrameBytes, whole: any frame (of a body above 65,536 bytes the example alone is asked) has the document's bytes, or none, in new memory; the argument reads as it did. Condition: the package's table starts as the program's text lays it (tied by the card).
-/
import Derived.Test.YtelbhlkojpnmgaaDoorFbyteses
import Derived.Test.YtelbhlkojpnmgaaDoorSlaw
import Derived.Test.YtelbhlkojpnmgaaDoorFargs
import Derived.Test.YtelbhlkojpnmgaaDoorCards
import Derived.Test.YtelbhlkojpnmgaaDoorTie
import Derived.SevenTiedAt
namespace Go.Proofs.YtelbhlkojpnmgaaDoor
open Go.ChangeShapes Go.WideShapes Go.ChangeAt Go.WideMaps Go.WideElems Go.RowKit

theorem frameBytes_read : ∀ t ∈ Tryd.f4.params.toList, Tryd.prog.readableRec t = true ∧ t < Tryd.prog.types.size := by
  have h : (Tryd.f4.params.toList.all fun t => Tryd.prog.readableRec t && decide (t < Tryd.prog.types.size)) = true := by kernel_rfl
  intro t ht
  have := List.all_eq_true.1 h t ht
  simpa using this

set_option maxRecDepth 100000 in
theorem frameBytes_lifted (os : Os) (started : os.Started) (H : Type) (enc : TypeId × Value → H) :
    ReturnsInHanded {} Tryd.checked os 4 .any (fun w args => (Rows.frameBytesSpec.pre enc Tryd.prog Tryd.f4 [] false w args ∧ laidMetH Tryd.prog laid1 w) ∧ sizedMet enc Tryd.prog Tryd.f4 (OpenSpec.ofChange Rows.frameBytesSpec) false w args)
      (Rows.frameBytesSpec.post enc Tryd.prog Tryd.f4 false true false false) := by
  refine slaw_lifted 4 Tryd.f4 Rows.frameBytesSpec os started (by kernel_rfl) Tryd.func4 rfl
    (fun ds hd => by
      rw [Tryd.params4] at hd
      match ds, hd with
      | [d0], _ => rfl) (by kernel_rfl) frameBytes_read
    (ChangeSpec.witness_shaped (enc := enc) (C := Tryd.checked) (os := os) (X := fun w _ => laidMetH Tryd.prog laid1 w) false (World.doorLaid Tryd.prog 400 os) #[.agg #[.int .i64 0, .int .i64 0, .int .i64 0, .int .u64 0, .int .u64 0, .int .u64 0, .int .u64 0, .int .u64 0, .int .u64 0, .slice none 0 0]] 8 rfl (World.shaped_of_RefB (by kernel_rfl) (by kernel_rfl)) (by kernel_rfl) (by kernel_rfl) (by kernel_rfl) (door_met os _)) ?_
  intro W base args ds p hT hval hA _
  rw [Tryd.params4] at hA hval
  obtain ⟨v0, d0, rfl, rfl, h0⟩ := trodAll_one hA
  obtain ⟨f0, A0, c0, rfl, _, _, n0, b0, _⟩ := arg_frame (hval 0 25 v0 rfl rfl) h0
  exact fbyteses_walk f0 A0 c0 W hT n0 b0

theorem frameBytes_holds : Rows.FrameBytesSaid :=
  OpenClaim.holds_of_wide 4 Tryd.f4 rfl rfl rfl rfl rfl rfl rfl ⟨rfl, rfl, rfl, rfl, rfl⟩ rfl rfl rfl rfl rfl (by kernel_rfl) Tryd.func4 (by kernel_rfl)
    (of_decide_eq_true (by kernel_rfl)) (by unfold Func.isWrapper; first | (rw [if_pos (by decide +kernel)]; kernel_rfl) | (rw [if_neg (by decide +kernel)]; exact ⟨rfl, rfl⟩))
    (fun os started H enc _ => frameBytes_lifted os started H enc)

theorem frameBytes_card : Rows.FrameBytesCardSaid :=
  Claim7.holds_tied_plain_at .later [] [.data] true _ false
    frameBytes_holds (fun _ h => by cases h) (by kernel_rfl) (fun _ h => by cases h) frameBytes_row_tie rfl ⟨rfl, rfl⟩ (by kernel_rfl) rfl
    (fun f fn hf hfn => by
      obtain rfl : f = 4 := Option.some.inj ((show Tryd.prog.funcNamed "caucus/caucuslaw05.FrameBytes" = some 4 by kernel_rfl).symm.trans hf) |>.symm
      obtain rfl : fn = Tryd.f4 := (Option.some.inj (Tryd.func4.symm.trans hfn)).symm
      exact ⟨by kernel_rfl, fun j t ht => by
        rw [Tryd.params4] at ht
        have hm : t ∈ [25] := by simpa using Array.mem_of_getElem? ht
        have hall : ([25].all fun u => !Tryd.prog.wantsStandIn u) = true := by kernel_rfl
        exact (show Tryd.prog.wantsStandIn t = false by simpa using List.all_eq_true.1 hall t hm)⟩)
    (by kernel_rfl)
end Go.Proofs.YtelbhlkojpnmgaaDoor
