/-
  The statement FrameApart, whole: unlike frames (of bodies above 4096 bytes the example alone is asked) have unlike bytes; the arguments read as they did. Condition: the package's table starts as the program's text lays it (tied by the card).
-/
import Derived.Test.YtelbhlkojpnmgaaDoorFapart
import Derived.Test.YtelbhlkojpnmgaaDoorSlaw
import Derived.Test.YtelbhlkojpnmgaaDoorFargs
import Derived.Test.YtelbhlkojpnmgaaDoorCards
import Derived.Test.YtelbhlkojpnmgaaDoorTie
import Derived.SevenTiedAt
namespace Go.Proofs.YtelbhlkojpnmgaaDoor
open Go.ChangeShapes Go.WideShapes Go.ChangeAt Go.WideMaps Go.WideElems Go.RowKit

theorem frameApart_read : ∀ t ∈ Tryd.f9.params.toList, Tryd.prog.readableRec t = true ∧ t < Tryd.prog.types.size := by
  have h : (Tryd.f9.params.toList.all fun t => Tryd.prog.readableRec t && decide (t < Tryd.prog.types.size)) = true := by kernel_rfl
  intro t ht
  have := List.all_eq_true.1 h t ht
  simpa using this

set_option maxRecDepth 100000 in
theorem frameApart_lifted (os : Os) (started : os.Started) (H : Type) (enc : TypeId × Value → H) :
    ReturnsInHanded {} Tryd.checked os 9 .any (fun w args => (Rows.frameApartSpec.pre enc Tryd.prog Tryd.f9 [] false w args ∧ laidMetH Tryd.prog laid1 w) ∧ sizedMet enc Tryd.prog Tryd.f9 (OpenSpec.ofChange Rows.frameApartSpec) false w args)
      (Rows.frameApartSpec.post enc Tryd.prog Tryd.f9 false true false false) := by
  refine slaw_lifted 9 Tryd.f9 Rows.frameApartSpec os started (by kernel_rfl) Tryd.func9 rfl
    (fun ds hd => by
      rw [Tryd.params9] at hd
      match ds, hd with
      | [d0, d1], _ => rfl) (by kernel_rfl) frameApart_read
    (ChangeSpec.witness_shaped (enc := enc) (C := Tryd.checked) (os := os) (X := fun w _ => laidMetH Tryd.prog laid1 w) false (World.doorLaid Tryd.prog 400 os) #[.agg #[.int .i64 0, .int .i64 0, .int .i64 0, .int .u64 0, .int .u64 0, .int .u64 0, .int .u64 0, .int .u64 0, .int .u64 0, .slice none 0 0], .agg #[.int .i64 0, .int .i64 0, .int .i64 0, .int .u64 0, .int .u64 0, .int .u64 0, .int .u64 0, .int .u64 0, .int .u64 0, .slice none 0 0]] 8 rfl (World.shaped_of_RefB (by kernel_rfl) (by kernel_rfl)) (by kernel_rfl) (by kernel_rfl) (by kernel_rfl) (door_met os _)) ?_
  intro W base args ds p hT hval hA _
  rw [Tryd.params9] at hA hval
  obtain ⟨v0, v1, d0, d1, p0, p1, rfl, rfl, rfl, h0, h1⟩ := trodAll_two hA
  obtain ⟨f0, A0, c0, rfl, _, _, _, b0, _⟩ := arg_frame (hval 0 25 v0 rfl rfl) h0
  obtain ⟨f1, A1, c1, rfl, _, _, _, b1, _⟩ := arg_frame (hval 1 25 v1 rfl rfl) h1
  exact fapart_walk f0 A0 c0 f1 A1 c1 W hT b0 b1

theorem frameApart_holds : Rows.FrameApartSaid :=
  OpenClaim.holds_of_wide 9 Tryd.f9 rfl rfl rfl rfl rfl rfl rfl ⟨rfl, rfl, rfl, rfl, rfl⟩ rfl rfl rfl rfl rfl (by kernel_rfl) Tryd.func9 (by kernel_rfl)
    (of_decide_eq_true (by kernel_rfl)) (by unfold Func.isWrapper; first | (rw [if_pos (by decide +kernel)]; kernel_rfl) | (rw [if_neg (by decide +kernel)]; exact ⟨rfl, rfl⟩))
    (fun os started H enc _ => frameApart_lifted os started H enc)

theorem frameApart_card : Rows.FrameApartCardSaid :=
  Claim7.holds_tied_plain_at .later [] [.data] true _ false
    frameApart_holds (fun _ h => by cases h) (by kernel_rfl) (fun _ h => by cases h) frameApart_row_tie rfl ⟨rfl, rfl⟩ (by kernel_rfl) rfl
    (fun f fn hf hfn => by
      obtain rfl : f = 9 := Option.some.inj ((show Tryd.prog.funcNamed "caucus/caucuslaw05.FrameApart" = some 9 by kernel_rfl).symm.trans hf) |>.symm
      obtain rfl : fn = Tryd.f9 := (Option.some.inj (Tryd.func9.symm.trans hfn)).symm
      exact ⟨by kernel_rfl, fun j t ht => by
        rw [Tryd.params9] at ht
        have hm : t ∈ [25, 25] := by simpa using Array.mem_of_getElem? ht
        have hall : ([25, 25].all fun u => !Tryd.prog.wantsStandIn u) = true := by kernel_rfl
        exact (show Tryd.prog.wantsStandIn t = false by simpa using List.all_eq_true.1 hall t hm)⟩)
    (by kernel_rfl)
end Go.Proofs.YtelbhlkojpnmgaaDoor
