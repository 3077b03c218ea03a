/-
  The statement FrameMay, whole: whether any frame may be is the document's answer; the argument reads as it did. Condition: the package's table starts as the program's text lays it (tied by the card).
-/
import Derived.Test.YtelbhlkojpnmgaaDoorFmays
import Derived.Test.YtelbhlkojpnmgaaDoorSlaw
import Derived.Test.YtelbhlkojpnmgaaDoorFargs
import Derived.Test.YtelbhlkojpnmgaaDoorCards
import Derived.Test.YtelbhlkojpnmgaaDoorTie
import Derived.SevenTiedAt
namespace Go.Proofs.YtelbhlkojpnmgaaDoor
open Go.ChangeShapes Go.WideShapes Go.ChangeAt Go.WideMaps Go.WideElems Go.RowKit

theorem frameMay_read : ∀ t ∈ Tryd.f3.params.toList, Tryd.prog.readableRec t = true ∧ t < Tryd.prog.types.size := by
  have h : (Tryd.f3.params.toList.all fun t => Tryd.prog.readableRec t && decide (t < Tryd.prog.types.size)) = true := by kernel_rfl
  intro t ht
  have := List.all_eq_true.1 h t ht
  simpa using this

set_option maxRecDepth 100000 in
theorem frameMay_lifted (os : Os) (started : os.Started) (H : Type) (enc : TypeId × Value → H) :
    ReturnsInHanded {} Tryd.checked os 3 .any (fun w args => (Rows.frameMaySpec.pre enc Tryd.prog Tryd.f3 [] false w args ∧ laidMetH Tryd.prog laid1 w) ∧ sizedMet enc Tryd.prog Tryd.f3 (OpenSpec.ofChange Rows.frameMaySpec) false w args)
      (Rows.frameMaySpec.post enc Tryd.prog Tryd.f3 false true false false) := by
  refine slaw_lifted 3 Tryd.f3 Rows.frameMaySpec os started (by kernel_rfl) Tryd.func3 rfl
    (fun ds hd => by
      rw [Tryd.params3] at hd
      match ds, hd with
      | [d0], _ => rfl) (by kernel_rfl) frameMay_read
    (ChangeSpec.witness_shaped (enc := enc) (C := Tryd.checked) (os := os) (X := fun w _ => laidMetH Tryd.prog laid1 w) false (World.doorLaid Tryd.prog 400 os) #[.agg #[.int .i64 0, .int .i64 0, .int .i64 0, .int .u64 0, .int .u64 0, .int .u64 0, .int .u64 0, .int .u64 0, .int .u64 0, .slice none 0 0]] 8 rfl (World.shaped_of_RefB (by kernel_rfl) (by kernel_rfl)) (by kernel_rfl) (by kernel_rfl) (by kernel_rfl) (door_met os _)) ?_
  intro W base args ds p hT hval hA _
  rw [Tryd.params3] at hA hval
  obtain ⟨v0, d0, rfl, rfl, h0⟩ := trodAll_one hA
  obtain ⟨f0, A0, c0, rfl, _, _, _, _, _⟩ := arg_frame (hval 0 25 v0 rfl rfl) h0
  exact fmays_walk f0 A0 c0 W hT

theorem frameMay_holds : Rows.FrameMaySaid :=
  OpenClaim.holds_of_wide 3 Tryd.f3 rfl rfl rfl rfl rfl rfl rfl ⟨rfl, rfl, rfl, rfl, rfl⟩ rfl rfl rfl rfl rfl (by kernel_rfl) Tryd.func3 (by kernel_rfl)
    (of_decide_eq_true (by kernel_rfl)) (by unfold Func.isWrapper; first | (rw [if_pos (by decide +kernel)]; kernel_rfl) | (rw [if_neg (by decide +kernel)]; exact ⟨rfl, rfl⟩))
    (fun os started H enc _ => frameMay_lifted os started H enc)

theorem frameMay_card : Rows.FrameMayCardSaid :=
  Claim7.holds_tied_plain_at .later [] [.data] true _ false
    frameMay_holds (fun _ h => by cases h) (by kernel_rfl) (fun _ h => by cases h) frameMay_row_tie rfl ⟨rfl, rfl⟩ (by kernel_rfl) rfl
    (fun f fn hf hfn => by
      obtain rfl : f = 3 := Option.some.inj ((show Tryd.prog.funcNamed "caucus/caucuslaw05.FrameMay" = some 3 by kernel_rfl).symm.trans hf) |>.symm
      obtain rfl : fn = Tryd.f3 := (Option.some.inj (Tryd.func3.symm.trans hfn)).symm
      exact ⟨by kernel_rfl, fun j t ht => by
        rw [Tryd.params3] at ht
        have hm : t ∈ [25] := by simpa using Array.mem_of_getElem? ht
        have hall : ([25].all fun u => !Tryd.prog.wantsStandIn u) = true := by kernel_rfl
        exact (show Tryd.prog.wantsStandIn t = false by simpa using List.all_eq_true.1 hall t hm)⟩)
    (by kernel_rfl)
end Go.Proofs.YtelbhlkojpnmgaaDoor
