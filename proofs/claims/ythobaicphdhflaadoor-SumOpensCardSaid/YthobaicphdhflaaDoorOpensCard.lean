/-
  The statement SumOpens, whole: for any bytes (above 65,536 the examples alone are asked), sum.Open answers what the document says, and what it answers is not what was handed in; the argument reads as it did. Condition: the package's table starts as the program's text lays it (tied by the card).
-/
import Derived.Test.YthobaicphdhflaaDoorOpens
import Derived.Test.YthobaicphdhflaaDoorCards
import Derived.Test.YthobaicphdhflaaDoorTie
import Derived.SevenTiedAt
namespace Go.Proofs.YthobaicphdhflaaDoor
open Go.ChangeShapes Go.WideShapes Go.ChangeAt Go.WideMaps Go.WideElems Go.RowKit

theorem opens_read : ∀ t ∈ Tryd.f5.params.toList, Tryd.prog.readableRec t = true ∧ t < Tryd.prog.types.size := by
  have h : (Tryd.f5.params.toList.all fun t => Tryd.prog.readableRec t && decide (t < Tryd.prog.types.size)) = true := by kernel_rfl
  intro t ht
  have := List.all_eq_true.1 h t ht
  simpa using this

theorem opens_lifted (os : Os) (started : os.Started) (H : Type) (enc : TypeId × Value → H) :
    ReturnsInHanded {} Tryd.checked os 5 .any (fun w args => (Rows.sumOpensSpec.pre enc Tryd.prog Tryd.f5 [] false w args ∧ laidMetH Tryd.prog laid1 w) ∧ sizedMet enc Tryd.prog Tryd.f5 (OpenSpec.ofChange Rows.sumOpensSpec) false w args)
      (Rows.sumOpensSpec.post enc Tryd.prog Tryd.f5 false true false false) := by
  refine law_lifted 5 Tryd.f5 Rows.sumOpensSpec os started (by kernel_rfl) Tryd.func5 rfl
    (fun ds hd => by
      rw [Tryd.params5] at hd
      match ds, hd with
      | [d0], _ => rfl) (by kernel_rfl) opens_read
    (ChangeSpec.witness_shaped (enc := enc) (C := Tryd.checked) (os := os) (X := fun w _ => laidMetH Tryd.prog laid1 w) false (World.doorLaid Tryd.prog 400 os) #[.slice none 0 0] 8 rfl (World.shaped_of_RefB (by kernel_rfl) (by kernel_rfl)) (by kernel_rfl) (by kernel_rfl) (by kernel_rfl) (door_met os _)) ?_
  intro W base args ds p hT hval hA hs
  rw [Tryd.params5] at hA hval hs
  obtain ⟨v0, d0, rfl, rfl, h0⟩ := trodAll_one hA
  obtain ⟨A, l, cap, rfl, hc, ha, hb, hr⟩ := arg_bytes (hval 0 25 v0 rfl rfl) h0
  exact opens_walk A l cap W hT hb ha hc (hr _ _ 0 hs rfl rfl)

theorem sumOpens_holds : Rows.SumOpensSaid :=
  OpenClaim.holds_of_wide 5 Tryd.f5 rfl rfl rfl rfl rfl rfl rfl ⟨rfl, rfl, rfl, rfl, rfl⟩ rfl rfl rfl rfl rfl (by kernel_rfl) Tryd.func5 (by kernel_rfl)
    (of_decide_eq_true (by kernel_rfl)) (by unfold Func.isWrapper; first | (rw [if_pos (by decide +kernel)]; kernel_rfl) | (rw [if_neg (by decide +kernel)]; exact ⟨rfl, rfl⟩))
    (fun os started H enc _ => opens_lifted os started H enc)

theorem sumOpens_card : Rows.SumOpensCardSaid :=
  Claim7.holds_tied_plain_at .later [] [.data] true _ false
    sumOpens_holds (fun _ h => by cases h) (by kernel_rfl) (fun _ h => by cases h) sumOpens_row_tie rfl ⟨rfl, rfl⟩ (by kernel_rfl) rfl
    (fun f fn hf hfn => by
      obtain rfl : f = 5 := Option.some.inj ((show Tryd.prog.funcNamed "caucus/caucuslaw01.SumOpens" = some 5 by kernel_rfl).symm.trans hf) |>.symm
      obtain rfl : fn = Tryd.f5 := (Option.some.inj (Tryd.func5.symm.trans hfn)).symm
      exact ⟨by kernel_rfl, fun j t ht => by
        rw [Tryd.params5] at ht
        have hm : t ∈ [25] := by simpa using Array.mem_of_getElem? ht
        have hall : ([25].all fun u => !Tryd.prog.wantsStandIn u) = true := by kernel_rfl
        exact (show Tryd.prog.wantsStandIn t = false by simpa using List.all_eq_true.1 hall t hm)⟩)
    (by kernel_rfl)
end Go.Proofs.YthobaicphdhflaaDoor
