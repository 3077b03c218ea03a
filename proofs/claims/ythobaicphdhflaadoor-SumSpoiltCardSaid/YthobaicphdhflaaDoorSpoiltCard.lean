/-
  The statement SumSpoilt, whole: a sealed text (of at most 65,532 bytes; above, the examples alone are asked) of which one, two or three bits are turned is opened no more; the arguments read as they did. Condition: the package's table starts as the program's text lays it (tied by the card).
-/
import Derived.Test.YthobaicphdhflaaDoorSpoilt
import Derived.Test.YthobaicphdhflaaDoorCards
import Derived.Test.YthobaicphdhflaaDoorTie
import Derived.SevenTiedAt
namespace Go.Proofs.YthobaicphdhflaaDoor
open Go.ChangeShapes Go.WideShapes Go.ChangeAt Go.WideMaps Go.WideElems Go.RowKit

theorem spoilt_read : ∀ t ∈ Tryd.f8.params.toList, Tryd.prog.readableRec t = true ∧ t < Tryd.prog.types.size := by
  have h : (Tryd.f8.params.toList.all fun t => Tryd.prog.readableRec t && decide (t < Tryd.prog.types.size)) = true := by kernel_rfl
  intro t ht
  have := List.all_eq_true.1 h t ht
  simpa using this

theorem spoilt_lifted (os : Os) (started : os.Started) (H : Type) (enc : TypeId × Value → H) :
    ReturnsInHanded {} Tryd.checked os 8 .any (fun w args => (Rows.sumSpoiltSpec.pre enc Tryd.prog Tryd.f8 [] false w args ∧ laidMetH Tryd.prog laid1 w) ∧ sizedMet enc Tryd.prog Tryd.f8 (OpenSpec.ofChange Rows.sumSpoiltSpec) false w args)
      (Rows.sumSpoiltSpec.post enc Tryd.prog Tryd.f8 false true false false) := by
  refine law_lifted 8 Tryd.f8 Rows.sumSpoiltSpec os started (by kernel_rfl) Tryd.func8 rfl
    (fun ds hd => by
      rw [Tryd.params8] at hd
      match ds, hd with
      | [d0, d1], _ => rfl) (by kernel_rfl) spoilt_read
    (ChangeSpec.witness_shaped (enc := enc) (C := Tryd.checked) (os := os) (X := fun w _ => laidMetH Tryd.prog laid1 w) false (World.doorLaid Tryd.prog 400 os) #[.slice none 0 0, .slice none 0 0] 8 rfl (World.shaped_of_RefB (by kernel_rfl) (by kernel_rfl)) (by kernel_rfl) (by kernel_rfl) (by kernel_rfl) (door_met os _)) ?_
  intro W base args ds p hT hval hA hs
  rw [Tryd.params8] at hA hval hs
  obtain ⟨v0, v1, d0, d1, p0, p1, rfl, rfl, rfl, h0, h1⟩ := trodAll_two hA
  obtain ⟨A, l, cap, rfl, hc, _, hb, hr⟩ := arg_bytes (hval 0 25 v0 rfl rfl) h0
  obtain ⟨A', js, cap', rfl, hm, hj⟩ := arg_ints (hval 1 36 v1 rfl rfl) h1
  exact spoilt_walk A l cap A' js cap' W hT hb hc (hr _ _ 0 hs rfl rfl) hj hm

theorem sumSpoilt_holds : Rows.SumSpoiltSaid :=
  OpenClaim.holds_of_wide 8 Tryd.f8 rfl rfl rfl rfl rfl rfl rfl ⟨rfl, rfl, rfl, rfl, rfl⟩ rfl rfl rfl rfl rfl (by kernel_rfl) Tryd.func8 (by kernel_rfl)
    (of_decide_eq_true (by kernel_rfl)) (by unfold Func.isWrapper; first | (rw [if_pos (by decide +kernel)]; kernel_rfl) | (rw [if_neg (by decide +kernel)]; exact ⟨rfl, rfl⟩))
    (fun os started H enc _ => spoilt_lifted os started H enc)

theorem sumSpoilt_card : Rows.SumSpoiltCardSaid :=
  Claim7.holds_tied_plain_at .later [] [.data] true _ false
    sumSpoilt_holds (fun _ h => by cases h) (by kernel_rfl) (fun _ h => by cases h) sumSpoilt_row_tie rfl ⟨rfl, rfl⟩ (by kernel_rfl) rfl
    (fun f fn hf hfn => by
      obtain rfl : f = 8 := Option.some.inj ((show Tryd.prog.funcNamed "caucus/caucuslaw01.SumSpoilt" = some 8 by kernel_rfl).symm.trans hf) |>.symm
      obtain rfl : fn = Tryd.f8 := (Option.some.inj (Tryd.func8.symm.trans hfn)).symm
      exact ⟨by kernel_rfl, fun j t ht => by
        rw [Tryd.params8] at ht
        have hm : t ∈ [25, 36] := by simpa using Array.mem_of_getElem? ht
        have hall : ([25, 36].all fun u => !Tryd.prog.wantsStandIn u) = true := by kernel_rfl
        exact (show Tryd.prog.wantsStandIn t = false by simpa using List.all_eq_true.1 hall t hm)⟩)
    (by kernel_rfl)
end Go.Proofs.YthobaicphdhflaaDoor
