/-
  The statement SumXors, whole: of two texts of one length (the longer one is cut; of more than 65,536 bytes the examples alone are asked), taken together bit by bit by exclusive or, the sum is both sums and that of as many noughts, taken together likewise; the arguments read as they did. Condition: the package's table starts as the program's text lays it (tied by the card).
-/
import Derived.Test.YthobaicphdhflaaDoorXors
import Derived.Test.YthobaicphdhflaaDoorCards
import Derived.Test.YthobaicphdhflaaDoorTie
import Derived.SevenTiedAt
namespace Go.Proofs.YthobaicphdhflaaDoor
open Go.ChangeShapes Go.WideShapes Go.ChangeAt Go.WideMaps Go.WideElems Go.RowKit

theorem xors_read : ∀ t ∈ Tryd.f10.params.toList, Tryd.prog.readableRec t = true ∧ t < Tryd.prog.types.size := by
  have h : (Tryd.f10.params.toList.all fun t => Tryd.prog.readableRec t && decide (t < Tryd.prog.types.size)) = true := by kernel_rfl
  intro t ht
  have := List.all_eq_true.1 h t ht
  simpa using this

theorem xors_lifted (os : Os) (started : os.Started) (H : Type) (enc : TypeId × Value → H) :
    ReturnsInHanded {} Tryd.checked os 10 .any (fun w args => (Rows.sumXorsSpec.pre enc Tryd.prog Tryd.f10 [] false w args ∧ laidMetH Tryd.prog laid1 w) ∧ sizedMet enc Tryd.prog Tryd.f10 (OpenSpec.ofChange Rows.sumXorsSpec) false w args)
      (Rows.sumXorsSpec.post enc Tryd.prog Tryd.f10 false true false false) := by
  refine law_lifted 10 Tryd.f10 Rows.sumXorsSpec os started (by kernel_rfl) Tryd.func10 rfl
    (fun ds hd => by
      rw [Tryd.params10] at hd
      match ds, hd with
      | [d0, d1], _ => rfl) (by kernel_rfl) xors_read
    (ChangeSpec.witness_shaped (enc := enc) (C := Tryd.checked) (os := os) (X := fun w _ => laidMetH Tryd.prog laid1 w) false (World.doorLaid Tryd.prog 400 os) #[.slice none 0 0, .slice none 0 0] 8 rfl (World.shaped_of_RefB (by kernel_rfl) (by kernel_rfl)) (by kernel_rfl) (by kernel_rfl) (by kernel_rfl) (door_met os _)) ?_
  intro W base args ds p hT hval hA hs
  rw [Tryd.params10] at hA hval hs
  obtain ⟨v0, v1, d0, d1, p0, p1, rfl, rfl, rfl, h0, h1⟩ := trodAll_two hA
  obtain ⟨A, l, cap, rfl, hc, _, hb, hr⟩ := arg_bytes (hval 0 25 v0 rfl rfl) h0
  obtain ⟨A', l', cap', rfl, hc', _, hb', hr'⟩ := arg_bytes (hval 1 25 v1 rfl rfl) h1
  exact xors_walk A A' l l' l.length l'.length (min l.length l'.length) cap cap' W hT hb hb' rfl rfl hc hc' (hr _ _ 0 hs rfl rfl) (hr' _ _ 1 hs rfl rfl) rfl

theorem sumXors_holds : Rows.SumXorsSaid :=
  OpenClaim.holds_of_wide 10 Tryd.f10 rfl rfl rfl rfl rfl rfl rfl ⟨rfl, rfl, rfl, rfl, rfl⟩ rfl rfl rfl rfl rfl (by kernel_rfl) Tryd.func10 (by kernel_rfl)
    (of_decide_eq_true (by kernel_rfl)) (by unfold Func.isWrapper; first | (rw [if_pos (by decide +kernel)]; kernel_rfl) | (rw [if_neg (by decide +kernel)]; exact ⟨rfl, rfl⟩))
    (fun os started H enc _ => xors_lifted os started H enc)

theorem sumXors_card : Rows.SumXorsCardSaid :=
  Claim7.holds_tied_plain_at .later [] [.data] true _ false
    sumXors_holds (fun _ h => by cases h) (by kernel_rfl) (fun _ h => by cases h) sumXors_row_tie rfl ⟨rfl, rfl⟩ (by kernel_rfl) rfl
    (fun f fn hf hfn => by
      obtain rfl : f = 10 := Option.some.inj ((show Tryd.prog.funcNamed "caucus/caucuslaw01.SumXors" = some 10 by kernel_rfl).symm.trans hf) |>.symm
      obtain rfl : fn = Tryd.f10 := (Option.some.inj (Tryd.func10.symm.trans hfn)).symm
      exact ⟨by kernel_rfl, fun j t ht => by
        rw [Tryd.params10] at ht
        have hm : t ∈ [25, 25] := by simpa using Array.mem_of_getElem? ht
        have hall : ([25, 25].all fun u => !Tryd.prog.wantsStandIn u) = true := by kernel_rfl
        exact (show Tryd.prog.wantsStandIn t = false by simpa using List.all_eq_true.1 hall t hm)⟩)
    (by kernel_rfl)
end Go.Proofs.YthobaicphdhflaaDoor
