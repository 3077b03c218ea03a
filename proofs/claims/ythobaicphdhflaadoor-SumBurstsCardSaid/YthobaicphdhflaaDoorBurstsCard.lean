/-
  The statement SumBursts, whole: a sealed text (of at most 65,532 bytes; above, the examples alone are asked) of which bits are turned that lie within 32 side by side is opened no more; the arguments read as they did. Condition: the package's table starts as the program's text lays it (tied by the card).
-/
import Derived.Test.YthobaicphdhflaaDoorBursts
import Derived.Test.YthobaicphdhflaaDoorCards
import Derived.Test.YthobaicphdhflaaDoorTie
import Derived.SevenTiedAt
namespace Go.Proofs.YthobaicphdhflaaDoor
open Go.ChangeShapes Go.WideShapes Go.ChangeAt Go.WideMaps Go.WideElems Go.RowKit

theorem bursts_read : ∀ t ∈ Tryd.f9.params.toList, Tryd.prog.readableRec t = true ∧ t < Tryd.prog.types.size := by
  have h : (Tryd.f9.params.toList.all fun t => Tryd.prog.readableRec t && decide (t < Tryd.prog.types.size)) = true := by kernel_rfl
  intro t ht
  have := List.all_eq_true.1 h t ht
  simpa using this

theorem bursts_lifted (os : Os) (started : os.Started) (H : Type) (enc : TypeId × Value → H) :
    ReturnsInHanded {} Tryd.checked os 9 .any (fun w args => (Rows.sumBurstsSpec.pre enc Tryd.prog Tryd.f9 [] false w args ∧ laidMetH Tryd.prog laid1 w) ∧ sizedMet enc Tryd.prog Tryd.f9 (OpenSpec.ofChange Rows.sumBurstsSpec) false w args)
      (Rows.sumBurstsSpec.post enc Tryd.prog Tryd.f9 false true false false) := by
  refine law_lifted 9 Tryd.f9 Rows.sumBurstsSpec os started (by kernel_rfl) Tryd.func9 rfl
    (fun ds hd => by
      rw [Tryd.params9] at hd
      match ds, hd with
      | [d0, d1, d2], _ => rfl) (by kernel_rfl) bursts_read
    (ChangeSpec.witness_shaped (enc := enc) (C := Tryd.checked) (os := os) (X := fun w _ => laidMetH Tryd.prog laid1 w) false (World.doorLaid Tryd.prog 400 os) #[.slice none 0 0, .int .i64 0, .int .u32 0] 8 rfl (World.shaped_of_RefB (by kernel_rfl) (by kernel_rfl)) (by kernel_rfl) (by kernel_rfl) (by kernel_rfl) (door_met os _)) ?_
  intro W base args ds p hT hval hA hs
  rw [Tryd.params9] at hA hval hs
  obtain ⟨v0, v1, v2, d0, d1, d2, p0, p1, p2, rfl, rfl, rfl, h0, h1, h2⟩ := trodAll_three hA
  obtain ⟨A, l, cap, rfl, hc, _, hb, hr⟩ := arg_bytes (hval 0 25 v0 rfl rfl) h0
  obtain ⟨p, rfl, rfl, rfl, _⟩ := open_int Tryd.underlying3 (hval 1 3 v1 rfl rfl) h1
  obtain ⟨b, rfl, rfl, rfl, hw⟩ := open_int Tryd.underlying27 (hval 2 27 v2 rfl rfl) h2
  obtain ⟨bn, rfl, hbn⟩ := wf_u32 hw
  exact bursts_walk A l cap p bn W hT hb hc (hr _ _ 0 hs rfl rfl) hbn

theorem sumBursts_holds : Rows.SumBurstsSaid :=
  OpenClaim.holds_of_wide 9 Tryd.f9 rfl rfl rfl rfl rfl rfl rfl ⟨rfl, rfl, rfl, rfl, rfl⟩ rfl rfl rfl rfl rfl (by kernel_rfl) Tryd.func9 (by kernel_rfl)
    (of_decide_eq_true (by kernel_rfl)) (by unfold Func.isWrapper; first | (rw [if_pos (by decide +kernel)]; kernel_rfl) | (rw [if_neg (by decide +kernel)]; exact ⟨rfl, rfl⟩))
    (fun os started H enc _ => bursts_lifted os started H enc)

theorem sumBursts_card : Rows.SumBurstsCardSaid :=
  Claim7.holds_tied_plain_at .later [] [.data] true _ false
    sumBursts_holds (fun _ h => by cases h) (by kernel_rfl) (fun _ h => by cases h) sumBursts_row_tie rfl ⟨rfl, rfl⟩ (by kernel_rfl) rfl
    (fun f fn hf hfn => by
      obtain rfl : f = 9 := Option.some.inj ((show Tryd.prog.funcNamed "caucus/caucuslaw01.SumBursts" = some 9 by kernel_rfl).symm.trans hf) |>.symm
      obtain rfl : fn = Tryd.f9 := (Option.some.inj (Tryd.func9.symm.trans hfn)).symm
      exact ⟨by kernel_rfl, fun j t ht => by
        rw [Tryd.params9] at ht
        have hm : t ∈ [25, 3, 27] := by simpa using Array.mem_of_getElem? ht
        have hall : ([25, 3, 27].all fun u => !Tryd.prog.wantsStandIn u) = true := by kernel_rfl
        exact (show Tryd.prog.wantsStandIn t = false by simpa using List.all_eq_true.1 hall t hm)⟩)
    (by kernel_rfl)
end Go.Proofs.YthobaicphdhflaaDoor
