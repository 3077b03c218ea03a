/-
  The statement SumCuts, whole: wherever bytes (of at most 65,536; above, and at places that are none, the examples alone are asked) are cut into three parts, their sum is one, and with another byte behind them it is another one than with this one; the arguments read as they did. Condition: the package's table starts as the program's text lays it (tied by the card).
-/
import Derived.Test.YthobaicphdhflaaDoorCuts
import Derived.Test.YthobaicphdhflaaDoorCards
import Derived.Test.YthobaicphdhflaaDoorTie
import Derived.SevenTiedAt
namespace Go.Proofs.YthobaicphdhflaaDoor
open Go.ChangeShapes Go.WideShapes Go.ChangeAt Go.WideMaps Go.WideElems Go.RowKit

theorem cuts_read : ∀ t ∈ Tryd.f6.params.toList, Tryd.prog.readableRec t = true ∧ t < Tryd.prog.types.size := by
  have h : (Tryd.f6.params.toList.all fun t => Tryd.prog.readableRec t && decide (t < Tryd.prog.types.size)) = true := by kernel_rfl
  intro t ht
  have := List.all_eq_true.1 h t ht
  simpa using this

theorem cuts_lifted (os : Os) (started : os.Started) (H : Type) (enc : TypeId × Value → H) :
    ReturnsInHanded {} Tryd.checked os 6 .any (fun w args => (Rows.sumCutsSpec.pre enc Tryd.prog Tryd.f6 [] false w args ∧ laidMetH Tryd.prog laid1 w) ∧ sizedMet enc Tryd.prog Tryd.f6 (OpenSpec.ofChange Rows.sumCutsSpec) false w args)
      (Rows.sumCutsSpec.post enc Tryd.prog Tryd.f6 false true false false) := by
  refine law_lifted 6 Tryd.f6 Rows.sumCutsSpec os started (by kernel_rfl) Tryd.func6 rfl
    (fun ds hd => by
      rw [Tryd.params6] at hd
      match ds, hd with
      | [d0, d1, d2, d3], _ => rfl) (by kernel_rfl) cuts_read
    (ChangeSpec.witness_shaped (enc := enc) (C := Tryd.checked) (os := os) (X := fun w _ => laidMetH Tryd.prog laid1 w) false (World.doorLaid Tryd.prog 400 os) #[.slice none 0 0, .int .i64 0, .int .i64 0, .int .u8 0] 8 rfl (World.shaped_of_RefB (by kernel_rfl) (by kernel_rfl)) (by kernel_rfl) (by kernel_rfl) (by kernel_rfl) (door_met os _)) ?_
  intro W base args ds p hT hval hA hs
  rw [Tryd.params6] at hA hval hs
  obtain ⟨v0, v1, v2, v3, d0, d1, d2, d3, p0, p1, p2, p3, rfl, rfl, rfl, h0, h1, h2, h3⟩ := trodAll_four hA
  obtain ⟨A, l, cap, rfl, hc, ha, hb, hr⟩ := arg_bytes (hval 0 25 v0 rfl rfl) h0
  obtain ⟨p, rfl, rfl, rfl, _⟩ := open_int Tryd.underlying3 (hval 1 3 v1 rfl rfl) h1
  obtain ⟨q, rfl, rfl, rfl, _⟩ := open_int Tryd.underlying3 (hval 2 3 v2 rfl rfl) h2
  obtain ⟨x, rfl, rfl, rfl, hw⟩ := open_int Tryd.underlying5 (hval 3 5 v3 rfl rfl) h3
  rw [wf_u8_lt hw]
  exact cuts_walk A l cap p q (UInt8.ofNat x.toNat) W hT hb ha hc (hr _ _ 0 hs rfl rfl)

theorem sumCuts_holds : Rows.SumCutsSaid :=
  OpenClaim.holds_of_wide 6 Tryd.f6 rfl rfl rfl rfl rfl rfl rfl ⟨rfl, rfl, rfl, rfl, rfl⟩ rfl rfl rfl rfl rfl (by kernel_rfl) Tryd.func6 (by kernel_rfl)
    (of_decide_eq_true (by kernel_rfl)) (by unfold Func.isWrapper; first | (rw [if_pos (by decide +kernel)]; kernel_rfl) | (rw [if_neg (by decide +kernel)]; exact ⟨rfl, rfl⟩))
    (fun os started H enc _ => cuts_lifted os started H enc)

theorem sumCuts_card : Rows.SumCutsCardSaid :=
  Claim7.holds_tied_plain_at .later [] [.data] true _ false
    sumCuts_holds (fun _ h => by cases h) (by kernel_rfl) (fun _ h => by cases h) sumCuts_row_tie rfl ⟨rfl, rfl⟩ (by kernel_rfl) rfl
    (fun f fn hf hfn => by
      obtain rfl : f = 6 := Option.some.inj ((show Tryd.prog.funcNamed "caucus/caucuslaw01.SumCuts" = some 6 by kernel_rfl).symm.trans hf) |>.symm
      obtain rfl : fn = Tryd.f6 := (Option.some.inj (Tryd.func6.symm.trans hfn)).symm
      exact ⟨by kernel_rfl, fun j t ht => by
        rw [Tryd.params6] at ht
        have hm : t ∈ [25, 3, 3, 5] := by simpa using Array.mem_of_getElem? ht
        have hall : ([25, 3, 3, 5].all fun u => !Tryd.prog.wantsStandIn u) = true := by kernel_rfl
        exact (show Tryd.prog.wantsStandIn t = false by simpa using List.all_eq_true.1 hall t hm)⟩)
    (by kernel_rfl)
end Go.Proofs.YthobaicphdhflaaDoor
