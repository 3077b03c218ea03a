/-
  An argument of texts: what it holds, and that no text is above the form's own reach.
-/
import Derived.Test.YtcfdmimfpllckaaArgs
import Derived.Test.YtcfdmimfpllckaaLawp
namespace Go.Proofs.Ytcfdmimfpllckaa
open Go.ChangeShapes Go.WideShapes Go.ChangeAt Go.WideMaps Go.WideElems Go.RowKit

theorem weights_strs {H : Type} {P : Program} {e : TypeId} {q : Nat → Bool} {bs : List UInt8} : ∀ (l : List (DataW H)), (DataW.weightsAll P e l).all q = true → DataW.lit (.string bs) ∈ l → q bs.length = true
  | [], _, hm => by cases hm
  | d :: r, h, hm => by
    rw [DataW.weightsAll, List.all_append, Bool.and_eq_true] at h
    rcases List.mem_cons.1 hm with e | hm'
    · subst e
      have := h.1
      simpa [DataW.weights] using this
    · exact weights_strs r h.2 hm'
section
variable {H : Type} {enc : TypeId × Value → H} {W : World} {base : Nat} {v : Value} {d : DataW H} {p : List MemPlace}
theorem arg_strs_sized (hv : Value.okWide Try.prog W .any base 40 v) (h : DataW.Trod enc Try.prog W 0 (fun _ => true) true 40 v d p) (hsz : (DataW.weightsEach Try.prog [40] [d]).all (· ≤ reachBytes) = true) :
    ∃ (A : Option Addr) (ss : List ByteArray) (cap : Nat), v = .slice A ss.length cap ∧ ss.length ≤ 9223372036854775807 ∧ StrsIn W A ss ∧ ∀ s ∈ ss, s.size ≤ 140737488351232 := by
  obtain ⟨a0, len, cap, rfl⟩ := okWide_slice Try.underlying40 hv
  obtain ⟨fuel, hf⟩ := h
  rcases Deep.open_strs Try.underlying40 Try.underlying9 cellsStr hf with ⟨hcs, _⟩ | ⟨a, len', cap', m, Sx, hcs, _, hl, hm, hmm, hx, hcell⟩
  · obtain ⟨rfl, rfl, rfl⟩ : a0 = none ∧ len = 0 ∧ cap = 0 := by simpa [Value.cells] using hcs
    exact ⟨none, [], 0, rfl, by simp, fun h => absurd h (by simp), fun s hs => by cases hs⟩
  · obtain ⟨rfl, rfl, rfl⟩ : a0 = some a ∧ len = len' ∧ cap = cap' := by simpa [Value.cells] using hcs
    simp only [if_true] at hmm
    simp only [Prod.mk.injEq] at hx
    rw [hx.1] at hsz
    simp only [DataW.weightsEach, DataW.weights, Try.underlying40, List.append_nil, List.all_cons, List.all_append, Bool.and_eq_true] at hsz
    refine ⟨some a, (List.range len).map Sx, cap, by simp, by simp; unfold maxLen at hm; omega, fun hn => ?_, fun s hs => ?_⟩
    · have hn' : 0 < m := by simp at hn; omega
      obtain ⟨b, off, rfl⟩ : ∃ b off, a = ⟨b, off, none⟩ := by
        have h0 := (hcell 0 hn').1
        obtain ⟨b, off, spot⟩ := a
        have hspot : spot = none := by simpa [Addr.add] using World.cell?_spot h0
        subst hspot
        exact ⟨b, off, rfl⟩
      refine ⟨b, off, rfl, ?_, fun k hk => ?_⟩
      · have h0 := (hcell 0 hn').1
        rw [add_mk] at h0
        exact World.block_lt_of_cell? _ _ h0
      · have hk1 : k < len := by simpa using hk
        have h1 := (hcell k (by omega)).1
        rw [add_mk] at h1
        rw [h1]
        simp [List.getD, hk1]
    · obtain ⟨i, hi, rfl⟩ := List.mem_map.1 hs
      have h1 := weights_strs _ hsz.2.1 (List.mem_map.2 ⟨i, hi, rfl⟩)
      have h2 : (Sx i).data.toList.length ≤ reachBytes := of_decide_eq_true h1
      unfold reachBytes at h2
      exact h2
end
end Go.Proofs.Ytcfdmimfpllckaa
