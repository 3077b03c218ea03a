/-
  Arguments of lives, opened: a life, a list of lives. No condition.
-/
import Derived.Test.YtadpbcbgmopfaaaArgs
import Derived.Test.YtadpbcbgmopfaaaPmem
import Derived.Lib.SmallJoins
namespace Go.Proofs.Ytadpbcbgmopfaaa
set_option maxRecDepth 20000
open Go.ChangeShapes Go.WideShapes Go.ChangeAt Go.WideMaps Go.WideElems Go.RowKit

theorem cellsLife : Try.prog.cellsOf 70 = 2 := by kernel_rfl
section
variable {H : Type} {enc : TypeId × Value → H} {W : World} {base : Nat} {v : Value} {d : DataW H} {p : List MemPlace}
theorem arg_lives (hv : Value.okWide Try.prog W .any base 74 v) (h : DataW.Trod enc Try.prog W 0 (fun _ => true) true 74 v d p) :
    ∃ (A : Option Addr) (aks : List (Int × Int)) (cap : Nat), v = .slice A aks.length cap ∧ aks.length ≤ maxLen ∧ Lives W W.heap.size A aks ∧ (A = none → cap = 0) ∧ ∀ a ∈ aks, I64 a.1 ∧ 0 ≤ a.2 ∧ a.2 < 18446744073709551616 := by
  obtain ⟨a0, len, cap, rfl⟩ := okWide_slice Try.underlying74 hv
  obtain ⟨fuel, hf⟩ := h
  rcases Deep.open_slice_pairs Try.underlying74 Try.underlying70 cellsLife rfl rfl cellsInt cells64 hf with ⟨hcs, _⟩ | ⟨a, len', cap', m, n, V0, V1, D0, D1, P0, P1, hcs, _, hl, hm, hmm, _, hcell⟩
  · obtain ⟨rfl, rfl, rfl⟩ : a0 = none ∧ len = 0 ∧ cap = 0 := by simpa [Value.cells] using hcs
    exact ⟨none, [], 0, rfl, by simp, Lives.nil_, fun _ => rfl, fun s hs => by cases hs⟩
  · obtain ⟨rfl, rfl, rfl⟩ : a0 = some a ∧ len = len' ∧ cap = cap' := by simpa [Value.cells] using hcs
    simp only [if_true] at hmm
    have hi : ∀ i, i < m → ∃ x y : Int, V0 i = .int .i64 x ∧ V1 i = .int .u64 y ∧ I64 x ∧ 0 ≤ y ∧ y < 18446744073709551616 := fun i hi => by
      obtain ⟨_, _, t0, t1⟩ := hcell i hi
      obtain ⟨x, hx, _, wx⟩ := DataW.trod_int Try.underlying3 t0
      obtain ⟨y, hy, _, wy⟩ := DataW.trod_int Try.underlying29 t1
      obtain ⟨y', rfl, hy'⟩ := wf_u64 wy
      exact ⟨x, y', by simpa using hx, by simpa using hy, wf_i64 wx, by omega, by omega⟩
    have hv0 : ∀ i, i < m → V0 i = .int .i64 (intOf (V0 i)) ∧ V1 i = .int .u64 (intOf (V1 i)) ∧ I64 (intOf (V0 i)) ∧ 0 ≤ intOf (V1 i) ∧ intOf (V1 i) < 18446744073709551616 := fun i hi' => by
      obtain ⟨x, y, e1, e2, h1, h2⟩ := hi i hi'
      rw [e1, e2]
      exact ⟨rfl, rfl, h1, h2⟩
    refine ⟨some a, (List.range len).map fun i => (intOf (V0 i), intOf (V1 i)), cap, by simp, by simp; omega, fun hn => ?_, fun e => (by cases e), fun s hs => ?_⟩
    · have hn' : 0 < m := by simp at hn; omega
      obtain ⟨b, off, rfl⟩ : ∃ b off, a = ⟨b, off, none⟩ := by
        have h0 := (hcell 0 hn').1
        obtain ⟨b, off, spot⟩ := a
        have hspot : spot = none := by simpa [Addr.add] using World.cell?_spot h0
        subst hspot
        exact ⟨b, off, rfl⟩
      refine ⟨b, off, rfl, ?_, fun k hk => ?_⟩
      · have h0 := (hcell 0 hn').1
        rw [add_mk] at h0
        exact World.block_lt_of_cell? _ _ h0
      · have hk1 : k < len := by simpa using hk
        obtain ⟨h1, h2, _⟩ := hcell k (by omega)
        obtain ⟨e1, e2, _⟩ := hv0 k (by omega)
        rw [add_mk] at h1 h2
        have hg : (((List.range len).map fun i => (intOf (V0 i), intOf (V1 i))).getD k (0, 0)) = (intOf (V0 k), intOf (V1 k)) := by simp [List.getD, hk1]
        rw [atL, hg, h1, Nat.add_assoc, h2]
        exact ⟨by rw [← e1], by rw [← e2]⟩
    · obtain ⟨i, hi', rfl⟩ := List.mem_map.1 hs
      exact (hv0 i (by have := List.mem_range.1 hi'; omega)).2.2
theorem arg_life (hv : Value.okWide Try.prog W .any base 70 v) (h : DataW.Trod enc Try.prog W 0 (fun _ => true) true 70 v d p) :
    ∃ q : Life, v = lifeV q ∧ I64 q.1 ∧ 0 ≤ q.2 ∧ q.2 < 18446744073709551616 := by
  obtain ⟨v0, v1, y0, y1, n, rfl, _, _, t0, t1⟩ := Go.Joins.open_agg2 Try.underlying70 (by kernel_rfl) cellsLife hv h
  obtain ⟨x, hx, _, wx⟩ := DataW.trod_int Try.underlying3 t0
  obtain ⟨y, hy, _, wy⟩ := DataW.trod_int Try.underlying29 t1
  obtain ⟨y', rfl, hy'⟩ := wf_u64 wy
  obtain rfl : v0 = .int .i64 x := by simpa using hx
  obtain rfl : v1 = .int .u64 y' := by simpa using hy
  exact ⟨(x, y'), rfl, wf_i64 wx, by simp only; omega, by simp only; omega⟩
end
end Go.Proofs.Ytadpbcbgmopfaaa
