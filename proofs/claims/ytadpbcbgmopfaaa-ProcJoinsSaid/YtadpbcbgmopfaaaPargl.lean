/-
  An argument of lists of lives, opened. No condition.
-/
import Derived.Test.YtadpbcbgmopfaaaPargs
import Derived.Test.YtadpbcbgmopfaaaPunion
import Derived.Deep.Matrix
namespace Go.Proofs.Ytadpbcbgmopfaaa
set_option maxRecDepth 20000
open Go.ChangeShapes Go.WideShapes Go.ChangeAt Go.WideMaps Go.WideElems Go.RowKit

theorem cellsRow : Try.prog.cellsOf 74 = 1 := by kernel_rfl
section
variable {H : Type} {enc : TypeId × Value → H} {W : World} {base : Nat} {v : Value} {d : DataW H} {p : List MemPlace}
theorem row_lives {fuel : Nat} {x : DataW H × List MemPlace} (hf : DataW.trod enc Try.prog W 0 (fun _ => true) true fuel 74 [v] = some x) :
    ∃ (A : Option Addr) (aks : List (Int × Int)) (cap : Nat), v = .slice A aks.length cap ∧ aks.length ≤ maxLen ∧ Lives W W.heap.size A aks ∧ (A = none → cap = 0) ∧ ∀ a ∈ aks, I64 a.1 ∧ 0 ≤ a.2 ∧ a.2 < 18446744073709551616 := by
  rcases Deep.open_slice_pairs Try.underlying74 Try.underlying70 cellsLife rfl rfl cellsInt cells64 hf with ⟨hcs, _⟩ | ⟨a, len, cap, m, n, V0, V1, D0, D1, P0, P1, hcs, _, hl, hm, hmm, _, hcell⟩
  · obtain rfl : v = .slice none 0 0 := by simpa using hcs
    exact ⟨none, [], 0, rfl, by simp, Lives.nil_, fun _ => rfl, fun s hs => by cases hs⟩
  · obtain rfl : v = .slice (some a) len cap := by simpa using hcs
    simp only [if_true] at hmm
    have hi : ∀ i, i < m → ∃ x y : Int, V0 i = .int .i64 x ∧ V1 i = .int .u64 y ∧ I64 x ∧ 0 ≤ y ∧ y < 18446744073709551616 := fun i hi => by
      obtain ⟨_, _, t0, t1⟩ := hcell i hi
      obtain ⟨x, hx, _, wx⟩ := DataW.trod_int Try.underlying3 t0
      obtain ⟨y, hy, _, wy⟩ := DataW.trod_int Try.underlying29 t1
      obtain ⟨y', rfl, hy'⟩ := wf_u64 wy
      exact ⟨x, y', by simpa using hx, by simpa using hy, wf_i64 wx, by omega, by omega⟩
    have hv0 : ∀ i, i < m → V0 i = .int .i64 (intOf (V0 i)) ∧ V1 i = .int .u64 (intOf (V1 i)) ∧ I64 (intOf (V0 i)) ∧ 0 ≤ intOf (V1 i) ∧ intOf (V1 i) < 18446744073709551616 := fun i hi' => by
      obtain ⟨x, y, e1, e2, h1, h2⟩ := hi i hi'
      rw [e1, e2]
      exact ⟨rfl, rfl, h1, h2⟩
    refine ⟨some a, (List.range len).map fun i => (intOf (V0 i), intOf (V1 i)), cap, by simp, by simp; omega, fun hn => ?_, fun e => (by cases e), fun s hs => ?_⟩
    · have hn' : 0 < m := by simp at hn; omega
      obtain ⟨b, off, rfl⟩ : ∃ b off, a = ⟨b, off, none⟩ := by
        have h0 := (hcell 0 hn').1
        obtain ⟨b, off, spot⟩ := a
        have hspot : spot = none := by simpa [Addr.add] using World.cell?_spot h0
        subst hspot
        exact ⟨b, off, rfl⟩
      refine ⟨b, off, rfl, ?_, fun k hk => ?_⟩
      · have h0 := (hcell 0 hn').1
        rw [add_mk] at h0
        exact World.block_lt_of_cell? _ _ h0
      · have hk1 : k < len := by simpa using hk
        obtain ⟨h1, h2, _⟩ := hcell k (by omega)
        obtain ⟨e1, e2, _⟩ := hv0 k (by omega)
        rw [add_mk] at h1 h2
        have hg : (((List.range len).map fun i => (intOf (V0 i), intOf (V1 i))).getD k (0, 0)) = (intOf (V0 k), intOf (V1 k)) := by simp [List.getD, hk1]
        rw [atL, hg, h1, Nat.add_assoc, h2]
        exact ⟨by rw [← e1], by rw [← e2]⟩
    · obtain ⟨i, hi', rfl⟩ := List.mem_map.1 hs
      exact (hv0 i (by have := List.mem_range.1 hi'; omega)).2.2
theorem arg_lists (hv : Value.okWide Try.prog W .any base 85 v) (h : DataW.Trod enc Try.prog W 0 (fun _ => true) true 85 v d p) :
    ∃ (A : Option Addr) (ls : List (List Life)) (cap : Nat), v = .slice A ls.length cap ∧ ls.length ≤ maxLen ∧ ListsP W W.heap.size A ls := by
  obtain ⟨a0, len, cap, rfl⟩ := okWide_slice Try.underlying85 hv
  obtain ⟨fuel, hf⟩ := h
  rcases Deep.open_slice1 Try.underlying85 cellsRow hf with ⟨hcs, _⟩ | ⟨a, len', cap', m, n, V, D, Pl, hcs, _, hl, hm, hmm, _, hx⟩
  · obtain ⟨rfl, rfl, rfl⟩ : a0 = none ∧ len = 0 ∧ cap = 0 := by simpa [Value.cells] using hcs
    exact ⟨none, [], 0, rfl, by simp, fun h => absurd h (by simp)⟩
  · obtain ⟨rfl, rfl, rfl⟩ : a0 = some a ∧ len = len' ∧ cap = cap' := by simpa [Value.cells] using hcs
    simp only [if_true] at hmm
    have each : ∀ r, r < len → ∃ y : Option Addr × List Life × Nat, W.cell? (a.add r) = some (.slice y.1 y.2.1.length y.2.2) ∧ Lives W W.heap.size y.1 y.2.1 ∧ (y.1 = none → y.2.2 = 0) := fun r hr => by
      obtain ⟨h1, h2⟩ := hx r (by omega)
      obtain ⟨A', l', c', e, _, h3, h4, _⟩ := row_lives h2
      exact ⟨(A', l', c'), by rw [h1, e], h3, h4⟩
    obtain ⟨y, hy⟩ := Deep.choose_lt each
    refine ⟨some a, (List.range len).map fun r => (y r).2.1, cap, by simp, by simp; omega, fun hn => ?_⟩
    have hn' : 0 < len := by simpa using hn
    obtain ⟨b, off, rfl⟩ : ∃ b off, a = ⟨b, off, none⟩ := by
      have h0 := (hy 0 hn').1
      obtain ⟨b, off, spot⟩ := a
      have hspot : spot = none := by simpa [Addr.add] using World.cell?_spot h0
      subst hspot
      exact ⟨b, off, rfl⟩
    refine ⟨b, off, rfl, ?_, fun k hk => ?_⟩
    · have h0 := (hy 0 hn').1
      rw [add_mk] at h0
      exact World.block_lt_of_cell? _ _ h0
    · have hk1 : k < len := by simpa using hk
      obtain ⟨h1, h2, h3⟩ := hy k hk1
      rw [add_mk] at h1
      have hg : listAt ((List.range len).map fun r => (y r).2.1) k = (y k).2.1 := by simp [listAt, List.getD, hk1]
      rw [hg]
      exact ⟨(y k).1, (y k).2.2, h1, h2, h3⟩
end
end Go.Proofs.Ytadpbcbgmopfaaa
