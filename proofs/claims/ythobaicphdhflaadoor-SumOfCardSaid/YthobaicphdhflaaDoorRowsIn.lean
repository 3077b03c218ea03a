/-
  An argument of slices of bytes, opened: what each row holds, and how much room it takes at the most. No other condition.
-/
import Derived.Test.YthobaicphdhflaaDoorLaw
import Derived.Deep.Matrix
namespace Go.Proofs.YthobaicphdhflaaDoor
open Go.ChangeShapes Go.WideShapes Go.ChangeAt Go.WideMaps Go.WideElems Go.RowKit

theorem cells25 : Tryd.prog.cellsOf 25 = 1 := by kernel_rfl
/-- As Rows8; and a row that is nil has no room. -/
def RowsN (w : World) (B : Nat) (A : Option Addr) (ls : List (List UInt8)) : Prop :=
  0 < ls.length → ∃ b off, A = some ⟨b, off, none⟩ ∧ b < B ∧ ∀ k, k < ls.length → ∃ A' cap, w.cell? ⟨b, off + k, none⟩ = some (.slice A' (ls.getD k []).length cap) ∧ Bytes w B A' (ls.getD k []) ∧ (ls.getD k []).length ≤ 140737488355328 ∧ (A' = none → cap = 0)
theorem RowsN.rows {w : World} {B : Nat} {A : Option Addr} {ls : List (List UInt8)} (h : RowsN w B A ls) : Rows8 w B A ls := fun hn => by
  obtain ⟨b, off, e, hb, hc⟩ := h hn
  exact ⟨b, off, e, hb, fun k hk => by obtain ⟨A', cap, h1, h2, h3, _⟩ := hc k hk; exact ⟨A', cap, h1, h2, h3⟩⟩
theorem RowsN.below {w w' : World} {B : Nat} {A : Option Addr} {ls : List (List UInt8)} (h : RowsN w B A ls) (hb : Below B w w') : RowsN w' B A ls := fun hn => by
  obtain ⟨b, off, e, hlt, hc⟩ := h hn
  refine ⟨b, off, e, hlt, fun k hk' => ?_⟩
  obtain ⟨A', cap, h1, h2, h3, h4⟩ := hc k hk'
  exact ⟨A', cap, (hb.cell (p := ⟨b, off + k, none⟩) hlt).trans h1, h2.below hb, h3, h4⟩
theorem RowsN.more {w : World} {B B' : Nat} {A : Option Addr} {ls : List (List UInt8)} (h : RowsN w B A ls) (hB : B ≤ B') : RowsN w B' A ls := fun hn => by
  obtain ⟨b, off, e, hlt, hc⟩ := h hn
  refine ⟨b, off, e, by omega, fun k hk' => ?_⟩
  obtain ⟨A', cap, h1, h2, h3, h4⟩ := hc k hk'
  exact ⟨A', cap, h1, h2.more hB, h3, h4⟩

section
variable {H : Type} {enc : TypeId × Value → H}
theorem weights_inner {e : TypeId} {d : DataW H} : ∀ {ds : List (DataW H)}, d ∈ ds → ∀ n ∈ d.weights Tryd.prog e, n ∈ DataW.weightsAll Tryd.prog e ds
  | x :: r, hd, n, hn => by
    rw [DataW.weightsAll, List.mem_append]
    rcases List.mem_cons.1 hd with rfl | h
    · exact .inl hn
    · exact .inr (weights_inner h n hn)

/-- An argument of slices of bytes: what its rows hold. -/
theorem arg_rows {W : World} {base : Nat} {v : Value} {d : DataW H} {p : List MemPlace} (hv : Value.okWide Tryd.prog W .any base 22 v) (h : DataW.Trod enc Tryd.prog W 0 (fun _ => true) true 22 v d p)
    (hs : ∀ n ∈ d.weights Tryd.prog 22, n ≤ reachBytes) :
    ∃ (A : Option Addr) (ls : List (List UInt8)) (cap : Nat), v = .slice A ls.length cap ∧ ls.length ≤ maxLen ∧ RowsN W W.heap.size A ls := by
  obtain ⟨a0, len, cap, rfl⟩ := okWide_slice Tryd.underlying22 hv
  obtain ⟨fuel, hf⟩ := h
  rcases Deep.open_int_rows Tryd.underlying22 Tryd.underlying25 Tryd.underlying5 cells25 cells8 hf with ⟨hcs, _⟩ | ⟨a, len', cap', A, L, C, Z, hcs, _, hl, hm, hx, hrow⟩
  · obtain ⟨rfl, rfl, rfl⟩ : a0 = none ∧ len = 0 ∧ cap = 0 := by simpa [Value.cells] using hcs
    exact ⟨none, [], 0, rfl, by simp, fun h => absurd h (by simp)⟩
  · obtain ⟨rfl, rfl, rfl⟩ : a0 = some a ∧ len = len' ∧ cap = cap' := by simpa [Value.cells] using hcs
    refine ⟨some a, (List.range len).map fun r => ((Z r).take (L r)).map fun n => UInt8.ofNat n.toNat, cap, ?_, by simp; omega, fun hn => ?_⟩
    · congr 1
      simp
    · have hn' : 0 < cap := by simp at hn; omega
      obtain ⟨b, off, rfl⟩ : ∃ b off, a = ⟨b, off, none⟩ := by
        have h0 := (hrow 0 hn').1
        obtain ⟨b, off, spot⟩ := a
        have hspot : spot = none := by simpa [Addr.add] using World.cell?_spot h0
        subst hspot
        exact ⟨b, off, rfl⟩
      refine ⟨b, off, rfl, ?_, fun k hk => ?_⟩
      · have h0 := (hrow 0 hn').1
        rw [add_mk] at h0
        exact World.block_lt_of_cell? _ _ h0
      · have hk1 : k < len := by simpa using hk
        obtain ⟨hc1, hLC, hCm, hZ, hwz, hnone, hsome⟩ := hrow k (by omega)
        rw [add_mk] at hc1
        have hg : (((List.range len).map fun r => ((Z r).take (L r)).map fun n => UInt8.ofNat n.toNat).getD k []) = ((Z k).take (L k)).map fun n => UInt8.ofNat n.toNat := by simp [List.getD, hk1]
        have hlen : (((Z k).take (L k)).map fun n => UInt8.ofNat n.toNat).length = L k := by simp; omega
        rw [hg, hlen]
        refine ⟨A k, C k, hc1, fun hpos => ?_, ?_, hnone⟩
        · rw [hlen] at hpos
          cases hA : A k with
          | none => have := hnone hA; omega
          | some a' =>
            have hcell := (hsome a' hA).2
            have hzc : ∀ i, i < (Z k).length → W.cell? (a'.add i) = some (.int .u8 ((Z k).getD i 0)) := fun i hi => hcell i (by omega)
            obtain ⟨b', off', rfl, hc⟩ := ints_at hzc (by omega)
            refine ⟨b', off', rfl, World.block_lt_of_cell? _ _ (hc 0 (by omega)), fun j hj => ?_⟩
            rw [hlen] at hj
            have hj2 : j < (Z k).length := by omega
            rw [hc j hj2]
            have hw := wf_u8_lt (hwz (Z k)[j] (List.getElem_mem hj2))
            simp only [at8, List.getD, List.getElem?_map, List.getElem?_take, if_pos hj, List.getElem?_eq_getElem hj2, Option.map_some, Option.getD_some]
            rw [← hw]
        · cases hA : A k with
          | none => have := hnone hA; omega
          | some a' =>
            simp only [Prod.mk.injEq] at hx
            have hmem : Deep.intRow (H := H) .u8 (A k) (L k) (Z k) ∈ (List.range len).map fun r => Deep.intRow (H := H) .u8 (A r) (L r) (Z r) := List.mem_map.2 ⟨k, by simpa using hk1, rfl⟩
            have hwt : (Z k).length ∈ (Deep.intRow (H := H) .u8 (A k) (L k) (Z k)).weights Tryd.prog 25 := by
              rw [hA]
              simp [Deep.intRow, DataW.weights, Tryd.underlying25, bytes8, lits]
              omega
            have := hs _ (by rw [hx.1]; simp only [DataW.weights, Tryd.underlying22]; rw [List.mem_cons, List.mem_append]; exact .inr (.inl (weights_inner hmem _ hwt)))
            unfold reachBytes at this
            omega
end
end Go.Proofs.YthobaicphdhflaaDoor
