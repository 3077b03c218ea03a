/-
  A row of ten cells, as packets have: stores, one by one and all. No condition.
-/
import Derived.Test.YtlcddfkhklmieaaKmem
import Derived.Test.YtlcddfkhklmieaaGa
namespace Go.Proofs.Ytlcddfkhklmieaa
set_option maxRecDepth 20000
open Go.RowKit

/-- Ten cells, whole, in block b. -/
def Row10 (b : Nat) (a0 a1 a2 a3 a4 a5 a6 a7 a8 a9 : Value) (ty : TypeId) (w : World) : Prop := w.heap[b]? = some (.cells #[a0, a1, a2, a3, a4, a5, a6, a7, a8, a9] ty (0, 0))
section
variable {b : Nat} {a0 a1 a2 a3 a4 a5 a6 a7 a8 a9 : Value} {ty : TypeId} {w w' : World}
theorem Row10.cells (h : Row10 b a0 a1 a2 a3 a4 a5 a6 a7 a8 a9 ty w) : w.cell? ⟨b, 0, none⟩ = some a0 ∧ w.cell? ⟨b, 1, none⟩ = some a1 ∧ w.cell? ⟨b, 2, none⟩ = some a2 ∧ w.cell? ⟨b, 3, none⟩ = some a3 ∧ w.cell? ⟨b, 4, none⟩ = some a4 ∧ w.cell? ⟨b, 5, none⟩ = some a5 ∧ w.cell? ⟨b, 6, none⟩ = some a6 ∧ w.cell? ⟨b, 7, none⟩ = some a7 ∧ w.cell? ⟨b, 8, none⟩ = some a8 ∧ w.cell? ⟨b, 9, none⟩ = some a9 :=
  ⟨by simpa using cell_plain h 0, by simpa using cell_plain h 1, by simpa using cell_plain h 2, by simpa using cell_plain h 3, by simpa using cell_plain h 4, by simpa using cell_plain h 5, by simpa using cell_plain h 6, by simpa using cell_plain h 7, by simpa using cell_plain h 8, by simpa using cell_plain h 9⟩
theorem Row10.thaw (h : Row10 b a0 a1 a2 a3 a4 a5 a6 a7 a8 a9 ty w) : w.frozen? ⟨b, 0, none⟩ = false ∧ w.frozen? ⟨b, 1, none⟩ = false ∧ w.frozen? ⟨b, 2, none⟩ = false ∧ w.frozen? ⟨b, 3, none⟩ = false ∧ w.frozen? ⟨b, 4, none⟩ = false ∧ w.frozen? ⟨b, 5, none⟩ = false ∧ w.frozen? ⟨b, 6, none⟩ = false ∧ w.frozen? ⟨b, 7, none⟩ = false ∧ w.frozen? ⟨b, 8, none⟩ = false ∧ w.frozen? ⟨b, 9, none⟩ = false :=
  ⟨frozen_plain h 0, frozen_plain h 1, frozen_plain h 2, frozen_plain h 3, frozen_plain h 4, frozen_plain h 5, frozen_plain h 6, frozen_plain h 7, frozen_plain h 8, frozen_plain h 9⟩
theorem Row10.lt (h : Row10 b a0 a1 a2 a3 a4 a5 a6 a7 a8 a9 ty w) : b < w.heap.size := lt_of_heap h
theorem Row10.below (h : Row10 b a0 a1 a2 a3 a4 a5 a6 a7 a8 a9 ty w) (hb : Below w.heap.size w w') : Row10 b a0 a1 a2 a3 a4 a5 a6 a7 a8 a9 ty w' := (hb.block _ (lt_of_heap h)).trans h
theorem Row10.only {S : Nat → Prop} (h : Row10 b a0 a1 a2 a3 a4 a5 a6 a7 a8 a9 ty w) (ho : Only S w w') (hn : ¬ S b) : Row10 b a0 a1 a2 a3 a4 a5 a6 a7 a8 a9 ty w' := (ho.block _ (lt_of_heap h) hn).trans h
theorem Row10.s12 (h : Row10 b a0 a1 a2 a3 a4 a5 a6 a7 a8 a9 ty w) (v1 v2 : Value) : Row10 b a0 v1 v2 a3 a4 a5 a6 a7 a8 a9 ty ((w.setCell ⟨b, 1, none⟩ v1).setCell ⟨b, 2, none⟩ v2) := by
  unfold Row10 at *
  simp [World.setCell, Array.getElem?_modify, h]
theorem only_s12 (w : World) (b : Nat) (v1 v2 : Value) : Only (fun k => k = b) w ((w.setCell ⟨b, 1, none⟩ v1).setCell ⟨b, 2, none⟩ v2) := (((Only.refl (fun k => k = b) w).setCell (p := ⟨b, 1, none⟩) (.inl rfl) _).setCell (p := ⟨b, 2, none⟩) (.inl rfl) _)
theorem Row10.s3 (h : Row10 b a0 a1 a2 a3 a4 a5 a6 a7 a8 a9 ty w) (v3 : Value) : Row10 b a0 a1 a2 v3 a4 a5 a6 a7 a8 a9 ty (w.setCell ⟨b, 3, none⟩ v3) := by
  unfold Row10 at *
  simp [World.setCell, Array.getElem?_modify, h]
theorem only_s3 (w : World) (b : Nat) (v3 : Value) : Only (fun k => k = b) w (w.setCell ⟨b, 3, none⟩ v3) := ((Only.refl (fun k => k = b) w).setCell (p := ⟨b, 3, none⟩) (.inl rfl) _)
theorem Row10.s4 (h : Row10 b a0 a1 a2 a3 a4 a5 a6 a7 a8 a9 ty w) (v4 : Value) : Row10 b a0 a1 a2 a3 v4 a5 a6 a7 a8 a9 ty (w.setCell ⟨b, 4, none⟩ v4) := by
  unfold Row10 at *
  simp [World.setCell, Array.getElem?_modify, h]
theorem only_s4 (w : World) (b : Nat) (v4 : Value) : Only (fun k => k = b) w (w.setCell ⟨b, 4, none⟩ v4) := ((Only.refl (fun k => k = b) w).setCell (p := ⟨b, 4, none⟩) (.inl rfl) _)
theorem Row10.s5 (h : Row10 b a0 a1 a2 a3 a4 a5 a6 a7 a8 a9 ty w) (v5 : Value) : Row10 b a0 a1 a2 a3 a4 v5 a6 a7 a8 a9 ty (w.setCell ⟨b, 5, none⟩ v5) := by
  unfold Row10 at *
  simp [World.setCell, Array.getElem?_modify, h]
theorem only_s5 (w : World) (b : Nat) (v5 : Value) : Only (fun k => k = b) w (w.setCell ⟨b, 5, none⟩ v5) := ((Only.refl (fun k => k = b) w).setCell (p := ⟨b, 5, none⟩) (.inl rfl) _)
theorem Row10.s69 (h : Row10 b a0 a1 a2 a3 a4 a5 a6 a7 a8 a9 ty w) (v6 v7 v8 v9 : Value) : Row10 b a0 a1 a2 a3 a4 a5 v6 v7 v8 v9 ty ((((w.setCell ⟨b, 6, none⟩ v6).setCell ⟨b, 7, none⟩ v7).setCell ⟨b, 8, none⟩ v8).setCell ⟨b, 9, none⟩ v9) := by
  unfold Row10 at *
  simp [World.setCell, Array.getElem?_modify, h]
theorem only_s69 (w : World) (b : Nat) (v6 v7 v8 v9 : Value) : Only (fun k => k = b) w ((((w.setCell ⟨b, 6, none⟩ v6).setCell ⟨b, 7, none⟩ v7).setCell ⟨b, 8, none⟩ v8).setCell ⟨b, 9, none⟩ v9) := (((((Only.refl (fun k => k = b) w).setCell (p := ⟨b, 6, none⟩) (.inl rfl) _).setCell (p := ⟨b, 7, none⟩) (.inl rfl) _).setCell (p := ⟨b, 8, none⟩) (.inl rfl) _).setCell (p := ⟨b, 9, none⟩) (.inl rfl) _)
theorem Row10.all (h : Row10 b a0 a1 a2 a3 a4 a5 a6 a7 a8 a9 ty w) (v0 v1 v2 v3 v4 v5 v6 v7 v8 v9 : Value) : Row10 b v0 v1 v2 v3 v4 v5 v6 v7 v8 v9 ty ((((((((((w.setCell ⟨b, 0, none⟩ v0).setCell ⟨b, 1, none⟩ v1).setCell ⟨b, 2, none⟩ v2).setCell ⟨b, 3, none⟩ v3).setCell ⟨b, 4, none⟩ v4).setCell ⟨b, 5, none⟩ v5).setCell ⟨b, 6, none⟩ v6).setCell ⟨b, 7, none⟩ v7).setCell ⟨b, 8, none⟩ v8).setCell ⟨b, 9, none⟩ v9) := by
  unfold Row10 at *
  simp [World.setCell, Array.getElem?_modify, h]
theorem only_all (w : World) (b : Nat) (v0 v1 v2 v3 v4 v5 v6 v7 v8 v9 : Value) : Only (fun k => k = b) w ((((((((((w.setCell ⟨b, 0, none⟩ v0).setCell ⟨b, 1, none⟩ v1).setCell ⟨b, 2, none⟩ v2).setCell ⟨b, 3, none⟩ v3).setCell ⟨b, 4, none⟩ v4).setCell ⟨b, 5, none⟩ v5).setCell ⟨b, 6, none⟩ v6).setCell ⟨b, 7, none⟩ v7).setCell ⟨b, 8, none⟩ v8).setCell ⟨b, 9, none⟩ v9) := (((((((((((Only.refl (fun k => k = b) w).setCell (p := ⟨b, 0, none⟩) (.inl rfl) _).setCell (p := ⟨b, 1, none⟩) (.inl rfl) _).setCell (p := ⟨b, 2, none⟩) (.inl rfl) _).setCell (p := ⟨b, 3, none⟩) (.inl rfl) _).setCell (p := ⟨b, 4, none⟩) (.inl rfl) _).setCell (p := ⟨b, 5, none⟩) (.inl rfl) _).setCell (p := ⟨b, 6, none⟩) (.inl rfl) _).setCell (p := ⟨b, 7, none⟩) (.inl rfl) _).setCell (p := ⟨b, 8, none⟩) (.inl rfl) _).setCell (p := ⟨b, 9, none⟩) (.inl rfl) _)
theorem row10_new (w : World) (a0 a1 a2 a3 a4 a5 a6 a7 a8 a9 : Value) (ty : TypeId) : Row10 w.heap.size a0 a1 a2 a3 a4 a5 a6 a7 a8 a9 ty (w.alloc (.cells #[a0, a1, a2, a3, a4, a5, a6, a7, a8, a9] ty)) := heap_alloc_new w _
end
end Go.Proofs.Ytlcddfkhklmieaa
