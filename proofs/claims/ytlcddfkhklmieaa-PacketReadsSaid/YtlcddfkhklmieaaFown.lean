/-
  A frame with a body in memory of its own, by the document's Own. For bodies of at most 2^46 bytes.
-/
import Derived.Test.YtlcddfkhklmieaaFmem
import Derived.Test.YtlcddfkhklmieaaGa
namespace Go.Proofs.Ytlcddfkhklmieaa
set_option maxRecDepth 20000
open Go.RowKit

/-- A frame's cells, whole, in block b. -/
def FRow (b : Nat) (k s t i c p q a e : Int) (A : Option Addr) (n cap : Nat) (ty : TypeId) (w : World) : Prop :=
  w.heap[b]? = some (.cells #[.int .i64 k, .int .i64 s, .int .i64 t, .int .u64 i, .int .u64 c, .int .u64 p, .int .u64 q, .int .u64 a, .int .u64 e, .slice A n cap] ty (0, 0))
section
variable {b : Nat} {k s t i c p q a e : Int} {A : Option Addr} {n cap : Nat} {ty : TypeId} {w w' : World}
theorem FRow.box (h : FRow b k s t i c p q a e A n cap ty w) : FBox b k s t i c p q a e A n cap w :=
  ⟨by simpa using cell_plain h 0, by simpa using cell_plain h 1, by simpa using cell_plain h 2, by simpa using cell_plain h 3, by simpa using cell_plain h 4, by simpa using cell_plain h 5, by simpa using cell_plain h 6, by simpa using cell_plain h 7, by simpa using cell_plain h 8, by simpa using cell_plain h 9⟩
theorem FRow.thaw (h : FRow b k s t i c p q a e A n cap ty w) (j : Nat) : w.frozen? ⟨b, j, none⟩ = false := frozen_plain h j
theorem FRow.set9 (h : FRow b k s t i c p q a e A n cap ty w) (A' : Option Addr) (n' cap' : Nat) : FRow b k s t i c p q a e A' n' cap' ty (w.setCell ⟨b, 9, none⟩ (.slice A' n' cap')) := by
  unfold FRow at *
  simp [World.setCell, Array.getElem?_modify, h]
theorem frow_new (w : World) : FRow w.heap.size k s t i c p q a e A n cap ty (w.alloc (.cells #[.int .i64 k, .int .i64 s, .int .i64 t, .int .u64 i, .int .u64 c, .int .u64 p, .int .u64 q, .int .u64 a, .int .u64 e, .slice A n cap] ty)) := heap_alloc_new w _
theorem FRow.below (h : FRow b k s t i c p q a e A n cap ty w) (hb : Below w.heap.size w w') : FRow b k s t i c p q a e A n cap ty w' := (hb.block _ (lt_of_heap h)).trans h
theorem FRow.only {S : Nat → Prop} (h : FRow b k s t i c p q a e A n cap ty w) (ho : Only S w w') (hn : ¬ S b) : FRow b k s t i c p q a e A n cap ty w' := (ho.block _ (lt_of_heap h) hn).trans h
/-- All ten are stored. -/
theorem FRow.set (h : FRow b k s t i c p q a e A n cap ty w) (k' s' t' i' c' p' q' a' e' : Int) (A' : Option Addr) (n' cap' : Nat) : FRow b k' s' t' i' c' p' q' a' e' A' n' cap' ty ((((((((((w.setCell ⟨b, 0, none⟩ (.int .i64 k')).setCell ⟨b, 1, none⟩ (.int .i64 s')).setCell ⟨b, 2, none⟩ (.int .i64 t')).setCell ⟨b, 3, none⟩ (.int .u64 i')).setCell ⟨b, 4, none⟩ (.int .u64 c')).setCell ⟨b, 5, none⟩ (.int .u64 p')).setCell ⟨b, 6, none⟩ (.int .u64 q')).setCell ⟨b, 7, none⟩ (.int .u64 a')).setCell ⟨b, 8, none⟩ (.int .u64 e')).setCell ⟨b, 9, none⟩ (.slice A' n' cap')) := by
  unfold FRow at *
  simp [World.setCell, Array.getElem?_modify, h]
theorem only_ten (w : World) (b : Nat) (v0 v1 v2 v3 v4 v5 v6 v7 v8 v9 : Value) : Only (fun k => k = b) w ((((((((((w.setCell ⟨b, 0, none⟩ (v0)).setCell ⟨b, 1, none⟩ (v1)).setCell ⟨b, 2, none⟩ (v2)).setCell ⟨b, 3, none⟩ (v3)).setCell ⟨b, 4, none⟩ (v4)).setCell ⟨b, 5, none⟩ (v5)).setCell ⟨b, 6, none⟩ (v6)).setCell ⟨b, 7, none⟩ (v7)).setCell ⟨b, 8, none⟩ (v8)).setCell ⟨b, 9, none⟩ (v9)) :=
  (((((((((((Only.refl (fun k => k = b) w).setCell (p := ⟨b, 0, none⟩) (.inl rfl) _).setCell (p := ⟨b, 1, none⟩) (.inl rfl) _).setCell (p := ⟨b, 2, none⟩) (.inl rfl) _).setCell (p := ⟨b, 3, none⟩) (.inl rfl) _).setCell (p := ⟨b, 4, none⟩) (.inl rfl) _).setCell (p := ⟨b, 5, none⟩) (.inl rfl) _).setCell (p := ⟨b, 6, none⟩) (.inl rfl) _).setCell (p := ⟨b, 7, none⟩) (.inl rfl) _).setCell (p := ⟨b, 8, none⟩) (.inl rfl) _).setCell (p := ⟨b, 9, none⟩) (.inl rfl) _)
end
end Go.Proofs.Ytlcddfkhklmieaa
