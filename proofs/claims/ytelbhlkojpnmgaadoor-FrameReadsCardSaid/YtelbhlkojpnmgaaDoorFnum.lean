/-
  frame's numbers: the places of a frame's six short numbers. No condition.
-/
import Derived.Test.YtelbhlkojpnmgaaDoorFown
import Derived.StillTailTactics
namespace Go.Proofs.YtelbhlkojpnmgaaDoor
set_option maxRecDepth 20000
open Go.RowKit

def PRow (b : Nat) (v0 v1 v2 v3 v4 v5 : Value) (ty : TypeId) (w : World) : Prop := w.heap[b]? = some (.cells #[v0, v1, v2, v3, v4, v5] ty (0, 0))
section
variable {b : Nat} {v0 v1 v2 v3 v4 v5 : Value} {ty : TypeId} {w w' : World}
theorem PRow.set (h : PRow b v0 v1 v2 v3 v4 v5 ty w) (u0 u1 u2 u3 u4 u5 : Value) : PRow b u0 u1 u2 u3 u4 u5 ty ((((((w.setCell ⟨b, 0, none⟩ u0).setCell ⟨b, 1, none⟩ u1).setCell ⟨b, 2, none⟩ u2).setCell ⟨b, 3, none⟩ u3).setCell ⟨b, 4, none⟩ u4).setCell ⟨b, 5, none⟩ u5) := by
  unfold PRow at *
  simp [World.setCell, Array.getElem?_modify, h]
theorem PRow.box (h : PRow b v0 v1 v2 v3 v4 v5 ty w) : w.cell? ⟨b, 0, none⟩ = some v0 ∧ w.cell? ⟨b, 1, none⟩ = some v1 ∧ w.cell? ⟨b, 2, none⟩ = some v2 ∧ w.cell? ⟨b, 3, none⟩ = some v3 ∧ w.cell? ⟨b, 4, none⟩ = some v4 ∧ w.cell? ⟨b, 5, none⟩ = some v5 :=
  ⟨by simpa using cell_plain h 0, by simpa using cell_plain h 1, by simpa using cell_plain h 2, by simpa using cell_plain h 3, by simpa using cell_plain h 4, by simpa using cell_plain h 5⟩
theorem PRow.thaw (h : PRow b v0 v1 v2 v3 v4 v5 ty w) (j : Nat) : w.frozen? ⟨b, j, none⟩ = false := frozen_plain h j
theorem only_six (w : World) (b : Nat) (u0 u1 u2 u3 u4 u5 : Value) : Only (fun k => k = b) w ((((((w.setCell ⟨b, 0, none⟩ u0).setCell ⟨b, 1, none⟩ u1).setCell ⟨b, 2, none⟩ u2).setCell ⟨b, 3, none⟩ u3).setCell ⟨b, 4, none⟩ u4).setCell ⟨b, 5, none⟩ u5) :=
  (((((((Only.refl (fun k => k = b) w).setCell (p := ⟨b, 0, none⟩) (.inl rfl) _).setCell (p := ⟨b, 1, none⟩) (.inl rfl) _).setCell (p := ⟨b, 2, none⟩) (.inl rfl) _).setCell (p := ⟨b, 3, none⟩) (.inl rfl) _).setCell (p := ⟨b, 4, none⟩) (.inl rfl) _).setCell (p := ⟨b, 5, none⟩) (.inl rfl) _)
end
/-- The places of the six numbers of a frame in block b. -/
def ptr6 (b : Nat) : Array Value := #[.pointer (some ⟨b, 3, none⟩), .pointer (some ⟨b, 4, none⟩), .pointer (some ⟨b, 5, none⟩), .pointer (some ⟨b, 6, none⟩), .pointer (some ⟨b, 7, none⟩), .pointer (some ⟨b, 8, none⟩)]
theorem index6 (b : Nat) (w : World) : ∀ k : Nat, k < 6 → (Instr.index 64 (.agg (ptr6 b)) (.int .i64 (k : Nat))).run Tryd.prog w = .ok (.pointer (some ⟨b, 3 + k, none⟩)) w
  | 0, _ => by kernel_rfl
  | 1, _ => by kernel_rfl
  | 2, _ => by kernel_rfl
  | 3, _ => by kernel_rfl
  | 4, _ => by kernel_rfl
  | 5, _ => by kernel_rfl
  | n + 6, h => absurd h (by omega)
set_option maxHeartbeats 2000000 in
theorem numbers_any (b : Nat) (w : World) :
    Calls Tryd.prog 42 #[.pointer (some ⟨b, 0, none⟩)] w fun e w' =>
      e = .returned (.agg (ptr6 b)) ∧ Hid (Below w.heap.size w w') := by
  have R0 : PRow w.heap.size (.pointer none) (.pointer none) (.pointer none) (.pointer none) (.pointer none) (.pointer none) 64 (w.alloc (.cells #[.pointer none, .pointer none, .pointer none, .pointer none, .pointer none, .pointer none] 64)) := heap_alloc_new w _
  have B0 := Lib.hid (fbelow_box w (.cells #[.pointer none, .pointer none, .pointer none, .pointer none, .pointer none, .pointer none] 64))
  go_enter Tryd.func42, Tryd.ntmps42
  go_wp2_with fail
  generalize w.alloc (.cells #[.pointer none, .pointer none, .pointer none, .pointer none, .pointer none, .pointer none] 64) = W1 at *
  go_still_tail 19, (by kernel_rfl)
  change wpList _ _ _ _ _ W1.drew
  have BD := Lib.hid (show Below w.heap.size w W1.drew from ⟨B0.out.os, B0.out.tape, B0.out.output, B0.out.size, B0.out.block⟩)
  have R1 : PRow w.heap.size (.pointer none) (.pointer none) (.pointer none) (.pointer none) (.pointer none) (.pointer none) 64 W1.drew := R0
  clear R0 B0
  generalize W1.drew = W2 at *
  have y0 := R1.box.1
  have y1 := R1.box.2.1
  have y2 := R1.box.2.2.1
  have y3 := R1.box.2.2.2.1
  have y4 := R1.box.2.2.2.2.1
  have y5 := R1.box.2.2.2.2.2
  have f0 := R1.thaw 0
  have f1 := R1.thaw 1
  have f2 := R1.thaw 2
  have f3 := R1.thaw 3
  have f4 := R1.thaw 4
  have f5 := R1.thaw 5
  have R2 := Lib.hid (R1.set (.pointer (some ⟨b, 3, none⟩)) (.pointer (some ⟨b, 4, none⟩)) (.pointer (some ⟨b, 5, none⟩)) (.pointer (some ⟨b, 6, none⟩)) (.pointer (some ⟨b, 7, none⟩)) (.pointer (some ⟨b, 8, none⟩)))
  have B2 := Lib.hid ((only_six W2 w.heap.size (.pointer (some ⟨b, 3, none⟩)) (.pointer (some ⟨b, 4, none⟩)) (.pointer (some ⟨b, 5, none⟩)) (.pointer (some ⟨b, 6, none⟩)) (.pointer (some ⟨b, 7, none⟩)) (.pointer (some ⟨b, 8, none⟩))).below BD.out (fun j hj => by omega) BD.out.size)
  clear R1 BD
  go_wp2
  refine bodyPost_ret (results_cell_row rfl _ _ w.heap.size 64 #[.pointer (some ⟨b, 3, none⟩), .pointer (some ⟨b, 4, none⟩), .pointer (some ⟨b, 5, none⟩), .pointer (some ⟨b, 6, none⟩), .pointer (some ⟨b, 7, none⟩), .pointer (some ⟨b, 8, none⟩)] (0, 0) _ rfl R2.out Tryd.underlying64 rfl (by kernel_rfl)) rfl ?_
  exact ⟨rfl, B2⟩
end Go.Proofs.YtelbhlkojpnmgaaDoor
