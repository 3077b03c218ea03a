/-
  Package packet's two tables of method expressions: what stands in them, by kinds. No condition.
-/
import Derived.Test.YtlcddfkhklmieaaKputb
import Derived.Laws.ResultCell
namespace Go.Proofs.Ytlcddfkhklmieaa
set_option maxRecDepth 20000
open Go.RowKit

abbrev fnV (n : Nat) : Value := .func (.func n) #[] #[]
theorem set_quad {W : World} {B : Nat} {a0 a1 a2 a3 : Value} {t : TypeId} (h : W.heap[B]? = some (.cells #[a0, a1, a2, a3] t (0, 0))) (v0 v1 v2 v3 : Value) :
    ((((W.setCell ⟨B, 0, none⟩ v0).setCell ⟨B, 1, none⟩ v1).setCell ⟨B, 2, none⟩ v2).setCell ⟨B, 3, none⟩ v3).heap[B]? = some (.cells #[v0, v1, v2, v3] t (0, 0)) := by
  simp [World.setCell, Array.getElem?_modify, h]
theorem only_quad (W : World) (B : Nat) (v0 v1 v2 v3 : Value) : Only (fun k => k = B) W ((((W.setCell ⟨B, 0, none⟩ v0).setCell ⟨B, 1, none⟩ v1).setCell ⟨B, 2, none⟩ v2).setCell ⟨B, 3, none⟩ v3) :=
  ((((Only.refl (fun k => k = B) W).setCell (p := ⟨B, 0, none⟩) (.inl rfl) _).setCell (p := ⟨B, 1, none⟩) (.inl rfl) _).setCell (p := ⟨B, 2, none⟩) (.inl rfl) _).setCell (p := ⟨B, 3, none⟩) (.inl rfl) _
abbrev wtabC : Array Value := #[Value.nilFunc, fnV 56, fnV 57, fnV 58]
theorem wtab_1 (w : World) : (Instr.index 56 (.agg wtabC) (.int .i64 1)).run Try.prog w = .ok (fnV 56) w := by kernel_rfl
theorem wtab_2 (w : World) : (Instr.index 56 (.agg wtabC) (.int .i64 2)).run Try.prog w = .ok (fnV 57) w := by kernel_rfl
theorem wtab_3 (w : World) : (Instr.index 56 (.agg wtabC) (.int .i64 3)).run Try.prog w = .ok (fnV 58) w := by kernel_rfl
set_option maxHeartbeats 1000000 in
theorem writers_any (w : World) : Calls Try.prog 30 #[] w fun e w' => e = .returned (.agg wtabC) ∧ Hid (Below w.heap.size w w') := by
  have R0 : (w.alloc (.cells #[Value.nilFunc, Value.nilFunc, Value.nilFunc, Value.nilFunc] 56)).heap[w.heap.size]? = some (.cells #[Value.nilFunc, Value.nilFunc, Value.nilFunc, Value.nilFunc] 56 (0, 0)) := heap_alloc_new w _
  have B0 := Lib.hid (wbelow_box w (.cells #[Value.nilFunc, Value.nilFunc, Value.nilFunc, Value.nilFunc] 56))
  have s0 : ∀ (a : Addr) (m : Mode) (W : World), Sem.run Try.prog (store a Value.nilFunc m) W = stored Try.prog W a Value.nilFunc m := fun a m W => run_store Try.prog W a _ m rfl
  have s1 : ∀ (n : Nat) (a : Addr) (m : Mode) (W : World), Sem.run Try.prog (store a (fnV n) m) W = stored Try.prog W a (fnV n) m := fun n a m W => run_store Try.prog W a _ m rfl
  go_enter Try.func30, Try.ntmps30
  generalize hW : w.alloc (.cells #[Value.nilFunc, Value.nilFunc, Value.nilFunc, Value.nilFunc] 56) = W1 at *
  have y0 := cell_plain R0 0
  have y1 := cell_plain R0 1
  have y2 := cell_plain R0 2
  have y3 := cell_plain R0 3
  simp only [List.getElem?_toArray, List.getElem?_cons_zero, List.getElem?_cons_succ] at y0 y1 y2 y3
  have f0 := frozen_plain R0 0
  have f1 := frozen_plain R0 1
  have f2 := frozen_plain R0 2
  have f3 := frozen_plain R0 3
  have R2 := Lib.hid (set_quad R0 (Value.nilFunc) (fnV 56) (fnV 57) (fnV 58))
  have B2 := Lib.hid ((only_quad W1 w.heap.size (Value.nilFunc) (fnV 56) (fnV 57) (fnV 58)).below B0.out (fun j hj => by omega) B0.out.size)
  clear R0 B0
  go_wp2
  refine bodyPost_ret (results_cell_row rfl _ _ w.heap.size 56 wtabC (0, 0) _ rfl R2.out Try.underlying56 rfl (by kernel_rfl)) rfl ?_
  exact ⟨rfl, B2⟩
abbrev rtabC : Array Value := #[Value.nilFunc, fnV 64, fnV 65, fnV 66]
theorem rtab_1 (w : World) : (Instr.index 68 (.agg rtabC) (.int .i64 1)).run Try.prog w = .ok (fnV 64) w := by kernel_rfl
theorem rtab_2 (w : World) : (Instr.index 68 (.agg rtabC) (.int .i64 2)).run Try.prog w = .ok (fnV 65) w := by kernel_rfl
theorem rtab_3 (w : World) : (Instr.index 68 (.agg rtabC) (.int .i64 3)).run Try.prog w = .ok (fnV 66) w := by kernel_rfl
set_option maxHeartbeats 1000000 in
theorem readers_any (w : World) : Calls Try.prog 38 #[] w fun e w' => e = .returned (.agg rtabC) ∧ Hid (Below w.heap.size w w') := by
  have R0 : (w.alloc (.cells #[Value.nilFunc, Value.nilFunc, Value.nilFunc, Value.nilFunc] 68)).heap[w.heap.size]? = some (.cells #[Value.nilFunc, Value.nilFunc, Value.nilFunc, Value.nilFunc] 68 (0, 0)) := heap_alloc_new w _
  have B0 := Lib.hid (wbelow_box w (.cells #[Value.nilFunc, Value.nilFunc, Value.nilFunc, Value.nilFunc] 68))
  have s0 : ∀ (a : Addr) (m : Mode) (W : World), Sem.run Try.prog (store a Value.nilFunc m) W = stored Try.prog W a Value.nilFunc m := fun a m W => run_store Try.prog W a _ m rfl
  have s1 : ∀ (n : Nat) (a : Addr) (m : Mode) (W : World), Sem.run Try.prog (store a (fnV n) m) W = stored Try.prog W a (fnV n) m := fun n a m W => run_store Try.prog W a _ m rfl
  go_enter Try.func38, Try.ntmps38
  generalize hW : w.alloc (.cells #[Value.nilFunc, Value.nilFunc, Value.nilFunc, Value.nilFunc] 68) = W1 at *
  have y0 := cell_plain R0 0
  have y1 := cell_plain R0 1
  have y2 := cell_plain R0 2
  have y3 := cell_plain R0 3
  simp only [List.getElem?_toArray, List.getElem?_cons_zero, List.getElem?_cons_succ] at y0 y1 y2 y3
  have f0 := frozen_plain R0 0
  have f1 := frozen_plain R0 1
  have f2 := frozen_plain R0 2
  have f3 := frozen_plain R0 3
  have R2 := Lib.hid (set_quad R0 (Value.nilFunc) (fnV 64) (fnV 65) (fnV 66))
  have B2 := Lib.hid ((only_quad W1 w.heap.size (Value.nilFunc) (fnV 64) (fnV 65) (fnV 66)).below B0.out (fun j hj => by omega) B0.out.size)
  clear R0 B0
  go_wp2
  refine bodyPost_ret (results_cell_row rfl _ _ w.heap.size 68 rtabC (0, 0) _ rfl R2.out Try.underlying68 rfl (by kernel_rfl)) rfl ?_
  exact ⟨rfl, B2⟩
end Go.Proofs.Ytlcddfkhklmieaa
