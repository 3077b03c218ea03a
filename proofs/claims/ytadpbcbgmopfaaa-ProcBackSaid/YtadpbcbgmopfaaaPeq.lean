/-
  The program's '==' at two lives, and '!='. No condition.
-/
import Derived.Test.YtadpbcbgmopfaaaPmem
import Derived.Laws.StructEq
import Derived.Shelf.SlicesE.Equal
namespace Go.Proofs.Ytadpbcbgmopfaaa
open Go.RowKit Go.Sort

/-- '==' at two lives. -/
theorem eqP : EqlAt Try.prog 70 (fun x : Life => .agg (encP x).toArray) (fun x y => decide (x = y)) := by
  refine ⟨fun x y w => ?_, GuardAt.agg _ (by kernel_rfl)⟩
  have u3 := Try.underlying3
  have a3 := Try.isAgg3
  have z3 := Try.sizeOf3
  have u29 := Try.underlying29
  have a29 := Try.isAgg29
  have z29 := Try.sizeOf29
  have hS : Try.prog.underlying 70 = some (.struct (Try.prog.fieldsOf 70)) := by kernel_rfl
  have hp : Try.prog.stoodInHeld 70 = false := by kernel_rfl
  simp only [encP]
  rw [run_eql_struct, show (10000 : Nat) = 9999 + 1 from rfl, run_equalIn_agg w 9999 70 _ _ hS hp]
  simp only [Program.fieldsOf, Try.underlying70]
  go_simp
  obtain ⟨x1, x2⟩ := x
  obtain ⟨y1, y2⟩ := y
  by_cases h1 : x1 = y1 <;> by_cases h2 : x2 = y2 <;> simp [h1, h2]
theorem neP : NeqAt Try.prog 70 (fun x : Life => .agg (encP x).toArray) (fun x y => decide (x = y)) := by
  refine ⟨fun x y w => ?_, GuardAt.agg _ (by kernel_rfl)⟩
  have h := eqP.1 x y w
  have hS : Try.prog.underlying 70 = some (.struct (Try.prog.fieldsOf 70)) := by kernel_rfl
  rw [run_eql_struct] at h
  rw [run_neq_struct]
  cases hr : (Op.equalIn 10000 70 (.agg (encP x).toArray) (.agg (encP y).toArray)).run Try.prog w with
  | ok b w' =>
    rw [hr] at h
    simp only [Result.andThen] at h ⊢
    obtain ⟨h1, rfl⟩ : b = decide (x = y) ∧ w' = w := by simpa using h
    rw [h1]
  | _ => rw [hr] at h; simp [Result.andThen] at h
end Go.Proofs.Ytadpbcbgmopfaaa
