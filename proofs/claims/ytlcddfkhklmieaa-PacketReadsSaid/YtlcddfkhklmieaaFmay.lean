/-
  Whether a frame may be, by the document's answer. For frames whose numbers are not below 0.
-/
import Derived.Test.YtlcddfkhklmieaaFmem
namespace Go.Proofs.Ytlcddfkhklmieaa
set_option maxRecDepth 20000
open Go.RowKit

theorem rnode_any (n : Int) (w : World) : Calls Try.prog 54 #[.int .i64 n] w fun e w' => e = .returned (.bool (decide (nodeF n))) ∧ w = w' := by
  generalize hr : decide (nodeF n) = r
  have HD := Lib.hid hr
  clear hr
  by_cases h1 : 1 ≤ n
  · by_cases h2 : n ≤ 10
    · have : r = true := by rw [← HD.out]; exact decide_eq_true ⟨h1, h2⟩
      subst this
      go_enter Try.func54, Try.ntmps54
      go_wp2
      go_ret
      exact ⟨rfl, rfl⟩
    · have : r = false := by rw [← HD.out]; exact decide_eq_false (fun h => h2 h.2)
      subst this
      have h3 : decide (n ≤ 10) = false := decide_eq_false h2
      go_enter Try.func54, Try.ntmps54
      go_wp2
      go_ret
      exact ⟨by first | rfl | exact congrArg (fun b => Ending.returned (.bool b)) h3, rfl⟩
  · have : r = false := by rw [← HD.out]; exact decide_eq_false (fun h => h1 h.1)
    subst this
    have h3 : decide (1 ≤ n) = false := decide_eq_false h1
    go_enter Try.func54, Try.ntmps54
    go_wp2
    go_ret
    exact ⟨by first | rfl | exact congrArg (fun b => Ending.returned (.bool b)) h3, rfl⟩
theorem rcount_any (x : Int) (w : World) : Calls Try.prog 49 #[.int .u64 x] w fun e w' => e = .returned (.bool (decide (x < 34359738368))) ∧ w = w' := by
  go_enter Try.func49, Try.ntmps49
  go_wp2
  go_ret
  exact ⟨rfl, rfl⟩
end Go.Proofs.Ytlcddfkhklmieaa
