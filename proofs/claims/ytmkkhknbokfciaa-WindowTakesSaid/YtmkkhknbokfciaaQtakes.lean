/-
  The walk of WindowTakes. No condition.
-/
import Derived.Test.YtmkkhknbokfciaaQawake
import Derived.Test.YtmkkhknbokfciaaQargs
namespace Go.Proofs.Ytmkkhknbokfciaa
set_option maxRecDepth 20000
open Go.RowKit

set_option maxHeartbeats 4000000 in
theorem takes7_walk (g s : Nat) (w : World) (hg : g < 18446744073709551616) (hs : s < 18446744073709551616) :
    Calls Try.prog 6 #[.agg #[.int .u64 (g : Int)], .int .u64 (s : Int)] w fun e w' => e = .returned (.bool true) ∧ Hid (Below w.heap.size w w') := by
  have R1 := Lib.hid (show RRow w.heap.size (g : Int) (w.alloc (.cells #[.int .u64 (g : Int)] 45)) from qnew w _ _)
  have B1 := Lib.hid (qbox w (.cells #[.int .u64 (g : Int)] 45))
  have HT := Lib.hid (fun W => wtake_any g s W hg hs)
  have HR := Lib.hid (fun W => wrtake_any g s W hg hs)
  unfold WTakeE at HT HR
  generalize ((takeS g s : Nat) : Int) = t at *
  generalize decide (nextS g s) = ok at *
  clear hg hs
  go_enter Try.func6, Try.ntmps6
  have k0 := R1.out.cell
  go_wp2_with fail
  clear k0
  refine (HT.out _).mono ?_
  rintro e W2 ⟨rfl, b2⟩
  have R2 := Lib.hid (R1.out.below b2.out)
  have B2 := Lib.hid (qtr B1.out b2.out)
  have R3 := Lib.hid (show RRow W2.heap.size t (W2.alloc (.cells #[.int .u64 t] 45)) from qnew W2 _ _)
  have b3 := qbox W2 (.cells #[.int .u64 t] 45)
  have R2' := Lib.hid (R2.out.below b3)
  have B3 := Lib.hid (qtr B2.out b3)
  clear b2 b3 R1 B1 R2 B2
  have k0 := R2'.out.cell
  go_wp2_with fail
  clear k0
  generalize W2.alloc (.cells #[.int .u64 t] 45) = W3 at *
  refine (HR.out _).mono ?_
  rintro e W4 ⟨rfl, b4⟩
  have R4 := Lib.hid (R3.out.below b4.out)
  have B4 := Lib.hid (qtr B3.out b4.out)
  have R5 := Lib.hid (show RRow W4.heap.size t (W4.alloc (.cells #[.int .u64 t] 45)) from qnew W4 _ _)
  have b5 := qbox W4 (.cells #[.int .u64 t] 45)
  have R4' := Lib.hid (R4.out.below b5)
  have B5 := Lib.hid (qtr B4.out b5)
  clear b4 b5 R2' B3 R3 R4 B4
  have k0 := R4'.out.cell
  have k1 := R5.out.cell
  have q1 := eqr_run t t (W4.alloc (.cells #[.int .u64 t] 45))
  have q2 := fun op a b => guardr_run op a b t t (W4.alloc (.cells #[.int .u64 t] 45))
  rw [decide_eq_true rfl] at q1
  go_wp2_with fail
  refine (awake7_any _).mono ?_
  rintro e W6 ⟨rfl, b6⟩
  have B6 := Lib.hid (qtr B5.out b6.out)
  clear b6 k0 k1 q1 q2
  go_wp2
  go_ret
  exact ⟨rfl, B6⟩
end Go.Proofs.Ytmkkhknbokfciaa
