/-
  What the law's act does where nothing is to happen. No condition.
-/
import Derived.Test.YtmkkhknbokfciaaQactp
namespace Go.Proofs.Ytmkkhknbokfciaa
set_option maxRecDepth 20000
open Go.RowKit

set_option maxHeartbeats 8000000 in
theorem act7_5_any (G B : Nat) (bs : List (List UInt8)) (s : Sd) (dd nn : Int) (A0 : Option Addr) (n0 c0 : Nat) (w : World) (hs : Side G B s w) (hv : Inv7 bs s) (hB : B ≤ w.heap.size) (hbl : bs.length = n0) (hbs : Rws w B A0 bs) (HD : dd ≠ 0 ∧ dd ≠ 1 ∧ dd ≠ 2 ∧ dd ≠ 3 ∧ dd ≠ 4) :
    Calls Try.prog 24 #[.pointer (some ⟨G, 0, none⟩), .agg #[.int .i64 dd, .int .i64 nn], .slice A0 n0 c0] w (ActE G B bs w) := by
  obtain ⟨A, c, P, cp, T, ct, Y, cy, hm⟩ := hs
  obtain ⟨u, hu, hu2⟩ : ∃ u : Nat, bits .and .i64 nn 65535 = (u : Int) ∧ u < 65536 := ⟨(nn % 65536).toNat, by rw [i64_andQ]; omega, by omega⟩
  have ec := hu
  have HU := Lib.hid hu2
  clear hu hu2
  have HV := Lib.hid hv
  have HBw := Lib.hid hB
  have HL := Lib.hid hbl
  have HN := Lib.hid (show s.ls.length ≤ 48 ∧ s.ps.length ≤ 300 ∧ s.ps.length ≤ n0 ∧ s.ts.length ≤ 300 ∧ s.ys.length ≤ 500 ∧ s.b + s.ls.length = s.ps.length ∧ s.ts.length = s.g from ⟨hv.box, hv.small, by rw [← hbl]; exact hv.plen, by have := hv.got; have := hv.le; have := hv.small; omega, hv.wn, hv.base, hv.got⟩)
  have bq := qbox w (.cells #[.int .i64 dd, .int .i64 nn] 58)
  have M1 := Lib.hid (hm.on bq)
  have hc1 := qnew w #[.int .i64 dd, .int .i64 nn] 58
  have a0 : (w.alloc (.cells #[.int .i64 dd, .int .i64 nn] 58)).cell? ⟨w.heap.size, 0, none⟩ = some (.int .i64 dd) := (cell_plain hc1 0).trans rfl
  have a1 : (w.alloc (.cells #[.int .i64 dd, .int .i64 nn] 58)).cell? ⟨w.heap.size, 1, none⟩ = some (.int .i64 nn) := (cell_plain hc1 1).trans rfl
  have B1 := Lib.hid (bq.mono hB)
  have I1 := Lib.hid (hbs.below B1.out)
  have HQ : Hid (∀ e w', e = .returned (.bool true) → (∃ s', Side G B s' w' ∧ Inv7 bs s' ∧ Below B w w') → ActE G B bs w e w') := Lib.hid (fun e w' h1 h2 => actE_of h1 h2)
  clear hm hv hB hbl hbs bq hc1
  generalize ActE G B bs w = Q0 at *
  generalize s.ls.length = n at *
  generalize s.ps.length = np at *
  generalize s.ts.length = nt at *
  generalize s.ys.length = ny at *
  go_enter Try.func24, Try.ntmps24
  have hW1 : B ≤ (w.alloc (.cells #[.int .i64 dd, .int .i64 nn] 58)).heap.size := Nat.le_trans HBw.out B1.out.size
  have HW1 := Lib.hid hW1
  clear hW1
  generalize hW : w.alloc (.cells #[.int .i64 dd, .int .i64 nn] 58) = W1 at *
  obtain ⟨k0, k1, k2, k3, k4, k5⟩ := M1.out.cell
  have q0 : (dd == 0) = false := by rw [beq_eq_false_iff_ne]; exact HD.1
  have q1 : (dd == 1) = false := by rw [beq_eq_false_iff_ne]; exact HD.2.1
  have q2 : (dd == 2) = false := by rw [beq_eq_false_iff_ne]; exact HD.2.2.1
  have q3 : (dd == 3) = false := by rw [beq_eq_false_iff_ne]; exact HD.2.2.2.1
  have q4 : (dd == 4) = false := by rw [beq_eq_false_iff_ne]; exact HD.2.2.2.2
  go_wp2
  exact HQ.out _ _ rfl ⟨s, M1.out.side, HV.out, B1.out⟩
end Go.Proofs.Ytmkkhknbokfciaa
