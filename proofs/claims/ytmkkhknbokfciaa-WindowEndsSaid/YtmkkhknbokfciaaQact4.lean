/-
  What the law's act does where it is told how far the receiver is. No condition.
-/
import Derived.Test.YtmkkhknbokfciaaQactp
import Derived.Test.YtmkkhknbokfciaaQcome
import Derived.Test.YtmkkhknbokfciaaQawake
namespace Go.Proofs.Ytmkkhknbokfciaa
set_option maxRecDepth 20000
open Go.RowKit

theorem act4_num (u nt : Nat) (h : nt ≤ 300) : ∃ m v : Nat, IntKind.i64.wrap ((nt : Int) + 1) = (m : Int) ∧ ¬ (m : Int) = 0 ∧ (u : Int).tmod (m : Int) = (v : Int) ∧ v ≤ nt ∧ IntKind.u64.wrap (v : Int) = (v : Int) := by
  have hv := Nat.mod_lt u (show 0 < nt + 1 by omega)
  refine ⟨nt + 1, u % (nt + 1), ?_, by omega, rem_nat u (nt + 1), by omega, wrapU (by omega) (by omega)⟩
  rw [IntKind.wrap_i64]
  omega
theorem ack4_any (b : Nat) (A : Option Addr) (n c v : Nat) (ls : List (List UInt8)) (W : World) (hm : mayS b ls) (hl : ls.length = n) (hi : Rws W W.heap.size A ls) (hc : n ≤ c) (hb : b ≤ 300) (hv : v ≤ 300) :
    Calls Try.prog 19 #[.agg #[.int .u64 (b : Int), .slice A n c], .int .u64 (v : Int)] W (AckE W b ls v) :=
  ack_any b A n c v ls W hl hi hc (by have := hm.1; omega) (fun k hk => by have := (mayS_small hm).2 k (by rw [hl]; exact hk); omega) (by omega) (by omega)
set_option maxHeartbeats 8000000 in
theorem act7_4_any (G B : Nat) (bs : List (List UInt8)) (s : Sd) (nn : Int) (A0 : Option Addr) (n0 c0 : Nat) (w : World) (hs : Side G B s w) (hv : Inv7 bs s) (hB : B ≤ w.heap.size) (hbl : bs.length = n0) (hbs : Rws w B A0 bs) :
    Calls Try.prog 24 #[.pointer (some ⟨G, 0, none⟩), .agg #[.int .i64 4, .int .i64 nn], .slice A0 n0 c0] w (ActE G B bs w) := by
  obtain ⟨A, c, P, cp, T, ct, Y, cy, hm⟩ := hs
  obtain ⟨u, hu, hu2⟩ : ∃ u : Nat, bits .and .i64 nn 65535 = (u : Int) ∧ u < 65536 := ⟨(nn % 65536).toNat, by rw [i64_andQ]; omega, by omega⟩
  have ec := hu
  have HU := Lib.hid hu2
  clear hu hu2
  have HV := Lib.hid hv
  have HBw := Lib.hid hB
  have HL := Lib.hid hbl
  have HN := Lib.hid (show s.ls.length ≤ 48 ∧ s.ps.length ≤ 300 ∧ s.ps.length ≤ n0 ∧ s.ts.length ≤ 300 ∧ s.ys.length ≤ 500 ∧ s.b + s.ls.length = s.ps.length ∧ s.ts.length = s.g from ⟨hv.box, hv.small, by rw [← hbl]; exact hv.plen, by have := hv.got; have := hv.le; have := hv.small; omega, hv.wn, hv.base, hv.got⟩)
  have bq := qbox w (.cells #[.int .i64 4, .int .i64 nn] 58)
  have M1 := Lib.hid (hm.on bq)
  have hc1 := qnew w #[.int .i64 4, .int .i64 nn] 58
  have a0 : (w.alloc (.cells #[.int .i64 4, .int .i64 nn] 58)).cell? ⟨w.heap.size, 0, none⟩ = some (.int .i64 4) := (cell_plain hc1 0).trans rfl
  have a1 : (w.alloc (.cells #[.int .i64 4, .int .i64 nn] 58)).cell? ⟨w.heap.size, 1, none⟩ = some (.int .i64 nn) := (cell_plain hc1 1).trans rfl
  have B1 := Lib.hid (bq.mono hB)
  have I1 := Lib.hid (hbs.below B1.out)
  have HQ : Hid (∀ e w', e = .returned (.bool true) → (∃ s', Side G B s' w' ∧ Inv7 bs s' ∧ Below B w w') → ActE G B bs w e w') := Lib.hid (fun e w' h1 h2 => actE_of h1 h2)
  clear hm hv hB hbl hbs bq hc1
  generalize ActE G B bs w = Q0 at *
  generalize s.ls.length = n at *
  generalize s.ps.length = np at *
  generalize s.ts.length = nt at *
  generalize s.ys.length = ny at *
  go_enter Try.func24, Try.ntmps24
  have hW1 : B ≤ (w.alloc (.cells #[.int .i64 4, .int .i64 nn] 58)).heap.size := Nat.le_trans HBw.out B1.out.size
  have HW1 := Lib.hid hW1
  clear hW1
  generalize hW : w.alloc (.cells #[.int .i64 4, .int .i64 nn] 58) = W1 at *
  obtain ⟨k0, k1, k2, k3, k4, k5⟩ := M1.out.cell
  obtain ⟨m, v, e1, g0, hv, hvl, e2⟩ := act4_num u nt (by have := HN.out; omega)
  have g0' : ¬ m = 0 := by omega
  have hnt := HN.out.2.2.2.2.2.2
  have HI := Lib.hid (show Inv7 bs { s with b := ackB s.b s.ls v, ls := ackL s.b s.ls v } from HV.out.ack (u := v) (by omega))
  have HA := Lib.hid (fun W (hi : Rws W W.heap.size A s.ls) => ack4_any s.b A n c v s.ls W HV.out.may M1.out.ln hi M1.out.own.cap_le (by have := HN.out; omega) (by have := HN.out; omega))
  unfold AckE at HA
  generalize ackB s.b s.ls v = b2 at *
  generalize ackL s.b s.ls v = l2 at *
  generalize decide (ackOk s.b s.ls v) = ok at *
  generalize hm2 : l2.length = m2 at *
  have HRw := Lib.hid (show Rws W1.drew W1.drew.heap.size A s.ls from M1.out.own.rws)
  clear hnt hm2 hvl
  go_wp2_with fail
  go_region_law (refine step_free rfl ?_; unfold Oper.wp; simp only [execOp]; go_simp; go_at_call 19; refine (HA.out W1.drew HRw.out).mono ?_; rintro e V1 ⟨A', c', rfl, o4, b4⟩; have M2 := Lib.hid (M1.out.on (undrew (w := W1) b4.out)); have z0 := M2.out.cell.1; have z1 := M2.out.cell.2.1; have f0 := M2.out.frozen 0; have f1 := M2.out.frozen 1; have O2 := Lib.hid (o4.out.lower (show B ≤ W1.drew.heap.size from HW1.out)); have B2 := Lib.hid (B1.out.trans ((undrew (w := W1) b4.out).mono HW1.out)); have HW2 := Lib.hid (Nat.le_trans HW1.out (undrew (w := W1) b4.out).size); clear o4 b4)
  all_goals
    have M3 := Lib.hid (M2.out.setSender b2 O2.out)
    have B3 := Lib.hid ((only_two V1 G (.int .u64 (b2 : Int)) (.slice A' m2 c')).below B2.out (fun k e => by rw [e]; exact M2.out.hG) HW2.out)
    clear z0 z1 f0 f1 k0 k1 k2 k3 k4 k5
    go_wp2
    exact HQ.out _ _ rfl ⟨_, M3.out.side, HI.out, B3.out⟩
end Go.Proofs.Ytmkkhknbokfciaa
