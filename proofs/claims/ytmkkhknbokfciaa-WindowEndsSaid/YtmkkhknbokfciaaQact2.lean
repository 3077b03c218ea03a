/-
  What the law's act does where a copy comes. No condition.
-/
import Derived.Test.YtmkkhknbokfciaaQactp
import Derived.Test.YtmkkhknbokfciaaQcome
import Derived.StillTailTactics
namespace Go.Proofs.Ytmkkhknbokfciaa
set_option maxRecDepth 20000
open Go.RowKit

set_option maxHeartbeats 8000000 in
theorem act7_2_any (G B : Nat) (bs : List (List UInt8)) (s : Sd) (nn : Int) (A0 : Option Addr) (n0 c0 : Nat) (w : World) (hs : Side G B s w) (hv : Inv7 bs s) (hB : B ≤ w.heap.size) (hbl : bs.length = n0) (hbs : Rws w B A0 bs) :
    Calls Try.prog 24 #[.pointer (some ⟨G, 0, none⟩), .agg #[.int .i64 2, .int .i64 nn], .slice A0 n0 c0] w (ActE G B bs w) := by
  obtain ⟨A, c, P, cp, T, ct, Y, cy, hm⟩ := hs
  obtain ⟨u, hu, hu2⟩ : ∃ u : Nat, bits .and .i64 nn 65535 = (u : Int) ∧ u < 65536 := ⟨(nn % 65536).toNat, by rw [i64_andQ]; omega, by omega⟩
  have ec := hu
  have HU := Lib.hid hu2
  clear hu hu2
  have HV := Lib.hid hv
  have HBw := Lib.hid hB
  have HL := Lib.hid hbl
  have HN := Lib.hid (show s.ls.length ≤ 48 ∧ s.ps.length ≤ 300 ∧ s.ps.length ≤ n0 ∧ s.ts.length ≤ 300 ∧ s.ys.length ≤ 500 ∧ s.b + s.ls.length = s.ps.length ∧ s.ts.length = s.g from ⟨hv.box, hv.small, by rw [← hbl]; exact hv.plen, by have := hv.got; have := hv.le; have := hv.small; omega, hv.wn, hv.base, hv.got⟩)
  have bq := qbox w (.cells #[.int .i64 2, .int .i64 nn] 58)
  have M1 := Lib.hid (hm.on bq)
  have hc1 := qnew w #[.int .i64 2, .int .i64 nn] 58
  have a0 : (w.alloc (.cells #[.int .i64 2, .int .i64 nn] 58)).cell? ⟨w.heap.size, 0, none⟩ = some (.int .i64 2) := (cell_plain hc1 0).trans rfl
  have a1 : (w.alloc (.cells #[.int .i64 2, .int .i64 nn] 58)).cell? ⟨w.heap.size, 1, none⟩ = some (.int .i64 nn) := (cell_plain hc1 1).trans rfl
  have B1 := Lib.hid (bq.mono hB)
  have I1 := Lib.hid (hbs.below B1.out)
  have HQ : Hid (∀ e w', e = .returned (.bool true) → (∃ s', Side G B s' w' ∧ Inv7 bs s' ∧ Below B w w') → ActE G B bs w e w') := Lib.hid (fun e w' h1 h2 => actE_of h1 h2)
  clear hm hv hB hbl hbs bq hc1
  generalize ActE G B bs w = Q0 at *
  generalize s.ls.length = n at *
  generalize s.ps.length = np at *
  generalize s.ts.length = nt at *
  generalize s.ys.length = ny at *
  go_enter Try.func24, Try.ntmps24
  have hW1 : B ≤ (w.alloc (.cells #[.int .i64 2, .int .i64 nn] 58)).heap.size := Nat.le_trans HBw.out B1.out.size
  have HW1 := Lib.hid hW1
  clear hW1
  generalize hW : w.alloc (.cells #[.int .i64 2, .int .i64 nn] 58) = W1 at *
  obtain ⟨k0, k1, k2, k3, k4, k5⟩ := M1.out.cell
  by_cases h0 : ny = 0
  · have g1 : ¬ (0 : Int) < (ny : Int) := by omega
    clear h0
    go_wp2
    exact HQ.out _ _ rfl ⟨s, M1.out.side, HV.out, B1.out⟩
  · have g1 : (0 : Int) < (ny : Int) := by omega
    obtain ⟨v, hv, hvl⟩ : ∃ v : Nat, (u : Int).tmod (ny : Int) = (v : Int) ∧ v < ny := ⟨u % ny, rem_nat u ny, Nat.mod_lt _ (by omega)⟩
    have g2 : (v : Int) < (ny : Int) := by omega
    have hly := M1.out.ly
    obtain ⟨yb, rfl, q0, q1, q2, q3⟩ := cop_pos M1.out.way (by omega : v < ny)
    have HCv := Lib.hid (HV.out.way _ (copK_mem (cs := s.ys) (k := v) (by omega)))
    have HCm := Lib.hid (fun W (h : Side G B s W) (h2 : B ≤ W.heap.size) => come7_any G B s (copK s.ys v).1 (copK s.ys v).2 W h h2 (by have := HCv.out; have := HN.out; have := M1.out.lp; omega) (by have := HN.out; omega) (by have := M1.out.lt; have := HN.out; omega))
    have HIv := Lib.hid (show Inv7 bs (comeS s ((copK s.ys v).1, (copK s.ys v).2)) from HV.out.come HCv.out)
    have HX : Hid (strV (copK s.ys v).2 = .string ⟨(copK s.ys v).2.toArray⟩) := Lib.hid rfl
    rw [HX.out] at q1 q3 HCm
    generalize (⟨(copK s.ys v).2.toArray⟩ : ByteArray) = tx at *
    generalize hq : (copK s.ys v).1 = q at *
    have g0 : ¬ (ny : Int) = 0 := by omega
    have g0' : ¬ ny = 0 := h0
    clear h0 hly hq
    go_wp2_with fail
    go_still_tail 14, (by kernel_rfl)
    change wpList _ _ _ _ _ W1.drew
    have BD := Lib.hid (show Below W1.heap.size W1 W1.drew from ⟨rfl, rfl, rfl, Nat.le_refl _, fun _ _ => rfl⟩)
    have HS1 := Lib.hid ((M1.out.on BD.out).side)
    have B2 := Lib.hid (B1.out.trans (BD.out.mono HW1.out))
    have HW2 := Lib.hid (Nat.le_trans HW1.out BD.out.size)
    have d0 : W1.drew.cell? ⟨yb, v * 2, none⟩ = some (.int .u64 (q : Int)) := q0
    have d1 : W1.drew.cell? ⟨yb, v * 2 + 1, none⟩ = some (.string tx) := q1
    have d2 : W1.drew.cell? ⟨yb, 0 + v * 2, none⟩ = some (.int .u64 (q : Int)) := q2
    have d3 : W1.drew.cell? ⟨yb, 0 + v * 2 + 1, none⟩ = some (.string tx) := q3
    clear q0 q1 q2 q3 k0 k1 k2 k3 k4 k5 BD
    generalize W1.drew = W2 at *
    go_wp2_with fail
    refine (HCm.out W2 HS1.out HW2.out).mono ?_
    rintro e W3 ⟨rfl, s3, b3, _⟩
    go_wp2
    exact HQ.out _ _ rfl ⟨_, s3.out, HIv.out, B2.out.trans b3.out⟩
end Go.Proofs.Ytmkkhknbokfciaa
