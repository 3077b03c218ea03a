/-
  What the law's act does where a copy is lost. No condition.
-/
import Derived.Test.YtmkkhknbokfciaaQactp
import Derived.Test.YtmkkhknbokfciaaQcome
namespace Go.Proofs.Ytmkkhknbokfciaa
set_option maxRecDepth 20000
open Go.RowKit

set_option maxHeartbeats 8000000 in
theorem act7_3_any (G B : Nat) (bs : List (List UInt8)) (s : Sd) (nn : Int) (A0 : Option Addr) (n0 c0 : Nat) (w : World) (hs : Side G B s w) (hv : Inv7 bs s) (hB : B ≤ w.heap.size) (hbl : bs.length = n0) (hbs : Rws w B A0 bs) :
    Calls Try.prog 24 #[.pointer (some ⟨G, 0, none⟩), .agg #[.int .i64 3, .int .i64 nn], .slice A0 n0 c0] w (ActE G B bs w) := by
  obtain ⟨A, c, P, cp, T, ct, Y, cy, hm⟩ := hs
  obtain ⟨u, hu, hu2⟩ : ∃ u : Nat, bits .and .i64 nn 65535 = (u : Int) ∧ u < 65536 := ⟨(nn % 65536).toNat, by rw [i64_andQ]; omega, by omega⟩
  have ec := hu
  have HU := Lib.hid hu2
  clear hu hu2
  have HV := Lib.hid hv
  have HBw := Lib.hid hB
  have HL := Lib.hid hbl
  have HN := Lib.hid (show s.ls.length ≤ 48 ∧ s.ps.length ≤ 300 ∧ s.ps.length ≤ n0 ∧ s.ts.length ≤ 300 ∧ s.ys.length ≤ 500 ∧ s.b + s.ls.length = s.ps.length ∧ s.ts.length = s.g from ⟨hv.box, hv.small, by rw [← hbl]; exact hv.plen, by have := hv.got; have := hv.le; have := hv.small; omega, hv.wn, hv.base, hv.got⟩)
  have bq := qbox w (.cells #[.int .i64 3, .int .i64 nn] 58)
  have M1 := Lib.hid (hm.on bq)
  have hc1 := qnew w #[.int .i64 3, .int .i64 nn] 58
  have a0 : (w.alloc (.cells #[.int .i64 3, .int .i64 nn] 58)).cell? ⟨w.heap.size, 0, none⟩ = some (.int .i64 3) := (cell_plain hc1 0).trans rfl
  have a1 : (w.alloc (.cells #[.int .i64 3, .int .i64 nn] 58)).cell? ⟨w.heap.size, 1, none⟩ = some (.int .i64 nn) := (cell_plain hc1 1).trans rfl
  have B1 := Lib.hid (bq.mono hB)
  have I1 := Lib.hid (hbs.below B1.out)
  have HQ : Hid (∀ e w', e = .returned (.bool true) → (∃ s', Side G B s' w' ∧ Inv7 bs s' ∧ Below B w w') → ActE G B bs w e w') := Lib.hid (fun e w' h1 h2 => actE_of h1 h2)
  clear hm hv hB hbl hbs bq hc1
  generalize ActE G B bs w = Q0 at *
  generalize s.ls.length = n at *
  generalize s.ps.length = np at *
  generalize s.ts.length = nt at *
  generalize s.ys.length = ny at *
  go_enter Try.func24, Try.ntmps24
  have hW1 : B ≤ (w.alloc (.cells #[.int .i64 3, .int .i64 nn] 58)).heap.size := Nat.le_trans HBw.out B1.out.size
  have HW1 := Lib.hid hW1
  clear hW1
  generalize hW : w.alloc (.cells #[.int .i64 3, .int .i64 nn] 58) = W1 at *
  obtain ⟨k0, k1, k2, k3, k4, k5⟩ := M1.out.cell
  by_cases h0 : ny = 0
  · have g1 : ¬ (0 : Int) < (ny : Int) := by omega
    clear h0
    go_wp2
    exact HQ.out _ _ rfl ⟨s, M1.out.side, HV.out, B1.out⟩
  · have g1 : (0 : Int) < (ny : Int) := by omega
    have g0 : ¬ (ny : Int) = 0 := by omega
    have hnn := HN.out
    obtain ⟨v, hv, hvl⟩ : ∃ v : Nat, (u : Int).tmod (ny : Int) = (v : Int) ∧ v < ny := ⟨u % ny, rem_nat u ny, Nat.mod_lt _ (by omega)⟩
    have g2 : (v : Int) < (ny : Int) := by omega
    have hcy := M1.out.way.cap_le
    obtain ⟨yb, rfl, q0, q1, q2, q3⟩ := cop_pos M1.out.way (by omega : v < ny)
    have e1 : IntKind.i64.wrap ((v : Int) + 1) = (v : Int) + 1 := by
      rw [IntKind.wrap_i64]
      omega
    have HGt := Lib.hid (fun (W : World) (h : GR tCop 2 W B (some ⟨yb, 0, none⟩) ny cy (copVs s.ys)) j x (hj : (copVs s.ys)[j]? = some x) => ((h.cells rfl).2 j x hj).1)
    have HLy := Lib.hid M1.out.ly
    have HVl := Lib.hid hvl
    have HNy := Lib.hid hnn.2.2.2.2.1
    have HCy := Lib.hid hcy
    have HIv := Lib.hid (HV.out.lose v)
    have g3 : (v : Int) ≤ (cy : Int) := by omega
    have g4 : (v : Int) + 1 ≤ (ny : Int) := by omega
    have g5 : (ny : Int) ≤ (cy : Int) := by omega
    clear q0 q1 q2 q3 h0 hnn hvl hcy
    go_wp2_with fail
    have f5 := M1.out.frozen 5
    have bqe := qbox W1 (.cells #[] 62)
    have M5 := Lib.hid (M1.out.on bqe)
    have k5a := M5.out.cell.2.2.2.2.2
    have BE := Lib.hid bqe
    have E0 := Lib.hid (show GR tCop 2 (W1.alloc (.cells #[] 62)) W1.heap.size (some ⟨W1.heap.size, 0, none⟩) 0 0 [] from ⟨rfl, .inr ⟨W1.heap.size, 0, #[], rfl, Nat.le_refl _, qnew W1 _ _, Nat.le_refl _, by unfold maxLen; omega, rfl, rfl⟩⟩)
    have HL1 := Lib.hid (show (copVs (s.ys.take v)).length = v * 2 by rw [copVs_length, List.length_take, HLy.out]; have := HVl.out; omega)
    have HN1 := Lib.hid (show ∀ (j : Nat) (x : Value), (copVs (s.ys.take v))[j]? = some x → (copVs s.ys)[j]? = some x from fun j x hj => by
      have hj' := (List.getElem?_eq_some_iff.1 hj).1
      rw [← List.take_append_drop v s.ys, copVs_append, List.getElem?_append_left hj']
      exact hj)
    have g6 : (0 : Int) ≤ (v : Int) + 1 := by omega
    obtain ⟨off, e9, hC2⟩ : ∃ off, (if cy = v + 1 then some (⟨yb, 0, none⟩ : Addr) else some ⟨yb, (v + 1) * 2, none⟩) = some ⟨yb, off, none⟩ ∧ ∀ (j : Nat) (x : Value), (copVs (s.ys.drop (v + 1)))[j]? = some x → (copVs s.ys)[off + j]? = some x := by
      have hall : ∀ (j : Nat) (x : Value), (copVs (s.ys.drop (v + 1)))[j]? = some x → (copVs s.ys)[(v + 1) * 2 + j]? = some x := fun j x hj => by
        rw [← List.take_append_drop (v + 1) s.ys, copVs_append, List.getElem?_append_right (by rw [copVs_length, List.length_take]; omega), copVs_length, List.length_take, HLy.out, show (v + 1) * 2 + j - min (v + 1) ny * 2 = j from by have := HVl.out; omega]
        exact hj
      by_cases h : cy = v + 1
      · refine ⟨0, if_pos h, fun j x hj => ?_⟩
        have : (copVs (s.ys.drop (v + 1))).length = 0 := by rw [copVs_length, List.length_drop, HLy.out]; have := HCy.out; omega
        have h2 := (List.getElem?_eq_some_iff.1 hj).1
        omega
      · exact ⟨(v + 1) * 2, if_neg h, hall⟩
    have HC2 := Lib.hid hC2
    have HL2 := Lib.hid (show (copVs (s.ys.drop (v + 1))).length = (ny - (v + 1)) * 2 by rw [copVs_length, List.length_drop, HLy.out])
    have HSum := Lib.hid (show v + (ny - (v + 1)) ≤ 1000000 by have := HVl.out; have := HNy.out; omega)
    clear bqe hC2
    go_region_law (first
      | (refine step_appendG 53 62 _ 2 24 Try.underlying53 Try.infoCop7 rfl (by omega) (by omega) rfl (.tmp 141) (.tmp 147) rfl W1.heap.size (some ⟨W1.heap.size, 0, none⟩) 0 0 [] rfl BE.out.size E0.out ⟨yb, 0, none⟩ v cy (copVs (s.ys.take v)) rfl HL1.out (fun j x hj => by rw [add_mk, Nat.zero_add]; exact HGt.out _ M5.out.way j x (HN1.out j x hj)) (copVs_one _) (by have := HVl.out; have := HNy.out; omega) ?_; intro A1 c1 V1 e1 e2 e3; rw [Nat.zero_add] at e1; have N1 := Lib.hid (newBelow (w := W1) e2.out (fun k e => by cases e; exact Nat.le_refl _)); have M6 := Lib.hid (M1.out.on N1.out); have k5b := M6.out.cell.2.2.2.2.2)
      | (refine step_appendG 53 62 _ 2 24 Try.underlying53 Try.infoCop7 rfl (by omega) (by omega) rfl (.tmp 148) (.tmp 155) rfl W1.heap.size A1 v c1 (copVs (s.ys.take v)) rfl N1.out.size e1.out ⟨yb, off, none⟩ (ny - (v + 1)) (cy - (v + 1)) (copVs (s.ys.drop (v + 1))) rfl HL2.out (fun j x hj => by rw [add_mk]; exact HGt.out _ M6.out.way _ x (HC2.out j x hj)) (copVs_one _) HSum.out ?_; intro A2 c2 V2 d1 d2 d3; have X6 := (M6.out.grown e1.out.ty (by decide) (by decide) (by decide) d2.out).1; have z6 := (show V2.cell? ⟨G, 5, none⟩ = some (.slice (some ⟨yb, 0, none⟩) ny cy) by simpa using cell_plain X6 5); have f6 := frozen_plain X6 5; have M7 := Lib.hid (M6.out.setWay (X := A1) (ys' := s.ys.take v ++ s.ys.drop (v + 1)) e1.out.ty (show GR tCop 2 V2 B A2 (v + (ny - (v + 1))) c2 (copVs (s.ys.take v ++ s.ys.drop (v + 1))) by rw [copVs_append]; exact d1.out.lower HW1.out) d2.out)))
    all_goals
      clear z6 f6 k0 k1 k2 k3 k4 k5 f5 k5a k5b
      go_wp2
      refine HQ.out _ _ rfl ⟨_, M7.out.1.side, HIv.out, ?_⟩
      exact M7.out.2.below (B1.out.trans (N1.out.mono HW1.out)) (fun k e => e.elim (fun h => M6.out.bases k (.inl h)) (fun h => Nat.le_trans HW1.out (e1.out.bs k h).1)) (Nat.le_trans HW1.out N1.out.size)
end Go.Proofs.Ytmkkhknbokfciaa
