/-
  What the law's act does where a copy is sent. No condition.
-/
import Derived.Test.YtmkkhknbokfciaaQactp
import Derived.Test.YtmkkhknbokfciaaQsdue
namespace Go.Proofs.Ytmkkhknbokfciaa
set_option maxRecDepth 20000
open Go.RowKit

set_option maxHeartbeats 8000000 in
theorem act7_1_any (G B : Nat) (bs : List (List UInt8)) (s : Sd) (nn : Int) (A0 : Option Addr) (n0 c0 : Nat) (w : World) (hs : Side G B s w) (hv : Inv7 bs s) (hB : B ≤ w.heap.size) (hbl : bs.length = n0) (hbs : Rws w B A0 bs) :
    Calls Try.prog 24 #[.pointer (some ⟨G, 0, none⟩), .agg #[.int .i64 1, .int .i64 nn], .slice A0 n0 c0] w (ActE G B bs w) := by
  obtain ⟨A, c, P, cp, T, ct, Y, cy, hm⟩ := hs
  obtain ⟨u, hu, hu2⟩ : ∃ u : Nat, bits .and .i64 nn 65535 = (u : Int) ∧ u < 65536 := ⟨(nn % 65536).toNat, by rw [i64_andQ]; omega, by omega⟩
  have ec := hu
  have HU := Lib.hid hu2
  clear hu hu2
  have HV := Lib.hid hv
  have HBw := Lib.hid hB
  have HL := Lib.hid hbl
  have HN := Lib.hid (show s.ls.length ≤ 48 ∧ s.ps.length ≤ 300 ∧ s.ps.length ≤ n0 ∧ s.ts.length ≤ 300 ∧ s.ys.length ≤ 500 ∧ s.b + s.ls.length = s.ps.length ∧ s.ts.length = s.g from ⟨hv.box, hv.small, by rw [← hbl]; exact hv.plen, by have := hv.got; have := hv.le; have := hv.small; omega, hv.wn, hv.base, hv.got⟩)
  have bq := qbox w (.cells #[.int .i64 1, .int .i64 nn] 58)
  have M1 := Lib.hid (hm.on bq)
  have hc1 := qnew w #[.int .i64 1, .int .i64 nn] 58
  have a0 : (w.alloc (.cells #[.int .i64 1, .int .i64 nn] 58)).cell? ⟨w.heap.size, 0, none⟩ = some (.int .i64 1) := (cell_plain hc1 0).trans rfl
  have a1 : (w.alloc (.cells #[.int .i64 1, .int .i64 nn] 58)).cell? ⟨w.heap.size, 1, none⟩ = some (.int .i64 nn) := (cell_plain hc1 1).trans rfl
  have B1 := Lib.hid (bq.mono hB)
  have I1 := Lib.hid (hbs.below B1.out)
  have HQ : Hid (∀ e w', e = .returned (.bool true) → (∃ s', Side G B s' w' ∧ Inv7 bs s' ∧ Below B w w') → ActE G B bs w e w') := Lib.hid (fun e w' h1 h2 => actE_of h1 h2)
  clear hm hv hB hbl hbs bq hc1
  generalize ActE G B bs w = Q0 at *
  generalize s.ls.length = n at *
  generalize s.ps.length = np at *
  generalize s.ts.length = nt at *
  generalize s.ys.length = ny at *
  go_enter Try.func24, Try.ntmps24
  have hW1 : B ≤ (w.alloc (.cells #[.int .i64 1, .int .i64 nn] 58)).heap.size := Nat.le_trans HBw.out B1.out.size
  have HW1 := Lib.hid hW1
  clear hW1
  generalize hW : w.alloc (.cells #[.int .i64 1, .int .i64 nn] 58) = W1 at *
  obtain ⟨k0, k1, k2, k3, k4, k5⟩ := M1.out.cell
  have HDu := Lib.hid (fun W (h : Side G B s W) => due7_any G B bs s W h HV.out)
  have HDe := Lib.hid (fun i (hi : i < dueS s.b s.ls) => HV.out.dueCop hi)
  have HD8 := Lib.hid (show dueS s.b s.ls ≤ 8 by rw [HV.out.due]; omega)
  generalize dueS s.b s.ls = d at *
  go_wp2_with fail
  refine (HDu.out W1 M1.out.side).mono ?_
  rintro e W2 ⟨D, cd, rfl, gd, b2⟩
  have M2 := Lib.hid (M1.out.on b2.out)
  have B2 := Lib.hid (B1.out.trans (b2.out.mono HW1.out))
  have HW2 := Lib.hid (Nat.le_trans HW1.out b2.out.size)
  clear k0 k1 k2 k3 k4 k5 b2 HDu a0 a1
  obtain ⟨k0, k1, k2, k3, k4, k5⟩ := M2.out.cell
  by_cases h0 : d = 0
  · have g1 : ¬ (0 : Int) < (d : Int) := by omega
    clear h0
    go_wp2
    exact HQ.out _ _ rfl ⟨s, M2.out.side, HV.out, B2.out⟩
  · by_cases h5 : ny < 500
    · have g1 : (0 : Int) < (d : Int) := by omega
      have g2 : (ny : Int) < 500 := by omega
      have g0 : ¬ (d : Int) = 0 := by omega
      have g0' : ¬ d = 0 := by omega
      have hd8 := HD8.out
      obtain ⟨v, hv, hvl⟩ : ∃ v : Nat, (u : Int).tmod (d : Int) = (v : Int) ∧ v < d := ⟨u % d, rem_nat u d, Nat.mod_lt _ (by omega)⟩
      have g3 : (v : Int) < (d : Int) := by omega
      obtain ⟨db, rfl, q0, q1, q2, q3⟩ := cop_pos gd.out hvl
      rw [dueC_get hvl] at q0 q1 q2 q3
      have HIv := Lib.hid (HV.out.send (HDe.out v hvl) (by rw [M2.out.ly]; exact h5))
      have HX : Hid (strV (bodK s.ls v) = .string ⟨(bodK s.ls v).toArray⟩) := Lib.hid rfl
      have HY5 := Lib.hid h5
      simp only at q0 q1 q2 q3
      rw [HX.out] at q1 q3
      generalize (⟨(bodK s.ls v).toArray⟩ : ByteArray) = tx at *
      generalize bodK s.ls v = l at *
      obtain ⟨q, hq⟩ : ∃ q, q = s.b + 1 + v := ⟨_, rfl⟩
      rw [← hq] at q0 q2 HIv
      clear h0 h5 hq HDe hd8
      go_wp2_with fail
      have f5 := M2.out.frozen 5
      have M5 := Lib.hid (M2.out.on (qbox W2 (.cells #[.int .u64 (q : Int), .string tx] 62)))
      have HNB := Lib.hid (show ∀ (j : Nat) (u : Value), [Value.int .u64 (q : Int), Value.string tx][j]? = some u → (W2.alloc (.cells #[.int .u64 (q : Int), .string tx] 62)).cell? ((⟨W2.heap.size, 0, none⟩ : Addr).add j) = some u from fun j u hu => by
        rw [add_mk, Nat.zero_add]
        rw [cell_plain (qnew W2 #[.int .u64 (q : Int), .string tx] 62) j]
        simpa using hu)
      have HOC := Lib.hid (show ∀ u ∈ [Value.int .u64 (q : Int), Value.string tx], u.oneCell' = true from fun u hu => by
        simp only [List.mem_cons, List.not_mem_nil, or_false] at hu
        rcases hu with rfl | rfl <;> rfl)
      have k5a := M5.out.cell.2.2.2.2.2
      go_region_law (refine step_appendG 53 62 _ 2 24 Try.underlying53 Try.infoCop7 rfl (by omega) (by omega) rfl (.tmp 90) (.tmp 98) rfl B Y ny cy (copVs s.ys) rfl (Nat.le_trans HW2.out (qbox W2 _).size) M5.out.way ⟨W2.heap.size, 0, none⟩ 1 1 [.int .u64 (q : Int), .string tx] rfl rfl HNB.out HOC.out (by have := HY5.out; omega) ?_; intro Y' cy' V6 e61 e62 e63; have X6 := (M5.out.grown M5.out.way.ty (by decide) (by decide) (by decide) e62.out.undrew).1; have z6 := (show V6.cell? ⟨G, 5, none⟩ = some (.slice Y ny cy) by simpa using cell_plain X6 5); have f6 := frozen_plain X6 5; have M7 := Lib.hid (M5.out.setWay (X := Y) (ys' := s.ys ++ [(q, l)]) M5.out.way.ty (show GR tCop 2 V6 B Y' (ny + 1) cy' (copVs (s.ys ++ [(q, l)])) by rw [copVs_append, show copVs [(q, l)] = [.int .u64 (q : Int), .string tx] from by rw [← HX.out]; rfl]; exact e61.out) e62.out.undrew))
      all_goals
        clear z6 f6 k0 k1 k2 k3 k4 k5 f5 k5a q0 q1 q2 q3
        go_wp2
        refine HQ.out _ _ rfl ⟨_, M7.out.1.side, HIv.out, ?_⟩
        exact M7.out.2.below (B2.out.trans ((qbox W2 _).mono HW2.out)) (fun k e => M5.out.bases k (e.elim .inl fun h => .inr (.inr (.inr h)))) (Nat.le_trans HW2.out (qbox W2 _).size)
    · have g1 : (0 : Int) < (d : Int) := by omega
      have g2 : ¬ (ny : Int) < 500 := by omega
      clear h0 h5
      go_wp2
      exact HQ.out _ _ rfl ⟨s, M2.out.side, HV.out, B2.out⟩
end Go.Proofs.Ytmkkhknbokfciaa
