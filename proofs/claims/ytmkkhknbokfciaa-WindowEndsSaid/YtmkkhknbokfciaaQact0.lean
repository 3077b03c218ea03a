/-
  What the law's act does where a body is pushed. No condition.
-/
import Derived.Test.YtmkkhknbokfciaaQactp
import Derived.Test.YtmkkhknbokfciaaQpush
import Derived.Test.YtmkkhknbokfciaaQawake
namespace Go.Proofs.Ytmkkhknbokfciaa
set_option maxRecDepth 20000
open Go.RowKit

theorem pushed4 {w : World} {l : List UInt8} {ls : List (List UInt8)} {b : Nat} {e : Ending} {w' : World} (h : PushE w b ls l e w') (h0 : pushErr b ls l = 4) : ∃ A' c', e = .returned (.tuple #[.agg #[.int .u64 0, .slice A' 0 c'], .int .i64 4]) ∧ Hid (Below w.heap.size w w') := by
  obtain ⟨A', c', rfl, ho, hb⟩ := h
  have h1 : pushB b ls l = 0 := if_neg (by omega)
  have h2 : pushL b ls l = [] := if_neg (by omega)
  rw [h1, h2, h0]
  exact ⟨A', c', rfl, hb⟩
set_option maxHeartbeats 8000000 in
theorem act7_0_any (G B : Nat) (bs : List (List UInt8)) (s : Sd) (nn : Int) (A0 : Option Addr) (n0 c0 : Nat) (w : World) (hs : Side G B s w) (hv : Inv7 bs s) (hB : B ≤ w.heap.size) (hbl : bs.length = n0) (hbs : Rws w B A0 bs) :
    Calls Try.prog 24 #[.pointer (some ⟨G, 0, none⟩), .agg #[.int .i64 0, .int .i64 nn], .slice A0 n0 c0] w (ActE G B bs w) := by
  obtain ⟨A, c, P, cp, T, ct, Y, cy, hm⟩ := hs
  obtain ⟨u, hu, hu2⟩ : ∃ u : Nat, bits .and .i64 nn 65535 = (u : Int) ∧ u < 65536 := ⟨(nn % 65536).toNat, by rw [i64_andQ]; omega, by omega⟩
  have ec := hu
  have HU := Lib.hid hu2
  clear hu hu2
  have HV := Lib.hid hv
  have HBw := Lib.hid hB
  have HL := Lib.hid hbl
  have HN := Lib.hid (show s.ls.length ≤ 48 ∧ s.ps.length ≤ 300 ∧ s.ps.length ≤ n0 ∧ s.ts.length ≤ 300 ∧ s.ys.length ≤ 500 ∧ s.b + s.ls.length = s.ps.length ∧ s.ts.length = s.g from ⟨hv.box, hv.small, by rw [← hbl]; exact hv.plen, by have := hv.got; have := hv.le; have := hv.small; omega, hv.wn, hv.base, hv.got⟩)
  have bq := qbox w (.cells #[.int .i64 0, .int .i64 nn] 58)
  have M1 := Lib.hid (hm.on bq)
  have hc1 := qnew w #[.int .i64 0, .int .i64 nn] 58
  have a0 : (w.alloc (.cells #[.int .i64 0, .int .i64 nn] 58)).cell? ⟨w.heap.size, 0, none⟩ = some (.int .i64 0) := (cell_plain hc1 0).trans rfl
  have a1 : (w.alloc (.cells #[.int .i64 0, .int .i64 nn] 58)).cell? ⟨w.heap.size, 1, none⟩ = some (.int .i64 nn) := (cell_plain hc1 1).trans rfl
  have B1 := Lib.hid (bq.mono hB)
  have I1 := Lib.hid (hbs.below B1.out)
  have HQ : Hid (∀ e w', e = .returned (.bool true) → (∃ s', Side G B s' w' ∧ Inv7 bs s' ∧ Below B w w') → ActE G B bs w e w') := Lib.hid (fun e w' h1 h2 => actE_of h1 h2)
  clear hm hv hB hbl hbs bq hc1
  generalize ActE G B bs w = Q0 at *
  generalize s.ls.length = n at *
  generalize s.ps.length = np at *
  generalize s.ts.length = nt at *
  generalize s.ys.length = ny at *
  go_enter Try.func24, Try.ntmps24
  have hW1 : B ≤ (w.alloc (.cells #[.int .i64 0, .int .i64 nn] 58)).heap.size := Nat.le_trans HBw.out B1.out.size
  have HW1 := Lib.hid hW1
  clear hW1
  generalize hW : w.alloc (.cells #[.int .i64 0, .int .i64 nn] 58) = W1 at *
  obtain ⟨k0, k1, k2, k3, k4, k5⟩ := M1.out.cell
  by_cases hfull : np = n0
  · have q1 : ((np : Int) == (n0 : Int)) = true := by rw [beq_iff_eq]; omega
    clear hfull
    go_wp2
    exact HQ.out _ _ rfl ⟨s, M1.out.side, HV.out, B1.out⟩
  · have hnn := HN.out
    have q1 : ((np : Int) == (n0 : Int)) = false := by rw [beq_eq_false_iff_ne]; omega
    have g1 : (np : Int) < (n0 : Int) := by omega
    have hplt : np < bs.length := by rw [HL.out]; omega
    obtain ⟨bb, off, rfl, hbl, hc⟩ := I1.out (by omega)
    obtain ⟨A', c', hcell, hn', hby⟩ := hc np hplt
    have hbd := HV.out.body _ (bodK_mem hplt)
    have HPl := Lib.hid (show s.ps.length < bs.length by have := M1.out.lp; omega)
    have HLp := Lib.hid M1.out.lp
    have HLn := Lib.hid M1.out.ln
    have HBl := Lib.hid (show bodK bs np = bodK bs s.ps.length by rw [M1.out.lp])
    generalize bodK bs np = l at *
    have HI : Hid (s.ls.length < 48 → Inv7 bs { s with ls := s.ls ++ [l], ps := s.ps ++ [l] }) := Lib.hid (fun h => by rw [HBl.out]; exact HV.out.push HPl.out h)
    have hm2 := hbd.2
    have HBd := Lib.hid hbd
    generalize hml : l.length = m at *
    have HN' := Lib.hid hn'
    have HBz := Lib.hid hby
    have HBy := Lib.hid (hby.more HW1.out)
    have Hml := Lib.hid hml
    have HMay := Lib.hid HV.out.may
    clear hbl hc hn' hby hbd hml hplt hfull hnn
    go_wp2_with fail
    refine (push_any s.b A n c s.ls A' m c' l W1 HLn.out M1.out.own.rws Hml.out HBy.out HN'.out (by omega)).mono ?_
    rintro e W2 hp
    have hpe : pushErr s.b s.ls l = if n = 48 then 4 else 0 := by
      unfold pushErr
      rw [if_neg (not_not_intro HMay.out), if_neg (not_not_intro (by have := HBd.out; have := Hml.out; unfold bodyS; omega)), HLn.out]
      have := HN.out
      by_cases h : n = 48
      · rw [if_pos (.inl h), if_pos h]
      · rw [if_neg (by omega), if_neg h]
    by_cases h48 : n = 48
    · rw [if_pos h48] at hpe
      obtain ⟨A2, c2, rfl, b2⟩ := pushed4 hp hpe
      subst h48
      have M2 := Lib.hid (M1.out.on b2.out)
      have bq2 := qbox W2 (.cells #[.int .u64 0, .slice A2 0 c2] 25)
      have M3 := Lib.hid (M2.out.on bq2)
      have B3 := Lib.hid (B1.out.trans ((qtr b2.out bq2).mono HW1.out))
      clear k0 k1 k2 k3 k4 k5 bq2 hp hpe
      obtain ⟨k0, k1, k2, k3, k4, k5⟩ := M3.out.cell
      go_wp2
      exact HQ.out _ _ rfl ⟨s, M3.out.side, HV.out, B3.out⟩
    · rw [if_neg h48] at hpe
      obtain ⟨A2, c2, rfl, o2, b2⟩ := pushed0 (ms := s.ls ++ [l]) (n := n + 1) hp hpe rfl (by rw [List.length_append, HLn.out]; rfl)
      have bq2 := qbox W2 (.cells #[.int .u64 (s.b : Int), .slice A2 (n + 1) c2] 25)
      have M3 := Lib.hid ((M1.out.on b2.out).on bq2)
      have B3 := Lib.hid (B1.out.trans ((qtr b2.out bq2).mono HW1.out))
      have O3 := Lib.hid ((o2.out.lower HW1.out).on bq2)
      have S3 := Lib.hid (show SRow W2.heap.size (s.b : Int) A2 (n + 1) c2 (W2.alloc (.cells #[.int .u64 (s.b : Int), .slice A2 (n + 1) c2] 25)) from qnew W2 _ _)
      have HI2 := Lib.hid (HI.out (by rw [HLn.out]; have := HN.out; omega))
      have Y3 := Lib.hid ((HBz.out.below (b2.out.mono HW1.out)).below (bq2.mono (Nat.le_trans HW1.out b2.out.size)))
      have HSz3 := Lib.hid (show B ≤ (W2.alloc (.cells #[.int .u64 (s.b : Int), .slice A2 (n + 1) c2] 25)).heap.size from Nat.le_trans (Nat.le_trans HW1.out b2.out.size) bq2.size)
      clear k0 k1 k2 k3 k4 k5 bq2 hp hpe b2 o2 hcell
      obtain ⟨k0, k1, k2, k3, k4, k5⟩ := M3.out.cell
      obtain ⟨z0, z1⟩ := S3.out.box
      have f0 := M3.out.frozen 0
      have f1 := M3.out.frozen 1
      have M4 := Lib.hid (M3.out.setSender s.b O3.out)
      have O4 := Lib.hid (only_two (W2.alloc (.cells #[.int .u64 (s.b : Int), .slice A2 (n + 1) c2] 25)) G (.int .u64 (s.b : Int)) (.slice A2 (n + 1) c2))
      have B4 := Lib.hid (O4.out.below B3.out (fun k e => by rw [e]; exact M3.out.hG) HSz3.out)
      have Y4 := Lib.hid ((Y3.out.setCell (p := ⟨G, 0, none⟩) M3.out.hG (.int .u64 (s.b : Int))).setCell (p := ⟨G, 1, none⟩) M3.out.hG (.slice A2 (n + 1) c2))
      have HB4 := Lib.hid (Nat.le_trans HSz3.out O4.out.size)
      go_wp2_with fail
      clear k0 k1 k2 k3 k4 k5 z0 z1 f0 f1
      generalize ((W2.alloc (.cells #[.int .u64 (s.b : Int), .slice A2 (n + 1) c2] 25)).setCell ⟨G, 0, none⟩ (.int .u64 (s.b : Int))).setCell ⟨G, 1, none⟩ (.slice A2 (n + 1) c2) = W4 at *
      obtain ⟨k0, k1, k2, k3, k4, k5⟩ := M4.out.cell
      have f3 := M4.out.frozen 3
      have cs := conv_str (w := W4.drew) c' (Y4.out.drew) Hml.out
      have HX : Hid (strV l = .string ⟨l.toArray⟩) := Lib.hid rfl
      generalize (⟨l.toArray⟩ : ByteArray) = tx at *
      have M5 := Lib.hid (M4.out.on (qbox W4 (.cells #[.string tx] 9)))
      have hnb := fun (j : Nat) (u : Value) (hu : [Value.string tx][j]? = some u) => (show (W4.alloc (.cells #[.string tx] 9)).cell? ((⟨W4.heap.size, 0, none⟩ : Addr).add j) = some u by
        have hj : j = 0 := by have := (List.getElem?_eq_some_iff.1 hu).1; simpa using this
        subst hj
        exact ((cell_of_row _ _ 0 _ _ (0, 0) (qnew W4 #[.string tx] 9)).trans rfl).trans hu)
      have HNB := Lib.hid hnb
      clear hnb
      have HOC := Lib.hid (show ∀ u ∈ [Value.string tx], u.oneCell' = true from fun u hu => by
        obtain rfl : u = .string tx := by simpa using hu
        rfl)
      have k3a := M5.out.cell.2.2.2.1
      go_region_law (refine step_appendG 52 9 _ 1 16 Try.underlying52 Try.infoStr7 rfl (by omega) (by omega) rfl (.tmp 64) (.tmp 67) rfl B P np cp (s.ps.map strV) rfl (Nat.le_trans HB4.out (qbox W4 _).size) M5.out.pushed ⟨W4.heap.size, 0, none⟩ 1 1 [.string tx] rfl rfl HNB.out HOC.out (by have := HN.out; omega) ?_; intro P' cp' V6 e61 e62 e63; have X6 := (M5.out.grown M5.out.pushed.ty (by decide) (by decide) (by decide) e62.out.undrew).1; have z6 := (show V6.cell? ⟨G, 3, none⟩ = some (.slice P np cp) by simpa using cell_plain X6 3); have f6 := frozen_plain X6 3; have M7 := Lib.hid (M5.out.setPushed (l := l) (show GR tStr 1 V6 B P' (np + 1) cp' (s.ps.map strV ++ [strV l]) by rw [HX.out]; exact e61.out) e62.out.undrew e63.out))
      all_goals
        clear z6 f6 k0 k1 k2 k3 k4 k5 cs f3 k3a
        go_wp2
        refine HQ.out _ _ rfl ⟨_, M7.out.1.side, HI2.out, ?_⟩
        exact M7.out.2.below (B4.out.trans ((qbox W4 _).mono HB4.out)) (fun k e => M5.out.bases k (e.elim .inl fun h => .inr (.inl h))) (Nat.le_trans HB4.out (qbox W4 _).size)
end Go.Proofs.Ytmkkhknbokfciaa
