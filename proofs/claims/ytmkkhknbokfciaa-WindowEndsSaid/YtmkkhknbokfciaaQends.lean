/-
  The walk of WindowEnds. No condition.
-/
import Derived.Test.YtmkkhknbokfciaaQorder
import Derived.Test.YtmkkhknbokfciaaQsdue
import Derived.Lib.QuietBelow
namespace Go.Proofs.Ytmkkhknbokfciaa
set_option maxRecDepth 20000
open Go.RowKit

/-- Behind so many of what is due. -/
structure Came (bs : List (List UInt8)) (s s' : Sd) (i : Nat) : Prop where
  inv : Inv7 bs s'
  b : s'.b = s.b
  ls : s'.ls = s.ls
  ps : s'.ps = s.ps
  got : s.b + i ≤ s'.g
theorem Came.start {bs : List (List UInt8)} {s : Sd} (h : Inv7 bs s) : Came bs s s 0 := ⟨h, rfl, rfl, rfl, h.lb⟩
theorem Came.step {bs : List (List UInt8)} {s s' : Sd} {i : Nat} (h : Came bs s s' i) (hi : i < dueS s.b s.ls) : Came bs s (comeS s' (s.b + 1 + i, bodK s.ls i)) (i + 1) := by
  have hc := h.inv.dueCop (i := i) (by rw [h.b, h.ls]; exact hi)
  rw [h.b, h.ls] at hc
  have h1 := h.inv.small
  have h2 := hc.2.1
  have h3 := h.got
  simp only at h2
  refine ⟨h.inv.come hc, ?_, ?_, ?_, ?_⟩
  · unfold comeS; split <;> exact h.b
  · unfold comeS; split <;> exact h.ls
  · unfold comeS; split <;> exact h.ps
  · unfold comeS
    split
    · show s.b + (i + 1) ≤ s.b + 1 + i
      omega
    · rename_i hn
      have hn' : ¬ (s.b + 1 + i = s'.g + 1 ∧ s.b + 1 + i ≤ 34359738367) := hn
      omega
theorem Came.full {bs : List (List UInt8)} {s s' : Sd} (h : Came bs s s' (dueS s.b s.ls)) (hs : Inv7 bs s) : s'.g = s.b + dueS s.b s.ls := by
  have h1 := h.got
  have h2 := h.inv.ub
  have h3 := h.inv.le
  have h4 := hs.base
  have h5 := hs.due
  rw [h.b] at h2
  rw [h.ps] at h3
  omega
/-- What is told behind all that is due. -/
theorem Came.told {bs : List (List UInt8)} {s s' : Sd} (h : Came bs s s' (dueS s.b s.ls)) (hs : Inv7 bs s) (h0 : 0 < dueS s.b s.ls) : (ackL s'.b s'.ls s'.g).length = s.ls.length - dueS s.b s.ls ∧ Inv7 bs { s' with b := ackB s'.b s'.ls s'.g, ls := ackL s'.b s'.ls s'.g } := by
  have hg := h.full hs
  have ho : ackOk s'.b s'.ls s'.g := by rw [hg, h.b, h.ls]; exact ⟨by omega, Nat.le_refl _⟩
  refine ⟨?_, h.inv.ack (Nat.le_refl s'.g)⟩
  have e2 : ackL s'.b s'.ls s'.g = s'.ls.drop (s'.g - s'.b) := if_pos ho
  rw [e2, List.length_drop, hg, h.b, h.ls]
  omega
theorem Inv7.empty {bs : List (List UInt8)} {s : Sd} (h : Inv7 bs s) (h0 : s.ls.length = 0) : s.ts.length = s.ps.length := by
  have := h.base
  have := h.got
  have := h.le
  have := h.lb
  omega
theorem GR.cop {w w' : World} {base n cap : Nat} {A : Option Addr} {vs : List Value} (h : GR tCop 2 w base A n cap vs) (hk : CopKept w w') : GR tCop 2 w' base A n cap vs := by
  refine ⟨h.1, ?_⟩
  rcases h.2 with h1 | ⟨g, c, cur, hv, hg, hh, hrest⟩
  · exact .inl h1
  · exact .inr ⟨g, c, cur, hv, hg, hk g _ hh, hrest⟩
theorem Side.on {G B : Nat} {s : Sd} {W W' : World} (h : Side G B s W) (hb : Below W.heap.size W W') : Side G B s W' := by
  obtain ⟨A, c, P, cp, T, ct, Y, cy, hm⟩ := h
  exact ⟨A, c, P, cp, T, ct, Y, cy, hm.on hb⟩
theorem eighth (n : Nat) (h : n ≤ 300) : ∃ q : Nat, IntKind.i64.wrap ((n : Int) / 8) = (q : Int) ∧ (n : Int).tdiv 8 = (q : Int) ∧ IntKind.i64.wrap (q : Int) = (q : Int) ∧ IntKind.i64.wrap ((q : Int) + 1) = (q : Int) + 1 ∧ n < 8 * (q + 1) ∧ q ≤ 100 := by
  refine ⟨n / 8, ?_, ?_, ?_, ?_, by omega, by omega⟩
  · rw [IntKind.wrap_i64]; omega
  · rw [Int.tdiv_eq_ediv_of_nonneg (by omega)]; omega
  · rw [IntKind.wrap_i64]; omega
  · rw [IntKind.wrap_i64]; omega
set_option maxHeartbeats 8000000 in
theorem ends7_int (A : Option Addr) (n c : Nat) (ls : List (List UInt8)) (A1 : Option Addr) (m c1 : Nat) (aks : List (Int × Int)) (w : World) (hl : ls.length = n) (hm : aks.length = m) (hi : Rws w w.heap.size A ls) (ha : ActsIn w A1 aks) :
    Calls Try.prog 8 #[.slice A n c, .slice A1 m c1] w fun e w' => e = .returned (.bool true) ∧ Hid (Below w.heap.size w w') := by
  have HL := Lib.hid hl
  have HM := Lib.hid hm
  have I0 := Lib.hid hi
  have HA := Lib.hid ha
  clear hl hm hi ha
  go_enter Try.func8, Try.ntmps8
  go_wp2_with fail
  refine (fine7_any A n c ls A1 m c1 w HL.out I0.out).mono ?_
  rintro e W1 ⟨rfl, rfl⟩
  by_cases hf : fineP ls m
  · rw [decide_eq_true hf]
    have HF := Lib.hid hf
    clear hf
    have HS0 := Lib.hid (side_new W1).side
    have HI0 := Lib.hid (Inv7.init HF.out.1 (fineP_body HF.out))
    have HB0 := Lib.hid (qbox W1 (.cells #[.int .u64 0, .slice none 0 0, .int .u64 0, .slice none 0 0, .slice none 0 0, .slice none 0 0] 55))
    go_wp2_with fail
    generalize W1.alloc (.cells #[.int .u64 0, .slice none 0 0, .int .u64 0, .slice none 0 0, .slice none 0 0, .slice none 0 0] 55) = W2 at *
    go_loopw [6] (fun i wr => ∃ k, k ≤ m ∧ i = .int .i64 (k : Nat) ∧ ∃ s, Hid (Side W1.heap.size W1.heap.size s wr) ∧ Hid (Inv7 ls s) ∧ Hid (Below W1.heap.size W1 wr)) (fun i _ => m - (intOf i).toNat)
    case atStart => exact ⟨0, Nat.zero_le _, rfl, _, HS0, HI0, HB0⟩
    case round =>
      obtain ⟨k, hk, rfl, s, HS, HI, HB⟩ := hrel
      by_cases hlt : k < m
      · have g5 : (k : Int) < (m : Int) := by omega
        obtain ⟨ab, ao, dd, nn, rfl, hcs⟩ := acts_pos HA.out (k := k) (by rw [HM.out]; exact hlt)
        obtain ⟨x0, x1⟩ := hcs wr HB.out
        have HK := Lib.hid (show m ≤ 2000 from HF.out.2.1)
        clear hcs
        go_wp2_with fail
        clear x0 x1
        refine (act7_any W1.heap.size W1.heap.size ls s dd nn A n c wr HS.out HI.out HB.out.size HL.out (I0.out.below HB.out)).mono ?_
        rintro e W3 ⟨rfl, s2, HS2, HI2, HB2⟩
        have B3 := Lib.hid (HB.out.trans HB2.out)
        have hk3 : k ≤ 2000 := by have := HK.out; omega
        go_wp2
        go_roundw
        case rel => exact ⟨k + 1, by omega, by go_num, s2, HS2, HI2, B3⟩
        case measure => simp [intOf]; omega
      · obtain rfl : k = m := by omega
        have g5 : ¬ (k : Int) < (k : Int) := by omega
        go_wp2_with fail
        clear g5 hlt
        have HWr := Lib.hid (show Hid (Side W1.heap.size W1.heap.size s wr) ∧ Hid (Inv7 ls s) ∧ Hid (Below W1.heap.size W1 wr) from ⟨HS, HI, HB⟩)
        clear HS HI HB
        rename World => w0
        obtain ⟨q, e1, e1', e2, e3, hq, hq2⟩ := eighth n (by have := HF.out.1; rw [HL.out] at this; exact this)
        have HQ := Lib.hid (And.intro hq hq2)
        clear hq hq2
        go_loopw [7] (fun i wr => ∃ r, r ≤ q + 2 ∧ i = .int .i64 (r : Nat) ∧ ∃ s, Hid (Side W1.heap.size W1.heap.size s wr) ∧ Hid (Inv7 ls s) ∧ Hid (s.ls.length ≤ n - 8 * r) ∧ Hid (Below W1.heap.size W1 wr)) (fun i _ => q + 2 - (intOf i).toNat)
        case atStart => exact ⟨0, Nat.zero_le _, rfl, s, HWr.out.1, HWr.out.2.1, Lib.hid (by have h1 := HWr.out.2.1.out.base; have h2 := HWr.out.2.1.out.plen; have h3 := HL.out; omega), HWr.out.2.2⟩
        case round =>
          clear HWr HS0 HI0 HB0
          obtain ⟨r, hr, rfl, s, HS, HI, HN, HB⟩ := hrel
          by_cases hlt : r ≤ q + 1
          · have g5 : (r : Int) ≤ (q : Int) + 1 := by omega
            go_wp2_with fail
            clear g5
            refine (due7_any W1.heap.size W1.heap.size ls s wr HS.out HI.out).mono ?_
            rintro e W3 ⟨D, cd, rfl, gd, b3⟩
            have S3 := Lib.hid (HS.out.on b3.out)
            have B3 := Lib.hid (HB.out.trans (b3.out.mono HB.out.size))
            have G3 := Lib.hid (gd.out.lower HB.out.size)
            obtain ⟨A', c', P, cp, T, ct, Y, cy, hM⟩ := S3.out
            have M3 := Lib.hid hM
            have HD := Lib.hid HI.out.due
            have HTo := Lib.hid (fun s' (h : Came ls s s' (dueS s.b s.ls)) h0 => h.told HI.out h0)
            have HSt := Lib.hid (fun s' i (h : Came ls s s' i) (hi : i < dueS s.b s.ls) => h.step hi)
            clear hM gd b3 HS HB
            generalize hd : dueS s.b s.ls = d at *
            generalize hx : s.ls.length = x at *
            have HX0 := Lib.hid hx
            have e4 : min (x : Int) 8 = (d : Int) := by have := HD.out; omega
            obtain ⟨k0, k1, k2, k3, k4, k5⟩ := M3.out.cell
            clear hd hx
            go_wp2_with fail
            clear k0 k1 k2 k3 k4 k5 e4 M3
            go_loopw [9] (fun i wr => ∃ j, j ≤ d ∧ i = .int .i64 (j : Nat) ∧ ∃ s', Hid (Side W1.heap.size W1.heap.size s' wr) ∧ Hid (Came ls s s' j) ∧ Hid (GR tCop 2 wr W1.heap.size D d cd (copVs (dueC s.b s.ls d))) ∧ Hid (Below W1.heap.size W1 wr)) (fun i _ => d - (intOf i).toNat)
            case atStart => exact ⟨0, Nat.zero_le _, rfl, s, S3, Lib.hid (Came.start HI.out), G3, B3⟩
            case round =>
              clear S3 G3 B3
              obtain ⟨j, hj, rfl, s', HS2, HC2, HG2, HB2⟩ := hrel
              by_cases hlt2 : j < d
              · have g6 : (j : Int) < (d : Int) := by omega
                have hd8 : d ≤ 8 := by have := HD.out; omega
                obtain ⟨db, rfl, q0, q1, q2, q3⟩ := cop_pos HG2.out hlt2
                rw [dueC_get hlt2] at q0 q1 q2 q3
                simp only at q0 q1 q2 q3
                have HSx := Lib.hid (HSt.out s' j HC2.out hlt2)
                have HCm := Lib.hid (fun W (h : Side W1.heap.size W1.heap.size s' W) (h2 : W1.heap.size ≤ W.heap.size) => come7_any W1.heap.size W1.heap.size s' (s.b + 1 + j) (bodK s.ls j) W h h2 (by have := HI.out.base; have := HI.out.small; have := HD.out; have := HX0.out; omega) (by have := HC2.out.inv.le; have := HC2.out.inv.small; omega) (by have := HC2.out.inv.le; have := HC2.out.inv.got; have := HC2.out.inv.small; omega))
                have HX : Hid (strV (bodK s.ls j) = .string ⟨(bodK s.ls j).toArray⟩) := Lib.hid rfl
                rw [HX.out] at q1 q3 HCm
                generalize (⟨(bodK s.ls j).toArray⟩ : ByteArray) = tx at *
                generalize s.b + 1 + j = qn at *
                go_wp2_with fail
                clear q0 q1 q2 q3 g6
                refine (HCm.out wr HS2.out HB2.out.size).mono ?_
                rintro e W4 ⟨rfl, s4, b4, ck4⟩
                have G4 := Lib.hid (HG2.out.cop ck4.out)
                have B4 := Lib.hid (HB2.out.trans b4.out)
                clear b4 ck4
                go_wp2
                go_roundw
                case rel => exact ⟨j + 1, by omega, by go_num, _, s4, HSx, G4, B4⟩
                case measure => simp [intOf]; omega
              · obtain rfl : j = d := by omega
                have g6 : ¬ (j : Int) < (j : Int) := by omega
                obtain ⟨A5, c5, P5, cp5, T5, ct5, Y5, cy5, hM5⟩ := HS2.out
                rw [HC2.out.ls, HX0.out] at hM5
                obtain ⟨y, e5, hy⟩ : ∃ y : Nat, IntKind.i64.wrap ((x : Int) - (j : Int)) = (y : Int) ∧ y = x - j := ⟨x - j, by rw [IntKind.wrap_i64]; have := HD.out; have := HI.out.box; have := HX0.out; omega, rfl⟩
                have HY := Lib.hid hy
                have M5 := Lib.hid hM5
                clear hM5 hy HS2 HG2 HSt hlt2 hj
                obtain ⟨k0, k1, k2, k3, k4, k5⟩ := M5.out.cell
                by_cases h0 : j = 0
                · have g7 : ¬ (0 : Int) < (j : Int) := by omega
                  have hxy : x = y := by have := HY.out; omega
                  subst hxy
                  have HX1 := Lib.hid (show x = 0 by have := HD.out; omega)
                  clear h0
                  go_wp2_with fail
                  clear k0 k1 k2 k3 k4 k5 e5 g6 g7
                  refine (right7_any W1.heap.size W1.heap.size ls s' wr M5.out.side HC2.out.inv).mono ?_
                  rintro e W6 ⟨rfl, b6⟩
                  have S6 := Lib.hid (M5.out.on b6.out).side
                  have B6 := Lib.hid (HB2.out.trans (b6.out.mono HB2.out.size))
                  have N6 := Lib.hid (show s'.ls.length ≤ n - 8 * (r + 1) by rw [HC2.out.ls, HX0.out, HX1.out]; exact Nat.zero_le _)
                  have I6 := Lib.hid HC2.out.inv
                  have hr3 : r ≤ 101 := by have := HQ.out.2; omega
                  go_wp2
                  go_roundw
                  case rel => exact ⟨r + 1, by omega, by go_num, s', S6, I6, N6, B6⟩
                  case measure => simp [intOf]; omega
                · have g7 : (0 : Int) < (j : Int) := by omega
                  have HI5 := Lib.hid (HTo.out s' HC2.out (by omega))
                  have HA5 := Lib.hid (fun W (hi : Rws W W.heap.size A5 s'.ls) => ack4_any s'.b A5 x c5 s'.g s'.ls W HC2.out.inv.may (by rw [HC2.out.ls]; exact HX0.out) hi M5.out.own.cap_le (by have := HC2.out.inv.base; have := HC2.out.inv.small; omega) (by have := HC2.out.inv.le; have := HC2.out.inv.small; omega))
                  unfold AckE at HA5
                  generalize ackB s'.b s'.ls s'.g = b2 at *
                  generalize ackL s'.b s'.ls s'.g = l2 at *
                  generalize decide (ackOk s'.b s'.ls s'.g) = ok at *
                  have hl2 : l2.length = y := by rw [HI5.out.1]; exact HY.out.symm
                  rw [hl2] at HA5
                  have N6 := Lib.hid (show ({ s' with b := b2, ls := l2 } : Sd).ls.length ≤ n - 8 * (r + 1) by
                    show l2.length ≤ _
                    have := HN.out
                    have := HD.out
                    have := HX0.out
                    have := HY.out
                    omega)
                  have HRw := Lib.hid (show Rws wr.drew wr.drew.heap.size A5 s'.ls from M5.out.own.rws)
                  clear hl2 h0
                  go_wp2_with fail
                  go_region_law (refine step_free rfl ?_; unfold Oper.wp; simp only [execOp]; go_simp; go_at_call 19; refine (HA5.out wr.drew HRw.out).mono ?_; rintro e V1 ⟨A6, c6, rfl, o4, b4⟩; have M2 := Lib.hid (M5.out.on (undrew (w := wr) b4.out)); have z0 := M2.out.cell.1; have z1 := M2.out.cell.2.1; have f0 := M2.out.frozen 0; have f1 := M2.out.frozen 1; have O2 := Lib.hid (o4.out.lower (show W1.heap.size ≤ wr.drew.heap.size from HB2.out.size)); have B2 := Lib.hid (HB2.out.trans ((undrew (w := wr) b4.out).mono HB2.out.size)); have HW2 := Lib.hid (Nat.le_trans HB2.out.size (undrew (w := wr) b4.out).size); clear o4 b4)
                  all_goals
                    have M3 := Lib.hid (M2.out.setSender b2 O2.out)
                    have B3 := Lib.hid ((only_two V1 W1.heap.size (.int .u64 (b2 : Int)) (.slice A6 y c6)).below B2.out (fun k e => by rw [e]; exact Nat.le_refl _) HW2.out)
                    clear z0 z1 f0 f1 k0 k1 k2 k3 k4 k5
                    generalize (V1.setCell ⟨W1.heap.size, 0, none⟩ (.int .u64 (b2 : Int))).setCell ⟨W1.heap.size, 1, none⟩ (.slice A6 y c6) = W5 at *
                    obtain ⟨k0, k1, k2, k3, k4, k5⟩ := M3.out.cell
                    go_wp2_with fail
                    clear k0 k1 k2 k3 k4 k5 e5 g6 g7
                    refine (right7_any W1.heap.size W1.heap.size ls _ W5 M3.out.side HI5.out.2).mono ?_
                    rintro e W6 ⟨rfl, b6⟩
                    have S6 := Lib.hid (M3.out.on b6.out).side
                    have B6 := Lib.hid (B3.out.trans (b6.out.mono B3.out.size))
                    have I6 := Lib.hid HI5.out.2
                    have hr3 : r ≤ 101 := by have := HQ.out.2; omega
                    go_wp2
                    go_roundw
                    case rel => exact ⟨r + 1, by omega, by go_num, _, S6, I6, N6, B6⟩
                    case measure => simp [intOf]; omega
          · obtain rfl : r = q + 2 := by omega
            have g5 : ¬ ((q + 2 : Nat) : Int) ≤ (q : Int) + 1 := by omega
            have hz : s.ls.length = 0 := by have := HN.out; have := HQ.out; omega
            have hts := HI.out.empty hz
            obtain ⟨A5, c5, P5, cp5, T5, ct5, Y5, cy5, hM5⟩ := HS.out
            rw [hz, hts] at hM5
            have M5 := Lib.hid hM5
            clear hM5 hz hts HS
            obtain ⟨k0, k1, k2, k3, k4, k5⟩ := M5.out.cell
            generalize s.ps.length = np at *
            have mixed : Try.prog.follows .mixedOrders = true := by kernel_rfl
            have q0 := fun d os => cell_regrown (d := d) (os := os) k0
            have q1 := fun d os => cell_regrown (d := d) (os := os) k1
            have q3 := fun d os => cell_regrown (d := d) (os := os) k3
            have q4 := fun d os => cell_regrown (d := d) (os := os) k4
            have HAw := Lib.hid (fun W => awake7_any W)
            have enp : ((np : Int) == (np : Int)) = true := by simp
            go_wp2_with fail
            refine wp_region_quiet_below mixed (by kernel_rfl) ?_
            repeat (quiet_step ((go_at_call 11; refine Calls.regrown_of (HAw.out _))))
            refine wpQuiet_nil ?_
            intro _ hw'
            obtain ⟨⟨nq, osq⟩, hw''⟩ := hw'
            subst hw''
            go_wp2
            go_ret
            exact ⟨rfl, Lib.hid (HB.out.trans ((below_regrown _ _ _).mono HB.out.size))⟩
  · rw [decide_eq_false hf]
    clear hf
    go_wp2_with fail
    refine (awake7_any _).mono ?_
    rintro e W4 ⟨rfl, b4⟩
    go_wp2
    go_ret
    exact ⟨rfl, b4⟩
theorem ends7_walk (A : Option Addr) (ls : List (List UInt8)) (c : Nat) (A1 : Option Addr) (aks : List (Int × Int)) (c1 : Nat) (W : World) (_h1 : ls.length ≤ maxLen) (_h2 : ls.length ≤ c) (hi : Rws W W.heap.size A ls) (_h3 : ∀ k, k < ls.length → (bodK ls k).length ≤ maxLen) (_h4 : aks.length ≤ maxLen) (ha : ActsIn W A1 aks) (_h5 : ∀ a ∈ aks, I64q a.1 ∧ I64q a.2) :
    Calls Try.prog 8 #[.slice A ls.length c, .slice A1 aks.length c1] W fun e w' => e = .returned (.bool true) ∧ Hid (Below W.heap.size W w') :=
  ends7_int A ls.length c ls A1 aks.length c1 aks W rfl rfl hi ha
end Go.Proofs.Ytmkkhknbokfciaa
