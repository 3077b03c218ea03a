/-
  The walk of WindowTwice. No condition.
-/
import Derived.Test.YtmkkhknbokfciaaQawake
import Derived.Test.YtmkkhknbokfciaaQargs
import Derived.Test.YtmkkhknbokfciaaQlong
import Derived.Test.YtmkkhknbokfciaaQsame
namespace Go.Proofs.Ytmkkhknbokfciaa
set_option maxRecDepth 20000
open Go.RowKit

theorem take_twice (g s : Nat) : takeS (takeS g s) s = takeS g s ∧ decide (nextS (takeS g s) s) = false := by
  have h : ¬ nextS (takeS g s) s := by
    unfold takeS
    split
    · intro h; have := h.1; omega
    · assumption
  exact ⟨if_neg h, decide_eq_false h⟩
theorem ack_twice (b u : Nat) (ls : List (List UInt8)) : ¬ ackOk (ackB b ls u) (ackL b ls u) u := by
  by_cases h : ackOk b ls u
  · have h1 : ackB b ls u = u := if_pos h
    rw [h1]
    intro h2
    have := h2.1
    omega
  · have h1 : ackB b ls u = b := if_neg h
    have h2 : ackL b ls u = ls := if_neg h
    rw [h1, h2]
    exact h
theorem ackL_small {b u n : Nat} {ls : List (List UInt8)} (hn : ls.length = n) (hr : n ≤ 2000) (hb : ∀ k, k < n → (bodK ls k).length ≤ 1000000) : (ackL b ls u).length ≤ 2000 ∧ ∀ k, k < (ackL b ls u).length → (bodK (ackL b ls u) k).length ≤ 1000000 := by
  unfold ackL
  split
  · rw [List.length_drop]
    exact ⟨by omega, fun k hk => by rw [bodK_drop]; exact hb _ (by omega)⟩
  · exact ⟨by omega, fun k hk => hb k (by omega)⟩
set_option maxHeartbeats 8000000 in
theorem twice7_int (b : Nat) (A : Option Addr) (n c g u s : Nat) (ls : List (List UInt8)) (w : World) (hl : ls.length = n) (hi : Rws w w.heap.size A ls) (hc : n ≤ c) (hz : ∀ k, k < n → (bodK ls k).length ≤ maxLen) (hb : b < 18446744073709551616) (hg : g < 18446744073709551616) (hu : u < 18446744073709551616) (hs : s < 18446744073709551616) :
    Calls Try.prog 9 #[.agg #[.int .u64 (b : Int), .slice A n c], .agg #[.int .u64 (g : Int)], .int .u64 (u : Int), .int .u64 (s : Int)] w fun e w' => e = .returned (.bool true) ∧ Hid (Below w.heap.size w w') := by
  have P1 : Hid (SRow w.heap.size (b : Int) A n c (w.alloc (.cells #[.int .u64 (b : Int), .slice A n c] 25))) := Lib.hid (qnew w _ _)
  have b1 := qbox w (.cells #[.int .u64 (b : Int), .slice A n c] 25)
  have es : (w.alloc (.cells #[.int .u64 (b : Int), .slice A n c] 25)).heap.size = w.heap.size + 1 := by simp
  have R2 := Lib.hid (show RRow (w.alloc (.cells #[.int .u64 (b : Int), .slice A n c] 25)).heap.size (g : Int) ((w.alloc (.cells #[.int .u64 (b : Int), .slice A n c] 25)).alloc (.cells #[.int .u64 (g : Int)] 45)) from qnew _ _ _)
  rw [es] at R2
  have b2 := qbox (w.alloc (.cells #[.int .u64 (b : Int), .slice A n c] 25)) (.cells #[.int .u64 (g : Int)] 45)
  have P2 := Lib.hid (P1.out.below b2)
  have B2 := Lib.hid (qtr b1 b2)
  have I2 := Lib.hid ((hi.below B2.out).more B2.out.size)
  have HL := Lib.hid hl
  have HZ := Lib.hid hz
  have HC := Lib.hid hc
  have HT := Lib.hid (fun W => wtake_any g s W hg hs)
  have HG := Lib.hid (show takeS g s < 18446744073709551616 by unfold takeS; split <;> assumption)
  have HT2 := Lib.hid (fun W => wtake_any (takeS g s) s W HG.out hs)
  unfold WTakeE at HT HT2
  rw [(take_twice g s).1, (take_twice g s).2] at HT2
  generalize ((takeS g s : Nat) : Int) = t at *
  generalize decide (nextS g s) = ok at *
  have HB := Lib.hid (And.intro hb hu)
  clear P1 b1 b2 es hi hl hz hc hb hu hg hs
  go_enter Try.func9, Try.ntmps9
  obtain ⟨k1, k2⟩ := P2.out.box
  go_wp2_with fail
  clear k1 k2
  generalize (w.alloc (.cells #[.int .u64 (b : Int), .slice A n c] 25)).alloc (.cells #[.int .u64 (g : Int)] 45) = W2 at *
  refine (long7_any b A n c ls W2 HL.out I2.out (fun k hk => by have := HZ.out k hk; unfold maxLen at this; omega)).mono ?_
  rintro e W3 ⟨rfl, b3⟩
  have P3 := Lib.hid (P2.out.below b3.out)
  have R3 := Lib.hid (R2.out.below b3.out)
  have B3 := Lib.hid (qtr B2.out b3.out)
  have I3 := Lib.hid ((I2.out.below b3.out).more b3.out.size)
  clear P2 R2 B2 I2 b3
  by_cases hlg : longS ls
  · rw [decide_eq_true hlg]
    clear hlg
    go_wp2_with fail
    refine (awake7_any _).mono ?_
    rintro e W4 ⟨rfl, b4⟩
    have B4 := Lib.hid (qtr B3.out b4.out)
    go_wp2
    go_ret
    exact ⟨rfl, B4⟩
  · rw [decide_eq_false hlg]
    have hsm := small hlg
    rw [HL.out] at hsm
    have HS := Lib.hid hsm
    clear hlg hsm
    have k0 := R3.out.cell
    go_wp2_with fail
    clear k0
    refine (HT.out _).mono ?_
    rintro e W4 ⟨rfl, b4⟩
    have P4 := Lib.hid (P3.out.below b4.out)
    have B4 := Lib.hid (qtr B3.out b4.out)
    have I4 := Lib.hid ((I3.out.below b4.out).more b4.out.size)
    have T5 := Lib.hid (show RRow W4.heap.size t (W4.alloc (.cells #[.int .u64 t] 45)) from qnew W4 _ _)
    have b5 := qbox W4 (.cells #[.int .u64 t] 45)
    have P5 := Lib.hid (P4.out.below b5)
    have B5 := Lib.hid (qtr B4.out b5)
    have I5 := Lib.hid ((I4.out.below b5).more b5.size)
    clear P3 R3 B3 I3 b4 P4 B4 I4 b5
    have k0 := T5.out.cell
    go_wp2_with fail
    clear k0
    generalize W4.alloc (.cells #[.int .u64 t] 45) = W5 at *
    generalize W4.heap.size = tb at *
    refine (HT2.out _).mono ?_
    rintro e W6 ⟨rfl, b6⟩
    have P6 := Lib.hid (P5.out.below b6.out)
    have T6 := Lib.hid (T5.out.below b6.out)
    have B6 := Lib.hid (qtr B5.out b6.out)
    have I6 := Lib.hid ((I5.out.below b6.out).more b6.out.size)
    have D7 := Lib.hid (show RRow W6.heap.size t (W6.alloc (.cells #[.int .u64 t] 45)) from qnew W6 _ _)
    have b7 := qbox W6 (.cells #[.int .u64 t] 45)
    have P7 := Lib.hid (P6.out.below b7)
    have T7 := Lib.hid (T6.out.below b7)
    have B7 := Lib.hid (qtr B6.out b7)
    have I7 := Lib.hid ((I6.out.below b7).more b7.size)
    clear P5 T5 B5 I5 b6 P6 T6 B6 I6 b7
    obtain ⟨k1, k2⟩ := P7.out.box
    go_wp2_with fail
    clear k1 k2
    generalize W6.alloc (.cells #[.int .u64 t] 45) = W7 at *
    generalize W6.heap.size = db at *
    refine (ack_any b A n c u ls W7 HL.out I7.out HC.out HS.out.1 HS.out.2 HB.out.1 HB.out.2).mono ?_
    rintro e W8 ⟨A8, c8, rfl, o8, b8⟩
    have HN := Lib.hid (ack_twice b u ls)
    have HSm := Lib.hid (ackL_small (b := b) (u := u) HL.out HS.out.1 HS.out.2)
    have HB8 := Lib.hid (show ackB b ls u < 18446744073709551616 by unfold ackB; split; exact HB.out.2; exact HB.out.1)
    generalize ackB b ls u = b8n at *
    generalize ackL b ls u = ls8 at *
    generalize decide (ackOk b ls u) = ok8 at *
    generalize hm8 : ls8.length = m8 at *
    have HM8 := Lib.hid hm8
    clear hm8
    have T8 := Lib.hid (T7.out.below b8.out)
    have D8 := Lib.hid (D7.out.below b8.out)
    have B8 := Lib.hid (qtr B7.out b8.out)
    have S9 := Lib.hid (show SRow W8.heap.size b8n A8 m8 c8 (W8.alloc (.cells #[.int .u64 (b8n : Int), .slice A8 m8 c8] 25)) from qnew W8 _ _)
    have b9 := qbox W8 (.cells #[.int .u64 (b8n : Int), .slice A8 m8 c8] 25)
    have T9 := Lib.hid (T8.out.below b9)
    have D9 := Lib.hid (D8.out.below b9)
    have B9 := Lib.hid (qtr B8.out b9)
    have O9 := Lib.hid (o8.out.on b9)
    clear P7 T7 D7 B7 I7 o8 b8 T8 D8 B8 b9
    obtain ⟨k1, k2⟩ := S9.out.box
    go_wp2_with fail
    clear k1 k2
    generalize W8.alloc (.cells #[.int .u64 (b8n : Int), .slice A8 m8 c8] 25) = W9 at *
    generalize W8.heap.size = sb at *
    refine (ack_any b8n A8 m8 c8 u ls8 W9 HM8.out O9.out.rws O9.out.cap_le (by have := HSm.out.1; omega) (fun k hk => HSm.out.2 k hk) HB8.out HB.out.2).mono ?_
    rintro e W10 ⟨A10, c10, rfl, o10, b10⟩
    have e1 : ackB b8n ls8 u = b8n := if_neg HN.out
    have e2 : ackL b8n ls8 u = ls8 := if_neg HN.out
    rw [e1, e2, decide_eq_false HN.out, HM8.out]
    rw [e2, HM8.out] at o10
    clear e1 e2
    have T10 := Lib.hid (T9.out.below b10.out)
    have D10 := Lib.hid (D9.out.below b10.out)
    have S10 := Lib.hid (S9.out.below b10.out)
    have B10 := Lib.hid (qtr B9.out b10.out)
    have O10 := Lib.hid (O9.out.on b10.out)
    have S11 := Lib.hid (show SRow W10.heap.size b8n A10 m8 c10 (W10.alloc (.cells #[.int .u64 (b8n : Int), .slice A10 m8 c10] 25)) from qnew W10 _ _)
    have b11 := qbox W10 (.cells #[.int .u64 (b8n : Int), .slice A10 m8 c10] 25)
    have T11 := Lib.hid (T10.out.below b11)
    have D11 := Lib.hid (D10.out.below b11)
    have S11' := Lib.hid (S10.out.below b11)
    have B11 := Lib.hid (qtr B10.out b11)
    have O11 := Lib.hid (O10.out.on b11)
    have Q11 := Lib.hid (o10.out.on b11)
    clear T9 D9 S9 B9 O9 b10 o10 T10 D10 S10 B10 O10 b11
    obtain ⟨k1, k2⟩ := S11.out.box
    obtain ⟨j1, j2⟩ := S11'.out.box
    have kt := T11.out.cell
    have kd := D11.out.cell
    have q1 := eqr_run t t (W10.alloc (.cells #[.int .u64 (b8n : Int), .slice A10 m8 c10] 25))
    have q2 := fun op x y => guardr_run op x y t t (W10.alloc (.cells #[.int .u64 (b8n : Int), .slice A10 m8 c10] 25))
    rw [decide_eq_true rfl] at q1
    go_wp2_with fail
    generalize W10.alloc (.cells #[.int .u64 (b8n : Int), .slice A10 m8 c10] 25) = W11 at *
    clear k1 k2 j1 j2 kt kd q1 q2
    refine (same7_any b8n b8n A10 A8 m8 c10 m8 c8 ls8 ls8 W11 (by have := HSm.out.1; omega) HM8.out HM8.out Q11.out.rws O11.out.rws).mono ?_
    rintro e W12 ⟨rfl, b12⟩
    rw [decide_eq_true (show b8n = b8n ∧ ls8 = ls8 from ⟨rfl, rfl⟩)]
    have B12 := Lib.hid (qtr B11.out b12.out)
    clear b12
    go_wp2_with fail
    refine (awake7_any _).mono ?_
    rintro e W13 ⟨rfl, b13⟩
    have B13 := Lib.hid (qtr B12.out b13.out)
    clear b13
    go_wp2
    go_ret
    exact ⟨rfl, B13⟩
theorem twice7_walk (b : Nat) (A : Option Addr) (ls : List (List UInt8)) (c g u s : Nat) (W : World) (hb : b < 18446744073709551616) (hc : ls.length ≤ c) (hi : Rws W W.heap.size A ls) (hz : ∀ k, k < ls.length → (bodK ls k).length ≤ maxLen) (hg : g < 18446744073709551616) (hu : u < 18446744073709551616) (hs : s < 18446744073709551616) :
    Calls Try.prog 9 #[.agg #[.int .u64 (b : Int), .slice A ls.length c], .agg #[.int .u64 (g : Int)], .int .u64 (u : Int), .int .u64 (s : Int)] W fun e w' => e = .returned (.bool true) ∧ Hid (Below W.heap.size W w') :=
  twice7_int b A ls.length c g u s ls W rfl hi hc hz hb hg hu hs
end Go.Proofs.Ytmkkhknbokfciaa
