/-
  The walk of WindowAcks. No condition.
-/
import Derived.Test.YtmkkhknbokfciaaQawake
import Derived.Test.YtmkkhknbokfciaaQargs
import Derived.Test.YtmkkhknbokfciaaQlong
import Derived.Test.YtmkkhknbokfciaaQsame
import Derived.Test.YtmkkhknbokfciaaQspoil
import Derived.Test.YtmkkhknbokfciaaQrack
import Derived.Test.YtmkkhknbokfciaaQtwice
namespace Go.Proofs.Ytmkkhknbokfciaa
set_option maxRecDepth 20000
open Go.RowKit

set_option maxHeartbeats 8000000 in
theorem acks7_int (b : Nat) (A : Option Addr) (n c u : Nat) (ls : List (List UInt8)) (w : World) (hl : ls.length = n) (hi : Rws w w.heap.size A ls) (hc : n ≤ c) (hz : ∀ k, k < n → (bodK ls k).length ≤ maxLen) (hb : b < 18446744073709551616) (hu : u < 18446744073709551616) :
    Calls Try.prog 5 #[.agg #[.int .u64 (b : Int), .slice A n c], .int .u64 (u : Int)] w fun e w' => e = .returned (.bool true) ∧ Hid (Below w.heap.size w w') := by
  have P1 : Hid (SRow w.heap.size (b : Int) A n c (w.alloc (.cells #[.int .u64 (b : Int), .slice A n c] 25))) := Lib.hid (qnew w _ _)
  have B1 := Lib.hid (qbox w (.cells #[.int .u64 (b : Int), .slice A n c] 25))
  have I1 := Lib.hid ((hi.below B1.out).more B1.out.size)
  have HL := Lib.hid hl
  have HZ := Lib.hid hz
  have HC := Lib.hid hc
  have HB := Lib.hid (And.intro hb hu)
  clear hi hl hz hc hb hu
  go_enter Try.func5, Try.ntmps5
  obtain ⟨k1, k2⟩ := P1.out.box
  go_wp2_with fail
  clear k1 k2
  generalize w.alloc (.cells #[.int .u64 (b : Int), .slice A n c] 25) = W2 at *
  refine (long7_any b A n c ls W2 HL.out I1.out (fun k hk => by have := HZ.out k hk; unfold maxLen at this; omega)).mono ?_
  rintro e W3 ⟨rfl, b3⟩
  have P3 := Lib.hid (P1.out.below b3.out)
  have B3 := Lib.hid (qtr B1.out b3.out)
  have I3 := Lib.hid ((I1.out.below b3.out).more b3.out.size)
  clear P1 B1 I1 b3
  by_cases hlg : longS ls
  · rw [decide_eq_true hlg]
    clear hlg
    go_wp2_with fail
    refine (awake7_any _).mono ?_
    rintro e W4 ⟨rfl, b4⟩
    have B4 := Lib.hid (qtr B3.out b4.out)
    go_wp2
    go_ret
    exact ⟨rfl, B4⟩
  · rw [decide_eq_false hlg]
    have hsm := small hlg
    rw [HL.out] at hsm
    have HS := Lib.hid hsm
    clear hlg hsm
    obtain ⟨k1, k2⟩ := P3.out.box
    go_wp2_with fail
    clear k1 k2
    refine (own_any b A n c ls W3 HL.out I3.out HS.out.1 HS.out.2).mono ?_
    rintro e W4 ⟨A4, c4, rfl, o4, b4⟩
    have P4 := Lib.hid (P3.out.below b4.out)
    have B4 := Lib.hid (qtr B3.out b4.out)
    have I4 := Lib.hid ((I3.out.below b4.out).more b4.out.size)
    have S5 := Lib.hid (show SRow W4.heap.size b A4 n c4 (W4.alloc (.cells #[.int .u64 (b : Int), .slice A4 n c4] 25)) from qnew W4 _ _)
    have b5 := qbox W4 (.cells #[.int .u64 (b : Int), .slice A4 n c4] 25)
    have P5 := Lib.hid (P4.out.below b5)
    have B5 := Lib.hid (qtr B4.out b5)
    have I5 := Lib.hid ((I4.out.below b5).more b5.size)
    have O5 := Lib.hid (o4.out.on b5)
    clear P3 B3 I3 o4 b4 P4 B4 I4 b5
    obtain ⟨k1, k2⟩ := P5.out.box
    go_wp2_with fail
    clear k1 k2
    generalize W4.alloc (.cells #[.int .u64 (b : Int), .slice A4 n c4] 25) = W5 at *
    generalize W4.heap.size = wb at *
    refine (ack_any b A n c u ls W5 HL.out I5.out HC.out HS.out.1 HS.out.2 HB.out.1 HB.out.2).mono ?_
    rintro e W6 ⟨A6, c6, rfl, o6, b6⟩
    have HR := Lib.hid (fun W (hi : Rws W W.heap.size A4 ls) => rack_any b A4 n c4 u ls W HL.out hi HS.out.1 HS.out.2 HB.out.1 HB.out.2)
    unfold RAckE at HR
    have HSm := Lib.hid (ackL_small (b := b) (u := u) HL.out HS.out.1 HS.out.2)
    generalize ackB b ls u = b8n at *
    generalize ackL b ls u = ls8 at *
    generalize decide (ackOk b ls u) = ok8 at *
    generalize hm8 : ls8.length = m8 at *
    have HM8 := Lib.hid hm8
    clear hm8
    have P6 := Lib.hid (P5.out.below b6.out)
    have S6 := Lib.hid (S5.out.below b6.out)
    have B6 := Lib.hid (qtr B5.out b6.out)
    have I6 := Lib.hid ((I5.out.below b6.out).more b6.out.size)
    have O6 := Lib.hid (O5.out.on b6.out)
    have HW5 := Lib.hid (show w.heap.size ≤ W5.heap.size from B5.out.size)
    have D7 := Lib.hid (show SRow W6.heap.size b8n A6 m8 c6 (W6.alloc (.cells #[.int .u64 (b8n : Int), .slice A6 m8 c6] 25)) from qnew W6 _ _)
    have b7 := qbox W6 (.cells #[.int .u64 (b8n : Int), .slice A6 m8 c6] 25)
    have P7 := Lib.hid (P6.out.below b7)
    have S7 := Lib.hid (S6.out.below b7)
    have B7 := Lib.hid (qtr B6.out b7)
    have I7 := Lib.hid ((I6.out.below b7).more b7.size)
    have O7 := Lib.hid (O6.out.on b7)
    have Q7 := Lib.hid (o6.out.on b7)
    have HW6 := Lib.hid (show W5.heap.size ≤ W6.heap.size from b6.out.size)
    have HP5 := Lib.hid (show w.heap.size < W5.heap.size ∧ wb < W5.heap.size from ⟨lt_of_heap P5.out, lt_of_heap S5.out⟩)
    have PP5 := Lib.hid P5.out
    have SS5 := Lib.hid S5.out
    have BB5 := Lib.hid B5.out
    have HI5 := Lib.hid I5.out
    have HO5 := Lib.hid O5.out.rws
    have C7 := Lib.hid (qtr b6.out b7)
    clear P5 S5 B5 I5 O5 b6 o6 P6 S6 B6 I6 O6 b7
    obtain ⟨k1, k2⟩ := S7.out.box
    go_wp2_with fail
    clear k1 k2
    generalize W6.alloc (.cells #[.int .u64 (b8n : Int), .slice A6 m8 c6] 25) = W7 at *
    generalize W6.heap.size = tb at *
    refine (HR.out W7 O7.out.rws).mono ?_
    rintro e W8 ⟨A8, c8, rfl, i8, b8⟩
    have P8 := Lib.hid (P7.out.below b8.out)
    have S8 := Lib.hid (S7.out.below b8.out)
    have D8 := Lib.hid (D7.out.below b8.out)
    have B8 := Lib.hid (qtr B7.out b8.out)
    have I8 := Lib.hid ((I7.out.below b8.out).more b8.out.size)
    have O8 := Lib.hid (O7.out.on b8.out)
    have Q8 := Lib.hid (Q7.out.on b8.out)
    have C8 := Lib.hid (qtr C7.out b8.out)
    have V9 := Lib.hid (show SRow W8.heap.size b8n A8 m8 c8 (W8.alloc (.cells #[.int .u64 (b8n : Int), .slice A8 m8 c8] 25)) from qnew W8 _ _)
    have b9 := qbox W8 (.cells #[.int .u64 (b8n : Int), .slice A8 m8 c8] 25)
    have P9 := Lib.hid (P8.out.below b9)
    have S9 := Lib.hid (S8.out.below b9)
    have D9 := Lib.hid (D8.out.below b9)
    have B9 := Lib.hid (qtr B8.out b9)
    have I9 := Lib.hid ((I8.out.below b9).more b9.size)
    have O9 := Lib.hid (O8.out.on b9)
    have Q9 := Lib.hid (Q8.out.on b9)
    have C9 := Lib.hid (qtr C8.out b9)
    have J9 := Lib.hid ((i8.out.below b9).more b9.size)
    clear P7 S7 D7 B7 I7 O7 Q7 b8 P8 S8 D8 B8 I8 O8 Q8 b9 i8 HR
    obtain ⟨k1, k2⟩ := D9.out.box
    obtain ⟨j1, j2⟩ := V9.out.box
    have eok : (ok8 != ok8) = false := by simp
    go_wp2_with fail
    clear k1 k2 j1 j2
    generalize W8.alloc (.cells #[.int .u64 (b8n : Int), .slice A8 m8 c8] 25) = W9 at *
    refine (same7_any b8n b8n A6 A8 m8 c6 m8 c8 ls8 ls8 W9 (by have := HSm.out.1; omega) HM8.out HM8.out Q9.out.rws J9.out).mono ?_
    rintro e W10 ⟨rfl, b10⟩
    rw [decide_eq_true (show b8n = b8n ∧ ls8 = ls8 from ⟨rfl, rfl⟩)]
    have P10 := Lib.hid (P9.out.below b10.out)
    have S10 := Lib.hid (S9.out.below b10.out)
    have D10 := Lib.hid (D9.out.below b10.out)
    have B10 := Lib.hid (qtr B9.out b10.out)
    have I10 := Lib.hid ((I9.out.below b10.out).more b10.out.size)
    have O10 := Lib.hid (O9.out.on b10.out)
    have Q10 := Lib.hid (Q9.out.on b10.out)
    have C10 := Lib.hid (qtr C9.out b10.out)
    have HW10 := Lib.hid (show W5.heap.size ≤ W10.heap.size from C10.out.size)
    clear P9 S9 D9 B9 I9 O9 Q9 J9 V9 b10 eok
    obtain ⟨k1, k2⟩ := D10.out.box
    go_wp2_with fail
    clear k1 k2
    refine (spoil7_any b8n A6 m8 c6 W5.heap.size ls8 W10 Q10.out HW10.out (by have := HSm.out.1; omega) (fun k hk => HSm.out.2 k hk)).mono ?_
    rintro e W11 ⟨⟨v, rfl⟩, b11⟩
    have C11 := Lib.hid (show Below W5.heap.size W5 W11 from C10.out.trans b11.out)
    have P11 := Lib.hid (PP5.out.below C11.out)
    have S11 := Lib.hid (SS5.out.below C11.out)
    have B11 := Lib.hid (qtr BB5.out C11.out)
    have I11 := Lib.hid ((HI5.out.below C11.out).more C11.out.size)
    have J11 := Lib.hid ((HO5.out.below C11.out).more C11.out.size)
    clear P10 S10 D10 B10 I10 O10 Q10 b11 C10
    obtain ⟨k1, k2⟩ := P11.out.box
    obtain ⟨j1, j2⟩ := S11.out.box
    go_wp2_with fail
    clear k1 k2 j1 j2
    refine (same7_any b b A A4 n c n c4 ls ls W11 (by have := HS.out.1; omega) HL.out HL.out I11.out J11.out).mono ?_
    rintro e W12 ⟨rfl, b12⟩
    rw [decide_eq_true (show b = b ∧ ls = ls from ⟨rfl, rfl⟩)]
    have B12 := Lib.hid (qtr B11.out b12.out)
    clear b12
    go_wp2_with fail
    refine (awake7_any _).mono ?_
    rintro e W13 ⟨rfl, b13⟩
    have B13 := Lib.hid (qtr B12.out b13.out)
    clear b13
    go_wp2
    go_ret
    exact ⟨rfl, B13⟩
theorem acks7_walk (b : Nat) (A : Option Addr) (ls : List (List UInt8)) (c u : Nat) (W : World) (hb : b < 18446744073709551616) (hc : ls.length ≤ c) (hi : Rws W W.heap.size A ls) (hz : ∀ k, k < ls.length → (bodK ls k).length ≤ maxLen) (hu : u < 18446744073709551616) :
    Calls Try.prog 5 #[.agg #[.int .u64 (b : Int), .slice A ls.length c], .int .u64 (u : Int)] W fun e w' => e = .returned (.bool true) ∧ Hid (Below W.heap.size W w') :=
  acks7_int b A ls.length c u ls W rfl hi hc hz hb hu
end Go.Proofs.Ytmkkhknbokfciaa
