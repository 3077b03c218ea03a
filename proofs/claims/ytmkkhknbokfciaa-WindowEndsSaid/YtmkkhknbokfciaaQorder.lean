/-
  The walk of WindowOrder. No condition.
-/
import Derived.Test.YtmkkhknbokfciaaQact
import Derived.Test.YtmkkhknbokfciaaQright
import Derived.Test.YtmkkhknbokfciaaQfine
import Derived.Test.YtmkkhknbokfciaaQawake
import Derived.Test.YtmkkhknbokfciaaQargs
namespace Go.Proofs.Ytmkkhknbokfciaa
set_option maxRecDepth 20000
open Go.RowKit

/-- The k-th act, in whatever world that goes on. -/
theorem acts_pos {w : World} {A : Option Addr} {aks : List (Int × Int)} (h : ActsIn w A aks) {k : Nat} (hk : k < aks.length) : ∃ b off dd nn, A = some ⟨b, off, none⟩ ∧ ∀ W, Below w.heap.size w W → W.cell? ⟨b, off + k * 2, none⟩ = some (.int .i64 dd) ∧ W.cell? ⟨b, off + k * 2 + 1, none⟩ = some (.int .i64 nn) := by
  obtain ⟨b, off, rfl, _, hc⟩ := h (by omega)
  obtain ⟨h0, h1⟩ := hc k hk
  exact ⟨b, off, _, _, rfl, fun W hb => ⟨qold h0 hb, qold h1 hb⟩⟩
set_option maxHeartbeats 8000000 in
theorem order7_int (A : Option Addr) (n c : Nat) (ls : List (List UInt8)) (A1 : Option Addr) (m c1 : Nat) (aks : List (Int × Int)) (w : World) (hl : ls.length = n) (hm : aks.length = m) (hi : Rws w w.heap.size A ls) (ha : ActsIn w A1 aks) :
    Calls Try.prog 7 #[.slice A n c, .slice A1 m c1] w fun e w' => e = .returned (.bool true) ∧ Hid (Below w.heap.size w w') := by
  have HL := Lib.hid hl
  have HM := Lib.hid hm
  have I0 := Lib.hid hi
  have HA := Lib.hid ha
  clear hl hm hi ha
  go_enter Try.func7, Try.ntmps7
  go_wp2_with fail
  refine (fine7_any A n c ls A1 m c1 w HL.out I0.out).mono ?_
  rintro e W1 ⟨rfl, rfl⟩
  by_cases hf : fineP ls m
  · rw [decide_eq_true hf]
    have HF := Lib.hid hf
    clear hf
    have HS0 := Lib.hid (side_new W1).side
    have HI0 := Lib.hid (Inv7.init HF.out.1 (fineP_body HF.out))
    have HB0 := Lib.hid (qbox W1 (.cells #[.int .u64 0, .slice none 0 0, .int .u64 0, .slice none 0 0, .slice none 0 0, .slice none 0 0] 55))
    go_wp2_with fail
    generalize W1.alloc (.cells #[.int .u64 0, .slice none 0 0, .int .u64 0, .slice none 0 0, .slice none 0 0, .slice none 0 0] 55) = W2 at *
    go_loopw [6] (fun i wr => ∃ k, k ≤ m ∧ i = .int .i64 (k : Nat) ∧ ∃ s, Hid (Side W1.heap.size W1.heap.size s wr) ∧ Hid (Inv7 ls s) ∧ Hid (Below W1.heap.size W1 wr)) (fun i _ => m - (intOf i).toNat)
    case atStart => exact ⟨0, Nat.zero_le _, rfl, _, HS0, HI0, HB0⟩
    case round =>
      obtain ⟨k, hk, rfl, s, HS, HI, HB⟩ := hrel
      by_cases hlt : k < m
      · have g5 : (k : Int) < (m : Int) := by omega
        obtain ⟨ab, ao, dd, nn, rfl, hcs⟩ := acts_pos HA.out (k := k) (by rw [HM.out]; exact hlt)
        obtain ⟨x0, x1⟩ := hcs wr HB.out
        have HK := Lib.hid (show m ≤ 2000 from HF.out.2.1)
        clear hcs
        go_wp2_with fail
        clear x0 x1
        refine (act7_any W1.heap.size W1.heap.size ls s dd nn A n c wr HS.out HI.out HB.out.size HL.out (I0.out.below HB.out)).mono ?_
        rintro e W3 ⟨rfl, s2, HS2, HI2, HB2⟩
        have B3 := Lib.hid (HB.out.trans HB2.out)
        go_wp2_with fail
        refine (right7_any W1.heap.size W1.heap.size ls s2 W3 HS2.out HI2.out).mono ?_
        rintro e W4 ⟨rfl, b4⟩
        have B4 := Lib.hid (B3.out.trans (b4.out.mono B3.out.size))
        have HS4 : Hid (Side W1.heap.size W1.heap.size s2 W4) := by
          obtain ⟨A, c, P, cp, T, ct, Y, cy, hm⟩ := HS2.out
          exact Lib.hid ⟨A, c, P, cp, T, ct, Y, cy, hm.on b4.out⟩
        have hk3 : k ≤ 2000 := by have := HK.out; omega
        go_wp2
        go_roundw
        case rel => exact ⟨k + 1, by omega, by go_num, s2, HS4, HI2, B4⟩
        case measure => simp [intOf]; omega
      · obtain rfl : k = m := by omega
        have g5 : ¬ (k : Int) < (k : Int) := by omega
        go_wp2_with fail
        refine (awake7_any _).mono ?_
        rintro e W4 ⟨rfl, b4⟩
        have B4 := Lib.hid (qtr HB.out b4.out)
        go_wp2
        go_ret
        exact ⟨rfl, B4⟩
  · rw [decide_eq_false hf]
    clear hf
    go_wp2_with fail
    refine (awake7_any _).mono ?_
    rintro e W4 ⟨rfl, b4⟩
    go_wp2
    go_ret
    exact ⟨rfl, b4⟩
theorem order7_walk (A : Option Addr) (ls : List (List UInt8)) (c : Nat) (A1 : Option Addr) (aks : List (Int × Int)) (c1 : Nat) (W : World) (_h1 : ls.length ≤ maxLen) (_h2 : ls.length ≤ c) (hi : Rws W W.heap.size A ls) (_h3 : ∀ k, k < ls.length → (bodK ls k).length ≤ maxLen) (_h4 : aks.length ≤ maxLen) (ha : ActsIn W A1 aks) (_h5 : ∀ a ∈ aks, I64q a.1 ∧ I64q a.2) :
    Calls Try.prog 7 #[.slice A ls.length c, .slice A1 aks.length c1] W fun e w' => e = .returned (.bool true) ∧ Hid (Below W.heap.size W w') :=
  order7_int A ls.length c ls A1 aks.length c1 aks W rfl rfl hi ha
end Go.Proofs.Ytmkkhknbokfciaa
