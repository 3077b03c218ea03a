/-
  Whether a sender may be, by package window's may and by the document's May; how many are due. No condition.
-/
import Derived.Test.YtmkkhknbokfciaaQsmall
namespace Go.Proofs.Ytmkkhknbokfciaa
set_option maxRecDepth 20000
open Go.RowKit

set_option maxHeartbeats 4000000 in
theorem smay_any (b : Nat) (A : Option Addr) (n c : Nat) (ls : List (List UInt8)) (w : World) (hl : ls.length = n) (hi : Rws w w.heap.size A ls) :
    Calls Try.prog 28 #[.agg #[.int .u64 (b : Int), .slice A n c]] w fun e w' => e = .returned (.bool (decide (mayS b ls))) ∧ Hid (Below w.heap.size w w') := by
  have X1 := Lib.hid (sbox_new w (b : Int) A n c 25)
  have B1 := Lib.hid (qbox w (.cells #[.int .u64 (b : Int), .slice A n c] 25))
  have I1 := Lib.hid (hi.below B1.out)
  have HL := Lib.hid hl
  have E0 : decide (mayS b ls) = decide (n ≤ 48 ∧ b + n ≤ 34359738367 ∧ okS ls n) := by rw [Bool.eq_iff_iff, decide_eq_true_iff, decide_eq_true_iff, mayS_c, hl]
  rw [E0]
  clear hi hl E0
  generalize hd : decide (n ≤ 48 ∧ b + n ≤ 34359738367 ∧ okS ls n) = r
  have HD := Lib.hid hd
  clear hd
  go_enter Try.func28, Try.ntmps28
  obtain ⟨k0, k1⟩ := X1.out
  generalize hW : w.alloc (.cells #[.int .u64 (b : Int), .slice A n c] 25) = W1 at *
  by_cases h1 : n ≤ 48
  · by_cases h2 : b ≤ 34359738367
    · by_cases h3 : b + n ≤ 34359738367
      · have g1 : (n : Int) ≤ 48 := by omega
        have g2 : (b : Int) ≤ 34359738367 := by omega
        have e3 : IntKind.u64.wrap (34359738367 - (b : Int)) = 34359738367 - (b : Int) := wrapU (by omega) (by omega)
        have e4 : IntKind.u64.wrap (n : Int) = (n : Int) := wrapU (by omega) (by omega)
        have g3 : (n : Int) ≤ 34359738367 - (b : Int) := by omega
        have H1 := Lib.hid (And.intro h1 h3)
        clear h1 h2 h3
        go_wp2_with fail
        clear hW k0
        go_loopw [27] (fun i wr => ∃ k, k ≤ n ∧ i = .int .i64 (k : Nat) ∧ wr = W1 ∧ Hid (okS ls k)) (fun i _ => n - (intOf i).toNat)
        case atStart => exact ⟨0, Nat.zero_le _, rfl, rfl, Lib.hid (fun j hj => absurd hj (by omega))⟩
        case round =>
          obtain ⟨k, hk, rfl, rfl, HO⟩ := hrel
          by_cases hlt : k < n
          · have g5 : (k : Int) < (n : Int) := by omega
            obtain ⟨bb, off, rfl, hbl, hc⟩ := I1.out (by rw [HL.out]; omega)
            obtain ⟨A', c', hcell, hn', hby⟩ := hc k (by rw [HL.out]; exact hlt)
            clear hbl hc hn' hby
            by_cases hq : bodyS (bodK ls k)
            · have hO2 := Lib.hid (show okS ls (k + 1) from fun j hj => by
                rcases Nat.lt_or_ge j k with h | h
                · exact HO.out j h
                · obtain rfl : j = k := by omega
                  exact hq)
              have HQ := Lib.hid (decide_eq_true hq)
              clear hq
              go_wp2_with fail
              refine (isbody_any _ _ _ _).mono ?_
              rintro e W2 ⟨rfl, rfl⟩
              rw [HQ.out]
              go_wp2
              go_roundw
              case rel => exact ⟨k + 1, by omega, by go_num, (by first | trivial | rfl), hO2⟩
              case measure => simp [intOf]; omega
            · have hr : r = false := by rw [← HD.out]; exact decide_eq_false (fun h => hq (h.2.2 k hlt))
              subst hr
              have HQ := Lib.hid (decide_eq_false hq)
              clear hq HD
              go_wp2_with fail
              refine (isbody_any _ _ _ _).mono ?_
              rintro e W2 ⟨rfl, rfl⟩
              rw [HQ.out]
              go_wp2
              go_ret
              exact ⟨rfl, B1⟩
          · obtain rfl : k = n := by omega
            have g5 : ¬ (k : Int) < (k : Int) := by omega
            have hr : r = true := by rw [← HD.out]; exact decide_eq_true ⟨H1.out.1, H1.out.2, HO.out⟩
            subst hr
            clear HD
            go_wp2
            go_ret
            exact ⟨rfl, B1⟩
      · have g1 : (n : Int) ≤ 48 := by omega
        have g2 : (b : Int) ≤ 34359738367 := by omega
        have e3 : IntKind.u64.wrap (34359738367 - (b : Int)) = 34359738367 - (b : Int) := wrapU (by omega) (by omega)
        have e4 : IntKind.u64.wrap (n : Int) = (n : Int) := wrapU (by omega) (by omega)
        have g3 : ¬ (n : Int) ≤ 34359738367 - (b : Int) := by omega
        have hr : r = false := by rw [← HD.out]; exact decide_eq_false (fun h => h3 h.2.1)
        subst hr
        clear HD h1 h2 h3
        go_wp2
        go_ret
        exact ⟨rfl, B1⟩
    · have g1 : (n : Int) ≤ 48 := by omega
      have g2 : ¬ (b : Int) ≤ 34359738367 := by omega
      have hr : r = false := by rw [← HD.out]; exact decide_eq_false (fun h => h2 (by have := h.2.1; omega))
      subst hr
      clear HD h1 h2
      go_wp2
      go_ret
      exact ⟨rfl, B1⟩
  · have g1 : ¬ (n : Int) ≤ 48 := by omega
    have hr : r = false := by rw [← HD.out]; exact decide_eq_false (fun h => h1 h.1)
    subst hr
    clear HD h1
    go_wp2
    go_ret
    exact ⟨rfl, B1⟩
set_option maxHeartbeats 4000000 in
theorem rmay7_any (b : Nat) (A : Option Addr) (n c : Nat) (ls : List (List UInt8)) (w : World) (hl : ls.length = n) (hi : Rws w w.heap.size A ls) :
    Calls Try.prog 33 #[.agg #[.int .u64 (b : Int), .slice A n c]] w fun e w' => e = .returned (.bool (decide (mayS b ls))) ∧ Hid (Below w.heap.size w w') := by
  have X1 := Lib.hid (sbox_new w (b : Int) A n c 25)
  have B1 := Lib.hid (qbox w (.cells #[.int .u64 (b : Int), .slice A n c] 25))
  have I1 := Lib.hid (hi.below B1.out)
  have HL := Lib.hid hl
  have E0 : decide (mayS b ls) = decide (n ≤ 48 ∧ b + n ≤ 34359738367 ∧ okS ls n) := by rw [Bool.eq_iff_iff, decide_eq_true_iff, decide_eq_true_iff, mayS_c, hl]
  rw [E0]
  clear hi hl E0
  generalize hd : decide (n ≤ 48 ∧ b + n ≤ 34359738367 ∧ okS ls n) = r
  have HD := Lib.hid hd
  clear hd
  go_enter Try.func33, Try.ntmps33
  obtain ⟨k0, k1⟩ := X1.out
  generalize hW : w.alloc (.cells #[.int .u64 (b : Int), .slice A n c] 25) = W1 at *
  by_cases h1 : n ≤ 48
  · by_cases h2 : b ≤ 34359738367
    · by_cases h3 : b + n ≤ 34359738367
      · have g1 : (n : Int) ≤ 48 := by omega
        have g2 : (b : Int) ≤ 34359738367 := by omega
        have e4 : IntKind.u64.wrap (n : Int) = (n : Int) := wrapU (by omega) (by omega)
        have e3 : IntKind.u64.wrap ((b : Int) + (n : Int)) = ((b + n : Nat) : Int) := by rw [wrapU (by omega) (by omega)]; simp
        have HC := Lib.hid (show b < 34359738368 by omega)
        have HC2 := Lib.hid (show b + n < 34359738368 by omega)
        have H1 := Lib.hid (And.intro h1 h3)
        clear h1 h2 h3
        go_wp2_with fail
        refine (rcnt_any b W1).mono ?_
        rintro e W2 ⟨rfl, rfl⟩
        rw [decide_eq_true HC.out]
        go_wp2_with fail
        refine (rcnt_any (b + n) W1).mono ?_
        rintro e W2 ⟨rfl, rfl⟩
        rw [decide_eq_true HC2.out]
        go_wp2_with fail
        clear hW
        go_loopw [3] (fun i wr => ∃ k, k ≤ n ∧ i = .int .i64 (k : Nat) ∧ wr = W1 ∧ Hid (okS ls k)) (fun i _ => n - (intOf i).toNat)
        case atStart => exact ⟨0, Nat.zero_le _, rfl, rfl, Lib.hid (fun j hj => absurd hj (by omega))⟩
        case round =>
          obtain ⟨k, hk, rfl, rfl, HO⟩ := hrel
          by_cases hlt : k < n
          · have g5 : (k : Int) < (n : Int) := by omega
            obtain ⟨bb, off, rfl, hbl, hc⟩ := I1.out (by rw [HL.out]; omega)
            obtain ⟨A', c', hcell, hn', hby⟩ := hc k (by rw [HL.out]; exact hlt)
            clear hbl hc hn' hby
            by_cases hq : bodyS (bodK ls k)
            · have hO2 := Lib.hid (show okS ls (k + 1) from fun j hj => by
                rcases Nat.lt_or_ge j k with h | h
                · exact HO.out j h
                · obtain rfl : j = k := by omega
                  exact hq)
              have HQ := Lib.hid (decide_eq_true hq)
              clear hq
              go_wp2_with fail
              refine (rbody_any _ _ _ _).mono ?_
              rintro e W2 ⟨rfl, rfl⟩
              rw [HQ.out]
              go_wp2
              go_roundw
              case rel => exact ⟨k + 1, by omega, by go_num, (by first | trivial | rfl), hO2⟩
              case measure => simp [intOf]; omega
            · have hr : r = false := by rw [← HD.out]; exact decide_eq_false (fun h => hq (h.2.2 k hlt))
              subst hr
              have HQ := Lib.hid (decide_eq_false hq)
              clear hq HD
              go_wp2_with fail
              refine (rbody_any _ _ _ _).mono ?_
              rintro e W2 ⟨rfl, rfl⟩
              rw [HQ.out]
              go_wp2
              go_ret
              exact ⟨rfl, B1⟩
          · obtain rfl : k = n := by omega
            have g5 : ¬ (k : Int) < (k : Int) := by omega
            have hr : r = true := by rw [← HD.out]; exact decide_eq_true ⟨H1.out.1, H1.out.2, HO.out⟩
            subst hr
            clear HD
            go_wp2
            go_ret
            exact ⟨rfl, B1⟩
      · have g1 : (n : Int) ≤ 48 := by omega
        have g2 : (b : Int) ≤ 34359738367 := by omega
        have e4 : IntKind.u64.wrap (n : Int) = (n : Int) := wrapU (by omega) (by omega)
        have e3 : IntKind.u64.wrap ((b : Int) + (n : Int)) = ((b + n : Nat) : Int) := by rw [wrapU (by omega) (by omega)]; simp
        have HC := Lib.hid (show b < 34359738368 by omega)
        have HC2 := Lib.hid (show ¬ b + n < 34359738368 by omega)
        have hr : r = false := by rw [← HD.out]; exact decide_eq_false (fun h => h3 h.2.1)
        subst hr
        clear HD h1 h2 h3
        go_wp2_with fail
        refine (rcnt_any b W1).mono ?_
        rintro e W2 ⟨rfl, rfl⟩
        rw [decide_eq_true HC.out]
        go_wp2_with fail
        refine (rcnt_any (b + n) W1).mono ?_
        rintro e W2 ⟨rfl, rfl⟩
        rw [decide_eq_false HC2.out]
        go_wp2
        go_ret
        exact ⟨rfl, B1⟩
    · have g1 : (n : Int) ≤ 48 := by omega
      have g2 : ¬ (b : Int) ≤ 34359738367 := by omega
      have hr : r = false := by rw [← HD.out]; exact decide_eq_false (fun h => h2 (by have := h.2.1; omega))
      subst hr
      have HC := Lib.hid (show ¬ b < 34359738368 by omega)
      clear HD h1 h2
      go_wp2_with fail
      refine (rcnt_any b W1).mono ?_
      rintro e W2 ⟨rfl, rfl⟩
      rw [decide_eq_false HC.out]
      go_wp2
      go_ret
      exact ⟨rfl, B1⟩
  · have g1 : ¬ (n : Int) ≤ 48 := by omega
    have hr : r = false := by rw [← HD.out]; exact decide_eq_false (fun h => h1 h.1)
    subst hr
    clear HD h1
    go_wp2
    go_ret
    exact ⟨rfl, B1⟩
end Go.Proofs.Ytmkkhknbokfciaa
