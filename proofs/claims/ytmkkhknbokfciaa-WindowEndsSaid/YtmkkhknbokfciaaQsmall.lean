/-
  Package window's isBody, last and Take, the document's Body, Count and Take. No condition.
-/
import Derived.Test.YtmkkhknbokfciaaQset
namespace Go.Proofs.Ytmkkhknbokfciaa
set_option maxRecDepth 20000
open Go.RowKit

set_option maxHeartbeats 1000000 in
theorem isbody_any (A : Option Addr) (n c : Nat) (w : World) :
    Calls Try.prog 29 #[.slice A n c] w fun e w' => e = .returned (.bool (decide (1 ≤ n ∧ n ≤ 448))) ∧ w = w' := by
  by_cases h1 : 1 ≤ n
  · by_cases h2 : n ≤ 448
    · have e : decide (1 ≤ n ∧ n ≤ 448) = true := decide_eq_true ⟨h1, h2⟩
      rw [e]
      clear e
      have g1 : (1 : Int) ≤ (n : Int) := by omega
      have g2 : (n : Int) ≤ 448 := by omega
      go_enter Try.func29, Try.ntmps29
      go_wp2
      go_ret
      simp [*]
    · have e : decide (1 ≤ n ∧ n ≤ 448) = false := decide_eq_false (fun h => h2 h.2)
      rw [e]
      clear e
      have g1 : (1 : Int) ≤ (n : Int) := by omega
      have g2 : ¬ (n : Int) ≤ 448 := by omega
      go_enter Try.func29, Try.ntmps29
      go_wp2
      go_ret
      simp [*]
  · obtain rfl : n = 0 := by omega
    have e : decide (1 ≤ 0 ∧ 0 ≤ 448) = false := decide_eq_false (fun h => h1 h.1)
    rw [e]
    clear e
    go_enter Try.func29, Try.ntmps29
    go_wp2
    go_ret
    simp [*]
set_option maxHeartbeats 1000000 in
theorem rbody_any (A : Option Addr) (n c : Nat) (w : World) :
    Calls Try.prog 34 #[.slice A n c] w fun e w' => e = .returned (.bool (decide (1 ≤ n ∧ n ≤ 448))) ∧ w = w' := by
  by_cases h1 : 1 ≤ n
  · by_cases h2 : n ≤ 448
    · have e : decide (1 ≤ n ∧ n ≤ 448) = true := decide_eq_true ⟨h1, h2⟩
      rw [e]
      clear e
      have g1 : (0 : Int) < (n : Int) := by omega
      have g2 : (n : Int) ≤ 448 := by omega
      go_enter Try.func34, Try.ntmps34
      go_wp2
      go_ret
      simp [*]
    · have e : decide (1 ≤ n ∧ n ≤ 448) = false := decide_eq_false (fun h => h2 h.2)
      rw [e]
      clear e
      have g1 : (0 : Int) < (n : Int) := by omega
      have g2 : ¬ (n : Int) ≤ 448 := by omega
      go_enter Try.func34, Try.ntmps34
      go_wp2
      go_ret
      simp [*]
  · obtain rfl : n = 0 := by omega
    have e : decide (1 ≤ 0 ∧ 0 ≤ 448) = false := decide_eq_false (fun h => h1 h.1)
    rw [e]
    clear e
    go_enter Try.func34, Try.ntmps34
    go_wp2
    go_ret
    simp [*]
set_option maxHeartbeats 1000000 in
theorem rcnt_any (x : Nat) (w : World) :
    Calls Try.prog 35 #[.int .u64 (x : Int)] w fun e w' => e = .returned (.bool (decide (x < 34359738368))) ∧ w = w' := by
  by_cases h : x < 34359738368
  · rw [decide_eq_true h]
    have g : (x : Int) < 34359738368 := by omega
    go_enter Try.func35, Try.ntmps35
    go_wp2
    go_ret
    simp [*]
  · rw [decide_eq_false h]
    have g : ¬ (x : Int) < 34359738368 := by omega
    go_enter Try.func35, Try.ntmps35
    go_wp2
    go_ret
    simp [*]
end Go.Proofs.Ytmkkhknbokfciaa
