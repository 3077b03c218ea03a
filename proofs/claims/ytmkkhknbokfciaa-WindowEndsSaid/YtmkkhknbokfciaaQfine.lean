/-
  The law's fine: may all bodies be pushed, and are they not many. No condition.
-/
import Derived.Test.YtmkkhknbokfciaaQset
namespace Go.Proofs.Ytmkkhknbokfciaa
set_option maxRecDepth 20000
open Go.RowKit

/-- Bodies that may all be pushed, and are not many; m: how many acts. -/
def fineP (ls : List (List UInt8)) (m : Nat) : Prop := ls.length ≤ 300 ∧ m ≤ 2000 ∧ okS ls ls.length
instance (ls : List (List UInt8)) (m : Nat) : Decidable (fineP ls m) := inferInstanceAs (Decidable (_ ∧ _ ∧ _))
theorem fineP_body {ls : List (List UInt8)} {m : Nat} (h : fineP ls m) : ∀ l ∈ ls, bodyS l := fun l hl => by
  obtain ⟨j, hj, rfl⟩ := List.mem_iff_getElem.1 hl
  have := h.2.2 j hj
  simpa [bodK, List.getD, List.getElem?_eq_getElem hj] using this
set_option maxHeartbeats 4000000 in
theorem fine7_any (A : Option Addr) (n c : Nat) (ls : List (List UInt8)) (A1 : Option Addr) (m c1 : Nat) (w : World) (hl : ls.length = n) (hi : Rws w w.heap.size A ls) :
    Calls Try.prog 23 #[.slice A n c, .slice A1 m c1] w fun e w' => e = .returned (.bool (decide (fineP ls m))) ∧ w' = w := by
  have HL := Lib.hid hl
  have I1 := Lib.hid hi
  have E0 : decide (fineP ls m) = decide (n ≤ 300 ∧ m ≤ 2000 ∧ okS ls n) := by rw [Bool.eq_iff_iff, decide_eq_true_iff, decide_eq_true_iff]; unfold fineP; rw [hl]
  rw [E0]
  clear hi hl E0
  generalize hd : decide (n ≤ 300 ∧ m ≤ 2000 ∧ okS ls n) = r
  have HD := Lib.hid hd
  clear hd
  go_enter Try.func23, Try.ntmps23
  by_cases h1 : n ≤ 300
  · by_cases h2 : m ≤ 2000
    · have g1 : ¬ (300 : Int) < (n : Int) := by omega
      have g2 : ¬ (2000 : Int) < (m : Int) := by omega
      have H1 := Lib.hid (And.intro h1 h2)
      clear h1 h2
      go_wp2_with fail
      go_loopw [5] (fun i wr => ∃ k, k ≤ n ∧ i = .int .i64 (k : Nat) ∧ wr = w ∧ Hid (okS ls k)) (fun i _ => n - (intOf i).toNat)
      case atStart => exact ⟨0, Nat.zero_le _, rfl, rfl, Lib.hid (fun j hj => absurd hj (by omega))⟩
      case round =>
        obtain ⟨k, hk, rfl, rfl, HO⟩ := hrel
        have hk3 : k ≤ 300 := by have := H1.out; omega
        by_cases hlt : k < n
        · have g5 : (k : Int) < (n : Int) := by omega
          obtain ⟨bb, off, rfl, hbl, hc⟩ := I1.out (by rw [HL.out]; omega)
          obtain ⟨A', c', hcell, hn', hby⟩ := hc k (by rw [HL.out]; exact hlt)
          clear hbl hc hn' hby
          by_cases hq : bodyS (bodK ls k)
          · have hO2 := Lib.hid (show okS ls (k + 1) from fun j hj => by
              rcases Nat.lt_or_ge j k with h | h
              · exact HO.out j h
              · obtain rfl : j = k := by omega
                exact hq)
            obtain ⟨q1, q2⟩ := hq
            generalize (bodK ls k).length = x at *
            have g6 : ¬ (x : Int) < 1 := by omega
            have g7 : ¬ (448 : Int) < (x : Int) := by omega
            clear q1 q2
            go_wp2
            go_roundw
            case rel => exact ⟨k + 1, by omega, by go_num, (by first | trivial | rfl), hO2⟩
            case measure => simp [intOf]; omega
          · have hr : r = false := by rw [← HD.out]; exact decide_eq_false (fun h => hq (h.2.2 k hlt))
            subst hr
            clear HD HO
            by_cases q1 : (bodK ls k).length < 1
            · generalize (bodK ls k).length = x at *
              have g6 : (x : Int) < 1 := by omega
              clear q1 hq
              go_wp2
              go_ret
              exact ⟨rfl, rfl⟩
            · have q2 : 448 < (bodK ls k).length := by unfold bodyS at hq; omega
              generalize (bodK ls k).length = x at *
              have g6 : ¬ (x : Int) < 1 := by omega
              have g7 : (448 : Int) < (x : Int) := by omega
              clear q1 q2 hq
              go_wp2
              go_ret
              exact ⟨rfl, rfl⟩
        · obtain rfl : k = n := by omega
          have g5 : ¬ (k : Int) < (k : Int) := by omega
          have hr : r = true := by rw [← HD.out]; exact decide_eq_true ⟨H1.out.1, H1.out.2, HO.out⟩
          subst hr
          clear HD
          go_wp2
          go_ret
          exact ⟨rfl, rfl⟩
    · have g1 : ¬ (300 : Int) < (n : Int) := by omega
      have g2 : (2000 : Int) < (m : Int) := by omega
      have hr : r = false := by rw [← HD.out]; exact decide_eq_false (fun h => h2 h.2.1)
      subst hr
      clear HD h1 h2
      go_wp2
      go_ret
      exact ⟨rfl, rfl⟩
  · have g1 : (300 : Int) < (n : Int) := by omega
    have hr : r = false := by rw [← HD.out]; exact decide_eq_false (fun h => h1 h.1)
    subst hr
    clear HD h1
    go_wp2
    go_ret
    exact ⟨rfl, rfl⟩
end Go.Proofs.Ytmkkhknbokfciaa
