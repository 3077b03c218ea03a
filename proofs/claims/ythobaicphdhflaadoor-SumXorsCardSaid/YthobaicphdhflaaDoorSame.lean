/-
  What the document's small helpers do: Same tells whether two slices hold the same bytes; long tells whether there are more than 65,536 of them. Both leave all as it was. No other condition.
-/
import Derived.Test.YthobaicphdhflaaDoorWords
namespace Go.Proofs.YthobaicphdhflaaDoor
open Go.RowKit

theorem conv_str {w : World} {B : Nat} {A : Option Addr} {l : List UInt8} (cap : Nat) (h : Bytes w B A l) :
    Sem.run Tryd.prog (convert 25 9 (.slice A l.length cap)) w = .ok (.string ⟨l.toArray⟩) w := by
  rcases A with _ | a
  · have : l = [] := by
      rcases Nat.eq_zero_or_pos l.length with h0 | h0
      · exact List.eq_nil_of_length_eq_zero h0
      · obtain ⟨_, _, e, _⟩ := h h0; cases e
    subst this
    exact run_convert_bytes_nil w 25 5 Tryd.underlying25 Tryd.underlying5 0 cap 9 Tryd.underlying9
  · refine run_convert_bytes_back w 25 9 5 a cap l Tryd.underlying25 Tryd.underlying5 Tryd.underlying9 fun j hj => ?_
    obtain ⟨b, off, e, _, hc⟩ := h (by omega)
    cases e
    rw [add_mk, hc j hj]
    simp [at8, List.getD, hj]

theorem same_any (A A' : Option Addr) (l l' : List UInt8) (n n' cap cap' B : Nat) (w : World) (hn : l.length = n) (hn' : l'.length = n') (hb : Bytes w B A l) (hb' : Bytes w B A' l') :
    Calls Tryd.prog 16 #[.slice A n cap, .slice A' n' cap'] w fun e w' => e = .returned (.bool (decide (l = l'))) ∧ w = w' := by
  subst hn hn'
  have h1 := conv_str cap hb
  have h2 := conv_str cap' hb'
  have hE : ((⟨l.toArray⟩ : ByteArray).toList == (⟨l'.toArray⟩ : ByteArray).toList) = decide (l = l') := by
    rw [ByteArray.toList_eq, ByteArray.toList_eq, Bool.eq_iff_iff]
    simp
  generalize (⟨l.toArray⟩ : ByteArray) = sa at h1 hE
  generalize (⟨l'.toArray⟩ : ByteArray) = sb at h2 hE
  clear hb hb'
  go_enter Tryd.func16, Tryd.ntmps16
  go_wp2
  go_ret
  exact ⟨rfl, rfl⟩
theorem same_true (A A' : Option Addr) (l l' : List UInt8) (n n' cap cap' B : Nat) (w : World) (hn : l.length = n) (hn' : l'.length = n') (hb : Bytes w B A l) (hb' : Bytes w B A' l') (h : l = l') :
    Calls Tryd.prog 16 #[.slice A n cap, .slice A' n' cap'] w fun e w' => e = .returned (.bool true) ∧ w = w' := by
  have h1 := same_any A A' l l' n n' cap cap' B w hn hn' hb hb'
  rw [decide_eq_true h] at h1
  exact h1
theorem same_false (A A' : Option Addr) (l l' : List UInt8) (n n' cap cap' B : Nat) (w : World) (hn : l.length = n) (hn' : l'.length = n') (hb : Bytes w B A l) (hb' : Bytes w B A' l') (h : ¬ l = l') :
    Calls Tryd.prog 16 #[.slice A n cap, .slice A' n' cap'] w fun e w' => e = .returned (.bool false) ∧ w = w' := by
  have h1 := same_any A A' l l' n n' cap cap' B w hn hn' hb hb'
  rw [decide_eq_false h] at h1
  exact h1
/-- How many bytes rows hold. -/
def total (ls : List (List UInt8)) : Nat := ls.flatten.length
theorem total_succ (ls : List (List UInt8)) (k : Nat) (hk : k < ls.length) : total (ls.take (k + 1)) = total (ls.take k) + (ls.getD k []).length := by
  unfold total
  rw [List.take_add_one, List.getElem?_eq_getElem hk, List.flatten_append, List.length_append]
  simp [List.getD, hk]
theorem total_take_le (ls : List (List UInt8)) (k : Nat) : total (ls.take k) ≤ total ls := by
  have h : total ls = total (ls.take k) + total (ls.drop k) := by
    unfold total
    rw [← List.length_append, ← List.flatten_append, List.take_append_drop]
  omega
def longB (ls : List (List UInt8)) : Bool := decide (65536 < total ls) || decide (4097 < ls.length)

set_option maxHeartbeats 400000 in
theorem long_any (A : Option Addr) (ls : List (List UInt8)) (cap B : Nat) (w : World) (hb : Rows8 w B A ls) (hl : ls.length ≤ maxLen) :
    Calls Tryd.prog 11 #[.slice A ls.length cap] w fun e w' => e = .returned (.bool (longB ls)) ∧ w = w' := by
  unfold maxLen at hl
  have HB := Lib.hid hb
  clear hb
  go_enter Tryd.func11, Tryd.ntmps11
  go_wp2
  go_loop [3, 4] (fun t i => ∃ k : Nat, k ≤ ls.length ∧ k ≤ 4097 ∧ i = .int .i64 k ∧ t = .int .i64 (total (ls.take k) : Nat) ∧ total (ls.take k) ≤ 65536) (fun _ i => ls.length - (intOf i).toNat)
  case atStart => exact ⟨0, Nat.zero_le _, by omega, rfl, rfl, by simp [total]⟩
  case round =>
    obtain ⟨k, hk, hk2, rfl, rfl, htot⟩ := hrel
    by_cases hlt : k < ls.length
    · obtain ⟨b, off, rfl, _, hc⟩ := HB.out (by omega)
      obtain ⟨A', cap', hcell, hby, hml⟩ := hc k hlt
      clear hc hby
      have HS := Lib.hid (total_succ ls k hlt)
      have HT := Lib.hid (total_take_le ls (k + 1))
      generalize total (ls.take k) = t at htot HS
      generalize (ls.getD k []).length = m at hcell hml HS
      by_cases h1 : 65536 < t + m
      · have h1' : (65536 : Int) < (t : Int) + (m : Int) := by omega
        have HQ := Lib.hid (show longB ls = true by unfold longB; rw [decide_eq_true (by have := HS.out; have := HT.out; omega)]; rfl)
        go_wp2
        go_ret
        exact ⟨by rw [HQ.out]; rfl, rfl⟩
      · have h1' : ¬ (65536 : Int) < (t : Int) + (m : Int) := by omega
        by_cases h2 : 4096 < k
        · have h2' : (4096 : Int) < (k : Int) := by omega
          have HQ := Lib.hid (show longB ls = true by unfold longB; rw [decide_eq_true (show 4097 < ls.length by omega), Bool.or_true])
          go_wp2
          go_ret
          exact ⟨by rw [HQ.out]; rfl, rfl⟩
        · have h2' : ¬ (4096 : Int) < (k : Int) := by omega
          go_wp2
          go_round
          case rel => exact ⟨k + 1, by omega, by omega, by go_num, by rw [HS.out]; go_num, by rw [HS.out]; omega⟩
          case measure => simp [intOf]; omega
    · obtain rfl : k = ls.length := by omega
      have HQ := Lib.hid (show longB ls = false by
        rw [List.take_length] at htot
        unfold longB; rw [decide_eq_false (by omega), decide_eq_false (by omega)]; rfl)
      go_wp2
      go_ret
      exact ⟨by rw [HQ.out]; rfl, rfl⟩
end Go.Proofs.YthobaicphdhflaaDoor
