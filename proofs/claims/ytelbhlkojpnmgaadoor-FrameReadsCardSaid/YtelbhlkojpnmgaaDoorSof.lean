/-
  What sum.Of does: it tells the sum of all parts, one behind the other, and leaves all as it was. Where the table lies as the program's text lays it.
-/
import Derived.Test.YtelbhlkojpnmgaaDoorSadd
namespace Go.Proofs.YtelbhlkojpnmgaaDoor
open Go.RowKit

theorem addL_rows (s : Nat) (ls : List (List UInt8)) (k : Nat) (hk : k < ls.length) : Crc.addL s (ls.take (k + 1)).flatten = Crc.addL (Crc.addL s (ls.take k).flatten) (ls.getD k []) := by
  rw [List.take_add_one, List.getElem?_eq_getElem hk, List.flatten_append, Crc.addL_append]
  simp [List.getD, hk]

theorem max_xor {S : Nat} (h : S < 4294967296) : bits .xor .u32 IntKind.u32.max (S : Int) = ((Crc.ones ^^^ S : Nat) : Int) := u32_xor_nat 4294967295 S (by omega) h

set_option maxHeartbeats 400000 in
theorem of_any (A : Option Addr) (ls : List (List UInt8)) (cap B : Nat) (w : World) (ht : Tab w) (hb : Rows8 w B A ls) (hl : ls.length ≤ maxLen) :
    Calls Tryd.prog 46 #[.slice A ls.length cap] w fun e w' => e = .returned (.int .u32 ((Crc.crc ls.flatten : Nat) : Int)) ∧ w = w' := by
  unfold maxLen at hl
  have HT := Lib.hid ht
  have HB := Lib.hid hb
  clear ht hb
  go_enter Tryd.func46, Tryd.ntmps46
  go_wp2
  go_loop [3, 8] (fun t i => ∃ k : Nat, k ≤ ls.length ∧ i = .int .i64 k ∧ t = .int .u32 ((Crc.addL Crc.ones (ls.take k).flatten : Nat) : Int)) (fun _ i => ls.length - (intOf i).toNat)
  case atStart => exact ⟨0, Nat.zero_le _, rfl, rfl⟩
  case round =>
    obtain ⟨k, hk, rfl, rfl⟩ := hrel
    have hS : Crc.addL Crc.ones (ls.take k).flatten < 4294967296 := Crc.addL_lt Crc.ones_lt
    by_cases hlt : k < ls.length
    · have HE := Lib.hid (addL_rows Crc.ones ls k hlt)
      obtain ⟨b, off, rfl, _, hc⟩ := HB.out (by omega)
      obtain ⟨A', cap', hcell, hby, hml⟩ := hc k hlt
      clear hc
      generalize Crc.addL Crc.ones (ls.take k).flatten = S at hS HE
      generalize ls.getD k [] = l at hcell hby hml HE
      have HY := Lib.hid hby
      have HL := Lib.hid (show l.length ≤ maxLen by unfold maxLen; omega)
      clear hby hml
      go_wp2_with (go_at_call 62; refine (sadd_any S A' l cap' B _ hS HT.out HY.out HL.out).mono ?_; rintro e w' ⟨rfl, rfl⟩)
      go_round
      case rel => exact ⟨k + 1, by omega, by go_num, by rw [HE.out]⟩
      case measure => simp [intOf]; omega
    · have E := Lib.hid (show Crc.ones ^^^ Crc.addL Crc.ones (ls.take k).flatten = Crc.crc ls.flatten by rw [List.take_of_length_le (by omega)]; rfl)
      have e2 := Lib.hid (max_xor hS)
      generalize Crc.addL Crc.ones (ls.take k).flatten = S at hS e2 E
      go_wp2
      go_ret
      exact ⟨by rw [← E.out, ← e2.out]; rfl, rfl⟩
theorem of_one (b off : Nat) (cap : Nat) (A' : Option Addr) (n cap' : Nat) (l : List UInt8) (w : World) (ht : Tab w) (hn : l.length = n) (hc : w.cell? ⟨b, off, none⟩ = some (.slice A' n cap')) (hb : Bytes w w.heap.size A' l) (hl : l.length ≤ 140737488355328) :
    Calls Tryd.prog 46 #[.slice (some ⟨b, off, none⟩) 1 cap] w fun e w' => e = .returned (.int .u32 ((Crc.crc l : Nat) : Int)) ∧ w = w' := by
  subst hn
  have h := of_any (some ⟨b, off, none⟩) [l] cap w.heap.size w ht (fun _ => ⟨b, off, rfl, World.block_lt_of_cell? _ _ hc, fun k hk => ?_⟩) (by simp [maxLen])
  · simpa using h
  · obtain rfl : k = 0 := by simpa using hk
    exact ⟨A', cap', hc, hb, hl⟩
end Go.Proofs.YtelbhlkojpnmgaaDoor
