/-
  What the document's own answer for a sum does: it tells the same sum, bit by bit, and leaves all as it was. No other condition.
-/
import Derived.Test.YtelbhlkojpnmgaaDoorSwords
namespace Go.Proofs.YtelbhlkojpnmgaaDoor
open Go.RowKit

theorem stn_rest (S k : Nat) : Crc.stn (k + 1) S = Crc.st (Crc.stn k S) := Crc.stn_succ k S
theorem addL_take8 (s : Nat) (l : List UInt8) (k : Nat) (hk : k < l.length) : Crc.addL s (l.take (k + 1)) = Crc.stn 8 (Crc.addL s (l.take k) ^^^ at8 l k) := by
  rw [List.take_add_one, List.getElem?_eq_getElem hk]
  show Crc.addL s (l.take k ++ [l[k]]) = _
  rw [Crc.addL_snoc]
  simp [at8, List.getD, hk, Crc.addB]

set_option maxHeartbeats 800000 in
theorem refOf_any (A : Option Addr) (l : List UInt8) (n cap B : Nat) (w : World) (hn : l.length = n) (hb : Bytes w B A l) (hl : n ≤ maxLen) :
    Calls Tryd.prog 49 #[.slice A n cap] w fun e w' => e = .returned (.int .u32 ((Crc.crc l : Nat) : Int)) ∧ w = w' := by
  unfold maxLen at hl
  have HN := Lib.hid hn
  have HB := Lib.hid hb
  clear hb hn
  go_enter Tryd.func49, Tryd.ntmps49
  go_wp2
  go_loop [3, 4] (fun t i => ∃ k : Nat, k ≤ n ∧ i = .int .i64 k ∧ t = .int .u32 ((Crc.addL Crc.ones (l.take k) : Nat) : Int)) (fun _ i => n - (intOf i).toNat)
  case atStart => exact ⟨0, Nat.zero_le _, rfl, rfl⟩
  case round =>
    obtain ⟨k, hk, rfl, rfl⟩ := hrel
    have hS : Crc.addL Crc.ones (l.take k) < 4294967296 := Crc.addL_lt (l := l.take k) Crc.ones_lt
    have hx := at8_lt l k
    by_cases hlt : k < n
    · have HE := Lib.hid (addL_take8 Crc.ones l k (by rw [HN.out]; exact hlt))
      obtain ⟨b, off, rfl, _, hc⟩ := HB.out (by rw [HN.out]; omega)
      have hcell := hc k (by rw [HN.out]; exact hlt)
      clear hc
      generalize Crc.addL Crc.ones (l.take k) = S at hS HE
      generalize at8 l k = x at hx hcell HE
      have e1 : (x : Int) % 4294967296 = x := by omega
      have e2 := u32_xor_nat S x hS (by omega)
      have hY : S ^^^ x < 4294967296 := Nat.xor_lt_two_pow (n := 32) hS (by omega)
      generalize S ^^^ x = Y at e2 hY HE
      go_wp2
      go_loop [3, 5] (fun t i => ∃ j : Nat, j ≤ 8 ∧ i = .int .i64 j ∧ t = .int .u32 ((Crc.stn j Y : Nat) : Int)) (fun _ i => 8 - (intOf i).toNat)
      case atStart => exact ⟨0, Nat.zero_le _, rfl, rfl⟩
      case round =>
        obtain ⟨j, hj, rfl, rfl⟩ := hrel
        have hZ : Crc.stn j Y < 4294967296 := Crc.stn_lt hY
        by_cases hjl : j < 8
        · have HJ := Lib.hid (stn_rest Y j)
          generalize Crc.stn j Y = Z at hZ HJ
          have z0 : (0 : Int) ≤ (Z : Int) := by omega
          by_cases hp : Z % 2 = 1
          · have HS := Lib.hid (show Crc.st Z = Z / 2 ^^^ 2197175160 by unfold Crc.st; rw [if_pos hp]; rfl)
            have p1 : (Z : Int) % 2 = 1 := by omega
            have p2 := u32_xor_nat (Z / 2) 2197175160 (by omega) (by omega)
            rw [Int.natCast_ediv] at p2
            clear hp
            go_wp2
            go_round
            case rel => exact ⟨j + 1, by omega, by go_num, by rw [HJ.out, HS.out, ← p2]; rfl⟩
            case measure => simp [intOf]; omega
          · have HS := Lib.hid (show Crc.st Z = Z / 2 by unfold Crc.st; rw [if_neg hp, Nat.xor_zero])
            have p1 : (Z : Int) % 2 = 0 := by omega
            clear hp
            go_wp2
            go_round
            case rel => exact ⟨j + 1, by omega, by go_num, by rw [HJ.out, HS.out]; rfl⟩
            case measure => simp [intOf]; omega
        · obtain rfl : j = 8 := by omega
          go_wp2
          go_round
          case rel => exact ⟨k + 1, by omega, by go_num, by rw [HE.out]⟩
          case measure => simp [intOf]; omega
    · have E := Lib.hid (show Crc.ones - Crc.addL Crc.ones (l.take k) = Crc.crc l by rw [List.take_of_length_le (by rw [HN.out]; omega), Crc.ones_sub (Crc.addL_lt Crc.ones_lt)]; rfl)
      generalize Crc.addL Crc.ones (l.take k) = S at hS E
      have E2 := Lib.hid (show ((4294967295 : Int) - (S : Int)) = ((Crc.ones - S : Nat) : Int) by unfold Crc.ones; omega)
      go_wp2
      go_ret
      exact ⟨by rw [← E.out, ← E2.out]; rfl, rfl⟩
end Go.Proofs.YtelbhlkojpnmgaaDoor
