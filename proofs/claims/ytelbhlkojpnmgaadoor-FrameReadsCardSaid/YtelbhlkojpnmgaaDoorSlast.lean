/-
  What sum.last does: it reads the sum that stands in four bytes, the lowest first, and leaves all as it was. No other condition.
-/
import Derived.Test.YtelbhlkojpnmgaaDoorSwords
namespace Go.Proofs.YtelbhlkojpnmgaaDoor
open Go.RowKit

/-- The first k bytes of a row, as a number, the lowest first. -/
def snumLE (l : List UInt8) : Nat → Nat
  | 0 => 0
  | k + 1 => snumLE l k + at8 l k * 2 ^ (8 * k)
theorem snumLE_lt (l : List UInt8) (k : Nat) : snumLE l k < 2 ^ (8 * k) := by
  induction k with
  | zero => simp [snumLE]
  | succ k ih =>
    have h := at8_lt l k
    have h1 : (at8 l k + 1) * 2 ^ (8 * k) ≤ 256 * 2 ^ (8 * k) := Nat.mul_le_mul_right _ (by omega)
    rw [snumLE, show 8 * (k + 1) = 8 + 8 * k by omega, Nat.pow_add]
    rw [Nat.add_mul] at h1
    omega
theorem numLE_four (a b c d : UInt8) : snumLE [a, b, c, d] 4 = Crc.un4 a b c d := by
  simp [snumLE, at8, Crc.un4]; omega
/-- One byte put in, in the walk's own spelling. -/
theorem slast_step (n x k : Nat) (hk : k < 4) (hn : n < 2 ^ (8 * k)) (hx : x < 256) :
    bits .or .u32 (n : Int) ((x : Int) * 2 ^ (8 * k) % 4294967296) = ((n + x * 2 ^ (8 * k) : Nat) : Int) := by
  have hp : (2 : Nat) ^ (8 * k) ≤ 2 ^ 24 := Nat.pow_le_pow_right (by omega) (by omega)
  have hm : x * 2 ^ (8 * k) ≤ 255 * 2 ^ 24 := Nat.mul_le_mul (by omega) hp
  have h2 : (x : Int) * 2 ^ (8 * k) = ((x * 2 ^ (8 * k) : Nat) : Int) := by simp
  rw [h2]
  have h3 : ((x * 2 ^ (8 * k) : Nat) : Int) % 4294967296 = ((x * 2 ^ (8 * k) : Nat) : Int) := by omega
  rw [h3, u32_or_nat _ _ (by omega) (by omega), or_place hn]

set_option maxHeartbeats 400000 in
theorem last_any (A : Option Addr) (l : List UInt8) (cap B : Nat) (w : World) (hb : Bytes w B A l) (hl : l.length = 4) :
    Calls Tryd.prog 51 #[.slice A 4 cap] w fun e w' => e = .returned (.int .u32 ((snumLE l 4 : Nat) : Int)) ∧ w = w' := by
  have HL := Lib.hid hl
  have HB := Lib.hid hb
  clear hb hl
  go_enter Tryd.func51, Tryd.ntmps51
  go_wp2
  go_loop [3, 8] (fun t i => ∃ k : Nat, k ≤ 4 ∧ i = .int .i64 k ∧ t = .int .u32 ((snumLE l k : Nat) : Int)) (fun _ i => 4 - (intOf i).toNat)
  case atStart => exact ⟨0, Nat.zero_le _, rfl, rfl⟩
  case round =>
    obtain ⟨k, hk, rfl, rfl⟩ := hrel
    by_cases hlt : k < 4
    · obtain ⟨b, off, rfl, _, hc⟩ := HB.out (by rw [HL.out]; omega)
      have hcell := hc k (by rw [HL.out]; omega)
      clear hc
      have hN := snumLE_lt l k
      have hx := at8_lt l k
      have HE := Lib.hid (show snumLE l (k + 1) = snumLE l k + at8 l k * 2 ^ (8 * k) from rfl)
      have H3 := Lib.hid (slast_step _ _ k hlt hN hx)
      clear hN
      generalize snumLE l k = n at HE H3
      generalize at8 l k = x at hx hcell HE H3
      have e1 : (x : Int) % 4294967296 = x := by omega
      go_wp2
      go_round
      case rel => exact ⟨k + 1, by omega, by go_num, by rw [HE.out, ← H3.out]⟩
      case measure => simp [intOf]; omega
    · obtain rfl : k = 4 := by omega
      go_wp2
      go_ret
      exact ⟨rfl, rfl⟩
end Go.Proofs.YtelbhlkojpnmgaaDoor
