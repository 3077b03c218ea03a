/-
  What sum.add does: it takes a row of bytes into the register, and leaves all as it was. Where the table lies as the program's text lays it.
-/
import Derived.Test.YtelbhlkojpnmgaaDoorSwords
namespace Go.Proofs.YtelbhlkojpnmgaaDoor
open Go.RowKit

theorem addL_take (s : Nat) (l : List UInt8) (k : Nat) (hk : k < l.length) : Crc.addL s (l.take (k + 1)) = Crc.nib (Crc.nib (Crc.addL s (l.take k) ^^^ at8 l k)) := by
  rw [List.take_add_one, List.getElem?_eq_getElem hk]
  show Crc.addL s (l.take k ++ [l[k]]) = _
  rw [Crc.addL_snoc, Crc.addB_nib]
  simp [at8, List.getD, hk]

theorem and15 (n : Nat) : n &&& 15 = n % 16 := Nat.and_two_pow_sub_one_eq_mod n 4
/-- What one half step does, in the walk's own spelling. -/
theorem half_step (Y : Nat) (hY : Y < 4294967296) : ∃ r : Nat, r < 16 ∧ bits .and .u32 (Y : Int) 15 = (r : Int) ∧ bits .xor .u32 ((Y : Int) / 16) ((Crc.half r : Nat) : Int) = ((Crc.nib Y : Nat) : Int) := by
  refine ⟨Y % 16, Nat.mod_lt _ (by omega), ?_, ?_⟩
  · have := u32_and_nat Y 15 hY (by omega)
    rw [and15] at this
    exact this
  · have := u32_xor_nat (Y / 16) (Crc.half (Y % 16)) (by omega) (Crc.half_lt _)
    rw [Int.natCast_ediv] at this
    exact this
theorem nib_lt' {Y : Nat} (hY : Y < 4294967296) : Crc.nib Y < 4294967296 := by
  rw [Crc.nib_eq]; exact Crc.stn_lt hY

set_option maxHeartbeats 400000 in
theorem sadd_any (s : Nat) (A : Option Addr) (l : List UInt8) (cap B : Nat) (w : World) (hs : s < Crc.full) (ht : Tab w) (hb : Bytes w B A l) (hl : l.length ≤ maxLen) :
    Calls Tryd.prog 62 #[.int .u32 (s : Int), .slice A l.length cap] w fun e w' => e = .returned (.int .u32 ((Crc.addL s l : Nat) : Int)) ∧ w = w' := by
  unfold maxLen at hl
  have HT := Lib.hid ht
  have HB := Lib.hid hb
  clear ht hb
  go_enter Tryd.func62, Tryd.ntmps62
  go_wp2
  go_loop [0, 9] (fun t i => ∃ k : Nat, k ≤ l.length ∧ i = .int .i64 k ∧ t = .int .u32 ((Crc.addL s (l.take k) : Nat) : Int)) (fun _ i => l.length - (intOf i).toNat)
  case atStart => exact ⟨0, Nat.zero_le _, rfl, rfl⟩
  case round =>
    obtain ⟨k, hk, rfl, rfl⟩ := hrel
    have hS : Crc.addL s (l.take k) < 4294967296 := Crc.addL_lt (l := l.take k) hs
    have hx := at8_lt l k
    by_cases hlt : k < l.length
    · have HE := Lib.hid (addL_take s l k hlt)
      obtain ⟨b, off, rfl, _, hc⟩ := HB.out (by omega)
      have hcell := hc k hlt
      clear hc
      generalize Crc.addL s (l.take k) = S at hS HE
      generalize at8 l k = x at hx hcell HE
      have e1 : (x : Int) % 4294967296 = x := by omega
      have e2 := u32_xor_nat S x hS (by omega)
      have hY : S ^^^ x < 4294967296 := Nat.xor_lt_two_pow (n := 32) hS (by omega)
      generalize S ^^^ x = Y at e2 hY HE
      obtain ⟨r, hr, e3, e4⟩ := half_step Y hY
      have c1 := HT.out r hr
      have hZ := nib_lt' hY
      generalize Crc.nib Y = Z at e4 hZ HE
      obtain ⟨r', hr', e5, e6⟩ := half_step Z hZ
      have c2 := HT.out r' hr'
      go_wp2
      go_round
      case rel => exact ⟨k + 1, by omega, by go_num, by rw [HE.out]⟩
      case measure => simp [intOf]; omega
    · have E := Lib.hid (show Crc.addL s (l.take k) = Crc.addL s l by rw [List.take_of_length_le (by omega)])
      go_wp2
      go_ret
      exact ⟨by rw [E.out]; rfl, rfl⟩
end Go.Proofs.YtelbhlkojpnmgaaDoor
