/-
  The document's own Reader: what bytes are worth. For bytes whose worth is below 2^64.
-/
import Derived.Test.YtelbhlkojpnmgaaDoorRnum
import Derived.Test.YtelbhlkojpnmgaaDoorGa
namespace Go.Proofs.YtelbhlkojpnmgaaDoor
set_option maxRecDepth 20000
open Go.RowKit

theorem worth_step7 (x y : Nat) (hx : x < 256) (h : y * 2 ^ 7 + x % 2 ^ 7 < 18446744073709551616) : bits .or .u64 (IntKind.u64.wrap ((y : Int) * 128)) (bits .and .u64 (x : Int) 127) = ((y * 2 ^ 7 + x % 2 ^ 7 : Nat) : Int) := by
  have h1 : bits .and .u64 (x : Int) 127 = ((x % 2 ^ 7 : Nat) : Int) := by
    have := u64_and_nat x 127 (by omega) (by omega)
    rw [show (127 : Nat) = 2 ^ 7 - 1 from rfl, Nat.and_two_pow_sub_one_eq_mod] at this
    exact this
  have h2 : IntKind.u64.wrap ((y : Int) * 128) = ((y * 2 ^ 7 : Nat) : Int) := by
    rw [show (y : Int) * 128 = ((y * 2 ^ 7 : Nat) : Int) by omega]
    exact IntWalk.u64_in _ (by omega)
  rw [h1, h2, u64_or_nat _ _ (by omega) (by omega), Nat.or_comm, or_place (Nat.mod_lt _ (by decide)), Nat.add_comm]
set_option maxHeartbeats 2000000 in
theorem worth7_any (A : Option Addr) (l : List UInt8) (n cap : Nat) (w : World) (hb : Bytes w w.heap.size A l) (hn : l.length = n) (hnn : n ≤ 4611686018427387904) (hv : numB 7 l < 18446744073709551616) :
    Calls Tryd.prog 60 #[.slice A n cap, .int .i64 7] w fun e w' => e = .returned (.int .u64 ((numB 7 l : Nat) : Int)) ∧ Hid (Below w.heap.size w w') := by
  have HB := Lib.hid hb
  have HN := Lib.hid hn
  have HV := Lib.hid (fun k => Nat.lt_of_le_of_lt (numB_drop_le 7 l k) hv)
  clear hb hn hv
  go_enter Tryd.func60, Tryd.ntmps60
  go_wp2
  go_loopw [5, 6] (fun x i wr => ∃ k : Nat, k ≤ n ∧ i = .int .i64 ((k : Int) - 1) ∧ x = .int .u64 ((numB 7 (l.drop k) : Nat) : Int) ∧ Hid (Below w.heap.size w wr)) (fun _ i _ => (intOf i + 1).toNat)
  case atStart => exact ⟨n, Nat.le_refl _, by go_num, by rw [← HN.out]; simp [numB], Lib.hid (Below.refl _ _)⟩
  case round =>
    obtain ⟨k, hk, rfl, rfl, hbw⟩ := hrel
    by_cases h0 : k = 0
    · subst h0
      have g1 : ¬ (0 : Int) ≤ ((0 : Nat) : Int) - 1 := by omega
      go_wp2
      go_ret
      exact ⟨by simp, hbw⟩
    · obtain ⟨j, rfl⟩ : ∃ j, k = j + 1 := ⟨k - 1, by omega⟩
      obtain ⟨b, off, rfl, hbB, hc⟩ := HB.out (by rw [HN.out]; omega)
      have hcell := (hbw.out.cell (p := ⟨b, off + j, none⟩) hbB).trans (hc j (by rw [HN.out]; omega))
      have g1 : (0 : Int) ≤ (j : Int) := by omega
      have g2 : (j : Int) < (n : Int) := by omega
      have hx8 := at8_lt l j
      have HX := Lib.hid (numB_drop 7 l j (by rw [HN.out]; omega))
      have hv1 := HV.out j
      have hv2 := HV.out (j + 1)
      generalize numB 7 (l.drop (j + 1)) = y at *
      generalize at8 l j = x at *
      clear hc
      have e0 : IntKind.u64.wrap (x : Int) = (x : Int) := IntWalk.u64_in _ (by omega)
      go_wp2_with fail
      go_quiet (fail)
      go_wp2_with fail
      go_roundw
      case rel => exact ⟨j, by omega, rfl, by rw [HX.out]; exact congrArg _ (worth_step7 x y hx8 (by rw [← HX.out]; exact hv1)), Lib.hid (below_drewN hbw.out _)⟩
      case measure => simp [intOf]
theorem worth_step8 (x y : Nat) (hx : x < 256) (h : y * 2 ^ 8 + x % 2 ^ 8 < 18446744073709551616) : bits .or .u64 (IntKind.u64.wrap ((y : Int) * 256)) (bits .and .u64 (x : Int) 255) = ((y * 2 ^ 8 + x % 2 ^ 8 : Nat) : Int) := by
  have h1 : bits .and .u64 (x : Int) 255 = ((x % 2 ^ 8 : Nat) : Int) := by
    have := u64_and_nat x 255 (by omega) (by omega)
    rw [show (255 : Nat) = 2 ^ 8 - 1 from rfl, Nat.and_two_pow_sub_one_eq_mod] at this
    exact this
  have h2 : IntKind.u64.wrap ((y : Int) * 256) = ((y * 2 ^ 8 : Nat) : Int) := by
    rw [show (y : Int) * 256 = ((y * 2 ^ 8 : Nat) : Int) by omega]
    exact IntWalk.u64_in _ (by omega)
  rw [h1, h2, u64_or_nat _ _ (by omega) (by omega), Nat.or_comm, or_place (Nat.mod_lt _ (by decide)), Nat.add_comm]
set_option maxHeartbeats 2000000 in
theorem worth8_any (A : Option Addr) (l : List UInt8) (n cap : Nat) (w : World) (hb : Bytes w w.heap.size A l) (hn : l.length = n) (hnn : n ≤ 4611686018427387904) (hv : numB 8 l < 18446744073709551616) :
    Calls Tryd.prog 60 #[.slice A n cap, .int .i64 8] w fun e w' => e = .returned (.int .u64 ((numB 8 l : Nat) : Int)) ∧ Hid (Below w.heap.size w w') := by
  have HB := Lib.hid hb
  have HN := Lib.hid hn
  have HV := Lib.hid (fun k => Nat.lt_of_le_of_lt (numB_drop_le 8 l k) hv)
  clear hb hn hv
  go_enter Tryd.func60, Tryd.ntmps60
  go_wp2
  go_loopw [5, 6] (fun x i wr => ∃ k : Nat, k ≤ n ∧ i = .int .i64 ((k : Int) - 1) ∧ x = .int .u64 ((numB 8 (l.drop k) : Nat) : Int) ∧ Hid (Below w.heap.size w wr)) (fun _ i _ => (intOf i + 1).toNat)
  case atStart => exact ⟨n, Nat.le_refl _, by go_num, by rw [← HN.out]; simp [numB], Lib.hid (Below.refl _ _)⟩
  case round =>
    obtain ⟨k, hk, rfl, rfl, hbw⟩ := hrel
    by_cases h0 : k = 0
    · subst h0
      have g1 : ¬ (0 : Int) ≤ ((0 : Nat) : Int) - 1 := by omega
      go_wp2
      go_ret
      exact ⟨by simp, hbw⟩
    · obtain ⟨j, rfl⟩ : ∃ j, k = j + 1 := ⟨k - 1, by omega⟩
      obtain ⟨b, off, rfl, hbB, hc⟩ := HB.out (by rw [HN.out]; omega)
      have hcell := (hbw.out.cell (p := ⟨b, off + j, none⟩) hbB).trans (hc j (by rw [HN.out]; omega))
      have g1 : (0 : Int) ≤ (j : Int) := by omega
      have g2 : (j : Int) < (n : Int) := by omega
      have hx8 := at8_lt l j
      have HX := Lib.hid (numB_drop 8 l j (by rw [HN.out]; omega))
      have hv1 := HV.out j
      have hv2 := HV.out (j + 1)
      generalize numB 8 (l.drop (j + 1)) = y at *
      generalize at8 l j = x at *
      clear hc
      have e0 : IntKind.u64.wrap (x : Int) = (x : Int) := IntWalk.u64_in _ (by omega)
      go_wp2_with fail
      go_quiet (fail)
      go_wp2_with fail
      go_roundw
      case rel => exact ⟨j, by omega, rfl, by rw [HX.out]; exact congrArg _ (worth_step8 x y hx8 (by rw [← HX.out]; exact hv1)), Lib.hid (below_drewN hbw.out _)⟩
      case measure => simp [intOf]
end Go.Proofs.YtelbhlkojpnmgaaDoor
