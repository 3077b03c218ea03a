/-
  What a Reader's look at the short number in front does: it tells its worth and its groups, or noughts; it leaves all as it was. For at most 2^46 bytes.
-/
import Derived.Test.YtadpbcbgmopfaaaRd
namespace Go.Proofs.Ytadpbcbgmopfaaa
open Go.RowKit

theorem or_place {n x k : Nat} (h : n < 2 ^ k) : n ||| (x * 2 ^ k) = n + x * 2 ^ k := by
  rw [Nat.mul_comm, Nat.or_comm, ← Nat.two_pow_add_eq_or_of_lt h, Nat.add_comm]
theorem low7 (b : Nat) (hb : b < 256) : bits .andNot .u8 (b : Int) 128 = ((b % 128 : Nat) : Int) := by
  have h := u8_andNot_nat b 128 hb (by omega)
  rw [show 255 - 128 = 2 ^ 7 - 1 from rfl, Nat.and_two_pow_sub_one_eq_mod] at h
  exact h
theorem drop_cons_at {l : List UInt8} {i : Nat} (h : i < l.length) : l.drop i = l.getD i 0 :: l.drop (i + 1) := by
  rw [List.drop_eq_getElem_cons h]
  simp [List.getD, h]
/-- What one round makes of the shift there and back, in the walk's own spelling. -/
theorem fits_yes (g k : Nat) (h : g * 2 ^ (7 * k) < 18446744073709551616) :
    Op.shift .shl .u64 (g : Int) .i64 (7 * (k : Int)) = pure (.int .u64 ((g * 2 ^ (7 * k) : Nat) : Int)) ∧ Op.shift .shr .u64 ((g * 2 ^ (7 * k) : Nat) : Int) .i64 (7 * (k : Int)) = pure (.int .u64 (g : Int)) := by
  have ht : (7 * (k : Int)).toNat = 7 * k := by omega
  rw [shift_shl_any _ _ _ _ (by omega), shift_shr_any _ _ _ _ (by omega), ht]
  have hb : IntKind.u64.bits = 64 := rfl
  rw [hb, IntKind.wrap_u64]
  by_cases hk : 7 * k ≤ 64
  · rw [Nat.min_eq_left hk]
    have hp : 0 < (2 : Nat) ^ (7 * k) := Nat.two_pow_pos _
    have e : (g : Int) * 2 ^ (7 * k) = ((g * 2 ^ (7 * k) : Nat) : Int) := by simp
    have e2 : (2 : Int) ^ (7 * k) = ((2 ^ (7 * k) : Nat) : Int) := by simp
    rw [e, e2]
    refine ⟨by congr 2; omega, ?_⟩
    rw [← Int.natCast_ediv, Nat.mul_div_cancel _ hp]
  · rw [Nat.min_eq_right (by omega)]
    have hg : g = 0 := by
      rcases Nat.eq_zero_or_pos g with h0 | h0
      · exact h0
      · have h1 : 2 ^ 64 ≤ 2 ^ (7 * k) := Nat.pow_le_pow_right (by omega) (by omega)
        have h2 : 1 * 2 ^ (7 * k) ≤ g * 2 ^ (7 * k) := Nat.mul_le_mul_right _ h0
        omega
    subst hg
    simp
theorem fits_no (g k : Nat) (hg : g < 128) (h : 18446744073709551616 ≤ g * 2 ^ (7 * k)) :
    ∃ X Y : Int, Op.shift .shl .u64 (g : Int) .i64 (7 * (k : Int)) = pure (.int .u64 X) ∧ Op.shift .shr .u64 X .i64 (7 * (k : Int)) = pure (.int .u64 Y) ∧ ¬ Y = (g : Int) := by
  have ht : (7 * (k : Int)).toNat = 7 * k := by omega
  refine ⟨_, _, by rw [shift_shl_any _ _ _ _ (by omega)], by rw [shift_shr_any _ _ _ _ (by omega)], ?_⟩
  have hb : IntKind.u64.bits = 64 := rfl
  rw [ht, hb, IntKind.wrap_u64]
  by_cases hk : 7 * k ≤ 64
  · rw [Nat.min_eq_left hk]
    have e : (g : Int) * 2 ^ (7 * k) = ((g * 2 ^ (7 * k) : Nat) : Int) := by simp
    have e2 : (2 : Int) ^ (7 * k) = ((2 ^ (7 * k) : Nat) : Int) := by simp
    rw [e, e2]
    intro hc
    have h1 : (((g * 2 ^ (7 * k) : Nat) : Int)) % 18446744073709551616 = ((g * 2 ^ (7 * k) % 18446744073709551616 : Nat) : Int) := by omega
    rw [h1, ← Int.natCast_ediv] at hc
    have hc' : g * 2 ^ (7 * k) % 18446744073709551616 / 2 ^ (7 * k) = g := by exact_mod_cast hc
    have h2 : g * 2 ^ (7 * k) % 18446744073709551616 / 2 ^ (7 * k) * 2 ^ (7 * k) ≤ g * 2 ^ (7 * k) % 18446744073709551616 := Nat.div_mul_le_self _ _
    rw [hc'] at h2
    have := Nat.mod_lt (g * 2 ^ (7 * k)) (show 0 < 18446744073709551616 by omega)
    omega
  · rw [Nat.min_eq_right (by omega)]
    have h0 : g ≠ 0 := by rintro rfl; simp at h
    have e : (g : Int) * 2 ^ 64 % 18446744073709551616 = 0 := by omega
    rw [e]
    simp only [Int.zero_ediv]
    omega
theorem or_add {y g k : Nat} (hy : y < 2 ^ (7 * k)) (hy2 : y < 18446744073709551616) (h : g * 2 ^ (7 * k) < 18446744073709551616) :
    bits .or .u64 (y : Int) ((g * 2 ^ (7 * k) : Nat) : Int) = ((y + g * 2 ^ (7 * k) : Nat) : Int) := by
  rw [u64_or_nat _ _ hy2 h, or_place hy]
theorem or_bound {y g k : Nat} (hy : y < 2 ^ (7 * k)) (hg : g < 128) (hy2 : y < 18446744073709551616) (h : g * 2 ^ (7 * k) < 18446744073709551616) :
    y + g * 2 ^ (7 * k) < 2 ^ (7 * (k + 1)) ∧ y + g * 2 ^ (7 * k) < 18446744073709551616 := by
  have h1 : (g + 1) * 2 ^ (7 * k) ≤ 128 * 2 ^ (7 * k) := Nat.mul_le_mul_right _ (by omega)
  rw [Nat.add_mul] at h1
  have e : 2 ^ (7 * (k + 1)) = 128 * 2 ^ (7 * k) := by rw [Nat.mul_add, Nat.pow_add, Nat.mul_comm]
  refine ⟨by rw [e]; omega, ?_⟩
  rw [← or_place hy]
  exact Nat.or_lt_two_pow (n := 64) hy2 h
def ShortRel (l : List UInt8) (x i : Value) : Prop :=
  ∃ k y, k ≤ l.length ∧ i = .int .i64 (k : Nat) ∧ x = .int .u64 ((y : Nat) : Int) ∧ Hid (scan l 0 0 = scan (l.drop k) k y) ∧ Hid (y < 2 ^ (7 * k) ∧ y < 18446744073709551616)
set_option maxHeartbeats 400000 in
theorem short_any (q : Nat) (d : Option Nat) (l : List UInt8) (bad : Bool) (w : World) (h : Rd RdT w q d l bad) (hr : l.length ≤ 70368744177664) :
    Calls Try.prog 80 #[.pointer (some ⟨q, 0, none⟩)] w fun e w' => e = .returned (.tuple #[.int .u64 ((parse l).1 : Nat), .int .i64 ((parse l).2 : Nat)]) ∧ w = w' := by
  obtain ⟨A, cap, h1, h2, h3⟩ := h
  have HC : w.cell? ⟨q, 0, none⟩ = some (.slice A l.length cap) := by simpa using cell_plain h1 0
  have HB := Lib.hid h2.bytes
  clear h1 h2 h3
  go_enter Try.func80, Try.ntmps80
  go_wp2
  go_loop [4, 14] (fun x i => ShortRel l x i) (fun _ i => l.length - (intOf i).toNat)
  case atStart => exact ⟨0, 0, Nat.zero_le _, rfl, rfl, rfl, Lib.hid (by decide)⟩
  case round =>
    obtain ⟨k, y, hk, rfl, rfl, hsc, hy⟩ := hrel
    by_cases hlt : k < l.length
    · obtain ⟨b, off, rfl, _, hc⟩ := HB.out (by omega)
      have hcell := hc k hlt
      have hx := at8_lt l k
      have HS := Lib.hid (show scan (l.drop k) k y = _ by rw [drop_cons_at hlt, scan])
      rw [show (l.getD k 0).toNat = at8 l k from rfl] at HS
      generalize at8 l k = c at hcell hx HS
      clear hc
      have e1 := low7 c hx
      have hg : c % 128 < 128 := Nat.mod_lt _ (by omega)
      have hcg := Lib.hid (show c < 128 → c % 128 = c from Nat.mod_eq_of_lt)
      by_cases hf : c % 128 * 2 ^ (7 * k) < 18446744073709551616
      · obtain ⟨f1, f2⟩ := fits_yes (c % 128) k hf
        have f3 := or_add hy.out.1 hy.out.2 hf
        have F4 := Lib.hid (or_bound hy.out.1 hg hy.out.2 hf)
        have F5 := Lib.hid hf
        rw [if_neg (by omega)] at HS
        clear hf
        generalize c % 128 = g at *
        generalize hN : g * 2 ^ (7 * k) = N at *
        have HN := Lib.hid hN
        clear hN
        generalize hz : y + N = z at *
        clear hz
        by_cases hm : 128 ≤ c
        · have hm' : (128 : Int) ≤ (c : Int) := by omega
          have HS2 := Lib.hid (show scan l 0 0 = scan (l.drop (k + 1)) (k + 1) z by rw [hsc.out, HS.out, if_pos hm])
          clear hm hsc HS hy
          go_wp2
          go_round
          case rel => exact ⟨k + 1, z, by omega, by go_num, rfl, HS2, F4⟩
          case measure => simp [intOf]; omega
        · have hm' : ¬ (128 : Int) ≤ (c : Int) := by omega
          by_cases h0 : c = 0 ∧ 0 < k
          · have HP := Lib.hid (show parse l = (0, 0) by unfold parse; rw [hsc.out, HS.out, if_neg hm, if_pos h0]; rfl)
            obtain ⟨rfl, hk0⟩ := h0
            have hk1 : (0 : Int) < (k : Int) := by omega
            obtain rfl : g = 0 := (hcg.out (by omega)).symm ▸ rfl
            obtain rfl : N = 0 := by have hh := HN.out; simpa using hh.symm
            rw [show ((0 : Nat) : Int) = 0 from rfl] at e1 f1 f2 f3
            clear hm hsc HS hy hk0
            go_wp2
            go_ret2
            exact ⟨by rw [HP.out]; rfl, rfl⟩
          · have HP := Lib.hid (show parse l = (z, k + 1) by unfold parse; rw [hsc.out, HS.out, if_neg hm, if_neg h0]; rfl)
            clear hm hsc HS hy
            by_cases hc0 : c = 0
            · subst hc0
              have hk1 : ¬ (0 : Int) < (k : Int) := by omega
              obtain rfl : g = 0 := (hcg.out (by omega)).symm ▸ rfl
              obtain rfl : N = 0 := by have hh := HN.out; simpa using hh.symm
              rw [show ((0 : Nat) : Int) = 0 from rfl] at e1 f1 f2 f3
              clear h0
              go_wp2
              go_ret2
              exact ⟨by rw [HP.out]; rfl, rfl⟩
            · have hc1 : ¬ (c : Int) = 0 := by omega
              clear h0
              go_wp2
              go_ret2
              exact ⟨by rw [HP.out]; rfl, rfl⟩
      · obtain ⟨X, Y, f1, f2, f3⟩ := fits_no (c % 128) k hg (by omega)
        have HP := Lib.hid (show parse l = (0, 0) by unfold parse; rw [hsc.out, HS.out, if_pos (by omega)]; rfl)
        clear hf HS hsc
        generalize c % 128 = g at *
        go_wp2
        go_ret2
        exact ⟨by rw [HP.out]; rfl, rfl⟩
    · have HP := Lib.hid (show parse l = (0, 0) by unfold parse; rw [hsc.out, List.drop_of_length_le (by omega)]; rfl)
      go_wp2
      go_ret2
      exact ⟨by rw [HP.out]; rfl, rfl⟩
end Go.Proofs.Ytadpbcbgmopfaaa
