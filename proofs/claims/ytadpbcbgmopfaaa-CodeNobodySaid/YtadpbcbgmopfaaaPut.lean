/-
  The statements' own put: a wide number of 1, 2, 4 or 8 bytes. No condition.
-/
import Derived.Test.YtadpbcbgmopfaaaAts
namespace Go.Proofs.Ytadpbcbgmopfaaa
open Go.RowKit

theorem wideL_mod (x : Nat) (N : Nat) : ∀ n, n ≤ N → wideL (x % 256 ^ N) n = wideL x n := by
  intro n
  induction n with
  | zero => intro _; rfl
  | succ n ih =>
    intro h
    rw [wideL, wideL, ih (by omega)]
    congr 3
    have e : 256 ^ N = 256 ^ n * 256 ^ (N - n) := by rw [← Nat.pow_add]; congr 1; omega
    rw [e, Nat.mod_mul_right_div_self]
    obtain ⟨m, hm⟩ : ∃ m, N - n = m + 1 := ⟨N - n - 1, by omega⟩
    rw [hm, Nat.pow_succ, Nat.mul_comm, Nat.mod_mul_right_mod]
theorem i64_and3 (n : Int) : bits .and .i64 n 3 = n % 4 := by
  have h3 : (BitVec.ofInt 64 3).toNat = 2 ^ 2 - 1 := by decide
  have key : (BitVec.ofInt 64 n &&& BitVec.ofInt 64 3).toNat = (n % ((2 ^ 64 : Nat) : Int)).toNat % 2 ^ 2 := by
    rw [BitVec.toNat_and, BitVec.toNat_ofInt, h3, Nat.and_two_pow_sub_one_eq_mod]
  show IntKind.i64.wrap ((BitVec.ofInt 64 n &&& BitVec.ofInt 64 3).toNat : Nat) = n % 4
  rw [key, IntKind.wrap_i64]
  omega
set_option maxHeartbeats 800000 in
theorem putw_at {B : Nat} {w0 W : World} {p : Nat} {g : Option Nat} {l : List UInt8} (h : WS B w0 W p g l) (x s : Nat) (hs : s < 4) (hr : l.length ≤ 35184372088832) :
    Calls Try.prog 17 #[.pointer (some ⟨p, 0, none⟩), .int .u64 (x : Int), .int .i64 (s : Int)] W (WsE B w0 W p g (l ++ wideL x (2 ^ s))) := by
  have HO := Lib.hid h
  clear h
  have hc : s = 0 ∨ s = 1 ∨ s = 2 ∨ s = 3 := by omega
  rcases hc with rfl | rfl | rfl | rfl
  · have HE := Lib.hid (wideL_mod x 1 1 (Nat.le_refl _))
    have H := Lib.hid (wu8_any p g l (x % 256) W (Nat.mod_lt _ (by omega)) HO.out.wr (by omega))
    rw [Int.natCast_emod] at H
    clear hs
    go_enter Try.func17, Try.ntmps17
    go_wp2_with fail
    refine H.out.mono ?_
    rintro e w1 ⟨rfl, hw⟩
    have H1 := Lib.hid hw
    clear hw
    go_wp2
    go_end0
    have h1 := H1.out
    rw [show (256 : Nat) = 256 ^ 1 from rfl, HE.out] at h1
    exact WsE.of HO.out ⟨rfl, h1⟩
  · have HE := Lib.hid (wideL_mod x 2 2 (Nat.le_refl _))
    have H := Lib.hid (wu16_any p g l (x % 65536) W (Nat.mod_lt _ (by omega)) HO.out.wr (by omega))
    rw [Int.natCast_emod] at H
    clear hs
    go_enter Try.func17, Try.ntmps17
    go_wp2_with fail
    refine H.out.mono ?_
    rintro e w1 ⟨rfl, hw⟩
    have H1 := Lib.hid hw
    clear hw
    go_wp2
    go_end0
    have h1 := H1.out
    rw [show (65536 : Nat) = 256 ^ 2 from rfl, HE.out] at h1
    exact WsE.of HO.out ⟨rfl, h1⟩
  · have HE := Lib.hid (wideL_mod x 4 4 (Nat.le_refl _))
    have H := Lib.hid (wu32_any p g l (x % 4294967296) W (Nat.mod_lt _ (by omega)) HO.out.wr (by omega))
    rw [Int.natCast_emod] at H
    clear hs
    go_enter Try.func17, Try.ntmps17
    go_wp2_with fail
    refine H.out.mono ?_
    rintro e w1 ⟨rfl, hw⟩
    have H1 := Lib.hid hw
    clear hw
    go_wp2
    go_end0
    have h1 := H1.out
    rw [show (4294967296 : Nat) = 256 ^ 4 from rfl, HE.out] at h1
    exact WsE.of HO.out ⟨rfl, h1⟩
  · have H := Lib.hid (wu64_any p g l x W HO.out.wr (by omega))
    clear hs
    go_enter Try.func17, Try.ntmps17
    go_wp2_with fail
    refine H.out.mono ?_
    rintro e w1 ⟨rfl, hw⟩
    have H1 := Lib.hid hw
    clear hw
    go_wp2
    go_end0
    exact WsE.of HO.out ⟨rfl, H1.out⟩
end Go.Proofs.Ytadpbcbgmopfaaa
