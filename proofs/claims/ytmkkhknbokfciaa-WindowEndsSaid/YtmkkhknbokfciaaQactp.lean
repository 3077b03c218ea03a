/-
  What the law's act promises. No condition.
-/
import Derived.Test.YtmkkhknbokfciaaQside
namespace Go.Proofs.Ytmkkhknbokfciaa
open Go.RowKit

/-- What act promises: it answers true, and both sides are as they may be. -/
def ActE (G B : Nat) (bs : List (List UInt8)) (w : World) (e : Ending) (w' : World) : Prop :=
  e = .returned (.bool true) ∧ ∃ s', Hid (Side G B s' w') ∧ Hid (Inv7 bs s') ∧ Hid (Below B w w')
theorem actE_of {G B : Nat} {bs : List (List UInt8)} {w : World} {e : Ending} {w' : World} (h1 : e = .returned (.bool true)) (h2 : ∃ s', Side G B s' w' ∧ Inv7 bs s' ∧ Below B w w') : ActE G B bs w e w' := by
  obtain ⟨s', h3, h4, h5⟩ := h2
  exact ⟨h1, s', Lib.hid h3, Lib.hid h4, Lib.hid h5⟩
theorem i64_andQ (n : Int) : bits .and .i64 n 65535 = n % 65536 := by
  have h3 : (BitVec.ofInt 64 65535).toNat = 2 ^ 16 - 1 := by decide
  have key : (BitVec.ofInt 64 n &&& BitVec.ofInt 64 65535).toNat = (n % ((2 ^ 64 : Nat) : Int)).toNat % 2 ^ 16 := by
    rw [BitVec.toNat_and, BitVec.toNat_ofInt, h3, Nat.and_two_pow_sub_one_eq_mod]
  show IntKind.i64.wrap ((BitVec.ofInt 64 n &&& BitVec.ofInt 64 65535).toNat : Nat) = n % 65536
  rw [key, IntKind.wrap_i64]
  omega
theorem cop_pos {A : Option Addr} {w : World} {base n cap : Nat} {cs : List (Nat × List UInt8)} (h : GR tCop 2 w base A n cap (copVs cs)) {k : Nat} (hk : k < n) : ∃ b, A = some ⟨b, 0, none⟩ ∧ w.cell? ⟨b, k * 2, none⟩ = some (.int .u64 ((copK cs k).1 : Nat)) ∧ w.cell? ⟨b, k * 2 + 1, none⟩ = some (strV (copK cs k).2) ∧ w.cell? ⟨b, 0 + k * 2, none⟩ = some (.int .u64 ((copK cs k).1 : Nat)) ∧ w.cell? ⟨b, 0 + k * 2 + 1, none⟩ = some (strV (copK cs k).2) := by
  have hl : cs.length = n := by have := h.len; rw [copVs_length] at this; omega
  rcases h.form with ⟨_, h0, _⟩ | ⟨g, rfl, _, _⟩
  · omega
  · obtain ⟨h1, h2⟩ := copVs_get (cs := cs) (k := k) (by omega)
    have c1 := ((h.cells rfl).2 _ _ h1).1
    have c2 := ((h.cells rfl).2 _ _ h2).1
    rw [Nat.zero_add]
    exact ⟨g, rfl, c1, c2, c1, c2⟩
theorem rem_nat (u m : Nat) : (u : Int).tmod (m : Int) = ((u % m : Nat) : Int) := by
  rw [Int.tmod_eq_emod_of_nonneg (by omega)]
  simp
end Go.Proofs.Ytmkkhknbokfciaa
