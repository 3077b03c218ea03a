/-
  How short numbers are read. Nothing here speaks of a program.
-/
import Derived.Test.YtadpbcbgmopfaaaNum
namespace Go.Proofs.Ytadpbcbgmopfaaa
/-- A short number read from place i on, x being what was read so far: its worth, and how many bytes it has. -/
def scan : List UInt8 → Nat → Nat → Option (Nat × Nat)
  | [], _, _ => none
  | b :: r, i, x =>
    if 18446744073709551616 ≤ b.toNat % 128 * 2 ^ (7 * i) then none
    else if 128 ≤ b.toNat then scan r (i + 1) (x + b.toNat % 128 * 2 ^ (7 * i))
    else if b.toNat = 0 ∧ 0 < i then none
    else some (x + b.toNat % 128 * 2 ^ (7 * i), i + 1)
/-- The short number in front: its worth, and how many bytes it has; noughts where there is none. -/
def parse (l : List UInt8) : Nat × Nat := (scan l 0 0).getD (0, 0)
theorem scan_le {l : List UInt8} {i x y n : Nat} (h : scan l i x = some (y, n)) : i < n ∧ n ≤ i + l.length := by
  induction l generalizing i x with
  | nil => cases h
  | cons b r ih =>
    rw [scan] at h
    split at h
    · cases h
    · split at h
      · have := ih h
        simp only [List.length_cons]
        omega
      · split at h
        · cases h
        · cases h
          simp
theorem parse_le (l : List UInt8) : (parse l).2 ≤ l.length := by
  unfold parse
  cases h : scan l 0 0 with
  | none => simp
  | some p =>
    obtain ⟨y, n⟩ := p
    have := scan_le h
    simp
    omega
theorem scan_lt {l : List UInt8} {i x y n : Nat} (hx : x < 2 ^ (7 * i)) (hx2 : x < 18446744073709551616) (h : scan l i x = some (y, n)) : y < 18446744073709551616 := by
  induction l generalizing i x with
  | nil => cases h
  | cons b r ih =>
    rw [scan] at h
    split at h
    · cases h
    · rename_i hf
      have hb : x + b.toNat % 128 * 2 ^ (7 * i) < 2 ^ (7 * (i + 1)) ∧ x + b.toNat % 128 * 2 ^ (7 * i) < 18446744073709551616 := by
        have h1 : (b.toNat % 128 + 1) * 2 ^ (7 * i) ≤ 128 * 2 ^ (7 * i) := Nat.mul_le_mul_right _ (by omega)
        rw [Nat.add_mul] at h1
        have e : 2 ^ (7 * (i + 1)) = 128 * 2 ^ (7 * i) := by rw [Nat.mul_add, Nat.pow_add, Nat.mul_comm]
        refine ⟨by rw [e]; omega, ?_⟩
        have e2 : x + b.toNat % 128 * 2 ^ (7 * i) = x ||| (b.toNat % 128 * 2 ^ (7 * i)) := by
          rw [Nat.mul_comm, Nat.or_comm, ← Nat.two_pow_add_eq_or_of_lt hx, Nat.add_comm]
        rw [e2]
        exact Nat.or_lt_two_pow (n := 64) hx2 (by omega)
      split at h
      · exact ih hb.1 hb.2 h
      · split at h
        · cases h
        · cases h
          exact hb.2
theorem parse_lt (l : List UInt8) : (parse l).1 < 18446744073709551616 := by
  unfold parse
  cases h : scan l 0 0 with
  | none => simp
  | some p =>
    obtain ⟨y, n⟩ := p
    exact scan_lt (by decide) (by decide) h
/-- The first k bytes of a row, as a number, the lowest first. -/
def numLE (l : List UInt8) : Nat → Nat
  | 0 => 0
  | k + 1 => numLE l k + (l.getD k 0).toNat * 2 ^ (8 * k)
theorem numLE_lt (l : List UInt8) (k : Nat) : numLE l k < 2 ^ (8 * k) := by
  induction k with
  | zero => simp [numLE]
  | succ k ih =>
    have h := (l.getD k 0).toNat_lt
    have h1 : ((l.getD k 0).toNat + 1) * 2 ^ (8 * k) ≤ 256 * 2 ^ (8 * k) := Nat.mul_le_mul_right _ (by omega)
    rw [numLE, show 8 * (k + 1) = 8 + 8 * k by omega, Nat.pow_add]
    rw [Nat.add_mul] at h1
    omega

/-! A Reader: what is left, and whether there was a fault. -/
structure RS where
  l : List UInt8
  bad : Bool
deriving DecidableEq
def rUint (s : RS) : Nat × RS := if s.bad = true ∨ (parse s.l).2 = 0 then (0, ⟨s.l, true⟩) else ((parse s.l).1, ⟨s.l.drop (parse s.l).2, false⟩)
def rRaw (s : RS) (n : Int) : List UInt8 × RS := if s.bad = true ∨ n < 0 ∨ (s.l.length : Int) < n then ([], ⟨s.l, true⟩) else (s.l.take n.toNat, ⟨s.l.drop n.toNat, false⟩)
def rText (s : RS) (most : Int) : List UInt8 × RS :=
  if s.bad = true ∨ (parse s.l).2 = 0 ∨ most < 0 ∨ most < ((parse s.l).1 : Int) ∨ s.l.length < (parse s.l).2 + (parse s.l).1 then ([], ⟨s.l, true⟩)
  else ((s.l.drop (parse s.l).2).take (parse s.l).1, ⟨s.l.drop ((parse s.l).2 + (parse s.l).1), false⟩)
def rWide (s : RS) (n : Nat) : Nat × RS := if s.bad = true ∨ s.l.length < n then (0, ⟨s.l, true⟩) else (numLE (s.l.take n) n, ⟨s.l.drop n, false⟩)
def rEnd (s : RS) : RS := ⟨s.l, s.bad || !s.l.isEmpty⟩
theorem rWide_lt (s : RS) (n : Nat) : (rWide s n).1 < 2 ^ (8 * n) := by
  unfold rWide
  split
  · exact Nat.two_pow_pos _
  · exact numLE_lt _ _
end Go.Proofs.Ytadpbcbgmopfaaa
