/-
  What CodeTravels puts in, part by part, and how it is read again. Nothing here speaks of a program but the names it imports.
-/
import Derived.Test.YtelbhlkojpnmgaaDoorTexts
import Derived.Test.YtelbhlkojpnmgaaDoorGb
namespace Go.Proofs.YtelbhlkojpnmgaaDoor
set_option maxRecDepth 20000

theorem two56 (n : Nat) : 256 ^ n = 2 ^ (8 * n) := by rw [show (256 : Nat) = 2 ^ 8 from rfl, ← Nat.pow_mul]
theorem numLE_append (a b : List UInt8) : ∀ k, k ≤ a.length → numLE (a ++ b) k = numLE a k
  | 0, _ => rfl
  | k + 1, h => by
    rw [numLE, numLE, numLE_append a b k (by omega)]
    congr 2
    simp [List.getD, List.getElem?_append_left (show k < a.length by omega)]
theorem numLE_wide (x : Nat) : ∀ n, numLE (wideL x n) n = x % 2 ^ (8 * n)
  | 0 => by simp [numLE, Nat.mod_one]
  | n + 1 => by
    rw [numLE, wideL, numLE_append _ _ _ (Nat.le_of_eq (wideL_length x n).symm), numLE_wide x n]
    have e : (wideL x n ++ [UInt8.ofNat (x / 256 ^ n % 256)]).getD n 0 = UInt8.ofNat (x / 256 ^ n % 256) := by
      simp [List.getD, wideL_length]
    rw [e, UInt8.toNat_ofNat', Nat.mod_eq_of_lt (a := x / 256 ^ n % 256) (by omega), two56]
    have h1 : 2 ^ (8 * (n + 1)) = 2 ^ (8 * n) * 256 := by rw [Nat.mul_add, Nat.pow_add]
    rw [h1, Nat.mod_mul, Nat.mul_comm (x / 2 ^ (8 * n) % 256)]
theorem rWide_put (x n : Nat) (r : List UInt8) : rWide ⟨wideL x n ++ r, false⟩ n = (x % 2 ^ (8 * n), ⟨r, false⟩) := by
  unfold rWide
  rw [if_neg (by simp [wideL_length])]
  rw [List.take_left' (wideL_length x n), List.drop_left' (wideL_length x n), numLE_wide]
theorem rUint_put {x : Nat} (h : x < 18446744073709551616) (r : List UInt8) : rUint ⟨shortL x ++ r, false⟩ = (x, ⟨r, false⟩) := by
  have hp := parse_short h r
  have hpos := shortL_pos x
  rw [uint_some (by rw [hp]; simp only; omega), hp]
  simp
theorem rRaw_put (s r : List UInt8) : rRaw ⟨s ++ r, false⟩ (s.length : Int) = (s, ⟨r, false⟩) := by
  unfold rRaw
  rw [if_neg (by simp; omega)]
  simp
theorem rText_put (s r : List UInt8) (h : s.length < 18446744073709551616) : rText ⟨shortL s.length ++ s ++ r, false⟩ (s.length : Int) = (s, ⟨r, false⟩) := by
  have hp := parse_short h (s ++ r)
  have hpos := shortL_pos s.length
  rw [List.append_assoc, text_ok (by rw [hp]; simp only [List.length_append]; omega), hp]
  simp only [List.drop_left, List.take_left]
  rw [← List.drop_drop, List.drop_left, List.drop_left]
/-- The wide number that is read, put again. -/
theorem wideL_again (x n : Nat) : wideL (x % 2 ^ (8 * n)) n = wideL x n := by rw [← two56]; exact wideL_mod x n n (Nat.le_refl _)

def partN (l : List Nat) (k : Nat) : List UInt8 := if k < l.length then wideL (l.getD k 0) (2 ^ (k % 4)) ++ shortL (l.getD k 0) else []
def partT (ts : List ByteArray) (k : Nat) : List UInt8 := if k < ts.length then textL (ts.getD k ByteArray.empty) else []
def part (l : List Nat) (ts : List ByteArray) (k : Nat) : List UInt8 := partN l k ++ partT ts k
/-- m parts from k on. -/
def partsF (l : List Nat) (ts : List ByteArray) : Nat → Nat → List UInt8
  | _, 0 => []
  | k, m + 1 => part l ts k ++ partsF l ts (k + 1) m
theorem partsF_snoc (l : List Nat) (ts : List ByteArray) : ∀ m k, partsF l ts k (m + 1) = partsF l ts k m ++ part l ts (k + m)
  | 0, k => by simp [partsF]
  | m + 1, k => by
    rw [partsF, partsF_snoc l ts m (k + 1), partsF, List.append_assoc]
    congr 3
    omega
theorem part_len (l : List Nat) (ts : List ByteArray) (k : Nat) (hl : ∀ x ∈ l, x < 18446744073709551616) (ht : k < ts.length → (ts.getD k ByteArray.empty).size ≤ 10000) : (part l ts k).length ≤ 30000 := by
  unfold part
  rw [List.length_append]
  have h1 : (partN l k).length ≤ 20 := by
    unfold partN
    split
    · rename_i h
      have h2 := shortL_ten (hl _ (show l.getD k 0 ∈ l by rw [show l.getD k 0 = l[k] by simp [List.getD, h]]; exact List.getElem_mem h))
      have h3 : 2 ^ (k % 4) ≤ 8 := by
        have : k % 4 = 0 ∨ k % 4 = 1 ∨ k % 4 = 2 ∨ k % 4 = 3 := by omega
        rcases this with e | e | e | e <;> rw [e] <;> decide
      rw [List.length_append, wideL_length]
      omega
    · simp
  have h2 : (partT ts k).length ≤ 20200 := by
    unfold partT
    split
    · rename_i h
      have := textL_len (ts.getD k ByteArray.empty) (by have := ht h; omega)
      have := ht h
      omega
    · simp
  omega
end Go.Proofs.YtelbhlkojpnmgaaDoor
