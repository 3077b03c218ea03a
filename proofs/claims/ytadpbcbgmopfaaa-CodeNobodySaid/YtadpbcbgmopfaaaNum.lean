/-
  Plain numbers as bytes: wide and short ones, and how short ones are read. Nothing here speaks of a program.
-/
import Derived.Test.YtadpbcbgmopfaaaProg
namespace Go.Proofs.Ytadpbcbgmopfaaa

/-- The lowest n bytes of x, the lowest first. -/
def wideL (x : Nat) : Nat → List UInt8
  | 0 => []
  | n + 1 => wideL x n ++ [UInt8.ofNat (x / 256 ^ n % 256)]
theorem wideL_length (x n : Nat) : (wideL x n).length = n := by
  induction n with
  | zero => rfl
  | succ n ih => simp [wideL, ih]
/-- A short number. -/
def shortL (x : Nat) : List UInt8 := if x < 128 then [UInt8.ofNat x] else UInt8.ofNat (x % 128 + 128) :: shortL (x / 128)
termination_by x
decreasing_by omega
theorem shortL_last {x : Nat} (h : x < 128) : shortL x = [UInt8.ofNat x] := by rw [shortL, if_pos h]
theorem shortL_more {x : Nat} (h : ¬ x < 128) : shortL x = UInt8.ofNat (x % 128 + 128) :: shortL (x / 128) := by rw [shortL, if_neg h]
theorem shortL_pos (x : Nat) : 0 < (shortL x).length := by
  by_cases h : x < 128
  · rw [shortL_last h]; simp
  · rw [shortL_more h]; simp
theorem shortL_le (k x : Nat) (h : x < 128 ^ (k + 1)) : (shortL x).length ≤ k + 1 := by
  induction k generalizing x with
  | zero => rw [shortL_last (by simpa using h)]; simp
  | succ k ih =>
    by_cases h1 : x < 128
    · rw [shortL_last h1]; simp
    · rw [shortL_more h1]
      have := ih (x / 128) (by rw [Nat.pow_succ] at h; omega)
      simp; omega
theorem shortL_ten {x : Nat} (h : x < 18446744073709551616) : (shortL x).length ≤ 10 := shortL_le 9 x (by omega)
def shortsL (l : List Nat) : List UInt8 := (l.map shortL).flatten
theorem shortsL_take (l : List Nat) (k : Nat) (hk : k < l.length) : shortsL (l.take (k + 1)) = shortsL (l.take k) ++ shortL (l.getD k 0) := by
  unfold shortsL
  rw [List.take_add_one, List.getElem?_eq_getElem hk, List.map_append, List.flatten_append]
  simp [List.getD, hk]
theorem shortsL_le (l : List Nat) (h : ∀ x ∈ l, x < 18446744073709551616) : (shortsL l).length ≤ 10 * l.length := by
  induction l with
  | nil => simp [shortsL]
  | cons x l ih =>
    have h1 := ih fun y hy => h y (by simp [hy])
    have h2 := shortL_ten (h x (by simp))
    simp only [shortsL, List.map_cons, List.flatten_cons, List.length_append, List.length_cons] at h1 ⊢
    omega
end Go.Proofs.Ytadpbcbgmopfaaa
