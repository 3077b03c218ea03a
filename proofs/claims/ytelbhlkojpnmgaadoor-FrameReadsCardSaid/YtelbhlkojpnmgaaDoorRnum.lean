/-
  The document's own Reader: how long the short number in front is; what bytes are worth. Pure part.
-/
import Derived.Test.YtelbhlkojpnmgaaDoorTrav
namespace Go.Proofs.YtelbhlkojpnmgaaDoor
set_option maxRecDepth 20000

/-- What bytes are worth, the lowest first, of b bits each. -/
def numB (b : Nat) : List UInt8 → Nat
  | [] => 0
  | c :: r => numB b r * 2 ^ b + c.toNat % 2 ^ b
theorem numB_drop (b : Nat) (l : List UInt8) (k : Nat) (hk : k < l.length) : numB b (l.drop k) = numB b (l.drop (k + 1)) * 2 ^ b + at8 l k % 2 ^ b := by
  rw [List.drop_eq_getElem_cons hk, numB, at8]
  congr 2
  simp [List.getD, hk]
theorem numB_drop_le (b : Nat) (l : List UInt8) : ∀ k, numB b (l.drop k) ≤ numB b l := by
  induction l with
  | nil => intro k; simp
  | cons c r ih =>
    intro k
    cases k with
    | zero => exact Nat.le_refl _
    | succ k =>
      rw [List.drop_succ_cons]
      have h1 := ih k
      have h2 : numB b r ≤ numB b r * 2 ^ b := Nat.le_mul_of_pos_right _ (Nat.two_pow_pos b)
      rw [numB]
      omega
theorem numLE_cons (c : UInt8) (r : List UInt8) : ∀ k, numLE (c :: r) (k + 1) = c.toNat + 256 * numLE r k
  | 0 => by simp [numLE]
  | k + 1 => by
    rw [numLE, numLE_cons c r k, numLE]
    have e1 : (c :: r).getD (k + 1) 0 = r.getD k 0 := rfl
    have e2 : 2 ^ (8 * (k + 1)) = 2 ^ (8 * k) * 256 := by rw [Nat.mul_add, Nat.pow_add]
    rw [e1, e2, ← Nat.mul_assoc, Nat.mul_add]
    generalize (r.getD k 0).toNat * 2 ^ (8 * k) = y
    omega
theorem numB8 : ∀ (l : List UInt8), numB 8 l = numLE l l.length
  | [] => rfl
  | c :: r => by
    rw [List.length_cons, numLE_cons, numB, numB8 r, Nat.mod_eq_of_lt c.toNat_lt]
    omega
theorem scan_worth : ∀ (l : List UInt8) (i x y n : Nat), scan l i x = some (y, n) → y = x + numB 7 (l.take (n - i)) * 2 ^ (7 * i)
  | [], _, _, _, _, h => by cases h
  | b :: r, i, x, y, n, h => by
    have hle := scan_le h
    rw [scan] at h
    split at h
    · cases h
    · split at h
      · have h2 := scan_worth r (i + 1) _ y n h
        have h3 := scan_le h
        have e : n - i = (n - (i + 1)) + 1 := by omega
        rw [e, List.take_succ_cons, numB, h2]
        have e2 : 2 ^ (7 * (i + 1)) = 2 ^ 7 * 2 ^ (7 * i) := by rw [← Nat.pow_add]; congr 1; omega
        rw [e2, Nat.add_mul, ← Nat.mul_assoc]
        show x + b.toNat % 128 * 2 ^ (7 * i) + _ = _
        rw [show (2 : Nat) ^ 7 = 128 from rfl]
        omega
      · split at h
        · cases h
        · rename_i h1 h2
          simp only [Option.some.injEq, Prod.mk.injEq] at h
          obtain ⟨rfl, rfl⟩ := h
          rw [show i + 1 - i = 1 by omega, List.take_succ_cons, List.take_zero, numB, numB, Nat.zero_mul, Nat.zero_add, show (2 : Nat) ^ 7 = 128 from rfl]
theorem parse_worth (l : List UInt8) : (parse l).1 = numB 7 (l.take (parse l).2) := by
  unfold parse
  cases h : scan l 0 0 with
  | none => simp [numB]
  | some p =>
    obtain ⟨y, n⟩ := p
    have := scan_worth l 0 0 y n h
    simpa using this
theorem scan_far : ∀ (l : List UInt8) (i x : Nat), 10 ≤ i → scan l i x = none
  | [], _, _, _ => rfl
  | b :: r, i, x, h => by
    rw [scan]
    split
    · rfl
    · rename_i ho
      have hp : 2 ^ 70 ≤ 2 ^ (7 * i) := Nat.pow_le_pow_right (by decide) (by omega)
      have h0 : b.toNat % 128 = 0 := by
        rcases Nat.eq_zero_or_pos (b.toNat % 128) with h0 | h0
        · exact h0
        · have := Nat.mul_le_mul h0 hp
          omega
      have hb := b.toNat_lt
      by_cases h1 : 128 ≤ b.toNat
      · rw [if_pos h1]
        exact scan_far r (i + 1) _ (by omega)
      · rw [if_neg h1, if_pos ⟨by omega, by omega⟩]
/-- k bytes at the front go on: the short number's reading stands behind them. -/
def Goes (l : List UInt8) (k : Nat) : Prop := ∃ x, scan l 0 0 = scan (l.drop k) k x
theorem small_place {g k : Nat} (hg : g < 128) (hk : k ≤ 8) : g * 2 ^ (7 * k) < 18446744073709551616 := by
  have h1 : 2 ^ (7 * k) ≤ 2 ^ 56 := Nat.pow_le_pow_right (by decide) (by omega)
  have h2 : g * 2 ^ (7 * k) ≤ 127 * 2 ^ 56 := Nat.mul_le_mul (by omega) h1
  omega
theorem Goes.zero (l : List UInt8) : Goes l 0 := ⟨0, by simp⟩
theorem Goes.next {l : List UInt8} {k : Nat} (h : Goes l k) (hk : k < l.length) (h10 : k < 10) (hb : 128 ≤ at8 l k) : Goes l (k + 1) := by
  obtain ⟨x, h⟩ := h
  rw [List.drop_eq_getElem_cons hk, scan] at h
  have e : (l[k]).toNat = at8 l k := by simp [at8, List.getD, hk]
  rw [e] at h
  by_cases ho : 18446744073709551616 ≤ at8 l k % 128 * 2 ^ (7 * k)
  · rw [if_pos ho] at h
    have hk9 : k = 9 := by
      by_cases h9 : k = 9
      · exact h9
      · have := small_place (g := at8 l k % 128) (k := k) (by omega) (by omega); omega
    subst hk9
    exact ⟨0, by rw [h, scan_far _ _ _ (by omega)]⟩
  · rw [if_neg ho, if_pos hb] at h
    exact ⟨_, h⟩
theorem Goes.none_ {l : List UInt8} {k : Nat} (h : Goes l k) (hk : l.length ≤ k ∨ 10 ≤ k) : (parse l).2 = 0 := by
  obtain ⟨x, h⟩ := h
  unfold parse
  rw [h]
  rcases hk with hk | hk
  · rw [List.drop_eq_nil_of_le hk]; rfl
  · rw [scan_far _ _ _ hk]; rfl
theorem Goes.ends {l : List UInt8} {k : Nat} (h : Goes l k) (hk : k < l.length) (h10 : k < 10) (hb : at8 l k < 128) : (parse l).2 = if (0 < k ∧ at8 l k = 0) ∨ (k = 9 ∧ 1 < at8 l k) then 0 else k + 1 := by
  obtain ⟨x, h⟩ := h
  rw [List.drop_eq_getElem_cons hk, scan] at h
  have e : (l[k]).toNat = at8 l k := by simp [at8, List.getD, hk]
  rw [e, Nat.mod_eq_of_lt hb] at h
  unfold parse
  rw [h]
  by_cases h9 : k = 9
  · subst h9
    have e2 : (2 : Nat) ^ (7 * 9) = 9223372036854775808 := by decide
    rw [e2]
    by_cases h1 : 1 < at8 l 9
    · rw [if_pos (by omega), if_pos (.inr ⟨rfl, h1⟩)]; rfl
    · rw [if_neg (by omega), if_neg (by omega)]
      by_cases h0 : at8 l 9 = 0
      · rw [if_pos ⟨h0, by omega⟩, if_pos (.inl ⟨by omega, h0⟩)]; rfl
      · rw [if_neg (by omega), if_neg (by omega)]; rfl
  · have hs := small_place hb (show k ≤ 8 by omega)
    rw [if_neg (by omega), if_neg (by omega)]
    by_cases h0 : at8 l k = 0 ∧ 0 < k
    · rw [if_pos h0, if_pos (.inl ⟨h0.2, h0.1⟩)]; rfl
    · rw [if_neg h0, if_neg (by omega)]; rfl
end Go.Proofs.YtelbhlkojpnmgaaDoor
