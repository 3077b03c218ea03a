/-
  Short numbers have one form: what was written is read; what is read would be written; no beginning is one; unlike rows are apart. Nothing here speaks of a program.
-/
import Derived.Test.YtadpbcbgmopfaaaScan
namespace Go.Proofs.Ytadpbcbgmopfaaa

theorem toNat_lo {x : Nat} (h : x < 256) : (UInt8.ofNat x).toNat = x := by rw [UInt8.toNat_ofNat']; omega
theorem pow_next (i : Nat) : 2 ^ (7 * (i + 1)) = 128 * 2 ^ (7 * i) := by rw [Nat.mul_add, Nat.pow_add, Nat.mul_comm]
theorem split128 (x p : Nat) : x % 128 * p + x / 128 * (128 * p) = x * p := by
  have h : x / 128 * (128 * p) = (128 * (x / 128)) * p := by rw [Nat.mul_comm 128 (x / 128), Nat.mul_assoc]
  rw [h, ← Nat.add_mul]
  congr 1
  omega
theorem scan_short (x : Nat) : ∀ (i y : Nat) (r : List UInt8), x * 2 ^ (7 * i) < 18446744073709551616 → (0 < i → 0 < x) → scan (shortL x ++ r) i y = some (y + x * 2 ^ (7 * i), i + (shortL x).length) := by
  induction x using Nat.strongRecOn with
  | _ x ih =>
    intro i y r hf hp
    by_cases h : x < 128
    · rw [shortL_last h]
      rw [List.singleton_append, scan, toNat_lo (by omega), Nat.mod_eq_of_lt h, if_neg (by omega), if_neg (by omega), if_neg (by omega)]
      rfl
    · rw [shortL_more h, List.cons_append, scan, toNat_lo (by omega), show (x % 128 + 128) % 128 = x % 128 by omega]
      have hs := split128 x (2 ^ (7 * i))
      have hq := ih (x / 128) (by omega) (i + 1) (y + x % 128 * 2 ^ (7 * i)) r (by rw [pow_next]; omega) (fun _ => by omega)
      rw [if_neg (by omega), if_pos (by omega), hq, pow_next]
      simp only [List.length_cons, Option.some.injEq, Prod.mk.injEq]
      omega
theorem parse_short {x : Nat} (h : x < 18446744073709551616) (r : List UInt8) : parse (shortL x ++ r) = (x, (shortL x).length) := by
  unfold parse
  rw [scan_short x 0 0 r (by simpa using h) (fun h => absurd h (by omega))]
  simp
theorem scan_form : ∀ (l : List UInt8) (i y z n : Nat), scan l i y = some (z, n) → ∃ x, z = y + x * 2 ^ (7 * i) ∧ (0 < i → 0 < x) ∧ n = i + (shortL x).length ∧ l.take (shortL x).length = shortL x
  | [], _, _, _, _, h => by cases h
  | b :: r, i, y, z, n, h => by
    have hb := b.toNat_lt
    rw [scan] at h
    split at h
    · cases h
    · split at h
      · rename_i hm
        obtain ⟨x, h1, h2, h3, h4⟩ := scan_form r (i + 1) _ z n h
        have hx := h2 (by omega)
        refine ⟨b.toNat % 128 + 128 * x, ?_, fun _ => by omega, ?_, ?_⟩
        · rw [h1, pow_next, Nat.add_mul]
          have : x * (128 * 2 ^ (7 * i)) = 128 * x * 2 ^ (7 * i) := by rw [Nat.mul_comm 128 x, Nat.mul_assoc]
          omega
        · rw [shortL_more (by omega), show (b.toNat % 128 + 128 * x) / 128 = x by omega, List.length_cons]
          omega
        · rw [shortL_more (by omega), show (b.toNat % 128 + 128 * x) / 128 = x by omega, List.length_cons, List.take_succ_cons, h4]
          congr 1
          rw [show (b.toNat % 128 + 128 * x) % 128 + 128 = b.toNat by omega]
          simp
      · split at h
        · cases h
        · rename_i hm h0
          cases h
          refine ⟨b.toNat, by rw [Nat.mod_eq_of_lt (by omega)], fun hi => by omega, ?_, ?_⟩
          · rw [shortL_last (by omega)]; rfl
          · rw [shortL_last (by omega)]
            simp
/-- What is read has one form. -/
theorem parse_form (l : List UInt8) (h : (parse l).2 ≠ 0) : (parse l).2 = (shortL (parse l).1).length ∧ l.take (parse l).2 = shortL (parse l).1 := by
  unfold parse at *
  cases hs : scan l 0 0 with
  | none => rw [hs] at h; exact absurd rfl h
  | some p =>
    obtain ⟨z, n⟩ := p
    obtain ⟨x, h1, _, h3, h4⟩ := scan_form l 0 0 z n hs
    have hz : z = x := by simpa using h1
    subst hz
    have hn : n = (shortL z).length := by simpa using h3
    subst hn
    exact ⟨rfl, h4⟩
theorem scan_highs : ∀ (l : List UInt8) (i y : Nat), (∀ b ∈ l, 128 ≤ b.toNat) → scan l i y = none
  | [], _, _, _ => rfl
  | b :: r, i, y, h => by
    rw [scan]
    split
    · rfl
    · rw [if_pos (h b (by simp))]
      exact scan_highs r _ _ fun c hc => h c (by simp [hc])
theorem shortL_highs (x : Nat) : ∀ k, k < (shortL x).length → ∀ b ∈ (shortL x).take k, 128 ≤ b.toNat := by
  induction x using Nat.strongRecOn with
  | _ x ih =>
    intro k hk b hb
    by_cases h : x < 128
    · rw [shortL_last h] at hk hb
      have : k = 0 := by simpa using hk
      subst this
      simp at hb
    · rw [shortL_more h] at hk hb
      cases k with
      | zero => simp at hb
      | succ k =>
        rw [List.take_succ_cons] at hb
        rcases List.mem_cons.1 hb with rfl | hb
        · rw [toNat_lo (by omega)]; omega
        · exact ih (x / 128) (by omega) k (by simpa using hk) b hb
/-- No beginning of a short number is one. -/
theorem parse_cut (x k : Nat) (hk : k < (shortL x).length) : parse ((shortL x).take k) = (0, 0) := by
  unfold parse
  rw [scan_highs _ _ _ (shortL_highs x k hk)]
  rfl

/-! Rows of numbers. -/
theorem shortsL_append (a b : List Nat) : shortsL (a ++ b) = shortsL a ++ shortsL b := by simp [shortsL]
theorem shortsL_cons (x : Nat) (l : List Nat) : shortsL (x :: l) = shortL x ++ shortsL l := by simp [shortsL]
theorem apart_heads {x y : Nat} (hx : x < 18446744073709551616) (hy : y < 18446744073709551616) (hne : x ≠ y) (r s t : List UInt8) : shortL x ++ r ≠ (shortL y ++ s) ++ t := by
  intro e
  have h1 := parse_short hx r
  rw [e, List.append_assoc, parse_short hy] at h1
  simp only [Prod.mk.injEq] at h1
  exact hne h1.1.symm
theorem take_min_eq {a b : List UInt8} (h : a.take (min a.length b.length) = b.take (min a.length b.length)) : (∃ t, b = a ++ t) ∨ ∃ t, a = b ++ t := by
  rcases Nat.le_total a.length b.length with hl | hl
  · rw [Nat.min_eq_left hl, List.take_length] at h
    exact .inl ⟨b.drop a.length, (List.take_append_drop a.length b).symm.trans (by rw [← h])⟩
  · rw [Nat.min_eq_right hl, List.take_length] at h
    exact .inr ⟨a.drop b.length, by rw [← h]; rw [List.length_take, Nat.min_eq_left hl, List.take_append_drop]⟩
/-- Behind what is alike, unlike numbers: neither row's bytes are a beginning of the other's. -/
theorem rows_apart {l m : List Nat} {k : Nat} (hl : ∀ x ∈ l, x < 18446744073709551616) (hm : ∀ x ∈ m, x < 18446744073709551616) (hk : l.take k = m.take k) (h1 : k < l.length) (h2 : k < m.length) (hne : l.getD k 0 ≠ m.getD k 0) :
    ¬ (shortsL l).take (min (shortsL l).length (shortsL m).length) = (shortsL m).take (min (shortsL l).length (shortsL m).length) := by
  have e1 : l = l.take k ++ l.getD k 0 :: l.drop (k + 1) := by
    rw [show l.getD k 0 = l[k] by simp [List.getD, h1], ← List.drop_eq_getElem_cons h1, List.take_append_drop]
  have e2 : m = l.take k ++ m.getD k 0 :: m.drop (k + 1) := by
    rw [hk, show m.getD k 0 = m[k] by simp [List.getD, h2], ← List.drop_eq_getElem_cons h2, List.take_append_drop]
  have hx : l.getD k 0 < 18446744073709551616 := hl _ (by rw [show l.getD k 0 = l[k] by simp [List.getD, h1]]; exact List.getElem_mem h1)
  have hy : m.getD k 0 < 18446744073709551616 := hm _ (by rw [show m.getD k 0 = m[k] by simp [List.getD, h2]]; exact List.getElem_mem h2)
  generalize l.getD k 0 = x at *
  generalize m.getD k 0 = y at *
  generalize l.take k = c at *
  generalize l.drop (k + 1) = r at *
  generalize m.drop (k + 1) = s at *
  subst e1
  subst e2
  intro h
  rw [shortsL_append, shortsL_append, shortsL_cons, shortsL_cons] at h
  rcases take_min_eq h with ⟨t, ht⟩ | ⟨t, ht⟩
  · rw [List.append_assoc] at ht
    exact apart_heads hy hx (Ne.symm hne) _ _ t (List.append_cancel_left ht)
  · rw [List.append_assoc] at ht
    exact apart_heads hx hy hne _ _ t (List.append_cancel_left ht)
theorem shortsL_pos {l : List Nat} (h : l ≠ []) : 0 < (shortsL l).length := by
  cases l with
  | nil => exact absurd rfl h
  | cons x l =>
    rw [shortsL_cons, List.length_append]
    have := shortL_pos x
    omega
theorem shortsL_front (l : List Nat) (k : Nat) : (shortsL l).take (shortsL (l.take k)).length = shortsL (l.take k) ∧ (shortsL (l.take k)).length ≤ (shortsL l).length := by
  have e : shortsL l = shortsL (l.take k) ++ shortsL (l.drop k) := by rw [← shortsL_append, List.take_append_drop]
  constructor
  · rw [e]; exact List.take_left
  · rw [e, List.length_append]; omega
/-- Unlike rows have unlike bytes. -/
theorem rows_eq {l m : List Nat} {k : Nat} (hl : ∀ x ∈ l, x < 18446744073709551616) (hm : ∀ x ∈ m, x < 18446744073709551616) (hk : l.take k = m.take k) (hk1 : k ≤ l.length) (hk2 : k ≤ m.length) (hne : k < l.length → k < m.length → l.getD k 0 ≠ m.getD k 0) :
    (l.length = k ∧ m.length = k) ↔ shortsL l = shortsL m := by
  constructor
  · rintro ⟨h1, h2⟩
    have e1 : l.take k = l := List.take_of_length_le (by omega)
    have e2 : m.take k = m := List.take_of_length_le (by omega)
    rw [← e1, ← e2, hk]
  · intro e
    by_cases h1 : k < l.length
    · by_cases h2 : k < m.length
      · exact absurd (by rw [e]) (rows_apart hl hm hk h1 h2 (hne h1 h2))
      · have e2 : m.take k = m := List.take_of_length_le (by omega)
        have e3 : shortsL l = shortsL m ++ shortsL (l.drop k) := by rw [← e2, ← hk, ← shortsL_append, List.take_append_drop]
        have h4 := shortsL_pos (l := l.drop k) (by intro h; have := congrArg List.length h; rw [List.length_drop] at this; simp at this; omega)
        have := congrArg List.length e
        rw [e3, List.length_append] at this
        omega
    · by_cases h2 : k < m.length
      · have e1 : l.take k = l := List.take_of_length_le (by omega)
        have e3 : shortsL m = shortsL l ++ shortsL (m.drop k) := by rw [← e1, hk, ← shortsL_append, List.take_append_drop]
        have h4 := shortsL_pos (l := m.drop k) (by intro h; have := congrArg List.length h; rw [List.length_drop] at this; simp at this; omega)
        have := congrArg List.length e
        rw [e3, List.length_append] at this
        omega
      · omega
end Go.Proofs.Ytadpbcbgmopfaaa
