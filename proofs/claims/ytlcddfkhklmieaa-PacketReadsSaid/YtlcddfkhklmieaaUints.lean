/-
  Numbers read one behind the other, and a text: what was written is read; what is read stands there. No condition; nothing here speaks of a program.
-/
import Derived.Test.YtlcddfkhklmieaaGa
import Derived.Test.YtlcddfkhklmieaaGb
namespace Go.Proofs.Ytlcddfkhklmieaa
open Go.RowKit

/-- So many numbers, one behind the other. -/
def uints : Nat → RS → List Nat × RS
  | 0, s => ([], s)
  | k + 1, s => ((uints k s).1 ++ [(rUint (uints k s).2).1], (rUint (uints k s).2).2)
theorem uints_length : ∀ (k : Nat) (s : RS), (uints k s).1.length = k
  | 0, _ => rfl
  | k + 1, s => by simp [uints, uints_length k s]
theorem rUint_lt (s : RS) : (rUint s).1 < 18446744073709551616 := by
  unfold rUint
  split
  · simp
  · exact parse_lt _
theorem uints_u64 : ∀ (k : Nat) (s : RS), AllU64 (uints k s).1
  | 0, _ => fun x h => by simp [uints] at h
  | k + 1, s => fun x h => by
    rw [uints] at h
    rcases List.mem_append.1 h with h | h
    · exact uints_u64 k s x h
    · rw [List.mem_singleton.1 h]; exact rUint_lt _
theorem rUint_wrote {x : Nat} (h : x < 18446744073709551616) (r : List UInt8) : rUint ⟨shortL x ++ r, false⟩ = (x, ⟨r, false⟩) := by
  have hp := parse_short h r
  have hpos : (shortL x).length ≠ 0 := by have := shortL_pos x; omega
  rw [uint_some (by rw [hp]; exact hpos), hp]
  simp
theorem uints_put (l : List Nat) (hu : AllU64 l) (r : List UInt8) : ∀ k, k ≤ l.length → uints k ⟨shortsL l ++ r, false⟩ = (l.take k, ⟨shortsL (l.drop k) ++ r, false⟩)
  | 0, _ => by simp [uints]
  | k + 1, hk => by
    have hk' : k < l.length := by omega
    rw [uints, uints_put l hu r k (by omega)]
    simp only
    have hd : l.drop k = l[k] :: l.drop (k + 1) := List.drop_eq_getElem_cons hk'
    rw [hd, shortsL_cons, List.append_assoc, rUint_wrote (hu _ (List.getElem_mem hk')) _]
    have ht : l.take (k + 1) = l.take k ++ [l[k]] := by rw [List.take_add_one, List.getElem?_eq_getElem hk']; rfl
    rw [ht]

/-! What is read stands there. -/
theorem rUint_form {l : List UInt8} (h : (rUint ⟨l, false⟩).2.bad = false) : l = shortL (rUint ⟨l, false⟩).1 ++ (rUint ⟨l, false⟩).2.l := by
  by_cases hp : (parse l).2 = 0
  · rw [uint_none hp] at h; cases h
  · rw [uint_some hp]
    simp only
    obtain ⟨_, h2⟩ := parse_form l hp
    rw [← h2, List.take_append_drop]
theorem rText_form {l : List UInt8} {m : Int} (h : (rText ⟨l, false⟩ m).2.bad = false) : l = shortL (rText ⟨l, false⟩ m).1.length ++ (rText ⟨l, false⟩ m).1 ++ (rText ⟨l, false⟩ m).2.l ∧ ((rText ⟨l, false⟩ m).1.length : Int) ≤ m := by
  by_cases hp : (parse l).2 = 0 ∨ m < 0 ∨ m < ((parse l).1 : Int) ∨ l.length < (parse l).2 + (parse l).1
  · rw [text_not hp] at h; cases h
  · rw [text_ok hp]
    simp only
    have h0 : (parse l).2 ≠ 0 := fun e => hp (.inl e)
    have h3 : (parse l).2 + (parse l).1 ≤ l.length := by omega
    have hl : ((l.drop (parse l).2).take (parse l).1).length = (parse l).1 := by simp; omega
    obtain ⟨_, h2⟩ := parse_form l h0
    rw [hl, ← h2, List.append_assoc, ← List.drop_drop, List.take_append_drop, List.take_append_drop]
    exact ⟨rfl, by omega⟩
theorem rUint_bad (l : List UInt8) : rUint ⟨l, true⟩ = (0, ⟨l, true⟩) := by simp [rUint]
theorem uints_bad (l : List UInt8) : ∀ k, (uints k ⟨l, true⟩).2 = ⟨l, true⟩
  | 0 => rfl
  | k + 1 => by rw [uints, uints_bad l k, rUint_bad]
theorem uints_form {l : List UInt8} : ∀ k, (uints k ⟨l, false⟩).2.bad = false → l = shortsL (uints k ⟨l, false⟩).1 ++ (uints k ⟨l, false⟩).2.l
  | 0, _ => by simp [uints, shortsL]
  | k + 1, h => by
    rw [uints] at h ⊢
    simp only at h ⊢
    have hb : (uints k ⟨l, false⟩).2.bad = false := by
      cases hb : (uints k ⟨l, false⟩).2.bad with
      | false => rfl
      | true =>
        have e : (uints k ⟨l, false⟩).2 = ⟨(uints k ⟨l, false⟩).2.l, true⟩ := by
          generalize (uints k ⟨l, false⟩).2 = z at hb
          cases z; simp_all
        rw [e, rUint_bad] at h
        cases h
    have e : (uints k ⟨l, false⟩).2 = ⟨(uints k ⟨l, false⟩).2.l, false⟩ := by
      generalize (uints k ⟨l, false⟩).2 = z at hb
      cases z; simp_all
    have h1 := uints_form k hb
    rw [e] at h ⊢
    have h2 := rUint_form h
    rw [shortsL_append, shortsL_cons]
    rw [show shortsL ([] : List Nat) = [] from rfl, List.append_nil, List.append_assoc, ← h2]
    exact h1
end Go.Proofs.Ytlcddfkhklmieaa
