/-
  Senders as lists of bodies: which may be, how many are due, which are long. Pure.
-/
import Derived.Test.YtmkkhknbokfciaaQmem
namespace Go.Proofs.Ytmkkhknbokfciaa
open Go.RowKit

/-- A body that may be. -/
abbrev bodyS (l : List UInt8) : Prop := 1 ≤ l.length ∧ l.length ≤ 448
/-- A sender that may be. -/
def mayS (b : Nat) (ls : List (List UInt8)) : Prop := ls.length ≤ 48 ∧ b + ls.length ≤ 34359738367 ∧ ∀ l ∈ ls, bodyS l
instance (b : Nat) (ls : List (List UInt8)) : Decidable (mayS b ls) := inferInstanceAs (Decidable (_ ∧ _))
/-- How many are due. -/
def dueS (b : Nat) (ls : List (List UInt8)) : Nat := if mayS b ls then min ls.length 8 else 0
/-- How much a body weighs. -/
def wgt (l : List UInt8) : Nat := 1 + l.length / 64
def wgts (ls : List (List UInt8)) : Nat := (ls.map wgt).sum
/-- A sender that has more than is looked at. -/
def longS (ls : List (List UInt8)) : Prop := 2000 < wgts ls
instance (ls : List (List UInt8)) : Decidable (longS ls) := inferInstanceAs (Decidable (_ < _))
theorem wgts_nil : wgts [] = 0 := rfl
theorem wgts_append (a b : List (List UInt8)) : wgts (a ++ b) = wgts a + wgts b := by simp [wgts]
theorem wgts_take_le (ls : List (List UInt8)) (k : Nat) : wgts (ls.take k) ≤ wgts ls := by
  have := wgts_append (ls.take k) (ls.drop k)
  rw [List.take_append_drop] at this
  omega
theorem wgts_succ {ls : List (List UInt8)} {k : Nat} (h : k < ls.length) : wgts (ls.take (k + 1)) = wgts (ls.take k) + wgt (bodK ls k) := by
  rw [take_bodK h, wgts_append]
  simp [wgts]
theorem wgts_ge (ls : List (List UInt8)) : ls.length ≤ wgts ls := by
  induction ls with
  | nil => simp [wgts]
  | cons l ls ih =>
    have : wgts (l :: ls) = wgt l + wgts ls := by simp [wgts]
    rw [this, List.length_cons]
    unfold wgt
    omega
theorem wgt_le {ls : List (List UInt8)} {k : Nat} (h : k < ls.length) : wgt (bodK ls k) ≤ wgts ls := by
  have := wgts_succ h
  have := wgts_take_le ls (k + 1)
  omega
/-- What is not long is small. -/
theorem small {ls : List (List UInt8)} (h : ¬ longS ls) : ls.length ≤ 2000 ∧ ∀ k, k < ls.length → (bodK ls k).length ≤ 1000000 := by
  unfold longS at h
  refine ⟨by have := wgts_ge ls; omega, fun k hk => ?_⟩
  have := wgt_le hk
  unfold wgt at this
  omega
/-- Up to the k-th all bodies may be. -/
def okS (ls : List (List UInt8)) (k : Nat) : Prop := ∀ j, j < k → bodyS (bodK ls j)
instance (ls : List (List UInt8)) (k : Nat) : Decidable (okS ls k) := inferInstanceAs (Decidable (∀ j, j < k → bodyS (bodK ls j)))
theorem wrapU {x : Int} (h0 : 0 ≤ x) (h1 : x < 18446744073709551616) : IntKind.u64.wrap x = x := by
  simp [IntKind.wrap, IntKind.bits, IntKind.signed]
  omega
theorem mayS_c {b : Nat} {ls : List (List UInt8)} : mayS b ls ↔ ls.length ≤ 48 ∧ b + ls.length ≤ 34359738367 ∧ okS ls ls.length := by
  unfold mayS okS
  constructor
  · rintro ⟨h1, h2, h3⟩; exact ⟨h1, h2, fun j hj => h3 _ (bodK_mem hj)⟩
  · rintro ⟨h1, h2, h3⟩
    refine ⟨h1, h2, fun l hl => ?_⟩
    obtain ⟨j, hj, rfl⟩ := List.mem_iff_getElem.1 hl
    have := h3 j hj
    simpa [bodK, List.getD, List.getElem?_eq_getElem hj] using this
theorem dueS_le (b : Nat) (ls : List (List UInt8)) : dueS b ls ≤ 8 ∧ dueS b ls ≤ ls.length := by
  unfold dueS
  split <;> omega
theorem dueS_may {b : Nat} {ls : List (List UInt8)} (h : mayS b ls) : dueS b ls = min ls.length 8 := if_pos h
theorem dueS_not {b : Nat} {ls : List (List UInt8)} (h : ¬ mayS b ls) : dueS b ls = 0 := if_neg h
theorem mayS_small {b : Nat} {ls : List (List UInt8)} (h : mayS b ls) : ls.length ≤ 48 ∧ ∀ k, k < ls.length → (bodK ls k).length ≤ 448 := ⟨h.1, fun _ hk => (h.2.2 _ (bodK_mem hk)).2⟩
theorem mayS_take {b : Nat} {ls : List (List UInt8)} (h : mayS b ls) (k : Nat) : mayS b (ls.take k) :=
  ⟨by rw [List.length_take]; have := h.1; omega, by rw [List.length_take]; have := h.2.1; omega, fun l hl => h.2.2 l (List.mem_of_mem_take hl)⟩
end Go.Proofs.Ytmkkhknbokfciaa
