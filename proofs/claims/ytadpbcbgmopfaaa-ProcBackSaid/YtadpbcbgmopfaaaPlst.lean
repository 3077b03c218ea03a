/-
  Lists of lives as the statements hold them, and what the program's Union, Meet, Minus, Same, Sorted make of them. For lists of at most 2^40 lives.
-/
import Derived.Test.YtadpbcbgmopfaaaPkept
import Derived.Test.YtadpbcbgmopfaaaPunion
namespace Go.Proofs.Ytadpbcbgmopfaaa
set_option maxRecDepth 20000
open Go.RowKit

/-- A slice of at most N lives. -/
structure Lst (W : World) (N : Nat) (A : Option Addr) (n c : Nat) (l : List Life) : Prop where
  lives : Lives W W.heap.size A l
  len : l.length = n
  le : n ≤ N
  cap : A = none → c = 0
theorem Lst.on {W W' : World} {N n c : Nat} {A : Option Addr} {l : List Life} (h : Lst W N A n c l) (hb : Below W.heap.size W W') : Lst W' N A n c l := ⟨h.lives.on hb, h.len, h.le, h.cap⟩
theorem Lst.more {W : World} {N N' n c : Nat} {A : Option Addr} {l : List Life} (h : Lst W N A n c l) (hN : N ≤ N') : Lst W N' A n c l := ⟨h.lives, h.len, Nat.le_trans h.le hN, h.cap⟩
section
variable {W : World} {N1 N2 n1 c1 n2 c2 : Nat} {A1 A2 : Option Addr} {a b : List Life}
theorem sorted_lst (h1 : Lst W N1 A1 n1 c1 a) (hN : N1 ≤ 1099511627776) :
    Calls Try.prog 43 #[.slice A1 n1 c1] W fun e w' => ∃ A' c' m, e = .returned (.slice A' m c') ∧ Hid (Lst w' N1 A' m c' (setL a)) ∧ Hid (Below W.heap.size W w') := by
  refine (sorted_any A1 a n1 c1 W h1.lives h1.len (Nat.le_trans h1.le hN) h1.cap).mono ?_
  rintro e w' ⟨A', c', rfl, hl, hA, hc, hb⟩
  exact ⟨A', c', _, rfl, Lib.hid ⟨hl.out, rfl, Nat.le_trans (setL_length a) (by rw [h1.len]; exact h1.le), hA.out⟩, hb⟩
theorem meet_lst (h1 : Lst W N1 A1 n1 c1 a) (h2 : Lst W N2 A2 n2 c2 b) (hN1 : N1 ≤ 1099511627776) (hN2 : N2 ≤ 1099511627776) :
    Calls Try.prog 55 #[.slice A1 n1 c1, .slice A2 n2 c2] W fun e w' => ∃ A' c' m, e = .returned (.slice A' m c') ∧ Hid (Lst w' N1 A' m c' (meetL a b)) ∧ Hid (Below W.heap.size W w') := by
  refine (meet_any A1 A2 a b n1 n2 c1 c2 W h1.lives h2.lives h1.len h2.len (Nat.le_trans h1.le hN1) (Nat.le_trans h2.le hN2) h1.cap h2.cap).mono ?_
  rintro e w' ⟨A', c', m, rfl, hl, hv, hA, hc, hm, hb⟩
  exact ⟨A', c', m, rfl, Lib.hid ⟨hv.out, hl.out, Nat.le_trans hm.out h1.le, hA.out⟩, hb⟩
theorem minus_lst (h1 : Lst W N1 A1 n1 c1 a) (h2 : Lst W N2 A2 n2 c2 b) (hN1 : N1 ≤ 1099511627776) (hN2 : N2 ≤ 1099511627776) :
    Calls Try.prog 57 #[.slice A1 n1 c1, .slice A2 n2 c2] W fun e w' => ∃ A' c' m, e = .returned (.slice A' m c') ∧ Hid (Lst w' N1 A' m c' (minusL a b)) ∧ Hid (Below W.heap.size W w') := by
  refine (minus_any A1 A2 a b n1 n2 c1 c2 W h1.lives h2.lives h1.len h2.len (Nat.le_trans h1.le hN1) (Nat.le_trans h2.le hN2) h1.cap h2.cap).mono ?_
  rintro e w' ⟨A', c', m, rfl, hl, hv, hA, hc, hm, hb⟩
  exact ⟨A', c', m, rfl, Lib.hid ⟨hv.out, hl.out, Nat.le_trans hm.out h1.le, hA.out⟩, hb⟩
theorem same_lst (h1 : Lst W N1 A1 n1 c1 a) (h2 : Lst W N2 A2 n2 c2 b) (hN1 : N1 ≤ 1099511627776) (hN2 : N2 ≤ 1099511627776) :
    Calls Try.prog 58 #[.slice A1 n1 c1, .slice A2 n2 c2] W fun e w' => e = .returned (.bool (decide (setL a = setL b))) ∧ Hid (Below W.heap.size W w') :=
  same_any A1 A2 a b n1 n2 c1 c2 W h1.lives h2.lives h1.len h2.len (Nat.le_trans h1.le hN1) (Nat.le_trans h2.le hN2) h1.cap h2.cap
theorem same_true (h1 : Lst W N1 A1 n1 c1 a) (h2 : Lst W N2 A2 n2 c2 b) (hN1 : N1 ≤ 1099511627776) (hN2 : N2 ≤ 1099511627776) (he : setL a = setL b) :
    Calls Try.prog 58 #[.slice A1 n1 c1, .slice A2 n2 c2] W fun e w' => e = .returned (.bool true) ∧ Hid (Below W.heap.size W w') := by
  have h := same_lst h1 h2 hN1 hN2
  rwa [decide_eq_true he] at h
theorem lists_two (h1 : Lst W N1 A1 n1 c1 a) (h2 : Lst W N2 A2 n2 c2 b) : ListsP (W.alloc (.cells #[.slice A1 n1 c1, .slice A2 n2 c2] 74)) (W.alloc (.cells #[.slice A1 n1 c1, .slice A2 n2 c2] 74)).heap.size (some ⟨W.heap.size, 0, none⟩) [a, b] := fun _ => by
  have hb : Below W.heap.size W (W.alloc (.cells #[.slice A1 n1 c1, .slice A2 n2 c2] 74)) := (Below.refl _ W).alloc (Nat.le_refl _) _
  refine ⟨_, 0, rfl, by simp, fun k hk => ?_⟩
  have : k = 0 ∨ k = 1 := by simp at hk; omega
  rcases this with rfl | rfl
  · exact ⟨A1, c1, by rw [show (listAt [a, b] 0).length = n1 from h1.len]; exact cell_at_new W _ _ 0 _ rfl, h1.lives.on hb, h1.cap⟩
  · exact ⟨A2, c2, by rw [show (listAt [a, b] 1).length = n2 from h2.len]; exact cell_at_new W _ _ 1 _ rfl, h2.lives.on hb, h2.cap⟩
theorem union_lst (h1 : Lst W N1 A1 n1 c1 a) (h2 : Lst W N2 A2 n2 c2 b) (hN : N1 + N2 ≤ 1099511627776) :
    Calls Try.prog 53 #[.slice (some ⟨W.heap.size, 0, none⟩) 2 2] (W.alloc (.cells #[.slice A1 n1 c1, .slice A2 n2 c2] 74)) fun e w' => ∃ A' c' m, e = .returned (.slice A' m c') ∧ Hid (Lst w' (N1 + N2) A' m c' (setL (a ++ b))) ∧ Hid (Below W.heap.size W w') := by
  have hf : [a, b].flatten = a ++ b := by simp
  have hl : (a ++ b).length ≤ N1 + N2 := by rw [List.length_append, h1.len, h2.len]; have := h1.le; have := h2.le; omega
  refine (union_any (some ⟨W.heap.size, 0, none⟩) [a, b] 2 2 _ (lists_two h1 h2) rfl (by omega) (by rw [hf]; omega)).mono ?_
  rw [hf]
  rintro e w' ⟨A', c', rfl, hv, hA, hc, hb⟩
  exact ⟨A', c', _, rfl, Lib.hid ⟨hv.out, rfl, Nat.le_trans (setL_length _) hl, hA.out⟩, Lib.hid (btr ((Below.refl _ W).alloc (Nat.le_refl _) _) hb.out)⟩
end
theorem lists_three {W : World} {N1 N2 N3 n1 c1 n2 c2 n3 c3 : Nat} {A1 A2 A3 : Option Addr} {a b d : List Life} (h1 : Lst W N1 A1 n1 c1 a) (h2 : Lst W N2 A2 n2 c2 b) (h3 : Lst W N3 A3 n3 c3 d) : ListsP (W.alloc (.cells #[.slice A1 n1 c1, .slice A2 n2 c2, .slice A3 n3 c3] 74)) (W.alloc (.cells #[.slice A1 n1 c1, .slice A2 n2 c2, .slice A3 n3 c3] 74)).heap.size (some ⟨W.heap.size, 0, none⟩) [a, b, d] := fun _ => by
  have hb : Below W.heap.size W (W.alloc (.cells #[.slice A1 n1 c1, .slice A2 n2 c2, .slice A3 n3 c3] 74)) := (Below.refl _ W).alloc (Nat.le_refl _) _
  refine ⟨_, 0, rfl, by simp, fun k hk => ?_⟩
  have : k = 0 ∨ k = 1 ∨ k = 2 := by simp at hk; omega
  rcases this with rfl | rfl | rfl
  · exact ⟨A1, c1, by rw [show (listAt [a, b, d] 0).length = n1 from h1.len]; exact cell_at_new W _ _ 0 _ rfl, h1.lives.on hb, h1.cap⟩
  · exact ⟨A2, c2, by rw [show (listAt [a, b, d] 1).length = n2 from h2.len]; exact cell_at_new W _ _ 1 _ rfl, h2.lives.on hb, h2.cap⟩
  · exact ⟨A3, c3, by rw [show (listAt [a, b, d] 2).length = n3 from h3.len]; exact cell_at_new W _ _ 2 _ rfl, h3.lives.on hb, h3.cap⟩
theorem lists_one {W : World} {N1 n1 c1 : Nat} {A1 : Option Addr} {a : List Life} (h1 : Lst W N1 A1 n1 c1 a) : ListsP (W.alloc (.cells #[.slice A1 n1 c1] 74)) (W.alloc (.cells #[.slice A1 n1 c1] 74)).heap.size (some ⟨W.heap.size, 0, none⟩) [a] := fun _ => by
  have hb : Below W.heap.size W (W.alloc (.cells #[.slice A1 n1 c1] 74)) := (Below.refl _ W).alloc (Nat.le_refl _) _
  refine ⟨_, 0, rfl, by simp, fun k hk => ?_⟩
  obtain rfl : k = 0 := by simpa using hk
  exact ⟨A1, c1, by rw [show (listAt [a] 0).length = n1 from h1.len]; exact cell_at_new W _ _ 0 _ rfl, h1.lives.on hb, h1.cap⟩
theorem light_at {ls : List (List Life)} (h : heavyB ls = false) (k : Nat) (hk : k < ls.length) : (listAt ls k).length ≤ 300 := by
  unfold heavyB at h
  rw [Bool.or_eq_false_iff] at h
  have := of_decide_eq_false h.1
  rcases Nat.lt_or_ge 300 (listAt ls k).length with h2 | h2
  · exact absurd ⟨k, hk, h2⟩ this
  · exact h2
end Go.Proofs.Ytadpbcbgmopfaaa
