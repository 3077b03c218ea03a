/-
  The statement CodeTexts' walk: whatever texts, none above 2^47 bytes, it answers true, and leaves all that was there as it was.
-/
import Derived.Test.YtelbhlkojpnmgaaDoorReft
namespace Go.Proofs.YtelbhlkojpnmgaaDoor
open Go.RowKit

/-- What a text puts in, and all of them. -/
def textL (s : ByteArray) : List UInt8 := shortL s.size ++ strL s ++ strL s
def textsL (ss : List ByteArray) : List UInt8 := (ss.map textL).flatten
def totL (ss : List ByteArray) : Nat := (ss.map fun s => 100 + s.size).sum
theorem textsL_take (ss : List ByteArray) (k : Nat) (hk : k < ss.length) : textsL (ss.take (k + 1)) = textsL (ss.take k) ++ textL (ss.getD k ByteArray.empty) := by
  unfold textsL
  rw [List.take_add_one, List.getElem?_eq_getElem hk, List.map_append, List.flatten_append]
  simp [List.getD, hk]
theorem totL_take (ss : List ByteArray) (k : Nat) (hk : k < ss.length) : totL (ss.take (k + 1)) = totL (ss.take k) + (100 + (ss.getD k ByteArray.empty).size) := by
  unfold totL
  rw [List.take_add_one, List.getElem?_eq_getElem hk, List.map_append, List.sum_append]
  simp [List.getD, hk]
theorem totL_mono (ss : List ByteArray) (k : Nat) : totL (ss.take k) ≤ totL ss := by
  have h : totL ss = totL (ss.take k) + totL (ss.drop k) := by
    have e := congrArg totL (List.take_append_drop k ss)
    rw [← e]
    unfold totL
    rw [List.map_append, List.sum_append]
  omega
theorem textL_len (s : ByteArray) (h : s.size ≤ 1048576) : (textL s).length ≤ 2 * (100 + s.size) := by
  have h1 := shortL_ten (x := s.size) (by omega)
  have h2 : (strL s).length = s.size := rfl
  unfold textL
  rw [List.length_append, List.length_append, h2]
  omega
theorem textsL_len (ss : List ByteArray) (h : ∀ s ∈ ss, s.size ≤ 1048576) : (textsL ss).length ≤ 2 * totL ss := by
  induction ss with
  | nil => simp [textsL, totL]
  | cons s r ih =>
    have h1 := textL_len s (h s (by simp))
    have h2 := ih (fun x hx => h x (by simp [hx]))
    unfold textsL totL at *
    simp only [List.map_cons, List.flatten_cons, List.length_append, List.sum_cons]
    omega
theorem size_tot (ss : List ByteArray) : ∀ s ∈ ss, 100 + s.size ≤ totL ss := by
  induction ss with
  | nil => intro s hs; cases hs
  | cons x r ih =>
    intro s hs
    unfold totL at *
    simp only [List.map_cons, List.sum_cons]
    rcases List.mem_cons.1 hs with rfl | h
    · omega
    · have := ih s h; omega
theorem getD_in (ss : List ByteArray) (k : Nat) (hk : k < ss.length) : ss.getD k ByteArray.empty ∈ ss := by
  rw [show ss.getD k ByteArray.empty = ss[k] by simp [List.getD, hk]]
  exact List.getElem_mem _


def TotRel (w : World) (ss : List ByteArray) (n i : Value) (wr : World) : Prop :=
  ∃ k, k ≤ ss.length ∧ i = .int .i64 (k : Nat) ∧ n = .int .i64 (totL (ss.take k) : Nat) ∧ wr = w ∧ totL (ss.take k) ≤ 140737488451432
def TextsRel (w : World) (p : Nat) (ss : List ByteArray) (o i : Value) (wr : World) : Prop :=
  ∃ k g, k ≤ ss.length ∧ i = .int .i64 (k : Nat) ∧ o = .string ⟨(textsL (ss.take k)).toArray⟩ ∧ Hid (WS w.heap.size w wr p g (textsL (ss.take k)))
end Go.Proofs.YtelbhlkojpnmgaaDoor
