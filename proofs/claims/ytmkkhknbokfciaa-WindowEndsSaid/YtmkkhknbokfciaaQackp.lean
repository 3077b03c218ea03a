/-
  What an acknowledgement answers. Pure.
-/
import Derived.Test.YtmkkhknbokfciaaQres
import Derived.Test.YtmkkhknbokfciaaQseq
namespace Go.Proofs.Ytmkkhknbokfciaa
open Go.RowKit

def ackOk (b : Nat) (ls : List (List UInt8)) (u : Nat) : Prop := b < u ∧ u ≤ b + dueS b ls
instance (b : Nat) (ls : List (List UInt8)) (u : Nat) : Decidable (ackOk b ls u) := inferInstanceAs (Decidable (_ ∧ _))
def ackB (b : Nat) (ls : List (List UInt8)) (u : Nat) : Nat := if ackOk b ls u then u else b
def ackL (b : Nat) (ls : List (List UInt8)) (u : Nat) : List (List UInt8) := if ackOk b ls u then ls.drop (u - b) else ls
/-- What Acked answers. -/
def AckE (w : World) (b : Nat) (ls : List (List UInt8)) (u : Nat) (e : Ending) (w' : World) : Prop :=
  ∃ A' c', e = .returned (.tuple #[.agg #[.int .u64 (ackB b ls u : Nat), .slice A' (ackL b ls u).length c'], .bool (decide (ackOk b ls u))]) ∧ Hid (ORws w' w.heap.size A' (ackL b ls u).length c' (ackL b ls u)) ∧ Hid (Below w.heap.size w w')
theorem ackE_yes {w w' : World} {b u n : Nat} {ls : List (List UInt8)} (h : ackOk b ls u) (hn : ls.length = n) {A' : Option Addr} {c' : Nat} (ho : ORws w' w.heap.size A' (n - (u - b)) c' (ls.drop (u - b))) (hb : Below w.heap.size w w') {e : Ending} (he : e = .returned (.tuple #[.agg #[.int .u64 (u : Nat), .slice A' (n - (u - b)) c'], .bool true])) : AckE w b ls u e w' := by
  have h1 : ackB b ls u = u := if_pos h
  have h2 : ackL b ls u = ls.drop (u - b) := if_pos h
  have h3 : (ls.drop (u - b)).length = n - (u - b) := by rw [List.length_drop, hn]
  exact ⟨A', c', by rw [h1, h2, h3, decide_eq_true h, he], Lib.hid (by rw [h2, h3]; exact ho), Lib.hid hb⟩
theorem ackE_no {w w' : World} {b u n : Nat} {ls : List (List UInt8)} (h : ¬ ackOk b ls u) (hn : ls.length = n) {A' : Option Addr} {c' : Nat} (ho : ORws w' w.heap.size A' n c' ls) (hb : Below w.heap.size w w') {e : Ending} (he : e = .returned (.tuple #[.agg #[.int .u64 (b : Nat), .slice A' n c'], .bool false])) : AckE w b ls u e w' := by
  have h1 : ackB b ls u = b := if_neg h
  have h2 : ackL b ls u = ls := if_neg h
  exact ⟨A', c', by rw [h1, h2, hn, decide_eq_false h, he], Lib.hid (by rw [h2, hn]; exact ho), Lib.hid hb⟩
/-- What the document's answers. -/
def RAckE (w : World) (b : Nat) (ls : List (List UInt8)) (u : Nat) (e : Ending) (w' : World) : Prop :=
  ∃ A' c', e = .returned (.tuple #[.agg #[.int .u64 (ackB b ls u : Nat), .slice A' (ackL b ls u).length c'], .bool (decide (ackOk b ls u))]) ∧ Hid (Rws w' w'.heap.size A' (ackL b ls u)) ∧ Hid (Below w.heap.size w w')
theorem rackE_yes {w w' : World} {b u n : Nat} {ls : List (List UInt8)} (h : ackOk b ls u) (hn : ls.length = n) {A' : Option Addr} {c' : Nat} (ho : Rws w' w'.heap.size A' (ls.drop (u - b))) (hb : Below w.heap.size w w') {e : Ending} (he : e = .returned (.tuple #[.agg #[.int .u64 (u : Nat), .slice A' (n - (u - b)) c'], .bool true])) : RAckE w b ls u e w' := by
  have h1 : ackB b ls u = u := if_pos h
  have h2 : ackL b ls u = ls.drop (u - b) := if_pos h
  have h3 : (ls.drop (u - b)).length = n - (u - b) := by rw [List.length_drop, hn]
  exact ⟨A', c', by rw [h1, h2, h3, decide_eq_true h, he], Lib.hid (by rw [h2]; exact ho), Lib.hid hb⟩
theorem rackE_no {w w' : World} {b u n : Nat} {ls : List (List UInt8)} (h : ¬ ackOk b ls u) (hn : ls.length = n) {A' : Option Addr} {c' : Nat} (ho : Rws w' w'.heap.size A' ls) (hb : Below w.heap.size w w') {e : Ending} (he : e = .returned (.tuple #[.agg #[.int .u64 (b : Nat), .slice A' n c'], .bool false])) : RAckE w b ls u e w' := by
  have h1 : ackB b ls u = b := if_neg h
  have h2 : ackL b ls u = ls := if_neg h
  exact ⟨A', c', by rw [h1, h2, hn, decide_eq_false h, he], Lib.hid (by rw [h2]; exact ho), Lib.hid hb⟩
/-- A slice's address from place k on. -/
def cutA (A : Option Addr) (c k : Nat) : Option Addr := if c = k then A else Option.map (fun x => x.add k) A
theorem cutA_rws {w : World} {B : Nat} {A : Option Addr} {n c k : Nat} {ls : List (List UInt8)} (h : Rws w B A ls) (hn : ls.length = n) (hc : n ≤ c) : Rws w B (cutA A c k) (ls.drop k) := fun hp => by
  rw [List.length_drop, hn] at hp
  obtain ⟨b, off, rfl, _⟩ := h (by omega)
  have : cutA (some ⟨b, off, none⟩) c k = some ⟨b, off + k, none⟩ := by
    unfold cutA
    rw [if_neg (by omega)]
    simp [add_mk]
  rw [this]
  exact h.back k (by rw [List.length_drop, hn]; omega)
end Go.Proofs.Ytmkkhknbokfciaa
