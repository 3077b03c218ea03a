/-
  What the document's small helpers do: Same tells whether two slices hold the same bytes; long tells whether there are more than 65,536 of them. Both leave all as it was. No other condition.
-/
import Derived.Test.YtelbhlkojpnmgaaDoorSwords
namespace Go.Proofs.YtelbhlkojpnmgaaDoor
open Go.RowKit

theorem sconv_str {w : World} {B : Nat} {A : Option Addr} {l : List UInt8} (cap : Nat) (h : Bytes w B A l) :
    Sem.run Tryd.prog (convert 23 9 (.slice A l.length cap)) w = .ok (.string ⟨l.toArray⟩) w := by
  rcases A with _ | a
  · have : l = [] := by
      rcases Nat.eq_zero_or_pos l.length with h0 | h0
      · exact List.eq_nil_of_length_eq_zero h0
      · obtain ⟨_, _, e, _⟩ := h h0; cases e
    subst this
    exact run_convert_bytes_nil w 23 5 Tryd.underlying23 Tryd.underlying5 0 cap 9 Tryd.underlying9
  · refine run_convert_bytes_back w 23 9 5 a cap l Tryd.underlying23 Tryd.underlying5 Tryd.underlying9 fun j hj => ?_
    obtain ⟨b, off, e, _, hc⟩ := h (by omega)
    cases e
    rw [add_mk, hc j hj]
    simp [at8, List.getD, hj]

theorem ssame_any (A A' : Option Addr) (l l' : List UInt8) (n n' cap cap' B : Nat) (w : World) (hn : l.length = n) (hn' : l'.length = n') (hb : Bytes w B A l) (hb' : Bytes w B A' l') :
    Calls Tryd.prog 58 #[.slice A n cap, .slice A' n' cap'] w fun e w' => e = .returned (.bool (decide (l = l'))) ∧ w = w' := by
  subst hn hn'
  have h1 := sconv_str cap hb
  have h2 := sconv_str cap' hb'
  have hE : ((⟨l.toArray⟩ : ByteArray).toList == (⟨l'.toArray⟩ : ByteArray).toList) = decide (l = l') := by
    rw [ByteArray.toList_eq, ByteArray.toList_eq, Bool.eq_iff_iff]
    simp
  generalize (⟨l.toArray⟩ : ByteArray) = sa at h1 hE
  generalize (⟨l'.toArray⟩ : ByteArray) = sb at h2 hE
  clear hb hb'
  go_enter Tryd.func58, Tryd.ntmps58
  go_wp2
  go_ret
  exact ⟨rfl, rfl⟩
theorem ssame_true (A A' : Option Addr) (l l' : List UInt8) (n n' cap cap' B : Nat) (w : World) (hn : l.length = n) (hn' : l'.length = n') (hb : Bytes w B A l) (hb' : Bytes w B A' l') (h : l = l') :
    Calls Tryd.prog 58 #[.slice A n cap, .slice A' n' cap'] w fun e w' => e = .returned (.bool true) ∧ w = w' := by
  have h1 := ssame_any A A' l l' n n' cap cap' B w hn hn' hb hb'
  rw [decide_eq_true h] at h1
  exact h1
theorem same_false (A A' : Option Addr) (l l' : List UInt8) (n n' cap cap' B : Nat) (w : World) (hn : l.length = n) (hn' : l'.length = n') (hb : Bytes w B A l) (hb' : Bytes w B A' l') (h : ¬ l = l') :
    Calls Tryd.prog 58 #[.slice A n cap, .slice A' n' cap'] w fun e w' => e = .returned (.bool false) ∧ w = w' := by
  have h1 := ssame_any A A' l l' n n' cap cap' B w hn hn' hb hb'
  rw [decide_eq_false h] at h1
  exact h1
/-- How many bytes rows hold. -/
def total (ls : List (List UInt8)) : Nat := ls.flatten.length
theorem total_succ (ls : List (List UInt8)) (k : Nat) (hk : k < ls.length) : total (ls.take (k + 1)) = total (ls.take k) + (ls.getD k []).length := by
  unfold total
  rw [List.take_add_one, List.getElem?_eq_getElem hk, List.flatten_append, List.length_append]
  simp [List.getD, hk]
theorem total_take_le (ls : List (List UInt8)) (k : Nat) : total (ls.take k) ≤ total ls := by
  have h : total ls = total (ls.take k) + total (ls.drop k) := by
    unfold total
    rw [← List.length_append, ← List.flatten_append, List.take_append_drop]
  omega
def longB (ls : List (List UInt8)) : Bool := decide (65536 < total ls) || decide (4097 < ls.length)

end Go.Proofs.YtelbhlkojpnmgaaDoor
