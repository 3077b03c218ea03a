/-
  What the document's own answer for opening does: of bytes that are sealed it makes what stands ahead of the sum in memory of the call's own; of others it answers none; it leaves all else as it was. For at most 2^20 bytes.
-/
import Derived.Test.YtelbhlkojpnmgaaDoorSrefseal
namespace Go.Proofs.YtelbhlkojpnmgaaDoor
open Go.RowKit

theorem sealed_same (l : List UInt8) (m : Nat) (h : l.length = m + 4) : Crc.sealed l = decide (Crc.seal_ (l.take m) = l) := by
  unfold Crc.sealed Crc.seal_
  rw [decide_eq_true (by omega), Bool.true_and, show l.length - 4 = m by omega, decide_eq_decide]
  constructor
  · intro h1; rw [← h1, List.take_append_drop]
  · intro h1
    have h2 : l.take m ++ l.drop m = l.take m ++ Crc.le4 (Crc.crc (l.take m)) := by rw [List.take_append_drop, h1]
    exact List.append_cancel_left h2

def RefOpenEnds (w : World) (l : List UInt8) (n : Nat) (e : Ending) (w' : World) : Prop :=
  Hid (Below w.heap.size w w') ∧ ((Crc.sealed l = false ∧ e = .returned (.tuple #[.slice none 0 0, .bool false])) ∨
    (Crc.sealed l = true ∧ ∃ A cap, e = .returned (.tuple #[.slice A (n - 4) cap, .bool true]) ∧ Hid (Own8 w' w.heap.size A (n - 4) cap (l.take (n - 4)))))

set_option maxHeartbeats 400000 in
theorem refOpen_short (A : Option Addr) (l : List UInt8) (n cap : Nat) (w : World) (hn : l.length = n) (h4 : n < 4) :
    Calls Tryd.prog 38 #[.slice A n cap] w (RefOpenEnds w l n) := by
  have HS := Lib.hid (show Crc.sealed l = false by unfold Crc.sealed; rw [decide_eq_false (by omega)]; rfl)
  have hd : (n : Int) < 4 := by omega
  clear hn
  go_enter Tryd.func38, Tryd.ntmps38
  go_wp2
  go_ret2
  exact ⟨Lib.hid (Below.refl _ _), .inl ⟨HS.out, rfl⟩⟩

set_option maxHeartbeats 800000 in
theorem refOpen_long (A : Option Addr) (l : List UInt8) (m cap : Nat) (w : World) (hn : l.length = m + 4) (hA : A = none → cap = 0) (hb : Bytes w w.heap.size A l) (hc : m + 4 ≤ cap) (hl : m ≤ 1048576) :
    Calls Tryd.prog 38 #[.slice A (m + 4) cap] w (RefOpenEnds w l (m + 4)) := by
  have HN := Lib.hid hn
  have HA := Lib.hid hA
  have HB := Lib.hid hb
  have HS := Lib.hid (sealed_same l m hn)
  have H1 := Lib.hid (hb.front m)
  have L1 := Lib.hid (show (l.take m).length = m by rw [List.length_take]; omega)
  have L2 := Lib.hid (show (Crc.seal_ (l.take m)).length = m + 4 by rw [Crc.seal_length, List.length_take]; omega)
  clear hb hn hA
  have hd : ¬ (m : Int) + 4 < 4 := by omega
  have b1 : (0 : Int) ≤ (m : Int) := by omega
  have b2 : (m : Int) ≤ (cap : Int) := by omega
  have b3 : (m : Int) ≤ (m : Int) + 4 := by omega
  go_enter Tryd.func38, Tryd.ntmps38
  go_wp2_with fail
  refine (refSeal_any A (l.take m) m cap w L1.out HA.out H1.out (by omega)).mono ?_
  rintro e W1 ⟨A1, cap1, rfl, ho, hb1⟩
  have hB1 : Hid (Bytes W1 W1.heap.size A l) := Lib.hid ((HB.out.below hb1.out).more hb1.out.size)
  by_cases hq : Crc.seal_ (l.take m) = l
  · have HQ := Lib.hid (show Crc.sealed l = true by rw [HS.out]; exact decide_eq_true hq)
    have HQ2 := Lib.hid hq
    clear hq HS
    go_wp2_with fail
    refine (ssame_true A1 A (Crc.seal_ (l.take m)) l (m + 4) (m + 4) cap1 cap W1.heap.size W1 L2.out HN.out ho.out.bytes hB1.out HQ2.out).mono ?_
    rintro e W2 ⟨rfl, rfl⟩
    have h2 := Lib.hid (hB1.out.front m)
    go_wp2_with fail
    refine (copy_any A (l.take m) m cap W1.heap.size W1 L1.out HA.out h2.out (Nat.le_refl _) (by omega)).mono ?_
    rintro e W3 ⟨A3, cap3, rfl, ho3, hb3⟩
    have hb4 : Hid (Below w.heap.size w W3) := Lib.hid (hb1.out.trans (hb3.out.mono hb1.out.size))
    have ho4 : Hid (Own8 W3 w.heap.size A3 m cap3 (l.take m)) := Lib.hid (own8_base ho3.out hb1.out.size)
    clear hb1 hb3 ho3 h2 hB1 ho H1
    go_wp2
    go_ret2
    exact ⟨hb4, .inr ⟨HQ.out, A3, cap3, rfl, ho4⟩⟩
  · have HQ := Lib.hid (show Crc.sealed l = false by rw [HS.out]; exact decide_eq_false hq)
    have HQ2 := Lib.hid hq
    clear hq HS
    go_wp2_with fail
    refine (same_false A1 A (Crc.seal_ (l.take m)) l (m + 4) (m + 4) cap1 cap W1.heap.size W1 L2.out HN.out ho.out.bytes hB1.out HQ2.out).mono ?_
    rintro e W2 ⟨rfl, rfl⟩
    clear ho H1 hB1
    go_wp2
    go_ret2
    exact ⟨hb1, .inl ⟨HQ.out, rfl⟩⟩

theorem refOpen_any (A : Option Addr) (l : List UInt8) (n cap : Nat) (w : World) (hn : l.length = n) (hA : A = none → cap = 0) (hb : Bytes w w.heap.size A l) (hc : n ≤ cap) (hl : n ≤ 1048576) :
    Calls Tryd.prog 38 #[.slice A n cap] w (RefOpenEnds w l n) := by
  rcases Nat.lt_or_ge n 4 with h | h
  · exact refOpen_short A l n cap w hn h
  · obtain ⟨m, rfl⟩ : ∃ m, n = m + 4 := ⟨n - 4, by omega⟩
    exact refOpen_long A l m cap w hn hA hb hc (by omega)
end Go.Proofs.YtelbhlkojpnmgaaDoor
